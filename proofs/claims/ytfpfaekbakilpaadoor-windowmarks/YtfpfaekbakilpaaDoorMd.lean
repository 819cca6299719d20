/- leastMarks. -/
import Derived.Test.YtfpfaekbakilpaaDoorMc
import Derived.Laws.EntriesVeiled
namespace Go.Proofs.YtfpfaekbakilpaaDoor
open Go.RowKit
set_option linter.unusedVariables false

theorem Lm.next {B n k : Nat} {slack : Int} {ms : List Int} {wr u : World} (h : Lm B n k slack ms wr) (hs : wr.heap.size = B + 2 + 2 * k) (hk : k < n) (hm : ms.getD k 0 = 0)
    (hu : u.heap = (((wr.alloc (.cells #[.int .i64 slack] 3)).alloc (.cells #[.int .i64 0] 3)).setCell ⟨B + 1, k, none⟩ (clo B k)).heap) : Lm B n (k + 1) slack ms u ∧ u.heap.size = B + 2 + 2 * (k + 1) := by
  have hz : u.heap.size = B + 2 + 2 * (k + 1) := by rw [hu]; simp; omega
  have hold : ∀ i, i < wr.heap.size → i ≠ B + 1 → u.heap[i]? = wr.heap[i]? := fun i hi hne => by
    rw [hu, Below.heap_setCell _ _ _ _ hne, Below.heap_alloc _ _ _ (by simp; omega), Below.heap_alloc _ _ _ hi]
  have hs1 : u.heap[B + 2 + 2 * k]? = some (.cells #[.int .i64 slack] 3 (0, 0)) := by
    rw [hu, Below.heap_setCell _ _ _ _ (by simp; omega), Below.heap_alloc _ _ _ (by simp; omega), ← hs]
    exact alloc_new _ _
  have hm1 : u.heap[B + 3 + 2 * k]? = some (.cells #[.int .i64 0] 3 (0, 0)) := by
    have e : B + 3 + 2 * k = (wr.alloc (.cells #[.int .i64 slack] 3)).heap.size := by simp; omega
    rw [hu, Below.heap_setCell _ _ _ _ (by simp; omega), e]; exact alloc_new _ _
  refine ⟨⟨(hold B (by omega) (by omega)).trans h.mr, ?_, fun i hi => ?_, fun i hi => ?_⟩, hz⟩
  · have had : ((wr.alloc (.cells #[.int .i64 slack] 3)).alloc (.cells #[.int .i64 0] 3)).heap[B + 1]? = _ := ((Below.heap_alloc _ _ _ (by simp; omega)).trans (Below.heap_alloc _ _ _ (by omega))).trans h.ad
    rw [hu, heap_set_same _ _ _ _ _ _ had]
    congr 2
    rw [List.setIfInBounds_toArray, List.set_append_right _ _ (by simp)]
    have e : n - k = (n - (k + 1)) + 1 := by omega
    rw [e, List.replicate_succ, List.range_succ, List.map_append]
    simp
  · rcases Nat.lt_or_ge i k with h1 | h1
    · exact (hold _ (by omega) (by omega)).trans (h.sb i h1)
    · have : i = k := by omega
      subst this; exact hs1
  · rcases Nat.lt_or_ge i k with h1 | h1
    · exact (hold _ (by omega) (by omega)).trans (h.mb i h1)
    · have : i = k := by omega
      subst this; rw [hm]; exact hm1
theorem Lm.step {B n : Nat} {slack : Int} {ms : List Int} {wr u : World} (h : Lm B n n slack ms wr) (hl : ms.length = n) {i : Nat} (hi : i < n) (x : Int)
    (hu : u.heap = ((wr.setCell ⟨B + 3 + 2 * i, 0, none⟩ (.int .i64 x)).setCell ⟨B, i, none⟩ (.int .i64 x)).heap) : Lm B n n slack (ms.set i x) u := by
  have hold : ∀ j, j ≠ B → j ≠ B + 3 + 2 * i → u.heap[j]? = wr.heap[j]? := fun j h1 h2 => by
    rw [hu, Below.heap_setCell _ _ _ _ h1, Below.heap_setCell _ _ _ _ h2]
  refine ⟨?_, (hold _ (by omega) (by omega)).trans h.ad, fun j hj => (hold _ (by omega) (by omega)).trans (h.sb j hj), fun j hj => ?_⟩
  · rw [hu, heap_set_same _ B i (ms.map (Value.int .i64)).toArray _ _ ((Below.heap_setCell _ _ _ _ (by simp; omega)).trans h.mr), List.setIfInBounds_toArray, List.map_set]
  · by_cases hj2 : j = i
    · subst hj2
      rw [hu, Below.heap_setCell _ _ _ _ (by simp; omega), heap_set_same _ _ _ _ _ _ (h.mb j hj)]
      simp [hl, hj]
    · rw [hold _ (by omega) (by omega), h.mb j hj]
      simp [List.getD, Ne.symm hj2]
theorem set_heap {w u : World} (h : u.heap = w.heap) (p : Addr) (v : Value) : (u.setCell p v).heap = (w.setCell p v).heap := by
  unfold World.setCell; simp [h]
theorem row_block {w w' : World} {B e m n : Nat} {v : Value} {xs : List Value} (h : w.ownsRow B e m v n xs) (hb : ∀ g, v.ownBlock = some g → w'.heap[g]? = w.heap[g]?) : w'.ownsRow B e m v n xs := by
  refine ⟨h.1, ?_⟩
  rcases h.2 with h0 | ⟨g, cap, cur, h0, h1, h2, h3⟩
  · exact .inl h0
  · subst h0
    exact .inr ⟨g, cap, cur, rfl, h1, (hb g rfl).trans h2, h3⟩
def insL (L : List Li) : List (List Rg) := L.map (·.l)
theorem cell_one_at (w : World) (q : Nat) (hq : q = w.heap.size) (a : Value) (t : TypeId) : ∀ j u, [a][j]? = some u → (w.alloc (.cells #[a] t)).cell? ((⟨q, 0, none⟩ : Addr).add j) = some u := by
  subst hq
  intro j u hj
  match j, hj with
  | 0, hj => simp at hj; subst hj; simp [Addr.add]
  | n + 1, hj => simp at hj
theorem long_at (L : List Li) (k : Nat) (hk : k < L.length) : longL ((insL L).take (k + 1)) = max (longL ((insL L).take k)) L[k].l.length := by
  rw [longL_take (insL L) k (by simpa [insL] using hk)]
  simp [insL]
theorem turn_yes (slack : Int) (L : List Li) (t : Nat) (S : List Int × List Int) (i : Nat) (hi : i < L.length) (ht : t < L[i].l.length) : mkTurn slack (insL L) t S (i + 1) = mkStep slack (mkTurn slack (insL L) t S i) i L[i].l[t].tm := by
  have e : ((insL L).getD i [])[t]? = some L[i].l[t] := by simp [insL, hi, ht]
  show (match ((insL L).getD i [])[t]? with | some r => mkStep slack (mkTurn slack (insL L) t S i) i r.tm | none => mkTurn slack (insL L) t S i) = _
  rw [e]
theorem turn_no (slack : Int) (L : List Li) (t : Nat) (S : List Int × List Int) (i : Nat) (hi : i < L.length) (ht : ¬ t < L[i].l.length) : mkTurn slack (insL L) t S (i + 1) = mkTurn slack (insL L) t S i := by
  have e : ((insL L).getD i [])[t]? = none := by simp [insL, hi]; omega
  show (match ((insL L).getD i [])[t]? with | some r => mkStep slack (mkTurn slack (insL L) t S i) i r.tm | none => mkTurn slack (insL L) t S i) = _
  rw [e]
theorem rep_getD (n k : Nat) : (List.replicate n (0 : Int)).getD k 0 = 0 := by
  rw [List.getD_eq_getElem?_getD, List.getElem?_replicate]; split <;> rfl
theorem Lm.nil_at {B n k : Nat} {slack : Int} {ms : List Int} {u : World} (h : Lm B n k slack ms u) (hk : k < n) : u.cell? ⟨B + 1, k, none⟩ = some .nilFunc := by
  have e : ((List.range k).map (clo B) ++ List.replicate (n - k) Value.nilFunc)[k]? = some .nilFunc := by
    rw [List.getElem?_append_right (by simp), List.length_map, List.length_range, Nat.sub_self, List.getElem?_replicate, if_pos (by omega)]
  simp only [World.cell?, h.ad, List.getElem?_toArray]
  exact e
theorem Lm.clo_at {B n : Nat} {slack : Int} {ms : List Int} {u : World} (h : Lm B n n slack ms u) {i : Nat} (hi : i < n) : u.cell? ⟨B + 1, i, none⟩ = some (.func (.func 31) #[] #[.pointer (some ⟨B + 3 + 2 * i, 0, none⟩), .pointer (some ⟨B + 2 + 2 * i, 0, none⟩)]) := by
  simp [World.cell?, h.ad, hi, clo]
theorem Lm.mark_at {B n k : Nat} {slack : Int} {ms : List Int} {u : World} (h : Lm B n k slack ms u) {i : Nat} (hi : i < ms.length) : u.cell? ⟨B, i, none⟩ = some (.int .i64 ms[i]) ∧ u.frozen? ⟨B, i, none⟩ = false := by
  simp [World.cell?, World.frozen?, h.mr, hi]
set_option maxRecDepth 100000 in
set_option maxHeartbeats 4000000 in
theorem least_any (w : World) (la : Option Addr) (c : Nat) (L : List Li) (slack : Int) (h : CsAt w la (L.map liV)) (hr : ∀ x ∈ L, CsAt w x.at_ (rcells x.l)) (hL : L.length ≤ 4) (hx : ∀ x ∈ L, x.l.length ≤ 400 ∧ ∀ r ∈ x.l, 0 ≤ r.tm ∧ r.tm ≤ 1000000) (k0 : 0 ≤ slack) (k1 : slack ≤ 1000000) :
    Calls Tryd.prog 29 #[.slice la L.length c, .int .i64 slack] w fun e w' => ∃ A cap, e = .returned (.slice A (leastP slack (insL L)).length cap) ∧ CsAt w' A ((leastP slack (insL L)).map (Value.int .i64)) ∧ Below w.heap.size w w' := by
  have hmi := fun u => make_i u L.length (by omega)
  have hmf := fun u => make_f u L.length (by omega)
  have HMK := fun u => newMark_any slack u
  obtain ⟨i0, hi, hz0, hz1, hz2⟩ := info_parts infoZ
  have hst : Lm w.heap.size L.length 0 slack (List.replicate L.length 0) ((w.alloc (.cells (List.replicate L.length (Value.int .i64 0)).toArray 3)).alloc (.cells (List.replicate L.length Value.nilFunc).toArray 55)) := by
    refine ⟨?_, ?_, fun i hi => by omega, fun i hi => by omega⟩
    · rw [Below.heap_alloc _ _ _ (by simp), alloc_new]; simp
    · have e : w.heap.size + 1 = (w.alloc (.cells (List.replicate L.length (Value.int .i64 0)).toArray 3)).heap.size := by simp
      rw [e, alloc_new]; simp
  have HST := Lib.hid hst
  have hB2 : Below w.heap.size w ((w.alloc (.cells (List.replicate L.length (Value.int .i64 0)).toArray 3)).alloc (.cells (List.replicate L.length Value.nilFunc).toArray 55)) := ((Below.refl _ _).alloc (Nat.le_refl _) _).alloc (by simp) _
  have HB2 := Lib.hid hB2
  have hlt := long_at L
  have hlle : ∀ k, longL ((insL L).take k) ≤ 400 := fun k => longL_le _ 400 (fun l hl => by
    obtain ⟨x, hx', rfl⟩ := List.mem_map.1 (List.mem_of_mem_take hl)
    exact (hx x hx').1)
  have hty := fun t S => turn_yes slack L t S
  have htn := fun t S => turn_no slack L t S
  have hal := mkAll_len slack (insL L)
  have htl := fun t S => mkTurn_len slack (insL L) t S
  have hil : (insL L).length = L.length := by simp [insL]
  rw [hil] at hal
  have has : ∀ t, mkAll slack (insL L) (t + 1) = mkTurn slack (insL L) t (mkAll slack (insL L) t) L.length := fun t => by show mkTurn slack (insL L) t (mkAll slack (insL L) t) (insL L).length = _; rw [hil]
  have ha0 : mkAll slack (insL L) 0 = (List.replicate L.length 0, []) := by show (List.replicate (insL L).length 0, []) = _; rw [hil]
  have hfin : leastP slack (insL L) = (mkAll slack (insL L) (longL ((insL L).take L.length))).2 := by
    unfold leastP; rw [List.take_of_length_le (by omega)]
  have hl0 : longL ((insL L).take 0) = 0 := rfl
  have ht0 : ∀ t S, mkTurn slack (insL L) t S 0 = S := fun _ _ => rfl
  have H := Lib.hid h
  have HR := Lib.hid hr
  have HX := Lib.hid hx
  have HLT := Lib.hid hlt
  have HLL := Lib.hid hlle
  have HTY := Lib.hid hty
  have HTN := Lib.hid htn
  have HAL := Lib.hid hal
  have HTL := Lib.hid htl
  have HAS := Lib.hid has
  have HA0 := Lib.hid ha0
  have HFI := Lib.hid hfin
  have HL0 := Lib.hid hl0
  have HT0 := Lib.hid ht0
  clear hst hB2 h hr hx hlt hlle hil hty htn hal htl has ha0 hfin hl0 ht0
  generalize leastP slack (insL L) = FP at *
  generalize mkAll slack (insL L) = MA at *
  generalize mkTurn slack (insL L) = MT at *
  generalize hLO : (fun k => longL ((insL L).take k)) = LO at *
  have hLO' : ∀ k, longL ((insL L).take k) = LO k := fun k => by rw [← hLO]
  simp only [hLO'] at HLT HLL HFI HL0
  clear hLO hLO'
  go_enter Tryd.func29, Tryd.ntmps29
  go_wp2_with fail
  go_loopw [7, 22] (fun m i wr => ∃ k : Nat, k ≤ L.length ∧ i = .int .i64 k ∧ m = .int .i64 (LO k : Nat) ∧ Lm w.heap.size L.length k slack (List.replicate L.length 0) wr ∧ wr.heap.size = w.heap.size + 2 + 2 * k ∧ Below w.heap.size w wr) (fun _ i _ => L.length - (intOf i).toNat)
  case atStart => exact ⟨0, by omega, rfl, by rw [HL0.out]; rfl, HST.out, by simp, HB2.out⟩
  case round =>
    obtain ⟨k, hk, rfl, rfl, hm, hsz, hb⟩ := hrel
    have q1 := HLL.out k
    by_cases hlt : k < L.length
    · obtain ⟨b, o, rfl, c0⟩ := lis_at (H.out.keep hb) k hlt
      have hx1 := (HX.out _ (List.getElem_mem hlt)).1
      have hlo := HLT.out k hlt
      have HLO := Lib.hid hlo
      have hnx := fun u => hm.next (u := u) hsz hlt (rep_getD _ _)
      have HNX := Lib.hid hnx
      have cA := hm.nil_at hlt
      have fA : wr.frozen? ⟨w.heap.size + 1, k, none⟩ = false := by simp [World.frozen?, hm.ad]
      have HN := HMK wr
      have hBl : w.heap.size + 1 < wr.heap.size := by omega
      have hbs := hb.size
      rw [hsz] at HN
      have e3 : w.heap.size + 2 + 2 * k + 1 = w.heap.size + 3 + 2 * k := by omega
      rw [e3] at HN
      have HSZ := Lib.hid hsz
      simp only [liV] at c0
      generalize L[k].l.length = m at *
      clear hlo hm hnx e3 hsz
      by_cases hmx : (LO k : Int) < (m : Int)
      · have eM : max (LO k) m = m := by omega
        have HE := Lib.hid eM
        clear eM
        go_wp2_with (go_at_call 20; refine HN.mono ?_; rintro e u1 ⟨rfl, rfl⟩; refine Hid.out ?_)
        refine Lib.hid ?_
        have cA9 : ((wr.alloc (.cells #[.int .i64 slack] 3)).alloc (.cells #[.int .i64 0] 3)).cell? ⟨w.heap.size + 1, k, none⟩ = some .nilFunc := by
          rw [World.cell?_of_block (w := wr) ((Below.heap_alloc _ _ _ (by simp; omega)).trans (Below.heap_alloc _ _ _ hBl))]; exact cA
        have fA9 : ((wr.alloc (.cells #[.int .i64 slack] 3)).alloc (.cells #[.int .i64 0] 3)).frozen? ⟨w.heap.size + 1, k, none⟩ = false := by
          rw [World.frozen?_of_block (w := wr) ((Below.heap_alloc _ _ _ (by simp; omega)).trans (Below.heap_alloc _ _ _ hBl))]; exact fA
        have hb9 : Below w.heap.size w ((wr.alloc (.cells #[.int .i64 slack] 3)).alloc (.cells #[.int .i64 0] 3)) := (hb.alloc hbs _).alloc (by simp; omega) _
        generalize (wr.alloc (.cells #[.int .i64 slack] 3)).alloc (.cells #[.int .i64 0] 3) = W9 at *
        clear cA fA
        go_wp2_with fail
        all_goals
          go_roundw
          case rel =>
            obtain ⟨z1, z2⟩ := HNX.out _ rfl
            exact ⟨k + 1, by omega, by go_num, by rw [HLO.out]; exact congrArg _ (by omega), z1, z2, hb9.setCell (by simp) _⟩
          case measure => simp [intOf]; omega
      · have eM : max (LO k) m = LO k := by omega
        have HE := Lib.hid eM
        clear eM
        go_wp2_with (go_at_call 20; refine HN.mono ?_; rintro e u1 ⟨rfl, rfl⟩; refine Hid.out ?_)
        refine Lib.hid ?_
        have cA9 : ((wr.alloc (.cells #[.int .i64 slack] 3)).alloc (.cells #[.int .i64 0] 3)).cell? ⟨w.heap.size + 1, k, none⟩ = some .nilFunc := by
          rw [World.cell?_of_block (w := wr) ((Below.heap_alloc _ _ _ (by simp; omega)).trans (Below.heap_alloc _ _ _ hBl))]; exact cA
        have fA9 : ((wr.alloc (.cells #[.int .i64 slack] 3)).alloc (.cells #[.int .i64 0] 3)).frozen? ⟨w.heap.size + 1, k, none⟩ = false := by
          rw [World.frozen?_of_block (w := wr) ((Below.heap_alloc _ _ _ (by simp; omega)).trans (Below.heap_alloc _ _ _ hBl))]; exact fA
        have hb9 : Below w.heap.size w ((wr.alloc (.cells #[.int .i64 slack] 3)).alloc (.cells #[.int .i64 0] 3)) := (hb.alloc hbs _).alloc (by simp; omega) _
        generalize (wr.alloc (.cells #[.int .i64 slack] 3)).alloc (.cells #[.int .i64 0] 3) = W9 at *
        clear cA fA
        go_wp2_with fail
        all_goals
          go_roundw
          case rel =>
            obtain ⟨z1, z2⟩ := HNX.out _ rfl
            exact ⟨k + 1, by omega, by go_num, by rw [HLO.out]; exact congrArg _ (by omega), z1, z2, hb9.setCell (by simp) _⟩
          case measure => simp [intOf]; omega
    · have ek : k = L.length := by omega
      subst ek
      have hBz := hb.size
      have hbase : w.heap.size + 2 + 2 * L.length ≤ wr.heap.size := by omega
      generalize hLG : LO L.length = LG at *
      have HLG := Lib.hid hLG
      have HM := Lib.hid hm
      clear hLG hm hsz HMK hmi hmf
      generalize wr = W1 at *
      go_wp2_with fail
      go_loopw [10, 38] (fun v i wr => ∃ t : Nat, t ≤ LG ∧ i = .int .i64 t ∧ wr.ownsRow (w.heap.size + 2 + 2 * L.length) 3 1 v (MA t).2.length ((MA t).2.map (Value.int .i64)) ∧ Lm w.heap.size L.length L.length slack (MA t).1 wr ∧ w.heap.size + 2 + 2 * L.length ≤ wr.heap.size ∧ Below w.heap.size w wr) (fun _ i _ => LG - (intOf i).toNat)
      case atStart => exact ⟨0, by omega, rfl, by rw [HA0.out]; exact World.ownsRow_nil _ _ _ _, by rw [HA0.out]; exact HM.out, hbase, hb⟩
      case round =>
        obtain ⟨t, ht, rfl, hown, hm, hbz, hb2⟩ := hrel
        by_cases htl : t < LG
        · have hS0 := HT0.out t (MA t)
          have HOW := Lib.hid hown
          have HMm := Lib.hid hm
          have hal := HAL.out t
          have HALt := Lib.hid hal
          have hat := HAS.out t
          have HAT := Lib.hid hat
          have HS0 := Lib.hid hS0
          clear hown hm hal hat hS0
          generalize wr = W2 at *
          go_wp2_with fail
          go_loopw [10, 43] (fun v i wr => ∃ a : Nat, a ≤ L.length ∧ i = .int .i64 a ∧ wr.ownsRow (w.heap.size + 2 + 2 * L.length) 3 1 v (MT t (MA t) a).2.length ((MT t (MA t) a).2.map (Value.int .i64)) ∧ Lm w.heap.size L.length L.length slack (MT t (MA t) a).1 wr ∧ w.heap.size + 2 + 2 * L.length ≤ wr.heap.size ∧ Below w.heap.size w wr) (fun _ i _ => L.length - (intOf i).toNat)
          case atStart => exact ⟨0, by omega, rfl, by rw [HS0.out]; exact HOW.out, by rw [HS0.out]; exact HMm.out, hbz, hb2⟩
          case round =>
            obtain ⟨a, ha, rfl, hown, hm, hbz3, hb3⟩ := hrel
            by_cases hal : a < L.length
            · obtain ⟨b, o, rfl, c0⟩ := lis_at (H.out.keep hb3) a hal
              have hrr := HR.out _ (List.getElem_mem hal)
              obtain ⟨hx1, hx2⟩ := HX.out _ (List.getElem_mem hal)
              have hty := HTY.out t (MA t) a hal
              have htn := HTN.out t (MA t) a hal
              have htl2 := HTL.out t (MA t) a
              have hlen1 : (MT t (MA t) a).1.length = L.length := htl2.1.trans HALt.out.1
              have hlen2 : (MT t (MA t) a).2.length ≤ 1604 := by
                have := HALt.out.2
                have h4 : t * L.length ≤ t * 4 := Nat.mul_le_mul_left _ hL
                have := HLL.out L.length
                have := HLG.out
                omega
              simp only [liV] at c0
              by_cases htt : t < L[a].l.length
              · have hst := hty htt
                obtain ⟨b2, o2, ea, d0, d1, d2⟩ := rcs_at (hrr.keep hb3) t htt
                obtain ⟨t0, t1⟩ := hx2 _ (List.getElem_mem htt)
                have cC := hm.clo_at hal
                have hmb := hm.mb a hal
                have hsb := hm.sb a hal
                obtain ⟨cM, fM⟩ := hm.mark_at (i := a) (by rw [hlen1]; exact hal)
                have hmr := hm.mr
                unfold mkStep at hst
                have hgd : (MT t (MA t) a).1.getD a 0 = (MT t (MA t) a).1[a]'(by rw [hlen1]; exact hal) := by simp [hlen1, hal]
                rw [hgd] at hmb hst
                have hrow := hown.lt
                have HStep := Lib.hid (fun (u : World) x => hm.step (u := u) hlen1 hal x)
                have htm : (L[a].l[t]).tm = (L[a].l[t]).tm := rfl
                generalize hms : (MT t (MA t) a).1[a]'(by rw [hlen1]; exact hal) = m0 at *
                generalize hTM : (L[a].l[t]).tm = tm at *
                generalize hX : max m0 (tm - slack) = X at *
                have htt' : (t : Int) < (L[a].l.length : Int) := by omega
                have HKm : ∀ u : World, u.heap = wr.heap → Below w.heap.size w u → Calls Tryd.prog 31 #[.int .i64 tm, .pointer (some ⟨w.heap.size + 3 + 2 * a, 0, none⟩), .pointer (some ⟨w.heap.size + 2 + 2 * a, 0, none⟩)] u fun e w' => e = .returned (.int .i64 X) ∧ w'.cell? ⟨w.heap.size, a, none⟩ = some (.int .i64 m0) ∧ w'.frozen? ⟨w.heap.size, a, none⟩ = false ∧ Hid (w'.heap = (wr.setCell ⟨w.heap.size + 3 + 2 * a, 0, none⟩ (.int .i64 X)).heap) ∧ Below w.heap.size w w' := fun u hu hbu => by
                  refine (mark_any u (w.heap.size + 3 + 2 * a) (w.heap.size + 2 + 2 * a) m0 slack tm (by rw [hu]; exact hmb) (by rw [hu]; exact hsb) (by omega) t0 t1 k0 k1).mono ?_
                  rintro e w' ⟨rfl, rfl⟩
                  rw [hX]
                  have hbk : (u.setCell ⟨w.heap.size + 3 + 2 * a, 0, none⟩ (.int .i64 X)).heap[w.heap.size]? = wr.heap[w.heap.size]? := by
                    rw [Below.heap_setCell _ _ _ _ (by simp; omega), hu]
                  refine ⟨rfl, ?_, ?_, Lib.hid (set_heap hu _ _), hbu.setCell (by simp; omega) _⟩
                  · rw [World.cell?_of_block (w := wr) hbk]; exact cM
                  · rw [World.frozen?_of_block (w := wr) hbk]; exact fM
                have HSt := Lib.hid hst
                have HOW2 := Lib.hid hown
                have HRW := Lib.hid hrow
                have lb2 := cell_lt d2
                have hBw : w.heap.size < wr.heap.size := by omega
                have hBw1 : w.heap.size + 1 < wr.heap.size := by omega
                have HEA := Lib.hid ea
                rw [ea] at c0
                clear hst hown hm hty htn htl2 hrr hx2 hmb hsb hmr cM fM hgd htm hrow ea d0 d1 hTM hms hX
                go_wp2_with fail
                go_region_with (go_at_call 31; refine (HKm _ (by rfl) (by repeat (first | with_reducible exact hb3 | with_reducible refine Below.drew ?_))).mono ?_; rintro e u3 ⟨rfl, g0, g1, HH3, hbu3⟩)
                all_goals
                  have hW : (u3.setCell ⟨w.heap.size, a, none⟩ (.int .i64 X)).heap = ((wr.setCell ⟨w.heap.size + 3 + 2 * a, 0, none⟩ (.int .i64 X)).setCell ⟨w.heap.size, a, none⟩ (.int .i64 X)).heap := set_heap HH3.out _ _
                  have hLm := HStep.out _ X hW
                  have hOw := row_block (w' := u3.setCell ⟨w.heap.size, a, none⟩ (.int .i64 X)) HOW2.out (fun g hg => by
                    have := (HRW.out g hg).1
                    rw [hW, Below.heap_setCell _ _ _ _ (by simp; omega), Below.heap_setCell _ _ _ _ (by simp; omega)])
                  have hbW : Below w.heap.size w (u3.setCell ⟨w.heap.size, a, none⟩ (.int .i64 X)) := hbu3.setCell (by simp) _
                  have hsW : w.heap.size + 2 + 2 * L.length ≤ (u3.setCell ⟨w.heap.size, a, none⟩ (.int .i64 X)).heap.size := by rw [hW]; simpa using hbz3
                  have hsl : ((MT t (MA t) a).1.set a X).length = L.length := by simp [hlen1]
                  have HMn := min_any (u3.setCell ⟨w.heap.size, a, none⟩ (.int .i64 X)) w.heap.size L.length ((MT t (MA t) a).1.set a X) (by omega) (by omega) (fun j hj => (hLm.mark_at hj).1)
                  rw [hsl] at HMn
                  have HLm := Lib.hid hLm
                  generalize u3.setCell ⟨w.heap.size, a, none⟩ (.int .i64 X) = W3 at *
                  clear hW hLm hsl g0 g1 HH3 hbu3 HStep HOW2 HRW cC d2 HKm hlen1
                  generalize minL ((MT t (MA t) a).1.set a X) = mn at *
                  go_wp2_with (go_at_call 43; refine HMn.mono ?_; rintro e u4 ⟨rfl, rfl⟩; refine Hid.out ?_)
                  refine Lib.hid ?_
                  go_wp2_with (at_builtin; refine wpList_append_own _ rfl _ _ 38 rfl (w.heap.size + 2 + 2 * L.length) 3 i0 (.int .i64 0) 1 8 Tryd.underlying38 hi hz0 hz1 hz2 rfl (by decide) _ _ _ rfl (hOw.alloc _) ⟨W3.heap.size, 0, none⟩ 1 1 [.int .i64 mn] rfl rfl (cell_one_at _ _ rfl _ _) (by intro u hu; simp at hu; subst hu; rfl) (by unfold maxLen; omega) (by omega) (by simp; omega) ?_)
                  intro v' w5 hown' hgrow _
                  have hbase5 : Below (w.heap.size + 2 + 2 * L.length) W3 w5 := ((Below.refl _ _).alloc hsW _).grown hgrow (by simp; omega) (fun k hk => by have := (hOw.lt k hk).1; omega)
                  have hb5 : Below w.heap.size w w5 := hbW.trans (hbase5.mono (by omega))
                  have HLm5 := Lib.hid (HLm.out.keep hbase5)
                  have HO5 : Hid (w5.ownsRow (w.heap.size + 2 + 2 * L.length) 3 1 v' (MT t (MA t) (a + 1)).2.length ((MT t (MA t) (a + 1)).2.map (Value.int .i64))) := by
                    rw [HSt.out]; simp only [List.length_append, List.map_append, List.length_cons, List.length_nil, List.map_cons, List.map_nil]; exact Lib.hid hown'
                  have hs5 : w.heap.size + 2 + 2 * L.length ≤ w5.heap.size := Nat.le_trans hsW hbase5.size
                  clear hown' hgrow hOw hbase5 HMn HLm hbW hsW
                  go_wp2_with fail
                  go_roundw
                  case rel => exact ⟨a + 1, by omega, by go_num, HO5.out, by rw [HSt.out]; exact HLm5.out, hs5, hb5⟩
                  case measure => simp [intOf]; omega
              · have hst := htn htt
                have HSt := Lib.hid hst
                have HOW2 := Lib.hid hown
                have HMm2 := Lib.hid hm
                have htt' : ¬ (t : Int) < (L[a].l.length : Int) := by omega
                clear hst hown hm hty htn htl2 hlen1 hlen2 hrr hx2
                generalize L[a].l.length = m at *
                go_wp2_with fail
                go_roundw
                case rel => exact ⟨a + 1, by omega, by go_num, by rw [HSt.out]; exact HOW2.out, by rw [HSt.out]; exact HMm2.out, hbz3, hb3⟩
                case measure => simp [intOf]; omega
            · have ea : a = L.length := by omega
              subst ea
              have HOW2 := Lib.hid hown
              have HMm2 := Lib.hid hm
              clear hown hm
              go_wp2_with fail
              go_roundw
              case rel => exact ⟨t + 1, by omega, by go_num, by rw [HAT.out]; exact HOW2.out, by rw [HAT.out]; exact HMm2.out, hbz3, hb3⟩
              case measure => simp [intOf]; omega
        · have et : t = LG := by omega
          subst et
          have hfi := HFI.out
          rw [← hfi] at hown
          obtain ⟨A5, c5, rfl⟩ := row_slice hown
          have HCS5 := Lib.hid (own_cs hown (by simp)).1
          clear hown hm hfi
          go_wp2_with fail
          go_ret
          exact ⟨A5, c5, rfl, HCS5.out, hb2⟩
end Go.Proofs.YtfpfaekbakilpaaDoor
