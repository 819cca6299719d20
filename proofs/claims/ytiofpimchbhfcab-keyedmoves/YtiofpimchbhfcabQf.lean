/- The states of a map, sorted; All. -/
import Derived.Test.YtiofpimchbhfcabQd
import Derived.Test.YtiofpimchbhfcabQe
import Derived.Test.YtiofpimchbhfcabFu
namespace Go.Proofs.Ytiofpimchbhfcab
open Go.RowKit Go.Shelf
open Go.Sort (grow alloc_eq_grow grow_grow putRowK HoldsK size_flatK get_flatK flatK)
open Go.Lib (compareBytes)
set_option linter.unusedVariables false

theorem cmp_ltb : ∀ (a b : List UInt8), compareBytes a b < 0 ↔ a < b
  | [], [] => by simp [compareBytes]
  | [], y :: b => by simp [compareBytes]
  | x :: a, [] => by simp [compareBytes]
  | x :: a, y :: b => by
    unfold compareBytes
    rw [List.cons_lt_cons_iff]
    by_cases h1 : x < y
    · simp [h1]
    · by_cases h2 : y < x
      · have hne : x ≠ y := fun e => by subst e; exact h1 h2
        simp [h1, h2, hne]
      · have he : x = y := by
          have a1 : ¬ x.toNat < y.toNat := h1
          have a2 : ¬ y.toNat < x.toNat := h2
          exact UInt8.toNat_inj.1 (by omega)
        simp [he, cmp_ltb a b]
theorem cmpH_lt (a b : Hd) : cmpH a b < 0 ↔ Ah a b := by
  unfold cmpH orI cmpI Ah
  by_cases h : a.nd = b.nd
  · rw [h]
    simp only [Int.lt_irrefl, if_false, if_true, false_or, true_and]
    exact cmp_ltb _ _
  · by_cases h1 : a.nd < b.nd
    · simp [h1]
    · have h2 : b.nd < a.nd := by omega
      simp [h1, h2, h]
theorem ltH_ah (a b : Hd) : ltH a b = decide (Ah a b) := by
  unfold ltH
  exact decide_eq_decide.2 (cmpH_lt a b)
instance : Inhabited Hd := ⟨hd0⟩
def encN (x : Hd) : List Value := [.int .i64 x.nd, .string x.key, .int .i64 x.a, .int .i64 x.b]
theorem ltN (x y : Hd) : ltOf cmpH x y = decide (Ah x y) := by
  unfold ltOf
  exact decide_eq_decide.2 (cmpH_lt x y)
theorem swoN : Sort.SWO (ltOf cmpH) where
  irrefl x := by rw [ltN]; exact decide_eq_false (Ah.irr x)
  trans x y z h1 h2 := by
    rw [ltN, decide_eq_true_eq] at *
    exact h1.trans h2
  ntrans x y z h1 h2 := by
    rw [ltN, decide_eq_false_iff_not] at *
    intro h
    rcases Ah.tri x y with k | k | k
    · exact h1 k
    · exact h2 (h.left k)
    · exact h2 (k.trans h)
theorem below_sort {α : Type} [Inhabited α] (enc : α → List Value) (k : Nat) (w : World) (blk off m : Nat) (dk : Array α) (os : Array Obj) {B : Nat} (hB : B ≤ blk) (hw : B ≤ w.heap.size) : Below B w (sortWorldK enc k w blk off m dk os) := by
  refine ⟨rfl, rfl, rfl, ?_, fun b hb => ?_⟩
  · exact size_sortWorldK_c enc k w blk off m dk os
  · unfold sortWorldK
    rw [Sort.heap_grow_old _ _ (by show b < (putRowK enc k (Sort.ahead w m) blk off dk).heap.size; unfold putRowK; rw [Sort.size_putRow]; show b < w.heap.size; omega)]
    unfold putRowK Sort.putRow
    show (Sort.mapBlock (Sort.ahead w m) blk _).heap[b]? = w.heap[b]?
    simp only [Sort.mapBlock, Sort.ahead]
    rw [Array.getElem?_modify]
    rw [if_neg (by omega)]
theorem holds_hds {w : World} {B g cap : Nat} {xs : List Hd} (h : w.ownsRow B 29 4 (.slice (some ⟨g, 0, none⟩) xs.length cap) xs.length (hcells xs)) : HoldsK encN 4 w g 0 xs.toArray := by
  intro t ht
  simp only [size_flatK, List.size_toArray] at ht
  rw [get_flatK _ _ _ _ (by simpa using ht)]
  have h3 : t / 4 < xs.length := by omega
  refine ⟨?_, by rw [Nat.zero_add]; exact h.frozenAt t⟩
  rw [Nat.zero_add, h.cellAt t ht]
  have e1 : (xs.toArray)[t / 4]! = xs[t / 4] := by simp [h3]
  rw [e1]
  obtain ⟨l0, l1, l2, l3⟩ := hcells_at xs (t / 4) h3
  have hm : t % 4 = 0 ∨ t % 4 = 1 ∨ t % 4 = 2 ∨ t % 4 = 3 := by omega
  rcases hm with hm | hm | hm | hm
  · rw [hm]
    have et : t = t / 4 * 4 := by omega
    rw [show (hcells xs)[t]? = (hcells xs)[t / 4 * 4]? from by rw [← et], l0]; simp [encN]
  · rw [hm]
    have et : t = t / 4 * 4 + 1 := by omega
    rw [show (hcells xs)[t]? = (hcells xs)[t / 4 * 4 + 1]? from by rw [← et], l1]; simp [encN]
  · rw [hm]
    have et : t = t / 4 * 4 + 2 := by omega
    rw [show (hcells xs)[t]? = (hcells xs)[t / 4 * 4 + 2]? from by rw [← et], l2]; simp [encN]
  · rw [hm]
    have et : t = t / 4 * 4 + 3 := by omega
    rw [show (hcells xs)[t]? = (hcells xs)[t / 4 * 4 + 3]? from by rw [← et], l3]; simp [encN]

set_option maxHeartbeats 2000000 in
theorem sort_any (w : World) (B : Nat) (A : Option Addr) (cap : Nat) (xs : List Hd) (hrow : w.ownsRow B 29 4 (.slice A xs.length cap) xs.length (hcells xs)) (hB : B ≤ w.heap.size) (hlen : xs.length ≤ 1000000000) :
    Calls Try.prog 52 #[.slice A xs.length cap, .func (.func 44) #[] #[]] w fun e w' => e = .returned (.tuple #[]) ∧ (∃ ys : List Hd, ys.Perm xs ∧ ys.Pairwise (fun a b => ¬ Ah b a) ∧ CsAt w' A (hcells ys) ∧ (∀ a, A = some a → a.off = 0 ∧ ∀ i, i < xs.length * 4 → w'.frozen? ⟨a.block, i, none⟩ = false)) ∧ Below B w w' := by
  rcases hrow.2 with ⟨e0, e1⟩ | ⟨g, cap', cur, e0, hgb, hgc, hle, hm, hs, htk⟩
  · have hA : A = none ∧ cap = 0 := by simp only [Value.slice.injEq] at e0; exact ⟨e0.1, e0.2.2⟩
    obtain ⟨rfl, rfl⟩ := hA
    have h0 : xs = [] := List.length_eq_zero_iff.1 e1
    subst h0
    have hc := AnyF.slices_SortFunc_none Try.sortHd none 0 (.func (.func 44) #[] #[]) w
    change Calls Try.prog 52 _ _ _ at hc
    refine hc.mono ?_
    rintro e w' ⟨rfl, rfl⟩
    exact ⟨rfl, ⟨[], List.Perm.refl _, List.Pairwise.nil, .inl rfl, by intro a h; cases h⟩, Below.refl _ _⟩
  · simp only [Value.slice.injEq, true_and] at e0
    obtain ⟨rfl, rfl⟩ := e0
    have hH := holds_hds hrow
    have hgl : g < w.heap.size := (hrow.lt g rfl).2
    have eg : ∀ args w, (callFunc 44 args).run Try.prog w = .ok (.enter 44 args) w := enters_of Try.func44 (by kernel_rfl) rfl
    have hcmp : CmpLays Try.prog 44 #[] encN 4 cmpH g 0 xs.toArray.size w := fun m os dk _ x y => (compare_full x y _).mono fun e w' h => ⟨h.1, h.2.2⟩
    have hc := AnyQ.slices_SortFunc Try.sortHd 4 Try.isAgg29 Try.sizeOf29 encN (fun _ => rfl) (fun x v hv => by
      simp [encN] at hv
      rcases hv with rfl | rfl | rfl | rfl <;> rfl) cmpH swoN 44 #[] g 0 cap xs.toArray w eg hcmp hH hgl (by simp; omega)
    change Calls Try.prog 52 _ _ _ at hc
    simp only [List.size_toArray] at hc
    refine hc.mono ?_
    rintro e w' ⟨rfl, d', m, os, hp, hso, rfl⟩
    obtain ⟨hp1, -, hp3⟩ := hp
    simp only [List.size_toArray] at hp1
    have hperm : d'.toList.Perm xs := by
      have e1 : d'.extract 0 xs.length = d' := by rw [← hp1]; simp
      have e2 : xs.toArray.extract 0 xs.length = xs.toArray := by simp
      rw [e1, e2] at hp3
      simpa using hp3
    have hHd := holdsK_sortWorldK_c encN 4 w g 0 xs.toArray d' m os hH hgl (by simpa using hp1)
    refine ⟨rfl, ⟨d'.toList, hperm, ?_, ?_, ?_⟩, below_sort _ _ w g 0 m d' os hgb hB⟩
    · rw [List.pairwise_iff_getElem]
      intro i j hi hj hij
      have hi' : i < d'.size := by simpa using hi
      have hj' : j < d'.size := by simpa using hj
      have := hso i j (Nat.zero_le _) hij (by omega)
      rw [ltN, decide_eq_false_iff_not] at this
      simp only [getElem!_pos d' i hi', getElem!_pos d' j hj'] at this
      simpa using this
    · refine hds_of (fun i hi => ?_)
      have hi' : i < d'.size := by simpa using hi
      have c0 := (hHd.cell hi' (show 0 < 4 by omega)).1
      have c1 := (hHd.cell hi' (show 1 < 4 by omega)).1
      have c2 := (hHd.cell hi' (show 2 < 4 by omega)).1
      have c3 := (hHd.cell hi' (show 3 < 4 by omega)).1
      simp only [encN, getElem!_pos d' i hi', Nat.zero_add, Nat.add_zero, List.getElem!_cons_zero, List.getElem!_cons_succ] at c0 c1 c2 c3
      simp only [Array.getElem_toList, Nat.zero_add]
      exact ⟨c0, c1, c2, c3⟩
    · intro a ha
      injection ha with ha
      subst ha
      refine ⟨rfl, fun i hi => ?_⟩
      have hi4 : i / 4 < d'.size := by omega
      have := (hHd.cell hi4 (show i % 4 < 4 by omega)).2
      have e : 0 + i / 4 * 4 + i % 4 = i := by omega
      simpa [e, Nat.div_add_mod'] using this

theorem sorted_pure {D0 : DataW Unit} {L : List Hd} {ps : List (List UInt8 × Hd)} {ys : List Hd} (hall : AllOf D0 ps) (hD : MapH D0 L) (hp : ys.Perm (ps.map (·.2))) (hs : ys.Pairwise (fun a b => ¬ Ah b a)) : ys = L := by
  have hone : ∀ p ∈ ps, p.2 ∈ L ∧ plB p.2.nd p.2.key = p.1 := by
    intro p hpm
    have h1 := (hall.2.1 p.1).1 (List.mem_map.2 ⟨p, hpm, rfl⟩)
    obtain ⟨h, hh, e⟩ := (hD.has _).1 h1
    have h2 := hall.2.2.1 p hpm (hdD hd0)
    rw [← e, hD.at_ h hh] at h2
    have e2 := hdD_inj h2
    subst e2
    exact ⟨hh, e⟩
  have hmem : ∀ x, x ∈ ps.map (·.2) ↔ x ∈ L := by
    intro x
    constructor
    · intro hx
      obtain ⟨p, hpm, rfl⟩ := List.mem_map.1 hx
      exact (hone p hpm).1
    · intro hx
      have h1 := (hD.has _).2 ⟨x, hx, rfl⟩
      obtain ⟨p, hpm, hp1⟩ := List.mem_map.1 ((hall.2.1 _).2 h1)
      have h2 := hall.2.2.1 p hpm (hdD hd0)
      rw [hp1, hD.at_ x hx] at h2
      exact List.mem_map.2 ⟨p, hpm, (hdD_inj h2).symm⟩
  have hnd : (ps.map (·.2)).Pairwise (fun a b => ¬ Sm a b) := by
    rw [List.pairwise_map]
    have h1 := List.pairwise_map.1 hall.1
    refine h1.imp_of_mem ?_
    intro p q hpm hqm hne hsm
    apply hne
    rw [← (hone p hpm).2, ← (hone q hqm).2, hsm.1, hsm.2]
  have hys : ys.Pairwise (fun a b => ¬ Sm a b) := (hp.pairwise_iff (fun {a b} h k => h k.symm)).2 hnd
  have hris : RisH ys := by
    refine (hs.and hys).imp ?_
    rintro a b ⟨h3, h4⟩
    rcases Ah.tri a b with h | h | h
    · exact h
    · exact absurd h h4
    · exact absurd h h3
  exact ris_ext hris hD.ris (fun x => by rw [hp.mem_iff, hmem])
theorem collect_pure (Bm b nn : Nat) (D0 : DataW Unit) (L : List Hd) (w : World) (hBm : Bm < w.heap.size) (hm : w.cell? ⟨Bm, 0, none⟩ = some (.map (some b))) (hown : w.ownsMap Try.prog 57 hdR b nn D0) (hn : nn ≤ 1000000000) (hD : MapH D0 L) :
    Calls Try.prog 51 #[.func (.func 53) #[] #[.pointer (some ⟨Bm, 0, none⟩)]] w fun e w' => (∃ (xs : List Hd) (A : Option Addr) (cap : Nat), e = .returned (.slice A xs.length cap) ∧ (∀ ys : List Hd, ys.Perm xs → ys.Pairwise (fun a b => ¬ Ah b a) → ys = L) ∧ xs.length ≤ 1000000000 ∧ w'.ownsRow w.heap.size 29 4 (.slice A xs.length cap) xs.length (hcells xs)) ∧ Below w.heap.size w w' := by
  have hsz := hown.size_le
  refine (collect_any Bm b nn D0 w hBm hm hown (by omega)).mono ?_
  rintro e w' ⟨⟨v, ps, rfl, h1, h2⟩, hb⟩
  obtain ⟨A, cap, rfl⟩ := row_slice h2
  have hk := h1.2.2.2
  exact ⟨⟨_, A, cap, rfl, fun ys hp hs => sorted_pure h1 hD hp hs, by rw [List.length_map]; omega, h2⟩, hb⟩
/-- States behind a slice of their own: nobody else's, and they may be written. -/
structure HsAt (w : World) (B : Nat) (A : Option Addr) (xs : List Hd) : Prop where
  cs : CsAt w A (hcells xs)
  off : ∀ a, A = some a → a.off = 0 ∧ B ≤ a.block ∧ ∀ i, i < xs.length * 4 → w.frozen? ⟨a.block, i, none⟩ = false
set_option maxRecDepth 100000 in
set_option maxHeartbeats 1000000 in
theorem sorted_any (Bm b nn : Nat) (D0 : DataW Unit) (L : List Hd) (w : World) (hBm : Bm < w.heap.size) (hm : w.cell? ⟨Bm, 0, none⟩ = some (.map (some b))) (hown : w.ownsMap Try.prog 57 hdR b nn D0) (hn : nn ≤ 1000000000) (hD : MapH D0 L) :
    Calls Try.prog 42 #[.func (.func 53) #[] #[.pointer (some ⟨Bm, 0, none⟩)], .func (.func 44) #[] #[]] w fun e w' => ∃ A cap, e = .returned (.slice A L.length cap) ∧ HsAt w' w.heap.size A L ∧ L.length ≤ cap ∧ Below w.heap.size w w' := by
  have H := collect_pure Bm b nn D0 L w hBm hm hown hn hD
  clear hm hD hown
  go_enter Try.func42, Try.ntmps42
  go_wp2_with (go_at_call 51; refine H.mono ?_; rintro e w1 ⟨⟨xs, A, cap, rfl, hF, hlen, h2⟩, hb⟩; refine Hid.out ?_)
  refine Lib.hid ?_
  have HS := sort_any w1 w.heap.size A cap xs h2 hb.size hlen
  have HF := Lib.hid hF
  have hcap := (own_cs h2 (hcells_len xs)).2
  have hAb : ∀ a, A = some a → w.heap.size ≤ a.block := fun a ha => by
    subst ha
    rcases h2.2 with ⟨e0, -⟩ | ⟨g, cap', cur, e0, hg, -⟩
    · simp at e0
    · simp only [Value.slice.injEq, Option.some.injEq] at e0
      rw [e0.1]; exact hg
  have HAb := Lib.hid hAb
  clear H h2 hF hAb
  go_wp2_with (go_at_call 52; refine HS.mono ?_; rintro e w2 ⟨rfl, ⟨ys, hp, hs, hc, hz⟩, hb2⟩; refine Hid.out ?_)
  refine Lib.hid ?_
  have ey := HF.out ys hp hs
  have el : xs.length = L.length := by rw [← ey]; exact hp.length_eq.symm
  rw [ey] at hc
  have hH : HsAt w2 w.heap.size A L := ⟨hc, fun a ha => ⟨(hz a ha).1, HAb.out a ha, by rw [← el]; exact (hz a ha).2⟩⟩
  have B2 := hb.trans hb2
  have HEl := Lib.hid el
  have HH := Lib.hid hH
  clear HS HF hp hs el ey hz hH hc HAb
  go_wp2_with fail
  go_ret
  exact ⟨A, cap, by rw [HEl.out]; rfl, HH.out, by rw [← HEl.out]; exact hcap, B2⟩
set_option maxHeartbeats 1000000 in
theorem stsorted_any (w : World) (M : Nat) (L : List Hd) (h : MpAt w M L) (hL : L.length ≤ 1000000) :
    Calls Try.prog 28 #[.map (some M)] w fun e w' => ∃ A cap, e = .returned (.slice A L.length cap) ∧ HsAt w' w.heap.size A L ∧ L.length ≤ cap ∧ Below w.heap.size w w' := by
  obtain ⟨D, h1, h2⟩ := h
  have HV := vals_any M w
  have HS := sorted_any w.heap.size M L.length D L (w.alloc (.cells #[.map (some M)] 50)) (by simp) (by simp) (h1.alloc _) (by omega) h2
  have B1 : Below w.heap.size w (w.alloc (.cells #[.map (some M)] 50)) := (Below.refl _ _).alloc (Nat.le_refl _) _
  clear h1 h2
  go_enter Try.func28, Try.ntmps28
  go_wp2_with (first | (go_at_call 43; refine HV.mono ?_; rintro e u1 ⟨rfl, rfl⟩) | (go_at_call 42; refine HS.mono ?_; rintro e u2 ⟨A2, c2, rfl, hC2, hcap, b2⟩; refine Hid.out ?_))
  refine Lib.hid ?_
  have B2 := below_after b2 B1
  have hH : HsAt u2 w.heap.size A2 L := ⟨hC2.cs, fun a ha => ⟨(hC2.off a ha).1, Nat.le_trans B1.size (hC2.off a ha).2.1, (hC2.off a ha).2.2⟩⟩
  have HH := Lib.hid hH
  clear hH hC2 HV HS b2
  go_wp2_with fail
  go_ret
  exact ⟨A2, c2, rfl, HH.out, hcap, B2⟩
theorem all_any {w : World} {R M : Nat} {L : List Hd} (h : KyAt w R M L) (hL : L.length ≤ 1000000) :
    Calls Try.prog 12 #[.pointer (some ⟨R, 0, none⟩)] w fun e w' => ∃ A cap, e = .returned (.slice A L.length cap) ∧ HsAt w' w.heap.size A L ∧ L.length ≤ cap ∧ Below w.heap.size w w' := by
  have HS := stsorted_any w M L h.mp hL
  have c0 := h.c0
  clear h
  go_enter Try.func12, Try.ntmps12
  go_wp2_with (go_at_call 28; refine HS.mono ?_; rintro e u2 ⟨A2, c2, rfl, hC2, hcap, b2⟩)
  go_ret
  exact ⟨A2, c2, rfl, hC2, hcap, b2⟩
end Go.Proofs.Ytiofpimchbhfcab
