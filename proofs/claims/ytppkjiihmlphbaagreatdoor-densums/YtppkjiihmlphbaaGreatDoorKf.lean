/- atWork, handOn. -/
import Derived.Test.YtppkjiihmlphbaaGreatDoorKe
import Derived.Laws.AppendOwnNone
namespace Go.Proofs.YtppkjiihmlphbaaGreatDoor
open Go.RowKit
set_option linter.unusedVariables false

theorem cell_new (w : World) (cs : Array Value) (t : TypeId) {i : Nat} {v : Value} (h : cs[i]? = some v) : (w.alloc (.cells cs t)).cell? ⟨w.heap.size, i, none⟩ = some v := by
  have e : (w.alloc (.cells cs t)).heap[w.heap.size]? = some (.cells cs t) := by show (w.heap.push _)[w.heap.size]? = _; simp
  generalize w.alloc (.cells cs t) = w' at e
  simp [World.cell?, e, h]

set_option maxRecDepth 100000 in
theorem atWork_any (nd : Nd) (fa : Option Addr) (fc : Nat) (w : World) :
    Calls Tryz.prog 37 #[ndV nd fa fc] w fun e w' => e = .returned (.func (.func 46) #[] #[.pointer (some ⟨w.heap.size + 1 + 1, 0, none⟩), .pointer (some ⟨w.heap.size, 0, none⟩)]) ∧
      WkAt w' (w.heap.size + 1 + 1) w.heap.size (w.heap.size + 1) 0 nd fa fc (fun _ => none) ∧ Below w.heap.size w w' ∧ w'.heap.size = w.heap.size + 1 + 1 + 1 := by
  have hmm := @run_makeMap Tryz.prog
  obtain ⟨k, fs, tx, nn⟩ := nd
  simp only [ndV]
  go_enter Tryz.func37, Tryz.ntmps37
  go_wp2
  go_ret
  have hown : ((((w.alloc (.cells #[.int .i64 k, .slice fa fs.length fc, .string tx, .int .i64 nn] 26)).alloc (.map #[] 0)).alloc (.cells #[.map (some (w.heap.size + 1))] 92))).ownsMap Tryz.prog 9 hdR (w.heap.size + 1) 0 (.map []) := by
    have := (World.ownsMap_made (w.alloc (.cells #[.int .i64 k, .slice fa fs.length fc, .string tx, .int .i64 nn] 26)) Tryz.prog 9 hdR).alloc (.cells #[.map (some (w.heap.size + 1))] 92)
    rw [World.size_alloc] at this; exact this
  have hn : ∀ (i : Nat) (v : Value), #[Value.int .i64 k, .slice fa fs.length fc, .string tx, .int .i64 nn][i]? = some v → ((((w.alloc (.cells #[.int .i64 k, .slice fa fs.length fc, .string tx, .int .i64 nn] 26)).alloc (.map #[] 0)).alloc (.cells #[.map (some (w.heap.size + 1))] 92))).cell? ⟨w.heap.size, i, none⟩ = some v := fun i v h =>
    Keeps.alloc _ _ _ _ (Keeps.alloc _ _ _ _ (cell_new w _ _ h))
  have hs := cell_new ((w.alloc (.cells #[.int .i64 k, .slice fa fs.length fc, .string tx, .int .i64 nn] 26)).alloc (.map #[] 0)) #[.map (some (w.heap.size + 1))] 92 (i := 0) rfl
  rw [World.size_alloc, World.size_alloc] at hs
  exact ⟨rfl, ⟨⟨_, hown, mapIs_nil⟩, hs, hn 0 _ rfl, hn 1 _ rfl, hn 2 _ rfl, hn 3 _ rfl⟩, below3 _ _ _ _, by simp⟩

/-- Lists of records behind a slice. -/
def RssAt (w : World) (ga : Option Addr) (G : List (List Rc)) : Prop :=
  G = [] ∨ ∃ b o, ga = some ⟨b, o, none⟩ ∧ ∀ (i : Nat) (h : i < G.length), ∃ la cap, w.cell? ⟨b, o + i, none⟩ = some (.slice la G[i].length cap) ∧ RcsAt w la G[i] ∧ G[i].length ≤ cap
theorem RssAt.keep {w w' : World} {ga : Option Addr} {G : List (List Rc)} (h : RssAt w ga G) (k : Keeps w w') : RssAt w' ga G := by
  rcases h with h | ⟨b, o, h1, h2⟩
  · exact .inl h
  · refine .inr ⟨b, o, h1, fun i hi => ?_⟩
    obtain ⟨la, cap, e1, e2, e3⟩ := h2 i hi
    exact ⟨la, cap, k _ _ e1, e2.keep k, e3⟩

theorem own_fr {xs : List Nat} {w w' : World} {base : Nat} {e : TypeId} {size : Nat} {v : Value} {n : Nat} {us : List Value} (h : w.ownsRow base e size v n us) (f : Fr xs w w') (hx : ∀ k ∈ xs, k < base) : w'.ownsRow base e size v n us := by
  refine ⟨h.1, ?_⟩
  rcases h.2 with h0 | ⟨g, cap, cur, h0, hb, hg, hr⟩
  · exact .inl h0
  · exact .inr ⟨g, cap, cur, h0, hb, (f.block g (some_lt hg) (fun hm => by have := hx g hm; omega)).trans hg, hr⟩

/-- How handOn ends. -/
def HandEnd (w : World) (r : Option (List Rc)) (e : Ending) (w' : World) : Prop :=
  match r with
  | none => e = .returned (.tuple #[.slice none 0 0, errV 4]) ∧ Below w.heap.size w w'
  | some out => ∃ A cap, e = .returned (.tuple #[.slice A out.length cap, .nilIface]) ∧ RcsAt w' A out ∧ out.length ≤ cap ∧ (∀ a, A = some a → w.heap.size ≤ a.block) ∧ Below w.heap.size w w'

set_option maxRecDepth 100000 in
set_option maxHeartbeats 8000000 in
theorem handOn_any {w : World} (hg : Gd w) (nd : Nd) (fa : Option Addr) (fc : Nat) (ht : nd.tx.size ≤ 9223372036854775807) {ga : Option Addr} {gc : Nat} {G : List (List Rc)} (hG : RssAt w ga G) (hok : ∀ l ∈ G, ∀ r ∈ l, RcOk r) (hl : G.length ≤ 4) (hll : ∀ l ∈ G, l.length ≤ 2000) :
    Calls Tryz.prog 27 #[ndV nd fa fc, .slice ga G.length gc] w (HandEnd w (handP nd G)) := by
  obtain ⟨i0, hi0, hz0, hz1, hz2⟩ := info_parts Tryz.infoRc
  obtain ⟨k, fs, tx, nn⟩ := nd
  generalize hR : HandEnd w (handP ⟨k, fs, tx, nn⟩ G) = R
  have HR := Lib.hid hR
  clear hR
  have haw := atWork_any ⟨k, fs, tx, nn⟩ fa fc
  simp only [ndV] at *
  have hB1 : Below w.heap.size w (w.alloc (.cells #[.int .i64 k, .slice fa fs.length fc, .string tx, .int .i64 nn] 26)) := (Below.refl _ w).alloc (Nat.le_refl _) _
  have hwk := haw (w.alloc (.cells #[.int .i64 k, .slice fa fs.length fc, .string tx, .int .i64 nn] 26))
  rw [World.size_alloc] at hwk
  have HW := Lib.hid hwk
  clear haw hwk
  go_enter Tryz.func27, Tryz.ntmps27
  go_wp2_with (go_at_call 37; refine HW.out.mono ?_; rintro e w1 ⟨rfl, hwk1, hb1, hsz1⟩)
  have hB2 : Below w.heap.size w w1 := hB1.trans (hb1.mono (by simp))
  have hs1 : w1.heap.size = w.heap.size + 4 := by omega
  clear hsz1 hb1 hB1
  go_loopw [7, 16] (fun v i wr => ∃ p : Nat, p ≤ G.length ∧ i = .int .i64 p ∧ wr.ownsRow (w.heap.size + 4) 33 3 v (runP ⟨k, fs, tx, nn⟩ (preP G p 0)).1.length (rcells (runP ⟨k, fs, tx, nn⟩ (preP G p 0)).1) ∧ (runP ⟨k, fs, tx, nn⟩ (preP G p 0)).1.length ≤ 2000 ∧
      WkAt wr (w.heap.size + 1 + 1 + 1) (w.heap.size + 1) (w.heap.size + 1 + 1) (preP G p 0).length ⟨k, fs, tx, nn⟩ fa fc (runP ⟨k, fs, tx, nn⟩ (preP G p 0)).2 ∧ Below w.heap.size w wr ∧ w.heap.size + 4 ≤ wr.heap.size) (fun _ i _ => G.length - (intOf i).toNat)
  case atStart => exact ⟨0, by omega, rfl, World.ownsRow_nil _ _ _ _, by simp [preP, tagP, runP], hwk1, hB2, by omega⟩
  case round =>
    clear hwk1 hB2 hs1
    obtain ⟨p, hp, rfl, hown, hle, hwk, hB, hsz⟩ := hrel
    by_cases hlt : p < G.length
    · have hi : (p : Int) < G.length := by omega
      rcases hG with hG | ⟨gb, go, rfl, hG⟩
      · subst hG; simp at hlt
      obtain ⟨la, lc, g1, g2, g3⟩ := hG p hlt
      have c1 : wr.cell? ⟨gb, go + p, none⟩ = some (.slice la G[p].length lc) := Keeps.of hB _ _ g1
      have hlen := hll _ (List.getElem_mem hlt)
      have hall := hok _ (List.getElem_mem hlt)
      have hnx := pre_next hlt
      have hst := fun q (hq : q < G[p].length) => pre_step hlt hq
      have HL : Hid (∀ q, 2000 < (runP ⟨k, fs, tx, nn⟩ (preP G p q)).1.length → handP ⟨k, fs, tx, nn⟩ G = none) := fun q h => hand_none hlt h
      have HO : Hid (∀ q, StOk (runP ⟨k, fs, tx, nn⟩ (preP G p q)).2) := fun q => (run_ok _ _ (fun x hx => by obtain ⟨l, h1, h2⟩ := pre_mem x hx; exact hok l h1 _ h2)).2
      have HM : Hid (∀ q, (preP G p q).length ≤ 8000) := fun q => by
        obtain ⟨ys, e⟩ := pre_split (j := q) hlt
        have h1 := tag_len G 0 2000 hll
        rw [e, List.length_append] at h1
        have : G.length * 2000 ≤ 4 * 2000 := Nat.mul_le_mul_right _ hl
        omega
      have HN := Lib.hid hnx
      have HS := Lib.hid hst
      clear hnx hst g1 hG
      generalize G[p] = L at *
      have hLi : (L.length : Int) ≤ 2000 := by omega
      go_wp2_with fail
      go_loopw [7, 23] (fun v i wr => ∃ q : Nat, q ≤ L.length ∧ i = .int .i64 q ∧ wr.ownsRow (w.heap.size + 4) 33 3 v (runP ⟨k, fs, tx, nn⟩ (preP G p q)).1.length (rcells (runP ⟨k, fs, tx, nn⟩ (preP G p q)).1) ∧ (runP ⟨k, fs, tx, nn⟩ (preP G p q)).1.length ≤ 2000 ∧
          WkAt wr (w.heap.size + 1 + 1 + 1) (w.heap.size + 1) (w.heap.size + 1 + 1) (preP G p q).length ⟨k, fs, tx, nn⟩ fa fc (runP ⟨k, fs, tx, nn⟩ (preP G p q)).2 ∧ Below w.heap.size w wr ∧ w.heap.size + 4 ≤ wr.heap.size) (fun _ i _ => L.length - (intOf i).toNat)
      case atStart => exact ⟨0, by omega, rfl, hown, hle, hwk, hB, hsz⟩
      case round =>
        clear hown hle hwk hB hsz c1
        obtain ⟨q, hq, rfl, hown, hle, hwk, hB, hsz⟩ := hrel
        by_cases hlq : q < L.length
        · have hiq : (q : Int) < L.length := by omega
          rcases g2 with g2 | ⟨lb, lo, rfl, g2⟩
          · subst g2; simp at hlq
          obtain ⟨r0, r1, r2⟩ := rcells_at L q hlq
          have d0 := Keeps.of hB _ _ (g2 _ _ r0)
          have d1 := Keeps.of hB _ _ (g2 _ _ r1)
          have d2 := Keeps.of hB _ _ (g2 _ _ r2)
          rw [← Nat.add_assoc] at d1 d2
          have hrk := hall _ (List.getElem_mem hlq)
          have hsnoc : runP ⟨k, fs, tx, nn⟩ (preP G p (q + 1)) = stepP ⟨k, fs, tx, nn⟩ (runP ⟨k, fs, tx, nn⟩ (preP G p q)) (L[q], (p : Int)) := by rw [HS.out q hlq, runP_snoc]
          have hln : (preP G p (q + 1)).length = (preP G p q).length + 1 := by rw [HS.out q hlq]; simp
          have hso := HO.out q
          have hbd := HL.out (q + 1)
          have h8 := HM.out q
          rw [hsnoc] at hbd
          have HSN := Lib.hid hsnoc
          have HLN := Lib.hid hln
          have HBD := Lib.hid hbd
          clear hsnoc hln hbd g2 r0 r1 r2
          generalize L[q] = r at *
          generalize (preP G p q).length = m at *
          generalize runP ⟨k, fs, tx, nn⟩ (preP G p q) = rp at *
          obtain ⟨acc, σ⟩ := rp
          obtain ⟨key, num, time⟩ := r
          simp only at hown hle hwk hso d0 d1 d2
          have hw2 := hwk.keep ((Below.refl _ wr).alloc (Nat.le_refl _) (.cells #[.string key, .int .i64 num, .int .i64 time] 33))
          have hB2 : Below w.heap.size w (wr.alloc (.cells #[.string key, .int .i64 num, .int .i64 time] 33)) := hB.alloc (by omega) _
          have hwc := work_any (hg.below hB2) hw2 hso (by unfold maxLen; omega) ⟨key, num, time⟩ p hrk ht (by omega) acc
          simp only [rcV] at hwc
          have HWC := Lib.hid hwc
          have ho2 := hown.alloc (.cells #[.string key, .int .i64 num, .int .i64 time] 33)
          clear hwc hw2 hwk hown
          go_wp2_with fail
          refine HWC.out.mono ?_
          rintro e w3 ⟨A, cap, out, rfl, holen, hs1, hrow, hwk3, F3⟩
          have hsz3 : w.heap.size + 4 ≤ w3.heap.size := by have := F3.size; simp at this; omega
          have hB3 : Below w.heap.size w w3 := hB2.trans (F3.toBelow (by simp; omega) (by simp; omega))
          have ho3 : w3.ownsRow (w.heap.size + 4) 33 3 u7 acc.length (rcells acc) := own_fr ho2 F3 (by simp)
          have hacc : (stepP ⟨k, fs, tx, nn⟩ (acc, σ) ({ key := key, num := num, time := time }, (p : Int))).1 = acc ++ out := hs1
          generalize stepP ⟨k, fs, tx, nn⟩ (acc, σ) ({ key := key, num := num, time := time }, (p : Int)) = sp at *
          obtain ⟨acc2, σ2⟩ := sp
          simp only at hacc hwk3
          have HAcc := Lib.hid hacc
          clear hacc hs1 ho2 F3 d0 d1 d2 hB
          rcases hrow.2 with ⟨e0, e1⟩ | ⟨g, cap', cur, e0, eb, eg, er⟩
          · have hA : A = none := by simp at e0; exact e0.1
            have hc0 : cap = 0 := by simp at e0; exact e0.2.2
            have ho : out = [] := List.length_eq_zero_iff.1 e1
            subst hA hc0 ho
            have HA2 : Hid (acc2 = acc) := Lib.hid (by have := HAcc.out; simpa using this)
            simp only [List.length_nil]
            go_wp2_with (at_builtin; refine wpList_append_own_none rfl _ _ 34 rfl (w.heap.size + 4) 33 i0 3 Tryz.underlying34 hi0 _ _ _ rfl ho3 rfl ?_)
            obtain ⟨A4, cap4, rfl⟩ := own_fm ho3
            have hle' : ¬ (2000 : Int) < acc.length := by omega
            go_wp2
            exact ⟨⟨q + 1, by omega, by go_num, by rw [HSN.out, HA2.out]; exact ho3, by rw [HSN.out, HA2.out]; exact hle, by rw [HSN.out, HLN.out]; exact hwk3, hB3, hsz3⟩, by simp [intOf]; omega⟩
          · have hA : A = some ⟨g, 0, none⟩ := by simp at e0; exact e0.1
            subst hA
            have hcells := hrow.cells rfl
            go_wp2_with (at_builtin; refine wpList_append_own _ rfl _ _ 34 rfl (w.heap.size + 4) 33 i0 (.agg #[.string ⟨#[]⟩, .int .i64 0, .int .i64 0]) 3 32 Tryz.underlying34 hi0 hz0 hz1 hz2 rfl (by decide) _ _ _ rfl ho3 ⟨g, 0, none⟩ out.length cap (rcells out) rfl (rcells_len out) hcells (rcells_one out) (by unfold maxLen; omega) (by omega) hsz3 ?_)
            intro v' w4 hown' hgrow _
            have hB4 : Below w.heap.size w w4 := hB3.grown hgrow (by omega) (fun k hk => by have := (ho3.lt k hk).1; omega)
            have hsz4 : w.heap.size + 4 ≤ w4.heap.size := Nat.le_trans hsz3 hgrow.size
            have hwk4 : WkAt w4 (w.heap.size + 1 + 1 + 1) (w.heap.size + 1) (w.heap.size + 1 + 1) (m + 1) ⟨k, fs, tx, nn⟩ fa fc σ2 := by
              obtain ⟨D, hD1, hD2⟩ := hwk3.own
              have hkp : ∀ b, b < w.heap.size + 4 → w4.heap[b]? = w3.heap[b]? := fun b hb => hgrow.block b (by omega) (fun e => by have := (ho3.lt b e.symm).1; omega)
              have kc : ∀ (p : Addr) (v : Value), p.block < w.heap.size + 4 → w3.cell? p = some v → w4.cell? p = some v := fun p v hp hv => by
                rw [World.cell?_of_block (w := w3) (hkp p.block hp)]; exact hv
              exact ⟨⟨D, own_block hD1 (hkp _ (by omega)), hD2⟩, kc _ _ (by show _ < _; simp) hwk3.st, kc _ _ (by show _ < _; simp) hwk3.c0, kc _ _ (by show _ < _; simp) hwk3.c1, kc _ _ (by show _ < _; simp) hwk3.c2, kc _ _ (by show _ < _; simp) hwk3.c3⟩
            have ho4 : w4.ownsRow (w.heap.size + 4) 33 3 v' acc2.length (rcells acc2) := by
              rw [HAcc.out, rcells_append, List.length_append]; exact hown'
            clear hown' hgrow ho3 hwk3 hcells hB3 eg er
            obtain ⟨A4, cap4, rfl⟩ := own_fm ho4
            by_cases hbig : 2000 < acc2.length
            · have hbig' : (2000 : Int) < acc2.length := by omega
              have HE : Hid (handP ⟨k, fs, tx, nn⟩ G = none) := HBD.out hbig
              go_wp2
              rw [← HR.out, HE.out]
              exact ⟨by rw [errV_pos (by omega)]; rfl, hB4⟩
            · have hbig' : ¬ (2000 : Int) < acc2.length := by omega
              have hbg : acc2.length ≤ 2000 := by omega
              go_wp2
              exact ⟨⟨q + 1, by omega, by go_num, by rw [HSN.out]; exact ho4, by rw [HSN.out]; exact hbg, by rw [HSN.out, HLN.out]; exact hwk4, hB4, hsz4⟩, by simp [intOf]; omega⟩
        · have hiq : ¬ (q : Int) < L.length := by omega
          have hqe : q = L.length := by omega
          rw [hqe, HN.out] at hown hle hwk
          clear hqe
          go_wp2
          exact ⟨⟨p + 1, by omega, by go_num, hown, hle, hwk, hB, hsz⟩, by simp [intOf]; omega⟩
    · have hi : ¬ (p : Int) < G.length := by omega
      have hpe : p = G.length := by omega
      have HE : Hid (handP ⟨k, fs, tx, nn⟩ G = some (runP ⟨k, fs, tx, nn⟩ (preP G p 0)).1) := by
        rw [hpe] at hle ⊢
        exact hand_some (by omega)
      clear hpe
      generalize runP ⟨k, fs, tx, nn⟩ (preP G p 0) = rp at *
      obtain ⟨A, cap, rfl⟩ := own_fm hown
      go_wp2
      rw [← HR.out, HE.out]
      exact ⟨A, cap, rfl, (own_rcs hown rfl).1, (own_rcs hown rfl).2, fun a ha => by subst ha; have := (hown.lt a.block rfl).1; omega, hB⟩
end Go.Proofs.YtppkjiihmlphbaaGreatDoor
