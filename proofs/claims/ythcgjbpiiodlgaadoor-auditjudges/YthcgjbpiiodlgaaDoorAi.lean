/- Both checked; by key; how many. -/
import Derived.Test.YthcgjbpiiodlgaaDoorAg
namespace Go.Proofs.YthcgjbpiiodlgaaDoor
open Go.RowKit Mp
set_option linter.unusedVariables false

theorem errV_nil_iff (k : Nat) : errV k = .nilIface ↔ k = 0 := by
  unfold errV
  by_cases h : k = 0
  · simp [h]
  · simp [h]
noncomputable def bothE (a b : List Ln) : Nat := if linesE a = 0 then linesE b else linesE a
set_option maxHeartbeats 1000000 in
theorem both_any (w : World) (la lb : Option Addr) (c d n m : Nat) (a b : List Ln) (ha : LnsAt w la a) (hb : LnsAt w lb b) (hn : n = a.length) (hm : m = b.length) (hl : n < 9223372036854775808) (hl2 : m < 9223372036854775808) :
    Calls Tryd.prog 18 #[.slice la n c, .slice lb m d] w fun e w' => e = .returned (errV (bothE a b)) ∧ Below w.heap.size w w' := by
  have H1 := Lib.hid (check_any w la c n a ha hn hl)
  have H2 := Lib.hid (fun (u : World) (hu : Below w.heap.size w u) => check_any u lb d m b (lns_b hb hu) hm hl2)
  clear ha hb hn hm
  by_cases h0 : linesE a = 0
  · have HE : Hid (bothE a b = linesE b) := by show _ = _; unfold bothE; rw [if_pos h0]
    have H3 := H1.out
    rw [h0] at H3
    have HH3 := Lib.hid H3
    clear H3 h0 H1
    go_enter Tryd.func18, Tryd.ntmps18
    go_wp2_with fail
    refine HH3.out.mono ?_
    rintro e w1 ⟨rfl, hb1⟩
    have HB1 := Lib.hid hb1
    have HH := Lib.hid (H2.out w1 hb1)
    clear hb1
    have e0 : errV 0 = .nilIface := rfl
    go_wp2_with fail
    refine HH.out.mono ?_
    rintro e w2 ⟨rfl, hb2⟩
    have HB2 : Hid (Below w.heap.size w w2) := below_after hb2 HB1.out
    clear hb2
    go_wp2_with fail
    go_ret
    exact ⟨by rw [HE.out]; rfl, HB2.out⟩
  · have HE : Hid (bothE a b = linesE a) := by show _ = _; unfold bothE; rw [if_neg h0]
    obtain ⟨tv, hv⟩ := errV_ne h0
    have H3 := H1.out
    rw [hv] at H3
    have HH3 := Lib.hid H3
    have HV := Lib.hid hv
    clear H3 h0 H1 hv H2
    go_enter Tryd.func18, Tryd.ntmps18
    go_wp2_with fail
    refine HH3.out.mono ?_
    rintro e w1 ⟨rfl, hb1⟩
    have HB1 := Lib.hid hb1
    clear hb1
    go_wp2_with fail
    go_ret
    exact ⟨by rw [HE.out, HV.out]; rfl, HB1.out⟩

theorem many_snoc (L : List Ln) (k : Nat) (h : k < L.length) : manyP (L.take (k + 1)) = manyP (L.take k) + L[k].2.length := by
  unfold manyP
  rw [List.take_succ_eq_append_getElem h, List.map_append, List.sum_append]; simp
theorem many_le (L : List Ln) (k : Nat) (hk : k ≤ L.length) (h : ∀ l ∈ L, l.2.length ≤ 400) : manyP (L.take k) ≤ k * 400 := by
  induction k with
  | zero => simp [manyP]
  | succ k ih =>
    rw [many_snoc L k hk]
    have := ih (by omega)
    have := h L[k] (List.getElem_mem hk)
    omega
set_option maxHeartbeats 1000000 in
theorem many_any (w : World) (la : Option Addr) (c n : Nat) (L : List Ln) (h : LnsAt w la L) (hn : n = L.length) (hl : n ≤ 400) (h4 : ∀ l ∈ L, l.2.length ≤ 400) :
    Calls Tryd.prog 26 #[.slice la n c] w fun e w' => e = .returned (.int .i64 (manyP L : Nat)) ∧ Below w.heap.size w w' := by
  have H := Lib.hid h
  have HN := Lib.hid hn
  have H4 := Lib.hid h4
  clear h hn h4
  go_enter Tryd.func26, Tryd.ntmps26
  go_wp2_with fail
  go_loopw [3, 5, 8] (fun vs _ vi wr => ∃ k : Nat, vi = .int .i64 (k : Int) ∧ k ≤ n ∧ vs = .int .i64 (manyP (L.take k) : Nat) ∧ Hid (Below w.heap.size w wr)) (fun _ _ vi _ => n - (intOf vi).toNat)
  case atStart => exact ⟨0, rfl, by omega, by simp [manyP], Below.refl _ _⟩
  case round =>
    obtain ⟨k, rfl, hk, rfl, hB⟩ := hrel
    by_cases hlt : k < n
    · have hi : (k : Int) < (n : Int) := by omega
      have k1 : k < L.length := by have := HN.out; omega
      obtain ⟨b, o, fa, fc, rfl, c0, c1, hI2, h5, h6, h7⟩ := ln_at (lns_b H.out hB.out) k k1
      have hs := many_snoc L k k1
      have HS := Lib.hid hs
      have hle := many_le L k (by omega) H4.out
      have h8 := H4.out L[k] (List.getElem_mem k1)
      have HB2 : Hid (Below w.heap.size w (wr.alloc (.cells #[.string L[k].1, .slice fa L[k].2.length fc] 39))) := hB.out.alloc hB.out.size _
      clear hs hI2 hB
      generalize L[k].2.length = m at *
      generalize L[k].1 = key at *
      generalize manyP (L.take k) = q at *
      go_wp2_with fail
      exact ⟨⟨k + 1, by go_num, by omega, by rw [HS.out]; go_num, HB2⟩, by simp [intOf]; omega⟩
    · have hi : ¬ (k : Int) < (n : Int) := by omega
      have ht : L.take k = L := List.take_of_length_le (by have := HN.out; omega)
      rw [ht]
      go_wp2_with fail
      go_ret
      exact ⟨rfl, hB.out⟩

/-- The lines by their keys: what each key's slice is. -/
def ofKey (w : World) (L : List Ln) (g : ByteArray → Value) : Prop := ∀ k, ∃ fa fc, g k = .slice fa (getD L k).length fc ∧ IntsAt w fa (getD L k) ∧ (getD L k).length ≤ fc ∧ fc ≤ 9223372036854775807
theorem ofKey.keep {w w' : World} {L : List Ln} {g : ByteArray → Value} (h : ofKey w L g) (hb : Below w.heap.size w w') : ofKey w' L g := fun k => by
  obtain ⟨fa, fc, h1, h2, h3⟩ := h k
  exact ⟨fa, fc, h1, ints_b h2 hb, h3⟩
theorem get_app (A B : List Ln) (k : ByteArray) : Mp.get (A ++ B) k = (Mp.get A k).or (Mp.get B k) := by
  induction A with
  | nil => simp [Mp.get]
  | cons p A ih =>
    rw [List.cons_append, Mp.get, Mp.get]
    by_cases h : p.1 = k
    · simp [h]
    · simp [h, ih]
theorem get_take_no {L : List Ln} (hr : Ris L) (k : Nat) (h : k < L.length) : Mp.get (L.take k) L[k].1 = none := by
  refine get_none.2 fun q hq e => ?_
  obtain ⟨i, hi, rfl⟩ := List.getElem_of_mem hq
  have hi' : i < k := by simp at hi; omega
  have := List.pairwise_iff_getElem.1 hr i k (by omega) h hi'
  simp only [List.getElem_take] at e
  rw [e] at this
  exact kb_irr _ this
theorem getD_snoc {L : List Ln} (hr : Ris L) (k : Nat) (h : k < L.length) (x : ByteArray) : getD (L.take (k + 1)) x = if x = L[k].1 then L[k].2 else getD (L.take k) x := by
  unfold getD
  rw [List.take_succ_eq_append_getElem h, get_app]
  by_cases e : x = L[k].1
  · rw [if_pos e, e, get_take_no hr k h]; simp [Mp.get]
  · rw [if_neg e]
    have : Mp.get [L[k]] x = none := by simp [Mp.get]; exact fun h => e h.symm
    rw [this]; simp
set_option maxHeartbeats 1000000 in
theorem byKey_any (w : World) (la : Option Addr) (c n : Nat) (L : List Ln) (h : LnsAt w la L) (hn : n = L.length) (hl : n ≤ 400) (hr : Ris L) :
    Calls Tryd.prog 19 #[.slice la n c] w fun e w' => ∃ M g, e = .returned (.map (some M)) ∧ KmIs w' M n g ∧ w.heap.size ≤ M ∧ ofKey w' L g ∧ Below w.heap.size w w' := by
  have H := Lib.hid h
  have HN := Lib.hid hn
  have HR := Lib.hid hr
  clear h hn hr
  have hmm := @run_makeMap Tryd.prog
  have H0 : Hid (KmIs (w.alloc (.map #[] 0)) w.heap.size 0 (fun _ => .slice none 0 0) ∧ ofKey (w.alloc (.map #[] 0)) (L.take 0) (fun _ => .slice none 0 0) ∧ Below w.heap.size w (w.alloc (.map #[] 0))) :=
    ⟨KmIs.made w, fun k => ⟨none, 0, by simp [getD, Mp.get], .inl (by simp [getD, Mp.get]), by simp [getD, Mp.get], by omega⟩, (Below.refl _ _).alloc (Nat.le_refl _) _⟩
  go_enter Tryd.func19, Tryd.ntmps19
  go_wp2_with fail
  go_loopw [5, 9] (fun _ vi wr => ∃ k : Nat, vi = .int .i64 (k : Int) ∧ k ≤ n ∧ Hid (∃ g, KmIs wr w.heap.size k g ∧ ofKey wr (L.take k) g ∧ Below w.heap.size w wr)) (fun _ vi _ => n - (intOf vi).toNat)
  case atStart => exact ⟨0, rfl, by omega, ⟨_, H0.out⟩⟩
  case round =>
    obtain ⟨k, rfl, hk, hB⟩ := hrel
    obtain ⟨g, hM, hO, hBe⟩ := hB.out
    by_cases hlt : k < n
    · have hi : (k : Int) < (n : Int) := by omega
      have k1 : k < L.length := by have := HN.out; omega
      obtain ⟨b, o, fa, fc, rfl, c0, c1, hI2, h5, h6, h7⟩ := ln_at (lns_b H.out hBe) k k1
      have ha : Below wr.heap.size wr (wr.alloc (.cells #[.string L[k].1, .slice fa L[k].2.length fc] 39)) := (Below.refl _ _).alloc (Nat.le_refl _) _
      obtain ⟨w2, hrun, hM2, hF⟩ := (hM.keep ha).put (by omega) L[k].1 (by unfold maxLen; omega) (.slice fa L[k].2.length fc)
      have hkm := hM.keep ha
      obtain ⟨D, hD, _⟩ := hkm
      obtain ⟨es, cl, hmap⟩ := own_map hD
      have hf : ∀ p v, wr.cell? p = some v → w2.cell? p = some v := fun p v hp => by
        have hp' := Keeps.of ha p v hp
        rw [hF.cell (World.block_lt_of_cell? _ _ hp') (fun hh => by simp at hh; simp [World.cell?, hh, hmap] at hp')]; exact hp'
      have HE : Hid (∃ g, KmIs w2 w.heap.size (k + 1) g ∧ ofKey w2 (L.take (k + 1)) g ∧ Below w.heap.size w w2) := by
        refine ⟨_, hM2, fun x => ?_, Fr.onto (below_after ha hBe) hF (by simp)⟩
        rw [getD_snoc HR.out k k1 x]
        by_cases e : x = L[k].1
        · rw [if_pos e, e, up_same]
          exact ⟨fa, fc, rfl, hI2.keep hf, h5, h6⟩
        · rw [if_neg e, up_other g _ e]
          obtain ⟨fa', fc', e1, e2, e3, e4⟩ := hO x
          exact ⟨fa', fc', e1, e2.keep hf, e3, e4⟩
      clear hI2 hB hM hO hM2 hF hf hmap hD ha hBe
      generalize L[k].2.length = m at *
      generalize L[k].1 = key at *
      go_wp2_with fail
      exact ⟨⟨k + 1, by go_num, by omega, HE⟩, by simp [intOf]; omega⟩
    · have hi : ¬ (k : Int) < (n : Int) := by omega
      have ht : L.take k = L := List.take_of_length_le (by have := HN.out; omega)
      have hkn : k = n := by omega
      have HE : Hid (KmIs wr w.heap.size n g ∧ w.heap.size ≤ w.heap.size ∧ ofKey wr L g ∧ Below w.heap.size w wr) := by
        rw [ht] at hO
        rw [← hkn]
        exact ⟨hM, Nat.le_refl _, hO, hBe⟩
      clear hM hO hBe hB ht hkn
      go_wp2_with fail
      go_ret
      exact ⟨_, rfl, g, HE.out⟩
end Go.Proofs.YthcgjbpiiodlgaaDoor
