/- Each load to who has the least so far: Min, Index, the giver. -/
import Derived.Test.YtfkeokeedljomaaDoorSh0
import Derived.Test.YtfkeokeedljomaaDoorPureSl
namespace Go.Proofs.YtfkeokeedljomaaDoor
open Go.RowKit
set_option linter.unusedVariables false

theorem zr_at {w : World} {b : Nat} {H : List Int} (h : ZR w b H) (k : Nat) (hk : k < H.length) : w.cell? ⟨b, k, none⟩ = some (.int .i64 H[k]) := (h k _ (List.getElem?_eq_getElem hk)).1

set_option maxHeartbeats 1000000 in
theorem min_any (w : World) (b m c : Nat) (H : List Int) (h : ZR w b H) (hm : m = H.length) (h0 : 0 < m) (hl : m < 4611686018427387904) :
    Calls Tryd.prog 31 #[.slice (some ⟨b, 0, none⟩) m c] w fun e w' => e = .returned (.int .i64 (H.getD (argmin H) 0)) ∧ w' = w := by
  obtain ⟨x, l, rfl⟩ : ∃ x l, H = x :: l := by
    cases H with
    | nil => simp at hm; omega
    | cons x l => exact ⟨x, l, rfl⟩
  have HV : Hid (minL l x = (x :: l).getD (argmin (x :: l)) 0) := minL_argmin _ x l rfl
  have c0 : w.cell? ⟨b, 0, none⟩ = some (.int .i64 x) := zr_at h 0 (by simp)
  have HH : Hid (ZR w b (x :: l)) := h
  have HM : Hid (m = l.length + 1) := by show _ = _; rw [hm]; rfl
  have h1 : ¬ (m : Int) < 1 := by omega
  clear h hm
  generalize (x :: l).getD (argmin (x :: l)) 0 = v at HV ⊢
  go_enter Tryd.func31, Tryd.ntmps31
  go_wp2_with fail
  go_loop [3, 4] (fun vm vi => ∃ k : Nat, vi = .int .i64 ((k : Int) + 1) ∧ k + 1 ≤ m ∧ vm = .int .i64 (minL (l.take k) x)) (fun _ vi => m - (intOf vi).toNat)
  case atStart => exact ⟨0, rfl, by omega, by simp [minL]⟩
  case round =>
    obtain ⟨k, rfl, hk, rfl⟩ := hrel
    by_cases hlt : k + 1 < m
    · have hz : (k : Int) + 1 < (m : Int) := by omega
      have hkl : k < l.length := by have := HM.out; omega
      have c1 : w.cell? ⟨b, k + 1, none⟩ = some (.int .i64 l[k]) := zr_at HH.out (k + 1) (by simp; omega)
      have hs : minL (l.take (k + 1)) x = min (minL (l.take k) x) l[k] := by rw [List.take_succ_eq_append_getElem hkl, minL_snoc]
      have HS : Hid (minL (l.take (k + 1)) x = min (minL (l.take k) x) l[k]) := hs
      have b1 : (0 : Int) ≤ (k : Int) + 1 := by omega
      have b2 : ((k : Int) + 1).toNat = k + 1 := by omega
      clear hs
      generalize l[k] = y at c1 HS
      generalize minL (l.take k) x = z at HS ⊢
      go_wp2_with fail
      all_goals exact ⟨⟨k + 1, by go_num, by omega, by rw [HS.out]; first | rfl | (congr 1; omega)⟩, by simp [intOf]; omega⟩
    · have hz : ¬ (k : Int) + 1 < (m : Int) := by omega
      have HKL : Hid (k = l.length) := by have := HM.out; show _ = _; omega
      go_wp2_with fail
      go_ret
      exact ⟨ret_int (by rw [HKL.out, List.take_length]; exact HV.out), rfl⟩
set_option maxHeartbeats 1000000 in
theorem idx_any (w : World) (b m c : Nat) (H : List Int) (h : ZR w b H) (hm : m = H.length) (h0 : 0 < m) (hl : m < 4611686018427387904) :
    Calls Tryd.prog 30 #[.slice (some ⟨b, 0, none⟩) m c, .int .i64 (H.getD (argmin H) 0)] w fun e w' => e = .returned (.int .i64 (argmin H : Nat)) ∧ w' = w := by
  have ha := argmin_lt H (by intro e; subst e; simp at hm; omega)
  rw [← hm] at ha
  have hfst : Hid (∀ i, i < argmin H → ∀ y, H[i]? = some y → H.getD (argmin H) 0 < y) := fun i hi y hy => by
    have := argmin_first H i hi
    rw [List.getD_eq_getElem?_getD (i := i), hy] at this
    exact this
  have hval : Hid (H[argmin H]? = some (H.getD (argmin H) 0)) := by
    show _ = _
    rw [List.getD_eq_getElem?_getD, List.getElem?_eq_getElem (by omega)]; rfl
  have HH : Hid (ZR w b H) := h
  have HM : Hid (m = H.length) := hm
  clear h hm
  generalize H.getD (argmin H) 0 = v at hfst hval ⊢
  generalize argmin H = p at ha hfst hval ⊢
  go_enter Tryd.func30, Tryd.ntmps30
  go_wp2_with fail
  go_loop [8] (fun vi => ∃ k : Nat, vi = .int .i64 (k : Int) ∧ k ≤ p) (fun vi => m - (intOf vi).toNat)
  case atStart => exact ⟨0, rfl, by omega⟩
  case round =>
    obtain ⟨k, rfl, hk⟩ := hrel
    have hz : (k : Int) < (m : Int) := by omega
    obtain ⟨y, hy⟩ := at_lt (l := H) (k := k) (by have := HM.out; omega)
    have c1 := (HH.out k y hy).1
    by_cases hlt : k < p
    · have hlt2 := hfst.out k hlt y hy
      have hne : (v == y) = false := by rw [beq_eq_false_iff_ne]; omega
      clear hy
      go_wp2_with fail
      exact ⟨⟨k + 1, by go_num, by omega⟩, by simp [intOf]; omega⟩
    · obtain rfl : k = p := by omega
      have e := hval.out
      rw [hy] at e
      injection e with e
      subst e
      have hne : (y == y) = true := by simp
      clear hy
      go_wp2_with fail
      go_ret
      exact ⟨rfl, rfl⟩

/-- What all have, in a box. -/
structure BxAt (w : World) (hb hr m c : Nat) (H : List Int) : Prop where
  b : w.cell? ⟨hb, 0, none⟩ = some (.slice (some ⟨hr, 0, none⟩) m c)
  z : ZR w hr H
  m : m = H.length
  ne : hb ≠ hr
theorem BxAt.fr {w w' : World} {hb hr m c : Nat} {H : List Int} {xs : List Nat} (h : BxAt w hb hr m c H) (f : Fr xs w w') (h1 : hb ∉ xs) (h2 : hr ∉ xs) : BxAt w' hb hr m c H :=
  ⟨by rw [f.cell (p := ⟨hb, 0, none⟩) (cell_lt h.b) h1]; exact h.b, h.z.fr h2 f, h.m, h.ne⟩

set_option maxHeartbeats 1000000 in
theorem give_any (w : World) (hb hr m c : Nat) (H : List Int) (x : Int) (h : BxAt w hb hr m c H) (h0 : 0 < m) (hl : m ≤ 16) (hv : 0 ≤ H.getD (argmin H) 0 ∧ H.getD (argmin H) 0 ≤ 1000000000) (hx : 0 ≤ x ∧ x ≤ 1000000000) :
    Calls Tryd.prog 29 #[.int .i64 x, .pointer (some ⟨hb, 0, none⟩)] w fun e w' => e = .returned (.int .i64 (argmin H : Nat)) ∧ BxAt w' hb hr m c (H.set (argmin H) (H.getD (argmin H) 0 + x)) ∧ Fr [hr] w w' := by
  have cb := h.b
  have hmin : ∀ n, Calls Tryd.prog 31 #[.slice (some ⟨hr, 0, none⟩) m c] (w.drewN n) fun e w' => e = .returned (.int .i64 (H.getD (argmin H) 0)) ∧ w' = w.drewN n := fun n => min_any _ hr m c H (h.z.fr (xs := []) (by simp) ((Fr.refl _ _).drewN n)) h.m h0 (by omega)
  have hidx : ∀ n, Calls Tryd.prog 30 #[.slice (some ⟨hr, 0, none⟩) m c, .int .i64 (H.getD (argmin H) 0)] (w.drewN n) fun e w' => e = .returned (.int .i64 (argmin H : Nat)) ∧ w' = w.drewN n := fun n => idx_any _ hr m c H (h.z.fr (xs := []) (by simp) ((Fr.refl _ _).drewN n)) h.m h0 (by omega)
  have ha := argmin_lt H (by intro e; have := h.m; rw [e] at this; simp at this; omega)
  have hat : H[argmin H]? = some (H.getD (argmin H) 0) := by rw [List.getD_eq_getElem?_getD, List.getElem?_eq_getElem ha]; rfl
  have c1 := (h.z _ _ hat).1
  have f1 := (h.z _ _ hat).2
  rw [← h.m] at ha
  have HB : Hid (BxAt w hb hr m c H) := h
  clear h hat
  obtain ⟨v, hvv⟩ : ∃ v, H.getD (argmin H) 0 = v := ⟨_, rfl⟩
  obtain ⟨p, hp⟩ : ∃ p, argmin H = p := ⟨_, rfl⟩
  rw [hvv] at hmin hidx hv c1 ⊢
  rw [hp] at hidx ha c1 f1 ⊢
  clear hvv hp
  have hz : (p : Int) < (m : Int) := by omega
  have hne := HB.out.ne
  go_enter Tryd.func29, Tryd.ntmps29
  go_wp2_with fail
  go_quiet (first | (go_at_call 31; exact Calls.quiet_of_same (hmin _)) | (go_at_call 30; exact Calls.quiet_of_same (hidx _)))
  have cb' : (w.drewN nq).cell? ⟨hb, 0, none⟩ = some (.slice (some ⟨hr, 0, none⟩) m c) := cb
  have c1' : (w.drewN nq).cell? ⟨hr, p, none⟩ = some (.int .i64 v) := c1
  have f1' : (w.drewN nq).frozen? ⟨hr, p, none⟩ = false := f1
  have HB2 : Hid (BxAt (w.drewN nq) hb hr m c H) := HB.out.fr (xs := []) ((Fr.refl _ _).drewN nq) (by simp) (by simp)
  have HF2 : Hid (Fr [hr] w (w.drewN nq)) := (Fr.refl _ _).drewN nq
  clear cb c1 f1 hmin hidx
  generalize w.drewN nq = w1 at cb' c1' f1' HB2 HF2 ⊢
  go_wp2_with fail
  go_ret
  refine ⟨rfl, ⟨?_, HB2.out.z.set _ _, by rw [List.length_set]; exact HB2.out.m, HB2.out.ne⟩, HF2.out.setCell (.inl (by simp)) _⟩
  rw [World.cell?_setCell_far _ _ _ _ (by simpa using Ne.symm hne)]; exact cb'
end Go.Proofs.YtfkeokeedljomaaDoor
