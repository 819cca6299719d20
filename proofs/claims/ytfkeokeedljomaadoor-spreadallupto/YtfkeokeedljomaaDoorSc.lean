/- How two places are compared: by their loads. -/
import Derived.Test.YtfkeokeedljomaaDoorSb
namespace Go.Proofs.YtfkeokeedljomaaDoor
open Go.RowKit
set_option linter.unusedVariables false

def icells (L : List Int) : List Value := L.map fun x => .int .i64 x
theorem icells_len (L : List Int) : (icells L).length = L.length := by simp [icells]
theorem icells_at (L : List Int) (k : Nat) (h : k < L.length) : (icells L)[k]? = some (.int .i64 L[k]) := by simp [icells, h]
theorem is_at {w : World} {la : Option Addr} {L : List Int} (h : CsAt w la (icells L)) (k : Nat) (hk : k < L.length) : ∃ b o, la = some ⟨b, o, none⟩ ∧ w.cell? ⟨b, o + k, none⟩ = some (.int .i64 L[k]) := by
  obtain ⟨b, o, rfl, hc⟩ := h.at (by intro e; have := icells_len L; rw [e] at this; simp at this; omega)
  exact ⟨b, o, rfl, hc k _ (icells_at L k hk)⟩
/-- The load at a place. -/
def ldf (L : List Int) (x : Nat) : Int := L.getD x 0
theorem ldf_at (L : List Int) (k : Nat) (h : k < L.length) : ldf L k = L[k] := by unfold ldf; simp [List.getD_eq_getElem?_getD, h]
def cmpI (x y : Int) : Int := if x < y then -1 else if y < x then 1 else 0
/-- What two places are when compared: below 0 where the first has the greater load. -/
def cv (L : List Int) (x y : Nat) : Int := cmpI (ldf L y) (ldf L x)
theorem cv_yes {L : List Int} {x y : Nat} (h : cb (ldf L) x y = true) : cv L x y < 0 := by
  unfold cb at h; simp at h; unfold cv cmpI; rw [if_pos h]; omega
theorem cv_no {L : List Int} {x y : Nat} (h : cb (ldf L) x y = false) : ¬ cv L x y < 0 := by
  unfold cb at h; simp at h; unfold cv cmpI; rw [if_neg (by omega)]; split <;> omega

set_option maxHeartbeats 400000 in
theorem nan_any (x : Int) (w : World) : Calls Tryd.prog 39 #[.int .i64 x] w fun e w' => e = .returned (.bool false) ∧ w = w' := by
  go_enter Tryd.func39, Tryd.ntmps39
  have h : (x != x) = false := by simp
  go_wp2
  go_ret
  exact ⟨rfl, rfl⟩
set_option maxHeartbeats 1000000 in
theorem cmp_any (x y : Int) (w : World) : Calls Tryd.prog 34 #[.int .i64 x, .int .i64 y] w fun e w' => e = .returned (.int .i64 (cmpI x y)) ∧ w = w' := by
  unfold cmpI
  by_cases h1 : x < y
  · rw [if_pos h1]
    have h1' : decide (x < y) = true := decide_eq_true h1
    go_enter Tryd.func34, Tryd.ntmps34
    go_wp2_with (go_at_call 39; refine (nan_any _ _).mono ?_; rintro e w' ⟨rfl, rfl⟩)
    go_ret
    exact ⟨rfl, rfl⟩
  · rw [if_neg h1]
    by_cases h2 : y < x
    · rw [if_pos h2]
      have h2' : x > y := h2
      go_enter Tryd.func34, Tryd.ntmps34
      go_wp2_with (go_at_call 39; refine (nan_any _ _).mono ?_; rintro e w' ⟨rfl, rfl⟩)
      go_ret
      exact ⟨rfl, rfl⟩
    · rw [if_neg h2]
      have h2' : ¬ x > y := h2
      go_enter Tryd.func34, Tryd.ntmps34
      go_wp2_with (go_at_call 39; refine (nan_any _ _).mono ?_; rintro e w' ⟨rfl, rfl⟩)
      go_ret
      exact ⟨rfl, rfl⟩

/-- The loads lie apart from the row of places. -/
structure LdAt (w : World) (blk bx : Nat) (L : List Int) : Prop where
  le : L.length < 4611686018427387904
  nb : bx ≠ blk
  ex : ∃ la cap, w.cell? ⟨bx, 0, none⟩ = some (.slice la L.length cap) ∧ CsAt w la (icells L) ∧ ∀ b o, la = some ⟨b, o, none⟩ → L ≠ [] → b ≠ blk
theorem LdAt.fr {w w' : World} {blk bx : Nat} {L : List Int} (h : LdAt w blk bx L) (f : Fr [blk] w w') : LdAt w' blk bx L := by
  obtain ⟨la, cap, h1, h2, h3⟩ := h.ex
  refine ⟨h.le, h.nb, la, cap, by rw [f.cell (p := ⟨bx, 0, none⟩) (cell_lt h1) (by simpa using h.nb)]; exact h1, ?_, h3⟩
  by_cases hL : L = []
  · subst hL; exact .inl rfl
  · rcases h2 with h2 | ⟨b, o, rfl, hc⟩
    · exact .inl h2
    · refine .inr ⟨b, o, rfl, fun j u hu => ?_⟩
      have := hc j u hu
      rw [f.cell (p := ⟨b, o + j, none⟩) (cell_lt this) (by simpa using h3 b o rfl hL)]; exact this
theorem LdAt.drewN {w : World} {blk bx : Nat} {L : List Int} (h : LdAt w blk bx L) (n : Nat) : LdAt (w.drewN n) blk bx L := h.fr ((Fr.refl _ _).drewN n)

set_option maxHeartbeats 1000000 in
theorem clo_any (w : World) (blk bx : Nat) (L : List Int) (h : LdAt w blk bx L) (x y : Nat) (hx : x < L.length) (hy : y < L.length) :
    Calls Tryd.prog 33 #[.int .i64 x, .int .i64 y, .pointer (some ⟨bx, 0, none⟩)] w fun e w' => e = .returned (.int .i64 (cv L x y)) ∧ ∃ q, w' = w.drewN q := by
  obtain ⟨la, cap, h1, h2, h3⟩ := h.ex
  obtain ⟨b, o, rfl, c1⟩ := is_at h2 x hx
  obtain ⟨b2, o2, e2, c2⟩ := is_at h2 y hy
  obtain ⟨rfl, rfl⟩ : b = b2 ∧ o = o2 := by injection e2 with e2; injection e2 with e2 e3; exact ⟨e2, e3⟩
  rw [← ldf_at L x hx] at c1
  rw [← ldf_at L y hy] at c2
  have HV : Hid (cv L x y = cmpI (ldf L y) (ldf L x)) := rfl
  have hl := h.le
  clear h h2 h3 e2
  obtain ⟨n, hn⟩ : ∃ n, L.length = n := ⟨_, rfl⟩
  rw [hn] at h1 hx hy hl
  have hxz : (x : Int) < (n : Int) := by omega
  have hyz : (y : Int) < (n : Int) := by omega
  generalize hlx : ldf L x = lx at c1 HV
  generalize hly : ldf L y = ly at c2 HV
  clear hlx hly hn
  go_enter Tryd.func33, Tryd.ntmps33
  go_wp2_with fail
  go_quiet ((go_at_call 34; exact Calls.quiet_of_same ((cmp_any _ _ _).mono fun e w' h => ⟨h.1, h.2.symm⟩)))
  go_wp2_with fail
  go_ret
  exact ⟨by rw [HV.out]; rfl, _, rfl⟩
def cmpF (bx : Nat) : Value := .func (.func 33) #[] #[.pointer (some ⟨bx, 0, none⟩)]
end Go.Proofs.YtfkeokeedljomaaDoor
