/- Lines in memory; slices.Equal; begins. -/
import Derived.Test.YthcgjbpiiodlgaaDoorPm
namespace Go.Proofs.YthcgjbpiiodlgaaDoor
open Go.RowKit

/-- A line's two cells. -/
def LnAt (w : World) (b o : Nat) (l : Ln) : Prop :=
  w.cell? ⟨b, o, none⟩ = some (.string l.1) ∧ (∃ fa fc, w.cell? ⟨b, o + 1, none⟩ = some (.slice fa l.2.length fc) ∧ IntsAt w fa l.2 ∧ l.2.length ≤ fc ∧ fc ≤ 9223372036854775807) ∧ l.1.size ≤ 9223372036854775807
def LnsAt (w : World) (la : Option Addr) (L : List Ln) : Prop :=
  L = [] ∨ ∃ b o, la = some ⟨b, o, none⟩ ∧ ∀ (i : Nat) (h : i < L.length), LnAt w b (o + i * 2) L[i]

theorem LnAt.keep {w w' : World} {b o : Nat} {l : Ln} (h : LnAt w b o l) (k : Keeps w w') : LnAt w' b o l := by
  obtain ⟨h0, ⟨fa, fc, h1, h2, h3⟩, h4⟩ := h
  exact ⟨k _ _ h0, ⟨fa, fc, k _ _ h1, h2.keep k, h3⟩, h4⟩
theorem LnsAt.keep {w w' : World} {la : Option Addr} {L : List Ln} (h : LnsAt w la L) (k : Keeps w w') : LnsAt w' la L := by
  rcases h with h | ⟨b, o, h1, h2⟩
  · exact .inl h
  · exact .inr ⟨b, o, h1, fun i hi => (h2 i hi).keep k⟩
theorem keeps_drewN (w : World) (n : Nat) : Keeps w (w.drewN n) := fun _ _ h => h

theorem drewN_two (w : World) (n m : Nat) : (w.drewN n).drewN m = w.drewN (n + m) := by simp [World.drewN, Nat.add_assoc]
theorem take_ne {z y : List Int} {j : Nat} (h1 : j < z.length) (h2 : j < y.length) (hne : z[j] ≠ y[j]) : z ≠ y := fun e => by subst e; exact hne rfl
theorem take_step {z y : List Int} {j : Nat} (h1 : j < z.length) (h2 : j < y.length) (h : z.take j = y.take j) (he : z[j] = y[j]) : z.take (j + 1) = y.take (j + 1) := by
  rw [List.take_succ_eq_append_getElem h1, List.take_succ_eq_append_getElem h2, h, he]

set_option maxHeartbeats 1000000 in
theorem equal_any {w : World} {la lb : Option Addr} {z y : List Int} (ha : IntsAt w la z) (hb : IntsAt w lb y) (ca cb : Nat) (hz : z.length ≤ 9223372036854775807) (hy : y.length ≤ 9223372036854775807) :
    Calls Tryd.prog 45 #[.slice la z.length ca, .slice lb y.length cb] w fun e w' => e = .returned (.bool (decide (z = y))) ∧ ∃ n, w' = w.drewN n := by
  by_cases hl : z.length = y.length
  · have hne : ((z.length : Int) != (y.length : Int)) = false := by simp [hl]
    have Hl : Hid (z.length = y.length) := hl
    clear hl
    go_enter Tryd.func45, Tryd.ntmps45
    go_wp2_with fail
    go_loopw [13] (fun i wr => ∃ j : Nat, j ≤ z.length ∧ i = .int .i64 j ∧ z.take j = y.take j ∧ ∃ n, wr = w.drewN n) (fun i _ => z.length - (intOf i).toNat)
    case atStart => exact ⟨0, by omega, rfl, rfl, 0, rfl⟩
    case round =>
      obtain ⟨j, hj, rfl, ht, n, rfl⟩ := hrel
      have Ht : Hid (z.take j = y.take j) := ht
      clear ht
      by_cases hlt : j < z.length
      · have hi : (j : Int) < z.length := by omega
        have hlt2 : j < y.length := by have := Hl.out; omega
        have hi2 : (j : Int) < y.length := by omega
        rcases ha with ha | ⟨b1, o1, rfl, ha⟩
        · subst ha; simp at hlt
        rcases hb with hb | ⟨b2, o2, rfl, hb⟩
        · subst hb; simp at hlt2
        have c1 := ha j hlt
        have c2 := hb j hlt2
        clear ha hb
        by_cases he : z[j] = y[j]
        · have Hs : Hid (z.take (j + 1) = y.take (j + 1)) := take_step hlt hlt2 Ht.out he
          rw [← he] at c2
          clear he
          generalize z[j] = x at *
          go_wp2_with fail
          go_quiet (fail)
          go_wp2_with fail
          exact ⟨⟨j + 1, by omega, by go_num, Hs.out, n + nq, rfl⟩, by simp [intOf]; omega⟩
        · have Hs : Hid (z ≠ y) := take_ne hlt hlt2 he
          have hb1 : (z[j] != y[j]) = true := by simp [he]
          clear he
          generalize z[j] = x at *
          generalize y[j] = x2 at *
          go_wp2_with fail
          go_quiet (fail)
          go_wp2_with fail
          go_ret
          exact ⟨by rw [decide_eq_false Hs.out]; rfl, n + nq, (drewN_two w n nq)⟩
      · have hi : ¬ (j : Int) < z.length := by omega
        have Hs : Hid (z = y) := by
          have e : j = z.length := by omega
          have h1 := Ht.out
          rw [e, List.take_of_length_le (Nat.le_refl _), List.take_of_length_le (by have := Hl.out; omega)] at h1
          exact h1
        go_wp2
        go_ret
        exact ⟨by rw [decide_eq_true Hs.out]; rfl, n, rfl⟩
  · have hne : ((z.length : Int) != (y.length : Int)) = true := by simp; omega
    have Hs : Hid (z ≠ y) := fun e => hl (by rw [e])
    clear hl
    go_enter Tryd.func45, Tryd.ntmps45
    go_wp2_with fail
    go_ret
    exact ⟨by rw [decide_eq_false Hs.out]; rfl, 0, rfl⟩

theorem IntsAt.take {w : World} {la : Option Addr} {z : List Int} (h : IntsAt w la z) (k : Nat) : IntsAt w la (z.take k) := by
  rcases h with h | ⟨b, o, h1, h2⟩
  · exact .inl (by simp [h])
  · refine .inr ⟨b, o, h1, fun j hj => ?_⟩
    have hj' : j < z.length := by simp at hj; omega
    rw [h2 j hj']; simp

set_option maxHeartbeats 1000000 in
theorem begins_any {w : World} {la lb : Option Addr} {z y : List Int} (ha : IntsAt w la z) (hb : IntsAt w lb y) (ca cb : Nat) (hz : z.length ≤ 9223372036854775807) (hy : y.length ≤ cb) :
    Calls Tryd.prog 35 #[.slice la z.length ca, .slice lb y.length cb] w fun e w' => e = .returned (.bool (decide (z <+: y))) ∧ ∃ n, w' = w.drewN n := by
  by_cases hl : z.length ≤ y.length
  · have ce := equal_any ha (hb.take z.length) ca cb hz (by simp; omega)
    have hd : (y.take z.length).length = z.length := by simp; omega
    rw [hd] at ce
    have hi : (z.length : Int) ≤ y.length := by omega
    have Hs : Hid (decide (z = y.take z.length) = decide (z <+: y)) := by
      show _ = _
      congr 1
      rw [List.prefix_iff_eq_take]
    have hi2 : (z.length : Int) ≤ cb := by omega
    generalize decide (z = y.take z.length) = r at *
    clear ha hb hd
    go_enter Tryd.func35, Tryd.ntmps35
    go_wp2_with (go_at_call 45; refine ce.mono ?_; rintro e w' ⟨rfl, n, rfl⟩)
    go_ret
    exact ⟨by rw [← Hs.out]; rfl, n, rfl⟩
  · have hi : ¬ (z.length : Int) ≤ y.length := by omega
    have Hs : Hid (¬ z <+: y) := fun h => hl h.length_le
    clear hl
    go_enter Tryd.func35, Tryd.ntmps35
    go_wp2_with fail
    go_ret
    exact ⟨by rw [decide_eq_false Hs.out]; rfl, 0, rfl⟩
end Go.Proofs.YthcgjbpiiodlgaaDoor
