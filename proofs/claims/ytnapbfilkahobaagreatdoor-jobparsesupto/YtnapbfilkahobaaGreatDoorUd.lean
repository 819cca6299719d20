/- JobParses: the walk, from what ParseJob answers. -/
import Derived.Test.YtnapbfilkahobaaGreatDoorHz
import Derived.Test.YtnapbfilkahobaaGreatDoorHx
import Derived.Test.YtnapbfilkahobaaGreatDoorErr
namespace Go.Proofs.YtnapbfilkahobaaGreatDoor
open Go.RowKit
set_option linter.unusedVariables false
set_option linter.unusedSimpArgs false
namespace jobParses
theorem error_any (n : Nat) (w : World) (hg : w.cell? ⟨1, 0, none⟩ = some ET) : Calls Tryz.prog 9 #[errV n, .int .i64 n] w fun e w' => e = .returned (.bool true) ∧ Below w.heap.size w w' := by
  by_cases h : n = 0
  · subst h; rw [errV_zero]; exact (error_nil w).mono fun e w' ⟨h1, h2⟩ => ⟨h1, by subst h2; exact Below.refl _ _⟩
  · rw [errV_pos h]; exact error_hit n w hg
theorem errV_form (n : Nat) : errV n = .nilIface ∨ ∃ t v, errV n = .iface t v := by
  by_cases h : n = 0
  · exact .inl (by rw [h, errV_zero])
  · exact .inr ⟨_, _, errV_pos h⟩
set_option maxRecDepth 100000 in
set_option maxHeartbeats 4000000 in
theorem parses_walk (hpj : ∀ (s : ByteArray) (w : World), s.size ≤ 100000000 → Calls Tryz.prog 23 #[.string s] w (PjEnd w (docLoop [] (cutC 10 s.data.toList)))) {w : World} (hg : Gj w) (het : w.cell? ⟨1, 0, none⟩ = some ET) (s : ByteArray) (hs : s.size ≤ 100000000) :
    Calls Tryz.prog 5 #[.string s] w fun e w' => e = .returned (.bool true) ∧ Below w.heap.size w w' := by
  have HP := hpj s w hs
  rw [dl_parse] at HP
  have HJ := Lib.hid (fun (u : World) (hu : Below w.heap.size w u) => jparse_any (hg.below hu) s hs)
  have HE := Lib.hid (fun (n : Nat) (u : World) (hu : Below w.heap.size w u) => error_any n u (et_below het hu))
  clear hpj
  cases hR : parseP false s.data.toList with
  | ok m =>
    have hl12 := (job_ok (back_text hR).1).1
    rw [hR] at HP
    have HPk : Calls Tryz.prog 23 #[.string s] w fun e w' => ∃ A cap, e = .returned (.tuple #[.slice A m.length cap, .int .i64 0, .int .i64 0]) ∧ NdsAt w' A m ∧ Below w.heap.size w w' :=
      HP.mono fun e w' ⟨h1, A, cap, h2, h3, _⟩ => ⟨A, cap, h2, h3, h1⟩
    have HJk : Hid (∀ (u : World), Below w.heap.size w u → Calls Tryz.prog 24 #[.string s] u fun e w' => ∃ A cap, e = .returned (.tuple #[.slice A m.length cap, .int .i64 0, .nilIface]) ∧ NdsAt w' A m ∧ Below u.heap.size u w') := fun u hu =>
      (HJ.out u hu).mono fun e w' ⟨h1, h2⟩ => by
        rcases h2 with ⟨m', A, cap, e1, e2, e3, -⟩ | ⟨a, er, e1, -⟩
        · rw [hR] at e1; injection e1 with e1; subst e1; exact ⟨A, cap, e2, e3, h1⟩
        · rw [hR] at e1; cases e1
    have HE0 := Lib.hid (HE.out 0)
    rw [errV_zero] at HE0
    clear HP HJ HE hR
    go_enter Tryz.func5, Tryz.ntmps5
    go_wp2_with (go_at_call 23; refine HPk.mono ?_; rintro e w1 ⟨A1, c1, rfl, N1, b1⟩; refine Hid.out ?_)
    refine Lib.hid ?_
    have H2 := HJk.out w1 b1
    go_wp2_with (go_at_call 24; refine H2.mono ?_; rintro e w2 ⟨A2, c2, rfl, N2, b2⟩; refine Hid.out ?_)
    refine Lib.hid ?_
    have B2 := below_two b1 b2
    have H3 := HE0.out w2 B2
    clear H2
    go_wp2_with (go_at_call 9; refine H3.mono ?_; rintro e w3 ⟨rfl, b3⟩; refine Hid.out ?_)
    refine Lib.hid ?_
    have B3 := below_two B2 b3
    have H4 := jobs_same (N2.keep (Keeps.of b3)) ((N1.keep (Keeps.of b2)).keep (Keeps.of b3)) c2 c1 hl12
    clear H3
    go_wp2_with (go_at_call 25; refine H4.mono ?_; rintro e w4 ⟨rfl, b4⟩; refine Hid.out ?_)
    refine Lib.hid ?_
    go_wp2_with fail
    go_ret
    exact ⟨rfl, below_two B3 b4⟩
  | bad a er =>
    rw [hR] at HP
    have HPk : Calls Tryz.prog 23 #[.string s] w fun e w' => e = .returned (.tuple #[.slice none 0 0, .int .i64 (a : Nat), .int .i64 (er : Nat)]) ∧ Below w.heap.size w w' :=
      HP.mono fun e w' ⟨h1, h2⟩ => ⟨h2, h1⟩
    have HJk : Hid (∀ (u : World), Below w.heap.size w u → Calls Tryz.prog 24 #[.string s] u fun e w' => e = .returned (.tuple #[.slice none 0 0, .int .i64 (a : Nat), errV er]) ∧ Below u.heap.size u w') := fun u hu =>
      (HJ.out u hu).mono fun e w' ⟨h1, h2⟩ => by
        rcases h2 with ⟨m', A, cap, e1, e2, e3, -⟩ | ⟨a', er', e1, e2⟩
        · rw [hR] at e1; cases e1
        · rw [hR] at e1; injection e1 with e3 e4; subst e3 e4; exact ⟨e2, h1⟩
    have HE0 := Lib.hid (HE.out er)
    have hf := errV_form er
    have HJb := Lib.hid (fun (u : World) => jobs_same (w := u) (la := none) (lb := none) (L := []) (.inl rfl) (.inl rfl) 0 0 (by simp))
    clear HP HJ HE hR
    generalize errV er = ev at *
    rcases hf with rfl | ⟨et, ep, rfl⟩
    all_goals
      go_enter Tryz.func5, Tryz.ntmps5
      go_wp2_with (go_at_call 23; refine HPk.mono ?_; rintro e w1 ⟨rfl, b1⟩; refine Hid.out ?_)
      refine Lib.hid ?_
      have H2 := HJk.out w1 b1
      go_wp2_with (go_at_call 24; refine H2.mono ?_; rintro e w2 ⟨rfl, b2⟩; refine Hid.out ?_)
      refine Lib.hid ?_
      have B2 := below_two b1 b2
      have H3 := HE0.out w2 B2
      clear H2
      go_wp2_with (go_at_call 9; refine H3.mono ?_; rintro e w3 ⟨rfl, b3⟩; refine Hid.out ?_)
      refine Lib.hid ?_
      have B3 := below_two B2 b3
      have H4 := HJb.out w3
      clear H3
      go_wp2_with (go_at_call 25; refine H4.mono ?_; rintro e w4 ⟨rfl, b4⟩; refine Hid.out ?_)
      refine Lib.hid ?_
      go_wp2_with fail
      go_ret
      exact ⟨rfl, below_two B3 b4⟩
end jobParses
end Go.Proofs.YtnapbfilkahobaaGreatDoor
