/-
  Whatever the number of workers and the key are, weirlaw1.GroupParts returns true and leaves its arguments as they were: groups are parted among the workers. No condition.
-/
import Derived.Test.YtiofpimchbhfcaaWalks
import Derived.WalkKit
import Derived.ProofKit
import Derived.OpenShut
import Derived.ShutString
namespace Go.Proofs.Ytiofpimchbhfcaa.groupParts
open Go.ChangeShapes Go.WideShapes Go.ChangeAt Go.RowKit
open Go.ChangeMaps (open_string shut_string)
set_option linter.unusedVariables false      -- a walk need not use every 'w<i>' (that an integer argument fits its kind)

theorem own : ownKnob Try.prog.godebug = none := by kernel_rfl

/-! ### STEP 1: THE WALK: the Go text returns true. 'Grown w w'': the world has at most new blocks (Derived/RowKit3.lean). Part the cases AHEAD of 'go_enter' where a test parts the walk; take each callee by a contract of your own. -/
set_option maxRecDepth 100000 in
set_option maxHeartbeats 1000000 in
theorem walk (a0 : Int) (a1 : ByteArray) (w0 : (Lit.int .i64 a0).wf = true) (w1 : a1.size ≤ maxLen) (w : World) :
    Calls Try.prog 3 #[.int .i64 a0, .string a1] w fun e w' => e = .returned (.bool true) ∧ Grown w w' := by
  have f1 : who 3 6 = 1 := rfl
  by_cases hp : a0 < 1 ∨ 16 < a0
  · go_enter Try.func3, Try.ntmps3
    go_wp2_with fail
    refine (Owner_yes _ _ _ (by omega) (by omega) (by omega) (by omega)).mono ?_; rintro e w' ⟨rfl, rfl⟩
    go_wp2_with (go_at_call 7; refine (Range_no1 _ _ _ hp).mono ?_; rintro e w' ⟨rfl, rfl⟩)
    all_goals (go_ret; exact ⟨rfl, Grown.refl _⟩)
  · have p1 : ¬ a0 < 1 := by omega
    have p2 : ¬ 16 < a0 := by omega
    have P1 : 1 ≤ a0 := by omega
    have P2 : a0 ≤ 16 := by omega
    clear hp
    have hpart := part_bd P1 P2
    obtain ⟨q1, q2⟩ := hpart
    go_enter Try.func3, Try.ntmps3
    go_wp2_with fail
    refine (Owner_yes _ _ _ (by omega) (by omega) (by omega) (by omega)).mono ?_; rintro e w' ⟨rfl, rfl⟩
    go_wp2_with fail
    go_loop [10, 11, 12, 13] (fun t10 t11 t12 t13 => ∃ i least most : Int, 0 ≤ i ∧ i ≤ a0 ∧ 16 / a0 ≤ least ∧ least ≤ 16 ∧ 0 ≤ most ∧ most ≤ 16 / a0 + 1 ∧ t10 = .int .i64 (bgn a0 i) ∧ t11 = .int .i64 least ∧ t12 = .int .i64 most ∧ t13 = .int .i64 i) (fun _ _ _ t13 => (a0 - intOf t13).toNat)
    case atStart => exact ⟨0, 16, 0, by omega, by omega, q2, by omega, by omega, by omega, by rw [bgn_zero P1 P2], rfl, rfl, rfl⟩
    case round =>
      obtain ⟨i, least, most, i1, i2, l1, l2, m1, m2, rfl, rfl, rfl, rfl⟩ := hrel
      by_cases hlt : i < a0
      · obtain ⟨b1, b2, b3, b4, b5⟩ := bgn_step P1 P2 i1 hlt
        go_wp2_with fail
        refine (Range_yes _ _ _ P1 P2 i1 hlt).mono ?_; rintro e w' ⟨rfl, rfl⟩
        go_wp2_with fail
        go_loop [17] (fun t => ∃ g : Int, bgn a0 i ≤ g ∧ g ≤ bgn a0 (i + 1) ∧ t = .int .i64 g) (fun t => (bgn a0 (i + 1) - intOf t).toNat)
        case atStart => exact ⟨_, by omega, by omega, rfl⟩
        case round =>
          obtain ⟨g, g1, g2, rfl⟩ := hrel
          by_cases hg : g < bgn a0 (i + 1)
          · have hw := who_of P1 P2 i1 hlt g1 hg
            go_wp2_with fail
            refine (Owner_yes _ _ _ P1 P2 (by omega) (by omega)).mono ?_; rintro e w' ⟨rfl, rfl⟩
            go_wp2
            exact ⟨⟨g + 1, by omega, by omega, rfl⟩, by simp [intOf]; omega⟩
          · by_cases c1 : bgn a0 (i + 1) - bgn a0 i < least
            · by_cases c2 : most < bgn a0 (i + 1) - bgn a0 i
              · go_wp2
                exact ⟨⟨i + 1, _, _, by omega, by omega, b4, by omega, by omega, b5, rfl, rfl, rfl, rfl⟩, by simp [intOf]; omega⟩
              · go_wp2
                exact ⟨⟨i + 1, _, _, by omega, by omega, b4, by omega, m1, m2, rfl, rfl, rfl, rfl⟩, by simp [intOf]; omega⟩
            · by_cases c2 : most < bgn a0 (i + 1) - bgn a0 i
              · go_wp2
                exact ⟨⟨i + 1, _, _, by omega, by omega, l1, l2, by omega, b5, rfl, rfl, rfl, rfl⟩, by simp [intOf]; omega⟩
              · go_wp2
                exact ⟨⟨i + 1, _, _, by omega, by omega, l1, l2, m1, m2, rfl, rfl, rfl, rfl⟩, by simp [intOf]; omega⟩
      · have hi : i = a0 := by omega
        subst hi
        have hend := bgn_end P1 P2
        go_wp2_with fail
        refine (Of_any _ _ w1).mono ?_; rintro e w' ⟨x, x1, x2, rfl, rfl⟩
        go_wp2
        go_ret
        exact ⟨rfl, Grown.refl _⟩

/-! ### THE ROW's STEP: WRITTEN OUT: LEAVE IT -/
set_option maxRecDepth 100000 in
theorem lifted (os : Os) (started : os.Started) (H : Type) (enc : TypeId × Value → H) :
    ReturnsInHanded {} Try.checked os 3 .any (Rows.groupPartsSpec.pre6 enc Try.prog Try.f3 Rows.groupPartsRow.domain false) (Rows.groupPartsSpec.post enc Try.prog Try.f3 false true false false) := by
  refine returnsInHanded_of_change (C := Try.checked) own started (by kernel_rfl) Try.func3
    (ChangeSpec.witness6 (enc := enc) (C := Try.checked) false ⟨#[], #[.int .i64 0, .string ByteArray.empty], []⟩ 8 (by kernel_rfl) (by kernel_rfl) (by kernel_rfl) (by kernel_rfl)) ?_
  intro W base args ds gs before hval0 hW hcnd _
  have hval : ∀ (j : Nat) t v, Try.f3.params[j]? = some t → args[j]? = some v → Value.okWide Try.prog W .any base t v := hval0
  have hW' := hW
  obtain ⟨p, q, hA0, hV, rfl, hfz, hnd⟩ := hW
  have hA : DataW.TrodAll enc Try.prog W 0 (fun _ => true) true Try.f3.params.toList args.toList ds p := hA0
  rw [Try.params3] at hA hval
  obtain ⟨v0, vs0, d0, ds0, p0, q0, hargs, rfl, rfl, h0, r0⟩ := trodAll_cons hA
  obtain ⟨v1, vs1, d1, ds1, p1, q1, rfl, rfl, rfl, h1, r1⟩ := trodAll_cons r0
  obtain ⟨rfl, rfl, rfl⟩ := trodAll_nil r1
  obtain rfl : args = #[v0, v1] := by cases args; simp_all
  obtain ⟨rfl, rfl⟩ := trodVars_none hV
  obtain ⟨a0, rfl, rfl, rfl, w0⟩ := open_int Try.underlying3 (hval 0 3 v0 rfl rfl) h0
  obtain ⟨a1, rfl, rfl, rfl, w1⟩ := open_string Try.underlying9 (hval 1 9 v1 rfl rfl) h1
  clear hA0 hval0
  simp only [List.append_nil] at hW'
  refine (walk a0 a1 w0 w1 W).mono fun e W' ⟨he, hg⟩ => ?_
  subst he
  exact ⟨_, rfl, post_of_same (pa := []) (pv := []) hW' (fun _ _ _ => (trodAll_cons_mk (shut_bool Try.underlying4 _) trodAll_mk0)) (fun sp _ => (trodAll_cons_mk (shut_int Try.underlying3 w0) (trodAll_cons_mk (shut_string Try.underlying9 w1) trodAll_mk0))) (fun _ _ => rfl) rfl
    (hg.frame _) hg.2.1 (ok_one (by kernel_rfl) rfl (okWide_bool_mk Try.underlying4 _))⟩

theorem over : Rows.groupPartsRow.holds Try.pinned (OpenSpec.ofChange Rows.groupPartsSpec) :=
  OpenClaim.holds_of_wide 3 Try.f3 rfl rfl rfl rfl rfl rfl rfl ⟨rfl, rfl, rfl, rfl, rfl⟩ rfl rfl rfl rfl rfl (by kernel_rfl) Try.func3 (by kernel_rfl)
    (of_decide_eq_true (by kernel_rfl)) (by unfold Func.isWrapper; first | (rw [if_pos (by decide +kernel)]; kernel_rfl) | (rw [if_neg (by decide +kernel)]; exact ⟨rfl, rfl⟩))
    (fun os started H enc _ => lifted os started H enc)

/-- ████ THE STATEMENT ████ -/
theorem proved : Rows.GroupPartsSaid :=
  over
end Go.Proofs.Ytiofpimchbhfcaa.groupParts
namespace Go.Proofs.Ytiofpimchbhfcaa
theorem groupParts_holds : Rows.GroupPartsSaid := groupParts.proved
#print axioms groupParts_holds
end Go.Proofs.Ytiofpimchbhfcaa
