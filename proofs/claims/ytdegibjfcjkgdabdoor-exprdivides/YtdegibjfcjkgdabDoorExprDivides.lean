/-
  Whatever the two numbers are, weirlaw6.ExprDivides returns true and leaves its arguments as they were: the quotient times the divisor, and what is left, are what was divided. Condition: the listed variables of the library hold what their own initialisers lay (the tied card).
-/
import Derived.Test.YtdegibjfcjkgdabDoorRq
import Derived.Test.YtdegibjfcjkgdabDoorCards
import Derived.Test.YtdegibjfcjkgdabDoorTie
import Derived.SevenTiedAt
import Derived.ShutString
import Derived.ChangeOld
namespace Go.Proofs.YtdegibjfcjkgdabDoor
open Go.ChangeShapes Go.WideShapes Go.RowKit
open Go.ChangeMaps (open_string shut_string)
namespace exprDivides


theorem e0 : ev 7 2 (.two 47 .vn .vs) = 3 := by decide

set_option maxHeartbeats 1000000 in
theorem walk (n s : Int) (w : World) (hg : Gl w) (_ : laidMet Tryd.prog laidL w) (hn : (Lit.int .i64 n).wf = true) (_ : (Lit.int .i64 s).wf = true) :
    Calls Tryd.prog 6 #[.int .i64 n, .int .i64 s] w fun e w' => e = .returned (.bool true) ∧ Below w.heap.size w w' := by
  obtain ⟨n1, n2⟩ := wf_bd hn
  by_cases hz : s = 0
  · subst hz
    have E1 : Hid (ev n 0 (.two 47 .vn .vs) = 0) := by simp [Hid, ev, of2]
    have E2 : Hid (ev n 0 (.two 37 .vn .vs) = 0) := by simp [Hid, ev, of2]
    have E3 : Hid (ev n 0 (.two 43 (.two 42 (.two 47 .vn .vs) .vs) (.two 37 .vn .vs)) = 0) := by simp [Hid, ev, of2, wr]
    go_enter Tryd.func6, Tryd.ntmps6
    go_wp2_with (go_at_call 8; refine (eval_ok (x := ⟨#[110, 47, 115]⟩) rd_div hg 7 2).mono ?_; rw [e0]; rintro e w1 ⟨rfl, b1⟩; have g1 := hg.below b1; refine Hid.out ?_)
    refine Lib.hid ?_
    go_wp2_with (go_at_call 8; refine (eval_ok (x := ⟨#[110, 47, 115]⟩) rd_div g1 n 0).mono ?_; rw [E1.out]; rintro e w2 ⟨rfl, b2⟩; have g2 := g1.below b2; refine Hid.out ?_)
    refine Lib.hid ?_
    go_wp2_with (go_at_call 8; refine (eval_ok (x := ⟨#[110, 37, 115]⟩) rd_mod g2 n 0).mono ?_; rw [E2.out]; rintro e w3 ⟨rfl, b3⟩; have g3 := g2.below b3; refine Hid.out ?_)
    refine Lib.hid ?_
    go_wp2_with (go_at_call 8; refine (eval_ok (x := ⟨#[110, 47, 115, 42, 115, 43, 110, 37, 115]⟩) rd_back g3 n 0).mono ?_; rw [E3.out]; rintro e w4 ⟨rfl, b4⟩)
    all_goals
      go_ret
      refine ⟨?_, ((b1.trans (b2.mono b1.size)).trans (b3.mono (Nat.le_trans b1.size b2.size))).trans (b4.mono (Nat.le_trans b1.size (Nat.le_trans b2.size b3.size)))⟩
    rfl
  · have hb := div_back (s := s) n1 n2
    have hsg := tmod_sign n s
    have E1 : Hid (ev n s (.two 47 .vn .vs) = wr (n.tdiv s)) := by simp [Hid, ev, of2, hz]
    have E2 : Hid (ev n s (.two 37 .vn .vs) = n.tmod s) := by simp [Hid, ev, of2, hz]
    have E3 : Hid (ev n s (.two 43 (.two 42 (.two 47 .vn .vs) .vs) (.two 37 .vn .vs)) = n) := by
      show _ = _
      simp [ev, of2, hz]; exact hb
    generalize wr (n.tdiv s) = q at E1 hb
    generalize n.tmod s = m at E2 hb hsg
    have hb' : wrap64 (wrap64 (q * s) + m) = n := by rw [wr_eq, wr_eq]; exact hb
    clear hb
    have hB : Hid ((m == 0 || decide (m < 0) == decide (n < 0)) = true) := by
      show _ = _
      rcases hsg with h | h
      · simp [h]
      · by_cases h2 : n < 0
        · simp [h.2 h2, h2]
        · have : ¬ m < 0 := fun e => h2 (h.1 e)
          simp [this, h2]
    clear hsg
    go_enter Tryd.func6, Tryd.ntmps6
    go_wp2_with (go_at_call 8; refine (eval_ok (x := ⟨#[110, 47, 115]⟩) rd_div hg 7 2).mono ?_; rw [e0]; rintro e w1 ⟨rfl, b1⟩; have g1 := hg.below b1; refine Hid.out ?_)
    refine Lib.hid ?_
    go_wp2_with (go_at_call 8; refine (eval_ok (x := ⟨#[110, 47, 115]⟩) rd_div g1 n s).mono ?_; rw [E1.out]; rintro e w2 ⟨rfl, b2⟩; have g2 := g1.below b2; refine Hid.out ?_)
    refine Lib.hid ?_
    go_wp2_with (go_at_call 8; refine (eval_ok (x := ⟨#[110, 37, 115]⟩) rd_mod g2 n s).mono ?_; rw [E2.out]; rintro e w3 ⟨rfl, b3⟩; have g3 := g2.below b3; refine Hid.out ?_)
    refine Lib.hid ?_
    go_wp2_with (go_at_call 8; refine (eval_ok (x := ⟨#[110, 47, 115, 42, 115, 43, 110, 37, 115]⟩) rd_back g3 n s).mono ?_; rw [E3.out]; rintro e w4 ⟨rfl, b4⟩)
    all_goals
      go_ret
      refine ⟨?_, ((b1.trans (b2.mono b1.size)).trans (b3.mono (Nat.le_trans b1.size b2.size))).trans (b4.mono (Nat.le_trans b1.size (Nat.le_trans b2.size b3.size)))⟩
    all_goals first | exact congrArg (fun b => Ending.returned (.bool b)) hB.out | rfl

set_option maxRecDepth 100000 in
theorem lifted (os : Os) (started : os.Started) (H : Type) (enc : TypeId × Value → H) :
    ReturnsInHanded {} Tryd.checked os 6 .any (fun w args => (Rows.exprDividesSpec.pre enc Tryd.prog Tryd.f6 [] false w args ∧ laidMetH Tryd.prog laidL w) ∧ sizedMet enc Tryd.prog Tryd.f6 (OpenSpec.ofChange Rows.exprDividesSpec) false w args)
      (Rows.exprDividesSpec.post enc Tryd.prog Tryd.f6 false true false false) := by
  refine returnsInHanded_of_change_and (C := Tryd.checked) (X := fun w _ => laidMetH Tryd.prog laidL w) (fun _ _ _ hh h => h.of_heap hh) Tryd.own started (by kernel_rfl) Tryd.func6
    (ChangeSpec.witness_at (enc := enc) (C := Tryd.checked) (os := os) (X := fun w _ => laidMetH Tryd.prog laidL w) false (laidAt (World.holding Tryd.prog os ⟨ownBlocks, #[], []⟩)) #[.int .i64 0, .int .i64 0] 8 rfl (by kernel_rfl) (by kernel_rfl) (by kernel_rfl) (by kernel_rfl) (by kernel_rfl) (laidWorld_met os _)) ?_
  intro W base args ds gs before hval0 hW _ _ hL _
  have hval : ∀ (j : Nat) t v, Tryd.f6.params[j]? = some t → args[j]? = some v → Value.okWide Tryd.prog W .any base t v := hval0
  have hW' := hW
  obtain ⟨p, q, hA0, hV0, rfl, hfz, hnd⟩ := hW
  have hA : DataW.TrodAll enc Tryd.prog W 0 (fun _ => true) true Tryd.f6.params.toList args.toList ds p := hA0
  have hV : DataW.TrodVars enc Tryd.prog W (fun _ => true) [] gs q := hV0
  rw [Tryd.params6] at hA hval
  obtain ⟨v0, vs0, d0, ds0, p0, q0, hargs, rfl, rfl, h0, r0⟩ := trodAll_cons hA
  obtain ⟨v1, vs1, d1, ds1, p1, q1, rfl, rfl, rfl, h1, r1⟩ := trodAll_cons r0
  obtain ⟨rfl, rfl, rfl⟩ := trodAll_nil r1
  obtain rfl : args = #[v0, v1] := by cases args; simp_all
  obtain ⟨a0, rfl, rfl, rfl, w0⟩ := open_int Tryd.underlying3 (hval 0 3 v0 rfl rfl) h0
  obtain ⟨a1, rfl, rfl, rfl, w1⟩ := open_int Tryd.underlying3 (hval 1 3 v1 rfl rfl) h1
  have hg := gl_of_laid hL
  have hld : laidMet Tryd.prog laidL W := hL
  obtain ⟨rfl, rfl⟩ : gs = [] ∧ q = [] := by
    cases gs with
    | nil => exact ⟨rfl, hV⟩
    | cons g r => exact absurd hV (by intro h; cases h)
  clear hA0 hval0
  refine (walk a0 a1 W hg hld w0 w1).mono fun e W' ⟨he, bel⟩ => ?_
  subst he
  exact ⟨_, rfl, _, _, _, [], [], [], hW', trodAll_mk1 (shut_bool Tryd.underlying4 true), trodAll_cons_mk (shut_int Tryd.underlying3 w0) (trodAll_cons_mk (shut_int Tryd.underlying3 w1) trodAll_mk0), rfl, bel.frame _, fun h => by cases h⟩

theorem over : Rows.ExprDividesSaid :=
  OpenClaim.holds_of_wide 6 Tryd.f6 rfl rfl rfl rfl rfl rfl rfl ⟨rfl, rfl, rfl, rfl, rfl⟩ rfl rfl rfl rfl rfl (by kernel_rfl) Tryd.func6 (by kernel_rfl)
    (of_decide_eq_true (by kernel_rfl)) (by unfold Func.isWrapper; rw [if_neg (of_decide_eq_false (by kernel_rfl))]; exact ⟨rfl, rfl⟩)
    (fun os started H enc _ => lifted os started H enc)
end exprDivides

theorem exprDivides_holds : Rows.ExprDividesCardSaid :=
  Claim7.holds_tied_plain_at .later [] [.data, .data, .data, .sentinel, .sentinel] true (true, "6ba79705c3ab4ae7c2f6e4f1e57e496162f3eb4dafaefe561ba60f516a745a1e") true
    exprDivides.over (fun _ h => by cases h) (by kernel_rfl) (fun _ h => by cases h) exprDivides_row_tie rfl ⟨rfl, rfl⟩ (by kernel_rfl) rfl
    (fun f fn hf hfn => by
      obtain rfl : f = 6 := Option.some.inj ((show Tryd.prog.funcNamed Tryd.f6.name = some 6 by kernel_rfl).symm.trans hf) |>.symm
      obtain rfl : fn = Tryd.f6 := (Option.some.inj (Tryd.func6.symm.trans hfn)).symm
      exact ⟨by kernel_rfl, fun j t ht => by
        rw [Tryd.params6] at ht
        match j, ht with
        | 0, ht =>
          obtain rfl : t = 3 := by simpa using ht.symm
          exact (show Tryd.prog.wantsStandIn 3 = false by kernel_rfl)
        | 1, ht =>
          obtain rfl : t = 3 := by simpa using ht.symm
          exact (show Tryd.prog.wantsStandIn 3 = false by kernel_rfl)
        | n + 2, ht => simp at ht⟩)
    (by kernel_rfl)
#print axioms exprDivides_holds
end Go.Proofs.YtdegibjfcjkgdabDoor
