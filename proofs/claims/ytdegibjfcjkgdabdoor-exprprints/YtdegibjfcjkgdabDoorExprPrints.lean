/-
  Whatever the text and the two numbers are, weirlaw1.ExprPrints returns true and leaves its arguments as they were: what is printed is no longer than the text, is printed as it is, and comes to the same. Condition: the listed variables of the library hold what their own initialisers lay (the tied card).
-/
import Derived.Test.YtdegibjfcjkgdabDoorRv
import Derived.Lib.LaidTab
import Derived.Test.YtdegibjfcjkgdabDoorCards
import Derived.Test.YtdegibjfcjkgdabDoorTie
import Derived.SevenTiedAt
import Derived.ShutString
import Derived.ChangeOld
import Derived.SizedLaws
namespace Go.Proofs.YtdegibjfcjkgdabDoor
open Go.ChangeShapes Go.WideShapes Go.RowKit
open Go.ChangeMaps (open_string shut_string)
namespace exprPrints

theorem short_of {s : ByteArray} (h : s.data.toList.length ≤ reachBytes) : s.size ≤ 140737488355328 := by
  have h2 := reachBytes_lt
  have e1 : s.size = s.data.size := rfl
  have e2 : s.data.toList.length = s.data.size := Array.length_toList
  have e3 : (2 : Nat) ^ 47 = 140737488355328 := by decide
  omega

theorem gT : Tryd.prog.globalNamed "internal/strconv.uint64pow10" = some 0 := by kernel_rfl
theorem gTType : (Tryd.prog.globals[0]?).map (·.type) = some 72 := by kernel_rfl
theorem cellsT : Tryd.prog.cellsOf 72 = 20 := by kernel_rfl
theorem cellsU : Tryd.prog.cellsOf 63 = 1 := by kernel_rfl
theorem tab_of_laid {W : World} (h : laidMet Tryd.prog laidL W) : TabOK W :=
  Lib.tabIs_of_head gT gTType Tryd.underlying72 Tryd.underlying63 cellsU cellsT (h.tail.tail)
theorem below_step {w w1 w2 : World} (h : Below w.heap.size w w1) (k : Below w1.heap.size w1 w2) : Below w.heap.size w w2 := h.trans (k.mono h.size)
theorem bool_true {b : Bool} (h : b = true) : Ending.returned (.bool b) = .returned (.bool true) := by rw [h]
theorem S_le {a : ByteArray} (za : a.size ≤ 140737488355328) : a.size ≤ 9223372036854775807 := by omega
theorem gnum (d k : Nat) (s : List UInt8) (h : s ≠ []) (hd : ∀ c ∈ s, isDg c = true) (h0 : s.head? = some 48 → s = [48]) (hv : valFrom 0 s < 9223372036854775808) (hk : k ≤ 5) : Gr d k s (.num (valFrom 0 s)) := (Gr.num d s h hd h0 hv).down k hk (by omega)
theorem rd_fact : readP [40, 40, 110, 41, 43, 40, 49, 41, 41, 42, 40, 50, 41] = .ok (.two 42 (.two 43 .vn (.num 1)) (.num 2)) [] :=
  read_of (by decide) ((Gr.mul (a := [40, 40, 110, 41, 43, 40, 49, 41, 41]) (b := [40, 50, 41]) 42 (by decide)
    (gr_brk (a := [40, 110, 41, 43, 40, 49, 41]) ((Gr.add (a := [40, 110, 41]) (b := [40, 49, 41]) 43 (by decide) (gr_brk (a := [110]) ((Gr.vn 18).down 0 (by omega) (by omega)) 2 (by omega)) (gr_brk (a := [49]) (gnum 18 0 [49] (by simp) (by decide) (by decide) (by decide) (by omega)) 3 (by omega))).down 0 (by omega) (by omega)) 3 (by omega))
    (gr_brk (a := [50]) (gnum 19 0 [50] (by simp) (by decide) (by decide) (by decide) (by omega)) 4 (by omega))).down 0 (by omega) (by omega))
theorem pr_fact' : prt (.two 42 (.two 43 .vn (.num 1)) (.num 2)) = [40, 110, 43, 49, 41, 42, 50] := by
  simp [prt, brk, rk, Tm.op, Lib.decDigits_one]
theorem pr_fact : (⟨(prt (.two 42 (.two 43 .vn (.num 1)) (.num 2))).toArray⟩ : ByteArray) = ⟨#[40, 110, 43, 49, 41, 42, 50]⟩ := by rw [pr_fact']

set_option maxRecDepth 100000 in
set_option maxHeartbeats 4000000 in
theorem walk (x : ByteArray) (n s : Int) (w : World) (hg : Gl w) (hld : laidMet Tryd.prog laidL w) (_ : x.size ≤ maxLen) (_ : (Lit.int .i64 n).wf = true) (_ : (Lit.int .i64 s).wf = true) (zx : x.size ≤ 140737488355328) :
    Calls Tryd.prog 3 #[.string x, .int .i64 n, .int .i64 s] w fun e w' => e = .returned (.bool true) ∧ Below w.heap.size w w' := by
  have hT := tab_of_laid hld
  clear hld
  cases hx : readP x.data.toList with
  | bad px ex =>
    have Hx := Lib.hid hx
    clear hx
    go_enter Tryd.func3, Tryd.ntmps3
    go_wp2_with (go_at_call 7; refine (print_ok' (x := ⟨#[40, 40, 110, 41, 43, 40, 49, 41, 41, 42, 40, 50, 41]⟩) rd_fact hg hT).mono ?_; rw [pr_fact]; rintro e w1 ⟨rfl, b1⟩; have g1 := (hg).below b1; have t1 := (hT).below b1; refine Hid.out ?_)
    refine Lib.hid ?_
    have B1 : Below w.heap.size w w1 := b1
    go_wp2_with (go_at_call 7; refine (print_bad (x := x) Hx.out g1 (S_le zx)).mono ?_; rintro e w2 ⟨rfl, b2⟩; have g2 := (g1).below b2; have t2 := (t1).below b2; refine Hid.out ?_)
    refine Lib.hid ?_
    have B2 : Below w.heap.size w w2 := below_step B1 b2
    go_wp2_with fail
    all_goals
      go_ret
      refine ⟨?_, B2⟩
    all_goals first | rfl | exact bool_true (by simp)
  | ok t u =>
    obtain rfl := (read_ok hx).2.1
    obtain ⟨h1, h2⟩ := print_ok hx
    obtain ⟨pb, hpb⟩ : ∃ pb : ByteArray, (⟨(prt t).toArray⟩ : ByteArray) = pb := ⟨_, rfl⟩
    have hl : pb.data.toList = prt t := by rw [← hpb]
    have Hq : Hid (readP pb.data.toList = .ok t []) := by show _ = _; rw [hl]; exact h1
    have hle : pb.size ≤ x.size := by
      have e1 : pb.size = pb.data.toList.length := by simp
      have e2 : x.data.toList.length = x.size := by simp
      rw [hl] at e1; omega
    have yx : x.size ≤ 120 := by have := (read_ok hx).1; simpa using this
    have HP := Lib.hid hpb
    have Hx := Lib.hid hx
    clear hx h1 h2 hpb hl
    go_enter Tryd.func3, Tryd.ntmps3
    go_wp2_with (go_at_call 7; refine (print_ok' (x := ⟨#[40, 40, 110, 41, 43, 40, 49, 41, 41, 42, 40, 50, 41]⟩) rd_fact hg hT).mono ?_; rw [pr_fact]; rintro e w1 ⟨rfl, b1⟩; have g1 := (hg).below b1; have t1 := (hT).below b1; refine Hid.out ?_)
    refine Lib.hid ?_
    have B1 : Below w.heap.size w w1 := b1
    go_wp2_with (go_at_call 7; refine (print_ok' (x := x) Hx.out g1 t1).mono ?_; rw [HP.out]; rintro e w2 ⟨rfl, b2⟩; have g2 := (g1).below b2; have t2 := (t1).below b2; refine Hid.out ?_)
    refine Lib.hid ?_
    have B2 : Below w.heap.size w w2 := below_step B1 b2
    go_wp2_with (go_at_call 7; refine (print_ok' (x := pb) Hq.out g2 t2).mono ?_; rw [HP.out]; rintro e w3 ⟨rfl, b3⟩; have g3 := (g2).below b3; have t3 := (t2).below b3; refine Hid.out ?_)
    refine Lib.hid ?_
    have B3 : Below w.heap.size w w3 := below_step B2 b3
    go_wp2_with (go_at_call 8; refine (eval_ok (x := x) Hx.out g3 n s).mono ?_; rintro e w4 ⟨rfl, b4⟩; have g4 := (g3).below b4; have t4 := (t3).below b4; refine Hid.out ?_)
    refine Lib.hid ?_
    have B4 : Below w.heap.size w w4 := below_step B3 b4
    go_wp2_with (go_at_call 8; refine (eval_ok (x := pb) Hq.out g4 n s).mono ?_; rintro e w5 ⟨rfl, b5⟩; have g5 := (g4).below b5; have t5 := (t4).below b5; refine Hid.out ?_)
    refine Lib.hid ?_
    have B5 : Below w.heap.size w w5 := below_step B4 b5
    go_wp2_with fail
    all_goals
      go_ret
      refine ⟨?_, B5⟩
    all_goals first | rfl | exact bool_true (by simp)

set_option maxRecDepth 100000 in
theorem lifted (os : Os) (started : os.Started) (H : Type) (enc : TypeId × Value → H) :
    ReturnsInHanded {} Tryd.checked os 3 .any (fun w args => (Rows.exprPrintsSpec.pre enc Tryd.prog Tryd.f3 [] false w args ∧ laidMetH Tryd.prog laidL w) ∧ sizedMet enc Tryd.prog Tryd.f3 (OpenSpec.ofChange Rows.exprPrintsSpec) false w args)
      (Rows.exprPrintsSpec.post enc Tryd.prog Tryd.f3 false true false false) := by
  refine returnsInHanded_of_change_and (C := Tryd.checked) (X := fun w _ => laidMetH Tryd.prog laidL w) (fun _ _ _ hh h => h.of_heap hh) Tryd.own started (by kernel_rfl) Tryd.func3
    (ChangeSpec.witness_at (enc := enc) (C := Tryd.checked) (os := os) (X := fun w _ => laidMetH Tryd.prog laidL w) false (laidAt (World.holding Tryd.prog os ⟨ownBlocks, #[], []⟩)) #[.string ByteArray.empty, .int .i64 0, .int .i64 0] 8 rfl (by kernel_rfl) (by kernel_rfl) (by kernel_rfl) (by kernel_rfl) (by kernel_rfl) (laidWorld_met os _)) ?_
  intro W base args ds gs before hval0 hW _ hsz0 hL _
  have hsz : (DataW.weightsEach Tryd.prog (Tryd.f3.params.toList ++ Rows.exprPrintsSpec.plain.varTypes Tryd.prog) (ds ++ gs)).all (· ≤ reachBytes) = true := hsz0
  clear hsz0
  have hval : ∀ (j : Nat) t v, Tryd.f3.params[j]? = some t → args[j]? = some v → Value.okWide Tryd.prog W .any base t v := hval0
  have hW' := hW
  obtain ⟨p, q, hA0, hV0, rfl, hfz, hnd⟩ := hW
  have hA : DataW.TrodAll enc Tryd.prog W 0 (fun _ => true) true Tryd.f3.params.toList args.toList ds p := hA0
  have hV : DataW.TrodVars enc Tryd.prog W (fun _ => true) [] gs q := hV0
  rw [Tryd.params3] at hA hval hsz
  obtain ⟨v0, vs0, d0, ds0, p0, q0, hargs, rfl, rfl, h0, r0⟩ := trodAll_cons hA
  obtain ⟨v1, vs1, d1, ds1, p1, q1, rfl, rfl, rfl, h1, r1⟩ := trodAll_cons r0
  obtain ⟨v2, vs2, d2, ds2, p2, q2, rfl, rfl, rfl, h2, r2⟩ := trodAll_cons r1
  obtain ⟨rfl, rfl, rfl⟩ := trodAll_nil r2
  obtain rfl : args = #[v0, v1, v2] := by cases args; simp_all
  obtain ⟨a0, rfl, rfl, rfl, w0⟩ := open_string Tryd.underlying9 (hval 0 9 v0 rfl rfl) h0
  obtain ⟨a1, rfl, rfl, rfl, w1⟩ := open_int Tryd.underlying3 (hval 1 3 v1 rfl rfl) h1
  obtain ⟨a2, rfl, rfl, rfl, w2⟩ := open_int Tryd.underlying3 (hval 2 3 v2 rfl rfl) h2
  have z0 : a0.size ≤ 140737488355328 := short_of (sized_string hsz (j := 0) (t := 9) rfl rfl)
  have hg := gl_of_laid hL
  have hld : laidMet Tryd.prog laidL W := hL
  obtain ⟨rfl, rfl⟩ : gs = [] ∧ q = [] := by
    cases gs with
    | nil => exact ⟨rfl, hV⟩
    | cons g r => exact absurd hV (by intro h; cases h)
  clear hA0 hval0
  refine (walk a0 a1 a2 W hg hld w0 w1 w2 z0).mono fun e W' ⟨he, bel⟩ => ?_
  subst he
  exact ⟨_, rfl, _, _, _, [], [], [], hW', trodAll_mk1 (shut_bool Tryd.underlying4 true), trodAll_cons_mk (shut_string Tryd.underlying9 w0) (trodAll_cons_mk (shut_int Tryd.underlying3 w1) (trodAll_cons_mk (shut_int Tryd.underlying3 w2) trodAll_mk0)), rfl, bel.frame _, fun h => by cases h⟩

theorem over : Rows.ExprPrintsSaid :=
  OpenClaim.holds_of_wide 3 Tryd.f3 rfl rfl rfl rfl rfl rfl rfl ⟨rfl, rfl, rfl, rfl, rfl⟩ rfl rfl rfl rfl rfl (by kernel_rfl) Tryd.func3 (by kernel_rfl)
    (of_decide_eq_true (by kernel_rfl)) (by unfold Func.isWrapper; rw [if_neg (of_decide_eq_false (by kernel_rfl))]; exact ⟨rfl, rfl⟩)
    (fun os started H enc _ => lifted os started H enc)
end exprPrints

theorem exprPrints_holds : Rows.ExprPrintsCardSaid :=
  Claim7.holds_tied_plain_at .later [] [.data, .data, .data, .sentinel, .sentinel] true (true, "6ba79705c3ab4ae7c2f6e4f1e57e496162f3eb4dafaefe561ba60f516a745a1e") true
    exprPrints.over (fun _ h => by cases h) (by kernel_rfl) (fun _ h => by cases h) exprPrints_row_tie rfl ⟨rfl, rfl⟩ (by kernel_rfl) rfl
    (fun f fn hf hfn => by
      obtain rfl : f = 3 := Option.some.inj ((show Tryd.prog.funcNamed Tryd.f3.name = some 3 by kernel_rfl).symm.trans hf) |>.symm
      obtain rfl : fn = Tryd.f3 := (Option.some.inj (Tryd.func3.symm.trans hfn)).symm
      exact ⟨by kernel_rfl, fun j t ht => by
        rw [Tryd.params3] at ht
        match j, ht with
        | 0, ht =>
          obtain rfl : t = 9 := by simpa using ht.symm
          exact (show Tryd.prog.wantsStandIn 9 = false by kernel_rfl)
        | 1, ht =>
          obtain rfl : t = 3 := by simpa using ht.symm
          exact (show Tryd.prog.wantsStandIn 3 = false by kernel_rfl)
        | 2, ht =>
          obtain rfl : t = 3 := by simpa using ht.symm
          exact (show Tryd.prog.wantsStandIn 3 = false by kernel_rfl)
        | n + 3, ht => simp at ht⟩)
    (by kernel_rfl)
#print axioms exprPrints_holds
end Go.Proofs.YtdegibjfcjkgdabDoor
