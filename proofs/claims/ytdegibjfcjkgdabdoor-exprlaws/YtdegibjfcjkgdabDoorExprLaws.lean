/-
  Whatever the two texts and the two numbers are, weirlaw6.ExprLaws returns true and leaves its arguments as they were: of two expressions that are short enough the sum and the least are the same either way, and just one of less, like and more is so. Condition: the listed variables of the library hold what their own initialisers lay (the tied card).
-/
import Derived.Test.YtdegibjfcjkgdabDoorRr
import Derived.Test.YtdegibjfcjkgdabDoorCards
import Derived.Test.YtdegibjfcjkgdabDoorTie
import Derived.SevenTiedAt
import Derived.ShutString
import Derived.ChangeOld
import Derived.SizedLaws
namespace Go.Proofs.YtdegibjfcjkgdabDoor
open Go.ChangeShapes Go.WideShapes Go.RowKit
open Go.ChangeMaps (open_string shut_string)
namespace exprLaws

theorem short_of {s : ByteArray} (h : s.data.toList.length ≤ reachBytes) : s.size ≤ 140737488355328 := by
  have h2 := reachBytes_lt
  have e1 : s.size = s.data.size := rfl
  have e2 : s.data.toList.length = s.data.size := Array.length_toList
  have e3 : (2 : Nat) ^ 47 = 140737488355328 := by decide
  omega

theorem e0 : ev 0 0 (.two 45 (.num 2) (.num 5)) = -3 := by decide
theorem rd_25 : readP [50, 45, 53] = .ok (.two 45 (.num 2) (.num 5)) [] :=
  read_of (by decide) ((Gr.add (a := [50]) (b := [53]) 45 (by decide) ((Gr.num 20 [50] (by simp) (by decide) (by decide) (by decide)).down 2 (by omega) (by omega)) ((Gr.num 20 [53] (by simp) (by decide) (by decide) (by decide)).down 3 (by omega) (by omega))).down 0 (by omega) (by omega))
theorem below_step {w w1 w2 : World} (h : Below w.heap.size w w1) (k : Below w1.heap.size w1 w2) : Below w.heap.size w w2 := h.trans (k.mono h.size)
theorem check_gen {w : World} {x : ByteArray} (hg : Gl w) (hmax : x.size ≤ 9223372036854775807) :
    Calls Tryd.prog 9 #[.string x] w fun e w' => ∃ (k : Int) (er : Value), e = .returned (.tuple #[.int .i64 k, er]) ∧ Below w.heap.size w w' := by
  refine (check_any hg hmax).mono ?_
  rintro e w' ⟨rfl, hb⟩
  unfold ckP
  split
  · exact ⟨_, _, rfl, hb⟩
  · exact ⟨_, _, rfl, hb⟩
theorem min_comm' (a b : Int) : of2 109 a b = of2 109 b a := by simp [of2]; omega
theorem three (a b : Int) : of2 62 b a = of2 60 a b ∧ wrap64 (wrap64 (of2 60 a b + of2 61 a b) + of2 60 b a) = 1 := by
  simp only [of2]
  by_cases h1 : a < b
  · have h2 : ¬ b < a := by omega
    have h3 : ¬ a = b := by omega
    simp [h1, h2, h3, wrap64]
  · by_cases h3 : a = b
    · subst h3; simp [wrap64]
    · have h2 : b < a := by omega
      simp [h1, h2, h3, wrap64]

set_option maxRecDepth 100000 in
set_option maxHeartbeats 4000000 in
theorem walk (a b : ByteArray) (n s : Int) (w : World) (hg : Gl w) (_ : laidMet Tryd.prog laidL w) (_ : a.size ≤ maxLen) (_ : b.size ≤ maxLen) (_ : (Lit.int .i64 n).wf = true) (_ : (Lit.int .i64 s).wf = true) (za : a.size ≤ 140737488355328) (zb : b.size ≤ 140737488355328) :
    Calls Tryd.prog 5 #[.string a, .string b, .int .i64 n, .int .i64 s] w fun e w' => e = .returned (.bool true) ∧ Below w.heap.size w w' := by
  have la : a.data.toList.length = a.size := by simp
  have lb : b.data.toList.length = b.size := by simp
  cases ha : readP a.data.toList with
  | bad pa ea =>
    have Ha := Lib.hid ha
    clear ha la lb
    go_enter Tryd.func5, Tryd.ntmps5
    go_wp2_with (go_at_call 8; refine (eval_ok (x := ⟨#[50, 45, 53]⟩) rd_25 hg 0 0).mono ?_; rw [e0]; rintro e w1 ⟨rfl, b1⟩; have g1 := (hg).below b1; refine Hid.out ?_)
    refine Lib.hid ?_
    have B1 : Below w.heap.size w w1 := b1
    go_wp2_with (go_at_call 9; refine (check_bad (x := _) Ha.out g1 (S_le za)).mono ?_; rintro e w2 ⟨k1, rfl, b2⟩; have g2 := (g1).below b2; refine Hid.out ?_)
    refine Lib.hid ?_
    have B2 : Below w.heap.size w w2 := below_step B1 b2
    go_wp2_with (go_at_call 9; refine (check_gen (x := _) g2 (S_le zb)).mono ?_; rintro e w3 ⟨k2, er2, rfl, b3⟩; have g3 := (g2).below b3; refine Hid.out ?_)
    refine Lib.hid ?_
    have B3 : Below w.heap.size w w3 := below_step B2 b3
    go_wp2_with (go_at_call 9; refine (check_gen (x := _) g3 (J_le 43 za zb)).mono ?_; rintro e w4 ⟨k3, er3, rfl, b4⟩; have g4 := (g3).below b4; refine Hid.out ?_)
    refine Lib.hid ?_
    have B4 : Below w.heap.size w w4 := below_step B3 b4
    go_wp2_with (go_at_call 9; refine (check_gen (x := _) g4 (M_le 105 110 za zb)).mono ?_; rintro e w5 ⟨k4, er4, rfl, b5⟩; have g5 := (g4).below b5; refine Hid.out ?_)
    refine Lib.hid ?_
    have B5 : Below w.heap.size w w5 := below_step B4 b5
    go_wp2_with fail
    go_ret
    exact ⟨rfl, B5⟩
  | ok ta ua =>
    obtain rfl := (read_ok ha).2.1
    cases hb : readP b.data.toList with
    | bad pb eb =>
      have Ha := Lib.hid ha
      have Hb := Lib.hid hb
      clear ha hb la lb
      go_enter Tryd.func5, Tryd.ntmps5
      go_wp2_with (go_at_call 8; refine (eval_ok (x := ⟨#[50, 45, 53]⟩) rd_25 hg 0 0).mono ?_; rw [e0]; rintro e w1 ⟨rfl, b1⟩; have g1 := (hg).below b1; refine Hid.out ?_)
      refine Lib.hid ?_
      have B1 : Below w.heap.size w w1 := b1
      go_wp2_with (go_at_call 9; refine (check_ok (x := _) Ha.out g1).mono ?_; rintro e w2 ⟨rfl, b2⟩; have g2 := (g1).below b2; refine Hid.out ?_)
      refine Lib.hid ?_
      have B2 : Below w.heap.size w w2 := below_step B1 b2
      go_wp2_with (go_at_call 9; refine (check_bad (x := _) Hb.out g2 (S_le zb)).mono ?_; rintro e w3 ⟨k2, rfl, b3⟩; have g3 := (g2).below b3; refine Hid.out ?_)
      refine Lib.hid ?_
      have B3 : Below w.heap.size w w3 := below_step B2 b3
      go_wp2_with (go_at_call 9; refine (check_gen (x := _) g3 (J_le 43 za zb)).mono ?_; rintro e w4 ⟨k3, er3, rfl, b4⟩; have g4 := (g3).below b4; refine Hid.out ?_)
      refine Lib.hid ?_
      have B4 : Below w.heap.size w w4 := below_step B3 b4
      go_wp2_with (go_at_call 9; refine (check_gen (x := _) g4 (M_le 105 110 za zb)).mono ?_; rintro e w5 ⟨k4, er4, rfl, b5⟩; have g5 := (g4).below b5; refine Hid.out ?_)
      refine Lib.hid ?_
      have B5 : Below w.heap.size w w5 := below_step B4 b5
      go_wp2_with fail
      go_ret
      exact ⟨rfl, B5⟩
    | ok tb ub =>
      obtain rfl := (read_ok hb).2.1
      cases hj : readP (jl 43 a.data.toList b.data.toList) with
      | bad pj ej =>
        have Ha := Lib.hid ha
        have Hb := Lib.hid hb
        have Hj := Lib.hid ((congrArg readP (J_list 43 a b)).trans hj)
        clear ha hb hj la lb
        go_enter Tryd.func5, Tryd.ntmps5
        go_wp2_with (go_at_call 8; refine (eval_ok (x := ⟨#[50, 45, 53]⟩) rd_25 hg 0 0).mono ?_; rw [e0]; rintro e w1 ⟨rfl, b1⟩; have g1 := (hg).below b1; refine Hid.out ?_)
        refine Lib.hid ?_
        have B1 : Below w.heap.size w w1 := b1
        go_wp2_with (go_at_call 9; refine (check_ok (x := _) Ha.out g1).mono ?_; rintro e w2 ⟨rfl, b2⟩; have g2 := (g1).below b2; refine Hid.out ?_)
        refine Lib.hid ?_
        have B2 : Below w.heap.size w w2 := below_step B1 b2
        go_wp2_with (go_at_call 9; refine (check_ok (x := _) Hb.out g2).mono ?_; rintro e w3 ⟨rfl, b3⟩; have g3 := (g2).below b3; refine Hid.out ?_)
        refine Lib.hid ?_
        have B3 : Below w.heap.size w w3 := below_step B2 b3
        go_wp2_with (go_at_call 9; refine (check_bad (x := _) Hj.out g3 (J_le 43 za zb)).mono ?_; rintro e w4 ⟨k3, rfl, b4⟩; have g4 := (g3).below b4; refine Hid.out ?_)
        refine Lib.hid ?_
        have B4 : Below w.heap.size w w4 := below_step B3 b4
        go_wp2_with (go_at_call 9; refine (check_gen (x := _) g4 (M_le 105 110 za zb)).mono ?_; rintro e w5 ⟨k4, er4, rfl, b5⟩; have g5 := (g4).below b5; refine Hid.out ?_)
        refine Lib.hid ?_
        have B5 : Below w.heap.size w w5 := below_step B4 b5
        go_wp2_with fail
        go_ret
        exact ⟨rfl, B5⟩
      | ok tj uj =>
        obtain ⟨rfl, ga, gb, gl⟩ := rd_in_add (by decide) ha hb hj
        obtain rfl := (read_ok hj).2.1
        cases hm : readP (ml 105 110 a.data.toList b.data.toList) with
        | bad pm em =>
          have Ha := Lib.hid ha
          have Hb := Lib.hid hb
          have Hj := Lib.hid ((congrArg readP (J_list 43 a b)).trans hj)
          have Hm := Lib.hid ((congrArg readP (M_list 105 110 a b)).trans hm)
          clear ha hb hj hm la lb
          go_enter Tryd.func5, Tryd.ntmps5
          go_wp2_with (go_at_call 8; refine (eval_ok (x := ⟨#[50, 45, 53]⟩) rd_25 hg 0 0).mono ?_; rw [e0]; rintro e w1 ⟨rfl, b1⟩; have g1 := (hg).below b1; refine Hid.out ?_)
          refine Lib.hid ?_
          have B1 : Below w.heap.size w w1 := b1
          go_wp2_with (go_at_call 9; refine (check_ok (x := _) Ha.out g1).mono ?_; rintro e w2 ⟨rfl, b2⟩; have g2 := (g1).below b2; refine Hid.out ?_)
          refine Lib.hid ?_
          have B2 : Below w.heap.size w w2 := below_step B1 b2
          go_wp2_with (go_at_call 9; refine (check_ok (x := _) Hb.out g2).mono ?_; rintro e w3 ⟨rfl, b3⟩; have g3 := (g2).below b3; refine Hid.out ?_)
          refine Lib.hid ?_
          have B3 : Below w.heap.size w w3 := below_step B2 b3
          go_wp2_with (go_at_call 9; refine (check_ok (x := _) Hj.out g3).mono ?_; rintro e w4 ⟨rfl, b4⟩; have g4 := (g3).below b4; refine Hid.out ?_)
          refine Lib.hid ?_
          have B4 : Below w.heap.size w w4 := below_step B3 b4
          go_wp2_with (go_at_call 9; refine (check_bad (x := _) Hm.out g4 (M_le 105 110 za zb)).mono ?_; rintro e w5 ⟨k4, rfl, b5⟩; have g5 := (g4).below b5; refine Hid.out ?_)
          refine Lib.hid ?_
          have B5 : Below w.heap.size w w5 := below_step B4 b5
          go_wp2_with fail
          go_ret
          exact ⟨rfl, B5⟩
        | ok tm um =>
          obtain ⟨rfl, rfl, gl2⟩ := rd_in_min ha hb hm
          have Ha := Lib.hid ha
          have Hb := Lib.hid hb
          have Hj := Lib.hid ((congrArg readP (J_list 43 a b)).trans hj)
          have Hm := Lib.hid ((congrArg readP (M_list 105 110 a b)).trans hm)
          have gl' : b.data.toList.length + a.data.toList.length + 5 ≤ 120 := by omega
          have Hj2 := Lib.hid ((congrArg readP (J_list 43 b a)).trans (rd_mk_add (by decide) gb ga gl'))
          have Hm2 := Lib.hid ((congrArg readP (M_list 105 110 b a)).trans (rd_mk_min gb ga (by omega)))
          have Hl := Lib.hid ((congrArg readP (J_list 60 a b)).trans (rd_mk_cmp (by decide) ga gb gl))
          have Hgt := Lib.hid ((congrArg readP (J_list 62 b a)).trans (rd_mk_cmp (by decide) gb ga gl'))
          have He := Lib.hid ((congrArg readP (J_list 61 a b)).trans (rd_mk_cmp (by decide) ga gb gl))
          have Hl2 := Lib.hid ((congrArg readP (J_list 60 b a)).trans (rd_mk_cmp (by decide) gb ga gl'))
          have E1 : Hid (ev n s (.two 43 ta tb) = of2 43 (ev n s ta) (ev n s tb)) := rfl
          have E2 : Hid (ev n s (.two 43 tb ta) = of2 43 (ev n s ta) (ev n s tb)) := by show of2 43 _ _ = of2 43 _ _; simp [of2, Int.add_comm]
          have E3 : Hid (ev n s (.two 109 ta tb) = of2 109 (ev n s ta) (ev n s tb)) := rfl
          have E4 : Hid (ev n s (.two 109 tb ta) = of2 109 (ev n s ta) (ev n s tb)) := min_comm' _ _
          have E5 : Hid (ev n s (.two 60 ta tb) = of2 60 (ev n s ta) (ev n s tb)) := rfl
          have E6 : Hid (ev n s (.two 62 tb ta) = of2 60 (ev n s ta) (ev n s tb)) := (three _ _).1
          have E7 : Hid (ev n s (.two 61 ta tb) = of2 61 (ev n s ta) (ev n s tb)) := rfl
          have E8 : Hid (ev n s (.two 60 tb ta) = of2 60 (ev n s tb) (ev n s ta)) := rfl
          have h3 := (three (ev n s ta) (ev n s tb)).2
          generalize of2 43 (ev n s ta) (ev n s tb) = v1 at E1 E2
          generalize of2 109 (ev n s ta) (ev n s tb) = v2 at E3 E4
          generalize of2 60 (ev n s tb) (ev n s ta) = v5 at E8 h3
          generalize of2 60 (ev n s ta) (ev n s tb) = v3 at E5 E6 h3
          generalize of2 61 (ev n s ta) (ev n s tb) = v4 at E7 h3
          have ya : a.size ≤ 120 := by omega
          have yb : b.size ≤ 120 := by omega
          clear ha hb hj hm la lb ga gb gl gl2 gl'
          go_enter Tryd.func5, Tryd.ntmps5
          go_wp2_with (go_at_call 8; refine (eval_ok (x := ⟨#[50, 45, 53]⟩) rd_25 hg 0 0).mono ?_; rw [e0]; rintro e w1 ⟨rfl, b1⟩; have g1 := (hg).below b1; refine Hid.out ?_)
          refine Lib.hid ?_
          have B1 : Below w.heap.size w w1 := b1
          go_wp2_with (go_at_call 9; refine (check_ok (x := _) Ha.out g1).mono ?_; rintro e w2 ⟨rfl, b2⟩; have g2 := (g1).below b2; refine Hid.out ?_)
          refine Lib.hid ?_
          have B2 : Below w.heap.size w w2 := below_step B1 b2
          go_wp2_with (go_at_call 9; refine (check_ok (x := _) Hb.out g2).mono ?_; rintro e w3 ⟨rfl, b3⟩; have g3 := (g2).below b3; refine Hid.out ?_)
          refine Lib.hid ?_
          have B3 : Below w.heap.size w w3 := below_step B2 b3
          go_wp2_with (go_at_call 9; refine (check_ok (x := _) Hj.out g3).mono ?_; rintro e w4 ⟨rfl, b4⟩; have g4 := (g3).below b4; refine Hid.out ?_)
          refine Lib.hid ?_
          have B4 : Below w.heap.size w w4 := below_step B3 b4
          go_wp2_with (go_at_call 9; refine (check_ok (x := _) Hm.out g4).mono ?_; rintro e w5 ⟨rfl, b5⟩; have g5 := (g4).below b5; refine Hid.out ?_)
          refine Lib.hid ?_
          have B5 : Below w.heap.size w w5 := below_step B4 b5
          go_wp2_with (go_at_call 8; refine (eval_ok (x := _) Hj.out g5 n s).mono ?_; rw [E1.out]; rintro e w6 ⟨rfl, b6⟩; have g6 := (g5).below b6; refine Hid.out ?_)
          refine Lib.hid ?_
          have B6 : Below w.heap.size w w6 := below_step B5 b6
          go_wp2_with (go_at_call 8; refine (eval_ok (x := _) Hj2.out g6 n s).mono ?_; rw [E2.out]; rintro e w7 ⟨rfl, b7⟩; have g7 := (g6).below b7; refine Hid.out ?_)
          refine Lib.hid ?_
          have B7 : Below w.heap.size w w7 := below_step B6 b7
          go_wp2_with (go_at_call 8; refine (eval_ok (x := _) Hm.out g7 n s).mono ?_; rw [E3.out]; rintro e w8 ⟨rfl, b8⟩; have g8 := (g7).below b8; refine Hid.out ?_)
          refine Lib.hid ?_
          have B8 : Below w.heap.size w w8 := below_step B7 b8
          go_wp2_with (go_at_call 8; refine (eval_ok (x := _) Hm2.out g8 n s).mono ?_; rw [E4.out]; rintro e w9 ⟨rfl, b9⟩; have g9 := (g8).below b9; refine Hid.out ?_)
          refine Lib.hid ?_
          have B9 : Below w.heap.size w w9 := below_step B8 b9
          go_wp2_with (go_at_call 8; refine (eval_ok (x := _) Hl.out g9 n s).mono ?_; rw [E5.out]; rintro e w10 ⟨rfl, b10⟩; have g10 := (g9).below b10; refine Hid.out ?_)
          refine Lib.hid ?_
          have B10 : Below w.heap.size w w10 := below_step B9 b10
          go_wp2_with (go_at_call 8; refine (eval_ok (x := _) Hgt.out g10 n s).mono ?_; rw [E6.out]; rintro e w11 ⟨rfl, b11⟩; have g11 := (g10).below b11; refine Hid.out ?_)
          refine Lib.hid ?_
          have B11 : Below w.heap.size w w11 := below_step B10 b11
          go_wp2_with (go_at_call 8; refine (eval_ok (x := _) He.out g11 n s).mono ?_; rw [E7.out]; rintro e w12 ⟨rfl, b12⟩; have g12 := (g11).below b12; refine Hid.out ?_)
          refine Lib.hid ?_
          have B12 : Below w.heap.size w w12 := below_step B11 b12
          go_wp2_with (go_at_call 8; refine (eval_ok (x := _) Hl2.out g12 n s).mono ?_; rw [E8.out]; rintro e w13 ⟨rfl, b13⟩; have g13 := (g12).below b13; refine Hid.out ?_)
          refine Lib.hid ?_
          have B13 : Below w.heap.size w w13 := below_step B12 b13
          go_wp2_with fail
          go_ret
          exact ⟨rfl, B13⟩

set_option maxRecDepth 100000 in
theorem lifted (os : Os) (started : os.Started) (H : Type) (enc : TypeId × Value → H) :
    ReturnsInHanded {} Tryd.checked os 5 .any (fun w args => (Rows.exprLawsSpec.pre enc Tryd.prog Tryd.f5 [] false w args ∧ laidMetH Tryd.prog laidL w) ∧ sizedMet enc Tryd.prog Tryd.f5 (OpenSpec.ofChange Rows.exprLawsSpec) false w args)
      (Rows.exprLawsSpec.post enc Tryd.prog Tryd.f5 false true false false) := by
  refine returnsInHanded_of_change_and (C := Tryd.checked) (X := fun w _ => laidMetH Tryd.prog laidL w) (fun _ _ _ hh h => h.of_heap hh) Tryd.own started (by kernel_rfl) Tryd.func5
    (ChangeSpec.witness_at (enc := enc) (C := Tryd.checked) (os := os) (X := fun w _ => laidMetH Tryd.prog laidL w) false (laidAt (World.holding Tryd.prog os ⟨ownBlocks, #[], []⟩)) #[.string ByteArray.empty, .string ByteArray.empty, .int .i64 0, .int .i64 0] 8 rfl (by kernel_rfl) (by kernel_rfl) (by kernel_rfl) (by kernel_rfl) (by kernel_rfl) (laidWorld_met os _)) ?_
  intro W base args ds gs before hval0 hW _ hsz0 hL _
  have hsz : (DataW.weightsEach Tryd.prog (Tryd.f5.params.toList ++ Rows.exprLawsSpec.plain.varTypes Tryd.prog) (ds ++ gs)).all (· ≤ reachBytes) = true := hsz0
  clear hsz0
  have hval : ∀ (j : Nat) t v, Tryd.f5.params[j]? = some t → args[j]? = some v → Value.okWide Tryd.prog W .any base t v := hval0
  have hW' := hW
  obtain ⟨p, q, hA0, hV0, rfl, hfz, hnd⟩ := hW
  have hA : DataW.TrodAll enc Tryd.prog W 0 (fun _ => true) true Tryd.f5.params.toList args.toList ds p := hA0
  have hV : DataW.TrodVars enc Tryd.prog W (fun _ => true) [] gs q := hV0
  rw [Tryd.params5] at hA hval hsz
  obtain ⟨v0, vs0, d0, ds0, p0, q0, hargs, rfl, rfl, h0, r0⟩ := trodAll_cons hA
  obtain ⟨v1, vs1, d1, ds1, p1, q1, rfl, rfl, rfl, h1, r1⟩ := trodAll_cons r0
  obtain ⟨v2, vs2, d2, ds2, p2, q2, rfl, rfl, rfl, h2, r2⟩ := trodAll_cons r1
  obtain ⟨v3, vs3, d3, ds3, p3, q3, rfl, rfl, rfl, h3, r3⟩ := trodAll_cons r2
  obtain ⟨rfl, rfl, rfl⟩ := trodAll_nil r3
  obtain rfl : args = #[v0, v1, v2, v3] := by cases args; simp_all
  obtain ⟨a0, rfl, rfl, rfl, w0⟩ := open_string Tryd.underlying9 (hval 0 9 v0 rfl rfl) h0
  obtain ⟨a1, rfl, rfl, rfl, w1⟩ := open_string Tryd.underlying9 (hval 1 9 v1 rfl rfl) h1
  obtain ⟨a2, rfl, rfl, rfl, w2⟩ := open_int Tryd.underlying3 (hval 2 3 v2 rfl rfl) h2
  obtain ⟨a3, rfl, rfl, rfl, w3⟩ := open_int Tryd.underlying3 (hval 3 3 v3 rfl rfl) h3
  have z0 : a0.size ≤ 140737488355328 := short_of (sized_string hsz (j := 0) (t := 9) rfl rfl)
  have z1 : a1.size ≤ 140737488355328 := short_of (sized_string hsz (j := 1) (t := 9) rfl rfl)
  have hg := gl_of_laid hL
  have hld : laidMet Tryd.prog laidL W := hL
  obtain ⟨rfl, rfl⟩ : gs = [] ∧ q = [] := by
    cases gs with
    | nil => exact ⟨rfl, hV⟩
    | cons g r => exact absurd hV (by intro h; cases h)
  clear hA0 hval0
  refine (walk a0 a1 a2 a3 W hg hld w0 w1 w2 w3 z0 z1).mono fun e W' ⟨he, bel⟩ => ?_
  subst he
  exact ⟨_, rfl, _, _, _, [], [], [], hW', trodAll_mk1 (shut_bool Tryd.underlying4 true), trodAll_cons_mk (shut_string Tryd.underlying9 w0) (trodAll_cons_mk (shut_string Tryd.underlying9 w1) (trodAll_cons_mk (shut_int Tryd.underlying3 w2) (trodAll_cons_mk (shut_int Tryd.underlying3 w3) trodAll_mk0))), rfl, bel.frame _, fun h => by cases h⟩

theorem over : Rows.ExprLawsSaid :=
  OpenClaim.holds_of_wide 5 Tryd.f5 rfl rfl rfl rfl rfl rfl rfl ⟨rfl, rfl, rfl, rfl, rfl⟩ rfl rfl rfl rfl rfl (by kernel_rfl) Tryd.func5 (by kernel_rfl)
    (of_decide_eq_true (by kernel_rfl)) (by unfold Func.isWrapper; rw [if_neg (of_decide_eq_false (by kernel_rfl))]; exact ⟨rfl, rfl⟩)
    (fun os started H enc _ => lifted os started H enc)
end exprLaws

theorem exprLaws_holds : Rows.ExprLawsCardSaid :=
  Claim7.holds_tied_plain_at .later [] [.data, .data, .data, .sentinel, .sentinel] true (true, "6ba79705c3ab4ae7c2f6e4f1e57e496162f3eb4dafaefe561ba60f516a745a1e") true
    exprLaws.over (fun _ h => by cases h) (by kernel_rfl) (fun _ h => by cases h) exprLaws_row_tie rfl ⟨rfl, rfl⟩ (by kernel_rfl) rfl
    (fun f fn hf hfn => by
      obtain rfl : f = 5 := Option.some.inj ((show Tryd.prog.funcNamed Tryd.f5.name = some 5 by kernel_rfl).symm.trans hf) |>.symm
      obtain rfl : fn = Tryd.f5 := (Option.some.inj (Tryd.func5.symm.trans hfn)).symm
      exact ⟨by kernel_rfl, fun j t ht => by
        rw [Tryd.params5] at ht
        match j, ht with
        | 0, ht =>
          obtain rfl : t = 9 := by simpa using ht.symm
          exact (show Tryd.prog.wantsStandIn 9 = false by kernel_rfl)
        | 1, ht =>
          obtain rfl : t = 9 := by simpa using ht.symm
          exact (show Tryd.prog.wantsStandIn 9 = false by kernel_rfl)
        | 2, ht =>
          obtain rfl : t = 3 := by simpa using ht.symm
          exact (show Tryd.prog.wantsStandIn 3 = false by kernel_rfl)
        | 3, ht =>
          obtain rfl : t = 3 := by simpa using ht.symm
          exact (show Tryd.prog.wantsStandIn 3 = false by kernel_rfl)
        | n + 4, ht => simp at ht⟩)
    (by kernel_rfl)
#print axioms exprLaws_holds
end Go.Proofs.YtdegibjfcjkgdabDoor
