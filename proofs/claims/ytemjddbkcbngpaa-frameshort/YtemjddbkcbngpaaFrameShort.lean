/-
  Whatever the two numbers and the text are, weirlaw6.FrameShort returns true and leaves its arguments as they were: a number needs no more bytes than it must.
-/
import Derived.Test.YtemjddbkcbngpaaRows
import Derived.Test.YtemjddbkcbngpaaFb
import Derived.SizedLaws
import Derived.ChangeOld
import Derived.Below
import Derived.WalkKit
import Derived.ProofKit
import Derived.OpenShut
import Derived.ShutString
namespace Go.Proofs.Ytemjddbkcbngpaa.frameShort
open Go.ChangeShapes Go.WideShapes Go.ChangeAt Go.RowKit
open Go.ChangeMaps (open_string shut_string)
set_option linter.unusedVariables false      -- a walk need not use every 'w<i>' (that an integer argument fits its kind)

theorem own : ownKnob Try.prog.godebug = none := by kernel_rfl

/-! ### STEP 1: THE WALK: the Go text returns true. 'Grown w w'': the world has at most new blocks (Derived/RowKit3.lean). Part the cases AHEAD of 'go_enter' where a test parts the walk; take each callee by a contract of your own. -/
theorem ret_bool {a b : Bool} (h : a = b) : Ending.returned (.bool a) = .returned (.bool b) := by rw [h]
theorem i64_of_wf {n : Int} (h : (Lit.int .i64 n).wf = true) : I64 n := by
  simp [Lit.wf, IntKind.min, IntKind.max, IntKind.signed, IntKind.bits] at h
  exact ⟨by omega, by omega⟩
set_option maxRecDepth 100000 in
set_option maxHeartbeats 2000000 in
theorem walk (a0 : Int) (a1 : Int) (a2 : ByteArray) (w0 : (Lit.int .i64 a0).wf = true) (w1 : (Lit.int .i64 a1).wf = true) (w2 : a2.size ≤ reachBytes) (w : World) :
    Calls Try.prog 5 #[.int .i64 a0, .int .i64 a1, .string a2] w fun e w' => e = .returned (.bool true) ∧ Below w.heap.size w w' := by
  have hr : a2.size + 10 ≤ 140737488355328 := by unfold reachBytes at w2; omega
  clear w2
  have r0 := i64_of_wf w0
  have r1 := i64_of_wf w1
  clear w0 w1
  have HN : ∀ (n : Int) (w' : World), I64 n → Calls Try.prog 7 #[.int .i64 n] w' fun e w'' => ∃ g cap, e = .returned (.slice (some ⟨g, 0, none⟩) (numB n).length cap) ∧ (numB n).length ≤ cap ∧ w'.heap.size ≤ g ∧ (∀ i (h : i < (numB n).length), w''.cell? ⟨g, i, none⟩ = some (.int .u8 (numB n)[i].toNat)) ∧ Below w'.heap.size w' w'' := by
    intro n w' hn
    refine (num_any w' n hn).mono ?_
    rintro e w'' ⟨v, rfl, ho, hb⟩
    obtain ⟨g, cap, rfl, h1, h2, -, h3⟩ := own_form ho (num_ne n)
    exact ⟨g, cap, rfl, h1, h2, h3, hb⟩
  have HT : ∀ w' : World, Calls Try.prog 9 #[.string a2] w' fun e w'' => ∃ g cap, e = .returned (.slice (some ⟨g, 0, none⟩) (kB a2).length cap) ∧ (kB a2).length ≤ cap ∧ (∀ p c, (cap ≠ (numB a2.size).length → p = some ⟨g, (numB a2.size).length, none⟩) → (convert 22 9 (.slice p a2.size c)).run Try.prog w'' = .ok (.string a2) w'') ∧ Below w'.heap.size w' w'' := by
    intro w'
    refine (text_any w' a2 (by omega)).mono ?_
    rintro e w'' ⟨v, rfl, ho, hb⟩
    obtain ⟨g, cap, rfl, h1, h2, -, h3⟩ := own_form ho (kB_ne a2)
    refine ⟨g, cap, rfl, h1, fun p c hp => ?_, hb⟩
    have hk := kB_len a2
    have hB : BsAt w'' p a2.data.toList := by
      by_cases h0 : a2.size = 0
      · exact .inl (List.eq_nil_of_length_eq_zero h0)
      · refine .inr ⟨g, (numB a2.size).length, hp (by omega), fun i hi => ?_⟩
        have hi' : i < a2.size := hi
        rw [h3 _ (by rw [hk]; omega)]
        have e : (kB a2)[(numB a2.size).length + i]'(by rw [hk]; omega) = a2.data.toList[i] := by
          have e2 : ((kB a2).drop (numB a2.size).length)[i]'(by rw [drop_kB]; exact hi) = (kB a2)[(numB a2.size).length + i]'(by rw [hk]; omega) := List.getElem_drop
          rw [← e2]; simp only [drop_kB]
        rw [e]
    have := hB.convert a2.size c rfl
    rw [str_self] at this
    exact this
  have t0 := num_ten (n := a0) r0.1 r0.2
  have q0 := num_pos a0
  have q2 := num_pos a2.size
  have t2 := num_ten (n := (a2.size : Int)) (by omega) (by omega)
  have l2 := kB_len a2
  have n1 : -64 ≤ a0 → a0 < 64 → (numB a0).length = 1 := num_one
  have nn : ((0 ≤ a0 ∧ a0 ≤ a1) ∨ (a0 < 0 ∧ a1 ≤ a0)) → (numB a0).length ≤ (numB a1).length := num_near
  have t1 := num_ten (n := a1) r1.1 r1.2
  have H64 := HN (-64) w ⟨by omega, by omega⟩
  rw [numB_m64] at H64
  have H0 := fun w' => HN a0 w' r0
  have H1 := fun w' => HN a1 w' r1
  clear HN
  generalize (numB a0) = x0 at *
  generalize (numB a1) = x1 at *
  generalize (numB a2.size).length = k2 at *
  generalize (kB a2).length = y2 at *
  go_enter Try.func5, Try.ntmps5
  go_wp2_with (go_at_call 7; refine H64.mono ?_; rintro e u1 ⟨g1, cp1, rfl, -, -, hc1, hb1⟩; have hc10 := hc1 0 (by simp); refine Hid.out ?_)
  refine Lib.hid ?_
  go_wp2_with (go_at_call 7; refine (H0 u1).mono ?_; rintro e u2 ⟨g2, cp2, rfl, hl2, -, -, hb2⟩; refine Hid.out ?_)
  refine Lib.hid ?_
  go_wp2_with (go_at_call 7; refine (H1 u2).mono ?_; rintro e u3 ⟨g3, cp3, rfl, hl3, -, -, hb3⟩; refine Hid.out ?_)
  refine Lib.hid ?_
  go_wp2_with (go_at_call 9; refine (HT u3).mono ?_; rintro e u4 ⟨g4, cp4, rfl, hl4, hcv, hb4⟩; refine Hid.out ?_)
  refine Lib.hid ?_
  have hsub : ((y2 : Nat) : Int) - ((a2.size : Nat) : Int) = ((k2 : Nat) : Int) := by omega
  have hb : Below w.heap.size w u4 := by
    have s1 := hb1.size
    have s2 := hb2.size
    have s3 := hb3.size
    exact ((hb1.trans (hb2.mono s1)).trans (hb3.mono (by omega))).trans (hb4.mono (by omega))
  have hle : k2 ≤ y2 := by omega
  have hz2 : y2 - k2 = a2.size := by omega
  clear hb1 hb2 hb3 hb4 H0 H1 H64 HT hc1 hc10
  by_cases hcap : cp4 = k2
  · have c1 := hcv (some ⟨g4, 0, none⟩) 0 (fun h => absurd hcap h)
    clear hcv
    go_wp2_with fail
    all_goals
      go_ret
      exact ⟨by first | rfl | exact ret_bool (decide_eq_true (by omega)), hb⟩
  · have c1 := hcv (some ⟨g4, k2, none⟩) (cp4 - k2) (fun _ => rfl)
    clear hcv
    go_wp2_with fail
    all_goals
      go_ret
      exact ⟨by first | rfl | exact ret_bool (decide_eq_true (by omega)), hb⟩

/-! ### THE ROW's STEP: WRITTEN OUT: LEAVE IT -/
set_option maxRecDepth 100000 in
theorem lifted (os : Os) (started : os.Started) (H : Type) (enc : TypeId × Value → H) :
    ReturnsInHanded {} Try.checked os 5 .any (Rows.frameShortSpec.pre6 enc Try.prog Try.f5 Rows.frameShortRow.domain false) (Rows.frameShortSpec.post enc Try.prog Try.f5 false true false false) := by
  refine returnsInHanded_of_change_sized (C := Try.checked) own started (by kernel_rfl) Try.func5
    (ChangeSpec.witness6 (enc := enc) (C := Try.checked) false ⟨#[], #[.int .i64 0, .int .i64 0, .string ByteArray.empty], []⟩ 8 (by kernel_rfl) (by kernel_rfl) (by kernel_rfl) (by kernel_rfl)) ?_
  intro W base args ds gs before hval0 hW hcnd hsz0 _
  have hval : ∀ (j : Nat) t v, Try.f5.params[j]? = some t → args[j]? = some v → Value.okWide Try.prog W .any base t v := hval0
  have hW' := hW
  obtain ⟨p, q, hA0, hV, rfl, hfz, hnd⟩ := hW
  have hA : DataW.TrodAll enc Try.prog W 0 (fun _ => true) true Try.f5.params.toList args.toList ds p := hA0
  have hsz : (DataW.weightsEach Try.prog (Try.f5.params.toList ++ Rows.frameShortSpec.plain.varTypes Try.prog) (ds ++ gs)).all (· ≤ reachBytes) = true := hsz0
  rw [Try.params5] at hA hval hsz
  obtain ⟨v0, vs0, d0, ds0, p0, q0, hargs, rfl, rfl, h0, r0⟩ := trodAll_cons hA
  obtain ⟨v1, vs1, d1, ds1, p1, q1, rfl, rfl, rfl, h1, r1⟩ := trodAll_cons r0
  obtain ⟨v2, vs2, d2, ds2, p2, q2, rfl, rfl, rfl, h2, r2⟩ := trodAll_cons r1
  obtain ⟨rfl, rfl, rfl⟩ := trodAll_nil r2
  obtain rfl : args = #[v0, v1, v2] := by cases args; simp_all
  obtain ⟨rfl, rfl⟩ := trodVars_none hV
  obtain ⟨a0, rfl, rfl, rfl, w0⟩ := open_int Try.underlying3 (hval 0 3 v0 rfl rfl) h0
  obtain ⟨a1, rfl, rfl, rfl, w1⟩ := open_int Try.underlying3 (hval 1 3 v1 rfl rfl) h1
  obtain ⟨a2, rfl, rfl, rfl, w2⟩ := open_string Try.underlying9 (hval 2 9 v2 rfl rfl) h2
  clear hA0 hval0
  have w2' : a2.size ≤ reachBytes := by simpa using sized_string hsz (j := 2) (t := 9) rfl rfl
  simp only [List.append_nil] at hW'
  refine (walk a0 a1 a2 w0 w1 w2' W).mono fun e W' ⟨he, bel⟩ => ?_
  subst he
  exact ⟨_, rfl, _, _, _, [], [], [], hW', (trodAll_cons_mk (shut_bool Try.underlying4 _) trodAll_mk0), (trodAll_cons_mk (shut_int Try.underlying3 w0) (trodAll_cons_mk (shut_int Try.underlying3 w1) (trodAll_cons_mk (shut_string Try.underlying9 w2) trodAll_mk0))), rfl, bel.frame _, fun h => by cases h⟩

theorem over : Rows.frameShortRow.holds Try.pinned (OpenSpec.ofChange Rows.frameShortSpec) :=
  OpenClaim.holds_of_wide 5 Try.f5 rfl rfl rfl rfl rfl rfl rfl ⟨rfl, rfl, rfl, rfl, rfl⟩ rfl rfl rfl rfl rfl (by kernel_rfl) Try.func5 (by kernel_rfl)
    (of_decide_eq_true (by kernel_rfl)) (by unfold Func.isWrapper; first | (rw [if_pos (by decide +kernel)]; kernel_rfl) | (rw [if_neg (by decide +kernel)]; exact ⟨rfl, rfl⟩))
    (fun os started H enc _ => lifted os started H enc)

/-- ████ THE STATEMENT ████ -/
theorem proved : Rows.FrameShortSaid :=
  over
end Go.Proofs.Ytemjddbkcbngpaa.frameShort
namespace Go.Proofs.Ytemjddbkcbngpaa
theorem frameShort_holds : Rows.FrameShortSaid := frameShort.proved
#print axioms frameShort_holds
end Go.Proofs.Ytemjddbkcbngpaa
