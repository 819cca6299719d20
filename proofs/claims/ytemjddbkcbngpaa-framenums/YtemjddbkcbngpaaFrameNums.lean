/-
  Whatever the number, the text and the bytes are, weirlaw2.FrameNums returns true and leaves its arguments as they were: Num, Text and Seal write what the document says.
-/
import Derived.Test.YtemjddbkcbngpaaRows
import Derived.Test.YtemjddbkcbngpaaFc
import Derived.ShutString
import Derived.ChangeOld
import Derived.Below
import Derived.SizedLaws
namespace Go.Proofs.Ytemjddbkcbngpaa
open Go.ChangeShapes Go.WideShapes Go.ChangeAt Go.RowKit
open Go.ChangeMaps (open_string shut_string)
namespace frameNums
theorem own : ownKnob Try.prog.godebug = none := by kernel_rfl
theorem laidOut : laidOutB Try.prog = true := by kernel_rfl
theorem own_conv {w w' : World} {B : Nat} {v : Value} {l : List UInt8} (h : Own B w v l) (hb : Below w.heap.size w w') : ∃ A cap, v = .slice A l.length cap ∧ (convert 22 9 (.slice A l.length cap)).run Try.prog w' = .ok (.string ⟨l.toArray⟩) w' := by
  obtain ⟨A, cap, rfl⟩ := own_slice h
  exact ⟨A, cap, rfl, ((own_bs h rfl).1.keep hb).convert _ _ rfl⟩
set_option maxRecDepth 100000 in
set_option maxHeartbeats 2000000 in
theorem walk (n : Int) (s : ByteArray) (p : Option Addr) (l : List UInt8) (c : Nat) (w : World) (hn : I64 n) (hs : s.size ≤ reachBytes) (hl : l.length ≤ reachBytes) (hb : BsAt w p l) (hc : p = none → c = 0) :
    Calls Try.prog 3 #[.int .i64 n, .string s, .slice p l.length c] w fun e w' => e = .returned (.bool true) ∧ Below w.heap.size w w' := by
  unfold reachBytes at hs hl
  have hkeep : ∀ w', Below w.heap.size w w' → BsAt w' p l := fun w' h => hb.keep h
  obtain ⟨u0, hu0⟩ : ∃ u, u = w := ⟨_, rfl⟩
  have B0 : Below w.heap.size w u0 := by rw [hu0]; exact Below.refl _ _
  rw [← hu0]
  have hB0 := B0.size
  generalize w.heap.size = N at *
  clear hu0 hb
  go_enter Try.func3, Try.ntmps3
  go_wp2_with (go_at_call 7; refine (num_any u0 n hn).mono ?_; rintro e u1 ⟨v1, rfl, o1, b1⟩; refine Hid.out ?_)
  refine Lib.hid ?_
  have B1 : Below N w u1 := B0.trans (b1.mono hB0)
  have hB1 : N ≤ u1.heap.size := Nat.le_trans hB0 b1.size
  go_wp2_with (go_at_call 8; refine (snum_any u1 n hn).mono ?_; rintro e u2 ⟨v2, rfl, o2, b2⟩; refine Hid.out ?_)
  refine Lib.hid ?_
  have B2 : Below N w u2 := B1.trans (b2.mono hB1)
  have hB2 : N ≤ u2.heap.size := Nat.le_trans hB1 b2.size
  go_wp2_with (go_at_call 9; refine (text_any u2 s (by omega)).mono ?_; rintro e u3 ⟨v3, rfl, o3, b3⟩; refine Hid.out ?_)
  refine Lib.hid ?_
  have B3 : Below N w u3 := B2.trans (b3.mono hB2)
  have hB3 : N ≤ u3.heap.size := Nat.le_trans hB2 b3.size
  go_wp2_with (go_at_call 10; refine (stext_any u3 s (by omega)).mono ?_; rintro e u4 ⟨v4, rfl, o4, b4⟩; refine Hid.out ?_)
  refine Lib.hid ?_
  have B4 : Below N w u4 := B3.trans (b4.mono hB3)
  have hB4 : N ≤ u4.heap.size := Nat.le_trans hB3 b4.size
  go_wp2_with (go_at_call 11; refine (seal_any u4 p c l (hkeep u4 B4) (by omega) hc).mono ?_; rintro e u5 ⟨v5, rfl, o5, b5⟩; refine Hid.out ?_)
  refine Lib.hid ?_
  have B5 : Below N w u5 := B4.trans (b5.mono hB4)
  have hB5 : N ≤ u5.heap.size := Nat.le_trans hB4 b5.size
  go_wp2_with (go_at_call 12; refine (sseal_any u5 p c l (hkeep u5 B5) (by omega) hc).mono ?_; rintro e u6 ⟨v6, rfl, o6, b6⟩; refine Hid.out ?_)
  refine Lib.hid ?_
  have B6 : Below N w u6 := B5.trans (b6.mono hB5)
  have hB6 : N ≤ u6.heap.size := Nat.le_trans hB5 b6.size
  have t6 : Below u6.heap.size u6 u6 := Below.refl _ _
  have t5 : Below u5.heap.size u5 u6 := b6.trans (t6.mono b6.size)
  have t4 : Below u4.heap.size u4 u6 := b5.trans (t5.mono b5.size)
  have t3 : Below u3.heap.size u3 u6 := b4.trans (t4.mono b4.size)
  have t2 : Below u2.heap.size u2 u6 := b3.trans (t3.mono b3.size)
  have t1 : Below u1.heap.size u1 u6 := b2.trans (t2.mono b2.size)
  have t0 : Below u0.heap.size u0 u6 := b1.trans (t1.mono b1.size)
  obtain ⟨A1, c1, rfl, cv1⟩ := own_conv o1 t1
  obtain ⟨A2, c2, rfl, cv2⟩ := own_conv o2 t2
  obtain ⟨A3, c3, rfl, cv3⟩ := own_conv o3 t3
  obtain ⟨A4, c4, rfl, cv4⟩ := own_conv o4 t4
  obtain ⟨A5, c5, rfl, cv5⟩ := own_conv o5 t5
  obtain ⟨A6, c6, rfl, cv6⟩ := own_conv o6 t6
  clear o1 o2 o3 o4 o5 o6 b1 b2 b3 b4 b5 b6 t1 t2 t3 t4 t5 t6
  go_wp2_with fail
  go_ret
  exact ⟨rfl, t0⟩

set_option maxRecDepth 100000 in
theorem lifted (os : Os) (started : os.Started) (H : Type) (enc : TypeId × Value → H) :
    ReturnsInHanded {} Try.checked os 3 .any (Rows.frameNumsSpec.pre6 enc Try.prog Try.f3 Rows.frameNumsRow.domain false) (Rows.frameNumsSpec.post enc Try.prog Try.f3 false true false false) := by
  refine returnsInHanded_of_change_sized (C := Try.checked) own started (by kernel_rfl) Try.func3
    (ChangeSpec.witness6 (enc := enc) (C := Try.checked) false ⟨#[], #[.int .i64 0, .string ByteArray.empty, .slice none 0 0], []⟩ 8 (by kernel_rfl) (by kernel_rfl) (by kernel_rfl) (by kernel_rfl)) ?_
  intro W base args ds gs before hval0 hW hcnd hsz0 _
  have hsz : (DataW.weightsEach Try.prog (Try.f3.params.toList ++ Rows.frameNumsSpec.plain.varTypes Try.prog) (ds ++ gs)).all (· ≤ reachBytes) = true := hsz0
  clear hsz0
  have hval : ∀ (j : Nat) t v, Try.f3.params[j]? = some t → args[j]? = some v → Value.okWide Try.prog W .any base t v := hval0
  have hW' := hW
  obtain ⟨p, q, hA0, hV, rfl, hfz, hnd⟩ := hW
  have hA : DataW.TrodAll enc Try.prog W 0 (fun _ => true) true Try.f3.params.toList args.toList ds p := hA0
  rw [Try.params3] at hA hval hsz
  obtain ⟨v0, vs0, d0, ds0, p0, q0, hargs, rfl, rfl, h0, r0⟩ := trodAll_cons hA
  obtain ⟨v1, vs1, d1, ds1, p1, q1, rfl, rfl, rfl, h1, r1⟩ := trodAll_cons r0
  obtain ⟨v2, vs2, d2, ds2, p2, q2, rfl, rfl, rfl, h2, r2⟩ := trodAll_cons r1
  obtain ⟨rfl, rfl, rfl⟩ := trodAll_nil r2
  obtain rfl : args = #[v0, v1, v2] := by cases args; simp_all
  obtain ⟨rfl, rfl⟩ := trodVars_none hV
  obtain ⟨a0, rfl, rfl, rfl, w0⟩ := open_int Try.underlying3 (hval 0 3 v0 rfl rfl) h0
  have z0 := i64_of_wf w0
  obtain ⟨a1, rfl, rfl, rfl, w1⟩ := open_string Try.underlying9 (hval 1 9 v1 rfl rfl) h1
  have z1 : a1.size ≤ reachBytes := by simpa using sized_string hsz (j := 1) (t := 9) rfl rfl
  obtain ⟨a2, len2, cap2, rfl⟩ := okWide_slice Try.underlying22 (hval 2 22 v2 rfl rfl)
  have k2 := h2
  have lt2 : ∀ x ∈ p2, x.block < W.heap.size := by obtain ⟨m, hm⟩ := k2; exact DataW.trod_lt m _ _ _ hm
  obtain ⟨l2, hn2, hb2, hc2, hd2⟩ := open_bs h2
  have z2 : len2 ≤ reachBytes := bs_reach hsz (j := 2) rfl rfl hd2
  subst hn2
  clear hA0 hval0
  refine (walk a0 a1 a2 l2 cap2 W z0 z1 z2 hb2 hc2).mono fun e W' ⟨he, bel⟩ => ?_
  subst he
  exact ⟨_, rfl, _, _, _, [], _, [], hW', trodAll_mk1 (shut_bool Try.underlying4 true), trodAll_cons_mk (shut_int Try.underlying3 w0) (trodAll_cons_mk (shut_string Try.underlying9 w1) (trodAll_cons_mk (Below.trod laidOut (by kernel_rfl) (of_decide_eq_true (by kernel_rfl)) k2 bel lt2) trodAll_mk0)), rfl, bel.frame _, fun h => by cases h⟩

theorem over : Rows.FrameNumsSaid :=
  OpenClaim.holds_of_wide 3 Try.f3 rfl rfl rfl rfl rfl rfl rfl ⟨rfl, rfl, rfl, rfl, rfl⟩ rfl rfl rfl rfl rfl (by kernel_rfl) Try.func3 (by kernel_rfl)
    (of_decide_eq_true (by kernel_rfl)) (by unfold Func.isWrapper; first | (rw [if_pos (by decide +kernel)]; kernel_rfl) | (rw [if_neg (by decide +kernel)]; exact ⟨rfl, rfl⟩))
    (fun os started H enc _ => lifted os started H enc)
end frameNums
theorem frameNums_holds : Rows.FrameNumsSaid := frameNums.over
#print axioms frameNums_holds
end Go.Proofs.Ytemjddbkcbngpaa
