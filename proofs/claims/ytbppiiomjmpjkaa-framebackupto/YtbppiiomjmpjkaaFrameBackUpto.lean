/-
  Whatever the records, the states and the bytes are, where they hold together at most 1048576 values and letters, weirlaw2.FrameBack returns true and leaves its arguments as they were: what is written is read as it was.
-/
import Derived.Test.YtbppiiomjmpjkaaRows
import Derived.Test.YtbppiiomjmpjkaaFw
import Derived.Test.YtbppiiomjmpjkaaFf
import Derived.ShutString
import Derived.ChangeOld
import Derived.Below
import Derived.SizedLaws
import Derived.Deep.CondSized
namespace Go.Proofs.Ytbppiiomjmpjkaa
open Go.ChangeShapes Go.WideShapes Go.ChangeAt Go.RowKit
open Go.ChangeMaps (open_string shut_string)
namespace frameBackUpto
theorem own : ownKnob Try.prog.godebug = none := by kernel_rfl
theorem laidOut : laidOutB Try.prog = true := by kernel_rfl
theorem sum_bd {H : Type} {d0 d1 d2 d3 : DataW H} {gs : List (DataW H)} {m n : Nat} (hk : Rows.uptoSmall H ([d0, d1, d2, d3] ++ gs) = true) (hm : m = 0 ∨ ∃ el sp, d2 = .slice el sp ∧ el.length = m) (hn : n = 0 ∨ ∃ el sp, d3 = .slice el sp ∧ el.length = n) : m + n ≤ 1048576 := by
  have h : Rows.uptoBulkAll ([d0, d1, d2, d3] ++ gs) ≤ 1048576 := of_decide_eq_true hk
  have h1 := bulk_bs hm (Nat.le_refl _)
  have h2 := bulk_bs hn (Nat.le_refl _)
  simp only [List.cons_append, Rows.uptoBulkAll] at h
  omega
theorem walk (w : World) (la lh p q : Option Addr) (c d cb cm : Nat) (L : List Rc) (H : List Hd) (lb lm : List UInt8)
    (hL : CsAt w la (rcells L)) (hLn : L.length ≤ 9223372036854775807) (hLo : ∀ r ∈ L, OkRc r) (hH : CsAt w lh (hcells H)) (hHn : H.length ≤ 9223372036854775807) (hHo : ∀ r ∈ H, OkHd r)
    (hb : Bz w p cb lb) (hbc : p = none → cb = 0) (hm : Bz w q cm lm) (hmc : q = none → cm = 0) (hlen : lb.length + lm.length ≤ 1048576) :
    Calls Try.prog 4 #[.slice la L.length c, .slice lh H.length d, .slice p lb.length cb, .slice q lm.length cm] w fun e w' => e = .returned (.bool true) ∧ Below w.heap.size w w' := by
  cases hx : readRcs lm with
  | none =>
    by_cases hr : recsE L = 0
    · by_cases hh : heldsE ltH H = 0
      · exact back_yyn w la lh p q c d cb cm L H lb lm hL hLn hLo hH hHn hHo hb hbc hm hmc hlen hr hh hx
      · exact back_ynn w la lh p q c d cb cm L H lb lm hL hLn hLo hH hHn hHo hb hbc hm hmc hlen hr hh hx
    · by_cases hh : heldsE ltH H = 0
      · exact back_nyn w la lh p q c d cb cm L H lb lm hL hLn hLo hH hHn hHo hb hbc hm hmc hlen hr hh hx
      · exact back_nnn w la lh p q c d cb cm L H lb lm hL hLn hLo hH hHn hHo hb hbc hm hmc hlen hr hh hx
  | some xs =>
    by_cases hr : recsE L = 0
    · by_cases hh : heldsE ltH H = 0
      · exact back_yyy w la lh p q c d cb cm L H lb lm hL hLn hLo hH hHn hHo hb hbc hm hmc hlen hr hh xs hx
      · exact back_yny w la lh p q c d cb cm L H lb lm hL hLn hLo hH hHn hHo hb hbc hm hmc hlen hr hh xs hx
    · by_cases hh : heldsE ltH H = 0
      · exact back_nyy w la lh p q c d cb cm L H lb lm hL hLn hLo hH hHn hHo hb hbc hm hmc hlen hr hh xs hx
      · exact back_nny w la lh p q c d cb cm L H lb lm hL hLn hLo hH hHn hHo hb hbc hm hmc hlen hr hh xs hx

set_option maxRecDepth 100000 in
theorem lifted (os : Os) (started : os.Started) (H : Type) (enc : TypeId × Value → H) (F : Stop.Interp) :
    ReturnsInHanded {} Try.checked os 4 .any ((Rows.OpenSpec.upto Rows.frameBackSpec).pre6 enc Try.prog Try.f4 Rows.frameBackUptoRow.domain false) (((Rows.OpenSpec.upto Rows.frameBackSpec).at F).post enc Try.prog Try.f4 false true false false) := by
  refine returnsInHanded_of_cond_sized (C := Try.checked) (s := Rows.OpenSpec.upto Rows.frameBackSpec) (k := Rows.uptoSmall) rfl own started (by kernel_rfl) Try.func4
    (OpenSpec.witness (enc := enc) (C := Try.checked) (s := Rows.OpenSpec.upto Rows.frameBackSpec) (k := Rows.uptoSmall) rfl false ⟨#[], #[.slice none 0 0, .slice none 0 0, .slice none 0 0, .slice none 0 0], []⟩ 8 (by kernel_rfl) (by kernel_rfl) (by kernel_rfl)
      (x := ([.nil, .nil, .nil, .nil], [], [])) (by kernel_rfl) rfl (by kernel_rfl)) ?_
  intro W base args ds gs before hval0 hW hcnd hk hsz0 _
  have hsz : (DataW.weightsEach Try.prog (Try.f4.params.toList ++ Rows.frameBackSpec.plain.varTypes Try.prog) (ds ++ gs)).all (· ≤ reachBytes) = true := hsz0
  clear hsz0
  have hval : ∀ (j : Nat) t v, Try.f4.params[j]? = some t → args[j]? = some v → Value.okWide Try.prog W .any base t v := hval0
  have hW' := hW
  obtain ⟨p, q, hA0, hV, rfl, hfz, hnd⟩ := hW
  have hA : DataW.TrodAll enc Try.prog W 0 (fun _ => true) true Try.f4.params.toList args.toList ds p := hA0
  rw [Try.params4] at hA hval hsz
  obtain ⟨v0, vs0, d0, ds0, p0, q0, hargs, rfl, rfl, h0, r0⟩ := trodAll_cons hA
  obtain ⟨v1, vs1, d1, ds1, p1, q1, rfl, rfl, rfl, h1, r1⟩ := trodAll_cons r0
  obtain ⟨v2, vs2, d2, ds2, p2, q2, rfl, rfl, rfl, h2, r2⟩ := trodAll_cons r1
  obtain ⟨v3, vs3, d3, ds3, p3, q3, rfl, rfl, rfl, h3, r3⟩ := trodAll_cons r2
  obtain ⟨rfl, rfl, rfl⟩ := trodAll_nil r3
  obtain rfl : args = #[v0, v1, v2, v3] := by cases args; simp_all
  obtain ⟨rfl, rfl⟩ := trodVars_none hV
  obtain ⟨a0, len0, cap0, rfl⟩ := okWide_slice Try.underlying27 (hval 0 27 v0 rfl rfl)
  have k0 := h0
  have lt0 : ∀ x ∈ p0, x.block < W.heap.size := by obtain ⟨m, hm⟩ := k0; exact DataW.trod_lt m _ _ _ hm
  obtain ⟨l0, hn0, hb0, ho0, hz0⟩ := open_rcs h0
  subst hn0
  obtain ⟨a1, len1, cap1, rfl⟩ := okWide_slice Try.underlying28 (hval 1 28 v1 rfl rfl)
  have k1 := h1
  have lt1 : ∀ x ∈ p1, x.block < W.heap.size := by obtain ⟨m, hm⟩ := k1; exact DataW.trod_lt m _ _ _ hm
  obtain ⟨l1, hn1, hb1, ho1, hz1⟩ := open_hds h1
  subst hn1
  obtain ⟨a2, len2, cap2, rfl⟩ := okWide_slice Try.underlying22 (hval 2 22 v2 rfl rfl)
  have k2 := h2
  have lt2 : ∀ x ∈ p2, x.block < W.heap.size := by obtain ⟨m, hm⟩ := k2; exact DataW.trod_lt m _ _ _ hm
  obtain ⟨l2, hn2, hb2, hc2, hd2⟩ := open_bs h2
  have z2 : len2 ≤ reachBytes := bs_reach hsz (j := 2) rfl rfl hd2
  subst hn2
  obtain ⟨a3, len3, cap3, rfl⟩ := okWide_slice Try.underlying22 (hval 3 22 v3 rfl rfl)
  have k3 := h3
  have lt3 : ∀ x ∈ p3, x.block < W.heap.size := by obtain ⟨m, hm⟩ := k3; exact DataW.trod_lt m _ _ _ hm
  obtain ⟨l3, hn3, hb3, hc3, hd3⟩ := open_bs h3
  have z3 : len3 ≤ reachBytes := bs_reach hsz (j := 3) rfl rfl hd3
  subst hn3
  have g2 := open_bs2 k2
  have g3 := open_bs2 k3
  clear hA0 hval0
  refine (walk W a0 a1 a2 a3 cap0 cap1 cap2 cap3 l0 l1 l2 l3 hb0 hz0 ho0 hb1 hz1 ho1 ⟨hb2, g2.1, g2.2⟩ hc2 ⟨hb3, g3.1, g3.2⟩ hc3 (sum_bd hk hd2 hd3)).mono fun e W' ⟨he, bel⟩ => ?_
  subst he
  exact ⟨_, rfl, _, _, _, [], _, [], hW', trodAll_mk1 (shut_bool Try.underlying4 true), trodAll_cons_mk (Below.trod laidOut (by kernel_rfl) (of_decide_eq_true (by kernel_rfl)) k0 bel lt0) (trodAll_cons_mk (Below.trod laidOut (by kernel_rfl) (of_decide_eq_true (by kernel_rfl)) k1 bel lt1) (trodAll_cons_mk (Below.trod laidOut (by kernel_rfl) (of_decide_eq_true (by kernel_rfl)) k2 bel lt2) (trodAll_cons_mk (Below.trod laidOut (by kernel_rfl) (of_decide_eq_true (by kernel_rfl)) k3 bel lt3) trodAll_mk0))), rfl, bel.frame _, fun h => by cases h⟩

theorem over : Rows.FrameBackUptoSaid :=
  OpenClaim.holds_of_cond 4 Try.f4 rfl rfl rfl rfl rfl rfl rfl ⟨rfl, rfl, rfl, rfl, rfl⟩ rfl rfl rfl rfl rfl (by kernel_rfl) Try.func4 (by kernel_rfl)
    (of_decide_eq_true (by kernel_rfl)) (by unfold Func.isWrapper; first | (rw [if_pos (by decide +kernel)]; kernel_rfl) | (rw [if_neg (by decide +kernel)]; exact ⟨rfl, rfl⟩))
    (fun os started H enc _ F => lifted os started H enc F)
end frameBackUpto
theorem frameBackUpto_holds : Rows.FrameBackUptoSaid := frameBackUpto.over
#print axioms frameBackUpto_holds
end Go.Proofs.Ytbppiiomjmpjkaa
