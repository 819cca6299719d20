/-
  Whatever the things, the lists and the number of workers are, where they hold together at most 1048576 values and letters, weirlaw4.SpreadAll returns true and leaves its arguments as they were: the things go to the workers in turn; lists are spread again, or given whole to every worker. The listed variable errors.errorType starts as its own initialiser lays it.
-/
import Derived.Test.YtfkeokeedljomaaDoorTnn
import Derived.Test.YtfkeokeedljomaaDoorTny
import Derived.Test.YtfkeokeedljomaaDoorTyn
import Derived.Test.YtfkeokeedljomaaDoorTyy
import Derived.Test.YtfkeokeedljomaaDoorTz
import Derived.Test.YtfkeokeedljomaaDoorLaid
import Derived.Test.YtfkeokeedljomaaDoorCards
import Derived.Test.YtfkeokeedljomaaDoorTie
import Derived.SevenTiedAt
import Derived.ShutString
import Derived.ChangeOld
import Derived.SizedLaws
import Derived.Deep.DeepHandedRow
namespace Go.Proofs.YtfkeokeedljomaaDoor
open Go.ChangeShapes Go.WideShapes Go.RowKit
namespace spreadAll
theorem laidOut : laidOutB Tryd.prog = true := by kernel_rfl
theorem all_walk (W : World) (a0 : Option Addr) (cap0 : Nat) (l : List ByteArray) (a1 : Option Addr) (cap1 : Nat) (LL : List Tl) (wk : Int) (h : CsAt W a0 (tcells l)) (hl : l.length ≤ 100000000) (hL : TlsAt W a1 LL) (hLL : LL.length ≤ 100000000) (ha : (allT LL).length ≤ 100000000) (hg : W.cell? ⟨0, 0, none⟩ = some ET) :
    Calls Tryd.prog 3 #[.slice a0 l.length cap0, .slice a1 LL.length cap1, .int .i64 wk] W fun e w' => e = .returned (.bool true) ∧ Below W.heap.size W w' := by
  by_cases he1 : erC l.length wk = 0
  · by_cases he2 : erC (allT LL).length wk = 0
    · exact all_yy W a0 cap0 l a1 cap1 LL wk h hl hL hLL ha hg he1 he2
    · exact all_yn W a0 cap0 l a1 cap1 LL wk h hl hL hLL ha hg he1 he2
  · by_cases he2 : erC (allT LL).length wk = 0
    · exact all_ny W a0 cap0 l a1 cap1 LL wk h hl hL hLL ha hg he1 he2
    · exact all_nn W a0 cap0 l a1 cap1 LL wk h hl hL hLL ha hg he1 he2
theorem small3 {H : Type} {d0 d1 d2 : DataW H} {gs : List (DataW H)} (hk : Rows.uptoSmall H ([d0, d1, d2] ++ gs) = true) : Rows.uptoBulk d0 ≤ 1048576 ∧ Rows.uptoBulk d1 ≤ 1048576 := by
  have h : Rows.uptoBulkAll ([d0, d1, d2] ++ gs) ≤ 1048576 := of_decide_eq_true hk
  simp only [List.cons_append, Rows.uptoBulkAll] at h
  omega
theorem reads (os : Os) {H : Type} (enc : TypeId × Value → H) : ∃ places, DataW.whole enc Tryd.prog ((laidAt (World.holding Tryd.prog os ⟨#[], #[], []⟩)).forCall (fun _ _ => 0) ⟨#[], #[.slice none 0 0, .slice none 0 0, .int .i64 0], []⟩).memory Tryd.f3.params.toList Rows.spreadAllSpec.vars false #[Value.slice none 0 0, .slice none 0 0, .int .i64 0].toList 8 = some ([.nil, .nil, .lit (.int .i64 0)], [], places) :=
  ⟨[], by kernel_rfl⟩
set_option maxRecDepth 100000 in
theorem lifted (os : Os) (started : os.Started) (H : Type) (enc : TypeId × Value → H) (F : Stop.Interp) :
    ReturnsInHanded {} Tryd.checked os 3 .any ((Rows.OpenSpec.upto Rows.spreadAllSpec).preRow enc Tryd.prog Tryd.f3 Rows.spreadAllUptoRow.domain false Rows.spreadAllUptoRow.laid) (((Rows.OpenSpec.upto Rows.spreadAllSpec).at F).post enc Tryd.prog Tryd.f3 false true false false) := by
  obtain ⟨places, hx⟩ := reads os enc
  refine returnsInHanded_of_row (C := Tryd.checked) (s := Rows.OpenSpec.upto Rows.spreadAllSpec) Tryd.own started (by kernel_rfl) Tryd.func3
    (witness_row_at (enc := enc) (C := Tryd.checked) false (laidAt (World.holding Tryd.prog os ⟨#[], #[], []⟩)) #[.slice none 0 0, .slice none 0 0, .int .i64 0] rfl (by kernel_rfl) (by kernel_rfl) (by kernel_rfl)
      (OpenSpec.preRow_of_cond 8 hx (by kernel_rfl) (fun k hk => by cases hk; kernel_rfl) (by kernel_rfl) (laidWorld_met os _))) ?_
  intro W base args ds gs before hval0 hW _ hcond _ hL _ _
  have hk : Rows.uptoSmall H (ds ++ gs) = true := hcond _ rfl
  clear hcond
  have hval : ∀ (j : Nat) t v, Tryd.f3.params[j]? = some t → args[j]? = some v → Value.okWide Tryd.prog W .any base t v := hval0
  have hW' := hW
  obtain ⟨p, q, hA0, hV0, rfl, hfz, hnd⟩ := hW
  have hA : DataW.TrodAll enc Tryd.prog W 0 (fun _ => true) true Tryd.f3.params.toList args.toList ds p := hA0
  have hV : DataW.TrodVars enc Tryd.prog W (fun _ => true) [] gs q := hV0
  rw [Tryd.params3] at hA hval
  obtain ⟨v0, vs0, d0, ds0, p0, q0, hargs, rfl, rfl, h0, r0⟩ := trodAll_cons hA
  obtain ⟨v1, vs1, d1, ds1, p1, q1, rfl, rfl, rfl, h1, r1⟩ := trodAll_cons r0
  obtain ⟨v2, vs2, d2, ds2, p2, q2, rfl, rfl, rfl, h2, r2⟩ := trodAll_cons r1
  obtain ⟨rfl, rfl, rfl⟩ := trodAll_nil r2
  obtain rfl : args = #[v0, v1, v2] := by cases args; simp_all
  obtain ⟨a0, len0, cap0, rfl⟩ := okWide_slice Tryd.underlying22 (hval 0 22 v0 rfl rfl)
  obtain ⟨a1, len1, cap1, rfl⟩ := okWide_slice Tryd.underlying23 (hval 1 23 v1 rfl rfl)
  have k0 := h0
  have k1 := h1
  obtain ⟨l0, hn0, hb0, hd0⟩ := open_ts h0
  obtain ⟨l1, hn1, hb1, hd1⟩ := open_tls h1
  obtain ⟨s0, s1⟩ := small3 hk
  have z0 : l0.length ≤ 100000000 := by have := bulk_ld hd0; omega
  obtain ⟨z1, z2⟩ := hd1 _ s1
  subst hn0
  subst hn1
  obtain ⟨a2, rfl, rfl, rfl, w2⟩ := open_int Tryd.underlying3 (hval 2 3 v2 rfl rfl) h2
  have hg := handle_of_laid hL
  obtain ⟨rfl, rfl⟩ : gs = [] ∧ q = [] := by
    cases gs with
    | nil => exact ⟨rfl, hV⟩
    | cons g r => exact absurd hV (by intro h; cases h)
  clear hA0 hval0
  refine (all_walk W a0 cap0 l0 a1 cap1 l1 a2 hb0 z0 hb1 (by omega) (by omega) hg).mono fun e W' ⟨he, bel⟩ => ?_
  subst he
  have hlt : ∀ x ∈ (p0 ++ p1 ++ [] ++ [] : List MemPlace), x.block < W.heap.size := fun x hx => hW'.lt x (by simpa using hx)
  exact ⟨_, rfl, _, _, _, [], _, [], hW', trodAll_mk1 (shut_bool Tryd.underlying4 true), trodAll_cons_mk (WideElems.Trod_stays laidOut (by kernel_rfl) (of_decide_eq_true (by kernel_rfl)) k0 (fun x hx => bel.same (hlt x (by simp [hx]))) (fun x hx => by simpa using hlt x (by simp [hx]))) (trodAll_cons_mk (WideElems.Trod_stays laidOut (by kernel_rfl) (of_decide_eq_true (by kernel_rfl)) k1 (fun x hx => bel.same (hlt x (by simp [hx]))) (fun x hx => by simpa using hlt x (by simp [hx]))) (trodAll_cons_mk (shut_int Tryd.underlying3 w2) trodAll_mk0)), rfl, bel.frame _, fun h => by cases h⟩

theorem over : Rows.SpreadAllUptoSaid :=
  OpenClaim.holds_of_cond 3 Tryd.f3 rfl rfl rfl rfl rfl rfl rfl ⟨rfl, rfl, rfl, rfl, rfl⟩ rfl rfl rfl rfl rfl (by kernel_rfl) Tryd.func3 (by kernel_rfl)
    (of_decide_eq_true (by kernel_rfl)) (by unfold Func.isWrapper; first | (rw [if_pos (by decide +kernel)]; kernel_rfl) | (rw [if_neg (by decide +kernel)]; exact ⟨rfl, rfl⟩))
    (fun os started H enc _ F => by rw [OpenClaim.pre_eq_preRow]; exact lifted os started H enc F)
end spreadAll

theorem spreadAllUpto_holds : Rows.SpreadAllUptoCardSaid :=
  Claim7.holds_tied_plain_at .later [] _ _ _ _ spreadAll.over (fun _ h => by cases h) (by kernel_rfl) (fun _ h => by cases h) spreadAllUpto_row_tie rfl ⟨rfl, rfl⟩ (by kernel_rfl) rfl
    (fun f fn hf hfn => by
      obtain rfl : f = 3 := Option.some.inj ((show Tryd.prog.funcNamed Tryd.f3.name = some 3 by kernel_rfl).symm.trans hf) |>.symm
      obtain rfl : fn = Tryd.f3 := (Option.some.inj (Tryd.func3.symm.trans hfn)).symm
      exact ⟨by kernel_rfl, fun j t ht => by
        rw [Tryd.params3] at ht
        match j, ht with
        | 0, ht =>
          obtain rfl : t = 22 := by simpa using ht.symm
          exact (show Tryd.prog.wantsStandIn 22 = false by kernel_rfl)
        | 1, ht =>
          obtain rfl : t = 23 := by simpa using ht.symm
          exact (show Tryd.prog.wantsStandIn 23 = false by kernel_rfl)
        | 2, ht =>
          obtain rfl : t = 3 := by simpa using ht.symm
          exact (show Tryd.prog.wantsStandIn 3 = false by kernel_rfl)
        | n + 3, ht => simp at ht⟩)
    (by kernel_rfl)
#print axioms spreadAllUpto_holds
end Go.Proofs.YtfkeokeedljomaaDoor
