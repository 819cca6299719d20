/-
  Whatever the states and the bytes are, weirlaw2.FrameHelds returns true and leaves its arguments as they were: Helds, ReadHelds and Open answer as the document says. The listed variable errors.errorType starts as its own initialiser lays it.
-/
import Derived.Test.YtbppiiomjmpjkaaDoorGi
import Derived.Test.YtbppiiomjmpjkaaDoorFu
import Derived.Test.YtbppiiomjmpjkaaDoorLaid
import Derived.Test.YtbppiiomjmpjkaaDoorCards
import Derived.Test.YtbppiiomjmpjkaaDoorTie
import Derived.SevenTiedAt
import Derived.ShutString
import Derived.ChangeOld
import Derived.SizedLaws
namespace Go.Proofs.YtbppiiomjmpjkaaDoor
open Go.ChangeShapes Go.WideShapes Go.RowKit
open Go.ChangeMaps (open_string shut_string)
namespace frameHelds

theorem laidOut : laidOutB Tryd.prog = true := by kernel_rfl
theorem reach_lt {n : Nat} (h : n ≤ reachBytes) : n + 14 ≤ 140737488355328 := by unfold reachBytes at h; omega
theorem walk (w : World) (la p : Option Addr) (c cb : Nat) (L : List Hd) (lb : List UInt8)
    (hL : CsAt w la (hcells L)) (hLn : L.length ≤ 9223372036854775807) (hLo : ∀ r ∈ L, OkHd r) (hb : Bz w p cb lb) (hbc : p = none → cb = 0) (hlen : lb.length + 14 ≤ 140737488355328) (hg : w.cell? ⟨0, 0, none⟩ = some ET) :
    Calls Tryd.prog 4 #[.slice la L.length c, .slice p lb.length cb] w fun e w' => e = .returned (.bool true) ∧ Below w.heap.size w w' := by
  cases hx : readHds ltH lb with
  | none =>
    cases ho : openB lb with
    | none =>
      by_cases hr : heldsE ltH L = 0
      · exact hds_ynn w la p c cb L lb hL hLn hLo hb hbc hlen hg hr hx ho
      · exact hds_nnn w la p c cb L lb hL hLn hLo hb hbc hlen hg hr hx ho
    | some pr =>
      obtain ⟨ob, ok⟩ := pr
      by_cases hr : heldsE ltH L = 0
      · exact hds_yny w la p c cb L lb hL hLn hLo hb hbc hlen hg hr hx ob ok ho
      · exact hds_nny w la p c cb L lb hL hLn hLo hb hbc hlen hg hr hx ob ok ho
  | some xs =>
    cases ho : openB lb with
    | none =>
      by_cases hr : heldsE ltH L = 0
      · exact hds_yyn w la p c cb L lb hL hLn hLo hb hbc hlen hg hr xs hx ho
      · exact hds_nyn w la p c cb L lb hL hLn hLo hb hbc hlen hg hr xs hx ho
    | some pr =>
      obtain ⟨ob, ok⟩ := pr
      by_cases hr : heldsE ltH L = 0
      · exact hds_yyy w la p c cb L lb hL hLn hLo hb hbc hlen hg hr xs hx ob ok ho
      · exact hds_nyy w la p c cb L lb hL hLn hLo hb hbc hlen hg hr xs hx ob ok ho


set_option maxRecDepth 100000 in
theorem lifted (os : Os) (started : os.Started) (H : Type) (enc : TypeId × Value → H) :
    ReturnsInHanded {} Tryd.checked os 4 .any (fun w args => (Rows.frameHeldsSpec.pre enc Tryd.prog Tryd.f4 [] false w args ∧ laidMetH Tryd.prog laidL w) ∧ sizedMet enc Tryd.prog Tryd.f4 (OpenSpec.ofChange Rows.frameHeldsSpec) false w args)
      (Rows.frameHeldsSpec.post enc Tryd.prog Tryd.f4 false true false false) := by
  refine returnsInHanded_of_change_and (C := Tryd.checked) (X := fun w _ => laidMetH Tryd.prog laidL w) (fun _ _ _ hh h => h.of_heap hh) Tryd.own started (by kernel_rfl) Tryd.func4
    (ChangeSpec.witness_at (enc := enc) (C := Tryd.checked) (os := os) (X := fun w _ => laidMetH Tryd.prog laidL w) false (laidAt (World.holding Tryd.prog os ⟨#[], #[], []⟩)) #[.slice none 0 0, .slice none 0 0] 8 rfl (by kernel_rfl) (by kernel_rfl) (by kernel_rfl) (by kernel_rfl) (by kernel_rfl) (laidWorld_met os _)) ?_
  intro W base args ds gs before hval0 hW _ hsz0 hL _
  have hsz : (DataW.weightsEach Tryd.prog (Tryd.f4.params.toList ++ Rows.frameHeldsSpec.plain.varTypes Tryd.prog) (ds ++ gs)).all (· ≤ reachBytes) = true := hsz0
  clear hsz0
  have hval : ∀ (j : Nat) t v, Tryd.f4.params[j]? = some t → args[j]? = some v → Value.okWide Tryd.prog W .any base t v := hval0
  have hW' := hW
  obtain ⟨p, q, hA0, hV0, rfl, hfz, hnd⟩ := hW
  have hA : DataW.TrodAll enc Tryd.prog W 0 (fun _ => true) true Tryd.f4.params.toList args.toList ds p := hA0
  have hV : DataW.TrodVars enc Tryd.prog W (fun _ => true) [] gs q := hV0
  rw [Tryd.params4] at hA hval hsz
  obtain ⟨v0, vs0, d0, ds0, p0, q0, hargs, rfl, rfl, h0, r0⟩ := trodAll_cons hA
  obtain ⟨v1, vs1, d1, ds1, p1, q1, rfl, rfl, rfl, h1, r1⟩ := trodAll_cons r0
  obtain ⟨rfl, rfl, rfl⟩ := trodAll_nil r1
  obtain rfl : args = #[v0, v1] := by cases args; simp_all
  obtain ⟨a0, len0, cap0, rfl⟩ := okWide_slice Tryd.underlying37 (hval 0 37 v0 rfl rfl)
  have k0 := h0
  obtain ⟨l0, hn0, hb0, ho0, hz0⟩ := open_hds h0
  subst hn0
  obtain ⟨a1, len1, cap1, rfl⟩ := okWide_slice Tryd.underlying23 (hval 1 23 v1 rfl rfl)
  have k1 := h1
  obtain ⟨l1, hn1, hb1, hc1, hd1⟩ := open_bs h1
  have z1 : len1 ≤ reachBytes := bs_reach hsz (j := 1) rfl rfl hd1
  have g1 := open_bs2 k1
  subst hn1
  have hg := handle_of_laid hL
  obtain ⟨rfl, rfl⟩ : gs = [] ∧ q = [] := by
    cases gs with
    | nil => exact ⟨rfl, hV⟩
    | cons g r => exact absurd hV (by intro h; cases h)
  clear hA0 hval0
  refine (walk W a0 a1 cap0 cap1 l0 l1 hb0 hz0 ho0 ⟨hb1, g1.1, g1.2⟩ hc1 (reach_lt z1) hg).mono fun e W' ⟨he, bel⟩ => ?_
  subst he
  have hlt : ∀ x ∈ (p0 ++ p1 ++ [] : List MemPlace), x.block < W.heap.size := fun x hx => hW'.lt x (by simpa using hx)
  exact ⟨_, rfl, _, _, _, [], _, [], hW', trodAll_mk1 (shut_bool Tryd.underlying4 true), trodAll_cons_mk (WideElems.Trod_stays laidOut (by kernel_rfl) (of_decide_eq_true (by kernel_rfl)) k0 (fun x hx => bel.same (hlt x (by simp [hx]))) (fun x hx => by simpa using hlt x (by simp [hx]))) (trodAll_cons_mk (WideElems.Trod_stays laidOut (by kernel_rfl) (of_decide_eq_true (by kernel_rfl)) k1 (fun x hx => bel.same (hlt x (by simp [hx]))) (fun x hx => by simpa using hlt x (by simp [hx]))) trodAll_mk0), rfl, bel.frame _, fun h => by cases h⟩

theorem over : Rows.FrameHeldsSaid :=
  OpenClaim.holds_of_wide 4 Tryd.f4 rfl rfl rfl rfl rfl rfl rfl ⟨rfl, rfl, rfl, rfl, rfl⟩ rfl rfl rfl rfl rfl (by kernel_rfl) Tryd.func4 (by kernel_rfl)
    (of_decide_eq_true (by kernel_rfl)) (by unfold Func.isWrapper; rw [if_neg (of_decide_eq_false (by kernel_rfl))]; exact ⟨rfl, rfl⟩)
    (fun os started H enc _ => lifted os started H enc)
end frameHelds

theorem frameHelds_holds : Rows.FrameHeldsCardSaid :=
  Claim7.holds_tied_plain_at .later [] [.handle] true (true, "f5c05c2713c5b36827b7ee227f04c33a7a45819a2ed8dcc10b0206109ac46bd1") true
    frameHelds.over (fun _ h => by cases h) (by kernel_rfl) (fun _ h => by cases h) frameHelds_row_tie rfl ⟨rfl, rfl⟩ (by kernel_rfl) rfl
    (fun f fn hf hfn => by
      obtain rfl : f = 4 := Option.some.inj ((show Tryd.prog.funcNamed Tryd.f4.name = some 4 by kernel_rfl).symm.trans hf) |>.symm
      obtain rfl : fn = Tryd.f4 := (Option.some.inj (Tryd.func4.symm.trans hfn)).symm
      exact ⟨by kernel_rfl, fun j t ht => by
        rw [Tryd.params4] at ht
        match j, ht with
        | 0, ht =>
          obtain rfl : t = 37 := by simpa using ht.symm
          exact (show Tryd.prog.wantsStandIn 37 = false by kernel_rfl)
        | 1, ht =>
          obtain rfl : t = 23 := by simpa using ht.symm
          exact (show Tryd.prog.wantsStandIn 23 = false by kernel_rfl)
        | n + 2, ht => simp at ht⟩)
    (by kernel_rfl)
#print axioms frameHelds_holds
end Go.Proofs.YtbppiiomjmpjkaaDoor
