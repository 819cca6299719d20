/-
  Whatever the four numbers are, weirlaw1.GroupCrews returns true and leaves its arguments as they were: who has which groups, and what moves, is as the document says. Condition: errors.errorType holds what its own initialiser lays (the tied card).
-/
import Derived.Test.YtiofpimchbhfcaaDoorCards
import Derived.Test.YtiofpimchbhfcaaDoorTie
import Derived.Test.YtiofpimchbhfcaaDoorLaid
import Derived.Test.YtiofpimchbhfcaaDoorCrewsA
import Derived.Test.YtiofpimchbhfcaaDoorCrewsB
import Derived.SevenTiedAt
namespace Go.Proofs.YtiofpimchbhfcaaDoor
open Go.ChangeShapes Go.WideShapes Go.RowKit
namespace groupCrews

theorem walk (a0 a1 a2 a3 : Int) (w : World) (hg : w.cell? ⟨0, 0, none⟩ = some ET) :
    Calls Tryd.prog 4 #[.int .i64 a0, .int .i64 a1, .int .i64 a2, .int .i64 a3] w fun e w' => e = .returned (.bool true) ∧ Below w.heap.size w w' := by
  by_cases hp : a0 < 1 ∨ 16 < a0
  · exact crews_no a0 a1 a2 a3 w hg hp
  · have h1 : 1 ≤ a0 := by omega
    have h2 : a0 ≤ 16 := by omega
    by_cases hq : a1 < 1 ∨ 16 < a1
    · by_cases hi : a2 < 0 ∨ a0 ≤ a2
      · by_cases hm : a3 < 0 ∨ 16 ≤ a3
        · exact crews_nnn a0 a1 a2 a3 w hg h1 h2 hq hi hm
        · exact crews_nyn a0 a1 a2 a3 w hg h1 h2 hq hi (by omega) (by omega)
      · by_cases hm : a3 < 0 ∨ 16 ≤ a3
        · exact crews_ynn a0 a1 a2 a3 w hg h1 h2 hq (by omega) (by omega) hm
        · exact crews_yyn a0 a1 a2 a3 w hg h1 h2 hq (by omega) (by omega) (by omega) (by omega)
    · by_cases hi : a2 < 0 ∨ a0 ≤ a2
      · by_cases hm : a3 < 0 ∨ 16 ≤ a3
        · exact crews_nny a0 a1 a2 a3 w hg h1 h2 (by omega) (by omega) hi hm
        · exact crews_nyy a0 a1 a2 a3 w hg h1 h2 (by omega) (by omega) hi (by omega) (by omega)
      · by_cases hm : a3 < 0 ∨ 16 ≤ a3
        · exact crews_yny a0 a1 a2 a3 w hg h1 h2 (by omega) (by omega) (by omega) (by omega) hm
        · exact crews_yyy a0 a1 a2 a3 w h1 h2 (by omega) (by omega) (by omega) (by omega) (by omega) (by omega)

set_option maxRecDepth 100000 in
theorem lifted (os : Os) (started : os.Started) (H : Type) (enc : TypeId × Value → H) :
    ReturnsInHanded {} Tryd.checked os 4 .any (fun w args => (Rows.groupCrewsSpec.pre enc Tryd.prog Tryd.f4 [] false w args ∧ laidMetH Tryd.prog laidL w) ∧ sizedMet enc Tryd.prog Tryd.f4 (OpenSpec.ofChange Rows.groupCrewsSpec) false w args)
      (Rows.groupCrewsSpec.post enc Tryd.prog Tryd.f4 false true false false) := by
  refine returnsInHanded_of_change_and (C := Tryd.checked) (X := fun w _ => laidMetH Tryd.prog laidL w) (fun _ _ _ hh h => h.of_heap hh) Tryd.own started (by kernel_rfl) Tryd.func4
    (ChangeSpec.witness_at (enc := enc) (C := Tryd.checked) (os := os) (X := fun w _ => laidMetH Tryd.prog laidL w) false (laidAt (World.holding Tryd.prog os ⟨#[], #[], []⟩)) #[.int .i64 0, .int .i64 0, .int .i64 0, .int .i64 0] 8 rfl (by kernel_rfl) (by kernel_rfl) (by kernel_rfl) (by kernel_rfl) (by kernel_rfl) (laidWorld_met os _)) ?_
  intro W base args ds gs before hval0 hW _ _ hL _
  have hval : ∀ (j : Nat) t v, Tryd.f4.params[j]? = some t → args[j]? = some v → Value.okWide Tryd.prog W .any base t v := hval0
  have hW' := hW
  obtain ⟨p, q, hA0, hV0, rfl, hfz, hnd⟩ := hW
  have hA : DataW.TrodAll enc Tryd.prog W 0 (fun _ => true) true Tryd.f4.params.toList args.toList ds p := hA0
  have hV : DataW.TrodVars enc Tryd.prog W (fun _ => true) [] gs q := hV0
  rw [Tryd.params4] at hA hval
  obtain ⟨v0, vs0, d0, ds0, p0, q0, hargs, rfl, rfl, h0, r0⟩ := trodAll_cons hA
  obtain ⟨v1, vs1, d1, ds1, p1, q1, rfl, rfl, rfl, h1, r1⟩ := trodAll_cons r0
  obtain ⟨v2, vs2, d2, ds2, p2, q2, rfl, rfl, rfl, h2, r2⟩ := trodAll_cons r1
  obtain ⟨v3, vs3, d3, ds3, p3, q3, rfl, rfl, rfl, h3, r3⟩ := trodAll_cons r2
  obtain ⟨rfl, rfl, rfl⟩ := trodAll_nil r3
  obtain rfl : args = #[v0, v1, v2, v3] := by cases args; simp_all
  obtain ⟨a0, rfl, rfl, rfl, w0⟩ := open_int Tryd.underlying3 (hval 0 3 v0 rfl rfl) h0
  obtain ⟨a1, rfl, rfl, rfl, w1⟩ := open_int Tryd.underlying3 (hval 1 3 v1 rfl rfl) h1
  obtain ⟨a2, rfl, rfl, rfl, w2⟩ := open_int Tryd.underlying3 (hval 2 3 v2 rfl rfl) h2
  obtain ⟨a3, rfl, rfl, rfl, w3⟩ := open_int Tryd.underlying3 (hval 3 3 v3 rfl rfl) h3
  have hg := handle_of_laid hL
  obtain ⟨rfl, rfl⟩ : gs = [] ∧ q = [] := by
    cases gs with
    | nil => exact ⟨rfl, hV⟩
    | cons g r => exact absurd hV (by intro h; cases h)
  clear hA0 hval0
  refine (walk a0 a1 a2 a3 W hg).mono fun e W' ⟨he, bel⟩ => ?_
  subst he
  exact ⟨_, rfl, _, _, _, [], [], [], hW', trodAll_mk1 (shut_bool Tryd.underlying4 true), trodAll_cons_mk (shut_int Tryd.underlying3 w0) (trodAll_cons_mk (shut_int Tryd.underlying3 w1) (trodAll_cons_mk (shut_int Tryd.underlying3 w2) (trodAll_cons_mk (shut_int Tryd.underlying3 w3) trodAll_mk0))), rfl, bel.frame _, fun h => by cases h⟩

theorem over : Rows.GroupCrewsSaid :=
  OpenClaim.holds_of_wide 4 Tryd.f4 rfl rfl rfl rfl rfl rfl rfl ⟨rfl, rfl, rfl, rfl, rfl⟩ rfl rfl rfl rfl rfl (by kernel_rfl) Tryd.func4 (by kernel_rfl)
    (of_decide_eq_true (by kernel_rfl)) (by unfold Func.isWrapper; rw [if_neg (of_decide_eq_false (by kernel_rfl))]; exact ⟨rfl, rfl⟩)
    (fun os started H enc _ => lifted os started H enc)
end groupCrews

theorem groupCrews_holds : Rows.GroupCrewsCardSaid :=
  Claim7.holds_tied_plain_at .later [] [.handle] true (true, "022cc42f0c6cb0f085b665cb9e17431b656574fc4d21e59306f4e07203f7cbe2") true
    groupCrews.over (fun _ h => by cases h) (by kernel_rfl) (fun _ h => by cases h) groupCrews_row_tie rfl ⟨rfl, rfl⟩ (by kernel_rfl) rfl
    (fun f fn hf hfn => by
      obtain rfl : f = 4 := Option.some.inj ((show Tryd.prog.funcNamed Tryd.f4.name = some 4 by kernel_rfl).symm.trans hf) |>.symm
      obtain rfl : fn = Tryd.f4 := (Option.some.inj (Tryd.func4.symm.trans hfn)).symm
      exact ⟨by kernel_rfl, fun j t ht => by
        rw [Tryd.params4] at ht
        have h3 : t = 3 := by
          match j, ht with
          | 0, ht => simpa using ht.symm
          | 1, ht => simpa using ht.symm
          | 2, ht => simpa using ht.symm
          | 3, ht => simpa using ht.symm
          | n + 4, ht => simp at ht
        subst h3
        exact (show Tryd.prog.wantsStandIn 3 = false by kernel_rfl)⟩)
    (by kernel_rfl)
#print axioms groupCrews_holds
end Go.Proofs.YtiofpimchbhfcaaDoor
