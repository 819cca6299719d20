/-
  Whatever the rows of states, the bytes and the two numbers are, weirlaw2.KeyedWholes returns true and leaves its arguments as they were: Whole puts parts together and Import takes bytes as the document says. The listed variable errors.errorType starts as its own initialiser lays it.
-/
import Derived.Test.YtbppiiomjmpjkabGreatDoorQxp
import Derived.Test.YtbppiiomjmpjkabGreatDoorQxq
import Derived.Test.YtbppiiomjmpjkabGreatDoorQxr
import Derived.Test.YtbppiiomjmpjkabGreatDoorFu
import Derived.Test.YtbppiiomjmpjkabGreatDoorLaid
import Derived.Test.YtbppiiomjmpjkabGreatDoorCards
import Derived.Test.YtbppiiomjmpjkabGreatDoorTie
import Derived.SevenTiedAt
import Derived.ShutString
import Derived.ChangeOld
import Derived.SizedLaws
namespace Go.Proofs.YtbppiiomjmpjkabGreatDoor
open Go.ChangeShapes Go.WideShapes Go.RowKit
open Go.ChangeMaps (open_string shut_string)
namespace keyedWholes

theorem laidOut : laidOutB Tryz.prog = true := by kernel_rfl
theorem reach_lt {n : Nat} (h : n ≤ reachBytes) : n ≤ 140737488355328 := by unfold reachBytes at h; omega
theorem wholes_walk (w : World) (ls p : Option Addr) (cs cb : Nat) (S0 : List (List Hd)) (lb : List UInt8) (low high : Int) (h : HssAt w ls S0) (hlen : S0.length ≤ 9223372036854775807) (hok : ∀ l ∈ S0, (∀ r ∈ l, OkHd r) ∧ l.length ≤ 9223372036854775807) (hb0 : Bz w p cb lb) (hbl : lb.length ≤ 140737488355328) (hg : w.cell? ⟨0, 0, none⟩ = some ET) :
    Calls Tryz.prog 4 #[.slice ls S0.length cs, .slice p lb.length cb, .int .i64 low, .int .i64 high] w fun e w' => e = .returned (.bool true) ∧ Below w.heap.size w w' := by
  by_cases h3 : S0.length ≤ 10
  · by_cases h4 : (putAll [] (S0.take 10).flatten).length < (S0.take 10).flatten.length
    · exact wholes_a w ls p cs cb S0 lb low high h hlen hok hb0 hbl hg h3 h4
    · by_cases h5 : 400 < (putAll [] (S0.take 10).flatten).length
      · exact wholes_b w ls p cs cb S0 lb low high h hlen hok hb0 hbl hg h3 ⟨h4, h5⟩
      · exact wholes_c w ls p cs cb S0 lb low high h hlen hok hb0 hbl hg h3 ⟨h4, h5⟩
  · by_cases h4 : (putAll [] (S0.take 10).flatten).length < (S0.take 10).flatten.length
    · exact wholes_d w ls p cs cb S0 lb low high h hlen hok hb0 hbl hg (by omega) h4
    · by_cases h5 : 400 < (putAll [] (S0.take 10).flatten).length
      · exact wholes_e w ls p cs cb S0 lb low high h hlen hok hb0 hbl hg (by omega) ⟨h4, h5⟩
      · exact wholes_f w ls p cs cb S0 lb low high h hlen hok hb0 hbl hg (by omega) ⟨h4, h5⟩


set_option maxRecDepth 100000 in
theorem lifted (os : Os) (started : os.Started) (H : Type) (enc : TypeId × Value → H) :
    ReturnsInHanded {} Tryz.checked os 4 .any (fun w args => (Rows.keyedWholesSpec.pre enc Tryz.prog Tryz.f4 [] false w args ∧ laidMetH Tryz.prog laidL w) ∧ sizedMet enc Tryz.prog Tryz.f4 (OpenSpec.ofChange Rows.keyedWholesSpec) false w args)
      (Rows.keyedWholesSpec.post enc Tryz.prog Tryz.f4 false true false false) := by
  refine returnsInHanded_of_change_and (C := Tryz.checked) (X := fun w _ => laidMetH Tryz.prog laidL w) (fun _ _ _ hh h => h.of_heap hh) Tryz.own started (by kernel_rfl) Tryz.func4
    (ChangeSpec.witness_at (enc := enc) (C := Tryz.checked) (os := os) (X := fun w _ => laidMetH Tryz.prog laidL w) false (laidAt (World.holding Tryz.prog os ⟨#[], #[], []⟩)) #[.slice none 0 0, .slice none 0 0, .int .i64 0, .int .i64 0] 8 rfl (by kernel_rfl) (by kernel_rfl) (by kernel_rfl) (by kernel_rfl) (by kernel_rfl) (laidWorld_met os _)) ?_
  intro W base args ds gs before hval0 hW _ hsz0 hL _
  have hsz : (DataW.weightsEach Tryz.prog (Tryz.f4.params.toList ++ Rows.keyedWholesSpec.plain.varTypes Tryz.prog) (ds ++ gs)).all (· ≤ reachBytes) = true := hsz0
  clear hsz0
  have hval : ∀ (j : Nat) t v, Tryz.f4.params[j]? = some t → args[j]? = some v → Value.okWide Tryz.prog W .any base t v := hval0
  have hW' := hW
  obtain ⟨p, q, hA0, hV0, rfl, hfz, hnd⟩ := hW
  have hA : DataW.TrodAll enc Tryz.prog W 0 (fun _ => true) true Tryz.f4.params.toList args.toList ds p := hA0
  have hV : DataW.TrodVars enc Tryz.prog W (fun _ => true) [] gs q := hV0
  rw [Tryz.params4] at hA hval hsz
  obtain ⟨v0, vs0, d0, ds0, p0, q0, hargs, rfl, rfl, h0, r0⟩ := trodAll_cons hA
  obtain ⟨v1, vs1, d1, ds1, p1, q1, rfl, rfl, rfl, h1, r1⟩ := trodAll_cons r0
  obtain ⟨v2, vs2, d2, ds2, p2, q2, rfl, rfl, rfl, h2, r2⟩ := trodAll_cons r1
  obtain ⟨v3, vs3, d3, ds3, p3, q3, rfl, rfl, rfl, h3, r3⟩ := trodAll_cons r2
  obtain ⟨rfl, rfl, rfl⟩ := trodAll_nil r3
  obtain rfl : args = #[v0, v1, v2, v3] := by cases args; simp_all
  obtain ⟨a0, len0, cap0, rfl⟩ := okWide_slice Tryz.underlying46 (hval 0 46 v0 rfl rfl)
  have k0 := h0
  obtain ⟨l0, hn0, hb0, hz0, ho0⟩ := open_hss h0
  subst hn0
  obtain ⟨a1, len1, cap1, rfl⟩ := okWide_slice Tryz.underlying39 (hval 1 39 v1 rfl rfl)
  have k1 := h1
  obtain ⟨l1, hn1, hb1, hc1, hd1⟩ := open_bs h1
  have z1 : len1 ≤ reachBytes := bs_reach hsz (j := 1) rfl rfl hd1
  have g1 := open_bs2 k1
  subst hn1
  obtain ⟨a2, rfl, rfl, rfl, w2⟩ := open_int Tryz.underlying3 (hval 2 3 v2 rfl rfl) h2
  obtain ⟨a3, rfl, rfl, rfl, w3⟩ := open_int Tryz.underlying3 (hval 3 3 v3 rfl rfl) h3
  have hg := handle_of_laid hL
  obtain ⟨rfl, rfl⟩ : gs = [] ∧ q = [] := by
    cases gs with
    | nil => exact ⟨rfl, hV⟩
    | cons g r => exact absurd hV (by intro h; cases h)
  clear hA0 hval0
  refine (wholes_walk W a0 a1 cap0 cap1 l0 l1 a2 a3 hb0 hz0 ho0 ⟨hb1, g1.1, g1.2⟩ (reach_lt z1) hg).mono fun e W' ⟨he, bel⟩ => ?_
  subst he
  have hlt : ∀ x ∈ (p0 ++ p1 ++ [] ++ [] ++ [] : List MemPlace), x.block < W.heap.size := fun x hx => hW'.lt x (by simpa using hx)
  exact ⟨_, rfl, _, _, _, [], _, [], hW', trodAll_mk1 (shut_bool Tryz.underlying4 true), trodAll_cons_mk (WideElems.Trod_stays laidOut (by kernel_rfl) (of_decide_eq_true (by kernel_rfl)) k0 (fun x hx => bel.same (hlt x (by simp [hx]))) (fun x hx => by simpa using hlt x (by simp [hx]))) (trodAll_cons_mk (WideElems.Trod_stays laidOut (by kernel_rfl) (of_decide_eq_true (by kernel_rfl)) k1 (fun x hx => bel.same (hlt x (by simp [hx]))) (fun x hx => by simpa using hlt x (by simp [hx]))) (trodAll_cons_mk (shut_int Tryz.underlying3 w2) (trodAll_cons_mk (shut_int Tryz.underlying3 w3) trodAll_mk0))), rfl, bel.frame _, fun h => by cases h⟩

theorem over : Rows.KeyedWholesSaid :=
  OpenClaim.holds_of_wide 4 Tryz.f4 rfl rfl rfl rfl rfl rfl rfl ⟨rfl, rfl, rfl, rfl, rfl⟩ rfl rfl rfl rfl rfl (by kernel_rfl) Tryz.func4 (by kernel_rfl)
    (of_decide_eq_true (by kernel_rfl)) (by unfold Func.isWrapper; rw [if_neg (of_decide_eq_false (by kernel_rfl))]; exact ⟨rfl, rfl⟩)
    (fun os started H enc _ => lifted os started H enc)
end keyedWholes

theorem keyedWholes_holds : Rows.KeyedWholesCardSaid :=
  Claim7.holds_tied_plain_at .later [] [.handle] true (true, "1a2ab2dbe7f5ea5238e10f05298b772e26189b2c4e51d77103e2f579087681cd") true
    keyedWholes.over (fun _ h => by cases h) (by kernel_rfl) (fun _ h => by cases h) keyedWholes_row_tie rfl ⟨rfl, rfl⟩ (by kernel_rfl) rfl
    (fun f fn hf hfn => by
      obtain rfl : f = 4 := Option.some.inj ((show Tryz.prog.funcNamed Tryz.f4.name = some 4 by kernel_rfl).symm.trans hf) |>.symm
      obtain rfl : fn = Tryz.f4 := (Option.some.inj (Tryz.func4.symm.trans hfn)).symm
      exact ⟨by kernel_rfl, fun j t ht => by
        rw [Tryz.params4] at ht
        match j, ht with
        | 0, ht =>
          obtain rfl : t = 46 := by simpa using ht.symm
          exact (show Tryz.prog.wantsStandIn 46 = false by kernel_rfl)
        | 1, ht =>
          obtain rfl : t = 39 := by simpa using ht.symm
          exact (show Tryz.prog.wantsStandIn 39 = false by kernel_rfl)
        | 2, ht =>
          obtain rfl : t = 3 := by simpa using ht.symm
          exact (show Tryz.prog.wantsStandIn 3 = false by kernel_rfl)
        | 3, ht =>
          obtain rfl : t = 3 := by simpa using ht.symm
          exact (show Tryz.prog.wantsStandIn 3 = false by kernel_rfl)
        | n + 4, ht => simp at ht⟩)
    (by kernel_rfl)
#print axioms keyedWholes_holds
end Go.Proofs.YtbppiiomjmpjkabGreatDoor
