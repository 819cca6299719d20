/-
  Whatever the two numbers are, weirlaw1.GroupMoves returns true and leaves its arguments as they were: what moves from some workers to others moves back; from some to as many nothing moves. No condition.
-/
import Derived.Test.YtiofpimchbhfcaaMoves
import Derived.WalkKit
import Derived.ProofKit
import Derived.OpenShut
import Derived.Deep.QuietTactic
import Derived.BigQuiet
import Derived.ChangeOld
import Derived.Below
import Derived.ShutString
namespace Go.Proofs.Ytiofpimchbhfcaa.groupMoves
open Go.ChangeShapes Go.WideShapes Go.ChangeAt Go.RowKit
open Go.ChangeMaps (open_string shut_string)
set_option linter.unusedVariables false      -- a walk need not use every 'w<i>' (that an integer argument fits its kind)

theorem own : ownKnob Try.prog.godebug = none := by kernel_rfl

theorem own_below {w w' : World} {B e size n : Nat} {v : Value} {xs : List Value} (h : w.ownsRow B e size v n xs) (hb : Below w.heap.size w w') : w'.ownsRow B e size v n xs := by
  refine ⟨h.1, ?_⟩
  rcases h.2 with h0 | ⟨g, cap, cur, rfl, h1, h2, h3⟩
  · exact .inl h0
  · have hlt : g < w.heap.size := by
      rcases Nat.lt_or_ge g w.heap.size with h | h
      · exact h
      · rw [Array.getElem?_eq_none h] at h2; cases h2
    exact .inr ⟨g, cap, cur, rfl, h1, (hb.block g hlt).trans h2, h3⟩
theorem own_form {w : World} {B e size n : Nat} {v : Value} {xs : List Value} (h : w.ownsRow B e size v n xs) : ∃ A cap, v = .slice A n cap := by
  rcases h.2 with ⟨rfl, rfl⟩ | ⟨g, cap, cur, rfl, _⟩
  · exact ⟨_, _, rfl⟩
  · exact ⟨_, _, rfl⟩

/-- The first call of the law: from one worker to two. -/
theorem fact_any (w : World) : Calls Try.prog 9 #[.int .i64 1, .int .i64 2] w fun e w' => ∃ A cap, e = .returned (.tuple #[.slice A 8 cap, .nilIface]) ∧ Below w.heap.size w w' := by
  refine (Moves_yes 1 2 w (by omega) (by omega) (by omega) (by omega)).mono ?_
  rintro e w' ⟨v, rfl, hown, hb⟩
  rw [mvs_12] at hown
  obtain ⟨A, cap, rfl⟩ := own_form hown
  exact ⟨A, cap, rfl, hb⟩
/-- The last call of the law: from some workers to as many. -/
theorem same_any (p : Int) (w : World) (h1 : 1 ≤ p) (h2 : p ≤ 16) : Calls Try.prog 9 #[.int .i64 p, .int .i64 p] w fun e w' => ∃ A cap, e = .returned (.tuple #[.slice A 0 cap, .nilIface]) ∧ Below w.heap.size w w' := by
  refine (Moves_yes p p w h1 h2 h1 h2).mono ?_
  rintro e w' ⟨v, rfl, hown, hb⟩
  rw [mvs_same] at hown
  obtain ⟨A, cap, rfl⟩ := own_form hown
  exact ⟨A, cap, rfl, hb⟩

theorem walk_no1 (a0 a1 : Int) (w : World) (hp : a0 < 1 ∨ 16 < a0) :
    Calls Try.prog 4 #[.int .i64 a0, .int .i64 a1] w fun e w' => e = .returned (.bool true) ∧ Below w.heap.size w w' := by
  by_cases hq : a1 < 1 ∨ 16 < a1
  · go_enter Try.func4, Try.ntmps4
    go_wp2_with fail
    refine (fact_any _).mono ?_; rintro e w1 ⟨A, cap, rfl, hb⟩
    go_wp2_with fail
    refine (Moves_no1 _ _ _ hp).mono ?_; rintro e w' ⟨rfl, rfl⟩
    go_wp2_with fail
    refine (Moves_no1 _ _ _ hq).mono ?_; rintro e w' ⟨rfl, rfl⟩
    go_wp2
    go_ret
    exact ⟨rfl, hb⟩
  · go_enter Try.func4, Try.ntmps4
    go_wp2_with fail
    refine (fact_any _).mono ?_; rintro e w1 ⟨A, cap, rfl, hb⟩
    go_wp2_with fail
    refine (Moves_no1 _ _ _ hp).mono ?_; rintro e w' ⟨rfl, rfl⟩
    go_wp2_with fail
    refine (Moves_no2 _ _ _ (by omega) (by omega) hp).mono ?_; rintro e w' ⟨rfl, rfl⟩
    go_wp2
    go_ret
    exact ⟨rfl, hb⟩
theorem walk_no2 (a0 a1 : Int) (w : World) (h1 : 1 ≤ a0) (h2 : a0 ≤ 16) (hq : a1 < 1 ∨ 16 < a1) :
    Calls Try.prog 4 #[.int .i64 a0, .int .i64 a1] w fun e w' => e = .returned (.bool true) ∧ Below w.heap.size w w' := by
  go_enter Try.func4, Try.ntmps4
  go_wp2_with fail
  refine (fact_any _).mono ?_; rintro e w1 ⟨A, cap, rfl, hb⟩
  go_wp2_with fail
  refine (Moves_no2 _ _ _ h1 h2 hq).mono ?_; rintro e w' ⟨rfl, rfl⟩
  go_wp2_with fail
  refine (Moves_no1 _ _ _ hq).mono ?_; rintro e w' ⟨rfl, rfl⟩
  go_wp2
  go_ret
  exact ⟨rfl, hb⟩

/-- A move's cells, behind whatever was made since. -/
def sw (m : Int × Int × Int) : Int × Int × Int := (m.1, m.2.2, m.2.1)
theorem there_any (p q : Int) (w : World) (l : List (Int × Int × Int)) (hl : l = mvs p q 16) (h1 : 1 ≤ p) (h2 : p ≤ 16) (h3 : 1 ≤ q) (h4 : q ≤ 16) :
    Calls Try.prog 9 #[.int .i64 p, .int .i64 q] w fun e w' => ∃ A cap, e = .returned (.tuple #[.slice A l.length cap, .nilIface]) ∧ w'.ownsRow w.heap.size 34 3 (.slice A l.length cap) l.length (mcells l) ∧ Below w.heap.size w w' := by
  refine (Moves_yes p q w h1 h2 h3 h4).mono ?_
  rintro e w' ⟨v, rfl, hown, hb⟩
  rw [← hl] at hown
  obtain ⟨A, cap, rfl⟩ := own_form hown
  exact ⟨A, cap, rfl, hown, hb⟩
theorem back_any (p q : Int) (w : World) (l : List (Int × Int × Int)) (hl : l = mvs p q 16) (h1 : 1 ≤ p) (h2 : p ≤ 16) (h3 : 1 ≤ q) (h4 : q ≤ 16) :
    Calls Try.prog 9 #[.int .i64 q, .int .i64 p] w fun e w' => ∃ A cap, e = .returned (.tuple #[.slice A l.length cap, .nilIface]) ∧ w'.ownsRow w.heap.size 34 3 (.slice A l.length cap) l.length (mcells (l.map sw)) ∧ Below w.heap.size w w' := by
  refine (Moves_yes q p w h3 h4 h1 h2).mono ?_
  rintro e w' ⟨v, rfl, hown, hb⟩
  rw [mvs_swap p q, ← hl] at hown
  have e1 : (l.map fun m => (m.1, m.2.2, m.2.1)) = l.map sw := rfl
  rw [e1, List.length_map] at hown
  obtain ⟨A, cap, rfl⟩ := own_form hown
  exact ⟨A, cap, rfl, hown, hb⟩
theorem own_some {w : World} {B e size n cap : Nat} {A : Option Addr} {xs : List Value} (h : w.ownsRow B e size (.slice A n cap) n xs) (hn : 0 < n) : ∃ g, A = some ⟨g, 0, none⟩ := by
  rcases h.2 with ⟨h0, h0'⟩ | ⟨g, cap', cur, h0, _⟩
  · omega
  · simp at h0; exact ⟨g, h0.1⟩
theorem three_at {w : World} {B n cap g : Nat} {l : List (Int × Int × Int)} (h : w.ownsRow B 34 3 (.slice (some ⟨g, 0, none⟩) n cap) n (mcells l)) (hn : l.length = n) (i : Nat) (hi : i < l.length) :
    w.cell? ⟨g, i * 3, none⟩ = some (.int .i64 l[i].1) ∧ w.cell? ⟨g, i * 3 + 1, none⟩ = some (.int .i64 l[i].2.1) ∧ w.cell? ⟨g, i * 3 + 2, none⟩ = some (.int .i64 l[i].2.2) := by
  obtain ⟨c0, c1, c2⟩ := mcells_at l i hi
  exact ⟨by rw [h.cellAt _ (by omega), c0], by rw [h.cellAt _ (by omega), c1], by rw [h.cellAt _ (by omega), c2]⟩

set_option maxRecDepth 100000 in
set_option maxHeartbeats 1000000 in
theorem walk_yes (a0 a1 : Int) (w : World) (h1 : 1 ≤ a0) (h2 : a0 ≤ 16) (h3 : 1 ≤ a1) (h4 : a1 ≤ 16) :
    Calls Try.prog 4 #[.int .i64 a0, .int .i64 a1] w fun e w' => e = .returned (.bool true) ∧ Below w.heap.size w w' := by
  obtain ⟨l, hl⟩ : ∃ l, l = mvs a0 a1 16 := ⟨_, rfl⟩
  have hle : l.length ≤ 16 := by rw [hl]; exact mvs_le _ _ _
  have hne : ∀ m, m ∈ l → m.2.1 ≠ m.2.2 := fun m hm => mvs_ne a0 a1 16 m (by rw [← hl]; exact hm)
  have HL : Hid (l = mvs a0 a1 16) := hl
  have HN : Hid (∀ m, m ∈ l → m.2.1 ≠ m.2.2) := hne
  clear hl hne
  go_enter Try.func4, Try.ntmps4
  go_wp2_with fail
  refine (fact_any _).mono ?_; rintro e w1 ⟨A, cap, rfl, hb1⟩
  go_wp2_with fail
  refine (there_any _ _ _ l HL.out h1 h2 h3 h4).mono ?_; rintro e w2 ⟨A2, cap2, rfl, ho2, hb2⟩
  go_wp2_with fail
  refine (back_any _ _ _ l HL.out h1 h2 h3 h4).mono ?_; rintro e w3 ⟨A3, cap3, rfl, ho3, hb3⟩
  have ho2' := own_below ho2 hb3
  have hb : Below w.heap.size w w3 := (hb1.trans (hb2.mono hb1.size)).trans (hb3.mono (Nat.le_trans hb1.size hb2.size))
  clear ho2 hb1 hb2 hb3
  go_wp2_with fail
  go_loopw [11] (fun t wr => ∃ k nq : Nat, k ≤ l.length ∧ t = .int .i64 k ∧ wr = w3.drewN nq) (fun t _ => l.length - (intOf t).toNat)
  case atStart => exact ⟨0, 0, by omega, rfl, rfl⟩
  case round =>
    obtain ⟨k, nq, hk, rfl, rfl⟩ := hrel
    by_cases hlt : k < l.length
    · obtain ⟨g2, rfl⟩ := own_some ho2' (by omega)
      obtain ⟨g3, rfl⟩ := own_some ho3 (by omega)
      obtain ⟨c0, c1, c2⟩ := three_at ho2' rfl k hlt
      obtain ⟨d0, d1, d2⟩ := three_at ho3 (by simp) k (by simpa using hlt)
      simp only [List.getElem_map, sw] at d0 d1 d2
      have hn := HN.out l[k] (List.getElem_mem hlt)
      obtain ⟨m, hm⟩ : ∃ m, m = l[k] := ⟨_, rfl⟩
      rw [← hm] at c0 c1 c2 d0 d1 d2 hn
      clear hm HN HL
      have e1 : (m.2.1 == m.2.2) = false := by simpa using hn
      clear hn
      have hlt' : (k : Int) < (l.length : Int) := by omega
      clear ho2' ho3
      go_wp2_with fail
      go_quiet (fail)
      go_wp2
      exact ⟨⟨k + 1, _, by omega, by go_num, rfl⟩, by simp [intOf]; omega⟩
    · go_wp2_with fail
      refine (same_any _ _ h1 h2).mono ?_; rintro e w4 ⟨A4, cap4, rfl, hb4⟩
      go_wp2
      go_ret
      have hb' : Below w.heap.size w (w3.drewN nq) := hb.trans ⟨rfl, rfl, rfl, Nat.le_refl _, fun _ _ => rfl⟩
      exact ⟨rfl, hb'.trans (hb4.mono hb'.size)⟩
/-! ### STEP 1: THE WALK: the Go text returns true. 'Grown w w'': the world has at most new blocks (Derived/RowKit3.lean). Part the cases AHEAD of 'go_enter' where a test parts the walk; take each callee by a contract of your own. -/
theorem walk (a0 : Int) (a1 : Int) (w0 : (Lit.int .i64 a0).wf = true) (w1 : (Lit.int .i64 a1).wf = true) (w : World) :
    Calls Try.prog 4 #[.int .i64 a0, .int .i64 a1] w fun e w' => e = .returned (.bool true) ∧ Below w.heap.size w w' := by
  by_cases hp : a0 < 1 ∨ 16 < a0
  · exact walk_no1 a0 a1 w hp
  · by_cases hq : a1 < 1 ∨ 16 < a1
    · exact walk_no2 a0 a1 w (by omega) (by omega) hq
    · exact walk_yes a0 a1 w (by omega) (by omega) (by omega) (by omega)

/-! ### THE ROW's STEP: WRITTEN OUT: LEAVE IT -/
set_option maxRecDepth 100000 in
theorem lifted (os : Os) (started : os.Started) (H : Type) (enc : TypeId × Value → H) :
    ReturnsInHanded {} Try.checked os 4 .any (Rows.groupMovesSpec.pre6 enc Try.prog Try.f4 Rows.groupMovesRow.domain false) (Rows.groupMovesSpec.post enc Try.prog Try.f4 false true false false) := by
  refine returnsInHanded_of_change (C := Try.checked) own started (by kernel_rfl) Try.func4
    (ChangeSpec.witness6 (enc := enc) (C := Try.checked) false ⟨#[], #[.int .i64 0, .int .i64 0], []⟩ 8 (by kernel_rfl) (by kernel_rfl) (by kernel_rfl) (by kernel_rfl)) ?_
  intro W base args ds gs before hval0 hW hcnd _
  have hval : ∀ (j : Nat) t v, Try.f4.params[j]? = some t → args[j]? = some v → Value.okWide Try.prog W .any base t v := hval0
  have hW' := hW
  obtain ⟨p, q, hA0, hV, rfl, hfz, hnd⟩ := hW
  have hA : DataW.TrodAll enc Try.prog W 0 (fun _ => true) true Try.f4.params.toList args.toList ds p := hA0
  rw [Try.params4] at hA hval
  obtain ⟨v0, vs0, d0, ds0, p0, q0, hargs, rfl, rfl, h0, r0⟩ := trodAll_cons hA
  obtain ⟨v1, vs1, d1, ds1, p1, q1, rfl, rfl, rfl, h1, r1⟩ := trodAll_cons r0
  obtain ⟨rfl, rfl, rfl⟩ := trodAll_nil r1
  obtain rfl : args = #[v0, v1] := by cases args; simp_all
  obtain ⟨rfl, rfl⟩ := trodVars_none hV
  obtain ⟨a0, rfl, rfl, rfl, w0⟩ := open_int Try.underlying3 (hval 0 3 v0 rfl rfl) h0
  obtain ⟨a1, rfl, rfl, rfl, w1⟩ := open_int Try.underlying3 (hval 1 3 v1 rfl rfl) h1
  clear hA0 hval0
  simp only [List.append_nil] at hW'
  refine (walk a0 a1 w0 w1 W).mono fun e W' ⟨he, bel⟩ => ?_
  subst he
  exact ⟨_, rfl, _, _, _, [], [], [], hW', (trodAll_cons_mk (shut_bool Try.underlying4 _) trodAll_mk0), (trodAll_cons_mk (shut_int Try.underlying3 w0) (trodAll_cons_mk (shut_int Try.underlying3 w1) trodAll_mk0)), rfl, bel.frame _, fun h => by cases h⟩

theorem over : Rows.groupMovesRow.holds Try.pinned (OpenSpec.ofChange Rows.groupMovesSpec) :=
  OpenClaim.holds_of_wide 4 Try.f4 rfl rfl rfl rfl rfl rfl rfl ⟨rfl, rfl, rfl, rfl, rfl⟩ rfl rfl rfl rfl rfl (by kernel_rfl) Try.func4 (by kernel_rfl)
    (of_decide_eq_true (by kernel_rfl)) (by unfold Func.isWrapper; first | (rw [if_pos (by decide +kernel)]; kernel_rfl) | (rw [if_neg (by decide +kernel)]; exact ⟨rfl, rfl⟩))
    (fun os started H enc _ => lifted os started H enc)

/-- ████ THE STATEMENT ████ -/
theorem proved : Rows.GroupMovesSaid :=
  over
end Go.Proofs.Ytiofpimchbhfcaa.groupMoves
namespace Go.Proofs.Ytiofpimchbhfcaa
theorem groupMoves_holds : Rows.GroupMovesSaid := groupMoves.proved
#print axioms groupMoves_holds
end Go.Proofs.Ytiofpimchbhfcaa
