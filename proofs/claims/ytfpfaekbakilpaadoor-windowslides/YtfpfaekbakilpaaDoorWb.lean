/- What is wrong with records; spans; a pane counts; a mark. -/
import Derived.Test.YtfpfaekbakilpaaDoorWa
namespace Go.Proofs.YtfpfaekbakilpaaDoor
open Go.RowKit
set_option linter.unusedVariables false

theorem w64_eq (x : Int) : wrap64 x = w64 x := by
  unfold wrap64 w64
  first | rfl | omega
set_option maxHeartbeats 1000000 in
theorem span_any (n : Int) (w : World) : Calls Tryd.prog 18 #[.int .i64 n] w fun e w' => e = .returned (.bool (spanB n)) ∧ w = w' := by
  unfold spanB
  go_enter Tryd.func18, Tryd.ntmps18
  by_cases h1 : 1 ≤ n
  · go_wp2_with fail
    go_ret
    exact ⟨ret_bool (by simp [h1]), rfl⟩
  · have e : decide (1 ≤ n) = false := by simp; omega
    go_wp2_with fail
    go_ret
    exact ⟨ret_bool (by first | (simp; done) | (simp; omega)), rfl⟩
set_option maxHeartbeats 1000000 in
theorem slack_any (n : Int) (w : World) : Calls Tryd.prog 19 #[.int .i64 n] w fun e w' => e = .returned (.bool (slackB n)) ∧ w = w' := by
  unfold slackB
  go_enter Tryd.func19, Tryd.ntmps19
  by_cases h1 : 0 ≤ n
  · go_wp2_with fail
    go_ret
    exact ⟨ret_bool (by simp [h1]), rfl⟩
  · have e : decide (1 ≤ n) = false := by simp; omega
    go_wp2_with fail
    go_ret
    exact ⟨ret_bool (by first | (simp; done) | (simp; omega)), rfl⟩
set_option maxHeartbeats 1000000 in
theorem isrec_any (r : Rg) (w : World) (hk : r.key.size ≤ 9223372036854775807) : Calls Tryd.prog 30 #[rV r] w fun e w' => e = .returned (.bool (!badR r)) ∧ Below w.heap.size w w' := by
  obtain ⟨key, num, tm⟩ := r
  simp only [rV, badR, Bool.not_not] at hk ⊢
  by_cases h1 : (key.size : Int) ≤ 40
  · have e1 : decide (key.size ≤ 40) = true := by simp; omega
    by_cases h2 : 0 ≤ tm
    · rw [e1, decide_eq_true h2]
      clear e1
      go_enter Tryd.func30, Tryd.ntmps30
      go_wp2_with fail
      go_ret
      exact ⟨ret_bool (by simp), (Below.refl _ _).alloc (Nat.le_refl _) _⟩
    · rw [e1, decide_eq_false h2]
      clear e1
      go_enter Tryd.func30, Tryd.ntmps30
      go_wp2_with fail
      go_ret
      exact ⟨ret_bool (by simp), (Below.refl _ _).alloc (Nat.le_refl _) _⟩
  · have e1 : decide (key.size ≤ 40) = false := by simp; omega
    rw [e1]
    clear e1
    go_enter Tryd.func30, Tryd.ntmps30
    go_wp2_with fail
    go_ret
    exact ⟨ret_bool (by simp), (Below.refl _ _).alloc (Nat.le_refl _) _⟩
set_option maxHeartbeats 1000000 in
theorem newMark_any (slack : Int) (w : World) : Calls Tryd.prog 20 #[.int .i64 slack] w fun e w' =>
    e = .returned (.func (.func 31) #[] #[.pointer (some ⟨w.heap.size + 1, 0, none⟩), .pointer (some ⟨w.heap.size, 0, none⟩)]) ∧ w' = (w.alloc (.cells #[.int .i64 slack] 3)).alloc (.cells #[.int .i64 0] 3) := by
  have hmf : ∀ (fn : Fn) (first cap : Array Value) (w : World), (Instr.makeFunc fn first cap).run Tryd.prog w = .ok (.func fn first cap) w := fun _ _ _ _ => rfl
  go_enter Tryd.func20, Tryd.ntmps20
  go_wp2_with fail
  go_ret
  exact ⟨rfl, rfl⟩
set_option maxHeartbeats 1000000 in
theorem mark_any (w : World) (mb sb : Nat) (m slack t : Int) (hm : w.heap[mb]? = some (.cells #[.int .i64 m] 3 (0, 0))) (hs : w.heap[sb]? = some (.cells #[.int .i64 slack] 3 (0, 0))) (hne : sb ≠ mb) (h1 : 0 ≤ t) (h2 : t ≤ 1000000) (h3 : 0 ≤ slack) (h4 : slack ≤ 1000000) :
    Calls Tryd.prog 31 #[.int .i64 t, .pointer (some ⟨mb, 0, none⟩), .pointer (some ⟨sb, 0, none⟩)] w fun e w' =>
      e = .returned (.int .i64 (max m (t - slack))) ∧ w' = w.setCell ⟨mb, 0, none⟩ (.int .i64 (max m (t - slack))) := by
  have c0 : w.cell? ⟨mb, 0, none⟩ = some (.int .i64 m) := by simp [World.cell?, hm]
  have c1 : w.cell? ⟨sb, 0, none⟩ = some (.int .i64 slack) := by simp [World.cell?, hs]
  have f0 : w.frozen? ⟨mb, 0, none⟩ = false := by simp [World.frozen?, hm]
  have hlt := some_lt hm
  clear hm hs
  by_cases h : m < t - slack
  · have e : max m (t - slack) = t - slack := by omega
    rw [e]
    clear e
    go_enter Tryd.func31, Tryd.ntmps31
    go_wp2_with fail
    all_goals go_ret
    all_goals exact ⟨rfl, rfl⟩
  · have e : max m (t - slack) = m := by omega
    rw [e]
    clear e
    go_enter Tryd.func31, Tryd.ntmps31
    go_wp2_with fail
    all_goals go_ret
    all_goals exact ⟨rfl, rfl⟩
end Go.Proofs.YtfpfaekbakilpaaDoor
