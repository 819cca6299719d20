/- A lane's own calls that read. -/
import Derived.Test.YtneglanmigifhaaDoorVa
namespace Go.Proofs.YtneglanmigifhaaDoor
open Go.ChangeShapes Go.WideShapes Go.RowKit
set_option linter.unusedVariables false

def idHead : List Itm → Int
  | [] => 0
  | x :: _ => idOf x
theorem idHead_bar {l : List Itm} (hl : ∀ id, It.bar id ∈ l → 0 < id) : (∀ m, hBar l = some m → idHead l = m ∧ 0 < m) ∧ (hBar l = none → idHead l = 0) := by
  match l with
  | [] => exact ⟨fun m h => (by cases h), fun _ => rfl⟩
  | .one r :: l => exact ⟨fun m h => (by cases h), fun _ => rfl⟩
  | .bar id :: l => exact ⟨fun m h => by injection h with h; subst h; exact ⟨rfl, hl id (by simp)⟩, fun h => by cases h⟩
theorem blocked_is {l : List Itm} (hl : ∀ id, It.bar id ∈ l → 0 < id) : decide (0 < idHead l) = (hBar l).isSome := by
  obtain ⟨h1, h2⟩ := idHead_bar hl
  cases h : hBar l with
  | none => rw [h2 h]; rfl
  | some m => obtain ⟨e, h3⟩ := h1 m h; rw [e]; simp [h3]
theorem open_is {l : List Itm} (hl : ∀ id, It.bar id ∈ l → 0 < id) : (decide (0 < l.length) && !decide (0 < idHead l)) = (hRec l).isSome := by
  rw [blocked_is hl]
  match l with
  | [] => rfl
  | .one r :: l => simp [hBar, hRec]
  | .bar id :: l => simp [hBar, hRec]
section
variable {lo : Nat} {w : World} {L o : Nat} {v : Value} {l : List Itm}
set_option maxHeartbeats 1000000 in
theorem barrier_any (hc : w.cell? ⟨L, o, none⟩ = some v) (hl : LnAt lo w v l) : Calls Tryd.prog 24 #[.pointer (some ⟨L, o, none⟩)] w fun e w' => e = .returned (.int .i64 (idHead l)) ∧ w = w' := by
  obtain ⟨p, c, rfl, hp, -, -⟩ := hl.slice
  match l, hp with
  | [], hp =>
    clear hl hp
    go_enter Tryd.func24, Tryd.ntmps24
    go_wp2
    go_ret
    exact ⟨rfl, rfl⟩
  | x :: l, hp =>
    obtain ⟨g, rfl, hg⟩ := hp (by simp)
    have c3 := hg 3 (.int .i64 (idOf x)) (by rw [icells, icell_is]; rfl)
    have hne : (((x :: l).length : Nat) : Int) ≠ 0 := by rw [List.length_cons]; omega
    have h0 : (0 : Int) < (((x :: l).length : Nat) : Int) := by rw [List.length_cons]; omega
    have hid : idHead (x :: l) = idOf x := rfl
    rw [hid]
    generalize idOf x = d at *
    generalize (x :: l).length = n at *
    clear hl hg hid hp
    go_enter Tryd.func24, Tryd.ntmps24
    go_wp2
    go_ret
    exact ⟨rfl, rfl⟩
theorem isBlocked_any (hc : w.cell? ⟨L, o, none⟩ = some v) (hl : LnAt lo w v l) : Calls Tryd.prog 25 #[.pointer (some ⟨L, o, none⟩)] w fun e w' => e = .returned (.bool (decide (0 < idHead l))) ∧ w = w' := by
  have HB := barrier_any hc hl
  generalize idHead l = d at *
  clear hc hl
  go_enter Tryd.func25, Tryd.ntmps25
  go_wp2_with (go_at_call 24; refine HB.mono ?_; rintro e u ⟨rfl, rfl⟩)
  go_ret
  exact ⟨rfl, rfl⟩
theorem isOpen_any (hc : w.cell? ⟨L, o, none⟩ = some v) (hl : LnAt lo w v l) : Calls Tryd.prog 21 #[.pointer (some ⟨L, o, none⟩)] w fun e w' => e = .returned (.bool (decide (0 < l.length) && !decide (0 < idHead l))) ∧ w = w' := by
  have HB := isBlocked_any hc hl
  obtain ⟨p, c, rfl, -, -, -⟩ := hl.slice
  generalize decide (0 < idHead l) = d at *
  clear hl
  by_cases h0 : 0 < l.length
  · have h1 : (0 : Int) < (l.length : Int) := by omega
    rw [decide_eq_true h0]
    generalize l.length = n at *
    go_enter Tryd.func21, Tryd.ntmps21
    go_wp2_with (go_at_call 25; refine HB.mono ?_; rintro e u ⟨rfl, rfl⟩)
    go_ret
    exact ⟨by simp, rfl⟩
  · have h1 : l.length = 0 := by omega
    rw [decide_eq_false h0]
    rw [h1] at hc
    clear HB h0
    go_enter Tryd.func21, Tryd.ntmps21
    go_wp2
    go_ret
    exact ⟨by simp, rfl⟩
theorem isFull_any (hc : w.cell? ⟨L, o, none⟩ = some v) (hl : LnAt lo w v l) : Calls Tryd.prog 18 #[.pointer (some ⟨L, o, none⟩)] w fun e w' => e = .returned (.bool (decide (400 ≤ l.length))) ∧ w = w' := by
  obtain ⟨p, c, rfl, -, -, -⟩ := hl.slice
  have h1 : decide ((400 : Int) ≤ (l.length : Int)) = decide (400 ≤ l.length) := decide_eq_decide.2 (by omega)
  generalize l.length = n at *
  clear hl
  go_enter Tryd.func18, Tryd.ntmps18
  go_wp2
  go_ret
  exact ⟨by rw [← h1]; rfl, rfl⟩
end
section
variable {lo : Nat} {w : World} {B L t : Nat} {vs : Nat → Value} {g : Gt Rg}
theorem has_any (h : GtB lo w B L t vs g) (i : Int) : Calls Tryd.prog 17 #[.pointer (some ⟨B, 0, none⟩), .int .i64 i] w fun e w' => e = .returned (.bool (decide (0 ≤ i ∧ i < g.ws.length))) ∧ w = w' := by
  have c0 := h.c0
  generalize g.ws.length = n at *
  clear h
  by_cases h0 : 0 ≤ i
  · by_cases h1 : i < n
    · rw [decide_eq_true ⟨h0, h1⟩]
      go_enter Tryd.func17, Tryd.ntmps17
      go_wp2
      go_ret
      exact ⟨by simp, rfl⟩
    · rw [decide_eq_false (fun h => h1 h.2)]
      go_enter Tryd.func17, Tryd.ntmps17
      go_wp2
      go_ret
      exact ⟨by simp, rfl⟩
  · rw [decide_eq_false (fun h => h0 h.1)]
    go_enter Tryd.func17, Tryd.ntmps17
    go_wp2
    go_ret
    exact ⟨by simp, rfl⟩
end
theorem clone_any (x : ByteArray) (w : World) (hx : x.size ≤ 281474976710656) : Calls Tryd.prog 19 #[.string x] w fun e w' => e = .returned (.string x) ∧ Below w.heap.size w w' := by
  go_enter Tryd.func19, Tryd.ntmps19
  go_wp2_with (go_at_call 27; refine (Tryd.stringslite_Clone x _ hx).mono ?_; rintro e w' ⟨rfl, hb⟩)
  go_ret
  exact ⟨rfl, hb⟩
end Go.Proofs.YtneglanmigifhaaDoor
