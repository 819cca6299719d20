/- The document's gate: Blocked, Push. -/
import Derived.Test.YtneglanmigifhaaDoorWa
import Derived.Deep.RegionLaw
namespace Go.Proofs.YtneglanmigifhaaDoor
open Go.ChangeShapes Go.WideShapes Go.RowKit
set_option linter.unusedVariables false
theorem infoD : (Tryd.prog.info? 40).map (fun i => (i.zero, i.size, i.bytes)) = some (some (.agg #[.string ⟨#[]⟩, .int .i64 0, .int .i64 0, .int .i64 0]), 4, 40) := by kernel_rfl
section
variable {lo : Nat} {w : World} {M WB LB : Nat} {us : Nat → Value} {g : Gt Rg}
set_option maxHeartbeats 1000000 in
theorem mblocked_any (h : MgB lo w M WB LB us g) {i : Nat} (hi : i < g.ws.length) : Calls Tryd.prog 13 #[.pointer (some ⟨M, 0, none⟩), .int .i64 i] w fun e w' => e = .returned (.bool (hBar (g.ws.getD i [])).isSome) ∧ w = w' := by
  have c0 := h.c0
  have d0 := h.w0 hi
  have hr := h.own i hi
  have hbl := blocked_is (fun id hid => h.ids _ (mem_getD hi) id hid)
  have hiI : (i : Int) < (g.ws.length : Int) := by omega
  rw [← hbl]
  generalize g.ws.length = n at *
  clear hbl
  match hl : g.ws.getD i [], hr with
  | [], hr =>
    obtain ⟨p, c, e, -⟩ := hr
    rw [e] at d0
    clear h e hl
    simp only [List.length_nil] at d0
    go_enter Tryd.func13, Tryd.ntmps13
    go_wp2
    go_ret
    exact ⟨rfl, rfl⟩
  | x :: l, hr =>
    obtain ⟨b, o, c, e, -, -, -, -, -, e3, -⟩ := hr.head
    rw [e] at d0
    have hid : idHead (x :: l) = idOf x := rfl
    rw [hid]
    have h0 : (0 : Int) < (l.length : Int) + 1 := by omega
    generalize idOf x = d at *
    generalize l.length = m at *
    clear h e hl hr
    go_enter Tryd.func13, Tryd.ntmps13
    go_wp2
    go_ret
    exact ⟨rfl, rfl⟩
abbrev itV (x : Itm) : Value := .agg #[.string (recOf x).key, .int .i64 (recOf x).num, .int .i64 (recOf x).tm, .int .i64 (idOf x)]
set_option maxRecDepth 100000 in
set_option maxHeartbeats 1000000 in
theorem mpush_rng (h : MgB lo w M WB LB us g) (i : Int) (x : Itm) (bar : Bool) (hi : i < 0 ∨ (g.ws.length : Int) ≤ i ∨ bar = true ∧ idOf x < 1) :
    Calls Tryd.prog 7 #[.pointer (some ⟨M, 0, none⟩), .int .i64 i, itV x, .bool bar] w fun e w' => e = .returned (.int .i64 1) ∧ Below w.heap.size w w' := by
  have c0 := h.c0
  have hM := h.ltM
  unfold itV
  generalize (recOf x).key = k0 at *
  generalize (recOf x).num = n0 at *
  generalize (recOf x).tm = t0 at *
  generalize idOf x = d0 at *
  generalize g.ws.length = n at *
  clear h
  by_cases h0 : i < 0
  · clear hi
    go_enter Tryd.func7, Tryd.ntmps7
    go_wp2_with fail
    go_ret
    exact ⟨rfl, (Below.refl _ _).alloc (Nat.le_refl _) _⟩
  by_cases h1 : (n : Int) ≤ i
  · clear hi
    go_enter Tryd.func7, Tryd.ntmps7
    go_wp2_with fail
    go_ret
    exact ⟨rfl, (Below.refl _ _).alloc (Nat.le_refl _) _⟩
  · obtain ⟨rfl, h2⟩ : bar = true ∧ d0 < 1 := by rcases hi with h | h | h; omega; omega; exact h
    clear hi
    go_enter Tryd.func7, Tryd.ntmps7
    go_wp2_with fail
    go_ret
    exact ⟨rfl, (Below.refl _ _).alloc (Nat.le_refl _) _⟩
set_option maxRecDepth 100000 in
set_option maxHeartbeats 1000000 in
theorem mpush_full (h : MgB lo w M WB LB us g) (i : Nat) (hi : i < g.ws.length) (x : Itm) (bar : Bool) (hb : bar = true → 1 ≤ idOf x) (hl : 400 ≤ (g.ws.getD i []).length) :
    Calls Tryd.prog 7 #[.pointer (some ⟨M, 0, none⟩), .int .i64 i, itV x, .bool bar] w fun e w' => e = .returned (.int .i64 4) ∧ Below w.heap.size w w' := by
  have c0 := h.c0
  have hM := h.ltM
  have hW := h.ltW
  have d0 := h.w0 hi
  obtain ⟨p, c, e, -⟩ := h.own i hi
  rw [e] at d0
  have hl' : (400 : Int) ≤ ((g.ws.getD i []).length : Int) := by omega
  have hiI : (i : Int) < (g.ws.length : Int) := by omega
  unfold itV
  generalize (recOf x).key = k0 at *
  generalize (recOf x).num = n0 at *
  generalize (recOf x).tm = t0 at *
  generalize idOf x = id0 at *
  generalize (g.ws.getD i []).length = m at *
  generalize g.ws.length = n at *
  clear h e hl
  have q0 : ¬ (i : Int) < 0 := by omega
  have q1 : ¬ (n : Int) ≤ (i : Int) := by omega
  cases bar with
  | false =>
    go_enter Tryd.func7, Tryd.ntmps7
    go_wp2_with fail
    go_ret
    exact ⟨rfl, (Below.refl _ _).alloc (Nat.le_refl _) _⟩
  | true =>
    have hd : ¬ id0 < 1 := by have := hb rfl; omega
    clear hb
    go_enter Tryd.func7, Tryd.ntmps7
    go_wp2_with fail
    go_ret
    exact ⟨rfl, (Below.refl _ _).alloc (Nat.le_refl _) _⟩
end
end Go.Proofs.YtneglanmigifhaaDoor
