/- Push, Bar. -/
import Derived.Test.YtneglanmigifhaaDoorVd
namespace Go.Proofs.YtneglanmigifhaaDoor
open Go.ChangeShapes Go.WideShapes Go.RowKit
set_option linter.unusedVariables false
abbrev erV (k : Int) : Value := .iface 52 (.int .i64 k)
section
variable {lo : Nat} {w : World} {B L t : Nat} {vs : Nat → Value} {g : Gt Rg}
/-- add, at the gate. -/
theorem add_g (h : GtB lo w B L t vs g) {i : Nat} (hi : i < g.ws.length) (hl : (g.ws.getD i []).length < 400) (x : Itm) (hx : ∀ id, x = .bar id → 0 < id) :
    Calls Tryd.prog 20 #[.pointer (some ⟨L, i * 2, none⟩), iV x] w fun e w' => e = .returned (.tuple #[]) ∧ (∃ vs', GtB lo w' B L t vs' (putG g i x)) ∧ FrG lo w w' := by
  refine (add_any (h.l0 hi) (h.fL _) (h.own i hi) hl h.loW (fun b hb => (h.neL hi hb).1) x).mono ?_
  rintro e w' ⟨rfl, v', w1, rfl, h1, h2, h3⟩
  obtain ⟨a, b⟩ := h.setLane hi h2 h1 h3 (by rw [List.length_append, List.length_singleton]; omega) (fun id hid => by
    rcases List.mem_append.1 hid with h' | h'
    · exact h.ids _ (mem_getD hi) id h'
    · simp at h'; exact hx id h'.symm)
  exact ⟨rfl, ⟨_, a⟩, b⟩
set_option maxRecDepth 100000 in
set_option maxHeartbeats 1000000 in
theorem push_rng (h : GtB lo w B L t vs g) (i : Int) (hi : i < 0 ∨ (g.ws.length : Int) ≤ i) (r : Rg) :
    Calls Tryd.prog 6 #[.pointer (some ⟨B, 0, none⟩), .int .i64 i, rV r] w fun e w' => e = .returned (erV 1) ∧ Below w.heap.size w w' := by
  have HH := has_any (h.keep ((Below.refl _ _).alloc (Nat.le_refl _) (.cells #[.string r.key, .int .i64 r.num, .int .i64 r.tm] 36))) i
  rw [decide_eq_false (by omega)] at HH
  have hB := h.ltB
  obtain ⟨k0, n0, t0⟩ := r
  simp only [rV] at *
  clear h hi
  go_enter Tryd.func6, Tryd.ntmps6
  go_wp2_with (go_at_call 17; refine HH.mono ?_; rintro e u ⟨rfl, rfl⟩)
  go_ret
  exact ⟨rfl, (Below.refl _ _).alloc (Nat.le_refl _) _⟩
set_option maxRecDepth 100000 in
set_option maxHeartbeats 1000000 in
theorem push_full (h : GtB lo w B L t vs g) (i : Nat) (hi : i < g.ws.length) (hl : 400 ≤ (g.ws.getD i []).length) (r : Rg) :
    Calls Tryd.prog 6 #[.pointer (some ⟨B, 0, none⟩), .int .i64 i, rV r] w fun e w' => e = .returned (erV 4) ∧ Below w.heap.size w w' := by
  have h1 := h.keep ((Below.refl _ _).alloc (Nat.le_refl _) (.cells #[.string r.key, .int .i64 r.num, .int .i64 r.tm] 36))
  have HH := has_any h1 i
  rw [decide_eq_true (by omega)] at HH
  have HF := isFull_any (h1.l0 hi) (h1.own i hi)
  rw [decide_eq_true hl] at HF
  have c0 := h1.c0
  have hiI : (i : Int) < (g.ws.length : Int) := by omega
  obtain ⟨k0, n0, t0⟩ := r
  simp only [rV] at *
  generalize g.ws.length = n at *
  clear h h1 hl
  go_enter Tryd.func6, Tryd.ntmps6
  go_wp2_with first | (go_at_call 17; refine HH.mono ?_; rintro e u ⟨rfl, rfl⟩) | (go_at_call 18; refine HF.mono ?_; rintro e u ⟨rfl, rfl⟩)
  go_ret
  exact ⟨rfl, (Below.refl _ _).alloc (Nat.le_refl _) _⟩
set_option maxRecDepth 100000 in
set_option maxHeartbeats 1000000 in
theorem push_ok (h : GtB lo w B L t vs g) (i : Nat) (hi : i < g.ws.length) (hl : (g.ws.getD i []).length < 400) (r : Rg) (hk : r.key.size ≤ 281474976710656) :
    Calls Tryd.prog 6 #[.pointer (some ⟨B, 0, none⟩), .int .i64 i, rV r] w fun e w' => e = .returned .nilIface ∧ (∃ vs', GtB lo w' B L t vs' (putG g i (.one r))) ∧ FrG lo w w' := by
  have h1 := h.keep ((Below.refl _ _).alloc (Nat.le_refl _) (.cells #[.string r.key, .int .i64 r.num, .int .i64 r.tm] 36))
  have HH := has_any h1 i
  rw [decide_eq_true (by omega)] at HH
  have HF := isFull_any (h1.l0 hi) (h1.own i hi)
  rw [decide_eq_false (by omega)] at HF
  have c0 := h1.c0
  have hiI : (i : Int) < (g.ws.length : Int) := by omega
  have hloW := h.loW
  have HA := fun (u : World) (hu : Below w.heap.size w u) => add_g (h.keep hu) hi hl (.one r) (fun id e => by cases e)
  have HB := Lib.hid (show ∀ u w', Below w.heap.size w u → FrG lo u w' → FrG lo w w' from fun u w' h2 h3 => (FrG.below h2 hloW).trans h3)
  have HC := clone_any r.key
  generalize putG g i (.one r) = g' at *
  have hiv : iV (.one r) = .agg #[.string r.key, .int .i64 r.num, .int .i64 r.tm, .int .i64 0] := rfl
  rw [hiv] at HA
  obtain ⟨k0, n0, t0⟩ := r
  simp only [rV] at *
  generalize hnn : g.ws.length = n at *
  clear h h1 hl hiv hnn
  have hl0 : w.heap.size < (w.alloc (.cells #[.string k0, .int .i64 n0, .int .i64 t0] 36)).heap.size := by simp
  go_enter Tryd.func6, Tryd.ntmps6
  go_wp2_with first | (go_at_call 17; refine HH.mono ?_; rintro e u ⟨rfl, rfl⟩) | (go_at_call 18; refine HF.mono ?_; rintro e u ⟨rfl, rfl⟩) | (go_at_call 19; refine (HC _ hk).mono ?_; rintro e u ⟨rfl, b1⟩; refine Hid.out ?_)
  refine Lib.hid ?_
  have z0 : u.cell? ⟨w.heap.size, 0, none⟩ = some (.string k0) := by rw [b1.cell (p := ⟨w.heap.size, 0, none⟩) hl0]; simp
  have z1 : u.cell? ⟨w.heap.size, 1, none⟩ = some (.int .i64 n0) := by rw [b1.cell (p := ⟨w.heap.size, 1, none⟩) hl0]; simp
  have z2 : u.cell? ⟨w.heap.size, 2, none⟩ = some (.int .i64 t0) := by rw [b1.cell (p := ⟨w.heap.size, 2, none⟩) hl0]; simp
  have z3 : u.frozen? ⟨w.heap.size, 0, none⟩ = false := by rw [b1.frozen (p := ⟨w.heap.size, 0, none⟩) hl0]; simp
  have b2 : Below w.heap.size w u := ((Below.refl w.heap.size w).alloc (Nat.le_refl _) (.cells #[.string k0, .int .i64 n0, .int .i64 t0] 36)).trans (b1.mono (by simp))
  have b3 : Below w.heap.size w (u.setCell ⟨w.heap.size, 0, none⟩ (.string k0)) := b2.setCell (Nat.le_refl _) _
  have HA1 := HA _ b3
  have HB1 := Lib.hid (HB.out _ · b3)
  clear HA HB HH HF HC b1 b2 b3
  go_wp2_with (go_at_call 20; refine HA1.mono ?_; rintro e u2 ⟨rfl, h3, h4⟩; refine Hid.out ?_)
  refine Lib.hid ?_
  have h5 := HB1.out u2 h4
  have HX := Lib.hid (show (∃ vs', GtB lo u2 B L t vs' g') ∧ FrG lo w u2 from ⟨h3, h5⟩)
  clear HA1 HB1 h3 h4 h5
  go_wp2_with fail
  go_ret
  exact ⟨rfl, HX.out⟩
set_option maxRecDepth 100000 in
set_option maxHeartbeats 1000000 in
theorem bar_rng (h : GtB lo w B L t vs g) (i id : Int) (hi : i < 0 ∨ (g.ws.length : Int) ≤ i ∨ id < 1) :
    Calls Tryd.prog 8 #[.pointer (some ⟨B, 0, none⟩), .int .i64 i, .int .i64 id] w fun e w' => e = .returned (erV 1) ∧ w = w' := by
  have HH := has_any h i
  by_cases h0 : 0 ≤ i ∧ i < (g.ws.length : Int)
  · rw [decide_eq_true h0] at HH
    have h1 : id < 1 := by omega
    clear h hi h0
    go_enter Tryd.func8, Tryd.ntmps8
    go_wp2_with (go_at_call 17; refine HH.mono ?_; rintro e u ⟨rfl, rfl⟩)
    go_ret
    exact ⟨rfl, rfl⟩
  · rw [decide_eq_false h0] at HH
    clear h hi h0
    go_enter Tryd.func8, Tryd.ntmps8
    go_wp2_with (go_at_call 17; refine HH.mono ?_; rintro e u ⟨rfl, rfl⟩)
    go_ret
    exact ⟨rfl, rfl⟩
set_option maxRecDepth 100000 in
set_option maxHeartbeats 1000000 in
theorem bar_full (h : GtB lo w B L t vs g) (i : Nat) (id : Int) (hi : i < g.ws.length) (hid : 1 ≤ id) (hl : 400 ≤ (g.ws.getD i []).length) :
    Calls Tryd.prog 8 #[.pointer (some ⟨B, 0, none⟩), .int .i64 i, .int .i64 id] w fun e w' => e = .returned (erV 4) ∧ w = w' := by
  have HH := has_any h i
  rw [decide_eq_true (by omega)] at HH
  have HF := isFull_any (h.l0 hi) (h.own i hi)
  rw [decide_eq_true hl] at HF
  have c0 := h.c0
  have hiI : (i : Int) < (g.ws.length : Int) := by omega
  have hid' : ¬ id < 1 := by omega
  generalize g.ws.length = n at *
  clear h hl
  go_enter Tryd.func8, Tryd.ntmps8
  go_wp2_with first | (go_at_call 17; refine HH.mono ?_; rintro e u ⟨rfl, rfl⟩) | (go_at_call 18; refine HF.mono ?_; rintro e u ⟨rfl, rfl⟩)
  go_ret
  exact ⟨rfl, rfl⟩
set_option maxRecDepth 100000 in
set_option maxHeartbeats 1000000 in
theorem bar_ord (h : GtB lo w B L t vs g) (i : Nat) (id : Int) (hi : i < g.ws.length) (hid : 1 ≤ id) (hl : (g.ws.getD i []).length < 400) (ho : id ≤ g.last.getD i 0) :
    Calls Tryd.prog 8 #[.pointer (some ⟨B, 0, none⟩), .int .i64 i, .int .i64 id] w fun e w' => e = .returned (erV 5) ∧ w = w' := by
  have HH := has_any h i
  rw [decide_eq_true (by omega)] at HH
  have HF := isFull_any (h.l0 hi) (h.own i hi)
  rw [decide_eq_false (by omega)] at HF
  have c0 := h.c0
  have c1 := h.l1 hi
  have hiI : (i : Int) < (g.ws.length : Int) := by omega
  have hid' : ¬ id < 1 := by omega
  generalize g.last.getD i 0 = la at *
  generalize g.ws.length = n at *
  clear h hl
  go_enter Tryd.func8, Tryd.ntmps8
  go_wp2_with first | (go_at_call 17; refine HH.mono ?_; rintro e u ⟨rfl, rfl⟩) | (go_at_call 18; refine HF.mono ?_; rintro e u ⟨rfl, rfl⟩)
  go_ret
  exact ⟨rfl, rfl⟩
set_option maxRecDepth 100000 in
set_option maxHeartbeats 1000000 in
theorem bar_ok (h : GtB lo w B L t vs g) (i : Nat) (id : Int) (hi : i < g.ws.length) (hid : 1 ≤ id) (hl : (g.ws.getD i []).length < 400) (ho : g.last.getD i 0 < id) :
    Calls Tryd.prog 8 #[.pointer (some ⟨B, 0, none⟩), .int .i64 i, .int .i64 id] w fun e w' => e = .returned .nilIface ∧ (∃ vs', GtB lo w' B L t vs' (lastG (putG g i (.bar id)) i id)) ∧ FrG lo w w' := by
  have HH := has_any h i
  rw [decide_eq_true (by omega)] at HH
  have HF := isFull_any (h.l0 hi) (h.own i hi)
  rw [decide_eq_false (by omega)] at HF
  have c0 := h.c0
  have c1 := h.l1 hi
  have hiI : (i : Int) < (g.ws.length : Int) := by omega
  have hid' : ¬ id < 1 := by omega
  have ho' : ¬ id ≤ g.last.getD i 0 := by omega
  have HA := add_g h hi hl (.bar id) (fun id' e => by injection e with e; omega)
  have hiv : iV (.bar id) = .agg #[.string ⟨#[]⟩, .int .i64 0, .int .i64 0, .int .i64 id] := rfl
  rw [hiv] at HA
  have hpl : (putG g i (.bar id)).ws.length = g.ws.length := by simp [putG]
  have hpi : i < (putG g i (.bar id)).ws.length := by omega
  generalize g.last.getD i 0 = la at *
  generalize g.ws.length = n at *
  generalize putG g i (.bar id) = g' at *
  clear h hl hiv hpl
  go_enter Tryd.func8, Tryd.ntmps8
  go_wp2_with first | (go_at_call 17; refine HH.mono ?_; rintro e u ⟨rfl, rfl⟩) | (go_at_call 18; refine HF.mono ?_; rintro e u ⟨rfl, rfl⟩) | (go_at_call 20; refine HA.mono ?_; rintro e u2 ⟨rfl, ⟨vs', h3⟩, h4⟩; refine Hid.out ?_)
  refine Lib.hid ?_
  have d0 := h3.l1 hpi
  have d1 := h3.fL (i * 2 + 1)
  have h5 := h3.setLast hpi id
  have HX := Lib.hid (show (∃ vs', GtB lo (u2.setCell ⟨L, i * 2 + 1, none⟩ (.int .i64 id)) B L t vs' (lastG g' i id)) ∧ FrG lo w (u2.setCell ⟨L, i * 2 + 1, none⟩ (.int .i64 id)) from ⟨⟨_, h5.1⟩, h4.trans h5.2⟩)
  clear HA HH HF h3 h4 h5 c0 c1
  go_wp2_with fail
  go_ret
  exact ⟨rfl, HX.out⟩
end
end Go.Proofs.YtneglanmigifhaaDoor
