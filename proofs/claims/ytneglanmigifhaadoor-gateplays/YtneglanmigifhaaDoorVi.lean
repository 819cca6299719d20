/- A gate, its calls, as a law sees them. -/
import Derived.Test.YtneglanmigifhaaDoorVh
import Derived.Test.YtneglanmigifhaaDoorPureGv
namespace Go.Proofs.YtneglanmigifhaaDoor
open Go.ChangeShapes Go.WideShapes Go.RowKit
set_option linter.unusedVariables false
def GX (lo : Nat) (w : World) (B : Nat) (g : Gt Rg) : Prop := ∃ L t vs, GtB lo w B L t vs g
section
variable {lo : Nat} {w w' : World} {B : Nat} {g : Gt Rg}
theorem GX.keep (h : GX lo w B g) (hb : Below w.heap.size w w') : GX lo w' B g := by obtain ⟨L, t, vs, h⟩ := h; exact ⟨L, t, vs, h.keep hb⟩
theorem GX.stays (h : GX lo w B g) (hk : ∀ (k : Nat) (o : Obj), w.heap[k]? = some o → Turns o → w'.heap[k]? = some o) : GX lo w' B g := by obtain ⟨L, t, vs, h⟩ := h; exact ⟨L, t, vs, h.stays hk⟩
theorem GX.loW (h : GX lo w B g) : lo ≤ w.heap.size := by obtain ⟨L, t, vs, h⟩ := h; exact h.loW
theorem GX.n (h : GX lo w B g) : 0 < g.ws.length ∧ g.ws.length ≤ 64 := by obtain ⟨L, t, vs, h⟩ := h; exact ⟨h.n0, h.n1⟩
theorem GX.lt (h : GX lo w B g) : lo ≤ B ∧ B < w.heap.size := by obtain ⟨L, t, vs, h⟩ := h; exact ⟨h.loB, h.ltB⟩
theorem GX.mono (h : GX lo w B g) {lo' : Nat} (hl : lo' ≤ lo) : GX lo' w B g := by
  obtain ⟨L, t, vs, h⟩ := h
  refine ⟨L, t, vs, h.blk, h.rows, fun i hi => ?_, h.ne, h.len, h.ids, h.lst, h.n0, h.n1, h.tn, h.nx, Nat.le_trans hl h.loB, Nat.le_trans hl h.loL⟩
  obtain ⟨h1, h2⟩ := h.own i hi
  refine ⟨h1, h2.imp id ?_⟩
  rintro ⟨g, cap, cur, a, b, c⟩
  exact ⟨g, cap, cur, a, Nat.le_trans hl b, c⟩
theorem new_x (w : World) (n : Nat) (h1 : 1 ≤ n) (h2 : n ≤ 64) : Calls Tryd.prog 4 #[.int .i64 n] w fun e w' => ∃ B, e = .returned (.tuple #[.pointer (some ⟨B, 0, none⟩), .nilIface]) ∧ GX w.heap.size w' B (newG n) ∧ Below w.heap.size w w' := by
  refine (new_ok w n h1 h2).mono ?_
  rintro e w' ⟨B, rfl, ⟨L, vs, h⟩, hb⟩
  exact ⟨B, rfl, ⟨L, 0, vs, h⟩, hb⟩
theorem push_x (h : GX lo w B g) (i : Nat) (hi : i < g.ws.length) (hl : (g.ws.getD i []).length < 400) (r : Rg) (hk : r.key.size ≤ 281474976710656) :
    Calls Tryd.prog 6 #[.pointer (some ⟨B, 0, none⟩), .int .i64 i, rV r] w fun e w' => e = .returned .nilIface ∧ GX lo w' B (putG g i (.one r)) ∧ FrG lo w w' := by
  obtain ⟨L, t, vs, h⟩ := h
  refine (push_ok h i hi hl r hk).mono ?_
  rintro e w' ⟨rfl, ⟨vs', h'⟩, hf⟩
  exact ⟨rfl, ⟨L, t, vs', h'⟩, hf⟩
theorem bar_x (h : GX lo w B g) (i : Nat) (id : Int) (hi : i < g.ws.length) (hid : 1 ≤ id) (hl : (g.ws.getD i []).length < 400) (ho : g.last.getD i 0 < id) :
    Calls Tryd.prog 8 #[.pointer (some ⟨B, 0, none⟩), .int .i64 i, .int .i64 id] w fun e w' => e = .returned .nilIface ∧ GX lo w' B (lastG (putG g i (.bar id)) i id) ∧ FrG lo w w' := by
  obtain ⟨L, t, vs, h⟩ := h
  refine (bar_ok h i id hi hid hl ho).mono ?_
  rintro e w' ⟨rfl, ⟨vs', h'⟩, hf⟩
  exact ⟨rfl, ⟨L, t, vs', h'⟩, hf⟩
theorem next_no (h : GX lo w B g) (ht : takeG g = none) : Calls Tryd.prog 9 #[.pointer (some ⟨B, 0, none⟩)] w fun e w' => e = .returned (.tuple #[.agg #[.string ⟨#[]⟩, .int .i64 0, .int .i64 0], .int .i64 0, .bool false]) ∧ Below w.heap.size w w' := by
  obtain ⟨L, t, vs, h⟩ := h
  refine (next_any h).mono ?_
  rintro e w' (⟨-, h1, h2⟩ | ⟨r, i, g', t', h1, -⟩)
  · exact ⟨h1, h2⟩
  · rw [ht] at h1; cases h1
theorem next_x (h : GX lo w B g) {r : Rg} {i : Nat} {g' : Gt Rg} (ht : takeG g = some (r, i, g')) : Calls Tryd.prog 9 #[.pointer (some ⟨B, 0, none⟩)] w fun e w' => e = .returned (.tuple #[.agg #[.string r.key, .int .i64 r.num, .int .i64 r.tm], .int .i64 (i : Nat), .bool true]) ∧ GX lo w' B g' ∧ FrG lo w w' := by
  obtain ⟨L, t, vs, h⟩ := h
  refine (next_any h).mono ?_
  rintro e w' (⟨h1, -⟩ | ⟨r', i', g'', t', h1, h2, ⟨vs', h3⟩, h4⟩)
  · rw [ht] at h1; cases h1
  · rw [ht] at h1
    injection h1 with h1
    injection h1 with e1 h1
    injection h1 with e2 e3
    subst e1 e2 e3
    exact ⟨h2, ⟨L, t', vs', h3⟩, h4⟩
theorem bound_n (h : GX lo w B g) (hg : boundG g = none) : Calls Tryd.prog 11 #[.pointer (some ⟨B, 0, none⟩)] w fun e w' => e = .returned (.tuple #[.int .i64 0, .bool false]) ∧ Below w.heap.size w w' := by
  obtain ⟨L, t, vs, h⟩ := h; exact bound_no h hg
theorem bound_x (h : GX lo w B g) {m : Int} {g' : Gt Rg} (hg : boundG g = some (m, g')) : Calls Tryd.prog 11 #[.pointer (some ⟨B, 0, none⟩)] w fun e w' => e = .returned (.tuple #[.int .i64 m, .bool true]) ∧ GX lo w' B g' ∧ FrG lo w w' := by
  obtain ⟨L, t, vs, h⟩ := h
  refine (bound_ok h hg).mono ?_
  rintro e w' ⟨rfl, ⟨vs', h'⟩, hf⟩
  exact ⟨rfl, ⟨L, t, vs', h'⟩, hf⟩
theorem waiting_x (h : GX lo w B g) : Calls Tryd.prog 15 #[.pointer (some ⟨B, 0, none⟩)] w fun e w' => e = .returned (.int .i64 (manyG g : Nat)) ∧ Below w.heap.size w w' := by
  obtain ⟨L, t, vs, h⟩ := h; exact waiting_any h
end
/-- A record of a number alone. -/
def rN (k : Nat) : Rg := ⟨⟨#[]⟩, k, 0⟩
end Go.Proofs.YtneglanmigifhaaDoor
