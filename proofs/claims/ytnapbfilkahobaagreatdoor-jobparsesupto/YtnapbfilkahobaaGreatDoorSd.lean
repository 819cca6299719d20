/- The document's trees, by value; how its readers end. -/
import Derived.Test.YtnapbfilkahobaaGreatDoorSc
import Derived.Test.YtnapbfilkahobaaGreatDoorBe
namespace Go.Proofs.YtnapbfilkahobaaGreatDoor
open Go.RowKit

def opN : Tm → Nat
  | .num _ => 0
  | .vn => 110
  | .vs => 115
  | .neg _ => 126
  | .two op _ _ => op.toNat
  | .cond _ _ _ => 63

/-- The three cells of a tree's value. -/
structure Tv where
  a : Int
  b : Int
  A : Option Addr
  n : Nat
  c : Nat

/-- A tree as a value, its kids in blocks of S. -/
def TrV (S : Nat → Prop) (w : World) : Tm → Tv → Prop
  | .num n, v => v = ⟨0, n, none, 0, 0⟩ ∧ n < 9223372036854775808
  | .vn, v => v = ⟨110, 0, none, 0, 0⟩
  | .vs, v => v = ⟨115, 0, none, 0, 0⟩
  | .neg a, v => ∃ q x, S q ∧ v = ⟨126, 0, some ⟨q, 0, none⟩, 1, 1⟩ ∧ w.heap[q]? = some (.cells #[.int .i64 x.a, .int .i64 x.b, .slice x.A x.n x.c] 24) ∧ TrV S w a x
  | .two op a b, v => ∃ q x y, S q ∧ v = ⟨op.toNat, 0, some ⟨q, 0, none⟩, 2, 2⟩ ∧ w.heap[q]? = some (.cells #[.int .i64 x.a, .int .i64 x.b, .slice x.A x.n x.c, .int .i64 y.a, .int .i64 y.b, .slice y.A y.n y.c] 24) ∧ TrV S w a x ∧ TrV S w b y
  | .cond a b c, v => ∃ q x y z, S q ∧ v = ⟨63, 0, some ⟨q, 0, none⟩, 3, 3⟩ ∧ w.heap[q]? = some (.cells #[.int .i64 x.a, .int .i64 x.b, .slice x.A x.n x.c, .int .i64 y.a, .int .i64 y.b, .slice y.A y.n y.c, .int .i64 z.a, .int .i64 z.b, .slice z.A z.n z.c] 24) ∧ TrV S w a x ∧ TrV S w b y ∧ TrV S w c z

theorem TrV.keep {S : Nat → Prop} {w w' : World} (key : ∀ (p : Nat) (o : Obj), S p → w.heap[p]? = some o → w'.heap[p]? = some o) : ∀ (t : Tm) (v : Tv), TrV S w t v → TrV S w' t v := by
  intro t
  induction t with
  | num n => intro v h; exact h
  | vn => intro v h; exact h
  | vs => intro v h; exact h
  | neg a ih =>
    intro v h
    obtain ⟨q, x, h1, h2, h3, h4⟩ := h
    exact ⟨q, x, h1, h2, key _ _ h1 h3, ih _ h4⟩
  | two op a b iha ihb =>
    intro v h
    obtain ⟨q, x, y, h1, h2, h3, h4, h5⟩ := h
    exact ⟨q, x, y, h1, h2, key _ _ h1 h3, iha _ h4, ihb _ h5⟩
  | cond a b c iha ihb ihc =>
    intro v h
    obtain ⟨q, x, y, z, h1, h2, h3, h4, h5, h6⟩ := h
    exact ⟨q, x, y, z, h1, h2, key _ _ h1 h3, iha _ h4, ihb _ h5, ihc _ h6⟩
theorem TrV.fr {xs : List Nat} {w w' : World} {S : Nat → Prop} (f : Fr xs w w') (hx : ∀ k ∈ xs, ¬ S k) {t : Tm} {v : Tv} (h : TrV S w t v) : TrV S w' t v :=
  TrV.keep (fun p o hp h => by rw [f.block p (some_lt h) (fun hm => hx p hm hp)]; exact h) t v h
theorem TrV.mono {w : World} {S S' : Nat → Prop} (hl : ∀ p, S p → p < w.heap.size → S' p) : ∀ {t : Tm} {v : Tv}, TrV S w t v → TrV S' w t v := by
  intro t
  induction t with
  | num n => intro v h; exact h
  | vn => intro v h; exact h
  | vs => intro v h; exact h
  | neg a ih =>
    intro v h
    obtain ⟨q, x, h1, h2, h3, h4⟩ := h
    exact ⟨q, x, hl _ h1 (some_lt h3), h2, h3, ih h4⟩
  | two op a b iha ihb =>
    intro v h
    obtain ⟨q, x, y, h1, h2, h3, h4, h5⟩ := h
    exact ⟨q, x, y, hl _ h1 (some_lt h3), h2, h3, iha h4, ihb h5⟩
  | cond a b c iha ihb ihc =>
    intro v h
    obtain ⟨q, x, y, z, h1, h2, h3, h4, h5, h6⟩ := h
    exact ⟨q, x, y, z, hl _ h1 (some_lt h3), h2, h3, iha h4, ihb h5, ihc h6⟩
theorem TrV.alloc {S : Nat → Prop} {w : World} {t : Tm} {v : Tv} (h : TrV S w t v) (o : Obj) : TrV S (w.alloc o) t v := TrV.fr (xs := []) ((Fr.refl _ _).alloc o) (by simp) h

/-- How a reader of the document's ends. -/
def OutT (pb : Nat) (s : ByteArray) (dp : Nat) (w : World) (r : Res) (e : Ending) (w' : World) : Prop :=
  match r with
  | .ok t u => ∃ (a b : Int) (A : Option Addr) (n c k : Nat), e = .returned (.agg #[.int .i64 a, .int .i64 b, .slice A n c]) ∧ TrV (fun p => w.heap.size ≤ p) w' t ⟨a, b, A, n, c⟩ ∧ Rp w' pb s k dp 0 0 ∧ k ≤ s.size ∧ u = s.data.toList.drop k ∧ Fr [pb] w w'
  | .bad pl er => ∃ (a b : Int) (A : Option Addr) (n c k dp' : Nat), e = .returned (.agg #[.int .i64 a, .int .i64 b, .slice A n c]) ∧ Rp w' pb s k dp' (s.size - pl) er ∧ er ≠ 0 ∧ dp ≤ dp' ∧ dp' ≤ 20 ∧ k ≤ s.size ∧ Fr [pb] w w'

/-- A result's own block. -/
def RC (w : World) (R : Nat) (x0 x1 x2 : Value) : Prop := w.heap[R]? = some (.cells #[x0, x1, x2] 24 (0, 0))
section
variable {w w' : World} {R : Nat} {x0 x1 x2 : Value}
theorem RC.c0 (h : RC w R x0 x1 x2) : w.cell? ⟨R, 0, none⟩ = some x0 := by unfold RC at h; simp [World.cell?, h]
theorem RC.c1 (h : RC w R x0 x1 x2) : w.cell? ⟨R, 1, none⟩ = some x1 := by unfold RC at h; simp [World.cell?, h]
theorem RC.c2 (h : RC w R x0 x1 x2) : w.cell? ⟨R, 2, none⟩ = some x2 := by unfold RC at h; simp [World.cell?, h]
theorem RC.fz (h : RC w R x0 x1 x2) (o : Nat) : w.frozen? ⟨R, o, none⟩ = false := by unfold RC at h; simp [World.frozen?, h]
theorem RC.fr {xs : List Nat} (h : RC w R x0 x1 x2) (f : Fr xs w w') (hx : R ∉ xs) : RC w' R x0 x1 x2 := by
  unfold RC at h ⊢; rw [f.block _ (some_lt h) hx]; exact h
theorem RC.lt (h : RC w R x0 x1 x2) : R < w.heap.size := some_lt h
theorem RC.new (w : World) : RC (w.alloc (.cells #[x0, x1, x2] 24)) w.heap.size x0 x1 x2 := heap_alloc_new w _
theorem RC.set3 (h : RC w R x0 x1 x2) (y0 y1 y2 : Value) : RC (((w.setCell ⟨R, 0, none⟩ y0).setCell ⟨R, 1, none⟩ y1).setCell ⟨R, 2, none⟩ y2) R y0 y1 y2 := by
  unfold RC at h ⊢; simp [World.setCell, Array.getElem?_modify, h]
theorem Fr.set3 (w : World) (R : Nat) (y0 y1 y2 : Value) : Fr [R] w (((w.setCell ⟨R, 0, none⟩ y0).setCell ⟨R, 1, none⟩ y1).setCell ⟨R, 2, none⟩ y2) :=
  (((Fr.refl _ _).setCell (.inl (by simp)) _).setCell (.inl (by simp)) _).setCell (.inl (by simp)) _
theorem Fr.over' {xs ys : List Nat} {a b c : World} (h : Fr ys a b) (g : Fr xs b c) (hx : ∀ k ∈ xs, k ∈ ys ∨ a.heap.size ≤ k) : Fr ys a c :=
  ⟨g.os.trans h.os, g.tape.trans h.tape, g.output.trans h.output, Nat.le_trans h.size g.size, fun i hi hy => by
    have := h.size
    rw [g.block i (by omega) (fun hm => by rcases hx i hm with h' | h'; exact hy h'; omega)]; exact h.block i hi hy⟩
end

theorem Tryz.cellsInt3 : Tryz.prog.cellsOf 3 = 1 := by kernel_rfl
theorem retT {fn : Func} {R sl : Nat} {tmps : Array Value} {w' : World} {a b : Int} {A : Option Addr} {n c : Nat} {Q : Ending → World → Prop} (hres : fn.results = #[.cell sl 24]) (ht : tmps[sl]? = some (.pointer (some ⟨R, 0, none⟩)))
    (h : RC w' R (.int .i64 a) (.int .i64 b) (.slice A n c)) (hq : Q (.returned (.agg #[.int .i64 a, .int .i64 b, .slice A n c])) w') : bodyPost Tryz.prog fn Q .ret ⟨tmps, []⟩ w' := by
  refine bodyPost_ret (v := .agg #[.int .i64 a, .int .i64 b, .slice A n c]) ?_ rfl hq
  have h0 := h.c0
  have h1 := h.c1
  have h2 := h.c2
  simp only [results, hres]
  simp [go_sem, ht, h0, h1, h2]
end Go.Proofs.YtnapbfilkahobaaGreatDoor
