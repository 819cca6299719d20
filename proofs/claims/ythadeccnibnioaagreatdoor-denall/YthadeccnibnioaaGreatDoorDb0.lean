/- The document's Apply. -/
import Derived.Test.YthadeccnibnioaaGreatDoorDa
import Derived.Test.YthadeccnibnioaaGreatDoorPureZ1
import Derived.Test.YthadeccnibnioaaGreatDoorKc
import Derived.Deep.DeepCutAuto
import Derived.Laws.Concat
namespace Go.Proofs.YthadeccnibnioaaGreatDoor
open Go.RowKit
set_option linter.unusedVariables false
def endD (r out : Rc) (many a b : Int) (has : Bool) : List Rc × Hd × Bool :=
  (if out.key.size ≤ 40 then List.replicate many.toNat out else [], if has then ⟨0, r.key, a, b⟩ else hd0, has)
theorem wpList_append_run {P : Program} {ops : Array Oper} {rest : List Oper} {o : Oper} {a : Act} {w : World} {Q : Exit → Act → World → Prop} (hg : o.guard = none) (s x : Operand) (t : TypeId)
    (hop : o.op = .call { callee := .builtin .append, args := #[s, x], argTypes := #[t, t] }) (v1 v2 r : Value) (w' : World) (hs : a.eval s = v1) (hx : a.eval x = v2) (hrun : (Builtin.append_ #[t, t] o.type #[v1, v2]).run P w = .ok r w') (h : wpList P ops Q rest (a.put o.dst r) w') :
    wpList P ops Q (o :: rest) a w :=
  wpList_plain hg fun _ hK => by
    unfold Oper.wp execOp
    simp only [hop, resolve, invoke, builtin, Sem.run_bind, Sem.run_pure, Result.andThen_ok, List.map_toArray, List.map_cons, List.map_nil, hs, hx, hrun]
    exact hK _ _ h
abbrev RrAt (w : World) (v : Value) (l : List Rc) : Prop := RwAt w 164 3 v l.length (rcells l)
theorem rr_app {u : World} {v x : Value} {l m : List Rc} (h : RrAt u v l) (hs : Src Tryz.prog 3 112 x m.length (rcells m) u) (hl : l.length + m.length ≤ 1000000000) :
    ∃ A c w1, (Builtin.append_ #[112, 112] 112 #[v, x]).run Tryz.prog u = .ok (.slice A (l.length + m.length) c) w1 ∧ RrAt w1 (.slice A (l.length + m.length) c) (l ++ m) ∧ u.grownBy w1 v.ownBlock ∧ (∀ b, Value.ownBlock (.slice A (l.length + m.length) c) = some b → v.ownBlock = some b ∨ u.heap.size ≤ b) := by
  obtain ⟨i0, hi, hz0, hz1, hz2⟩ := info_parts Tryz.infoRc
  obtain ⟨A, c, w1, hrun, hown, hgr, hat⟩ := rw_append h 112 112 112 i0 _ 32 Tryz.underlying112 hi hz0 hz1 hz2 rfl x m.length (rcells m) hs (by unfold maxLen; omega) (by omega)
  refine ⟨A, c, w1, hrun, ?_, hgr, hat⟩
  rw [← rcells_append] at hown
  have : (l ++ m).length = l.length + m.length := by simp
  rw [← this] at hown ⊢
  exact hown
theorem src_one {u : World} {g : Nat} {r : Rc} (hg : u.heap[g]? = some (.cells #[.string r.key, .int .i64 r.num, .int .i64 r.time] 164 (0, 0))) : Src Tryz.prog 3 112 (.slice (some ⟨g, 0, none⟩) 1 1) 1 (rcells [r]) u :=
  Src.ofSlice _ Tryz.underlying112 _ 1 1 (rcells [r]) rfl (World.news_of_block (cs := #[.string r.key, .int .i64 r.num, .int .i64 r.time]) hg) (rcells_one [r])
theorem at_new (X : World) (o : Obj) (n : Nat) (h : X.heap.size = n) : (X.alloc o).heap[n]? = some o := by subst h; exact heap_alloc_new X o
/-- What Apply has in memory while it works. -/
structure Fa (w u : World) (nd : Nd) (fa : Option Addr) (fc : Nat) (r o : Rc) : Prop where
  b : Below w.heap.size w u
  n : u.heap[w.heap.size]? = some (.cells #[.int .i64 nd.k, .slice fa nd.fs.length fc, .string nd.tx, .int .i64 nd.n] 52 (0, 0))
  r : u.heap[w.heap.size + 1 + 1]? = some (.cells #[.string r.key, .int .i64 r.num, .int .i64 r.time] 164 (0, 0))
  z : u.heap[w.heap.size + 1 + 1 + 1]? = some (.cells #[.int .i64 0, .string ⟨#[]⟩, .int .i64 0, .int .i64 0] 162 (0, 0))
  o : u.heap[w.heap.size + 1 + 1 + 1 + 1]? = some (.cells #[.string o.key, .int .i64 o.num, .int .i64 o.time] 164 (0, 0))
theorem Fa.lt {w u : World} {nd : Nd} {fa : Option Addr} {fc : Nat} {r o : Rc} (h : Fa w u nd fa fc r o) : w.heap.size + 1 + 1 + 1 + 1 < u.heap.size := (Array.getElem?_eq_some_iff.1 h.o).1
theorem Fa.keep {w u u' : World} {nd : Nd} {fa : Option Addr} {fc : Nat} {r o : Rc} (h : Fa w u nd fa fc r o) (hb : Below u.heap.size u u') : Fa w u' nd fa fc r o := by
  have hl := h.lt
  exact ⟨h.b.trans (hb.mono h.b.size), (hb.block _ (by omega)).trans h.n, (hb.block _ (by omega)).trans h.r, (hb.block _ (by omega)).trans h.z, (hb.block _ (by omega)).trans h.o⟩
theorem Fa.set {w u : World} {nd : Nd} {fa : Option Addr} {fc : Nat} {r o : Rc} (h : Fa w u nd fa fc r o) (i : Nat) (v : Value) (o' : Rc) (he : (#[.string o.key, .int .i64 o.num, .int .i64 o.time] : Array Value).setIfInBounds i v = #[.string o'.key, .int .i64 o'.num, .int .i64 o'.time]) : Fa w (u.setCell ⟨w.heap.size + 1 + 1 + 1 + 1, i, none⟩ v) nd fa fc r o' :=
  ⟨h.b.setCell (by show w.heap.size ≤ w.heap.size + 1 + 1 + 1 + 1; omega) _, (Below.heap_setCell _ _ _ _ (by show w.heap.size ≠ w.heap.size + 1 + 1 + 1 + 1; omega)).trans h.n, (Below.heap_setCell _ _ _ _ (by show w.heap.size + 1 + 1 ≠ w.heap.size + 1 + 1 + 1 + 1; omega)).trans h.r, (Below.heap_setCell _ _ _ _ (by show w.heap.size + 1 + 1 + 1 ≠ w.heap.size + 1 + 1 + 1 + 1; omega)).trans h.z, by rw [heap_setCell_same u _ i _ _ _ h.o, he]⟩
theorem Fa.cells {w u : World} {nd : Nd} {fa : Option Addr} {fc : Nat} {r o : Rc} (h : Fa w u nd fa fc r o) : u.cell? ⟨w.heap.size, 0, none⟩ = some (.int .i64 nd.k) ∧ u.cell? ⟨w.heap.size, 2, none⟩ = some (.string nd.tx) ∧ u.cell? ⟨w.heap.size, 3, none⟩ = some (.int .i64 nd.n) ∧ u.cell? ⟨w.heap.size + 1 + 1, 1, none⟩ = some (.int .i64 r.num) ∧ u.cell? ⟨w.heap.size + 1 + 1 + 1 + 1, 0, none⟩ = some (.string o.key) ∧ u.cell? ⟨w.heap.size + 1 + 1 + 1 + 1, 1, none⟩ = some (.int .i64 o.num) ∧ u.cell? ⟨w.heap.size + 1 + 1 + 1 + 1, 2, none⟩ = some (.int .i64 o.time) := by
  refine ⟨by simp [World.cell?, h.n], by simp [World.cell?, h.n], by simp [World.cell?, h.n], by simp [World.cell?, h.r], by simp [World.cell?, h.o], by simp [World.cell?, h.o], by simp [World.cell?, h.o]⟩
theorem Fa.frz {w u : World} {nd : Nd} {fa : Option Addr} {fc : Nat} {r o : Rc} (h : Fa w u nd fa fc r o) (i : Nat) : u.frozen? ⟨w.heap.size + 1 + 1 + 1 + 1, i, none⟩ = false ∧ u.frozen? ⟨w.heap.size + 1 + 1 + 1, i, none⟩ = false := ⟨by simp [World.frozen?, h.o], by simp [World.frozen?, h.z]⟩
end Go.Proofs.YthadeccnibnioaaGreatDoor
