/- Records read. -/
import Derived.Test.YtiofpimchbhfcabFm
import Derived.Deep.RegionLaw
namespace Go.Proofs.Ytiofpimchbhfcab
open Go.RowKit

theorem cell_three_new (w : World) (a b c : Value) (t : TypeId) : ∀ j u, [a, b, c][j]? = some u → (w.alloc (.cells #[a, b, c] t)).cell? ((⟨w.heap.size, 0, none⟩ : Addr).add j) = some u := by
  intro j u hj
  match j, hj with
  | 0, hj => simp at hj; subst hj; simp [Addr.add]
  | 1, hj => simp at hj; subst hj; simp [Addr.add]
  | 2, hj => simp at hj; subst hj; simp [Addr.add]

/-- Blocks that hold no records, and are not the reader's, stay. -/
theorem rows_keep {w w' : World} {B e m n : Nat} {v : Value} {cs : List Value} {R : Nat} (h : w.ownsRow B e m v n cs) (f : Fr [R] w w') (hR : R < B) : w'.ownsRow B e m v n cs :=
  ⟨h.1, h.2.imp id fun ⟨g, cap, cur, h0, h1, h2, h3⟩ => ⟨g, cap, cur, h0, h1, by rw [f.block g (some_lt h2) (by simp; omega)]; exact h2, h3⟩⟩
/-- A variable that has a block of its own. -/
def Vc (T : TypeId) (w : World) (L : Nat) (v : Value) : Prop := w.heap[L]? = some (.cells #[v] T)
theorem Vc.c {T : TypeId} {w : World} {L : Nat} {v : Value} (h : Vc T w L v) : w.cell? ⟨L, 0, none⟩ = some v := by unfold Vc at h; simp [World.cell?, h]
theorem Vc.fz {T : TypeId} {w : World} {L : Nat} {v : Value} (h : Vc T w L v) : w.frozen? ⟨L, 0, none⟩ = false := by unfold Vc at h; simp [World.frozen?, h]
theorem Vc.set {T : TypeId} {w : World} {L : Nat} {v : Value} (h : Vc T w L v) (u : Value) : Vc T (w.setCell ⟨L, 0, none⟩ u) L u := by
  unfold Vc at h ⊢; simp [World.setCell, Array.getElem?_modify, h]
theorem Vc.keep {T : TypeId} {w w' : World} {L : Nat} {v : Value} (h : Vc T w L v) (hb : w'.heap[L]? = w.heap[L]?) : Vc T w' L v := by unfold Vc; rw [hb]; exact h
theorem Vc.lt {T : TypeId} {w : World} {L : Nat} {v : Value} (h : Vc T w L v) : L < w.heap.size := some_lt h
theorem Vc.new (T : TypeId) (w : World) (v : Value) : Vc T (w.alloc (.cells #[v] T)) w.heap.size v := by
  unfold Vc; show (w.heap.push _)[w.heap.size]? = _; simp
theorem Fr.andB {xs : List Nat} {a b c : World} {B : Nat} (h : Fr xs a b) (hB : a.heap.size ≤ B) (k : Below B b c) : Fr xs a c :=
  ⟨k.os.trans h.os, k.tape.trans h.tape, k.output.trans h.output, Nat.le_trans h.size k.size, fun i hi hx => (k.block i (by omega)).trans (h.block i hi hx)⟩
theorem step_append_own {P : Program} {ops : Array Oper} {o : Oper} {a : Act} {w : World} {K : Act → World → Prop} {Q : Exit → Act → World → Prop} {E : Prop} (hg : o.guard = none) (s x : Operand) (t : TypeId)
    (ho : o.op = .call { callee := .builtin .append, args := #[s, x], argTypes := #[t, t] })
    (base : Nat) (e : TypeId) (i : TypeInfo) (z : Value) (size bytes : Nat) (ht : P.underlying t = some (.slice e)) (hi : P.info? e = some i) (hz : i.zero = some z)
    (hsize : i.size = size) (hby : i.bytes = bytes) (hzs : z.cells.size = size) (hsz : 0 < size)
    (v : Value) (n : Nat) (xs : List Value) (hs : a.eval s = v) (hown : w.ownsRow base e size v n xs)
    (ad : Addr) (m c : Nat) (news : List Value) (hx : a.eval x = .slice (some ad) m c) (hl : news.length = m * size) (hnews : ∀ j u, news[j]? = some u → w.cell? (ad.add j) = some u) (h1 : ∀ u ∈ news, u.oneCell' = true)
    (h63 : n + m ≤ maxLen) (hbytes : (n + m) * bytes ≤ 140737488355328) (hbase : base ≤ w.heap.size)
    (h : ∀ v' w', w'.ownsRow base e size v' (n + m) (xs ++ news) → w.grownBy w' v.ownBlock → K (a.put o.dst v') w') :
    if Region.wanted o (yielded ops a.tmps) = true then Oper.wp P o a w K Q else E := by
  have hw : Region.wanted o (yielded ops a.tmps) = true := by simp [Region.wanted, hg]
  rw [if_pos hw]
  exact wp_append_own w s x t ho base e i z size bytes ht hi hz hsize hby hzs hsz v n xs hs hown ad m c news hx hl hnews h1 h63 hbytes hbase (fun v' w' h2 h3 _ => h v' w' h2 h3)
theorem new_block (w : World) (o : Obj) : (w.alloc o).heap[w.heap.size]? = some o := by show (w.heap.push _)[w.heap.size]? = _; simp
theorem Below.drewN {B : Nat} {a b : World} (h : Below B a b) (k : Nat) : Below B a (b.drewN k) := ⟨h.os, h.tape, h.output, h.size, h.block⟩
theorem Fr.drw {xs ys : List Nat} {a b c : World} (h : Fr xs a b) (k : Fr ys b.drew c) (hy : ∀ i, i ∈ ys → i ∈ xs) : Fr xs a c :=
  ⟨k.os.trans h.os, k.tape.trans h.tape, k.output.trans h.output, Nat.le_trans h.size k.size, fun i hi hx => (k.block i (Nat.lt_of_lt_of_le hi h.size) (fun hm => hx (hy i hm))).trans (h.block i hi hx)⟩
theorem step_call {P : Program} {ops : Array Oper} {o : Oper} {a : Act} {w : World} {K : Act → World → Prop} {Q : Exit → Act → World → Prop} {E : Prop} (hg : o.guard = none) (f : FuncId) (args : Array Value)
    (hx : (execOp a.eval o).run P w = .ok (.enter f args) w) (hC : Calls P f args w fun e w' => ∃ v, e = .returned v ∧ K (a.put o.dst v) w') :
    if Region.wanted o (yielded ops a.tmps) = true then Oper.wp P o a w K Q else E := by
  have hw : Region.wanted o (yielded ops a.tmps) = true := by simp [Region.wanted, hg]
  rw [if_pos hw]
  unfold Oper.wp
  rw [hx, Oper.upon_enter]
  exact hC.mono (by rintro e w' ⟨v, rfl, h⟩; exact h)
theorem row_drew {w : World} {B e m n : Nat} {v : Value} {cs : List Value} (h : w.ownsRow B e m v n cs) (k : Nat) : (w.drewN k).ownsRow B e m v n cs := h
theorem row_put {w : World} {B e m n : Nat} {v : Value} {cs : List Value} {L : Nat} (h : w.ownsRow B e m v n cs) (hL : L < B) (u : Value) : (w.setCell ⟨L, 0, none⟩ u).ownsRow B e m v n cs :=
  ⟨h.1, h.2.imp id fun ⟨g, cap, cur, h0, h1, h2, h3⟩ => ⟨g, cap, cur, h0, h1, by rw [Below.heap_setCell _ _ _ _ (by simp; omega)]; exact h2, h3⟩⟩
theorem row_slice {w : World} {B n e m : Nat} {v : Value} {xs : List Value} (h : w.ownsRow B e m v n xs) : ∃ A cap, v = .slice A n cap := by
  rcases h.2 with ⟨h0, h1⟩ | ⟨g, cap', cur, h0, -⟩
  · exact ⟨none, 0, by rw [h0, h1]⟩
  · exact ⟨_, _, h0⟩
theorem read_rc {l : List UInt8} {xs : List Rc} (h : rdAll rdRc l = some xs) : readRcs l = if recsE xs = 0 then some xs else none := by
  unfold readRcs; rw [h]
theorem read_none {l : List UInt8} (h : rdAll rdRc l = none) : readRcs l = none := by
  unfold readRcs; rw [h]

end Go.Proofs.Ytiofpimchbhfcab
