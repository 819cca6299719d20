/- Rows of panes that a thing owns: append, one put between. -/
import Derived.Test.YtfpfaekbakilpaaDoorNa
import Derived.Test.YtfpfaekbakilpaaDoorPureRw
import Derived.Laws.Cover1
import Derived.Sort.Walk0
import Derived.Deep.CutBlock
import Derived.Deep.DeepCutAuto
namespace Go.Proofs.YtfpfaekbakilpaaDoor
open Go.RowKit
set_option linter.unusedVariables false

theorem wpList_append_run {P : Program} {ops : Array Oper} {rest : List Oper} {o : Oper} {a : Act} {w : World} {Q : Exit → Act → World → Prop} (hg : o.guard = none) (s x : Operand) (t : TypeId)
    (hop : o.op = .call { callee := .builtin .append, args := #[s, x], argTypes := #[t, t] }) (v1 v2 r : Value) (w' : World) (hs : a.eval s = v1) (hx : a.eval x = v2) (hrun : (Builtin.append_ #[t, t] o.type #[v1, v2]).run P w = .ok r w') (h : wpList P ops Q rest (a.put o.dst r) w') :
    wpList P ops Q (o :: rest) a w :=
  wpList_plain hg fun _ hK => by
    unfold Oper.wp execOp
    simp only [hop, resolve, invoke, builtin, Sem.run_bind, Sem.run_pure, Result.andThen_ok, List.map_toArray, List.map_cons, List.map_nil, hs, hx, hrun]
    exact hK _ _ h
theorem less_kb {a b : ByteArray} (h : kb a < kb b) : Op.bytesLess a.toList b.toList = true := by rw [bytesLess_eq, Lib.toList_data, Lib.toList_data]; exact decide_eq_true h
theorem less_kbn {a b : ByteArray} (h : ¬ kb a < kb b) : Op.bytesLess a.toList b.toList = false := by rw [bytesLess_eq, Lib.toList_data, Lib.toList_data]; exact decide_eq_false h
theorem str_ne2 {a b : ByteArray} (h : a ≠ b) : (a.toList == b.toList) = false := by
  simp only [beq_eq_false_iff_ne, ne_eq]
  intro c
  rw [ByteArray.toList_eq, ByteArray.toList_eq] at c
  exact h (WideShapes.bytes_inj c)
theorem pcells_one : ∀ l : List Pn, ∀ u ∈ pcells l, u.oneCell' = true
  | [], u, h => by simp [pcells] at h
  | r :: l, u, h => by
    simp only [pcells, List.mem_cons] at h
    rcases h with rfl | rfl | rfl | rfl | rfl | rfl | h
    · rfl
    · rfl
    · rfl
    · rfl
    · rfl
    · rfl
    · exact pcells_one l u h
/-- A row of panes. -/
def PnR (w : World) (v : Value) (L : List Pn) : Prop := RwAt w 49 6 v L.length (pcells L)
theorem PnR.nil (w : World) : PnR w (.slice none 0 0) [] := RwAt.nil _ _ _
theorem PnR.keep {w w' : World} {v : Value} {L : List Pn} (h : PnR w v L) (hb : Below w.heap.size w w') : PnR w' v L := RwAt.keep h hb
theorem PnR.slice {w : World} {v : Value} {L : List Pn} (h : PnR w v L) : ∃ A c, v = .slice A L.length c ∧ L.length ≤ c ∧ c ≤ maxLen := RwAt.slice h
theorem PnR.cs {w : World} {A : Option Addr} {n c : Nat} {L : List Pn} (h : PnR w (.slice A n c) L) : CsAt w A (pcells L) := by
  obtain ⟨A', c', e, -⟩ := h.slice
  injection e with e1 e2 e3
  subst e1 e2 e3
  exact RwAt.cells h
theorem pn_app {u : World} {v x : Value} {L news : List Pn} (h : PnR u v L) (hs : Src Tryd.prog 6 23 x news.length (pcells news) u) (hl : L.length + news.length ≤ 1000000) :
    ∃ A c w1, (Builtin.append_ #[23, 23] 23 #[v, x]).run Tryd.prog u = .ok (.slice A (L.length + news.length) c) w1 ∧ PnR w1 (.slice A (L.length + news.length) c) (L ++ news) ∧ u.grownBy w1 v.ownBlock ∧ (∀ b, Value.ownBlock (.slice A (L.length + news.length) c) = some b → v.ownBlock = some b ∨ u.heap.size ≤ b) := by
  obtain ⟨i0, hi, hz0, hz1, hz2⟩ := info_parts infoP
  obtain ⟨A, c, w1, hrun, hown, hgr, hat⟩ := rw_append h 23 23 23 i0 _ 56 Tryd.underlying23 hi hz0 hz1 hz2 rfl x news.length (pcells news) hs (by unfold maxLen; omega) (by omega)
  refine ⟨A, c, w1, hrun, ?_, hgr, hat⟩
  unfold PnR
  rw [pcells_append, List.length_append]
  exact hown
theorem pn_take {w : World} {A : Option Addr} {n c : Nat} {L : List Pn} (h : PnR w (.slice A n c) L) {p : Nat} (hp : p ≤ L.length) (c' : Nat) : Src Tryd.prog 6 23 (.slice A p c') (L.take p).length (pcells (L.take p)) w := by
  have hl : (L.take p).length = p := by rw [List.length_take]; omega
  have hsp : pcells L = pcells (L.take p) ++ pcells (L.drop p) := by rw [← pcells_append, List.take_append_drop]
  obtain ⟨A', c'', e, -, -⟩ := h.slice
  injection e with e1 e2 e3
  subst e1 e2 e3
  rw [hl]
  cases A with
  | none =>
    rcases h.2 with ⟨-, h0⟩ | ⟨g, o, cap, cur, hv, _⟩
    · have : p = 0 := by omega
      subst this
      exact Src.ofNil w Tryd.underlying23 c'
    · cases hv
  | some a =>
    refine Src.ofSlice w Tryd.underlying23 a p c' (pcells (L.take p)) (by rw [pcells_len, hl]) (fun j x hx => ?_) (pcells_one _)
    rcases RwAt.cells h with h0 | ⟨b, o, e, hc⟩
    · rw [h0] at hsp
      have : pcells (L.take p) = [] := (List.append_eq_nil_iff.1 hsp.symm).1
      rw [this] at hx; cases hx
    · injection e with e
      subst e
      rw [add_off]
      exact hc j x (by rw [hsp, List.getElem?_append_left (List.getElem?_eq_some_iff.1 hx).1]; exact hx)
theorem pn_drop {w : World} {g o n c : Nat} {L : List Pn} (h : PnR w (.slice (some ⟨g, o, none⟩) n c) L) {p : Nat} (hp : p ≤ L.length) : Src Tryd.prog 6 23 (.slice (some (if c = p then ⟨g, o, none⟩ else ⟨g, o + p * 6, none⟩)) (n - p) (c - p)) (L.drop p).length (pcells (L.drop p)) w := by
  have hl : (L.take p).length = p := by rw [List.length_take]; omega
  have hsp : pcells L = pcells (L.take p) ++ pcells (L.drop p) := by rw [← pcells_append, List.take_append_drop]
  obtain ⟨A', c'', e, hle, -⟩ := h.slice
  injection e with e1 e2 e3
  subst e2 e3
  have hd : (L.drop p).length = L.length - p := List.length_drop
  rw [hd]
  refine Src.ofSlice w Tryd.underlying23 _ _ _ (pcells (L.drop p)) (by rw [pcells_len, hd]) (fun j x hx => ?_) (pcells_one _)
  have hj := (List.getElem?_eq_some_iff.1 hx).1
  rw [pcells_len, hd] at hj
  rw [if_neg (by omega), add_off]
  rcases RwAt.cells h with h0 | ⟨b, o', e, hc⟩
  · have := pcells_len L; rw [h0] at this; simp at this; omega
  · injection e with e
    injection e with e1 e2 e3
    subst e1 e2
    have hll : (pcells (L.take p)).length = p * 6 := by rw [pcells_len, hl]
    have := hc (p * 6 + j) x (by rw [hsp, List.getElem?_append_right (by omega), hll, Nat.add_sub_cancel_left]; exact hx)
    rw [Nat.add_assoc]; exact this
theorem heap_new (w : World) (o : Obj) : (w.alloc o).heap[w.heap.size]? = some o := by show (w.heap.push o)[w.heap.size]? = some o; rw [Array.getElem?_push_size]
/-- The cells of one pane. -/
def pc1 (p : Pn) : Array Value := #[.string p.key, .int .i64 p.fr, .int .i64 p.to, .int .i64 p.mn, .int .i64 p.sm, .int .i64 p.lt]
theorem pc1_src (w : World) (p : Pn) : Src Tryd.prog 6 23 (.slice (some ⟨w.heap.size, 0, none⟩) 1 1) [p].length (pcells [p]) (w.alloc (.cells (pc1 p) 49)) :=
  Src.ofSlice _ Tryd.underlying23 _ 1 1 (pcells [p]) rfl (World.news_of_block (cs := pc1 p) (fr := (0, 0)) (heap_new w _)) (pcells_one _)
theorem pn_ins {u : World} {A : Option Addr} {n c : Nat} {L : List Pn} (h : PnR u (.slice A n c) L) (P : Pn) {p : Nat} (hp : p ≤ L.length) (hl : L.length ≤ 100000) {x3 : Value} (hx3 : ∀ u', Below u.heap.size u u' → Src Tryd.prog 6 23 x3 (L.drop p).length (pcells (L.drop p)) u') :
    ∃ A1 c1 w1 A2 c2 w2 A3 c3 w3, (Builtin.append_ #[23, 23] 23 #[.slice none 0 0, .slice A p c]).run Tryd.prog u = .ok (.slice A1 p c1) w1 ∧
      (Builtin.append_ #[23, 23] 23 #[.slice A1 p c1, .slice (some ⟨w1.heap.size, 0, none⟩) 1 1]).run Tryd.prog (w1.alloc (.cells (pc1 P) 49)) = .ok (.slice A2 (p + 1) c2) w2 ∧
      (Builtin.append_ #[23, 23] 23 #[.slice A2 (p + 1) c2, x3]).run Tryd.prog w2 = .ok (.slice A3 (L.length + 1) c3) w3 ∧
      PnR w3 (.slice A3 (L.length + 1) c3) (L.take p ++ P :: L.drop p) ∧ (∀ b, Value.ownBlock (.slice A3 (L.length + 1) c3) = some b → u.heap.size ≤ b) ∧ Below u.heap.size u w1 ∧ Below u.heap.size u w2 ∧ Below u.heap.size u w3 := by
  have htl : (L.take p).length = p := by rw [List.length_take]; omega
  have hdl : (L.drop p).length = L.length - p := List.length_drop
  obtain ⟨A1, c1, w1, hr1, ho1, hg1, ha1⟩ := pn_app (L := []) (PnR.nil u) (pn_take h hp c) (by simp only [List.length_nil]; omega)
  simp only [List.length_nil, Nat.zero_add, List.nil_append, htl] at hr1 ho1 ha1
  have hb1 : Below u.heap.size u w1 := ⟨hg1.os, hg1.tape, hg1.output, hg1.size, fun k hk => hg1.block k hk (fun e => by simp [Value.ownBlock] at e)⟩
  have hbA : Below w1.heap.size w1 (w1.alloc (.cells (pc1 P) 49)) := (Below.refl _ _).alloc (Nat.le_refl _) _
  obtain ⟨A2, c2, w2, hr2, ho2, hg2, ha2⟩ := pn_app (ho1.keep hbA) (pc1_src w1 P) (by rw [htl]; simp; omega)
  simp only [htl, List.length_singleton] at hr2 ho2 ha2
  have hw1 : u.heap.size ≤ w1.heap.size := hb1.size
  have hb2 : Below u.heap.size u w2 := (hb1.trans (hbA.mono hw1)).trans ⟨hg2.os, hg2.tape, hg2.output, hg2.size, fun k hk => hg2.block k (by simp; omega) (fun e => by
    rcases ha1 k e.symm with h' | h'
    · simp [Value.ownBlock] at h'
    · omega)⟩
  have ha2' : ∀ b, Value.ownBlock (.slice A2 (p + 1) c2) = some b → u.heap.size ≤ b := fun b hb' => by
    rcases ha2 b hb' with e | e
    · rcases ha1 b e with h' | h'
      · simp [Value.ownBlock] at h'
      · exact h'
    · simp at e; omega
  have hl2 : (L.take p ++ [P]).length = p + 1 := by rw [List.length_append, htl]; rfl
  obtain ⟨A3, c3, w3, hr3, ho3, hg3, ha3⟩ := pn_app ho2 (hx3 w2 hb2) (by rw [hl2, hdl]; omega)
  have hl3 : p + 1 + (L.length - p) = L.length + 1 := by omega
  rw [hl2, hdl, hl3] at hr3 ho3 ha3
  have hb3 : Below u.heap.size u w3 := hb2.trans ⟨hg3.os, hg3.tape, hg3.output, hg3.size, fun k hk => hg3.block k (by have := hb2.size; omega) (fun e => by have := ha2' k e.symm; omega)⟩
  have hls : L.take p ++ [P] ++ L.drop p = L.take p ++ P :: L.drop p := by simp
  rw [hls] at ho3
  refine ⟨A1, c1, w1, A2, c2, w2, A3, c3, w3, hr1, hr2, hr3, ho3, fun b hb => ?_, hb1, hb2, hb3⟩
  rcases ha3 b hb with e | e
  · exact ha2' b e
  · have := hb2.size; omega
theorem heap_set_s (w : World) (B o : Nat) (cur : Array Value) (t : TypeId) (m : Nat × Nat) (h : w.heap[B]? = some (.cells cur t m)) (v : Value) : (w.setCell ⟨B, o, none⟩ v).heap[B]? = some (.cells (cur.setIfInBounds o v) t m) := by
  simp [World.setCell, Array.getElem?_modify, h]
theorem jt1 {u : World} {P : Nat} {k : ByteArray} {f t m s l : Int} (x : Int) (h : u.heap[P]? = some (.cells (pc1 ⟨k, f, t, m, s, l⟩) 49 (0, 0))) : (u.setCell ⟨P, 1, none⟩ (.int .i64 x)).heap[P]? = some (.cells (pc1 ⟨k, x, t, m, s, l⟩) 49 (0, 0)) := by rw [heap_set_s _ _ _ _ _ _ h]; rfl
theorem jt2 {u : World} {P : Nat} {k : ByteArray} {f t m s l : Int} (x : Int) (h : u.heap[P]? = some (.cells (pc1 ⟨k, f, t, m, s, l⟩) 49 (0, 0))) : (u.setCell ⟨P, 2, none⟩ (.int .i64 x)).heap[P]? = some (.cells (pc1 ⟨k, f, x, m, s, l⟩) 49 (0, 0)) := by rw [heap_set_s _ _ _ _ _ _ h]; rfl
theorem jt3 {u : World} {P : Nat} {k : ByteArray} {f t m s l : Int} (x : Int) (h : u.heap[P]? = some (.cells (pc1 ⟨k, f, t, m, s, l⟩) 49 (0, 0))) : (u.setCell ⟨P, 3, none⟩ (.int .i64 x)).heap[P]? = some (.cells (pc1 ⟨k, f, t, x, s, l⟩) 49 (0, 0)) := by rw [heap_set_s _ _ _ _ _ _ h]; rfl
theorem jt4 {u : World} {P : Nat} {k : ByteArray} {f t m s l : Int} (x : Int) (h : u.heap[P]? = some (.cells (pc1 ⟨k, f, t, m, s, l⟩) 49 (0, 0))) : (u.setCell ⟨P, 4, none⟩ (.int .i64 x)).heap[P]? = some (.cells (pc1 ⟨k, f, t, m, x, l⟩) 49 (0, 0)) := by rw [heap_set_s _ _ _ _ _ _ h]; rfl
theorem jta {u : World} {P : Nat} {o o' : Obj} (h : u.heap[P]? = some o) : (u.alloc o').heap[P]? = some o := by rw [Below.heap_alloc _ _ _ (some_lt h)]; exact h
theorem jn_fin {wo wz u : World} {v : Value} {K : List Pn} {J : Pn} (hr : PnR wz v K) (ho : ∀ b, Value.ownBlock v = some b → wo.heap.size < b) (hb : Below wo.heap.size wo wz) (hf : Fr [wo.heap.size] wz u) (hJ : u.heap[wo.heap.size]? = some (.cells (pc1 J) 49 (0, 0))) :
    PnR u v K ∧ u.heap[wo.heap.size]? = some (.cells (pc1 J) 49 (0, 0)) ∧ (∀ b, Value.ownBlock v = some b → wo.heap.size < b) ∧ Below wo.heap.size wo u := by
  refine ⟨RwAt.block hr (fun b hb' => hf.block b (RwAt.lt hr hb').1 (by have := ho b hb'; simp; omega)), hJ, ho, ?_⟩
  exact hb.trans (hf.toBelow hb.size (by simp))
end Go.Proofs.YtfpfaekbakilpaaDoor
