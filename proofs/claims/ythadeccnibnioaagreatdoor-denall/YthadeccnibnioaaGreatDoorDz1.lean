import Derived.Test.YthadeccnibnioaaGreatDoorDb0
import Derived.Test.YthadeccnibnioaaGreatDoorTz
import Derived.Test.YthadeccnibnioaaGreatDoorPureZ1
/- The document's All. -/
namespace Go.Proofs.YthadeccnibnioaaGreatDoor
open Go.RowKit
set_option linter.unusedVariables false
def hcells : List Hd → List Value
  | [] => []
  | h :: l => .int .i64 h.nd :: .string h.key :: .int .i64 h.a :: .int .i64 h.b :: hcells l
theorem hcells_len : ∀ l : List Hd, (hcells l).length = l.length * 4
  | [] => rfl
  | r :: l => by simp only [hcells, List.length_cons, hcells_len l]; omega
theorem hcells_append : ∀ (a b : List Hd), hcells (a ++ b) = hcells a ++ hcells b
  | [], b => rfl
  | r :: a, b => by simp only [List.cons_append, hcells, hcells_append a b]
theorem hcells_at : ∀ (l : List Hd) (i : Nat) (h : i < l.length), (hcells l)[i * 4]? = some (.int .i64 l[i].nd) ∧ (hcells l)[i * 4 + 1]? = some (.string l[i].key) ∧ (hcells l)[i * 4 + 2]? = some (.int .i64 l[i].a) ∧ (hcells l)[i * 4 + 3]? = some (.int .i64 l[i].b)
  | [], i, h => by simp at h
  | r :: l, 0, _ => by simp [hcells]
  | r :: l, i + 1, h => by
    have := hcells_at l i (by simpa using h)
    rw [show (i + 1) * 4 = i * 4 + 4 from by omega]
    simpa [hcells] using this
theorem hcells_one (l : List Hd) : ∀ u ∈ hcells l, u.oneCell' = true := by
  induction l with
  | nil => simp [hcells]
  | cons r l ih =>
    intro u hu
    simp only [hcells, List.mem_cons] at hu
    rcases hu with rfl | rfl | rfl | rfl | hu
    · rfl
    · rfl
    · rfl
    · rfl
    · exact ih u hu
theorem hcells_set : ∀ (l : List Hd) (i : Nat) (x : Hd) (h : i < l.length), hcells (l.set i x) = (((((hcells l).set (i * 4) (.int .i64 x.nd)).set (i * 4 + 1) (.string x.key)).set (i * 4 + 2) (.int .i64 x.a)).set (i * 4 + 3) (.int .i64 x.b))
  | [], i, x, h => by simp at h
  | r :: l, 0, x, _ => by simp [hcells]
  | r :: l, i + 1, x, h => by
    rw [List.set_cons_succ, hcells, hcells_set l i x (by simpa using h), show (i + 1) * 4 = i * 4 + 4 from by omega]
    simp [hcells]
abbrev HeAt (w : World) (v : Value) (l : List Hd) : Prop := RwAt w 162 4 v l.length (hcells l)
theorem Tryz.infoHd : (Tryz.prog.info? 162).map (fun i => (i.zero, i.size, i.bytes)) = some (some (.agg #[.int .i64 0, .string ⟨#[]⟩, .int .i64 0, .int .i64 0]), 4, 40) := by kernel_rfl
/-- Lists of records that the document has handed on. -/
def OuAt (w : World) (base : Nat) (v : Value) (hs : List (List Rc)) : Prop := ∃ tv : List Value, RwAt w 112 1 v tv.length tv ∧ Fa2 (fun t x => RrAt w t x) tv hs ∧ ∀ x ∈ v :: tv, ∀ b, x.ownBlock = some b → base ≤ b
theorem OuAt.block {w w' : World} {base : Nat} {v : Value} {hs : List (List Rc)} (h : OuAt w base v hs) {lo : Nat} (hl : w.heap.size ≤ lo) (hb : Below lo w w') : OuAt w' base v hs := by
  obtain ⟨tv, h1, h2, h3⟩ := h
  exact ⟨tv, h1.block (fun b hv => hb.block b (by have := (h1.lt hv).1; omega)), fa_map h2 (fun t x ht hp => hp.block (fun b hv => hb.block b (by have := (hp.lt hv).1; omega))), h3⟩
theorem OuAt.slice {w : World} {base : Nat} {v : Value} {hs : List (List Rc)} (h : OuAt w base v hs) : ∃ A c, v = .slice A hs.length c := by
  obtain ⟨tv, h1, h2, h3⟩ := h
  obtain ⟨A, c, rfl, -, -⟩ := h1.slice
  exact ⟨A, c, by rw [fa_len h2]⟩
theorem OuAt.at {w : World} {base : Nat} {A : Option Addr} {n c : Nat} {hs : List (List Rc)} (h : OuAt w base (.slice A n c) hs) {i : Nat} (hi : i < hs.length) : ∃ b o Ax cx, A = some ⟨b, o, none⟩ ∧ w.cell? ⟨b, o + i, none⟩ = some (.slice Ax hs[i].length cx) ∧ RrAt w (.slice Ax hs[i].length cx) hs[i] ∧ b < w.heap.size := by
  obtain ⟨tv, h1, h2, h3⟩ := h
  have hl := fa_len h2
  have hi' : i < tv.length := by omega
  have hr := fa_get h2 i hi' hi
  obtain ⟨Ax, cx, e, -, -⟩ := hr.slice
  obtain ⟨A', c', e', -, -⟩ := h1.slice
  injection e' with e1 e2 e3
  subst e1 e2 e3
  rcases h1.cells with h0 | ⟨b, o, rfl, hc⟩
  · subst h0; simp at hi'
  · have c1 := hc i tv[i] (List.getElem?_eq_getElem hi')
    rw [e] at c1 hr
    exact ⟨b, o, Ax, cx, rfl, c1, hr, World.block_lt_of_cell? _ _ c1⟩
theorem rr_rcs {w : World} {A : Option Addr} {c : Nat} {l : List Rc} (h : RrAt w (.slice A l.length c) l) : RcsAt w A l := by
  rcases h.cells with h0 | ⟨b, o, rfl, hc⟩
  · left
    have := rcells_len l
    rw [h0] at this
    exact List.eq_nil_of_length_eq_zero (by simp at this; omega)
  · exact .inr ⟨b, o, rfl, hc⟩
theorem src_rcs {u : World} {A : Option Addr} {c : Nat} {l : List Rc} (h : RcsAt u A l) : Src Tryz.prog 3 112 (.slice A l.length c) l.length (rcells l) u := by
  cases A with
  | none =>
    rcases h with rfl | ⟨b, o, e, _⟩
    · exact Src.ofNil u Tryz.underlying112 c
    · cases e
  | some a =>
    refine Src.ofSlice u Tryz.underlying112 a l.length c (rcells l) (rcells_len l) (fun j x hx => ?_) (rcells_one l)
    rcases h with rfl | ⟨b, o, e, hc⟩
    · cases hx
    · injection e with e
      subst e
      rw [add_off]; exact hc j x hx
/-- A list more is handed on. -/
theorem ou_app {u : World} {base : Nat} {v vm : Value} {hs : List (List Rc)} {mine : List Rc} (h : OuAt u base v hs) (hm : RrAt u vm mine) (hmb : ∀ b, vm.ownBlock = some b → base ≤ b) (hbs : base ≤ u.heap.size) {g : Nat} (hg : u.heap[g]? = some (.cells #[vm] 112 (0, 0))) (hl : hs.length ≤ 1000000) :
    ∃ A c w1, (Builtin.append_ #[61, 61] 61 #[v, .slice (some ⟨g, 0, none⟩) 1 1]).run Tryz.prog u = .ok (.slice A (hs.length + 1) c) w1 ∧ OuAt w1 base (.slice A (hs.length + 1) c) (hs ++ [mine]) ∧ Below base u w1 := by
  obtain ⟨tv, h1, h2, h3⟩ := h
  have htl := fa_len h2
  obtain ⟨i0, hi, hz0, hz1, hz2⟩ := info_parts Tryz.infoRs
  obtain ⟨Am, cm, hvm, -, -⟩ := hm.slice
  obtain ⟨A, c, w1, hrun, hown, hgr, hat⟩ := rw_append h1 61 61 61 i0 _ 24 Tryz.underlying61 hi hz0 hz1 hz2 rfl (.slice (some ⟨g, 0, none⟩) 1 1) 1 [vm]
    (Src.ofSlice _ Tryz.underlying61 _ 1 1 [vm] rfl (World.news_of_block (cs := #[vm]) hg) (fun x hx => by simp at hx; subst hx; rw [hvm]; rfl)) (by unfold maxLen; omega) (by omega)
  have hrow : ∀ (t : Value) (x : List Rc), RrAt u t x → RrAt w1 t x := fun t x hp => hp.block (fun b hb => hgr.block b (hp.lt hb).1 (fun e => by
    obtain ⟨-, cur, hc⟩ := hp.lt hb
    obtain ⟨-, cur', hc'⟩ := h1.lt e.symm
    rw [hc] at hc'; simp at hc'))
  rw [htl] at hrun
  refine ⟨A, c, w1, hrun, ⟨tv ++ [vm], ?_, fa_append (fa_map h2 (fun t x _ hp => hrow t x hp)) (.cons (hrow vm mine hm) .nil), ?_⟩, ⟨hgr.os, hgr.tape, hgr.output, hgr.size, fun k hk => hgr.block k (by omega) (fun e => by have := h3 v List.mem_cons_self k e.symm; omega)⟩⟩
  · rw [List.length_append, List.length_singleton, ← htl]; exact hown
  · intro x hx b hb
    simp only [List.mem_cons, List.mem_append, List.not_mem_nil, or_false] at hx
    rcases hx with rfl | hx | rfl
    · rw [← htl] at hb
      rcases hat b hb with e | e
      · exact h3 v List.mem_cons_self b e
      · omega
    · exact h3 x (List.mem_cons_of_mem _ hx) b hb
    · exact hmb b hb
theorem ou_nil (w : World) (base : Nat) : OuAt w base (.slice none 0 0) [] := ⟨[], RwAt.nil _ _ _, .nil, fun x hx b hb => by simp at hx; subst hx; simp [Value.ownBlock] at hb⟩
/-- A state more. -/
theorem he_app {u : World} {v : Value} {l : List Hd} (h : HeAt u v l) (x : Hd) (hl : l.length ≤ 1000000) {g : Nat} (hg : u.heap[g]? = some (.cells #[.int .i64 x.nd, .string x.key, .int .i64 x.a, .int .i64 x.b] 162 (0, 0))) :
    ∃ A c w1, (Builtin.append_ #[160, 160] 160 #[v, .slice (some ⟨g, 0, none⟩) 1 1]).run Tryz.prog u = .ok (.slice A (l.length + 1) c) w1 ∧ HeAt w1 (.slice A (l.length + 1) c) (l ++ [x]) ∧ u.grownBy w1 v.ownBlock ∧ (∀ b, Value.ownBlock (.slice A (l.length + 1) c) = some b → v.ownBlock = some b ∨ u.heap.size ≤ b) := by
  obtain ⟨i0, hi, hz0, hz1, hz2⟩ := info_parts Tryz.infoHd
  obtain ⟨A, c, w1, hrun, hown, hgr, hat⟩ := rw_append h 160 160 160 i0 _ 40 Tryz.underlying160 hi hz0 hz1 hz2 rfl (.slice (some ⟨g, 0, none⟩) 1 1) 1 (hcells [x])
    (Src.ofSlice _ Tryz.underlying160 _ 1 1 (hcells [x]) rfl (World.news_of_block (cs := #[.int .i64 x.nd, .string x.key, .int .i64 x.a, .int .i64 x.b]) hg) (hcells_one [x])) (by unfold maxLen; omega) (by omega)
  refine ⟨A, c, w1, hrun, ?_, hgr, hat⟩
  rw [← hcells_append] at hown
  have : (l ++ [x]).length = l.length + 1 := by simp
  rw [← this] at hown ⊢
  exact hown
/-- A state's cells. -/
theorem he_at {w : World} {A : Option Addr} {n c : Nat} {l : List Hd} (h : HeAt w (.slice A n c) l) {i : Nat} (hi : i < l.length) : ∃ b o cur, A = some ⟨b, o, none⟩ ∧ w.heap[b]? = some (.cells cur 162 (0, 0)) ∧ o + l.length * 4 ≤ cur.size ∧ w.cell? ⟨b, o + i * 4, none⟩ = some (.int .i64 l[i].nd) ∧ w.cell? ⟨b, o + i * 4 + 1, none⟩ = some (.string l[i].key) ∧ w.cell? ⟨b, o + i * 4 + 2, none⟩ = some (.int .i64 l[i].a) ∧ w.cell? ⟨b, o + i * 4 + 3, none⟩ = some (.int .i64 l[i].b) := by
  have h' := h
  rcases h.2 with ⟨-, h0⟩ | ⟨g, o, cap, cur, hv, h2, h3, h4, h5, h6⟩
  · omega
  injection hv with e1 e2 e3
  subst e1 e2 e3
  have h5' : o + l.length * 4 ≤ cur.size := by have := Nat.mul_le_mul_right 4 h3; omega
  rcases h'.cells with h0 | ⟨b, o', hA, hc⟩
  · have := hcells_len l; rw [h0] at this; simp at this; omega
  · injection hA with hA
    injection hA with e1 e2 e3
    subst e1 e2
    obtain ⟨a0, a1, a2, a3⟩ := hcells_at l i hi
    exact ⟨g, o, cur, rfl, h2, h5', hc _ _ a0, by rw [Nat.add_assoc]; exact hc _ _ a1, by rw [Nat.add_assoc]; exact hc _ _ a2, by rw [Nat.add_assoc]; exact hc _ _ a3⟩
theorem he_set {w : World} {b o n c : Nat} {l : List Hd} (h : HeAt w (.slice (some ⟨b, o, none⟩) n c) l) {i : Nat} (hi : i < l.length) (x : Hd) : HeAt ((((w.setCell ⟨b, o + i * 4, none⟩ (.int .i64 x.nd)).setCell ⟨b, o + i * 4 + 1, none⟩ (.string x.key)).setCell ⟨b, o + i * 4 + 2, none⟩ (.int .i64 x.a)).setCell ⟨b, o + i * 4 + 3, none⟩ (.int .i64 x.b)) (.slice (some ⟨b, o, none⟩) n c) (l.set i x) := by
  rcases h.2 with ⟨-, h0⟩ | ⟨g, o', cap, cur, hv, h2, h3, h4, h5, h6⟩
  · omega
  injection hv with e1 e2 e3
  injection e1 with e1
  injection e1 with e1 e4 e5
  subst e1 e2 e3 e4
  have hm := Nat.mul_le_mul_right 4 h3
  refine ⟨by rw [hcells_len], .inr ⟨b, o, c, (((cur.setIfInBounds (o + i * 4) (.int .i64 x.nd)).setIfInBounds (o + i * 4 + 1) (.string x.key)).setIfInBounds (o + i * 4 + 2) (.int .i64 x.a)).setIfInBounds (o + i * 4 + 3) (.int .i64 x.b), by rw [List.length_set], heap_setCell_same _ b _ _ _ _ (heap_setCell_same _ b _ _ _ _ (heap_setCell_same _ b _ _ _ _ (heap_setCell_same w b _ _ _ _ h2))), by rw [List.length_set]; exact h3, h4, by simpa using h5, ?_⟩⟩
  rw [List.length_set, hcells_set l i x hi, ← h6]
  simp only [Array.toList_setIfInBounds, List.drop_set]
  have t0 : ¬ o + i * 4 < o := by omega
  have t1 : ¬ o + i * 4 + 1 < o := by omega
  have t2 : ¬ o + i * 4 + 2 < o := by omega
  have t3 : ¬ o + i * 4 + 3 < o := by omega
  simp only [t0, t1, t2, t3, if_false, show o + i * 4 - o = i * 4 by omega, show o + i * 4 + 1 - o = i * 4 + 1 by omega, show o + i * 4 + 2 - o = i * 4 + 2 by omega, show o + i * 4 + 3 - o = i * 4 + 3 by omega]
  simp only [List.take_set]
end Go.Proofs.YthadeccnibnioaaGreatDoor

/- Lines in memory. -/
namespace Go.Proofs.YthadeccnibnioaaGreatDoor
open Go.RowKit
set_option linter.unusedVariables false
def NeB (u v : Value) : Prop := ∀ b, u.ownBlock = some b → v.ownBlock ≠ some b
theorem NeB.symm {u v : Value} (h : NeB u v) : NeB v u := fun b h1 h2 => h b h2 h1
theorem neb_nil (v : Value) : NeB v (.slice none 0 0) := fun b _ h => by simp [Value.ownBlock] at h
theorem nil_neb (v : Value) : NeB (.slice none 0 0) v := fun b h => by simp [Value.ownBlock] at h
abbrev NsAt (w : World) (v : Value) (l : List Int) : Prop := RwAt w 3 1 v l.length (iv l)
def lcells : List (ByteArray × Value) → List Value
  | [] => []
  | t :: l => .string t.1 :: t.2 :: lcells l
theorem lcells_len : ∀ l : List (ByteArray × Value), (lcells l).length = l.length * 2
  | [] => rfl
  | r :: l => by rw [lcells, List.length_cons, List.length_cons, lcells_len l, List.length_cons]; omega
theorem lcells_append : ∀ a b : List (ByteArray × Value), lcells (a ++ b) = lcells a ++ lcells b
  | [], b => rfl
  | x :: a, b => by rw [List.cons_append, lcells, lcells, lcells_append a b]; rfl
theorem lcells_at : ∀ (l : List (ByteArray × Value)) (i : Nat) (h : i < l.length), (lcells l)[i * 2]? = some (.string l[i].1) ∧ (lcells l)[i * 2 + 1]? = some l[i].2
  | [], i, h => by simp at h
  | r :: l, 0, _ => by simp [lcells]
  | r :: l, i + 1, h => by
    have := lcells_at l i (by simpa using h)
    rw [show (i + 1) * 2 = i * 2 + 2 from by omega]
    simpa [lcells] using this
theorem lcells_set : ∀ (l : List (ByteArray × Value)) (i : Nat) (v : Value) (h : i < l.length), lcells (l.set i (l[i].1, v)) = (lcells l).set (i * 2 + 1) v
  | [], i, v, h => by simp at h
  | r :: l, 0, v, _ => by simp [lcells]
  | r :: l, i + 1, v, h => by
    simp only [List.set_cons_succ, List.getElem_cons_succ, lcells]
    rw [lcells_set l i v (by simpa using h), show (i + 1) * 2 = (i * 2 + 1) + 1 from by omega]
    simp
structure LnO (w : World) (base : Nat) (v : Value) (tv : List (ByteArray × Value)) (ls : List Ln) : Prop where
  row : RwAt w 168 2 v tv.length (lcells tv)
  tr : Fa2 (fun t l => t.1 = l.1 ∧ NsAt w t.2 l.2) tv ls
  ne : (tv.map Prod.snd).Pairwise NeB
  bs : ∀ x ∈ v :: tv.map Prod.snd, ∀ b, x.ownBlock = some b → base ≤ b
theorem fa_memD {α β : Type} {R : α → β → Prop} {a : List α} {b : List β} (h : Fa2 R a b) : ∀ x ∈ a, ∃ y ∈ b, R x y := by
  induction h with
  | nil => intro x hx; cases hx
  | cons h1 _ ih =>
    intro x hx
    rcases List.mem_cons.1 hx with rfl | hx
    · exact ⟨_, by simp, h1⟩
    · obtain ⟨y, hy, h⟩ := ih x hx
      exact ⟨y, by simp [hy], h⟩
theorem LnO.one {w : World} {base : Nat} {v : Value} {tv : List (ByteArray × Value)} {ls : List Ln} (h : LnO w base v tv ls) : ∀ u ∈ lcells tv, u.oneCell' = true := by
  have H : ∀ l : List (ByteArray × Value), (∀ t ∈ l, ∃ A n c, t.2 = .slice A n c) → ∀ u ∈ lcells l, u.oneCell' = true := by
    intro l
    induction l with
    | nil => intro _ u hu; simp [lcells] at hu
    | cons t l ih =>
      intro ht u hu
      simp only [lcells, List.mem_cons] at hu
      rcases hu with rfl | rfl | hu
      · rfl
      · obtain ⟨A, n, c, e⟩ := ht t (by simp)
        rw [e]; rfl
      · exact ih (fun x hx => ht x (by simp [hx])) u hu
  refine H tv (fun t ht => ?_)
  obtain ⟨l, -, -, h2⟩ := fa_memD h.tr t ht
  obtain ⟨A, c, e, -, -⟩ := h2.slice
  exact ⟨A, _, c, e⟩
theorem ln_nil (w : World) (base : Nat) : LnO w base (.slice none 0 0) [] [] := ⟨RwAt.nil _ _ _, .nil, by simp, fun x hx b hb => by simp at hx; subst hx; simp [Value.ownBlock] at hb⟩
theorem LnO.keep {w w' : World} {base : Nat} {v : Value} {tv : List (ByteArray × Value)} {ls : List Ln} (h : LnO w base v tv ls) (hb : Below w.heap.size w w') : LnO w' base v tv ls :=
  ⟨h.row.keep hb, fa_map h.tr (fun t l _ hp => ⟨hp.1, hp.2.keep hb⟩), h.ne, h.bs⟩
theorem ln_app {u : World} {v x : Value} {tv : List (ByteArray × Value)} {n : Nat} {news : List (ByteArray × Value)} (h : RwAt u 168 2 v tv.length (lcells tv)) (hs : Src Tryz.prog 2 110 x news.length (lcells news) u) (hl : tv.length + news.length ≤ 1000000) :
    ∃ A c w1, (Builtin.append_ #[110, 110] 110 #[v, x]).run Tryz.prog u = .ok (.slice A (tv.length + news.length) c) w1 ∧ RwAt w1 168 2 (.slice A (tv.length + news.length) c) (tv ++ news).length (lcells (tv ++ news)) ∧ u.grownBy w1 v.ownBlock ∧ (∀ b, Value.ownBlock (.slice A (tv.length + news.length) c) = some b → v.ownBlock = some b ∨ u.heap.size ≤ b) := by
  obtain ⟨i0, hi, hz0, hz1, hz2⟩ := info_parts Tryz.infoLn
  obtain ⟨A, c, w1, hrun, hown, hgr, hat⟩ := rw_append h 110 110 110 i0 _ 40 Tryz.underlying110 hi hz0 hz1 hz2 rfl x news.length (lcells news) hs (by unfold maxLen; omega) (by omega)
  refine ⟨A, c, w1, hrun, ?_, hgr, hat⟩
  rw [← lcells_append] at hown
  rw [List.length_append]
  exact hown
/-- The first p lines, and those behind. -/
theorem ln_take {w : World} {A : Option Addr} {n c : Nat} {tv : List (ByteArray × Value)} (h : RwAt w 168 2 (.slice A n c) tv.length (lcells tv)) (h1 : ∀ u ∈ lcells tv, u.oneCell' = true) {p : Nat} (hp : p ≤ tv.length) (c' : Nat) : Src Tryz.prog 2 110 (.slice A p c') (tv.take p).length (lcells (tv.take p)) w := by
  have hl : (tv.take p).length = p := by rw [List.length_take]; omega
  have hsp : lcells tv = lcells (tv.take p) ++ lcells (tv.drop p) := by rw [← lcells_append, List.take_append_drop]
  have ho : ∀ u ∈ lcells (tv.take p), u.oneCell' = true := fun u hu => h1 u (by rw [hsp]; exact List.mem_append_left _ hu)
  obtain ⟨A', c'', e, -, -⟩ := h.slice
  injection e with e1 e2 e3
  subst e1 e2 e3
  rw [hl]
  cases A with
  | none =>
    rcases h.2 with ⟨-, h0⟩ | ⟨g, o, cap, cur, hv, _⟩
    · have : p = 0 := by omega
      subst this
      exact Src.ofNil w Tryz.underlying110 c'
    · cases hv
  | some a =>
    refine Src.ofSlice w Tryz.underlying110 a p c' (lcells (tv.take p)) (by rw [lcells_len, hl]) (fun j x hx => ?_) ho
    rcases h.cells with h0 | ⟨b, o, e, hc⟩
    · rw [h0] at hsp
      have : lcells (tv.take p) = [] := (List.append_eq_nil_iff.1 hsp.symm).1
      rw [this] at hx; cases hx
    · injection e with e
      subst e
      rw [add_off]
      exact hc j x (by rw [hsp, List.getElem?_append_left (List.getElem?_eq_some_iff.1 hx).1]; exact hx)
theorem ln_drop {w : World} {g o n c : Nat} {tv : List (ByteArray × Value)} (h : RwAt w 168 2 (.slice (some ⟨g, o, none⟩) n c) tv.length (lcells tv)) (h1 : ∀ u ∈ lcells tv, u.oneCell' = true) {p : Nat} (hp : p ≤ tv.length) : Src Tryz.prog 2 110 (.slice (some (if c = p then ⟨g, o, none⟩ else ⟨g, o + p * 2, none⟩)) (n - p) (c - p)) (tv.drop p).length (lcells (tv.drop p)) w := by
  have hl : (tv.take p).length = p := by rw [List.length_take]; omega
  have hsp : lcells tv = lcells (tv.take p) ++ lcells (tv.drop p) := by rw [← lcells_append, List.take_append_drop]
  have ho : ∀ u ∈ lcells (tv.drop p), u.oneCell' = true := fun u hu => h1 u (by rw [hsp]; exact List.mem_append_right _ hu)
  obtain ⟨A', c'', e, hle, -⟩ := h.slice
  injection e with e1 e2 e3
  subst e2 e3
  have hd : (tv.drop p).length = tv.length - p := List.length_drop
  rw [hd]
  refine Src.ofSlice w Tryz.underlying110 _ _ _ (lcells (tv.drop p)) (by rw [lcells_len, hd]) (fun j x hx => ?_) ho
  have hj := (List.getElem?_eq_some_iff.1 hx).1
  rw [lcells_len, hd] at hj
  rw [if_neg (by omega), add_off]
  rcases h.cells with h0 | ⟨b, o', e, hc⟩
  · have := lcells_len tv; rw [h0] at this; simp at this; omega
  · injection e with e
    injection e with e1 e2 e3
    subst e1 e2
    have hll : (lcells (tv.take p)).length = p * 2 := by rw [lcells_len, hl]
    have := hc (p * 2 + j) x (by rw [hsp, List.getElem?_append_right (by omega), hll, Nat.add_sub_cancel_left]; exact hx)
    rw [Nat.add_assoc]; exact this
end Go.Proofs.YthadeccnibnioaaGreatDoor

/- Lines in memory: a line more; a number more. -/
namespace Go.Proofs.YthadeccnibnioaaGreatDoor
open Go.RowKit
set_option linter.unusedVariables false
theorem fa_take {α β : Type} {R : α → β → Prop} : ∀ {a : List α} {b : List β}, Fa2 R a b → ∀ p, Fa2 R (a.take p) (b.take p)
  | _, _, .nil, p => by simp; exact .nil
  | _, _, .cons h t, 0 => .nil
  | _, _, .cons h t, p + 1 => .cons h (fa_take t p)
theorem fa_drop {α β : Type} {R : α → β → Prop} : ∀ {a : List α} {b : List β}, Fa2 R a b → ∀ p, Fa2 R (a.drop p) (b.drop p)
  | _, _, .nil, p => by simp; exact .nil
  | _, _, .cons h t, 0 => .cons h t
  | _, _, .cons h t, p + 1 => fa_drop t p
/-- A line more, without numbers. -/
theorem ln_ins {u : World} {base : Nat} {A : Option Addr} {c : Nat} {tv : List (ByteArray × Value)} {ls : List Ln} (h : LnO u base (.slice A tv.length c) tv ls) (hb : base ≤ u.heap.size) (key : ByteArray) {p : Nat} (hp : p ≤ tv.length) (hl : tv.length ≤ 100000) {x3 : Value} (hx3 : ∀ u', Below u.heap.size u u' → Src Tryz.prog 2 110 x3 (tv.drop p).length (lcells (tv.drop p)) u') :
    ∃ A1 c1 w1 A2 c2 w2 A3 c3 w3, (Builtin.append_ #[110, 110] 110 #[.slice none 0 0, .slice A p c]).run Tryz.prog u = .ok (.slice A1 p c1) w1 ∧
      (Builtin.append_ #[110, 110] 110 #[.slice A1 p c1, .slice (some ⟨w1.heap.size, 0, none⟩) 1 1]).run Tryz.prog (w1.alloc (.cells #[.string key, .slice none 0 0] 168)) = .ok (.slice A2 (p + 1) c2) w2 ∧
      (Builtin.append_ #[110, 110] 110 #[.slice A2 (p + 1) c2, x3]).run Tryz.prog w2 = .ok (.slice A3 (tv.length + 1) c3) w3 ∧
      LnO w3 base (.slice A3 (tv.length + 1) c3) (tv.take p ++ (key, .slice none 0 0) :: tv.drop p) (insL p key ls) ∧ Below u.heap.size u w1 ∧ Below u.heap.size u w2 ∧ Below u.heap.size u w3 := by
  have htl : (tv.take p).length = p := by rw [List.length_take]; omega
  have hdl : (tv.drop p).length = tv.length - p := List.length_drop
  obtain ⟨A1, c1, w1, hr1, ho1, hg1, ha1⟩ := ln_app (tv := []) (n := 0) (RwAt.nil u _ _) (ln_take h.row h.one hp c) (by simp only [List.length_nil]; omega)
  simp only [List.length_nil, Nat.zero_add, List.nil_append, htl] at hr1 ho1 ha1
  have hb1 : Below u.heap.size u w1 := ⟨hg1.os, hg1.tape, hg1.output, hg1.size, fun k hk => hg1.block k hk (fun e => by simp [Value.ownBlock] at e)⟩
  have hbA : Below w1.heap.size w1 (w1.alloc (.cells #[.string key, .slice none 0 0] 168)) := (Below.refl _ _).alloc (Nat.le_refl _) _
  have hs2 : Src Tryz.prog 2 110 (.slice (some ⟨w1.heap.size, 0, none⟩) 1 1) [(key, Value.slice none 0 0)].length (lcells [(key, .slice none 0 0)]) (w1.alloc (.cells #[.string key, .slice none 0 0] 168)) :=
    Src.ofSlice _ Tryz.underlying110 _ 1 1 (lcells [(key, .slice none 0 0)]) rfl (World.news_of_block (cs := #[.string key, .slice none 0 0]) (heap_alloc_new w1 _)) (fun x hx => by simp [lcells] at hx; rcases hx with rfl | rfl <;> rfl)
  have ho1' : RwAt w1 168 2 (.slice A1 p c1) (tv.take p).length (lcells (tv.take p)) := by rw [htl]; exact ho1
  obtain ⟨A2, c2, w2, hr2, ho2, hg2, ha2⟩ := ln_app (n := 0) (ho1'.keep hbA) hs2 (by rw [htl]; simp; omega)
  simp only [htl, List.length_singleton] at hr2 ho2 ha2
  have hw1 : u.heap.size ≤ w1.heap.size := hb1.size
  have hb2 : Below u.heap.size u w2 := (hb1.trans (hbA.mono hw1)).trans ⟨hg2.os, hg2.tape, hg2.output, hg2.size, fun k hk => hg2.block k (by simp; omega) (fun e => by
    rcases ha1 k e.symm with h' | h'
    · simp [Value.ownBlock] at h'
    · omega)⟩
  have ha2' : ∀ b, Value.ownBlock (.slice A2 (p + 1) c2) = some b → u.heap.size ≤ b := fun b hb' => by
    rcases ha2 b hb' with e | e
    · rcases ha1 b e with h' | h'
      · simp [Value.ownBlock] at h'
      · exact h'
    · simp at e; omega
  have hl2 : (tv.take p ++ [(key, Value.slice none 0 0)]).length = p + 1 := by rw [List.length_append, htl]; rfl
  have ho2' : RwAt w2 168 2 (.slice A2 (p + 1) c2) (tv.take p ++ [(key, Value.slice none 0 0)]).length (lcells (tv.take p ++ [(key, .slice none 0 0)])) := by rw [hl2] at ho2 ⊢; exact ho2
  obtain ⟨A3, c3, w3, hr3, ho3, hg3, ha3⟩ := ln_app (n := 0) ho2' (hx3 w2 hb2) (by rw [hl2, hdl]; omega)
  have hl3 : p + 1 + (tv.length - p) = tv.length + 1 := by omega
  rw [hl2, hdl, hl3] at hr3 ho3 ha3
  have hb3 : Below u.heap.size u w3 := hb2.trans ⟨hg3.os, hg3.tape, hg3.output, hg3.size, fun k hk => hg3.block k (by have := hb2.size; omega) (fun e => by have := ha2' k e.symm; omega)⟩
  have hls : tv.take p ++ [(key, Value.slice none 0 0)] ++ tv.drop p = tv.take p ++ (key, .slice none 0 0) :: tv.drop p := by simp
  rw [hls] at ho3
  have hl4 : (tv.take p ++ (key, Value.slice none 0 0) :: tv.drop p).length = tv.length + 1 := by rw [List.length_append, htl, List.length_cons, hdl]; omega
  have hnum : ∀ t ∈ tv, ∀ l, NsAt u t.2 l → NsAt w3 t.2 l := fun t ht l hp => hp.keep hb3
  refine ⟨A1, c1, w1, A2, c2, w2, A3, c3, w3, hr1, hr2, hr3, ⟨ho3, ?_, ?_, ?_⟩, hb1, hb2, hb3⟩
  · refine fa_append (fa_take (fa_map h.tr (fun t l ht hp => ⟨hp.1, hnum t ht _ hp.2⟩)) p) (.cons ⟨rfl, RwAt.nil _ _ _⟩ (fa_drop (fa_map h.tr (fun t l ht hp => ⟨hp.1, hnum t ht _ hp.2⟩)) p))
  · have hpw := h.ne
    have hsp : tv.map Prod.snd = (tv.take p).map Prod.snd ++ (tv.drop p).map Prod.snd := by rw [← List.map_append, List.take_append_drop]
    rw [hsp] at hpw
    obtain ⟨p1, p2, p3⟩ := List.pairwise_append.1 hpw
    rw [List.map_append, List.map_cons]
    refine List.pairwise_append.2 ⟨p1, List.pairwise_cons.2 ⟨fun v _ => nil_neb v, p2⟩, fun a ha b hb' => ?_⟩
    rcases List.mem_cons.1 hb' with rfl | hb'
    · exact neb_nil a
    · exact p3 a ha b hb'
  · intro x hx b hb'
    rcases List.mem_cons.1 hx with rfl | hx
    · rcases ha3 b hb' with e | e
      · have := ha2' b e; omega
      · have := hb2.size; omega
    · rw [List.map_append, List.map_cons] at hx
      rcases List.mem_append.1 hx with hx | hx
      · obtain ⟨t, ht, rfl⟩ := List.mem_map.1 hx
        exact h.bs t.2 (List.mem_cons_of_mem _ (List.mem_map_of_mem (List.mem_of_mem_take ht))) b hb'
      · rcases List.mem_cons.1 hx with rfl | hx
        · simp [Value.ownBlock] at hb'
        · obtain ⟨t, ht, rfl⟩ := List.mem_map.1 hx
          exact h.bs t.2 (List.mem_cons_of_mem _ (List.mem_map_of_mem (List.mem_of_mem_drop ht))) b hb'
end Go.Proofs.YthadeccnibnioaaGreatDoor

/- Lines in memory: a number more. -/
namespace Go.Proofs.YthadeccnibnioaaGreatDoor
open Go.RowKit
set_option linter.unusedVariables false
theorem pw_setD {α : Type} {R : α → α → Prop} (hs : ∀ a b, R a b → R b a) : ∀ {l : List α} (p : Nat) (x : α) (h : p < l.length), l.Pairwise R → (∀ (i : Nat) (hi : i < l.length), i ≠ p → R x l[i]) → (l.set p x).Pairwise R := by
  intro l p x h hp hx
  refine List.pairwise_iff_getElem.2 fun i j hi hj hij => ?_
  rw [List.length_set] at hi hj
  rw [List.getElem_set, List.getElem_set]
  by_cases e1 : p = i
  · rw [if_pos e1, if_neg (by omega)]; exact hx j hj (by omega)
  · rw [if_neg e1]
    by_cases e2 : p = j
    · rw [if_pos e2]; exact hs _ _ (hx i hi (by omega))
    · rw [if_neg e2]; exact List.pairwise_iff_getElem.1 hp i j hi hj hij
/-- Where a line lies. -/
theorem LnO.at {w : World} {base n : Nat} {A : Option Addr} {c : Nat} {tv : List (ByteArray × Value)} {ls : List Ln} (h : LnO w base (.slice A n c) tv ls) {p : Nat} (hp : p < ls.length) : ∃ g o An cn cur, A = some ⟨g, o, none⟩ ∧ w.heap[g]? = some (.cells cur 168 (0, 0)) ∧ w.cell? ⟨g, o + p * 2, none⟩ = some (.string ls[p].1) ∧ w.cell? ⟨g, o + p * 2 + 1, none⟩ = some (.slice An ls[p].2.length cn) ∧ ∃ hp' : p < tv.length, tv[p] = (ls[p].1, .slice An ls[p].2.length cn) ∧ NsAt w (.slice An ls[p].2.length cn) ls[p].2 := by
  have htl := fa_len h.tr
  have hp' : p < tv.length := by omega
  obtain ⟨e1, e2⟩ := fa_get h.tr p hp' hp
  obtain ⟨An, cn, e3, -, -⟩ := e2.slice
  obtain ⟨a0, a1⟩ := lcells_at tv p hp'
  have hrow := h.row
  rcases hrow.2 with ⟨-, h0⟩ | ⟨g, o, cap, cur, hv, h2, _⟩
  · omega
  injection hv with f1 f2 f3
  subst f1
  obtain ⟨A', c', e', -, -⟩ := hrow.slice
  injection e' with g1 g2 g3
  subst g2 g3
  rcases hrow.cells with h0 | ⟨b, o', hA, hc⟩
  · have := lcells_len tv; rw [h0] at this; simp at this; omega
  · injection hA with hA
    injection hA with k1 k2 k3
    subst k1 k2
    refine ⟨g, o, An, cn, cur, rfl, h2, by rw [← e1]; exact hc _ _ a0, by rw [← e3, Nat.add_assoc]; exact hc _ _ a1, hp', ?_, by rw [← e3]; exact e2⟩
    rw [← e1, ← e3]
theorem ln_num {u : World} {base : Nat} {g o c : Nat} {tv : List (ByteArray × Value)} {ls : List Ln} (h : LnO u base (.slice (some ⟨g, o, none⟩) tv.length c) tv ls) (hb : base ≤ u.heap.size) {p : Nat} (hp : p < ls.length) (hl : ls[p].2.length ≤ 1000000) (num : Int) {An : Option Addr} {cn : Nat} (he : u.cell? ⟨g, o + p * 2 + 1, none⟩ = some (.slice An ls[p].2.length cn)) :
    ∃ A1 c1 w1, (Builtin.append_ #[41, 41] 41 #[.slice An ls[p].2.length cn, .slice (some ⟨u.heap.size, 0, none⟩) 1 1]).run Tryz.prog ((u.alloc (.cells #[.int .i64 num] 3)).drew) = .ok (.slice A1 (ls[p].2.length + 1) c1) w1 ∧
      w1.heap[g]? = u.heap[g]? ∧ (∃ tv', tv'.length = tv.length ∧ LnO (w1.setCell ⟨g, o + p * 2 + 1, none⟩ (.slice A1 (ls[p].2.length + 1) c1)) base (.slice (some ⟨g, o, none⟩) tv.length c) tv' (ls.set p (ls[p].1, ls[p].2 ++ [num]))) ∧ Below base u (w1.setCell ⟨g, o + p * 2 + 1, none⟩ (.slice A1 (ls[p].2.length + 1) c1)) := by
  obtain ⟨g', o', An', cn', cur, hA, hblk, k0, k1, hp', htp, hns⟩ := h.at hp
  injection hA with hA
  injection hA with e1 e2 e3
  subst e1 e2
  rw [he] at k1
  injection k1 with k1
  injection k1 with f1 f2 f3
  subst f1 f3
  have hbA : Below u.heap.size u ((u.alloc (.cells #[.int .i64 num] 3)).drew) := ((Below.refl _ _).alloc (Nat.le_refl _) _).drew
  obtain ⟨i0, hi, hz0, hz1, hz2⟩ := info_parts Tryz.infoInt
  have hsrc : Src Tryz.prog 1 41 (.slice (some ⟨u.heap.size, 0, none⟩) 1 1) 1 [.int .i64 num] ((u.alloc (.cells #[.int .i64 num] 3)).drew) :=
    Src.ofSlice _ Tryz.underlying41 _ 1 1 [.int .i64 num] rfl (World.news_of_block (B := u.heap.size) (cs := #[.int .i64 num]) (t := 3) (fr := (0, 0)) (heap_alloc_new u _)) (fun x hx => by simp at hx; subst hx; rfl)
  obtain ⟨A1, c1, w1, hrun, hown, hgr, hat⟩ := rw_append (hns.keep hbA) 41 41 41 i0 _ 8 Tryz.underlying41 hi hz0 hz1 hz2 rfl _ 1 _ hsrc (by unfold maxLen; omega) (by omega)
  have hltg : g < u.heap.size := (Array.getElem?_eq_some_iff.1 hblk).1
  have hgne : some g ≠ Value.ownBlock (.slice An ls[p].2.length cn) := fun e => by
    obtain ⟨-, cur', hc'⟩ := hns.lt e.symm
    rw [hblk] at hc'; simp at hc'
  have hg1 : w1.heap[g]? = u.heap[g]? := (hgr.block g (by have := hbA.size; omega) hgne).trans (hbA.block g hltg)
  have hg2 := hg1.trans hblk
  have htl := fa_len h.tr
  have hnw : NsAt w1 (.slice A1 (ls[p].2.length + 1) c1) (ls[p].2 ++ [num]) := by
    have e4 : (ls[p].2 ++ [num]).length = ls[p].2.length + 1 := by simp
    show RwAt w1 3 1 (.slice A1 (ls[p].2.length + 1) c1) (ls[p].2 ++ [num]).length (iv (ls[p].2 ++ [num]))
    rw [e4, iv_snoc']; exact hown
  have hkeep : ∀ b, b ≠ g → b < u.heap.size → Value.ownBlock (.slice An ls[p].2.length cn) ≠ some b → (w1.setCell ⟨g, o + p * 2 + 1, none⟩ (.slice A1 (ls[p].2.length + 1) c1)).heap[b]? = u.heap[b]? := fun b h1 h2 h3 => by
    rw [Below.heap_setCell _ _ _ _ h1]
    exact (hgr.block b (by have := hbA.size; omega) (fun e => h3 e.symm)).trans (hbA.block b h2)
  have hnumne : ∀ (i : Nat) (hi : i < tv.length), i ≠ p → NeB (.slice An ls[p].2.length cn) tv[i].2 := fun i hi hne => by
    have hpw := List.pairwise_iff_getElem.1 h.ne
    rcases Nat.lt_or_gt_of_ne hne with hlt | hlt
    · have := hpw i p (by simpa using hi) (by simpa using hp') hlt
      simp only [List.getElem_map, htp] at this
      exact this.symm
    · have := hpw p i (by simpa using hp') (by simpa using hi) hlt
      simp only [List.getElem_map, htp] at this
      exact this
  have hbs := h.bs
  have hob : ∀ b, Value.ownBlock (.slice An ls[p].2.length cn) = some b → base ≤ b := fun b hb' => hbs (tv[p].2) (List.mem_cons_of_mem _ (List.mem_map_of_mem (List.getElem_mem hp'))) b (by rw [htp]; exact hb')
  have hBg : base ≤ g := hbs _ List.mem_cons_self g rfl
  refine ⟨A1, c1, w1, hrun, hg1, ⟨tv.set p (tv[p].1, .slice A1 (ls[p].2.length + 1) c1), List.length_set, ?_, ?_, ?_, ?_⟩, ?_⟩
  · have hrow := h.row
    rcases hrow.2 with ⟨hv, _⟩ | ⟨g', o', cap, cur2, hv, h2, h3, h4, h5, h6⟩
    · cases hv
    injection hv with f1 f2 f3
    injection f1 with f1
    injection f1 with f1 f4 f5
    subst f1 f3 f4
    rw [hblk] at h2
    injection h2 with h2
    injection h2 with h2
    subst h2
    refine ⟨by rw [lcells_len], .inr ⟨g, o, c, cur.setIfInBounds (o + p * 2 + 1) (.slice A1 (ls[p].2.length + 1) c1), by rw [List.length_set], heap_setCell_same w1 g _ _ _ _ hg2, by rw [List.length_set]; exact h3, h4, by simpa using h5, ?_⟩⟩
    rw [List.length_set, lcells_set tv p _ hp', ← h6]
    simp only [Array.toList_setIfInBounds, List.drop_set]
    rw [if_neg (by omega), show o + p * 2 + 1 - o = p * 2 + 1 by omega, List.take_set]
  · have hfar : ∀ (i : Nat) (hi : i < tv.length) (hi2 : i < ls.length), i ≠ p → NsAt (w1.setCell ⟨g, o + p * 2 + 1, none⟩ (.slice A1 (ls[p].2.length + 1) c1)) tv[i].2 ls[i].2 := fun i hi hi2 hne => by
      have hn := (fa_get h.tr i hi hi2).2
      refine hn.block (fun b hb' => hkeep b (fun e => ?_) (hn.lt hb').1 (fun e => hnumne i hi hne b e hb'))
      obtain ⟨-, cur', hc'⟩ := hn.lt hb'
      rw [e, hblk] at hc'; simp at hc'
    have hnew : NsAt (w1.setCell ⟨g, o + p * 2 + 1, none⟩ (.slice A1 (ls[p].2.length + 1) c1)) (.slice A1 (ls[p].2.length + 1) c1) (ls[p].2 ++ [num]) := hnw.block (fun b hb' => Below.heap_setCell _ _ _ _ (fun e => by
      obtain ⟨-, cur', hc'⟩ := hnw.lt hb'
      rw [e, hg2] at hc'; simp at hc'))
    have hmk : ∀ {a : List (ByteArray × Value)} {b : List Ln}, a.length = b.length → (∀ (i : Nat) (h1 : i < a.length) (h2 : i < b.length), a[i].1 = b[i].1 ∧ NsAt (w1.setCell ⟨g, o + p * 2 + 1, none⟩ (.slice A1 (ls[p].2.length + 1) c1)) a[i].2 b[i].2) → Fa2 (fun t l => t.1 = l.1 ∧ NsAt (w1.setCell ⟨g, o + p * 2 + 1, none⟩ (.slice A1 (ls[p].2.length + 1) c1)) t.2 l.2) a b := by
      intro a
      induction a with
      | nil => intro b hl _; cases b with
        | nil => exact .nil
        | cons _ _ => simp at hl
      | cons x a ih => intro b hl hx; cases b with
        | nil => simp at hl
        | cons y b => exact .cons (hx 0 (by simp) (by simp)) (ih (by simpa using hl) (fun i h1 h2 => hx (i + 1) (by simpa using h1) (by simpa using h2)))
    refine hmk (by rw [List.length_set, List.length_set]; exact htl) (fun i h1 h2 => ?_)
    rw [List.length_set] at h1 h2
    rw [List.getElem_set, List.getElem_set]
    by_cases e : p = i
    · subst e
      rw [if_pos rfl, if_pos rfl]
      exact ⟨by rw [htp], hnew⟩
    · rw [if_neg e, if_neg e]
      exact ⟨(fa_get h.tr i h1 h2).1, hfar i h1 h2 (fun e' => e e'.symm)⟩
  · rw [List.map_set]
    refine pw_setD (fun a b h => h.symm) p _ (by simpa using hp') h.ne (fun i hi hne => ?_)
    rw [List.length_map] at hi
    rw [List.getElem_map]
    intro b hb' hb2
    rcases hat b hb' with e | e
    · exact hnumne i hi hne b e hb2
    · have hn := (fa_get h.tr i hi (by omega)).2
      have := (hn.lt hb2).1
      have := hbA.size
      omega
  · intro x hx b hb'
    rcases List.mem_cons.1 hx with rfl | hx
    · exact hbs _ List.mem_cons_self b hb'
    · rw [List.map_set] at hx
      rcases List.mem_or_eq_of_mem_set hx with hx | rfl
      · exact hbs x (List.mem_cons_of_mem _ hx) b hb'
      · rcases hat b hb' with e | e
        · exact hob b e
        · have := hbA.size; omega
  · have hb1 : Below base u w1 := ⟨hgr.os.trans hbA.os, hgr.tape.trans hbA.tape, hgr.output.trans hbA.output, Nat.le_trans hbA.size hgr.size, fun k hk => (hgr.block k (by have := hbA.size; omega) (fun e => by have := hob k e.symm; omega)).trans (hbA.block k (by omega))⟩
    exact hb1.setCell (p := ⟨g, o + p * 2 + 1, none⟩) hBg _
end Go.Proofs.YthadeccnibnioaaGreatDoor
