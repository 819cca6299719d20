/- SinkPlays: the law's own lists beside the sink. -/
import Derived.Test.YtaicaeokljdjdaaDoorXd
import Derived.Test.YtaicaeokljdjdaaDoorErr
namespace Go.Proofs.YtaicaeokljdjdaaDoor
open Go.ChangeShapes Go.WideShapes Go.RowKit
set_option linter.unusedVariables false
structure LwB (w : World) (G : Nat → Prop) (vw vo vl vi : Value) (tv : List Value) (wr op : List Rg) (sl : List (List Rg)) (ids : List Int) : Prop where
  aw : RcAt w vw wr
  ao : RcAt w vo op
  al : RwAt w 25 1 vl tv.length tv
  ai : NsAt w vi ids
  tr : Fa2 (fun t p => RcAt w t p) tv sl
  ne : (vw :: vo :: tv).Pairwise NeB
  fv : ∀ v ∈ vl :: vi :: vw :: vo :: tv, ∀ b, v.ownBlock = some b → G b
  flt : ∀ k, G k → k < w.heap.size
def LwEnd (G : Nat → Prop) (w : World) (vw vo vl vi : Value) (tv : List Value) (wr op : List Rg) (sl : List (List Rg)) (ids : List Int) (w' : World) : Prop := ∃ G', LwB w' G' vw vo vl vi tv wr op sl ids ∧ Frm G w w' ∧ ∀ k, G' k → G k ∨ w.heap.size ≤ k
section
variable {w w' : World} {G : Nat → Prop} {vw vo vl vi : Value} {tv : List Value} {wr op : List Rg} {sl : List (List Rg)} {ids : List Int}
theorem LwB.row (h : LwB w G vw vo vl vi tv wr op sl ids) {v : Value} (hv : v ∈ vw :: vo :: tv) : ∃ l, RcAt w v l := by
  simp only [List.mem_cons] at hv
  rcases hv with rfl | rfl | hv
  · exact ⟨_, h.aw⟩
  · exact ⟨_, h.ao⟩
  · obtain ⟨p, -, h2⟩ := fa_mem h.tr v hv; exact ⟨_, h2⟩
theorem LwB.far (h : LwB w G vw vo vl vi tv wr op sl ids) {v : Value} (hv : v ∈ vw :: vo :: tv) {b : Nat} (hb : v.ownBlock = some b) : vl.ownBlock ≠ some b ∧ vi.ownBlock ≠ some b := by
  obtain ⟨l, hl⟩ := h.row hv
  obtain ⟨-, cur, hc⟩ := hl.lt hb
  constructor
  · intro e
    obtain ⟨-, cur', hc'⟩ := h.al.lt e
    rw [hc] at hc'; simp at hc'
  · intro e
    obtain ⟨-, cur', hc'⟩ := h.ai.lt e
    rw [hc] at hc'; simp at hc'
theorem LwB.far2 (h : LwB w G vw vo vl vi tv wr op sl ids) {b : Nat} (hb : vl.ownBlock = some b) : vi.ownBlock ≠ some b := by
  obtain ⟨-, cur, hc⟩ := h.al.lt hb
  intro e
  obtain ⟨-, cur', hc'⟩ := h.ai.lt e
  rw [hc] at hc'; simp at hc'
theorem LwB.stays (h : LwB w G vw vo vl vi tv wr op sl ids) (hk : ∀ k, G k → w'.heap[k]? = w.heap[k]?) (hs : w.heap.size ≤ w'.heap.size) : LwB w' G vw vo vl vi tv wr op sl ids := by
  have hr : ∀ v ∈ vl :: vi :: vw :: vo :: tv, ∀ b, v.ownBlock = some b → w'.heap[b]? = w.heap[b]? := fun v hv b hb => hk b (h.fv v hv b hb)
  exact ⟨h.aw.block (hr vw (by simp)), h.ao.block (hr vo (by simp)), h.al.block (hr vl (by simp)), h.ai.block (hr vi (by simp)), fa_map h.tr (fun t p ht hp => hp.block (hr t (by simp [ht]))), h.ne, h.fv, fun k hk' => Nat.lt_of_lt_of_le (h.flt k hk') hs⟩
theorem LwB.keep (h : LwB w G vw vo vl vi tv wr op sl ids) (hb : Below w.heap.size w w') : LwB w' G vw vo vl vi tv wr op sl ids := h.stays (fun k hk => hb.block k (h.flt k hk)) hb.size
/-- Of all rows one is anew: what it asks. -/
theorem LwB.setOp (h : LwB w G vw vo vl vi tv wr op sl ids) {w1 : World} {vo' : Value} {l' : List Rg} (hg : w.grownBy w1 vo.ownBlock) (hv : RcAt w1 vo' l') (hat : ∀ b, vo'.ownBlock = some b → vo.ownBlock = some b ∨ w.heap.size ≤ b) : LwEnd G w vw vo' vl vi tv wr l' sl ids w1 := by
  obtain ⟨n1, n2⟩ := List.pairwise_cons.1 h.ne
  obtain ⟨n3, n4⟩ := List.pairwise_cons.1 n2
  have hoth : ∀ v, v ∈ vl :: vi :: vw :: tv → ∀ b, v.ownBlock = some b → w1.heap[b]? = w.heap[b]? := fun v hv b hb => by
    simp only [List.mem_cons] at hv
    refine hg.block b (h.flt b (h.fv v (by simp only [List.mem_cons]; rcases hv with h | h | h | h; exact .inl h; exact .inr (.inl h); exact .inr (.inr (.inl h)); exact .inr (.inr (.inr (.inr h)))) b hb)) (fun e => ?_)
    rcases hv with rfl | rfl | rfl | hv
    · exact (h.far (v := vo) (by simp) e.symm).1 hb
    · exact (h.far (v := vo) (by simp) e.symm).2 hb
    · exact n1 vo (by simp) b hb e.symm
    · exact n3 v hv b e.symm hb
  have hnew : ∀ v, v ∈ vw :: tv → NeB vo' v := fun v hv b hb hvb => by
    rcases hat b hb with e | e
    · rcases List.mem_cons.1 hv with rfl | hv
      · exact n1 vo (by simp) b hvb e
      · exact n3 v hv b e hvb
    · have := h.flt b (h.fv v (by simp only [List.mem_cons] at hv ⊢; rcases hv with h | h; exact .inr (.inr (.inl h)); exact .inr (.inr (.inr (.inr h)))) b hvb)
      omega
  refine ⟨Fn G w w1, ⟨h.aw.block (hoth vw (by simp)), hv, h.al.block (hoth vl (by simp)), h.ai.block (hoth vi (by simp)), fa_map h.tr (fun t p ht hp => hp.block (hoth t (by simp [ht]))), ?_, ?_, ?_⟩, Frm.grown hg (fun k hk => h.fv vo (by simp) k hk), fun k hk => hk.imp id (fun e => e.1)⟩
  · refine List.pairwise_cons.2 ⟨fun v hv => ?_, List.pairwise_cons.2 ⟨fun v hv => hnew v (by simp [hv]), n4⟩⟩
    rcases List.mem_cons.1 hv with rfl | hv
    · exact (hnew vw (by simp)).symm
    · exact n1 v (by simp [hv])
  · intro v hv' b hb
    simp only [List.mem_cons] at hv'
    rcases hv' with rfl | rfl | rfl | rfl | hv'
    · exact .inl (h.fv _ (by simp) b hb)
    · exact .inl (h.fv _ (by simp) b hb)
    · exact .inl (h.fv _ (by simp) b hb)
    · rcases hat b hb with e | e
      · exact .inl (h.fv vo (by simp) b e)
      · exact .inr ⟨e, (hv.lt hb).1⟩
    · exact .inl (h.fv v (by simp [hv']) b hb)
  · rintro k (hk | hk)
    · have := h.flt k hk; have := hg.size; omega
    · exact hk.2
theorem LwB.setWr (h : LwB w G vw vo vl vi tv wr op sl ids) {w1 : World} {vw' : Value} {l' : List Rg} (hg : w.grownBy w1 vw.ownBlock) (hv : RcAt w1 vw' l') (hat : ∀ b, vw'.ownBlock = some b → vw.ownBlock = some b ∨ w.heap.size ≤ b) : LwEnd G w vw' vo vl vi tv l' op sl ids w1 := by
  obtain ⟨n1, n2⟩ := List.pairwise_cons.1 h.ne
  have hoth : ∀ v, v ∈ vl :: vi :: vo :: tv → ∀ b, v.ownBlock = some b → w1.heap[b]? = w.heap[b]? := fun v hv b hb => by
    simp only [List.mem_cons] at hv
    refine hg.block b (h.flt b (h.fv v (by simp only [List.mem_cons]; rcases hv with h | h | h | h; exact .inl h; exact .inr (.inl h); exact .inr (.inr (.inr (.inl h))); exact .inr (.inr (.inr (.inr h)))) b hb)) (fun e => ?_)
    rcases hv with rfl | rfl | rfl | hv
    · exact (h.far (v := vw) (by simp) e.symm).1 hb
    · exact (h.far (v := vw) (by simp) e.symm).2 hb
    · exact n1 v (by simp) b e.symm hb
    · exact n1 v (by simp [hv]) b e.symm hb
  refine ⟨Fn G w w1, ⟨hv, h.ao.block (hoth vo (by simp)), h.al.block (hoth vl (by simp)), h.ai.block (hoth vi (by simp)), fa_map h.tr (fun t p ht hp => hp.block (hoth t (by simp [ht]))), ?_, ?_, ?_⟩, Frm.grown hg (fun k hk => h.fv vw (by simp) k hk), fun k hk => hk.imp id (fun e => e.1)⟩
  · refine List.pairwise_cons.2 ⟨fun v hv b hb hvb => ?_, n2⟩
    rcases hat b hb with e | e
    · exact n1 v hv b e hvb
    · have := h.flt b (h.fv v (by simp only [List.mem_cons] at hv ⊢; exact .inr (.inr (.inr hv))) b hvb)
      omega
  · intro v hv' b hb
    simp only [List.mem_cons] at hv'
    rcases hv' with rfl | rfl | rfl | rfl | hv'
    · exact .inl (h.fv _ (by simp) b hb)
    · exact .inl (h.fv _ (by simp) b hb)
    · rcases hat b hb with e | e
      · exact .inl (h.fv vw (by simp) b e)
      · exact .inr ⟨e, (hv.lt hb).1⟩
    · exact .inl (h.fv _ (by simp) b hb)
    · exact .inl (h.fv v (by simp [hv']) b hb)
  · rintro k (hk | hk)
    · have := h.flt k hk; have := hg.size; omega
    · exact hk.2
theorem LwB.setId (h : LwB w G vw vo vl vi tv wr op sl ids) {w1 : World} {vi' : Value} {l' : List Int} (hg : w.grownBy w1 vi.ownBlock) (hv : NsAt w1 vi' l') (hat : ∀ b, vi'.ownBlock = some b → vi.ownBlock = some b ∨ w.heap.size ≤ b) : LwEnd G w vw vo vl vi' tv wr op sl l' w1 := by
  have hoth : ∀ v, v ∈ vl :: vw :: vo :: tv → ∀ b, v.ownBlock = some b → w1.heap[b]? = w.heap[b]? := fun v hv b hb => by
    simp only [List.mem_cons] at hv
    refine hg.block b (h.flt b (h.fv v (by simp only [List.mem_cons]; rcases hv with h | h; exact .inl h; exact .inr (.inr h)) b hb)) (fun e => ?_)
    rcases hv with rfl | hv
    · exact h.far2 hb e.symm
    · exact (h.far (v := v) (by simpa using hv) hb).2 e.symm
  refine ⟨Fn G w w1, ⟨h.aw.block (hoth vw (by simp)), h.ao.block (hoth vo (by simp)), h.al.block (hoth vl (by simp)), hv, fa_map h.tr (fun t p ht hp => hp.block (hoth t (by simp [ht]))), h.ne, ?_, ?_⟩, Frm.grown hg (fun k hk => h.fv vi (by simp) k hk), fun k hk => hk.imp id (fun e => e.1)⟩
  · intro v hv' b hb
    simp only [List.mem_cons] at hv'
    rcases hv' with rfl | rfl | hv'
    · exact .inl (h.fv _ (by simp) b hb)
    · rcases hat b hb with e | e
      · exact .inl (h.fv vi (by simp) b e)
      · exact .inr ⟨e, (hv.lt hb).1⟩
    · exact .inl (h.fv v (by simp only [List.mem_cons]; exact .inr (.inr hv')) b hb)
  · rintro k (hk | hk)
    · have := h.flt k hk; have := hg.size; omega
    · exact hk.2
/-- The open one is put behind the sealed ones. -/
theorem LwB.setSl (h : LwB w G vw vo vl vi tv wr op sl ids) {w1 : World} {vl' : Value} (hg : w.grownBy w1 vl.ownBlock) (hv : RwAt w1 25 1 vl' (tv ++ [vo]).length (tv ++ [vo])) (hat : ∀ b, vl'.ownBlock = some b → vl.ownBlock = some b ∨ w.heap.size ≤ b) : LwEnd G w vw (.slice none 0 0) vl' vi (tv ++ [vo]) wr [] (sl ++ [op]) ids w1 := by
  obtain ⟨n1, n2⟩ := List.pairwise_cons.1 h.ne
  obtain ⟨n3, n4⟩ := List.pairwise_cons.1 n2
  have hoth : ∀ v, v ∈ vi :: vw :: vo :: tv → ∀ b, v.ownBlock = some b → w1.heap[b]? = w.heap[b]? := fun v hv b hb => by
    simp only [List.mem_cons] at hv
    refine hg.block b (h.flt b (h.fv v (by simp only [List.mem_cons]; exact .inr hv) b hb)) (fun e => ?_)
    rcases hv with rfl | hv
    · exact h.far2 e.symm hb
    · exact (h.far (v := v) (by simpa using hv) hb).1 e.symm
  refine ⟨Fn G w w1, ⟨h.aw.block (hoth vw (by simp)), RwAt.nil _ _ _, hv, h.ai.block (hoth vi (by simp)), fa_append (fa_map h.tr (fun t p ht hp => hp.block (hoth t (by simp [ht])))) (.cons (h.ao.block (hoth vo (by simp))) .nil), ?_, ?_, ?_⟩, Frm.grown hg (fun k hk => h.fv vl (by simp) k hk), fun k hk => hk.imp id (fun e => e.1)⟩
  · refine List.pairwise_cons.2 ⟨fun v hv => ?_, List.pairwise_cons.2 ⟨fun v _ => nil_neb v, List.pairwise_append.2 ⟨n4, by simp, fun a ha b hb => ?_⟩⟩⟩
    · rcases List.mem_cons.1 hv with rfl | hv
      · exact neb_nil vw
      · rcases List.mem_append.1 hv with hv | hv
        · exact n1 v (by simp [hv])
        · simp at hv; subst hv; exact n1 _ (by simp)
    · simp at hb; subst hb; exact (n3 a ha).symm
  · intro v hv' b hb
    simp only [List.mem_cons, List.mem_append, List.not_mem_nil, or_false] at hv'
    rcases hv' with rfl | rfl | rfl | rfl | hv' | rfl
    · rcases hat b hb with e | e
      · exact .inl (h.fv vl (by simp) b e)
      · exact .inr ⟨e, (hv.lt hb).1⟩
    · exact .inl (h.fv _ (by simp) b hb)
    · exact .inl (h.fv _ (by simp) b hb)
    · simp [Value.ownBlock] at hb
    · exact .inl (h.fv v (by simp [hv']) b hb)
    · exact .inl (h.fv v (by simp) b hb)
  · rintro k (hk | hk)
    · have := h.flt k hk; have := hg.size; omega
    · exact hk.2
/-- All but what is written, given up. -/
theorem LwB.aborted (h : LwB w G vw vo vl vi tv wr op sl ids) : LwB w G vw (.slice none 0 0) (.slice none 0 0) (.slice none 0 0) [] wr [] [] [] := by
  refine ⟨h.aw, RwAt.nil _ _ _, RwAt.nil _ _ _, RwAt.nil _ _ _, .nil, ?_, ?_, h.flt⟩
  · refine List.pairwise_cons.2 ⟨fun v hv => ?_, by simp⟩
    simp at hv; subst hv; exact neb_nil vw
  · intro v hv b hb
    simp only [List.mem_cons, List.not_mem_nil, or_false] at hv
    rcases hv with rfl | rfl | rfl | rfl
    · simp [Value.ownBlock] at hb
    · simp [Value.ownBlock] at hb
    · exact h.fv _ (by simp) b hb
    · simp [Value.ownBlock] at hb
end
theorem tailV {w : World} {e : TypeId} {v : Value} {n : Nat} {x : Value} {xs : List Value} (h : RwAt w e 1 v (n + 1) (x :: xs)) :
    ∃ g o c, v = .slice (some ⟨g, o, none⟩) (n + 1) c ∧ n + 1 ≤ c ∧ w.cell? ⟨g, o, none⟩ = some x ∧ RwAt w e 1 (.slice (some (if c = 1 then ⟨g, o, none⟩ else ⟨g, o + 1, none⟩)) n (c - 1)) n xs := by
  rcases h.2 with ⟨-, h0⟩ | ⟨g, o, cap, cur, rfl, h2, h3, h4, h5⟩
  · omega
  · refine ⟨g, o, cap, rfl, h3, ?_, RwAt.tail (hd := [x]) (tl := xs) h rfl⟩
    rcases h.cells with h0 | ⟨b, o', hA, hc⟩
    · cases h0
    · injection hA with hA
      injection hA with e1 e2 e3
      subst e1 e2
      exact hc 0 x rfl
/-- Both, side by side; K: what both leave. -/
def Bo (W w : World) (B : Nat) (K : Nat → Prop) (s : Sk Rg) (vw vo vl vi : Value) (wr op : List Rg) (sl : List (List Rg)) (ids : List Int) : Prop :=
  Below W.heap.size W w ∧ ∃ F G tv, SkAt w B F s ∧ LwB w G vw vo vl vi tv wr op sl ids ∧ (∀ k, F k → ¬ G k) ∧ (∀ k, F k → W.heap.size ≤ k ∧ ¬ K k) ∧ ∀ k, G k → W.heap.size ≤ k ∧ ¬ K k
def KpK (K : Nat → Prop) (w w' : World) : Prop := ∀ k, K k → k < w.heap.size → w'.heap[k]? = w.heap[k]?
section
variable {W w w' : World} {B : Nat} {K : Nat → Prop} {s : Sk Rg} {vw vo vl vi : Value} {wr op : List Rg} {sl : List (List Rg)} {ids : List Int}
theorem SkAt.flt {F : Nat → Prop} (h : SkAt w B F s) : ∀ k, F k → k < w.heap.size := by obtain ⟨_, _, _, _, h⟩ := h; exact h.flt
theorem SkAt.stays {F : Nat → Prop} (h : SkAt w B F s) (hk : ∀ k, F k → w'.heap[k]? = w.heap[k]?) (hs : w.heap.size ≤ w'.heap.size) : SkAt w' B F s := by
  obtain ⟨a, b, c, d, h⟩ := h; exact ⟨a, b, c, d, h.stays hk hs⟩
theorem Bo.keep (h : Bo W w B K s vw vo vl vi wr op sl ids) (hb : Below w.heap.size w w') : Bo W w' B K s vw vo vl vi wr op sl ids := by
  obtain ⟨h1, F, G, tv, a, b, c, d, e⟩ := h
  exact ⟨h1.trans (hb.mono h1.size), F, G, tv, a.stays (fun k hk => hb.block k (a.flt k hk)) hb.size, b.keep hb, c, d, e⟩
/-- New blocks may be among what both leave. -/
theorem Bo.more (h : Bo W w B K s vw vo vl vi wr op sl ids) (hb : Below w.heap.size w w') (K' : Nat → Prop) (hK : ∀ k, K' k → K k ∨ w.heap.size ≤ k) : Bo W w' B K' s vw vo vl vi wr op sl ids := by
  obtain ⟨h1, F, G, tv, a, b, c, d, e⟩ := h.keep hb
  obtain ⟨g1, F', G', tv', a', b', c', d', e'⟩ := h
  refine ⟨h1.trans (Below.refl _ _), F', G', tv', a'.stays (fun k hk => hb.block k (a'.flt k hk)) hb.size, b'.keep hb, c', fun k hk => ⟨(d' k hk).1, fun hk' => ?_⟩, fun k hk => ⟨(e' k hk).1, fun hk' => ?_⟩⟩
  · rcases hK k hk' with h | h
    · exact (d' k hk).2 h
    · have := a'.flt k hk; omega
  · rcases hK k hk' with h | h
    · exact (e' k hk).2 h
    · have := b'.flt k hk; omega
theorem Bo.prog {F G : Nat → Prop} {tv : List Value} {s' : Sk Rg} (h1 : Below W.heap.size W w) (b : LwB w G vw vo vl vi tv wr op sl ids) (c : ∀ k, F k → ¬ G k) (d : ∀ k, F k → W.heap.size ≤ k ∧ ¬ K k) (e : ∀ k, G k → W.heap.size ≤ k ∧ ¬ K k) (hK : ∀ k, K k → k < w.heap.size) (hE : SkEnd F w B s' w') : Bo W w' B K s' vw vo vl vi wr op sl ids ∧ KpK K w w' := by
  obtain ⟨F', x, y, z⟩ := hE
  refine ⟨⟨h1.trans (y.toBelow (fun k hk => (d k hk).1) h1.size), F', G, tv, x, b.stays (fun k hk => y.block k (b.flt k hk) (fun e => c k e hk)) y.size, fun k hk hg => ?_, fun k hk => ?_, e⟩, fun k hk hl => y.block k hl (fun e => (d k e).2 hk)⟩
  · rcases z k hk with h | h
    · exact c k h hg
    · have := b.flt k hg; omega
  · rcases z k hk with h | h
    · exact d k h
    · exact ⟨by have := h1.size; omega, fun hk' => by have := hK k hk'; omega⟩
theorem Bo.law {F G : Nat → Prop} {vw' vo' vl' vi' : Value} {tv' : List Value} {wr' op' : List Rg} {sl' : List (List Rg)} {ids' : List Int} (h1 : Below W.heap.size W w) (a : SkAt w B F s) (c : ∀ k, F k → ¬ G k) (d : ∀ k, F k → W.heap.size ≤ k ∧ ¬ K k) (e : ∀ k, G k → W.heap.size ≤ k ∧ ¬ K k) (hK : ∀ k, K k → k < w.heap.size) (hE : LwEnd G w vw' vo' vl' vi' tv' wr' op' sl' ids' w') : Bo W w' B K s vw' vo' vl' vi' wr' op' sl' ids' ∧ KpK K w w' := by
  obtain ⟨G', x, y, z⟩ := hE
  refine ⟨⟨h1.trans (y.toBelow (fun k hk => (e k hk).1) h1.size), F, G', tv', a.stays (fun k hk => y.block k (a.flt k hk) (fun e => c k hk e)) y.size, x, fun k hk hg => ?_, d, fun k hk => ?_⟩, fun k hk hl => y.block k hl (fun h => (e k h).2 hk)⟩
  · rcases z k hg with h | h
    · exact c k hk h
    · have := a.flt k hk; omega
  · rcases z k hk with h | h
    · exact e k h
    · exact ⟨by have := h1.size; omega, fun hk' => by have := hK k hk'; omega⟩
theorem bo_add (h : Bo W w B K s vw vo vl vi wr op sl ids) (hK : ∀ k, K k → k < w.heap.size) (hl : s.op.length < 400) (r : Rg) (hr : r.key.size ≤ 281474976710656) : Calls Tryd.prog 5 #[.pointer (some ⟨B, 0, none⟩), rV r] w fun e w' => e = .returned .nilIface ∧ Bo W w' B K (addS s r) vw vo vl vi wr op sl ids ∧ KpK K w w' := by
  obtain ⟨h1, F, G, tv, a, b, c, d, f⟩ := h
  refine (add_any a hl r hr).mono ?_
  rintro e w' ⟨rfl, hE⟩
  exact ⟨rfl, Bo.prog h1 b c d f hK hE⟩
theorem bo_ord (h : Bo W w B K s vw vo vl vi wr op sl ids) (id : Int) (i1 : 1 ≤ id) (i2 : id ≤ s.la) : Calls Tryd.prog 7 #[.pointer (some ⟨B, 0, none⟩), .int .i64 id] w fun e w' => e = .returned (erV 5) ∧ w = w' := by
  obtain ⟨h1, F, G, tv, a, b, c, d, f⟩ := h
  exact seal_ord a id i1 i2
theorem bo_seal (h : Bo W w B K s vw vo vl vi wr op sl ids) (hK : ∀ k, K k → k < w.heap.size) (hl : s.sl.length ≤ 1000000) (id : Int) (i1 : 1 ≤ id) (i2 : s.la < id) : Calls Tryd.prog 7 #[.pointer (some ⟨B, 0, none⟩), .int .i64 id] w fun e w' => e = .returned .nilIface ∧ Bo W w' B K (sealS s id) vw vo vl vi wr op sl ids ∧ KpK K w w' := by
  obtain ⟨h1, F, G, tv, a, b, c, d, f⟩ := h
  refine (seal_ok a hl id i1 i2).mono ?_
  rintro e w' ⟨rfl, hE⟩
  exact ⟨rfl, Bo.prog h1 b c d f hK hE⟩
theorem bo_commit (h : Bo W w B K s vw vo vl vi wr op sl ids) (hK : ∀ k, K k → k < w.heap.size) (hl : totS s ≤ 1000000) (id : Int) (i1 : 1 ≤ id) : Calls Tryd.prog 8 #[.pointer (some ⟨B, 0, none⟩), .int .i64 id] w fun e w' => e = .returned (.tuple #[.int .i64 ((comm id s.sl).1.length : Nat), .nilIface]) ∧ Bo W w' B K (commS s id) vw vo vl vi wr op sl ids ∧ KpK K w w' := by
  obtain ⟨h1, F, G, tv, a, b, c, d, f⟩ := h
  refine (commit_ok a hl id i1).mono ?_
  rintro e w' ⟨rfl, hE⟩
  exact ⟨rfl, Bo.prog h1 b c d f hK hE⟩
theorem bo_abort (h : Bo W w B K s vw vo vl vi wr op sl ids) (hK : ∀ k, K k → k < w.heap.size) (hl : totS s ≤ 1000000) : Calls Tryd.prog 9 #[.pointer (some ⟨B, 0, none⟩)] w fun e w' => e = .returned (.int .i64 ((s.op.length + many s.sl : Nat) : Nat)) ∧ Bo W w' B K (abortS s) vw (.slice none 0 0) (.slice none 0 0) (.slice none 0 0) wr [] [] [] ∧ KpK K w w' := by
  obtain ⟨h1, F, G, tv, a, b, c, d, f⟩ := h
  refine (abort_any a hl).mono ?_
  rintro e w' ⟨rfl, hE⟩
  exact ⟨rfl, Bo.prog h1 b.aborted c d f hK hE⟩
theorem bo_written (h : Bo W w B K s vw vo vl vi s.wr op sl ids) (hl : totS s ≤ 1000000) : Calls Tryd.prog 11 #[.pointer (some ⟨B, 0, none⟩)] w fun e w' => ∃ A c, e = .returned (.slice A s.wr.length c) ∧ CsAt w' A (rcells s.wr) ∧ Below w.heap.size w w' := by
  obtain ⟨h1, F, G, tv, a, b, c, d, f⟩ := h
  refine (written_any a hl).mono ?_
  rintro e w' ⟨A, c, rfl, a1, a2, a3⟩
  exact ⟨A, c, rfl, a1.cells, a3⟩
theorem bo_sealed (h : Bo W w B K s vw vo vl vi wr op sl ids) (hl : s.sl.length ≤ 1000000) : Calls Tryd.prog 13 #[.pointer (some ⟨B, 0, none⟩)] w fun e w' => ∃ A c, e = .returned (.slice A s.sl.length c) ∧ CsAt w' A (icells (s.sl.map Prod.fst)) ∧ Below w.heap.size w w' := by
  obtain ⟨h1, F, G, tv, a, b, c, d, f⟩ := h
  refine (sealed_any a hl).mono ?_
  rintro e w' ⟨A, c, rfl, a1, a3⟩
  have hlen : s.sl.length = (s.sl.map Prod.fst).length := by simp
  rw [hlen] at a1
  exact ⟨A, c, rfl, a1.cells, a3⟩
/-- What the slots hold. -/
theorem Bo.shape (h : Bo W w B K s vw vo vl vi wr op sl ids) : (∃ A c, vw = .slice A wr.length c ∧ CsAt w A (rcells wr)) ∧ (∃ A c, vo = .slice A op.length c) ∧ (∃ A c, vl = .slice A sl.length c) ∧ ∃ A c, vi = .slice A ids.length c ∧ CsAt w A (icells ids) := by
  obtain ⟨h1, F, G, tv, a, b, c, d, f⟩ := h
  obtain ⟨A1, c1, rfl, -, -⟩ := b.aw.slice
  obtain ⟨A2, c2, rfl, -, -⟩ := b.ao.slice
  obtain ⟨A3, c3, rfl, -, -⟩ := b.al.slice
  obtain ⟨A4, c4, rfl, -, -⟩ := b.ai.slice
  exact ⟨⟨_, _, rfl, b.aw.cells⟩, ⟨_, _, rfl⟩, ⟨_, _, by rw [fa_len b.tr]⟩, _, _, rfl, b.ai.cells⟩
theorem bo_appOp (h : Bo W w B K s vw vo vl vi wr op sl ids) (hK : ∀ k, K k → k < w.heap.size) (hl : op.length ≤ 1000000) (r : Rg) {g : Nat} (hg : w.heap[g]? = some (.cells #[.string r.key, .int .i64 r.num, .int .i64 r.tm] 30 (0, 0))) :
    ∃ A c w1, (Builtin.append_ #[25, 25] 25 #[vo, .slice (some ⟨g, 0, none⟩) 1 1]).run Tryd.prog w = .ok (.slice A (op.length + 1) c) w1 ∧ Bo W w1 B K s vw (.slice A (op.length + 1) c) vl vi wr (op ++ [r]) sl ids ∧ KpK K w w1 := by
  obtain ⟨h1, F, G, tv, a, b, c, d, f⟩ := h
  obtain ⟨i0, hi, hz0, hz1, hz2⟩ := info_parts infoR
  obtain ⟨A, c2, w1, hrun, hown, hgr, hat⟩ := rw_append b.ao 25 25 25 i0 _ 32 Tryd.underlying25 hi hz0 hz1 hz2 rfl (.slice (some ⟨g, 0, none⟩) 1 1) 1 (rcell r)
    (Src.ofSlice _ Tryd.underlying25 _ 1 1 (rcell r) rfl (World.news_of_block (cs := #[.string r.key, .int .i64 r.num, .int .i64 r.tm]) hg) (rcell_one r)) (by unfold maxLen; omega) (by omega)
  have hll : (op ++ [r]).length = op.length + 1 := by simp
  rw [← rcells_snoc, ← hll] at hown
  have hE := b.setOp hgr hown (fun b hb => hat b (by rw [hll] at hb; exact hb))
  rw [hll] at hE
  exact ⟨A, c2, w1, hrun, Bo.law h1 a c d f hK hE⟩
end
end Go.Proofs.YtaicaeokljdjdaaDoor
