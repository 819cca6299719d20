/- SinkPlays: what the law does to its own lists. -/
import Derived.Test.YtaicaeokljdjdaaDoorXh
namespace Go.Proofs.YtaicaeokljdjdaaDoor
open Go.ChangeShapes Go.WideShapes Go.RowKit
set_option linter.unusedVariables false
theorem infoS : (Tryd.prog.info? 25).map (fun i => (i.zero, i.size, i.bytes)) = some (some (.slice none 0 0), 1, 24) := by kernel_rfl
section
variable {W w w' : World} {B : Nat} {K : Nat → Prop} {s : Sk Rg} {vw vo vl vi : Value} {wr op : List Rg} {sl : List (List Rg)} {ids : List Int}
theorem bo_appId (h : Bo W w B K s vw vo vl vi wr op sl ids) (hK : ∀ k, K k → k < w.heap.size) (hl : ids.length ≤ 1000000) (i : Int) {g : Nat} (hg : w.heap[g]? = some (.cells #[.int .i64 i] 3 (0, 0))) :
    ∃ A c w1, (Builtin.append_ #[27, 27] 27 #[vi, .slice (some ⟨g, 0, none⟩) 1 1]).run Tryd.prog w = .ok (.slice A (ids.length + 1) c) w1 ∧ Bo W w1 B K s vw vo vl (.slice A (ids.length + 1) c) wr op sl (ids ++ [i]) ∧ KpK K w w1 := by
  obtain ⟨h1, F, G, tv, a, b, c, d, f⟩ := h
  obtain ⟨A, c2, w1, hrun, hown, hgr, hat⟩ := app_int b.ai i hl hg
  exact ⟨A, c2, w1, hrun, Bo.law h1 a c d f hK (b.setId hgr hown hat)⟩
theorem bo_appSl (h : Bo W w B K s vw vo vl vi wr op sl ids) (hK : ∀ k, K k → k < w.heap.size) (hl : sl.length ≤ 1000000) {g : Nat} (hg : w.heap[g]? = some (.cells #[vo] 25 (0, 0))) :
    ∃ A c w1, (Builtin.append_ #[26, 26] 26 #[vl, .slice (some ⟨g, 0, none⟩) 1 1]).run Tryd.prog w = .ok (.slice A (sl.length + 1) c) w1 ∧ Bo W w1 B K s vw (.slice none 0 0) (.slice A (sl.length + 1) c) vi wr [] (sl ++ [op]) ids ∧ KpK K w w1 := by
  obtain ⟨h1, F, G, tv, a, b, c, d, f⟩ := h
  obtain ⟨i0, hi, hz0, hz1, hz2⟩ := info_parts infoS
  have htl := fa_len b.tr
  obtain ⟨A0, c0, hvo, -, -⟩ := b.ao.slice
  obtain ⟨A, c2, w1, hrun, hown, hgr, hat⟩ := rw_append b.al 26 26 26 i0 _ 24 Tryd.underlying26 hi hz0 hz1 hz2 rfl (.slice (some ⟨g, 0, none⟩) 1 1) 1 [vo]
    (Src.ofSlice _ Tryd.underlying26 _ 1 1 [vo] rfl (World.news_of_block (cs := #[vo]) hg) (fun u hu => by simp at hu; subst hu; rw [hvo]; rfl)) (by unfold maxLen; omega) (by omega)
  have hll : (tv ++ [vo]).length = tv.length + 1 := by simp
  rw [← hll] at hown
  have hE := b.setSl hgr hown (fun b hb => hat b (by rw [hll] at hb; exact hb))
  rw [hll, htl] at hE
  rw [htl] at hrun
  exact ⟨A, c2, w1, hrun, Bo.law h1 a c d f hK hE⟩
/-- One that was sealed is written. -/
theorem bo_step {x : List Rg} {sl' : List (List Rg)} {i : Int} {ids' : List Int} (h : Bo W w B K s vw vo vl vi wr op (x :: sl') (i :: ids')) (hK : ∀ k, K k → k < w.heap.size) (hl : wr.length + x.length ≤ 1000000) :
    ∃ g o c g2 o2 c2 A0 c0, vl = .slice (some ⟨g, o, none⟩) (sl'.length + 1) c ∧ sl'.length + 1 ≤ c ∧ w.cell? ⟨g, o, none⟩ = some (.slice A0 x.length c0) ∧ vi = .slice (some ⟨g2, o2, none⟩) (ids'.length + 1) c2 ∧ ids'.length + 1 ≤ c2 ∧ w.cell? ⟨g2, o2, none⟩ = some (.int .i64 i) ∧
      ∃ A' c' w1, (Builtin.append_ #[25, 25] 25 #[vw, .slice A0 x.length c0]).run Tryd.prog w = .ok (.slice A' (wr.length + x.length) c') w1 ∧
        Bo W w1 B K s (.slice A' (wr.length + x.length) c') vo (.slice (some (if c = 1 then ⟨g, o, none⟩ else ⟨g, o + 1, none⟩)) sl'.length (c - 1)) (.slice (some (if c2 = 1 then ⟨g2, o2, none⟩ else ⟨g2, o2 + 1, none⟩)) ids'.length (c2 - 1)) (wr ++ x) op sl' ids' ∧ KpK K w w1 := by
  obtain ⟨h1, F, G, tv, a, b, cc, d, f⟩ := h
  have htr := b.tr
  match tv, htr, b with
  | t0 :: tv, htr, b =>
  have htl : tv.length = sl'.length := by have := fa_len htr; simpa using this
  have hal := b.al
  rw [List.length_cons] at hal
  obtain ⟨g, o, c, rfl, hc, e0, hT⟩ := tailV hal
  have hai : RwAt w 3 1 vi (ids'.length + 1) (.int .i64 i :: icells ids') := b.ai
  obtain ⟨g2, o2, c2, rfl, hc2, e2, hT2⟩ := tailV (xs := icells ids') (x := .int .i64 i) hai
  have hx : RcAt w t0 x := by cases htr with | cons h _ => exact h
  have htr' : Fa2 (fun t p => RcAt w t p) tv sl' := by cases htr with | cons _ h => exact h
  obtain ⟨A0, c0, ht0, -, -⟩ := hx.slice
  obtain ⟨i0, hi, hz0, hz1, hz2⟩ := info_parts infoR
  obtain ⟨A', c', w1, hrun, hown, hgr, hat⟩ := rw_append b.aw 25 25 25 i0 _ 32 Tryd.underlying25 hi hz0 hz1 hz2 rfl _ x.length _ (hx.src Tryd.underlying25 (rcells_one x)) (by unfold maxLen; omega) (by omega)
  have hown1 : ∀ (g o c n : Nat) (b : Nat), Value.ownBlock (.slice (some (if c = 1 then (⟨g, o, none⟩ : Addr) else ⟨g, o + 1, none⟩)) n (c - 1)) = some b → g = b := fun g o c n b hb => by
    simp only [Value.ownBlock] at hb
    split at hb <;> simpa using hb
  obtain ⟨n1, n2⟩ := List.pairwise_cons.1 b.ne
  obtain ⟨n3, n4⟩ := List.pairwise_cons.1 n2
  obtain ⟨n5, n6⟩ := List.pairwise_cons.1 n4
  have b2 : LwB w G vw vo (.slice (some (if c = 1 then ⟨g, o, none⟩ else ⟨g, o + 1, none⟩)) tv.length (c - 1)) (.slice (some (if c2 = 1 then ⟨g2, o2, none⟩ else ⟨g2, o2 + 1, none⟩)) ids'.length (c2 - 1)) tv wr op sl' ids' := by
    refine ⟨b.aw, b.ao, hT, hT2, htr', ?_, ?_, b.flt⟩
    · refine List.pairwise_cons.2 ⟨fun v hv => n1 v (by simp only [List.mem_cons] at hv ⊢; rcases hv with h | h; exact .inl h; exact .inr (.inr h)), List.pairwise_cons.2 ⟨fun v hv => n3 v (by simp [hv]), n6⟩⟩
    · intro v hv k hk
      simp only [List.mem_cons] at hv
      rcases hv with rfl | rfl | rfl | rfl | hv
      · obtain rfl := hown1 _ _ _ _ _ hk
        exact b.fv _ List.mem_cons_self g rfl
      · obtain rfl := hown1 _ _ _ _ _ hk
        exact b.fv _ (List.mem_cons_of_mem _ List.mem_cons_self) g2 rfl
      · exact b.fv v (by simp) k hk
      · exact b.fv v (by simp) k hk
      · exact b.fv v (by simp [hv]) k hk
  have hll : (wr ++ x).length = wr.length + x.length := by simp
  rw [← rcells_append, ← hll] at hown
  have hE := b2.setWr hgr hown (fun b hb => hat b (by rw [hll] at hb; exact hb))
  rw [hll, htl] at hE
  rw [ht0] at hrun e0
  refine ⟨g, o, c, g2, o2, c2, A0, c0, by rw [htl], by omega, e0, rfl, hc2, e2, A', c', w1, hrun, Bo.law h1 a cc d f hK hE⟩
theorem bo_rows (h : Bo W w B K s vw vo vl vi wr op sl ids) : ∃ A c, vl = .slice A sl.length c ∧ ∀ i (hi : i < sl.length), ∃ g o A' c', A = some ⟨g, o, none⟩ ∧ w.cell? ⟨g, o + i, none⟩ = some (.slice A' sl[i].length c') ∧ g < w.heap.size := by
  obtain ⟨h1, F, G, tv, a, b, c, d, f⟩ := h
  have htl := fa_len b.tr
  obtain ⟨A, c, rfl, -, -⟩ := b.al.slice
  refine ⟨A, c, by rw [htl], fun i hi => ?_⟩
  have hi' : i < tv.length := by omega
  have hR := fa_get b.tr i hi' hi
  obtain ⟨A', c', hv, -, -⟩ := hR.slice
  rcases b.al.cells with h0 | ⟨g, o, rfl, hc⟩
  · subst h0; simp at hi'
  · have c1 := hc i tv[i] (List.getElem?_eq_getElem hi')
    rw [hv] at c1
    exact ⟨g, o, A', c', rfl, c1, cell_lt c1⟩
end
def I64 (z : Int) : Prop := -9223372036854775808 ≤ z ∧ z ≤ 9223372036854775807
end Go.Proofs.YtaicaeokljdjdaaDoor
