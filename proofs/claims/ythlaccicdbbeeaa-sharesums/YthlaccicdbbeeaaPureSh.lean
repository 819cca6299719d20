/- Pictures and their files, plain. -/
import Derived.Test.YthlaccicdbbeeaaPureDk
namespace Go.Proofs.Ythlaccicdbbeeaa
open Classical

/-- A picture: its number, its files. -/
abbrev Pic := Int × List ByteArray
/-- In how many pictures a file is. -/
noncomputable def cntP (L : List Pic) (f : ByteArray) : Nat := L.countP fun p => decide (f ∈ p.2)
def allF (L : List Pic) : Nat := (L.map fun p => p.2.length).sum
theorem cnt_cons (p : Pic) (L : List Pic) (f : ByteArray) : cntP (p :: L) f = cntP L f + if f ∈ p.2 then 1 else 0 := by
  unfold cntP; rw [List.countP_cons]; simp
theorem cnt_pos {L : List Pic} {f : ByteArray} : 0 < cntP L f ↔ ∃ p ∈ L, f ∈ p.2 := by
  unfold cntP; rw [List.countP_pos_iff]; simp
theorem cnt_le (L : List Pic) (f : ByteArray) : cntP L f ≤ L.length := List.countP_le_length
theorem nd_len {α : Type} {a b : List α} (ha : a.Nodup) (hb : b.Nodup) (h : ∀ x, x ∈ a ↔ x ∈ b) : a.length = b.length := ((List.perm_ext_iff_of_nodup ha hb).2 h).length_eq
theorem sum_if (l own : List ByteArray) : (l.map fun f => if f ∈ own then 1 else 0).sum = (l.filter fun f => decide (f ∈ own)).length := by
  induction l with
  | nil => rfl
  | cons a r ih =>
    by_cases h : a ∈ own
    · simp [h, ih]; omega
    · simp [h, ih]
theorem sum_ind {l own : List ByteArray} (hl : l.Nodup) (ho : own.Nodup) (h : ∀ f ∈ own, f ∈ l) : (l.map fun f => if f ∈ own then 1 else 0).sum = own.length := by
  rw [sum_if]
  refine nd_len (hl.sublist List.filter_sublist) ho fun x => ?_
  simp only [List.mem_filter, decide_eq_true_eq]
  exact ⟨fun h => h.2, fun hx => ⟨h x hx, hx⟩⟩
theorem sum_add (l : List ByteArray) (a b : ByteArray → Nat) : (l.map fun f => a f + b f).sum = (l.map a).sum + (l.map b).sum := by
  induction l with
  | nil => rfl
  | cons x r ih => simp only [List.map_cons, List.sum_cons, ih]; omega
/-- The counts of all files are all files of all pictures. -/
theorem cnt_sum {l : List ByteArray} (hl : l.Nodup) : ∀ (L : List Pic), (∀ p ∈ L, p.2.Nodup) → (∀ p ∈ L, ∀ f ∈ p.2, f ∈ l) → (l.map (cntP L)).sum = allF L := by
  intro L
  induction L with
  | nil =>
    intro _ _
    have : ∀ l : List ByteArray, (l.map (cntP [])).sum = 0 := by
      intro l
      induction l with
      | nil => rfl
      | cons a r ih => rw [List.map_cons, List.sum_cons, ih]; rfl
    rw [this]; rfl
  | cons p L ih =>
    intro h1 h2
    have e : (l.map (cntP (p :: L))) = l.map fun f => cntP L f + if f ∈ p.2 then 1 else 0 := List.map_congr_left fun f _ => cnt_cons p L f
    rw [e, sum_add, ih (fun q hq => h1 q (List.mem_cons_of_mem _ hq)) (fun q hq => h2 q (List.mem_cons_of_mem _ hq)), sum_ind hl (h1 p List.mem_cons_self) (h2 p List.mem_cons_self)]
    simp only [allF, List.map_cons, List.sum_cons]; omega

/-- Each once, in the order told. -/
noncomputable def addN (a : List ByteArray) (x : ByteArray) : List ByteArray := if x ∈ a then a else a ++ [x]
noncomputable def disL (l : List ByteArray) : List ByteArray := l.foldl addN []
theorem mem_addN (a : List ByteArray) (x y : ByteArray) : y ∈ addN a x ↔ y ∈ a ∨ y = x := by
  unfold addN
  split
  · rename_i h; exact ⟨.inl, fun h' => h'.elim id fun e => e ▸ h⟩
  · simp
theorem nd_addN {a : List ByteArray} (h : a.Nodup) (x : ByteArray) : (addN a x).Nodup := by
  unfold addN
  split
  · exact h
  · rename_i hx
    rw [List.nodup_append]
    exact ⟨h, by simp, fun y hy z hz => by simp at hz; subst hz; exact fun e => hx (e ▸ hy)⟩
theorem len_addN (a : List ByteArray) (x : ByteArray) : (addN a x).length = a.length + if x ∈ a then 0 else 1 := by
  unfold addN; split <;> simp
theorem dis_snoc (l : List ByteArray) (x : ByteArray) : disL (l ++ [x]) = addN (disL l) x := by
  unfold disL; rw [List.foldl_append]; rfl
theorem mem_foldl (l a : List ByteArray) (y : ByteArray) : y ∈ l.foldl addN a ↔ y ∈ a ∨ y ∈ l := by
  induction l generalizing a with
  | nil => simp
  | cons x r ih => rw [List.foldl_cons, ih, mem_addN, List.mem_cons, or_assoc]
theorem mem_dis (l : List ByteArray) (y : ByteArray) : y ∈ disL l ↔ y ∈ l := by
  unfold disL; rw [mem_foldl]; simp
theorem nd_foldl (l a : List ByteArray) (h : a.Nodup) : (l.foldl addN a).Nodup := by
  induction l generalizing a with
  | nil => exact h
  | cons x r ih => exact ih _ (nd_addN h x)
theorem nd_dis (l : List ByteArray) : (disL l).Nodup := nd_foldl l [] List.nodup_nil
theorem len_foldl (l a : List ByteArray) : a.length ≤ (l.foldl addN a).length := by
  induction l generalizing a with
  | nil => exact Nat.le_refl _
  | cons x r ih => exact Nat.le_trans (by rw [len_addN]; omega) (ih _)
theorem dis_take (l : List ByteArray) (k : Nat) : (disL (l.take k)).length ≤ (disL l).length := by
  have h : disL l = (l.drop k).foldl addN (disL (l.take k)) := by
    unfold disL; rw [← List.foldl_append, List.take_append_drop]
  rw [h]; exact len_foldl _ _
theorem dis_next {l : List ByteArray} {k : Nat} (h : k < l.length) : disL (l.take (k + 1)) = addN (disL (l.take k)) l[k] := by
  rw [List.take_succ_eq_append_getElem h, dis_snoc]
theorem dis_next_len {l : List ByteArray} {k : Nat} (h : k < l.length) : (disL (l.take (k + 1))).length = (disL (l.take k)).length + if l[k] ∈ l.take k then 0 else 1 := by
  rw [dis_next h, len_addN]; simp only [mem_dis]
theorem dis_le (l : List ByteArray) : (disL l).length ≤ l.length := by
  have : ∀ (r a : List ByteArray), (r.foldl addN a).length ≤ a.length + r.length := by
    intro r
    induction r with
    | nil => intro a; simp
    | cons x r ih => intro a; have := ih (addN a x); rw [len_addN] at this; simp only [List.foldl_cons, List.length_cons]; split at this <;> omega
  simpa [disL] using this l []
/-- What is wrong with the files of a picture. -/
noncomputable def onceE (l : List ByteArray) : Int := if 400 < (disL l).length then 4 else if l.all isNm then 0 else 2
theorem own_len {own l : List ByteArray} (h : own.Nodup) (hm : ∀ f, f ∈ own ↔ f ∈ l) : own.length = (disL l).length :=
  nd_len h (nd_dis l) fun x => by rw [hm, mem_dis]
theorem all_same {own l : List ByteArray} (hm : ∀ f, f ∈ own ↔ f ∈ l) : own.all isNm = l.all isNm := by
  rw [Bool.eq_iff_iff, List.all_eq_true, List.all_eq_true]
  exact ⟨fun h x hx => h x ((hm x).2 hx), fun h x hx => h x ((hm x).1 hx)⟩

def hasP (L : List Pic) (p : Int) : Bool := L.any fun q => q.1 == p
/-- What is wrong with a picture that is taken. -/
noncomputable def takeE (L : List Pic) (p : Int) (l : List ByteArray) : Int := if p < 0 then 1 else if hasP L p = true then 8 else if 400 ≤ L.length then 4 else onceE l
def dropP (L : List Pic) (p : Int) : List Pic := L.filter fun q => !(q.1 == p)
/-- Pictures that can be: no two of one number, files each once. -/
structure POk (L : List Pic) : Prop where
  nd : (L.map (·.1)).Nodup
  nf : ∀ p ∈ L, p.2.Nodup
  le : ∀ p ∈ L, p.2.length ≤ 400
  nm : ∀ p ∈ L, ∀ f ∈ p.2, isNm f = true
  len : L.length ≤ 400
theorem POk.nil : POk [] := ⟨List.nodup_nil, by simp, by simp, by simp, by simp⟩
theorem has_mem {L : List Pic} {p : Int} : hasP L p = true ↔ p ∈ L.map (·.1) := by
  unfold hasP; simp
theorem POk.take {L : List Pic} {p : Int} {l own : List ByteArray} (h : POk L) (he : takeE L p l = 0) (ho : own.Nodup) (hm : ∀ f, f ∈ own ↔ f ∈ l) : POk ((p, own) :: L) := by
  unfold takeE at he
  by_cases h0 : p < 0
  · rw [if_pos h0] at he; cases he
  rw [if_neg h0] at he
  by_cases h1 : hasP L p = true
  · rw [if_pos h1] at he; cases he
  rw [if_neg h1] at he
  by_cases h2 : 400 ≤ L.length
  · rw [if_pos h2] at he; cases he
  rw [if_neg h2] at he
  unfold onceE at he
  by_cases h3 : 400 < (disL l).length
  · rw [if_pos h3] at he; cases he
  rw [if_neg h3] at he
  by_cases h4 : l.all isNm = true
  · refine ⟨?_, ?_, ?_, ?_, ?_⟩
    · rw [List.map_cons, List.nodup_cons]; exact ⟨fun h => h1 (has_mem.2 h), h.nd⟩
    · intro q hq; rcases List.mem_cons.1 hq with rfl | hq
      · exact ho
      · exact h.nf q hq
    · intro q hq; rcases List.mem_cons.1 hq with rfl | hq
      · show own.length ≤ 400
        rw [own_len ho hm]; omega
      · exact h.le q hq
    · intro q hq f hf; rcases List.mem_cons.1 hq with rfl | hq
      · exact List.all_eq_true.1 h4 f ((hm f).1 hf)
      · exact h.nm q hq f hf
    · simp only [List.length_cons]; omega
  · rw [if_neg h4] at he; cases he
theorem POk.drop {L : List Pic} (h : POk L) (p : Int) : POk (dropP L p) := by
  have hs : (dropP L p).Sublist L := List.filter_sublist
  exact ⟨h.nd.sublist (hs.map _), fun q hq => h.nf q (hs.subset hq), fun q hq => h.le q (hs.subset hq), fun q hq => h.nm q (hs.subset hq), Nat.le_trans hs.length_le h.len⟩
theorem look_mem {L : List Pic} (h : POk L) {p : Int} {a b : List ByteArray} (ha : (p, a) ∈ L) (hb : (p, b) ∈ L) : a = b := by
  have hnd := h.nd
  clear h
  induction L with
  | nil => cases ha
  | cons q L ih =>
    rw [List.map_cons, List.nodup_cons] at hnd
    rcases List.mem_cons.1 ha with h1 | h1 <;> rcases List.mem_cons.1 hb with h2 | h2
    · rw [← h1] at h2; injection h2 with _ h2; exact h2.symm
    · exact absurd (List.mem_map.2 ⟨_, h2, by rw [← h1]⟩) hnd.1
    · exact absurd (List.mem_map.2 ⟨_, h1, by rw [← h2]⟩) hnd.1
    · exact ih h1 h2 hnd.2
theorem drop_len {L : List Pic} (h : (L.map (·.1)).Nodup) {p : Int} (hp : p ∈ L.map (·.1)) : (dropP L p).length + 1 = L.length := by
  induction L with
  | nil => simp at hp
  | cons q L ih =>
    rw [List.map_cons, List.nodup_cons] at h
    rw [List.map_cons, List.mem_cons] at hp
    by_cases e : q.1 = p
    · have e' : dropP (q :: L) p = L := by
        unfold dropP
        rw [List.filter_cons, if_neg (by simp [e]), List.filter_eq_self]
        intro r hr
        have : r.1 ≠ p := fun e2 => h.1 (by rw [e, ← e2]; exact List.mem_map.2 ⟨r, hr, rfl⟩)
        simpa using this
      rw [e']; simp
    · have := ih h.2 (hp.resolve_left fun e2 => e e2.symm)
      unfold dropP at this ⊢
      rw [List.filter_cons, if_pos (by simp [e])]
      simp only [List.length_cons]; omega
theorem drop_cnt {L : List Pic} (h : (L.map (·.1)).Nodup) {p : Int} {own : List ByteArray} (hp : (p, own) ∈ L) (f : ByteArray) : cntP (dropP L p) f + (if f ∈ own then 1 else 0) = cntP L f := by
  induction L with
  | nil => cases hp
  | cons q L ih =>
    rw [List.map_cons, List.nodup_cons] at h
    rw [cnt_cons]
    by_cases e : q.1 = p
    · have e' : dropP (q :: L) p = L := by
        unfold dropP
        rw [List.filter_cons, if_neg (by simp [e]), List.filter_eq_self]
        intro r hr
        have : r.1 ≠ p := fun e2 => h.1 (by rw [e, ← e2]; exact List.mem_map.2 ⟨r, hr, rfl⟩)
        simpa using this
      rcases List.mem_cons.1 hp with h1 | h1
      · rw [e', ← h1]
      · exact absurd (List.mem_map.2 ⟨_, h1, by rw [e]⟩) h.1
    · rcases List.mem_cons.1 hp with h1 | h1
      · rw [← h1] at e; exact absurd rfl e
      · have := ih h.2 h1
        have e2 : dropP (q :: L) p = q :: dropP L p := by
          unfold dropP; rw [List.filter_cons, if_pos (by simp [e])]
        rw [e2, cnt_cons]; omega
theorem drop_mem {L : List Pic} {p x : Int} : x ∈ (dropP L p).map (·.1) ↔ x ∈ L.map (·.1) ∧ x ≠ p := by
  unfold dropP
  simp only [List.mem_map, List.mem_filter]
  constructor
  · rintro ⟨q, ⟨h1, h2⟩, rfl⟩; exact ⟨⟨q, h1, rfl⟩, by simpa using h2⟩
  · rintro ⟨⟨q, h1, rfl⟩, h2⟩; exact ⟨q, ⟨h1, by simpa using h2⟩, rfl⟩
theorem mem_drop {L : List Pic} {p : Int} {q : Pic} : q ∈ dropP L p ↔ q ∈ L ∧ q.1 ≠ p := by
  unfold dropP; simp
end Go.Proofs.Ythlaccicdbbeeaa
