/- The document's Lines of two rows of lines, one behind the other, are the two merged. -/
import Derived.Test.YthcgjbpiiodlgaaDoorXa
import Derived.Test.YthcgjbpiiodlgaaDoorPureQf
namespace Go.Proofs.YthcgjbpiiodlgaaDoor.Dn
open Mp
set_option linter.unusedVariables false
/-- Keys as they came first. -/
def firstsP (l : List Rc) : List ByteArray := l.foldl (fun (ks : List ByteArray) (r : Rc) => if (ks.any fun k => decide (k = r.key)) then ks else ks ++ [r.key]) []
def numsP (l : List Rc) (k : ByteArray) : List Int := (l.filter fun r => r.key = k).map fun r => r.num
def posF (k : ByteArray) : Nat → List ByteArray → Option Nat
  | _, [] => none
  | i, q :: r => if q = k then some i else posF k (i + 1) r
theorem posF_some {k : ByteArray} : ∀ {ks : List ByteArray} {i a : Nat}, posF k i ks = some a → i ≤ a ∧ ∃ h : a - i < ks.length, ks[a - i] = k
  | [], i, a, h => by simp [posF] at h
  | x :: ks, i, a, h => by
    unfold posF at h
    split at h
    · rename_i hx
      simp at h; subst h
      exact ⟨Nat.le_refl _, by simp, by simpa using hx⟩
    · obtain ⟨h1, h2, h3⟩ := posF_some h
      refine ⟨by omega, by simp; omega, ?_⟩
      have : a - i = (a - (i + 1)) + 1 := by omega
      simp only [this, List.getElem_cons_succ]; exact h3
theorem posF_none {k : ByteArray} : ∀ {ks : List ByteArray} {i : Nat}, posF k i ks = none → ∀ q ∈ ks, q ≠ k
  | [], i, h => by simp
  | x :: ks, i, h => by
    unfold posF at h
    split at h
    · simp at h
    · rename_i hx
      intro q hq
      rcases List.mem_cons.1 hq with rfl | hq
      · exact hx
      · exact posF_none h q hq
theorem firsts_snoc (l : List Rc) (r : Rc) : firstsP (l ++ [r]) = if (posF r.key 0 (firstsP l)).isSome then firstsP l else firstsP l ++ [r.key] := by
  have h : ((firstsP l).any fun k => decide (k = r.key)) = (posF r.key 0 (firstsP l)).isSome := by
    cases e : posF r.key 0 (firstsP l) with
    | none => simp; exact fun q hq => posF_none e q hq
    | some a =>
      obtain ⟨_, h2, h3⟩ := posF_some e
      simp; exact h3 ▸ List.getElem_mem h2
  have h2 : firstsP (l ++ [r]) = if ((firstsP l).any fun k => decide (k = r.key)) then firstsP l else firstsP l ++ [r.key] := by
    unfold firstsP
    rw [List.foldl_append]
    rfl
  rw [h2, h]
theorem nums_snoc (l : List Rc) (r : Rc) (k : ByteArray) : numsP (l ++ [r]) k = numsP l k ++ (if r.key = k then [r.num] else []) := by
  unfold numsP
  rw [List.filter_append, List.map_append]
  by_cases h : r.key = k <;> simp [h]
theorem firsts_nodup (l : List Rc) : (firstsP l).Nodup := by
  have h : ∀ R : List Rc, (firstsP R.reverse).Nodup := by
    intro R
    induction R with
    | nil => simp [firstsP]
    | cons r R ih =>
      rw [List.reverse_cons, firsts_snoc]
      split
      · exact ih
      · rename_i hn
        rw [List.nodup_append]
        refine ⟨ih, by simp, fun a ha b hb => ?_⟩
        have e : posF r.key 0 (firstsP R.reverse) = none := by simpa using hn
        have := posF_none e a ha
        simp at hb; subst hb; exact this
  have := h l.reverse
  rwa [List.reverse_reverse] at this
theorem firsts_mem {l : List Rc} {k : ByteArray} : k ∈ firstsP l ↔ ∃ r ∈ l, r.key = k := by
  have h : ∀ R : List Rc, k ∈ firstsP R.reverse ↔ ∃ r ∈ R.reverse, r.key = k := by
    intro R
    induction R with
    | nil => simp [firstsP]
    | cons r R ih =>
      rw [List.reverse_cons, firsts_snoc]
      simp only [List.mem_append, List.mem_singleton]
      split
      · rename_i hs
        constructor
        · intro hk
          obtain ⟨x, hx, he⟩ := ih.1 hk
          exact ⟨x, .inl hx, he⟩
        · rintro ⟨x, hx | hx, he⟩
          · exact ih.2 ⟨x, hx, he⟩
          · subst hx
            obtain ⟨a, ha⟩ := Option.isSome_iff_exists.1 hs
            obtain ⟨_, h2, h3⟩ := posF_some ha
            rw [← he, ← h3]; exact List.getElem_mem _
      · simp only [List.mem_append, List.mem_singleton]
        constructor
        · rintro (hk | hk)
          · obtain ⟨x, hx, he⟩ := ih.1 hk
            exact ⟨x, .inl hx, he⟩
          · exact ⟨r, .inr rfl, hk.symm⟩
        · rintro ⟨x, hx | hx, he⟩
          · exact .inl (ih.2 ⟨x, hx, he⟩)
          · subst hx; exact .inr he.symm
  have := h l.reverse
  rwa [List.reverse_reverse] at this
theorem kle_trans (a b c : ByteArray) (h1 : kle a b = true) (h2 : kle b c = true) : kle a c = true := by
  simp only [kle, decide_eq_true_eq] at *; exact List.le_trans h1 h2
theorem kle_anti {a b : ByteArray} (h1 : kle a b = true) (h2 : kle b a = true) : a = b := by
  simp only [kle, decide_eq_true_eq] at *
  have := List.le_antisymm h1 h2
  cases a; cases b
  congr 1
  exact Array.toList_inj.1 this
/-- The keys of records, by their bytes; the lines. -/
def keysP (l : List Rc) : List ByteArray := (firstsP l).mergeSort kle
def linesP (l : List Rc) : List Ln := (keysP l).map fun k => (k, numsP l k)
theorem keys_eq {l : List Rc} {K : List ByteArray} (hp : K.Perm (firstsP l)) (hs : K.Pairwise fun a b => kle a b = true) : K = keysP l :=
  List.Perm.eq_of_pairwise (le := fun a b => kle a b = true) (fun _ _ _ _ h1 h2 => kle_anti h1 h2) hs (List.pairwise_mergeSort kle_trans kle_total _) (hp.trans (List.mergeSort_perm _ _).symm)
theorem lines_nil : linesP [] = [] := by simp [linesP, keysP, firstsP]
theorem klt_trans {a b c : ByteArray} (h1 : klt a b = true) (h2 : klt b c = true) : klt a c = true := by
  unfold klt at *
  cases h : kle c a with
  | false => rfl
  | true =>
    have h3 : kle a b = true := by
      have := kle_total a b
      cases h4 : kle b a with
      | true => rw [h4] at h1; cases h1
      | false => rw [h4] at this; simpa using this
    have h5 := kle_trans _ _ _ h h3
    rw [h5] at h2; cases h2
theorem klt_tri {q k : ByteArray} (h : klt q k = false) (hn : q ≠ k) : klt k q = true := by
  unfold klt at *
  cases h1 : kle q k with
  | false => rfl
  | true =>
    cases h2 : kle k q with
    | false => rw [h2] at h; cases h
    | true => exact absurd (kle_anti h1 h2) hn
theorem klt_ne {a b : ByteArray} (h : klt a b = true) : a ≠ b := fun e => by subst e; rw [klt_irrefl] at h; cases h
def Strict (K : List ByteArray) : Prop := K.Pairwise fun a b => klt a b = true
def kIns (k : ByteArray) : List ByteArray → List ByteArray
  | [] => [k]
  | q :: t => if klt q k then q :: kIns k t else if q = k then q :: t else k :: q :: t
theorem kins_mem {k x : ByteArray} : ∀ {K : List ByteArray}, x ∈ kIns k K ↔ x = k ∨ x ∈ K
  | [] => by simp [kIns]
  | q :: t => by
    rw [kIns]
    split
    · rw [List.mem_cons, kins_mem, List.mem_cons]
      constructor
      · rintro (h | h | h)
        · exact .inr (.inl h)
        · exact .inl h
        · exact .inr (.inr h)
      · rintro (h | h | h)
        · exact .inr (.inl h)
        · exact .inl h
        · exact .inr (.inr h)
    · split
      · rename_i h
        subst h
        simp
      · simp
theorem kins_strict {k : ByteArray} : ∀ {K : List ByteArray}, Strict K → Strict (kIns k K)
  | [], _ => by simp [kIns, Strict]
  | q :: t, h => by
    obtain ⟨h1, h2⟩ := List.pairwise_cons.1 h
    rw [kIns]
    split
    · rename_i hq
      refine List.pairwise_cons.2 ⟨fun b hb => ?_, kins_strict h2⟩
      rcases kins_mem.1 hb with rfl | hb
      · exact hq
      · exact h1 b hb
    · split
      · exact h
      · rename_i hq hn
        have hk := klt_tri (by simpa using hq) hn
        refine List.pairwise_cons.2 ⟨fun b hb => ?_, h⟩
        rcases List.mem_cons.1 hb with rfl | hb
        · exact hk
        · exact klt_trans hk (h1 b hb)
theorem strict_nodup {K : List ByteArray} (h : Strict K) : K.Nodup := List.Pairwise.imp (fun h => klt_ne h) h
theorem strict_kle {K : List ByteArray} (h : Strict K) : K.Pairwise fun a b => kle a b = true := List.Pairwise.imp (fun {a b} h => by
  have := kle_total a b
  unfold klt at h
  cases h4 : kle b a with
  | true => rw [h4] at h; cases h
  | false => rw [h4] at this; simpa using this) h
theorem keys_strict (l : List Rc) : Strict (keysP l) := by
  have h1 : (keysP l).Pairwise fun a b => kle a b = true := List.pairwise_mergeSort kle_trans kle_total _
  have h2 : (keysP l).Nodup := (List.mergeSort_perm _ _).nodup_iff.2 (firsts_nodup l)
  refine List.Pairwise.imp ?_ (List.Pairwise.and h1 h2)
  rintro a b ⟨h3, h4⟩
  unfold klt
  cases h5 : kle b a with
  | false => rfl
  | true => exact absurd (kle_anti h3 h5) h4
theorem keysD_mem {l : List Rc} {k : ByteArray} : k ∈ keysP l ↔ ∃ r ∈ l, r.key = k := by
  rw [← firsts_mem]; exact (List.mergeSort_perm _ _).mem_iff
theorem keys_snoc (l : List Rc) (r : Rc) : keysP (l ++ [r]) = kIns r.key (keysP l) := by
  have hs := kins_strict (k := r.key) (keys_strict l)
  refine (keys_eq ((List.perm_ext_iff_of_nodup (strict_nodup hs) (firsts_nodup _)).2 fun x => ?_) (strict_kle hs)).symm
  rw [kins_mem, keysD_mem, firsts_mem]
  constructor
  · rintro (rfl | ⟨y, hy, e⟩)
    · exact ⟨r, by simp, rfl⟩
    · exact ⟨y, by simp [hy], e⟩
  · rintro ⟨y, hy, e⟩
    rcases List.mem_append.1 hy with hy | hy
    · exact .inr ⟨y, hy, e⟩
    · rw [List.mem_singleton] at hy; subst hy; exact .inl e.symm
theorem lnAdd_map (r : Rc) (F : ByteArray → List Int) : ∀ K : List ByteArray, Strict K → (r.key ∉ K → F r.key = []) → lnAdd r (K.map fun k => (k, F k)) = (kIns r.key K).map fun k => (k, F k ++ (if r.key = k then [r.num] else []))
  | [], _, h => by
    have := h (by simp)
    simp [lnAdd, kIns, this]
  | q :: t, hs, h => by
    obtain ⟨h1, h2⟩ := List.pairwise_cons.1 hs
    have off : ∀ T : List ByteArray, r.key ∉ T → (T.map fun k => (k, F k)) = T.map fun k => (k, F k ++ (if r.key = k then [r.num] else [])) := fun T hT =>
      List.map_congr_left fun k hk => by rw [if_neg (fun e => hT (by rw [e]; exact hk)), List.append_nil]
    rw [List.map_cons, lnAdd, kIns]
    split
    · rename_i hq
      have hne := klt_ne hq
      rw [List.map_cons, lnAdd_map r F t h2 (fun hm => h (fun hm' => by
        rcases List.mem_cons.1 hm' with e | e
        · exact hne e.symm
        · exact hm e)), if_neg (fun e => hne e.symm), List.append_nil]
    · rename_i hq
      split
      · rename_i he
        subst he
        rw [List.map_cons, if_pos rfl, ← off t (fun hm => klt_ne (h1 _ hm) rfl)]
      · rename_i hn
        have hk := klt_tri (by simpa using hq) hn
        have hni : r.key ∉ q :: t := fun hm => by
          rcases List.mem_cons.1 hm with e | e
          · exact hn e.symm
          · exact klt_ne (klt_trans hk (h1 _ e)) rfl
        rw [List.map_cons, ← off (q :: t) hni, if_pos rfl, h hni]
        rfl
theorem lines_snoc (l : List Rc) (r : Rc) : linesP (l ++ [r]) = lnAdd r (linesP l) := by
  unfold linesP
  rw [lnAdd_map r (numsP l) (keysP l) (keys_strict l) ?_, keys_snoc]
  · exact List.map_congr_left fun k _ => by rw [nums_snoc]
  · intro hm
    unfold numsP
    rw [List.map_eq_nil_iff, List.filter_eq_nil_iff]
    intro y hy he
    exact hm (keysD_mem.2 ⟨y, hy, by simpa using he⟩)
theorem doc_lines (l : List Rc) : docLines l = linesP l := by
  have h : ∀ R : List Rc, docLines R.reverse = linesP R.reverse := by
    intro R
    induction R with
    | nil => rw [List.reverse_nil, lines_nil]; rfl
    | cons x R ih => rw [List.reverse_cons, lines_snoc, ← ih]; simp [docLines]
  have := h l.reverse
  rwa [List.reverse_reverse] at this
/-- What two answer together of a key. -/
def bothP : Option (List Int) → Option (List Int) → Option (List Int)
  | some x, some y => some (x ++ y)
  | some x, none => some x
  | none, o => o
theorem mem_merge : ∀ (a b : List Lne) (q : Lne), q ∈ mergeP a b → (∃ l ∈ a, l.1 = q.1) ∨ ∃ l ∈ b, l.1 = q.1
  | [], b, q, h => by rw [nil_merge] at h; exact .inr ⟨q, h, rfl⟩
  | x :: A, [], q, h => by rw [merge_nil] at h; exact .inl ⟨q, h, rfl⟩
  | x :: A, y :: B, q, h => by
    rw [mergeP] at h
    split at h
    · rcases List.mem_cons.1 h with rfl | h
      · exact .inl ⟨q, by simp, rfl⟩
      · rcases mem_merge A (y :: B) q h with ⟨l, hl, e⟩ | h
        · exact .inl ⟨l, by simp [hl], e⟩
        · exact .inr h
    · split at h
      · rcases List.mem_cons.1 h with rfl | h
        · exact .inl ⟨x, by simp, rfl⟩
        · rcases mem_merge A B q h with ⟨l, hl, e⟩ | ⟨l, hl, e⟩
          · exact .inl ⟨l, by simp [hl], e⟩
          · exact .inr ⟨l, by simp [hl], e⟩
      · rcases List.mem_cons.1 h with rfl | h
        · exact .inr ⟨q, by simp, rfl⟩
        · rcases mem_merge (x :: A) B q h with h | ⟨l, hl, e⟩
          · exact .inl h
          · exact .inr ⟨l, by simp [hl], e⟩
theorem ris_merge : ∀ (a b : List Lne), Ris a → Ris b → Ris (mergeP a b)
  | [], b, h1, h2 => by rw [nil_merge]; exact h2
  | x :: A, [], h1, h2 => by rw [merge_nil]; exact h1
  | x :: A, y :: B, h1, h2 => by
    obtain ⟨p1, p2⟩ := List.pairwise_cons.1 h1
    obtain ⟨q1, q2⟩ := List.pairwise_cons.1 h2
    rw [mergeP]
    split
    · rename_i hlt
      refine List.pairwise_cons.2 ⟨fun q hq => ?_, ris_merge A (y :: B) p2 h2⟩
      rcases mem_merge _ _ _ hq with ⟨l, hl, e⟩ | ⟨l, hl, e⟩
      · rw [← e]; exact p1 l hl
      · rw [← e]
        rcases List.mem_cons.1 hl with rfl | hl
        · exact hlt
        · exact kb_trans hlt (q1 l hl)
    · rename_i hnl
      split
      · rename_i he
        refine List.pairwise_cons.2 ⟨fun q hq => ?_, ris_merge A B p2 q2⟩
        rcases mem_merge _ _ _ hq with ⟨l, hl, e⟩ | ⟨l, hl, e⟩
        · rw [← e]; exact p1 l hl
        · rw [← e]; show kb x.1 < kb l.1; rw [he]; exact q1 l hl
      · rename_i hne
        have hlt : kb y.1 < kb x.1 := by
          rcases kb_tri x.1 y.1 with h | h | h
          · exact absurd h hnl
          · exact absurd h hne
          · exact h
        refine List.pairwise_cons.2 ⟨fun q hq => ?_, ris_merge (x :: A) B h1 q2⟩
        rcases mem_merge _ _ _ hq with ⟨l, hl, e⟩ | ⟨l, hl, e⟩
        · rw [← e]
          rcases List.mem_cons.1 hl with rfl | hl
          · exact hlt
          · exact kb_trans hlt (p1 l hl)
        · rw [← e]; exact q1 l hl
theorem get_small {L : List Lne} {k : ByteArray} (h : ∀ l ∈ L, kb k < kb l.1) : Mp.get L k = none :=
  get_none.2 fun q hq e => kb_irr k (by have := h q hq; rw [e] at this; exact this)
theorem get_merge : ∀ (a b : List Lne), Ris a → Ris b → ∀ k, Mp.get (mergeP a b) k = bothP (Mp.get a k) (Mp.get b k)
  | [], b, h1, h2, k => by rw [nil_merge]; rfl
  | x :: A, [], h1, h2, k => by
    rw [merge_nil, Mp.get_nil]
    cases Mp.get (x :: A) k <;> rfl
  | x :: A, y :: B, h1, h2, k => by
    obtain ⟨p1, p2⟩ := List.pairwise_cons.1 h1
    obtain ⟨q1, q2⟩ := List.pairwise_cons.1 h2
    rw [mergeP]
    split
    · rename_i hlt
      have ih := get_merge A (y :: B) p2 h2 k
      by_cases e : x.1 = k
      · have hn : Mp.get (y :: B) k = none := by
          refine get_small fun l hl => ?_
          rw [← e]
          rcases List.mem_cons.1 hl with rfl | hl
          · exact hlt
          · exact kb_trans hlt (q1 l hl)
        rw [hn, Mp.get, if_pos e, Mp.get, if_pos e]
        rfl
      · rw [Mp.get, if_neg e, ih]
        rw [show Mp.get (x :: A) k = Mp.get A k from by rw [Mp.get, if_neg e]]
    · rename_i hnl
      split
      · rename_i he
        have ih := get_merge A B p2 q2 k
        by_cases e : x.1 = k
        · have e' : y.1 = k := by rw [← he]; exact e
          rw [Mp.get, if_pos e, Mp.get, if_pos e, Mp.get, if_pos e']
          rfl
        · have e' : ¬ y.1 = k := by rw [← he]; exact e
          rw [Mp.get, if_neg e, ih]
          rw [show Mp.get (x :: A) k = Mp.get A k from by rw [Mp.get, if_neg e], show Mp.get (y :: B) k = Mp.get B k from by rw [Mp.get, if_neg e']]
      · rename_i hne
        have hlt : kb y.1 < kb x.1 := by
          rcases kb_tri x.1 y.1 with h | h | h
          · exact absurd h hnl
          · exact absurd h hne
          · exact h
        have ih := get_merge (x :: A) B h1 q2 k
        by_cases e : y.1 = k
        · have hn : Mp.get (x :: A) k = none := by
            refine get_small fun l hl => ?_
            rw [← e]
            rcases List.mem_cons.1 hl with rfl | hl
            · exact hlt
            · exact kb_trans hlt (p1 l hl)
          rw [hn, Mp.get, if_pos e, Mp.get, if_pos e]
          rfl
        · rw [Mp.get, if_neg e, ih]
          rw [show Mp.get (y :: B) k = Mp.get B k from by rw [Mp.get, if_neg e]]
/-- Lines as records. -/
def recsL (L : List Lne) : List Rc := L.flatMap fun l => l.2.map fun n => { key := l.1, num := n, time := 0 }
theorem nums_app (a b : List Rc) (k : ByteArray) : numsP (a ++ b) k = numsP a k ++ numsP b k := by simp [numsP]
theorem recs_key {L : List Lne} {r : Rc} (h : r ∈ recsL L) : ∃ l ∈ L, l.1 = r.key := by
  unfold recsL at h
  rw [List.mem_flatMap] at h
  obtain ⟨l, hl, h⟩ := h
  rw [List.mem_map] at h
  obtain ⟨n, -, rfl⟩ := h
  exact ⟨l, hl, rfl⟩
theorem recs_mem {L : List Lne} (h0 : ∀ l ∈ L, l.2 ≠ []) {l : Lne} (hl : l ∈ L) : ∃ r ∈ recsL L, r.key = l.1 := by
  obtain ⟨n, hn⟩ := List.exists_mem_of_ne_nil _ (h0 l hl)
  exact ⟨⟨l.1, n, 0⟩, List.mem_flatMap.2 ⟨l, hl, List.mem_map.2 ⟨n, hn, rfl⟩⟩, rfl⟩
theorem nums_one (k : ByteArray) (v : List Int) (q : ByteArray) : numsP (v.map fun n => ({ key := k, num := n, time := 0 } : Rc)) q = if k = q then v else [] := by
  unfold numsP
  by_cases h : k = q
  · rw [if_pos h, List.filter_eq_self.2 (fun r hr => by obtain ⟨n, -, rfl⟩ := List.mem_map.1 hr; simp [h])]
    rw [List.map_map]
    exact List.map_id v
  · rw [if_neg h, List.filter_eq_nil_iff.2 (fun r hr => by obtain ⟨n, -, rfl⟩ := List.mem_map.1 hr; simp [h])]
    rfl
theorem nums_recs : ∀ (L : List Lne), Ris L → ∀ k, numsP (recsL L) k = (Mp.get L k).getD []
  | [], _, k => by simp [recsL, numsP, Mp.get]
  | l :: L, hr, k => by
    obtain ⟨h1, h2⟩ := List.pairwise_cons.1 hr
    have ih := nums_recs L h2 k
    have e : recsL (l :: L) = (l.2.map fun n => { key := l.1, num := n, time := 0 }) ++ recsL L := by simp [recsL]
    rw [e, nums_app, nums_one, ih, Mp.get]
    by_cases h : l.1 = k
    · rw [if_pos h, if_pos h, get_small (fun x hx => by rw [← h]; exact h1 x hx)]
      simp
    · rw [if_neg h, if_neg h, List.nil_append]
theorem lines_ris (l : List Rc) : Ris (linesP l) := by
  have hs : (keysP l).Pairwise fun a b => kle a b = true := List.pairwise_mergeSort kle_trans kle_total _
  have hn : (keysP l).Nodup := (List.mergeSort_perm _ _).nodup_iff.2 (firsts_nodup l)
  unfold linesP
  unfold Ris
  rw [List.pairwise_map]
  refine (hs.and hn).imp ?_
  rintro a b ⟨h1, h2⟩
  rcases kb_tri a b with h | h | h
  · exact h
  · exact absurd h h2
  · exfalso
    simp only [kle, decide_eq_true_eq] at h1
    exact List.not_lt.2 h1 h
theorem keys_mem {l : List Rc} {k : ByteArray} : k ∈ keysP l ↔ ∃ r ∈ l, r.key = k := by
  rw [← firsts_mem]
  exact (List.mergeSort_perm _ _).mem_iff
theorem get_lines_yes {l : List Rc} {k : ByteArray} (h : ∃ r ∈ l, r.key = k) : Mp.get (linesP l) k = some (numsP l k) :=
  mem_get (lines_ris l) (List.mem_map.2 ⟨k, keys_mem.2 h, rfl⟩)
theorem get_lines_no {l : List Rc} {k : ByteArray} (h : ¬ ∃ r ∈ l, r.key = k) : Mp.get (linesP l) k = none := by
  refine get_none.2 fun q hq e => h ?_
  obtain ⟨k', hk, rfl⟩ := List.mem_map.1 hq
  rw [← e]
  exact keys_mem.1 hk
theorem get_has {L : List Lne} (hr : Ris L) (h0 : ∀ l ∈ L, l.2 ≠ []) (k : ByteArray) : (∃ r ∈ recsL L, r.key = k) ↔ ∃ v, Mp.get L k = some v := by
  constructor
  · rintro ⟨r, hr2, rfl⟩
    obtain ⟨l, hl, e⟩ := recs_key hr2
    exact ⟨l.2, by rw [← e]; exact get_of_mem hr hl⟩
  · rintro ⟨v, hv⟩
    exact recs_mem h0 (get_mem hv)
/-- The document's Merge. -/
theorem lines_merge {a b : List Lne} (ha : Ris a) (hb : Ris b) (a0 : ∀ l ∈ a, l.2 ≠ []) (b0 : ∀ l ∈ b, l.2 ≠ []) : linesP (recsL a ++ recsL b) = mergeP a b := by
  refine ext (lines_ris _) (ris_merge a b ha hb) fun k => ?_
  rw [get_merge a b ha hb]
  have e1 : (∃ r ∈ recsL a ++ recsL b, r.key = k) ↔ (∃ v, Mp.get a k = some v) ∨ ∃ v, Mp.get b k = some v := by
    rw [← get_has ha a0, ← get_has hb b0]
    constructor
    · rintro ⟨r, hr, e⟩
      rcases List.mem_append.1 hr with h | h
      · exact .inl ⟨r, h, e⟩
      · exact .inr ⟨r, h, e⟩
    · rintro (⟨r, hr, e⟩ | ⟨r, hr, e⟩)
      · exact ⟨r, List.mem_append_left _ hr, e⟩
      · exact ⟨r, List.mem_append_right _ hr, e⟩
  by_cases h : ∃ r ∈ recsL a ++ recsL b, r.key = k
  · rw [get_lines_yes h, nums_app, nums_recs a ha, nums_recs b hb]
    have h2 := e1.1 h
    cases ga : Mp.get a k with
    | none =>
      cases gb : Mp.get b k with
      | none => rw [ga, gb] at h2; rcases h2 with ⟨v, h⟩ | ⟨v, h⟩ <;> cases h
      | some y => rfl
    | some x =>
      cases gb : Mp.get b k with
      | none => simp [bothP]
      | some y => rfl
  · rw [get_lines_no h]
    have h2 := fun h3 => h (e1.2 h3)
    cases ga : Mp.get a k with
    | none =>
      cases gb : Mp.get b k with
      | none => rfl
      | some y => exact absurd (.inr ⟨y, gb⟩) h2
    | some x => exact absurd (.inl ⟨x, ga⟩) h2
end Go.Proofs.YthcgjbpiiodlgaaDoor.Dn
