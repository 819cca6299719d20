/- Keys, sorted, each once. -/
import Derived.Test.YthcgjbpiiodlgaaDoorPureQd
import Derived.Lib.SlicesCompact
namespace Go.Proofs.YthcgjbpiiodlgaaDoor
open Mp
set_option linter.unusedVariables false

abbrev Bs := List UInt8
theorem bs_tri (a b : Bs) : a < b ∨ a = b ∨ b < a := by
  by_cases h1 : a < b
  · exact .inl h1
  · by_cases h2 : b < a
    · exact .inr (.inr h2)
    · exact .inr (.inl (List.le_antisymm (List.not_lt.1 h2) (List.not_lt.1 h1)))
theorem bs_lt_of {a b : Bs} (h : a ≤ b) (hn : a ≠ b) : a < b := by
  rcases bs_tri a b with h1 | h1 | h1
  · exact h1
  · exact absurd h1 hn
  · exact absurd h1 (List.not_lt.2 h)
theorem bs_le_lt {a b c : Bs} (h : a ≤ b) (k : b < c) : a < c := by
  by_cases e : a = b
  · rw [e]; exact k
  · exact List.lt_trans (bs_lt_of h e) k
def sortB (l : List Bs) : List Bs := l.mergeSort fun x y => decide (x ≤ y)
theorem sortB_pw (l : List Bs) : (sortB l).Pairwise fun a b => a ≤ b := by
  have h := List.pairwise_mergeSort (le := fun x y : Bs => decide (x ≤ y)) (fun a b c h1 h2 => by
    simp only [decide_eq_true_eq] at h1 h2 ⊢
    exact List.le_trans h1 h2) (fun a b => by
    rcases bs_tri a b with h | h | h
    · have : a ≤ b := List.not_lt.1 (fun h2 => List.lt_irrefl _ (List.lt_trans h h2))
      simp [this]
    · subst h; simp
    · have : b ≤ a := List.not_lt.1 (fun h2 => List.lt_irrefl _ (List.lt_trans h h2))
      simp [this]) l
  exact h.imp fun h => by simpa using h
theorem sortB_mem (l : List Bs) (x : Bs) : x ∈ sortB l ↔ x ∈ l := (List.mergeSort_perm _ _).mem_iff
theorem sortB_len (l : List Bs) : (sortB l).length = l.length := (List.mergeSort_perm _ _).length_eq
theorem comp_all (zs : List Bs) (h : zs.Pairwise fun a b => a ≤ b) : ∀ m, m ≤ zs.length →
    (∀ x, x ∈ Lib.compactUpTo zs.toArray m ↔ x ∈ zs.take m) ∧ (Lib.compactUpTo zs.toArray m).Pairwise fun a b => a < b
  | 0, _ => by simp [Lib.compactUpTo]
  | m + 1, hm => by
    obtain ⟨h1, h2⟩ := comp_all zs h m (by omega)
    have hlt : m < zs.length := by omega
    have hg : zs.toArray[m]! = zs[m] := by simp [hlt]
    rw [Lib.compactUpTo_succ, List.take_succ_eq_append_getElem hlt, hg]
    by_cases hk : Lib.keeps zs.toArray m = true
    · rw [if_pos hk]
      refine ⟨fun x => by rw [List.mem_append, List.mem_append, h1], ?_⟩
      rw [List.pairwise_append]
      refine ⟨h2, List.pairwise_singleton _ _, fun x hx y hy => ?_⟩
      simp only [List.mem_singleton] at hy
      subst hy
      rw [h1] at hx
      obtain ⟨i, hi, rfl⟩ := List.getElem_of_mem hx
      have hi' : i < m := by simp at hi; omega
      rw [List.getElem_take]
      obtain ⟨j, rfl⟩ : ∃ j, m = j + 1 := ⟨m - 1, by omega⟩
      have hne : zs[j + 1] ≠ zs[j] := by
        simp only [Lib.keeps, decide_eq_true_eq] at hk
        rcases hk with hk | hk
        · omega
        · rw [show j + 1 - 1 = j from rfl] at hk
          simpa [hlt, show j < zs.length from by omega] using hk
      have h3 : zs[j] < zs[j + 1] := bs_lt_of (List.pairwise_iff_getElem.1 h j (j + 1) (by omega) hlt (by omega)) (Ne.symm hne)
      by_cases e : i = j
      · subst e; exact h3
      · exact bs_le_lt (List.pairwise_iff_getElem.1 h i j (by omega) (by omega) (by omega)) h3
    · rw [if_neg hk, List.append_nil]
      refine ⟨fun x => ?_, h2⟩
      rw [h1]
      simp only [List.mem_append, List.mem_singleton]
      constructor
      · exact .inl
      · rintro (hx | rfl)
        · exact hx
        · simp only [Lib.keeps, decide_eq_true_eq, not_or, Decidable.not_not] at hk
          obtain ⟨hk0, hk⟩ := hk
          obtain ⟨j, rfl⟩ : ∃ j, m = j + 1 := ⟨m - 1, by omega⟩
          rw [show j + 1 - 1 = j from rfl] at hk
          have hk' : zs[j + 1] = zs[j] := by simpa [hlt, show j < zs.length from by omega] using hk
          rw [hk', List.mem_take_iff_getElem]
          exact ⟨j, by omega, rfl⟩
theorem uniq_sorted {a b : List Bs} (ha : a.Pairwise fun x y => x < y) (hb : b.Pairwise fun x y => x < y) (h : ∀ x, x ∈ a ↔ x ∈ b) : a = b := by
  have na : a.Nodup := List.Pairwise.imp (S := fun x y => x ≠ y) (fun {x y} h e => by subst e; exact List.lt_irrefl _ h) ha
  have nb : b.Nodup := List.Pairwise.imp (S := fun x y => x ≠ y) (fun {x y} h e => by subst e; exact List.lt_irrefl _ h) hb
  have hp : a.Perm b := (List.perm_ext_iff_of_nodup na nb).2 h
  exact List.Perm.eq_of_pairwise (le := fun x y : Bs => x < y) (fun x y _ _ h1 h2 => absurd (List.lt_trans h1 h2) (List.lt_irrefl _)) ha hb hp
theorem mem_keys_merge : ∀ (a b : List Lne) (k : ByteArray), k ∈ keysOf (mergeP a b) ↔ k ∈ keysOf a ∨ k ∈ keysOf b
  | [], b, k => by rw [nil_merge]; simp [keysOf]
  | x :: A, [], k => by rw [merge_nil]; simp [keysOf]
  | x :: A, y :: B, k => by
    rw [mergeP]
    split
    · have ih := mem_keys_merge A (y :: B) k
      simp only [keysOf, List.map_cons, List.mem_cons] at ih ⊢
      rw [ih, or_assoc]
    · split
      · rename_i he
        have ih := mem_keys_merge A B k
        simp only [keysOf, List.map_cons, List.mem_cons] at ih ⊢
        rw [ih, he]
        constructor
        · rintro (h | h | h) <;> simp [h]
        · rintro ((h | h) | (h | h)) <;> simp [h]
      · have ih := mem_keys_merge (x :: A) B k
        simp only [keysOf, List.map_cons, List.mem_cons] at ih ⊢
        rw [ih]
        constructor
        · rintro (h | (h | h) | h) <;> simp [h]
        · rintro ((h | h) | (h | h)) <;> simp [h]
termination_by a b => a.length + b.length
theorem ris_mergeP : ∀ (a b : List Lne), Ris a → Ris b → Ris (mergeP a b)
  | [], b, h1, h2 => by rw [nil_merge]; exact h2
  | x :: A, [], h1, h2 => by rw [merge_nil]; exact h1
  | x :: A, y :: B, h1, h2 => by
    obtain ⟨p1, p2⟩ := List.pairwise_cons.1 h1
    obtain ⟨q1, q2⟩ := List.pairwise_cons.1 h2
    have key : ∀ {c : ByteArray} {a b : List Lne}, (∀ l ∈ a, kb c < kb l.1) → (∀ l ∈ b, kb c < kb l.1) → ∀ q ∈ mergeP a b, kb c < kb q.1 := fun h1 h2 q hq => by
      rcases mem_mergeP _ _ _ hq with ⟨l, hl, e⟩ | ⟨l, hl, e⟩
      · rw [← e]; exact h1 l hl
      · rw [← e]; exact h2 l hl
    rw [mergeP]
    split
    · rename_i hlt
      refine List.pairwise_cons.2 ⟨key p1 (fun l hl => ?_), ris_mergeP A (y :: B) p2 h2⟩
      rcases List.mem_cons.1 hl with rfl | hl
      · exact hlt
      · exact kb_trans hlt (q1 l hl)
    · rename_i hnl
      split
      · rename_i he
        exact List.pairwise_cons.2 ⟨key p1 (by rw [he]; exact q1), ris_mergeP A B p2 q2⟩
      · rename_i hne
        have hlt : kb y.1 < kb x.1 := by
          rcases kb_tri x.1 y.1 with h | h | h
          · exact absurd h hnl
          · exact absurd h hne
          · exact h
        refine List.pairwise_cons.2 ⟨key (fun l hl => ?_) q1, ris_mergeP (x :: A) B h1 q2⟩
        rcases List.mem_cons.1 hl with rfl | hl
        · exact hlt
        · exact kb_trans hlt (p1 l hl)
termination_by a b => a.length + b.length
theorem keys_lt {L : List Lne} (h : Ris L) : ((keysOf L).map kb).Pairwise fun x y => x < y := by
  unfold keysOf
  rw [List.map_map, List.pairwise_map]
  exact h
/-- What the program makes of the keys of both. -/
theorem keys_all {a b : List Lne} (ha : Ris a) (hb : Ris b) : Lib.compact (sortB ((keysOf (a ++ b)).map kb)) = (keysOf (mergeP a b)).map kb := by
  obtain ⟨h1, h2⟩ := comp_all _ (sortB_pw ((keysOf (a ++ b)).map kb)) _ (Nat.le_refl _)
  refine uniq_sorted h2 (keys_lt (ris_mergeP a b ha hb)) fun x => ?_
  have e : Lib.compact (sortB ((keysOf (a ++ b)).map kb)) = Lib.compactUpTo (sortB ((keysOf (a ++ b)).map kb)).toArray (sortB ((keysOf (a ++ b)).map kb)).length := rfl
  show x ∈ Lib.compactUpTo _ _ ↔ _
  rw [h1, List.take_length, sortB_mem]
  simp only [List.mem_map]
  constructor
  · rintro ⟨k, hk, rfl⟩
    refine ⟨k, (mem_keys_merge a b k).2 ?_, rfl⟩
    simpa [keysOf] using hk
  · rintro ⟨k, hk, rfl⟩
    refine ⟨k, ?_, rfl⟩
    have := (mem_keys_merge a b k).1 hk
    simpa [keysOf] using this
end Go.Proofs.YthcgjbpiiodlgaaDoor
