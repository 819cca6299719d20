/- A text's first line, and a line's words, by the place of a byte. -/
import Derived.Test.YtiadlnjmlgnehacGreatDoorPureYa
namespace Go.Proofs.YtiadlnjmlgnehacGreatDoor
open Go.Lib (indexByte)
set_option linter.unusedVariables false
theorem idx_ways (l : List UInt8) (c : UInt8) : indexByte l c = -1 ∨ ∃ m : Nat, indexByte l c = m ∧ m < l.length := by
  have hg := Lib.indexByte_ge l c
  by_cases h : indexByte l c = -1
  · exact .inl h
  · right
    obtain ⟨m, hm⟩ : ∃ m : Nat, indexByte l c = m := ⟨(indexByte l c).toNat, by omega⟩
    have := (Lib.indexByte_some hm).1
    exact ⟨m, hm, (List.getElem?_eq_some_iff.1 this).1⟩
theorem idx_cons (b : UInt8) (l : List UInt8) (c : UInt8) : indexByte (b :: l) c = if b = c then 0 else if indexByte l c = -1 then -1 else indexByte l c + 1 := by
  rw [indexByte]
  by_cases h1 : b = c
  · simp [h1]
  · by_cases h2 : indexByte l c = -1 <;> simp [h1, h2]
theorem cut_none : ∀ {l : List UInt8}, indexByte l 10 = -1 → cutB l = (l, [], false)
  | [], _ => rfl
  | b :: l, h => by
    rw [idx_cons] at h
    by_cases h1 : b = 10
    · rw [if_pos h1] at h; cases h
    · rw [if_neg h1] at h
      by_cases h2 : indexByte l 10 = -1
      · rw [cutB, if_neg h1, cut_none h2]
      · rw [if_neg h2] at h
        have := Lib.indexByte_ge l 10
        omega
theorem cut_at : ∀ {l : List UInt8} {m : Nat}, indexByte l 10 = m → cutB l = (l.take m, l.drop (m + 1), true)
  | [], m, h => by rw [indexByte] at h; omega
  | b :: l, m, h => by
    rw [idx_cons] at h
    by_cases h1 : b = 10
    · rw [if_pos h1] at h
      obtain rfl : m = 0 := by omega
      rw [cutB, if_pos h1]; rfl
    · rw [if_neg h1] at h
      by_cases h2 : indexByte l 10 = -1
      · rw [if_pos h2] at h; omega
      · rw [if_neg h2] at h
        cases m with
        | zero => have := Lib.indexByte_ge l 10; omega
        | succ m =>
          rw [cutB, if_neg h1, cut_at (m := m) (by omega)]; rfl
theorem split_none : ∀ {l : List UInt8}, indexByte l 32 = -1 → splitW l = [l] ∧ l.count 32 = 0
  | [], _ => ⟨rfl, rfl⟩
  | b :: l, h => by
    rw [idx_cons] at h
    by_cases h1 : b = 32
    · rw [if_pos h1] at h; cases h
    · rw [if_neg h1] at h
      by_cases h2 : indexByte l 32 = -1
      · obtain ⟨e1, e2⟩ := split_none h2
        refine ⟨by rw [splitW, if_neg h1, e1], ?_⟩
        rw [List.count_cons, e2, if_neg (by simpa using h1)]
      · rw [if_neg h2] at h
        have := Lib.indexByte_ge l 32
        omega
theorem split_at : ∀ {l : List UInt8} {m : Nat}, indexByte l 32 = m → splitW l = l.take m :: splitW (l.drop (m + 1)) ∧ l.count 32 = (l.drop (m + 1)).count 32 + 1
  | [], m, h => by rw [indexByte] at h; omega
  | b :: l, m, h => by
    rw [idx_cons] at h
    by_cases h1 : b = 32
    · rw [if_pos h1] at h
      obtain rfl : m = 0 := by omega
      refine ⟨by rw [splitW, if_pos h1]; rfl, ?_⟩
      rw [List.count_cons, if_pos (by simpa using h1)]; rfl
    · rw [if_neg h1] at h
      by_cases h2 : indexByte l 32 = -1
      · rw [if_pos h2] at h; omega
      · rw [if_neg h2] at h
        cases m with
        | zero => have := Lib.indexByte_ge l 32; omega
        | succ m =>
          obtain ⟨e1, e2⟩ := split_at (l := l) (m := m) (by omega)
          refine ⟨by rw [splitW, if_neg h1, e1]; rfl, ?_⟩
          rw [List.count_cons, if_neg (by simpa using h1), e2]; rfl
theorem split_len : ∀ (n : Nat) (l : List UInt8), l.length ≤ n → (splitW l).length = l.count 32 + 1
  | n, l, hn => by
    rcases idx_ways l 32 with h | ⟨m, h, hm⟩
    · obtain ⟨e1, e2⟩ := split_none h
      rw [e1, e2]; rfl
    · obtain ⟨e1, e2⟩ := split_at h
      cases n with
      | zero => omega
      | succ n =>
        rw [e1, e2, List.length_cons, split_len n _ (by rw [List.length_drop]; omega)]
theorem split_count (l : List UInt8) : (splitW l).length = l.count 32 + 1 := split_len _ l (Nat.le_refl _)
end Go.Proofs.YtiadlnjmlgnehacGreatDoor
