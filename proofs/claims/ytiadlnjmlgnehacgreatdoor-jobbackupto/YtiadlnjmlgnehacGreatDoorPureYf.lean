/- How long a right node's line is. -/
import Derived.Test.YtiadlnjmlgnehacGreatDoorPureYc
import Derived.Lib.ItoaLen
import Derived.Test.YtiadlnjmlgnehacGreatDoorPureU
namespace Go.Proofs.YtiadlnjmlgnehacGreatDoor
set_option linter.unusedVariables false
theorem tx_len {l : List UInt8} (h : txP l = 0) : l.length ≤ 120 := by
  unfold txP at h
  cases hr : readP l with
  | ok t v => exact (read_ok hr).1
  | bad p e => rw [hr] at h; exact absurd h (read_bad_pos hr)
theorem node_tx {ah : List Nd} {nd : Nd} (ha : ah.length ≤ 12) (h : nodeP ah nd = 0) : nd.tx.size ≤ 120 := by
  obtain ⟨-, -, -, -, -, hT, -⟩ := node_ok ha h
  have e : nd.tx.data.toList.length = nd.tx.size := Array.length_toList
  by_cases ht : hasTP nd.k = true
  · unfold nodeP at h
    split at h
    · cases h
    · split at h
      · cases h
      · split at h
        · unfold ownP at h
          split at h
          · cases h
          · split at h
            · cases h
            · split at h
              · rename_i hf; rw [ht] at hf; cases hf
              · have := tx_len h; omega
        · rename_i hne; exact absurd h hne
  · rw [hT (by simpa using ht)]; exact Nat.zero_le _
theorem inHi_le (k : Int) : inHi k ≤ 4 := by unfold inHi; split <;> (try split) <;> omega
theorem node_fs {ah : List Nd} {nd : Nd} (ha : ah.length ≤ 12) (h : nodeP ah nd = 0) : nd.fs.length ≤ 4 := by
  obtain ⟨-, -, hl, -⟩ := node_ok ha h
  have := inHi_le nd.k
  omega
theorem join_bound {c : Nat} : ∀ {ws : List (List UInt8)}, (∀ x ∈ ws, x.length ≤ c) → (joinB ws).length ≤ ws.length * (c + 1)
  | [], _ => by simp [joinB]
  | x :: ws, h => by
    have e : joinB (x :: ws) = 32 :: x ++ joinB ws := rfl
    have h1 := join_bound (ws := ws) (fun y hy => h y (by simp [hy]))
    have h2 := h x (by simp)
    rw [e, List.length_append, List.length_cons, List.length_cons, Nat.add_mul]
    omega
theorem line_len {ah : List Nd} {nd : Nd} (ha : ah.length ≤ 12) (h : nodeP ah nd = 0) : (lineB nd).length ≤ 999 := by
  obtain ⟨hk, hf, -, hn, -, -, -⟩ := node_ok ha h
  have h4 := node_fs ha h
  have htx := node_tx ha h
  have e : nd.tx.data.toList.length = nd.tx.size := Array.length_toList
  have hnl : (nameP nd.k).length ≤ 6 := by rcases kinds hk.1 hk.2 with h | h | h | h | h | h | h | h | h | h <;> rw [h] <;> decide
  have hw : ∀ x ∈ wordsB nd, x.length ≤ 120 := by
    intro x hx
    unfold wordsB at hx
    rw [List.mem_append, List.mem_append] at hx
    rcases hx with (hx | hx) | hx
    · obtain ⟨f, hf1, rfl⟩ := List.mem_map.1 hx
      have := hf f hf1
      have := Lib.itoa_length_le f (by omega) (by omega)
      omega
    · split at hx
      · simp at hx; subst hx
        have := Lib.itoa_length_le nd.n (by omega) (by omega)
        omega
      · simp at hx
    · split at hx
      · simp at hx; subst hx; simp at *; omega
      · simp at hx
  have hc : (wordsB nd).length ≤ 6 := by
    unfold wordsB
    rw [List.length_append, List.length_append, List.length_map]
    have a1 : (if hasNP nd.k = true then [Lib.itoa nd.n] else []).length ≤ 1 := by split <;> simp
    have a2 : (if hasTP nd.k = true then [nd.tx.data.toList] else []).length ≤ 1 := by split <;> simp
    omega
  have hj := join_bound hw
  have := Nat.mul_le_mul_right (120 + 1) hc
  unfold lineB
  rw [List.length_append]
  omega
theorem print_len {L : List Nd} (hl : L.length ≤ 12) (h : allP [] L = 0) : ∀ j, j ≤ L.length → (printB (L.take j)).length ≤ j * 1000
  | 0, _ => by simp [printB]
  | j + 1, hj => by
    have h1 := print_len hl h j (by omega)
    have hj' : j < L.length := by omega
    have h2 := line_len (by rw [List.length_take]; omega) (all_at h j hj')
    rw [List.take_succ_eq_append_getElem hj']
    unfold printB at *
    rw [List.flatMap_append, List.length_append]
    simp only [List.flatMap_cons, List.flatMap_nil, List.append_nil, List.length_append, List.length_cons, List.length_nil]
    omega
theorem print_snoc (L : List Nd) (nd : Nd) : printB (L ++ [nd]) = printB L ++ (lineB nd ++ [10]) := by
  unfold printB; rw [List.flatMap_append]; simp
end Go.Proofs.YtiadlnjmlgnehacGreatDoor
