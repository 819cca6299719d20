/- The records of several inputs, one behind the other. -/
import Derived.Test.YtppkjiihmlphbaaGreatDoorPureL
namespace Go.Proofs.YtppkjiihmlphbaaGreatDoor

theorem tag_append : ∀ (a b : List (List Rc)) (k : Nat), tagP k (a ++ b) = tagP k a ++ tagP (k + a.length) b
  | [], b, k => by simp [tagP]
  | x :: a, b, k => by
    simp only [List.cons_append, tagP, tag_append a b (k + 1), List.append_assoc, List.length_cons]
    rw [show k + 1 + a.length = k + (a.length + 1) from by omega]
/-- What has come when so many of an input have. -/
def preP (G : List (List Rc)) (i j : Nat) : List (Rc × Int) := tagP 0 (G.take i) ++ ((G.getD i []).take j).map fun x => (x, (i : Int))
theorem pre_zero (G : List (List Rc)) : preP G 0 0 = [] := by simp [preP, tagP]
theorem pre_step {G : List (List Rc)} {i j : Nat} (hi : i < G.length) (hj : j < G[i].length) : preP G i (j + 1) = preP G i j ++ [(G[i][j], (i : Int))] := by
  have e : G.getD i [] = G[i] := by simp [List.getD, hi]
  unfold preP
  rw [e, List.take_succ_eq_append_getElem hj, List.map_append, List.append_assoc]; rfl
theorem pre_next {G : List (List Rc)} {i : Nat} (hi : i < G.length) : preP G i G[i].length = preP G (i + 1) 0 := by
  have e : G.getD i [] = G[i] := by simp [List.getD, hi]
  unfold preP
  rw [e, List.take_length, List.take_succ_eq_append_getElem hi, tag_append]
  simp [tagP]
  omega
theorem pre_end (G : List (List Rc)) : preP G G.length 0 = tagP 0 G := by simp [preP]
theorem pre_split {G : List (List Rc)} {i j : Nat} (hi : i < G.length) : ∃ ys, tagP 0 G = preP G i j ++ ys := by
  have e : G.getD i [] = G[i] := by simp [List.getD, hi]
  refine ⟨(G[i].drop j).map (fun x => (x, (i : Int))) ++ tagP (i + 1) (G.drop (i + 1)), ?_⟩
  unfold preP
  have h1 : G = G.take i ++ G[i] :: G.drop (i + 1) := by simp
  conv => lhs; rw [h1, tag_append]
  have hl : (G.take i).length = i := by simp; omega
  rw [hl, Nat.zero_add, tagP, e, List.append_assoc]
  congr 1
  rw [← List.append_assoc, ← List.map_append, List.take_append_drop]
theorem tag_mem : ∀ (G : List (List Rc)) (k : Nat) (x : Rc × Int), x ∈ tagP k G → ∃ l ∈ G, x.1 ∈ l
  | [], k, x, h => by simp [tagP] at h
  | l :: G, k, x, h => by
    simp only [tagP, List.mem_append, List.mem_map] at h
    rcases h with ⟨y, hy, rfl⟩ | h
    · exact ⟨l, by simp, hy⟩
    · obtain ⟨l', h1, h2⟩ := tag_mem G (k + 1) x h
      exact ⟨l', by simp [h1], h2⟩
theorem pre_mem {G : List (List Rc)} {i j : Nat} (x : Rc × Int) (h : x ∈ preP G i j) : ∃ l ∈ G, x.1 ∈ l := by
  unfold preP at h
  rcases List.mem_append.1 h with h | h
  · obtain ⟨l, h1, h2⟩ := tag_mem _ _ _ h
    exact ⟨l, List.mem_of_mem_take h1, h2⟩
  · obtain ⟨y, hy, rfl⟩ := List.mem_map.1 h
    have hy' := List.mem_of_mem_take hy
    by_cases hi : i < G.length
    · have e : G.getD i [] = G[i] := by simp [List.getD, hi]
      rw [e] at hy'
      exact ⟨G[i], List.getElem_mem hi, hy'⟩
    · have e : G.getD i [] = [] := by simp [List.getD, Nat.le_of_not_lt hi]
      rw [e] at hy'; simp at hy'
theorem tag_len : ∀ (G : List (List Rc)) (k N : Nat), (∀ l ∈ G, l.length ≤ N) → (tagP k G).length ≤ G.length * N
  | [], k, N, h => by simp [tagP]
  | l :: G, k, N, h => by
    have h1 := tag_len G (k + 1) N (fun x hx => h x (by simp [hx]))
    have h2 := h l (by simp)
    simp only [tagP, List.length_append, List.length_map, List.length_cons]
    rw [Nat.add_mul]; omega
theorem cop_len (r : Rc) (m : Int) : (copP r m).length ≤ 67108863 := by
  unfold copP
  split
  · simp
  · rename_i h; simp; omega
theorem app_len (nd : Nd) (st : Hd) (has : Bool) (r : Rc) (i : Int) : (appP nd st has r i).1.length ≤ 67108863 := by
  unfold appP
  simp only
  split
  · exact cop_len _ _
  · exact cop_len _ _
theorem hand_none {nd : Nd} {G : List (List Rc)} {i j : Nat} (hi : i < G.length) (h : 2000 < (runP nd (preP G i j)).1.length) : handP nd G = none := by
  obtain ⟨ys, e⟩ := pre_split (j := j) hi
  have := run_len nd (preP G i j) ys
  unfold handP
  rw [if_pos (by rw [e]; omega)]
theorem hand_some {nd : Nd} {G : List (List Rc)} (h : ¬ 2000 < (runP nd (preP G G.length 0)).1.length) : handP nd G = some (runP nd (preP G G.length 0)).1 := by
  rw [pre_end] at h ⊢
  unfold handP
  rw [if_neg h]
theorem hand_ok {nd : Nd} {G : List (List Rc)} (hG : ∀ l ∈ G, ∀ r ∈ l, RcOk r) {o : List Rc} (h : handP nd G = some o) : (∀ r ∈ o, RcOk r) ∧ o.length ≤ 2000 := by
  unfold handP at h
  split at h
  · cases h
  · injection h with h
    subst h
    refine ⟨(run_ok nd _ (fun x hx => ?_)).1, by omega⟩
    obtain ⟨l, h1, h2⟩ := tag_mem _ _ _ hx
    exact hG l h1 _ h2
end Go.Proofs.YtppkjiihmlphbaaGreatDoor
