/- What all nodes hand on: node by node. -/
import Derived.Test.YtppkjiihmlphbaaGreatDoorPureM
import Derived.Test.YtppkjiihmlphbaaGreatDoorPureU
namespace Go.Proofs.YtppkjiihmlphbaaGreatDoor

def srcs (L : List Nd) : Nat := (L.filter fun nd => nd.k == 1).length
theorem srcs_cons (nd : Nd) (L : List Nd) : srcs (nd :: L) = (if nd.k = 1 then 1 else 0) + srcs L := by
  unfold srcs
  rw [List.filter_cons]
  by_cases h : nd.k = 1
  · simp [h]; omega
  · simp [h]
theorem of_len (L : List Nd) (k : Int) : (ofP L k).length = (L.filter fun nd => nd.k == k).length := by
  have h : ∀ R : List Nd, (ofP R.reverse k).length = (R.reverse.filter fun nd => nd.k == k).length := by
    intro R
    induction R with
    | nil => rfl
    | cons x R ih =>
      rw [List.reverse_cons, of_grow, List.length_append, List.filter_append, List.length_append, ih]
      congr 1
      by_cases hx : x.k == k <;> simp [hx]
  have := h L.reverse
  rwa [List.reverse_reverse] at this
/-- What a node gets of those that handed on. -/
def fromsP (nd : Nd) (hs : List (List Rc)) : List (List Rc) := nd.fs.map fun f => hs.getD f.toNat []
theorem got_src {nd : Nd} {D hs : List (List Rc)} (h : nd.k = 1) : gotP nd D hs = D.take 1 := by unfold gotP; rw [if_pos h]
theorem got_oth {nd : Nd} {D hs : List (List Rc)} (h : nd.k ≠ 1) : gotP nd D hs = fromsP nd hs := by unfold gotP; rw [if_neg h]; rfl
theorem got_mem {nd : Nd} {D hs : List (List Rc)} {l : List Rc} (h : l ∈ gotP nd D hs) : l ∈ D ∨ l ∈ hs ∨ l = [] := by
  unfold gotP at h
  split at h
  · exact .inl (List.mem_of_mem_take h)
  · obtain ⟨f, -, rfl⟩ := List.mem_map.1 h
    right
    by_cases hf : f.toNat < hs.length
    · left; simp [List.getD, hf]
    · right; simp [List.getD, Nat.le_of_not_lt hf]
theorem rest_mem {nd : Nd} {D : List (List Rc)} {l : List Rc} (h : l ∈ restP nd D) : l ∈ D := by
  unfold restP at h
  split at h
  · exact List.mem_of_mem_drop h
  · exact h
end Go.Proofs.YtppkjiihmlphbaaGreatDoor
