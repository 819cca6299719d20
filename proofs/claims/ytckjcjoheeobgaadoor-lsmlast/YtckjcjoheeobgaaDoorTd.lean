/- Some entries of a table; two lists of entries that are the same. -/
import Derived.Test.YtckjcjoheeobgaaDoorTc
namespace Go.Proofs.YtckjcjoheeobgaaDoor
open Go.RowKit

/-- Does an entry lie there? -/
def inE (low high : ByteArray) (e : En) : Bool := !decide (kl e < low.data.toList) && (high.data.toList.isEmpty || decide (kl e < high.data.toList))
theorem part_in (L : List En) (low high : ByteArray) : partE L low.data.toList high.data.toList = L.filter (inE low high) := rfl
theorem filt_snoc (p : En → Bool) (L : List En) (k : Nat) (h : k < L.length) : (L.take (k + 1)).filter p = (L.take k).filter p ++ if p L[k] = true then [L[k]] else [] := by
  rw [List.take_succ_eq_append_getElem h, List.filter_append]
  by_cases hp : p L[k] = true
  · rw [if_pos hp, List.filter_cons_of_pos hp]; rfl
  · rw [if_neg hp, List.filter_cons_of_neg hp]; rfl
theorem in_ways (low high : ByteArray) (key val : ByteArray) (dead : Bool) :
    (inE low high ⟨key, val, dead⟩ = false ∧ Op.bytesLess key.toList low.toList = true) ∨
    (inE low high ⟨key, val, dead⟩ = true ∧ Op.bytesLess key.toList low.toList = false ∧ high.toList.isEmpty = true) ∨
    (inE low high ⟨key, val, dead⟩ = true ∧ Op.bytesLess key.toList low.toList = false ∧ high.toList.isEmpty = false ∧ Op.bytesLess key.toList high.toList = true) ∨
    (inE low high ⟨key, val, dead⟩ = false ∧ Op.bytesLess key.toList low.toList = false ∧ high.toList.isEmpty = false ∧ Op.bytesLess key.toList high.toList = false) := by
  rw [bytesLess_eq, bytesLess_eq, Lib.toList_data, Lib.toList_data, Lib.toList_data]
  unfold inE kl
  simp only
  by_cases h1 : key.data.toList < low.data.toList
  · left; simp [h1]
  · right
    cases h2 : high.data.toList.isEmpty with
    | true => left; simp [h1]
    | false =>
      right
      by_cases h3 : key.data.toList < high.data.toList
      · left; simp [h1, h3]
      · right; simp [h1, h3]
theorem cell3_new (w : World) (a b c : Value) (t : TypeId) : ∀ j u, [a, b, c][j]? = some u → (w.alloc (.cells #[a, b, c] t)).cell? ((⟨w.heap.size, 0, none⟩ : Addr).add j) = some u := by
  intro j u hj
  match j, hj with
  | 0, hj => simp at hj; subst hj; simp [Addr.add]
  | 1, hj => simp at hj; subst hj; simp [Addr.add]
  | 2, hj => simp at hj; subst hj; simp [Addr.add]
theorem cell3_new2 (w : World) (o : Obj) (a b c : Value) (t : TypeId) : ∀ j u, [a, b, c][j]? = some u → ((w.alloc o).alloc (.cells #[a, b, c] t)).cell? ((⟨w.heap.size + 1, 0, none⟩ : Addr).add j) = some u := by
  intro j u hj
  have h := cell3_new (w.alloc o) a b c t j u hj
  rw [show (w.alloc o).heap.size = w.heap.size + 1 from by simp] at h
  exact h
theorem filt_le (p : En → Bool) (L : List En) (k : Nat) : ((L.take k).filter p).length ≤ L.length := Nat.le_trans (List.length_filter_le _ _) (by simp; omega)

/-- How Scan ends. -/
def ScEnd (w : World) (r : Option (List En)) (low high : ByteArray) (e : Ending) (w' : World) : Prop :=
  (match r with
   | none => e = .returned (.tuple #[.slice none 0 0, .iface 45 (.int .i64 9)])
   | some xs => ∃ v, e = .returned (.tuple #[v, .nilIface]) ∧ w'.ownsRow w.heap.size 38 3 v (xs.filter (inE low high)).length (ecells (xs.filter (inE low high)))) ∧ Below w.heap.size w w'
end Go.Proofs.YtckjcjoheeobgaaDoor
