/- Records written and read. -/
import Derived.Test.YtiofpimchbhfcabFl
import Derived.Deep.RegionWith
namespace Go.Proofs.Ytiofpimchbhfcab
open Go.RowKit

theorem allB_snoc {α : Type} (f : α → List UInt8) (l : List α) (k : Nat) (h : k < l.length) : allB f (l.take (k + 1)) = allB f (l.take k) ++ f l[k] := by
  rw [List.take_succ_eq_append_getElem h, allB_append]; simp [allB]
theorem rcB_le {r : Rc} (h : OkRc r) (hk : r.key.size ≤ 40) : (rcB r).length ≤ 70 := by
  have h1 := num_ten (n := (r.key.size : Int)) (by omega) (by omega)
  have h2 := num_ten h.2.1.1 h.2.1.2
  have h3 := num_ten h.2.2.1 h.2.2.2
  have h4 := kB_len r.key
  unfold rcB
  simp only [List.length_append]
  omega
theorem allB_le {α : Type} (f : α → List UInt8) (m : Nat) : ∀ (l : List α), (∀ x ∈ l, (f x).length ≤ m) → (allB f l).length ≤ l.length * m
  | [], _ => by simp [allB]
  | x :: l, h => by
    have h1 := h x (by simp)
    have h2 := allB_le f m l (fun y hy => h y (by simp [hy]))
    simp only [allB, List.length_append, List.length_cons, Nat.add_mul]
    omega
theorem ok_key {L : List Rc} (h : recsE L = 0) : L.length ≤ 400 ∧ ∀ r ∈ L, r.key.size ≤ 40 := by
  unfold recsE at h
  split at h
  · cases h
  · split at h
    · cases h
    · rename_i h1 h2
      refine ⟨by omega, fun r hr => ?_⟩
      have : badRc r = false := by
        cases hb : badRc r with
        | false => rfl
        | true => exact absurd (List.any_eq_true.2 ⟨r, hr, hb⟩) h2
      simp [badRc] at this
      omega

/-- How Records and Helds end. -/
def WrEnd (w : World) (E : Nat) (l : List UInt8) (e : Ending) (w' : World) : Prop :=
  (if E = 0 then ∃ v, e = .returned (.tuple #[v, .nilIface]) ∧ Own w.heap.size w' v l else e = .returned (.tuple #[.slice none 0 0, .iface 54 (.int .i64 E)])) ∧ Below w.heap.size w w'

end Go.Proofs.Ytiofpimchbhfcab
