/- Lists of slices; cells behind a slice. -/
import Derived.Test.YthcgjbpiiodlgaaDoorAi
import Derived.Test.YthcgjbpiiodlgaaDoorPn
import Derived.Lib.AppendZerosOnto
namespace Go.Proofs.YthcgjbpiiodlgaaDoor
open Go.RowKit Mp
set_option linter.unusedVariables false

/-- Cells behind a slice. -/
def CsAt (w : World) (la : Option Addr) (cs : List Value) : Prop :=
  cs = [] ∨ ∃ b o, la = some ⟨b, o, none⟩ ∧ ∀ j u, cs[j]? = some u → w.cell? ⟨b, o + j, none⟩ = some u
theorem CsAt.keep {w w' : World} {la : Option Addr} {cs : List Value} (h : CsAt w la cs) (hb : Below w.heap.size w w') : CsAt w' la cs := by
  rcases h with h | ⟨b, o, rfl, hc⟩
  · exact .inl h
  · exact .inr ⟨b, o, rfl, fun j u hu => Keeps.of hb _ _ (hc j u hu)⟩
theorem info_parts {o : Option TypeInfo} {z : Option Value} {s b : Nat} (h : o.map (fun i => (i.zero, i.size, i.bytes)) = some (z, s, b)) : ∃ i, o = some i ∧ i.zero = z ∧ i.size = s ∧ i.bytes = b := by
  cases o with
  | none => cases h
  | some i => simp at h; exact ⟨i, rfl, h.1, h.2.1, h.2.2⟩
theorem below_grown {w0 u w1 : World} {v : Value} (h : Below w0.heap.size w0 u) (hg : u.grownBy w1 v.ownBlock) (hv : ∀ b, v.ownBlock = some b → w0.heap.size ≤ b) : Below w0.heap.size w0 w1 :=
  h.trans ⟨hg.os, hg.tape, hg.output, hg.size, fun k hk => hg.block k (Nat.lt_of_lt_of_le hk h.size) (fun e => by have := hv k e.symm; omega)⟩
/-- A slice as it came in. -/
structure Sl where
  at_ : Option Addr
  n : Nat
  cap : Nat
  cs : List Value
def slV (X : Sl) : Value := .slice X.at_ X.n X.cap
def allN (L : List Sl) : Nat := (L.map (·.n)).sum
def allC (L : List Sl) : List Value := (L.map (·.cs)).flatten
theorem allN_take (L : List Sl) (k : Nat) (h : k < L.length) : allN (L.take (k + 1)) = allN (L.take k) + L[k].n := by
  unfold allN
  rw [List.take_succ_eq_append_getElem h, List.map_append, List.sum_append]; simp
theorem allC_take (L : List Sl) (k : Nat) (h : k < L.length) : allC (L.take (k + 1)) = allC (L.take k) ++ L[k].cs := by
  unfold allC
  rw [List.take_succ_eq_append_getElem h, List.map_append, List.flatten_append]; simp
theorem allN_le (L : List Sl) (k : Nat) : allN (L.take k) ≤ allN L := by
  have : allN L = allN (L.take k) + allN (L.drop k) := by
    unfold allN
    rw [← List.sum_append, ← List.map_append, List.take_append_drop]
  omega
theorem sl_at {w : World} {la : Option Addr} {L : List Sl} (h : CsAt w la (L.map slV)) (k : Nat) (hk : k < L.length) : ∃ b o, la = some ⟨b, o, none⟩ ∧ w.cell? ⟨b, o + k, none⟩ = some (slV L[k]) := by
  rcases h with h | ⟨b, o, rfl, hc⟩
  · have : (L.map slV).length = 0 := by rw [h]; rfl
    simp at this; subst this; simp at hk
  · exact ⟨b, o, rfl, hc k _ (by simp [hk])⟩
/-- A row that a thing owns, made new. -/
def Made (w0 w : World) (e : TypeId) (size : Nat) (v : Value) (n : Nat) (xs : List Value) : Prop := RwAt w e size v n xs ∧ (∀ b, v.ownBlock = some b → w0.heap.size ≤ b) ∧ Below w0.heap.size w0 w
theorem src_cs {u : World} {P : Program} {ty e : TypeId} {size : Nat} (hk : P.underlying ty = some (.slice e)) {A : Option Addr} {n c : Nat} {cs : List Value} (h : CsAt u A cs) (hn : cs.length = n * size) (hs : 0 < size) (h1 : ∀ x ∈ cs, x.oneCell' = true) : Src P size ty (.slice A n c) n cs u := by
  cases A with
  | none =>
    have h0 : cs = [] := by
      rcases h with h | ⟨b, o, h, -⟩
      · exact h
      · cases h
    subst h0
    have h2 : n = 0 := by
      rcases Nat.eq_zero_or_pos n with h' | h'
      · exact h'
      · exfalso
        have := Nat.mul_pos h' hs
        rw [← hn] at this
        simp at this
    subst h2
    exact Src.ofNil u hk c
  | some a =>
    refine Src.ofSlice u hk a n c cs hn (fun j x hj => ?_) h1
    rcases h with h | ⟨b, o, h, hc⟩
    · rw [h] at hj; simp at hj
    · injection h with h
      subst h
      rw [add_off]; exact hc j x hj
end Go.Proofs.YthcgjbpiiodlgaaDoor
