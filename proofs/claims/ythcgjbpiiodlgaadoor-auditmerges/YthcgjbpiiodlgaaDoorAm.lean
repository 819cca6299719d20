/- Keys in a row: sorted; each once. -/
import Derived.Test.YthcgjbpiiodlgaaDoorAl
import Derived.Test.YthcgjbpiiodlgaaDoorShelf
import Derived.Test.YthcgjbpiiodlgaaDoorPureQe
namespace Go.Proofs.YthcgjbpiiodlgaaDoor
open Go.RowKit Mp Go.Sort
set_option linter.unusedVariables false

/-- Keys in a row, which nothing shares. -/
structure SrtAt (w : World) (v : Value) (zs : List Bs) : Prop where
  f : (v = .slice none 0 0 ∧ zs = []) ∨ ∃ g o cap, v = .slice (some ⟨g, o, none⟩) zs.length cap ∧ zs.length ≤ cap ∧ Holds encStr w g o zs.toArray ∧ g < w.heap.size
theorem SrtAt.cs {w : World} {A : Option Addr} {n c : Nat} {zs : List Bs} (h : SrtAt w (.slice A n c) zs) : CsAt w A (zs.map encStr) := by
  rcases h.f with ⟨_, rfl⟩ | ⟨g, o, cap, hv, _, hH, _⟩
  · exact .inl rfl
  · injection hv with e1 e2 e3
    subst e1
    refine .inr ⟨g, o, rfl, fun j u hu => ?_⟩
    rw [List.getElem?_map] at hu
    cases hz : zs[j]? with
    | none => rw [hz] at hu; cases hu
    | some z =>
      rw [hz] at hu
      injection hu with hu
      subst hu
      obtain ⟨hj, hz⟩ := List.getElem?_eq_some_iff.1 hz
      obtain ⟨h1, -⟩ := hH j (by simpa using hj)
      rw [h1]
      simp [hj, hz]
theorem rw_srt {w : World} {v : Value} {n : Nat} {zs : List Bs} (h : RwAt w 9 1 v n (zs.map encStr)) (hn : n = zs.length) : SrtAt w v zs := by
  subst hn
  obtain ⟨A, c, rfl, -, -⟩ := h.slice
  rcases h.2 with ⟨hv, h0⟩ | ⟨g, o, cap, cur, hv, h2, h3, h4, h5, h6⟩
  · exact ⟨.inl ⟨hv, List.eq_nil_of_length_eq_zero h0⟩⟩
  · refine ⟨.inr ⟨g, o, cap, hv, h3, fun j hj => ?_, (Array.getElem?_eq_some_iff.1 h2).1⟩⟩
    have hj' : j < zs.length := by simpa using hj
    injection hv with e1 e2 e3
    subst e1
    rcases h.cells with h0 | ⟨b, o', e, hc⟩
    · have : (zs.map encStr).length = 0 := by rw [h0]; rfl
      simp at this; subst this; simp at hj'
    · injection e with e
      injection e with e1 e2 _
      subst e1; subst e2
      refine ⟨?_, by simp [World.frozen?, h2]⟩
      rw [hc j (encStr zs[j]) (by simp [hj'])]
      simp [hj']
/-- Only its own block has turned. -/
def OwnFr (v : Value) (w w' : World) : Prop := ∀ xs : List Nat, (∀ b, v.ownBlock = some b → b ∈ xs) → Fr xs w w'
theorem OwnFr.below {v : Value} {w0 w w' : World} (h : OwnFr v w w') (hb : Below w0.heap.size w0 w) (hv : ∀ b, v.ownBlock = some b → w0.heap.size ≤ b) : Below w0.heap.size w0 w' := by
  cases hx : v.ownBlock with
  | none => exact Fr.onto hb (h [] (fun b e => by rw [hx] at e; cases e)) (by simp)
  | some b => exact Fr.onto hb (h [b] (fun c e => by rw [hx] at e; injection e with e; simp [e])) (by simpa using hv b hx)
theorem fr_putRow (w : World) (n g o : Nat) (d : Array Bs) (xs : List Nat) (hg : g ∈ xs) : Fr xs w (putRow encStr (Sort.ahead w n) g o d) :=
  ⟨rfl, rfl, rfl, by simp, fun k hk hx => by
    simp only [putRow, mapBlock, heap_ahead, Array.getElem?_modify]
    rw [if_neg (show ¬ g = k from fun e => hx (e ▸ hg))]⟩
theorem fr_grow {xs : List Nat} {w w1 : World} (h : Fr xs w w1) (os : Array Obj) : Fr xs w (grow w1 os) :=
  ⟨h.os, h.tape, h.output, by have := h.size; simp; omega, fun k hk hx => by rw [heap_grow_old w1 os (Nat.lt_of_lt_of_le hk h.size)]; exact h.block k hk hx⟩
theorem sort_any (w : World) (v : Value) (zs : List Bs) (h : SrtAt w v zs) (hl : zs.length < 4611686018427387904) :
    Calls Tryd.prog 29 #[v] w fun e w' => e = .returned (.tuple #[]) ∧ SrtAt w' v (sortB zs) ∧ OwnFr v w w' := by
  rcases h.f with ⟨rfl, rfl⟩ | ⟨g, o, cap, rfl, hc, hH, hg⟩
  · refine (Tryd.slices_Sort_string_none none 0 w).mono ?_
    rintro e w' ⟨rfl, rfl⟩
    exact ⟨rfl, ⟨.inl ⟨rfl, by simp [sortB]⟩⟩, fun xs _ => Fr.refl _ _⟩
  · refine (Tryd.slices_Sort_string g o cap zs w hH hg hl).mono ?_
    rintro e w' ⟨rfl, n, os, rfl⟩
    have hs : (sortB zs).toArray.size = zs.toArray.size := by simp [sortB_len]
    refine ⟨rfl, ⟨.inr ⟨g, o, cap, by rw [sortB_len], by rw [sortB_len]; exact hc, ?_, by simp; omega⟩⟩, fun xs hx => fr_grow (fr_putRow w n g o _ xs (hx g (by simp [Value.ownBlock]))) os⟩
    exact holds_grow encStr _ os g o _ (by simpa using hg) (holds_putRow encStr _ g o _ _ (holds_ahead encStr w n g o _ hH) hs)
theorem comp_any (w : World) (v : Value) (zs : List Bs) (h : SrtAt w v zs) (hl : zs.length ≤ 9223372036854775807) :
    Calls Tryd.prog 30 #[v] w fun e w' => ∃ A c, e = .returned (.slice A (Lib.compact zs).length c) ∧ CsAt w' A ((Lib.compact zs).map encStr) ∧ (Lib.compact zs).length ≤ c ∧ OwnFr v w w' := by
  rcases h.f with ⟨rfl, rfl⟩ | ⟨g, o, cap, rfl, hc, hH, hg⟩
  · refine (Tryd.slices_Compact_string_empty none 0 w).mono ?_
    rintro e w' ⟨rfl, rfl⟩
    exact ⟨none, 0, rfl, .inl rfl, Nat.le_refl _, fun xs _ => Fr.refl _ _⟩
  · refine (Tryd.slices_Compact_string g o cap zs w hH hl hc).mono ?_
    rintro e w' ⟨rfl, q, rfl⟩
    have hcl : (Lib.compact zs).length ≤ zs.length := by
      unfold Lib.compact Lib.compactUpTo
      rw [List.length_map]
      refine Nat.le_trans (List.length_filter_le _ _) (by simp)
    refine ⟨some ⟨g, o, none⟩, cap, rfl, .inr ⟨g, o, rfl, fun j u hu => ?_⟩, by omega, fun xs hx => fr_putRow w q g o _ xs (hx g (by simp [Value.ownBlock]))⟩
    rw [List.getElem?_map] at hu
    cases hz : (Lib.compact zs)[j]? with
    | none => rw [hz] at hu; cases hu
    | some z =>
      rw [hz] at hu
      injection hu with hu
      subst hu
      obtain ⟨hj, hz⟩ := List.getElem?_eq_some_iff.1 hz
      have hsz : (Lib.compact zs ++ List.replicate (zs.length - (Lib.compact zs).length) []).toArray.size = zs.toArray.size := by simp; omega
      have h1 := (holds_putRow encStr _ g o _ _ (holds_ahead encStr w q g o _ hH) hsz j (by rw [hsz]; simp; omega)).1
      rw [h1]
      simp [hj, hz, List.getElem?_append]
end Go.Proofs.YthcgjbpiiodlgaaDoor
