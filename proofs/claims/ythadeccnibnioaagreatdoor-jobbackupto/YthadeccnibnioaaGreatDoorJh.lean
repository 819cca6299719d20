/- Rows of numbers, each in a block of its own, behind one block of slices. -/
import Derived.Test.YthadeccnibnioaaGreatDoorJg
import Derived.Test.YthadeccnibnioaaGreatDoorHp
import Derived.Deep.OwnRows
import Derived.Deep.AppendLies
namespace Go.Proofs.YthadeccnibnioaaGreatDoor
open Go.RowKit

structure UsI (w : World) (B U n : Nat) (V : Nat → Value) (F : Nat → List Int) : Prop where
  base : B ≤ U
  lt : U < w.heap.size
  cell : ∀ i, i < n → w.cell? ⟨U, i, none⟩ = some (V i)
  fz : ∀ i, w.frozen? ⟨U, i, none⟩ = false
  row : ∀ i, i < n → w.ownsRow B 3 1 (V i) (F i).length (iv (F i))
  ne : ∀ i, i < n → (V i).ownBlock ≠ some U
  apart : ∀ i k, i < n → k < n → i ≠ k → (V i).ownBlock = none ∨ (V i).ownBlock ≠ (V k).ownBlock

theorem ownsRow_of_block {w w' : World} {base e size n : Nat} {v : Value} {xs : List Value} (h : w.ownsRow base e size v n xs) (hb : ∀ g, v.ownBlock = some g → w'.heap[g]? = w.heap[g]?) : w'.ownsRow base e size v n xs := by
  refine ⟨h.1, ?_⟩
  rcases h.2 with hn | ⟨g, cap, cur, rfl, hb1, hgg, rest⟩
  · exact .inl hn
  · exact .inr ⟨g, cap, cur, rfl, hb1, by rw [hb g rfl]; exact hgg, rest⟩

theorem UsI.keep {w w' : World} {B U n : Nat} {V : Nat → Value} {F : Nat → List Int} (h : UsI w B U n V F) (hb : Below w.heap.size w w') : UsI w' B U n V F := by
  refine ⟨h.base, Nat.lt_of_lt_of_le h.lt hb.size, fun i hi => ?_, fun i => ?_, fun i hi => ?_, h.ne, h.apart⟩
  · rw [World.cell?_of_block (w := w) (hb.block U h.lt)]; exact h.cell i hi
  · rw [World.frozen?_of_block (w := w) (hb.block U h.lt)]; exact h.fz i
  · exact ownsRow_of_block (h.row i hi) (fun g hg => hb.block g ((h.row i hi).lt g hg).2)

theorem UsI.congr {w : World} {B U n : Nat} {V : Nat → Value} {F G : Nat → List Int} (h : UsI w B U n V F) (hFG : ∀ i, i < n → G i = F i) : UsI w B U n V G :=
  ⟨h.base, h.lt, h.cell, h.fz, fun i hi => by rw [hFG i hi]; exact h.row i hi, h.ne, h.apart⟩

theorem UsI.put {w w1 : World} {B U n x g cap : Nat} {V : Nat → Value} {F : Nat → List Int} {z : Int} (h : UsI w B U n V F) (hx : x < n)
    (hown : w1.ownsRow B 3 1 (.slice (some ⟨g, 0, none⟩) ((F x).length + 1) cap) ((F x).length + 1) (iv (F x) ++ [.int .i64 z])) (hgr : w.grownBy w1 (V x).ownBlock) (hg : (V x).ownBlock = some g ∨ g = w.heap.size) :
    UsI (w1.setCell ⟨U, x, none⟩ (.slice (some ⟨g, 0, none⟩) ((F x).length + 1) cap)) B U n (fun i => if i = x then .slice (some ⟨g, 0, none⟩) ((F x).length + 1) cap else V i) (fun i => if i = x then F x ++ [z] else F i) := by
  have hU := h.lt
  have hgU : g ≠ U := by
    rcases hg with hg | hg
    · intro e; exact h.ne x hx (by rw [hg, e])
    · omega
  have hUne : some U ≠ (V x).ownBlock := fun e => h.ne x hx e.symm
  have hb1 : w1.heap[U]? = w.heap[U]? := hgr.block U hU hUne
  have hs1 := hgr.size
  have hcell1 : ∀ i, i < n → w1.cell? ⟨U, i, none⟩ = some (V i) := fun i hi => by rw [World.cell?_of_block (w := w) hb1]; exact h.cell i hi
  have hfz1 : ∀ i, w1.frozen? ⟨U, i, none⟩ = false := fun i => by rw [World.frozen?_of_block (w := w) hb1]; exact h.fz i
  have hrow1 : ∀ i, i < n → i ≠ x → w1.ownsRow B 3 1 (V i) (F i).length (iv (F i)) := fun i hi hne => (h.row i hi).kept hgr (h.apart i x hi hx hne)
  refine ⟨h.base, by simp; omega, fun i hi => ?_, fun i => ?_, fun i hi => ?_, fun i hi => ?_, fun i k hi hk hik => ?_⟩
  · by_cases he : i = x
    · subst he; rw [if_pos rfl]; exact World.cell?_setCell_same _ _ _ (hcell1 i hi)
    · rw [if_neg he, World.cell?_setCell_other _ _ _ _ (fun e => he (by injection e with _ e2; exact e2.symm))]; exact hcell1 i hi
  · rw [World.frozen?_setCell]; exact hfz1 i
  · by_cases he : i = x
    · subst he
      simp only [if_true]
      rw [iv_snoc]
      have := ownsRow_of_block (w' := w1.setCell ⟨U, i, none⟩ (.slice (some ⟨g, 0, none⟩) ((F i).length + 1) cap)) hown (fun g' hg' => by
        have e : g' = g := by simpa [Value.ownBlock] using hg'.symm
        subst e; exact Below.heap_setCell _ _ _ _ hgU)
      simpa using this
    · simp only [if_neg he]
      exact ownsRow_of_block (hrow1 i hi he) (fun g' hg' => Below.heap_setCell _ _ _ _ (fun e => h.ne i hi (by rw [hg', e])))
  · by_cases he : i = x
    · subst he; simp only [if_true]; simp [Value.ownBlock]; exact hgU
    · simp only [if_neg he]; exact h.ne i hi
  · by_cases he : i = x
    · by_cases hk2 : k = x
      · omega
      · subst he
        simp only [if_true, if_neg hk2]
        right
        rcases hg with hg | hg
        · have := h.apart k i hk hi (by omega)
          rcases this with t | t
          · rw [t]; simp [Value.ownBlock]
          · rw [hg] at t; simp [Value.ownBlock]; exact fun e => t e.symm
        · simp [Value.ownBlock]
          intro e
          have := ((h.row k hk).lt g e.symm).2
          omega
    · simp only [if_neg he]
      by_cases hk2 : k = x
      · subst hk2
        simp only [if_true]
        rcases hg with hg | hg
        · have := h.apart i k hi hk hik
          rcases this with t | t
          · exact .inl t
          · right; rw [hg] at t; simpa [Value.ownBlock] using t
        · right
          intro e
          have := ((h.row i hi).lt g (by rw [e]; rfl)).2
          omega
      · simp only [if_neg hk2]; exact h.apart i k hi hk hik

theorem UsI.start {w : World} {B n : Nat} (hB : B ≤ w.heap.size) : UsI (w.alloc (.cells (madeCells #[.slice none 0 0] n) 41)) B w.heap.size n (fun _ => .slice none 0 0) (fun _ => []) := by
  refine ⟨hB, by simp, fun i hi => ?_, fun i => ?_, fun i hi => ?_, fun i hi => by simp [Value.ownBlock], fun i k _ _ _ => .inl (by simp [Value.ownBlock])⟩
  · rw [World.cell?_alloc_new]; simp [madeCells, hi, Nat.mod_one]
  · exact World.frozen?_alloc_new _ _ _ _
  · exact World.ownsRow_nil _ _ _ _
end Go.Proofs.YthadeccnibnioaaGreatDoor
