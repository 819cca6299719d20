/- What the walks of weirlaw1.GroupCrews share. -/
import Derived.Test.YtiofpimchbhfcaaDoorMoves
import Derived.Deep.QuietTactic
import Derived.BigQuiet
import Derived.Deep.DeepCutAuto
namespace Go.Proofs.YtiofpimchbhfcaaDoor
open Go.RowKit

theorem own_below {w w' : World} {B e size n : Nat} {v : Value} {xs : List Value} (h : w.ownsRow B e size v n xs) (hb : Below w.heap.size w w') : w'.ownsRow B e size v n xs := by
  refine ⟨h.1, ?_⟩
  rcases h.2 with h0 | ⟨g, cap, cur, rfl, h1, h2, h3⟩
  · exact .inl h0
  · have hlt : g < w.heap.size := by
      rcases Nat.lt_or_ge g w.heap.size with h | h
      · exact h
      · rw [Array.getElem?_eq_none h] at h2; cases h2
    exact .inr ⟨g, cap, cur, rfl, h1, (hb.block g hlt).trans h2, h3⟩
theorem own_form {w : World} {B e size n : Nat} {v : Value} {xs : List Value} (h : w.ownsRow B e size v n xs) : ∃ A cap, v = .slice A n cap := by
  rcases h.2 with ⟨rfl, rfl⟩ | ⟨g, cap, cur, rfl, _⟩
  · exact ⟨_, _, rfl⟩
  · exact ⟨_, _, rfl⟩
theorem own_some {w : World} {B e size n cap : Nat} {A : Option Addr} {xs : List Value} (h : w.ownsRow B e size (.slice A n cap) n xs) (hn : 0 < n) : ∃ g, A = some ⟨g, 0, none⟩ := by
  rcases h.2 with ⟨h0, h0'⟩ | ⟨g, cap', cur, h0, _⟩
  · omega
  · simp at h0; exact ⟨g, h0.1⟩
theorem three_at {w : World} {B n cap g : Nat} {l : List (Int × Int × Int)} (h : w.ownsRow B 35 3 (.slice (some ⟨g, 0, none⟩) n cap) n (mcells l)) (hn : l.length = n) (i : Nat) (hi : i < l.length) :
    w.cell? ⟨g, i * 3, none⟩ = some (.int .i64 l[i].1) ∧ w.cell? ⟨g, i * 3 + 1, none⟩ = some (.int .i64 l[i].2.1) ∧ w.cell? ⟨g, i * 3 + 2, none⟩ = some (.int .i64 l[i].2.2) := by
  obtain ⟨c0, c1, c2⟩ := mcells_at l i hi
  exact ⟨by rw [h.cellAt _ (by omega), c0], by rw [h.cellAt _ (by omega), c1], by rw [h.cellAt _ (by omega), c2]⟩
theorem Moves_form (p q : Int) (w : World) (l : List (Int × Int × Int)) (hl : l = mvs p q 16) (h1 : 1 ≤ p) (h2 : p ≤ 16) (h3 : 1 ≤ q) (h4 : q ≤ 16) :
    Calls Tryd.prog 13 #[.int .i64 p, .int .i64 q] w fun e w' => ∃ A cap, e = .returned (.tuple #[.slice A l.length cap, .nilIface]) ∧ w'.ownsRow w.heap.size 35 3 (.slice A l.length cap) l.length (mcells l) ∧ Below w.heap.size w w' := by
  refine (Moves_yes p q w h1 h2 h3 h4).mono ?_
  rintro e w' ⟨v, rfl, hown, hb⟩
  rw [← hl] at hown
  obtain ⟨A, cap, rfl⟩ := own_form hown
  exact ⟨A, cap, rfl, hown, hb⟩

end Go.Proofs.YtiofpimchbhfcaaDoor
