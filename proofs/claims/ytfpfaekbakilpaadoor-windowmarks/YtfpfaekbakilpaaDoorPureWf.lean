/- The marks of one input; panes side by side do not lie over one another. Plain mathematics. -/
import Derived.Test.YtfpfaekbakilpaaDoorPureWe
namespace Go.Proofs.YtfpfaekbakilpaaDoor
set_option linter.unusedVariables false

def mkM (slack : Int) (l : List Rg) (t : Nat) : Int := (l.take t).foldl (fun m r => max m (r.tm - slack)) 0
theorem mkM_succ (slack : Int) (l : List Rg) (t : Nat) (h : t < l.length) : mkM slack l (t + 1) = max (mkM slack l t) (l[t].tm - slack) := by
  unfold mkM; rw [List.take_succ_eq_append_getElem h, List.foldl_append]; rfl
theorem mkAll_one (slack : Int) (l : List Rg) : ∀ t, t ≤ l.length → mkAll slack [l] t = ([mkM slack l t], (List.range t).map (fun j => mkM slack l (j + 1)))
  | 0, _ => rfl
  | t + 1, h => by
    have ih := mkAll_one slack l t (by omega)
    show mkTurn slack [l] t (mkAll slack [l] t) 1 = _
    rw [ih]
    have e : (([l] : List (List Rg)).getD 0 [])[t]? = some (l[t]'(by omega)) := by simp
    show (match (([l] : List (List Rg)).getD 0 [])[t]? with | some r => mkStep slack ([mkM slack l t], (List.range t).map (fun j => mkM slack l (j + 1))) 0 r.tm | none => ([mkM slack l t], (List.range t).map (fun j => mkM slack l (j + 1)))) = _
    rw [e]
    simp only [mkStep]
    rw [List.range_succ, List.map_append]
    have em := mkM_succ slack l t (by omega)
    simp [minL, em]
theorem least_one (slack : Int) (l : List Rg) : leastP slack [l] = (List.range l.length).map (fun j => mkM slack l (j + 1)) := by
  unfold leastP
  have e : longL [l] = l.length := by simp [longL]
  rw [e, mkAll_one slack l l.length (Nat.le_refl _)]
theorem least_none (slack : Int) : leastP slack [] = [] := rfl
theorem mkM_mono (slack : Int) (l : List Rg) (t : Nat) (h : t < l.length) : mkM slack l t ≤ mkM slack l (t + 1) := by
  rw [mkM_succ slack l t h]; omega
/-- Neighbours of one key. -/
theorem side_apart {size : Int} (h1 : 1 ≤ size) {p q : Pn} (hp : p.fr % size = 0) (hq : q.fr % size = 0) (ht : p.to = p.fr + size) (h : Ah p q) (hk : p.key = q.key) : p.to ≤ q.fr := by
  have hlt : p.fr < q.fr := by
    rcases h with h | ⟨-, h⟩
    · rw [hk] at h; exact absurd h (List.lt_irrefl _)
    · exact h
  have e1 := Int.mul_ediv_add_emod p.fr size
  have e2 := Int.mul_ediv_add_emod q.fr size
  rw [hp, Int.add_zero] at e1
  rw [hq, Int.add_zero] at e2
  have : p.fr / size < q.fr / size := by
    apply Int.not_le.1
    intro hle
    have := Int.mul_le_mul_of_nonneg_left hle (show (0 : Int) ≤ size by omega)
    omega
  have h3 : size * (p.fr / size + 1) ≤ size * (q.fr / size) := Int.mul_le_mul_of_nonneg_left (by omega) (by omega)
  rw [Int.mul_add, Int.mul_one] at h3
  omega
end Go.Proofs.YtfpfaekbakilpaaDoor
