/- What strconv.Atoi with Itoa decides; words of a line by their blanks. -/
import Derived.Test.YtiadlnjmlgnehacGreatDoorPureBk
import Derived.Lib.AtoiAll
import Derived.Lib.IndexLaws
namespace Go.Proofs.YtiadlnjmlgnehacGreatDoor
open Go.Lib (decDigits itoa)
set_option linter.unusedVariables false
theorem dec_small : ∀ n : Nat, n < 1000 → decDigits n = if n < 10 then [UInt8.ofNat (48 + n)] else if n < 100 then [UInt8.ofNat (48 + n / 10), UInt8.ofNat (48 + n % 10)] else [UInt8.ofNat (48 + n / 100), UInt8.ofNat (48 + n / 10 % 10), UInt8.ofNat (48 + n % 10)] := by
  intro n hn
  rw [decDigits]
  by_cases h1 : n < 10
  · rw [dif_pos h1, if_pos h1]
  · rw [dif_neg h1, if_neg h1, decDigits]
    by_cases h2 : n < 100
    · rw [dif_pos (show n / 10 < 10 by omega), if_pos h2]; rfl
    · rw [dif_neg (show ¬ n / 10 < 10 by omega), if_neg h2, decDigits, dif_pos (show n / 10 / 10 < 10 by omega)]
      have : n / 10 / 10 = n / 100 := by omega
      rw [this]; rfl
def tri (n : Nat) : List UInt8 := if n < 10 then [UInt8.ofNat (48 + n)] else if n < 100 then [UInt8.ofNat (48 + n / 10), UInt8.ofNat (48 + n % 10)] else [UInt8.ofNat (48 + n / 100), UInt8.ofNat (48 + n / 10 % 10), UInt8.ofNat (48 + n % 10)]
def okAt (n : Nat) : Bool := match Lib.atoiAll (tri n) with
  | .ok v => v == (n : Int)
  | _ => false
theorem ok_all : ∀ n : Nat, n < 1000 → okAt n = true := by decide +kernel
theorem atoi_ito {n : Int} (h0 : 0 ≤ n) (h9 : n ≤ 999) : Lib.atoiAll (itoa n) = .ok n := by
  obtain ⟨m, rfl⟩ : ∃ m : Nat, n = m := ⟨n.toNat, by omega⟩
  rw [ito_nat, dec_small m (by omega)]
  have h := ok_all m (by omega)
  unfold okAt at h
  unfold tri at h
  split at h
  · rename_i v hv
    rw [hv]
    simp only [beq_iff_eq] at h
    rw [h]
  · cases h
/-- What readNumber answers beside yes or no. -/
theorem numR_yes {l : List UInt8} {v : Int} (h : Lib.atoiAll l = .ok v) (h0 : 0 ≤ v) (h9 : v ≤ 999) (e : itoa v = l) : numR l = some v := by
  subst e; exact numR_of h0 h9
theorem numR_no {l : List UInt8} (h : ∀ v, Lib.atoiAll l = .ok v → ¬ (0 ≤ v ∧ v ≤ 999 ∧ itoa v = l)) : numR l = none := by
  cases hn : numR l with
  | none => rfl
  | some n =>
    obtain ⟨h1, h2, h3⟩ := numR_some hn
    have := atoi_ito h2 h3
    rw [h1] at this
    exact absurd ⟨h2, h3, h1⟩ (h n this)
/-- The kinds' names by their places. -/
def nmN (k : Nat) : List UInt8 := nameP k
end Go.Proofs.YtiadlnjmlgnehacGreatDoor
