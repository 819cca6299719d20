/- Lines that are checked. -/
import Derived.Test.YthcgjbpiiodlgaaDoorAa
import Derived.Test.YthcgjbpiiodlgaaDoorPureQd
namespace Go.Proofs.YthcgjbpiiodlgaaDoor
open Go.RowKit Mp
set_option linter.unusedVariables false

theorem ln_at {w : World} {la : Option Addr} {L : List Ln} (h : LnsAt w la L) (k : Nat) (hk : k < L.length) : ∃ b o fa fc, la = some ⟨b, o, none⟩ ∧ w.cell? ⟨b, o + k * 2, none⟩ = some (.string L[k].1) ∧ w.cell? ⟨b, o + k * 2 + 1, none⟩ = some (.slice fa L[k].2.length fc) ∧ IntsAt w fa L[k].2 ∧ L[k].2.length ≤ fc ∧ fc ≤ 9223372036854775807 ∧ L[k].1.size ≤ 9223372036854775807 := by
  rcases h with h | ⟨b, o, rfl, hc⟩
  · subst h; simp at hk
  · obtain ⟨h0, ⟨fa, fc, h1, h2, h3, h4⟩, h5⟩ := hc k hk
    exact ⟨b, o, fa, fc, rfl, h0, h1, h2, h3, h4, h5⟩
end Go.Proofs.YthcgjbpiiodlgaaDoor
