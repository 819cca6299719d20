/- The calls as a law sees them; KeepAny's walk. -/
import Derived.Test.YtcmnijpcinmbbaaGreatDoorPh
import Derived.Test.YtcmnijpcinmbbaaGreatDoorPureKs
namespace Go.Proofs.YtcmnijpcinmbbaaGreatDoor
open Go.RowKit
set_option linter.unusedVariables false
/-- A disk with pictures, in memory. -/
structure KpS (lo : Nat) (w : World) (B M : Nat) (uv : Value) (d : Ds) (n : Nat) (P : Pc) : Prop where
  dk : DkS lo w B M uv d n
  kp : KpD d P
  tab : KT lo w
section
variable {lo : Nat} {w : World} {B M : Nat} {uv : Value} {d : Ds} {n : Nat} {P : Pc}
theorem KpS.keep (h : KpS lo w B M uv d n P) {w' : World} (hb : Below w.heap.size w w') : KpS lo w' B M uv d n P := ⟨h.dk.keep hb, h.kp, h.tab.on (hb.mono h.dk.lole)⟩
theorem KpS.step (h : KpS lo w B M uv d n P) {r : Int × Ds} {e : Ending} {w' : World} {n' : Nat} (hs : StepEnd lo w B M uv n' r e w') {P' : Pc} (hk : KpD r.2 P') : e = .returned (erV r.1) ∧ ∃ uv', KpS lo w' B M uv' r.2 n' P' ∧ FrD B M uv w w' ∧ Nxt w uv uv' ∧ Below lo w w' := by
  obtain ⟨h1, uv', h2, h3, h4⟩ := hs
  have hb := h3.low h.dk
  exact ⟨h1, uv', ⟨h2, hk, h.tab.on hb⟩, h3, h4, hb⟩
theorem lat_some (h : KpS lo w B M uv d n P) (hn : n ≤ 1000000) {r : List Int} {m : Int} {x : List UInt8} (hl : IdsIs P (r ++ [m])) (hx : P m = some x) :
    Calls Tryz.prog 9 #[.pointer (some ⟨B, 0, none⟩)] w fun e w' => ∃ A c, e = .returned (.tuple #[.int .i64 m, .slice A x.length c, .nilIface]) ∧ BsAt w' A x ∧ Below w.heap.size w w' := by
  refine (latest_any h.dk h.kp.kp h.tab hn).mono ?_
  rintro e w' ⟨hb, ⟨h0, -⟩ | ⟨r', m', x', v, h1, h2, rfl, h4⟩⟩
  · have := h0.unique hl; simp at this
  · have e := h1.unique hl
    have e2 := List.append_inj' e rfl
    simp at e2
    obtain ⟨-, rfl⟩ := e2
    rw [hx] at h2
    injection h2 with h2
    subst h2
    obtain ⟨A, c, rfl⟩ := own_slice h4
    exact ⟨A, c, rfl, (own_bs h4 rfl).1, hb⟩
theorem lat_none (h : KpS lo w B M uv d n P) (hn : n ≤ 1000000) (hl : IdsIs P []) :
    Calls Tryz.prog 9 #[.pointer (some ⟨B, 0, none⟩)] w fun e w' => e = .returned (.tuple #[.int .i64 0, .slice none 0 0, .iface 47 (.int .i64 6)]) ∧ Below w.heap.size w w' := by
  refine (latest_any h.dk h.kp.kp h.tab hn).mono ?_
  rintro e w' ⟨hb, ⟨h0, rfl⟩ | ⟨r', m', x', v, h1, h2, rfl, h4⟩⟩
  · exact ⟨rfl, hb⟩
  · have := h1.unique hl; simp at this
theorem list_is (h : KpS lo w B M uv d n P) (hn : n ≤ 1000000) {l : List Int} (hl : IdsIs P l) :
    Calls Tryz.prog 11 #[.pointer (some ⟨B, 0, none⟩)] w fun e w' => ∃ A c, e = .returned (.slice A l.length c) ∧ OwnI w.heap.size w' (.slice A l.length c) l ∧ (l ≠ [] → ∃ g, A = some ⟨g, 0, none⟩ ∧ w.heap.size ≤ g ∧ g < w'.heap.size ∧ ∀ i (hi : i < l.length), w'.cell? ⟨g, i, none⟩ = some (.int .i64 l[i])) ∧ l.length ≤ c ∧ Below w.heap.size w w' := by
  refine (list_any h.dk h.kp.kp h.tab hn).mono ?_
  rintro e w' ⟨v, l', rfl, h1, h2, h3, h4⟩
  have e := hl.unique h1
  subst e
  obtain ⟨A, c, rfl, hc1, hc2, hg⟩ := ownI_slice h2
  refine ⟨A, c, rfl, h2, fun hne => ?_, hc1, h4⟩
  obtain ⟨g, rfl, g1, g2⟩ := hg hne
  exact ⟨g, rfl, g1, g2, fun i hi => ownI_cell h2 i hi⟩
end
end Go.Proofs.YtcmnijpcinmbbaaGreatDoor
