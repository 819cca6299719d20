/- Panes that are the same; records that a law gathers. -/
import Derived.Test.YtfpfaekbakilpaaDoorWh
import Derived.Laws.StructEq
import Derived.Sort.Walk0
namespace Go.Proofs.YtfpfaekbakilpaaDoor
open Go.RowKit
set_option linter.unusedVariables false

theorem paneS : Tryd.prog.underlying 49 = some (.struct (Tryd.prog.fieldsOf 49)) := by kernel_rfl
theorem paneP : Tryd.prog.stoodInHeld 49 = false := by kernel_rfl
theorem neqPn (r : Pn) (w : World) : (binOp .neq 49 (pV r) (pV r)).run Tryd.prog w = .ok (.bool false) w := by
  obtain ⟨key, a, b, c, d, e⟩ := r
  have u3 := Tryd.underlying3
  have a3 := Tryd.isAgg3
  have z3 := Tryd.sizeOf3
  have u9 := Tryd.underlying9
  have a9 := Tryd.isAgg9
  have z9 := Tryd.sizeOf9
  simp only [pV]
  rw [run_neq_struct, show (10000 : Nat) = 9999 + 1 from rfl, run_equalIn_agg w 9999 49 _ _ paneS paneP]
  simp only [Program.fieldsOf, Tryd.underlying49]
  go_simp
  try simp
set_option maxRecDepth 100000 in
set_option maxHeartbeats 1000000 in
theorem psame_any (w : World) (A1 A2 : Option Addr) (c1 c2 : Nat) (L : List Pn) (h1 : CsAt w A1 (pcells L)) (h2 : CsAt w A2 (pcells L)) (hL : L.length ≤ 9223372036854775807) :
    Calls Tryd.prog 9 #[.slice A1 L.length c1, .slice A2 L.length c2] w fun e w' => e = .returned (.bool true) ∧ Below w.heap.size w w' := by
  have hb0 : ((L.length : Int) == (L.length : Int)) = true := by simp
  go_enter Tryd.func9, Tryd.ntmps9
  go_wp2_with fail
  go_loopw [5] (fun i wr => ∃ k : Nat, k ≤ L.length ∧ i = .int .i64 k ∧ Below w.heap.size w wr) (fun i _ => L.length - (intOf i).toNat)
  case atStart => exact ⟨0, by omega, rfl, Below.refl _ _⟩
  case round =>
    obtain ⟨k, hk, rfl, hb⟩ := hrel
    by_cases hlt : k < L.length
    · obtain ⟨b, o, rfl, p0, p1, p2, p3, p4, p5⟩ := pns_at (h1.keep hb) k hlt
      obtain ⟨b', o', rfl, q0, q1, q2, q3, q4, q5⟩ := pns_at (h2.keep hb) k hlt
      have HQ := fun u => neqPn L[k] u
      generalize L[k] = p at *
      obtain ⟨key, f0, f1, f2, f3, f4⟩ := p
      simp only [pV] at p0 p1 p2 p3 p4 p5 q0 q1 q2 q3 q4 q5 HQ
      go_wp2_with fail
      go_quiet (fail)
      go_wp2_with fail
      go_roundw
      case rel => exact ⟨k + 1, by omega, by go_num, ⟨hb.os, hb.tape, hb.output, hb.size, hb.block⟩⟩
      case measure => simp [intOf]; omega
    · go_wp2_with fail
      go_ret
      exact ⟨rfl, hb⟩
theorem recs_zero {l : List Rg} (h1 : l.length ≤ 400) (h2 : ∀ r ∈ l, r.key.size ≤ 40 ∧ 0 ≤ r.tm ∧ r.tm ≤ 1000000) : recsE l = 0 := by
  unfold recsE
  rw [if_neg (by omega), if_neg]
  intro h
  obtain ⟨r, hr, hb⟩ := List.any_eq_true.1 h
  obtain ⟨a1, a2, a3⟩ := h2 r hr
  unfold badR at hb
  simp [a1, a2, a3] at hb
theorem cell_three_at (w : World) (q : Nat) (hq : q = w.heap.size) (a b c : Value) (t : TypeId) : ∀ j u, [a, b, c][j]? = some u → (w.alloc (.cells #[a, b, c] t)).cell? ((⟨q, 0, none⟩ : Addr).add j) = some u := by
  subst hq
  intro j u hj
  match j, hj with
  | 0, hj => simp at hj; subst hj; simp [Addr.add]
  | 1, hj => simp at hj; subst hj; simp [Addr.add]
  | 2, hj => simp at hj; subst hj; simp [Addr.add]
  | n + 3, hj => simp at hj
theorem cs_one (w : World) (r : Rg) : CsAt (w.alloc (.cells #[.string r.key, .int .i64 r.num, .int .i64 r.tm] 47)) (some ⟨w.heap.size, 0, none⟩) (rcells [r]) := by
  refine .inr ⟨_, _, rfl, fun j u hu => ?_⟩
  match j, hu with
  | 0, hu => simp [rcells] at hu; subst hu; simp
  | 1, hu => simp [rcells] at hu; subst hu; simp
  | 2, hu => simp [rcells] at hu; subst hu; simp
  | j + 3, hu => simp [rcells] at hu
end Go.Proofs.YtfpfaekbakilpaaDoor
