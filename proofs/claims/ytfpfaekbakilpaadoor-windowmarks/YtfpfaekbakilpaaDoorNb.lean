/- The document's Marks. -/
import Derived.Test.YtfpfaekbakilpaaDoorNa
import Derived.Test.YtfpfaekbakilpaaDoorPureWh
namespace Go.Proofs.YtfpfaekbakilpaaDoor
open Go.RowKit
set_option linter.unusedVariables false

def smE (L : List Li) (slack : Int) : Nat := if 4 < L.length ∨ 400 < (allR L).length then 4 else if (allR L).any badR then 1 else if slackB slack then 0 else 1
theorem infoZn : (Tryd.prog.info? 3).map (fun i => (i.zero, i.size, i.bytes)) = some (some (.int .i64 0), 1, 8) := by kernel_rfl
theorem cell_one_q (w : World) (q : Nat) (hq : q = w.heap.size) (a : Value) (t : TypeId) : ∀ j u, [a][j]? = some u → (w.alloc (.cells #[a] t)).cell? ((⟨q, 0, none⟩ : Addr).add j) = some u := by
  subst hq
  intro j u hj
  match j, hj with
  | 0, hj => simp at hj; subst hj; simp [Addr.add]
  | n + 1, hj => simp at hj
set_option maxRecDepth 100000 in
set_option maxHeartbeats 1000000 in
theorem smarks_many (w : World) (la : Option Addr) (c : Nat) (L : List Li) (slack : Int) (h : CsAt w la (L.map liV)) (hL : 4 < L.length) (hL2 : L.length ≤ 9223372036854775807) (hl : ∀ x ∈ L, x.l.length ≤ 9223372036854775807) :
    Calls Tryd.prog 13 #[.slice la L.length c, .int .i64 slack] w fun e w' => e = .returned (.tuple #[.slice none 0 0, .int .i64 4]) ∧ w = w' := by
  have h4 : (4 : Int) < (L.length : Int) := by omega
  go_enter Tryd.func13, Tryd.ntmps13
  go_wp2_with fail
  go_loop [6, 7] (fun n i => ∃ (k : Nat) (x : Int), k ≤ L.length ∧ i = .int .i64 k ∧ n = .int .i64 x) (fun _ i => L.length - (intOf i).toNat)
  case atStart => exact ⟨0, 0, by omega, rfl, rfl⟩
  case round =>
    obtain ⟨k, x, hk, rfl, rfl⟩ := hrel
    by_cases hlt : k < L.length
    · obtain ⟨b, o, rfl, c0⟩ := lis_at h k hlt
      have hx := hl _ (List.getElem_mem hlt)
      simp only [liV] at c0
      generalize L[k].l.length = m at *
      go_wp2_with fail
      go_round
      case rel => exact ⟨k + 1, _, by omega, by go_num, rfl⟩
      case measure => simp [intOf]; omega
    · go_wp2_with fail
      go_ret2
      exact ⟨rfl, rfl⟩
end Go.Proofs.YtfpfaekbakilpaaDoor
