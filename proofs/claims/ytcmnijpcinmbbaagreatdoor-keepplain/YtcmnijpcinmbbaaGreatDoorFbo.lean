/- Bytes that came in. -/
import Derived.Test.YtcmnijpcinmbbaaGreatDoorFb
namespace Go.Proofs.YtcmnijpcinmbbaaGreatDoor
open Go.ChangeShapes Go.WideShapes Go.RowKit
/-- An argument of bytes, opened. -/
theorem open_bs {H : Type} {enc : TypeId × Value → H} {W : World} {a0 : Option Addr} {len cap : Nat} {d0 : DataW H} {p : List MemPlace} (h0 : DataW.Trod enc Tryz.prog W 0 (fun _ => true) true 23 (.slice a0 len cap) d0 p) :
    ∃ l : List UInt8, len = l.length ∧ BsAt W a0 l ∧ (a0 = none → cap = 0) ∧ (len = 0 ∨ ∃ el sp, d0 = .slice el sp ∧ el.length = len) := by
  obtain ⟨xs, hx, hlc, hin, -, hbyte, hnone⟩ := opened_bytes Tryz.underlying23 Tryz.underlying5 (by kernel_rfl) h0
  have hd : len = 0 ∨ ∃ el sp, d0 = .slice el sp ∧ el.length = len := by
    obtain ⟨fuel, hf⟩ := h0
    rcases open_ints Tryz.underlying23 Tryz.underlying5 (by kernel_rfl) hf with ⟨hcs, hx⟩ | ⟨a, len', cap', zs, hcs, _, hl, hm, hz, hx, hcell, hwz⟩
    · simp [Value.cells] at hcs
      exact .inl hcs.2.1
    · simp [Value.cells] at hcs
      obtain ⟨rfl, rfl, rfl⟩ := hcs
      simp only [Prod.mk.injEq] at hx
      obtain ⟨rfl, rfl⟩ := hx
      simp only [if_true] at hz
      exact .inr ⟨_, _, rfl, by simp [lits]; omega⟩
  refine ⟨xs.map (fun x => UInt8.ofNat x.toNat), by simp [hx], ?_, hnone, hd⟩
  rcases Nat.eq_zero_or_pos len with hn | hn
  · exact .inl (by rw [List.map_eq_nil_iff]; exact List.eq_nil_of_length_eq_zero (by omega))
  · obtain ⟨b, o, rfl, hc⟩ := hin.at hn
    refine .inr ⟨b, o, rfl, fun i hi => ?_⟩
    have hi' : i < xs.length := by simpa using hi
    rw [hc i (by omega)]
    have hb := hbyte xs[i] (List.getElem_mem hi')
    have e : xs.getD i 0 = xs[i] := by simp [List.getD, hi']
    rw [e, List.getElem_map, b_toNat (by omega)]
    congr 2; omega
theorem bs_reach {H : Type} {ts : List TypeId} {ds : List (DataW H)} {j len : Nat} {d0 : DataW H} (hsz : (DataW.weightsEach Tryz.prog ts ds).all (· ≤ reachBytes) = true) (ht : ts[j]? = some 23) (hd : ds[j]? = some d0)
    (h : len = 0 ∨ ∃ el sp, d0 = .slice el sp ∧ el.length = len) : len ≤ reachBytes := by
  rcases h with h | ⟨el, sp, rfl, h⟩
  · rw [h]; exact Nat.zero_le _
  · have := sized_slice hsz ht hd Tryz.underlying23
    rw [show Tryz.prog.bytesOf 5 = 1 from by kernel_rfl] at this
    omega
end Go.Proofs.YtcmnijpcinmbbaaGreatDoor
