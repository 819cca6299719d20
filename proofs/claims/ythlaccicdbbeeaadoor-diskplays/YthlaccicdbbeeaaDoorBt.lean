/- Bytes as strings; bytes that came in. -/
import Derived.Test.YthlaccicdbbeeaaDoorBs
import Derived.Lib.SlBytesRowKit
namespace Go.Proofs.YthlaccicdbbeeaaDoor
open Go.ChangeShapes Go.WideShapes Go.RowKit
theorem BsAt.convert {w : World} {p : Option Addr} {l : List UInt8} (h : BsAt w p l) (n c : Nat) (hn : n = l.length) : (convert 23 9 (.slice p n c)).run Tryd.prog w = .ok (.string ⟨l.toArray⟩) w := by
  subst hn
  rcases h with rfl | ⟨b, o, rfl, hc⟩
  · exact run_convert_bytes_zero w 23 5 Tryd.underlying23 Tryd.underlying5 p c 9 Tryd.underlying9
  · exact run_convert_bytes_back (P := Tryd.prog) w 23 9 5 ⟨b, o, none⟩ c l Tryd.underlying23 Tryd.underlying5 Tryd.underlying9 (fun j hj => by rw [show (⟨b, o, none⟩ : Addr).add j = ⟨b, o + j, none⟩ from by simp [Addr.add]]; exact hc j hj)
/-- An argument of bytes, opened. -/
theorem open_bs {H : Type} {enc : TypeId × Value → H} {W : World} {a0 : Option Addr} {len cap : Nat} {d0 : DataW H} {p : List MemPlace} (h0 : DataW.Trod enc Tryd.prog W 0 (fun _ => true) true 23 (.slice a0 len cap) d0 p) :
    ∃ l : List UInt8, len = l.length ∧ BsAt W a0 l ∧ (a0 = none → cap = 0) ∧ (len = 0 ∨ ∃ el sp, d0 = .slice el sp ∧ el.length = len) := by
  obtain ⟨xs, hx, hlc, hin, -, hbyte, hnone⟩ := opened_bytes Tryd.underlying23 Tryd.underlying5 (by kernel_rfl) h0
  have hd : len = 0 ∨ ∃ el sp, d0 = .slice el sp ∧ el.length = len := by
    obtain ⟨fuel, hf⟩ := h0
    rcases open_ints Tryd.underlying23 Tryd.underlying5 (by kernel_rfl) hf with ⟨hcs, hx⟩ | ⟨a, len', cap', zs, hcs, _, hl, hm, hz, hx, hcell, hwz⟩
    · simp [Value.cells] at hcs
      exact .inl hcs.2.1
    · simp [Value.cells] at hcs
      obtain ⟨rfl, rfl, rfl⟩ := hcs
      simp only [Prod.mk.injEq] at hx
      obtain ⟨rfl, rfl⟩ := hx
      simp only [if_true] at hz
      exact .inr ⟨_, _, rfl, by simp [lits]; omega⟩
  refine ⟨xs.map (fun x => UInt8.ofNat x.toNat), by simp [hx], ?_, hnone, hd⟩
  rcases Nat.eq_zero_or_pos len with hn | hn
  · exact .inl (by rw [List.map_eq_nil_iff]; exact List.eq_nil_of_length_eq_zero (by omega))
  · obtain ⟨b, o, rfl, hc⟩ := hin.at hn
    refine .inr ⟨b, o, rfl, fun i hi => ?_⟩
    have hi' : i < xs.length := by simpa using hi
    rw [hc i (by omega)]
    have hb := hbyte xs[i] (List.getElem_mem hi')
    have e : xs.getD i 0 = xs[i] := by simp [List.getD, hi']
    rw [e, List.getElem_map, b_toNat (by omega)]
    congr 2; omega
end Go.Proofs.YthlaccicdbbeeaaDoor
