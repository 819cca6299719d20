/- What is owned, read again: bytes as strings, forms of slices. -/
import Derived.Lib.SlBytesRowKit
import Derived.Test.YtiofpimchbhfcabFa
import Derived.Laws.BytesArg
import Derived.SizedLaws
namespace Go.Proofs.Ytiofpimchbhfcab
open Go.ChangeShapes Go.WideShapes Go.RowKit

theorem BsAt.convert {w : World} {p : Option Addr} {l : List UInt8} (h : BsAt w p l) (n c : Nat) (hn : n = l.length) : (convert 35 9 (.slice p n c)).run Try.prog w = .ok (.string ⟨l.toArray⟩) w := by
  subst hn
  rcases h with rfl | ⟨b, o, rfl, hc⟩
  · exact run_convert_bytes_zero w 35 5 Try.underlying35 Try.underlying5 p c 9 Try.underlying9
  · exact run_convert_bytes_back (P := Try.prog) w 35 9 5 ⟨b, o, none⟩ c l Try.underlying35 Try.underlying5 Try.underlying9 (fun j hj => by rw [show (⟨b, o, none⟩ : Addr).add j = ⟨b, o + j, none⟩ from by simp [Addr.add]]; exact hc j hj)
theorem own_form {w : World} {B : Nat} {v : Value} {l : List UInt8} (h : Own B w v l) (hne : l ≠ []) : ∃ g cap, v = .slice (some ⟨g, 0, none⟩) l.length cap ∧ l.length ≤ cap ∧ B ≤ g ∧ g < w.heap.size ∧ ∀ i (h : i < l.length), w.cell? ⟨g, i, none⟩ = some (.int .u8 l[i].toNat) := by
  obtain ⟨A, cap, rfl⟩ := own_slice h
  obtain ⟨h1, h2, -, h4⟩ := own_bs h rfl
  obtain ⟨b, o, rfl, hlt⟩ := h1.lt hne
  have ho : o = 0 := by
    rcases h.2 with ⟨h0, -⟩ | ⟨g, cap', cur, h0, -⟩
    · simp at h0
    · simp at h0; exact h0.1.2
  subst ho
  refine ⟨b, cap, rfl, h2, h4 _ rfl, hlt, fun i hi => ?_⟩
  rcases h1 with h1 | ⟨b', o', h1, hc⟩
  · exact absurd h1 hne
  · simp at h1
    obtain ⟨rfl, rfl⟩ := h1
    simpa using hc i hi
theorem numB_m64 : numB (-64) = [127] := by unfold numB; rw [vb_lt (by decide)]; rfl
theorem numB_300 : numB 300 = [216, 4] := by unfold numB; rw [vb_ge (by decide), vb_lt (by decide)]; rfl
theorem num_ne (n : Int) : numB n ≠ [] := by
  intro h; have := num_pos n; rw [h] at this; simp at this
theorem drop_kB (s : ByteArray) : (kB s).drop (numB s.size).length = s.data.toList := by
  unfold kB textB
  rw [show ((s.data.toList.length : Nat) : Int) = (s.size : Int) from rfl, List.drop_left]
theorem kB_len (s : ByteArray) : (kB s).length = (numB s.size).length + s.size := by
  unfold kB textB
  rw [show ((s.data.toList.length : Nat) : Int) = (s.size : Int) from rfl, List.length_append]; rfl
theorem kB_ne (s : ByteArray) : kB s ≠ [] := by
  intro h; have h1 := kB_len s; have := num_pos s.size; rw [h] at h1; simp at h1; omega
theorem str_self (s : ByteArray) : (⟨s.data.toList.toArray⟩ : ByteArray) = s := by simp

/-- An argument of bytes, opened. -/
theorem open_bs {H : Type} {enc : TypeId × Value → H} {W : World} {a0 : Option Addr} {len cap : Nat} {d0 : DataW H} {p : List MemPlace} (h0 : DataW.Trod enc Try.prog W 0 (fun _ => true) true 35 (.slice a0 len cap) d0 p) :
    ∃ l : List UInt8, len = l.length ∧ BsAt W a0 l ∧ (a0 = none → cap = 0) ∧ (len = 0 ∨ ∃ el sp, d0 = .slice el sp ∧ el.length = len) := by
  obtain ⟨xs, hx, hlc, hin, -, hbyte, hnone⟩ := opened_bytes Try.underlying35 Try.underlying5 (by kernel_rfl) h0
  have hd : len = 0 ∨ ∃ el sp, d0 = .slice el sp ∧ el.length = len := by
    obtain ⟨fuel, hf⟩ := h0
    rcases open_ints Try.underlying35 Try.underlying5 (by kernel_rfl) hf with ⟨hcs, hx⟩ | ⟨a, len', cap', zs, hcs, _, hl, hm, hz, hx, hcell, hwz⟩
    · simp [Value.cells] at hcs
      exact .inl hcs.2.1
    · simp [Value.cells] at hcs
      obtain ⟨rfl, rfl, rfl⟩ := hcs
      simp only [Prod.mk.injEq] at hx
      obtain ⟨rfl, rfl⟩ := hx
      simp only [if_true] at hz
      exact .inr ⟨_, _, rfl, by simp [lits]; omega⟩
  refine ⟨xs.map (fun x => UInt8.ofNat x.toNat), by simp [hx], ?_, hnone, hd⟩
  rcases Nat.eq_zero_or_pos len with hn | hn
  · exact .inl (by rw [List.map_eq_nil_iff]; exact List.eq_nil_of_length_eq_zero (by omega))
  · obtain ⟨b, o, rfl, hc⟩ := hin.at hn
    refine .inr ⟨b, o, rfl, fun i hi => ?_⟩
    have hi' : i < xs.length := by simpa using hi
    rw [hc i (by omega)]
    have hb := hbyte xs[i] (List.getElem_mem hi')
    have e : xs.getD i 0 = xs[i] := by simp [List.getD, hi']
    rw [e, List.getElem_map, b_toNat (by omega)]
    congr 2; omega
theorem bs_reach {H : Type} {ts : List TypeId} {ds : List (DataW H)} {j len : Nat} {d0 : DataW H} (hsz : (DataW.weightsEach Try.prog ts ds).all (· ≤ reachBytes) = true) (ht : ts[j]? = some 35) (hd : ds[j]? = some d0)
    (h : len = 0 ∨ ∃ el sp, d0 = .slice el sp ∧ el.length = len) : len ≤ reachBytes := by
  rcases h with h | ⟨el, sp, rfl, h⟩
  · rw [h]; exact Nat.zero_le _
  · have := sized_slice hsz ht hd Try.underlying35
    rw [show Try.prog.bytesOf 5 = 1 from by kernel_rfl] at this
    omega
theorem i64_of_wf {n : Int} (h : (Lit.int .i64 n).wf = true) : I64 n := by
  simp [Lit.wf, IntKind.min, IntKind.max, IntKind.signed, IntKind.bits] at h
  exact ⟨by omega, by omega⟩
theorem ret_bool {a b : Bool} (h : a = b) : Ending.returned (.bool a) = .returned (.bool b) := by rw [h]
end Go.Proofs.Ytiofpimchbhfcab
