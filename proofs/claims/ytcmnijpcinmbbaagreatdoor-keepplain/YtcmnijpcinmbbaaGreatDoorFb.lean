/- What is owned, read again: bytes as strings, forms of slices. -/
import Derived.Lib.SlBytesRowKit
import Derived.Test.YtcmnijpcinmbbaaGreatDoorFa
import Derived.Laws.BytesArg
import Derived.SizedLaws
namespace Go.Proofs.YtcmnijpcinmbbaaGreatDoor
open Go.ChangeShapes Go.WideShapes Go.RowKit

theorem BsAt.convert {w : World} {p : Option Addr} {l : List UInt8} (h : BsAt w p l) (n c : Nat) (hn : n = l.length) : (convert 23 9 (.slice p n c)).run Tryz.prog w = .ok (.string ⟨l.toArray⟩) w := by
  subst hn
  rcases h with rfl | ⟨b, o, rfl, hc⟩
  · have h := run_convert_bytes_string (P := Tryz.prog) w 23 9 5 p 0 c Tryz.underlying23 Tryz.underlying5 Tryz.underlying9
    refine h.trans ?_
    cases p with
    | none => simp [Conv.bytesToString]; rfl
    | some a => simp [Conv.bytesToString, loadCells]; rfl
  · exact run_convert_bytes_back (P := Tryz.prog) w 23 9 5 ⟨b, o, none⟩ c l Tryz.underlying23 Tryz.underlying5 Tryz.underlying9 (fun j hj => by rw [show (⟨b, o, none⟩ : Addr).add j = ⟨b, o + j, none⟩ from by simp [Addr.add]]; exact hc j hj)
theorem own_form {w : World} {B : Nat} {v : Value} {l : List UInt8} (h : Own B w v l) (hne : l ≠ []) : ∃ g cap, v = .slice (some ⟨g, 0, none⟩) l.length cap ∧ l.length ≤ cap ∧ B ≤ g ∧ g < w.heap.size ∧ ∀ i (h : i < l.length), w.cell? ⟨g, i, none⟩ = some (.int .u8 l[i].toNat) := by
  obtain ⟨A, cap, rfl⟩ := own_slice h
  obtain ⟨h1, h2, -, h4⟩ := own_bs h rfl
  obtain ⟨b, o, rfl, hlt⟩ := h1.lt hne
  have ho : o = 0 := by
    rcases h.2 with ⟨h0, -⟩ | ⟨g, cap', cur, h0, -⟩
    · simp at h0
    · simp at h0; exact h0.1.2
  subst ho
  refine ⟨b, cap, rfl, h2, h4 _ rfl, hlt, fun i hi => ?_⟩
  rcases h1 with h1 | ⟨b', o', h1, hc⟩
  · exact absurd h1 hne
  · simp at h1
    obtain ⟨rfl, rfl⟩ := h1
    simpa using hc i hi
theorem numB_m64 : numB (-64) = [127] := by unfold numB; rw [vb_lt (by decide)]; rfl
theorem numB_300 : numB 300 = [216, 4] := by unfold numB; rw [vb_ge (by decide), vb_lt (by decide)]; rfl
theorem num_ne (n : Int) : numB n ≠ [] := by
  intro h; have := num_pos n; rw [h] at this; simp at this
theorem drop_kB (s : ByteArray) : (kB s).drop (numB s.size).length = s.data.toList := by
  unfold kB textB
  rw [show ((s.data.toList.length : Nat) : Int) = (s.size : Int) from rfl, List.drop_left]
theorem kB_len (s : ByteArray) : (kB s).length = (numB s.size).length + s.size := by
  unfold kB textB
  rw [show ((s.data.toList.length : Nat) : Int) = (s.size : Int) from rfl, List.length_append]; rfl
theorem kB_ne (s : ByteArray) : kB s ≠ [] := by
  intro h; have h1 := kB_len s; have := num_pos s.size; rw [h] at h1; simp at h1; omega
theorem str_self (s : ByteArray) : (⟨s.data.toList.toArray⟩ : ByteArray) = s := by simp

theorem i64_of_wf {n : Int} (h : (Lit.int .i64 n).wf = true) : I64 n := by
  simp [Lit.wf, IntKind.min, IntKind.max, IntKind.signed, IntKind.bits] at h
  exact ⟨by omega, by omega⟩
theorem ret_bool {a b : Bool} (h : a = b) : Ending.returned (.bool a) = .returned (.bool b) := by rw [h]
end Go.Proofs.YtcmnijpcinmbbaaGreatDoor
