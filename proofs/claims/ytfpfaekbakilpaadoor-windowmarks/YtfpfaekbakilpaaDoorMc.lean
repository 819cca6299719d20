/- The least of some numbers; what marks are like in memory. -/
import Derived.Test.YtfpfaekbakilpaaDoorMb
import Derived.Test.YtfpfaekbakilpaaDoorPureWe
import Derived.Laws.MakeOwn
namespace Go.Proofs.YtfpfaekbakilpaaDoor
open Go.RowKit
set_option linter.unusedVariables false

set_option maxRecDepth 100000 in
set_option maxHeartbeats 1000000 in
theorem min_any (w : World) (b c : Nat) (ms : List Int) (hn : 0 < ms.length) (hl : ms.length ≤ 1000000) (hc : ∀ j (h : j < ms.length), w.cell? ⟨b, j, none⟩ = some (.int .i64 ms[j])) :
    Calls Tryd.prog 43 #[.slice (some ⟨b, 0, none⟩) ms.length c] w fun e w' => e = .returned (.int .i64 (minL ms)) ∧ w = w' := by
  have h0 := hc 0 hn
  have e0 : minL (ms.take 1) = ms[0] := by cases ms with | nil => simp at hn | cons x l => rfl
  have HE0 := Lib.hid e0
  have hmt := minL_take ms
  have HMT := Lib.hid hmt
  have hn1 : ¬ (ms.length : Int) < 1 := by omega
  have HC := Lib.hid hc
  clear e0 hmt hc
  go_enter Tryd.func43, Tryd.ntmps43
  go_wp2_with fail
  go_loopw [3, 4] (fun m i wr => ∃ k : Nat, 0 < k ∧ k ≤ ms.length ∧ i = .int .i64 k ∧ m = .int .i64 (minL (ms.take k)) ∧ w = wr) (fun _ i _ => ms.length - (intOf i).toNat)
  case atStart => exact ⟨1, by omega, by omega, rfl, by rw [HE0.out], rfl⟩
  case round =>
    obtain ⟨k, hk0, hk, rfl, rfl, rfl⟩ := hrel
    by_cases hlt : k < ms.length
    · have ck := HC.out k hlt
      have hmk := HMT.out k hk0 hlt
      have HMK := Lib.hid hmk
      clear hmk
      generalize ms[k] = y at *
      generalize minL (ms.take k) = x at *
      by_cases hxy : y < x
      · have e : min x y = y := by omega
        have HE := Lib.hid e
        clear e
        go_wp2_with fail
        all_goals
          go_roundw
          case rel => exact ⟨k + 1, by omega, by omega, by go_num, by rw [HMK.out, HE.out], trivial⟩
          case measure => simp [intOf]; omega
      · have e : min x y = x := by omega
        have HE := Lib.hid e
        clear e
        go_wp2_with fail
        all_goals
          go_roundw
          case rel => exact ⟨k + 1, by omega, by omega, by go_num, by rw [HMK.out, HE.out], trivial⟩
          case measure => simp [intOf]; omega
    · have ek : ms.take k = ms := List.take_of_length_le (by omega)
      rw [ek]
      go_wp2_with fail
      go_ret
      exact ⟨rfl, rfl⟩
theorem infoZ : (Tryd.prog.info? 3).map (fun i => (i.zero, i.size, i.bytes)) = some (some (.int .i64 0), 1, 8) := by kernel_rfl
theorem infoFn : (Tryd.prog.info? 55).map (fun i => (i.zero, i.size, i.bytes)) = some (some .nilFunc, 1, 8) := by kernel_rfl
theorem made_eq (z : Value) (n : Nat) : madeCells #[z] n = (List.replicate n z).toArray := by
  apply Array.ext
  · simp [madeCells]
  · intro i h1 h2
    simp [madeCells, Nat.mod_one]
theorem make_i (w : World) (n : Nat) (hn : n ≤ 64) : (Instr.makeSlice 38 (.int .i64 (n : Int)) (.int .i64 (n : Int))).run Tryd.prog w = .ok (.slice (some ⟨w.heap.size, 0, none⟩) n n) (w.alloc (.cells (List.replicate n (.int .i64 0)).toArray 3)) := by
  obtain ⟨i0, hi, hz0, hz1, hz2⟩ := info_parts infoZ
  have := run_make (P := Tryd.prog) w 38 3 i0 (.int .i64 0) Tryd.underlying38 hi hz0 .i64 .i64 n n (by omega) (by omega) (by rw [hz2]; omega) (by omega)
  rw [hz1] at this
  rw [← made_eq]
  simpa [Value.cells] using this
theorem make_f (w : World) (n : Nat) (hn : n ≤ 64) : (Instr.makeSlice 85 (.int .i64 (n : Int)) (.int .i64 (n : Int))).run Tryd.prog w = .ok (.slice (some ⟨w.heap.size, 0, none⟩) n n) (w.alloc (.cells (List.replicate n .nilFunc).toArray 55)) := by
  obtain ⟨i0, hi, hz0, hz1, hz2⟩ := info_parts infoFn
  have := run_make (P := Tryd.prog) w 85 55 i0 .nilFunc Tryd.underlying85 hi hz0 .i64 .i64 n n (by omega) (by omega) (by rw [hz2]; omega) (by omega)
  rw [hz1] at this
  rw [← made_eq]
  simpa [Value.cells] using this
/-- The function that moves the mark of input i. -/
def clo (B i : Nat) : Value := .func (.func 31) #[] #[.pointer (some ⟨B + 3 + 2 * i, 0, none⟩), .pointer (some ⟨B + 2 + 2 * i, 0, none⟩)]
/-- The marks, and the functions that move them: those of the first k inputs are made. -/
structure Lm (B n k : Nat) (slack : Int) (ms : List Int) (u : World) : Prop where
  mr : u.heap[B]? = some (.cells (ms.map (Value.int .i64)).toArray 3 (0, 0))
  ad : u.heap[B + 1]? = some (.cells ((List.range k).map (clo B) ++ List.replicate (n - k) Value.nilFunc).toArray 55 (0, 0))
  sb : ∀ i, i < k → u.heap[B + 2 + 2 * i]? = some (.cells #[.int .i64 slack] 3 (0, 0))
  mb : ∀ i, i < k → u.heap[B + 3 + 2 * i]? = some (.cells #[.int .i64 (ms.getD i 0)] 3 (0, 0))
theorem Lm.keep {B n k : Nat} {slack : Int} {ms : List Int} {u u' : World} (h : Lm B n k slack ms u) (hb : Below (B + 2 + 2 * k) u u') : Lm B n k slack ms u' :=
  ⟨(hb.block B (by omega)).trans h.mr, (hb.block (B + 1) (by omega)).trans h.ad, fun i hi => (hb.block _ (by omega)).trans (h.sb i hi), fun i hi => (hb.block _ (by omega)).trans (h.mb i hi)⟩
end Go.Proofs.YtfpfaekbakilpaaDoor
