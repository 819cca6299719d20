/- What the document's side writes: numbers, texts, pieces. -/
import Derived.Test.YtbppiiomjmpjkabGreatDoorFb
namespace Go.Proofs.YtbppiiomjmpjkabGreatDoor
open Go.RowKit

theorem szig_pos {n : Int} (h0 : ¬ n < 0) : n * 2 = ((zig n : Nat) : Int) := by unfold zig; rw [if_neg h0]; omega
theorem szig_neg {n : Int} (h0 : n < 0) : -(n + 1) * 2 + 1 = ((zig n : Nat) : Int) := by unfold zig; rw [if_pos h0]; omega

set_option maxRecDepth 100000 in
set_option maxHeartbeats 1000000 in
theorem snum_any (w : World) (n : Int) (hn : I64 n) :
    Calls Tryz.prog 32 #[.int .i64 n] w fun e w' => ∃ v', e = .returned v' ∧ Own w.heap.size w' v' (numB n) ∧ Below w.heap.size w w' := by
  obtain ⟨hn1, hn2⟩ := hn
  have hz := zig_lt hn1 hn2
  have hB : w.heap.size ≤ w.heap.size := Nat.le_refl _
  generalize hBe : w.heap.size = B at *
  have hB' : B ≤ w.heap.size := by omega
  clear hBe hB
  by_cases h0 : n < 0
  all_goals
    first
      | have hx := Lib.hid (szig_neg h0)
      | have hx := Lib.hid (szig_pos h0)
    go_enter Tryz.func32, Tryz.ntmps32
    go_wp2_with fail
    rw [hx.out]
    go_loopw [3, 4] (fun x u wr => ∃ (d : List UInt8) (y : Nat), Own B wr u d ∧ x = .int .u64 y ∧ vb (zig n) = d ++ vb y ∧ y < 18446744073709551616 ∧ Below B w wr) (fun x _ _ => (intOf x).toNat)
    case atStart => exact ⟨[], zig n, World.ownsRow_nil _ _ _ _, rfl, rfl, hz, Below.refl _ _⟩
    case round =>
      obtain ⟨d, y, hown, rfl, hd, hy, hb⟩ := hrel
      clear hx
      have hdl : d.length + (vb y).length ≤ 10 := by rw [← List.length_append, ← hd]; exact vb_ten hz
      have hp := vb_pos y
      have hBr : B ≤ wr.heap.size := by have := hb.size; omega
      by_cases hlt : 128 ≤ y
      · have hlt' : (127 : Int) < y := by omega
        obtain ⟨c, hc⟩ : ∃ c, c = UInt8.ofNat (y % 128 + 128) := ⟨_, rfl⟩
        have hcn : (y : Int) % 128 + 128 = (c.toNat : Int) := by rw [hc, b_toNat (by omega)]; omega
        have HC := Lib.hid hc
        have HN := Lib.hid hcn
        clear hc hcn
        go_wp2_with (at_builtin; refine append_bs rfl _ _ rfl B _ d rfl (hown.alloc _) _ 1 1 [c] rfl rfl (bs_one _ _ _ _ (by first | exact HN.out | (simp [IntKind.wrap, IntKind.bits, IntKind.signed]; have := HN.out; omega))) (by intro h; cases h) (by simp; omega) (by simp; omega) ?_)
        intro v2 w2 hown2 hb2
        have hb' : Below B w w2 := (hb.alloc hBr _).trans hb2
        clear hb2
        go_wp2_with fail
        go_roundw
        case rel => exact ⟨d ++ [c], y / 128, hown2, by go_num, by rw [hd, vb_ge hlt, HC.out]; simp, by omega, hb'⟩
        case measure => simp [intOf]; omega
      · have hlt' : ¬ (127 : Int) < y := by omega
        obtain ⟨c, hc⟩ : ∃ c, c = UInt8.ofNat y := ⟨_, rfl⟩
        have hcn : (y : Int) = (c.toNat : Int) := by rw [hc, b_toNat (by omega)]
        have HC := Lib.hid hc
        have HN := Lib.hid hcn
        clear hc hcn
        go_wp2_with (at_builtin; refine append_bs rfl _ _ rfl B _ d rfl (hown.alloc _) _ 1 1 [c] rfl rfl (bs_one _ _ _ _ (by have := HN.out; omega)) (by intro h; cases h) (by simp; omega) (by simp; omega) ?_)
        intro v2 w2 hown2 hb2
        have hb' : Below B w w2 := (hb.alloc hBr _).trans hb2
        clear hb2
        go_wp2_with fail
        go_ret
        refine ⟨v2, rfl, ?_, hb'⟩
        have e : numB n = d ++ [c] := by unfold numB; rw [hd, vb_lt (by omega), HC.out]
        rw [e]; exact hown2

set_option maxHeartbeats 1000000 in
theorem stext_any (w : World) (s : ByteArray) (hlim : 10 + s.size ≤ 140737488355328) :
    Calls Tryz.prog 33 #[.string s] w fun e w' => ∃ v', e = .returned v' ∧ Own w.heap.size w' v' (kB s) ∧ Below w.heap.size w w' := by
  obtain ⟨i0, hi, hz0, hz1, hz2⟩ := info_parts infoByte
  have H := snum_any w s.size ⟨by omega, by omega⟩
  have hten := num_ten (n := (s.size : Int)) (by omega) (by omega)
  generalize hBe : w.heap.size = B at *
  have hB' : B ≤ w.heap.size := by omega
  clear hBe
  go_enter Tryz.func33, Tryz.ntmps33
  go_wp2_with (first | (go_at_call 32; refine H.mono ?_; rintro e w1 ⟨v1, rfl, ho1, hb1⟩) | (at_builtin; refine Lib.wpList_append_own_string _ rfl _ _ 39 9 rfl B 5 i0 Tryz.underlying39 Tryz.underlying9 hi hz0 hz1 hz2 _ _ _ rfl ho1 s rfl (by unfold maxLen; omega) (by omega) (by have := hb1.size; omega) ?_))
  intro v2 w2 own' grow _
  have hb2 : Below B w w2 := hb1.grown grow (by have := hb1.size; omega) (fun k hk => (ho1.lt k hk).1)
  have hown2 : Own B w2 v2 (numB s.size ++ s.data.toList) := own_app (n := s.size) (by rw [← strCells_bcs]; simpa using own') rfl
  clear own' grow
  go_wp2_with fail
  go_ret
  exact ⟨v2, rfl, hown2, hb2⟩

theorem sum_le4 (x : Nat) (j : Nat) (h : j < 4) : (le4 x).take (j + 1) = (le4 x).take j ++ [UInt8.ofNat (x / 256 ^ j % 256)] := by
  have : j = 0 ∨ j = 1 ∨ j = 2 ∨ j = 3 := by omega
  rcases this with rfl | rfl | rfl | rfl <;> simp [le4]
end Go.Proofs.YtbppiiomjmpjkabGreatDoor
