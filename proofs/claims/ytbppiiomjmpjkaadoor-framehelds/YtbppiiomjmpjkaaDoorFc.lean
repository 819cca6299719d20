/- What the document's side writes: numbers, texts, pieces. -/
import Derived.Test.YtbppiiomjmpjkaaDoorFb
namespace Go.Proofs.YtbppiiomjmpjkaaDoor
open Go.RowKit

theorem szig_pos {n : Int} (h0 : ¬ n < 0) : n * 2 = ((zig n : Nat) : Int) := by unfold zig; rw [if_neg h0]; omega
theorem szig_neg {n : Int} (h0 : n < 0) : -(n + 1) * 2 + 1 = ((zig n : Nat) : Int) := by unfold zig; rw [if_pos h0]; omega

set_option maxRecDepth 100000 in
set_option maxHeartbeats 1000000 in
theorem snum_any (w : World) (n : Int) (hn : I64 n) :
    Calls Tryd.prog 18 #[.int .i64 n] w fun e w' => ∃ v', e = .returned v' ∧ Own w.heap.size w' v' (numB n) ∧ Below w.heap.size w w' := by
  obtain ⟨hn1, hn2⟩ := hn
  have hz := zig_lt hn1 hn2
  have hB : w.heap.size ≤ w.heap.size := Nat.le_refl _
  generalize hBe : w.heap.size = B at *
  have hB' : B ≤ w.heap.size := by omega
  clear hBe hB
  by_cases h0 : n < 0
  all_goals
    first
      | have hx := Lib.hid (szig_neg h0)
      | have hx := Lib.hid (szig_pos h0)
    go_enter Tryd.func18, Tryd.ntmps18
    go_wp2_with fail
    rw [hx.out]
    go_loopw [3, 4] (fun x u wr => ∃ (d : List UInt8) (y : Nat), Own B wr u d ∧ x = .int .u64 y ∧ vb (zig n) = d ++ vb y ∧ y < 18446744073709551616 ∧ Below B w wr) (fun x _ _ => (intOf x).toNat)
    case atStart => exact ⟨[], zig n, World.ownsRow_nil _ _ _ _, rfl, rfl, hz, Below.refl _ _⟩
    case round =>
      obtain ⟨d, y, hown, rfl, hd, hy, hb⟩ := hrel
      clear hx
      have hdl : d.length + (vb y).length ≤ 10 := by rw [← List.length_append, ← hd]; exact vb_ten hz
      have hp := vb_pos y
      have hBr : B ≤ wr.heap.size := by have := hb.size; omega
      by_cases hlt : 128 ≤ y
      · have hlt' : (127 : Int) < y := by omega
        obtain ⟨c, hc⟩ : ∃ c, c = UInt8.ofNat (y % 128 + 128) := ⟨_, rfl⟩
        have hcn : (y : Int) % 128 + 128 = (c.toNat : Int) := by rw [hc, b_toNat (by omega)]; omega
        have HC := Lib.hid hc
        have HN := Lib.hid hcn
        clear hc hcn
        go_wp2_with (at_builtin; refine append_bs rfl _ _ rfl B _ d rfl (hown.alloc _) _ 1 1 [c] rfl rfl (bs_one _ _ _ _ (by first | exact HN.out | (simp [IntKind.wrap, IntKind.bits, IntKind.signed]; have := HN.out; omega))) (by intro h; cases h) (by simp; omega) (by simp; omega) ?_)
        intro v2 w2 hown2 hb2
        have hb' : Below B w w2 := (hb.alloc hBr _).trans hb2
        clear hb2
        go_wp2_with fail
        go_roundw
        case rel => exact ⟨d ++ [c], y / 128, hown2, by go_num, by rw [hd, vb_ge hlt, HC.out]; simp, by omega, hb'⟩
        case measure => simp [intOf]; omega
      · have hlt' : ¬ (127 : Int) < y := by omega
        obtain ⟨c, hc⟩ : ∃ c, c = UInt8.ofNat y := ⟨_, rfl⟩
        have hcn : (y : Int) = (c.toNat : Int) := by rw [hc, b_toNat (by omega)]
        have HC := Lib.hid hc
        have HN := Lib.hid hcn
        clear hc hcn
        go_wp2_with (at_builtin; refine append_bs rfl _ _ rfl B _ d rfl (hown.alloc _) _ 1 1 [c] rfl rfl (bs_one _ _ _ _ (by have := HN.out; omega)) (by intro h; cases h) (by simp; omega) (by simp; omega) ?_)
        intro v2 w2 hown2 hb2
        have hb' : Below B w w2 := (hb.alloc hBr _).trans hb2
        clear hb2
        go_wp2_with fail
        go_ret
        refine ⟨v2, rfl, ?_, hb'⟩
        have e : numB n = d ++ [c] := by unfold numB; rw [hd, vb_lt (by omega), HC.out]
        rw [e]; exact hown2

set_option maxHeartbeats 1000000 in
theorem stext_any (w : World) (s : ByteArray) (hlim : 10 + s.size ≤ 140737488355328) :
    Calls Tryd.prog 20 #[.string s] w fun e w' => ∃ v', e = .returned v' ∧ Own w.heap.size w' v' (kB s) ∧ Below w.heap.size w w' := by
  obtain ⟨i0, hi, hz0, hz1, hz2⟩ := info_parts infoByte
  have H := snum_any w s.size ⟨by omega, by omega⟩
  have hten := num_ten (n := (s.size : Int)) (by omega) (by omega)
  generalize hBe : w.heap.size = B at *
  have hB' : B ≤ w.heap.size := by omega
  clear hBe
  go_enter Tryd.func20, Tryd.ntmps20
  go_wp2_with (first | (go_at_call 18; refine H.mono ?_; rintro e w1 ⟨v1, rfl, ho1, hb1⟩) | (at_builtin; refine Lib.wpList_append_own_string _ rfl _ _ 23 9 rfl B 5 i0 Tryd.underlying23 Tryd.underlying9 hi hz0 hz1 hz2 _ _ _ rfl ho1 s rfl (by unfold maxLen; omega) (by omega) (by have := hb1.size; omega) ?_))
  intro v2 w2 own' grow _
  have hb2 : Below B w w2 := hb1.grown grow (by have := hb1.size; omega) (fun k hk => (ho1.lt k hk).1)
  have hown2 : Own B w2 v2 (numB s.size ++ s.data.toList) := own_app (n := s.size) (by rw [← strCells_bcs]; simpa using own') rfl
  clear own' grow
  go_wp2_with fail
  go_ret
  exact ⟨v2, rfl, hown2, hb2⟩

theorem sum_le4 (x : Nat) (j : Nat) (h : j < 4) : (le4 x).take (j + 1) = (le4 x).take j ++ [UInt8.ofNat (x / 256 ^ j % 256)] := by
  have : j = 0 ∨ j = 1 ∨ j = 2 ∨ j = 3 := by omega
  rcases this with rfl | rfl | rfl | rfl <;> simp [le4]
set_option maxRecDepth 100000 in
set_option maxHeartbeats 1000000 in
theorem sseal_any (w : World) (p : Option Addr) (c : Nat) (l : List UInt8) (hl : BsAt w p l) (hlen : l.length + 14 ≤ 140737488355328) (hc : p = none → c = 0) :
    Calls Tryd.prog 38 #[.slice p l.length c] w fun e w' => ∃ v', e = .returned v' ∧ Own w.heap.size w' v' (sealB l) ∧ Below w.heap.size w w' := by
  have H := snum_any w l.length ⟨by omega, by omega⟩
  have hten := num_ten (n := (l.length : Int)) (by omega) (by omega)
  generalize hB : w.heap.size = B at *
  have hB' : B ≤ w.heap.size := by omega
  have hkeep : ∀ w', Below B w w' → BsAt w' p l := fun w' h => hl.keep (by rw [hB]; exact h)
  clear hB
  go_enter Tryd.func38, Tryd.ntmps38
  go_wp2_with fail
  go_loop [3, 4] (fun x i => ∃ k : Nat, k ≤ l.length ∧ i = .int .i64 k ∧ x = .int .i64 (sumP 1 (l.take k))) (fun _ i => l.length - (intOf i).toNat)
  case atStart => exact ⟨0, Nat.zero_le _, rfl, rfl⟩
  case round =>
    obtain ⟨k, hk, rfl, rfl⟩ := hrel
    have hs := sumP_lt (l.take k) 1 (by omega)
    by_cases hlt : k < l.length
    · obtain ⟨b, o, rfl, hcc⟩ : ∃ b o, p = some ⟨b, o, none⟩ ∧ ∀ i (h : i < l.length), w.cell? ⟨b, o + i, none⟩ = some (.int .u8 l[i].toNat) := by
        rcases hl with rfl | h
        · simp at hlt
        · exact h
      have hck := hcc k hlt
      have hss := Lib.hid (sum_step l k hlt)
      have h8 : l[k].toNat < 256 := l[k].toNat_lt
      generalize sumP 1 (l.take k) = x at *
      go_wp2_with fail
      go_round
      case rel => exact ⟨k + 1, by omega, by go_num, by rw [hss.out]; congr 1⟩
      case measure => simp [intOf]; omega
    · have e : l.take k = l := List.take_of_length_le (by omega)
      rw [e] at *
      clear e
      have hS := Lib.hid (show sealB l = numB l.length ++ (l ++ le4 (sumP 1 l)) from rfl)
      have hs0 := sumP_lt l 1 (by omega)
      generalize sumP 1 l = x0 at *
      go_wp2_with (first | (go_at_call 18; refine H.mono ?_; rintro e w1 ⟨v1, rfl, ho1, hb1⟩) | (at_builtin; refine append_bs rfl _ _ rfl B v1 (numB l.length) rfl ho1 p _ c l rfl rfl (hkeep _ hb1) hc (by omega) (by have := hb1.size; omega) ?_))
      intro v2 w2 ho2 hb2
      have hb12 := hb1.trans hb2
      clear hb1 hb2 ho1
      go_wp2_with fail
      go_loopw [3, 5, 6] (fun x u i wr => ∃ j : Nat, j ≤ 4 ∧ i = .int .i64 j ∧ x = .int .i64 (x0 / 256 ^ j : Nat) ∧ Own B wr u (numB l.length ++ l ++ (le4 x0).take j) ∧ Below B w wr) (fun _ _ i _ => 4 - (intOf i).toNat)
      case atStart => exact ⟨0, by omega, rfl, by simp, by simpa using ho2, hb12⟩
      case round =>
        obtain ⟨j, hj, rfl, rfl, hown, hb⟩ := hrel
        have hBr : B ≤ wr.heap.size := by have := hb.size; omega
        have hle : ((le4 x0).take j).length = j := by simp [le4]; omega
        by_cases hlt4 : j < 4
        · have hsn := Lib.hid (sum_le4 x0 j hlt4)
          have hdv := Lib.hid (show x0 / 256 ^ (j + 1) = x0 / 256 ^ j / 256 from by rw [Nat.pow_succ, Nat.div_div_eq_div_mul])
          have hyl : x0 / 256 ^ j < 4294967296 := Nat.lt_of_le_of_lt (Nat.div_le_self _ _) hs0
          generalize x0 / 256 ^ j = y at *
          obtain ⟨c8, hc8⟩ : ∃ c8, c8 = UInt8.ofNat (y % 256) := ⟨_, rfl⟩
          rw [← hc8] at hsn
          have hcn : (y : Int) % 256 = (c8.toNat : Int) := by rw [hc8, b_toNat (by omega)]; omega
          have HN := Lib.hid hcn
          clear hc8 hcn
          go_wp2_with (at_builtin; refine append_bs rfl _ _ rfl B _ _ rfl (hown.alloc _) _ 1 1 [c8] rfl rfl (bs_one _ _ _ _ (by first | exact HN.out | (simp [IntKind.wrap, IntKind.bits, IntKind.signed]; have := HN.out; omega))) (by intro h; cases h) (by simp [hle]; omega) (by simp; omega) ?_)
          intro v3 w3 hown3 hb3
          have hb' : Below B w w3 := (hb.alloc hBr _).trans hb3
          clear hb3
          go_wp2_with fail
          go_roundw
          case rel => exact ⟨j + 1, by omega, by go_num, by rw [hdv.out]; go_num, by rw [hsn.out]; simpa using hown3, hb'⟩
          case measure => simp [intOf]; omega
        · have hj4 : j = 4 := by omega
          subst hj4
          go_wp2_with fail
          go_ret
          refine ⟨_, rfl, ?_, hb⟩
          rw [hS.out]; simpa [le4] using hown
end Go.Proofs.YtbppiiomjmpjkaaDoor
