/- Which worker gets which load: the law's walk. -/
import Derived.Test.YtfkeokeedljomaaDoorSx0
namespace Go.Proofs.YtfkeokeedljomaaDoor
open Go.RowKit
set_option linter.unusedVariables false

section
variable (W : World) (a0 : Option Addr) (cap0 : Nat) (L : List Int) (wk : Int)
set_option maxRecDepth 100000 in
set_option maxHeartbeats 4000000 in
theorem loads_no (h : CsAt W a0 (icells L)) (hl : L.length ≤ 281474976710656) (he : erL L wk ≠ 0) (hg : W.cell? ⟨0, 0, none⟩ = some ET) :
    Calls Tryd.prog 4 #[.slice a0 L.length cap0, .int .i64 wk] W fun e w' => e = .returned (.bool true) ∧ Below W.heap.size W w' := by
  have H := Lib.hid h
  obtain ⟨n, hn⟩ : ∃ n, L.length = n := ⟨_, rfl⟩
  rw [hn] at hl ⊢
  have HN := Lib.hid hn
  have hls := least_no W a0 cap0 n wk L h hn.symm (by omega) he
  have her := error_hit (erL L wk : Nat) W hg
  have hev : errV (erL L wk) = .iface 38 (.int .i64 (erL L wk : Nat)) := by unfold errV; rw [if_neg he]
  rw [hev] at hls
  have HLS := Lib.hid hls
  have HER := Lib.hid her
  have HEC : Hid ((wk < 1 ∧ erC n wk = 1) ∨ (1 ≤ wk ∧ 16 < wk ∧ erC n wk = 1) ∨ (1 ≤ wk ∧ wk ≤ 16 ∧ 400 < n ∧ erC n wk = 4) ∨ (1 ≤ wk ∧ wk ≤ 16 ∧ n ≤ 400 ∧ erC n wk = 0)) := by
    show _ ∨ _
    unfold erC
    by_cases q1 : wk < 1
    · exact .inl ⟨q1, by rw [if_pos (.inl q1)]⟩
    · by_cases q2 : 16 < wk
      · exact .inr (.inl ⟨by omega, q2, by rw [if_pos (.inr q2)]⟩)
      · by_cases q3 : 400 < n
        · exact .inr (.inr (.inl ⟨by omega, by omega, q3, by rw [if_neg (by omega), if_pos (by omega)]⟩))
        · exact .inr (.inr (.inr ⟨by omega, by omega, by omega, by rw [if_neg (by omega), if_neg (by omega)]⟩))
  have HEL : Hid (erL L wk = if erC n wk ≠ 0 then erC n wk else if L.any badL then 1 else 0) := by show _ = _; unfold erL; rw [hn]
  obtain ⟨ec, hec⟩ : ∃ ec, erC n wk = ec := ⟨_, rfl⟩
  obtain ⟨el, hel⟩ : ∃ el, erL L wk = el := ⟨_, rfl⟩
  rw [hel] at HLS HER HEL he
  rw [hec] at HEC HEL
  obtain ⟨ei, hei⟩ : ∃ ei : Int, (el : Int) = ei := ⟨_, rfl⟩
  rw [hei] at HLS HER
  have HEI := Lib.hid hei
  clear h hn hls her hev hg hec hel hei
  rcases HEC.out with ⟨q1, q2⟩ | ⟨q1, q2, q3⟩ | ⟨q1, q2, q3, q4⟩ | ⟨q1, q2, q3, q4⟩
  · obtain rfl : ei = 1 := by have := HEL.out; rw [q2] at this; have h2 := HEI.out; simp at this; omega
    have z1 : decide (wk < 1) = true := decide_eq_true q1
    clear q2 HEL HEC HEI he
    go_enter Tryd.func4, Tryd.ntmps4
    go_wp2_with fail
    go_loop [5, 6] (fun v5 v6 => v5 = .int .i64 1 ∧ v6 = .int .i64 0) (fun _ _ => 0)
    case atStart => exact ⟨rfl, rfl⟩
    case round =>
      obtain ⟨rfl, rfl⟩ := hrel
      by_cases hn0 : n = 0
      · subst hn0
        go_wp2_with (first | (go_at_call 11; refine HLS.out.mono ?_; rintro e w' ⟨rfl, rfl⟩) | (go_at_call 6; refine HER.out.mono ?_; rintro e u2 ⟨rfl, hb⟩))
        go_ret
        exact ⟨rfl, hb⟩
      · have hz : (0 : Int) < (n : Int) := by omega
        go_wp2_with (first | (go_at_call 11; refine HLS.out.mono ?_; rintro e w' ⟨rfl, rfl⟩) | (go_at_call 6; refine HER.out.mono ?_; rintro e u2 ⟨rfl, hb⟩))
        go_ret
        exact ⟨rfl, hb⟩
  · obtain rfl : ei = 1 := by have := HEL.out; rw [q3] at this; have h2 := HEI.out; simp at this; omega
    have z1 : decide (wk < 1) = false := decide_eq_false (by omega)
    have z2 : wk > 16 := q2
    clear q3 HEL HEC HEI he
    go_enter Tryd.func4, Tryd.ntmps4
    go_wp2_with fail
    go_loop [5, 6] (fun v5 v6 => v5 = .int .i64 1 ∧ v6 = .int .i64 0) (fun _ _ => 0)
    case atStart => exact ⟨rfl, rfl⟩
    case round =>
      obtain ⟨rfl, rfl⟩ := hrel
      by_cases hn0 : n = 0
      · subst hn0
        go_wp2_with (first | (go_at_call 11; refine HLS.out.mono ?_; rintro e w' ⟨rfl, rfl⟩) | (go_at_call 6; refine HER.out.mono ?_; rintro e u2 ⟨rfl, hb⟩))
        go_ret
        exact ⟨rfl, hb⟩
      · have hz : (0 : Int) < (n : Int) := by omega
        go_wp2_with (first | (go_at_call 11; refine HLS.out.mono ?_; rintro e w' ⟨rfl, rfl⟩) | (go_at_call 6; refine HER.out.mono ?_; rintro e u2 ⟨rfl, hb⟩))
        go_ret
        exact ⟨rfl, hb⟩
  · obtain rfl : ei = 4 := by have := HEL.out; rw [q4] at this; have h2 := HEI.out; simp at this; omega
    have z1 : decide (wk < 1) = false := decide_eq_false (by omega)
    have z2 : ¬ wk > 16 := by omega
    have z3 : (n : Int) > 400 := by omega
    clear q4 HEL HEC HEI he
    go_enter Tryd.func4, Tryd.ntmps4
    go_wp2_with fail
    go_loop [5, 6] (fun v5 v6 => v5 = .int .i64 4 ∧ v6 = .int .i64 0) (fun _ _ => 0)
    case atStart => exact ⟨rfl, rfl⟩
    case round =>
      obtain ⟨rfl, rfl⟩ := hrel
      by_cases hn0 : n = 0
      · subst hn0
        go_wp2_with (first | (go_at_call 11; refine HLS.out.mono ?_; rintro e w' ⟨rfl, rfl⟩) | (go_at_call 6; refine HER.out.mono ?_; rintro e u2 ⟨rfl, hb⟩))
        go_ret
        exact ⟨rfl, hb⟩
      · have hz : (0 : Int) < (n : Int) := by omega
        go_wp2_with (first | (go_at_call 11; refine HLS.out.mono ?_; rintro e w' ⟨rfl, rfl⟩) | (go_at_call 6; refine HER.out.mono ?_; rintro e u2 ⟨rfl, hb⟩))
        go_ret
        exact ⟨rfl, hb⟩
  · have hel := HEL.out
    rw [q4] at hel
    have hany : L.any badL = true := by
      cases hb : L.any badL with
      | true => rfl
      | false => simp [hb] at hel; omega
    obtain rfl : ei = 1 := by rw [hany] at hel; have h2 := HEI.out; simp at hel; omega
    have HANY := Lib.hid hany
    have z1 : decide (wk < 1) = false := decide_eq_false (by omega)
    have z2 : ¬ wk > 16 := by omega
    have z3 : ¬ (n : Int) > 400 := by omega
    clear q4 HEL HEC HEI he hel hany
    go_enter Tryd.func4, Tryd.ntmps4
    go_wp2_with fail
    go_loop [5, 6] (fun v5 v6 => ∃ k : Nat, v6 = .int .i64 (k : Int) ∧ k ≤ n ∧ ((v5 = .int .i64 0 ∧ (L.take k).any badL = false) ∨ v5 = .int .i64 1)) (fun _ v6 => n - (intOf v6).toNat)
    case atStart => exact ⟨0, rfl, by omega, .inl ⟨rfl, by simp⟩⟩
    case round =>
      obtain ⟨k, rfl, hk, ⟨rfl, ha⟩ | rfl⟩ := hrel
      · have HA := Lib.hid ha
        clear ha
        have hlt : k < n := by
          refine Nat.lt_of_le_of_ne hk fun e => ?_
          have := HA.out
          rw [e, ← HN.out, List.take_length, HANY.out] at this
          cases this
        have hz : (k : Int) < (n : Int) := by omega
        have hkl : k < L.length := by have := HN.out; omega
        obtain ⟨b, o, rfl, c1⟩ := is_at H.out k hkl
        have hs := any_snoc badL L k hkl
        rw [HA.out, Bool.false_or] at hs
        have HS : Hid ((L.take (k + 1)).any badL = badL L[k]) := hs
        clear hs
        generalize L[k] = x at *
        by_cases hx : x < 0
        · have y1 : decide (x < 0) = true := decide_eq_true hx
          go_wp2_with fail
          exact ⟨⟨k + 1, by go_num, by omega, .inr rfl⟩, by simp [intOf]; omega⟩
        · have y1 : decide (x < 0) = false := decide_eq_false hx
          by_cases hx2 : x > 1000000
          · go_wp2_with fail
            exact ⟨⟨k + 1, by go_num, by omega, .inr rfl⟩, by simp [intOf]; omega⟩
          · have hbx : Hid (badL x = false) := by show _ = _; unfold badL; simp; omega
            go_wp2_with fail
            exact ⟨⟨k + 1, by go_num, by omega, .inl ⟨rfl, by rw [HS.out]; exact hbx.out⟩⟩, by simp [intOf]; omega⟩
      · by_cases hlt : k < n
        · have hz : (k : Int) < (n : Int) := by omega
          go_wp2_with (first | (go_at_call 11; refine HLS.out.mono ?_; rintro e w' ⟨rfl, rfl⟩) | (go_at_call 6; refine HER.out.mono ?_; rintro e u2 ⟨rfl, hb⟩))
          go_ret
          exact ⟨rfl, hb⟩
        · have hz : ¬ (k : Int) < (n : Int) := by omega
          go_wp2_with (first | (go_at_call 11; refine HLS.out.mono ?_; rintro e w' ⟨rfl, rfl⟩) | (go_at_call 6; refine HER.out.mono ?_; rintro e u2 ⟨rfl, hb⟩))
          go_ret
          exact ⟨rfl, hb⟩
end
end Go.Proofs.YtfkeokeedljomaaDoor
