/- weirgatebig: how long a number is; whether it fits; its low bits. -/
import Derived.Test.YtnapbfilkahobaaGreatDoorBd
import Derived.Laws.Bits64b

namespace Go.Proofs.YtnapbfilkahobaaGreatDoor
open Go.RowKit

def bl (t : Nat) : Nat := if h : t = 0 then 0 else bl (t / 2) + 1
termination_by t
decreasing_by omega
theorem bl_zero : bl 0 = 0 := by rw [bl, dif_pos rfl]
theorem bl_pos {t : Nat} (h : t ≠ 0) : bl t = bl (t / 2) + 1 := by rw [bl, dif_neg h]
theorem bl_le (k : Nat) : ∀ t, bl t ≤ k ↔ t < 2 ^ k := by
  induction k with
  | zero =>
    intro t
    by_cases h : t = 0
    · subst h; simp [bl_zero]
    · rw [bl_pos h]; simp; omega
  | succ k ih =>
    intro t
    by_cases h : t = 0
    · subst h; simp [bl_zero]; exact Nat.pow_pos (by omega)
    · rw [bl_pos h, Nat.add_le_add_iff_right, ih, Nat.pow_succ]; omega

def lenW (l : List Nat) : Nat := if l = [] then 0 else (l.length - 1) * 32 + bl (wd l (l.length - 1))

theorem lenW_lt (n : Nat) : lenW (wl n) < 64 ↔ n < 9223372036854775808 := by
  by_cases h0 : n = 0
  · subst h0; rw [wl_zero]; simp [lenW]
  · have e1 := wl_pos h0
    by_cases h1 : n / 4294967296 = 0
    · rw [h1, wl_zero] at e1
      rw [e1]
      have : bl (n % 4294967296) ≤ 32 := (bl_le 32 _).2 (by omega)
      simp [lenW, wd, List.getD]; omega
    · have e2 := wl_pos h1
      by_cases h2 : n / 4294967296 / 4294967296 = 0
      · rw [h2, wl_zero] at e2
        rw [e1, e2]
        have := bl_le 31 (n / 4294967296 % 4294967296)
        simp [lenW, wd, List.getD]; omega
      · have e3 := wl_pos h2
        rw [e1, e2, e3]
        simp [lenW]; omega

set_option maxHeartbeats 1000000 in
theorem length_any {w : World} {v : Value} {l : List Nat} (h : Wv w v l) (wl' : Wds l) (hl : l.length ≤ 1000) :
    Calls Tryz.prog 74 #[v] w fun e w' => e = .returned (.int .i64 (lenW l : Nat)) ∧ w = w' := by
  obtain ⟨A, cap, rfl, -, hu⟩ := h
  by_cases h0 : l = []
  · subst h0
    simp only [lenW, if_true]
    go_enter Tryz.func74, Tryz.ntmps74
    go_wp2_with fail
    go_ret
    exact ⟨rfl, rfl⟩
  · have hp : 0 < l.length := List.length_pos_iff.2 h0
    obtain ⟨b, o, rfl, hc⟩ := hu.at hp
    have cl := hc (l.length - 1) (by omega)
    have ht := wd_lt wl' (l.length - 1)
    have e : lenW l = (l.length - 1) * 32 + bl (wd l (l.length - 1)) := by rw [lenW, if_neg h0]
    have hb32 : bl (wd l (l.length - 1)) ≤ 32 := (bl_le 32 _).2 (by omega)
    rw [e]
    generalize wd l (l.length - 1) = t at *
    have q1 : ((l.length : Int) == 0) = false := beq_eq_false_iff_ne.2 (by omega)
    obtain ⟨m, hm⟩ : ∃ m, l.length = m + 1 := ⟨l.length - 1, by omega⟩
    rw [hm, Nat.add_sub_cancel] at cl ⊢
    rw [hm] at q1
    have hm1 : m ≤ 1000 := by omega
    obtain ⟨T, hT⟩ : ∃ T, T = bl t := ⟨_, rfl⟩
    rw [← hT] at hb32 ⊢
    have HT := Lib.hid hT
    clear hc e hu h0 hp hT hm hl
    go_enter Tryz.func74, Tryz.ntmps74
    go_wp2_with fail
    go_loopw [3, 4] (fun n x wr => ∃ (p y : Nat), n = .int .i64 p ∧ x = .int .u32 y ∧ y < 4294967296 ∧ p ≤ 32 ∧ Hid (p + bl y = T) ∧ w = wr) (fun _ x _ => (intOf x).toNat)
    case atStart => exact ⟨0, t, rfl, rfl, ht, by omega, by show _ = _; rw [HT.out, Nat.zero_add], rfl⟩
    case round =>
      obtain ⟨p, y, rfl, rfl, hy, hp, HY, rfl⟩ := hrel
      by_cases hz : y = 0
      · subst hz
        have hpT : p = T := by have := HY.out; rw [bl_zero] at this; omega
        subst hpT
        go_wp2_with fail
        go_ret
        exact ⟨by simp, rfl⟩
      · have hz' : ((y : Int) != 0) = true := by simp; omega
        have hp2 : p + 1 ≤ 32 := by have := HY.out; rw [bl_pos hz] at this; omega
        have HN : Hid (p + 1 + bl (y / 2) = T) := by show _ = _; have := HY.out; rw [bl_pos hz] at this; omega
        clear HY
        go_wp2_with fail
        exact ⟨⟨p + 1, y / 2, by go_num, by simp, by omega, hp2, HN, trivial⟩, by simp [intOf]; omega⟩

theorem or_words (lo hi : Int) (l0 : 0 ≤ lo) (l1 : lo < 4294967296) (h0 : 0 ≤ hi) (h1 : hi < 4294967296) : bits .or .u64 lo (hi * 4294967296) = hi * 4294967296 + lo := by
  obtain ⟨a, rfl⟩ := Int.eq_ofNat_of_zero_le l0
  obtain ⟨b, rfl⟩ := Int.eq_ofNat_of_zero_le h0
  have e : ((b : Int) * 4294967296) = ((b * 4294967296 : Nat) : Int) := by omega
  rw [e, bits_or_u64_nat a (b * 4294967296) (by omega) (by omega)]
  have h := Nat.two_pow_add_eq_or_of_lt (i := 32) (b := a) (by omega) b
  have h' : a ||| (b * 4294967296) = b * 4294967296 + a := by
    rw [Nat.or_comm, show b * 4294967296 = 2 ^ 32 * b from by omega, ← h]
  rw [h']
  omega

theorem IntV.cells {w : World} {b n : Nat} {neg : Bool} (h : IntV w b neg n) : w.cell? ⟨b, 0, none⟩ = some (.bool neg) ∧ ∃ A cap, w.cell? ⟨b, 1, none⟩ = some (.slice A (wl n).length cap) ∧ U32s w A (wl n) := by
  obtain ⟨v, hb, A, cap, rfl, -, hu⟩ := h
  exact ⟨by simp [World.cell?, hb], A, cap, by simp [World.cell?, hb], hu⟩

set_option maxHeartbeats 1000000 in
/-- Uint64 of what is below 2^64. -/
theorem uint64_any {w : World} {b n : Nat} {neg : Bool} (h : IntV w b neg n) (hn : n < 18446744073709551616) :
    Calls Tryz.prog 76 #[.pointer (some ⟨b, 0, none⟩)] w fun e w' => e = .returned (.int .u64 n) ∧ ∃ m, w' = w.drewN m := by
  obtain ⟨-, A, cap, c1, hu⟩ := h.cells
  by_cases h0 : n = 0
  · subst h0
    rw [wl_zero] at c1
    simp only [List.length_nil] at c1
    go_enter Tryz.func76, Tryz.ntmps76
    go_wp2_with fail
    go_ret
    exact ⟨rfl, 0, rfl⟩
  · have e1 := wl_pos h0
    by_cases h1 : n / 4294967296 = 0
    · rw [h1, wl_zero] at e1
      rw [e1] at c1 hu
      obtain ⟨b2, o2, rfl, hc⟩ := hu.at (by simp)
      have d0 := hc 0 (by simp)
      have ex : wd [n % 4294967296] 0 = n := by simp [wd, List.getD]; omega
      rw [ex] at d0
      simp only [List.length_cons, List.length_nil, Nat.zero_add, Nat.add_zero] at c1 d0
      clear hc hu e1 ex
      go_enter Tryz.func76, Tryz.ntmps76
      go_wp2_with fail
      go_ret
      exact ⟨rfl, 0, rfl⟩
    · have e2 := wl_pos h1
      have h2 : n / 4294967296 / 4294967296 = 0 := by omega
      rw [h2, wl_zero] at e2
      rw [e1, e2] at c1 hu
      obtain ⟨b2, o2, rfl, hc⟩ := hu.at (by simp)
      have d0 := hc 0 (by simp)
      have d1 := hc 1 (by simp)
      have ex0 : wd [n % 4294967296, n / 4294967296 % 4294967296] 0 = n % 4294967296 := by simp [wd, List.getD]
      have ex1 : wd [n % 4294967296, n / 4294967296 % 4294967296] 1 = n / 4294967296 := by simp [wd, List.getD]; omega
      rw [ex0] at d0
      rw [ex1] at d1
      simp only [List.length_cons, List.length_nil, Nat.zero_add, Nat.add_zero] at c1 d0
      obtain ⟨lo, hlo⟩ : ∃ lo, lo = n % 4294967296 := ⟨_, rfl⟩
      obtain ⟨hi, hhi⟩ : ∃ hi, hi = n / 4294967296 := ⟨_, rfl⟩
      rw [← hlo] at d0
      rw [← hhi] at d1
      have l1 : lo < 4294967296 := by omega
      have l2 : hi < 4294967296 := by omega
      have HO : Hid (bits .or .u64 (lo : Int) ((hi : Int) * 4294967296) = (n : Int)) := by
        show _ = _; rw [or_words lo hi (by omega) (by omega) (by omega) (by omega)]; omega
      clear hc hu e1 e2 ex0 ex1 hlo hhi h0 h1 h2
      go_enter Tryz.func76, Tryz.ntmps76
      go_wp2_with fail
      go_ret
      exact ⟨by rw [← HO.out]; rfl, 0, rfl⟩

set_option maxHeartbeats 1000000 in
theorem isint_any {w : World} {b n : Nat} (h : IntV w b false n) (hl : (wl n).length ≤ 1000) :
    Calls Tryz.prog 39 #[.pointer (some ⟨b, 0, none⟩)] w fun e w' => e = .returned (.bool (decide (n < 9223372036854775808))) ∧ w = w' := by
  have hlw := lenW_lt n
  obtain ⟨c0, A, cap, c1, hu⟩ := h.cells
  obtain ⟨v, hb, hv⟩ := h
  have hv2 : Wv w (.slice A (wl n).length cap) (wl n) := by
    obtain ⟨A', cap', rfl, h1, h2⟩ := hv
    have : w.cell? ⟨b, 1, none⟩ = some (.slice A' (wl n).length cap') := by simp [World.cell?, hb]
    rw [c1] at this; simp at this
    obtain ⟨rfl, rfl⟩ := this
    exact ⟨A, cap, rfl, h1, h2⟩
  have cl := length_any hv2 (wds_wl n) hl
  have e : decide (n < 9223372036854775808) = decide (lenW (wl n) < 64) := by rw [decide_eq_decide]; exact hlw.symm
  rw [e]
  generalize lenW (wl n) = T at *
  clear hlw e hu hv hv2 hb
  by_cases h64 : T < 64
  · have hI : (T : Int) < 64 := by omega
    have e : decide (T < 64) = true := by simpa using h64
    rw [e]
    go_enter Tryz.func39, Tryz.ntmps39
    go_wp2_with (go_at_call 74; refine cl.mono ?_; rintro e w' ⟨rfl, rfl⟩)
    go_ret
    exact ⟨rfl, rfl⟩
  · have hI : ¬ (T : Int) < 64 := by omega
    have e : decide (T < 64) = false := by simpa using h64
    rw [e]
    by_cases h642 : T = 64
    · subst h642
      go_enter Tryz.func39, Tryz.ntmps39
      go_wp2_with (go_at_call 74; refine cl.mono ?_; rintro e w' ⟨rfl, rfl⟩)
      go_ret
      exact ⟨rfl, rfl⟩
    · have hq : ((T : Int) == 64) = false := beq_eq_false_iff_ne.2 (by omega)
      go_enter Tryz.func39, Tryz.ntmps39
      go_wp2_with (go_at_call 74; refine cl.mono ?_; rintro e w' ⟨rfl, rfl⟩)
      go_ret
      exact ⟨by show Ending.returned (.bool (decide ((T : Int) < 64))) = _; rw [decide_eq_false (by omega)], rfl⟩

set_option maxHeartbeats 1000000 in
theorem int64_any {w : World} {b n : Nat} (h : IntV w b false n) (hn : n < 9223372036854775808) :
    Calls Tryz.prog 40 #[.pointer (some ⟨b, 0, none⟩)] w fun e w' => e = .returned (.int .i64 n) ∧ ∃ m, w' = w.drewN m := by
  have c0 := h.cells.1
  have cu := uint64_any h (by omega)
  clear h
  go_enter Tryz.func40, Tryz.ntmps40
  go_wp2_with (go_at_call 76; refine cu.mono ?_; rintro e w' ⟨rfl, m, rfl⟩)
  go_ret
  exact ⟨rfl, m, rfl⟩
end Go.Proofs.YtnapbfilkahobaaGreatDoor
