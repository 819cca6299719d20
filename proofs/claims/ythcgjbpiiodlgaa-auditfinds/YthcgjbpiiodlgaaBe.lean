/- AuditFinds's closure: lines with one line's numbers changed, or without it. -/
import Derived.Test.YthcgjbpiiodlgaaBb
namespace Go.Proofs.Ythcgjbpiiodlgaa
open Go.RowKit Mp
set_option linter.unusedVariables false

set_option maxRecDepth 100000 in
set_option maxHeartbeats 4000000 in
theorem turned_any (w : World) (P Q : Nat) (la : Option Addr) (cap n i : Nat) (L : List Ln) (z : List Int) (fa : Option Addr) (fc : Nat) (hP : w.cell? ⟨P, 0, none⟩ = some (.slice la n cap)) (hQ : w.cell? ⟨Q, 0, none⟩ = some (.int .i64 (i : Int))) (h : LnsAt w la L) (hn : n = L.length) (hn4 : n ≤ 400) (hi : i < n) (hz : IntsAt w fa z) (hfc : z.length ≤ fc) (hfc2 : fc ≤ 9223372036854775807) :
    Calls Try.prog 7 #[.slice fa z.length fc, .pointer (some ⟨P, 0, none⟩), .pointer (some ⟨Q, 0, none⟩)] w fun e w' => ∃ A c, e = .returned (.slice A (turnP L i z).length c) ∧ LnsAt w' A (turnP L i z) ∧ (turnP L i z).length ≤ c ∧ Below w.heap.size w w' := by
  have H := Lib.hid h
  have HZ := Lib.hid hz
  have HN := Lib.hid hn
  have hTA := turn_all (L := L) (i := i) (by omega) z
  rw [← hn] at hTA
  have HTA := Lib.hid hTA
  have H00 : Hid (LxM w w (.slice none 0 0) (turnJ L i z 0)) := by rw [turn_zero]; exact LxM.nil w
  clear h hz hn hTA
  obtain ⟨m, hm⟩ : ∃ m, m = z.length := ⟨_, rfl⟩
  rw [← hm] at hfc ⊢
  have HM := Lib.hid hm
  clear hm
  go_enter Try.func7, Try.ntmps7
  go_wp2_with fail
  go_loopw [5, 6] (fun vv vi wr => ∃ k : Nat, vi = .int .i64 (k : Int) ∧ k ≤ n ∧ Hid (LxM w wr vv (turnJ L i z k))) (fun _ vi _ => n - (intOf vi).toNat)
  case atStart => exact ⟨0, rfl, by omega, H00⟩
  case round =>
    obtain ⟨k, rfl, hk, hL⟩ := hrel
    have hBr := hL.out.below
    have p0 := Keeps.of hBr _ _ hP
    have p1 := Keeps.of hBr _ _ hQ
    by_cases hlt : k < n
    · have hx : (k : Int) < (n : Int) := by omega
      have k1 : k < L.length := by have := HN.out; omega
      obtain ⟨b, o, fb, fd, rfl, d0, d1, hI2, j5, j6, j7⟩ := ln_at H.out k k1
      replace d0 := Keeps.of hBr _ _ d0
      replace d1 := Keeps.of hBr _ _ d1
      have hTl := turn_len L i z k
      by_cases hki : k = i
      · subst hki
        have t1 : ((k : Int) == (k : Int)) = true := by simp
        by_cases hm0 : m = 0
        · have hz0 : z = [] := List.eq_nil_of_length_eq_zero (by have := HM.out; omega)
          have HE : Hid (LxM w wr u5 (turnJ L k z (k + 1))) := by
            show LxM _ _ _ _
            rw [hz0, turn_none rfl, ← hz0]; exact hL.out
          subst hm0
          clear hL H00 HTA HM hI2 hTl
          go_wp2_with fail
          exact ⟨⟨k + 1, by go_num, by omega, HE⟩, by simp [intOf]; omega⟩
        · have hz0 : z ≠ [] := fun e => hm0 (by rw [HM.out, e]; rfl)
          have hm1 : (m : Int) > 0 := by omega
          obtain ⟨A9, c9, w9, hrun, hL9, -⟩ := hL.out.grow (Below.refl _ wr) (key := L[k].1) HZ.out (by rw [← HM.out]; exact hfc) hfc2 j7 (by omega)
          rw [← turn_one hz0 k1 rfl] at hL9
          rw [← HM.out] at hrun
          have HRUN := Lib.hid hrun
          have HL9 := Lib.hid hL9
          clear hrun hL9 hL H00 HTA HM hI2 hTl
          generalize L[k].2.length = p2 at *
          generalize L[k].1 = key at *
          go_wp2_with (at_builtin; refine Lib.wpList_append_run _ rfl _ _ _ _ rfl _ _ rfl rfl _ _ HRUN.out ?_)
          exact ⟨⟨k + 1, by go_num, by omega, HL9⟩, by simp [intOf]; omega⟩
      · have t1 : ((k : Int) == (i : Int)) = false := by simp; omega
        obtain ⟨A9, c9, w9, hrun, hL9, -⟩ := hL.out.grow (Below.refl _ wr) (key := L[k].1) hI2 j5 j6 j7 (by omega)
        rw [← turn_other z k1 hki] at hL9
        have HRUN := Lib.hid hrun
        have HL9 := Lib.hid hL9
        clear hrun hL9 hL H00 HTA HM hI2 hTl
        generalize L[k].2.length = p2 at *
        generalize L[k].1 = key at *
        go_wp2_with (at_builtin; refine Lib.wpList_append_run _ rfl _ _ _ _ rfl _ _ rfl rfl _ _ HRUN.out ?_)
        exact ⟨⟨k + 1, by go_num, by omega, HL9⟩, by simp [intOf]; omega⟩
    · have hx : ¬ (k : Int) < (n : Int) := by omega
      obtain rfl : k = n := by omega
      have hL2 := hL.out
      rw [HTA.out] at hL2
      obtain ⟨A0, c0, hv, hc0, -⟩ := hL2.slice
      subst hv
      have HE : Hid (LnsAt wr A0 (turnP L i z) ∧ Below w.heap.size w wr) := ⟨hL2.lines rfl, hBr⟩
      clear hL hL2 H00 HTA hBr
      go_wp2_with fail
      go_ret
      exact ⟨A0, c0, rfl, HE.out.1, hc0, HE.out.2⟩
end Go.Proofs.Ythcgjbpiiodlgaa
