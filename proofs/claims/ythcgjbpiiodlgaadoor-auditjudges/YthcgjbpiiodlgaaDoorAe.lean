/- Two rows that differ at a place; one key's fault. -/
import Derived.Test.YthcgjbpiiodlgaaDoorAd
namespace Go.Proofs.YthcgjbpiiodlgaaDoor
open Go.RowKit
set_option linter.unusedVariables false

theorem unl_four {z g : List Int} {k : Nat} (h : crossP (z.drop k) (g.drop k) = true) : unlP z g k = 4 := by unfold unlP; rw [if_pos h]
theorem unl_not {z g : List Int} {k : Nat} (h : crossP (z.drop k) (g.drop k) = false) : unlP z g k = if 0 < k ∧ g[k]? = z[k - 1]? then 2 else 3 := by unfold unlP; rw [if_neg (by rw [h]; simp)]
set_option maxRecDepth 100000 in
set_option maxHeartbeats 2000000 in
theorem unlike_any (w : World) (la lb : Option Addr) (c d n m k : Nat) (z g : List Int) (ha : IntsAt w la z) (hb : IntsAt w lb g) (hn : n = z.length) (hm : m = g.length) (hl : n ≤ 400) (hl2 : m ≤ 400) (hz : ∀ x ∈ z, I64 x) (hg : ∀ x ∈ g, I64 x) (hk : k < n) (hk2 : k < m) (hc : n ≤ c) (hd : m ≤ d) :
    Calls Tryd.prog 32 #[.slice la n c, .slice lb m d, .int .i64 (k : Int)] w fun e w' => e = .returned (.int .i64 (unlP z g k : Nat)) ∧ Below w.heap.size w w' := by
  have k1 : k < z.length := by omega
  have k2 : k < g.length := by omega
  obtain ⟨b1, o1, rfl, c1⟩ := ints_at ha k k1
  obtain ⟨b2, o2, rfl, c2⟩ := ints_at hb k k2
  have HC : ∀ u, Below w.heap.size w u → Calls Tryd.prog 43 #[.slice (some ⟨b2, o2 + k, none⟩) (m - k) (d - k), .slice (some ⟨b1, o1 + k, none⟩) (n - k) (c - k)] u fun e w' => e = .returned (.bool (crossP (z.drop k) (g.drop k))) ∧ Below u.heap.size u w' := fun u hu =>
    among_any u _ _ (d - k) (c - k) (m - k) (n - k) (g.drop k) (z.drop k) (ints_b (hb.drop k) hu) (ints_b (ha.drop k) hu) (by simp; omega) (by simp; omega) (by omega) (by omega) (fun x hx => hg x (List.mem_of_mem_drop hx)) (fun x hx => hz x (List.mem_of_mem_drop hx))
  have HCH := Lib.hid HC
  have r1 := run_from b1 o1 n c k hk hc
  have r2 := run_from b2 o2 m d k hk2 hd
  have HA := Lib.hid ha
  have HB := Lib.hid hb
  have HN := Lib.hid hn
  have HM := Lib.hid hm
  clear HC ha hb hn hm
  generalize hr : unlP z g k = r
  have HR := Lib.hid hr
  clear hr
  generalize hcr : crossP (z.drop k) (g.drop k) = bb at HCH
  have HCR := Lib.hid hcr
  clear hcr
  go_enter Tryd.func32, Tryd.ntmps32
  go_upto_region 1 with fail
  go_cut [7] (fun v wc => v = .bool bb ∧ Hid (Below w.heap.size w wc))
  case first =>
    clear c1 c2
    go_region_with (go_at_call 43; refine (HCH.out _ (by repeat (first | exact Below.refl _ _ | with_reducible refine Below.drew ?_))).mono ?_; rintro e w2 ⟨rfl, hb2⟩)
    all_goals
      have HBe : Hid (Below w.heap.size w w2) := ((Below.refl _ _).drew).trans hb2
      clear hb2
      go_wp2_with fail
      go_meet
      exact ⟨rfl, HBe⟩
  case rest =>
    obtain ⟨rfl, hbe⟩ := hcut
    rename World => w2
    clear HCH r1 r2
    cases bb with
    | true =>
      have HE : Hid (r = 4) := HR.out.symm.trans (unl_four HCR.out)
      clear c1 c2
      go_wp2_with fail
      go_ret
      exact ⟨by rw [HE.out]; rfl, hbe.out⟩
    | false =>
      have HE := unl_not HCR.out
      rw [HR.out] at HE
      have c2' : w2.cell? ⟨b2, o2 + k, none⟩ = some (.int .i64 g[k]) := by
        rw [hbe.out.cell (p := ⟨b2, o2 + k, none⟩) (World.block_lt_of_cell? w _ c2)]; exact c2
      have x2 : g[k]? = some g[k] := List.getElem?_eq_getElem k2
      by_cases h0 : 0 < k
      · obtain ⟨j, rfl⟩ : ∃ j, k = j + 1 := ⟨k - 1, by omega⟩
        have hj : j < z.length := by omega
        have x1 : z[j]? = some z[j] := List.getElem?_eq_getElem hj
        have c3 : w2.cell? ⟨b1, o1 + j, none⟩ = some (.int .i64 z[j]) := by
          obtain ⟨b', o', e, h⟩ := ints_at (ints_b HA.out hbe.out) j hj
          injection e with e
          injection e with e1 e2 _
          subst e1; subst e2
          exact h
        rw [x2, show j + 1 - 1 = j from rfl, x1] at HE
        have HE2 : Hid (r = if g[j + 1] = z[j] then 2 else 3) := by
          show r = _
          rw [HE]
          by_cases e : g[j + 1] = z[j]
          · rw [if_pos e, if_pos ⟨h0, by rw [e]⟩]
          · rw [if_neg e, if_neg (fun h => e (by have := h.2; injection this))]
        clear HE HR HCR x1 x2 h0 c1 c2 HA HB
        generalize z[j] = X at *
        generalize g[j + 1] = Y at *
        clear k2 k1 hj
        have t0 : decide (0 < ((j + 1 : Nat) : Int)) = true := by simp
        have i7 : (j : Int) + 1 < (m : Int) := by omega
        have i8 : (j : Int) < (n : Int) := by omega
        have i9 : IntKind.i64.wrap (j : Int) = (j : Int) := by simp [IntKind.wrap, IntKind.bits, IntKind.signed]; omega
        by_cases hxy : Y = X
        · have HE3 : Hid (r = 2) := by show r = 2; rw [HE2.out, if_pos hxy]
          subst hxy
          go_wp2_with fail
          go_quiet (fail)
          go_wp2_with fail
          go_ret
          exact ⟨by rw [HE3.out]; rfl, below_drewN hbe.out _⟩
        · have HE3 : Hid (r = 3) := by show r = 3; rw [HE2.out, if_neg hxy]
          have t3 : (Y == X) = false := by simpa using hxy
          clear hxy
          go_wp2_with fail
          go_quiet (fail)
          go_wp2_with fail
          go_ret
          exact ⟨by rw [HE3.out]; rfl, below_drewN hbe.out _⟩
      · have HE3 : Hid (r = 3) := by show r = 3; rw [HE, if_neg (fun h => h0 h.1)]
        have t0 : decide (0 < (k : Int)) = false := by simp; omega
        have t0' : decide (0 < k) = false := by simp; omega
        clear HE HR HCR x2 h0 c1 c2 HA HB c2' k1 k2
        go_wp2_with fail
        go_quiet (fail)
        go_wp2_with fail
        go_ret
        exact ⟨by rw [HE3.out]; rfl, below_drewN hbe.out _⟩

theorem unl_wrong {z g : List Int} (h1 : lcpP z g < z.length) (h2 : lcpP z g < g.length) : wrongP z g = (unlP z g (lcpP z g), lcpP z g) := by
  unfold wrongP unlP
  rw [if_pos ⟨h1, h2⟩]
  split
  · rfl
  · split <;> rfl
set_option maxHeartbeats 1000000 in
theorem judge1_any (w : World) (la lb : Option Addr) (c d n m : Nat) (z g : List Int) (ha : IntsAt w la z) (hb : IntsAt w lb g) (hn : n = z.length) (hm : m = g.length) (hl : n ≤ 400) (hl2 : m ≤ 400) (hz : ∀ x ∈ z, I64 x) (hg : ∀ x ∈ g, I64 x) (hc : n ≤ c) (hd : m ≤ d) :
    Calls Tryd.prog 21 #[.slice la n c, .slice lb m d] w fun e w' => e = .returned (.tuple #[.int .i64 ((jdgP z g).1 : Nat), .int .i64 ((jdgP z g).2 : Nat)]) ∧ Below w.heap.size w w' := by
  have HAL := Lib.hid (alike_any w la lb c d n m z g ha hb hn hm hl hl2)
  obtain ⟨p1, p2⟩ := lcp_le z g
  have HUN : Hid (∀ u, Below w.heap.size w u → lcpP z g < n → lcpP z g < m → Calls Tryd.prog 32 #[.slice la n c, .slice lb m d, .int .i64 ((lcpP z g : Nat) : Int)] u fun e w' => e = .returned (.int .i64 (unlP z g (lcpP z g) : Nat)) ∧ Below u.heap.size u w') := fun u hu q1 q2 =>
    unlike_any u la lb c d n m (lcpP z g) z g (ints_b ha hu) (ints_b hb hu) hn hm hl hl2 hz hg q1 q2 hc hd
  rw [← hn] at p1
  rw [← hm] at p2
  generalize hr : jdgP z g = r
  have HR := Lib.hid hr
  have HX : Hid (z = [] → r = (3, 0)) := fun e => by rw [← hr]; unfold jdgP; rw [if_pos e]
  have HY : Hid (z ≠ [] → r = wrongP z g) := fun e => by rw [← hr]; unfold jdgP; rw [if_neg e]
  have HN := Lib.hid hn
  have HM := Lib.hid hm
  by_cases h0 : n = 0
  · have HE : Hid (r = (3, 0)) := HX.out (List.eq_nil_of_length_eq_zero (by omega))
    subst h0
    generalize lcpP z g = k at *
    clear ha hb hn hm hr HX HY HUN
    go_enter Tryd.func21, Tryd.ntmps21
    go_wp2_with fail
    refine HAL.out.mono ?_
    rintro e w1 ⟨rfl, q, rfl⟩
    go_wp2_with fail
    go_ret2
    exact ⟨by rw [HE.out]; rfl, below_dr w q⟩
  · have HW : Hid (r = wrongP z g) := HY.out (fun e => h0 (by rw [hn, e]; rfl))
    have z0 : ((n : Int) == 0) = false := by simp; omega
    by_cases h1 : lcpP z g < n
    · by_cases h2 : lcpP z g < m
      · have HE : Hid (r = (unlP z g (lcpP z g), lcpP z g)) := HW.out.trans (unl_wrong (by omega) (by omega))
        generalize unlP z g (lcpP z g) = U at *
        generalize lcpP z g = k at *
        clear ha hb hn hm hr HX HY HW HR
        have i1 : (k : Int) < (n : Int) := by omega
        have i2 : (k : Int) < (m : Int) := by omega
        go_enter Tryd.func21, Tryd.ntmps21
        go_wp2_with fail
        refine HAL.out.mono ?_
        rintro e w1 ⟨rfl, q, rfl⟩
        have HC := HUN.out _ (below_dr w q) (by omega) (by omega)
        go_wp2_with fail
        refine HC.mono ?_
        rintro e w2 ⟨rfl, hb2⟩
        have HBe : Hid (Below w.heap.size w w2) := (below_dr w q).trans hb2
        clear hb2 HC
        go_wp2_with fail
        go_ret2
        exact ⟨by rw [HE.out]; rfl, HBe.out⟩
      · have HE : Hid (r = (1, lcpP z g)) := by
          show r = _
          rw [HW.out]; unfold wrongP
          rw [if_neg (by omega), if_neg (by omega), if_pos (by omega)]
        generalize lcpP z g = k at *
        clear ha hb hn hm hr HX HY HW HR HUN
        have i1 : (k : Int) < (n : Int) := by omega
        have i2 : ¬ (k : Int) < (m : Int) := by omega
        go_enter Tryd.func21, Tryd.ntmps21
        go_wp2_with fail
        refine HAL.out.mono ?_
        rintro e w1 ⟨rfl, q, rfl⟩
        go_wp2_with fail
        go_ret2
        exact ⟨by rw [HE.out]; rfl, below_dr w q⟩
    · by_cases h2 : lcpP z g < m
      · have HE : Hid (r = (2, lcpP z g)) := by
          show r = _
          rw [HW.out]; unfold wrongP
          rw [if_neg (by omega), if_pos (by omega)]
        generalize lcpP z g = k at *
        clear ha hb hn hm hr HX HY HW HR HUN
        have i1 : ¬ (k : Int) < (n : Int) := by omega
        have i2 : (k : Int) < (m : Int) := by omega
        go_enter Tryd.func21, Tryd.ntmps21
        go_wp2_with fail
        refine HAL.out.mono ?_
        rintro e w1 ⟨rfl, q, rfl⟩
        go_wp2_with fail
        go_ret2
        exact ⟨by rw [HE.out]; rfl, below_dr w q⟩
      · have HE : Hid (r = (0, 0)) := by
          show r = _
          rw [HW.out]; unfold wrongP
          rw [if_neg (by omega), if_neg (by omega), if_neg (by omega)]
        generalize lcpP z g = k at *
        clear ha hb hn hm hr HX HY HW HR HUN
        have i1 : ¬ (k : Int) < (n : Int) := by omega
        have i2 : ¬ (k : Int) < (m : Int) := by omega
        go_enter Tryd.func21, Tryd.ntmps21
        go_wp2_with fail
        refine HAL.out.mono ?_
        rintro e w1 ⟨rfl, q, rfl⟩
        go_wp2_with fail
        go_ret2
        exact ⟨by rw [HE.out]; rfl, below_dr w q⟩
end Go.Proofs.YthcgjbpiiodlgaaDoor
