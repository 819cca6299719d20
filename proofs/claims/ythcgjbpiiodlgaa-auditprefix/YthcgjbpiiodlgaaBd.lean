/- AuditPrefix. -/
import Derived.Test.YthcgjbpiiodlgaaBc
namespace Go.Proofs.Ythcgjbpiiodlgaa
open Go.RowKit Mp
set_option linter.unusedVariables false

theorem take_min (K : Nat) (z : List Int) : z.take K = z.take (min K z.length) := by
  by_cases h : K ≤ z.length
  · rw [Nat.min_eq_left h]
  · rw [Nat.min_eq_right (by omega), List.take_of_length_le (by omega), List.take_length]
theorem drop_min (K : Nat) (z : List Int) : z.drop K = z.drop (min K z.length) := by
  by_cases h : K ≤ z.length
  · rw [Nat.min_eq_left h]
  · rw [Nat.min_eq_right (by omega), List.drop_of_length_le (by omega), List.drop_length]
theorem two_a {w0 w u : World} {va vb : Value} {K q j : Nat} {L : List Ln} {B : List Ln} (hj : j < L.length) (h : TwoP w0 w va vb (cutA K (L.take j)) B) (hu : Below w.heap.size w u) {fa : Option Addr} {fc p : Nat} (hz : IntsAt w0 fa L[j].2) (hp : L[j].2.length = p) (hq : q = min K p) (hq0 : 0 < q) (h1 : p ≤ fc) (h2 : fc ≤ 9223372036854775807) (h3 : L[j].1.size ≤ 9223372036854775807) (hL : L.length ≤ 400) :
    ∃ v w1, (Builtin.append_ #[22, 22] 22 #[va, .slice (some ⟨u.heap.size, 0, none⟩) 1 1]).run Try.prog (u.alloc (.cells #[.string L[j].1, .slice fa q fc] 29)) = .ok v w1 ∧ TwoP w0 w1 v vb (cutA K (L.take (j + 1))) B := by
  have hl : (L[j].2.take K).length = q := by rw [List.length_take, hp, hq]
  have hc := cutA_len K (L.take j)
  have hne : ¬ L[j].2.take K = [] := fun e => by rw [e] at hl; simp at hl; omega
  obtain ⟨Av, c, w1, r1, r2⟩ := h.put hu (key := L[j].1) (z := L[j].2.take K) (hz.take K) (by omega) h2 h3 (by simp at hc; omega)
  rw [hl] at r1
  refine ⟨_, w1, r1, ?_⟩
  rw [cutA_take hj, if_neg hne]
  exact r2
theorem two_b {w0 w u : World} {va vb : Value} {K q j : Nat} {L : List Ln} {A : List Ln} (hj : j < L.length) (h : TwoP w0 w va vb A (cutB K (L.take j))) (hu : Below w.heap.size w u) {b o : Nat} {fc p : Nat} (hz : IntsAt w0 (some ⟨b, o, none⟩) L[j].2) (hp : L[j].2.length = p) (hq : q = min K p) (hq0 : q < p) (h1 : p ≤ fc) (h2 : fc ≤ 9223372036854775807) (h3 : L[j].1.size ≤ 9223372036854775807) (hL : L.length ≤ 400) :
    ∃ v w1, (Builtin.append_ #[22, 22] 22 #[vb, .slice (some ⟨u.heap.size, 0, none⟩) 1 1]).run Try.prog (u.alloc (.cells #[.string L[j].1, .slice (some ⟨b, o + q, none⟩) (p - q) (fc - q)] 29)) = .ok v w1 ∧ TwoP w0 w1 va v A (cutB K (L.take (j + 1))) := by
  have hl : (L[j].2.drop K).length = p - q := by rw [List.length_drop, hp]; omega
  have hc := cutB_len K (L.take j)
  have hne : ¬ L[j].2.drop K = [] := fun e => by rw [e] at hl; simp at hl; omega
  have hz2 : IntsAt w0 (some ⟨b, o + q, none⟩) (L[j].2.drop K) := by
    rw [drop_min, hp, ← hq]; exact hz.drop q
  obtain ⟨Av, c, w1, r1, r2⟩ := h.swap.put hu (key := L[j].1) (z := L[j].2.drop K) (fc := fc - q) hz2 (by omega) (by omega) h3 (by simp at hc; omega)
  rw [hl] at r1
  refine ⟨_, w1, r1, ?_⟩
  rw [cutB_take hj, if_neg hne]
  exact r2.swap
theorem cutA_same {K j : Nat} {L : List Ln} (hj : j < L.length) (h : min K L[j].2.length = 0) : cutA K (L.take (j + 1)) = cutA K (L.take j) := by
  rw [cutA_take hj, if_pos (by apply List.eq_nil_of_length_eq_zero; rw [List.length_take]; exact h), List.append_nil]
theorem cutB_same {K j : Nat} {L : List Ln} (hj : j < L.length) (h : ¬ min K L[j].2.length < L[j].2.length) : cutB K (L.take (j + 1)) = cutB K (L.take j) := by
  rw [cutB_take hj, if_pos (by apply List.eq_nil_of_length_eq_zero; rw [List.length_drop]; omega), List.append_nil]
set_option maxRecDepth 100000 in
set_option maxHeartbeats 4000000 in
theorem prefix_walk (w : World) (la : Option Addr) (cap : Nat) (L : List Ln) (cut : Int) (h : LnsAt w la L) (hl : L.length < 9223372036854775808) (hr : RgL L) (wa : I64 cut) :
    Calls Try.prog 4 #[.slice la L.length cap, .int .i64 cut] w fun e w' => e = .returned (.bool true) ∧ Below w.heap.size w w' := by
  have H := Lib.hid h
  have HR := Lib.hid hr
  clear h hr
  obtain ⟨n, hn⟩ : ∃ n, n = L.length := ⟨_, rfl⟩
  rw [← hn] at hl ⊢
  have HN := Lib.hid hn
  clear hn
  have HF1 := Lib.hid (less_fact2 w)
  go_enter Try.func4, Try.ntmps4
  go_wp2_with fail
  refine HF1.out.mono ?_
  rintro e w2 ⟨rfl, b2⟩
  have B2 := Lib.hid b2
  have H3 := Lib.hid (check_any w2 la cap n L (lns_b H.out B2.out) HN.out hl)
  clear b2 HF1
  go_wp2_with fail
  by_cases h0 : linesE L = 0
  · have ok := lines_ok h0
    have hn4 : n ≤ 400 := by rw [HN.out]; exact ok.len
    have h3 := H3.out
    rw [h0] at h3
    have HC := Lib.hid h3
    have HOK := Lib.hid ok
    clear H3 h3 h0 hl ok
    have e0 : errV 0 = .nilIface := rfl
    refine HC.out.mono ?_
    rintro e w3 ⟨rfl, b3⟩
    have B3 := Lib.hid (below_after b3 B2.out)
    have HL3 : Hid (LnsAt w3 la L) := lns_b H.out B3.out
    obtain ⟨K, hK⟩ : ∃ K : Nat, K = cut.toNat := ⟨_, rfl⟩
    have HK := Lib.hid hK
    have HMB : Hid (manyP L ≤ 160000) := many_bd HOK.out
    have H00 : Hid (TwoP w3 w3 (.slice none 0 0) (.slice none 0 0) (cutA K (L.take 0)) (cutB K (L.take 0)) ∧ leftP K (L.take 0) = 0) := ⟨⟨LxP.nil _ _, LxP.nil _ _, by simp [Value.ownBlock], Below.refl _ _⟩, by simp [leftP]⟩
    clear b3 B2 HC hK
    go_wp2_with fail
    go_loopw [8, 9, 10, 11, 12, 13] (fun va vb vl vi _ _ wr => ∃ (j x : Nat), vi = .int .i64 (j : Int) ∧ j ≤ n ∧ vl = .int .i64 (x : Int) ∧ Hid (TwoP w3 wr va vb (cutA K (L.take j)) (cutB K (L.take j)) ∧ leftP K (L.take j) = x)) (fun _ _ _ vi _ _ _ => n - (intOf vi).toNat)
    case atStart => exact ⟨0, 0, rfl, by omega, rfl, H00⟩
    case round =>
      obtain ⟨j, x, rfl, hj, rfl, hT⟩ := hrel
      by_cases hlt : j < n
      · have hx : (j : Int) < (n : Int) := by omega
        have k1 : j < L.length := by have := HN.out; omega
        obtain ⟨b, o, fa, fc, rfl, d0, d1, hI, j5, j6, j7⟩ := ln_at HL3.out j k1
        have HI := Lib.hid hI
        obtain ⟨p, hp⟩ : ∃ p, L[j].2.length = p := ⟨_, rfl⟩
        have hp4 : p ≤ 400 := by rw [← hp]; exact (HOK.out.one _ (List.getElem_mem k1)).2
        obtain ⟨q, hq⟩ : ∃ q, q = min K p := ⟨_, rfl⟩
        have hqp : q ≤ p := by omega
        have HX : Hid (leftP K (L.take (j + 1)) = x + (p - q)) := by
          show _ = _
          rw [left_take k1, hT.out.2, hp, hq]
        have hxb : x + (p - q) ≤ 160000 := by
          rw [← HX.out]
          refine Nat.le_trans (left_le _ _) (Nat.le_trans ?_ HMB.out)
          have := many_app (L.take (j + 1)) (L.drop (j + 1))
          rw [List.take_append_drop] at this
          omega
        have HP := Lib.hid hp
        have HQ := Lib.hid hq
        rw [hp] at d1 j5
        have c0 := Keeps.of hT.out.1.be _ _ d0
        have c1 := Keeps.of hT.out.1.be _ _ d1
        obtain ⟨key, hkey⟩ : ∃ key, L[j].1 = key := ⟨_, rfl⟩
        rw [hkey] at c0 d0 j7
        have HKey := Lib.hid hkey
        have hcq : (cut < 0 ∧ q = 0) ∨ (¬ cut < 0 ∧ (p : Int) < cut ∧ q = p) ∨ (¬ cut < 0 ∧ ¬ (p : Int) < cut ∧ (q : Int) = cut) := by have := HK.out; omega
        have HCQ := Lib.hid hcq
        clear hI hp hq hcq hkey
        go_upto_if 54 with fail
        go_cut [13] (fun v wc => v = .int .i64 (K : Int) ∧ wr = wc)
        case first =>
          by_cases g : cut < 0
          · have hk0 : K = 0 := by have := HK.out; omega
            go_wp2_with fail
            go_meet
            exact ⟨by rw [hk0]; rfl, rfl⟩
          · have hk0 : Hid (cut = (K : Int)) := by show _ = _; have := HK.out; omega
            go_wp2_with fail
            go_meet
            exact ⟨by rw [hk0.out], rfl⟩
        case rest =>
        obtain ⟨rfl, rfl⟩ := hcut
        go_upto_if 57 with fail
        go_cut [13] (fun v wc => v = .int .i64 (q : Int) ∧ wr = wc)
        case first =>
          by_cases g : (K : Int) > (p : Int)
          · have hk0 : Hid (q = p) := by show _ = _; have := HQ.out; omega
            go_wp2_with fail
            go_meet
            exact ⟨by rw [hk0.out], rfl⟩
          · have hk0 : Hid (q = K) := by show _ = _; have := HQ.out; omega
            go_wp2_with fail
            go_meet
            exact ⟨by rw [hk0.out], rfl⟩
        case rest =>
        obtain ⟨rfl, rfl⟩ := hcut
        go_upto_if 60 with fail
        go_cut [8] (fun v wc => Hid (TwoP w3 wc v u9 (cutA K (L.take (j + 1))) (cutB K (L.take j))))
        case first =>
          by_cases g : 0 < q
          · have g' : (q : Int) > 0 := by omega
            have hqf : (q : Int) ≤ (fc : Int) := by omega
            obtain ⟨v9, w9, hrun, hT9⟩ := two_a k1 hT.out.1 ((Below.refl _ _).drew) HI.out HP.out HQ.out g j5 j6 (by rw [HKey.out]; exact j7) (by have := HN.out; omega)
            rw [HKey.out] at hrun
            have HRUN : Hid ((Builtin.append_ #[22, 22] 22 #[u8, .slice (some ⟨wr.heap.size, 0, none⟩) 1 1]).run Try.prog ((wr.alloc (.cells #[.string key, .slice fa q fc] 29)).drew) = .ok v9 w9) := hrun
            have HKp : Hid (w9.cell? ⟨b, o + j * 2, none⟩ = some (.string key) ∧ w9.cell? ⟨b, o + j * 2 + 1, none⟩ = some (.slice fa p fc)) := ⟨Keeps.of hT9.be _ _ d0, Keeps.of hT9.be _ _ d1⟩
            have HT9 := Lib.hid hT9
            clear hrun hT9 HX hT HL3 HOK H00 HMB d0 d1 HCQ
            go_wp2_with fail
            go_region_held3 (fun u => u.cell? ⟨b, o + j * 2, none⟩ = some (.string key) ∧ u.cell? ⟨b, o + j * 2 + 1, none⟩ = some (.slice fa p fc)) (first | go_keep | exact HKp.out) (refine step_append_runD (by rfl) _ _ 22 (by rfl) 22 (by rfl) u8 (.slice (some ⟨wr.heap.size, 0, none⟩) 1 1) v9 ((wr.alloc (.cells #[.string key, .slice fa q fc] 29)).drew) w9 (by rfl) (by rfl) (by rfl) HRUN.out ?_)
            all_goals
              go_wp2_with fail
              go_meet
              exact HT9.out
          · have g0 : q = 0 := by omega
            have hT9 := hT.out.1
            rw [← cutA_same k1 (by rw [HP.out, ← HQ.out]; exact g0)] at hT9
            have HT9 := Lib.hid hT9
            subst g0
            clear hT9 HX hT HL3 HOK H00 HMB d0 d1 HCQ
            go_wp2_with fail
            go_meet
            exact HT9.out
        case rest =>
        rename World => wa2
        have c2 := Keeps.of hcut.out.be _ _ d0
        have c3 := Keeps.of hcut.out.be _ _ d1
        go_upto_if 79 with fail
        go_cut [9] (fun v wc => Hid (TwoP w3 wc u8 v (cutA K (L.take (j + 1))) (cutB K (L.take (j + 1)))))
        case first =>
          by_cases g : q < p
          · have g' : (q : Int) < (p : Int) := by omega
            have hqf : (q : Int) ≤ (fc : Int) := by omega
            obtain ⟨b2, o2, rfl, -⟩ := ints_at HI.out 0 (by rw [HP.out]; omega)
            have hfrom := run_from b2 o2 p fc q g j5
            obtain ⟨v9, w9, hrun, hT9⟩ := two_b k1 hcut.out ((Below.refl _ _).drew) HI.out HP.out HQ.out g j5 j6 (by rw [HKey.out]; exact j7) (by have := HN.out; omega)
            rw [HKey.out] at hrun
            have HRUN : Hid ((Builtin.append_ #[22, 22] 22 #[u9, .slice (some ⟨wa2.heap.size, 0, none⟩) 1 1]).run Try.prog ((wa2.alloc (.cells #[.string key, .slice (some ⟨b2, o2 + q, none⟩) (p - q) (fc - q)] 29)).drew) = .ok v9 w9) := hrun
            have HKp : Hid (w9.cell? ⟨b, o + j * 2, none⟩ = some (.string key) ∧ w9.cell? ⟨b, o + j * 2 + 1, none⟩ = some (.slice (some ⟨b2, o2, none⟩) p fc)) := ⟨Keeps.of hT9.be _ _ d0, Keeps.of hT9.be _ _ d1⟩
            have HT9 := Lib.hid hT9
            clear hrun hT9 HX hT HL3 HOK H00 HMB d0 d1 HCQ hcut c0 c1
            go_wp2_with fail
            go_region_held3 (fun u => u.cell? ⟨b, o + j * 2, none⟩ = some (.string key) ∧ u.cell? ⟨b, o + j * 2 + 1, none⟩ = some (.slice (some ⟨b2, o2, none⟩) p fc)) (first | go_keep | exact HKp.out) (refine step_append_runD (by rfl) _ _ 22 (by rfl) 22 (by rfl) u9 (.slice (some ⟨wa2.heap.size, 0, none⟩) 1 1) v9 ((wa2.alloc (.cells #[.string key, .slice (some ⟨b2, o2 + q, none⟩) (p - q) (fc - q)] 29)).drew) w9 (by rfl) (by rfl) (by rfl) HRUN.out ?_)
            all_goals
              go_wp2_with fail
              go_meet
              exact HT9.out
          · have hT9 := hcut.out
            rw [← cutB_same k1 (by rw [HP.out, ← HQ.out]; exact g)] at hT9
            have HT9 := Lib.hid hT9
            have g' : ¬ (q : Int) < (p : Int) := by omega
            clear hT9 HX hT HL3 HOK H00 HMB d0 d1 HCQ hcut
            go_wp2_with fail
            go_meet
            exact HT9.out
        case rest =>
          rename World => wa3
          have HE : Hid (TwoP w3 wa3 u8 u9 (cutA K (L.take (j + 1))) (cutB K (L.take (j + 1))) ∧ leftP K (L.take (j + 1)) = x + (p - q)) := ⟨hcut.out, HX.out⟩
          have s1 : IntKind.i64.wrap ((x : Int) + (p : Int)) = ((x + p : Nat) : Int) := by simp [IntKind.wrap, IntKind.bits, IntKind.signed]; omega
          have s2 : IntKind.i64.wrap (((x + p : Nat) : Int) - (q : Int)) = ((x + (p - q) : Nat) : Int) := by simp [IntKind.wrap, IntKind.bits, IntKind.signed]; omega
          clear hcut HX hT HL3 HOK H00 HMB d0 d1 HCQ
          go_wp2_with fail
          exact ⟨⟨j + 1, x + (p - q), by go_num, by omega, by rw [show ((x + (p - q) : Nat) : Int) = (x : Int) + p - q by omega], HE⟩, by simp [intOf]; omega⟩
      · have hx : ¬ (j : Int) < (n : Int) := by omega
        have ht : L.take j = L := List.take_of_length_le (by have := HN.out; omega)
        rw [ht] at hT
        obtain ⟨hP, hX⟩ := hT.out
        obtain ⟨A1, c1, rfl, hc1, -⟩ := hP.a.slice
        obtain ⟨A2, c2, rfl, hc2, -⟩ := hP.b.slice
        have okA := ok_cutA HOK.out K
        have okB := ok_cutB HOK.out K
        have pA := cut_pref HOK.out K
        have pM := cut_merge HOK.out K
        have pJ := cut_judge HOK.out K
        have pL := left_many K L
        have rA := HR.out.cutA K
        obtain ⟨M, hM⟩ : ∃ M, cutA K L = M := ⟨_, rfl⟩
        obtain ⟨Q, hQ⟩ : ∃ Q, cutB K L = Q := ⟨_, rfl⟩
        rw [hM] at hP okA pA pM pJ pL rA hc1 ⊢
        rw [hQ] at hP okB pM hc2 ⊢
        rw [hX] at pJ pL
        have hA := hP.a.lines rfl hP.be
        have hB := hP.b.lines rfl hP.be
        obtain ⟨m, hm⟩ : ∃ m, m = M.length := ⟨_, rfl⟩
        obtain ⟨m2, hm2⟩ : ∃ m2, m2 = Q.length := ⟨_, rfl⟩
        rw [← hm] at hP hc1 ⊢
        rw [← hm2] at hP hc2 ⊢
        have hm4 : m ≤ 400 := by rw [hm]; exact okA.len
        have hm5 : m2 ≤ 400 := by rw [hm2]; exact okB.len
        have HA : Hid (LnsAt wr A1 M) := hA
        have HBq : Hid (LnsAt wr A2 Q) := hB
        have HBe : Hid (Below w.heap.size w wr) := below_after hP.be B3.out
        obtain ⟨e1, e2⟩ := ls_of HOK.out okA pA
        have e2' : lsN L M = (x : Int) := by rw [e2]; omega
        have HJD : Hid (∃ (kd at0 : Nat) (key : ByteArray), kd = (if 0 < x then 1 else 0) ∧ ∀ u, Below wr.heap.size wr u → Calls Try.prog 6 #[.slice la n cap, .slice A1 m c1] u fun e w' => e = .returned (.tuple #[.int .i64 kd, .string key, .int .i64 at0, .nilIface]) ∧ Below u.heap.size u w') := by
          refine ⟨(judgeP L M).1, (judgeP L M).2.2, (judgeP L M).2.1, pJ, fun u hu => ?_⟩
          have hj := judge_any u la A1 cap c1 n m L M (lns_b (lns_b H.out HBe.out) hu) (lns_b HA.out hu) HN.out hm (by omega) (by omega) HR.out rA
          rw [jd_of HOK.out okA, both_good HOK.out okA] at hj
          exact hj
        have HLS : Hid (∀ u, Below wr.heap.size wr u → Calls Try.prog 8 #[.slice la n cap, .slice A1 m c1] u fun e w' => e = .returned (.tuple #[.int .i64 (x : Int), .nilIface]) ∧ Below u.heap.size u w') := fun u hu => by
          have hj := less_any u la A1 cap c1 n m L M (lns_b (lns_b H.out HBe.out) hu) (lns_b HA.out hu) HN.out hm (by omega) (by omega)
          rw [e1, e2'] at hj
          exact hj
        have HMG : Hid (∀ u, Below wr.heap.size wr u → Calls Try.prog 10 #[.slice A1 m c1, .slice A2 m2 c2] u fun e w' => ∃ A cc, e = .returned (.tuple #[.slice A n cc, .nilIface]) ∧ LnsAt w' A L ∧ Below u.heap.size u w') := fun u hu => by
          obtain ⟨q1, q2⟩ := mg_of okA okB pM HOK.out
          refine (merge_any u A1 A2 c1 c2 m m2 M Q (lns_b HA.out hu) (lns_b HBq.out hu) hm hm2 (by omega) (by omega)).mono ?_
          rintro e w' ⟨A, cc, rfl, q3, -, q4⟩
          rw [q2] at q3
          exact ⟨A, cc, by rw [q1, q2, ← HN.out]; rfl, q3, q4⟩
        have HSM : Hid (∀ u A cc, Below wr.heap.size wr u → LnsAt u A L → Calls Try.prog 11 #[.slice A n cc, .slice la n cap] u fun e w' => e = .returned (.bool true) ∧ ∃ q, w' = u.drewN q) := fun u A cc hu hA => by
          have := lines_same hA (lns_b (lns_b H.out HBe.out) hu) cc cap (by have := HN.out; omega)
          rw [← HN.out] at this
          exact this
        have HPX : Hid (∀ u, Below wr.heap.size wr u → Calls Try.prog 12 #[.slice A1 m c1, .slice la n cap] u fun e w' => e = .returned (.bool true) ∧ Below u.heap.size u w') := fun u hu => by
          have := prefix_any (w := u) (la := A1) (lb := la) (a := M) (b := L) c1 cap (lns_b HA.out hu) (by omega) (by have := HN.out; omega) (lns_b (lns_b H.out HBe.out) hu)
          rw [pA, ← hm, ← HN.out] at this
          exact this
        clear hA hB hP e1 e2 e2' okA okB pA pM pJ pL rA hm hm2 hT hM hQ hX ht H00 HL3 HOK HMB
        obtain ⟨kd, at0, key, hkd, hJD⟩ := HJD.out
        have HKD := Lib.hid hkd
        have HJD2 := Lib.hid (hJD wr (Below.refl _ _))
        clear hkd hJD HJD
        go_wp2_with fail
        refine HJD2.out.mono ?_
        rintro e w4 ⟨rfl, b4⟩
        have B4 := Lib.hid b4
        have H4 := Lib.hid (HLS.out w4 b4)
        clear b4 HLS HJD2
        go_wp2_with fail
        refine H4.out.mono ?_
        rintro e w5 ⟨rfl, b5⟩
        have B5 := Lib.hid (below_after b5 B4.out)
        have H5 := Lib.hid (HMG.out w5 B5.out)
        clear b5 HMG H4 B4
        go_wp2_with fail
        refine H5.out.mono ?_
        rintro e w6 ⟨A3, c3, rfl, l3, b6⟩
        have B6 := Lib.hid (below_after b6 B5.out)
        have H6 := Lib.hid (HSM.out w6 A3 c3 B6.out l3)
        clear b6 HSM H5 B5 l3
        go_wp2_with fail
        refine H6.out.mono ?_
        rintro e w7 ⟨rfl, q, rfl⟩
        have B7 := Lib.hid (below_drewN B6.out q)
        have H7 := Lib.hid (HPX.out (w6.drewN q) B7.out)
        clear HPX H6 B6
        generalize w6.drewN q = w7 at *
        go_wp2_with fail
        refine H7.out.mono ?_
        rintro e w8 ⟨rfl, b8⟩
        have B8 := Lib.hid (below_after (below_after b8 B7.out) HBe.out)
        clear b8 H7 B7
        by_cases gx : 0 < x
        · obtain rfl : kd = 1 := HKD.out.trans (if_pos gx)
          have gx' : (x : Int) > 0 := by omega
          have gx2 : ((x : Int) == 0) = false := by simp; omega
          clear HKD gx
          go_wp2_with fail
          go_ret
          exact ⟨rfl, B8.out⟩
        · obtain rfl : x = 0 := by omega
          obtain rfl : kd = 0 := HKD.out.trans (if_neg gx)
          clear HKD gx
          go_wp2_with fail
          go_ret
          exact ⟨rfl, B8.out⟩
  · obtain ⟨tv, hv⟩ := errV_ne h0
    have h3 := H3.out
    rw [hv] at h3
    have HC := Lib.hid h3
    clear H3 h3 h0 hl hv
    refine HC.out.mono ?_
    rintro e w3 ⟨rfl, b3⟩
    have B3 := Lib.hid (below_after b3 B2.out)
    clear b3
    go_wp2_with fail
    go_ret
    exact ⟨rfl, B3.out⟩
end Go.Proofs.Ythcgjbpiiodlgaa
