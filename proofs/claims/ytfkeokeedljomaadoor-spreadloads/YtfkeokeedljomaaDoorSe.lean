/- Two sorted pieces beside each other are merged where they lie. -/
import Derived.Test.YtfkeokeedljomaaDoorSd
namespace Go.Proofs.YtfkeokeedljomaaDoor
open Go.RowKit
set_option linter.unusedVariables false

theorem row0 (P B S : List Nat) (x : Nat) : (P ++ (put1 B x 0 ++ S))[P.length]? = some x ∧ ∀ (k : Nat) (h : k < B.length), (P ++ (put1 B x 0 ++ S))[P.length + 1 + k]? = some B[k] := by
  unfold put1
  refine ⟨by simp, fun k h => ?_⟩
  rw [show P ++ (List.take 0 B ++ x :: List.drop 0 B ++ S) = P ++ (x :: (B ++ S)) from by simp, List.getElem?_append_right (by omega), show P.length + 1 + k - P.length = k + 1 from by omega, List.getElem?_cons_succ, List.getElem?_append_left h, List.getElem?_eq_getElem h]
/-- A closure's call, however many draws on. -/
theorem clo_at (w : World) (blk bx : Nat) (L : List Int) (h : LdAt w blk bx L) (x y : Nat) (hx : x < L.length) (hy : y < L.length) (q : Nat) : ∀ n,
    Calls Tryd.prog 33 #[.int .i64 (x : Int), .int .i64 (y : Int), .pointer (some ⟨bx, 0, none⟩)] ((w.drewN q).drewN n) fun e w' => e = .returned (.int .i64 (cv L x y)) ∧ ∃ q', w' = ((w.drewN q).drewN n).drewN q' :=
  fun n => clo_any _ blk bx L ((h.drewN q).drewN n) x y hx hy

set_option maxRecDepth 100000 in
set_option maxHeartbeats 2000000 in
theorem sym_one (w : World) (blk cap len bx : Nat) (L : List Int) (P B S : List Nat) (x a m b : Nat) (ha : a = P.length) (hm : m = P.length + 1) (hb : b = P.length + 1 + B.length) (hlen : len = P.length + 1 + B.length + S.length) (hl62 : len < 4611686018427387904)
    (hL : LdAt w blk bx L) (hx : x < L.length) (hB : ∀ y ∈ B, y < L.length ∧ x < y) (hs : B.Pairwise (ah (ldf L))) (hR : IR w blk (P ++ (put1 B x 0 ++ S))) :
    Calls Tryd.prog 41 #[.slice (some ⟨blk, 0, none⟩) len cap, .int .i64 a, .int .i64 m, .int .i64 b, cmpF bx] w fun e w' => e = .returned (.tuple #[]) ∧ (∃ C : List Nat, C.Perm (x :: B) ∧ C.Pairwise (ah (ldf L)) ∧ IR w' blk (P ++ (C ++ S))) ∧ Fr [blk] w w' := by
  have hma : m = a + 1 := by omega
  have hbl : b ≤ len := by omega
  have hmb : m ≤ b := by omega
  have HA : Hid (a = P.length) := ha
  have HB : Hid (b = m + B.length) := by show _ = _; omega
  have HL : Hid (LdAt w blk bx L) := hL
  have HBB : Hid (∀ y ∈ B, y < L.length ∧ x < y) := hB
  have HS : Hid (B.Pairwise (ah (ldf L))) := hs
  have HR : Hid (IR w blk (P ++ (put1 B x 0 ++ S))) := hR
  have t1 : (wrap64 ((m : Int) - (a : Int)) == 1) = true := by rw [beq_iff_eq]; unfold wrap64; omega
  have HMA : Hid (m = a + 1) := hma
  clear hma hL hB hs hR ha hm hb hlen
  unfold cmpF
  go_enter Tryd.func41, Tryd.ntmps41
  go_wp2_with fail
  go_loopw [10, 11] (fun vi vj wr => ∃ i j : Nat, vi = .int .i64 i ∧ vj = .int .i64 j ∧ m ≤ i ∧ i ≤ j ∧ j ≤ b ∧ Hid (∀ y ∈ B.take (i - m), ah (ldf L) y x) ∧ Hid (∀ y ∈ B.drop (j - m), ah (ldf L) x y) ∧ Hid (∃ q, wr = w.drewN q)) (fun vi vj _ => (intOf vj).toNat - (intOf vi).toNat)
  case atStart => exact ⟨m, b, rfl, rfl, by omega, hmb, Nat.le_refl _, by show ∀ y ∈ _, _; simp, by show ∀ y ∈ _, _; rw [List.drop_of_length_le (by have := HB.out; omega)]; simp, ⟨0, rfl⟩⟩
  case round =>
    obtain ⟨i, j, rfl, rfl, hmi, hij, hjb, hd, hu, ⟨q0, rfl⟩⟩ := hrel
    by_cases hlt : i < j
    · have hz : (i : Int) < (j : Int) := by omega
      obtain ⟨h, hh⟩ : ∃ h, h = (i + j) / 2 := ⟨_, rfl⟩
      have g1 : i ≤ h := by omega
      have g2 : h < j := by omega
      obtain ⟨k, hk⟩ : ∃ k, h = m + k := ⟨h - m, by omega⟩
      have hkB : k < B.length := by have := HB.out; omega
      have g3 : ((i : Int) + (j : Int)) / 2 = (h : Int) := by omega
      obtain ⟨r1, r2⟩ := row0 P B S x
      have r2 := r2 k hkB
      rw [show P.length + 1 + k = h from by have := HA.out; have := HMA.out; omega] at r2
      rw [← HA.out] at r1
      obtain ⟨c1, f1⟩ := HR.out _ _ r1
      obtain ⟨c2, f2⟩ := HR.out _ _ r2
      have c1' : (w.drewN q0).cell? ⟨blk, a, none⟩ = some (.int .i64 (x : Int)) := c1
      have c2' : (w.drewN q0).cell? ⟨blk, h, none⟩ = some (.int .i64 (B[k] : Int)) := c2
      have hy := HBB.out B[k] (List.getElem_mem _)
      have hup : Hid (cb (ldf L) B[k] x = true → ∀ y ∈ B.take (k + 1), ah (ldf L) y x) := fun h => all_ahead HS.out hkB (cb_yes h)
      have hdn : Hid (cb (ldf L) B[k] x = false → ∀ y ∈ B.drop k, ah (ldf L) x y) := fun h => all_behind HS.out hkB (cb_no h hy.2)
      have hcl := clo_at w blk bx L HL.out B[k] x hy.1 hx q0
      generalize hyy : B[k] = y at *
      have HK : Hid (h = m + k) := hk
      have b1 : (h : Int) < (len : Int) := by omega
      have b2 : (a : Int) < (len : Int) := by have := HMA.out; omega
      have HW : Hid (Fr [blk] (w.drewN q0) (w.drewN q0)) := Fr.refl _ _
      generalize hw1 : w.drewN q0 = w1 at c1' c2' hcl ⊢
      have HW1 : Hid (w.drewN q0 = w1) := hw1
      clear hyy r1 r2 c1 c2 f1 f2 hh hk hw1 HW
      by_cases hc : cb (ldf L) y x = true
      · have hcv := cv_yes hc
        have hcv' : decide (cv L y x < 0) = true := decide_eq_true hcv
        generalize cv L y x = cc at hcv hcl hcv'
        go_wp2_with fail
        go_quiet (first | (go_at_call 33; exact Calls.quiet_of (hcl _)))
        go_wp2_with fail
        exact ⟨⟨h + 1, j, by go_num, rfl, by omega, by omega, hjb, by rw [show h + 1 - m = k + 1 from by have := HK.out; omega]; exact hup.out hc, hu, ⟨q0 + nq, by rw [← HW1.out, World.drewN_drewN]⟩⟩, by simp [intOf]; omega⟩
      · have hc : cb (ldf L) y x = false := by simpa using hc
        have hcv := cv_no hc
        have hcv' : decide (cv L y x < 0) = false := decide_eq_false hcv
        generalize cv L y x = cc at hcv hcl hcv'
        go_wp2_with fail
        go_quiet (first | (go_at_call 33; exact Calls.quiet_of (hcl _)))
        go_wp2_with fail
        exact ⟨⟨i, h, rfl, by go_num, by omega, by omega, by omega, hd, by rw [show h - m = k from by have := HK.out; omega]; exact hdn.out hc, ⟨q0 + nq, by rw [← HW1.out, World.drewN_drewN]⟩⟩, by simp [intOf]; omega⟩
    · have hz : ¬ (i : Int) < (j : Int) := by omega
      obtain rfl : i = j := by omega
      obtain ⟨t, ht⟩ : ∃ t, i = a + t + 1 := ⟨i - m, by have := HMA.out; omega⟩
      have htm : i - m = t := by have := HMA.out; omega
      rw [htm] at hd hu
      have HTB : Hid (t ≤ B.length) := by show _ ≤ _; have := HB.out; omega
      have hbt : a + t < len := by have := HMA.out; omega
      subst ht
      have b0 : wrap64 ((a : Int) + t + 1 - 1) = (a : Int) + t := by unfold wrap64; omega
      have HTM : Hid (a + t + 1 - m = t) := htm
      have HR2 : Hid (IR (w.drewN q0) blk (P ++ (put1 B x 0 ++ S))) := HR.out.drewN q0
      have HF0 : Hid (Fr [blk] w (w.drewN q0)) := (Fr.refl _ _).drewN q0
      clear htm
      generalize w.drewN q0 = w1 at HR2 HF0 ⊢
      go_wp2_with fail
      go_loopw [13] (fun vk wr => ∃ c : Nat, vk = .int .i64 ((a + c : Nat) : Int) ∧ c ≤ t ∧ Hid (IR wr blk (P ++ (put1 B x c ++ S))) ∧ Hid (Fr [blk] w wr)) (fun vk _ => a + t - (intOf vk).toNat)
      case atStart => exact ⟨0, by go_num, by omega, HR2, HF0⟩
      case round =>
        obtain ⟨c, rfl, hct, hI, hF⟩ := hrel
        obtain ⟨p, hp⟩ : ∃ p, p = a + c := ⟨_, rfl⟩
        rw [← hp]
        by_cases hlt2 : c < t
        · have hz2 : (p : Int) < (a : Int) + t := by omega
          have hz3 : (p : Int) + 1 < (len : Int) := by omega
          have hz4 : (p : Int) < (len : Int) := by omega
          have hz5 : (0 : Int) ≤ (p : Int) + 1 := by omega
          have e5 : ((p : Int) + 1).toNat = p + 1 := by omega
          obtain ⟨e1, k1, k2⟩ := put1_up P B S x c (by have := HTB.out; omega) p (p + 1) (by have := HA.out; omega) rfl
          obtain ⟨d1, f1⟩ := hI.out _ _ k1
          obtain ⟨d2, f2⟩ := hI.out _ _ k2
          generalize B[c]'(by have := HTB.out; omega) = y at k2 d2
          have hst : Hid (IR ((wr.setCell ⟨blk, p, none⟩ (.int .i64 (y : Int))).setCell ⟨blk, p + 1, none⟩ (.int .i64 (x : Int))) blk (P ++ (put1 B x (c + 1) ++ S))) := by
            have := hI.out.swp k1 k2
            rw [e1] at this
            exact this
          have hf' : Hid (Fr [blk] w ((wr.setCell ⟨blk, p, none⟩ (.int .i64 (y : Int))).setCell ⟨blk, p + 1, none⟩ (.int .i64 (x : Int)))) := ((hF.out).setCell (.inl (by simp)) _).setCell (.inl (by simp)) _
          have HP : Hid (p = a + c) := hp
          clear k1 k2 e1 hI hF hp
          go_wp2_with fail
          go_region
          all_goals go_wp2
          exact ⟨⟨c + 1, by have := HP.out; go_num, by omega, hst, hf'.out.drew⟩, by have := HP.out; simp [intOf]; omega⟩
        · obtain rfl : c = t := by omega
          have hz2 : ¬ (p : Int) < (a : Int) + c := by omega
          go_wp2_with fail
          exact bodyPost_ret (results_none rfl _ _ _) rfl ⟨rfl, ⟨put1 B x c, put1_perm _ _ _, put1_sorted HS.out hd.out hu.out, hI.out⟩, hF.out⟩

theorem rowE (P A S : List Nat) (y : Nat) : (P ++ (put1 A y A.length ++ S))[P.length + A.length]? = some y ∧ ∀ (k : Nat) (h : k < A.length), (P ++ (put1 A y A.length ++ S))[P.length + k]? = some A[k] := by
  have e : P ++ (put1 A y A.length ++ S) = (P ++ A) ++ y :: S := by unfold put1; rw [List.take_of_length_le (Nat.le_refl _), List.drop_of_length_le (Nat.le_refl _)]; simp
  rw [e]
  refine ⟨by rw [← List.length_append]; simp, fun k h => ?_⟩
  rw [List.getElem?_append_left (by rw [List.length_append]; omega), List.getElem?_append_right (by omega), Nat.add_sub_cancel_left, List.getElem?_eq_getElem h]
set_option maxRecDepth 100000 in
set_option maxHeartbeats 2000000 in
theorem sym_two (w : World) (blk cap len bx : Nat) (L : List Int) (P A S : List Nat) (y a m b : Nat) (ha : a = P.length) (hm : m = P.length + A.length) (hb : b = P.length + A.length + 1) (hlen : len = P.length + A.length + 1 + S.length) (hl62 : len < 4611686018427387904)
    (hA2 : 1 < A.length) (hL : LdAt w blk bx L) (hx : y < L.length) (hB : ∀ x ∈ A, x < L.length ∧ x < y) (hs : A.Pairwise (ah (ldf L))) (hR : IR w blk (P ++ (put1 A y A.length ++ S))) :
    Calls Tryd.prog 41 #[.slice (some ⟨blk, 0, none⟩) len cap, .int .i64 a, .int .i64 m, .int .i64 b, cmpF bx] w fun e w' => e = .returned (.tuple #[]) ∧ (∃ C : List Nat, C.Perm (y :: A) ∧ C.Pairwise (ah (ldf L)) ∧ IR w' blk (P ++ (C ++ S))) ∧ Fr [blk] w w' := by
  have hma : b = m + 1 := by omega
  have hbl : b ≤ len := by omega
  have ham : a + 1 < m := by omega
  have HA : Hid (a = P.length) := ha
  have HB : Hid (m = a + A.length) := by show _ = _; omega
  have HL : Hid (LdAt w blk bx L) := hL
  have HBB : Hid (∀ x ∈ A, x < L.length ∧ x < y) := hB
  have HS : Hid (A.Pairwise (ah (ldf L))) := hs
  have HR : Hid (IR w blk (P ++ (put1 A y A.length ++ S))) := hR
  have t0 : (wrap64 ((m : Int) - (a : Int)) == 1) = false := by rw [beq_eq_false_iff_ne]; unfold wrap64; omega
  have t1 : (wrap64 ((b : Int) - (m : Int)) == 1) = true := by rw [beq_iff_eq]; unfold wrap64; omega
  have HMA : Hid (b = m + 1) := hma
  clear hma hL hB hs hR ha hm hb hlen hA2
  unfold cmpF
  go_enter Tryd.func41, Tryd.ntmps41
  go_wp2_with fail
  go_loopw [14, 15] (fun vi vj wr => ∃ i j : Nat, vi = .int .i64 i ∧ vj = .int .i64 j ∧ a ≤ i ∧ i ≤ j ∧ j ≤ m ∧ Hid (∀ z ∈ A.take (i - a), ah (ldf L) z y) ∧ Hid (∀ z ∈ A.drop (j - a), ah (ldf L) y z) ∧ Hid (∃ q, wr = w.drewN q)) (fun vi vj _ => (intOf vj).toNat - (intOf vi).toNat)
  case atStart => exact ⟨a, m, rfl, rfl, by omega, by omega, Nat.le_refl _, by show ∀ y ∈ _, _; simp, by show ∀ y ∈ _, _; rw [List.drop_of_length_le (by have := HB.out; omega)]; simp, ⟨0, rfl⟩⟩
  case round =>
    obtain ⟨i, j, rfl, rfl, hmi, hij, hjb, hd, hu, ⟨q0, rfl⟩⟩ := hrel
    by_cases hlt : i < j
    · have hz : (i : Int) < (j : Int) := by omega
      obtain ⟨h, hh⟩ : ∃ h, h = (i + j) / 2 := ⟨_, rfl⟩
      have g1 : i ≤ h := by omega
      have g2 : h < j := by omega
      obtain ⟨k, hk⟩ : ∃ k, h = a + k := ⟨h - a, by omega⟩
      have hkB : k < A.length := by have := HB.out; omega
      have g3 : ((i : Int) + (j : Int)) / 2 = (h : Int) := by omega
      obtain ⟨r1, r2⟩ := rowE P A S y
      have r2 := r2 k hkB
      rw [show P.length + k = h from by have := HA.out; omega] at r2
      rw [show P.length + A.length = m from by have := HA.out; have := HB.out; omega] at r1
      obtain ⟨c1, f1⟩ := HR.out _ _ r1
      obtain ⟨c2, f2⟩ := HR.out _ _ r2
      have c1' : (w.drewN q0).cell? ⟨blk, m, none⟩ = some (.int .i64 (y : Int)) := c1
      have c2' : (w.drewN q0).cell? ⟨blk, h, none⟩ = some (.int .i64 (A[k] : Int)) := c2
      have hy := HBB.out A[k] (List.getElem_mem _)
      have hup : Hid (cb (ldf L) y A[k] = true → ∀ z ∈ A.drop k, ah (ldf L) y z) := fun h => all_behind HS.out hkB (cb_yes h)
      have hdn : Hid (cb (ldf L) y A[k] = false → ∀ z ∈ A.take (k + 1), ah (ldf L) z y) := fun h => all_ahead HS.out hkB (cb_no h hy.2)
      have hcl := clo_at w blk bx L HL.out y A[k] hx hy.1 q0
      generalize hyy : A[k] = x at *
      have HK : Hid (h = a + k) := hk
      have b1 : (h : Int) < (len : Int) := by have := HMA.out; omega
      have b2 : (m : Int) < (len : Int) := by have := HMA.out; omega
      generalize hw1 : w.drewN q0 = w1 at c1' c2' hcl ⊢
      have HW1 : Hid (w.drewN q0 = w1) := hw1
      clear hyy r1 r2 c1 c2 f1 f2 hh hk hw1
      by_cases hc : cb (ldf L) y x = true
      · have hcv := cv_yes hc
        have hcv' : decide (cv L y x < 0) = true := decide_eq_true hcv
        generalize cv L y x = cc at hcv hcl hcv'
        go_wp2_with fail
        go_quiet (first | (go_at_call 33; exact Calls.quiet_of (hcl _)))
        go_wp2_with fail
        exact ⟨⟨i, h, rfl, by go_num, by omega, by omega, by omega, hd, by rw [show h - a = k from by have := HK.out; omega]; exact hup.out hc, ⟨q0 + nq, by rw [← HW1.out, World.drewN_drewN]⟩⟩, by simp [intOf]; omega⟩
      · have hc : cb (ldf L) y x = false := by simpa using hc
        have hcv := cv_no hc
        have hcv' : decide (cv L y x < 0) = false := decide_eq_false hcv
        generalize cv L y x = cc at hcv hcl hcv'
        go_wp2_with fail
        go_quiet (first | (go_at_call 33; exact Calls.quiet_of (hcl _)))
        go_wp2_with fail
        exact ⟨⟨h + 1, j, by go_num, rfl, by omega, by omega, by omega, by rw [show h + 1 - a = k + 1 from by have := HK.out; omega]; exact hdn.out hc, hu, ⟨q0 + nq, by rw [← HW1.out, World.drewN_drewN]⟩⟩, by simp [intOf]; omega⟩
    · have hz : ¬ (i : Int) < (j : Int) := by omega
      obtain rfl : i = j := by omega
      obtain ⟨t, ht⟩ : ∃ t, i - a = t := ⟨_, rfl⟩
      rw [ht] at hd hu
      have HTI : Hid (i = a + t) := by show _ = _; omega
      have HR2 : Hid (IR (w.drewN q0) blk (P ++ (put1 A y A.length ++ S))) := HR.out.drewN q0
      have HF0 : Hid (Fr [blk] w (w.drewN q0)) := (Fr.refl _ _).drewN q0
      clear ht
      generalize w.drewN q0 = w1 at HR2 HF0 ⊢
      go_wp2_with fail
      go_loopw [17] (fun vk wr => ∃ k : Nat, vk = .int .i64 (k : Int) ∧ i ≤ k ∧ k ≤ m ∧ Hid (IR wr blk (P ++ (put1 A y (k - a) ++ S))) ∧ Hid (Fr [blk] w wr)) (fun vk _ => (intOf vk).toNat)
      case atStart => exact ⟨m, rfl, hjb, Nat.le_refl _, by rw [show m - a = A.length from by have := HB.out; omega]; exact HR2.out, HF0⟩
      case round =>
        obtain ⟨k, rfl, hik, hkm, hI, hF⟩ := hrel
        by_cases hlt2 : i < k
        · obtain ⟨p, rfl⟩ : ∃ p, k = p + 1 := ⟨k - 1, by omega⟩
          obtain ⟨c, hc⟩ : ∃ c, p = a + c := ⟨p - a, by omega⟩
          rw [show p + 1 - a = c + 1 from by omega] at hI
          have hcA : c < A.length := by have := HB.out; omega
          have hz2 : (i : Int) < (p : Int) + 1 := by omega
          have hz2' : (p : Int) + 1 > (i : Int) := by omega
          have hz3 : (p : Int) + 1 < (len : Int) := by have := HMA.out; omega
          have hz4 : (p : Int) < (len : Int) := by have := HMA.out; omega
          have hz5 : (0 : Int) ≤ (p : Int) + 1 := by omega
          have hz6 : IntKind.i64.wrap (p : Int) = (p : Int) := by rw [IntKind.wrap_i64]; omega
          have e5 : ((p : Int) + 1).toNat = p + 1 := by omega
          obtain ⟨e1, k1, k2⟩ := put1_dn P A S y c hcA p (p + 1) (by have := HA.out; omega) rfl
          obtain ⟨d1, f1⟩ := hI.out _ _ k1
          obtain ⟨d2, f2⟩ := hI.out _ _ k2
          generalize A[c] = x at k1 d1
          have hst : Hid (IR ((wr.setCell ⟨blk, p + 1, none⟩ (.int .i64 (x : Int))).setCell ⟨blk, p, none⟩ (.int .i64 (y : Int))) blk (P ++ (put1 A y c ++ S))) := by
            have := hI.out.swp k2 k1
            rw [e1] at this
            exact this
          have hf' : Hid (Fr [blk] w ((wr.setCell ⟨blk, p + 1, none⟩ (.int .i64 (x : Int))).setCell ⟨blk, p, none⟩ (.int .i64 (y : Int)))) := ((hF.out).setCell (.inl (by simp)) _).setCell (.inl (by simp)) _
          have HP : Hid (p = a + c) := hc
          clear k1 k2 e1 hI hF hc
          go_wp2_with fail
          obtain ⟨j1, hj1⟩ : ∃ j1, j1 = p + 1 := ⟨_, rfl⟩
          rw [← hj1] at d2 f2 hst hf' e5
          have J1 : Hid (j1 = p + 1) := hj1
          clear hj1
          go_region
          all_goals go_wp2
          exact ⟨⟨p, by go_num, by omega, by omega, by rw [show p - a = c from by have := HP.out; omega]; exact hst, hf'.out.drew⟩, by simp [intOf]⟩
        · obtain rfl : i = k := by omega
          have hz2 : ¬ (i : Int) > (i : Int) := by omega
          go_wp2_with fail
          rw [show i - a = t from by have := HTI.out; omega] at hI
          exact bodyPost_ret (results_none rfl _ _ _) rfl ⟨rfl, ⟨put1 A y t, put1_perm _ _ _, put1_sorted HS.out hd.out hu.out, hI.out⟩, hF.out⟩
end Go.Proofs.YtfkeokeedljomaaDoor
