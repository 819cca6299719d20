/- Two sorted pieces beside each other are merged where they lie, of any lengths. -/
import Derived.Test.YtfkeokeedljomaaDoorSe
namespace Go.Proofs.YtfkeokeedljomaaDoor
open Go.RowKit
set_option linter.unusedVariables false

def SymAt (N : Nat) : Prop := ∀ (w : World) (blk cap len bx : Nat) (L : List Int) (P A B S : List Nat) (a m b : Nat), A.length + B.length ≤ N → a = P.length → m = P.length + A.length → b = P.length + A.length + B.length → len = P.length + A.length + B.length + S.length → len < 4611686018427387904 →
    LdAt w blk bx L → Mg (ldf L) L.length A B → 0 < A.length → 0 < B.length → IR w blk (P ++ (A ++ (B ++ S))) →
    Calls Tryd.prog 41 #[.slice (some ⟨blk, 0, none⟩) len cap, .int .i64 a, .int .i64 m, .int .i64 b, cmpF bx] w fun e w' => e = .returned (.tuple #[]) ∧ (∃ C : List Nat, C.Perm (A ++ B) ∧ C.Pairwise (ah (ldf L)) ∧ IR w' blk (P ++ (C ++ S))) ∧ Fr [blk] w w'
theorem row2 (P A B S : List Nat) : (∀ (k x : Nat), A[k]? = some x → (P ++ (A ++ (B ++ S)))[P.length + k]? = some x) ∧ ∀ (k x : Nat), B[k]? = some x → (P ++ (A ++ (B ++ S)))[P.length + A.length + k]? = some x := by
  refine ⟨fun k x h => ?_, fun k x h => ?_⟩
  · have hl := (List.getElem?_eq_some_iff.1 h).1
    rw [List.getElem?_append_right (by omega), Nat.add_sub_cancel_left, List.getElem?_append_left hl]; exact h
  · have hl := (List.getElem?_eq_some_iff.1 h).1
    rw [List.getElem?_append_right (by omega), show P.length + A.length + k - P.length = A.length + k from by omega, List.getElem?_append_right (by omega), Nat.add_sub_cancel_left, List.getElem?_append_left hl]; exact h

def ltB (x y z : Nat) : Bool := decide (x < y) && decide (y < z)
theorem ltB_yes {x y z : Nat} (h : x < y ∧ y < z) : ltB x y z = true := by unfold ltB; simp [h.1, h.2]
theorem ltB_no {x y z : Nat} (h : ¬ (x < y ∧ y < z)) : ltB x y z = false := by unfold ltB; rw [Bool.and_eq_false_iff, decide_eq_false_iff_not, decide_eq_false_iff_not]; omega
theorem ltB_t {x y z : Nat} (h : true = ltB x y z) : x < y ∧ y < z := by
  refine Classical.byContradiction fun k => ?_
  rw [ltB_no k] at h; cases h
theorem ltB_f {x y z : Nat} (h : false = ltB x y z) : ¬ (x < y ∧ y < z) := fun k => by rw [ltB_yes k] at h; cases h
theorem parted {l : List Nat} {i : Nat} (h : i ≤ l.length) : ∃ a b, l = a ++ b ∧ a.length = i ∧ l.take i = a ∧ l.drop i = b := ⟨_, _, (List.take_append_drop i l).symm, by rw [List.length_take]; omega, rfl, rfl⟩

set_option maxRecDepth 100000 in
set_option maxHeartbeats 4000000 in
theorem sym_big (N : Nat) (IH : SymAt N) (w : World) (blk cap len bx : Nat) (L : List Int) (P A B S : List Nat) (a m b mid n s0 r0 : Nat) (hN : A.length + B.length ≤ N + 1) (hK : Cuts A B a m b mid n s0 r0) (ha : a = P.length)
    (hlen : len = P.length + A.length + B.length + S.length) (hl62 : len < 4611686018427387904) (hL : LdAt w blk bx L) (hM : Mg (ldf L) L.length A B) (hR : IR w blk (P ++ (A ++ (B ++ S)))) :
    Calls Tryd.prog 41 #[.slice (some ⟨blk, 0, none⟩) len cap, .int .i64 a, .int .i64 m, .int .i64 b, cmpF bx] w fun e w' => e = .returned (.tuple #[]) ∧ (∃ C : List Nat, C.Perm (A ++ B) ∧ C.Pairwise (ah (ldf L)) ∧ IR w' blk (P ++ (C ++ S))) ∧ Fr [blk] w w' := by
  obtain ⟨p, rfl⟩ : ∃ p, n = p + 1 := ⟨n - 1, by have := hK.en; have := hK.ea; have := hK.la; omega⟩
  have hbd := hK.bounds
  have hma := hK.ea
  have hmb := hK.eb
  have hla := hK.la
  have hlb := hK.lb
  have hnn := hK.en
  have hmm := hK.emid
  have k1 : a + 1 < m := by omega
  have k2 : m + 1 < b := by omega
  have k3 : b ≤ len := by omega
  have k4 : mid < b := hbd.2.2.2.2.2.1
  have k5 : a < mid := hbd.2.2.2.2.1
  have t0 : (wrap64 ((m : Int) - (a : Int)) == 1) = false := by rw [beq_eq_false_iff_ne]; unfold wrap64; omega
  have t1 : (wrap64 ((b : Int) - (m : Int)) == 1) = false := by rw [beq_eq_false_iff_ne]; unfold wrap64; omega
  have g1 : ((a : Int) + (b : Int)) / 2 = (mid : Int) := by omega
  have g2 : (mid : Int) + (m : Int) = (p : Int) + 1 := by omega
  have HK : Hid (Cuts A B a m b mid (p + 1) s0 r0) := hK
  have HA : Hid (a = P.length) := ha
  have HLN : Hid (len = P.length + A.length + B.length + S.length) := hlen
  have HL : Hid (LdAt w blk bx L) := hL
  have HM : Hid (Mg (ldf L) L.length A B) := hM
  have HR : Hid (IR w blk (P ++ (A ++ (B ++ S)))) := hR
  have HI : Hid (SymAt N) := IH
  have HN : Hid (A.length + B.length ≤ N + 1) := hN
  have n2 : p + 1 < 9223372036854775807 := by omega
  have HB : Hid (a ≤ s0 ∧ s0 ≤ r0 ∧ r0 ≤ m ∧ r0 ≤ mid ∧ a < mid ∧ mid < b ∧ ∀ c, s0 ≤ c → c < r0 → a ≤ c ∧ c < m ∧ m + c + 1 ≤ p + 1 ∧ p + 1 ≤ b + c) := hbd
  clear hK ha hlen hL hM hR IH hN hbd hma hmb hla hlb hnn hmm
  unfold cmpF
  go_enter Tryd.func41, Tryd.ntmps41
  go_upto_if 140 with fail
  go_cut [20, 21] (fun v20 v21 wc => v20 = .int .i64 (s0 : Int) ∧ v21 = .int .i64 (r0 : Int) ∧ w = wc)
  case first =>
    rcases Nat.lt_or_ge mid m with hlt | hge
    · have z : (m : Int) > (mid : Int) := by omega
      have z2 : decide ((m : Int) > (mid : Int)) = true := decide_eq_true z
      have e1 := HK.out.es.1 hlt
      have e2 := HK.out.er.1 hlt
      have e3 : wrap64 ((p : Int) + 1 - (b : Int)) = (s0 : Int) := by unfold wrap64; omega
      have e4 : ((p : Int) + 1 - (b : Int)) = (s0 : Int) := by omega
      clear e1
      subst e2
      go_wp2_with fail
      go_meet
      exact ⟨rfl, rfl, rfl⟩
    · have z : ¬ (m : Int) > (mid : Int) := by omega
      have z2 : decide ((m : Int) > (mid : Int)) = false := decide_eq_false z
      have e1 := HK.out.es.2 hge
      have e2 := HK.out.er.2 hge
      subst e1
      subst e2
      go_wp2_with fail
      go_meet
      exact ⟨rfl, rfl, rfl⟩
  case rest =>
    obtain ⟨rfl, rfl, rfl⟩ := hcut
    go_wp2_with fail
    go_loopw [20, 21] (fun vs vr wr => ∃ s r : Nat, vs = .int .i64 s ∧ vr = .int .i64 r ∧ s0 ≤ s ∧ s ≤ r ∧ r ≤ r0 ∧ Hid (SLo (ldf L) A B a m p s0 s) ∧ Hid (SHi (ldf L) A B a m p r0 r) ∧ Hid (∃ q, wr = w.drewN q)) (fun vs vr _ => (intOf vr).toNat - (intOf vs).toNat)
    case atStart => exact ⟨s0, r0, rfl, rfl, Nat.le_refl _, HB.out.2.1, Nat.le_refl _, .inl rfl, .inl rfl, ⟨0, rfl⟩⟩
    case round =>
      obtain ⟨s, r, rfl, rfl, hs, hsr, hr, hlo, hhi, ⟨q0, rfl⟩⟩ := hrel
      by_cases hlt : s < r
      · have hz : (s : Int) < (r : Int) := by omega
        obtain ⟨c, hc⟩ : ∃ c, c = (s + r) / 2 := ⟨_, rfl⟩
        have hc1 : s ≤ c := by omega
        have hc2 : c < r := by omega
        have hr63 : r < 4611686018427387904 := by have := HB.out; omega
        obtain ⟨x1, x2, x3, x4⟩ := HB.out.2.2.2.2.2.2 c (by omega) (by omega)
        have g3 : ((s : Int) + (r : Int)) / 2 = (c : Int) := by omega
        obtain ⟨d, hd⟩ : ∃ d, d = p - c := ⟨_, rfl⟩
        have g4 : (p : Int) - (c : Int) = (d : Int) := by omega
        have HD : Hid (d = p - c) := hd
        have HKa := HK.out.ea
        have HKb := HK.out.eb
        obtain ⟨x, hx⟩ := at_lt (l := A) (k := c - a) (by omega)
        obtain ⟨y, hy⟩ := at_lt (l := B) (k := p - c - m) (by omega)
        have r1 := (row2 P A B S).1 _ _ hx
        have r2 := (row2 P A B S).2 _ _ hy
        rw [show P.length + (c - a) = c from by have := HA.out; omega] at r1
        rw [show P.length + A.length + (p - c - m) = d from by have := HA.out; omega] at r2
        obtain ⟨c1, f1⟩ := HR.out _ _ r1
        obtain ⟨c2, f2⟩ := HR.out _ _ r2
        have c1' : (w.drewN q0).cell? ⟨blk, c, none⟩ = some (.int .i64 (x : Int)) := c1
        have c2' : (w.drewN q0).cell? ⟨blk, d, none⟩ = some (.int .i64 (y : Int)) := c2
        have hxm := List.mem_of_getElem? hx
        have hym := List.mem_of_getElem? hy
        have hcl := clo_at w blk bx L HL.out y x (HM.out.b y hym) (HM.out.a x hxm) q0
        have hup : Hid (cb (ldf L) y x = true → SHi (ldf L) A B a m p r0 c) := fun h => .inr ⟨x, y, hx, hy, cb_yes h⟩
        have hdn : Hid (cb (ldf L) y x = false → SLo (ldf L) A B a m p s0 (c + 1)) := fun h => .inr ⟨x, y, by omega, by rw [Nat.add_sub_cancel]; exact hx, by rw [show p + 1 - (c + 1) - m = p - c - m from by omega]; exact hy, cb_no h (HM.out.c x hxm y hym)⟩
        have b1 : (c : Int) < (len : Int) := by omega
        have b2 : (d : Int) < (len : Int) := by omega
        generalize hw1 : w.drewN q0 = w1 at c1' c2' hcl ⊢
        have HW1 : Hid (w.drewN q0 = w1) := hw1
        clear hx hy r1 r2 c1 c2 f1 f2 hw1 hc hd HKa HKb x1 x2 x3 x4 hxm hym
        by_cases hcb : cb (ldf L) y x = true
        · have hcv := cv_yes hcb
          have hcv' : decide (cv L y x < 0) = true := decide_eq_true hcv
          generalize cv L y x = cc at hcv hcl hcv'
          go_wp2_with fail
          go_quiet (first | (go_at_call 33; exact Calls.quiet_of (hcl _)))
          go_wp2_with fail
          exact ⟨⟨s, c, rfl, by go_num, hs, hc1, by omega, hlo, hup.out hcb, ⟨q0 + nq, by rw [← HW1.out, World.drewN_drewN]⟩⟩, by simp [intOf]; omega⟩
        · have hcb : cb (ldf L) y x = false := by simpa using hcb
          have hcv := cv_no hcb
          have hcv' : decide (cv L y x < 0) = false := decide_eq_false hcv
          generalize cv L y x = cc at hcv hcl hcv'
          go_wp2_with fail
          go_quiet (first | (go_at_call 33; exact Calls.quiet_of (hcl _)))
          go_wp2_with fail
          exact ⟨⟨c + 1, r, by go_num, rfl, by omega, by omega, hr, hdn.out hcb, hhi, ⟨q0 + nq, by rw [← HW1.out, World.drewN_drewN]⟩⟩, by simp [intOf]; omega⟩
      · have hz : ¬ (s : Int) < (r : Int) := by omega
        obtain rfl : s = r := by omega
        obtain ⟨i, j, e1, e2, e3, hi, hj, hlo2, hhi2⟩ := HK.out.fine HM.out hs hr (by rw [Nat.add_sub_cancel]; exact hlo.out) (by rw [Nat.add_sub_cancel]; exact hhi.out)
        obtain ⟨e, he⟩ : ∃ e, e = m + j := ⟨_, rfl⟩
        have g4 : (p : Int) + 1 - (s : Int) = (e : Int) := by omega
        have HE : Hid (s = a + i ∧ e = m + j ∧ mid = s + j) := ⟨e1, he, e3⟩
        have HIJ : Hid (i ≤ A.length ∧ j ≤ B.length) := ⟨hi, hj⟩
        have HX1 : Hid (∀ x ∈ A.take i, ∀ y ∈ B.drop j, ah (ldf L) x y) := hlo2
        have HX2 : Hid (∀ x ∈ A.drop i, ∀ y ∈ B.take j, ah (ldf L) y x) := hhi2
        have HR2 : Hid (IR (w.drewN q0) blk (P ++ (A ++ (B ++ S)))) := HR.out.drewN q0
        have HF2 : Hid (Fr [blk] w (w.drewN q0)) := (Fr.refl _ _).drewN q0
        have hem : e < 4611686018427387904 := by have := HK.out.eb; omega
        have hsm : s < 4611686018427387904 := by have := HB.out; omega
        clear hlo hhi e1 e2 e3 he hi hj hlo2 hhi2
        generalize w.drewN q0 = w1 at HR2 HF2 ⊢
        have HF2 : Hid (Fr [blk] w w1) := HF2
        obtain ⟨A1, A2, hA12, lA1, tA1, tA2⟩ := parted HIJ.out.1
        obtain ⟨B1, B2, hB12, lB1, tB1, tB2⟩ := parted HIJ.out.2
        have HY1 : Hid (∀ x ∈ A1, ∀ y ∈ B2, ah (ldf L) x y) := by have := HX1.out; rwa [tA1, tB2] at this
        have HY2 : Hid (∀ x ∈ A2, ∀ y ∈ B1, ah (ldf L) y x) := by have := HX2.out; rwa [tA2, tB1] at this
        clear tA1 tA2 tB1 tB2 HX1 HX2
        subst hA12 hB12
        have HLI : Hid (A1.length = i ∧ B1.length = j ∧ (A1 ++ A2).length = i + A2.length ∧ (B1 ++ B2).length = j + B2.length) := ⟨lA1, lB1, by rw [List.length_append]; omega, by rw [List.length_append]; omega⟩
        clear lA1 lB1
        have HMM : Hid (Mg (ldf L) L.length A1 B1 ∧ Mg (ldf L) L.length A2 B2) := ⟨HM.out.sub (List.sublist_append_left _ _) (List.sublist_append_left _ _), HM.out.sub (List.sublist_append_right _ _) (List.sublist_append_right _ _)⟩
        have HNUM : Hid (a = P.length ∧ s = a + i ∧ m = s + A2.length ∧ e = m + j ∧ b = e + B2.length ∧ mid = s + j ∧ len = b + S.length) := by
          have := HLI.out; have := HE.out; have := HA.out; have := HK.out.ea; have := HK.out.eb; have := HLN.out
          show _ ∧ _; omega
        obtain ⟨t185, HT185⟩ : ∃ t : Bool, Hid (t = ltB s m e) := ⟨_, rfl⟩
        go_upto_region 39 with fail
        go_cut [185] (fun v wd => v = .bool t185 ∧ w1 = wd)
        case first =>
          as_aux_lemma =>
            by_cases h1 : s < m
            · have z1 : (s : Int) < (m : Int) := by omega
              by_cases h2 : m < e
              · have z2 : (m : Int) < (e : Int) := by omega
                go_wp2_with fail
                go_meet
                exact ⟨by rw [HT185.out]; simp [ltB, h1, h2], rfl⟩
              · have z2 : ¬ (m : Int) < (e : Int) := by omega
                go_wp2_with fail
                go_meet
                exact ⟨by rw [HT185.out]; simp [ltB, h1, h2], rfl⟩
            · have z1 : ¬ (s : Int) < (m : Int) := by omega
              go_wp2_with fail
              go_meet
              exact ⟨by rw [HT185.out]; simp [ltB, h1], rfl⟩
        case rest =>
          obtain ⟨rfl, rfl⟩ := hcut
          go_upto_if 185 with fail
          go_cut [24] (fun v wd => v = .int .i64 (e : Int) ∧ IR wd blk (P ++ (A1 ++ (B1 ++ (A2 ++ (B2 ++ S))))) ∧ Fr [blk] w wd)
          case first =>
            as_aux_lemma =>
              cases t185 with
              | true =>
                have h1 := ltB_t HT185.out
                have HR3 : Hid (IR w1 blk ((P ++ A1) ++ (A2 ++ (B1 ++ (B2 ++ S))))) := by
                  have := HR2.out
                  show IR _ _ _
                  simpa using this
                have i1 : 0 < A2.length := by have := HNUM.out; omega
                have j1 : 0 < B1.length := by have := HNUM.out; have := HLI.out; omega
                clear h1
                go_wp2_with fail
                refine (rot_any _ blk cap len _ (P ++ A1) A2 B1 (B2 ++ S) s m e ?_ ?_ ?_ ?_ hl62 i1 j1 HR3.out).mono ?_
                · rw [List.length_append]; have := HNUM.out; have := HLI.out; omega
                · rw [List.length_append]; have := HNUM.out; have := HLI.out; omega
                · rw [List.length_append]; have := HNUM.out; have := HLI.out; omega
                · rw [List.length_append, List.length_append]; have := HNUM.out; have := HLI.out; omega
                rintro e' w2 ⟨rfl, hI3, hF3⟩
                go_wp2_with fail
                go_meet
                exact ⟨rfl, by simpa using hI3, HF2.out.trans hF3⟩
              | false =>
                have h1 := ltB_f HT185.out
                have HR3 : Hid (IR w1 blk (P ++ (A1 ++ (B1 ++ (A2 ++ (B2 ++ S)))))) := by
                  show IR _ _ _
                  have hr := HR2.out
                  by_cases hi : 0 < A2.length
                  · have hj : B1 = [] := List.eq_nil_of_length_eq_zero (by have := HNUM.out; have := HLI.out; omega)
                    subst hj
                    simpa using hr
                  · have hj : A2 = [] := List.eq_nil_of_length_eq_zero (by omega)
                    subst hj
                    simpa using hr
                clear h1
                go_wp2_with fail
                go_meet
                exact ⟨rfl, HR3.out, HF2.out⟩
          case rest =>
            rename World => w2
            obtain ⟨rfl, hR3, hF3⟩ := hcut
            have HR3 : Hid (IR w2 blk (P ++ (A1 ++ (B1 ++ (A2 ++ (B2 ++ S)))))) := hR3
            have HF3 : Hid (Fr [blk] w w2) := hF3
            clear hR3 hF3 HR2 HF2
            obtain ⟨t199, HT199⟩ : ∃ t : Bool, Hid (t = ltB a s mid) := ⟨_, rfl⟩
            go_upto_region 41 with fail
            go_cut [199] (fun v wd => v = .bool t199 ∧ w2 = wd)
            case first =>
              as_aux_lemma =>
                by_cases h1 : a < s
                · have z1 : (a : Int) < (s : Int) := by omega
                  by_cases h2 : s < mid
                  · have z2 : (s : Int) < (mid : Int) := by omega
                    go_wp2_with fail
                    go_meet
                    exact ⟨by rw [HT199.out]; simp [ltB, h1, h2], rfl⟩
                  · have z2 : ¬ (s : Int) < (mid : Int) := by omega
                    go_wp2_with fail
                    go_meet
                    exact ⟨by rw [HT199.out]; simp [ltB, h1, h2], rfl⟩
                · have z1 : ¬ (a : Int) < (s : Int) := by omega
                  go_wp2_with fail
                  go_meet
                  exact ⟨by rw [HT199.out]; simp [ltB, h1], rfl⟩
            case rest =>
              obtain ⟨rfl, rfl⟩ := hcut
              go_upto_if 199 with fail
              go_cut [24] (fun v wd => v = .int .i64 (e : Int) ∧ (∃ C1 : List Nat, C1.Perm (A1 ++ B1) ∧ C1.Pairwise (ah (ldf L)) ∧ IR wd blk (P ++ (C1 ++ (A2 ++ (B2 ++ S))))) ∧ Fr [blk] w wd)
              case first =>
                as_aux_lemma =>
                  cases t199 with
                  | true =>
                    have h1 := ltB_t HT199.out
                    have i1 : 0 < A1.length := by have := HNUM.out; have := HLI.out; omega
                    have j1 : 0 < B1.length := by have := HNUM.out; have := HLI.out; omega
                    clear h1
                    go_wp2_with fail
                    refine (HI.out _ blk cap len bx L P A1 B1 (A2 ++ (B2 ++ S)) a s mid ?_ ?_ ?_ ?_ ?_ hl62 (HL.out.fr HF3.out) HMM.out.1 i1 j1 HR3.out).mono ?_
                    · have := HNUM.out; have := HLI.out; have := HN.out; have := k4; omega
                    · have := HNUM.out; omega
                    · have := HNUM.out; have := HLI.out; omega
                    · have := HNUM.out; have := HLI.out; omega
                    · rw [List.length_append, List.length_append]; have := HNUM.out; have := HLI.out; omega
                    rintro e' w3 ⟨rfl, hI3, hF3⟩
                    go_wp2_with fail
                    go_meet
                    exact ⟨rfl, hI3, HF3.out.trans hF3⟩
                  | false =>
                    have h1 := ltB_f HT199.out
                    have HC1 : Hid ((A1 ++ B1).Pairwise (ah (ldf L))) := by
                      show List.Pairwise _ _
                      by_cases hi : 0 < A1.length
                      · have hj : B1 = [] := List.eq_nil_of_length_eq_zero (by have := HNUM.out; have := HLI.out; omega)
                        subst hj
                        simpa using HMM.out.1.sa
                      · have hj : A1 = [] := List.eq_nil_of_length_eq_zero (by omega)
                        subst hj
                        simpa using HMM.out.1.sb
                    clear h1
                    go_wp2_with fail
                    go_meet
                    exact ⟨rfl, ⟨A1 ++ B1, List.Perm.refl _, HC1.out, by simpa using HR3.out⟩, HF3.out⟩
              case rest =>
                rename World => w3
                obtain ⟨rfl, hC, hF4⟩ := hcut
                have HC : Hid (∃ C1 : List Nat, C1.Perm (A1 ++ B1) ∧ C1.Pairwise (ah (ldf L)) ∧ IR w3 blk (P ++ (C1 ++ (A2 ++ (B2 ++ S))))) := hC
                have HF4 : Hid (Fr [blk] w w3) := hF4
                have HFIN : Hid (∀ C1 C2 : List Nat, C1.Perm (A1 ++ B1) → C1.Pairwise (ah (ldf L)) → C2.Perm (A2 ++ B2) → C2.Pairwise (ah (ldf L)) → (C1 ++ C2).Perm (A1 ++ A2 ++ (B1 ++ B2)) ∧ (C1 ++ C2).Pairwise (ah (ldf L))) := fun C1 C2 p1 s1 p2 s2 => by
                  have hi : A1.length = i := HLI.out.1
                  have hj : B1.length = j := HLI.out.2.1
                  refine meet_sorted (A := A1 ++ A2) (B := B1 ++ B2) (i := i) (j := j) HM.out.sa HM.out.sb ?_ ?_ ?_ s1 ?_ s2
                  · rw [List.take_left' hi, List.drop_left' hj]; exact HY1.out
                  · rw [List.drop_left' hi, List.take_left' hj]; exact HY2.out
                  · rw [List.take_left' hi, List.take_left' hj]; exact p1
                  · rw [List.drop_left' hi, List.drop_left' hj]; exact p2
                clear hC hF4 HR3 HF3
                obtain ⟨t213, HT213⟩ : ∃ t : Bool, Hid (t = ltB mid e b) := ⟨_, rfl⟩
                go_upto_region 43 with fail
                go_cut [213] (fun v wd => v = .bool t213 ∧ w3 = wd)
                case first =>
                  as_aux_lemma =>
                    by_cases h1 : mid < e
                    · have z1 : (mid : Int) < (e : Int) := by omega
                      by_cases h2 : e < b
                      · have z2 : (e : Int) < (b : Int) := by omega
                        go_wp2_with fail
                        go_meet
                        exact ⟨by rw [HT213.out]; simp [ltB, h1, h2], rfl⟩
                      · have z2 : ¬ (e : Int) < (b : Int) := by omega
                        go_wp2_with fail
                        go_meet
                        exact ⟨by rw [HT213.out]; simp [ltB, h1, h2], rfl⟩
                    · have z1 : ¬ (mid : Int) < (e : Int) := by omega
                      go_wp2_with fail
                      go_meet
                      exact ⟨by rw [HT213.out]; simp [ltB, h1], rfl⟩
                case rest =>
                  obtain ⟨rfl, rfl⟩ := hcut
                  obtain ⟨C1, p1, s1, hI4⟩ := HC.out
                  have HP1 : Hid (C1.Perm (A1 ++ B1) ∧ C1.Pairwise (ah (ldf L)) ∧ C1.length = i + j) := ⟨p1, s1, by rw [p1.length_eq, List.length_append, HLI.out.1, HLI.out.2.1]⟩
                  have HI4 : Hid (IR w3 blk (P ++ (C1 ++ (A2 ++ (B2 ++ S))))) := hI4
                  clear p1 s1 hI4 HC
                  cases t213 with
                  | true =>
                    have h1 := ltB_t HT213.out
                    have i1 : 0 < A2.length := by have := HNUM.out; have := HLI.out; omega
                    have j1 : 0 < B2.length := by have := HNUM.out; have := HLI.out; omega
                    clear h1
                    go_wp2_with fail
                    refine (HI.out _ blk cap len bx L (P ++ C1) A2 B2 S mid e b ?_ ?_ ?_ ?_ ?_ hl62 (HL.out.fr HF4.out) HMM.out.2 i1 j1 (by have := HI4.out; simpa using this)).mono ?_
                    · have := HNUM.out; have := HLI.out; have := HN.out; have := k5; omega
                    · rw [List.length_append]; have := HNUM.out; have := HP1.out; omega
                    · rw [List.length_append]; have := HNUM.out; have := HP1.out; omega
                    · rw [List.length_append]; have := HNUM.out; have := HP1.out; omega
                    · rw [List.length_append]; have := HNUM.out; have := HP1.out; omega
                    rintro e' w4 ⟨rfl, ⟨C2, p2, s2, hI5⟩, hF5⟩
                    go_wp2_with fail
                    obtain ⟨q1, q2⟩ := HFIN.out C1 C2 HP1.out.1 HP1.out.2.1 p2 s2
                    exact bodyPost_end (results_none rfl _ _ _) rfl ⟨rfl, ⟨C1 ++ C2, q1, q2, by simpa using hI5⟩, HF4.out.trans hF5⟩
                  | false =>
                    have h1 := ltB_f HT213.out
                    have HC2 : Hid ((A2 ++ B2).Pairwise (ah (ldf L))) := by
                      show List.Pairwise _ _
                      by_cases hi : 0 < A2.length
                      · have hj : B2 = [] := List.eq_nil_of_length_eq_zero (by have := HNUM.out; have := HLI.out; omega)
                        subst hj
                        simpa using HMM.out.2.sa
                      · have hj : A2 = [] := List.eq_nil_of_length_eq_zero (by omega)
                        subst hj
                        simpa using HMM.out.2.sb
                    clear h1
                    go_wp2_with fail
                    obtain ⟨q1, q2⟩ := HFIN.out C1 (A2 ++ B2) HP1.out.1 HP1.out.2.1 (List.Perm.refl _) HC2.out
                    exact bodyPost_end (results_none rfl _ _ _) rfl ⟨rfl, ⟨C1 ++ (A2 ++ B2), by simpa using q1, by simpa using q2, by simpa using HI4.out⟩, HF4.out⟩

theorem sym_any : ∀ N, SymAt N := by
  intro N
  induction N with
  | zero => intro w blk cap len bx L P A B S a m b hN _ _ _ _ _ _ _ hA hB _; omega
  | succ N IH =>
    intro w blk cap len bx L P A B S a m b hN ha hm hb hlen hl62 hL hM hA hB hR
    by_cases h1 : A.length = 1
    · obtain ⟨x, rfl⟩ := List.length_eq_one_iff.1 h1
      refine (sym_one w blk cap len bx L P B S x a m b ha (by simpa using hm) (by simpa using hb) (by simpa using hlen) hl62 hL (hM.a x (by simp)) (fun y hy => ⟨hM.b y hy, hM.c x (by simp) y hy⟩) hM.sb ?_).mono ?_
      · simpa [put1] using hR
      · rintro e w' ⟨h1, ⟨C, h2, h3, h4⟩, h5⟩
        exact ⟨h1, ⟨C, h2, h3, h4⟩, h5⟩
    · by_cases h2 : B.length = 1
      · obtain ⟨y, rfl⟩ := List.length_eq_one_iff.1 h2
        refine (sym_two w blk cap len bx L P A S y a m b ha hm (by simpa using hb) (by simpa using hlen) hl62 (by omega) hL (hM.b y (by simp)) (fun x hx => ⟨hM.a x hx, hM.c x hx y (by simp)⟩) hM.sa ?_).mono ?_
        · simpa [put1] using hR
        · rintro e w' ⟨h1, ⟨C, h2, h3, h4⟩, h5⟩
          exact ⟨h1, ⟨C, h2.trans (List.perm_append_comm (l₁ := [y])), h3, h4⟩, h5⟩
      · have hmid : (a + b) / 2 = (a + b) / 2 := rfl
        rcases Nat.lt_or_ge ((a + b) / 2) m with hlt | hge
        · exact sym_big N IH w blk cap len bx L P A B S a m b ((a + b) / 2) ((a + b) / 2 + m) ((a + b) / 2 + m - b) ((a + b) / 2) hN
            ⟨by omega, by omega, by omega, by omega, rfl, rfl, ⟨fun _ => by omega, fun h => by omega⟩, ⟨fun _ => rfl, fun h => by omega⟩⟩ ha hlen hl62 hL hM hR
        · exact sym_big N IH w blk cap len bx L P A B S a m b ((a + b) / 2) ((a + b) / 2 + m) a m hN
            ⟨by omega, by omega, by omega, by omega, rfl, rfl, ⟨fun h => by omega, fun _ => rfl⟩, ⟨fun h => by omega, fun _ => rfl⟩⟩ ha hlen hl62 hL hM hR
end Go.Proofs.YtfkeokeedljomaaDoor
