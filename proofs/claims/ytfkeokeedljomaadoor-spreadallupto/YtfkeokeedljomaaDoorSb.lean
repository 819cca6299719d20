/- Two pieces of a row change places: of one length (swapRange), or of any (rotate). -/
import Derived.Test.YtfkeokeedljomaaDoorSa
namespace Go.Proofs.YtfkeokeedljomaaDoor
open Go.RowKit
set_option linter.unusedVariables false

set_option maxHeartbeats 1000000 in
theorem swr_any (w : World) (blk cap len : Nat) (fv : Value) (P X M Y S : List Nat) (a b n : Nat) (ha : a = P.length) (hn : X.length = n) (hn2 : Y.length = n) (hb : b = P.length + n + M.length)
    (hlen : len = P.length + n + M.length + n + S.length) (hl62 : len < 4611686018427387904) (hR : IR w blk (P ++ (X ++ (M ++ (Y ++ S))))) :
    Calls Tryd.prog 43 #[.slice (some ⟨blk, 0, none⟩) len cap, .int .i64 a, .int .i64 b, .int .i64 n, fv] w fun e w' => e = .returned (.tuple #[]) ∧ IR w' blk (P ++ (Y ++ (M ++ (X ++ S)))) ∧ Fr [blk] w w' := by
  have hbl : b + n ≤ len := by omega
  have hal : a + n ≤ len := by omega
  have hab : a + n ≤ b := by omega
  have HA : Hid (a = P.length) := ha
  have HB : Hid (b = P.length + n + M.length) := hb
  have HN : Hid (X.length = n) := hn
  have HN2 : Hid (Y.length = n) := hn2
  have HLN : Hid (len = P.length + n + M.length + n + S.length) := hlen
  clear ha hb hn hn2 hlen
  have HR : Hid (IR w blk (swr P X M Y S 0)) := by show IR _ _ _; rw [swr_0]; exact hR
  clear hR
  have HE : Hid (swr P X M Y S n = P ++ (Y ++ (M ++ (X ++ S)))) := swr_end P X M Y S n HN.out HN2.out
  go_enter Tryd.func43, Tryd.ntmps43
  go_wp2
  go_loopw [10] (fun i wr => ∃ k : Nat, i = .int .i64 k ∧ k ≤ n ∧ Hid (IR wr blk (swr P X M Y S k)) ∧ Hid (Fr [blk] w wr)) (fun i _ => n - (intOf i).toNat)
  case atStart => exact ⟨0, rfl, by omega, HR, Fr.refl _ _⟩
  case round =>
    obtain ⟨k, rfl, hk, hI, hF⟩ := hrel
    by_cases hlt : k < n
    · have hz : (k : Int) < (n : Int) := by omega
      have hln := swr_len P X M Y S n k HN.out HN2.out (by omega)
      obtain ⟨x, hx⟩ := at_lt (l := swr P X M Y S k) (k := a + k) (by rw [hln]; have := HA.out; omega)
      obtain ⟨y, hy⟩ := at_lt (l := swr P X M Y S k) (k := b + k) (by rw [hln]; have := HB.out; omega)
      obtain ⟨c1, f1⟩ := hI.out _ _ hx
      obtain ⟨c2, f2⟩ := hI.out _ _ hy
      have hst : Hid (IR ((wr.setCell ⟨blk, a + k, none⟩ (.int .i64 (y : Int))).setCell ⟨blk, b + k, none⟩ (.int .i64 (x : Int))) blk (swr P X M Y S (k + 1))) := by
        have := hI.out.swp hx hy
        rw [swr_step P X M Y S n k HN.out HN2.out hlt (a + k) (b + k) (by have := HA.out; omega) (by have := HB.out; omega)] at this
        exact this
      clear hx hy hln
      have b1 : (a : Int) + k < len := by omega
      have b2 : (b : Int) + k < len := by omega
      have b3 : (0 : Int) ≤ (a : Int) + k := by omega
      have b4 : (0 : Int) ≤ (b : Int) + k := by omega
      have e1 : ((a : Int) + k).toNat = a + k := by omega
      have e2 : ((b : Int) + k).toNat = b + k := by omega
      go_wp2_with fail
      go_region
      all_goals go_wp2
      exact ⟨⟨k + 1, by go_num, by omega, hst, (hF.out.setCell (.inl (by simp)) _ |>.setCell (.inl (by simp)) _).drew⟩, by simp [intOf]; omega⟩
    · have hz : ¬ (k : Int) < (n : Int) := by omega
      obtain rfl : k = n := by omega
      go_wp2
      exact bodyPost_end (results_none rfl _ _ _) rfl ⟨rfl, by rw [← HE.out]; exact hI.out, hF.out⟩

/-- What is still to do of a turning round: U and V change places, between P and S; it makes R. -/
structure Rt (R : List Nat) (m i j : Nat) (P U V S : List Nat) : Prop where
  u : U.length = i
  v : V.length = j
  m : m = P.length + i
  e : R = P ++ (V ++ (U ++ S))
  i0 : 0 < i
  j0 : 0 < j
theorem Rt.left {R : List Nat} {m i j : Nat} {P U V S : List Nat} (h : Rt R m i j P U V S) (hij : j < i) : ∃ U1 U2, U = U1 ++ U2 ∧ U1.length = j ∧ Rt R m (i - j) j (P ++ V) U2 U1 S := by
  refine ⟨U.take j, U.drop j, (List.take_append_drop _ _).symm, by rw [List.length_take, h.u]; omega, ⟨by rw [List.length_drop, h.u], by rw [List.length_take, h.u]; omega, by rw [List.length_append, h.v, h.m]; omega, ?_, by omega, h.j0⟩⟩
  rw [h.e]
  have := List.take_append_drop j U
  generalize U.take j = U1 at this ⊢
  generalize U.drop j = U2 at this ⊢
  subst this
  simp
theorem Rt.right {R : List Nat} {m i j : Nat} {P U V S : List Nat} (h : Rt R m i j P U V S) (hij : i < j) : ∃ V1 V2, V = V1 ++ V2 ∧ V1.length = j - i ∧ V2.length = i ∧ Rt R m i (j - i) P V2 V1 (U ++ S) := by
  have l1 : (V.take (j - i)).length = j - i := by rw [List.length_take, h.v]; omega
  have l2 : (V.drop (j - i)).length = i := by rw [List.length_drop, h.v]; omega
  refine ⟨V.take (j - i), V.drop (j - i), (List.take_append_drop _ _).symm, l1, l2, ⟨l2, l1, h.m, ?_, h.i0, by omega⟩⟩
  rw [h.e]
  have := List.take_append_drop (j - i) V
  clear l1 l2
  generalize V.take (j - i) = V1 at this ⊢
  generalize V.drop (j - i) = V2 at this ⊢
  subst this
  simp
theorem swr_none (w : World) (blk cap len : Nat) (fv : Value) (P X Y S : List Nat) (a b n : Nat) (ha : a = P.length) (hn : X.length = n) (hn2 : Y.length = n) (hb : b = P.length + n)
    (hlen : len = P.length + n + n + S.length) (hl62 : len < 4611686018427387904) (hR : IR w blk (P ++ (X ++ (Y ++ S)))) :
    Calls Tryd.prog 43 #[.slice (some ⟨blk, 0, none⟩) len cap, .int .i64 a, .int .i64 b, .int .i64 n, fv] w fun e w' => e = .returned (.tuple #[]) ∧ IR w' blk (P ++ (Y ++ (X ++ S))) ∧ Fr [blk] w w' :=
  swr_any w blk cap len fv P X [] Y S a b n ha hn hn2 (by simpa using hb) (by simpa using hlen) hl62 hR

set_option maxHeartbeats 1000000 in
theorem rot_any (w : World) (blk cap len : Nat) (fv : Value) (P X Y S : List Nat) (a m b : Nat) (ha : a = P.length) (hm : m = P.length + X.length) (hb : b = P.length + X.length + Y.length)
    (hlen : len = P.length + X.length + Y.length + S.length) (hl62 : len < 4611686018427387904) (hx : 0 < X.length) (hy : 0 < Y.length) (hR : IR w blk (P ++ (X ++ (Y ++ S)))) :
    Calls Tryd.prog 42 #[.slice (some ⟨blk, 0, none⟩) len cap, .int .i64 a, .int .i64 m, .int .i64 b, fv] w fun e w' => e = .returned (.tuple #[]) ∧ IR w' blk (P ++ (Y ++ (X ++ S))) ∧ Fr [blk] w w' := by
  obtain ⟨i0, hi0⟩ : ∃ i0, X.length = i0 := ⟨_, rfl⟩
  obtain ⟨j0, hj0⟩ : ∃ j0, Y.length = j0 := ⟨_, rfl⟩
  rw [hi0] at hm hb hlen hx
  rw [hj0] at hb hlen hy
  have h1 : m = a + i0 := by omega
  have h2 : b = a + i0 + j0 := by omega
  have HT : Hid (Rt (P ++ (Y ++ (X ++ S))) m i0 j0 P X Y S ∧ len = P.length + i0 + j0 + S.length) := ⟨⟨hi0, hj0, hm, rfl, hx, hy⟩, hlen⟩
  have hmn : m + j0 ≤ len := by omega
  have hmi : i0 ≤ m := by omega
  generalize hRR : P ++ (Y ++ (X ++ S)) = R at HT ⊢
  have e1 : wrap64 ((m : Int) - (a : Int)) = (i0 : Int) := by unfold wrap64; omega
  have e2 : wrap64 ((b : Int) - (m : Int)) = (j0 : Int) := by unfold wrap64; omega
  have e1' : ((m : Int) - (a : Int)) = (i0 : Int) := by omega
  have e2' : ((b : Int) - (m : Int)) = (j0 : Int) := by omega
  have HR : Hid (IR w blk (P ++ (X ++ (Y ++ S)))) := hR
  clear hRR hR hi0 hj0 ha hm hb hlen h1 h2
  go_enter Tryd.func42, Tryd.ntmps42
  go_wp2
  go_loopw [10, 11] (fun vi vj wr => ∃ (i j : Nat), vi = .int .i64 i ∧ vj = .int .i64 j ∧ m + j ≤ len ∧ i ≤ m ∧ Hid (∃ P' U V S', Rt R m i j P' U V S' ∧ len = P'.length + i + j + S'.length ∧ IR wr blk (P' ++ (U ++ (V ++ S')))) ∧ Hid (Fr [blk] w wr)) (fun vi vj _ => (intOf vi).toNat + (intOf vj).toNat)
  case atStart => exact ⟨i0, j0, rfl, rfl, hmn, hmi, ⟨P, X, Y, S, HT.out.1, HT.out.2, HR.out⟩, Fr.refl _ _⟩
  case round =>
    obtain ⟨i, j, rfl, rfl, hmj, him, ⟨P1, U, V, S1, hT, hlen1, hI⟩, hF⟩ := hrel
    have hi0 := hT.i0
    have hj0 := hT.j0
    obtain ⟨p, hp⟩ : ∃ p, m = p + i := ⟨m - i, by omega⟩
    have hpl : Hid (p = P1.length) := by have := hT.m; show _ = _; omega
    have g1 : wrap64 ((m : Int) - (i : Int)) = (p : Int) := by unfold wrap64; omega
    have g1' : (m : Int) - (i : Int) = (p : Int) := by omega
    have HP : Hid (m = p + i) := hp
    clear hp
    have HT1 : Hid (Rt R m i j P1 U V S1 ∧ len = P1.length + i + j + S1.length) := ⟨hT, hlen1⟩
    have HI1 : Hid (IR wr blk (P1 ++ (U ++ (V ++ S1)))) := hI
    clear hT hlen1 hI
    rcases Nat.lt_trichotomy i j with hij | hij | hij
    · have t1 : ((i : Int) != (j : Int)) = true := by rw [bne_iff_ne]; omega
      have t2 : ¬ (i : Int) > (j : Int) := by omega
      have t3 : decide ((i : Int) > (j : Int)) = false := decide_eq_false t2
      obtain ⟨V1, V2, rfl, l1, l2, hT2⟩ := HT1.out.1.right hij
      obtain ⟨d, hd⟩ : ∃ d, d = j - i := ⟨_, rfl⟩
      obtain ⟨q, hq⟩ : ∃ q, q = m + j - i := ⟨_, rfl⟩
      have g2 : (m : Int) + (j : Int) - (i : Int) = (q : Int) := by omega
      have g3 : (j : Int) - (i : Int) = (d : Int) := by omega
      have HD : Hid (d = j - i) := hd
      have HQ : Hid (q = m + j - i) := hq
      have L1 : Hid (V1.length = j - i) := l1
      have L2 : Hid (V2.length = i) := l2
      have HT2 : Hid (Rt R m i d P1 V2 V1 (U ++ S1)) := by show Rt _ _ _ _ _ _ _ _; rw [hd]; exact hT2
      clear hd hq l1 l2 hT2
      go_wp2_with fail
      refine (swr_any _ blk cap len fv P1 U V1 V2 S1 p q i hpl.out HT1.out.1.u L2.out (by rw [L1.out]; have := HQ.out; have := HP.out; have := hpl.out; omega) (by rw [L1.out]; have := HT1.out.2; omega) hl62 (by have := HI1.out; simpa using this)).mono ?_
      rintro e w2 ⟨rfl, hI2, hF2⟩
      go_wp2_with fail
      refine ⟨⟨i, d, rfl, rfl, by have := HD.out; omega, him, ⟨P1, V2, V1, U ++ S1, HT2.out, by rw [List.length_append, HT1.out.1.u]; have := HD.out; have := HT1.out.2; omega, by simpa using hI2⟩, hF.out.trans hF2⟩, by have := HD.out; simp [intOf]; omega⟩
    · subst hij
      have t1 : ((i : Int) != (i : Int)) = false := by simp
      go_wp2_with fail
      refine (swr_none _ blk cap len fv P1 U V S1 p m i hpl.out HT1.out.1.u HT1.out.1.v (by have := HP.out; have := hpl.out; omega) (by have := HT1.out.2; omega) hl62 HI1.out).mono ?_
      rintro e w2 ⟨rfl, hI2, hF2⟩
      go_wp2_with fail
      exact bodyPost_end (results_none rfl _ _ _) rfl ⟨rfl, by rw [HT1.out.1.e]; exact hI2, hF.out.trans hF2⟩
    · have t1 : ((i : Int) != (j : Int)) = true := by rw [bne_iff_ne]; omega
      have t2 : (i : Int) > (j : Int) := by omega
      have t3 : decide ((i : Int) > (j : Int)) = true := decide_eq_true t2
      obtain ⟨U1, U2, rfl, l1, hT2⟩ := HT1.out.1.left hij
      obtain ⟨d, hd⟩ : ∃ d, d = i - j := ⟨_, rfl⟩
      have g3 : (i : Int) - (j : Int) = (d : Int) := by omega
      have HD : Hid (d = i - j) := hd
      have L1 : Hid (U1.length = j) := l1
      have L2 : Hid (U2.length = d) := by show _ = _; rw [hd]; exact hT2.u
      have HT2 : Hid (Rt R m d j (P1 ++ V) U2 U1 S1) := by show Rt _ _ _ _ _ _ _ _; rw [hd]; exact hT2
      clear hd l1 hT2
      go_wp2_with fail
      refine (swr_any _ blk cap len fv P1 U1 U2 V S1 p m j hpl.out L1.out HT1.out.1.v (by rw [L2.out]; have := HD.out; have := HP.out; have := hpl.out; omega) (by rw [L2.out]; have := HD.out; have := HT1.out.2; omega) hl62 (by have := HI1.out; simpa using this)).mono ?_
      rintro e w2 ⟨rfl, hI2, hF2⟩
      go_wp2_with fail
      refine ⟨⟨d, j, rfl, rfl, hmj, by have := HD.out; omega, ⟨P1 ++ V, U2, U1, S1, HT2.out, by rw [List.length_append, HT1.out.1.v]; have := HD.out; have := HT1.out.2; omega, by simpa using hI2⟩, hF.out.trans hF2⟩, by have := HD.out; simp [intOf]; omega⟩
end Go.Proofs.YtfkeokeedljomaaDoor
