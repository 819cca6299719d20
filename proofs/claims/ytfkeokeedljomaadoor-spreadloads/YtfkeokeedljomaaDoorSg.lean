/- The whole row sorted: in pieces of twenty, then twice as long ones. -/
import Derived.Test.YtfkeokeedljomaaDoorSf
namespace Go.Proofs.YtfkeokeedljomaaDoor
open Go.RowKit
set_option linter.unusedVariables false

/-- The row so far: what is done, what is still as it came. -/
structure St1 (L : List Int) (w : World) (blk n s : Nat) (Q : List Nat) : Prop where
  d : Dn (ldf L) s Q
  le : Q.length ≤ n
  r : IR w blk (Q ++ List.range' Q.length (n - Q.length))
theorem rng_two (q n s : Nat) (h : q + s ≤ n) : List.range' q (n - q) = List.range' q s ++ List.range' (q + s) (n - (q + s)) := by
  have := (List.range'_append_1 (s := q) (m := s) (n := n - (q + s))).symm
  rw [show s + (n - (q + s)) = n - q from by omega] at this
  exact this
theorem rng_lt {q s n : Nat} (h : q + s ≤ n) : ∀ x ∈ List.range' q s, x < n := fun x hx => by have := List.mem_range'_1.1 hx; omega
theorem rng_up (q s : Nat) : (List.range' q s).Pairwise (· < ·) := List.pairwise_lt_range'

/-- The row so far, where pieces are put together two by two. -/
structure St2 (L : List Int) (w : World) (blk n s : Nat) (Q R : List Nat) : Prop where
  d : Dn (ldf L) (2 * s) Q
  c : Ch (ldf L) s Q.length R
  le : Q.length + R.length = n
  r : IR w blk (Q ++ R)
theorem St2.two {L : List Int} {w : World} {blk n s : Nat} {Q R : List Nat} (h : St2 L w blk n s Q R) (hn : n = L.length) (hs : 0 < s) (hb : Q.length + 2 * s ≤ n) :
    ∃ A B R', R = A ++ (B ++ R') ∧ A.length = s ∧ B.length = s ∧ Mg (ldf L) L.length A B ∧ IR w blk (Q ++ (A ++ (B ++ R'))) ∧
      ∀ (w' : World) (C : List Nat), C.Perm (A ++ B) → C.Pairwise (ah (ldf L)) → IR w' blk (Q ++ (C ++ R')) → St2 L w' blk n s (Q ++ C) R' := by
  obtain ⟨A, B, R', rfl, h1, h2, h3, h4, h5⟩ := h.c.two (by have := h.le; omega) hs
  have hle := h.le
  rw [List.length_append, List.length_append] at hle
  refine ⟨A, B, R', rfl, h1, h2, ⟨fun x hx => ?_, fun x hx => ?_, h3.cross (by rw [h1]; exact h4), h3.2, h4.2⟩, h.r, fun w' C p1 s1 hr => ?_⟩
  · have := h3.mem hx; omega
  · have := h4.mem hx; omega
  · have hl : C.length = 2 * s := by rw [p1.length_eq, List.length_append]; omega
    refine ⟨h.d.add hl (h3.join (by rw [h1]; exact h4) p1 s1), by rw [List.length_append, hl]; exact h5, by rw [List.length_append]; omega, by rw [List.append_assoc]; exact hr⟩
theorem St2.last {L : List Int} {w : World} {blk n s : Nat} {Q R : List Nat} (h : St2 L w blk n s Q R) (hn : n = L.length) (hs : 0 < s) (hb : Q.length + s < n) (hb2 : n < Q.length + 2 * s) :
    ∃ A B, R = A ++ B ∧ A.length = s ∧ 0 < B.length ∧ Q.length + s + B.length = n ∧ Mg (ldf L) L.length A B ∧ IR w blk (Q ++ (A ++ (B ++ []))) ∧
      ∀ (w' : World) (C : List Nat), C.Perm (A ++ B) → C.Pairwise (ah (ldf L)) → IR w' blk (Q ++ (C ++ [])) → ∃ D, Ch (ldf L) (2 * s) 0 D ∧ D.length = n ∧ IR w' blk D := by
  obtain ⟨A, B, rfl, h1, h3, h5⟩ := h.c.first (by have := h.le; omega)
  have hle := h.le
  rw [List.length_append] at hle
  have h4 := h5.whole (by omega)
  refine ⟨A, B, rfl, h1, by omega, by omega, ⟨fun x hx => ?_, fun x hx => ?_, h3.cross (by rw [h1]; exact h4), h3.2, h4.2⟩, by rw [List.append_nil]; exact h.r, fun w' C p1 s1 hr => ?_⟩
  · have := h3.mem hx; omega
  · have := h4.mem hx; omega
  · have hl : C.length = A.length + B.length := by rw [p1.length_eq, List.length_append]
    rw [List.append_nil] at hr
    exact ⟨_, h.d.last (by omega) (h3.join (by rw [h1]; exact h4) p1 s1), by rw [List.length_append]; omega, hr⟩
theorem St2.rest {L : List Int} {w : World} {blk n s : Nat} {Q R : List Nat} (h : St2 L w blk n s Q R) (hb : n ≤ Q.length + s) : ∃ D, Ch (ldf L) (2 * s) 0 D ∧ D.length = n ∧ IR w blk D := by
  have hle := h.le
  exact ⟨_, h.d.last (by omega) (h.c.whole (by omega)), by rw [List.length_append]; omega, h.r⟩

set_option maxHeartbeats 4000000 in
theorem stab_any (w : World) (blk cap n bx : Nat) (L : List Int) (hn : n = L.length) (hl62 : n < 1152921504606846976) (hL : LdAt w blk bx L) (hR : IR w blk (List.range' 0 n)) :
    Calls Tryd.prog 38 #[.slice (some ⟨blk, 0, none⟩) n cap, .int .i64 n, cmpF bx] w fun e w' => e = .returned (.tuple #[]) ∧ (∃ C : List Nat, Bk (ldf L) 0 C ∧ C.length = n ∧ IR w' blk C) ∧ Fr [blk] w w' := by
  have HN : Hid (n = L.length) := hn
  have HL : Hid (LdAt w blk bx L) := hL
  have HR : Hid (St1 L w blk n 20 []) := ⟨Dn.nil _, Nat.zero_le _, by simpa using hR⟩
  clear hn hL hR
  unfold cmpF
  go_enter Tryd.func38, Tryd.ntmps38
  go_wp2_with fail
  go_loopw [7, 8] (fun va vb wr => ∃ a : Nat, va = .int .i64 a ∧ vb = .int .i64 ((a : Int) + 20) ∧ a ≤ n ∧ Hid (∃ Q, Q.length = a ∧ St1 L wr blk n 20 Q) ∧ Hid (Fr [blk] w wr)) (fun va _ _ => n - (intOf va).toNat)
  case atStart => exact ⟨0, rfl, rfl, by omega, ⟨[], rfl, HR.out⟩, Fr.refl _ _⟩
  case round =>
    obtain ⟨a, rfl, rfl, han, ⟨Q, hq, hS⟩, hF⟩ := hrel
    by_cases hlt : a + 20 ≤ n
    · have hz : (a : Int) + 20 ≤ (n : Int) := by omega
      have HQ : Hid (Q.length = a) := hq
      have HS : Hid (St1 L wr blk n 20 Q) := hS
      have HR1 : Hid (IR wr blk (Q ++ (List.range' a 20 ++ List.range' (a + 20) (n - (a + 20))))) := by
        have := hS.r
        rw [hq, rng_two a n 20 hlt] at this
        exact this
      clear hq hS
      go_wp2_with fail
      refine (ins_any _ blk cap n bx L Q (List.range' a 20) (List.range' (a + 20) (n - (a + 20))) a (a + 20) HQ.out.symm (by rw [HQ.out, List.length_range']) (by rw [HQ.out, List.length_range', List.length_range']; omega) (by omega) (HL.out.fr hF.out) (by rw [← HN.out]; exact rng_lt hlt) (rng_up _ _) HR1.out).mono ?_
      rintro e w2 ⟨rfl, ⟨C, p1, s1, hI⟩, hF2⟩
      go_wp2_with fail
      refine ⟨⟨a + 20, by go_num, by go_num, hlt, ⟨Q ++ C, ?_, ?_, ?_, ?_⟩, hF.out.trans hF2⟩, by simp [intOf]; omega⟩
      · rw [List.length_append, p1.length_eq, List.length_range', HQ.out]
      · refine HS.out.d.add (by rw [p1.length_eq, List.length_range']) ⟨?_, s1⟩
        rw [p1.length_eq, List.length_range', HQ.out]; exact p1
      · rw [List.length_append, p1.length_eq, List.length_range', HQ.out]; exact hlt
      · rw [List.length_append, p1.length_eq, List.length_range', HQ.out, List.append_assoc]; exact hI
    · have hz : ¬ (a : Int) + 20 ≤ (n : Int) := by omega
      have HQ : Hid (Q.length = a) := hq
      have HS : Hid (St1 L wr blk n 20 Q) := hS
      have HR1 : Hid (IR wr blk (Q ++ (List.range' a (n - a) ++ []))) := by
        have := hS.r
        rw [hq] at this
        rw [List.append_nil]; exact this
      clear hq hS
      go_wp2_with fail
      refine (ins_any _ blk cap n bx L Q (List.range' a (n - a)) [] a n HQ.out.symm (by rw [HQ.out, List.length_range']; omega) (by rw [HQ.out, List.length_range', List.length_nil]; omega) (by omega) (HL.out.fr hF.out) (by rw [← HN.out]; exact rng_lt (by omega)) (rng_up _ _) HR1.out).mono ?_
      rintro e w2 ⟨rfl, ⟨C, p1, s1, hI⟩, hF2⟩
      have HF : Hid (Fr [blk] w w2) := hF.out.trans hF2
      have HC : Hid (∃ D, Ch (ldf L) 20 0 D ∧ D.length = n ∧ IR w2 blk D) := by
        refine ⟨Q ++ C, HS.out.d.last ?_ ⟨?_, s1⟩, ?_, by rw [List.append_nil] at hI; exact hI⟩
        · rw [p1.length_eq, List.length_range']; omega
        · rw [p1.length_eq, List.length_range', HQ.out]; exact p1
        · rw [List.length_append, p1.length_eq, List.length_range', HQ.out]; omega
      clear p1 s1 hI hF2 hF HQ HS HR1
      go_wp2_with fail
      go_loopw [6] (fun vs wr => ∃ s : Nat, vs = .int .i64 s ∧ 0 < s ∧ s ≤ 2 * n + 20 ∧ Hid (∃ D, Ch (ldf L) s 0 D ∧ D.length = n ∧ IR wr blk D) ∧ Hid (Fr [blk] w wr)) (fun vs _ => n - (intOf vs).toNat)
      case atStart => exact ⟨20, rfl, by omega, by omega, HC, HF⟩
      case round =>
        rename World => w3
        obtain ⟨s, rfl, hs0, hs1, ⟨D, hD, hDl, hI⟩, hF⟩ := hrel
        by_cases hsn : s < n
        · have hz2 : (s : Int) < (n : Int) := by omega
          have HD : Hid (∃ Q R, Q.length = 0 ∧ St2 L w3 blk n s Q R) := ⟨[], D, rfl, Dn.nil _, hD, by simpa using hDl, hI⟩
          clear hD hDl hI
          go_wp2_with fail
          go_loopw [7, 8] (fun va vb wr => ∃ a : Nat, va = .int .i64 a ∧ vb = .int .i64 ((a : Int) + 2 * (s : Int)) ∧ a ≤ n ∧ Hid (∃ Q R, Q.length = a ∧ St2 L wr blk n s Q R) ∧ Hid (Fr [blk] w wr)) (fun va _ _ => n - (intOf va).toNat)
          case atStart => exact ⟨0, rfl, by go_num, by omega, HD, hF⟩
          case round =>
            rename World => w4
            obtain ⟨a, rfl, rfl, han, ⟨Q, R, hq, hS⟩, hF⟩ := hrel
            by_cases hab : a + 2 * s ≤ n
            · have hz3 : (a : Int) + 2 * (s : Int) ≤ (n : Int) := by omega
              obtain ⟨A, B, R', rfl, hA, hB, hM, hI, hnx⟩ := hS.two HN.out hs0 (by omega)
              have HQ : Hid (Q.length = a) := hq
              have HAB : Hid (A.length = s ∧ B.length = s) := ⟨hA, hB⟩
              have HM : Hid (Mg (ldf L) L.length A B) := hM
              have HI : Hid (IR w4 blk (Q ++ (A ++ (B ++ R')))) := hI
              have HX : Hid (∀ (w' : World) (C : List Nat), C.Perm (A ++ B) → C.Pairwise (ah (ldf L)) → IR w' blk (Q ++ (C ++ R')) → St2 L w' blk n s (Q ++ C) R') := hnx
              have HLE : Hid (n = a + s + s + R'.length) := by have := hS.le; rw [List.length_append, List.length_append] at this; show _ = _; omega
              clear hS hA hB hM hI hnx hq
              go_wp2_with fail
              refine (sym_any (A.length + B.length) _ blk cap n bx L Q A B R' a (a + s) (a + 2 * s) (Nat.le_refl _) HQ.out.symm (by rw [HQ.out, HAB.out.1]) (by rw [HQ.out, HAB.out.1, HAB.out.2]; omega) (by rw [HQ.out, HAB.out.1, HAB.out.2]; have := HLE.out; omega) (by omega) (HL.out.fr hF.out) HM.out (by rw [HAB.out.1]; exact hs0) (by rw [HAB.out.2]; exact hs0) HI.out).mono ?_
              rintro e' w5 ⟨rfl, ⟨C, p1, s1, hI⟩, hF2⟩
              go_wp2_with fail
              refine ⟨⟨a + 2 * s, by go_num, by go_num, hab, ⟨Q ++ C, R', ?_, HX.out w5 C p1 s1 hI⟩, hF.out.trans hF2⟩, by simp [intOf]; omega⟩
              rw [List.length_append, p1.length_eq, List.length_append, HQ.out, HAB.out.1, HAB.out.2]; omega
            · have hz3 : ¬ (a : Int) + 2 * (s : Int) ≤ (n : Int) := by omega
              by_cases has : a + s < n
              · have hz4 : (a : Int) + (s : Int) < (n : Int) := by omega
                obtain ⟨A, B, rfl, hA, hB0, hBn, hM, hI, hnx⟩ := hS.last HN.out hs0 (by omega) (by omega)
                have HQ : Hid (Q.length = a) := hq
                have HAB : Hid (A.length = s ∧ n = a + s + B.length) := ⟨hA, by omega⟩
                have HM : Hid (Mg (ldf L) L.length A B) := hM
                have HI : Hid (IR w4 blk (Q ++ (A ++ (B ++ [])))) := hI
                have HX : Hid (∀ (w' : World) (C : List Nat), C.Perm (A ++ B) → C.Pairwise (ah (ldf L)) → IR w' blk (Q ++ (C ++ [])) → ∃ D, Ch (ldf L) (2 * s) 0 D ∧ D.length = n ∧ IR w' blk D) := hnx
                clear hS hA hBn hM hI hnx hq
                go_wp2_with fail
                refine (sym_any (A.length + B.length) _ blk cap n bx L Q A B [] a (a + s) n (Nat.le_refl _) HQ.out.symm (by rw [HQ.out, HAB.out.1]) (by rw [HQ.out, HAB.out.1]; exact HAB.out.2) (by rw [HQ.out, HAB.out.1]; exact HAB.out.2) (by omega) (HL.out.fr hF.out) HM.out (by rw [HAB.out.1]; exact hs0) hB0 HI.out).mono ?_
                rintro e' w5 ⟨rfl, ⟨C, p1, s1, hI⟩, hF2⟩
                go_wp2_with fail
                exact ⟨⟨2 * s, by go_num, by omega, by omega, HX.out w5 C p1 s1 hI, hF.out.trans hF2⟩, by simp [intOf]; omega⟩
              · have hz4 : ¬ (a : Int) + (s : Int) < (n : Int) := by omega
                have HX : Hid (∃ D, Ch (ldf L) (2 * s) 0 D ∧ D.length = n ∧ IR w4 blk D) := hS.rest (by omega)
                clear hS hq
                go_wp2_with fail
                exact ⟨⟨2 * s, by go_num, by omega, by omega, HX.out, hF.out⟩, by simp [intOf]; omega⟩
        · have hz2 : ¬ (s : Int) < (n : Int) := by omega
          have hw := hD.whole (by omega)
          go_wp2_with fail
          exact bodyPost_end (results_none rfl _ _ _) rfl ⟨rfl, ⟨D, hw, hDl, hI⟩, hF.out⟩

set_option maxHeartbeats 1000000 in
theorem sort_any (w : World) (blk cap n bx : Nat) (L : List Int) (hn : n = L.length) (hl62 : n < 1152921504606846976) (hL : LdAt w blk bx L) (hR : IR w blk (List.range' 0 n)) :
    Calls Tryd.prog 32 #[.slice (some ⟨blk, 0, none⟩) n cap, cmpF bx] w fun e w' => e = .returned (.tuple #[]) ∧ (∃ C : List Nat, Bk (ldf L) 0 C ∧ C.length = n ∧ IR w' blk C) ∧ Fr [blk] w w' := by
  have h := stab_any w blk cap n bx L hn hl62 hL hR
  have H : Hid (Calls Tryd.prog 38 #[.slice (some ⟨blk, 0, none⟩) n cap, .int .i64 n, cmpF bx] w fun e w' => e = .returned (.tuple #[]) ∧ (∃ C : List Nat, Bk (ldf L) 0 C ∧ C.length = n ∧ IR w' blk C) ∧ Fr [blk] w w') := h
  clear h hn hL hR
  generalize hc : cmpF bx = cf at H ⊢
  clear hc
  go_enter Tryd.func32, Tryd.ntmps32
  go_wp2_with fail
  refine H.out.mono ?_
  rintro e w2 ⟨rfl, h1, h2⟩
  go_wp2_with fail
  exact bodyPost_end (results_none rfl _ _ _) rfl ⟨rfl, h1, h2⟩
end Go.Proofs.YtfkeokeedljomaaDoor
