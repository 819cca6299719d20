/- A short piece sorted: each put where it belongs. -/
import Derived.Test.YtfkeokeedljomaaDoorSc
namespace Go.Proofs.YtfkeokeedljomaaDoor
open Go.RowKit
set_option linter.unusedVariables false

/-- So many of a piece are sorted, the rest is as it was. -/
structure Ins (L : List Int) (w : World) (blk : Nat) (P A S : List Nat) (t : Nat) (C : List Nat) : Prop where
  p : C.Perm (A.take t)
  s : C.Pairwise (ah (ldf L))
  r : IR w blk (P ++ (C ++ (A.drop t ++ S)))
theorem Ins.len {L : List Int} {w : World} {blk : Nat} {P A S C : List Nat} {t : Nat} (h : Ins L w blk P A S t C) (ht : t ≤ A.length) : C.length = t := by rw [h.p.length_eq, List.length_take]; omega
/-- In the midst: x is on its way down. -/
structure Inm (L : List Int) (w : World) (blk : Nat) (P S C : List Nat) (x k : Nat) (R : List Nat) : Prop where
  b : ∀ y ∈ C.drop k, ah (ldf L) x y
  r : IR w blk (P ++ (put1 C x k ++ (R ++ S)))
theorem Ins.mid {L : List Int} {w : World} {blk : Nat} {P A S C : List Nat} {t : Nat} (h : Ins L w blk P A S t C) (ht : t < A.length) : Inm L w blk P S C A[t] t (A.drop (t + 1)) := by
  have hl := h.len (by omega)
  refine ⟨by rw [List.drop_of_length_le (by omega)]; simp, ?_⟩
  have := h.r
  rw [List.drop_eq_getElem_cons ht] at this
  have e : put1 C A[t] t = C ++ [A[t]] := by unfold put1; rw [List.take_of_length_le (by omega), List.drop_of_length_le (by omega)]
  rw [e]
  generalize A.drop (t + 1) = R at this ⊢
  generalize A[t] = x at this ⊢
  simpa using this
theorem Inm.ins {L : List Int} {w w' : World} {blk : Nat} {P A S C : List Nat} {t k : Nat} (h : Ins L w blk P A S t C) (ht : t < A.length) (m : Inm L w' blk P S C A[t] k (A.drop (t + 1))) (hk : ∀ y ∈ C.take k, ah (ldf L) y A[t]) :
    Ins L w' blk P A S (t + 1) (put1 C A[t] k) := by
  refine ⟨(put1_perm _ _ _).trans ?_, put1_sorted h.s hk m.b, m.r⟩
  rw [List.take_succ_eq_append_getElem ht]
  exact (h.p.cons _).trans (List.perm_append_comm (l₁ := [A[t]]))

set_option maxHeartbeats 2000000 in
theorem ins_some (w : World) (blk cap len bx : Nat) (L : List Int) (P A S : List Nat) (a b : Nat) (ha : a = P.length) (hb : b = P.length + A.length) (hlen : len = P.length + A.length + S.length) (hl62 : len < 4611686018427387904)
    (hL : LdAt w blk bx L) (hA : ∀ x ∈ A, x < L.length) (hup : A.Pairwise (· < ·)) (hne : 0 < A.length) (hR : IR w blk (P ++ (A ++ S))) :
    Calls Tryd.prog 40 #[.slice (some ⟨blk, 0, none⟩) len cap, .int .i64 a, .int .i64 b, cmpF bx] w fun e w' => e = .returned (.tuple #[]) ∧ (∃ C : List Nat, C.Perm A ∧ C.Pairwise (ah (ldf L)) ∧ IR w' blk (P ++ (C ++ S))) ∧ Fr [blk] w w' := by
  have hI0 : Hid (Ins L w blk P A S 1 (A.take 1)) := ⟨List.Perm.refl _, by rw [show A.take 1 = [A[0]] from by rw [List.take_succ_eq_append_getElem (by omega)]; simp]; simp, by
    show IR _ _ (P ++ (A.take 1 ++ (A.drop 1 ++ S)))
    rw [← List.append_assoc (A.take 1), List.take_append_drop]; exact hR⟩
  have hab : a < b := by omega
  have hbl : b ≤ len := by omega
  have HA : Hid (a = P.length) := ha
  have HB : Hid (b = P.length + A.length) := hb
  have HLN : Hid (len = P.length + A.length + S.length) := hlen
  have HL : Hid (LdAt w blk bx L) := hL
  have HM : Hid (∀ x ∈ A, x < L.length) := hA
  have HU : Hid (A.Pairwise (· < ·)) := hup
  clear hR ha hb hlen hL hA hup
  unfold cmpF
  go_enter Tryd.func40, Tryd.ntmps40
  go_wp2
  go_loopw [8] (fun vi wr => ∃ i : Nat, vi = .int .i64 i ∧ a < i ∧ i ≤ b ∧ Hid (∃ C, Ins L wr blk P A S (i - a) C) ∧ Hid (Fr [blk] w wr)) (fun vi _ => b - (intOf vi).toNat)
  case atStart => exact ⟨a + 1, by go_num, by omega, by omega, ⟨_, by rw [show a + 1 - a = 1 from by omega]; exact hI0.out⟩, Fr.refl _ _⟩
  case round =>
    obtain ⟨i, rfl, hai, hib, ⟨C, hI⟩, hF⟩ := hrel
    by_cases hlt : i < b
    · have hz : (i : Int) < (b : Int) := by omega
      obtain ⟨t, ht⟩ : ∃ t, i = a + t := ⟨i - a, by omega⟩
      have hta : t < A.length := by have := HA.out; have := HB.out; omega
      have ht' : i - a = t := by omega
      rw [ht'] at hI
      have hcl := hI.len (by omega)
      have HI : Hid (Ins L wr blk P A S t C) := hI
      have hm := hI.mid hta
      have HLT : ∀ y ∈ C, y < A[t] := fun y hy => by
        have hy := hI.p.mem_iff.1 hy
        have h1 := HU.out
        rw [show A = A.take t ++ A[t] :: A.drop (t + 1) from by rw [← List.drop_eq_getElem_cons hta, List.take_append_drop]] at h1
        exact (List.pairwise_append.1 h1).2.2 y hy _ List.mem_cons_self
      have HX : Hid (∀ y ∈ C, y < A[t]) := HLT
      have HCM : Hid (∀ y ∈ C, y < L.length) := fun y hy => HM.out y (List.mem_of_mem_take (hI.p.mem_iff.1 hy))
      have hxl : A[t] < L.length := HM.out _ (List.getElem_mem _)
      have HNX : Hid (∀ (wq : World) (k : Nat), Inm L wq blk P S C A[t] k (A.drop (t + 1)) → (∀ y ∈ C.take k, ah (ldf L) y A[t]) → ∃ C', Ins L wq blk P A S (t + 1) C') := fun wq k m hk => ⟨_, Inm.ins HI.out hta m hk⟩
      have HCL : Hid (C.length = t) := hcl
      have HCS : Hid (C.Pairwise (ah (ldf L))) := hI.s
      generalize A.drop (t + 1) = R at hm HNX
      generalize hxx : A[t] = x at hm HX HNX hxl
      have HT : Hid (i = a + t) := ht
      have HRL : Hid (R.length = R.length) := rfl
      have HM0 : Hid (Inm L wr blk P S C x t R) := hm
      clear hI hm HLT ht ht' hcl hxx
      go_wp2_with fail
      go_loopw [9] (fun vj w2 => ∃ j : Nat, vj = .int .i64 j ∧ a ≤ j ∧ j ≤ i ∧ Hid (Inm L w2 blk P S C x (j - a) R) ∧ Hid (Fr [blk] w w2)) (fun vj _ => (intOf vj).toNat)
      case atStart => exact ⟨i, rfl, by omega, by omega, by rw [HT.out, Nat.add_sub_cancel_left]; exact HM0.out, hF⟩
      case round =>
        rename World => w2
        obtain ⟨j, rfl, haj, hji, hm, hF2⟩ := hrel
        by_cases hja : j = a
        · have h1 : decide ((j : Int) > (a : Int)) = false := decide_eq_false (by omega)
          have h2 : ¬ (a : Int) < (j : Int) := by omega
          go_wp2_with fail
          go_quiet (fail)
          go_wp2_with fail
          obtain ⟨C', hC'⟩ := HNX.out (w2.drewN nq) 0 ⟨by have := hm.out.b; rwa [hja, Nat.sub_self] at this, by have := hm.out.r; rw [hja, Nat.sub_self] at this; exact this.drewN nq⟩ (by simp)
          exact ⟨⟨i + 1, by go_num, by omega, by omega, ⟨C', by rw [show i + 1 - a = t + 1 from by have := HT.out; omega]; exact hC'⟩, hF2.out.drewN nq⟩, by simp [intOf]; omega⟩
        · obtain ⟨jp, rfl⟩ : ∃ jp, j = jp + 1 := ⟨j - 1, by omega⟩
          have h1 : decide ((jp : Int) + 1 > (a : Int)) = true := decide_eq_true (by omega)
          have h2 : (a : Int) < (jp : Int) + 1 := by omega
          have h3 : (jp : Int) + 1 < (len : Int) := by omega
          have h4 : (jp : Int) < (len : Int) := by omega
          have h5 : IntKind.i64.wrap (jp : Int) = (jp : Int) := by rw [IntKind.wrap_i64]; omega
          have h6 : (0 : Int) ≤ (jp : Int) + 1 := by omega
          have h7 : ((jp : Int) + 1).toNat = jp + 1 := by omega
          obtain ⟨k, hk⟩ : ∃ k, jp = a + k := ⟨jp - a, by omega⟩
          have hkt : k < C.length := by have := HT.out; have := HCL.out; omega
          obtain ⟨e1, c2, c1⟩ := put1_dn P C (R ++ S) x k hkt (a + k) (a + k + 1) (by have := HA.out; omega) rfl
          rw [show jp + 1 - a = k + 1 from by omega] at hm
          rw [← hk] at e1 c1 c2
          obtain ⟨d1, f1⟩ := hm.out.r _ _ c1
          obtain ⟨d2, f2⟩ := hm.out.r _ _ c2
          have hst : Hid (IR ((w2.setCell ⟨blk, jp + 1, none⟩ (.int .i64 (C[k] : Int))).setCell ⟨blk, jp, none⟩ (.int .i64 (x : Int))) blk (P ++ (put1 C x k ++ (R ++ S)))) := by
            have := hm.out.r.swp c1 c2
            rw [e1] at this
            exact this
          have hy := HX.out C[k] (List.getElem_mem _)
          have hyl := HCM.out C[k] (List.getElem_mem _)
          have hup : Hid (cb (ldf L) x C[k] = true → ∀ y ∈ C.drop k, ah (ldf L) x y) := fun h => all_behind HCS.out hkt (cb_yes h)
          have hdn : Hid (cb (ldf L) x C[k] = false → ∀ y ∈ C.take (k + 1), ah (ldf L) y x) := fun h => all_ahead HCS.out hkt (cb_no h hy)
          have hLd := HL.out.fr hF2.out
          have hcl : ∀ n, Calls Tryd.prog 33 #[.int .i64 (x : Int), .int .i64 (C[k] : Int), .pointer (some ⟨bx, 0, none⟩)] (w2.drewN n) fun e w' => e = .returned (.int .i64 (cv L x C[k])) ∧ ∃ q, w' = (w2.drewN n).drewN q := fun n => clo_any _ blk bx L (hLd.drewN n) x C[k] hxl hyl
          generalize hyy : C[k] = y at *
          clear hyy e1 c1 c2 hLd
          have HK : Hid (jp = a + k) := hk
          clear hk
          by_cases hc : cb (ldf L) x y = true
          · have hcv := cv_yes hc
            generalize cv L x y = cc at hcv hcl
            go_wp2_with fail
            go_quiet (first | (go_at_call 33; exact Calls.quiet_of (hcl _)))
            go_wp2_with fail
            have hb' := hup.out hc
            clear hcl hcv hm hdn hup hc hy hyl
            have d1' : (w2.drewN nq).cell? ⟨blk, jp + 1, none⟩ = some (.int .i64 (x : Int)) := d1
            have d2' : (w2.drewN nq).cell? ⟨blk, jp, none⟩ = some (.int .i64 (y : Int)) := d2
            have f1' : (w2.drewN nq).frozen? ⟨blk, jp + 1, none⟩ = false := f1
            have f2' : (w2.drewN nq).frozen? ⟨blk, jp, none⟩ = false := f2
            have hst' : Hid (Inm L (((w2.drewN nq).setCell ⟨blk, jp + 1, none⟩ (.int .i64 (y : Int))).setCell ⟨blk, jp, none⟩ (.int .i64 (x : Int))) blk P S C x k R) := ⟨hb', hst.out⟩
            have hf' : Hid (Fr [blk] w (((w2.drewN nq).setCell ⟨blk, jp + 1, none⟩ (.int .i64 (y : Int))).setCell ⟨blk, jp, none⟩ (.int .i64 (x : Int)))) := ((hF2.out.drewN nq).setCell (.inl (by simp)) _).setCell (.inl (by simp)) _
            clear d1 d2 f1 f2 hst hb' hF2
            generalize w2.drewN nq = w3 at *
            obtain ⟨j1, hj1⟩ : ∃ j1, j1 = jp + 1 := ⟨_, rfl⟩
            rw [← hj1] at d1' f1' hst' hf' h7
            have J1 : Hid (j1 = jp + 1) := hj1
            clear hj1
            go_region
            all_goals go_wp2
            exact ⟨⟨jp, by go_num, by have := HK.out; omega, by omega, by rw [show jp - a = k from by have := HK.out; omega]; exact ⟨hst'.out.b, hst'.out.r⟩, hf'.out.drew⟩, by simp [intOf]⟩
          · have hc : cb (ldf L) x y = false := by simpa using hc
            have hcv := cv_no hc
            generalize cv L x y = cc at hcv hcl
            go_wp2_with fail
            go_quiet (first | (go_at_call 33; exact Calls.quiet_of (hcl _)))
            go_wp2_with fail
            obtain ⟨C', hC'⟩ := HNX.out (w2.drewN nq) (k + 1) ⟨hm.out.b, hm.out.r⟩ (hdn.out hc)
            exact ⟨⟨i + 1, by go_num, by omega, by omega, ⟨C', by rw [show i + 1 - a = t + 1 from by have := HT.out; omega]; exact hC'⟩, hF2.out.drewN nq⟩, by simp [intOf]; omega⟩
    · have hz : ¬ (i : Int) < (b : Int) := by omega
      obtain rfl : i = b := by omega
      go_wp2
      refine bodyPost_end (results_none rfl _ _ _) rfl ⟨rfl, ⟨C, ?_, hI.s, ?_⟩, hF.out⟩
      · have := hI.p
        rwa [List.take_of_length_le (by have := HA.out; have := HB.out; omega)] at this
      · have := hI.r
        rwa [List.drop_of_length_le (by have := HA.out; have := HB.out; omega), List.nil_append] at this

set_option maxHeartbeats 1000000 in
theorem ins_none (w : World) (blk cap len bx : Nat) (a : Nat) (hl62 : len < 4611686018427387904) (ha : a ≤ len) :
    Calls Tryd.prog 40 #[.slice (some ⟨blk, 0, none⟩) len cap, .int .i64 a, .int .i64 a, cmpF bx] w fun e w' => e = .returned (.tuple #[]) ∧ w' = w := by
  unfold cmpF
  go_enter Tryd.func40, Tryd.ntmps40
  go_wp2
  go_loop [8] (fun vi => vi = .int .i64 ((a : Int) + 1)) (fun vi => 0)
  case atStart => rfl
  case round =>
    subst hrel
    have hz : ¬ (a : Int) + 1 < (a : Int) := by omega
    go_wp2
    exact bodyPost_end (results_none rfl _ _ _) rfl ⟨rfl, rfl⟩
theorem ins_any (w : World) (blk cap len bx : Nat) (L : List Int) (P A S : List Nat) (a b : Nat) (ha : a = P.length) (hb : b = P.length + A.length) (hlen : len = P.length + A.length + S.length) (hl62 : len < 4611686018427387904)
    (hL : LdAt w blk bx L) (hA : ∀ x ∈ A, x < L.length) (hup : A.Pairwise (· < ·)) (hR : IR w blk (P ++ (A ++ S))) :
    Calls Tryd.prog 40 #[.slice (some ⟨blk, 0, none⟩) len cap, .int .i64 a, .int .i64 b, cmpF bx] w fun e w' => e = .returned (.tuple #[]) ∧ (∃ C : List Nat, C.Perm A ∧ C.Pairwise (ah (ldf L)) ∧ IR w' blk (P ++ (C ++ S))) ∧ Fr [blk] w w' := by
  by_cases hne : 0 < A.length
  · exact ins_some w blk cap len bx L P A S a b ha hb hlen hl62 hL hA hup hne hR
  · have h0 : A = [] := List.eq_nil_of_length_eq_zero (by omega)
    subst h0
    have hba : b = a := by simp at hb; omega
    subst hba
    exact (ins_none w blk cap len bx b hl62 (by omega)).mono fun e w' h => by
      obtain ⟨h1, rfl⟩ := h
      exact ⟨h1, ⟨[], List.Perm.refl _, List.Pairwise.nil, hR⟩, Fr.refl _ _⟩
end Go.Proofs.YtfkeokeedljomaaDoor
