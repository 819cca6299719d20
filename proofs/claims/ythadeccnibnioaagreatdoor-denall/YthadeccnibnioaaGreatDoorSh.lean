/- The document's reader: what is compared. -/
import Derived.Test.YthadeccnibnioaaGreatDoorSg
namespace Go.Proofs.YthadeccnibnioaaGreatDoor
open Go.RowKit

def CmpOK (d : Nat) : Prop := ∀ (w : World) (pb k dp : Nat) (s : ByteArray), Rp w pb s k dp 0 0 → k ≤ s.size → s.size ≤ 120 → dp + d = 20 → Calls Tryz.prog 64 #[.pointer (some ⟨pb, 0, none⟩)] w (OutT pb s dp w (cpP d (s.data.toList.drop k)))
theorem cmpRes : Tryz.f64.results = #[.cell 2 24] := by kernel_rfl

theorem pk_no {ops v : List UInt8} (ho : opAt ops v = none) (h0 : ∀ o ∈ ops, o ≠ 0) : ∀ o ∈ ops, ((pk v : Int) == (o.toNat : Int)) = false := by
  intro o hoo
  refine beq_eq_false_iff_ne.2 (fun e => ?_)
  have e2 : pk v = o.toNat := by omega
  cases v with
  | nil =>
    have e3 : o = 0 := UInt8.toNat_inj.1 (by rw [← e2]; rfl)
    exact h0 o hoo e3
  | cons c0 r0 =>
    have e3 : c0 = o := UInt8.toNat_inj.1 e2
    subst e3
    simp [opAt, hoo] at ho

set_option maxHeartbeats 8000000 in
set_option maxRecDepth 100000 in
theorem cmp_any {d : Nat} (hP : RowOK 2 (smP d) d) : CmpOK d := by
  intro w pb k dp s h hk hs hd
  have hA : Rp (w.alloc (.cells tz 24)) pb s k dp 0 0 := h.fr (xs := []) ((Fr.refl _ _).alloc _) (by simp)
  have hR : RC (w.alloc (.cells tz 24)) w.heap.size (.int .i64 0) (.int .i64 0) (.slice none 0 0) := RC.new w
  have hpl := h.lt
  have co : Calls Tryz.prog 104 #[.pointer (some ⟨pb, 0, none⟩), .int .i64 2] (w.alloc (.cells tz 24)) (OutT pb s dp (w.alloc (.cells tz 24)) (smP d (s.data.toList.drop k))) := hP _ pb k dp s hA hk hs hd
  have hcp : cpP d (s.data.toList.drop k) = cmpF (smP d) (s.data.toList.drop k) := rfl
  obtain ⟨R, hRR⟩ : ∃ R, R = cpP d (s.data.toList.drop k) := ⟨_, rfl⟩
  rw [← hRR]
  rw [hcp] at hRR
  cases hres : smP d (s.data.toList.drop k) with
  | bad pl er =>
    rw [hres] at co
    have hR0 : R = .bad pl er := by rw [hRR, cmpF, hres]
    subst hR0
    clear hres hcp hRR
    go_enter Tryz.func64, Tryz.ntmps64
    go_wp2_with (go_at_call 104; refine co.mono ?_; rintro e w2 ⟨a, b, A, n, c, k2, dp2, rfl, hr2, he2, hd2, hd3, hk2, hf2⟩; have p2 := hr2.lt)
    have hR2 := hR.fr hf2 (by simp; omega)
    have l2 := hR2.lt
    have hB3 : RC (w2.alloc (.cells #[.int .i64 a, .int .i64 b, .slice A n c] 24)) w2.heap.size (.int .i64 a) (.int .i64 b) (.slice A n c) := RC.new w2
    have hR3 := hR2.fr (Fr.al (xs := []) w2 (.cells #[.int .i64 a, .int .i64 b, .slice A n c] 24)) (by simp)
    have hr3 := hr2.fr (Fr.al (xs := []) w2 (.cells #[.int .i64 a, .int .i64 b, .slice A n c] 24)) (by simp)
    have F3 := ((Fr.al (xs := [pb]) w (.cells tz 24)).trans hf2).alloc (.cells #[.int .i64 a, .int .i64 b, .slice A n c] 24)
    have hne : ((er : Int) == 0) = false := beq_eq_false_iff_ne.2 (by omega)
    generalize w2.alloc (.cells #[.int .i64 a, .int .i64 b, .slice A n c] 24) = w3 at *
    generalize w2.heap.size = B3 at *
    clear co
    refine (rpeek_any hr3 hk2).mono ?_
    rintro e w4 ⟨rfl, hr4, hf4⟩
    have hB4 := hB3.fr hf4 (by simp; omega); have hR4 := hR3.fr hf4 (by simp; omega); have b4 := hr4.c4; have x0 := hB4.c0; have x1 := hB4.c1; have x2 := hB4.c2; have z0 := hR4.c0; have z1 := hR4.c1; have z2 := hR4.c2; have y0 := hR4.fz 0; have y1 := hR4.fz 1; have y2 := hR4.fz 2
    go_wp2_with fail
    refine retT cmpRes rfl (hR4.set3 _ _ _) ?_
    have f := Fr.set3 w4 w.heap.size (.int .i64 a) (.int .i64 b) (.slice A n c)
    exact ⟨a, b, A, n, c, k2, dp2, rfl, hr4.fr f (by simp; omega), he2, hd2, hd3, hk2, (F3.trans hf4).over' f (by simp)⟩
  | ok t v =>
    rw [hres] at co
    have HRR := Lib.hid hRR
    have HRES := Lib.hid hres
    clear hRR hres hcp
    go_enter Tryz.func64, Tryz.ntmps64
    go_wp2_with (go_at_call 104; refine co.mono ?_; rintro e w2 ⟨a, b, A, n, c, k2, rfl, ht2, hr2, hk2, rfl, hf2⟩; have p2 := hr2.lt)
    have hs2 := hf2.size
    simp at hs2 ht2
    have hR2 := hR.fr hf2 (by simp; omega)
    have l2 := hR2.lt
    have hB3 : RC (w2.alloc (.cells #[.int .i64 a, .int .i64 b, .slice A n c] 24)) w2.heap.size (.int .i64 a) (.int .i64 b) (.slice A n c) := RC.new w2
    have hR3 := hR2.fr (Fr.al (xs := []) w2 (.cells #[.int .i64 a, .int .i64 b, .slice A n c] 24)) (by simp)
    have hr3 := hr2.fr (Fr.al (xs := []) w2 (.cells #[.int .i64 a, .int .i64 b, .slice A n c] 24)) (by simp)
    have ht3 := ht2.alloc (.cells #[.int .i64 a, .int .i64 b, .slice A n c] 24)
    have F3 := ((Fr.al (xs := [pb]) w (.cells tz 24)).trans hf2).alloc (.cells #[.int .i64 a, .int .i64 b, .slice A n c] 24)
    generalize w2.alloc (.cells #[.int .i64 a, .int .i64 b, .slice A n c] 24) = w3 at *
    generalize w2.heap.size = B3 at *
    clear co ht2
    have hpk := rpeek_any hr3 hk2
    cases ho : opAt [61, 60, 62] (s.data.toList.drop k2) with
    | none =>
      have hR1 : R = .ok t (s.data.toList.drop k2) := by rw [HRR.out, cmpF, HRES.out]; simp only; rw [ho]
      have HR1 := Lib.hid hR1
      have hno := pk_no (ops := [61, 60, 62]) ho (by decide)
      generalize pk (s.data.toList.drop k2) = pkv at *
      have m0 : ((pkv : Int) == 61) = false := hno 61 (by simp)
      have m1 : ((pkv : Int) == 60) = false := hno 60 (by simp)
      have m2 : ((pkv : Int) == 62) = false := hno 62 (by simp)
      have HPK := Lib.hid hpk
      clear hpk hno ho hR1
      refine HPK.out.mono ?_
      rintro e w4 ⟨rfl, hr4, hf4⟩
      have hB4 := hB3.fr hf4 (by simp; omega); have hR4 := hR3.fr hf4 (by simp; omega); have b4 := hr4.c4; have x0 := hB4.c0; have x1 := hB4.c1; have x2 := hB4.c2; have z0 := hR4.c0; have z1 := hR4.c1; have z2 := hR4.c2; have y0 := hR4.fz 0; have y1 := hR4.fz 1; have y2 := hR4.fz 2
      go_wp2_with fail
      refine retT cmpRes rfl (hR4.set3 _ _ _) ?_
      rw [HR1.out]
      have f := Fr.set3 w4 w.heap.size (.int .i64 a) (.int .i64 b) (.slice A n c)
      exact ⟨a, b, A, n, c, k2, rfl, ((ht3.fr hf4 (by simp; omega)).fr f (by simp)).mono (fun p hp _ => by omega), hr4.fr f (by simp; omega), hk2, rfl, (F3.trans hf4).over' f (by simp)⟩
    | some c0 =>
      obtain ⟨hv, hmem⟩ := opAt_some ho
      have hj1 : k2 + 1 ≤ s.size := head_le (c := c0) (by rw [hv]; rfl)
      have hst : R = match smP d (s.data.toList.drop (k2 + 1)) with | .bad p e => .bad p e | .ok b v2 => .ok (.two c0 t b) v2 := by
        rw [HRR.out, cmpF, HRES.out]; simp only; rw [ho]; simp only [drop_drop1]
        cases smP d (s.data.toList.drop (k2 + 1)) <;> rfl
      clear ho HRR
      simp at hmem
      rcases hmem with rfl | rfl | rfl
      · have hpk : Calls Tryz.prog 65 #[.pointer (some ⟨pb, 0, none⟩)] w3 fun e w' => e = .returned (.int .i64 61) ∧ Rp w' pb s k2 dp 0 0 ∧ Fr [pb] w3 w' := by rw [hv] at hpk; exact hpk
        have HPK := Lib.hid hpk
        clear hpk hv
        cases hR2 : smP d (s.data.toList.drop (k2 + 1)) with
        | bad pl er =>
          rw [hR2] at hst
          simp only at hst
          have HS := Lib.hid hst
          have HR2 := Lib.hid hR2
          clear hst hR2
          refine HPK.out.mono ?_
          rintro e w4 ⟨rfl, hr4, hf4⟩
          have b4 := hr4.c4
          have q1 := hr4.c1
          have q2 := hr4.fz 1
          have q3 := hr4.lt
          have hB4 := hB3.fr hf4 (by simp; omega)
          have hR4 := hR3.fr hf4 (by simp; omega)
          have g5 : Fr [pb] w4 (w4.setCell ⟨pb, 1, none⟩ (.int .i64 ((k2 : Int) + 1))) := (Fr.refl _ _).setCell (.inl (by simp)) _
          have hr5 : Rp (w4.setCell ⟨pb, 1, none⟩ (.int .i64 ((k2 : Int) + 1))) pb s (k2 + 1) dp 0 0 := by have := hr4.set1 (k2 + 1); push_cast at this; exact this
          have co2 : Calls Tryz.prog 104 #[.pointer (some ⟨pb, 0, none⟩), .int .i64 2] (w4.setCell ⟨pb, 1, none⟩ (.int .i64 ((k2 : Int) + 1))) (OutT pb s dp (w4.setCell ⟨pb, 1, none⟩ (.int .i64 ((k2 : Int) + 1))) (smP d (s.data.toList.drop (k2 + 1)))) := hP _ pb (k2 + 1) dp s hr5 hj1 hs hd
          rw [HR2.out] at co2
          have hB5 := hB4.fr g5 (by simp; omega)
          have hR5 := hR4.fr g5 (by simp; omega)
          have l4 := hB4.lt
          go_wp2_with (go_at_call 104; refine co2.mono ?_; rintro e w6 ⟨a2, b2, A2, n2, c2, k6, dp6, rfl, hr6, he6, hd6, hd7, hk6, hf6⟩; have hB6 := hB5.fr hf6 (by simp; omega); have hR6 := hR5.fr hf6 (by simp; omega); have x0 := hB6.c0; have x1 := hB6.c1; have x2 := hB6.c2; have z0 := hR6.c0; have z1 := hR6.c1; have z2 := hR6.c2; have y0 := hR6.fz 0; have y1 := hR6.fz 1; have y2 := hR6.fz 2; have l6 := hB6.lt; have r6 := hR6.lt; have p6 := hr6.lt)
          have hs6 := hf6.size
          simp at hs6
          have gS := Fr.set3 w6 w.heap.size (.int .i64 61) (.int .i64 0) (.slice (some ⟨w6.heap.size + 1, 0, none⟩) 2 2)
          have hR7 := hR6.set3 (.int .i64 61) (.int .i64 0) (.slice (some ⟨w6.heap.size + 1, 0, none⟩) 2 2)
          have hF7 := ((F3.trans hf4).trans (g5.trans hf6)).over' gS (by simp)
          have hr7 := hr6.fr gS (by simp; omega)
          have e7 : (((w6.setCell ⟨w.heap.size, 0, none⟩ (.int .i64 61)).setCell ⟨w.heap.size, 1, none⟩ (.int .i64 0)).setCell ⟨w.heap.size, 2, none⟩ (.slice (some ⟨w6.heap.size + 1, 0, none⟩) 2 2)).heap.size = w6.heap.size := by simp
          generalize ((w6.setCell ⟨w.heap.size, 0, none⟩ (.int .i64 61)).setCell ⟨w.heap.size, 1, none⟩ (.int .i64 0)).setCell ⟨w.heap.size, 2, none⟩ (.slice (some ⟨w6.heap.size + 1, 0, none⟩) 2 2) = w7 at *
          refine retT cmpRes rfl ((hR7.fr (Fr.al (xs := []) _ _) (by simp)).fr (Fr.al (xs := []) _ _) (by simp)) ?_
          rw [HS.out]
          exact ⟨61, 0, _, 2, 2, k6, dp6, rfl, (hr7.fr (Fr.al (xs := []) _ _) (by simp)).fr (Fr.al (xs := []) _ _) (by simp), he6, hd6, hd7, hk6, (hF7.alloc _).alloc _⟩
        | ok b2' v2 =>
          rw [hR2] at hst
          simp only at hst
          have HS := Lib.hid hst
          have HR2 := Lib.hid hR2
          clear hst hR2
          refine HPK.out.mono ?_
          rintro e w4 ⟨rfl, hr4, hf4⟩
          have b4 := hr4.c4
          have q1 := hr4.c1
          have q2 := hr4.fz 1
          have q3 := hr4.lt
          have hB4 := hB3.fr hf4 (by simp; omega)
          have hR4 := hR3.fr hf4 (by simp; omega)
          have g5 : Fr [pb] w4 (w4.setCell ⟨pb, 1, none⟩ (.int .i64 ((k2 : Int) + 1))) := (Fr.refl _ _).setCell (.inl (by simp)) _
          have hr5 : Rp (w4.setCell ⟨pb, 1, none⟩ (.int .i64 ((k2 : Int) + 1))) pb s (k2 + 1) dp 0 0 := by have := hr4.set1 (k2 + 1); push_cast at this; exact this
          have co2 : Calls Tryz.prog 104 #[.pointer (some ⟨pb, 0, none⟩), .int .i64 2] (w4.setCell ⟨pb, 1, none⟩ (.int .i64 ((k2 : Int) + 1))) (OutT pb s dp (w4.setCell ⟨pb, 1, none⟩ (.int .i64 ((k2 : Int) + 1))) (smP d (s.data.toList.drop (k2 + 1)))) := hP _ pb (k2 + 1) dp s hr5 hj1 hs hd
          rw [HR2.out] at co2
          have hB5 := hB4.fr g5 (by simp; omega)
          have hR5 := hR4.fr g5 (by simp; omega)
          have l4 := hB4.lt
          go_wp2_with (go_at_call 104; refine co2.mono ?_; rintro e w6 ⟨a2, b2, A2, n2, c2, k6, rfl, ht6, hr6, hk6, rfl, hf6⟩; have hB6 := hB5.fr hf6 (by simp; omega); have hR6 := hR5.fr hf6 (by simp; omega); have x0 := hB6.c0; have x1 := hB6.c1; have x2 := hB6.c2; have z0 := hR6.c0; have z1 := hR6.c1; have z2 := hR6.c2; have y0 := hR6.fz 0; have y1 := hR6.fz 1; have y2 := hR6.fz 2; have l6 := hB6.lt; have r6 := hR6.lt; have p6 := hr6.lt)
          have hs6 := hf6.size
          simp at hs6
          have gS := Fr.set3 w6 w.heap.size (.int .i64 61) (.int .i64 0) (.slice (some ⟨w6.heap.size + 1, 0, none⟩) 2 2)
          have hR7 := hR6.set3 (.int .i64 61) (.int .i64 0) (.slice (some ⟨w6.heap.size + 1, 0, none⟩) 2 2)
          have hF7 := ((F3.trans hf4).trans (g5.trans hf6)).over' gS (by simp)
          have hr7 := hr6.fr gS (by simp; omega)
          have e7 : (((w6.setCell ⟨w.heap.size, 0, none⟩ (.int .i64 61)).setCell ⟨w.heap.size, 1, none⟩ (.int .i64 0)).setCell ⟨w.heap.size, 2, none⟩ (.slice (some ⟨w6.heap.size + 1, 0, none⟩) 2 2)).heap.size = w6.heap.size := by simp
          have tA := (((ht3.fr hf4 (by simp; omega)).fr g5 (by simp; omega)).fr hf6 (by simp; omega)).fr gS (by simp)
          have tB := (ht6.mono (S' := fun p => w.heap.size + 1 ≤ p) (fun p hp hlt => by simp at hp; omega)).fr gS (by simp)
          generalize ((w6.setCell ⟨w.heap.size, 0, none⟩ (.int .i64 61)).setCell ⟨w.heap.size, 1, none⟩ (.int .i64 0)).setCell ⟨w.heap.size, 2, none⟩ (.slice (some ⟨w6.heap.size + 1, 0, none⟩) 2 2) = w7 at *
          refine retT cmpRes rfl ((hR7.fr (Fr.al (xs := []) _ _) (by simp)).fr (Fr.al (xs := []) _ _) (by simp)) ?_
          rw [HS.out]
          exact ⟨61, 0, _, 2, 2, k6, rfl, ⟨w6.heap.size + 1, ⟨a, b, A, n, c⟩, ⟨a2, b2, A2, n2, c2⟩, (by show _ ≤ _; omega), rfl, alloc_at (by simp [e7]), ((tA.alloc _).alloc _).mono (fun p hp _ => by omega), ((tB.alloc _).alloc _).mono (fun p hp _ => by omega)⟩, (hr7.fr (Fr.al (xs := []) _ _) (by simp)).fr (Fr.al (xs := []) _ _) (by simp), hk6, rfl, (hF7.alloc _).alloc _⟩
      · have hpk : Calls Tryz.prog 65 #[.pointer (some ⟨pb, 0, none⟩)] w3 fun e w' => e = .returned (.int .i64 60) ∧ Rp w' pb s k2 dp 0 0 ∧ Fr [pb] w3 w' := by rw [hv] at hpk; exact hpk
        have HPK := Lib.hid hpk
        clear hpk hv
        cases hR2 : smP d (s.data.toList.drop (k2 + 1)) with
        | bad pl er =>
          rw [hR2] at hst
          simp only at hst
          have HS := Lib.hid hst
          have HR2 := Lib.hid hR2
          clear hst hR2
          refine HPK.out.mono ?_
          rintro e w4 ⟨rfl, hr4, hf4⟩
          have b4 := hr4.c4
          have q1 := hr4.c1
          have q2 := hr4.fz 1
          have q3 := hr4.lt
          have hB4 := hB3.fr hf4 (by simp; omega)
          have hR4 := hR3.fr hf4 (by simp; omega)
          have g5 : Fr [pb] w4 (w4.setCell ⟨pb, 1, none⟩ (.int .i64 ((k2 : Int) + 1))) := (Fr.refl _ _).setCell (.inl (by simp)) _
          have hr5 : Rp (w4.setCell ⟨pb, 1, none⟩ (.int .i64 ((k2 : Int) + 1))) pb s (k2 + 1) dp 0 0 := by have := hr4.set1 (k2 + 1); push_cast at this; exact this
          have co2 : Calls Tryz.prog 104 #[.pointer (some ⟨pb, 0, none⟩), .int .i64 2] (w4.setCell ⟨pb, 1, none⟩ (.int .i64 ((k2 : Int) + 1))) (OutT pb s dp (w4.setCell ⟨pb, 1, none⟩ (.int .i64 ((k2 : Int) + 1))) (smP d (s.data.toList.drop (k2 + 1)))) := hP _ pb (k2 + 1) dp s hr5 hj1 hs hd
          rw [HR2.out] at co2
          have hB5 := hB4.fr g5 (by simp; omega)
          have hR5 := hR4.fr g5 (by simp; omega)
          have l4 := hB4.lt
          go_wp2_with (go_at_call 104; refine co2.mono ?_; rintro e w6 ⟨a2, b2, A2, n2, c2, k6, dp6, rfl, hr6, he6, hd6, hd7, hk6, hf6⟩; have hB6 := hB5.fr hf6 (by simp; omega); have hR6 := hR5.fr hf6 (by simp; omega); have x0 := hB6.c0; have x1 := hB6.c1; have x2 := hB6.c2; have z0 := hR6.c0; have z1 := hR6.c1; have z2 := hR6.c2; have y0 := hR6.fz 0; have y1 := hR6.fz 1; have y2 := hR6.fz 2; have l6 := hB6.lt; have r6 := hR6.lt; have p6 := hr6.lt)
          have hs6 := hf6.size
          simp at hs6
          have gS := Fr.set3 w6 w.heap.size (.int .i64 60) (.int .i64 0) (.slice (some ⟨w6.heap.size + 1, 0, none⟩) 2 2)
          have hR7 := hR6.set3 (.int .i64 60) (.int .i64 0) (.slice (some ⟨w6.heap.size + 1, 0, none⟩) 2 2)
          have hF7 := ((F3.trans hf4).trans (g5.trans hf6)).over' gS (by simp)
          have hr7 := hr6.fr gS (by simp; omega)
          have e7 : (((w6.setCell ⟨w.heap.size, 0, none⟩ (.int .i64 60)).setCell ⟨w.heap.size, 1, none⟩ (.int .i64 0)).setCell ⟨w.heap.size, 2, none⟩ (.slice (some ⟨w6.heap.size + 1, 0, none⟩) 2 2)).heap.size = w6.heap.size := by simp
          generalize ((w6.setCell ⟨w.heap.size, 0, none⟩ (.int .i64 60)).setCell ⟨w.heap.size, 1, none⟩ (.int .i64 0)).setCell ⟨w.heap.size, 2, none⟩ (.slice (some ⟨w6.heap.size + 1, 0, none⟩) 2 2) = w7 at *
          refine retT cmpRes rfl ((hR7.fr (Fr.al (xs := []) _ _) (by simp)).fr (Fr.al (xs := []) _ _) (by simp)) ?_
          rw [HS.out]
          exact ⟨60, 0, _, 2, 2, k6, dp6, rfl, (hr7.fr (Fr.al (xs := []) _ _) (by simp)).fr (Fr.al (xs := []) _ _) (by simp), he6, hd6, hd7, hk6, (hF7.alloc _).alloc _⟩
        | ok b2' v2 =>
          rw [hR2] at hst
          simp only at hst
          have HS := Lib.hid hst
          have HR2 := Lib.hid hR2
          clear hst hR2
          refine HPK.out.mono ?_
          rintro e w4 ⟨rfl, hr4, hf4⟩
          have b4 := hr4.c4
          have q1 := hr4.c1
          have q2 := hr4.fz 1
          have q3 := hr4.lt
          have hB4 := hB3.fr hf4 (by simp; omega)
          have hR4 := hR3.fr hf4 (by simp; omega)
          have g5 : Fr [pb] w4 (w4.setCell ⟨pb, 1, none⟩ (.int .i64 ((k2 : Int) + 1))) := (Fr.refl _ _).setCell (.inl (by simp)) _
          have hr5 : Rp (w4.setCell ⟨pb, 1, none⟩ (.int .i64 ((k2 : Int) + 1))) pb s (k2 + 1) dp 0 0 := by have := hr4.set1 (k2 + 1); push_cast at this; exact this
          have co2 : Calls Tryz.prog 104 #[.pointer (some ⟨pb, 0, none⟩), .int .i64 2] (w4.setCell ⟨pb, 1, none⟩ (.int .i64 ((k2 : Int) + 1))) (OutT pb s dp (w4.setCell ⟨pb, 1, none⟩ (.int .i64 ((k2 : Int) + 1))) (smP d (s.data.toList.drop (k2 + 1)))) := hP _ pb (k2 + 1) dp s hr5 hj1 hs hd
          rw [HR2.out] at co2
          have hB5 := hB4.fr g5 (by simp; omega)
          have hR5 := hR4.fr g5 (by simp; omega)
          have l4 := hB4.lt
          go_wp2_with (go_at_call 104; refine co2.mono ?_; rintro e w6 ⟨a2, b2, A2, n2, c2, k6, rfl, ht6, hr6, hk6, rfl, hf6⟩; have hB6 := hB5.fr hf6 (by simp; omega); have hR6 := hR5.fr hf6 (by simp; omega); have x0 := hB6.c0; have x1 := hB6.c1; have x2 := hB6.c2; have z0 := hR6.c0; have z1 := hR6.c1; have z2 := hR6.c2; have y0 := hR6.fz 0; have y1 := hR6.fz 1; have y2 := hR6.fz 2; have l6 := hB6.lt; have r6 := hR6.lt; have p6 := hr6.lt)
          have hs6 := hf6.size
          simp at hs6
          have gS := Fr.set3 w6 w.heap.size (.int .i64 60) (.int .i64 0) (.slice (some ⟨w6.heap.size + 1, 0, none⟩) 2 2)
          have hR7 := hR6.set3 (.int .i64 60) (.int .i64 0) (.slice (some ⟨w6.heap.size + 1, 0, none⟩) 2 2)
          have hF7 := ((F3.trans hf4).trans (g5.trans hf6)).over' gS (by simp)
          have hr7 := hr6.fr gS (by simp; omega)
          have e7 : (((w6.setCell ⟨w.heap.size, 0, none⟩ (.int .i64 60)).setCell ⟨w.heap.size, 1, none⟩ (.int .i64 0)).setCell ⟨w.heap.size, 2, none⟩ (.slice (some ⟨w6.heap.size + 1, 0, none⟩) 2 2)).heap.size = w6.heap.size := by simp
          have tA := (((ht3.fr hf4 (by simp; omega)).fr g5 (by simp; omega)).fr hf6 (by simp; omega)).fr gS (by simp)
          have tB := (ht6.mono (S' := fun p => w.heap.size + 1 ≤ p) (fun p hp hlt => by simp at hp; omega)).fr gS (by simp)
          generalize ((w6.setCell ⟨w.heap.size, 0, none⟩ (.int .i64 60)).setCell ⟨w.heap.size, 1, none⟩ (.int .i64 0)).setCell ⟨w.heap.size, 2, none⟩ (.slice (some ⟨w6.heap.size + 1, 0, none⟩) 2 2) = w7 at *
          refine retT cmpRes rfl ((hR7.fr (Fr.al (xs := []) _ _) (by simp)).fr (Fr.al (xs := []) _ _) (by simp)) ?_
          rw [HS.out]
          exact ⟨60, 0, _, 2, 2, k6, rfl, ⟨w6.heap.size + 1, ⟨a, b, A, n, c⟩, ⟨a2, b2, A2, n2, c2⟩, (by show _ ≤ _; omega), rfl, alloc_at (by simp [e7]), ((tA.alloc _).alloc _).mono (fun p hp _ => by omega), ((tB.alloc _).alloc _).mono (fun p hp _ => by omega)⟩, (hr7.fr (Fr.al (xs := []) _ _) (by simp)).fr (Fr.al (xs := []) _ _) (by simp), hk6, rfl, (hF7.alloc _).alloc _⟩
      · have hpk : Calls Tryz.prog 65 #[.pointer (some ⟨pb, 0, none⟩)] w3 fun e w' => e = .returned (.int .i64 62) ∧ Rp w' pb s k2 dp 0 0 ∧ Fr [pb] w3 w' := by rw [hv] at hpk; exact hpk
        have HPK := Lib.hid hpk
        clear hpk hv
        cases hR2 : smP d (s.data.toList.drop (k2 + 1)) with
        | bad pl er =>
          rw [hR2] at hst
          simp only at hst
          have HS := Lib.hid hst
          have HR2 := Lib.hid hR2
          clear hst hR2
          refine HPK.out.mono ?_
          rintro e w4 ⟨rfl, hr4, hf4⟩
          have b4 := hr4.c4
          have q1 := hr4.c1
          have q2 := hr4.fz 1
          have q3 := hr4.lt
          have hB4 := hB3.fr hf4 (by simp; omega)
          have hR4 := hR3.fr hf4 (by simp; omega)
          have g5 : Fr [pb] w4 (w4.setCell ⟨pb, 1, none⟩ (.int .i64 ((k2 : Int) + 1))) := (Fr.refl _ _).setCell (.inl (by simp)) _
          have hr5 : Rp (w4.setCell ⟨pb, 1, none⟩ (.int .i64 ((k2 : Int) + 1))) pb s (k2 + 1) dp 0 0 := by have := hr4.set1 (k2 + 1); push_cast at this; exact this
          have co2 : Calls Tryz.prog 104 #[.pointer (some ⟨pb, 0, none⟩), .int .i64 2] (w4.setCell ⟨pb, 1, none⟩ (.int .i64 ((k2 : Int) + 1))) (OutT pb s dp (w4.setCell ⟨pb, 1, none⟩ (.int .i64 ((k2 : Int) + 1))) (smP d (s.data.toList.drop (k2 + 1)))) := hP _ pb (k2 + 1) dp s hr5 hj1 hs hd
          rw [HR2.out] at co2
          have hB5 := hB4.fr g5 (by simp; omega)
          have hR5 := hR4.fr g5 (by simp; omega)
          have l4 := hB4.lt
          go_wp2_with (go_at_call 104; refine co2.mono ?_; rintro e w6 ⟨a2, b2, A2, n2, c2, k6, dp6, rfl, hr6, he6, hd6, hd7, hk6, hf6⟩; have hB6 := hB5.fr hf6 (by simp; omega); have hR6 := hR5.fr hf6 (by simp; omega); have x0 := hB6.c0; have x1 := hB6.c1; have x2 := hB6.c2; have z0 := hR6.c0; have z1 := hR6.c1; have z2 := hR6.c2; have y0 := hR6.fz 0; have y1 := hR6.fz 1; have y2 := hR6.fz 2; have l6 := hB6.lt; have r6 := hR6.lt; have p6 := hr6.lt)
          have hs6 := hf6.size
          simp at hs6
          have gS := Fr.set3 w6 w.heap.size (.int .i64 62) (.int .i64 0) (.slice (some ⟨w6.heap.size + 1, 0, none⟩) 2 2)
          have hR7 := hR6.set3 (.int .i64 62) (.int .i64 0) (.slice (some ⟨w6.heap.size + 1, 0, none⟩) 2 2)
          have hF7 := ((F3.trans hf4).trans (g5.trans hf6)).over' gS (by simp)
          have hr7 := hr6.fr gS (by simp; omega)
          have e7 : (((w6.setCell ⟨w.heap.size, 0, none⟩ (.int .i64 62)).setCell ⟨w.heap.size, 1, none⟩ (.int .i64 0)).setCell ⟨w.heap.size, 2, none⟩ (.slice (some ⟨w6.heap.size + 1, 0, none⟩) 2 2)).heap.size = w6.heap.size := by simp
          generalize ((w6.setCell ⟨w.heap.size, 0, none⟩ (.int .i64 62)).setCell ⟨w.heap.size, 1, none⟩ (.int .i64 0)).setCell ⟨w.heap.size, 2, none⟩ (.slice (some ⟨w6.heap.size + 1, 0, none⟩) 2 2) = w7 at *
          refine retT cmpRes rfl ((hR7.fr (Fr.al (xs := []) _ _) (by simp)).fr (Fr.al (xs := []) _ _) (by simp)) ?_
          rw [HS.out]
          exact ⟨62, 0, _, 2, 2, k6, dp6, rfl, (hr7.fr (Fr.al (xs := []) _ _) (by simp)).fr (Fr.al (xs := []) _ _) (by simp), he6, hd6, hd7, hk6, (hF7.alloc _).alloc _⟩
        | ok b2' v2 =>
          rw [hR2] at hst
          simp only at hst
          have HS := Lib.hid hst
          have HR2 := Lib.hid hR2
          clear hst hR2
          refine HPK.out.mono ?_
          rintro e w4 ⟨rfl, hr4, hf4⟩
          have b4 := hr4.c4
          have q1 := hr4.c1
          have q2 := hr4.fz 1
          have q3 := hr4.lt
          have hB4 := hB3.fr hf4 (by simp; omega)
          have hR4 := hR3.fr hf4 (by simp; omega)
          have g5 : Fr [pb] w4 (w4.setCell ⟨pb, 1, none⟩ (.int .i64 ((k2 : Int) + 1))) := (Fr.refl _ _).setCell (.inl (by simp)) _
          have hr5 : Rp (w4.setCell ⟨pb, 1, none⟩ (.int .i64 ((k2 : Int) + 1))) pb s (k2 + 1) dp 0 0 := by have := hr4.set1 (k2 + 1); push_cast at this; exact this
          have co2 : Calls Tryz.prog 104 #[.pointer (some ⟨pb, 0, none⟩), .int .i64 2] (w4.setCell ⟨pb, 1, none⟩ (.int .i64 ((k2 : Int) + 1))) (OutT pb s dp (w4.setCell ⟨pb, 1, none⟩ (.int .i64 ((k2 : Int) + 1))) (smP d (s.data.toList.drop (k2 + 1)))) := hP _ pb (k2 + 1) dp s hr5 hj1 hs hd
          rw [HR2.out] at co2
          have hB5 := hB4.fr g5 (by simp; omega)
          have hR5 := hR4.fr g5 (by simp; omega)
          have l4 := hB4.lt
          go_wp2_with (go_at_call 104; refine co2.mono ?_; rintro e w6 ⟨a2, b2, A2, n2, c2, k6, rfl, ht6, hr6, hk6, rfl, hf6⟩; have hB6 := hB5.fr hf6 (by simp; omega); have hR6 := hR5.fr hf6 (by simp; omega); have x0 := hB6.c0; have x1 := hB6.c1; have x2 := hB6.c2; have z0 := hR6.c0; have z1 := hR6.c1; have z2 := hR6.c2; have y0 := hR6.fz 0; have y1 := hR6.fz 1; have y2 := hR6.fz 2; have l6 := hB6.lt; have r6 := hR6.lt; have p6 := hr6.lt)
          have hs6 := hf6.size
          simp at hs6
          have gS := Fr.set3 w6 w.heap.size (.int .i64 62) (.int .i64 0) (.slice (some ⟨w6.heap.size + 1, 0, none⟩) 2 2)
          have hR7 := hR6.set3 (.int .i64 62) (.int .i64 0) (.slice (some ⟨w6.heap.size + 1, 0, none⟩) 2 2)
          have hF7 := ((F3.trans hf4).trans (g5.trans hf6)).over' gS (by simp)
          have hr7 := hr6.fr gS (by simp; omega)
          have e7 : (((w6.setCell ⟨w.heap.size, 0, none⟩ (.int .i64 62)).setCell ⟨w.heap.size, 1, none⟩ (.int .i64 0)).setCell ⟨w.heap.size, 2, none⟩ (.slice (some ⟨w6.heap.size + 1, 0, none⟩) 2 2)).heap.size = w6.heap.size := by simp
          have tA := (((ht3.fr hf4 (by simp; omega)).fr g5 (by simp; omega)).fr hf6 (by simp; omega)).fr gS (by simp)
          have tB := (ht6.mono (S' := fun p => w.heap.size + 1 ≤ p) (fun p hp hlt => by simp at hp; omega)).fr gS (by simp)
          generalize ((w6.setCell ⟨w.heap.size, 0, none⟩ (.int .i64 62)).setCell ⟨w.heap.size, 1, none⟩ (.int .i64 0)).setCell ⟨w.heap.size, 2, none⟩ (.slice (some ⟨w6.heap.size + 1, 0, none⟩) 2 2) = w7 at *
          refine retT cmpRes rfl ((hR7.fr (Fr.al (xs := []) _ _) (by simp)).fr (Fr.al (xs := []) _ _) (by simp)) ?_
          rw [HS.out]
          exact ⟨62, 0, _, 2, 2, k6, rfl, ⟨w6.heap.size + 1, ⟨a, b, A, n, c⟩, ⟨a2, b2, A2, n2, c2⟩, (by show _ ≤ _; omega), rfl, alloc_at (by simp [e7]), ((tA.alloc _).alloc _).mono (fun p hp _ => by omega), ((tB.alloc _).alloc _).mono (fun p hp _ => by omega)⟩, (hr7.fr (Fr.al (xs := []) _ _) (by simp)).fr (Fr.al (xs := []) _ _) (by simp), hk6, rfl, (hF7.alloc _).alloc _⟩
end Go.Proofs.YthadeccnibnioaaGreatDoor
