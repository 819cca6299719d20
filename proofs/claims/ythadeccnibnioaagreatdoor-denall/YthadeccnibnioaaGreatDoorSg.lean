/- The document's reader: operands from the left. -/
import Derived.Test.YthadeccnibnioaaGreatDoorSz0
import Derived.Test.YthadeccnibnioaaGreatDoorRz2
namespace Go.Proofs.YthadeccnibnioaaGreatDoor
open Go.RowKit

/-- What a call of row at a level does. -/
def RowOK (lv : Nat) (P : List UInt8 → Res) (d : Nat) : Prop := ∀ (w : World) (pb k dp : Nat) (s : ByteArray), Rp w pb s k dp 0 0 → k ≤ s.size → s.size ≤ 120 → dp + d = 20 → Calls Tryz.prog 104 #[.pointer (some ⟨pb, 0, none⟩), .int .i64 lv] w (OutT pb s dp w (P (s.data.toList.drop k)))

theorem rowRes : Tryz.f104.results = #[.cell 4 24] := by kernel_rfl

set_option maxHeartbeats 4000000 in
theorem row_four {d : Nat} (hl : LessOK d) : RowOK 4 (sgP d) d := by
  intro w pb k dp s h hk hs hd
  have hA : Rp (w.alloc (.cells tz 24)) pb s k dp 0 0 := h.fr (xs := []) ((Fr.refl _ _).alloc _) (by simp)
  have hR : RC (w.alloc (.cells tz 24)) w.heap.size (.int .i64 0) (.int .i64 0) (.slice none 0 0) := RC.new w
  have hpl := h.lt
  have co := hl _ pb k dp s hA hk hs hd
  generalize sgP d (s.data.toList.drop k) = res at *
  cases res with
  | ok t u =>
    go_enter Tryz.func104, Tryz.ntmps104
    go_wp2_with (go_at_call 139; refine co.mono ?_; rintro e w2 ⟨a, b, A, n, c, k2, rfl, ht, hr2, hk2, rfl, hf2⟩; have hR2 := hR.fr hf2 (by simp; omega); have z0 := hR2.c0; have z1 := hR2.c1; have z2 := hR2.c2; have y0 := hR2.fz 0; have y1 := hR2.fz 1; have y2 := hR2.fz 2)
    have F2 := (Fr.al (xs := [pb]) w (.cells tz 24)).trans hf2
    refine retT rowRes rfl (hR2.set3 _ _ _) ?_
    have f3 := Fr.set3 w2 w.heap.size (.int .i64 a) (.int .i64 b) (.slice A n c)
    simp at ht
    exact ⟨a, b, A, n, c, k2, rfl, (ht.fr f3 (by simp)).mono (fun p hp _ => by omega), hr2.fr f3 (by simp; omega), hk2, rfl, F2.over' f3 (by simp)⟩
  | bad pl er =>
    go_enter Tryz.func104, Tryz.ntmps104
    go_wp2_with (go_at_call 139; refine co.mono ?_; rintro e w2 ⟨a, b, A, n, c, k2, dp2, rfl, hr2, he2, hd2, hd3, hk2, hf2⟩; have hR2 := hR.fr hf2 (by simp; omega); have z0 := hR2.c0; have z1 := hR2.c1; have z2 := hR2.c2; have y0 := hR2.fz 0; have y1 := hR2.fz 1; have y2 := hR2.fz 2)
    have F2 := (Fr.al (xs := [pb]) w (.cells tz 24)).trans hf2
    refine retT rowRes rfl (hR2.set3 _ _ _) ?_
    have f3 := Fr.set3 w2 w.heap.size (.int .i64 a) (.int .i64 b) (.slice A n c)
    exact ⟨a, b, A, n, c, k2, dp2, rfl, hr2.fr f3 (by simp; omega), he2, hd2, hd3, hk2, F2.over' f3 (by simp)⟩

/-- The loop of a row: what stands when a round begins. -/
def RowI (ops : List UInt8) (P : List UInt8 → Res) (R : Res) (w : World) (pb B5 dp : Nat) (s : ByteArray) (wr : World) : Prop :=
  ∃ (a b : Int) (A : Option Addr) (n c : Nat), RC wr B5 (.int .i64 a) (.int .i64 b) (.slice A n c) ∧ RC wr w.heap.size (.int .i64 0) (.int .i64 0) (.slice none 0 0) ∧ w.heap.size < B5 ∧ Fr [pb] w wr ∧
    ((∃ j t, j ≤ s.size ∧ TrV (fun p => w.heap.size < p ∧ p ≠ B5) wr t ⟨a, b, A, n, c⟩ ∧ Rp wr pb s j dp 0 0 ∧ Hid (R = loopF ops P (s.size - j) t (s.data.toList.drop j))) ∨
     (∃ j dp' pl er, Rp wr pb s j dp' (s.size - pl) er ∧ er ≠ 0 ∧ dp ≤ dp' ∧ dp' ≤ 20 ∧ j ≤ s.size ∧ Hid (R = .bad pl er)))

def rowM (pb : Nat) (s : ByteArray) (wr : World) : Nat := if intOf ((wr.cell? ⟨pb, 4, none⟩).getD undef) = 0 then s.size + 1 - (intOf ((wr.cell? ⟨pb, 1, none⟩).getD undef)).toNat else 0
theorem rowM_ok {pb k dp : Nat} {s : ByteArray} {w : World} (h : Rp w pb s k dp 0 0) : rowM pb s w = s.size + 1 - k := by
  unfold rowM; rw [h.c4, h.c1]; simp [intOf]
theorem rowM_bad {pb k dp x er : Nat} {s : ByteArray} {w : World} (h : Rp w pb s k dp x er) (he : er ≠ 0) : rowM pb s w = 0 := by
  unfold rowM; rw [h.c4]; simp [intOf, he]

set_option maxHeartbeats 8000000 in
set_option maxRecDepth 100000 in
theorem row_any {lv d : Nat} {ops : List UInt8} {P : List UInt8 → Res} (hlv : lv = 2 ∧ ops = [43, 45] ∨ lv = 3 ∧ ops = [42, 47, 37]) (hP : RowOK (lv + 1) P d) (hS : Shr P) : RowOK lv (rowF ops P) d := by
  intro w pb k dp s h hk hs hd
  have hA : Rp (w.alloc (.cells tz 24)) pb s k dp 0 0 := h.fr (xs := []) ((Fr.refl _ _).alloc _) (by simp)
  have hR : RC (w.alloc (.cells tz 24)) w.heap.size (.int .i64 0) (.int .i64 0) (.slice none 0 0) := RC.new w
  have hpl := h.lt
  have co := hP _ pb k dp s hA hk hs hd
  obtain ⟨R, hRR⟩ : ∃ R, R = rowF ops P (s.data.toList.drop k) := ⟨_, rfl⟩
  rw [← hRR]
  have HRR := Lib.hid hRR
  clear hRR
  have hl4 : ((lv : Int) == 4) = false := beq_eq_false_iff_ne.2 (by omega)
  have hl5 : (lv : Int) + 1 = ((lv + 1 : Nat) : Int) := by push_cast; rfl
  rw [← hl5] at co
  have hlo : (0 : Int) ≤ lv := by omega
  have hhi : (lv : Int) ≤ 3 := by omega
  clear hl5
  generalize hres : P (s.data.toList.drop k) = res at *
  have HP0 := Lib.hid hres
  clear hres
  have start : Calls Tryz.prog 104 #[.pointer (some ⟨pb, 0, none⟩), .int .i64 ((lv : Int) + 1)] (w.alloc (.cells tz 24)) fun e w2 => ∃ (a b : Int) (A : Option Addr) (n c : Nat), e = .returned (.agg #[.int .i64 a, .int .i64 b, .slice A n c]) ∧ pb < w2.heap.size ∧ w.heap.size < w2.heap.size ∧
      RowI ops P R w pb w2.heap.size dp s (w2.alloc (.cells #[.int .i64 a, .int .i64 b, .slice A n c] 24)) := by
    refine co.mono ?_
    cases res with
    | ok t u =>
      rintro e w2 ⟨a, b, A, n, c, k2, rfl, ht, hr2, hk2, rfl, hf2⟩
      have hs2 := hf2.size
      simp at hs2 ht
      refine ⟨a, b, A, n, c, rfl, hr2.lt, by omega, a, b, A, n, c, RC.new w2, (hR.fr hf2 (by simp; omega)).fr (Fr.al (xs := []) _ _) (by simp), by omega, ((Fr.al (xs := [pb]) w _).trans hf2).alloc _, .inl ⟨k2, t, hk2, (ht.mono (fun p hp hlt => ⟨by omega, by omega⟩)).alloc _, hr2.fr (Fr.al (xs := []) _ _) (by simp), ?_⟩⟩
      show _ = _
      rw [HRR.out, rowF, HP0.out]
      simp
    | bad pl er =>
      rintro e w2 ⟨a, b, A, n, c, k2, dp2, rfl, hr2, he2, hd2, hd3, hk2, hf2⟩
      have hs2 := hf2.size
      simp at hs2
      refine ⟨a, b, A, n, c, rfl, hr2.lt, by omega, a, b, A, n, c, RC.new w2, (hR.fr hf2 (by simp; omega)).fr (Fr.al (xs := []) _ _) (by simp), by omega, ((Fr.al (xs := [pb]) w _).trans hf2).alloc _, .inr ⟨k2, dp2, pl, er, hr2.fr (Fr.al (xs := []) _ _) (by simp), he2, hd2, hd3, hk2, ?_⟩⟩
      show _ = _
      rw [HRR.out, rowF, HP0.out]
  have HST := Lib.hid start
  clear start co HP0
  go_enter Tryz.func104, Tryz.ntmps104
  go_wp2_with (go_at_call 104; refine HST.out.mono ?_; rintro e w2 ⟨a, b, A, n, c, rfl, hp2, hw2, hI⟩)
  have HI := Lib.hid hI
  clear hI
  go_loopw [6] (fun _ wr => RowI ops P R w pb w2.heap.size dp s wr) (fun _ wr => rowM pb s wr)
  case atStart => exact HI.out
  case round =>
    clear HI HST
    obtain ⟨a, b, A, n, c, hB5, hRC, hlB, hF, hor⟩ := hrel
    have x0 := hB5.c0
    have x1 := hB5.c1
    have x2 := hB5.c2
    have z0 := hRC.c0
    have z1 := hRC.c1
    have z2 := hRC.c2
    have y0 := hRC.fz 0
    have y1 := hRC.fz 1
    have y2 := hRC.fz 2
    generalize w2.heap.size = B5 at *
    rcases hor with ⟨j, t, hj, ht, hr, HL⟩ | ⟨j, dp', pl, er, hr, he, hd1, hd2, hj, HB⟩
    · have b0 := hr.c4
      cases ho : opAt ops (s.data.toList.drop j) with
      | none =>
        have hRR : R = .ok t (s.data.toList.drop j) := by
          rw [HL.out]; unfold loopF; rw [ho]
        have HRR2 := Lib.hid hRR
        have hpk := rpeek_any hr hj
        obtain ⟨pkv, hpv⟩ : ∃ pkv, pkv = pk (s.data.toList.drop j) := ⟨_, rfl⟩
        rw [← hpv] at hpk
        have hno : ∀ o ∈ ops, ((pkv : Int) == (o.toNat : Int)) = false := by
          intro o hoo
          refine beq_eq_false_iff_ne.2 (fun e => ?_)
          have e2 : pkv = o.toNat := by omega
          cases hv : s.data.toList.drop j with
          | nil =>
            rw [hpv, hv] at e2
            rcases hlv with ⟨-, rfl⟩ | ⟨-, rfl⟩ <;> simp at hoo <;> rcases hoo with rfl | rfl | rfl <;> simp [pk] at e2
          | cons c0 r0 =>
            rw [hpv, hv] at e2
            rw [hv] at ho
            have e3 : c0 = o := UInt8.toNat_inj.1 e2
            subst e3
            simp [opAt, hoo] at ho
        have HPK := Lib.hid hpk
        clear hRR hpk ho HL hpv
        rcases hlv with ⟨rfl, rfl⟩ | ⟨rfl, rfl⟩
        · have m0 := hno 43 (by simp)
          have m0 : ((pkv : Int) == 43) = false := m0
          have m1 := hno 45 (by simp)
          have m1 : ((pkv : Int) == 45) = false := m1
          clear hno
          go_wp2_with (go_at_call 65; refine HPK.out.mono ?_; rintro e w3 ⟨rfl, hr3, hf3⟩; have hB53 := hB5.fr hf3 (by simp; omega); have hRC3 := hRC.fr hf3 (by simp; omega); have x0 := hB53.c0; have x1 := hB53.c1; have x2 := hB53.c2; have z0 := hRC3.c0; have z1 := hRC3.c1; have z2 := hRC3.c2; have y0 := hRC3.fz 0; have y1 := hRC3.fz 1; have y2 := hRC3.fz 2)
          refine retT rowRes rfl (hRC3.set3 _ _ _) ?_
          rw [HRR2.out]
          have f := Fr.set3 w3 w.heap.size (.int .i64 a) (.int .i64 b) (.slice A n c)
          exact ⟨a, b, A, n, c, j, rfl, ((ht.fr hf3 (by simp; omega)).fr f (by simp)).mono (fun p hp _ => by omega), hr3.fr f (by simp; omega), hj, rfl, (hF.trans hf3).over' f (by simp)⟩
        · have m0 := hno 42 (by simp)
          have m0 : ((pkv : Int) == 42) = false := m0
          have m1 := hno 47 (by simp)
          have m1 : ((pkv : Int) == 47) = false := m1
          have m2 := hno 37 (by simp)
          have m2 : ((pkv : Int) == 37) = false := m2
          clear hno
          go_wp2_with (go_at_call 65; refine HPK.out.mono ?_; rintro e w3 ⟨rfl, hr3, hf3⟩; have hB53 := hB5.fr hf3 (by simp; omega); have hRC3 := hRC.fr hf3 (by simp; omega); have x0 := hB53.c0; have x1 := hB53.c1; have x2 := hB53.c2; have z0 := hRC3.c0; have z1 := hRC3.c1; have z2 := hRC3.c2; have y0 := hRC3.fz 0; have y1 := hRC3.fz 1; have y2 := hRC3.fz 2)
          refine retT rowRes rfl (hRC3.set3 _ _ _) ?_
          rw [HRR2.out]
          have f := Fr.set3 w3 w.heap.size (.int .i64 a) (.int .i64 b) (.slice A n c)
          exact ⟨a, b, A, n, c, j, rfl, ((ht.fr hf3 (by simp; omega)).fr f (by simp)).mono (fun p hp _ => by omega), hr3.fr f (by simp; omega), hj, rfl, (hF.trans hf3).over' f (by simp)⟩
      | some c0 =>
        have hj1 : j + 1 ≤ s.size := by
          have := opAt_some ho
          exact head_le (c := c0) (by rw [this.1]; rfl)
        have hst : R = match P (s.data.toList.drop (j + 1)) with
            | .bad p e => .bad p e
            | .ok b v2 => loopF ops P (s.size - (j + 1)) (.two c0 t b) v2 := by
          rw [HL.out]
          have e1 : s.size - j = (s.size - (j + 1)) + 1 := by omega
          rw [e1]
          conv => lhs; unfold loopF
          rw [ho]
          simp only [drop_drop1]
          cases P (s.data.toList.drop (j + 1)) <;> rfl
        obtain ⟨hv, hmem⟩ := opAt_some ho
        clear ho HL
        rcases hlv with ⟨rfl, rfl⟩ | ⟨rfl, rfl⟩
        · simp at hmem
          rcases hmem with rfl | rfl
          · have hpk := rpeek_any hr hj
            rw [hv] at hpk
            simp only [pk] at hpk
            have HPK : Hid (Calls Tryz.prog 65 #[.pointer (some ⟨pb, 0, none⟩)] wr fun e w' => e = .returned (.int .i64 43) ∧ Rp w' pb s j dp 0 0 ∧ Fr [pb] wr w') := hpk
            clear hpk hv
            cases hR2 : P (s.data.toList.drop (j + 1)) with
            | bad pl er =>
              rw [hR2] at hst
              simp only at hst
              have HS := Lib.hid hst
              have HR2 := Lib.hid hR2
              clear hst hR2
              go_wp2_with (go_at_call 65; refine HPK.out.mono ?_; rintro e w3 ⟨rfl, hr3, hf3⟩; have q1 := hr3.c1; have q2 := hr3.fz 1; have q3 := hr3.lt; refine Hid.out ?_)
              refine Lib.hid ?_
              have hB53 := hB5.fr hf3 (by simp; omega)
              have hRC3 := hRC.fr hf3 (by simp; omega)
              have l3 := hB53.lt
              have g4 : Fr [pb] w3 (w3.setCell ⟨pb, 1, none⟩ (.int .i64 ((j : Int) + 1))) := (Fr.refl _ _).setCell (.inl (by simp)) _
              have hr4 : Rp (w3.setCell ⟨pb, 1, none⟩ (.int .i64 ((j : Int) + 1))) pb s (j + 1) dp 0 0 := by have := hr3.set1 (j + 1); push_cast at this; exact this
              have co2 : Calls Tryz.prog 104 #[.pointer (some ⟨pb, 0, none⟩), .int .i64 3] (w3.setCell ⟨pb, 1, none⟩ (.int .i64 ((j : Int) + 1))) (OutT pb s dp (w3.setCell ⟨pb, 1, none⟩ (.int .i64 ((j : Int) + 1))) (P (s.data.toList.drop (j + 1)))) := hP _ pb (j + 1) dp s hr4 hj1 hs hd
              rw [HR2.out] at co2
              have hB54 := hB53.fr g4 (by simp; omega)
              have hRC4 := hRC3.fr g4 (by simp; omega)
              go_wp2_with (go_at_call 104; refine co2.mono ?_; rintro e w5 ⟨a2, b2', A2, n2, c2, k5, dp5, rfl, hr5, he5, hd5, hd6, hk5, hf5⟩; have hB55 := hB54.fr hf5 (by simp; omega); have hRC5 := hRC4.fr hf5 (by simp; omega); have x0 := hB55.c0; have x1 := hB55.c1; have x2 := hB55.c2; have y0 := hB55.fz 0; have y1 := hB55.fz 1; have y2 := hB55.fz 2; have l5 := hB55.lt; have p5 := hr5.lt)
              have hs5 := hf5.size
              simp at hs5
              have gS := Fr.set3 w5 B5 (.int .i64 43) (.int .i64 0) (.slice (some ⟨w5.heap.size + 1, 0, none⟩) 2 2)
              have hB56 := hB55.set3 (.int .i64 43) (.int .i64 0) (.slice (some ⟨w5.heap.size + 1, 0, none⟩) 2 2)
              have hRC6 := hRC5.fr gS (by simp; omega)
              have hF6 := ((hF.trans hf3).trans (g4.trans hf5)).over' gS (by simp; omega)
              have hr6 := hr5.fr gS (by simp; omega)
              have e6 : (((w5.setCell ⟨B5, 0, none⟩ (.int .i64 43)).setCell ⟨B5, 1, none⟩ (.int .i64 0)).setCell ⟨B5, 2, none⟩ (.slice (some ⟨w5.heap.size + 1, 0, none⟩) 2 2)).heap.size = w5.heap.size := by simp
              generalize ((w5.setCell ⟨B5, 0, none⟩ (.int .i64 43)).setCell ⟨B5, 1, none⟩ (.int .i64 0)).setCell ⟨B5, 2, none⟩ (.slice (some ⟨w5.heap.size + 1, 0, none⟩) 2 2) = w6 at *
              refine ⟨?_, ?_⟩
              · repeat apply Exists.intro
                refine ⟨?_, rfl⟩
                exact ⟨43, 0, _, 2, 2, (hB56.fr (Fr.al (xs := []) _ _) (by simp)).fr (Fr.al (xs := []) _ _) (by simp), (hRC6.fr (Fr.al (xs := []) _ _) (by simp)).fr (Fr.al (xs := []) _ _) (by simp), hlB, (hF6.alloc _).alloc _, .inr ⟨k5, dp5, pl, er, (hr6.fr (Fr.al (xs := []) _ _) (by simp)).fr (Fr.al (xs := []) _ _) (by simp), he5, hd5, hd6, hk5, HS.out⟩⟩
              ·
                have r7 := (hr6.fr (Fr.al (xs := []) w6 (.cells #[.int .i64 a2, .int .i64 b2', .slice A2 n2 c2] 24)) (by simp)).fr (Fr.al (xs := []) _ (.cells #[.int .i64 a, .int .i64 b, .slice A n c, .int .i64 a2, .int .i64 b2', .slice A2 n2 c2] 24)) (by simp)
                rw [rowM_bad r7 he5, rowM_ok hr]
                omega
            | ok b2 v2 =>
              rw [hR2] at hst
              simp only at hst
              have hsh := hS _ _ _ hR2
              have HS := Lib.hid hst
              have HR2 := Lib.hid hR2
              clear hst hR2
              go_wp2_with (go_at_call 65; refine HPK.out.mono ?_; rintro e w3 ⟨rfl, hr3, hf3⟩; have q1 := hr3.c1; have q2 := hr3.fz 1; have q3 := hr3.lt; refine Hid.out ?_)
              refine Lib.hid ?_
              have hB53 := hB5.fr hf3 (by simp; omega)
              have hRC3 := hRC.fr hf3 (by simp; omega)
              have l3 := hB53.lt
              have g4 : Fr [pb] w3 (w3.setCell ⟨pb, 1, none⟩ (.int .i64 ((j : Int) + 1))) := (Fr.refl _ _).setCell (.inl (by simp)) _
              have hr4 : Rp (w3.setCell ⟨pb, 1, none⟩ (.int .i64 ((j : Int) + 1))) pb s (j + 1) dp 0 0 := by have := hr3.set1 (j + 1); push_cast at this; exact this
              have co2 : Calls Tryz.prog 104 #[.pointer (some ⟨pb, 0, none⟩), .int .i64 3] (w3.setCell ⟨pb, 1, none⟩ (.int .i64 ((j : Int) + 1))) (OutT pb s dp (w3.setCell ⟨pb, 1, none⟩ (.int .i64 ((j : Int) + 1))) (P (s.data.toList.drop (j + 1)))) := hP _ pb (j + 1) dp s hr4 hj1 hs hd
              rw [HR2.out] at co2
              have hB54 := hB53.fr g4 (by simp; omega)
              have hRC4 := hRC3.fr g4 (by simp; omega)
              have m0 := hr.c1
              go_wp2_with (go_at_call 104; refine co2.mono ?_; rintro e w5 ⟨a2, b2', A2, n2, c2, k5, rfl, ht5, hr5, hk5, rfl, hf5⟩; have hB55 := hB54.fr hf5 (by simp; omega); have hRC5 := hRC4.fr hf5 (by simp; omega); have x0 := hB55.c0; have x1 := hB55.c1; have x2 := hB55.c2; have y0 := hB55.fz 0; have y1 := hB55.fz 1; have y2 := hB55.fz 2; have l5 := hB55.lt; have p5 := hr5.lt)
              have hs5 := hf5.size
              simp at hs5
              have gS := Fr.set3 w5 B5 (.int .i64 43) (.int .i64 0) (.slice (some ⟨w5.heap.size + 1, 0, none⟩) 2 2)
              have hB56 := hB55.set3 (.int .i64 43) (.int .i64 0) (.slice (some ⟨w5.heap.size + 1, 0, none⟩) 2 2)
              have hRC6 := hRC5.fr gS (by simp; omega)
              have hF6 := ((hF.trans hf3).trans (g4.trans hf5)).over' gS (by simp; omega)
              have hr6 := hr5.fr gS (by simp; omega)
              have e6 : (((w5.setCell ⟨B5, 0, none⟩ (.int .i64 43)).setCell ⟨B5, 1, none⟩ (.int .i64 0)).setCell ⟨B5, 2, none⟩ (.slice (some ⟨w5.heap.size + 1, 0, none⟩) 2 2)).heap.size = w5.heap.size := by simp
              have tA := (((ht.fr hf3 (by simp; omega)).fr g4 (by simp; omega)).fr hf5 (by simp; omega)).fr gS (by simp)
              have tB := ((ht5.mono (S' := fun p => w.heap.size < p ∧ p ≠ B5) (fun p hp hlt => ⟨by simp at hp; omega, by simp at hp; omega⟩)).fr gS (by simp))
              generalize ((w5.setCell ⟨B5, 0, none⟩ (.int .i64 43)).setCell ⟨B5, 1, none⟩ (.int .i64 0)).setCell ⟨B5, 2, none⟩ (.slice (some ⟨w5.heap.size + 1, 0, none⟩) 2 2) = w6 at *
              rw [drop_len, drop_len] at hsh
              refine ⟨?_, ?_⟩
              · repeat apply Exists.intro
                refine ⟨?_, rfl⟩
                refine ⟨43, 0, _, 2, 2, (hB56.fr (Fr.al (xs := []) _ _) (by simp)).fr (Fr.al (xs := []) _ _) (by simp), (hRC6.fr (Fr.al (xs := []) _ _) (by simp)).fr (Fr.al (xs := []) _ _) (by simp), hlB, (hF6.alloc _).alloc _, .inl ⟨k5, .two 43 t b2, hk5, ⟨w5.heap.size + 1, ⟨a, b, A, n, c⟩, ⟨a2, b2', A2, n2, c2⟩, ⟨by omega, by omega⟩, rfl, alloc_at (by simp [e6]), (tA.alloc _).alloc _, (tB.alloc _).alloc _⟩, (hr6.fr (Fr.al (xs := []) _ _) (by simp)).fr (Fr.al (xs := []) _ _) (by simp), ?_⟩⟩
                show R = _
                rw [HS.out]
                exact loop_fuel hS _ _ _ _ (by rw [drop_len]; omega) (by rw [drop_len]; omega)
              ·
                have r7 := (hr6.fr (Fr.al (xs := []) w6 (.cells #[.int .i64 a2, .int .i64 b2', .slice A2 n2 c2] 24)) (by simp)).fr (Fr.al (xs := []) _ (.cells #[.int .i64 a, .int .i64 b, .slice A n c, .int .i64 a2, .int .i64 b2', .slice A2 n2 c2] 24)) (by simp)
                rw [rowM_ok r7, rowM_ok hr]
                omega
          · have hpk := rpeek_any hr hj
            rw [hv] at hpk
            simp only [pk] at hpk
            have HPK : Hid (Calls Tryz.prog 65 #[.pointer (some ⟨pb, 0, none⟩)] wr fun e w' => e = .returned (.int .i64 45) ∧ Rp w' pb s j dp 0 0 ∧ Fr [pb] wr w') := hpk
            clear hpk hv
            cases hR2 : P (s.data.toList.drop (j + 1)) with
            | bad pl er =>
              rw [hR2] at hst
              simp only at hst
              have HS := Lib.hid hst
              have HR2 := Lib.hid hR2
              clear hst hR2
              go_wp2_with (go_at_call 65; refine HPK.out.mono ?_; rintro e w3 ⟨rfl, hr3, hf3⟩; have q1 := hr3.c1; have q2 := hr3.fz 1; have q3 := hr3.lt; refine Hid.out ?_)
              refine Lib.hid ?_
              have hB53 := hB5.fr hf3 (by simp; omega)
              have hRC3 := hRC.fr hf3 (by simp; omega)
              have l3 := hB53.lt
              have g4 : Fr [pb] w3 (w3.setCell ⟨pb, 1, none⟩ (.int .i64 ((j : Int) + 1))) := (Fr.refl _ _).setCell (.inl (by simp)) _
              have hr4 : Rp (w3.setCell ⟨pb, 1, none⟩ (.int .i64 ((j : Int) + 1))) pb s (j + 1) dp 0 0 := by have := hr3.set1 (j + 1); push_cast at this; exact this
              have co2 : Calls Tryz.prog 104 #[.pointer (some ⟨pb, 0, none⟩), .int .i64 3] (w3.setCell ⟨pb, 1, none⟩ (.int .i64 ((j : Int) + 1))) (OutT pb s dp (w3.setCell ⟨pb, 1, none⟩ (.int .i64 ((j : Int) + 1))) (P (s.data.toList.drop (j + 1)))) := hP _ pb (j + 1) dp s hr4 hj1 hs hd
              rw [HR2.out] at co2
              have hB54 := hB53.fr g4 (by simp; omega)
              have hRC4 := hRC3.fr g4 (by simp; omega)
              go_wp2_with (go_at_call 104; refine co2.mono ?_; rintro e w5 ⟨a2, b2', A2, n2, c2, k5, dp5, rfl, hr5, he5, hd5, hd6, hk5, hf5⟩; have hB55 := hB54.fr hf5 (by simp; omega); have hRC5 := hRC4.fr hf5 (by simp; omega); have x0 := hB55.c0; have x1 := hB55.c1; have x2 := hB55.c2; have y0 := hB55.fz 0; have y1 := hB55.fz 1; have y2 := hB55.fz 2; have l5 := hB55.lt; have p5 := hr5.lt)
              have hs5 := hf5.size
              simp at hs5
              have gS := Fr.set3 w5 B5 (.int .i64 45) (.int .i64 0) (.slice (some ⟨w5.heap.size + 1, 0, none⟩) 2 2)
              have hB56 := hB55.set3 (.int .i64 45) (.int .i64 0) (.slice (some ⟨w5.heap.size + 1, 0, none⟩) 2 2)
              have hRC6 := hRC5.fr gS (by simp; omega)
              have hF6 := ((hF.trans hf3).trans (g4.trans hf5)).over' gS (by simp; omega)
              have hr6 := hr5.fr gS (by simp; omega)
              have e6 : (((w5.setCell ⟨B5, 0, none⟩ (.int .i64 45)).setCell ⟨B5, 1, none⟩ (.int .i64 0)).setCell ⟨B5, 2, none⟩ (.slice (some ⟨w5.heap.size + 1, 0, none⟩) 2 2)).heap.size = w5.heap.size := by simp
              generalize ((w5.setCell ⟨B5, 0, none⟩ (.int .i64 45)).setCell ⟨B5, 1, none⟩ (.int .i64 0)).setCell ⟨B5, 2, none⟩ (.slice (some ⟨w5.heap.size + 1, 0, none⟩) 2 2) = w6 at *
              refine ⟨?_, ?_⟩
              · repeat apply Exists.intro
                refine ⟨?_, rfl⟩
                exact ⟨45, 0, _, 2, 2, (hB56.fr (Fr.al (xs := []) _ _) (by simp)).fr (Fr.al (xs := []) _ _) (by simp), (hRC6.fr (Fr.al (xs := []) _ _) (by simp)).fr (Fr.al (xs := []) _ _) (by simp), hlB, (hF6.alloc _).alloc _, .inr ⟨k5, dp5, pl, er, (hr6.fr (Fr.al (xs := []) _ _) (by simp)).fr (Fr.al (xs := []) _ _) (by simp), he5, hd5, hd6, hk5, HS.out⟩⟩
              ·
                have r7 := (hr6.fr (Fr.al (xs := []) w6 (.cells #[.int .i64 a2, .int .i64 b2', .slice A2 n2 c2] 24)) (by simp)).fr (Fr.al (xs := []) _ (.cells #[.int .i64 a, .int .i64 b, .slice A n c, .int .i64 a2, .int .i64 b2', .slice A2 n2 c2] 24)) (by simp)
                rw [rowM_bad r7 he5, rowM_ok hr]
                omega
            | ok b2 v2 =>
              rw [hR2] at hst
              simp only at hst
              have hsh := hS _ _ _ hR2
              have HS := Lib.hid hst
              have HR2 := Lib.hid hR2
              clear hst hR2
              go_wp2_with (go_at_call 65; refine HPK.out.mono ?_; rintro e w3 ⟨rfl, hr3, hf3⟩; have q1 := hr3.c1; have q2 := hr3.fz 1; have q3 := hr3.lt; refine Hid.out ?_)
              refine Lib.hid ?_
              have hB53 := hB5.fr hf3 (by simp; omega)
              have hRC3 := hRC.fr hf3 (by simp; omega)
              have l3 := hB53.lt
              have g4 : Fr [pb] w3 (w3.setCell ⟨pb, 1, none⟩ (.int .i64 ((j : Int) + 1))) := (Fr.refl _ _).setCell (.inl (by simp)) _
              have hr4 : Rp (w3.setCell ⟨pb, 1, none⟩ (.int .i64 ((j : Int) + 1))) pb s (j + 1) dp 0 0 := by have := hr3.set1 (j + 1); push_cast at this; exact this
              have co2 : Calls Tryz.prog 104 #[.pointer (some ⟨pb, 0, none⟩), .int .i64 3] (w3.setCell ⟨pb, 1, none⟩ (.int .i64 ((j : Int) + 1))) (OutT pb s dp (w3.setCell ⟨pb, 1, none⟩ (.int .i64 ((j : Int) + 1))) (P (s.data.toList.drop (j + 1)))) := hP _ pb (j + 1) dp s hr4 hj1 hs hd
              rw [HR2.out] at co2
              have hB54 := hB53.fr g4 (by simp; omega)
              have hRC4 := hRC3.fr g4 (by simp; omega)
              have m0 := hr.c1
              go_wp2_with (go_at_call 104; refine co2.mono ?_; rintro e w5 ⟨a2, b2', A2, n2, c2, k5, rfl, ht5, hr5, hk5, rfl, hf5⟩; have hB55 := hB54.fr hf5 (by simp; omega); have hRC5 := hRC4.fr hf5 (by simp; omega); have x0 := hB55.c0; have x1 := hB55.c1; have x2 := hB55.c2; have y0 := hB55.fz 0; have y1 := hB55.fz 1; have y2 := hB55.fz 2; have l5 := hB55.lt; have p5 := hr5.lt)
              have hs5 := hf5.size
              simp at hs5
              have gS := Fr.set3 w5 B5 (.int .i64 45) (.int .i64 0) (.slice (some ⟨w5.heap.size + 1, 0, none⟩) 2 2)
              have hB56 := hB55.set3 (.int .i64 45) (.int .i64 0) (.slice (some ⟨w5.heap.size + 1, 0, none⟩) 2 2)
              have hRC6 := hRC5.fr gS (by simp; omega)
              have hF6 := ((hF.trans hf3).trans (g4.trans hf5)).over' gS (by simp; omega)
              have hr6 := hr5.fr gS (by simp; omega)
              have e6 : (((w5.setCell ⟨B5, 0, none⟩ (.int .i64 45)).setCell ⟨B5, 1, none⟩ (.int .i64 0)).setCell ⟨B5, 2, none⟩ (.slice (some ⟨w5.heap.size + 1, 0, none⟩) 2 2)).heap.size = w5.heap.size := by simp
              have tA := (((ht.fr hf3 (by simp; omega)).fr g4 (by simp; omega)).fr hf5 (by simp; omega)).fr gS (by simp)
              have tB := ((ht5.mono (S' := fun p => w.heap.size < p ∧ p ≠ B5) (fun p hp hlt => ⟨by simp at hp; omega, by simp at hp; omega⟩)).fr gS (by simp))
              generalize ((w5.setCell ⟨B5, 0, none⟩ (.int .i64 45)).setCell ⟨B5, 1, none⟩ (.int .i64 0)).setCell ⟨B5, 2, none⟩ (.slice (some ⟨w5.heap.size + 1, 0, none⟩) 2 2) = w6 at *
              rw [drop_len, drop_len] at hsh
              refine ⟨?_, ?_⟩
              · repeat apply Exists.intro
                refine ⟨?_, rfl⟩
                refine ⟨45, 0, _, 2, 2, (hB56.fr (Fr.al (xs := []) _ _) (by simp)).fr (Fr.al (xs := []) _ _) (by simp), (hRC6.fr (Fr.al (xs := []) _ _) (by simp)).fr (Fr.al (xs := []) _ _) (by simp), hlB, (hF6.alloc _).alloc _, .inl ⟨k5, .two 45 t b2, hk5, ⟨w5.heap.size + 1, ⟨a, b, A, n, c⟩, ⟨a2, b2', A2, n2, c2⟩, ⟨by omega, by omega⟩, rfl, alloc_at (by simp [e6]), (tA.alloc _).alloc _, (tB.alloc _).alloc _⟩, (hr6.fr (Fr.al (xs := []) _ _) (by simp)).fr (Fr.al (xs := []) _ _) (by simp), ?_⟩⟩
                show R = _
                rw [HS.out]
                exact loop_fuel hS _ _ _ _ (by rw [drop_len]; omega) (by rw [drop_len]; omega)
              ·
                have r7 := (hr6.fr (Fr.al (xs := []) w6 (.cells #[.int .i64 a2, .int .i64 b2', .slice A2 n2 c2] 24)) (by simp)).fr (Fr.al (xs := []) _ (.cells #[.int .i64 a, .int .i64 b, .slice A n c, .int .i64 a2, .int .i64 b2', .slice A2 n2 c2] 24)) (by simp)
                rw [rowM_ok r7, rowM_ok hr]
                omega
        · simp at hmem
          rcases hmem with rfl | rfl | rfl
          · have hpk := rpeek_any hr hj
            rw [hv] at hpk
            simp only [pk] at hpk
            have HPK : Hid (Calls Tryz.prog 65 #[.pointer (some ⟨pb, 0, none⟩)] wr fun e w' => e = .returned (.int .i64 42) ∧ Rp w' pb s j dp 0 0 ∧ Fr [pb] wr w') := hpk
            clear hpk hv
            cases hR2 : P (s.data.toList.drop (j + 1)) with
            | bad pl er =>
              rw [hR2] at hst
              simp only at hst
              have HS := Lib.hid hst
              have HR2 := Lib.hid hR2
              clear hst hR2
              go_wp2_with (go_at_call 65; refine HPK.out.mono ?_; rintro e w3 ⟨rfl, hr3, hf3⟩; have q1 := hr3.c1; have q2 := hr3.fz 1; have q3 := hr3.lt; refine Hid.out ?_)
              refine Lib.hid ?_
              have hB53 := hB5.fr hf3 (by simp; omega)
              have hRC3 := hRC.fr hf3 (by simp; omega)
              have l3 := hB53.lt
              have g4 : Fr [pb] w3 (w3.setCell ⟨pb, 1, none⟩ (.int .i64 ((j : Int) + 1))) := (Fr.refl _ _).setCell (.inl (by simp)) _
              have hr4 : Rp (w3.setCell ⟨pb, 1, none⟩ (.int .i64 ((j : Int) + 1))) pb s (j + 1) dp 0 0 := by have := hr3.set1 (j + 1); push_cast at this; exact this
              have co2 : Calls Tryz.prog 104 #[.pointer (some ⟨pb, 0, none⟩), .int .i64 4] (w3.setCell ⟨pb, 1, none⟩ (.int .i64 ((j : Int) + 1))) (OutT pb s dp (w3.setCell ⟨pb, 1, none⟩ (.int .i64 ((j : Int) + 1))) (P (s.data.toList.drop (j + 1)))) := hP _ pb (j + 1) dp s hr4 hj1 hs hd
              rw [HR2.out] at co2
              have hB54 := hB53.fr g4 (by simp; omega)
              have hRC4 := hRC3.fr g4 (by simp; omega)
              go_wp2_with (go_at_call 104; refine co2.mono ?_; rintro e w5 ⟨a2, b2', A2, n2, c2, k5, dp5, rfl, hr5, he5, hd5, hd6, hk5, hf5⟩; have hB55 := hB54.fr hf5 (by simp; omega); have hRC5 := hRC4.fr hf5 (by simp; omega); have x0 := hB55.c0; have x1 := hB55.c1; have x2 := hB55.c2; have y0 := hB55.fz 0; have y1 := hB55.fz 1; have y2 := hB55.fz 2; have l5 := hB55.lt; have p5 := hr5.lt)
              have hs5 := hf5.size
              simp at hs5
              have gS := Fr.set3 w5 B5 (.int .i64 42) (.int .i64 0) (.slice (some ⟨w5.heap.size + 1, 0, none⟩) 2 2)
              have hB56 := hB55.set3 (.int .i64 42) (.int .i64 0) (.slice (some ⟨w5.heap.size + 1, 0, none⟩) 2 2)
              have hRC6 := hRC5.fr gS (by simp; omega)
              have hF6 := ((hF.trans hf3).trans (g4.trans hf5)).over' gS (by simp; omega)
              have hr6 := hr5.fr gS (by simp; omega)
              have e6 : (((w5.setCell ⟨B5, 0, none⟩ (.int .i64 42)).setCell ⟨B5, 1, none⟩ (.int .i64 0)).setCell ⟨B5, 2, none⟩ (.slice (some ⟨w5.heap.size + 1, 0, none⟩) 2 2)).heap.size = w5.heap.size := by simp
              generalize ((w5.setCell ⟨B5, 0, none⟩ (.int .i64 42)).setCell ⟨B5, 1, none⟩ (.int .i64 0)).setCell ⟨B5, 2, none⟩ (.slice (some ⟨w5.heap.size + 1, 0, none⟩) 2 2) = w6 at *
              refine ⟨?_, ?_⟩
              · repeat apply Exists.intro
                refine ⟨?_, rfl⟩
                exact ⟨42, 0, _, 2, 2, (hB56.fr (Fr.al (xs := []) _ _) (by simp)).fr (Fr.al (xs := []) _ _) (by simp), (hRC6.fr (Fr.al (xs := []) _ _) (by simp)).fr (Fr.al (xs := []) _ _) (by simp), hlB, (hF6.alloc _).alloc _, .inr ⟨k5, dp5, pl, er, (hr6.fr (Fr.al (xs := []) _ _) (by simp)).fr (Fr.al (xs := []) _ _) (by simp), he5, hd5, hd6, hk5, HS.out⟩⟩
              ·
                have r7 := (hr6.fr (Fr.al (xs := []) w6 (.cells #[.int .i64 a2, .int .i64 b2', .slice A2 n2 c2] 24)) (by simp)).fr (Fr.al (xs := []) _ (.cells #[.int .i64 a, .int .i64 b, .slice A n c, .int .i64 a2, .int .i64 b2', .slice A2 n2 c2] 24)) (by simp)
                rw [rowM_bad r7 he5, rowM_ok hr]
                omega
            | ok b2 v2 =>
              rw [hR2] at hst
              simp only at hst
              have hsh := hS _ _ _ hR2
              have HS := Lib.hid hst
              have HR2 := Lib.hid hR2
              clear hst hR2
              go_wp2_with (go_at_call 65; refine HPK.out.mono ?_; rintro e w3 ⟨rfl, hr3, hf3⟩; have q1 := hr3.c1; have q2 := hr3.fz 1; have q3 := hr3.lt; refine Hid.out ?_)
              refine Lib.hid ?_
              have hB53 := hB5.fr hf3 (by simp; omega)
              have hRC3 := hRC.fr hf3 (by simp; omega)
              have l3 := hB53.lt
              have g4 : Fr [pb] w3 (w3.setCell ⟨pb, 1, none⟩ (.int .i64 ((j : Int) + 1))) := (Fr.refl _ _).setCell (.inl (by simp)) _
              have hr4 : Rp (w3.setCell ⟨pb, 1, none⟩ (.int .i64 ((j : Int) + 1))) pb s (j + 1) dp 0 0 := by have := hr3.set1 (j + 1); push_cast at this; exact this
              have co2 : Calls Tryz.prog 104 #[.pointer (some ⟨pb, 0, none⟩), .int .i64 4] (w3.setCell ⟨pb, 1, none⟩ (.int .i64 ((j : Int) + 1))) (OutT pb s dp (w3.setCell ⟨pb, 1, none⟩ (.int .i64 ((j : Int) + 1))) (P (s.data.toList.drop (j + 1)))) := hP _ pb (j + 1) dp s hr4 hj1 hs hd
              rw [HR2.out] at co2
              have hB54 := hB53.fr g4 (by simp; omega)
              have hRC4 := hRC3.fr g4 (by simp; omega)
              have m0 := hr.c1
              go_wp2_with (go_at_call 104; refine co2.mono ?_; rintro e w5 ⟨a2, b2', A2, n2, c2, k5, rfl, ht5, hr5, hk5, rfl, hf5⟩; have hB55 := hB54.fr hf5 (by simp; omega); have hRC5 := hRC4.fr hf5 (by simp; omega); have x0 := hB55.c0; have x1 := hB55.c1; have x2 := hB55.c2; have y0 := hB55.fz 0; have y1 := hB55.fz 1; have y2 := hB55.fz 2; have l5 := hB55.lt; have p5 := hr5.lt)
              have hs5 := hf5.size
              simp at hs5
              have gS := Fr.set3 w5 B5 (.int .i64 42) (.int .i64 0) (.slice (some ⟨w5.heap.size + 1, 0, none⟩) 2 2)
              have hB56 := hB55.set3 (.int .i64 42) (.int .i64 0) (.slice (some ⟨w5.heap.size + 1, 0, none⟩) 2 2)
              have hRC6 := hRC5.fr gS (by simp; omega)
              have hF6 := ((hF.trans hf3).trans (g4.trans hf5)).over' gS (by simp; omega)
              have hr6 := hr5.fr gS (by simp; omega)
              have e6 : (((w5.setCell ⟨B5, 0, none⟩ (.int .i64 42)).setCell ⟨B5, 1, none⟩ (.int .i64 0)).setCell ⟨B5, 2, none⟩ (.slice (some ⟨w5.heap.size + 1, 0, none⟩) 2 2)).heap.size = w5.heap.size := by simp
              have tA := (((ht.fr hf3 (by simp; omega)).fr g4 (by simp; omega)).fr hf5 (by simp; omega)).fr gS (by simp)
              have tB := ((ht5.mono (S' := fun p => w.heap.size < p ∧ p ≠ B5) (fun p hp hlt => ⟨by simp at hp; omega, by simp at hp; omega⟩)).fr gS (by simp))
              generalize ((w5.setCell ⟨B5, 0, none⟩ (.int .i64 42)).setCell ⟨B5, 1, none⟩ (.int .i64 0)).setCell ⟨B5, 2, none⟩ (.slice (some ⟨w5.heap.size + 1, 0, none⟩) 2 2) = w6 at *
              rw [drop_len, drop_len] at hsh
              refine ⟨?_, ?_⟩
              · repeat apply Exists.intro
                refine ⟨?_, rfl⟩
                refine ⟨42, 0, _, 2, 2, (hB56.fr (Fr.al (xs := []) _ _) (by simp)).fr (Fr.al (xs := []) _ _) (by simp), (hRC6.fr (Fr.al (xs := []) _ _) (by simp)).fr (Fr.al (xs := []) _ _) (by simp), hlB, (hF6.alloc _).alloc _, .inl ⟨k5, .two 42 t b2, hk5, ⟨w5.heap.size + 1, ⟨a, b, A, n, c⟩, ⟨a2, b2', A2, n2, c2⟩, ⟨by omega, by omega⟩, rfl, alloc_at (by simp [e6]), (tA.alloc _).alloc _, (tB.alloc _).alloc _⟩, (hr6.fr (Fr.al (xs := []) _ _) (by simp)).fr (Fr.al (xs := []) _ _) (by simp), ?_⟩⟩
                show R = _
                rw [HS.out]
                exact loop_fuel hS _ _ _ _ (by rw [drop_len]; omega) (by rw [drop_len]; omega)
              ·
                have r7 := (hr6.fr (Fr.al (xs := []) w6 (.cells #[.int .i64 a2, .int .i64 b2', .slice A2 n2 c2] 24)) (by simp)).fr (Fr.al (xs := []) _ (.cells #[.int .i64 a, .int .i64 b, .slice A n c, .int .i64 a2, .int .i64 b2', .slice A2 n2 c2] 24)) (by simp)
                rw [rowM_ok r7, rowM_ok hr]
                omega
          · have hpk := rpeek_any hr hj
            rw [hv] at hpk
            simp only [pk] at hpk
            have HPK : Hid (Calls Tryz.prog 65 #[.pointer (some ⟨pb, 0, none⟩)] wr fun e w' => e = .returned (.int .i64 47) ∧ Rp w' pb s j dp 0 0 ∧ Fr [pb] wr w') := hpk
            clear hpk hv
            cases hR2 : P (s.data.toList.drop (j + 1)) with
            | bad pl er =>
              rw [hR2] at hst
              simp only at hst
              have HS := Lib.hid hst
              have HR2 := Lib.hid hR2
              clear hst hR2
              go_wp2_with (go_at_call 65; refine HPK.out.mono ?_; rintro e w3 ⟨rfl, hr3, hf3⟩; have q1 := hr3.c1; have q2 := hr3.fz 1; have q3 := hr3.lt; refine Hid.out ?_)
              refine Lib.hid ?_
              have hB53 := hB5.fr hf3 (by simp; omega)
              have hRC3 := hRC.fr hf3 (by simp; omega)
              have l3 := hB53.lt
              have g4 : Fr [pb] w3 (w3.setCell ⟨pb, 1, none⟩ (.int .i64 ((j : Int) + 1))) := (Fr.refl _ _).setCell (.inl (by simp)) _
              have hr4 : Rp (w3.setCell ⟨pb, 1, none⟩ (.int .i64 ((j : Int) + 1))) pb s (j + 1) dp 0 0 := by have := hr3.set1 (j + 1); push_cast at this; exact this
              have co2 : Calls Tryz.prog 104 #[.pointer (some ⟨pb, 0, none⟩), .int .i64 4] (w3.setCell ⟨pb, 1, none⟩ (.int .i64 ((j : Int) + 1))) (OutT pb s dp (w3.setCell ⟨pb, 1, none⟩ (.int .i64 ((j : Int) + 1))) (P (s.data.toList.drop (j + 1)))) := hP _ pb (j + 1) dp s hr4 hj1 hs hd
              rw [HR2.out] at co2
              have hB54 := hB53.fr g4 (by simp; omega)
              have hRC4 := hRC3.fr g4 (by simp; omega)
              go_wp2_with (go_at_call 104; refine co2.mono ?_; rintro e w5 ⟨a2, b2', A2, n2, c2, k5, dp5, rfl, hr5, he5, hd5, hd6, hk5, hf5⟩; have hB55 := hB54.fr hf5 (by simp; omega); have hRC5 := hRC4.fr hf5 (by simp; omega); have x0 := hB55.c0; have x1 := hB55.c1; have x2 := hB55.c2; have y0 := hB55.fz 0; have y1 := hB55.fz 1; have y2 := hB55.fz 2; have l5 := hB55.lt; have p5 := hr5.lt)
              have hs5 := hf5.size
              simp at hs5
              have gS := Fr.set3 w5 B5 (.int .i64 47) (.int .i64 0) (.slice (some ⟨w5.heap.size + 1, 0, none⟩) 2 2)
              have hB56 := hB55.set3 (.int .i64 47) (.int .i64 0) (.slice (some ⟨w5.heap.size + 1, 0, none⟩) 2 2)
              have hRC6 := hRC5.fr gS (by simp; omega)
              have hF6 := ((hF.trans hf3).trans (g4.trans hf5)).over' gS (by simp; omega)
              have hr6 := hr5.fr gS (by simp; omega)
              have e6 : (((w5.setCell ⟨B5, 0, none⟩ (.int .i64 47)).setCell ⟨B5, 1, none⟩ (.int .i64 0)).setCell ⟨B5, 2, none⟩ (.slice (some ⟨w5.heap.size + 1, 0, none⟩) 2 2)).heap.size = w5.heap.size := by simp
              generalize ((w5.setCell ⟨B5, 0, none⟩ (.int .i64 47)).setCell ⟨B5, 1, none⟩ (.int .i64 0)).setCell ⟨B5, 2, none⟩ (.slice (some ⟨w5.heap.size + 1, 0, none⟩) 2 2) = w6 at *
              refine ⟨?_, ?_⟩
              · repeat apply Exists.intro
                refine ⟨?_, rfl⟩
                exact ⟨47, 0, _, 2, 2, (hB56.fr (Fr.al (xs := []) _ _) (by simp)).fr (Fr.al (xs := []) _ _) (by simp), (hRC6.fr (Fr.al (xs := []) _ _) (by simp)).fr (Fr.al (xs := []) _ _) (by simp), hlB, (hF6.alloc _).alloc _, .inr ⟨k5, dp5, pl, er, (hr6.fr (Fr.al (xs := []) _ _) (by simp)).fr (Fr.al (xs := []) _ _) (by simp), he5, hd5, hd6, hk5, HS.out⟩⟩
              ·
                have r7 := (hr6.fr (Fr.al (xs := []) w6 (.cells #[.int .i64 a2, .int .i64 b2', .slice A2 n2 c2] 24)) (by simp)).fr (Fr.al (xs := []) _ (.cells #[.int .i64 a, .int .i64 b, .slice A n c, .int .i64 a2, .int .i64 b2', .slice A2 n2 c2] 24)) (by simp)
                rw [rowM_bad r7 he5, rowM_ok hr]
                omega
            | ok b2 v2 =>
              rw [hR2] at hst
              simp only at hst
              have hsh := hS _ _ _ hR2
              have HS := Lib.hid hst
              have HR2 := Lib.hid hR2
              clear hst hR2
              go_wp2_with (go_at_call 65; refine HPK.out.mono ?_; rintro e w3 ⟨rfl, hr3, hf3⟩; have q1 := hr3.c1; have q2 := hr3.fz 1; have q3 := hr3.lt; refine Hid.out ?_)
              refine Lib.hid ?_
              have hB53 := hB5.fr hf3 (by simp; omega)
              have hRC3 := hRC.fr hf3 (by simp; omega)
              have l3 := hB53.lt
              have g4 : Fr [pb] w3 (w3.setCell ⟨pb, 1, none⟩ (.int .i64 ((j : Int) + 1))) := (Fr.refl _ _).setCell (.inl (by simp)) _
              have hr4 : Rp (w3.setCell ⟨pb, 1, none⟩ (.int .i64 ((j : Int) + 1))) pb s (j + 1) dp 0 0 := by have := hr3.set1 (j + 1); push_cast at this; exact this
              have co2 : Calls Tryz.prog 104 #[.pointer (some ⟨pb, 0, none⟩), .int .i64 4] (w3.setCell ⟨pb, 1, none⟩ (.int .i64 ((j : Int) + 1))) (OutT pb s dp (w3.setCell ⟨pb, 1, none⟩ (.int .i64 ((j : Int) + 1))) (P (s.data.toList.drop (j + 1)))) := hP _ pb (j + 1) dp s hr4 hj1 hs hd
              rw [HR2.out] at co2
              have hB54 := hB53.fr g4 (by simp; omega)
              have hRC4 := hRC3.fr g4 (by simp; omega)
              have m0 := hr.c1
              go_wp2_with (go_at_call 104; refine co2.mono ?_; rintro e w5 ⟨a2, b2', A2, n2, c2, k5, rfl, ht5, hr5, hk5, rfl, hf5⟩; have hB55 := hB54.fr hf5 (by simp; omega); have hRC5 := hRC4.fr hf5 (by simp; omega); have x0 := hB55.c0; have x1 := hB55.c1; have x2 := hB55.c2; have y0 := hB55.fz 0; have y1 := hB55.fz 1; have y2 := hB55.fz 2; have l5 := hB55.lt; have p5 := hr5.lt)
              have hs5 := hf5.size
              simp at hs5
              have gS := Fr.set3 w5 B5 (.int .i64 47) (.int .i64 0) (.slice (some ⟨w5.heap.size + 1, 0, none⟩) 2 2)
              have hB56 := hB55.set3 (.int .i64 47) (.int .i64 0) (.slice (some ⟨w5.heap.size + 1, 0, none⟩) 2 2)
              have hRC6 := hRC5.fr gS (by simp; omega)
              have hF6 := ((hF.trans hf3).trans (g4.trans hf5)).over' gS (by simp; omega)
              have hr6 := hr5.fr gS (by simp; omega)
              have e6 : (((w5.setCell ⟨B5, 0, none⟩ (.int .i64 47)).setCell ⟨B5, 1, none⟩ (.int .i64 0)).setCell ⟨B5, 2, none⟩ (.slice (some ⟨w5.heap.size + 1, 0, none⟩) 2 2)).heap.size = w5.heap.size := by simp
              have tA := (((ht.fr hf3 (by simp; omega)).fr g4 (by simp; omega)).fr hf5 (by simp; omega)).fr gS (by simp)
              have tB := ((ht5.mono (S' := fun p => w.heap.size < p ∧ p ≠ B5) (fun p hp hlt => ⟨by simp at hp; omega, by simp at hp; omega⟩)).fr gS (by simp))
              generalize ((w5.setCell ⟨B5, 0, none⟩ (.int .i64 47)).setCell ⟨B5, 1, none⟩ (.int .i64 0)).setCell ⟨B5, 2, none⟩ (.slice (some ⟨w5.heap.size + 1, 0, none⟩) 2 2) = w6 at *
              rw [drop_len, drop_len] at hsh
              refine ⟨?_, ?_⟩
              · repeat apply Exists.intro
                refine ⟨?_, rfl⟩
                refine ⟨47, 0, _, 2, 2, (hB56.fr (Fr.al (xs := []) _ _) (by simp)).fr (Fr.al (xs := []) _ _) (by simp), (hRC6.fr (Fr.al (xs := []) _ _) (by simp)).fr (Fr.al (xs := []) _ _) (by simp), hlB, (hF6.alloc _).alloc _, .inl ⟨k5, .two 47 t b2, hk5, ⟨w5.heap.size + 1, ⟨a, b, A, n, c⟩, ⟨a2, b2', A2, n2, c2⟩, ⟨by omega, by omega⟩, rfl, alloc_at (by simp [e6]), (tA.alloc _).alloc _, (tB.alloc _).alloc _⟩, (hr6.fr (Fr.al (xs := []) _ _) (by simp)).fr (Fr.al (xs := []) _ _) (by simp), ?_⟩⟩
                show R = _
                rw [HS.out]
                exact loop_fuel hS _ _ _ _ (by rw [drop_len]; omega) (by rw [drop_len]; omega)
              ·
                have r7 := (hr6.fr (Fr.al (xs := []) w6 (.cells #[.int .i64 a2, .int .i64 b2', .slice A2 n2 c2] 24)) (by simp)).fr (Fr.al (xs := []) _ (.cells #[.int .i64 a, .int .i64 b, .slice A n c, .int .i64 a2, .int .i64 b2', .slice A2 n2 c2] 24)) (by simp)
                rw [rowM_ok r7, rowM_ok hr]
                omega
          · have hpk := rpeek_any hr hj
            rw [hv] at hpk
            simp only [pk] at hpk
            have HPK : Hid (Calls Tryz.prog 65 #[.pointer (some ⟨pb, 0, none⟩)] wr fun e w' => e = .returned (.int .i64 37) ∧ Rp w' pb s j dp 0 0 ∧ Fr [pb] wr w') := hpk
            clear hpk hv
            cases hR2 : P (s.data.toList.drop (j + 1)) with
            | bad pl er =>
              rw [hR2] at hst
              simp only at hst
              have HS := Lib.hid hst
              have HR2 := Lib.hid hR2
              clear hst hR2
              go_wp2_with (go_at_call 65; refine HPK.out.mono ?_; rintro e w3 ⟨rfl, hr3, hf3⟩; have q1 := hr3.c1; have q2 := hr3.fz 1; have q3 := hr3.lt; refine Hid.out ?_)
              refine Lib.hid ?_
              have hB53 := hB5.fr hf3 (by simp; omega)
              have hRC3 := hRC.fr hf3 (by simp; omega)
              have l3 := hB53.lt
              have g4 : Fr [pb] w3 (w3.setCell ⟨pb, 1, none⟩ (.int .i64 ((j : Int) + 1))) := (Fr.refl _ _).setCell (.inl (by simp)) _
              have hr4 : Rp (w3.setCell ⟨pb, 1, none⟩ (.int .i64 ((j : Int) + 1))) pb s (j + 1) dp 0 0 := by have := hr3.set1 (j + 1); push_cast at this; exact this
              have co2 : Calls Tryz.prog 104 #[.pointer (some ⟨pb, 0, none⟩), .int .i64 4] (w3.setCell ⟨pb, 1, none⟩ (.int .i64 ((j : Int) + 1))) (OutT pb s dp (w3.setCell ⟨pb, 1, none⟩ (.int .i64 ((j : Int) + 1))) (P (s.data.toList.drop (j + 1)))) := hP _ pb (j + 1) dp s hr4 hj1 hs hd
              rw [HR2.out] at co2
              have hB54 := hB53.fr g4 (by simp; omega)
              have hRC4 := hRC3.fr g4 (by simp; omega)
              go_wp2_with (go_at_call 104; refine co2.mono ?_; rintro e w5 ⟨a2, b2', A2, n2, c2, k5, dp5, rfl, hr5, he5, hd5, hd6, hk5, hf5⟩; have hB55 := hB54.fr hf5 (by simp; omega); have hRC5 := hRC4.fr hf5 (by simp; omega); have x0 := hB55.c0; have x1 := hB55.c1; have x2 := hB55.c2; have y0 := hB55.fz 0; have y1 := hB55.fz 1; have y2 := hB55.fz 2; have l5 := hB55.lt; have p5 := hr5.lt)
              have hs5 := hf5.size
              simp at hs5
              have gS := Fr.set3 w5 B5 (.int .i64 37) (.int .i64 0) (.slice (some ⟨w5.heap.size + 1, 0, none⟩) 2 2)
              have hB56 := hB55.set3 (.int .i64 37) (.int .i64 0) (.slice (some ⟨w5.heap.size + 1, 0, none⟩) 2 2)
              have hRC6 := hRC5.fr gS (by simp; omega)
              have hF6 := ((hF.trans hf3).trans (g4.trans hf5)).over' gS (by simp; omega)
              have hr6 := hr5.fr gS (by simp; omega)
              have e6 : (((w5.setCell ⟨B5, 0, none⟩ (.int .i64 37)).setCell ⟨B5, 1, none⟩ (.int .i64 0)).setCell ⟨B5, 2, none⟩ (.slice (some ⟨w5.heap.size + 1, 0, none⟩) 2 2)).heap.size = w5.heap.size := by simp
              generalize ((w5.setCell ⟨B5, 0, none⟩ (.int .i64 37)).setCell ⟨B5, 1, none⟩ (.int .i64 0)).setCell ⟨B5, 2, none⟩ (.slice (some ⟨w5.heap.size + 1, 0, none⟩) 2 2) = w6 at *
              refine ⟨?_, ?_⟩
              · repeat apply Exists.intro
                refine ⟨?_, rfl⟩
                exact ⟨37, 0, _, 2, 2, (hB56.fr (Fr.al (xs := []) _ _) (by simp)).fr (Fr.al (xs := []) _ _) (by simp), (hRC6.fr (Fr.al (xs := []) _ _) (by simp)).fr (Fr.al (xs := []) _ _) (by simp), hlB, (hF6.alloc _).alloc _, .inr ⟨k5, dp5, pl, er, (hr6.fr (Fr.al (xs := []) _ _) (by simp)).fr (Fr.al (xs := []) _ _) (by simp), he5, hd5, hd6, hk5, HS.out⟩⟩
              ·
                have r7 := (hr6.fr (Fr.al (xs := []) w6 (.cells #[.int .i64 a2, .int .i64 b2', .slice A2 n2 c2] 24)) (by simp)).fr (Fr.al (xs := []) _ (.cells #[.int .i64 a, .int .i64 b, .slice A n c, .int .i64 a2, .int .i64 b2', .slice A2 n2 c2] 24)) (by simp)
                rw [rowM_bad r7 he5, rowM_ok hr]
                omega
            | ok b2 v2 =>
              rw [hR2] at hst
              simp only at hst
              have hsh := hS _ _ _ hR2
              have HS := Lib.hid hst
              have HR2 := Lib.hid hR2
              clear hst hR2
              go_wp2_with (go_at_call 65; refine HPK.out.mono ?_; rintro e w3 ⟨rfl, hr3, hf3⟩; have q1 := hr3.c1; have q2 := hr3.fz 1; have q3 := hr3.lt; refine Hid.out ?_)
              refine Lib.hid ?_
              have hB53 := hB5.fr hf3 (by simp; omega)
              have hRC3 := hRC.fr hf3 (by simp; omega)
              have l3 := hB53.lt
              have g4 : Fr [pb] w3 (w3.setCell ⟨pb, 1, none⟩ (.int .i64 ((j : Int) + 1))) := (Fr.refl _ _).setCell (.inl (by simp)) _
              have hr4 : Rp (w3.setCell ⟨pb, 1, none⟩ (.int .i64 ((j : Int) + 1))) pb s (j + 1) dp 0 0 := by have := hr3.set1 (j + 1); push_cast at this; exact this
              have co2 : Calls Tryz.prog 104 #[.pointer (some ⟨pb, 0, none⟩), .int .i64 4] (w3.setCell ⟨pb, 1, none⟩ (.int .i64 ((j : Int) + 1))) (OutT pb s dp (w3.setCell ⟨pb, 1, none⟩ (.int .i64 ((j : Int) + 1))) (P (s.data.toList.drop (j + 1)))) := hP _ pb (j + 1) dp s hr4 hj1 hs hd
              rw [HR2.out] at co2
              have hB54 := hB53.fr g4 (by simp; omega)
              have hRC4 := hRC3.fr g4 (by simp; omega)
              have m0 := hr.c1
              go_wp2_with (go_at_call 104; refine co2.mono ?_; rintro e w5 ⟨a2, b2', A2, n2, c2, k5, rfl, ht5, hr5, hk5, rfl, hf5⟩; have hB55 := hB54.fr hf5 (by simp; omega); have hRC5 := hRC4.fr hf5 (by simp; omega); have x0 := hB55.c0; have x1 := hB55.c1; have x2 := hB55.c2; have y0 := hB55.fz 0; have y1 := hB55.fz 1; have y2 := hB55.fz 2; have l5 := hB55.lt; have p5 := hr5.lt)
              have hs5 := hf5.size
              simp at hs5
              have gS := Fr.set3 w5 B5 (.int .i64 37) (.int .i64 0) (.slice (some ⟨w5.heap.size + 1, 0, none⟩) 2 2)
              have hB56 := hB55.set3 (.int .i64 37) (.int .i64 0) (.slice (some ⟨w5.heap.size + 1, 0, none⟩) 2 2)
              have hRC6 := hRC5.fr gS (by simp; omega)
              have hF6 := ((hF.trans hf3).trans (g4.trans hf5)).over' gS (by simp; omega)
              have hr6 := hr5.fr gS (by simp; omega)
              have e6 : (((w5.setCell ⟨B5, 0, none⟩ (.int .i64 37)).setCell ⟨B5, 1, none⟩ (.int .i64 0)).setCell ⟨B5, 2, none⟩ (.slice (some ⟨w5.heap.size + 1, 0, none⟩) 2 2)).heap.size = w5.heap.size := by simp
              have tA := (((ht.fr hf3 (by simp; omega)).fr g4 (by simp; omega)).fr hf5 (by simp; omega)).fr gS (by simp)
              have tB := ((ht5.mono (S' := fun p => w.heap.size < p ∧ p ≠ B5) (fun p hp hlt => ⟨by simp at hp; omega, by simp at hp; omega⟩)).fr gS (by simp))
              generalize ((w5.setCell ⟨B5, 0, none⟩ (.int .i64 37)).setCell ⟨B5, 1, none⟩ (.int .i64 0)).setCell ⟨B5, 2, none⟩ (.slice (some ⟨w5.heap.size + 1, 0, none⟩) 2 2) = w6 at *
              rw [drop_len, drop_len] at hsh
              refine ⟨?_, ?_⟩
              · repeat apply Exists.intro
                refine ⟨?_, rfl⟩
                refine ⟨37, 0, _, 2, 2, (hB56.fr (Fr.al (xs := []) _ _) (by simp)).fr (Fr.al (xs := []) _ _) (by simp), (hRC6.fr (Fr.al (xs := []) _ _) (by simp)).fr (Fr.al (xs := []) _ _) (by simp), hlB, (hF6.alloc _).alloc _, .inl ⟨k5, .two 37 t b2, hk5, ⟨w5.heap.size + 1, ⟨a, b, A, n, c⟩, ⟨a2, b2', A2, n2, c2⟩, ⟨by omega, by omega⟩, rfl, alloc_at (by simp [e6]), (tA.alloc _).alloc _, (tB.alloc _).alloc _⟩, (hr6.fr (Fr.al (xs := []) _ _) (by simp)).fr (Fr.al (xs := []) _ _) (by simp), ?_⟩⟩
                show R = _
                rw [HS.out]
                exact loop_fuel hS _ _ _ _ (by rw [drop_len]; omega) (by rw [drop_len]; omega)
              ·
                have r7 := (hr6.fr (Fr.al (xs := []) w6 (.cells #[.int .i64 a2, .int .i64 b2', .slice A2 n2 c2] 24)) (by simp)).fr (Fr.al (xs := []) _ (.cells #[.int .i64 a, .int .i64 b, .slice A n c, .int .i64 a2, .int .i64 b2', .slice A2 n2 c2] 24)) (by simp)
                rw [rowM_ok r7, rowM_ok hr]
                omega
    · have b4 := hr.c4
      have hne : ((er : Int) == 0) = false := beq_eq_false_iff_ne.2 (by omega)
      go_wp2_with fail
      refine retT rowRes rfl (hRC.set3 _ _ _) ?_
      rw [HB.out]
      have f := Fr.set3 wr w.heap.size (.int .i64 a) (.int .i64 b) (.slice A n c)
      exact ⟨a, b, A, n, c, j, dp', rfl, hr.fr f (by simp; omega), he, hd1, hd2, hj, hF.over' f (by simp)⟩
end Go.Proofs.YthadeccnibnioaaGreatDoor
