/- The document's reader: a whole expression. -/
import Derived.Test.YthadeccnibnioaaGreatDoorSh
namespace Go.Proofs.YthadeccnibnioaaGreatDoor
open Go.RowKit

def WhOK (d : Nat) : Prop := ∀ (w : World) (pb k dp : Nat) (s : ByteArray), Rp w pb s k dp 0 0 → k ≤ s.size → s.size ≤ 120 → dp + d = 20 → Calls Tryz.prog 30 #[.pointer (some ⟨pb, 0, none⟩)] w (OutT pb s dp w (chP d (s.data.toList.drop k)))
theorem whRes : Tryz.f30.results = #[.cell 2 24] := by kernel_rfl
theorem pk_ne {v : List UInt8} {c : UInt8} (h : ¬ v.head? = some c) (h0 : c ≠ 0) : ((pk v : Int) == (c.toNat : Int)) = false := by
  refine beq_eq_false_iff_ne.2 (fun e => ?_)
  have e2 : pk v = c.toNat := by omega
  cases v with
  | nil => exact h0 (UInt8.toNat_inj.1 (by rw [← e2]; rfl))
  | cons c0 r0 =>
    have e3 : c0 = c := UInt8.toNat_inj.1 e2
    subst e3
    exact h rfl
theorem pk_at {v : List UInt8} {c : UInt8} (h : v.head? = some c) : pk v = c.toNat := by
  cases v with
  | nil => simp at h
  | cons c0 r0 => simp at h; subst h; rfl

set_option maxHeartbeats 4000000 in
theorem wh_bad {d : Nat} (hP : CmpOK d) {w : World} {pb k dp pl er : Nat} {s : ByteArray} (h : Rp w pb s k dp 0 0) (hk : k ≤ s.size) (hs : s.size ≤ 120) (hd : dp + d = 20) (hres : cpP d (s.data.toList.drop k) = .bad pl er) :
    Calls Tryz.prog 30 #[.pointer (some ⟨pb, 0, none⟩)] w (OutT pb s dp w (chP d (s.data.toList.drop k))) := by
  have hA : Rp (w.alloc (.cells tz 24)) pb s k dp 0 0 := h.fr (xs := []) ((Fr.refl _ _).alloc _) (by simp)
  have hR : RC (w.alloc (.cells tz 24)) w.heap.size (.int .i64 0) (.int .i64 0) (.slice none 0 0) := RC.new w
  have hpl := h.lt
  have co := hP _ pb k dp s hA hk hs hd
  have hch : chP d (s.data.toList.drop k) = .bad pl er := by rw [chP_eq, choF, hres]
  rw [hch]
  rw [hres] at co
  clear hres hch
  · go_enter Tryz.func30, Tryz.ntmps30
    go_wp2_with (go_at_call 64; refine co.mono ?_; rintro e w2 ⟨a, b, A, n, c, k2, dp2, rfl, hr2, he2, hd2, hd3, hk2, hf2⟩; have p2 := hr2.lt; have q2 := hr2.c1)
    have hs2 := hf2.size
    simp at hs2
    have hR2 := hR.fr hf2 (by simp; omega)
    have l2 := hR2.lt
    have hB3 : RC (w2.alloc (.cells #[.int .i64 a, .int .i64 b, .slice A n c] 24)) w2.heap.size (.int .i64 a) (.int .i64 b) (.slice A n c) := RC.new w2
    have hR3 := hR2.fr (Fr.al (xs := []) w2 (.cells #[.int .i64 a, .int .i64 b, .slice A n c] 24)) (by simp)
    have hr3 := hr2.fr (Fr.al (xs := []) w2 (.cells #[.int .i64 a, .int .i64 b, .slice A n c] 24)) (by simp)
    have F3 := ((Fr.al (xs := [pb]) w (.cells tz 24)).trans hf2).alloc (.cells #[.int .i64 a, .int .i64 b, .slice A n c] 24)
    generalize w2.alloc (.cells #[.int .i64 a, .int .i64 b, .slice A n c] 24) = w3 at *
    generalize w2.heap.size = B3 at *
    clear co
    have hne : ((er : Int) != 0) = true := by simp; omega
    refine (rpeek_any hr3 hk2).mono ?_
    rintro e w4 ⟨rfl, hr4, hf4⟩
    have hB4 := hB3.fr hf4 (by simp; omega)
    have hR4 := hR3.fr hf4 (by simp; omega)
    have b4 := hr4.c4
    have x0 := hB4.c0
    have x1 := hB4.c1
    have x2 := hB4.c2
    have z0 := hR4.c0
    have z1 := hR4.c1
    have z2 := hR4.c2
    have y0 := hR4.fz 0
    have y1 := hR4.fz 1
    have y2 := hR4.fz 2
    go_wp2_with fail
    refine retT whRes rfl (hR4.set3 _ _ _) ?_
    have f := Fr.set3 w4 w.heap.size (.int .i64 a) (.int .i64 b) (.slice A n c)
    exact ⟨a, b, A, n, c, k2, dp2, rfl, hr4.fr f (by simp; omega), he2, hd2, hd3, hk2, (F3.trans hf4).over' f (by simp)⟩

set_option maxHeartbeats 4000000 in
theorem wh_plain {d : Nat} (hP : CmpOK d) {w : World} {pb k dp : Nat} {s : ByteArray} {t : Tm} {v : List UInt8} (h : Rp w pb s k dp 0 0) (hk : k ≤ s.size) (hs : s.size ≤ 120) (hd : dp + d = 20) (hres : cpP d (s.data.toList.drop k) = .ok t v) (hv : ¬ v.head? = some 63) :
    Calls Tryz.prog 30 #[.pointer (some ⟨pb, 0, none⟩)] w (OutT pb s dp w (chP d (s.data.toList.drop k))) := by
  have hA : Rp (w.alloc (.cells tz 24)) pb s k dp 0 0 := h.fr (xs := []) ((Fr.refl _ _).alloc _) (by simp)
  have hR : RC (w.alloc (.cells tz 24)) w.heap.size (.int .i64 0) (.int .i64 0) (.slice none 0 0) := RC.new w
  have hpl := h.lt
  have co := hP _ pb k dp s hA hk hs hd
  have hch : chP d (s.data.toList.drop k) = .ok t v := by rw [chP_eq, choF, hres]; simp only; rw [if_neg hv]
  rw [hch]
  rw [hres] at co
  clear hres hch
  · go_enter Tryz.func30, Tryz.ntmps30
    go_wp2_with (go_at_call 64; refine co.mono ?_; rintro e w2 ⟨a, b, A, n, c, k2, rfl, ht2, hr2, hk2, rfl, hf2⟩; have p2 := hr2.lt; have q2 := hr2.c1)
    have hs2 := hf2.size
    simp at hs2 ht2
    have hR2 := hR.fr hf2 (by simp; omega)
    have l2 := hR2.lt
    have hB3 : RC (w2.alloc (.cells #[.int .i64 a, .int .i64 b, .slice A n c] 24)) w2.heap.size (.int .i64 a) (.int .i64 b) (.slice A n c) := RC.new w2
    have hR3 := hR2.fr (Fr.al (xs := []) w2 (.cells #[.int .i64 a, .int .i64 b, .slice A n c] 24)) (by simp)
    have hr3 := hr2.fr (Fr.al (xs := []) w2 (.cells #[.int .i64 a, .int .i64 b, .slice A n c] 24)) (by simp)
    have ht3 := (ht2.mono (S' := fun p => w.heap.size < p) (fun p hp _ => by omega)).alloc (.cells #[.int .i64 a, .int .i64 b, .slice A n c] 24)
    have F3 := ((Fr.al (xs := [pb]) w (.cells tz 24)).trans hf2).alloc (.cells #[.int .i64 a, .int .i64 b, .slice A n c] 24)
    generalize w2.alloc (.cells #[.int .i64 a, .int .i64 b, .slice A n c] 24) = w3 at *
    generalize w2.heap.size = B3 at *
    clear co
    have hpk := rpeek_any hr3 hk2
    have hno := pk_ne hv (by decide)
    generalize pk (s.data.toList.drop k2) = pkv at *
    have hno : ((pkv : Int) != 63) = true := by have : ((pkv : Int) == 63) = false := hno; simp at this; simp; omega
    refine hpk.mono ?_
    rintro e w4 ⟨rfl, hr4, hf4⟩
    have hB4 := hB3.fr hf4 (by simp; omega)
    have hR4 := hR3.fr hf4 (by simp; omega)
    have b4 := hr4.c4
    have x0 := hB4.c0
    have x1 := hB4.c1
    have x2 := hB4.c2
    have z0 := hR4.c0
    have z1 := hR4.c1
    have z2 := hR4.c2
    have y0 := hR4.fz 0
    have y1 := hR4.fz 1
    have y2 := hR4.fz 2
    go_wp2_with fail
    refine retT whRes rfl (hR4.set3 _ _ _) ?_
    have f := Fr.set3 w4 w.heap.size (.int .i64 a) (.int .i64 b) (.slice A n c)
    exact ⟨a, b, A, n, c, k2, rfl, ((ht3.fr hf4 (by simp; omega)).fr f (by simp)).mono (fun p hp _ => by omega), hr4.fr f (by simp; omega), hk2, rfl, (F3.trans hf4).over' f (by simp)⟩

set_option maxHeartbeats 4000000 in
theorem wh_full (hP : CmpOK 0) {w : World} {pb k dp : Nat} {s : ByteArray} {t : Tm} {v : List UInt8} (h : Rp w pb s k dp 0 0) (hk : k ≤ s.size) (hs : s.size ≤ 120) (hd : dp + 0 = 20) (hres : cpP 0 (s.data.toList.drop k) = .ok t v) (hv : v.head? = some 63) :
    Calls Tryz.prog 30 #[.pointer (some ⟨pb, 0, none⟩)] w (OutT pb s dp w (chP 0 (s.data.toList.drop k))) := by
  have hA : Rp (w.alloc (.cells tz 24)) pb s k dp 0 0 := h.fr (xs := []) ((Fr.refl _ _).alloc _) (by simp)
  have hR : RC (w.alloc (.cells tz 24)) w.heap.size (.int .i64 0) (.int .i64 0) (.slice none 0 0) := RC.new w
  have hpl := h.lt
  have co := hP _ pb k dp s hA hk hs hd
  have hch : chP 0 (s.data.toList.drop k) = .bad v.length 4 := by rw [chP_eq, choF, hres]; simp only; rw [if_pos hv, inCh_zero]
  rw [hch]
  rw [hres] at co
  clear hres hch
  have hd20 : dp = 20 := by omega
  · go_enter Tryz.func30, Tryz.ntmps30
    go_wp2_with (go_at_call 64; refine co.mono ?_; rintro e w2 ⟨a, b, A, n, c, k2, rfl, ht2, hr2, hk2, rfl, hf2⟩; have p2 := hr2.lt; have q2 := hr2.c1)
    have hs2 := hf2.size
    simp at hs2 ht2
    have hR2 := hR.fr hf2 (by simp; omega)
    have l2 := hR2.lt
    have hB3 : RC (w2.alloc (.cells #[.int .i64 a, .int .i64 b, .slice A n c] 24)) w2.heap.size (.int .i64 a) (.int .i64 b) (.slice A n c) := RC.new w2
    have hR3 := hR2.fr (Fr.al (xs := []) w2 (.cells #[.int .i64 a, .int .i64 b, .slice A n c] 24)) (by simp)
    have hr3 := hr2.fr (Fr.al (xs := []) w2 (.cells #[.int .i64 a, .int .i64 b, .slice A n c] 24)) (by simp)
    have ht3 := (ht2.mono (S' := fun p => w.heap.size < p) (fun p hp _ => by omega)).alloc (.cells #[.int .i64 a, .int .i64 b, .slice A n c] 24)
    have F3 := ((Fr.al (xs := [pb]) w (.cells tz 24)).trans hf2).alloc (.cells #[.int .i64 a, .int .i64 b, .slice A n c] 24)
    generalize w2.alloc (.cells #[.int .i64 a, .int .i64 b, .slice A n c] 24) = w3 at *
    generalize w2.heap.size = B3 at *
    clear co
    have hj1 : k2 + 1 ≤ s.size := head_le hv
    have hpk : Calls Tryz.prog 65 #[.pointer (some ⟨pb, 0, none⟩)] w3 fun e w' => e = .returned (.int .i64 63) ∧ Rp w' pb s k2 dp 0 0 ∧ Fr [pb] w3 w' := by have := rpeek_any hr3 hk2; rw [pk_at hv] at this; exact this
    refine hpk.mono ?_
    rintro e w4 ⟨rfl, hr4, hf4⟩
    have hB4 := hB3.fr hf4 (by simp; omega)
    have hR4 := hR3.fr hf4 (by simp; omega)
    have b4 := hr4.c4
    have u1 := hr4.c1
    have u2 := hr4.fz 1
    have u3 := hr4.lt
    have l4 := hB4.lt
    have g5 : Fr [pb] w4 (w4.setCell ⟨pb, 1, none⟩ (.int .i64 ((k2 : Int) + 1))) := (Fr.refl _ _).setCell (.inl (by simp)) _
    have hr5 : Rp (w4.setCell ⟨pb, 1, none⟩ (.int .i64 ((k2 : Int) + 1))) pb s (k2 + 1) dp 0 0 := by have := hr4.set1 (k2 + 1); push_cast at this; exact this
    have hB5 := hB4.fr g5 (by simp; omega)
    have hR5 := hR4.fr g5 (by simp; omega)
    clear hpk
    have HL := Lib.hid (len_drop (s := s) hk2)
    go_wp2_with (go_at_call 66; refine (rdown_no (show Rp _ pb s (k2 + 1) 20 0 0 from hd20 ▸ hr5) k2).mono ?_; rintro e w5 ⟨rfl, hr6, hf6⟩; have hB6 := hB5.fr hf6 (by simp; omega); have hR6 := hR5.fr hf6 (by simp; omega); have x0 := hB6.c0; have x1 := hB6.c1; have x2 := hB6.c2; have z0 := hR6.c0; have z1 := hR6.c1; have z2 := hR6.c2; have y0 := hR6.fz 0; have y1 := hR6.fz 1; have y2 := hR6.fz 2)
    refine retT whRes rfl (hR6.set3 _ _ _) ?_
    have f := Fr.set3 w5 w.heap.size (.int .i64 a) (.int .i64 b) (.slice A n c)
    exact ⟨a, b, A, n, c, k2 + 1, 20, rfl, by rw [HL.out]; exact hr6.fr f (by simp; omega), by decide, by omega, by omega, hj1, ((F3.trans hf4).trans (g5.trans hf6)).over' f (by simp)⟩

set_option maxHeartbeats 8000000 in
set_option maxRecDepth 100000 in
theorem wh_deep_bad1 {d : Nat} (hP : CmpOK (d + 1)) (ih : WhOK d) {w : World} {pb k dp : Nat} {s : ByteArray} {t : Tm} {v : List UInt8} (h : Rp w pb s k dp 0 0) (hk : k ≤ s.size) (hs : s.size ≤ 120) (hd : dp + (d + 1) = 20) (hres : cpP (d + 1) (s.data.toList.drop k) = .ok t v) (hv : v.head? = some 63) {pl er : Nat} (hr1 : chP d (v.drop 1) = .bad pl er) :
    Calls Tryz.prog 30 #[.pointer (some ⟨pb, 0, none⟩)] w (OutT pb s dp w (chP (d + 1) (s.data.toList.drop k))) := by
  have hA : Rp (w.alloc (.cells tz 24)) pb s k dp 0 0 := h.fr (xs := []) ((Fr.refl _ _).alloc _) (by simp)
  have hR : RC (w.alloc (.cells tz 24)) w.heap.size (.int .i64 0) (.int .i64 0) (.slice none 0 0) := RC.new w
  have hpl := h.lt
  have co := hP _ pb k dp s hA hk hs hd
  have hch : chP (d + 1) (s.data.toList.drop k) = .bad pl er := by rw [chP_eq, choF, hres]; simp only; rw [if_pos hv, inCh_succ]; rw [hr1]
  rw [hch]
  rw [hres] at co
  clear hres hch
  · go_enter Tryz.func30, Tryz.ntmps30
    go_wp2_with (go_at_call 64; refine co.mono ?_; rintro e w2 ⟨a, b, A, n, c, k2, rfl, ht2, hr2, hk2, rfl, hf2⟩; have p2 := hr2.lt; have q2 := hr2.c1)
    have hs2 := hf2.size
    simp at hs2 ht2
    have hR2 := hR.fr hf2 (by simp; omega)
    have l2 := hR2.lt
    have hB3 : RC (w2.alloc (.cells #[.int .i64 a, .int .i64 b, .slice A n c] 24)) w2.heap.size (.int .i64 a) (.int .i64 b) (.slice A n c) := RC.new w2
    have hR3 := hR2.fr (Fr.al (xs := []) w2 (.cells #[.int .i64 a, .int .i64 b, .slice A n c] 24)) (by simp)
    have hr3 := hr2.fr (Fr.al (xs := []) w2 (.cells #[.int .i64 a, .int .i64 b, .slice A n c] 24)) (by simp)
    have ht3 := (ht2.mono (S' := fun p => w.heap.size < p) (fun p hp _ => by omega)).alloc (.cells #[.int .i64 a, .int .i64 b, .slice A n c] 24)
    have F3 := ((Fr.al (xs := [pb]) w (.cells tz 24)).trans hf2).alloc (.cells #[.int .i64 a, .int .i64 b, .slice A n c] 24)
    generalize w2.alloc (.cells #[.int .i64 a, .int .i64 b, .slice A n c] 24) = w3 at *
    generalize w2.heap.size = B3 at *
    clear co
    have hj1 : k2 + 1 ≤ s.size := head_le hv
    have hpk : Calls Tryz.prog 65 #[.pointer (some ⟨pb, 0, none⟩)] w3 fun e w' => e = .returned (.int .i64 63) ∧ Rp w' pb s k2 dp 0 0 ∧ Fr [pb] w3 w' := by have := rpeek_any hr3 hk2; rw [pk_at hv] at this; exact this
    refine hpk.mono ?_
    rintro e w4 ⟨rfl, hr4, hf4⟩
    have hB4 := hB3.fr hf4 (by simp; omega)
    have hR4 := hR3.fr hf4 (by simp; omega)
    have b4 := hr4.c4
    have u1 := hr4.c1
    have u2 := hr4.fz 1
    have u3 := hr4.lt
    have l4 := hB4.lt
    have g5 : Fr [pb] w4 (w4.setCell ⟨pb, 1, none⟩ (.int .i64 ((k2 : Int) + 1))) := (Fr.refl _ _).setCell (.inl (by simp)) _
    have hr5 : Rp (w4.setCell ⟨pb, 1, none⟩ (.int .i64 ((k2 : Int) + 1))) pb s (k2 + 1) dp 0 0 := by have := hr4.set1 (k2 + 1); push_cast at this; exact this
    have hB5 := hB4.fr g5 (by simp; omega)
    have hR5 := hR4.fr g5 (by simp; omega)
    clear hpk
    have F5 := (F3.trans hf4).trans g5
    have ht5 := (ht3.fr hf4 (by simp; omega)).fr g5 (by simp; omega)
    have hdd : (s.data.toList.drop k2).drop 1 = s.data.toList.drop (k2 + 1) := drop_drop1 s k2
    rw [hdd] at hr1
    have HR1 := Lib.hid hr1
    clear hr1 hdd
    go_wp2_with (go_at_call 66; refine (rdown_yes hr5 (by omega) k2).mono ?_; rintro e w5 ⟨rfl, hr6, hf6⟩; refine Hid.out ?_)
    refine Lib.hid ?_
    have hB6 := hB5.fr hf6 (by simp; omega)
    have hR6 := hR5.fr hf6 (by simp; omega)
    have l6 := hB6.lt
    have co1 := ih w5 pb (k2 + 1) (dp + 1) s hr6 hj1 hs (by omega)
    rw [HR1.out] at co1
    go_wp2_with (go_at_call 30; refine co1.mono ?_; rintro e w7 ⟨a7, b7, A7, n7, c7, k7, dp7, rfl, hr7, he7, hd7, hd8, hk7, hf7⟩; obtain ⟨dq, rfl⟩ : ∃ dq, dp7 = dq + 1 := ⟨dp7 - 1, by omega⟩; have hn1 : ((er : Int) == 0) = false := beq_eq_false_iff_ne.2 (by omega); have hn2 : ((er : Int) != 0) = true := (by simp; omega); have hB7 := hB6.fr hf7 (by simp; omega); have hR7 := hR6.fr hf7 (by simp; omega); have b7' := hr7.c4; have d7 := hr7.c2; have e7 := hr7.fz 2; have k7' := hr7.c1; have p7 := hr7.lt; have l7 := hB7.lt; have r7 := hR7.lt; have x0 := hB7.c0; have x1 := hB7.c1; have x2 := hB7.c2; have z0 := hR7.c0; have z1 := hR7.c1; have z2 := hR7.c2; have y0 := hR7.fz 0; have y1 := hR7.fz 1; have y2 := hR7.fz 2)
    have g8 : Fr [pb] w7 (w7.setCell ⟨pb, 2, none⟩ (.int .i64 (dq : Int))) := (Fr.refl _ _).setCell (.inl (by simp)) _
    have g9 := Fr.set3 (w7.setCell ⟨pb, 2, none⟩ (.int .i64 (dq : Int))) w.heap.size (.int .i64 a) (.int .i64 b) (.slice A n c)
    have hRp := (hr7.set2 dq).fr g9 (by simp; omega)
    have hRC := (hR7.fr g8 (by simp; omega)).set3 (.int .i64 a) (.int .i64 b) (.slice A n c)
    have hF := (((F5.trans hf6).trans hf7).trans g8).over' g9 (by simp)
    generalize (((w7.setCell ⟨pb, 2, none⟩ (.int .i64 (dq : Int))).setCell ⟨w.heap.size, 0, none⟩ (.int .i64 a)).setCell ⟨w.heap.size, 1, none⟩ (.int .i64 b)).setCell ⟨w.heap.size, 2, none⟩ (.slice A n c) = w8 at *
    refine retT whRes rfl (hRC.fr (Fr.al (xs := []) _ _) (by simp)) ?_
    exact ⟨a, b, A, n, c, k7, dq, rfl, hRp.fr (Fr.al (xs := []) _ _) (by simp), he7, by omega, by omega, hk7, hF.alloc _⟩

set_option maxHeartbeats 8000000 in
set_option maxRecDepth 100000 in
theorem wh_deep_no {d : Nat} (hP : CmpOK (d + 1)) (ih : WhOK d) {w : World} {pb k dp : Nat} {s : ByteArray} {t : Tm} {v : List UInt8} (h : Rp w pb s k dp 0 0) (hk : k ≤ s.size) (hs : s.size ≤ 120) (hd : dp + (d + 1) = 20) (hres : cpP (d + 1) (s.data.toList.drop k) = .ok t v) (hv : v.head? = some 63) {tb : Tm} {v2 : List UInt8} (hr1 : chP d (v.drop 1) = .ok tb v2) (hc : ¬ v2.head? = some 58) :
    Calls Tryz.prog 30 #[.pointer (some ⟨pb, 0, none⟩)] w (OutT pb s dp w (chP (d + 1) (s.data.toList.drop k))) := by
  have hA : Rp (w.alloc (.cells tz 24)) pb s k dp 0 0 := h.fr (xs := []) ((Fr.refl _ _).alloc _) (by simp)
  have hR : RC (w.alloc (.cells tz 24)) w.heap.size (.int .i64 0) (.int .i64 0) (.slice none 0 0) := RC.new w
  have hpl := h.lt
  have co := hP _ pb k dp s hA hk hs hd
  have hch : chP (d + 1) (s.data.toList.drop k) = .bad v2.length 2 := by rw [chP_eq, choF, hres]; simp only; rw [if_pos hv, inCh_succ]; rw [hr1]; simp only; rw [if_neg hc]
  rw [hch]
  rw [hres] at co
  clear hres hch
  · go_enter Tryz.func30, Tryz.ntmps30
    go_wp2_with (go_at_call 64; refine co.mono ?_; rintro e w2 ⟨a, b, A, n, c, k2, rfl, ht2, hr2, hk2, rfl, hf2⟩; have p2 := hr2.lt; have q2 := hr2.c1)
    have hs2 := hf2.size
    simp at hs2 ht2
    have hR2 := hR.fr hf2 (by simp; omega)
    have l2 := hR2.lt
    have hB3 : RC (w2.alloc (.cells #[.int .i64 a, .int .i64 b, .slice A n c] 24)) w2.heap.size (.int .i64 a) (.int .i64 b) (.slice A n c) := RC.new w2
    have hR3 := hR2.fr (Fr.al (xs := []) w2 (.cells #[.int .i64 a, .int .i64 b, .slice A n c] 24)) (by simp)
    have hr3 := hr2.fr (Fr.al (xs := []) w2 (.cells #[.int .i64 a, .int .i64 b, .slice A n c] 24)) (by simp)
    have ht3 := (ht2.mono (S' := fun p => w.heap.size < p) (fun p hp _ => by omega)).alloc (.cells #[.int .i64 a, .int .i64 b, .slice A n c] 24)
    have F3 := ((Fr.al (xs := [pb]) w (.cells tz 24)).trans hf2).alloc (.cells #[.int .i64 a, .int .i64 b, .slice A n c] 24)
    generalize w2.alloc (.cells #[.int .i64 a, .int .i64 b, .slice A n c] 24) = w3 at *
    generalize w2.heap.size = B3 at *
    clear co
    have hj1 : k2 + 1 ≤ s.size := head_le hv
    have hpk : Calls Tryz.prog 65 #[.pointer (some ⟨pb, 0, none⟩)] w3 fun e w' => e = .returned (.int .i64 63) ∧ Rp w' pb s k2 dp 0 0 ∧ Fr [pb] w3 w' := by have := rpeek_any hr3 hk2; rw [pk_at hv] at this; exact this
    refine hpk.mono ?_
    rintro e w4 ⟨rfl, hr4, hf4⟩
    have hB4 := hB3.fr hf4 (by simp; omega)
    have hR4 := hR3.fr hf4 (by simp; omega)
    have b4 := hr4.c4
    have u1 := hr4.c1
    have u2 := hr4.fz 1
    have u3 := hr4.lt
    have l4 := hB4.lt
    have g5 : Fr [pb] w4 (w4.setCell ⟨pb, 1, none⟩ (.int .i64 ((k2 : Int) + 1))) := (Fr.refl _ _).setCell (.inl (by simp)) _
    have hr5 : Rp (w4.setCell ⟨pb, 1, none⟩ (.int .i64 ((k2 : Int) + 1))) pb s (k2 + 1) dp 0 0 := by have := hr4.set1 (k2 + 1); push_cast at this; exact this
    have hB5 := hB4.fr g5 (by simp; omega)
    have hR5 := hR4.fr g5 (by simp; omega)
    clear hpk
    have F5 := (F3.trans hf4).trans g5
    have ht5 := (ht3.fr hf4 (by simp; omega)).fr g5 (by simp; omega)
    have hdd : (s.data.toList.drop k2).drop 1 = s.data.toList.drop (k2 + 1) := drop_drop1 s k2
    rw [hdd] at hr1
    have HR1 := Lib.hid hr1
    clear hr1 hdd
    go_wp2_with (go_at_call 66; refine (rdown_yes hr5 (by omega) k2).mono ?_; rintro e w5 ⟨rfl, hr6, hf6⟩; refine Hid.out ?_)
    refine Lib.hid ?_
    have hB6 := hB5.fr hf6 (by simp; omega)
    have hR6 := hR5.fr hf6 (by simp; omega)
    have l6 := hB6.lt
    have co1 := ih w5 pb (k2 + 1) (dp + 1) s hr6 hj1 hs (by omega)
    rw [HR1.out] at co1
    go_wp2_with (go_at_call 30; refine co1.mono ?_; rintro e w7 ⟨a7, b7, A7, n7, c7, k7, rfl, ht7, hr7, hk7, rfl, hf7⟩; have hB7 := hB6.fr hf7 (by simp; omega); have hR7 := hR6.fr hf7 (by simp; omega); have b7' := hr7.c4; have d7 := hr7.c2; have e7 := hr7.fz 2; have k7' := hr7.c1; have p7 := hr7.lt; have l7 := hB7.lt; have r7 := hR7.lt; have x0 := hB7.c0; have x1 := hB7.c1; have x2 := hB7.c2; have z0 := hR7.c0; have z1 := hR7.c1; have z2 := hR7.c2; have y0 := hR7.fz 0; have y1 := hR7.fz 1; have y2 := hR7.fz 2)
    have g8 : Fr [pb] w7 (w7.setCell ⟨pb, 2, none⟩ (.int .i64 (dp : Int))) := (Fr.refl _ _).setCell (.inl (by simp)) _
    have hs7 := hf7.size
    have hs6 := hf6.size
    simp at hs6
    have e8 : (w7.setCell ⟨pb, 2, none⟩ (.int .i64 (dp : Int))).heap.size = w7.heap.size := by simp
    have hr8 := (hr7.set2 dp).fr (Fr.al (xs := []) _ (.cells #[.int .i64 a7, .int .i64 b7, .slice A7 n7 c7] 24)) (by simp)
    have hR8 := (hR7.fr g8 (by simp; omega)).fr (Fr.al (xs := []) _ (.cells #[.int .i64 a7, .int .i64 b7, .slice A7 n7 c7] 24)) (by simp)
    have hB8 := (hB7.fr g8 (by simp; omega)).fr (Fr.al (xs := []) _ (.cells #[.int .i64 a7, .int .i64 b7, .slice A7 n7 c7] 24)) (by simp)
    have hC8 : RC ((w7.setCell ⟨pb, 2, none⟩ (.int .i64 (dp : Int))).alloc (.cells #[.int .i64 a7, .int .i64 b7, .slice A7 n7 c7] 24)) w7.heap.size (.int .i64 a7) (.int .i64 b7) (.slice A7 n7 c7) := alloc_at e8.symm
    have tA8 := ((((ht5.fr hf6 (by simp; omega)).fr hf7 (by simp; omega)).fr g8 (by simp; omega))).alloc (.cells #[.int .i64 a7, .int .i64 b7, .slice A7 n7 c7] 24)
    have tB8 := (((ht7.mono (S' := fun p => w.heap.size < p) (fun p hp _ => by omega)).fr g8 (by simp; omega))).alloc (.cells #[.int .i64 a7, .int .i64 b7, .slice A7 n7 c7] 24)
    have F8 := (((F5.trans hf6).trans hf7).trans g8).alloc (.cells #[.int .i64 a7, .int .i64 b7, .slice A7 n7 c7] 24)
    have rl8 := hR7.lt
    generalize (w7.setCell ⟨pb, 2, none⟩ (.int .i64 (dp : Int))).alloc (.cells #[.int .i64 a7, .int .i64 b7, .slice A7 n7 c7] 24) = w8 at *
    generalize w7.heap.size = B7 at *
    clear x0 x1 x2 z0 z1 z2 y0 y1 y2 b7' d7 e7 k7'
    have hpre : ¬ (⟨#[58]⟩ : ByteArray).data.toList <+: s.data.toList.drop k7 := by
      intro hh; apply hc
      obtain ⟨t9, ht9⟩ := hh
      rw [← ht9]; rfl
    have HL := Lib.hid (len_drop (s := s) hk7)
    refine (rwant_no hr8 hk7 hs (by decide) hpre).mono ?_
    rintro e w9 ⟨rfl, hr9, hf9⟩
    have hB9 := hB8.fr hf9 (by simp; omega)
    have hR9 := hR8.fr hf9 (by simp; omega)
    have b9 := hr9.c4
    have x0 := hB9.c0
    have x1 := hB9.c1
    have x2 := hB9.c2
    have z0 := hR9.c0
    have z1 := hR9.c1
    have z2 := hR9.c2
    have y0 := hR9.fz 0
    have y1 := hR9.fz 1
    have y2 := hR9.fz 2
    go_wp2_with fail
    refine retT whRes rfl (hR9.set3 _ _ _) ?_
    have f := Fr.set3 w9 w.heap.size (.int .i64 a) (.int .i64 b) (.slice A n c)
    exact ⟨a, b, A, n, c, k7, dp, rfl, by rw [HL.out]; exact hr9.fr f (by simp; omega), by decide, by omega, by omega, hk7, (F8.trans hf9).over' f (by simp)⟩

set_option maxHeartbeats 8000000 in
set_option maxRecDepth 100000 in
theorem wh_deep_bad2 {d : Nat} (hP : CmpOK (d + 1)) (ih : WhOK d) {w : World} {pb k dp : Nat} {s : ByteArray} {t : Tm} {v : List UInt8} (h : Rp w pb s k dp 0 0) (hk : k ≤ s.size) (hs : s.size ≤ 120) (hd : dp + (d + 1) = 20) (hres : cpP (d + 1) (s.data.toList.drop k) = .ok t v) (hv : v.head? = some 63) {tb : Tm} {v2 : List UInt8} (hr1 : chP d (v.drop 1) = .ok tb v2) (hc : v2.head? = some 58) {pl er : Nat} (hr2' : chP d (v2.drop 1) = .bad pl er) :
    Calls Tryz.prog 30 #[.pointer (some ⟨pb, 0, none⟩)] w (OutT pb s dp w (chP (d + 1) (s.data.toList.drop k))) := by
  have hA : Rp (w.alloc (.cells tz 24)) pb s k dp 0 0 := h.fr (xs := []) ((Fr.refl _ _).alloc _) (by simp)
  have hR : RC (w.alloc (.cells tz 24)) w.heap.size (.int .i64 0) (.int .i64 0) (.slice none 0 0) := RC.new w
  have hpl := h.lt
  have co := hP _ pb k dp s hA hk hs hd
  have hch : chP (d + 1) (s.data.toList.drop k) = .bad pl er := by rw [chP_eq, choF, hres]; simp only; rw [if_pos hv, inCh_succ]; rw [hr1]; simp only; rw [if_pos hc, inCh_succ, hr2']
  rw [hch]
  rw [hres] at co
  clear hres hch
  · go_enter Tryz.func30, Tryz.ntmps30
    go_wp2_with (go_at_call 64; refine co.mono ?_; rintro e w2 ⟨a, b, A, n, c, k2, rfl, ht2, hr2, hk2, rfl, hf2⟩; have p2 := hr2.lt; have q2 := hr2.c1)
    have hs2 := hf2.size
    simp at hs2 ht2
    have hR2 := hR.fr hf2 (by simp; omega)
    have l2 := hR2.lt
    have hB3 : RC (w2.alloc (.cells #[.int .i64 a, .int .i64 b, .slice A n c] 24)) w2.heap.size (.int .i64 a) (.int .i64 b) (.slice A n c) := RC.new w2
    have hR3 := hR2.fr (Fr.al (xs := []) w2 (.cells #[.int .i64 a, .int .i64 b, .slice A n c] 24)) (by simp)
    have hr3 := hr2.fr (Fr.al (xs := []) w2 (.cells #[.int .i64 a, .int .i64 b, .slice A n c] 24)) (by simp)
    have ht3 := (ht2.mono (S' := fun p => w.heap.size < p) (fun p hp _ => by omega)).alloc (.cells #[.int .i64 a, .int .i64 b, .slice A n c] 24)
    have F3 := ((Fr.al (xs := [pb]) w (.cells tz 24)).trans hf2).alloc (.cells #[.int .i64 a, .int .i64 b, .slice A n c] 24)
    generalize w2.alloc (.cells #[.int .i64 a, .int .i64 b, .slice A n c] 24) = w3 at *
    generalize w2.heap.size = B3 at *
    clear co
    have hj1 : k2 + 1 ≤ s.size := head_le hv
    have hpk : Calls Tryz.prog 65 #[.pointer (some ⟨pb, 0, none⟩)] w3 fun e w' => e = .returned (.int .i64 63) ∧ Rp w' pb s k2 dp 0 0 ∧ Fr [pb] w3 w' := by have := rpeek_any hr3 hk2; rw [pk_at hv] at this; exact this
    refine hpk.mono ?_
    rintro e w4 ⟨rfl, hr4, hf4⟩
    have hB4 := hB3.fr hf4 (by simp; omega)
    have hR4 := hR3.fr hf4 (by simp; omega)
    have b4 := hr4.c4
    have u1 := hr4.c1
    have u2 := hr4.fz 1
    have u3 := hr4.lt
    have l4 := hB4.lt
    have g5 : Fr [pb] w4 (w4.setCell ⟨pb, 1, none⟩ (.int .i64 ((k2 : Int) + 1))) := (Fr.refl _ _).setCell (.inl (by simp)) _
    have hr5 : Rp (w4.setCell ⟨pb, 1, none⟩ (.int .i64 ((k2 : Int) + 1))) pb s (k2 + 1) dp 0 0 := by have := hr4.set1 (k2 + 1); push_cast at this; exact this
    have hB5 := hB4.fr g5 (by simp; omega)
    have hR5 := hR4.fr g5 (by simp; omega)
    clear hpk
    have F5 := (F3.trans hf4).trans g5
    have ht5 := (ht3.fr hf4 (by simp; omega)).fr g5 (by simp; omega)
    have hdd : (s.data.toList.drop k2).drop 1 = s.data.toList.drop (k2 + 1) := drop_drop1 s k2
    rw [hdd] at hr1
    have HR1 := Lib.hid hr1
    clear hr1 hdd
    go_wp2_with (go_at_call 66; refine (rdown_yes hr5 (by omega) k2).mono ?_; rintro e w5 ⟨rfl, hr6, hf6⟩; refine Hid.out ?_)
    refine Lib.hid ?_
    have hB6 := hB5.fr hf6 (by simp; omega)
    have hR6 := hR5.fr hf6 (by simp; omega)
    have l6 := hB6.lt
    have co1 := ih w5 pb (k2 + 1) (dp + 1) s hr6 hj1 hs (by omega)
    rw [HR1.out] at co1
    go_wp2_with (go_at_call 30; refine co1.mono ?_; rintro e w7 ⟨a7, b7, A7, n7, c7, k7, rfl, ht7, hr7, hk7, rfl, hf7⟩; have hB7 := hB6.fr hf7 (by simp; omega); have hR7 := hR6.fr hf7 (by simp; omega); have b7' := hr7.c4; have d7 := hr7.c2; have e7 := hr7.fz 2; have k7' := hr7.c1; have p7 := hr7.lt; have l7 := hB7.lt; have r7 := hR7.lt; have x0 := hB7.c0; have x1 := hB7.c1; have x2 := hB7.c2; have z0 := hR7.c0; have z1 := hR7.c1; have z2 := hR7.c2; have y0 := hR7.fz 0; have y1 := hR7.fz 1; have y2 := hR7.fz 2)
    have g8 : Fr [pb] w7 (w7.setCell ⟨pb, 2, none⟩ (.int .i64 (dp : Int))) := (Fr.refl _ _).setCell (.inl (by simp)) _
    have hs7 := hf7.size
    have hs6 := hf6.size
    simp at hs6
    have e8 : (w7.setCell ⟨pb, 2, none⟩ (.int .i64 (dp : Int))).heap.size = w7.heap.size := by simp
    have hr8 := (hr7.set2 dp).fr (Fr.al (xs := []) _ (.cells #[.int .i64 a7, .int .i64 b7, .slice A7 n7 c7] 24)) (by simp)
    have hR8 := (hR7.fr g8 (by simp; omega)).fr (Fr.al (xs := []) _ (.cells #[.int .i64 a7, .int .i64 b7, .slice A7 n7 c7] 24)) (by simp)
    have hB8 := (hB7.fr g8 (by simp; omega)).fr (Fr.al (xs := []) _ (.cells #[.int .i64 a7, .int .i64 b7, .slice A7 n7 c7] 24)) (by simp)
    have hC8 : RC ((w7.setCell ⟨pb, 2, none⟩ (.int .i64 (dp : Int))).alloc (.cells #[.int .i64 a7, .int .i64 b7, .slice A7 n7 c7] 24)) w7.heap.size (.int .i64 a7) (.int .i64 b7) (.slice A7 n7 c7) := alloc_at e8.symm
    have tA8 := ((((ht5.fr hf6 (by simp; omega)).fr hf7 (by simp; omega)).fr g8 (by simp; omega))).alloc (.cells #[.int .i64 a7, .int .i64 b7, .slice A7 n7 c7] 24)
    have tB8 := (((ht7.mono (S' := fun p => w.heap.size < p) (fun p hp _ => by omega)).fr g8 (by simp; omega))).alloc (.cells #[.int .i64 a7, .int .i64 b7, .slice A7 n7 c7] 24)
    have F8 := (((F5.trans hf6).trans hf7).trans g8).alloc (.cells #[.int .i64 a7, .int .i64 b7, .slice A7 n7 c7] 24)
    have rl8 := hR7.lt
    generalize (w7.setCell ⟨pb, 2, none⟩ (.int .i64 (dp : Int))).alloc (.cells #[.int .i64 a7, .int .i64 b7, .slice A7 n7 c7] 24) = w8 at *
    generalize w7.heap.size = B7 at *
    clear x0 x1 x2 z0 z1 z2 y0 y1 y2 b7' d7 e7 k7'
    have hj7 : k7 + 1 ≤ s.size := head_le hc
    have hpre : (⟨#[58]⟩ : ByteArray).data.toList <+: s.data.toList.drop k7 := pre_iff hc
    have hdd : (s.data.toList.drop k7).drop 1 = s.data.toList.drop (k7 + 1) := drop_drop1 s k7
    rw [hdd] at hr2'
    have HR2 := Lib.hid hr2'
    clear hr2' hdd
    refine (rwant_yes hr8 hs hpre (by decide)).mono ?_
    rintro e w9 ⟨rfl, hr9, hf9⟩
    have hr9 : Rp w9 pb s (k7 + 1) dp 0 0 := hr9
    have hB9 := hB8.fr hf9 (by simp; omega)
    have hR9 := hR8.fr hf9 (by simp; omega)
    have hC9 := hC8.fr hf9 (by simp; omega)
    have b9 := hr9.c4
    go_wp2_with (go_at_call 66; refine (rdown_yes hr9 (by omega) k7).mono ?_; rintro e w10 ⟨rfl, hr10, hf10⟩; refine Hid.out ?_)
    refine Lib.hid ?_
    have hB10 := hB9.fr hf10 (by simp; omega)
    have hR10 := hR9.fr hf10 (by simp; omega)
    have hC10 := hC9.fr hf10 (by simp; omega)
    have lC10 := hC10.lt
    have co2 := ih w10 pb (k7 + 1) (dp + 1) s hr10 hj7 hs (by omega)
    rw [HR2.out] at co2
    go_wp2_with (go_at_call 30; refine co2.mono ?_; rintro e w11 ⟨a9, b9', A9, n9, c9, k11, dp11, rfl, hr11, he11, hd11, hd12, hk11, hf11⟩; obtain ⟨dq, rfl⟩ : ∃ dq, dp11 = dq + 1 := ⟨dp11 - 1, by omega⟩; have hB11 := hB10.fr hf11 (by simp; omega); have hR11 := hR10.fr hf11 (by simp; omega); have hC11 := hC10.fr hf11 (by simp; omega); have d11 := hr11.c2; have e11 := hr11.fz 2; have p11 := hr11.lt; have l11 := hB11.lt; have r11 := hR11.lt; have m11 := hC11.lt; have x0 := hB11.c0; have x1 := hB11.c1; have x2 := hB11.c2; have s0 := hC11.c0; have s1 := hC11.c1; have s2 := hC11.c2; have z0 := hR11.c0; have z1 := hR11.c1; have z2 := hR11.c2; have y0 := hR11.fz 0; have y1 := hR11.fz 1; have y2 := hR11.fz 2)
    have g12 : Fr [pb] w11 (w11.setCell ⟨pb, 2, none⟩ (.int .i64 (dq : Int))) := (Fr.refl _ _).setCell (.inl (by simp)) _
    have g13 := Fr.set3 (w11.setCell ⟨pb, 2, none⟩ (.int .i64 (dq : Int))) w.heap.size (.int .i64 63) (.int .i64 0) (.slice (some ⟨w11.heap.size + 1, 0, none⟩) 3 3)
    have hRp := (hr11.set2 dq).fr g13 (by simp; omega)
    have hRC := (hR11.fr g12 (by simp; omega)).set3 (.int .i64 63) (.int .i64 0) (.slice (some ⟨w11.heap.size + 1, 0, none⟩) 3 3)
    have hF := ((((F8.trans hf9).trans hf10).trans hf11).trans g12).over' g13 (by simp)
    have e13 : ((((w11.setCell ⟨pb, 2, none⟩ (.int .i64 (dq : Int))).setCell ⟨w.heap.size, 0, none⟩ (.int .i64 63)).setCell ⟨w.heap.size, 1, none⟩ (.int .i64 0)).setCell ⟨w.heap.size, 2, none⟩ (.slice (some ⟨w11.heap.size + 1, 0, none⟩) 3 3)).heap.size = w11.heap.size := by simp
    have hs11 := hf11.size
    have hs10 := hf10.size
    have hs9 := hf9.size
    generalize (((w11.setCell ⟨pb, 2, none⟩ (.int .i64 (dq : Int))).setCell ⟨w.heap.size, 0, none⟩ (.int .i64 63)).setCell ⟨w.heap.size, 1, none⟩ (.int .i64 0)).setCell ⟨w.heap.size, 2, none⟩ (.slice (some ⟨w11.heap.size + 1, 0, none⟩) 3 3) = w12 at *
    refine retT whRes rfl ((hRC.fr (Fr.al (xs := []) _ _) (by simp)).fr (Fr.al (xs := []) _ _) (by simp)) ?_
    exact ⟨63, 0, _, 3, 3, k11, dq, rfl, (hRp.fr (Fr.al (xs := []) _ _) (by simp)).fr (Fr.al (xs := []) _ _) (by simp), he11, by omega, by omega, hk11, (hF.alloc _).alloc _⟩

set_option maxHeartbeats 8000000 in
set_option maxRecDepth 100000 in
theorem wh_deep_ok {d : Nat} (hP : CmpOK (d + 1)) (ih : WhOK d) {w : World} {pb k dp : Nat} {s : ByteArray} {t : Tm} {v : List UInt8} (h : Rp w pb s k dp 0 0) (hk : k ≤ s.size) (hs : s.size ≤ 120) (hd : dp + (d + 1) = 20) (hres : cpP (d + 1) (s.data.toList.drop k) = .ok t v) (hv : v.head? = some 63) {tb : Tm} {v2 : List UInt8} (hr1 : chP d (v.drop 1) = .ok tb v2) (hc : v2.head? = some 58) {tc : Tm} {v3 : List UInt8} (hr2' : chP d (v2.drop 1) = .ok tc v3) :
    Calls Tryz.prog 30 #[.pointer (some ⟨pb, 0, none⟩)] w (OutT pb s dp w (chP (d + 1) (s.data.toList.drop k))) := by
  have hA : Rp (w.alloc (.cells tz 24)) pb s k dp 0 0 := h.fr (xs := []) ((Fr.refl _ _).alloc _) (by simp)
  have hR : RC (w.alloc (.cells tz 24)) w.heap.size (.int .i64 0) (.int .i64 0) (.slice none 0 0) := RC.new w
  have hpl := h.lt
  have co := hP _ pb k dp s hA hk hs hd
  have hch : chP (d + 1) (s.data.toList.drop k) = .ok (.cond t tb tc) v3 := by rw [chP_eq, choF, hres]; simp only; rw [if_pos hv, inCh_succ]; rw [hr1]; simp only; rw [if_pos hc, inCh_succ, hr2']
  rw [hch]
  rw [hres] at co
  clear hres hch
  · go_enter Tryz.func30, Tryz.ntmps30
    go_wp2_with (go_at_call 64; refine co.mono ?_; rintro e w2 ⟨a, b, A, n, c, k2, rfl, ht2, hr2, hk2, rfl, hf2⟩; have p2 := hr2.lt; have q2 := hr2.c1)
    have hs2 := hf2.size
    simp at hs2 ht2
    have hR2 := hR.fr hf2 (by simp; omega)
    have l2 := hR2.lt
    have hB3 : RC (w2.alloc (.cells #[.int .i64 a, .int .i64 b, .slice A n c] 24)) w2.heap.size (.int .i64 a) (.int .i64 b) (.slice A n c) := RC.new w2
    have hR3 := hR2.fr (Fr.al (xs := []) w2 (.cells #[.int .i64 a, .int .i64 b, .slice A n c] 24)) (by simp)
    have hr3 := hr2.fr (Fr.al (xs := []) w2 (.cells #[.int .i64 a, .int .i64 b, .slice A n c] 24)) (by simp)
    have ht3 := (ht2.mono (S' := fun p => w.heap.size < p) (fun p hp _ => by omega)).alloc (.cells #[.int .i64 a, .int .i64 b, .slice A n c] 24)
    have F3 := ((Fr.al (xs := [pb]) w (.cells tz 24)).trans hf2).alloc (.cells #[.int .i64 a, .int .i64 b, .slice A n c] 24)
    generalize w2.alloc (.cells #[.int .i64 a, .int .i64 b, .slice A n c] 24) = w3 at *
    generalize w2.heap.size = B3 at *
    clear co
    have hj1 : k2 + 1 ≤ s.size := head_le hv
    have hpk : Calls Tryz.prog 65 #[.pointer (some ⟨pb, 0, none⟩)] w3 fun e w' => e = .returned (.int .i64 63) ∧ Rp w' pb s k2 dp 0 0 ∧ Fr [pb] w3 w' := by have := rpeek_any hr3 hk2; rw [pk_at hv] at this; exact this
    refine hpk.mono ?_
    rintro e w4 ⟨rfl, hr4, hf4⟩
    have hB4 := hB3.fr hf4 (by simp; omega)
    have hR4 := hR3.fr hf4 (by simp; omega)
    have b4 := hr4.c4
    have u1 := hr4.c1
    have u2 := hr4.fz 1
    have u3 := hr4.lt
    have l4 := hB4.lt
    have g5 : Fr [pb] w4 (w4.setCell ⟨pb, 1, none⟩ (.int .i64 ((k2 : Int) + 1))) := (Fr.refl _ _).setCell (.inl (by simp)) _
    have hr5 : Rp (w4.setCell ⟨pb, 1, none⟩ (.int .i64 ((k2 : Int) + 1))) pb s (k2 + 1) dp 0 0 := by have := hr4.set1 (k2 + 1); push_cast at this; exact this
    have hB5 := hB4.fr g5 (by simp; omega)
    have hR5 := hR4.fr g5 (by simp; omega)
    clear hpk
    have F5 := (F3.trans hf4).trans g5
    have ht5 := (ht3.fr hf4 (by simp; omega)).fr g5 (by simp; omega)
    have hdd : (s.data.toList.drop k2).drop 1 = s.data.toList.drop (k2 + 1) := drop_drop1 s k2
    rw [hdd] at hr1
    have HR1 := Lib.hid hr1
    clear hr1 hdd
    go_wp2_with (go_at_call 66; refine (rdown_yes hr5 (by omega) k2).mono ?_; rintro e w5 ⟨rfl, hr6, hf6⟩; refine Hid.out ?_)
    refine Lib.hid ?_
    have hB6 := hB5.fr hf6 (by simp; omega)
    have hR6 := hR5.fr hf6 (by simp; omega)
    have l6 := hB6.lt
    have co1 := ih w5 pb (k2 + 1) (dp + 1) s hr6 hj1 hs (by omega)
    rw [HR1.out] at co1
    go_wp2_with (go_at_call 30; refine co1.mono ?_; rintro e w7 ⟨a7, b7, A7, n7, c7, k7, rfl, ht7, hr7, hk7, rfl, hf7⟩; have hB7 := hB6.fr hf7 (by simp; omega); have hR7 := hR6.fr hf7 (by simp; omega); have b7' := hr7.c4; have d7 := hr7.c2; have e7 := hr7.fz 2; have k7' := hr7.c1; have p7 := hr7.lt; have l7 := hB7.lt; have r7 := hR7.lt; have x0 := hB7.c0; have x1 := hB7.c1; have x2 := hB7.c2; have z0 := hR7.c0; have z1 := hR7.c1; have z2 := hR7.c2; have y0 := hR7.fz 0; have y1 := hR7.fz 1; have y2 := hR7.fz 2)
    have g8 : Fr [pb] w7 (w7.setCell ⟨pb, 2, none⟩ (.int .i64 (dp : Int))) := (Fr.refl _ _).setCell (.inl (by simp)) _
    have hs7 := hf7.size
    have hs6 := hf6.size
    simp at hs6
    have e8 : (w7.setCell ⟨pb, 2, none⟩ (.int .i64 (dp : Int))).heap.size = w7.heap.size := by simp
    have hr8 := (hr7.set2 dp).fr (Fr.al (xs := []) _ (.cells #[.int .i64 a7, .int .i64 b7, .slice A7 n7 c7] 24)) (by simp)
    have hR8 := (hR7.fr g8 (by simp; omega)).fr (Fr.al (xs := []) _ (.cells #[.int .i64 a7, .int .i64 b7, .slice A7 n7 c7] 24)) (by simp)
    have hB8 := (hB7.fr g8 (by simp; omega)).fr (Fr.al (xs := []) _ (.cells #[.int .i64 a7, .int .i64 b7, .slice A7 n7 c7] 24)) (by simp)
    have hC8 : RC ((w7.setCell ⟨pb, 2, none⟩ (.int .i64 (dp : Int))).alloc (.cells #[.int .i64 a7, .int .i64 b7, .slice A7 n7 c7] 24)) w7.heap.size (.int .i64 a7) (.int .i64 b7) (.slice A7 n7 c7) := alloc_at e8.symm
    have tA8 := ((((ht5.fr hf6 (by simp; omega)).fr hf7 (by simp; omega)).fr g8 (by simp; omega))).alloc (.cells #[.int .i64 a7, .int .i64 b7, .slice A7 n7 c7] 24)
    have tB8 := (((ht7.mono (S' := fun p => w.heap.size < p) (fun p hp _ => by omega)).fr g8 (by simp; omega))).alloc (.cells #[.int .i64 a7, .int .i64 b7, .slice A7 n7 c7] 24)
    have F8 := (((F5.trans hf6).trans hf7).trans g8).alloc (.cells #[.int .i64 a7, .int .i64 b7, .slice A7 n7 c7] 24)
    have rl8 := hR7.lt
    generalize (w7.setCell ⟨pb, 2, none⟩ (.int .i64 (dp : Int))).alloc (.cells #[.int .i64 a7, .int .i64 b7, .slice A7 n7 c7] 24) = w8 at *
    generalize w7.heap.size = B7 at *
    clear x0 x1 x2 z0 z1 z2 y0 y1 y2 b7' d7 e7 k7'
    have hj7 : k7 + 1 ≤ s.size := head_le hc
    have hpre : (⟨#[58]⟩ : ByteArray).data.toList <+: s.data.toList.drop k7 := pre_iff hc
    have hdd : (s.data.toList.drop k7).drop 1 = s.data.toList.drop (k7 + 1) := drop_drop1 s k7
    rw [hdd] at hr2'
    have HR2 := Lib.hid hr2'
    clear hr2' hdd
    refine (rwant_yes hr8 hs hpre (by decide)).mono ?_
    rintro e w9 ⟨rfl, hr9, hf9⟩
    have hr9 : Rp w9 pb s (k7 + 1) dp 0 0 := hr9
    have hB9 := hB8.fr hf9 (by simp; omega)
    have hR9 := hR8.fr hf9 (by simp; omega)
    have hC9 := hC8.fr hf9 (by simp; omega)
    have b9 := hr9.c4
    go_wp2_with (go_at_call 66; refine (rdown_yes hr9 (by omega) k7).mono ?_; rintro e w10 ⟨rfl, hr10, hf10⟩; refine Hid.out ?_)
    refine Lib.hid ?_
    have hB10 := hB9.fr hf10 (by simp; omega)
    have hR10 := hR9.fr hf10 (by simp; omega)
    have hC10 := hC9.fr hf10 (by simp; omega)
    have lC10 := hC10.lt
    have co2 := ih w10 pb (k7 + 1) (dp + 1) s hr10 hj7 hs (by omega)
    rw [HR2.out] at co2
    go_wp2_with (go_at_call 30; refine co2.mono ?_; rintro e w11 ⟨a9, b9', A9, n9, c9, k11, rfl, ht11, hr11, hk11, rfl, hf11⟩; have hB11 := hB10.fr hf11 (by simp; omega); have hR11 := hR10.fr hf11 (by simp; omega); have hC11 := hC10.fr hf11 (by simp; omega); have d11 := hr11.c2; have e11 := hr11.fz 2; have p11 := hr11.lt; have l11 := hB11.lt; have r11 := hR11.lt; have m11 := hC11.lt; have x0 := hB11.c0; have x1 := hB11.c1; have x2 := hB11.c2; have s0 := hC11.c0; have s1 := hC11.c1; have s2 := hC11.c2; have z0 := hR11.c0; have z1 := hR11.c1; have z2 := hR11.c2; have y0 := hR11.fz 0; have y1 := hR11.fz 1; have y2 := hR11.fz 2)
    have g12 : Fr [pb] w11 (w11.setCell ⟨pb, 2, none⟩ (.int .i64 (dp : Int))) := (Fr.refl _ _).setCell (.inl (by simp)) _
    have g13 := Fr.set3 (w11.setCell ⟨pb, 2, none⟩ (.int .i64 (dp : Int))) w.heap.size (.int .i64 63) (.int .i64 0) (.slice (some ⟨w11.heap.size + 1, 0, none⟩) 3 3)
    have hRp := (hr11.set2 dp).fr g13 (by simp; omega)
    have hRC := (hR11.fr g12 (by simp; omega)).set3 (.int .i64 63) (.int .i64 0) (.slice (some ⟨w11.heap.size + 1, 0, none⟩) 3 3)
    have hF := ((((F8.trans hf9).trans hf10).trans hf11).trans g12).over' g13 (by simp)
    have e13 : ((((w11.setCell ⟨pb, 2, none⟩ (.int .i64 (dp : Int))).setCell ⟨w.heap.size, 0, none⟩ (.int .i64 63)).setCell ⟨w.heap.size, 1, none⟩ (.int .i64 0)).setCell ⟨w.heap.size, 2, none⟩ (.slice (some ⟨w11.heap.size + 1, 0, none⟩) 3 3)).heap.size = w11.heap.size := by simp
    have hs11 := hf11.size
    have hs10 := hf10.size
    have hs9 := hf9.size
    have tA := ((((tA8.fr hf9 (by simp; omega)).fr hf10 (by simp; omega)).fr hf11 (by simp; omega)).fr g12 (by simp; omega)).fr g13 (by simp)
    have tB := ((((tB8.fr hf9 (by simp; omega)).fr hf10 (by simp; omega)).fr hf11 (by simp; omega)).fr g12 (by simp; omega)).fr g13 (by simp)
    have tC := ((ht11.mono (S' := fun p => w.heap.size < p) (fun p hp _ => by omega)).fr g12 (by simp; omega)).fr g13 (by simp)
    generalize (((w11.setCell ⟨pb, 2, none⟩ (.int .i64 (dp : Int))).setCell ⟨w.heap.size, 0, none⟩ (.int .i64 63)).setCell ⟨w.heap.size, 1, none⟩ (.int .i64 0)).setCell ⟨w.heap.size, 2, none⟩ (.slice (some ⟨w11.heap.size + 1, 0, none⟩) 3 3) = w12 at *
    refine retT whRes rfl ((hRC.fr (Fr.al (xs := []) _ _) (by simp)).fr (Fr.al (xs := []) _ _) (by simp)) ?_
    exact ⟨63, 0, _, 3, 3, k11, rfl, ⟨w11.heap.size + 1, ⟨a, b, A, n, c⟩, ⟨a7, b7, A7, n7, c7⟩, ⟨a9, b9', A9, n9, c9⟩, (by show _ ≤ _; omega), rfl, alloc_at (by simp [e13]), ((tA.alloc _).alloc _).mono (fun p hp _ => by omega), ((tB.alloc _).alloc _).mono (fun p hp _ => by omega), ((tC.alloc _).alloc _).mono (fun p hp _ => by omega)⟩, (hRp.fr (Fr.al (xs := []) _ _) (by simp)).fr (Fr.al (xs := []) _ _) (by simp), hk11, rfl, (hF.alloc _).alloc _⟩

theorem wh_any {d : Nat} (hP : CmpOK d) (ih : ∀ e, d = e + 1 → WhOK e) : WhOK d := by
  intro w pb k dp s h hk hs hd
  cases hres : cpP d (s.data.toList.drop k) with
  | bad pl er => exact wh_bad hP h hk hs hd hres
  | ok t v =>
    by_cases hv : v.head? = some 63
    · cases d with
      | zero => exact wh_full hP h hk hs hd hres hv
      | succ e =>
        have ie := ih e rfl
        cases hr1 : chP e (v.drop 1) with
        | bad pl er => exact wh_deep_bad1 hP ie h hk hs hd hres hv hr1
        | ok tb v2 =>
          by_cases hc : v2.head? = some 58
          · cases hr2 : chP e (v2.drop 1) with
            | bad pl er => exact wh_deep_bad2 hP ie h hk hs hd hres hv hr1 hc hr2
            | ok tc v3 => exact wh_deep_ok hP ie h hk hs hd hres hv hr1 hc hr2
          · exact wh_deep_no hP ie h hk hs hd hres hv hr1 hc
    · exact wh_plain hP h hk hs hd hres hv
end Go.Proofs.YthadeccnibnioaaGreatDoor
