/- The document's reader: brackets, n and s. -/
import Derived.Test.YthadeccnibnioaaGreatDoorSi
namespace Go.Proofs.YthadeccnibnioaaGreatDoor
open Go.RowKit

theorem oneRes : Tryz.f174.results = #[.cell 2 24] := by kernel_rfl
theorem not_pre4 {u : List UInt8} {c a1 a2 a3 a4 : UInt8} (h : u.head? = some c) (hc : c ≠ a1) : ¬ [a1, a2, a3, a4] <+: u := by
  rintro ⟨t, rfl⟩
  simp at h
  exact hc h.symm

set_option maxHeartbeats 4000000 in
set_option maxRecDepth 100000 in
theorem one_n {d : Nat} {w : World} {pb k dp : Nat} {s : ByteArray} (h : Rp w pb s k dp 0 0) (hk : k ≤ s.size) (hs : s.size ≤ 120) (hm : (s.data.toList.drop k).head? = some 110) :
    Calls Tryz.prog 174 #[.pointer (some ⟨pb, 0, none⟩)] w (OutT pb s dp w (singleF (inCh d) (s.data.toList.drop k))) := by
  have hA : Rp (w.alloc (.cells tz 24)) pb s k dp 0 0 := h.fr (xs := []) ((Fr.refl _ _).alloc _) (by simp)
  have hR : RC (w.alloc (.cells tz 24)) w.heap.size (.int .i64 0) (.int .i64 0) (.slice none 0 0) := RC.new w
  have hpl := h.lt
  have c1 := h.c1
  have FA := Fr.al (xs := [pb]) w (.cells tz 24)
  have hm1 : ¬ (⟨#[109, 105, 110, 40]⟩ : ByteArray).data.toList <+: s.data.toList.drop k := not_pre4 hm (by decide)
  have hm2 : ¬ (⟨#[109, 97, 120, 40]⟩ : ByteArray).data.toList <+: s.data.toList.drop k := not_pre4 hm (by decide)
  have hj1 := head_le hm
  have hch : singleF (inCh d) (s.data.toList.drop k) = .ok .vn (s.data.toList.drop (k + 1)) := by simp only [singleF, hm]; simp [List.drop_drop]
  rw [hch]
  clear hch
  · go_enter Tryz.func174, Tryz.ntmps174
    go_wp2_with (go_at_call 105; refine (ris_none hA hk hs (by decide) hm1).mono ?_; rintro e w1 ⟨rfl, hr1, hf1⟩; refine Hid.out ?_)
    refine Lib.hid ?_
    have hR1 := hR.fr hf1 (by simp; omega)
    go_wp2_with (go_at_call 105; refine (ris_none hr1 hk hs (by decide) hm2).mono ?_; rintro e w2 ⟨rfl, hr2, hf2⟩; refine Hid.out ?_)
    refine Lib.hid ?_
    have hR2 := hR1.fr hf2 (by simp; omega)
    have F2 := (FA.trans hf1).trans hf2
    have hpk : Calls Tryz.prog 65 #[.pointer (some ⟨pb, 0, none⟩)] w2 fun e w' => e = .returned (.int .i64 110) ∧ Rp w' pb s k dp 0 0 ∧ Fr [pb] w2 w' := by have := rpeek_any hr2 hk; rw [pk_at hm] at this; exact this
    have HPK := Lib.hid hpk
    clear hpk
    go_wp2_with (go_at_call 65; refine HPK.out.mono ?_; rintro e w3 ⟨rfl, hr3, hf3⟩; have hR3 := hR2.fr hf3 (by simp; omega); have q1 := hr3.c1; have q2 := hr3.fz 1; have q3 := hr3.lt; have z0 := hR3.c0; have z1 := hR3.c1; have z2 := hR3.c2; have y0 := hR3.fz 0; have y1 := hR3.fz 1; have y2 := hR3.fz 2)
    have hr4 : Rp (w3.setCell ⟨pb, 1, none⟩ (.int .i64 ((k : Int) + 1))) pb s (k + 1) dp 0 0 := by have := hr3.set1 (k + 1); push_cast at this; exact this
    have g4 : Fr [pb] w3 (w3.setCell ⟨pb, 1, none⟩ (.int .i64 ((k : Int) + 1))) := (Fr.refl _ _).setCell (.inl (by simp)) _
    have f := Fr.set3 (w3.setCell ⟨pb, 1, none⟩ (.int .i64 ((k : Int) + 1))) w.heap.size (.int .i64 110) (.int .i64 0) (.slice none 0 0)
    refine retT oneRes rfl ((hR3.fr g4 (by simp; omega)).set3 _ _ _) ?_
    exact ⟨110, 0, none, 0, 0, k + 1, rfl, rfl, hr4.fr f (by simp; omega), hj1, rfl, ((F2.trans hf3).trans g4).over' f (by simp)⟩

set_option maxHeartbeats 4000000 in
set_option maxRecDepth 100000 in
theorem one_s {d : Nat} {w : World} {pb k dp : Nat} {s : ByteArray} (h : Rp w pb s k dp 0 0) (hk : k ≤ s.size) (hs : s.size ≤ 120) (hm : (s.data.toList.drop k).head? = some 115) :
    Calls Tryz.prog 174 #[.pointer (some ⟨pb, 0, none⟩)] w (OutT pb s dp w (singleF (inCh d) (s.data.toList.drop k))) := by
  have hA : Rp (w.alloc (.cells tz 24)) pb s k dp 0 0 := h.fr (xs := []) ((Fr.refl _ _).alloc _) (by simp)
  have hR : RC (w.alloc (.cells tz 24)) w.heap.size (.int .i64 0) (.int .i64 0) (.slice none 0 0) := RC.new w
  have hpl := h.lt
  have c1 := h.c1
  have FA := Fr.al (xs := [pb]) w (.cells tz 24)
  have hm1 : ¬ (⟨#[109, 105, 110, 40]⟩ : ByteArray).data.toList <+: s.data.toList.drop k := not_pre4 hm (by decide)
  have hm2 : ¬ (⟨#[109, 97, 120, 40]⟩ : ByteArray).data.toList <+: s.data.toList.drop k := not_pre4 hm (by decide)
  have hj1 := head_le hm
  have hch : singleF (inCh d) (s.data.toList.drop k) = .ok .vs (s.data.toList.drop (k + 1)) := by simp only [singleF, hm]; simp [List.drop_drop]
  rw [hch]
  clear hch
  · go_enter Tryz.func174, Tryz.ntmps174
    go_wp2_with (go_at_call 105; refine (ris_none hA hk hs (by decide) hm1).mono ?_; rintro e w1 ⟨rfl, hr1, hf1⟩; refine Hid.out ?_)
    refine Lib.hid ?_
    have hR1 := hR.fr hf1 (by simp; omega)
    go_wp2_with (go_at_call 105; refine (ris_none hr1 hk hs (by decide) hm2).mono ?_; rintro e w2 ⟨rfl, hr2, hf2⟩; refine Hid.out ?_)
    refine Lib.hid ?_
    have hR2 := hR1.fr hf2 (by simp; omega)
    have F2 := (FA.trans hf1).trans hf2
    have hpk : Calls Tryz.prog 65 #[.pointer (some ⟨pb, 0, none⟩)] w2 fun e w' => e = .returned (.int .i64 115) ∧ Rp w' pb s k dp 0 0 ∧ Fr [pb] w2 w' := by have := rpeek_any hr2 hk; rw [pk_at hm] at this; exact this
    have HPK := Lib.hid hpk
    clear hpk
    go_wp2_with (go_at_call 65; refine HPK.out.mono ?_; rintro e w3 ⟨rfl, hr3, hf3⟩; have hR3 := hR2.fr hf3 (by simp; omega); have q1 := hr3.c1; have q2 := hr3.fz 1; have q3 := hr3.lt; have z0 := hR3.c0; have z1 := hR3.c1; have z2 := hR3.c2; have y0 := hR3.fz 0; have y1 := hR3.fz 1; have y2 := hR3.fz 2)
    have hr4 : Rp (w3.setCell ⟨pb, 1, none⟩ (.int .i64 ((k : Int) + 1))) pb s (k + 1) dp 0 0 := by have := hr3.set1 (k + 1); push_cast at this; exact this
    have g4 : Fr [pb] w3 (w3.setCell ⟨pb, 1, none⟩ (.int .i64 ((k : Int) + 1))) := (Fr.refl _ _).setCell (.inl (by simp)) _
    have f := Fr.set3 (w3.setCell ⟨pb, 1, none⟩ (.int .i64 ((k : Int) + 1))) w.heap.size (.int .i64 115) (.int .i64 0) (.slice none 0 0)
    refine retT oneRes rfl ((hR3.fr g4 (by simp; omega)).set3 _ _ _) ?_
    exact ⟨115, 0, none, 0, 0, k + 1, rfl, rfl, hr4.fr f (by simp; omega), hj1, rfl, ((F2.trans hf3).trans g4).over' f (by simp)⟩

set_option maxHeartbeats 4000000 in
set_option maxRecDepth 100000 in
theorem one_brk0  {w : World} {pb k dp : Nat} {s : ByteArray} (h : Rp w pb s k dp 0 0) (hk : k ≤ s.size) (hs : s.size ≤ 120) (hd : dp + 0 = 20) (hm : (s.data.toList.drop k).head? = some 40)  :
    Calls Tryz.prog 174 #[.pointer (some ⟨pb, 0, none⟩)] w (OutT pb s dp w (singleF (inCh 0) (s.data.toList.drop k))) := by
  have hA : Rp (w.alloc (.cells tz 24)) pb s k dp 0 0 := h.fr (xs := []) ((Fr.refl _ _).alloc _) (by simp)
  have hR : RC (w.alloc (.cells tz 24)) w.heap.size (.int .i64 0) (.int .i64 0) (.slice none 0 0) := RC.new w
  have hpl := h.lt
  have c1 := h.c1
  have FA := Fr.al (xs := [pb]) w (.cells tz 24)
  have hm1 : ¬ (⟨#[109, 105, 110, 40]⟩ : ByteArray).data.toList <+: s.data.toList.drop k := not_pre4 hm (by decide)
  have hm2 : ¬ (⟨#[109, 97, 120, 40]⟩ : ByteArray).data.toList <+: s.data.toList.drop k := not_pre4 hm (by decide)
  have hj1 := head_le hm
  have hch : singleF (inCh (0)) (s.data.toList.drop k) = .bad (s.data.toList.drop k).length 4 := by
    have e : singleF (inCh (0)) (s.data.toList.drop k) = brkF (inCh (0)) (s.data.toList.drop k).length ((s.data.toList.drop k).drop 1) := by simp only [singleF, hm]; simp
    rw [e, brkF, drop_drop1]; rw [inCh_zero]
  rw [hch]
  clear hch
  · go_enter Tryz.func174, Tryz.ntmps174
    go_wp2_with (go_at_call 105; refine (ris_none hA hk hs (by decide) hm1).mono ?_; rintro e w1 ⟨rfl, hr1, hf1⟩; refine Hid.out ?_)
    refine Lib.hid ?_
    have hR1 := hR.fr hf1 (by simp; omega)
    go_wp2_with (go_at_call 105; refine (ris_none hr1 hk hs (by decide) hm2).mono ?_; rintro e w2 ⟨rfl, hr2, hf2⟩; refine Hid.out ?_)
    refine Lib.hid ?_
    have hR2 := hR1.fr hf2 (by simp; omega)
    have F2 := (FA.trans hf1).trans hf2
    have hpk : Calls Tryz.prog 65 #[.pointer (some ⟨pb, 0, none⟩)] w2 fun e w' => e = .returned (.int .i64 40) ∧ Rp w' pb s k dp 0 0 ∧ Fr [pb] w2 w' := by have := rpeek_any hr2 hk; rw [pk_at hm] at this; exact this
    have HPK := Lib.hid hpk
    clear hpk
    go_wp2_with (go_at_call 65; refine HPK.out.mono ?_; rintro e w3 ⟨rfl, hr3, hf3⟩; have q1 := hr3.c1; have q2 := hr3.fz 1; have q3 := hr3.lt)
    have hR3 := hR2.fr hf3 (by simp; omega)
    have hr4 : Rp (w3.setCell ⟨pb, 1, none⟩ (.int .i64 ((k : Int) + 1))) pb s (k + 1) dp 0 0 := by have := hr3.set1 (k + 1); push_cast at this; exact this
    have g4 : Fr [pb] w3 (w3.setCell ⟨pb, 1, none⟩ (.int .i64 ((k : Int) + 1))) := (Fr.refl _ _).setCell (.inl (by simp)) _
    have hR4 := hR3.fr g4 (by simp; omega)
    have F4 := (F2.trans hf3).trans g4
    have HL := Lib.hid (len_drop (s := s) hk)
    have hd20 : dp = 20 := by omega
    refine (rdown_no (show Rp _ pb s (k + 1) 20 0 0 from hd20 ▸ hr4) k).mono ?_
    rintro e w5 ⟨rfl, hr5, hf5⟩
    have hR5 := hR4.fr hf5 (by simp; omega)
    have z0 := hR5.c0
    have z1 := hR5.c1
    have z2 := hR5.c2
    have y0 := hR5.fz 0
    have y1 := hR5.fz 1
    have y2 := hR5.fz 2
    go_wp2_with fail
    refine retT oneRes rfl (hR5.set3 _ _ _) ?_
    have f := Fr.set3 w5 w.heap.size (.int .i64 0) (.int .i64 0) (.slice none 0 0)
    exact ⟨0, 0, none, 0, 0, k + 1, 20, rfl, by rw [HL.out]; exact hr5.fr f (by simp; omega), by decide, by omega, by omega, hj1, (F4.trans hf5).over' f (by simp)⟩

set_option maxHeartbeats 4000000 in
set_option maxRecDepth 100000 in
theorem one_brk_bad {d : Nat} (ih : WhOK d) {w : World} {pb k dp : Nat} {s : ByteArray} (h : Rp w pb s k dp 0 0) (hk : k ≤ s.size) (hs : s.size ≤ 120) (hd : dp + (d + 1) = 20) (hm : (s.data.toList.drop k).head? = some 40) {pl er : Nat} (hr1' : chP d (s.data.toList.drop (k + 1)) = .bad pl er) :
    Calls Tryz.prog 174 #[.pointer (some ⟨pb, 0, none⟩)] w (OutT pb s dp w (singleF (inCh (d + 1)) (s.data.toList.drop k))) := by
  have hA : Rp (w.alloc (.cells tz 24)) pb s k dp 0 0 := h.fr (xs := []) ((Fr.refl _ _).alloc _) (by simp)
  have hR : RC (w.alloc (.cells tz 24)) w.heap.size (.int .i64 0) (.int .i64 0) (.slice none 0 0) := RC.new w
  have hpl := h.lt
  have c1 := h.c1
  have FA := Fr.al (xs := [pb]) w (.cells tz 24)
  have hm1 : ¬ (⟨#[109, 105, 110, 40]⟩ : ByteArray).data.toList <+: s.data.toList.drop k := not_pre4 hm (by decide)
  have hm2 : ¬ (⟨#[109, 97, 120, 40]⟩ : ByteArray).data.toList <+: s.data.toList.drop k := not_pre4 hm (by decide)
  have hj1 := head_le hm
  have hch : singleF (inCh ((d + 1))) (s.data.toList.drop k) = .bad pl er := by
    have e : singleF (inCh ((d + 1))) (s.data.toList.drop k) = brkF (inCh ((d + 1))) (s.data.toList.drop k).length ((s.data.toList.drop k).drop 1) := by simp only [singleF, hm]; simp
    rw [e, brkF, drop_drop1]; rw [inCh_succ, hr1']
  rw [hch]
  clear hch
  · go_enter Tryz.func174, Tryz.ntmps174
    go_wp2_with (go_at_call 105; refine (ris_none hA hk hs (by decide) hm1).mono ?_; rintro e w1 ⟨rfl, hr1, hf1⟩; refine Hid.out ?_)
    refine Lib.hid ?_
    have hR1 := hR.fr hf1 (by simp; omega)
    go_wp2_with (go_at_call 105; refine (ris_none hr1 hk hs (by decide) hm2).mono ?_; rintro e w2 ⟨rfl, hr2, hf2⟩; refine Hid.out ?_)
    refine Lib.hid ?_
    have hR2 := hR1.fr hf2 (by simp; omega)
    have F2 := (FA.trans hf1).trans hf2
    have hpk : Calls Tryz.prog 65 #[.pointer (some ⟨pb, 0, none⟩)] w2 fun e w' => e = .returned (.int .i64 40) ∧ Rp w' pb s k dp 0 0 ∧ Fr [pb] w2 w' := by have := rpeek_any hr2 hk; rw [pk_at hm] at this; exact this
    have HPK := Lib.hid hpk
    clear hpk
    go_wp2_with (go_at_call 65; refine HPK.out.mono ?_; rintro e w3 ⟨rfl, hr3, hf3⟩; have q1 := hr3.c1; have q2 := hr3.fz 1; have q3 := hr3.lt)
    have hR3 := hR2.fr hf3 (by simp; omega)
    have hr4 : Rp (w3.setCell ⟨pb, 1, none⟩ (.int .i64 ((k : Int) + 1))) pb s (k + 1) dp 0 0 := by have := hr3.set1 (k + 1); push_cast at this; exact this
    have g4 : Fr [pb] w3 (w3.setCell ⟨pb, 1, none⟩ (.int .i64 ((k : Int) + 1))) := (Fr.refl _ _).setCell (.inl (by simp)) _
    have hR4 := hR3.fr g4 (by simp; omega)
    have F4 := (F2.trans hf3).trans g4
    refine (rdown_yes hr4 (by omega) k).mono ?_
    rintro e w5 ⟨rfl, hr5, hf5⟩
    have hR5 := hR4.fr hf5 (by simp; omega)
    have F5 := F4.trans hf5
    have co := ih w5 pb (k + 1) (dp + 1) s hr5 hj1 hs (by omega)
    rw [hr1'] at co
    clear hr1'
    go_wp2_with (go_at_call 30; refine co.mono ?_; rintro e w6 ⟨a, b, A, n, c, k6, dp6, rfl, hr6, he6, hd6, hd7, hk6, hf6⟩; obtain ⟨dq, rfl⟩ : ∃ dq, dp6 = dq + 1 := ⟨dp6 - 1, by omega⟩; have hn1 : ((er : Int) == 0) = false := beq_eq_false_iff_ne.2 (by omega); have hR6 := hR5.fr hf6 (by simp; omega); have b6' := hr6.c4; have d6 := hr6.c2; have e6 := hr6.fz 2; have p6 := hr6.lt; have r6 := hR6.lt; have z0 := hR6.c0; have z1 := hR6.c1; have z2 := hR6.c2; have y0 := hR6.fz 0; have y1 := hR6.fz 1; have y2 := hR6.fz 2)
    have g8 : Fr [pb] w6 (w6.setCell ⟨pb, 2, none⟩ (.int .i64 (dq : Int))) := (Fr.refl _ _).setCell (.inl (by simp)) _
    have g9 := Fr.set3 (w6.setCell ⟨pb, 2, none⟩ (.int .i64 (dq : Int))) w.heap.size (.int .i64 a) (.int .i64 b) (.slice A n c)
    have hRp := (hr6.set2 dq).fr g9 (by simp; omega)
    have hRC := (hR6.fr g8 (by simp; omega)).set3 (.int .i64 a) (.int .i64 b) (.slice A n c)
    have hF := ((F5.trans hf6).trans g8).over' g9 (by simp)
    generalize (((w6.setCell ⟨pb, 2, none⟩ (.int .i64 (dq : Int))).setCell ⟨w.heap.size, 0, none⟩ (.int .i64 a)).setCell ⟨w.heap.size, 1, none⟩ (.int .i64 b)).setCell ⟨w.heap.size, 2, none⟩ (.slice A n c) = w8 at *
    refine retT oneRes rfl (hRC.fr (Fr.al (xs := []) _ _) (by simp)) ?_
    exact ⟨a, b, A, n, c, k6, dq, rfl, hRp.fr (Fr.al (xs := []) _ _) (by simp), he6, by omega, by omega, hk6, hF.alloc _⟩

set_option maxHeartbeats 4000000 in
set_option maxRecDepth 100000 in
theorem one_brk_no {d : Nat} (ih : WhOK d) {w : World} {pb k dp : Nat} {s : ByteArray} (h : Rp w pb s k dp 0 0) (hk : k ≤ s.size) (hs : s.size ≤ 120) (hd : dp + (d + 1) = 20) (hm : (s.data.toList.drop k).head? = some 40) {ta : Tm} {v : List UInt8} (hr1' : chP d (s.data.toList.drop (k + 1)) = .ok ta v) (hc : ¬ v.head? = some 41) :
    Calls Tryz.prog 174 #[.pointer (some ⟨pb, 0, none⟩)] w (OutT pb s dp w (singleF (inCh (d + 1)) (s.data.toList.drop k))) := by
  have hA : Rp (w.alloc (.cells tz 24)) pb s k dp 0 0 := h.fr (xs := []) ((Fr.refl _ _).alloc _) (by simp)
  have hR : RC (w.alloc (.cells tz 24)) w.heap.size (.int .i64 0) (.int .i64 0) (.slice none 0 0) := RC.new w
  have hpl := h.lt
  have c1 := h.c1
  have FA := Fr.al (xs := [pb]) w (.cells tz 24)
  have hm1 : ¬ (⟨#[109, 105, 110, 40]⟩ : ByteArray).data.toList <+: s.data.toList.drop k := not_pre4 hm (by decide)
  have hm2 : ¬ (⟨#[109, 97, 120, 40]⟩ : ByteArray).data.toList <+: s.data.toList.drop k := not_pre4 hm (by decide)
  have hj1 := head_le hm
  have hch : singleF (inCh ((d + 1))) (s.data.toList.drop k) = .bad v.length 2 := by
    have e : singleF (inCh ((d + 1))) (s.data.toList.drop k) = brkF (inCh ((d + 1))) (s.data.toList.drop k).length ((s.data.toList.drop k).drop 1) := by simp only [singleF, hm]; simp
    rw [e, brkF, drop_drop1]; rw [inCh_succ, hr1']; simp only; rw [if_neg hc]
  rw [hch]
  clear hch
  · go_enter Tryz.func174, Tryz.ntmps174
    go_wp2_with (go_at_call 105; refine (ris_none hA hk hs (by decide) hm1).mono ?_; rintro e w1 ⟨rfl, hr1, hf1⟩; refine Hid.out ?_)
    refine Lib.hid ?_
    have hR1 := hR.fr hf1 (by simp; omega)
    go_wp2_with (go_at_call 105; refine (ris_none hr1 hk hs (by decide) hm2).mono ?_; rintro e w2 ⟨rfl, hr2, hf2⟩; refine Hid.out ?_)
    refine Lib.hid ?_
    have hR2 := hR1.fr hf2 (by simp; omega)
    have F2 := (FA.trans hf1).trans hf2
    have hpk : Calls Tryz.prog 65 #[.pointer (some ⟨pb, 0, none⟩)] w2 fun e w' => e = .returned (.int .i64 40) ∧ Rp w' pb s k dp 0 0 ∧ Fr [pb] w2 w' := by have := rpeek_any hr2 hk; rw [pk_at hm] at this; exact this
    have HPK := Lib.hid hpk
    clear hpk
    go_wp2_with (go_at_call 65; refine HPK.out.mono ?_; rintro e w3 ⟨rfl, hr3, hf3⟩; have q1 := hr3.c1; have q2 := hr3.fz 1; have q3 := hr3.lt)
    have hR3 := hR2.fr hf3 (by simp; omega)
    have hr4 : Rp (w3.setCell ⟨pb, 1, none⟩ (.int .i64 ((k : Int) + 1))) pb s (k + 1) dp 0 0 := by have := hr3.set1 (k + 1); push_cast at this; exact this
    have g4 : Fr [pb] w3 (w3.setCell ⟨pb, 1, none⟩ (.int .i64 ((k : Int) + 1))) := (Fr.refl _ _).setCell (.inl (by simp)) _
    have hR4 := hR3.fr g4 (by simp; omega)
    have F4 := (F2.trans hf3).trans g4
    refine (rdown_yes hr4 (by omega) k).mono ?_
    rintro e w5 ⟨rfl, hr5, hf5⟩
    have hR5 := hR4.fr hf5 (by simp; omega)
    have F5 := F4.trans hf5
    have co := ih w5 pb (k + 1) (dp + 1) s hr5 hj1 hs (by omega)
    rw [hr1'] at co
    clear hr1'
    go_wp2_with (go_at_call 30; refine co.mono ?_; rintro e w6 ⟨a, b, A, n, c, k6, rfl, ht6, hr6, hk6, rfl, hf6⟩; have hR6 := hR5.fr hf6 (by simp; omega); have b6' := hr6.c4; have d6 := hr6.c2; have e6 := hr6.fz 2; have p6 := hr6.lt; have r6 := hR6.lt; have z0 := hR6.c0; have z1 := hR6.c1; have z2 := hR6.c2; have y0 := hR6.fz 0; have y1 := hR6.fz 1; have y2 := hR6.fz 2)
    have hs6 := hf6.size
    have hs5 := hf5.size
    have hs3 := hf3.size
    have hs2 := hf2.size
    have hs1 := hf1.size
    simp at hs1 hs5
    have hC7 : RC (w6.alloc (.cells #[.int .i64 a, .int .i64 b, .slice A n c] 24)) w6.heap.size (.int .i64 a) (.int .i64 b) (.slice A n c) := RC.new w6
    have hr7 := hr6.fr (Fr.al (xs := []) w6 (.cells #[.int .i64 a, .int .i64 b, .slice A n c] 24)) (by simp)
    have hR7 := hR6.fr (Fr.al (xs := []) w6 (.cells #[.int .i64 a, .int .i64 b, .slice A n c] 24)) (by simp)
    have t7 := (ht6.mono (S' := fun p => w.heap.size < p) (fun p hp _ => by omega)).alloc (.cells #[.int .i64 a, .int .i64 b, .slice A n c] 24)
    have F7 := (F5.trans hf6).alloc (.cells #[.int .i64 a, .int .i64 b, .slice A n c] 24)
    generalize w6.alloc (.cells #[.int .i64 a, .int .i64 b, .slice A n c] 24) = w7 at *
    generalize w6.heap.size = B7 at *
    clear z0 z1 z2 y0 y1 y2 b6' d6 e6
    have hpre : ¬ (⟨#[41]⟩ : ByteArray).data.toList <+: s.data.toList.drop k6 := by
      intro hh; apply hc
      obtain ⟨t9, ht9⟩ := hh
      rw [← ht9]; rfl
    have HL := Lib.hid (len_drop (s := s) hk6)
    refine (rwant_no hr7 hk6 hs (by decide) hpre).mono ?_
    rintro e w9 ⟨rfl, hr9, hf9⟩
    have hR9 := hR7.fr hf9 (by simp; omega)
    have hC9 := hC7.fr hf9 (by simp; omega)
    have d9 := hr9.c2
    have e9 := hr9.fz 2
    have p9 := hr9.lt
    have b9 := hr9.c4
    have x0 := hC9.c0
    have x1 := hC9.c1
    have x2 := hC9.c2
    have z0 := hR9.c0
    have z1 := hR9.c1
    have z2 := hR9.c2
    have y0 := hR9.fz 0
    have y1 := hR9.fz 1
    have y2 := hR9.fz 2
    go_wp2_with fail
    have g8 : Fr [pb] w9 (w9.setCell ⟨pb, 2, none⟩ (.int .i64 (dp : Int))) := (Fr.refl _ _).setCell (.inl (by simp)) _
    have g9 := Fr.set3 (w9.setCell ⟨pb, 2, none⟩ (.int .i64 (dp : Int))) w.heap.size (.int .i64 a) (.int .i64 b) (.slice A n c)
    refine retT oneRes rfl ((hR9.fr g8 (by simp; omega)).set3 _ _ _) ?_
    exact ⟨a, b, A, n, c, k6, dp, rfl, by rw [HL.out]; exact (hr9.set2 dp).fr g9 (by simp; omega), by decide, by omega, by omega, hk6, ((F7.trans hf9).trans g8).over' g9 (by simp)⟩

set_option maxHeartbeats 4000000 in
set_option maxRecDepth 100000 in
theorem one_brk_ok {d : Nat} (ih : WhOK d) {w : World} {pb k dp : Nat} {s : ByteArray} (h : Rp w pb s k dp 0 0) (hk : k ≤ s.size) (hs : s.size ≤ 120) (hd : dp + (d + 1) = 20) (hm : (s.data.toList.drop k).head? = some 40) {ta : Tm} {v : List UInt8} (hr1' : chP d (s.data.toList.drop (k + 1)) = .ok ta v) (hc : v.head? = some 41) :
    Calls Tryz.prog 174 #[.pointer (some ⟨pb, 0, none⟩)] w (OutT pb s dp w (singleF (inCh (d + 1)) (s.data.toList.drop k))) := by
  have hA : Rp (w.alloc (.cells tz 24)) pb s k dp 0 0 := h.fr (xs := []) ((Fr.refl _ _).alloc _) (by simp)
  have hR : RC (w.alloc (.cells tz 24)) w.heap.size (.int .i64 0) (.int .i64 0) (.slice none 0 0) := RC.new w
  have hpl := h.lt
  have c1 := h.c1
  have FA := Fr.al (xs := [pb]) w (.cells tz 24)
  have hm1 : ¬ (⟨#[109, 105, 110, 40]⟩ : ByteArray).data.toList <+: s.data.toList.drop k := not_pre4 hm (by decide)
  have hm2 : ¬ (⟨#[109, 97, 120, 40]⟩ : ByteArray).data.toList <+: s.data.toList.drop k := not_pre4 hm (by decide)
  have hj1 := head_le hm
  have hch : singleF (inCh ((d + 1))) (s.data.toList.drop k) = .ok ta (v.drop 1) := by
    have e : singleF (inCh ((d + 1))) (s.data.toList.drop k) = brkF (inCh ((d + 1))) (s.data.toList.drop k).length ((s.data.toList.drop k).drop 1) := by simp only [singleF, hm]; simp
    rw [e, brkF, drop_drop1]; rw [inCh_succ, hr1']; simp only; rw [if_pos hc]
  rw [hch]
  clear hch
  · go_enter Tryz.func174, Tryz.ntmps174
    go_wp2_with (go_at_call 105; refine (ris_none hA hk hs (by decide) hm1).mono ?_; rintro e w1 ⟨rfl, hr1, hf1⟩; refine Hid.out ?_)
    refine Lib.hid ?_
    have hR1 := hR.fr hf1 (by simp; omega)
    go_wp2_with (go_at_call 105; refine (ris_none hr1 hk hs (by decide) hm2).mono ?_; rintro e w2 ⟨rfl, hr2, hf2⟩; refine Hid.out ?_)
    refine Lib.hid ?_
    have hR2 := hR1.fr hf2 (by simp; omega)
    have F2 := (FA.trans hf1).trans hf2
    have hpk : Calls Tryz.prog 65 #[.pointer (some ⟨pb, 0, none⟩)] w2 fun e w' => e = .returned (.int .i64 40) ∧ Rp w' pb s k dp 0 0 ∧ Fr [pb] w2 w' := by have := rpeek_any hr2 hk; rw [pk_at hm] at this; exact this
    have HPK := Lib.hid hpk
    clear hpk
    go_wp2_with (go_at_call 65; refine HPK.out.mono ?_; rintro e w3 ⟨rfl, hr3, hf3⟩; have q1 := hr3.c1; have q2 := hr3.fz 1; have q3 := hr3.lt)
    have hR3 := hR2.fr hf3 (by simp; omega)
    have hr4 : Rp (w3.setCell ⟨pb, 1, none⟩ (.int .i64 ((k : Int) + 1))) pb s (k + 1) dp 0 0 := by have := hr3.set1 (k + 1); push_cast at this; exact this
    have g4 : Fr [pb] w3 (w3.setCell ⟨pb, 1, none⟩ (.int .i64 ((k : Int) + 1))) := (Fr.refl _ _).setCell (.inl (by simp)) _
    have hR4 := hR3.fr g4 (by simp; omega)
    have F4 := (F2.trans hf3).trans g4
    refine (rdown_yes hr4 (by omega) k).mono ?_
    rintro e w5 ⟨rfl, hr5, hf5⟩
    have hR5 := hR4.fr hf5 (by simp; omega)
    have F5 := F4.trans hf5
    have co := ih w5 pb (k + 1) (dp + 1) s hr5 hj1 hs (by omega)
    rw [hr1'] at co
    clear hr1'
    go_wp2_with (go_at_call 30; refine co.mono ?_; rintro e w6 ⟨a, b, A, n, c, k6, rfl, ht6, hr6, hk6, rfl, hf6⟩; have hR6 := hR5.fr hf6 (by simp; omega); have b6' := hr6.c4; have d6 := hr6.c2; have e6 := hr6.fz 2; have p6 := hr6.lt; have r6 := hR6.lt; have z0 := hR6.c0; have z1 := hR6.c1; have z2 := hR6.c2; have y0 := hR6.fz 0; have y1 := hR6.fz 1; have y2 := hR6.fz 2)
    have hs6 := hf6.size
    have hs5 := hf5.size
    have hs3 := hf3.size
    have hs2 := hf2.size
    have hs1 := hf1.size
    simp at hs1 hs5
    have hC7 : RC (w6.alloc (.cells #[.int .i64 a, .int .i64 b, .slice A n c] 24)) w6.heap.size (.int .i64 a) (.int .i64 b) (.slice A n c) := RC.new w6
    have hr7 := hr6.fr (Fr.al (xs := []) w6 (.cells #[.int .i64 a, .int .i64 b, .slice A n c] 24)) (by simp)
    have hR7 := hR6.fr (Fr.al (xs := []) w6 (.cells #[.int .i64 a, .int .i64 b, .slice A n c] 24)) (by simp)
    have t7 := (ht6.mono (S' := fun p => w.heap.size < p) (fun p hp _ => by omega)).alloc (.cells #[.int .i64 a, .int .i64 b, .slice A n c] 24)
    have F7 := (F5.trans hf6).alloc (.cells #[.int .i64 a, .int .i64 b, .slice A n c] 24)
    generalize w6.alloc (.cells #[.int .i64 a, .int .i64 b, .slice A n c] 24) = w7 at *
    generalize w6.heap.size = B7 at *
    clear z0 z1 z2 y0 y1 y2 b6' d6 e6
    have hj6 : k6 + 1 ≤ s.size := head_le hc
    have hpre : (⟨#[41]⟩ : ByteArray).data.toList <+: s.data.toList.drop k6 := pre_iff hc
    refine (rwant_yes hr7 hs hpre (by decide)).mono ?_
    rintro e w9 ⟨rfl, hr9, hf9⟩
    have hr9 : Rp w9 pb s (k6 + 1) (dp + 1) 0 0 := hr9
    have hR9 := hR7.fr hf9 (by simp; omega)
    have hC9 := hC7.fr hf9 (by simp; omega)
    have d9 := hr9.c2
    have e9 := hr9.fz 2
    have p9 := hr9.lt
    have b9 := hr9.c4
    have x0 := hC9.c0
    have x1 := hC9.c1
    have x2 := hC9.c2
    have z0 := hR9.c0
    have z1 := hR9.c1
    have z2 := hR9.c2
    have y0 := hR9.fz 0
    have y1 := hR9.fz 1
    have y2 := hR9.fz 2
    go_wp2_with fail
    have g8 : Fr [pb] w9 (w9.setCell ⟨pb, 2, none⟩ (.int .i64 (dp : Int))) := (Fr.refl _ _).setCell (.inl (by simp)) _
    have g9 := Fr.set3 (w9.setCell ⟨pb, 2, none⟩ (.int .i64 (dp : Int))) w.heap.size (.int .i64 a) (.int .i64 b) (.slice A n c)
    refine retT oneRes rfl ((hR9.fr g8 (by simp; omega)).set3 _ _ _) ?_
    exact ⟨a, b, A, n, c, k6 + 1, rfl, (((t7.fr hf9 (by simp; omega)).fr g8 (by simp; omega)).fr g9 (by simp)).mono (fun p hp _ => by omega), (hr9.set2 dp).fr g9 (by simp; omega), hj6, by rw [drop_drop1], ((F7.trans hf9).trans g8).over' g9 (by simp)⟩
end Go.Proofs.YthadeccnibnioaaGreatDoor
