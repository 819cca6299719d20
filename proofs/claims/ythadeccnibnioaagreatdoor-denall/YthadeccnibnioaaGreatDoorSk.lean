/- The document's reader: min and max. -/
import Derived.Test.YthadeccnibnioaaGreatDoorSj
namespace Go.Proofs.YthadeccnibnioaaGreatDoor
open Go.RowKit

theorem pre_head {u : List UInt8} {a1 a2 a3 a4 : UInt8} (h : [a1, a2, a3, a4] <+: u) : u.head? = some a1 := by obtain ⟨t, rfl⟩ := h; rfl
theorem pre_len {s : ByteArray} {k : Nat} {a1 a2 a3 a4 : UInt8} (h : [a1, a2, a3, a4] <+: s.data.toList.drop k) : k + 4 ≤ s.size := by
  have := h.length_le
  simp at this
  omega
theorem single_min {inC : Nat → List UInt8 → Res} {u : List UInt8} (h : [109, 105, 110, 40] <+: u) : singleF inC u = pairF inC 109 u.length (u.drop 4) := by
  simp only [singleF, pre_head h]; simp [h]
theorem single_max {inC : Nat → List UInt8 → Res} {u : List UInt8} (h : [109, 97, 120, 40] <+: u) : singleF inC u = pairF inC 77 u.length (u.drop 4) := by
  have hn : ¬ [109, 105, 110, 40] <+: u := by
    obtain ⟨t, rfl⟩ := h
    intro hh; simp at hh
  simp only [singleF, pre_head h]; simp [h, hn]

set_option maxHeartbeats 8000000 in
set_option maxRecDepth 100000 in
theorem min_zero  {w : World} {pb k dp : Nat} {s : ByteArray} (h : Rp w pb s k dp 0 0) (hk : k ≤ s.size) (hs : s.size ≤ 120) (hd : dp + 0 = 20) (hm : [109, 105, 110, 40] <+: s.data.toList.drop k)  :
    Calls Tryz.prog 174 #[.pointer (some ⟨pb, 0, none⟩)] w (OutT pb s dp w (singleF (inCh (0)) (s.data.toList.drop k))) := by
  have hA : Rp (w.alloc (.cells tz 24)) pb s k dp 0 0 := h.fr (xs := []) ((Fr.refl _ _).alloc _) (by simp)
  have hR : RC (w.alloc (.cells tz 24)) w.heap.size (.int .i64 0) (.int .i64 0) (.slice none 0 0) := RC.new w
  have hpl := h.lt
  have c1 := h.c1
  have FA := Fr.al (xs := [pb]) w (.cells tz 24)
  have _ := hk
  have hj4 := pre_len hm
  have hch : singleF (inCh (0)) (s.data.toList.drop k) = .bad (s.data.toList.drop k).length 4 := by
    rw [single_min hm, pairF, List.drop_drop]; rw [inCh_zero]
  rw [hch]
  clear hch
  · go_enter Tryz.func174, Tryz.ntmps174
    go_wp2_with (go_at_call 105; refine (ris_take hA hs hm (by decide)).mono ?_; rintro e w2 ⟨rfl, hr2, hf2⟩; refine Hid.out ?_)
    refine Lib.hid ?_
    have hr2 : Rp w2 pb s (k + 4) dp 0 0 := hr2
    have hR2 := hR.fr hf2 (by simp; omega)
    have F2 := FA.trans hf2
    have hs2 := hf2.size
    simp at hs2
    have HL := Lib.hid (len_drop (s := s) hk)
    have hd20 : dp = 20 := by omega
    go_wp2_with (go_at_call 66; refine (rdown_no (show Rp _ pb s (k + 4) 20 0 0 from hd20 ▸ hr2) k).mono ?_; rintro e w5 ⟨rfl, hr5, hf5⟩; have hR5 := hR2.fr hf5 (by simp; omega); have z0 := hR5.c0; have z1 := hR5.c1; have z2 := hR5.c2; have y0 := hR5.fz 0; have y1 := hR5.fz 1; have y2 := hR5.fz 2)
    refine retT oneRes rfl (hR5.set3 _ _ _) ?_
    have f := Fr.set3 w5 w.heap.size (.int .i64 0) (.int .i64 0) (.slice none 0 0)
    exact ⟨0, 0, none, 0, 0, k + 4, 20, rfl, by rw [HL.out]; exact hr5.fr f (by simp; omega), by decide, by omega, by omega, hj4, (F2.trans hf5).over' f (by simp)⟩

set_option maxHeartbeats 8000000 in
set_option maxRecDepth 100000 in
theorem min_bad1 {d : Nat} (ih : WhOK d) {w : World} {pb k dp : Nat} {s : ByteArray} (h : Rp w pb s k dp 0 0) (hk : k ≤ s.size) (hs : s.size ≤ 120) (hd : dp + (d + 1) = 20) (hm : [109, 105, 110, 40] <+: s.data.toList.drop k) {pl er : Nat} (hr1' : chP d (s.data.toList.drop (k + 4)) = .bad pl er) :
    Calls Tryz.prog 174 #[.pointer (some ⟨pb, 0, none⟩)] w (OutT pb s dp w (singleF (inCh ((d + 1))) (s.data.toList.drop k))) := by
  have hA : Rp (w.alloc (.cells tz 24)) pb s k dp 0 0 := h.fr (xs := []) ((Fr.refl _ _).alloc _) (by simp)
  have hR : RC (w.alloc (.cells tz 24)) w.heap.size (.int .i64 0) (.int .i64 0) (.slice none 0 0) := RC.new w
  have hpl := h.lt
  have c1 := h.c1
  have FA := Fr.al (xs := [pb]) w (.cells tz 24)
  have _ := hk
  have hj4 := pre_len hm
  have hch : singleF (inCh ((d + 1))) (s.data.toList.drop k) = .bad pl er := by
    rw [single_min hm, pairF, List.drop_drop]; rw [inCh_succ, hr1']
  rw [hch]
  clear hch
  · go_enter Tryz.func174, Tryz.ntmps174
    go_wp2_with (go_at_call 105; refine (ris_take hA hs hm (by decide)).mono ?_; rintro e w2 ⟨rfl, hr2, hf2⟩; refine Hid.out ?_)
    refine Lib.hid ?_
    have hr2 : Rp w2 pb s (k + 4) dp 0 0 := hr2
    have hR2 := hR.fr hf2 (by simp; omega)
    have F2 := FA.trans hf2
    have hs2 := hf2.size
    simp at hs2
    go_wp2_with (go_at_call 66; refine (rdown_yes hr2 (by omega) k).mono ?_; rintro e w5 ⟨rfl, hr5, hf5⟩; refine Hid.out ?_)
    refine Lib.hid ?_
    have hR5 := hR2.fr hf5 (by simp; omega)
    have F5 := F2.trans hf5
    have hs5 := hf5.size
    have co := ih w5 pb (k + 4) (dp + 1) s hr5 hj4 hs (by omega)
    rw [hr1'] at co
    clear hr1'
    go_wp2_with (go_at_call 30; refine co.mono ?_; rintro e w6 ⟨a, b, A, n, c, k6, dp6, rfl, hr6, he6, hd6, hd7, hk6, hf6⟩; have hn1 : ((er : Int) == 0) = false := beq_eq_false_iff_ne.2 (by omega); have hn2 : ((er : Int) != 0) = true := (by simp; omega); have hR6 := hR5.fr hf6 (by simp; omega); have b6' := hr6.c4; have p6 := hr6.lt; have r6 := hR6.lt; have z0 := hR6.c0; have z1 := hR6.c1; have z2 := hR6.c2; have y0 := hR6.fz 0; have y1 := hR6.fz 1; have y2 := hR6.fz 2)
    have g9 := Fr.set3 w6 w.heap.size (.int .i64 0) (.int .i64 0) (.slice none 0 0)
    have hRp := hr6.fr g9 (by simp; omega)
    have hRC := hR6.set3 (.int .i64 0) (.int .i64 0) (.slice none 0 0)
    have hF := (F5.trans hf6).over' g9 (by simp)
    generalize ((w6.setCell ⟨w.heap.size, 0, none⟩ (.int .i64 0)).setCell ⟨w.heap.size, 1, none⟩ (.int .i64 0)).setCell ⟨w.heap.size, 2, none⟩ (.slice none 0 0) = w8 at *
    refine retT oneRes rfl (hRC.fr (Fr.al (xs := []) _ _) (by simp)) ?_
    exact ⟨0, 0, none, 0, 0, k6, dp6, rfl, hRp.fr (Fr.al (xs := []) _ _) (by simp), he6, by omega, hd7, hk6, hF.alloc _⟩

set_option maxHeartbeats 8000000 in
set_option maxRecDepth 100000 in
theorem min_no1 {d : Nat} (ih : WhOK d) {w : World} {pb k dp : Nat} {s : ByteArray} (h : Rp w pb s k dp 0 0) (hk : k ≤ s.size) (hs : s.size ≤ 120) (hd : dp + (d + 1) = 20) (hm : [109, 105, 110, 40] <+: s.data.toList.drop k) {ta : Tm} {v : List UInt8} (hr1' : chP d (s.data.toList.drop (k + 4)) = .ok ta v) (hc : ¬ v.head? = some 44) :
    Calls Tryz.prog 174 #[.pointer (some ⟨pb, 0, none⟩)] w (OutT pb s dp w (singleF (inCh ((d + 1))) (s.data.toList.drop k))) := by
  have hA : Rp (w.alloc (.cells tz 24)) pb s k dp 0 0 := h.fr (xs := []) ((Fr.refl _ _).alloc _) (by simp)
  have hR : RC (w.alloc (.cells tz 24)) w.heap.size (.int .i64 0) (.int .i64 0) (.slice none 0 0) := RC.new w
  have hpl := h.lt
  have c1 := h.c1
  have FA := Fr.al (xs := [pb]) w (.cells tz 24)
  have _ := hk
  have hj4 := pre_len hm
  have hch : singleF (inCh ((d + 1))) (s.data.toList.drop k) = .bad v.length 2 := by
    rw [single_min hm, pairF, List.drop_drop]; rw [inCh_succ, hr1']; simp only; rw [if_neg hc]
  rw [hch]
  clear hch
  · go_enter Tryz.func174, Tryz.ntmps174
    go_wp2_with (go_at_call 105; refine (ris_take hA hs hm (by decide)).mono ?_; rintro e w2 ⟨rfl, hr2, hf2⟩; refine Hid.out ?_)
    refine Lib.hid ?_
    have hr2 : Rp w2 pb s (k + 4) dp 0 0 := hr2
    have hR2 := hR.fr hf2 (by simp; omega)
    have F2 := FA.trans hf2
    have hs2 := hf2.size
    simp at hs2
    go_wp2_with (go_at_call 66; refine (rdown_yes hr2 (by omega) k).mono ?_; rintro e w5 ⟨rfl, hr5, hf5⟩; refine Hid.out ?_)
    refine Lib.hid ?_
    have hR5 := hR2.fr hf5 (by simp; omega)
    have F5 := F2.trans hf5
    have hs5 := hf5.size
    have co := ih w5 pb (k + 4) (dp + 1) s hr5 hj4 hs (by omega)
    rw [hr1'] at co
    clear hr1'
    go_wp2_with (go_at_call 30; refine co.mono ?_; rintro e w6 ⟨a, b, A, n, c, k6, rfl, ht6, hr6, hk6, rfl, hf6⟩; have hR6 := hR5.fr hf6 (by simp; omega); have b6' := hr6.c4; have p6 := hr6.lt; have r6 := hR6.lt; have z0 := hR6.c0; have z1 := hR6.c1; have z2 := hR6.c2; have y0 := hR6.fz 0; have y1 := hR6.fz 1; have y2 := hR6.fz 2)
    have hs6 := hf6.size
    have hC7 : RC (w6.alloc (.cells #[.int .i64 a, .int .i64 b, .slice A n c] 24)) w6.heap.size (.int .i64 a) (.int .i64 b) (.slice A n c) := RC.new w6
    have hr7 := hr6.fr (Fr.al (xs := []) w6 (.cells #[.int .i64 a, .int .i64 b, .slice A n c] 24)) (by simp)
    have hR7 := hR6.fr (Fr.al (xs := []) w6 (.cells #[.int .i64 a, .int .i64 b, .slice A n c] 24)) (by simp)
    have t7 := (ht6.mono (S' := fun p => w.heap.size < p) (fun p hp _ => by omega)).alloc (.cells #[.int .i64 a, .int .i64 b, .slice A n c] 24)
    have F7 := (F5.trans hf6).alloc (.cells #[.int .i64 a, .int .i64 b, .slice A n c] 24)
    generalize w6.alloc (.cells #[.int .i64 a, .int .i64 b, .slice A n c] 24) = w7 at *
    generalize w6.heap.size = B7 at *
    clear z0 z1 z2 y0 y1 y2 b6'
    have hpre : ¬ (⟨#[44]⟩ : ByteArray).data.toList <+: s.data.toList.drop k6 := by
      intro hh; apply hc
      obtain ⟨t9, ht9⟩ := hh
      rw [← ht9]; rfl
    have HL := Lib.hid (len_drop (s := s) hk6)
    refine (rwant_no hr7 hk6 hs (by decide) hpre).mono ?_
    rintro e w9 ⟨rfl, hr9, hf9⟩
    have hR9 := hR7.fr hf9 (by simp; omega)
    have b9 := hr9.c4
    have z0 := hR9.c0
    have z1 := hR9.c1
    have z2 := hR9.c2
    have y0 := hR9.fz 0
    have y1 := hR9.fz 1
    have y2 := hR9.fz 2
    go_wp2_with fail
    have g9 := Fr.set3 w9 w.heap.size (.int .i64 0) (.int .i64 0) (.slice none 0 0)
    refine retT oneRes rfl (hR9.set3 _ _ _) ?_
    exact ⟨0, 0, none, 0, 0, k6, dp + 1, rfl, by rw [HL.out]; exact hr9.fr g9 (by simp; omega), by decide, by omega, by omega, hk6, (F7.trans hf9).over' g9 (by simp)⟩

set_option maxHeartbeats 8000000 in
set_option maxRecDepth 100000 in
theorem min_bad2 {d : Nat} (ih : WhOK d) {w : World} {pb k dp : Nat} {s : ByteArray} (h : Rp w pb s k dp 0 0) (hk : k ≤ s.size) (hs : s.size ≤ 120) (hd : dp + (d + 1) = 20) (hm : [109, 105, 110, 40] <+: s.data.toList.drop k) {ta : Tm} {v : List UInt8} (hr1' : chP d (s.data.toList.drop (k + 4)) = .ok ta v) (hc : v.head? = some 44) {pl er : Nat} (hr2' : chP d (v.drop 1) = .bad pl er) :
    Calls Tryz.prog 174 #[.pointer (some ⟨pb, 0, none⟩)] w (OutT pb s dp w (singleF (inCh ((d + 1))) (s.data.toList.drop k))) := by
  have hA : Rp (w.alloc (.cells tz 24)) pb s k dp 0 0 := h.fr (xs := []) ((Fr.refl _ _).alloc _) (by simp)
  have hR : RC (w.alloc (.cells tz 24)) w.heap.size (.int .i64 0) (.int .i64 0) (.slice none 0 0) := RC.new w
  have hpl := h.lt
  have c1 := h.c1
  have FA := Fr.al (xs := [pb]) w (.cells tz 24)
  have _ := hk
  have hj4 := pre_len hm
  have hch : singleF (inCh ((d + 1))) (s.data.toList.drop k) = .bad pl er := by
    rw [single_min hm, pairF, List.drop_drop]; rw [inCh_succ, hr1']; simp only; rw [if_pos hc, inCh_succ, hr2']
  rw [hch]
  clear hch
  · go_enter Tryz.func174, Tryz.ntmps174
    go_wp2_with (go_at_call 105; refine (ris_take hA hs hm (by decide)).mono ?_; rintro e w2 ⟨rfl, hr2, hf2⟩; refine Hid.out ?_)
    refine Lib.hid ?_
    have hr2 : Rp w2 pb s (k + 4) dp 0 0 := hr2
    have hR2 := hR.fr hf2 (by simp; omega)
    have F2 := FA.trans hf2
    have hs2 := hf2.size
    simp at hs2
    go_wp2_with (go_at_call 66; refine (rdown_yes hr2 (by omega) k).mono ?_; rintro e w5 ⟨rfl, hr5, hf5⟩; refine Hid.out ?_)
    refine Lib.hid ?_
    have hR5 := hR2.fr hf5 (by simp; omega)
    have F5 := F2.trans hf5
    have hs5 := hf5.size
    have co := ih w5 pb (k + 4) (dp + 1) s hr5 hj4 hs (by omega)
    rw [hr1'] at co
    clear hr1'
    go_wp2_with (go_at_call 30; refine co.mono ?_; rintro e w6 ⟨a, b, A, n, c, k6, rfl, ht6, hr6, hk6, rfl, hf6⟩; have hR6 := hR5.fr hf6 (by simp; omega); have b6' := hr6.c4; have p6 := hr6.lt; have r6 := hR6.lt; have z0 := hR6.c0; have z1 := hR6.c1; have z2 := hR6.c2; have y0 := hR6.fz 0; have y1 := hR6.fz 1; have y2 := hR6.fz 2)
    have hs6 := hf6.size
    have hC7 : RC (w6.alloc (.cells #[.int .i64 a, .int .i64 b, .slice A n c] 24)) w6.heap.size (.int .i64 a) (.int .i64 b) (.slice A n c) := RC.new w6
    have hr7 := hr6.fr (Fr.al (xs := []) w6 (.cells #[.int .i64 a, .int .i64 b, .slice A n c] 24)) (by simp)
    have hR7 := hR6.fr (Fr.al (xs := []) w6 (.cells #[.int .i64 a, .int .i64 b, .slice A n c] 24)) (by simp)
    have t7 := (ht6.mono (S' := fun p => w.heap.size < p) (fun p hp _ => by omega)).alloc (.cells #[.int .i64 a, .int .i64 b, .slice A n c] 24)
    have F7 := (F5.trans hf6).alloc (.cells #[.int .i64 a, .int .i64 b, .slice A n c] 24)
    generalize w6.alloc (.cells #[.int .i64 a, .int .i64 b, .slice A n c] 24) = w7 at *
    generalize w6.heap.size = B7 at *
    clear z0 z1 z2 y0 y1 y2 b6'
    have hj6 : k6 + 1 ≤ s.size := head_le hc
    have hpre : (⟨#[44]⟩ : ByteArray).data.toList <+: s.data.toList.drop k6 := pre_iff hc
    have hdd : (s.data.toList.drop k6).drop 1 = s.data.toList.drop (k6 + 1) := drop_drop1 s k6
    rw [hdd] at hr2'
    refine (rwant_yes hr7 hs hpre (by decide)).mono ?_
    rintro e w9 ⟨rfl, hr9, hf9⟩
    have hr9 : Rp w9 pb s (k6 + 1) (dp + 1) 0 0 := hr9
    have hR9 := hR7.fr hf9 (by simp; omega)
    have hC9 := hC7.fr hf9 (by simp; omega)
    have b9 := hr9.c4
    have lC9 := hC9.lt
    have t9' := t7.fr hf9 (by simp; omega)
    have F9 := F7.trans hf9
    have co2 := ih w9 pb (k6 + 1) (dp + 1) s hr9 hj6 hs (by omega)
    rw [hr2'] at co2
    clear hr2' hdd
    go_wp2_with (go_at_call 30; refine co2.mono ?_; rintro e w10 ⟨a2, b2, A2, n2, c2, k10, dp10, rfl, hr10, he10, hd10, hd11, hk10, hf10⟩; obtain ⟨dq, rfl⟩ : ∃ dq, dp10 = dq + 1 := ⟨dp10 - 1, by omega⟩; have hn1 : ((er : Int) == 0) = false := beq_eq_false_iff_ne.2 (by omega); have hR10 := hR9.fr hf10 (by simp; omega); have hC10 := hC9.fr hf10 (by simp; omega); have b10' := hr10.c4; have d10 := hr10.c2; have e10 := hr10.fz 2; have p10 := hr10.lt; have r10 := hR10.lt; have m10 := hC10.lt; have x0 := hC10.c0; have x1 := hC10.c1; have x2 := hC10.c2; have z0 := hR10.c0; have z1 := hR10.c1; have z2 := hR10.c2; have y0 := hR10.fz 0; have y1 := hR10.fz 1; have y2 := hR10.fz 2)
    have g12 : Fr [pb] w10 (w10.setCell ⟨pb, 2, none⟩ (.int .i64 (dq : Int))) := (Fr.refl _ _).setCell (.inl (by simp)) _
    have g13 := Fr.set3 (w10.setCell ⟨pb, 2, none⟩ (.int .i64 (dq : Int))) w.heap.size (.int .i64 109) (.int .i64 0) (.slice (some ⟨w10.heap.size + 1, 0, none⟩) 2 2)
    have hRp := (hr10.set2 dq).fr g13 (by simp; omega)
    have hRC := (hR10.fr g12 (by simp; omega)).set3 (.int .i64 109) (.int .i64 0) (.slice (some ⟨w10.heap.size + 1, 0, none⟩) 2 2)
    have hF := ((F9.trans hf10).trans g12).over' g13 (by simp)
    generalize (((w10.setCell ⟨pb, 2, none⟩ (.int .i64 (dq : Int))).setCell ⟨w.heap.size, 0, none⟩ (.int .i64 109)).setCell ⟨w.heap.size, 1, none⟩ (.int .i64 0)).setCell ⟨w.heap.size, 2, none⟩ (.slice (some ⟨w10.heap.size + 1, 0, none⟩) 2 2) = w12 at *
    refine retT oneRes rfl ((hRC.fr (Fr.al (xs := []) _ _) (by simp)).fr (Fr.al (xs := []) _ _) (by simp)) ?_
    exact ⟨109, 0, _, 2, 2, k10, dq, rfl, (hRp.fr (Fr.al (xs := []) _ _) (by simp)).fr (Fr.al (xs := []) _ _) (by simp), he10, by omega, by omega, hk10, (hF.alloc _).alloc _⟩

set_option maxHeartbeats 8000000 in
set_option maxRecDepth 100000 in
theorem min_no2 {d : Nat} (ih : WhOK d) {w : World} {pb k dp : Nat} {s : ByteArray} (h : Rp w pb s k dp 0 0) (hk : k ≤ s.size) (hs : s.size ≤ 120) (hd : dp + (d + 1) = 20) (hm : [109, 105, 110, 40] <+: s.data.toList.drop k) {ta : Tm} {v : List UInt8} (hr1' : chP d (s.data.toList.drop (k + 4)) = .ok ta v) (hc : v.head? = some 44) {tb : Tm} {v2 : List UInt8} (hr2' : chP d (v.drop 1) = .ok tb v2) (hc2 : ¬ v2.head? = some 41) :
    Calls Tryz.prog 174 #[.pointer (some ⟨pb, 0, none⟩)] w (OutT pb s dp w (singleF (inCh ((d + 1))) (s.data.toList.drop k))) := by
  have hA : Rp (w.alloc (.cells tz 24)) pb s k dp 0 0 := h.fr (xs := []) ((Fr.refl _ _).alloc _) (by simp)
  have hR : RC (w.alloc (.cells tz 24)) w.heap.size (.int .i64 0) (.int .i64 0) (.slice none 0 0) := RC.new w
  have hpl := h.lt
  have c1 := h.c1
  have FA := Fr.al (xs := [pb]) w (.cells tz 24)
  have _ := hk
  have hj4 := pre_len hm
  have hch : singleF (inCh ((d + 1))) (s.data.toList.drop k) = .bad v2.length 2 := by
    rw [single_min hm, pairF, List.drop_drop]; rw [inCh_succ, hr1']; simp only; rw [if_pos hc, inCh_succ, hr2']; simp only; rw [if_neg hc2]
  rw [hch]
  clear hch
  · go_enter Tryz.func174, Tryz.ntmps174
    go_wp2_with (go_at_call 105; refine (ris_take hA hs hm (by decide)).mono ?_; rintro e w2 ⟨rfl, hr2, hf2⟩; refine Hid.out ?_)
    refine Lib.hid ?_
    have hr2 : Rp w2 pb s (k + 4) dp 0 0 := hr2
    have hR2 := hR.fr hf2 (by simp; omega)
    have F2 := FA.trans hf2
    have hs2 := hf2.size
    simp at hs2
    go_wp2_with (go_at_call 66; refine (rdown_yes hr2 (by omega) k).mono ?_; rintro e w5 ⟨rfl, hr5, hf5⟩; refine Hid.out ?_)
    refine Lib.hid ?_
    have hR5 := hR2.fr hf5 (by simp; omega)
    have F5 := F2.trans hf5
    have hs5 := hf5.size
    have co := ih w5 pb (k + 4) (dp + 1) s hr5 hj4 hs (by omega)
    rw [hr1'] at co
    clear hr1'
    go_wp2_with (go_at_call 30; refine co.mono ?_; rintro e w6 ⟨a, b, A, n, c, k6, rfl, ht6, hr6, hk6, rfl, hf6⟩; have hR6 := hR5.fr hf6 (by simp; omega); have b6' := hr6.c4; have p6 := hr6.lt; have r6 := hR6.lt; have z0 := hR6.c0; have z1 := hR6.c1; have z2 := hR6.c2; have y0 := hR6.fz 0; have y1 := hR6.fz 1; have y2 := hR6.fz 2)
    have hs6 := hf6.size
    have hC7 : RC (w6.alloc (.cells #[.int .i64 a, .int .i64 b, .slice A n c] 24)) w6.heap.size (.int .i64 a) (.int .i64 b) (.slice A n c) := RC.new w6
    have hr7 := hr6.fr (Fr.al (xs := []) w6 (.cells #[.int .i64 a, .int .i64 b, .slice A n c] 24)) (by simp)
    have hR7 := hR6.fr (Fr.al (xs := []) w6 (.cells #[.int .i64 a, .int .i64 b, .slice A n c] 24)) (by simp)
    have t7 := (ht6.mono (S' := fun p => w.heap.size < p) (fun p hp _ => by omega)).alloc (.cells #[.int .i64 a, .int .i64 b, .slice A n c] 24)
    have F7 := (F5.trans hf6).alloc (.cells #[.int .i64 a, .int .i64 b, .slice A n c] 24)
    generalize w6.alloc (.cells #[.int .i64 a, .int .i64 b, .slice A n c] 24) = w7 at *
    generalize w6.heap.size = B7 at *
    clear z0 z1 z2 y0 y1 y2 b6'
    have hj6 : k6 + 1 ≤ s.size := head_le hc
    have hpre : (⟨#[44]⟩ : ByteArray).data.toList <+: s.data.toList.drop k6 := pre_iff hc
    have hdd : (s.data.toList.drop k6).drop 1 = s.data.toList.drop (k6 + 1) := drop_drop1 s k6
    rw [hdd] at hr2'
    refine (rwant_yes hr7 hs hpre (by decide)).mono ?_
    rintro e w9 ⟨rfl, hr9, hf9⟩
    have hr9 : Rp w9 pb s (k6 + 1) (dp + 1) 0 0 := hr9
    have hR9 := hR7.fr hf9 (by simp; omega)
    have hC9 := hC7.fr hf9 (by simp; omega)
    have b9 := hr9.c4
    have lC9 := hC9.lt
    have t9' := t7.fr hf9 (by simp; omega)
    have F9 := F7.trans hf9
    have co2 := ih w9 pb (k6 + 1) (dp + 1) s hr9 hj6 hs (by omega)
    rw [hr2'] at co2
    clear hr2' hdd
    go_wp2_with (go_at_call 30; refine co2.mono ?_; rintro e w10 ⟨a2, b2, A2, n2, c2, k10, rfl, ht10, hr10, hk10, rfl, hf10⟩; have hR10 := hR9.fr hf10 (by simp; omega); have hC10 := hC9.fr hf10 (by simp; omega); have b10' := hr10.c4; have d10 := hr10.c2; have e10 := hr10.fz 2; have p10 := hr10.lt; have r10 := hR10.lt; have m10 := hC10.lt; have x0 := hC10.c0; have x1 := hC10.c1; have x2 := hC10.c2; have z0 := hR10.c0; have z1 := hR10.c1; have z2 := hR10.c2; have y0 := hR10.fz 0; have y1 := hR10.fz 1; have y2 := hR10.fz 2)
    have hs9 := hf9.size
    have hs10 := hf10.size
    have hD11 : RC (w10.alloc (.cells #[.int .i64 a2, .int .i64 b2, .slice A2 n2 c2] 24)) w10.heap.size (.int .i64 a2) (.int .i64 b2) (.slice A2 n2 c2) := RC.new w10
    have hr11 := hr10.fr (Fr.al (xs := []) w10 (.cells #[.int .i64 a2, .int .i64 b2, .slice A2 n2 c2] 24)) (by simp)
    have hR11 := hR10.fr (Fr.al (xs := []) w10 (.cells #[.int .i64 a2, .int .i64 b2, .slice A2 n2 c2] 24)) (by simp)
    have hC11 := hC10.fr (Fr.al (xs := []) w10 (.cells #[.int .i64 a2, .int .i64 b2, .slice A2 n2 c2] 24)) (by simp)
    have tA11 := (t9'.fr hf10 (by simp; omega)).alloc (.cells #[.int .i64 a2, .int .i64 b2, .slice A2 n2 c2] 24)
    have tB11 := (ht10.mono (S' := fun p => w.heap.size < p) (fun p hp _ => by omega)).alloc (.cells #[.int .i64 a2, .int .i64 b2, .slice A2 n2 c2] 24)
    have F11 := (F9.trans hf10).alloc (.cells #[.int .i64 a2, .int .i64 b2, .slice A2 n2 c2] 24)
    generalize w10.alloc (.cells #[.int .i64 a2, .int .i64 b2, .slice A2 n2 c2] 24) = w11 at *
    generalize w10.heap.size = B11 at *
    clear x0 x1 x2 z0 z1 z2 y0 y1 y2 b10' d10 e10
    have hpre2 : ¬ (⟨#[41]⟩ : ByteArray).data.toList <+: s.data.toList.drop k10 := by
      intro hh; apply hc2
      obtain ⟨t9, ht9⟩ := hh
      rw [← ht9]; rfl
    have HL := Lib.hid (len_drop (s := s) hk10)
    refine (rwant_no hr11 hk10 hs (by decide) hpre2).mono ?_
    rintro e w13 ⟨rfl, hr13, hf13⟩
    have hR13 := hR11.fr hf13 (by simp; omega)
    have hC13 := hC11.fr hf13 (by simp; omega)
    have hD13 := hD11.fr hf13 (by simp; omega)
    have d13 := hr13.c2
    have e13 := hr13.fz 2
    have p13 := hr13.lt
    have r13 := hR13.lt
    have m13 := hC13.lt
    have n13 := hD13.lt
    have x0 := hC13.c0
    have x1 := hC13.c1
    have x2 := hC13.c2
    have s0 := hD13.c0
    have s1 := hD13.c1
    have s2 := hD13.c2
    have z0 := hR13.c0
    have z1 := hR13.c1
    have z2 := hR13.c2
    have y0 := hR13.fz 0
    have y1 := hR13.fz 1
    have y2 := hR13.fz 2
    go_wp2_with fail
    have g12 : Fr [pb] w13 (w13.setCell ⟨pb, 2, none⟩ (.int .i64 (dp : Int))) := (Fr.refl _ _).setCell (.inl (by simp)) _
    have g13 := Fr.set3 (w13.setCell ⟨pb, 2, none⟩ (.int .i64 (dp : Int))) w.heap.size (.int .i64 109) (.int .i64 0) (.slice (some ⟨w13.heap.size, 0, none⟩) 2 2)
    have hRp := (hr13.set2 dp).fr g13 (by simp; omega)
    have hRC := (hR13.fr g12 (by simp; omega)).set3 (.int .i64 109) (.int .i64 0) (.slice (some ⟨w13.heap.size, 0, none⟩) 2 2)
    have hF := ((F11.trans hf13).trans g12).over' g13 (by simp)
    have e14 : ((((w13.setCell ⟨pb, 2, none⟩ (.int .i64 (dp : Int))).setCell ⟨w.heap.size, 0, none⟩ (.int .i64 109)).setCell ⟨w.heap.size, 1, none⟩ (.int .i64 0)).setCell ⟨w.heap.size, 2, none⟩ (.slice (some ⟨w13.heap.size, 0, none⟩) 2 2)).heap.size = w13.heap.size := by simp
    generalize (((w13.setCell ⟨pb, 2, none⟩ (.int .i64 (dp : Int))).setCell ⟨w.heap.size, 0, none⟩ (.int .i64 109)).setCell ⟨w.heap.size, 1, none⟩ (.int .i64 0)).setCell ⟨w.heap.size, 2, none⟩ (.slice (some ⟨w13.heap.size, 0, none⟩) 2 2) = w14 at *
    refine retT oneRes rfl (hRC.fr (Fr.al (xs := []) _ _) (by simp)) ?_
    exact ⟨109, 0, _, 2, 2, k10, dp, rfl, by rw [HL.out]; exact hRp.fr (Fr.al (xs := []) _ _) (by simp), by decide, by omega, by omega, hk10, hF.alloc _⟩

set_option maxHeartbeats 8000000 in
set_option maxRecDepth 100000 in
theorem min_ok {d : Nat} (ih : WhOK d) {w : World} {pb k dp : Nat} {s : ByteArray} (h : Rp w pb s k dp 0 0) (hk : k ≤ s.size) (hs : s.size ≤ 120) (hd : dp + (d + 1) = 20) (hm : [109, 105, 110, 40] <+: s.data.toList.drop k) {ta : Tm} {v : List UInt8} (hr1' : chP d (s.data.toList.drop (k + 4)) = .ok ta v) (hc : v.head? = some 44) {tb : Tm} {v2 : List UInt8} (hr2' : chP d (v.drop 1) = .ok tb v2) (hc2 : v2.head? = some 41) :
    Calls Tryz.prog 174 #[.pointer (some ⟨pb, 0, none⟩)] w (OutT pb s dp w (singleF (inCh ((d + 1))) (s.data.toList.drop k))) := by
  have hA : Rp (w.alloc (.cells tz 24)) pb s k dp 0 0 := h.fr (xs := []) ((Fr.refl _ _).alloc _) (by simp)
  have hR : RC (w.alloc (.cells tz 24)) w.heap.size (.int .i64 0) (.int .i64 0) (.slice none 0 0) := RC.new w
  have hpl := h.lt
  have c1 := h.c1
  have FA := Fr.al (xs := [pb]) w (.cells tz 24)
  have _ := hk
  have hj4 := pre_len hm
  have hch : singleF (inCh ((d + 1))) (s.data.toList.drop k) = .ok (.two 109 ta tb) (v2.drop 1) := by
    rw [single_min hm, pairF, List.drop_drop]; rw [inCh_succ, hr1']; simp only; rw [if_pos hc, inCh_succ, hr2']; simp only; rw [if_pos hc2]
  rw [hch]
  clear hch
  · go_enter Tryz.func174, Tryz.ntmps174
    go_wp2_with (go_at_call 105; refine (ris_take hA hs hm (by decide)).mono ?_; rintro e w2 ⟨rfl, hr2, hf2⟩; refine Hid.out ?_)
    refine Lib.hid ?_
    have hr2 : Rp w2 pb s (k + 4) dp 0 0 := hr2
    have hR2 := hR.fr hf2 (by simp; omega)
    have F2 := FA.trans hf2
    have hs2 := hf2.size
    simp at hs2
    go_wp2_with (go_at_call 66; refine (rdown_yes hr2 (by omega) k).mono ?_; rintro e w5 ⟨rfl, hr5, hf5⟩; refine Hid.out ?_)
    refine Lib.hid ?_
    have hR5 := hR2.fr hf5 (by simp; omega)
    have F5 := F2.trans hf5
    have hs5 := hf5.size
    have co := ih w5 pb (k + 4) (dp + 1) s hr5 hj4 hs (by omega)
    rw [hr1'] at co
    clear hr1'
    go_wp2_with (go_at_call 30; refine co.mono ?_; rintro e w6 ⟨a, b, A, n, c, k6, rfl, ht6, hr6, hk6, rfl, hf6⟩; have hR6 := hR5.fr hf6 (by simp; omega); have b6' := hr6.c4; have p6 := hr6.lt; have r6 := hR6.lt; have z0 := hR6.c0; have z1 := hR6.c1; have z2 := hR6.c2; have y0 := hR6.fz 0; have y1 := hR6.fz 1; have y2 := hR6.fz 2)
    have hs6 := hf6.size
    have hC7 : RC (w6.alloc (.cells #[.int .i64 a, .int .i64 b, .slice A n c] 24)) w6.heap.size (.int .i64 a) (.int .i64 b) (.slice A n c) := RC.new w6
    have hr7 := hr6.fr (Fr.al (xs := []) w6 (.cells #[.int .i64 a, .int .i64 b, .slice A n c] 24)) (by simp)
    have hR7 := hR6.fr (Fr.al (xs := []) w6 (.cells #[.int .i64 a, .int .i64 b, .slice A n c] 24)) (by simp)
    have t7 := (ht6.mono (S' := fun p => w.heap.size < p) (fun p hp _ => by omega)).alloc (.cells #[.int .i64 a, .int .i64 b, .slice A n c] 24)
    have F7 := (F5.trans hf6).alloc (.cells #[.int .i64 a, .int .i64 b, .slice A n c] 24)
    generalize w6.alloc (.cells #[.int .i64 a, .int .i64 b, .slice A n c] 24) = w7 at *
    generalize w6.heap.size = B7 at *
    clear z0 z1 z2 y0 y1 y2 b6'
    have hj6 : k6 + 1 ≤ s.size := head_le hc
    have hpre : (⟨#[44]⟩ : ByteArray).data.toList <+: s.data.toList.drop k6 := pre_iff hc
    have hdd : (s.data.toList.drop k6).drop 1 = s.data.toList.drop (k6 + 1) := drop_drop1 s k6
    rw [hdd] at hr2'
    refine (rwant_yes hr7 hs hpre (by decide)).mono ?_
    rintro e w9 ⟨rfl, hr9, hf9⟩
    have hr9 : Rp w9 pb s (k6 + 1) (dp + 1) 0 0 := hr9
    have hR9 := hR7.fr hf9 (by simp; omega)
    have hC9 := hC7.fr hf9 (by simp; omega)
    have b9 := hr9.c4
    have lC9 := hC9.lt
    have t9' := t7.fr hf9 (by simp; omega)
    have F9 := F7.trans hf9
    have co2 := ih w9 pb (k6 + 1) (dp + 1) s hr9 hj6 hs (by omega)
    rw [hr2'] at co2
    clear hr2' hdd
    go_wp2_with (go_at_call 30; refine co2.mono ?_; rintro e w10 ⟨a2, b2, A2, n2, c2, k10, rfl, ht10, hr10, hk10, rfl, hf10⟩; have hR10 := hR9.fr hf10 (by simp; omega); have hC10 := hC9.fr hf10 (by simp; omega); have b10' := hr10.c4; have d10 := hr10.c2; have e10 := hr10.fz 2; have p10 := hr10.lt; have r10 := hR10.lt; have m10 := hC10.lt; have x0 := hC10.c0; have x1 := hC10.c1; have x2 := hC10.c2; have z0 := hR10.c0; have z1 := hR10.c1; have z2 := hR10.c2; have y0 := hR10.fz 0; have y1 := hR10.fz 1; have y2 := hR10.fz 2)
    have hs9 := hf9.size
    have hs10 := hf10.size
    have hD11 : RC (w10.alloc (.cells #[.int .i64 a2, .int .i64 b2, .slice A2 n2 c2] 24)) w10.heap.size (.int .i64 a2) (.int .i64 b2) (.slice A2 n2 c2) := RC.new w10
    have hr11 := hr10.fr (Fr.al (xs := []) w10 (.cells #[.int .i64 a2, .int .i64 b2, .slice A2 n2 c2] 24)) (by simp)
    have hR11 := hR10.fr (Fr.al (xs := []) w10 (.cells #[.int .i64 a2, .int .i64 b2, .slice A2 n2 c2] 24)) (by simp)
    have hC11 := hC10.fr (Fr.al (xs := []) w10 (.cells #[.int .i64 a2, .int .i64 b2, .slice A2 n2 c2] 24)) (by simp)
    have tA11 := (t9'.fr hf10 (by simp; omega)).alloc (.cells #[.int .i64 a2, .int .i64 b2, .slice A2 n2 c2] 24)
    have tB11 := (ht10.mono (S' := fun p => w.heap.size < p) (fun p hp _ => by omega)).alloc (.cells #[.int .i64 a2, .int .i64 b2, .slice A2 n2 c2] 24)
    have F11 := (F9.trans hf10).alloc (.cells #[.int .i64 a2, .int .i64 b2, .slice A2 n2 c2] 24)
    generalize w10.alloc (.cells #[.int .i64 a2, .int .i64 b2, .slice A2 n2 c2] 24) = w11 at *
    generalize w10.heap.size = B11 at *
    clear x0 x1 x2 z0 z1 z2 y0 y1 y2 b10' d10 e10
    have hj10 : k10 + 1 ≤ s.size := head_le hc2
    have hpre2 : (⟨#[41]⟩ : ByteArray).data.toList <+: s.data.toList.drop k10 := pre_iff hc2
    refine (rwant_yes hr11 hs hpre2 (by decide)).mono ?_
    rintro e w13 ⟨rfl, hr13, hf13⟩
    have hr13 : Rp w13 pb s (k10 + 1) (dp + 1) 0 0 := hr13
    have hs13 := hf13.size
    have hR13 := hR11.fr hf13 (by simp; omega)
    have hC13 := hC11.fr hf13 (by simp; omega)
    have hD13 := hD11.fr hf13 (by simp; omega)
    have d13 := hr13.c2
    have e13 := hr13.fz 2
    have p13 := hr13.lt
    have r13 := hR13.lt
    have m13 := hC13.lt
    have n13 := hD13.lt
    have x0 := hC13.c0
    have x1 := hC13.c1
    have x2 := hC13.c2
    have s0 := hD13.c0
    have s1 := hD13.c1
    have s2 := hD13.c2
    have z0 := hR13.c0
    have z1 := hR13.c1
    have z2 := hR13.c2
    have y0 := hR13.fz 0
    have y1 := hR13.fz 1
    have y2 := hR13.fz 2
    go_wp2_with fail
    have g12 : Fr [pb] w13 (w13.setCell ⟨pb, 2, none⟩ (.int .i64 (dp : Int))) := (Fr.refl _ _).setCell (.inl (by simp)) _
    have g13 := Fr.set3 (w13.setCell ⟨pb, 2, none⟩ (.int .i64 (dp : Int))) w.heap.size (.int .i64 109) (.int .i64 0) (.slice (some ⟨w13.heap.size, 0, none⟩) 2 2)
    have hRp := (hr13.set2 dp).fr g13 (by simp; omega)
    have hRC := (hR13.fr g12 (by simp; omega)).set3 (.int .i64 109) (.int .i64 0) (.slice (some ⟨w13.heap.size, 0, none⟩) 2 2)
    have hF := ((F11.trans hf13).trans g12).over' g13 (by simp)
    have e14 : ((((w13.setCell ⟨pb, 2, none⟩ (.int .i64 (dp : Int))).setCell ⟨w.heap.size, 0, none⟩ (.int .i64 109)).setCell ⟨w.heap.size, 1, none⟩ (.int .i64 0)).setCell ⟨w.heap.size, 2, none⟩ (.slice (some ⟨w13.heap.size, 0, none⟩) 2 2)).heap.size = w13.heap.size := by simp
    have tA := (((tA11.fr hf13 (by simp; omega)).fr g12 (by simp; omega)).fr g13 (by simp)).alloc (.cells #[.int .i64 a, .int .i64 b, .slice A n c, .int .i64 a2, .int .i64 b2, .slice A2 n2 c2] 24)
    have tB := (((tB11.fr hf13 (by simp; omega)).fr g12 (by simp; omega)).fr g13 (by simp)).alloc (.cells #[.int .i64 a, .int .i64 b, .slice A n c, .int .i64 a2, .int .i64 b2, .slice A2 n2 c2] 24)
    generalize (((w13.setCell ⟨pb, 2, none⟩ (.int .i64 (dp : Int))).setCell ⟨w.heap.size, 0, none⟩ (.int .i64 109)).setCell ⟨w.heap.size, 1, none⟩ (.int .i64 0)).setCell ⟨w.heap.size, 2, none⟩ (.slice (some ⟨w13.heap.size, 0, none⟩) 2 2) = w14 at *
    refine retT oneRes rfl (hRC.fr (Fr.al (xs := []) _ _) (by simp)) ?_
    exact ⟨109, 0, _, 2, 2, k10 + 1, rfl, ⟨w13.heap.size, ⟨a, b, A, n, c⟩, ⟨a2, b2, A2, n2, c2⟩, (by show _ ≤ _; omega), rfl, alloc_at e14.symm, tA.mono (fun p hp _ => by omega), tB.mono (fun p hp _ => by omega)⟩, hRp.fr (Fr.al (xs := []) _ _) (by simp), hj10, by rw [drop_drop1], hF.alloc _⟩

set_option maxHeartbeats 8000000 in
set_option maxRecDepth 100000 in
theorem max_zero  {w : World} {pb k dp : Nat} {s : ByteArray} (h : Rp w pb s k dp 0 0) (hk : k ≤ s.size) (hs : s.size ≤ 120) (hd : dp + 0 = 20) (hm : [109, 97, 120, 40] <+: s.data.toList.drop k)  :
    Calls Tryz.prog 174 #[.pointer (some ⟨pb, 0, none⟩)] w (OutT pb s dp w (singleF (inCh (0)) (s.data.toList.drop k))) := by
  have hA : Rp (w.alloc (.cells tz 24)) pb s k dp 0 0 := h.fr (xs := []) ((Fr.refl _ _).alloc _) (by simp)
  have hR : RC (w.alloc (.cells tz 24)) w.heap.size (.int .i64 0) (.int .i64 0) (.slice none 0 0) := RC.new w
  have hpl := h.lt
  have c1 := h.c1
  have FA := Fr.al (xs := [pb]) w (.cells tz 24)
  have _ := hk
  have hm1 : ¬ (⟨#[109, 105, 110, 40]⟩ : ByteArray).data.toList <+: s.data.toList.drop k := by
    intro hh
    obtain ⟨t1, e1⟩ := hh
    obtain ⟨t2, e2⟩ := hm
    rw [← e1] at e2
    simp at e2
  have hj4 := pre_len hm
  have hch : singleF (inCh (0)) (s.data.toList.drop k) = .bad (s.data.toList.drop k).length 4 := by
    rw [single_max hm, pairF, List.drop_drop]; rw [inCh_zero]
  rw [hch]
  clear hch
  · go_enter Tryz.func174, Tryz.ntmps174
    go_wp2_with (go_at_call 105; refine (ris_none hA hk hs (by decide) hm1).mono ?_; rintro e w1 ⟨rfl, hr1, hf1⟩; refine Hid.out ?_)
    refine Lib.hid ?_
    have hR1 := hR.fr hf1 (by simp; omega)
    go_wp2_with (go_at_call 105; refine (ris_take hr1 hs hm (by decide)).mono ?_; rintro e w2 ⟨rfl, hr2, hf2⟩; refine Hid.out ?_)
    refine Lib.hid ?_
    have hr2 : Rp w2 pb s (k + 4) dp 0 0 := hr2
    have hR2 := hR1.fr hf2 (by simp; omega)
    have F2 := (FA.trans hf1).trans hf2
    have hs2 := hf2.size
    have hs1 := hf1.size
    simp at hs1
    have HL := Lib.hid (len_drop (s := s) hk)
    have hd20 : dp = 20 := by omega
    go_wp2_with (go_at_call 66; refine (rdown_no (show Rp _ pb s (k + 4) 20 0 0 from hd20 ▸ hr2) k).mono ?_; rintro e w5 ⟨rfl, hr5, hf5⟩; have hR5 := hR2.fr hf5 (by simp; omega); have z0 := hR5.c0; have z1 := hR5.c1; have z2 := hR5.c2; have y0 := hR5.fz 0; have y1 := hR5.fz 1; have y2 := hR5.fz 2)
    refine retT oneRes rfl (hR5.set3 _ _ _) ?_
    have f := Fr.set3 w5 w.heap.size (.int .i64 0) (.int .i64 0) (.slice none 0 0)
    exact ⟨0, 0, none, 0, 0, k + 4, 20, rfl, by rw [HL.out]; exact hr5.fr f (by simp; omega), by decide, by omega, by omega, hj4, (F2.trans hf5).over' f (by simp)⟩

set_option maxHeartbeats 8000000 in
set_option maxRecDepth 100000 in
theorem max_bad1 {d : Nat} (ih : WhOK d) {w : World} {pb k dp : Nat} {s : ByteArray} (h : Rp w pb s k dp 0 0) (hk : k ≤ s.size) (hs : s.size ≤ 120) (hd : dp + (d + 1) = 20) (hm : [109, 97, 120, 40] <+: s.data.toList.drop k) {pl er : Nat} (hr1' : chP d (s.data.toList.drop (k + 4)) = .bad pl er) :
    Calls Tryz.prog 174 #[.pointer (some ⟨pb, 0, none⟩)] w (OutT pb s dp w (singleF (inCh ((d + 1))) (s.data.toList.drop k))) := by
  have hA : Rp (w.alloc (.cells tz 24)) pb s k dp 0 0 := h.fr (xs := []) ((Fr.refl _ _).alloc _) (by simp)
  have hR : RC (w.alloc (.cells tz 24)) w.heap.size (.int .i64 0) (.int .i64 0) (.slice none 0 0) := RC.new w
  have hpl := h.lt
  have c1 := h.c1
  have FA := Fr.al (xs := [pb]) w (.cells tz 24)
  have _ := hk
  have hm1 : ¬ (⟨#[109, 105, 110, 40]⟩ : ByteArray).data.toList <+: s.data.toList.drop k := by
    intro hh
    obtain ⟨t1, e1⟩ := hh
    obtain ⟨t2, e2⟩ := hm
    rw [← e1] at e2
    simp at e2
  have hj4 := pre_len hm
  have hch : singleF (inCh ((d + 1))) (s.data.toList.drop k) = .bad pl er := by
    rw [single_max hm, pairF, List.drop_drop]; rw [inCh_succ, hr1']
  rw [hch]
  clear hch
  · go_enter Tryz.func174, Tryz.ntmps174
    go_wp2_with (go_at_call 105; refine (ris_none hA hk hs (by decide) hm1).mono ?_; rintro e w1 ⟨rfl, hr1, hf1⟩; refine Hid.out ?_)
    refine Lib.hid ?_
    have hR1 := hR.fr hf1 (by simp; omega)
    go_wp2_with (go_at_call 105; refine (ris_take hr1 hs hm (by decide)).mono ?_; rintro e w2 ⟨rfl, hr2, hf2⟩; refine Hid.out ?_)
    refine Lib.hid ?_
    have hr2 : Rp w2 pb s (k + 4) dp 0 0 := hr2
    have hR2 := hR1.fr hf2 (by simp; omega)
    have F2 := (FA.trans hf1).trans hf2
    have hs2 := hf2.size
    have hs1 := hf1.size
    simp at hs1
    go_wp2_with (go_at_call 66; refine (rdown_yes hr2 (by omega) k).mono ?_; rintro e w5 ⟨rfl, hr5, hf5⟩; refine Hid.out ?_)
    refine Lib.hid ?_
    have hR5 := hR2.fr hf5 (by simp; omega)
    have F5 := F2.trans hf5
    have hs5 := hf5.size
    have co := ih w5 pb (k + 4) (dp + 1) s hr5 hj4 hs (by omega)
    rw [hr1'] at co
    clear hr1'
    go_wp2_with (go_at_call 30; refine co.mono ?_; rintro e w6 ⟨a, b, A, n, c, k6, dp6, rfl, hr6, he6, hd6, hd7, hk6, hf6⟩; have hn1 : ((er : Int) == 0) = false := beq_eq_false_iff_ne.2 (by omega); have hn2 : ((er : Int) != 0) = true := (by simp; omega); have hR6 := hR5.fr hf6 (by simp; omega); have b6' := hr6.c4; have p6 := hr6.lt; have r6 := hR6.lt; have z0 := hR6.c0; have z1 := hR6.c1; have z2 := hR6.c2; have y0 := hR6.fz 0; have y1 := hR6.fz 1; have y2 := hR6.fz 2)
    have g9 := Fr.set3 w6 w.heap.size (.int .i64 0) (.int .i64 0) (.slice none 0 0)
    have hRp := hr6.fr g9 (by simp; omega)
    have hRC := hR6.set3 (.int .i64 0) (.int .i64 0) (.slice none 0 0)
    have hF := (F5.trans hf6).over' g9 (by simp)
    generalize ((w6.setCell ⟨w.heap.size, 0, none⟩ (.int .i64 0)).setCell ⟨w.heap.size, 1, none⟩ (.int .i64 0)).setCell ⟨w.heap.size, 2, none⟩ (.slice none 0 0) = w8 at *
    refine retT oneRes rfl (hRC.fr (Fr.al (xs := []) _ _) (by simp)) ?_
    exact ⟨0, 0, none, 0, 0, k6, dp6, rfl, hRp.fr (Fr.al (xs := []) _ _) (by simp), he6, by omega, hd7, hk6, hF.alloc _⟩

set_option maxHeartbeats 8000000 in
set_option maxRecDepth 100000 in
theorem max_no1 {d : Nat} (ih : WhOK d) {w : World} {pb k dp : Nat} {s : ByteArray} (h : Rp w pb s k dp 0 0) (hk : k ≤ s.size) (hs : s.size ≤ 120) (hd : dp + (d + 1) = 20) (hm : [109, 97, 120, 40] <+: s.data.toList.drop k) {ta : Tm} {v : List UInt8} (hr1' : chP d (s.data.toList.drop (k + 4)) = .ok ta v) (hc : ¬ v.head? = some 44) :
    Calls Tryz.prog 174 #[.pointer (some ⟨pb, 0, none⟩)] w (OutT pb s dp w (singleF (inCh ((d + 1))) (s.data.toList.drop k))) := by
  have hA : Rp (w.alloc (.cells tz 24)) pb s k dp 0 0 := h.fr (xs := []) ((Fr.refl _ _).alloc _) (by simp)
  have hR : RC (w.alloc (.cells tz 24)) w.heap.size (.int .i64 0) (.int .i64 0) (.slice none 0 0) := RC.new w
  have hpl := h.lt
  have c1 := h.c1
  have FA := Fr.al (xs := [pb]) w (.cells tz 24)
  have _ := hk
  have hm1 : ¬ (⟨#[109, 105, 110, 40]⟩ : ByteArray).data.toList <+: s.data.toList.drop k := by
    intro hh
    obtain ⟨t1, e1⟩ := hh
    obtain ⟨t2, e2⟩ := hm
    rw [← e1] at e2
    simp at e2
  have hj4 := pre_len hm
  have hch : singleF (inCh ((d + 1))) (s.data.toList.drop k) = .bad v.length 2 := by
    rw [single_max hm, pairF, List.drop_drop]; rw [inCh_succ, hr1']; simp only; rw [if_neg hc]
  rw [hch]
  clear hch
  · go_enter Tryz.func174, Tryz.ntmps174
    go_wp2_with (go_at_call 105; refine (ris_none hA hk hs (by decide) hm1).mono ?_; rintro e w1 ⟨rfl, hr1, hf1⟩; refine Hid.out ?_)
    refine Lib.hid ?_
    have hR1 := hR.fr hf1 (by simp; omega)
    go_wp2_with (go_at_call 105; refine (ris_take hr1 hs hm (by decide)).mono ?_; rintro e w2 ⟨rfl, hr2, hf2⟩; refine Hid.out ?_)
    refine Lib.hid ?_
    have hr2 : Rp w2 pb s (k + 4) dp 0 0 := hr2
    have hR2 := hR1.fr hf2 (by simp; omega)
    have F2 := (FA.trans hf1).trans hf2
    have hs2 := hf2.size
    have hs1 := hf1.size
    simp at hs1
    go_wp2_with (go_at_call 66; refine (rdown_yes hr2 (by omega) k).mono ?_; rintro e w5 ⟨rfl, hr5, hf5⟩; refine Hid.out ?_)
    refine Lib.hid ?_
    have hR5 := hR2.fr hf5 (by simp; omega)
    have F5 := F2.trans hf5
    have hs5 := hf5.size
    have co := ih w5 pb (k + 4) (dp + 1) s hr5 hj4 hs (by omega)
    rw [hr1'] at co
    clear hr1'
    go_wp2_with (go_at_call 30; refine co.mono ?_; rintro e w6 ⟨a, b, A, n, c, k6, rfl, ht6, hr6, hk6, rfl, hf6⟩; have hR6 := hR5.fr hf6 (by simp; omega); have b6' := hr6.c4; have p6 := hr6.lt; have r6 := hR6.lt; have z0 := hR6.c0; have z1 := hR6.c1; have z2 := hR6.c2; have y0 := hR6.fz 0; have y1 := hR6.fz 1; have y2 := hR6.fz 2)
    have hs6 := hf6.size
    have hC7 : RC (w6.alloc (.cells #[.int .i64 a, .int .i64 b, .slice A n c] 24)) w6.heap.size (.int .i64 a) (.int .i64 b) (.slice A n c) := RC.new w6
    have hr7 := hr6.fr (Fr.al (xs := []) w6 (.cells #[.int .i64 a, .int .i64 b, .slice A n c] 24)) (by simp)
    have hR7 := hR6.fr (Fr.al (xs := []) w6 (.cells #[.int .i64 a, .int .i64 b, .slice A n c] 24)) (by simp)
    have t7 := (ht6.mono (S' := fun p => w.heap.size < p) (fun p hp _ => by omega)).alloc (.cells #[.int .i64 a, .int .i64 b, .slice A n c] 24)
    have F7 := (F5.trans hf6).alloc (.cells #[.int .i64 a, .int .i64 b, .slice A n c] 24)
    generalize w6.alloc (.cells #[.int .i64 a, .int .i64 b, .slice A n c] 24) = w7 at *
    generalize w6.heap.size = B7 at *
    clear z0 z1 z2 y0 y1 y2 b6'
    have hpre : ¬ (⟨#[44]⟩ : ByteArray).data.toList <+: s.data.toList.drop k6 := by
      intro hh; apply hc
      obtain ⟨t9, ht9⟩ := hh
      rw [← ht9]; rfl
    have HL := Lib.hid (len_drop (s := s) hk6)
    refine (rwant_no hr7 hk6 hs (by decide) hpre).mono ?_
    rintro e w9 ⟨rfl, hr9, hf9⟩
    have hR9 := hR7.fr hf9 (by simp; omega)
    have b9 := hr9.c4
    have z0 := hR9.c0
    have z1 := hR9.c1
    have z2 := hR9.c2
    have y0 := hR9.fz 0
    have y1 := hR9.fz 1
    have y2 := hR9.fz 2
    go_wp2_with fail
    have g9 := Fr.set3 w9 w.heap.size (.int .i64 0) (.int .i64 0) (.slice none 0 0)
    refine retT oneRes rfl (hR9.set3 _ _ _) ?_
    exact ⟨0, 0, none, 0, 0, k6, dp + 1, rfl, by rw [HL.out]; exact hr9.fr g9 (by simp; omega), by decide, by omega, by omega, hk6, (F7.trans hf9).over' g9 (by simp)⟩

set_option maxHeartbeats 8000000 in
set_option maxRecDepth 100000 in
theorem max_bad2 {d : Nat} (ih : WhOK d) {w : World} {pb k dp : Nat} {s : ByteArray} (h : Rp w pb s k dp 0 0) (hk : k ≤ s.size) (hs : s.size ≤ 120) (hd : dp + (d + 1) = 20) (hm : [109, 97, 120, 40] <+: s.data.toList.drop k) {ta : Tm} {v : List UInt8} (hr1' : chP d (s.data.toList.drop (k + 4)) = .ok ta v) (hc : v.head? = some 44) {pl er : Nat} (hr2' : chP d (v.drop 1) = .bad pl er) :
    Calls Tryz.prog 174 #[.pointer (some ⟨pb, 0, none⟩)] w (OutT pb s dp w (singleF (inCh ((d + 1))) (s.data.toList.drop k))) := by
  have hA : Rp (w.alloc (.cells tz 24)) pb s k dp 0 0 := h.fr (xs := []) ((Fr.refl _ _).alloc _) (by simp)
  have hR : RC (w.alloc (.cells tz 24)) w.heap.size (.int .i64 0) (.int .i64 0) (.slice none 0 0) := RC.new w
  have hpl := h.lt
  have c1 := h.c1
  have FA := Fr.al (xs := [pb]) w (.cells tz 24)
  have _ := hk
  have hm1 : ¬ (⟨#[109, 105, 110, 40]⟩ : ByteArray).data.toList <+: s.data.toList.drop k := by
    intro hh
    obtain ⟨t1, e1⟩ := hh
    obtain ⟨t2, e2⟩ := hm
    rw [← e1] at e2
    simp at e2
  have hj4 := pre_len hm
  have hch : singleF (inCh ((d + 1))) (s.data.toList.drop k) = .bad pl er := by
    rw [single_max hm, pairF, List.drop_drop]; rw [inCh_succ, hr1']; simp only; rw [if_pos hc, inCh_succ, hr2']
  rw [hch]
  clear hch
  · go_enter Tryz.func174, Tryz.ntmps174
    go_wp2_with (go_at_call 105; refine (ris_none hA hk hs (by decide) hm1).mono ?_; rintro e w1 ⟨rfl, hr1, hf1⟩; refine Hid.out ?_)
    refine Lib.hid ?_
    have hR1 := hR.fr hf1 (by simp; omega)
    go_wp2_with (go_at_call 105; refine (ris_take hr1 hs hm (by decide)).mono ?_; rintro e w2 ⟨rfl, hr2, hf2⟩; refine Hid.out ?_)
    refine Lib.hid ?_
    have hr2 : Rp w2 pb s (k + 4) dp 0 0 := hr2
    have hR2 := hR1.fr hf2 (by simp; omega)
    have F2 := (FA.trans hf1).trans hf2
    have hs2 := hf2.size
    have hs1 := hf1.size
    simp at hs1
    go_wp2_with (go_at_call 66; refine (rdown_yes hr2 (by omega) k).mono ?_; rintro e w5 ⟨rfl, hr5, hf5⟩; refine Hid.out ?_)
    refine Lib.hid ?_
    have hR5 := hR2.fr hf5 (by simp; omega)
    have F5 := F2.trans hf5
    have hs5 := hf5.size
    have co := ih w5 pb (k + 4) (dp + 1) s hr5 hj4 hs (by omega)
    rw [hr1'] at co
    clear hr1'
    go_wp2_with (go_at_call 30; refine co.mono ?_; rintro e w6 ⟨a, b, A, n, c, k6, rfl, ht6, hr6, hk6, rfl, hf6⟩; have hR6 := hR5.fr hf6 (by simp; omega); have b6' := hr6.c4; have p6 := hr6.lt; have r6 := hR6.lt; have z0 := hR6.c0; have z1 := hR6.c1; have z2 := hR6.c2; have y0 := hR6.fz 0; have y1 := hR6.fz 1; have y2 := hR6.fz 2)
    have hs6 := hf6.size
    have hC7 : RC (w6.alloc (.cells #[.int .i64 a, .int .i64 b, .slice A n c] 24)) w6.heap.size (.int .i64 a) (.int .i64 b) (.slice A n c) := RC.new w6
    have hr7 := hr6.fr (Fr.al (xs := []) w6 (.cells #[.int .i64 a, .int .i64 b, .slice A n c] 24)) (by simp)
    have hR7 := hR6.fr (Fr.al (xs := []) w6 (.cells #[.int .i64 a, .int .i64 b, .slice A n c] 24)) (by simp)
    have t7 := (ht6.mono (S' := fun p => w.heap.size < p) (fun p hp _ => by omega)).alloc (.cells #[.int .i64 a, .int .i64 b, .slice A n c] 24)
    have F7 := (F5.trans hf6).alloc (.cells #[.int .i64 a, .int .i64 b, .slice A n c] 24)
    generalize w6.alloc (.cells #[.int .i64 a, .int .i64 b, .slice A n c] 24) = w7 at *
    generalize w6.heap.size = B7 at *
    clear z0 z1 z2 y0 y1 y2 b6'
    have hj6 : k6 + 1 ≤ s.size := head_le hc
    have hpre : (⟨#[44]⟩ : ByteArray).data.toList <+: s.data.toList.drop k6 := pre_iff hc
    have hdd : (s.data.toList.drop k6).drop 1 = s.data.toList.drop (k6 + 1) := drop_drop1 s k6
    rw [hdd] at hr2'
    refine (rwant_yes hr7 hs hpre (by decide)).mono ?_
    rintro e w9 ⟨rfl, hr9, hf9⟩
    have hr9 : Rp w9 pb s (k6 + 1) (dp + 1) 0 0 := hr9
    have hR9 := hR7.fr hf9 (by simp; omega)
    have hC9 := hC7.fr hf9 (by simp; omega)
    have b9 := hr9.c4
    have lC9 := hC9.lt
    have t9' := t7.fr hf9 (by simp; omega)
    have F9 := F7.trans hf9
    have co2 := ih w9 pb (k6 + 1) (dp + 1) s hr9 hj6 hs (by omega)
    rw [hr2'] at co2
    clear hr2' hdd
    go_wp2_with (go_at_call 30; refine co2.mono ?_; rintro e w10 ⟨a2, b2, A2, n2, c2, k10, dp10, rfl, hr10, he10, hd10, hd11, hk10, hf10⟩; obtain ⟨dq, rfl⟩ : ∃ dq, dp10 = dq + 1 := ⟨dp10 - 1, by omega⟩; have hn1 : ((er : Int) == 0) = false := beq_eq_false_iff_ne.2 (by omega); have hR10 := hR9.fr hf10 (by simp; omega); have hC10 := hC9.fr hf10 (by simp; omega); have b10' := hr10.c4; have d10 := hr10.c2; have e10 := hr10.fz 2; have p10 := hr10.lt; have r10 := hR10.lt; have m10 := hC10.lt; have x0 := hC10.c0; have x1 := hC10.c1; have x2 := hC10.c2; have z0 := hR10.c0; have z1 := hR10.c1; have z2 := hR10.c2; have y0 := hR10.fz 0; have y1 := hR10.fz 1; have y2 := hR10.fz 2)
    have g12 : Fr [pb] w10 (w10.setCell ⟨pb, 2, none⟩ (.int .i64 (dq : Int))) := (Fr.refl _ _).setCell (.inl (by simp)) _
    have g13 := Fr.set3 (w10.setCell ⟨pb, 2, none⟩ (.int .i64 (dq : Int))) w.heap.size (.int .i64 77) (.int .i64 0) (.slice (some ⟨w10.heap.size + 1, 0, none⟩) 2 2)
    have hRp := (hr10.set2 dq).fr g13 (by simp; omega)
    have hRC := (hR10.fr g12 (by simp; omega)).set3 (.int .i64 77) (.int .i64 0) (.slice (some ⟨w10.heap.size + 1, 0, none⟩) 2 2)
    have hF := ((F9.trans hf10).trans g12).over' g13 (by simp)
    generalize (((w10.setCell ⟨pb, 2, none⟩ (.int .i64 (dq : Int))).setCell ⟨w.heap.size, 0, none⟩ (.int .i64 77)).setCell ⟨w.heap.size, 1, none⟩ (.int .i64 0)).setCell ⟨w.heap.size, 2, none⟩ (.slice (some ⟨w10.heap.size + 1, 0, none⟩) 2 2) = w12 at *
    refine retT oneRes rfl ((hRC.fr (Fr.al (xs := []) _ _) (by simp)).fr (Fr.al (xs := []) _ _) (by simp)) ?_
    exact ⟨77, 0, _, 2, 2, k10, dq, rfl, (hRp.fr (Fr.al (xs := []) _ _) (by simp)).fr (Fr.al (xs := []) _ _) (by simp), he10, by omega, by omega, hk10, (hF.alloc _).alloc _⟩

set_option maxHeartbeats 8000000 in
set_option maxRecDepth 100000 in
theorem max_no2 {d : Nat} (ih : WhOK d) {w : World} {pb k dp : Nat} {s : ByteArray} (h : Rp w pb s k dp 0 0) (hk : k ≤ s.size) (hs : s.size ≤ 120) (hd : dp + (d + 1) = 20) (hm : [109, 97, 120, 40] <+: s.data.toList.drop k) {ta : Tm} {v : List UInt8} (hr1' : chP d (s.data.toList.drop (k + 4)) = .ok ta v) (hc : v.head? = some 44) {tb : Tm} {v2 : List UInt8} (hr2' : chP d (v.drop 1) = .ok tb v2) (hc2 : ¬ v2.head? = some 41) :
    Calls Tryz.prog 174 #[.pointer (some ⟨pb, 0, none⟩)] w (OutT pb s dp w (singleF (inCh ((d + 1))) (s.data.toList.drop k))) := by
  have hA : Rp (w.alloc (.cells tz 24)) pb s k dp 0 0 := h.fr (xs := []) ((Fr.refl _ _).alloc _) (by simp)
  have hR : RC (w.alloc (.cells tz 24)) w.heap.size (.int .i64 0) (.int .i64 0) (.slice none 0 0) := RC.new w
  have hpl := h.lt
  have c1 := h.c1
  have FA := Fr.al (xs := [pb]) w (.cells tz 24)
  have _ := hk
  have hm1 : ¬ (⟨#[109, 105, 110, 40]⟩ : ByteArray).data.toList <+: s.data.toList.drop k := by
    intro hh
    obtain ⟨t1, e1⟩ := hh
    obtain ⟨t2, e2⟩ := hm
    rw [← e1] at e2
    simp at e2
  have hj4 := pre_len hm
  have hch : singleF (inCh ((d + 1))) (s.data.toList.drop k) = .bad v2.length 2 := by
    rw [single_max hm, pairF, List.drop_drop]; rw [inCh_succ, hr1']; simp only; rw [if_pos hc, inCh_succ, hr2']; simp only; rw [if_neg hc2]
  rw [hch]
  clear hch
  · go_enter Tryz.func174, Tryz.ntmps174
    go_wp2_with (go_at_call 105; refine (ris_none hA hk hs (by decide) hm1).mono ?_; rintro e w1 ⟨rfl, hr1, hf1⟩; refine Hid.out ?_)
    refine Lib.hid ?_
    have hR1 := hR.fr hf1 (by simp; omega)
    go_wp2_with (go_at_call 105; refine (ris_take hr1 hs hm (by decide)).mono ?_; rintro e w2 ⟨rfl, hr2, hf2⟩; refine Hid.out ?_)
    refine Lib.hid ?_
    have hr2 : Rp w2 pb s (k + 4) dp 0 0 := hr2
    have hR2 := hR1.fr hf2 (by simp; omega)
    have F2 := (FA.trans hf1).trans hf2
    have hs2 := hf2.size
    have hs1 := hf1.size
    simp at hs1
    go_wp2_with (go_at_call 66; refine (rdown_yes hr2 (by omega) k).mono ?_; rintro e w5 ⟨rfl, hr5, hf5⟩; refine Hid.out ?_)
    refine Lib.hid ?_
    have hR5 := hR2.fr hf5 (by simp; omega)
    have F5 := F2.trans hf5
    have hs5 := hf5.size
    have co := ih w5 pb (k + 4) (dp + 1) s hr5 hj4 hs (by omega)
    rw [hr1'] at co
    clear hr1'
    go_wp2_with (go_at_call 30; refine co.mono ?_; rintro e w6 ⟨a, b, A, n, c, k6, rfl, ht6, hr6, hk6, rfl, hf6⟩; have hR6 := hR5.fr hf6 (by simp; omega); have b6' := hr6.c4; have p6 := hr6.lt; have r6 := hR6.lt; have z0 := hR6.c0; have z1 := hR6.c1; have z2 := hR6.c2; have y0 := hR6.fz 0; have y1 := hR6.fz 1; have y2 := hR6.fz 2)
    have hs6 := hf6.size
    have hC7 : RC (w6.alloc (.cells #[.int .i64 a, .int .i64 b, .slice A n c] 24)) w6.heap.size (.int .i64 a) (.int .i64 b) (.slice A n c) := RC.new w6
    have hr7 := hr6.fr (Fr.al (xs := []) w6 (.cells #[.int .i64 a, .int .i64 b, .slice A n c] 24)) (by simp)
    have hR7 := hR6.fr (Fr.al (xs := []) w6 (.cells #[.int .i64 a, .int .i64 b, .slice A n c] 24)) (by simp)
    have t7 := (ht6.mono (S' := fun p => w.heap.size < p) (fun p hp _ => by omega)).alloc (.cells #[.int .i64 a, .int .i64 b, .slice A n c] 24)
    have F7 := (F5.trans hf6).alloc (.cells #[.int .i64 a, .int .i64 b, .slice A n c] 24)
    generalize w6.alloc (.cells #[.int .i64 a, .int .i64 b, .slice A n c] 24) = w7 at *
    generalize w6.heap.size = B7 at *
    clear z0 z1 z2 y0 y1 y2 b6'
    have hj6 : k6 + 1 ≤ s.size := head_le hc
    have hpre : (⟨#[44]⟩ : ByteArray).data.toList <+: s.data.toList.drop k6 := pre_iff hc
    have hdd : (s.data.toList.drop k6).drop 1 = s.data.toList.drop (k6 + 1) := drop_drop1 s k6
    rw [hdd] at hr2'
    refine (rwant_yes hr7 hs hpre (by decide)).mono ?_
    rintro e w9 ⟨rfl, hr9, hf9⟩
    have hr9 : Rp w9 pb s (k6 + 1) (dp + 1) 0 0 := hr9
    have hR9 := hR7.fr hf9 (by simp; omega)
    have hC9 := hC7.fr hf9 (by simp; omega)
    have b9 := hr9.c4
    have lC9 := hC9.lt
    have t9' := t7.fr hf9 (by simp; omega)
    have F9 := F7.trans hf9
    have co2 := ih w9 pb (k6 + 1) (dp + 1) s hr9 hj6 hs (by omega)
    rw [hr2'] at co2
    clear hr2' hdd
    go_wp2_with (go_at_call 30; refine co2.mono ?_; rintro e w10 ⟨a2, b2, A2, n2, c2, k10, rfl, ht10, hr10, hk10, rfl, hf10⟩; have hR10 := hR9.fr hf10 (by simp; omega); have hC10 := hC9.fr hf10 (by simp; omega); have b10' := hr10.c4; have d10 := hr10.c2; have e10 := hr10.fz 2; have p10 := hr10.lt; have r10 := hR10.lt; have m10 := hC10.lt; have x0 := hC10.c0; have x1 := hC10.c1; have x2 := hC10.c2; have z0 := hR10.c0; have z1 := hR10.c1; have z2 := hR10.c2; have y0 := hR10.fz 0; have y1 := hR10.fz 1; have y2 := hR10.fz 2)
    have hs9 := hf9.size
    have hs10 := hf10.size
    have hD11 : RC (w10.alloc (.cells #[.int .i64 a2, .int .i64 b2, .slice A2 n2 c2] 24)) w10.heap.size (.int .i64 a2) (.int .i64 b2) (.slice A2 n2 c2) := RC.new w10
    have hr11 := hr10.fr (Fr.al (xs := []) w10 (.cells #[.int .i64 a2, .int .i64 b2, .slice A2 n2 c2] 24)) (by simp)
    have hR11 := hR10.fr (Fr.al (xs := []) w10 (.cells #[.int .i64 a2, .int .i64 b2, .slice A2 n2 c2] 24)) (by simp)
    have hC11 := hC10.fr (Fr.al (xs := []) w10 (.cells #[.int .i64 a2, .int .i64 b2, .slice A2 n2 c2] 24)) (by simp)
    have tA11 := (t9'.fr hf10 (by simp; omega)).alloc (.cells #[.int .i64 a2, .int .i64 b2, .slice A2 n2 c2] 24)
    have tB11 := (ht10.mono (S' := fun p => w.heap.size < p) (fun p hp _ => by omega)).alloc (.cells #[.int .i64 a2, .int .i64 b2, .slice A2 n2 c2] 24)
    have F11 := (F9.trans hf10).alloc (.cells #[.int .i64 a2, .int .i64 b2, .slice A2 n2 c2] 24)
    generalize w10.alloc (.cells #[.int .i64 a2, .int .i64 b2, .slice A2 n2 c2] 24) = w11 at *
    generalize w10.heap.size = B11 at *
    clear x0 x1 x2 z0 z1 z2 y0 y1 y2 b10' d10 e10
    have hpre2 : ¬ (⟨#[41]⟩ : ByteArray).data.toList <+: s.data.toList.drop k10 := by
      intro hh; apply hc2
      obtain ⟨t9, ht9⟩ := hh
      rw [← ht9]; rfl
    have HL := Lib.hid (len_drop (s := s) hk10)
    refine (rwant_no hr11 hk10 hs (by decide) hpre2).mono ?_
    rintro e w13 ⟨rfl, hr13, hf13⟩
    have hR13 := hR11.fr hf13 (by simp; omega)
    have hC13 := hC11.fr hf13 (by simp; omega)
    have hD13 := hD11.fr hf13 (by simp; omega)
    have d13 := hr13.c2
    have e13 := hr13.fz 2
    have p13 := hr13.lt
    have r13 := hR13.lt
    have m13 := hC13.lt
    have n13 := hD13.lt
    have x0 := hC13.c0
    have x1 := hC13.c1
    have x2 := hC13.c2
    have s0 := hD13.c0
    have s1 := hD13.c1
    have s2 := hD13.c2
    have z0 := hR13.c0
    have z1 := hR13.c1
    have z2 := hR13.c2
    have y0 := hR13.fz 0
    have y1 := hR13.fz 1
    have y2 := hR13.fz 2
    go_wp2_with fail
    have g12 : Fr [pb] w13 (w13.setCell ⟨pb, 2, none⟩ (.int .i64 (dp : Int))) := (Fr.refl _ _).setCell (.inl (by simp)) _
    have g13 := Fr.set3 (w13.setCell ⟨pb, 2, none⟩ (.int .i64 (dp : Int))) w.heap.size (.int .i64 77) (.int .i64 0) (.slice (some ⟨w13.heap.size, 0, none⟩) 2 2)
    have hRp := (hr13.set2 dp).fr g13 (by simp; omega)
    have hRC := (hR13.fr g12 (by simp; omega)).set3 (.int .i64 77) (.int .i64 0) (.slice (some ⟨w13.heap.size, 0, none⟩) 2 2)
    have hF := ((F11.trans hf13).trans g12).over' g13 (by simp)
    have e14 : ((((w13.setCell ⟨pb, 2, none⟩ (.int .i64 (dp : Int))).setCell ⟨w.heap.size, 0, none⟩ (.int .i64 77)).setCell ⟨w.heap.size, 1, none⟩ (.int .i64 0)).setCell ⟨w.heap.size, 2, none⟩ (.slice (some ⟨w13.heap.size, 0, none⟩) 2 2)).heap.size = w13.heap.size := by simp
    generalize (((w13.setCell ⟨pb, 2, none⟩ (.int .i64 (dp : Int))).setCell ⟨w.heap.size, 0, none⟩ (.int .i64 77)).setCell ⟨w.heap.size, 1, none⟩ (.int .i64 0)).setCell ⟨w.heap.size, 2, none⟩ (.slice (some ⟨w13.heap.size, 0, none⟩) 2 2) = w14 at *
    refine retT oneRes rfl (hRC.fr (Fr.al (xs := []) _ _) (by simp)) ?_
    exact ⟨77, 0, _, 2, 2, k10, dp, rfl, by rw [HL.out]; exact hRp.fr (Fr.al (xs := []) _ _) (by simp), by decide, by omega, by omega, hk10, hF.alloc _⟩

set_option maxHeartbeats 8000000 in
set_option maxRecDepth 100000 in
theorem max_ok {d : Nat} (ih : WhOK d) {w : World} {pb k dp : Nat} {s : ByteArray} (h : Rp w pb s k dp 0 0) (hk : k ≤ s.size) (hs : s.size ≤ 120) (hd : dp + (d + 1) = 20) (hm : [109, 97, 120, 40] <+: s.data.toList.drop k) {ta : Tm} {v : List UInt8} (hr1' : chP d (s.data.toList.drop (k + 4)) = .ok ta v) (hc : v.head? = some 44) {tb : Tm} {v2 : List UInt8} (hr2' : chP d (v.drop 1) = .ok tb v2) (hc2 : v2.head? = some 41) :
    Calls Tryz.prog 174 #[.pointer (some ⟨pb, 0, none⟩)] w (OutT pb s dp w (singleF (inCh ((d + 1))) (s.data.toList.drop k))) := by
  have hA : Rp (w.alloc (.cells tz 24)) pb s k dp 0 0 := h.fr (xs := []) ((Fr.refl _ _).alloc _) (by simp)
  have hR : RC (w.alloc (.cells tz 24)) w.heap.size (.int .i64 0) (.int .i64 0) (.slice none 0 0) := RC.new w
  have hpl := h.lt
  have c1 := h.c1
  have FA := Fr.al (xs := [pb]) w (.cells tz 24)
  have _ := hk
  have hm1 : ¬ (⟨#[109, 105, 110, 40]⟩ : ByteArray).data.toList <+: s.data.toList.drop k := by
    intro hh
    obtain ⟨t1, e1⟩ := hh
    obtain ⟨t2, e2⟩ := hm
    rw [← e1] at e2
    simp at e2
  have hj4 := pre_len hm
  have hch : singleF (inCh ((d + 1))) (s.data.toList.drop k) = .ok (.two 77 ta tb) (v2.drop 1) := by
    rw [single_max hm, pairF, List.drop_drop]; rw [inCh_succ, hr1']; simp only; rw [if_pos hc, inCh_succ, hr2']; simp only; rw [if_pos hc2]
  rw [hch]
  clear hch
  · go_enter Tryz.func174, Tryz.ntmps174
    go_wp2_with (go_at_call 105; refine (ris_none hA hk hs (by decide) hm1).mono ?_; rintro e w1 ⟨rfl, hr1, hf1⟩; refine Hid.out ?_)
    refine Lib.hid ?_
    have hR1 := hR.fr hf1 (by simp; omega)
    go_wp2_with (go_at_call 105; refine (ris_take hr1 hs hm (by decide)).mono ?_; rintro e w2 ⟨rfl, hr2, hf2⟩; refine Hid.out ?_)
    refine Lib.hid ?_
    have hr2 : Rp w2 pb s (k + 4) dp 0 0 := hr2
    have hR2 := hR1.fr hf2 (by simp; omega)
    have F2 := (FA.trans hf1).trans hf2
    have hs2 := hf2.size
    have hs1 := hf1.size
    simp at hs1
    go_wp2_with (go_at_call 66; refine (rdown_yes hr2 (by omega) k).mono ?_; rintro e w5 ⟨rfl, hr5, hf5⟩; refine Hid.out ?_)
    refine Lib.hid ?_
    have hR5 := hR2.fr hf5 (by simp; omega)
    have F5 := F2.trans hf5
    have hs5 := hf5.size
    have co := ih w5 pb (k + 4) (dp + 1) s hr5 hj4 hs (by omega)
    rw [hr1'] at co
    clear hr1'
    go_wp2_with (go_at_call 30; refine co.mono ?_; rintro e w6 ⟨a, b, A, n, c, k6, rfl, ht6, hr6, hk6, rfl, hf6⟩; have hR6 := hR5.fr hf6 (by simp; omega); have b6' := hr6.c4; have p6 := hr6.lt; have r6 := hR6.lt; have z0 := hR6.c0; have z1 := hR6.c1; have z2 := hR6.c2; have y0 := hR6.fz 0; have y1 := hR6.fz 1; have y2 := hR6.fz 2)
    have hs6 := hf6.size
    have hC7 : RC (w6.alloc (.cells #[.int .i64 a, .int .i64 b, .slice A n c] 24)) w6.heap.size (.int .i64 a) (.int .i64 b) (.slice A n c) := RC.new w6
    have hr7 := hr6.fr (Fr.al (xs := []) w6 (.cells #[.int .i64 a, .int .i64 b, .slice A n c] 24)) (by simp)
    have hR7 := hR6.fr (Fr.al (xs := []) w6 (.cells #[.int .i64 a, .int .i64 b, .slice A n c] 24)) (by simp)
    have t7 := (ht6.mono (S' := fun p => w.heap.size < p) (fun p hp _ => by omega)).alloc (.cells #[.int .i64 a, .int .i64 b, .slice A n c] 24)
    have F7 := (F5.trans hf6).alloc (.cells #[.int .i64 a, .int .i64 b, .slice A n c] 24)
    generalize w6.alloc (.cells #[.int .i64 a, .int .i64 b, .slice A n c] 24) = w7 at *
    generalize w6.heap.size = B7 at *
    clear z0 z1 z2 y0 y1 y2 b6'
    have hj6 : k6 + 1 ≤ s.size := head_le hc
    have hpre : (⟨#[44]⟩ : ByteArray).data.toList <+: s.data.toList.drop k6 := pre_iff hc
    have hdd : (s.data.toList.drop k6).drop 1 = s.data.toList.drop (k6 + 1) := drop_drop1 s k6
    rw [hdd] at hr2'
    refine (rwant_yes hr7 hs hpre (by decide)).mono ?_
    rintro e w9 ⟨rfl, hr9, hf9⟩
    have hr9 : Rp w9 pb s (k6 + 1) (dp + 1) 0 0 := hr9
    have hR9 := hR7.fr hf9 (by simp; omega)
    have hC9 := hC7.fr hf9 (by simp; omega)
    have b9 := hr9.c4
    have lC9 := hC9.lt
    have t9' := t7.fr hf9 (by simp; omega)
    have F9 := F7.trans hf9
    have co2 := ih w9 pb (k6 + 1) (dp + 1) s hr9 hj6 hs (by omega)
    rw [hr2'] at co2
    clear hr2' hdd
    go_wp2_with (go_at_call 30; refine co2.mono ?_; rintro e w10 ⟨a2, b2, A2, n2, c2, k10, rfl, ht10, hr10, hk10, rfl, hf10⟩; have hR10 := hR9.fr hf10 (by simp; omega); have hC10 := hC9.fr hf10 (by simp; omega); have b10' := hr10.c4; have d10 := hr10.c2; have e10 := hr10.fz 2; have p10 := hr10.lt; have r10 := hR10.lt; have m10 := hC10.lt; have x0 := hC10.c0; have x1 := hC10.c1; have x2 := hC10.c2; have z0 := hR10.c0; have z1 := hR10.c1; have z2 := hR10.c2; have y0 := hR10.fz 0; have y1 := hR10.fz 1; have y2 := hR10.fz 2)
    have hs9 := hf9.size
    have hs10 := hf10.size
    have hD11 : RC (w10.alloc (.cells #[.int .i64 a2, .int .i64 b2, .slice A2 n2 c2] 24)) w10.heap.size (.int .i64 a2) (.int .i64 b2) (.slice A2 n2 c2) := RC.new w10
    have hr11 := hr10.fr (Fr.al (xs := []) w10 (.cells #[.int .i64 a2, .int .i64 b2, .slice A2 n2 c2] 24)) (by simp)
    have hR11 := hR10.fr (Fr.al (xs := []) w10 (.cells #[.int .i64 a2, .int .i64 b2, .slice A2 n2 c2] 24)) (by simp)
    have hC11 := hC10.fr (Fr.al (xs := []) w10 (.cells #[.int .i64 a2, .int .i64 b2, .slice A2 n2 c2] 24)) (by simp)
    have tA11 := (t9'.fr hf10 (by simp; omega)).alloc (.cells #[.int .i64 a2, .int .i64 b2, .slice A2 n2 c2] 24)
    have tB11 := (ht10.mono (S' := fun p => w.heap.size < p) (fun p hp _ => by omega)).alloc (.cells #[.int .i64 a2, .int .i64 b2, .slice A2 n2 c2] 24)
    have F11 := (F9.trans hf10).alloc (.cells #[.int .i64 a2, .int .i64 b2, .slice A2 n2 c2] 24)
    generalize w10.alloc (.cells #[.int .i64 a2, .int .i64 b2, .slice A2 n2 c2] 24) = w11 at *
    generalize w10.heap.size = B11 at *
    clear x0 x1 x2 z0 z1 z2 y0 y1 y2 b10' d10 e10
    have hj10 : k10 + 1 ≤ s.size := head_le hc2
    have hpre2 : (⟨#[41]⟩ : ByteArray).data.toList <+: s.data.toList.drop k10 := pre_iff hc2
    refine (rwant_yes hr11 hs hpre2 (by decide)).mono ?_
    rintro e w13 ⟨rfl, hr13, hf13⟩
    have hr13 : Rp w13 pb s (k10 + 1) (dp + 1) 0 0 := hr13
    have hs13 := hf13.size
    have hR13 := hR11.fr hf13 (by simp; omega)
    have hC13 := hC11.fr hf13 (by simp; omega)
    have hD13 := hD11.fr hf13 (by simp; omega)
    have d13 := hr13.c2
    have e13 := hr13.fz 2
    have p13 := hr13.lt
    have r13 := hR13.lt
    have m13 := hC13.lt
    have n13 := hD13.lt
    have x0 := hC13.c0
    have x1 := hC13.c1
    have x2 := hC13.c2
    have s0 := hD13.c0
    have s1 := hD13.c1
    have s2 := hD13.c2
    have z0 := hR13.c0
    have z1 := hR13.c1
    have z2 := hR13.c2
    have y0 := hR13.fz 0
    have y1 := hR13.fz 1
    have y2 := hR13.fz 2
    go_wp2_with fail
    have g12 : Fr [pb] w13 (w13.setCell ⟨pb, 2, none⟩ (.int .i64 (dp : Int))) := (Fr.refl _ _).setCell (.inl (by simp)) _
    have g13 := Fr.set3 (w13.setCell ⟨pb, 2, none⟩ (.int .i64 (dp : Int))) w.heap.size (.int .i64 77) (.int .i64 0) (.slice (some ⟨w13.heap.size, 0, none⟩) 2 2)
    have hRp := (hr13.set2 dp).fr g13 (by simp; omega)
    have hRC := (hR13.fr g12 (by simp; omega)).set3 (.int .i64 77) (.int .i64 0) (.slice (some ⟨w13.heap.size, 0, none⟩) 2 2)
    have hF := ((F11.trans hf13).trans g12).over' g13 (by simp)
    have e14 : ((((w13.setCell ⟨pb, 2, none⟩ (.int .i64 (dp : Int))).setCell ⟨w.heap.size, 0, none⟩ (.int .i64 77)).setCell ⟨w.heap.size, 1, none⟩ (.int .i64 0)).setCell ⟨w.heap.size, 2, none⟩ (.slice (some ⟨w13.heap.size, 0, none⟩) 2 2)).heap.size = w13.heap.size := by simp
    have tA := (((tA11.fr hf13 (by simp; omega)).fr g12 (by simp; omega)).fr g13 (by simp)).alloc (.cells #[.int .i64 a, .int .i64 b, .slice A n c, .int .i64 a2, .int .i64 b2, .slice A2 n2 c2] 24)
    have tB := (((tB11.fr hf13 (by simp; omega)).fr g12 (by simp; omega)).fr g13 (by simp)).alloc (.cells #[.int .i64 a, .int .i64 b, .slice A n c, .int .i64 a2, .int .i64 b2, .slice A2 n2 c2] 24)
    generalize (((w13.setCell ⟨pb, 2, none⟩ (.int .i64 (dp : Int))).setCell ⟨w.heap.size, 0, none⟩ (.int .i64 77)).setCell ⟨w.heap.size, 1, none⟩ (.int .i64 0)).setCell ⟨w.heap.size, 2, none⟩ (.slice (some ⟨w13.heap.size, 0, none⟩) 2 2) = w14 at *
    refine retT oneRes rfl (hRC.fr (Fr.al (xs := []) _ _) (by simp)) ?_
    exact ⟨77, 0, _, 2, 2, k10 + 1, rfl, ⟨w13.heap.size, ⟨a, b, A, n, c⟩, ⟨a2, b2, A2, n2, c2⟩, (by show _ ≤ _; omega), rfl, alloc_at e14.symm, tA.mono (fun p hp _ => by omega), tB.mono (fun p hp _ => by omega)⟩, hRp.fr (Fr.al (xs := []) _ _) (by simp), hj10, by rw [drop_drop1], hF.alloc _⟩
end Go.Proofs.YthadeccnibnioaaGreatDoor
