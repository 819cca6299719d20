import Derived.Test.YthadeccnibnioaaGreatDoorSl
import Derived.Test.YthadeccnibnioaaGreatDoorSk
import Derived.Deep.DeepCutAuto
/- The document's reader: all its levels. -/
namespace Go.Proofs.YthadeccnibnioaaGreatDoor
open Go.RowKit
set_option linter.unusedVariables false
theorem one_any {d : Nat} (ih : ∀ e, d = e + 1 → WhOK e) : OneOK d := by
  intro w pb k dp s h hk hs hd
  by_cases n1 : (s.data.toList.drop k).head? = some 110
  · exact one_n h hk hs n1
  by_cases n2 : (s.data.toList.drop k).head? = some 115
  · exact one_s h hk hs n2
  by_cases n3 : (s.data.toList.drop k).head? = some 40
  · cases d with
    | zero => exact one_brk0 h hk hs hd n3
    | succ e =>
      cases hr1 : chP e (s.data.toList.drop (k + 1)) with
      | bad pl er => exact one_brk_bad (ih e rfl) h hk hs hd n3 hr1
      | ok ta v =>
        by_cases hc : v.head? = some 41
        · exact one_brk_ok (ih e rfl) h hk hs hd n3 hr1 hc
        · exact one_brk_no (ih e rfl) h hk hs hd n3 hr1 hc
  by_cases m1 : [109, 105, 110, 40] <+: s.data.toList.drop k
  · cases d with
    | zero => exact min_zero h hk hs hd m1
    | succ e =>
      cases hr1 : chP e (s.data.toList.drop (k + 4)) with
      | bad pl er => exact min_bad1 (ih e rfl) h hk hs hd m1 hr1
      | ok ta v =>
        by_cases hc : v.head? = some 44
        · cases hr2 : chP e (v.drop 1) with
          | bad pl er => exact min_bad2 (ih e rfl) h hk hs hd m1 hr1 hc hr2
          | ok tb v2 =>
            by_cases hc2 : v2.head? = some 41
            · exact min_ok (ih e rfl) h hk hs hd m1 hr1 hc hr2 hc2
            · exact min_no2 (ih e rfl) h hk hs hd m1 hr1 hc hr2 hc2
        · exact min_no1 (ih e rfl) h hk hs hd m1 hr1 hc
  by_cases m2 : [109, 97, 120, 40] <+: s.data.toList.drop k
  · cases d with
    | zero => exact max_zero h hk hs hd m2
    | succ e =>
      cases hr1 : chP e (s.data.toList.drop (k + 4)) with
      | bad pl er => exact max_bad1 (ih e rfl) h hk hs hd m2 hr1
      | ok ta v =>
        by_cases hc : v.head? = some 44
        · cases hr2 : chP e (v.drop 1) with
          | bad pl er => exact max_bad2 (ih e rfl) h hk hs hd m2 hr1 hc hr2
          | ok tb v2 =>
            by_cases hc2 : v2.head? = some 41
            · exact max_ok (ih e rfl) h hk hs hd m2 hr1 hc hr2 hc2
            · exact max_no2 (ih e rfl) h hk hs hd m2 hr1 hc hr2 hc2
        · exact max_no1 (ih e rfl) h hk hs hd m2 hr1 hc
  have e : singleF (inCh d) (s.data.toList.drop k) = numF (s.data.toList.drop k) := by
    unfold singleF
    rw [if_neg n1, if_neg n2, if_neg n3, if_neg m1, if_neg m2]
  rw [e]
  exact one_num h hk hs (by omega) m1 m2 n1 n2 n3
theorem all_levels : ∀ d : Nat, WhOK d ∧ LessOK d
  | 0 => by
    have h1 := one_any (d := 0) (fun e he => by omega)
    have h2 := less_any h1 (fun e he => by omega)
    exact ⟨wh_any (cmp_any (row_any (.inl ⟨rfl, rfl⟩) (row_any (.inr ⟨rfl, rfl⟩) (row_four h2) (shr_sg 0)) (shr_pr 0))) (fun e he => by omega), h2⟩
  | d + 1 => by
    obtain ⟨i1, i2⟩ := all_levels d
    have h1 := one_any (d := d + 1) (fun e he => by cases Nat.succ.inj he; exact i1)
    have h2 := less_any h1 (fun e he => by cases Nat.succ.inj he; exact i2)
    exact ⟨wh_any (cmp_any (row_any (.inl ⟨rfl, rfl⟩) (row_any (.inr ⟨rfl, rfl⟩) (row_four h2) (shr_sg (d + 1))) (shr_pr (d + 1)))) (fun e he => by cases Nat.succ.inj he; exact i1), h2⟩
end Go.Proofs.YthadeccnibnioaaGreatDoor

/- The document's reader: Parse. -/
namespace Go.Proofs.YthadeccnibnioaaGreatDoor
open Go.RowKit
set_option linter.unusedVariables false
def OutP (s : ByteArray) (w : World) (r : Res) (e : Ending) (w' : World) : Prop :=
  match r with
  | .ok t _ => ∃ (a b : Int) (A : Option Addr) (n c : Nat), e = .returned (.tuple #[.agg #[.int .i64 a, .int .i64 b, .slice A n c], .int .i64 0, .int .i64 0]) ∧ TrV (fun p => w.heap.size ≤ p) w' t ⟨a, b, A, n, c⟩ ∧ Below w.heap.size w w'
  | .bad pl er => e = .returned (.tuple #[.agg #[.int .i64 0, .int .i64 0, .slice none 0 0], .int .i64 ((s.size - pl : Nat) : Int), .int .i64 (er : Nat)]) ∧ Below w.heap.size w w'
set_option maxHeartbeats 4000000 in
set_option maxRecDepth 100000 in
theorem parse_long (s : ByteArray) (w : World) (hl : 120 < s.size) : Calls Tryz.prog 8 #[.string s] w (OutP s w (.bad s.size 4)) := by
  have hl' : (120 : Int) < (s.size : Int) := by omega
  have hz : ((s.size - s.size : Nat) : Int) = 0 := by omega
  unfold OutP
  simp only [hz]
  go_enter Tryz.func8, Tryz.ntmps8
  go_wp2_with fail
  exact bodyPost_ret (v := .tuple #[.agg #[.int .i64 0, .int .i64 0, .slice none 0 0], .int .i64 0, .int .i64 4]) (by simp [results, Tryz.results8, go_sem]) rfl ⟨rfl, by first | exact (Below.refl _ _).alloc (Nat.le_refl _) _ | exact ((((Below.refl _ _).alloc (Nat.le_refl _) _).setCell (Nat.le_refl _) _).setCell (Nat.le_refl _) _).setCell (Nat.le_refl _) _⟩
set_option maxHeartbeats 4000000 in
set_option maxRecDepth 100000 in
theorem parse_short (s : ByteArray) (w : World) (hl : s.size ≤ 120) : Calls Tryz.prog 8 #[.string s] w (OutP s w (wholeP s.data.toList)) := by
  have hl' : ¬ (120 : Int) < (s.size : Int) := by omega
  have hP : Rp ((w.alloc (.cells tz 24)).alloc (.cells #[.string s, .int .i64 0, .int .i64 0, .int .i64 0, .int .i64 0] 71)) (w.heap.size + 1) s 0 0 0 0 := heap_alloc2_new w _ _
  have hW := (all_levels 20).1 _ _ 0 0 s hP (by omega) hl (by omega)
  rw [List.drop_zero] at hW
  have hR : RC ((w.alloc (.cells tz 24)).alloc (.cells #[.string s, .int .i64 0, .int .i64 0, .int .i64 0, .int .i64 0] 71)) w.heap.size (.int .i64 0) (.int .i64 0) (.slice none 0 0) := heap_alloc2_old w _ _
  have bA : Below w.heap.size w ((w.alloc (.cells tz 24)).alloc (.cells #[.string s, .int .i64 0, .int .i64 0, .int .i64 0, .int .i64 0] 71)) := ((Below.refl _ _).alloc (Nat.le_refl _) _).alloc (by simp) _
  have hzA : ((w.alloc (.cells tz 24)).alloc (.cells #[.string s, .int .i64 0, .int .i64 0, .int .i64 0, .int .i64 0] 71)).heap.size = w.heap.size + 2 := by simp
  cases hc : chP 20 s.data.toList with
  | bad pl er =>
    have hwp : wholeP s.data.toList = .bad pl er := by unfold wholeP; rw [hc]
    rw [hc] at hW
    rw [hwp]
    clear hwp hc
    have HR := Lib.hid hR
    have HB := Lib.hid bA
    have HZ := Lib.hid hzA
    clear hR bA hzA hP
    simp only [tz] at hW HR HB HZ
    go_enter Tryz.func8, Tryz.ntmps8
    go_wp2_with (go_at_call 30; refine hW.mono ?_; rintro e w2 ⟨a, b, A, n, c, k, dp', rfl, hr, he, h1, h2, h3, hf⟩; refine Hid.out ?_)
    refine Lib.hid ?_
    have hbW : Below w.heap.size w w2 := HB.out.trans (hf.toBelow (B := w.heap.size) (by rw [HZ.out]; omega) (by simp))
    have hR2 := HR.out.fr hf (by simp)
    have b3 : Below w2.heap.size w2 (w2.alloc (.cells #[.int .i64 a, .int .i64 b, .slice A n c] 24)) := (Below.refl _ _).alloc (Nat.le_refl _) _
    have hr3 := hr.fr (xs := []) (Fr.al (xs := []) w2 (.cells #[.int .i64 a, .int .i64 b, .slice A n c] 24)) (by simp)
    have hR3 := hR2.fr (xs := []) (Fr.al (xs := []) w2 (.cells #[.int .i64 a, .int .i64 b, .slice A n c] 24)) (by simp)
    have hb3 : Below w.heap.size w (w2.alloc (.cells #[.int .i64 a, .int .i64 b, .slice A n c] 24)) := hbW.trans (b3.mono hbW.size)
    have x3 := hr3.c3
    have x4 := hr3.c4
    have z0 := hR3.c0
    have z1 := hR3.c1
    have z2 := hR3.c2
    have y0 := hR3.fz 0
    have y1 := hR3.fz 1
    have y2 := hR3.fz 2
    have he' : ((er : Int) == 0) = false := by simp; omega
    have hq4 := hr.c4
    have hnn : w.heap.size ≠ w.heap.size + 1 := by omega
    have hrl := hr3.lt
    have hRl := hR3.lt
    have HB3 := Lib.hid hb3
    clear hr3 hR3 hb3 hbW hR2 b3 hf hW HR HB HZ hr h1 h2 h3
    go_wp2_with fail
    generalize w2.alloc (.cells #[.int .i64 a, .int .i64 b, .slice A n c] 24) = w3 at *
    go_region
    all_goals
      go_wp2_with fail
      exact bodyPost_ret (v := .tuple #[.agg #[.int .i64 0, .int .i64 0, .slice none 0 0], .int .i64 ((s.size - pl : Nat) : Int), .int .i64 (er : Nat)]) (by simp [results, Tryz.results8, go_sem, z0, z1, z2]) rfl ⟨rfl, (((HB3.out.setCell (p := ⟨w.heap.size, 0, none⟩) (Nat.le_refl _) _).setCell (p := ⟨w.heap.size, 1, none⟩) (Nat.le_refl _) _).setCell (p := ⟨w.heap.size, 2, none⟩) (Nat.le_refl _) _).drew⟩
  | ok t u =>
    rw [hc] at hW
    have HR := Lib.hid hR
    have HB := Lib.hid bA
    have HZ := Lib.hid hzA
    have HCc := Lib.hid hc
    clear hR bA hzA hP hc
    simp only [tz] at hW HR HB HZ
    generalize hwp : wholeP s.data.toList = WP at *
    have HWp := Lib.hid hwp
    clear hwp
    go_enter Tryz.func8, Tryz.ntmps8
    go_wp2_with (go_at_call 30; refine hW.mono ?_; rintro e w2 ⟨a, b, A, n, c, k, rfl, hT, hr, hk, hu, hf⟩; refine Hid.out ?_)
    refine Lib.hid ?_
    have hbW : Below w.heap.size w w2 := HB.out.trans (hf.toBelow (B := w.heap.size) (by rw [HZ.out]; omega) (by simp))
    have hR2 := HR.out.fr hf (by simp)
    have b3 : Below w2.heap.size w2 (w2.alloc (.cells #[.int .i64 a, .int .i64 b, .slice A n c] 24)) := (Below.refl _ _).alloc (Nat.le_refl _) _
    have hr3 := hr.fr (xs := []) (Fr.al (xs := []) w2 (.cells #[.int .i64 a, .int .i64 b, .slice A n c] 24)) (by simp)
    have hR3 := hR2.fr (xs := []) (Fr.al (xs := []) w2 (.cells #[.int .i64 a, .int .i64 b, .slice A n c] 24)) (by simp)
    have hb3 : Below w.heap.size w (w2.alloc (.cells #[.int .i64 a, .int .i64 b, .slice A n c] 24)) := hbW.trans (b3.mono hbW.size)
    have hRl := hR3.lt
    by_cases hend : k = s.size
    · have hu0 : u = [] := by rw [hu, hend, List.drop_eq_nil_iff]; simp
      have hWq : WP = .ok t [] := by rw [← HWp.out]; unfold wholeP; rw [HCc.out]; simp only; rw [if_pos hu0]
      have hT3 : TrV (fun p => w.heap.size ≤ p) (((w2.alloc (.cells #[.int .i64 a, .int .i64 b, .slice A n c] 24)).setCell ⟨w.heap.size, 0, none⟩ (.int .i64 a)).setCell ⟨w.heap.size, 1, none⟩ (.int .i64 b) |>.setCell ⟨w.heap.size, 2, none⟩ (.slice A n c)) t ⟨a, b, A, n, c⟩ := by
        have hk1 : TrV (fun p => w.heap.size + 2 ≤ p) (((w2.alloc (.cells #[.int .i64 a, .int .i64 b, .slice A n c] 24)).setCell ⟨w.heap.size, 0, none⟩ (.int .i64 a)).setCell ⟨w.heap.size, 1, none⟩ (.int .i64 b) |>.setCell ⟨w.heap.size, 2, none⟩ (.slice A n c)) t ⟨a, b, A, n, c⟩ := by
          rw [HZ.out] at hT
          refine TrV.keep (fun p o hp ho => ?_) t _ hT
          rw [Below.heap_setCell _ _ _ _ (by simp only; omega), Below.heap_setCell _ _ _ _ (by simp only; omega), Below.heap_setCell _ _ _ _ (by simp only; omega), b3.block _ (some_lt ho)]; exact ho
        exact TrV.mono (fun p hp _ => by omega) hk1
      have x1 := hr3.c1
      have x4 := hr3.c4
      have z0 := hR3.c0
      have z1 := hR3.c1
      have z2 := hR3.c2
      have y0 := hR3.fz 0
      have y1 := hR3.fz 1
      have y2 := hR3.fz 2
      have hke : ¬ (k : Int) < (s.size : Int) := by omega
      have hrl := hr3.lt
      have HB3 := Lib.hid hb3
      have HT3 := Lib.hid hT3
      have k0 : (w2.alloc (.cells #[.int .i64 a, .int .i64 b, .slice A n c] 24)).cell? ⟨w2.heap.size, 0, none⟩ = some (.int .i64 a) := by simp
      have k1 : (w2.alloc (.cells #[.int .i64 a, .int .i64 b, .slice A n c] 24)).cell? ⟨w2.heap.size, 1, none⟩ = some (.int .i64 b) := by simp
      have k2 : (w2.alloc (.cells #[.int .i64 a, .int .i64 b, .slice A n c] 24)).cell? ⟨w2.heap.size, 2, none⟩ = some (.slice A n c) := by simp
      have HWq := Lib.hid hWq
      have hnn : w.heap.size ≠ w.heap.size + 1 := by omega
      have hn2 : w.heap.size ≠ w2.heap.size := by have := hR2.lt; omega
      clear hr3 hR3 hb3 hbW hR2 b3 hf hW HR HB HZ hr hT hT3 hu hu0 hWq HCc HWp
      go_upto_region 5 with fail
      generalize w2.alloc (.cells #[.int .i64 a, .int .i64 b, .slice A n c] 24) = w3 at *
      go_wp2_with fail
      refine bodyPost_ret (v := .tuple #[.agg #[.int .i64 a, .int .i64 b, .slice A n c], .int .i64 0, .int .i64 0]) (by simp [results, Tryz.results8, go_sem, z0, z1, z2]) rfl ?_
      rw [HWq.out]
      exact ⟨a, b, A, n, c, rfl, HT3.out, ((HB3.out.setCell (p := ⟨w.heap.size, 0, none⟩) (Nat.le_refl _) _).setCell (p := ⟨w.heap.size, 1, none⟩) (Nat.le_refl _) _).setCell (p := ⟨w.heap.size, 2, none⟩) (Nat.le_refl _) _⟩
    · have hkl : k < s.size := by omega
      have hune : u ≠ [] := fun e => by
        rw [hu, List.drop_eq_nil_iff] at e
        simp at e
        omega
      have hWq : WP = .bad u.length 2 := by rw [← HWp.out]; unfold wholeP; rw [HCc.out]; simp only; rw [if_neg hune]
      have hul : s.size - u.length = k := by rw [hu]; exact len_drop hk
      have x1 := hr3.c1
      have x4 := hr3.c4
      have hke : (k : Int) < (s.size : Int) := by omega
      have hrl := hr3.lt
      have HFa := Lib.hid (rfail_any hr3 k 2)
      have HRr := Lib.hid hR3
      have HB3 := Lib.hid hb3
      have HWq := Lib.hid hWq
      have HUl := Lib.hid hul
      have hnn : w.heap.size ≠ w.heap.size + 1 := by omega
      have hpo : w.heap.size ≤ w.heap.size + 1 := by omega
      clear hr3 hR3 hb3 hbW hR2 b3 hf hW HR HB HZ hr hT hu hune hWq HCc HWp hul
      go_upto_region 5 with fail
      generalize w2.alloc (.cells #[.int .i64 a, .int .i64 b, .slice A n c] 24) = w3 at *
      go_wp2_with (go_at_call 31; refine HFa.out.mono ?_; rintro e w4 ⟨rfl, hr4, hf4⟩; refine Hid.out ?_)
      refine Lib.hid ?_
      have hR4 := HRr.out.fr hf4 (by simp)
      have x3 := hr4.c3
      have x5 := hr4.c4
      have z0 := hR4.c0
      have z1 := hR4.c1
      have z2 := hR4.c2
      have y0 := hR4.fz 0
      have y1 := hR4.fz 1
      have y2 := hR4.fz 2
      have HB4 := Lib.hid (show Below w.heap.size w w4 from HB3.out.trans (hf4.toBelow (B := w.heap.size) HB3.out.size (by simp)))
      clear hr4 hR4 hf4 HFa HRr HB3 x1 x4
      go_wp2_with fail
      go_region
      all_goals
        go_wp2_with fail
        refine bodyPost_ret (v := .tuple #[.agg #[.int .i64 0, .int .i64 0, .slice none 0 0], .int .i64 (k : Nat), .int .i64 2]) (by simp [results, Tryz.results8, go_sem, z0, z1, z2]) rfl ?_
        rw [HWq.out]
        exact ⟨by rw [HUl.out]; rfl, (((HB4.out.setCell (p := ⟨w.heap.size, 0, none⟩) (Nat.le_refl _) _).setCell (p := ⟨w.heap.size, 1, none⟩) (Nat.le_refl _) _).setCell (p := ⟨w.heap.size, 2, none⟩) (Nat.le_refl _) _).drew⟩
theorem parse_any (s : ByteArray) (w : World) : Calls Tryz.prog 8 #[.string s] w (OutP s w (readP s.data.toList)) := by
  have hlen : s.data.toList.length = s.size := by simp
  unfold readP
  by_cases h : 120 < s.size
  · rw [if_pos (by omega), hlen]; exact parse_long s w h
  · rw [if_neg (by omega)]; exact parse_short s w (by omega)
end Go.Proofs.YthadeccnibnioaaGreatDoor
