/- value, hasState, turned. -/
import Derived.Test.YthadeccnibnioaaGreatDoorKa
import Derived.Test.YthadeccnibnioaaGreatDoorHp
import Derived.Test.YthadeccnibnioaaGreatDoorRz5
import Derived.Deep.RegionHeld3
import Derived.Lib.AppendIntMem
import Derived.Lib.ItoaLen
import Derived.Laws.Concat
namespace Go.Proofs.YthadeccnibnioaaGreatDoor
open Go.RowKit
open Go.Lib (itoa)
set_option linter.unusedVariables false

def TabOK (w : World) : Prop := Lib.TabIs Tryz.prog w "internal/strconv.uint64pow10" .u64 Lib.pow10Tab
theorem TabOK.below {w w' : World} (h : TabOK w) (hb : Below w.heap.size w w') : TabOK w' := ((Lib.tabBelow_of_tabIs h).on hb).here
/-- What the library's calls lean on. -/
structure Gd (w : World) : Prop where
  gl : Gl w
  tab : TabOK w
theorem Gd.below {w w' : World} (h : Gd w) (hb : Below w.heap.size w w') : Gd w' := ⟨h.gl.fr (xs := []) (Fr.below hb) (by simp), h.tab.below hb⟩
theorem Gd.drewN {w : World} (h : Gd w) (n : Nat) : Gd (w.drewN n) := h.below (below_drewN (Below.refl _ _) n)
theorem Gd.alloc {w : World} (h : Gd w) (o : Obj) : Gd (w.alloc o) := h.below ((Below.refl _ _).alloc (Nat.le_refl _) o)

theorem value_of {w : World} {x : ByteArray} (hg : Gl w) (hmax : x.size ≤ 9223372036854775807) (n s : Int) :
    Calls Tryz.prog 213 #[.string x, .int .i64 n, .int .i64 s] w fun e w' => e = .returned (.int .i64 (valP x n s)) ∧ Below w.heap.size w w' := by
  have he := eval_any hg hmax n s
  unfold evP at he
  unfold valP
  cases hR : readP x.data.toList with
  | ok t u =>
    rw [hR] at he
    simp only at he ⊢
    generalize ev n s t = r at *
    clear hR
    go_enter Tryz.func213, Tryz.ntmps213
    go_wp2_with (go_at_call 14; refine he.mono ?_; rintro e w' ⟨rfl, hb⟩)
    go_ret
    exact ⟨rfl, hb⟩
  | bad pl er =>
    rw [hR] at he
    simp only at he ⊢
    clear hR
    go_enter Tryz.func213, Tryz.ntmps213
    go_wp2_with (go_at_call 14; refine he.mono ?_; rintro e w' ⟨rfl, hb⟩)
    go_ret
    exact ⟨rfl, hb⟩

theorem hasState_of (k : Int) (w : World) : Calls Tryz.prog 193 #[.int .i64 k] w fun e w' => e = .returned (.bool (hasStP k)) ∧ w = w' := by
  unfold hasStP
  by_cases h7 : k = 7
  · have e7 : (k == 7) = true := by simp [h7]
    rw [e7]
    clear h7
    go_enter Tryz.func193, Tryz.ntmps193
    go_wp2
    go_ret
    exact ⟨rfl, rfl⟩
  · have e7 : (k == 7) = false := by simp [h7]
    rw [e7]
    clear h7
    by_cases h8 : k = 8
    · have e8 : (k == 8) = true := by simp [h8]
      rw [e8]
      clear h8
      go_enter Tryz.func193, Tryz.ntmps193
      go_wp2
      go_ret
      exact ⟨rfl, rfl⟩
    · have e8 : (k == 8) = false := by simp [h8]
      rw [e8]
      clear h8
      have e9 : ∃ b, (k == 9) = b := ⟨_, rfl⟩
      obtain ⟨b, e9⟩ := e9
      rw [e9]
      go_enter Tryz.func193, Tryz.ntmps193
      go_wp2
      go_ret
      exact ⟨rfl, rfl⟩

theorem bcell {W w1 : World} (hb : Below W.heap.size W w1) : (∀ b o, b < W.heap.size → w1.cell? ⟨b, o, none⟩ = W.cell? ⟨b, o, none⟩) ∧ (∀ b o, b < W.heap.size → w1.frozen? ⟨b, o, none⟩ = W.frozen? ⟨b, o, none⟩) :=
  ⟨fun b o h => hb.cell (p := ⟨b, o, none⟩) h, fun b o h => hb.frozen (p := ⟨b, o, none⟩) h⟩
theorem below_drew {B : Nat} {a b : World} (h : Below B a b) : Below B a b.drew := ⟨h.os, h.tape, h.output, h.size, h.block⟩
theorem below3 (w : World) (a b c : Obj) : Below w.heap.size w (((w.alloc a).alloc b).alloc c) := (((Below.refl _ w).alloc (Nat.le_refl _) _).alloc (by simp) _).alloc (by simp; omega) _

theorem itoa_of {w : World} (hT : TabOK w) {n : Int} (h0 : -9223372036854775808 ≤ n) (h1 : n ≤ 9223372036854775807) :
    Calls Tryz.prog 131 #[.int .i64 n] w fun e w' => e = .returned (.string (itoB n)) ∧ Below w.heap.size w w' :=
  (Tryz.strconv_Itoa n h0 h1 w hT).mono fun e w' ⟨h, k, os, hw⟩ => ⟨h, by rw [hw]; exact Lib.below_grow _ _ (Nat.le_refl _) _ _⟩
theorem itoa_small (i : Nat) (hi : i < 100) (w : World) :
    Calls Tryz.prog 131 #[.int .i64 i] w fun e w' => e = .returned (.string (itoB (i : Int))) ∧ w = w' :=
  (Tryz.strconv_Itoa_small i hi w).mono fun e w' ⟨h, hw⟩ => ⟨by rw [h]; unfold itoB itoa; rw [if_neg (by omega)]; rfl, hw.symm⟩
theorem itoB_size {n : Int} (h0 : -9223372036854775808 ≤ n) (h1 : n ≤ 9223372036854775807) : (itoB n).size ≤ 21 := by
  have := Lib.itoa_length_le n h0 h1
  unfold itoB; simpa [ByteArray.size] using this

set_option maxRecDepth 100000 in
set_option maxHeartbeats 4000000 in
theorem turned_one {w : World} (hg : Gd w) (k : Int) (fs : List Int) (tx : ByteArray) (nn : Int) (fa : Option Addr) (fc : Nat) (r : Rc) (input : Int) (hr : RcOk r) (ht : tx.size ≤ 9223372036854775807) (hin : 0 ≤ input ∧ input < 100) (hk : k = 1 ∨ k = 10) :
    Calls Tryz.prog 195 #[ndV ⟨k, fs, tx, nn⟩ fa fc, rcV r, .int .i64 input] w fun e w' => e = .returned (.tuple #[rcV (turnedP ⟨k, fs, tx, nn⟩ r input).1, .int .i64 (turnedP ⟨k, fs, tx, nn⟩ r input).2]) ∧ Below w.heap.size w w' := by
  obtain ⟨key, num, time⟩ := r
  have hnr : Rng num := hr.num
  have hks : key.size ≤ 40 := hr.key
  clear hr
  simp only [ndV, rcV, turnedP] at *
  rw [if_pos hk]
  rcases hk with rfl | rfl
  all_goals
    go_enter Tryz.func195, Tryz.ntmps195
    go_wp2_with fail
    exact bodyPost_ret (v := .tuple #[.agg #[.string key, .int .i64 num, .int .i64 time], .int .i64 1]) (by simp [results, Tryz.results195, go_sem]) rfl ⟨rfl, below3 _ _ _ _⟩

set_option maxRecDepth 100000 in
set_option maxHeartbeats 4000000 in
theorem turned_map {w : World} (hg : Gd w) (k : Int) (fs : List Int) (tx : ByteArray) (nn : Int) (fa : Option Addr) (fc : Nat) (r : Rc) (input : Int) (hr : RcOk r) (ht : tx.size ≤ 9223372036854775807) (hin : 0 ≤ input ∧ input < 100) (hk : k = 2) :
    Calls Tryz.prog 195 #[ndV ⟨k, fs, tx, nn⟩ fa fc, rcV r, .int .i64 input] w fun e w' => e = .returned (.tuple #[rcV (turnedP ⟨k, fs, tx, nn⟩ r input).1, .int .i64 (turnedP ⟨k, fs, tx, nn⟩ r input).2]) ∧ Below w.heap.size w w' := by
  obtain ⟨key, num, time⟩ := r
  have hnr : Rng num := hr.num
  have hks : key.size ≤ 40 := hr.key
  clear hr
  simp only [ndV, rcV, turnedP] at *
  have hv := fun (w1 : World) (hb : Below w.heap.size w w1) => value_of (w := w1) (x := tx) (hg.below hb).gl ht num 0
  have hxr := rng_val tx hnr (show Rng 0 by unfold Rng; omega)
  generalize valP tx num 0 = x at *
  have HV := Lib.hid hv
  clear hv
  subst hk
  simp only [show ¬ ((2 : Int) = 1 ∨ (2 : Int) = 10) from by omega, if_false, if_true]
  have hB := below3 w (.cells #[.int .i64 2, .slice fa fs.length fc, .string tx, .int .i64 nn] 52) (.cells #[.string key, .int .i64 num, .int .i64 time] 164) (.cells #[.string ⟨#[]⟩, .int .i64 0, .int .i64 0] 164)
  go_enter Tryz.func195, Tryz.ntmps195
  go_wp2_with fail
  refine (HV.out _ hB).mono ?_
  rintro e w1 ⟨rfl, hb1⟩
  obtain ⟨hc, hf⟩ := bcell hb1
  go_wp2_with fail
  exact bodyPost_ret (v := .tuple #[.agg #[.string key, .int .i64 x, .int .i64 time], .int .i64 1]) (by simp [results, Tryz.results195, go_sem, hc]) rfl ⟨rfl, ((((hB.trans (hb1.mono hB.size)).setCell (by simp) _).setCell (by simp; omega) _).setCell (by simp; omega) _).setCell (by simp; omega) _⟩

set_option maxRecDepth 100000 in
set_option maxHeartbeats 4000000 in
theorem turned_flt {w : World} (hg : Gd w) (k : Int) (fs : List Int) (tx : ByteArray) (nn : Int) (fa : Option Addr) (fc : Nat) (r : Rc) (input : Int) (hr : RcOk r) (ht : tx.size ≤ 9223372036854775807) (hin : 0 ≤ input ∧ input < 100) (hk : k = 3) :
    Calls Tryz.prog 195 #[ndV ⟨k, fs, tx, nn⟩ fa fc, rcV r, .int .i64 input] w fun e w' => e = .returned (.tuple #[rcV (turnedP ⟨k, fs, tx, nn⟩ r input).1, .int .i64 (turnedP ⟨k, fs, tx, nn⟩ r input).2]) ∧ Below w.heap.size w w' := by
  obtain ⟨key, num, time⟩ := r
  have hnr : Rng num := hr.num
  have hks : key.size ≤ 40 := hr.key
  clear hr
  simp only [ndV, rcV, turnedP] at *
  have hv := fun (w1 : World) (hb : Below w.heap.size w w1) => value_of (w := w1) (x := tx) (hg.below hb).gl ht num 0
  have hxr := rng_val tx hnr (show Rng 0 by unfold Rng; omega)
  generalize valP tx num 0 = x at *
  have HV := Lib.hid hv
  clear hv
  subst hk
  simp only [show ¬ ((3 : Int) = 1 ∨ (3 : Int) = 10) from by omega, show ¬ ((3 : Int) = 2) from by omega, if_false, if_true]
  have hB := below3 w (.cells #[.int .i64 3, .slice fa fs.length fc, .string tx, .int .i64 nn] 52) (.cells #[.string key, .int .i64 num, .int .i64 time] 164) (.cells #[.string ⟨#[]⟩, .int .i64 0, .int .i64 0] 164)
  by_cases hx : x = 0
  · have hx0 : (x != 0) = false := by simp [hx]
    rw [if_neg (by simp [hx])]
    clear hx
    go_enter Tryz.func195, Tryz.ntmps195
    go_wp2_with fail
    refine (HV.out _ hB).mono ?_
    rintro e w1 ⟨rfl, hb1⟩
    obtain ⟨hc, hf⟩ := bcell hb1
    go_wp2_with fail
    exact bodyPost_ret (v := .tuple #[.agg #[.string key, .int .i64 num, .int .i64 time], .int .i64 0]) (by simp [results, Tryz.results195, go_sem, hc]) rfl ⟨rfl, (by repeat (first | refine Below.setCell ?_ (by simp <;> omega) _ | refine below_drew ?_ | refine below_drewN ?_ _ | refine Below.alloc ?_ (by simp <;> omega) _ | exact hB.trans (hb1.mono hB.size)))⟩
  · have hx0 : (x != 0) = true := by simp [hx]
    rw [if_pos hx]
    clear hx
    go_enter Tryz.func195, Tryz.ntmps195
    go_wp2_with fail
    refine (HV.out _ hB).mono ?_
    rintro e w1 ⟨rfl, hb1⟩
    obtain ⟨hc, hf⟩ := bcell hb1
    go_wp2_with fail
    exact bodyPost_ret (v := .tuple #[.agg #[.string key, .int .i64 num, .int .i64 time], .int .i64 1]) (by simp [results, Tryz.results195, go_sem, hc]) rfl ⟨rfl, (by repeat (first | refine Below.setCell ?_ (by simp <;> omega) _ | refine below_drew ?_ | refine below_drewN ?_ _ | refine Below.alloc ?_ (by simp <;> omega) _ | exact hB.trans (hb1.mono hB.size)))⟩

set_option maxRecDepth 100000 in
set_option maxHeartbeats 4000000 in
theorem turned_copy {w : World} (hg : Gd w) (k : Int) (fs : List Int) (tx : ByteArray) (nn : Int) (fa : Option Addr) (fc : Nat) (r : Rc) (input : Int) (hr : RcOk r) (ht : tx.size ≤ 9223372036854775807) (hin : 0 ≤ input ∧ input < 100) (hk : k = 5) :
    Calls Tryz.prog 195 #[ndV ⟨k, fs, tx, nn⟩ fa fc, rcV r, .int .i64 input] w fun e w' => e = .returned (.tuple #[rcV (turnedP ⟨k, fs, tx, nn⟩ r input).1, .int .i64 (turnedP ⟨k, fs, tx, nn⟩ r input).2]) ∧ Below w.heap.size w w' := by
  obtain ⟨key, num, time⟩ := r
  have hnr : Rng num := hr.num
  have hks : key.size ≤ 40 := hr.key
  clear hr
  simp only [ndV, rcV, turnedP] at *
  subst hk
  simp only [show ¬ ((5 : Int) = 1 ∨ (5 : Int) = 10) from by omega, show ¬ ((5 : Int) = 2) from by omega, show ¬ ((5 : Int) = 3) from by omega, show ¬ ((5 : Int) = 4) from by omega, if_false, if_true]
  go_enter Tryz.func195, Tryz.ntmps195
  go_wp2_with fail
  go_region
  go_wp2_with fail
  exact bodyPost_ret (v := .tuple #[.agg #[.string key, .int .i64 num, .int .i64 time], .int .i64 nn]) (by simp [results, Tryz.results195, go_sem]) rfl ⟨rfl, (by repeat (first | refine Below.setCell ?_ (by simp <;> omega) _ | refine below_drew ?_ | refine below_drewN ?_ _ | refine Below.alloc ?_ (by simp <;> omega) _ | exact Below.refl _ _))⟩

set_option maxRecDepth 100000 in
set_option maxHeartbeats 4000000 in
theorem turned_union {w : World} (hg : Gd w) (k : Int) (fs : List Int) (tx : ByteArray) (nn : Int) (fa : Option Addr) (fc : Nat) (r : Rc) (input : Int) (hr : RcOk r) (ht : tx.size ≤ 9223372036854775807) (hin : 0 ≤ input ∧ input < 100) (hk : k = 6) :
    Calls Tryz.prog 195 #[ndV ⟨k, fs, tx, nn⟩ fa fc, rcV r, .int .i64 input] w fun e w' => e = .returned (.tuple #[rcV (turnedP ⟨k, fs, tx, nn⟩ r input).1, .int .i64 (turnedP ⟨k, fs, tx, nn⟩ r input).2]) ∧ Below w.heap.size w w' := by
  obtain ⟨key, num, time⟩ := r
  have hnr : Rng num := hr.num
  have hks : key.size ≤ 40 := hr.key
  clear hr
  simp only [ndV, rcV, turnedP] at *
  subst hk
  simp only [show ¬ ((6 : Int) = 1 ∨ (6 : Int) = 10) from by omega, show ¬ ((6 : Int) = 2) from by omega, show ¬ ((6 : Int) = 3) from by omega, show ¬ ((6 : Int) = 4) from by omega, show ¬ ((6 : Int) = 5) from by omega, if_false, if_true]
  obtain ⟨i, rfl⟩ := Int.eq_ofNat_of_zero_le hin.1
  have ci := fun W => itoa_small i (by omega) W
  have HI := Lib.hid ci
  have hds := itoB_size (n := (i : Int)) (by omega) (by omega)
  clear ci
  generalize itoB (i : Int) = ds at *
  have q1 := fun W => run_string_add_sum (P := Tryz.prog) W ds ⟨#[58]⟩ (by have : (⟨#[58]⟩ : ByteArray).size = 1 := rfl; omega)
  have q2 := fun W => run_string_add_sum (P := Tryz.prog) W (ds ++ ⟨#[58]⟩) key (by have : (⟨#[58]⟩ : ByteArray).size = 1 := rfl; rw [ByteArray.size_append]; omega)
  go_enter Tryz.func195, Tryz.ntmps195
  go_wp2_with fail
  go_region_with (first | (go_at_call 131; refine (HI.out _).mono ?_; rintro e w4 ⟨rfl, rfl⟩))
  all_goals
    go_wp2_with fail
    exact bodyPost_ret (v := .tuple #[.agg #[.string (ds ++ ⟨#[58]⟩ ++ key), .int .i64 num, .int .i64 time], .int .i64 1]) (by simp [results, Tryz.results195, go_sem]) rfl ⟨rfl, (by repeat (first | refine Below.setCell ?_ (by simp <;> omega) _ | refine below_drew ?_ | refine below_drewN ?_ _ | refine Below.alloc ?_ (by simp <;> omega) _ | exact Below.refl _ _))⟩

set_option maxRecDepth 100000 in
set_option maxHeartbeats 4000000 in
theorem turned_sub {w : World} (hg : Gd w) (k : Int) (fs : List Int) (tx : ByteArray) (nn : Int) (fa : Option Addr) (fc : Nat) (r : Rc) (input : Int) (hr : RcOk r) (ht : tx.size ≤ 9223372036854775807) (hin : 0 ≤ input ∧ input < 100) (hk : k = 4) :
    Calls Tryz.prog 195 #[ndV ⟨k, fs, tx, nn⟩ fa fc, rcV r, .int .i64 input] w fun e w' => e = .returned (.tuple #[rcV (turnedP ⟨k, fs, tx, nn⟩ r input).1, .int .i64 (turnedP ⟨k, fs, tx, nn⟩ r input).2]) ∧ Below w.heap.size w w' := by
  obtain ⟨key, num, time⟩ := r
  have hnr : Rng num := hr.num
  have hks : key.size ≤ 40 := hr.key
  clear hr
  simp only [ndV, rcV, turnedP] at *
  have hv := fun (w1 : World) (hb : Below w.heap.size w w1) => value_of (w := w1) (x := tx) (hg.below hb).gl ht num 0
  have hxr := rng_val tx hnr (show Rng 0 by unfold Rng; omega)
  generalize valP tx num 0 = x at *
  have HV := Lib.hid hv
  clear hv
  subst hk
  simp only [show ¬ ((4 : Int) = 1 ∨ (4 : Int) = 10) from by omega, show ¬ ((4 : Int) = 2) from by omega, show ¬ ((4 : Int) = 3) from by omega, if_false, if_true]
  have hB := below3 w (.cells #[.int .i64 4, .slice fa fs.length fc, .string tx, .int .i64 nn] 52) (.cells #[.string key, .int .i64 num, .int .i64 time] 164) (.cells #[.string ⟨#[]⟩, .int .i64 0, .int .i64 0] 164)
  have ci := fun (W : World) (hb : Below w.heap.size w W) => itoa_of (hg.below hb).tab hxr.1 hxr.2
  have HI := Lib.hid ci
  have hds := itoB_size hxr.1 hxr.2
  clear ci
  generalize itoB x = ds at *
  have q1 := fun W => run_string_add_sum (P := Tryz.prog) W ⟨#[47]⟩ ds (by have : (⟨#[47]⟩ : ByteArray).size = 1 := rfl; omega)
  have q2 := fun W => run_string_add_sum (P := Tryz.prog) W key (⟨#[47]⟩ ++ ds) (by have : (⟨#[47]⟩ : ByteArray).size = 1 := rfl; rw [ByteArray.size_append]; omega)
  go_enter Tryz.func195, Tryz.ntmps195
  go_wp2_with fail
  go_region_with (first
      | (go_at_call 213; refine (HV.out _ (by repeat (first | exact hB | refine below_drew ?_ | refine below_drewN ?_ _))).mono ?_; rintro e w1 ⟨rfl, hb1⟩; have hB1 : Below w.heap.size w w1 := Below.trans (by repeat (first | exact hB | refine below_drew ?_ | refine below_drewN ?_ _)) (hb1.mono (by simp <;> omega)); obtain ⟨hc1, hf1⟩ := bcell hb1; have hz1 : w.heap.size + 1 < w1.heap.size := (by have := hb1.size; simp at this; omega); have hz2 : w.heap.size + 1 + 1 < w1.heap.size := (by have := hb1.size; simp at this; omega))
      | (go_at_call 131; refine (HI.out _ (by repeat (first | exact hB1 | refine below_drew ?_ | refine below_drewN ?_ _))).mono ?_; rintro e w4 ⟨rfl, hb4⟩; have hB4 : Below w.heap.size w w4 := Below.trans (by repeat (first | exact hB1 | refine below_drew ?_ | refine below_drewN ?_ _)) (hb4.mono hB1.size); obtain ⟨hc4, hf4⟩ := bcell hb4))
  all_goals
    go_wp2_with fail
    exact bodyPost_ret (v := .tuple #[.agg #[.string (key ++ (⟨#[47]⟩ ++ ds)), .int .i64 num, .int .i64 time], .int .i64 1]) (by simp [results, Tryz.results195, go_sem, hc4, hc1, hz2]) rfl ⟨rfl, (by repeat (first | refine Below.setCell ?_ (by simp <;> omega) _ | refine below_drew ?_ | refine below_drewN ?_ _ | refine Below.alloc ?_ (by simp <;> omega) _ | exact hB4))⟩

set_option maxRecDepth 100000 in
set_option maxHeartbeats 4000000 in
theorem turned_none {w : World} (hg : Gd w) (k : Int) (fs : List Int) (tx : ByteArray) (nn : Int) (fa : Option Addr) (fc : Nat) (r : Rc) (input : Int) (hr : RcOk r) (ht : tx.size ≤ 9223372036854775807) (hin : 0 ≤ input ∧ input < 100) (hk : k ≠ 1 ∧ k ≠ 10 ∧ k ≠ 2 ∧ k ≠ 3 ∧ k ≠ 4 ∧ k ≠ 5 ∧ k ≠ 6) :
    Calls Tryz.prog 195 #[ndV ⟨k, fs, tx, nn⟩ fa fc, rcV r, .int .i64 input] w fun e w' => e = .returned (.tuple #[rcV (turnedP ⟨k, fs, tx, nn⟩ r input).1, .int .i64 (turnedP ⟨k, fs, tx, nn⟩ r input).2]) ∧ Below w.heap.size w w' := by
  obtain ⟨key, num, time⟩ := r
  have hnr : Rng num := hr.num
  have hks : key.size ≤ 40 := hr.key
  clear hr
  simp only [ndV, rcV, turnedP] at *
  obtain ⟨n1, n10, n2, n3, n4, n5, n6⟩ := hk
  rw [if_neg (by omega), if_neg n2, if_neg n3, if_neg n4, if_neg n5, if_neg n6]
  have e1 : (k == 1) = false := by simp [n1]
  have e10 : (k == 10) = false := by simp [n10]
  have e2 : (k == 2) = false := by simp [n2]
  have e3 : (k == 3) = false := by simp [n3]
  have e4 : (k == 4) = false := by simp [n4]
  have e5 : (k == 5) = false := by simp [n5]
  have e6 : (k == 6) = false := by simp [n6]
  clear n1 n10 n2 n3 n4 n5 n6
  go_enter Tryz.func195, Tryz.ntmps195
  go_wp2_with fail
  exact bodyPost_ret (v := .tuple #[.agg #[.string key, .int .i64 num, .int .i64 time], .int .i64 0]) (by simp [results, Tryz.results195, go_sem]) rfl ⟨rfl, (by repeat (first | refine Below.setCell ?_ (by simp <;> omega) _ | refine below_drew ?_ | refine below_drewN ?_ _ | refine Below.alloc ?_ (by simp <;> omega) _ | exact Below.refl _ _))⟩

theorem turned_any {w : World} (hg : Gd w) (nd : Nd) (fa : Option Addr) (fc : Nat) (r : Rc) (input : Int) (hr : RcOk r) (ht : nd.tx.size ≤ 9223372036854775807) (hin : 0 ≤ input ∧ input < 100) :
    Calls Tryz.prog 195 #[ndV nd fa fc, rcV r, .int .i64 input] w fun e w' => e = .returned (.tuple #[rcV (turnedP nd r input).1, .int .i64 (turnedP nd r input).2]) ∧ Below w.heap.size w w' := by
  obtain ⟨k, fs, tx, nn⟩ := nd
  by_cases h1 : k = 1 ∨ k = 10
  · exact turned_one hg k fs tx nn fa fc r input hr ht hin h1
  by_cases h2 : k = 2
  · exact turned_map hg k fs tx nn fa fc r input hr ht hin h2
  by_cases h3 : k = 3
  · exact turned_flt hg k fs tx nn fa fc r input hr ht hin h3
  by_cases h4 : k = 4
  · exact turned_sub hg k fs tx nn fa fc r input hr ht hin h4
  by_cases h5 : k = 5
  · exact turned_copy hg k fs tx nn fa fc r input hr ht hin h5
  by_cases h6 : k = 6
  · exact turned_union hg k fs tx nn fa fc r input hr ht hin h6
  exact turned_none hg k fs tx nn fa fc r input hr ht hin ⟨by omega, by omega, h2, h3, h4, h5, h6⟩
end Go.Proofs.YthadeccnibnioaaGreatDoor
