/- counted. -/
import Derived.Test.YthadeccnibnioaaGreatDoorKb
namespace Go.Proofs.YthadeccnibnioaaGreatDoor
open Go.RowKit
set_option linter.unusedVariables false

def hdV (h : Hd) : Value := .agg #[.int .i64 h.nd, .string h.key, .int .i64 h.a, .int .i64 h.b]

theorem below5 (w : World) (a b c d e : Obj) : Below w.heap.size w (((((w.alloc a).alloc b).alloc c).alloc d).alloc e) := (((((Below.refl _ w).alloc (Nat.le_refl _) _).alloc (by simp) _).alloc (by simp; omega) _).alloc (by simp; omega) _).alloc (by simp; omega) _

set_option maxRecDepth 100000 in
set_option maxHeartbeats 2000000 in
theorem counted_fold {w : World} (hg : Gd w) (k : Int) (fs : List Int) (tx : ByteArray) (nn : Int) (fa : Option Addr) (fc : Nat) (st : Hd) (has : Bool) (r : Rc) (hr : RcOk r) (hs : HdOk st) (ht : tx.size ≤ 9223372036854775807) (hkk : k = 7) :
    Calls Tryz.prog 194 #[ndV ⟨k, fs, tx, nn⟩ fa fc, hdV st, .bool has, rcV r] w fun e w' => e = .returned (.tuple #[rcV (countedP ⟨k, fs, tx, nn⟩ st has r).1, .int .i64 (countedP ⟨k, fs, tx, nn⟩ st has r).2.1, hdV (countedP ⟨k, fs, tx, nn⟩ st has r).2.2]) ∧ Below w.heap.size w w' := by
  obtain ⟨key, num, time⟩ := r
  obtain ⟨hn, hk, ha, hb⟩ := st
  have hnr : Rng num := hr.num
  have har : Rng ha := hs.a
  have hbr : Rng hb := hs.b
  clear hr hs
  simp only [ndV, rcV, hdV, countedP] at *
  have hv := fun (w1 : World) (hb : Below w.heap.size w w1) => value_of (w := w1) (x := tx) (hg.below hb).gl ht num ha
  generalize valP tx num ha = x at *
  have HV := Lib.hid hv
  clear hv
  subst hkk
  simp only [if_true]
  have hB := below5 w (.cells #[.int .i64 7, .slice fa fs.length fc, .string tx, .int .i64 nn] 52) (.cells #[.int .i64 hn, .string hk, .int .i64 ha, .int .i64 hb] 162) (.cells #[.string key, .int .i64 num, .int .i64 time] 164) (.cells #[.string ⟨#[]⟩, .int .i64 0, .int .i64 0] 164) (.cells #[.int .i64 0, .string ⟨#[]⟩, .int .i64 0, .int .i64 0] 162)
  go_enter Tryz.func194, Tryz.ntmps194
  go_wp2_with fail
  refine (HV.out _ hB).mono ?_
  rintro e w1 ⟨rfl, hb1⟩
  obtain ⟨hc, hf⟩ := bcell hb1
  go_wp2_with fail
  go_region
  go_wp2_with fail
  exact bodyPost_ret (v := .tuple #[.agg #[.string key, .int .i64 x, .int .i64 time], .int .i64 1, .agg #[.int .i64 hn, .string hk, .int .i64 x, .int .i64 hb]]) (by simp [results, Tryz.results194, go_sem, hc]) rfl ⟨rfl, (by repeat (first | with_reducible refine Below.setCell ?_ (by simp <;> omega) _ | with_reducible refine below_drew ?_ | with_reducible refine below_drewN ?_ _ | with_reducible refine Below.alloc ?_ (by simp <;> omega) _ | exact hB.trans (hb1.mono hB.size)))⟩

set_option maxRecDepth 100000 in
set_option maxHeartbeats 2000000 in
theorem counted_first {w : World} (hg : Gd w) (k : Int) (fs : List Int) (tx : ByteArray) (nn : Int) (fa : Option Addr) (fc : Nat) (st : Hd) (has : Bool) (r : Rc) (hr : RcOk r) (hs : HdOk st) (ht : tx.size ≤ 9223372036854775807) (hkk : k = 9) :
    Calls Tryz.prog 194 #[ndV ⟨k, fs, tx, nn⟩ fa fc, hdV st, .bool has, rcV r] w fun e w' => e = .returned (.tuple #[rcV (countedP ⟨k, fs, tx, nn⟩ st has r).1, .int .i64 (countedP ⟨k, fs, tx, nn⟩ st has r).2.1, hdV (countedP ⟨k, fs, tx, nn⟩ st has r).2.2]) ∧ Below w.heap.size w w' := by
  obtain ⟨key, num, time⟩ := r
  obtain ⟨hn, hk, ha, hb⟩ := st
  have hnr : Rng num := hr.num
  have har : Rng ha := hs.a
  have hbr : Rng hb := hs.b
  clear hr hs
  simp only [ndV, rcV, hdV, countedP] at *
  subst hkk
  simp only [show ¬ ((9 : Int) = 7) from by omega, show ¬ ((9 : Int) = 8) from by omega, if_false, if_true]
  cases has with
  | true =>
    simp only [if_true]
    go_enter Tryz.func194, Tryz.ntmps194
    go_wp2_with fail
    go_region
    go_wp2_with fail
    exact bodyPost_ret (v := .tuple #[.agg #[.string key, .int .i64 num, .int .i64 time], .int .i64 0, .agg #[.int .i64 hn, .string hk, .int .i64 1, .int .i64 hb]]) (by simp [results, Tryz.results194, go_sem]) rfl ⟨rfl, (by repeat (first | with_reducible refine Below.setCell ?_ (by simp <;> omega) _ | with_reducible refine below_drew ?_ | with_reducible refine below_drewN ?_ _ | with_reducible refine Below.alloc ?_ (by simp <;> omega) _ | exact Below.refl _ _))⟩
  | false =>
    simp only [Bool.false_eq_true, if_false]
    go_enter Tryz.func194, Tryz.ntmps194
    go_wp2_with fail
    go_region
    go_wp2_with fail
    exact bodyPost_ret (v := .tuple #[.agg #[.string key, .int .i64 num, .int .i64 time], .int .i64 1, .agg #[.int .i64 hn, .string hk, .int .i64 1, .int .i64 hb]]) (by simp [results, Tryz.results194, go_sem]) rfl ⟨rfl, (by repeat (first | with_reducible refine Below.setCell ?_ (by simp <;> omega) _ | with_reducible refine below_drew ?_ | with_reducible refine below_drewN ?_ _ | with_reducible refine Below.alloc ?_ (by simp <;> omega) _ | exact Below.refl _ _))⟩

set_option maxRecDepth 100000 in
set_option maxHeartbeats 2000000 in
theorem counted_every {w : World} (hg : Gd w) (k : Int) (fs : List Int) (tx : ByteArray) (nn : Int) (fa : Option Addr) (fc : Nat) (st : Hd) (has : Bool) (r : Rc) (hr : RcOk r) (hs : HdOk st) (ht : tx.size ≤ 9223372036854775807) (hkk : k = 8) :
    Calls Tryz.prog 194 #[ndV ⟨k, fs, tx, nn⟩ fa fc, hdV st, .bool has, rcV r] w fun e w' => e = .returned (.tuple #[rcV (countedP ⟨k, fs, tx, nn⟩ st has r).1, .int .i64 (countedP ⟨k, fs, tx, nn⟩ st has r).2.1, hdV (countedP ⟨k, fs, tx, nn⟩ st has r).2.2]) ∧ Below w.heap.size w w' := by
  obtain ⟨key, num, time⟩ := r
  obtain ⟨hn, hk, ha, hb⟩ := st
  have hnr : Rng num := hr.num
  have har : Rng ha := hs.a
  have hbr : Rng hb := hs.b
  clear hr hs
  simp only [ndV, rcV, hdV, countedP] at *
  subst hkk
  simp only [show ¬ ((8 : Int) = 7) from by omega, if_false, if_true]
  have e1 := wr_eq (ha + 1)
  have e2 := wr_eq (hb + num)
  have hfu : fullP ha nn = (decide (nn ≤ ha) || decide (nn ≤ wr (ha + 1))) := rfl
  rw [← e1, ← e2]
  rw [← e1] at hfu
  clear e1 e2 hnr har hbr
  generalize hx1 : wrap64 (ha + 1) = a1 at *
  generalize hx2 : wrap64 (hb + num) = b1 at *
  by_cases h1 : nn ≤ ha
  · have hF : fullP ha nn = true := by rw [hfu]; simp [h1]
    rw [if_pos hF]
    clear hfu hF
    go_enter Tryz.func194, Tryz.ntmps194
    go_wp2_with fail
    go_region
    go_wp2_with fail

    exact bodyPost_ret (v := .tuple #[.agg #[.string key, .int .i64 b1, .int .i64 time], .int .i64 1, .agg #[.int .i64 hn, .string hk, .int .i64 0, .int .i64 0]]) (by simp [results, Tryz.results194, go_sem]) rfl ⟨rfl, (by repeat (first | with_reducible refine Below.setCell ?_ (by simp <;> omega) _ | with_reducible refine below_drew ?_ | with_reducible refine below_drewN ?_ _ | with_reducible refine Below.alloc ?_ (by simp <;> omega) _ | exact Below.refl _ _))⟩
  · by_cases h2 : nn ≤ a1
    · have hF : fullP ha nn = true := by rw [hfu]; simp [h2]
      rw [if_pos hF]
      clear hfu hF
      go_enter Tryz.func194, Tryz.ntmps194
      go_wp2_with fail
      go_region
      go_wp2_with fail
      exact bodyPost_ret (v := .tuple #[.agg #[.string key, .int .i64 b1, .int .i64 time], .int .i64 1, .agg #[.int .i64 hn, .string hk, .int .i64 0, .int .i64 0]]) (by simp [results, Tryz.results194, go_sem]) rfl ⟨rfl, (by repeat (first | with_reducible refine Below.setCell ?_ (by simp <;> omega) _ | with_reducible refine below_drew ?_ | with_reducible refine below_drewN ?_ _ | with_reducible refine Below.alloc ?_ (by simp <;> omega) _ | exact Below.refl _ _))⟩
    · have hF : fullP ha nn = false := by rw [hfu]; simp [h1, h2]
      rw [if_neg (by simp [hF])]
      clear hfu hF
      go_enter Tryz.func194, Tryz.ntmps194
      go_wp2_with fail
      go_region
      go_wp2_with fail
      exact bodyPost_ret (v := .tuple #[.agg #[.string key, .int .i64 num, .int .i64 time], .int .i64 0, .agg #[.int .i64 hn, .string hk, .int .i64 a1, .int .i64 b1]]) (by simp [results, Tryz.results194, go_sem]) rfl ⟨rfl, (by repeat (first | with_reducible refine Below.setCell ?_ (by simp <;> omega) _ | with_reducible refine below_drew ?_ | with_reducible refine below_drewN ?_ _ | with_reducible refine Below.alloc ?_ (by simp <;> omega) _ | exact Below.refl _ _))⟩

set_option maxRecDepth 100000 in
set_option maxHeartbeats 2000000 in
theorem counted_none {w : World} (hg : Gd w) (k : Int) (fs : List Int) (tx : ByteArray) (nn : Int) (fa : Option Addr) (fc : Nat) (st : Hd) (has : Bool) (r : Rc) (hr : RcOk r) (hs : HdOk st) (ht : tx.size ≤ 9223372036854775807) (hkk : k ≠ 7 ∧ k ≠ 8 ∧ k ≠ 9) :
    Calls Tryz.prog 194 #[ndV ⟨k, fs, tx, nn⟩ fa fc, hdV st, .bool has, rcV r] w fun e w' => e = .returned (.tuple #[rcV (countedP ⟨k, fs, tx, nn⟩ st has r).1, .int .i64 (countedP ⟨k, fs, tx, nn⟩ st has r).2.1, hdV (countedP ⟨k, fs, tx, nn⟩ st has r).2.2]) ∧ Below w.heap.size w w' := by
  obtain ⟨key, num, time⟩ := r
  obtain ⟨hn, hk, ha, hb⟩ := st
  have hnr : Rng num := hr.num
  have har : Rng ha := hs.a
  have hbr : Rng hb := hs.b
  clear hr hs
  simp only [ndV, rcV, hdV, countedP] at *
  obtain ⟨n7, n8, n9⟩ := hkk
  rw [if_neg n7, if_neg n8, if_neg n9]
  have e7 : (k == 7) = false := by simp [n7]
  have e8 : (k == 8) = false := by simp [n8]
  have e9 : (k == 9) = false := by simp [n9]
  clear n7 n8 n9
  go_enter Tryz.func194, Tryz.ntmps194
  go_wp2_with fail
  go_region
  go_wp2_with fail
  exact bodyPost_ret (v := .tuple #[.agg #[.string key, .int .i64 num, .int .i64 time], .int .i64 0, .agg #[.int .i64 hn, .string hk, .int .i64 ha, .int .i64 hb]]) (by simp [results, Tryz.results194, go_sem]) rfl ⟨rfl, (by repeat (first | with_reducible refine Below.setCell ?_ (by simp <;> omega) _ | with_reducible refine below_drew ?_ | with_reducible refine below_drewN ?_ _ | with_reducible refine Below.alloc ?_ (by simp <;> omega) _ | exact Below.refl _ _))⟩

theorem counted_any {w : World} (hg : Gd w) (nd : Nd) (fa : Option Addr) (fc : Nat) (st : Hd) (has : Bool) (r : Rc) (hr : RcOk r) (hs : HdOk st) (ht : nd.tx.size ≤ 9223372036854775807) :
    Calls Tryz.prog 194 #[ndV nd fa fc, hdV st, .bool has, rcV r] w fun e w' => e = .returned (.tuple #[rcV (countedP nd st has r).1, .int .i64 (countedP nd st has r).2.1, hdV (countedP nd st has r).2.2]) ∧ Below w.heap.size w w' := by
  obtain ⟨k, fs, tx, nn⟩ := nd
  by_cases h7 : k = 7
  · exact counted_fold hg k fs tx nn fa fc st has r hr hs ht h7
  by_cases h8 : k = 8
  · exact counted_every hg k fs tx nn fa fc st has r hr hs ht h8
  by_cases h9 : k = 9
  · exact counted_first hg k fs tx nn fa fc st has r hr hs ht h9
  exact counted_none hg k fs tx nn fa fc st has r hr hs ht ⟨h7, h8, h9⟩
end Go.Proofs.YthadeccnibnioaaGreatDoor
