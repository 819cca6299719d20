/- Apply. -/
import Derived.Test.YthadeccnibnioaaGreatDoorKc
namespace Go.Proofs.YthadeccnibnioaaGreatDoor
open Go.RowKit
set_option linter.unusedVariables false

theorem turned_key (nd : Nd) (r : Rc) (i : Int) (hr : RcOk r) (hi : 0 ≤ i ∧ i < 100) : (turnedP nd r i).1.key.size ≤ 9223372036854775807 := by
  have h := hr.key
  have h1 := itoB_size (rng_val nd.tx hr.num (show Rng 0 by unfold Rng; omega)).1 (rng_val nd.tx hr.num (show Rng 0 by unfold Rng; omega)).2
  have h2 := itoB_size (n := i) (by omega) (by omega)
  have h3 : (⟨#[58]⟩ : ByteArray).size = 1 := rfl
  have h4 : (⟨#[47]⟩ : ByteArray).size = 1 := rfl
  unfold turnedP
  repeat' split
  all_goals (simp only [ByteArray.size_append]; omega)
theorem counted_key (nd : Nd) (st : Hd) (has : Bool) (r : Rc) : (countedP nd st has r).1.key = r.key := by
  unfold countedP
  repeat' split
  all_goals rfl

theorem wp_world {P : Program} {c : Code} {Q : Exit → Act → World → Prop} {a : Act} {w : World} (S : World → Prop) (hS : S w) (h : ∀ w', S w' → c.wp P Q a w') : c.wp P Q a w := h w hS
theorem own_set {w : World} {base : Nat} {e : TypeId} {size : Nat} {v : Value} {n : Nat} {xs : List Value} (h : w.ownsRow base e size v n xs) {p : Addr} (hp : p.block < base) (u : Value) : (w.setCell p u).ownsRow base e size v n xs :=
  h.kept (row := some p.block) ⟨rfl, rfl, rfl, by simp, fun k _ hk => Below.heap_setCell _ _ _ _ (fun e => hk (by rw [e]))⟩ (.inr (fun e => by have := (h.lt _ e).1; omega))
theorem own_fm {w : World} {base : Nat} {e : TypeId} {size : Nat} {v : Value} {n : Nat} {xs : List Value} (h : w.ownsRow base e size v n xs) : ∃ A cap, v = .slice A n cap := by
  rcases h.2 with ⟨h0, h1⟩ | ⟨g, cap, cur, h0, _⟩
  · exact ⟨none, 0, by rw [h0, h1]⟩
  · exact ⟨_, _, h0⟩
theorem copies_w {w w1 : World} (hB : Below w.heap.size w w1) (r : Rc) (m : Int) (hk : r.key.size ≤ 9223372036854775807) :
    Calls Tryz.prog 196 #[.agg #[.string r.key, .int .i64 r.num, .int .i64 r.time], .int .i64 m] w1 fun e w' => ∃ A cap, e = .returned (.slice A (copP r m).length cap) ∧ w'.ownsRow w1.heap.size 164 3 (.slice A (copP r m).length cap) (copP r m).length (rcells (copP r m)) ∧ Below w1.heap.size w1 w' :=
  (copies_any r m w1 hk).mono fun e w' ⟨v, he, h1, h2⟩ => by
    obtain ⟨A, cap, rfl⟩ := own_fm h1
    exact ⟨A, cap, he, h1, h2⟩

set_option maxRecDepth 100000 in
set_option maxHeartbeats 4000000 in
theorem apply_tt {w : World} (hg : Gd w) (k : Int) (fs : List Int) (tx : ByteArray) (nn : Int) (fa : Option Addr) (fc : Nat) (st : Hd) (r : Rc) (input : Int) (hr : RcOk r) (hs : HdOk st) (ht : tx.size ≤ 9223372036854775807) (hin : 0 ≤ input ∧ input < 100) (hS : hasStP k = true) :
    Calls Tryz.prog 162 #[ndV ⟨k, fs, tx, nn⟩ fa fc, hdV st, .bool true, rcV r, .int .i64 input] w fun e w' => ∃ A cap, e = .returned (.tuple #[.slice A (appP ⟨k, fs, tx, nn⟩ st true r input).1.length cap, hdV (appP ⟨k, fs, tx, nn⟩ st true r input).2.1, .bool (appP ⟨k, fs, tx, nn⟩ st true r input).2.2]) ∧
      w'.ownsRow w.heap.size 164 3 (.slice A (appP ⟨k, fs, tx, nn⟩ st true r input).1.length cap) (appP ⟨k, fs, tx, nn⟩ st true r input).1.length (rcells (appP ⟨k, fs, tx, nn⟩ st true r input).1) ∧ Below w.heap.size w w' := by
  have hc := fun (w1 : World) (hb : Below w.heap.size w w1) => counted_any (hg.below hb) ⟨k, fs, tx, nn⟩ fa fc st true r hr hs ht
  have hkey : (countedP ⟨k, fs, tx, nn⟩ st true r).1.key.size ≤ 9223372036854775807 := by rw [counted_key]; have := hr.key; omega
  have e : appP ⟨k, fs, tx, nn⟩ st true r input = (copP (countedP ⟨k, fs, tx, nn⟩ st true r).1 (countedP ⟨k, fs, tx, nn⟩ st true r).2.1, ⟨0, r.key, (countedP ⟨k, fs, tx, nn⟩ st true r).2.2.a, (countedP ⟨k, fs, tx, nn⟩ st true r).2.2.b⟩, true) := by
    unfold appP; simp [hS]
  rw [e]
  clear e
  generalize countedP ⟨k, fs, tx, nn⟩ st true r = c at *
  obtain ⟨mr, mm, ⟨sn, sk, sa, sb⟩⟩ := c
  simp only at hc hkey ⊢
  have hcp := fun (w1 : World) (hb : Below w.heap.size w w1) => copies_w hb mr mm hkey
  obtain ⟨mk, mn, mt⟩ := mr
  simp only at hcp
  generalize copP ⟨mk, mn, mt⟩ mm = out at *
  have hst := hasState_of k
  rw [hS] at hst
  obtain ⟨hn, hk, ha, hb⟩ := st
  obtain ⟨key, num, time⟩ := r
  simp only [ndV, hdV, rcV] at *
  have HC := Lib.hid hc
  have HP := Lib.hid hcp
  clear hc hcp hr hs
  go_enter Tryz.func162, Tryz.ntmps162
  go_wp2_with (go_at_call 193; refine (hst _).mono ?_; rintro e w' ⟨rfl, rfl⟩)
  have hB := below5 w (.cells #[.int .i64 k, .slice fa fs.length fc, .string tx, .int .i64 nn] 52) (.cells #[.int .i64 hn, .string hk, .int .i64 ha, .int .i64 hb] 162) (.cells #[.string key, .int .i64 num, .int .i64 time] 164) (.cells #[.int .i64 0, .string ⟨#[]⟩, .int .i64 0, .int .i64 0] 162) (.cells #[.string ⟨#[]⟩, .int .i64 0, .int .i64 0] 164)
  refine (HC.out _ hB).mono ?_
  rintro e w1 ⟨rfl, hb1⟩
  obtain ⟨hc, hf⟩ := bcell hb1
  have hz4 : w.heap.size + 1 + 1 + 1 + 1 < w1.heap.size := by have := hb1.size; simp at this; omega
  have hB1 : Below w.heap.size w w1 := hB.trans (hb1.mono hB.size)
  go_wp2_with fail
  go_region
  go_wp2_with fail
  refine wp_world (fun w' => ((w'.cell? ⟨w.heap.size + 1 + 1 + 1 + 1, 0, none⟩ = some (.string mk) ∧ w'.cell? ⟨w.heap.size + 1 + 1 + 1 + 1, 1, none⟩ = some (.int .i64 mn) ∧ w'.cell? ⟨w.heap.size + 1 + 1 + 1 + 1, 2, none⟩ = some (.int .i64 mt)) ∧ w'.cell? ⟨w.heap.size + 1, 0, none⟩ = some (.int .i64 0) ∧ w'.cell? ⟨w.heap.size + 1, 1, none⟩ = some (.string key) ∧ w'.cell? ⟨w.heap.size + 1, 2, none⟩ = some (.int .i64 sa) ∧ w'.cell? ⟨w.heap.size + 1, 3, none⟩ = some (.int .i64 sb)) ∧ ((w'.cell? ⟨w.heap.size + 1 + 1 + 1, 0, none⟩ = some (.int .i64 0) ∧ w'.cell? ⟨w.heap.size + 1 + 1 + 1, 1, none⟩ = some (.string ⟨#[]⟩) ∧ w'.cell? ⟨w.heap.size + 1 + 1 + 1, 2, none⟩ = some (.int .i64 0) ∧ w'.cell? ⟨w.heap.size + 1 + 1 + 1, 3, none⟩ = some (.int .i64 0)) ∧ (∀ o, w'.frozen? ⟨w.heap.size + 1 + 1 + 1, o, none⟩ = false)) ∧ Below w.heap.size w w' ∧ w.heap.size + 1 + 1 + 1 + 1 < w'.heap.size) ?_ ?_
  · refine ⟨⟨⟨?_, ?_, ?_⟩, ?_, ?_, ?_, ?_⟩, ⟨⟨?_, ?_, ?_, ?_⟩, ?_⟩, ?_, ?_⟩
    all_goals first
      | (simp (maxDischargeDepth := 8) [go_sem, hc, hz4]; done)
      | (intro o; simp [go_sem, hf]; done)
      | exact (by repeat (first | with_reducible refine Below.setCell ?_ (by simp <;> omega) _ | with_reducible refine below_drew ?_ | with_reducible refine below_drewN ?_ _ | with_reducible refine Below.alloc ?_ (by simp <;> omega) _ | exact hB1))
  clear hc hf hz4 hB1 hb1 hB
  rintro w2 ⟨⟨⟨s0, s1, s2⟩, t0, t1, t2, t3⟩, ⟨⟨q0, q1, q2, q3⟩, qf⟩, hB2, hz2⟩
  have hz3 : w.heap.size + 1 + 1 + 1 < w2.heap.size := by omega
  go_region_held3 (fun w' => (w'.cell? ⟨w.heap.size + 1 + 1 + 1 + 1, 0, none⟩ = some (.string mk) ∧ w'.cell? ⟨w.heap.size + 1 + 1 + 1 + 1, 1, none⟩ = some (.int .i64 mn) ∧ w'.cell? ⟨w.heap.size + 1 + 1 + 1 + 1, 2, none⟩ = some (.int .i64 mt)) ∧ w'.cell? ⟨w.heap.size + 1, 0, none⟩ = some (.int .i64 0) ∧ w'.cell? ⟨w.heap.size + 1, 1, none⟩ = some (.string key) ∧ w'.cell? ⟨w.heap.size + 1, 2, none⟩ = some (.int .i64 sa) ∧ w'.cell? ⟨w.heap.size + 1, 3, none⟩ = some (.int .i64 sb)) (first | (refine ⟨⟨?_, ?_, ?_⟩, ?_, ?_, ?_, ?_⟩ <;> (simp [go_sem, s0, s1, s2, t0, t1, t2, t3]; done)) | (refine ⟨⟨?_, ?_, ?_⟩, ?_, ?_, ?_, ?_⟩ <;> (simp [go_sem, z0, z1, z2, z3, z4, z5, z6]; done))) (first | (go_at_call 196; refine (HP.out _ (below_drewN hB2 _)).mono ?_; rintro e w4 ⟨A, cap, rfl, hown4, hb4⟩; obtain ⟨hc4, hf4⟩ := bcell hb4; have k0 := (hc4 (w.heap.size + 1 + 1 + 1) 0 (by show _ < w2.heap.size; omega)).trans q0; have k1 := (hc4 (w.heap.size + 1 + 1 + 1) 1 (by show _ < w2.heap.size; omega)).trans q1; have k2 := (hc4 (w.heap.size + 1 + 1 + 1) 2 (by show _ < w2.heap.size; omega)).trans q2; have k3 := (hc4 (w.heap.size + 1 + 1 + 1) 3 (by show _ < w2.heap.size; omega)).trans q3; have kf := fun o => (hf4 (w.heap.size + 1 + 1 + 1) o (by show _ < w2.heap.size; omega)).trans (qf o); have z0 := (hc4 (w.heap.size + 1 + 1 + 1 + 1) 0 (by show _ < w2.heap.size; omega)).trans s0; have z1 := (hc4 (w.heap.size + 1 + 1 + 1 + 1) 1 (by show _ < w2.heap.size; omega)).trans s1; have z2 := (hc4 (w.heap.size + 1 + 1 + 1 + 1) 2 (by show _ < w2.heap.size; omega)).trans s2; have z3 := (hc4 (w.heap.size + 1) 0 (by show _ < w2.heap.size; omega)).trans t0; have z4 := (hc4 (w.heap.size + 1) 1 (by show _ < w2.heap.size; omega)).trans t1; have z5 := (hc4 (w.heap.size + 1) 2 (by show _ < w2.heap.size; omega)).trans t2; have z6 := (hc4 (w.heap.size + 1) 3 (by show _ < w2.heap.size; omega)).trans t3))
  have hB4 : Below w.heap.size w w4 := (below_drewN hB2 1).trans (hb4.mono hB2.size)
  have hsz4 : w.heap.size + 1 + 1 + 1 < w4.heap.size := Nat.lt_of_lt_of_le hz3 hb4.size
  go_wp2_with fail
  exact bodyPost_ret (v := .tuple #[.slice A out.length cap, .agg #[.int .i64 0, .string key, .int .i64 sa, .int .i64 sb], .bool true]) (by simp [results, Tryz.results162, go_sem, k0, k1, k2, k3]) rfl ⟨A, cap, rfl, (own_set (own_set (own_set (own_set hown4 hz3 _) hz3 _) hz3 _) hz3 _).mono (by show w.heap.size ≤ w2.heap.size; omega), (by repeat (first | with_reducible refine Below.setCell ?_ (by simp <;> omega) _ | with_reducible refine below_drew ?_ | with_reducible refine below_drewN ?_ _ | with_reducible refine Below.alloc ?_ (by simp <;> omega) _ | exact hB4))⟩

set_option maxRecDepth 100000 in
set_option maxHeartbeats 4000000 in
theorem apply_ft {w : World} (hg : Gd w) (k : Int) (fs : List Int) (tx : ByteArray) (nn : Int) (fa : Option Addr) (fc : Nat) (st : Hd) (r : Rc) (input : Int) (hr : RcOk r) (hs : HdOk st) (ht : tx.size ≤ 9223372036854775807) (hin : 0 ≤ input ∧ input < 100) (hS : hasStP k = true) :
    Calls Tryz.prog 162 #[ndV ⟨k, fs, tx, nn⟩ fa fc, hdV st, .bool false, rcV r, .int .i64 input] w fun e w' => ∃ A cap, e = .returned (.tuple #[.slice A (appP ⟨k, fs, tx, nn⟩ st false r input).1.length cap, hdV (appP ⟨k, fs, tx, nn⟩ st false r input).2.1, .bool (appP ⟨k, fs, tx, nn⟩ st false r input).2.2]) ∧
      w'.ownsRow w.heap.size 164 3 (.slice A (appP ⟨k, fs, tx, nn⟩ st false r input).1.length cap) (appP ⟨k, fs, tx, nn⟩ st false r input).1.length (rcells (appP ⟨k, fs, tx, nn⟩ st false r input).1) ∧ Below w.heap.size w w' := by
  have hc := fun (w1 : World) (hb : Below w.heap.size w w1) => counted_any (hg.below hb) ⟨k, fs, tx, nn⟩ fa fc hd0 false r hr hd0_ok ht
  have hkey : (countedP ⟨k, fs, tx, nn⟩ hd0 false r).1.key.size ≤ 9223372036854775807 := by rw [counted_key]; have := hr.key; omega
  have e : appP ⟨k, fs, tx, nn⟩ st false r input = (copP (countedP ⟨k, fs, tx, nn⟩ hd0 false r).1 (countedP ⟨k, fs, tx, nn⟩ hd0 false r).2.1, ⟨0, r.key, (countedP ⟨k, fs, tx, nn⟩ hd0 false r).2.2.a, (countedP ⟨k, fs, tx, nn⟩ hd0 false r).2.2.b⟩, true) := by
    unfold appP; simp [hS]
  rw [e]
  clear e
  generalize countedP ⟨k, fs, tx, nn⟩ hd0 false r = c at *
  obtain ⟨mr, mm, ⟨sn, sk, sa, sb⟩⟩ := c
  simp only at hc hkey ⊢
  have hcp := fun (w1 : World) (hb : Below w.heap.size w w1) => copies_w hb mr mm hkey
  obtain ⟨mk, mn, mt⟩ := mr
  simp only at hcp
  generalize copP ⟨mk, mn, mt⟩ mm = out at *
  have hst := hasState_of k
  rw [hS] at hst
  obtain ⟨hn, hk, ha, hb⟩ := st
  obtain ⟨key, num, time⟩ := r
  simp only [ndV, hdV, rcV, hd0] at *
  have HC := Lib.hid hc
  have HP := Lib.hid hcp
  clear hc hcp hr hs
  go_enter Tryz.func162, Tryz.ntmps162
  go_wp2_with (go_at_call 193; refine (hst _).mono ?_; rintro e w' ⟨rfl, rfl⟩)
  have hB := below5 w (.cells #[.int .i64 k, .slice fa fs.length fc, .string tx, .int .i64 nn] 52) (.cells #[.int .i64 0, .string ⟨#[]⟩, .int .i64 0, .int .i64 0] 162) (.cells #[.string key, .int .i64 num, .int .i64 time] 164) (.cells #[.int .i64 0, .string ⟨#[]⟩, .int .i64 0, .int .i64 0] 162) (.cells #[.string ⟨#[]⟩, .int .i64 0, .int .i64 0] 164)
  refine (HC.out _ hB).mono ?_
  rintro e w1 ⟨rfl, hb1⟩
  obtain ⟨hc, hf⟩ := bcell hb1
  have hz4 : w.heap.size + 1 + 1 + 1 + 1 < w1.heap.size := by have := hb1.size; simp at this; omega
  have hB1 : Below w.heap.size w w1 := hB.trans (hb1.mono hB.size)
  go_wp2_with fail
  go_region
  go_wp2_with fail
  refine wp_world (fun w' => ((w'.cell? ⟨w.heap.size + 1 + 1 + 1 + 1, 0, none⟩ = some (.string mk) ∧ w'.cell? ⟨w.heap.size + 1 + 1 + 1 + 1, 1, none⟩ = some (.int .i64 mn) ∧ w'.cell? ⟨w.heap.size + 1 + 1 + 1 + 1, 2, none⟩ = some (.int .i64 mt)) ∧ w'.cell? ⟨w.heap.size + 1, 0, none⟩ = some (.int .i64 0) ∧ w'.cell? ⟨w.heap.size + 1, 1, none⟩ = some (.string key) ∧ w'.cell? ⟨w.heap.size + 1, 2, none⟩ = some (.int .i64 sa) ∧ w'.cell? ⟨w.heap.size + 1, 3, none⟩ = some (.int .i64 sb)) ∧ ((w'.cell? ⟨w.heap.size + 1 + 1 + 1, 0, none⟩ = some (.int .i64 0) ∧ w'.cell? ⟨w.heap.size + 1 + 1 + 1, 1, none⟩ = some (.string ⟨#[]⟩) ∧ w'.cell? ⟨w.heap.size + 1 + 1 + 1, 2, none⟩ = some (.int .i64 0) ∧ w'.cell? ⟨w.heap.size + 1 + 1 + 1, 3, none⟩ = some (.int .i64 0)) ∧ (∀ o, w'.frozen? ⟨w.heap.size + 1 + 1 + 1, o, none⟩ = false)) ∧ Below w.heap.size w w' ∧ w.heap.size + 1 + 1 + 1 + 1 < w'.heap.size) ?_ ?_
  · refine ⟨⟨⟨?_, ?_, ?_⟩, ?_, ?_, ?_, ?_⟩, ⟨⟨?_, ?_, ?_, ?_⟩, ?_⟩, ?_, ?_⟩
    all_goals first
      | (simp (maxDischargeDepth := 8) [go_sem, hc, hz4]; done)
      | (intro o; simp [go_sem, hf]; done)
      | exact (by repeat (first | with_reducible refine Below.setCell ?_ (by simp <;> omega) _ | with_reducible refine below_drew ?_ | with_reducible refine below_drewN ?_ _ | with_reducible refine Below.alloc ?_ (by simp <;> omega) _ | exact hB1))
  clear hc hf hz4 hB1 hb1 hB
  rintro w2 ⟨⟨⟨s0, s1, s2⟩, t0, t1, t2, t3⟩, ⟨⟨q0, q1, q2, q3⟩, qf⟩, hB2, hz2⟩
  have hz3 : w.heap.size + 1 + 1 + 1 < w2.heap.size := by omega
  go_region_held3 (fun w' => (w'.cell? ⟨w.heap.size + 1 + 1 + 1 + 1, 0, none⟩ = some (.string mk) ∧ w'.cell? ⟨w.heap.size + 1 + 1 + 1 + 1, 1, none⟩ = some (.int .i64 mn) ∧ w'.cell? ⟨w.heap.size + 1 + 1 + 1 + 1, 2, none⟩ = some (.int .i64 mt)) ∧ w'.cell? ⟨w.heap.size + 1, 0, none⟩ = some (.int .i64 0) ∧ w'.cell? ⟨w.heap.size + 1, 1, none⟩ = some (.string key) ∧ w'.cell? ⟨w.heap.size + 1, 2, none⟩ = some (.int .i64 sa) ∧ w'.cell? ⟨w.heap.size + 1, 3, none⟩ = some (.int .i64 sb)) (first | (refine ⟨⟨?_, ?_, ?_⟩, ?_, ?_, ?_, ?_⟩ <;> (simp [go_sem, s0, s1, s2, t0, t1, t2, t3]; done)) | (refine ⟨⟨?_, ?_, ?_⟩, ?_, ?_, ?_, ?_⟩ <;> (simp [go_sem, z0, z1, z2, z3, z4, z5, z6]; done))) (first | (go_at_call 196; refine (HP.out _ (below_drewN hB2 _)).mono ?_; rintro e w4 ⟨A, cap, rfl, hown4, hb4⟩; obtain ⟨hc4, hf4⟩ := bcell hb4; have k0 := (hc4 (w.heap.size + 1 + 1 + 1) 0 (by show _ < w2.heap.size; omega)).trans q0; have k1 := (hc4 (w.heap.size + 1 + 1 + 1) 1 (by show _ < w2.heap.size; omega)).trans q1; have k2 := (hc4 (w.heap.size + 1 + 1 + 1) 2 (by show _ < w2.heap.size; omega)).trans q2; have k3 := (hc4 (w.heap.size + 1 + 1 + 1) 3 (by show _ < w2.heap.size; omega)).trans q3; have kf := fun o => (hf4 (w.heap.size + 1 + 1 + 1) o (by show _ < w2.heap.size; omega)).trans (qf o); have z0 := (hc4 (w.heap.size + 1 + 1 + 1 + 1) 0 (by show _ < w2.heap.size; omega)).trans s0; have z1 := (hc4 (w.heap.size + 1 + 1 + 1 + 1) 1 (by show _ < w2.heap.size; omega)).trans s1; have z2 := (hc4 (w.heap.size + 1 + 1 + 1 + 1) 2 (by show _ < w2.heap.size; omega)).trans s2; have z3 := (hc4 (w.heap.size + 1) 0 (by show _ < w2.heap.size; omega)).trans t0; have z4 := (hc4 (w.heap.size + 1) 1 (by show _ < w2.heap.size; omega)).trans t1; have z5 := (hc4 (w.heap.size + 1) 2 (by show _ < w2.heap.size; omega)).trans t2; have z6 := (hc4 (w.heap.size + 1) 3 (by show _ < w2.heap.size; omega)).trans t3))
  have hB4 : Below w.heap.size w w4 := (below_drewN hB2 1).trans (hb4.mono hB2.size)
  have hsz4 : w.heap.size + 1 + 1 + 1 < w4.heap.size := Nat.lt_of_lt_of_le hz3 hb4.size
  go_wp2_with fail
  exact bodyPost_ret (v := .tuple #[.slice A out.length cap, .agg #[.int .i64 0, .string key, .int .i64 sa, .int .i64 sb], .bool true]) (by simp [results, Tryz.results162, go_sem, k0, k1, k2, k3]) rfl ⟨A, cap, rfl, (own_set (own_set (own_set (own_set hown4 hz3 _) hz3 _) hz3 _) hz3 _).mono (by show w.heap.size ≤ w2.heap.size; omega), (by repeat (first | with_reducible refine Below.setCell ?_ (by simp <;> omega) _ | with_reducible refine below_drew ?_ | with_reducible refine below_drewN ?_ _ | with_reducible refine Below.alloc ?_ (by simp <;> omega) _ | exact hB4))⟩

set_option maxRecDepth 100000 in
set_option maxHeartbeats 4000000 in
theorem apply_tf {w : World} (hg : Gd w) (k : Int) (fs : List Int) (tx : ByteArray) (nn : Int) (fa : Option Addr) (fc : Nat) (st : Hd) (r : Rc) (input : Int) (hr : RcOk r) (hs : HdOk st) (ht : tx.size ≤ 9223372036854775807) (hin : 0 ≤ input ∧ input < 100) (hS : hasStP k = false) :
    Calls Tryz.prog 162 #[ndV ⟨k, fs, tx, nn⟩ fa fc, hdV st, .bool true, rcV r, .int .i64 input] w fun e w' => ∃ A cap, e = .returned (.tuple #[.slice A (appP ⟨k, fs, tx, nn⟩ st true r input).1.length cap, hdV (appP ⟨k, fs, tx, nn⟩ st true r input).2.1, .bool (appP ⟨k, fs, tx, nn⟩ st true r input).2.2]) ∧
      w'.ownsRow w.heap.size 164 3 (.slice A (appP ⟨k, fs, tx, nn⟩ st true r input).1.length cap) (appP ⟨k, fs, tx, nn⟩ st true r input).1.length (rcells (appP ⟨k, fs, tx, nn⟩ st true r input).1) ∧ Below w.heap.size w w' := by
  have hc := fun (w1 : World) (hb : Below w.heap.size w w1) => turned_any (hg.below hb) ⟨k, fs, tx, nn⟩ fa fc r input hr ht hin
  have hkey := turned_key ⟨k, fs, tx, nn⟩ r input hr hin
  have e : appP ⟨k, fs, tx, nn⟩ st true r input = (copP (turnedP ⟨k, fs, tx, nn⟩ r input).1 (turnedP ⟨k, fs, tx, nn⟩ r input).2, ⟨0, r.key, st.a, st.b⟩, true) := by
    unfold appP; simp [hS]
  rw [e]
  clear e
  generalize turnedP ⟨k, fs, tx, nn⟩ r input = c at *
  obtain ⟨mr, mm⟩ := c
  simp only at hc hkey ⊢
  have hcp := fun (w1 : World) (hb : Below w.heap.size w w1) => copies_w hb mr mm hkey
  obtain ⟨mk, mn, mt⟩ := mr
  simp only at hcp
  generalize copP ⟨mk, mn, mt⟩ mm = out at *
  have hst := hasState_of k
  rw [hS] at hst
  obtain ⟨hn, hk, ha, hb⟩ := st
  obtain ⟨key, num, time⟩ := r
  simp only [ndV, hdV, rcV] at *
  have HC := Lib.hid hc
  have HP := Lib.hid hcp
  clear hc hcp hr hs
  go_enter Tryz.func162, Tryz.ntmps162
  go_wp2_with (go_at_call 193; refine (hst _).mono ?_; rintro e w' ⟨rfl, rfl⟩)
  have hB := below5 w (.cells #[.int .i64 k, .slice fa fs.length fc, .string tx, .int .i64 nn] 52) (.cells #[.int .i64 hn, .string hk, .int .i64 ha, .int .i64 hb] 162) (.cells #[.string key, .int .i64 num, .int .i64 time] 164) (.cells #[.int .i64 0, .string ⟨#[]⟩, .int .i64 0, .int .i64 0] 162) (.cells #[.string ⟨#[]⟩, .int .i64 0, .int .i64 0] 164)
  refine (HC.out _ hB).mono ?_
  rintro e w1 ⟨rfl, hb1⟩
  obtain ⟨hc, hf⟩ := bcell hb1
  have hz4 : w.heap.size + 1 + 1 + 1 + 1 < w1.heap.size := by have := hb1.size; simp at this; omega
  have hB1 : Below w.heap.size w w1 := hB.trans (hb1.mono hB.size)
  go_wp2_with fail
  go_region
  go_wp2_with fail
  refine wp_world (fun w' => ((w'.cell? ⟨w.heap.size + 1 + 1 + 1 + 1, 0, none⟩ = some (.string mk) ∧ w'.cell? ⟨w.heap.size + 1 + 1 + 1 + 1, 1, none⟩ = some (.int .i64 mn) ∧ w'.cell? ⟨w.heap.size + 1 + 1 + 1 + 1, 2, none⟩ = some (.int .i64 mt)) ∧ w'.cell? ⟨w.heap.size + 1, 0, none⟩ = some (.int .i64 0) ∧ w'.cell? ⟨w.heap.size + 1, 1, none⟩ = some (.string key) ∧ w'.cell? ⟨w.heap.size + 1, 2, none⟩ = some (.int .i64 ha) ∧ w'.cell? ⟨w.heap.size + 1, 3, none⟩ = some (.int .i64 hb)) ∧ ((w'.cell? ⟨w.heap.size + 1 + 1 + 1, 0, none⟩ = some (.int .i64 0) ∧ w'.cell? ⟨w.heap.size + 1 + 1 + 1, 1, none⟩ = some (.string ⟨#[]⟩) ∧ w'.cell? ⟨w.heap.size + 1 + 1 + 1, 2, none⟩ = some (.int .i64 0) ∧ w'.cell? ⟨w.heap.size + 1 + 1 + 1, 3, none⟩ = some (.int .i64 0)) ∧ (∀ o, w'.frozen? ⟨w.heap.size + 1 + 1 + 1, o, none⟩ = false)) ∧ Below w.heap.size w w' ∧ w.heap.size + 1 + 1 + 1 + 1 < w'.heap.size) ?_ ?_
  · refine ⟨⟨⟨?_, ?_, ?_⟩, ?_, ?_, ?_, ?_⟩, ⟨⟨?_, ?_, ?_, ?_⟩, ?_⟩, ?_, ?_⟩
    all_goals first
      | (simp (maxDischargeDepth := 8) [go_sem, hc, hz4]; done)
      | (intro o; simp [go_sem, hf]; done)
      | exact (by repeat (first | with_reducible refine Below.setCell ?_ (by simp <;> omega) _ | with_reducible refine below_drew ?_ | with_reducible refine below_drewN ?_ _ | with_reducible refine Below.alloc ?_ (by simp <;> omega) _ | exact hB1))
  clear hc hf hz4 hB1 hb1 hB
  rintro w2 ⟨⟨⟨s0, s1, s2⟩, t0, t1, t2, t3⟩, ⟨⟨q0, q1, q2, q3⟩, qf⟩, hB2, hz2⟩
  have hz3 : w.heap.size + 1 + 1 + 1 < w2.heap.size := by omega
  go_region_held3 (fun w' => (w'.cell? ⟨w.heap.size + 1 + 1 + 1 + 1, 0, none⟩ = some (.string mk) ∧ w'.cell? ⟨w.heap.size + 1 + 1 + 1 + 1, 1, none⟩ = some (.int .i64 mn) ∧ w'.cell? ⟨w.heap.size + 1 + 1 + 1 + 1, 2, none⟩ = some (.int .i64 mt)) ∧ w'.cell? ⟨w.heap.size + 1, 0, none⟩ = some (.int .i64 0) ∧ w'.cell? ⟨w.heap.size + 1, 1, none⟩ = some (.string key) ∧ w'.cell? ⟨w.heap.size + 1, 2, none⟩ = some (.int .i64 ha) ∧ w'.cell? ⟨w.heap.size + 1, 3, none⟩ = some (.int .i64 hb)) (first | (refine ⟨⟨?_, ?_, ?_⟩, ?_, ?_, ?_, ?_⟩ <;> (simp [go_sem, s0, s1, s2, t0, t1, t2, t3]; done)) | (refine ⟨⟨?_, ?_, ?_⟩, ?_, ?_, ?_, ?_⟩ <;> (simp [go_sem, z0, z1, z2, z3, z4, z5, z6]; done))) (first | (go_at_call 196; refine (HP.out _ (below_drewN hB2 _)).mono ?_; rintro e w4 ⟨A, cap, rfl, hown4, hb4⟩; obtain ⟨hc4, hf4⟩ := bcell hb4; have k0 := (hc4 (w.heap.size + 1 + 1 + 1) 0 (by show _ < w2.heap.size; omega)).trans q0; have k1 := (hc4 (w.heap.size + 1 + 1 + 1) 1 (by show _ < w2.heap.size; omega)).trans q1; have k2 := (hc4 (w.heap.size + 1 + 1 + 1) 2 (by show _ < w2.heap.size; omega)).trans q2; have k3 := (hc4 (w.heap.size + 1 + 1 + 1) 3 (by show _ < w2.heap.size; omega)).trans q3; have kf := fun o => (hf4 (w.heap.size + 1 + 1 + 1) o (by show _ < w2.heap.size; omega)).trans (qf o); have z0 := (hc4 (w.heap.size + 1 + 1 + 1 + 1) 0 (by show _ < w2.heap.size; omega)).trans s0; have z1 := (hc4 (w.heap.size + 1 + 1 + 1 + 1) 1 (by show _ < w2.heap.size; omega)).trans s1; have z2 := (hc4 (w.heap.size + 1 + 1 + 1 + 1) 2 (by show _ < w2.heap.size; omega)).trans s2; have z3 := (hc4 (w.heap.size + 1) 0 (by show _ < w2.heap.size; omega)).trans t0; have z4 := (hc4 (w.heap.size + 1) 1 (by show _ < w2.heap.size; omega)).trans t1; have z5 := (hc4 (w.heap.size + 1) 2 (by show _ < w2.heap.size; omega)).trans t2; have z6 := (hc4 (w.heap.size + 1) 3 (by show _ < w2.heap.size; omega)).trans t3))
  have hB4 : Below w.heap.size w w4 := (below_drewN hB2 1).trans (hb4.mono hB2.size)
  have hsz4 : w.heap.size + 1 + 1 + 1 < w4.heap.size := Nat.lt_of_lt_of_le hz3 hb4.size
  go_wp2_with fail
  exact bodyPost_ret (v := .tuple #[.slice A out.length cap, .agg #[.int .i64 0, .string key, .int .i64 ha, .int .i64 hb], .bool true]) (by simp [results, Tryz.results162, go_sem, k0, k1, k2, k3]) rfl ⟨A, cap, rfl, (own_set (own_set (own_set (own_set hown4 hz3 _) hz3 _) hz3 _) hz3 _).mono (by show w.heap.size ≤ w2.heap.size; omega), (by repeat (first | with_reducible refine Below.setCell ?_ (by simp <;> omega) _ | with_reducible refine below_drew ?_ | with_reducible refine below_drewN ?_ _ | with_reducible refine Below.alloc ?_ (by simp <;> omega) _ | exact hB4))⟩

set_option maxRecDepth 100000 in
set_option maxHeartbeats 4000000 in
theorem apply_ff {w : World} (hg : Gd w) (k : Int) (fs : List Int) (tx : ByteArray) (nn : Int) (fa : Option Addr) (fc : Nat) (st : Hd) (r : Rc) (input : Int) (hr : RcOk r) (hs : HdOk st) (ht : tx.size ≤ 9223372036854775807) (hin : 0 ≤ input ∧ input < 100) (hS : hasStP k = false) :
    Calls Tryz.prog 162 #[ndV ⟨k, fs, tx, nn⟩ fa fc, hdV st, .bool false, rcV r, .int .i64 input] w fun e w' => ∃ A cap, e = .returned (.tuple #[.slice A (appP ⟨k, fs, tx, nn⟩ st false r input).1.length cap, hdV (appP ⟨k, fs, tx, nn⟩ st false r input).2.1, .bool (appP ⟨k, fs, tx, nn⟩ st false r input).2.2]) ∧
      w'.ownsRow w.heap.size 164 3 (.slice A (appP ⟨k, fs, tx, nn⟩ st false r input).1.length cap) (appP ⟨k, fs, tx, nn⟩ st false r input).1.length (rcells (appP ⟨k, fs, tx, nn⟩ st false r input).1) ∧ Below w.heap.size w w' := by
  have hc := fun (w1 : World) (hb : Below w.heap.size w w1) => turned_any (hg.below hb) ⟨k, fs, tx, nn⟩ fa fc r input hr ht hin
  have hkey := turned_key ⟨k, fs, tx, nn⟩ r input hr hin
  have e : appP ⟨k, fs, tx, nn⟩ st false r input = (copP (turnedP ⟨k, fs, tx, nn⟩ r input).1 (turnedP ⟨k, fs, tx, nn⟩ r input).2, hd0, false) := by
    unfold appP; simp [hS]
  rw [e]
  clear e
  generalize turnedP ⟨k, fs, tx, nn⟩ r input = c at *
  obtain ⟨mr, mm⟩ := c
  simp only at hc hkey ⊢
  have hcp := fun (w1 : World) (hb : Below w.heap.size w w1) => copies_w hb mr mm hkey
  obtain ⟨mk, mn, mt⟩ := mr
  simp only at hcp
  generalize copP ⟨mk, mn, mt⟩ mm = out at *
  have hst := hasState_of k
  rw [hS] at hst
  obtain ⟨hn, hk, ha, hb⟩ := st
  obtain ⟨key, num, time⟩ := r
  simp only [ndV, hdV, rcV, hd0] at *
  have HC := Lib.hid hc
  have HP := Lib.hid hcp
  clear hc hcp hr hs
  go_enter Tryz.func162, Tryz.ntmps162
  go_wp2_with (go_at_call 193; refine (hst _).mono ?_; rintro e w' ⟨rfl, rfl⟩)
  have hB := below5 w (.cells #[.int .i64 k, .slice fa fs.length fc, .string tx, .int .i64 nn] 52) (.cells #[.int .i64 0, .string ⟨#[]⟩, .int .i64 0, .int .i64 0] 162) (.cells #[.string key, .int .i64 num, .int .i64 time] 164) (.cells #[.int .i64 0, .string ⟨#[]⟩, .int .i64 0, .int .i64 0] 162) (.cells #[.string ⟨#[]⟩, .int .i64 0, .int .i64 0] 164)
  refine (HC.out _ hB).mono ?_
  rintro e w1 ⟨rfl, hb1⟩
  obtain ⟨hc, hf⟩ := bcell hb1
  have hz4 : w.heap.size + 1 + 1 + 1 + 1 < w1.heap.size := by have := hb1.size; simp at this; omega
  have hB1 : Below w.heap.size w w1 := hB.trans (hb1.mono hB.size)
  go_wp2_with fail
  skip
  refine wp_world (fun w' => ((w'.cell? ⟨w.heap.size + 1 + 1 + 1 + 1, 0, none⟩ = some (.string mk) ∧ w'.cell? ⟨w.heap.size + 1 + 1 + 1 + 1, 1, none⟩ = some (.int .i64 mn) ∧ w'.cell? ⟨w.heap.size + 1 + 1 + 1 + 1, 2, none⟩ = some (.int .i64 mt)) ∧ w'.cell? ⟨w.heap.size + 1, 0, none⟩ = some (.int .i64 0) ∧ w'.cell? ⟨w.heap.size + 1, 1, none⟩ = some (.string ⟨#[]⟩) ∧ w'.cell? ⟨w.heap.size + 1, 2, none⟩ = some (.int .i64 0) ∧ w'.cell? ⟨w.heap.size + 1, 3, none⟩ = some (.int .i64 0)) ∧ ((w'.cell? ⟨w.heap.size + 1 + 1 + 1, 0, none⟩ = some (.int .i64 0) ∧ w'.cell? ⟨w.heap.size + 1 + 1 + 1, 1, none⟩ = some (.string ⟨#[]⟩) ∧ w'.cell? ⟨w.heap.size + 1 + 1 + 1, 2, none⟩ = some (.int .i64 0) ∧ w'.cell? ⟨w.heap.size + 1 + 1 + 1, 3, none⟩ = some (.int .i64 0)) ∧ (∀ o, w'.frozen? ⟨w.heap.size + 1 + 1 + 1, o, none⟩ = false)) ∧ Below w.heap.size w w' ∧ w.heap.size + 1 + 1 + 1 + 1 < w'.heap.size) ?_ ?_
  · refine ⟨⟨⟨?_, ?_, ?_⟩, ?_, ?_, ?_, ?_⟩, ⟨⟨?_, ?_, ?_, ?_⟩, ?_⟩, ?_, ?_⟩
    all_goals first
      | (simp (maxDischargeDepth := 8) [go_sem, hc, hz4]; done)
      | (intro o; simp [go_sem, hf]; done)
      | exact (by repeat (first | with_reducible refine Below.setCell ?_ (by simp <;> omega) _ | with_reducible refine below_drew ?_ | with_reducible refine below_drewN ?_ _ | with_reducible refine Below.alloc ?_ (by simp <;> omega) _ | exact hB1))
  clear hc hf hz4 hB1 hb1 hB
  rintro w2 ⟨⟨⟨s0, s1, s2⟩, t0, t1, t2, t3⟩, ⟨⟨q0, q1, q2, q3⟩, qf⟩, hB2, hz2⟩
  have hz3 : w.heap.size + 1 + 1 + 1 < w2.heap.size := by omega
  go_region_held3 (fun w' => (w'.cell? ⟨w.heap.size + 1 + 1 + 1 + 1, 0, none⟩ = some (.string mk) ∧ w'.cell? ⟨w.heap.size + 1 + 1 + 1 + 1, 1, none⟩ = some (.int .i64 mn) ∧ w'.cell? ⟨w.heap.size + 1 + 1 + 1 + 1, 2, none⟩ = some (.int .i64 mt)) ∧ w'.cell? ⟨w.heap.size + 1, 0, none⟩ = some (.int .i64 0) ∧ w'.cell? ⟨w.heap.size + 1, 1, none⟩ = some (.string ⟨#[]⟩) ∧ w'.cell? ⟨w.heap.size + 1, 2, none⟩ = some (.int .i64 0) ∧ w'.cell? ⟨w.heap.size + 1, 3, none⟩ = some (.int .i64 0)) (first | (refine ⟨⟨?_, ?_, ?_⟩, ?_, ?_, ?_, ?_⟩ <;> (simp [go_sem, s0, s1, s2, t0, t1, t2, t3]; done)) | (refine ⟨⟨?_, ?_, ?_⟩, ?_, ?_, ?_, ?_⟩ <;> (simp [go_sem, z0, z1, z2, z3, z4, z5, z6]; done))) (first | (go_at_call 196; refine (HP.out _ (below_drewN hB2 _)).mono ?_; rintro e w4 ⟨A, cap, rfl, hown4, hb4⟩; obtain ⟨hc4, hf4⟩ := bcell hb4; have k0 := (hc4 (w.heap.size + 1 + 1 + 1) 0 (by show _ < w2.heap.size; omega)).trans q0; have k1 := (hc4 (w.heap.size + 1 + 1 + 1) 1 (by show _ < w2.heap.size; omega)).trans q1; have k2 := (hc4 (w.heap.size + 1 + 1 + 1) 2 (by show _ < w2.heap.size; omega)).trans q2; have k3 := (hc4 (w.heap.size + 1 + 1 + 1) 3 (by show _ < w2.heap.size; omega)).trans q3; have kf := fun o => (hf4 (w.heap.size + 1 + 1 + 1) o (by show _ < w2.heap.size; omega)).trans (qf o); have z0 := (hc4 (w.heap.size + 1 + 1 + 1 + 1) 0 (by show _ < w2.heap.size; omega)).trans s0; have z1 := (hc4 (w.heap.size + 1 + 1 + 1 + 1) 1 (by show _ < w2.heap.size; omega)).trans s1; have z2 := (hc4 (w.heap.size + 1 + 1 + 1 + 1) 2 (by show _ < w2.heap.size; omega)).trans s2; have z3 := (hc4 (w.heap.size + 1) 0 (by show _ < w2.heap.size; omega)).trans t0; have z4 := (hc4 (w.heap.size + 1) 1 (by show _ < w2.heap.size; omega)).trans t1; have z5 := (hc4 (w.heap.size + 1) 2 (by show _ < w2.heap.size; omega)).trans t2; have z6 := (hc4 (w.heap.size + 1) 3 (by show _ < w2.heap.size; omega)).trans t3))
  have hB4 : Below w.heap.size w w4 := (below_drewN hB2 1).trans (hb4.mono hB2.size)
  have hsz4 : w.heap.size + 1 + 1 + 1 < w4.heap.size := Nat.lt_of_lt_of_le hz3 hb4.size
  go_wp2_with fail
  exact bodyPost_ret (v := .tuple #[.slice A out.length cap, .agg #[.int .i64 0, .string ⟨#[]⟩, .int .i64 0, .int .i64 0], .bool false]) (by simp [results, Tryz.results162, go_sem, k0, k1, k2, k3]) rfl ⟨A, cap, rfl, (own_set (own_set (own_set (own_set hown4 hz3 _) hz3 _) hz3 _) hz3 _).mono (by show w.heap.size ≤ w2.heap.size; omega), (by repeat (first | with_reducible refine Below.setCell ?_ (by simp <;> omega) _ | with_reducible refine below_drew ?_ | with_reducible refine below_drewN ?_ _ | with_reducible refine Below.alloc ?_ (by simp <;> omega) _ | exact hB4))⟩

theorem apply_any {w : World} (hg : Gd w) (nd : Nd) (fa : Option Addr) (fc : Nat) (st : Hd) (has : Bool) (r : Rc) (input : Int) (hr : RcOk r) (hs : HdOk st) (ht : nd.tx.size ≤ 9223372036854775807) (hin : 0 ≤ input ∧ input < 100) :
    Calls Tryz.prog 162 #[ndV nd fa fc, hdV st, .bool has, rcV r, .int .i64 input] w fun e w' => ∃ A cap, e = .returned (.tuple #[.slice A (appP nd st has r input).1.length cap, hdV (appP nd st has r input).2.1, .bool (appP nd st has r input).2.2]) ∧
      w'.ownsRow w.heap.size 164 3 (.slice A (appP nd st has r input).1.length cap) (appP nd st has r input).1.length (rcells (appP nd st has r input).1) ∧ Below w.heap.size w w' := by
  obtain ⟨k, fs, tx, nn⟩ := nd
  cases has with
  | true =>
    cases h : hasStP k with
    | true => exact apply_tt hg k fs tx nn fa fc st r input hr hs ht hin h
    | false => exact apply_tf hg k fs tx nn fa fc st r input hr hs ht hin h
  | false =>
    cases h : hasStP k with
    | true => exact apply_ft hg k fs tx nn fa fc st r input hr hs ht hin h
    | false => exact apply_ff hg k fs tx nn fa fc st r input hr hs ht hin h
end Go.Proofs.YthadeccnibnioaaGreatDoor
