import Derived.Test.YthadeccnibnioaaGreatDoorSz2
import Derived.Test.YthadeccnibnioaaGreatDoorRz5
import Derived.Test.YthadeccnibnioaaGreatDoorSz4
/- The document's Value of a tree, but for quotients and rests. -/
namespace Go.Proofs.YthadeccnibnioaaGreatDoor
open Go.RowKit
set_option linter.unusedVariables false
def VlOK (n s : Int) (t : Tm) : Prop := ∀ (S : Nat → Prop) (w : World) (v : Tv), TrV S w t v → Calls Tryz.prog 12 #[tvV v, .int .i64 n, .int .i64 s] w fun e w' => e = .returned (.int .i64 (ev n s t)) ∧ Below w.heap.size w w'
theorem vl_num (n s : Int) (k : Nat) : VlOK n s (.num k) := by
  intro S w x hT
  obtain ⟨rfl, hv⟩ := hT
  have b1 := boxed w 0 k none 0 0
  show Calls Tryz.prog 12 #[.agg #[.int .i64 0, .int .i64 k, .slice none 0 0], .int .i64 n, .int .i64 s] w _
  go_enter Tryz.func12, Tryz.ntmps12
  go_wp2_with fail
  go_ret
  exact ⟨rfl, b1⟩
theorem vl_vn (n s : Int) : VlOK n s .vn := by
  intro S w x hT
  obtain rfl : x = _ := hT
  have b1 := boxed w 110 0 none 0 0
  show Calls Tryz.prog 12 #[.agg #[.int .i64 110, .int .i64 0, .slice none 0 0], .int .i64 n, .int .i64 s] w _
  go_enter Tryz.func12, Tryz.ntmps12
  go_wp2_with fail
  go_ret
  exact ⟨rfl, b1⟩
theorem vl_vs (n s : Int) : VlOK n s .vs := by
  intro S w x hT
  obtain rfl : x = _ := hT
  have b1 := boxed w 115 0 none 0 0
  show Calls Tryz.prog 12 #[.agg #[.int .i64 115, .int .i64 0, .slice none 0 0], .int .i64 n, .int .i64 s] w _
  go_enter Tryz.func12, Tryz.ntmps12
  go_wp2_with fail
  go_ret
  exact ⟨rfl, b1⟩
set_option maxHeartbeats 2000000 in
theorem vl_neg {n s : Int} {a : Tm} (h : VlOK n s a) : VlOK n s (.neg a) := by
  intro S w x hT
  obtain ⟨q, y, hq, rfl, hc, hTa⟩ := hT
  have b1 := boxed w 126 0 (some ⟨q, 0, none⟩) 1 1
  have hc1 := (b1.block _ (some_lt hc)).trans hc
  have HI := h S _ y (hTa.bel b1)
  have hbox : (w.alloc (.cells #[.int .i64 126, .int .i64 0, .slice (some ⟨q, 0, none⟩) 1 1] 24)).heap[w.heap.size]? = some (.cells #[.int .i64 126, .int .i64 0, .slice (some ⟨q, 0, none⟩) 1 1] 24 (0, 0)) := heap_alloc_new w _
  have hql := some_lt hc1
  obtain ⟨z0, z1, z2⟩ := kid (k := 0) (x := y) hc1 rfl rfl rfl
  have he : ev n s (.neg a) = wr (-(ev n s a)) := rfl
  rw [he]
  obtain ⟨ya, yb, yA, yn, yc⟩ := y
  simp only [tvV] at *
  generalize ev n s a = va at *
  clear hTa hc hc1 h he
  go_enter Tryz.func12, Tryz.ntmps12
  go_wp2_with (go_at_call 12; refine HI.mono ?_; rintro e u ⟨rfl, b2⟩; refine Hid.out ?_)
  refine Lib.hid ?_
  have hbx := (b2.block _ (some_lt hbox)).trans hbox
  have g0 : u.cell? ⟨w.heap.size, 0, none⟩ = some (.int .i64 126) := by simp [World.cell?, hbx]
  have HB := Lib.hid (b1.trans (b2.mono b1.size))
  clear b2 HI hbx
  go_wp2_with fail
  go_ret
  exact ⟨ret_int (by rw [← wr_eq]), HB.out⟩
set_option maxHeartbeats 4000000 in
set_option maxRecDepth 100000 in
theorem vl_cond {n s : Int} {a b c : Tm} (ha : VlOK n s a) (hb : VlOK n s b) (hc : VlOK n s c) : VlOK n s (.cond a b c) := by
  intro S w v hT
  obtain ⟨q, x, y, z, hq, rfl, hr, hTa, hTb, hTc⟩ := hT
  have b1 := boxed w 63 0 (some ⟨q, 0, none⟩) 3 3
  have hbox : (w.alloc (.cells #[.int .i64 63, .int .i64 0, .slice (some ⟨q, 0, none⟩) 3 3] 24)).heap[w.heap.size]? = some (.cells #[.int .i64 63, .int .i64 0, .slice (some ⟨q, 0, none⟩) 3 3] 24 (0, 0)) := heap_alloc_new w _
  have HA1 := ha S _ x (hTa.bel b1)
  have HB := Lib.hid (fun (u : World) (hu : Below w.heap.size w u) => hb S u y (hTb.bel hu))
  have HC := Lib.hid (fun (u : World) (hu : Below w.heap.size w u) => hc S u z (hTc.bel hu))
  have HK := Lib.hid (fun (u : World) (hu : Below w.heap.size w u) => (hu.block _ (some_lt hr)).trans hr)
  have he : ev n s (.cond a b c) = if ev n s a ≠ 0 then ev n s b else ev n s c := rfl
  rw [he]
  generalize ev n s a = va at *
  generalize ev n s b = vb at *
  generalize ev n s c = vc at *
  have hql := some_lt hr
  clear he hTa hTb hTc hr ha hb hc
  obtain ⟨xa, xb, xA, xn, xc⟩ := x
  obtain ⟨ya, yb, yA, yn, yc⟩ := y
  obtain ⟨za, zb, zA, zn, zc⟩ := z
  simp only [tvV] at *
  have k1 := HK.out _ b1
  obtain ⟨x0, x1, x2⟩ := kid (k := 0) (x := ⟨xa, xb, xA, xn, xc⟩) k1 rfl rfl rfl
  go_enter Tryz.func12, Tryz.ntmps12
  go_wp2_with (go_at_call 12; refine HA1.mono ?_; rintro e u ⟨rfl, b2⟩; refine Hid.out ?_)
  refine Lib.hid ?_
  have c2 : Below w.heap.size w u := b1.trans (b2.mono b1.size)
  have k2 := HK.out _ c2
  obtain ⟨y0, y1, y2⟩ := kid (k := 3) (x := ⟨ya, yb, yA, yn, yc⟩) k2 rfl rfl rfl
  obtain ⟨z0, z1, z2⟩ := kid (k := 6) (x := ⟨za, zb, zA, zn, zc⟩) k2 rfl rfl rfl
  have hbx := (b2.block _ (some_lt hbox)).trans hbox
  have g0 : u.cell? ⟨w.heap.size, 2, none⟩ = some (.slice (some ⟨q, 0, none⟩) 3 3) := by simp [World.cell?, hbx]
  have g1 : u.cell? ⟨w.heap.size, 0, none⟩ = some (.int .i64 63) := by simp [World.cell?, hbx]
  have HB1 := HB.out _ c2
  have HC1 := HC.out _ c2
  clear HB HC HA1 b2 x0 x1 x2 k1 hbx
  by_cases hv : va = 0
  · subst hv
    go_wp2_with (go_at_call 12; refine HC1.mono ?_; rintro e u3 ⟨rfl, b3⟩)
    go_ret
    exact ⟨ret_int (by simp), c2.trans (b3.mono c2.size)⟩
  · have hv' : (va != 0) = true := by simpa using hv
    go_wp2_with (go_at_call 12; refine HB1.mono ?_; rintro e u3 ⟨rfl, b3⟩)
    go_ret
    exact ⟨ret_int (by first | rfl | rw [if_pos hv]), c2.trans (b3.mono c2.size)⟩
set_option maxHeartbeats 8000000 in
set_option maxRecDepth 100000 in
theorem vl_two {n s : Int} {op : UInt8} {a b : Tm} {o : Int} (hoo : ((op.toNat : Nat) : Int) = o) (ho : op = 43 ∧ o = 43 ∨ op = 45 ∧ o = 45 ∨ op = 42 ∧ o = 42 ∨ op = 109 ∧ o = 109 ∨ op = 77 ∧ o = 77 ∨ op = 60 ∧ o = 60 ∨ op = 61 ∧ o = 61 ∨ op = 62 ∧ o = 62) (ha : VlOK n s a) (hb : VlOK n s b) : VlOK n s (.two op a b) := by
  intro S w v hT
  obtain ⟨q, x, y, hq, rfl, hr, hTa, hTb⟩ := hT
  rw [hoo]
  have b1 := boxed w o 0 (some ⟨q, 0, none⟩) 2 2
  have hbox : (w.alloc (.cells #[.int .i64 o, .int .i64 0, .slice (some ⟨q, 0, none⟩) 2 2] 24)).heap[w.heap.size]? = some (.cells #[.int .i64 o, .int .i64 0, .slice (some ⟨q, 0, none⟩) 2 2] 24 (0, 0)) := heap_alloc_new w _
  have HA1 := ha S _ x (hTa.bel b1)
  have HB := Lib.hid (fun (u : World) (hu : Below w.heap.size w u) => hb S u y (hTb.bel hu))
  have HK := Lib.hid (fun (u : World) (hu : Below w.heap.size w u) => (hu.block _ (some_lt hr)).trans hr)
  have he : ev n s (.two op a b) = of2 op (ev n s a) (ev n s b) := rfl
  rw [he]
  generalize ev n s a = va at *
  generalize ev n s b = vb at *
  have hql := some_lt hr
  clear he hTa hTb hr ha hb
  obtain ⟨xa, xb, xA, xn, xc⟩ := x
  obtain ⟨ya, yb, yA, yn, yc⟩ := y
  simp only [tvV] at *
  have k1 := HK.out _ b1
  obtain ⟨x0, x1, x2⟩ := kid (k := 0) (x := ⟨xa, xb, xA, xn, xc⟩) k1 rfl rfl rfl
  clear hoo
  rcases ho with ⟨rfl, rfl⟩ | ⟨rfl, rfl⟩ | ⟨rfl, rfl⟩ | ⟨rfl, rfl⟩ | ⟨rfl, rfl⟩ | ⟨rfl, rfl⟩ | ⟨rfl, rfl⟩ | ⟨rfl, rfl⟩
  all_goals
    go_enter Tryz.func12, Tryz.ntmps12
    go_wp2_with (go_at_call 12; refine HA1.mono ?_; rintro e u ⟨rfl, b2⟩; refine Hid.out ?_)
    refine Lib.hid ?_
    have c2 : Below w.heap.size w u := b1.trans (b2.mono b1.size)
    have k2 := HK.out _ c2
    obtain ⟨y0, y1, y2⟩ := kid (k := 3) (x := ⟨ya, yb, yA, yn, yc⟩) k2 rfl rfl rfl
    have hbx := (b2.block _ (some_lt hbox)).trans hbox
    have g0 : u.cell? ⟨w.heap.size, 2, none⟩ = some (.slice (some ⟨q, 0, none⟩) 2 2) := by simp [World.cell?, hbx]
    have g1 := (show u.cell? ⟨w.heap.size, 0, none⟩ = _ from by simp only [World.cell?, hbx]; rfl)
    have HB1 := HB.out _ c2
    clear HB HA1 b2 x0 x1 x2 k1
    go_wp2_with (go_at_call 12; refine HB1.mono ?_; rintro e u3 ⟨rfl, b3⟩; refine Hid.out ?_)
    refine Lib.hid ?_
    have c3 : Below w.heap.size w u3 := c2.trans (b3.mono c2.size)
    have hbx3 := (b3.block _ (some_lt hbx)).trans hbx
    have g3 := (show u3.cell? ⟨w.heap.size, 0, none⟩ = _ from by simp only [World.cell?, hbx3]; rfl)
    clear HB1 b3 y0 y1 y2 k2 g0 g1 hbx hbx3
    by_cases q1 : va < vb
    all_goals by_cases q2 : vb < va
    all_goals by_cases q3 : va = vb
    all_goals first
      | omega
      | (first | (have q4 : (va == vb) = false := by simpa using q3) | (have q4 : (va == vb) = true := by simpa using q3))
    all_goals
      go_wp2_with fail
      go_ret
      refine ⟨ret_int ?_, c3⟩
      first
        | (simp [of2, wr_eq, *]; done)
        | (simp [of2]; omega)
        | (simp [of2, *]; decide)
end Go.Proofs.YthadeccnibnioaaGreatDoor

/- The document's Value of a quotient and of a rest; of every tree. -/
namespace Go.Proofs.YthadeccnibnioaaGreatDoor
open Go.RowKit
set_option linter.unusedVariables false
set_option linter.unusedSimpArgs false

def Bdi (x : Int) : Prop := -9223372036854775808 ≤ x ∧ x ≤ 9223372036854775807
theorem fits_any {w : World} {b n : Nat} {neg : Bool} (h : IntV w b neg n) (hn : n ≤ 9223372036854775808) :
    Calls Tryz.prog 40 #[.pointer (some ⟨b, 0, none⟩)] w fun e w' => e = .returned (.bool (decide (n < 9223372036854775808) || neg)) ∧ w = w' := by
  by_cases h1 : n < 9223372036854775808
  · simpa [h1] using isint_lt h h1
  · obtain rfl : n = 9223372036854775808 := by omega
    cases neg with
    | true => simpa using isint_top h
    | false => simpa using isint_any h (by rw [wl_63]; simp)
theorem newint_ex (w : World) (n : Int) (hn : Bdi n) :
    Calls Tryz.prog 38 #[.int .i64 n] w fun e w' => ∃ p, e = .returned (.pointer (some ⟨p, 0, none⟩)) ∧ w.heap.size ≤ p ∧ IntV w' p (decide (n < 0)) n.natAbs ∧ Below w.heap.size w w' :=
  (newint_any w n hn.1 hn.2).mono fun e w' ⟨h1, h2, h3⟩ => ⟨_, h1, Nat.le_refl _, h2, h3⟩

def sgQ (a b : Int) : Bool := (decide (a < 0) != decide (b < 0)) && decide (a.natAbs / b.natAbs ≠ 0)
def sgR (a b : Int) : Bool := decide (a < 0) && decide (a.natAbs % b.natAbs ≠ 0)
theorem quo_abs (a b : Int) : (if sgQ a b then -((a.natAbs / b.natAbs : Nat) : Int) else ((a.natAbs / b.natAbs : Nat) : Int)) = a.tdiv b := by
  rcases Int.natAbs_eq a with ha | ha <;> rcases Int.natAbs_eq b with hb | hb
  all_goals
    generalize a.natAbs = m at *
    generalize b.natAbs = k at *
    subst ha hb
    simp only [sgQ, Int.natAbs_neg, Int.natAbs_natCast, Int.neg_tdiv, Int.tdiv_neg, Int.neg_neg, ← Int.ofNat_tdiv]
    by_cases h0 : m / k = 0
    · simp [h0]
    · have hm : 0 < m := by
        rcases Nat.eq_zero_or_pos m with h | h
        · subst h; simp at h0
        · exact h
      have hk : 0 < k := by
        rcases Nat.eq_zero_or_pos k with h | h
        · subst h; simp at h0
        · exact h
      have e1 : decide ((m : Int) < 0) = false := by simp
      have e2 : decide (-(m : Int) < 0) = true := by simp; omega
      have e3 : decide ((k : Int) < 0) = false := by simp
      have e4 : decide (-(k : Int) < 0) = true := by simp; omega
      rw [show decide (m / k ≠ 0) = true from by simp only [ne_eq, h0, not_false_eq_true, decide_true]]
      simp only [e1, e2, e3, e4]
      simp
theorem rem_abs (a b : Int) : (if sgR a b then -((a.natAbs % b.natAbs : Nat) : Int) else ((a.natAbs % b.natAbs : Nat) : Int)) = a.tmod b := by
  rcases Int.natAbs_eq a with ha | ha <;> rcases Int.natAbs_eq b with hb | hb
  all_goals
    generalize a.natAbs = m at *
    generalize b.natAbs = k at *
    subst ha hb
    simp only [sgR, Int.natAbs_neg, Int.natAbs_natCast, Int.neg_tmod, Int.tmod_neg, ← Int.ofNat_tmod]
    by_cases h0 : m % k = 0
    · simp [h0]
    · have hm : 0 < m := by
        rcases Nat.eq_zero_or_pos m with h | h
        · subst h; simp at h0
        · exact h
      have e1 : decide ((m : Int) < 0) = false := by simp
      have e2 : decide (-(m : Int) < 0) = true := by simp; omega
      rw [show decide (m % k ≠ 0) = true from by simp only [ne_eq, h0, not_false_eq_true, decide_true]]
      simp only [e1, e2]
      simp
theorem quo_le {a b : Int} (ha : Bdi a) (hb : b ≠ 0) : a.natAbs / b.natAbs ≤ 9223372036854775808 := by
  have := Nat.div_le_self a.natAbs b.natAbs
  have := ha.1; have := ha.2
  omega
theorem rem_lt {a b : Int} (hb : Bdi b) (h0 : b ≠ 0) : a.natAbs % b.natAbs < 9223372036854775808 := by
  have := Nat.mod_lt a.natAbs (show 0 < b.natAbs by omega)
  have := hb.1; have := hb.2
  omega
/-- What a quotient is, where it fits; where it does not. -/
theorem quo_fit {a b : Int} (ha : Bdi a) (hb : b ≠ 0) (hf : (decide (a.natAbs / b.natAbs < 9223372036854775808) || sgQ a b) = true) : a.tdiv b = wr (a.tdiv b) := by
  have h := quo_abs a b
  have hl := quo_le ha hb
  generalize a.tdiv b = x at *
  generalize a.natAbs / b.natAbs = q at *
  have : -9223372036854775808 ≤ x ∧ x ≤ 9223372036854775807 := by
    cases hs : sgQ a b with
    | true => rw [hs] at h; simp at h; omega
    | false => rw [hs] at h hf; simp at h hf; omega
  unfold wr; omega
theorem quo_not {a b : Int} (ha : Bdi a) (hb : b ≠ 0) (hf : (decide (a.natAbs / b.natAbs < 9223372036854775808) || sgQ a b) = false) : a = wr (a.tdiv b) := by
  have h := quo_abs a b
  have hl := quo_le ha hb
  have h1 := Nat.div_le_self a.natAbs b.natAbs
  generalize a.tdiv b = x at *
  generalize a.natAbs / b.natAbs = q at *
  simp at hf
  rw [hf.2] at h
  simp at h
  obtain ⟨h2, h3⟩ := ha
  have h4 : a = -9223372036854775808 := by omega
  have h5 : q = 9223372036854775808 := by omega
  rw [← h, h5, h4]; decide
end Go.Proofs.YthadeccnibnioaaGreatDoor

/- The document's Value of a quotient and of a rest: the walk; of every tree. -/
namespace Go.Proofs.YthadeccnibnioaaGreatDoor
open Go.RowKit
set_option linter.unusedVariables false
set_option linter.unusedSimpArgs false

set_option maxHeartbeats 8000000 in
set_option maxRecDepth 100000 in
theorem vl_div {n s : Int} {op : UInt8} {a b : Tm} {o : Int} (hoo : ((op.toNat : Nat) : Int) = o) (ho : op = 47 ∧ o = 47 ∨ op = 37 ∧ o = 37) (ha : VlOK n s a) (hb : VlOK n s b) (hA : Bdi (ev n s a)) (hB : Bdi (ev n s b)) : VlOK n s (.two op a b) := by
  intro S w v hT
  obtain ⟨q, x, y, hq, rfl, hr, hTa, hTb⟩ := hT
  rw [hoo]
  have b1 := boxed w o 0 (some ⟨q, 0, none⟩) 2 2
  have hbox : (w.alloc (.cells #[.int .i64 o, .int .i64 0, .slice (some ⟨q, 0, none⟩) 2 2] 24)).heap[w.heap.size]? = some (.cells #[.int .i64 o, .int .i64 0, .slice (some ⟨q, 0, none⟩) 2 2] 24 (0, 0)) := heap_alloc_new w _
  have HA1 := ha S _ x (hTa.bel b1)
  have HB := Lib.hid (fun (u : World) (hu : Below w.heap.size w u) => hb S u y (hTb.bel hu))
  have HK := Lib.hid (fun (u : World) (hu : Below w.heap.size w u) => (hu.block _ (some_lt hr)).trans hr)
  have he : ev n s (.two op a b) = of2 op (ev n s a) (ev n s b) := rfl
  rw [he]
  generalize ev n s a = va at *
  generalize ev n s b = vb at *
  have hql := some_lt hr
  clear he hTa hTb hr ha hb
  obtain ⟨xa, xb, xA, xn, xc⟩ := x
  obtain ⟨ya, yb, yA, yn, yc⟩ := y
  simp only [tvV] at *
  have k1 := HK.out _ b1
  obtain ⟨x0, x1, x2⟩ := kid (k := 0) (x := ⟨xa, xb, xA, xn, xc⟩) k1 rfl rfl rfl
  have HE47 := Lib.hid (show of2 47 va vb = if vb = 0 then 0 else wr (va.tdiv vb) from rfl)
  have HE37 := Lib.hid (show of2 37 va vb = if vb = 0 then 0 else va.tmod vb from rfl)
  have HNa := Lib.hid (fun (u : World) => newint_ex u va hA)
  have HNb := Lib.hid (fun (u : World) => newint_ex u vb hB)
  have HQ := Lib.hid (fun (u : World) (z x y : Nat) (hz : u.heap[z]? = some (.cells #[.bool false, .slice none 0 0] 86 (0, 0))) (hx : IntV u x (decide (va < 0)) va.natAbs) (hy : IntV u y (decide (vb < 0)) vb.natAbs) (h0 : vb ≠ 0) => quo_any hz ⟨none, 0, 0, rfl⟩ hx hy (by have := hA.1; have := hA.2; omega) (by have := hB.1; have := hB.2; omega) (by omega))
  have HR := Lib.hid (fun (u : World) (z x y : Nat) (hz : u.heap[z]? = some (.cells #[.bool false, .slice none 0 0] 86 (0, 0))) (hx : IntV u x (decide (va < 0)) va.natAbs) (hy : IntV u y (decide (vb < 0)) vb.natAbs) (h0 : vb ≠ 0) => rem_any hz ⟨none, 0, 0, rfl⟩ hx hy (by have := hA.1; have := hA.2; omega) (by have := hB.1; have := hB.2; omega) (by omega))
  have HZ := Lib.hid (fun (u : World) => int_new u)
  have HAB := Lib.hid (And.intro hA hB)
  clear hoo hA hB
  rcases ho with ⟨rfl, rfl⟩ | ⟨rfl, rfl⟩
  · go_enter Tryz.func12, Tryz.ntmps12
    go_wp2_with (go_at_call 12; refine HA1.mono ?_; rintro e u ⟨rfl, b2⟩; refine Hid.out ?_)
    refine Lib.hid ?_
    have c2 : Below w.heap.size w u := b1.trans (b2.mono b1.size)
    have k2 := HK.out _ c2
    obtain ⟨y0, y1, y2⟩ := kid (k := 3) (x := ⟨ya, yb, yA, yn, yc⟩) k2 rfl rfl rfl
    have hbx := (b2.block _ (some_lt hbox)).trans hbox
    have g0 : u.cell? ⟨w.heap.size, 2, none⟩ = some (.slice (some ⟨q, 0, none⟩) 2 2) := by simp [World.cell?, hbx]
    have g1 := (show u.cell? ⟨w.heap.size, 0, none⟩ = _ from by simp only [World.cell?, hbx]; rfl)
    have HB1 := HB.out _ c2
    clear HB HA1 b2 x0 x1 x2 k1
    go_wp2_with (go_at_call 12; refine HB1.mono ?_; rintro e u3 ⟨rfl, b3⟩; refine Hid.out ?_)
    refine Lib.hid ?_
    have c3 : Below w.heap.size w u3 := c2.trans (b3.mono c2.size)
    have hbx3 := (b3.block _ (some_lt hbx)).trans hbx
    have g3 := (show u3.cell? ⟨w.heap.size, 0, none⟩ = _ from by simp only [World.cell?, hbx3]; rfl)
    clear HB1 b3 y0 y1 y2 k2 g0 g1 hbx
    by_cases h0 : vb = 0
    · subst h0
      go_wp2_with fail
      go_ret
      exact ⟨ret_int (by rw [HE47.out]; simp), c3⟩
    have q0 : (vb == 0) = false := by simpa using h0
    have hz4 := HZ.out u3
    have b4 : Below u3.heap.size u3 (u3.alloc (.cells #[.bool false, .slice none 0 0] 86)) := (Below.refl _ _).alloc (Nat.le_refl _) _
    go_wp2_with (go_at_call 38; refine (HNa.out _).mono ?_; rintro e u5 ⟨p, rfl, hp, I5, b5⟩; refine Hid.out ?_)
    refine Lib.hid ?_
    have hz5 := (b5.block _ (some_lt hz4)).trans hz4
    have c5 : Below w.heap.size w u5 := c3.trans ((b4.trans (b5.mono b4.size)).mono c3.size)
    have hbx5 := (b5.block _ (by have := some_lt hbx3; have := b4.size; omega)).trans ((b4.block _ (some_lt hbx3)).trans hbx3)
    obtain ⟨z, hz⟩ : ∃ z, z = u3.heap.size := ⟨_, rfl⟩
    rw [← hz] at hz5 ⊢
    have hzw : w.heap.size ≤ z := by have := c3.size; omega
    clear hz b4 b5 hz4 hp g3 hbx3 HNa
    go_wp2_with (go_at_call 38; refine (HNb.out _).mono ?_; rintro e u6 ⟨p2, rfl, hp2, I6, b6⟩; refine Hid.out ?_)
    refine Lib.hid ?_
    have hz6 := (b6.block _ (some_lt hz5)).trans hz5
    have c6 : Below w.heap.size w u6 := c5.trans (b6.mono c5.size)
    have hbx6 := (b6.block _ (some_lt hbx5)).trans hbx5
    have HQ1 := HQ.out u6 z p p2 hz6 (I5.bel b6) I6 h0
    clear hp2 hbx5 hz5 b6 I5 I6
    go_wp2_with (go_at_call 37; refine HQ1.mono ?_; rintro e u7 ⟨rfl, I7, f7⟩; refine Hid.out ?_)
    refine Lib.hid ?_
    have c7 : Below w.heap.size w u7 := c6.trans (f7.toBelow c6.size (by simpa using hzw))
    have hwz : w.heap.size ≠ z := by
      intro e; rw [← e] at hz6; rw [hbx6] at hz6; simp at hz6
    have hbx7 := (f7.block _ (some_lt hbx6) (by simpa using hwz)).trans hbx6
    have g7 := (show u7.cell? ⟨w.heap.size, 0, none⟩ = _ from by simp only [World.cell?, hbx7]; rfl)
    have HF := fits_any I7 (quo_le HAB.out.1 h0)
    clear HQ1 HQ HR HNb hbx6 hz6 f7 hbx7
    have HI7 := Lib.hid I7
    clear I7
    cases hf : (decide (va.natAbs / vb.natAbs < 9223372036854775808) || sgQ va vb) with
    | false =>
      have HV := Lib.hid (quo_not HAB.out.1 h0 hf)
      rw [show (decide (va.natAbs / vb.natAbs < 9223372036854775808) || ((decide (va < 0) != decide (vb < 0)) && decide (va.natAbs / vb.natAbs ≠ 0))) = false from hf] at HF
      clear hf
      go_wp2_with (go_at_call 40; refine HF.mono ?_; rintro e w' ⟨rfl, rfl⟩; refine Hid.out ?_)
      refine Lib.hid ?_
      go_wp2_with fail
      go_ret
      exact ⟨ret_int (by rw [HE47.out, if_neg h0]; exact HV.out), c7⟩
    | true =>
      have HV := Lib.hid (quo_fit HAB.out.1 h0 hf)
      have H64 := int64_sg HI7.out (quo_le HAB.out.1 h0) (fun hs => by
        have h1 : sgQ va vb = false := hs
        rw [h1] at hf; simpa using hf)
      rw [show (if (decide (va < 0) != decide (vb < 0) && decide (va.natAbs / vb.natAbs ≠ 0)) = true then -((va.natAbs / vb.natAbs : Nat) : Int) else ((va.natAbs / vb.natAbs : Nat) : Int)) = va.tdiv vb from quo_abs va vb] at H64
      rw [show (decide (va.natAbs / vb.natAbs < 9223372036854775808) || ((decide (va < 0) != decide (vb < 0)) && decide (va.natAbs / vb.natAbs ≠ 0))) = true from hf] at HF
      clear hf HI7
      generalize va.tdiv vb = tq at *
      go_wp2_with (go_at_call 40; refine HF.mono ?_; rintro e w' ⟨rfl, rfl⟩; refine Hid.out ?_)
      refine Lib.hid ?_
      go_wp2_with (go_at_call 41; refine H64.mono ?_; rintro e w' ⟨rfl, m, rfl⟩; refine Hid.out ?_)
      refine Lib.hid ?_
      go_wp2_with fail
      go_ret
      exact ⟨ret_int (by rw [HE47.out, if_neg h0]; exact HV.out), ⟨c7.os, c7.tape, c7.output, c7.size, c7.block⟩⟩
  · go_enter Tryz.func12, Tryz.ntmps12
    go_wp2_with (go_at_call 12; refine HA1.mono ?_; rintro e u ⟨rfl, b2⟩; refine Hid.out ?_)
    refine Lib.hid ?_
    have c2 : Below w.heap.size w u := b1.trans (b2.mono b1.size)
    have k2 := HK.out _ c2
    obtain ⟨y0, y1, y2⟩ := kid (k := 3) (x := ⟨ya, yb, yA, yn, yc⟩) k2 rfl rfl rfl
    have hbx := (b2.block _ (some_lt hbox)).trans hbox
    have g0 : u.cell? ⟨w.heap.size, 2, none⟩ = some (.slice (some ⟨q, 0, none⟩) 2 2) := by simp [World.cell?, hbx]
    have g1 := (show u.cell? ⟨w.heap.size, 0, none⟩ = _ from by simp only [World.cell?, hbx]; rfl)
    have HB1 := HB.out _ c2
    clear HB HA1 b2 x0 x1 x2 k1
    go_wp2_with (go_at_call 12; refine HB1.mono ?_; rintro e u3 ⟨rfl, b3⟩; refine Hid.out ?_)
    refine Lib.hid ?_
    have c3 : Below w.heap.size w u3 := c2.trans (b3.mono c2.size)
    have hbx3 := (b3.block _ (some_lt hbx)).trans hbx
    have g3 := (show u3.cell? ⟨w.heap.size, 0, none⟩ = _ from by simp only [World.cell?, hbx3]; rfl)
    clear HB1 b3 y0 y1 y2 k2 g0 g1 hbx
    by_cases h0 : vb = 0
    · subst h0
      go_wp2_with fail
      go_ret
      exact ⟨ret_int (by rw [HE37.out]; simp), c3⟩
    have q0 : (vb == 0) = false := by simpa using h0
    have hz4 := HZ.out u3
    have b4 : Below u3.heap.size u3 (u3.alloc (.cells #[.bool false, .slice none 0 0] 86)) := (Below.refl _ _).alloc (Nat.le_refl _) _
    go_wp2_with (go_at_call 38; refine (HNa.out _).mono ?_; rintro e u5 ⟨p, rfl, hp, I5, b5⟩; refine Hid.out ?_)
    refine Lib.hid ?_
    have hz5 := (b5.block _ (some_lt hz4)).trans hz4
    have c5 : Below w.heap.size w u5 := c3.trans ((b4.trans (b5.mono b4.size)).mono c3.size)
    have hbx5 := (b5.block _ (by have := some_lt hbx3; have := b4.size; omega)).trans ((b4.block _ (some_lt hbx3)).trans hbx3)
    obtain ⟨z, hz⟩ : ∃ z, z = u3.heap.size := ⟨_, rfl⟩
    rw [← hz] at hz5 ⊢
    have hzw : w.heap.size ≤ z := by have := c3.size; omega
    clear hz b4 b5 hz4 hp g3 hbx3
    go_wp2_with (go_at_call 38; refine (HNb.out _).mono ?_; rintro e u6 ⟨p2, rfl, hp2, I6, b6⟩; refine Hid.out ?_)
    refine Lib.hid ?_
    have hz6 := (b6.block _ (some_lt hz5)).trans hz5
    have c6 : Below w.heap.size w u6 := c5.trans (b6.mono c5.size)
    have hbx6 := (b6.block _ (some_lt hbx5)).trans hbx5
    have HQ1 := HQ.out u6 z p p2 hz6 (I5.bel b6) I6 h0
    clear hp2 hbx5 hz5 b6 I5 I6
    go_wp2_with (go_at_call 37; refine HQ1.mono ?_; rintro e u7 ⟨rfl, I7, f7⟩; refine Hid.out ?_)
    refine Lib.hid ?_
    have c7 : Below w.heap.size w u7 := c6.trans (f7.toBelow c6.size (by simpa using hzw))
    have hwz : w.heap.size ≠ z := by
      intro e; rw [← e] at hz6; rw [hbx6] at hz6; simp at hz6
    have hbx7 := (f7.block _ (some_lt hbx6) (by simpa using hwz)).trans hbx6
    have g7 := (show u7.cell? ⟨w.heap.size, 0, none⟩ = _ from by simp only [World.cell?, hbx7]; rfl)
    clear HQ1 HQ hbx6 hz6 f7 I7
    have hz8 := HZ.out u7
    have b8 : Below u7.heap.size u7 (u7.alloc (.cells #[.bool false, .slice none 0 0] 86)) := (Below.refl _ _).alloc (Nat.le_refl _) _
    go_wp2_with (go_at_call 38; refine (HNa.out _).mono ?_; rintro e u9 ⟨p3, rfl, hp3, I9, b9⟩; refine Hid.out ?_)
    refine Lib.hid ?_
    have hz9 := (b9.block _ (some_lt hz8)).trans hz8
    have c9 : Below w.heap.size w u9 := c7.trans ((b8.trans (b9.mono b8.size)).mono c7.size)
    obtain ⟨z2, hz2⟩ : ∃ z, z = u7.heap.size := ⟨_, rfl⟩
    rw [← hz2] at hz9 ⊢
    have hzw2 : w.heap.size ≤ z2 := by have := c7.size; omega
    clear hz2 b8 b9 hz8 hp3 g7 hbx7
    go_wp2_with (go_at_call 38; refine (HNb.out _).mono ?_; rintro e u10 ⟨p4, rfl, hp4, I10, b10⟩; refine Hid.out ?_)
    refine Lib.hid ?_
    have hz10 := (b10.block _ (some_lt hz9)).trans hz9
    have c10 : Below w.heap.size w u10 := c9.trans (b10.mono c9.size)
    have HR1 := HR.out u10 z2 p3 p4 hz10 (I9.bel b10) I10 h0
    clear hp4 hz9 b10 I9 I10 HR HNb
    go_wp2_with (go_at_call 39; refine HR1.mono ?_; rintro e u11 ⟨rfl, I11, f11⟩; refine Hid.out ?_)
    refine Lib.hid ?_
    have c11 : Below w.heap.size w u11 := c10.trans (f11.toBelow c10.size (by simpa using hzw2))
    have hrl := rem_lt (a := va) HAB.out.2 h0
    have HF := isint_lt I11 hrl
    have H64 := int64_sg I11 (Nat.le_of_lt hrl) (fun _ => hrl)
    rw [show (if (decide (va < 0) && decide (va.natAbs % vb.natAbs ≠ 0)) = true then -((va.natAbs % vb.natAbs : Nat) : Int) else ((va.natAbs % vb.natAbs : Nat) : Int)) = va.tmod vb from rem_abs va vb] at H64
    clear HR1 hz10 f11 I11 hrl
    generalize va.tmod vb = tq at *
    go_wp2_with (go_at_call 40; refine HF.mono ?_; rintro e w' ⟨rfl, rfl⟩; refine Hid.out ?_)
    refine Lib.hid ?_
    go_wp2_with (go_at_call 41; refine H64.mono ?_; rintro e w' ⟨rfl, m, rfl⟩; refine Hid.out ?_)
    refine Lib.hid ?_
    go_wp2_with fail
    go_ret
    exact ⟨ret_int (by rw [HE37.out, if_neg h0]), ⟨c11.os, c11.tape, c11.output, c11.size, c11.block⟩⟩

def OkV : Tm → Prop
  | .num v => v < 9223372036854775808
  | .vn | .vs => True
  | .neg a => OkV a
  | .two op a b => opOk op ∧ OkV a ∧ OkV b
  | .cond a b c => OkV a ∧ OkV b ∧ OkV c
theorem gr_okv {d l : Nat} {s : List UInt8} {t : Tm} (h : Gr d l s t) : OkV t := by
  induction h with
  | num d s h hd h0 hv => exact hv
  | vn => trivial
  | vs => trivial
  | brk _ ih => exact ih
  | mn _ _ iha ihb => exact ⟨by simp [opOk], iha, ihb⟩
  | mx _ _ iha ihb => exact ⟨by simp [opOk], iha, ihb⟩
  | neg _ ih => exact ih
  | mul op ho _ _ iha ihb => exact ⟨by simp at ho; rcases ho with rfl | rfl | rfl <;> simp [opOk], iha, ihb⟩
  | add op ho _ _ iha ihb => exact ⟨by simp at ho; rcases ho with rfl | rfl <;> simp [opOk], iha, ihb⟩
  | cmp op ho _ _ iha ihb => exact ⟨by simp at ho; rcases ho with rfl | rfl | rfl <;> simp [opOk], iha, ihb⟩
  | cond _ _ _ iha ihb ihc => exact ⟨iha, ihb, ihc⟩
  | up _ _ ih => exact ih
theorem wr_bd (x : Int) : Bdi (wr x) := by unfold Bdi wr; omega
theorem of2_bd (op : UInt8) {a b : Int} (ha : Bdi a) (hb : Bdi b) : Bdi (of2 op a b) := by
  have h0 : Bdi 0 := by unfold Bdi; omega
  have h1 : Bdi 1 := by unfold Bdi; omega
  unfold of2
  repeat' split
  all_goals first
    | exact h0
    | exact h1
    | exact wr_bd _
    | exact ha
    | exact hb
    | skip
  rename_i hb0
  have h2 := rem_lt (a := a) hb hb0
  have h3 := rem_abs a b
  unfold Bdi
  generalize a.tmod b = x at *
  generalize a.natAbs % b.natAbs = r at *
  split at h3 <;> omega
theorem ev_bd {n s : Int} (hn : Bdi n) (hs : Bdi s) : ∀ t : Tm, OkV t → Bdi (ev n s t) := by
  intro t
  induction t with
  | num v => intro h; have h : v < 9223372036854775808 := h; show Bdi ((v : Nat) : Int); unfold Bdi; omega
  | vn => intro _; exact hn
  | vs => intro _; exact hs
  | neg a ih => intro h; exact wr_bd _
  | two op a b iha ihb => intro h; exact of2_bd op (iha h.2.1) (ihb h.2.2)
  | cond a b c iha ihb ihc =>
    intro h
    show Bdi (if ev n s a ≠ 0 then ev n s b else ev n s c)
    split
    · exact ihb h.2.1
    · exact ihc h.2.2
/-- Every tree. -/
theorem val_any {n s : Int} (hn : Bdi n) (hs : Bdi s) : ∀ t : Tm, OkV t → VlOK n s t := by
  intro t
  induction t with
  | num v => intro _; exact vl_num n s v
  | vn => intro _; exact vl_vn n s
  | vs => intro _; exact vl_vs n s
  | neg a ih => intro ho; exact vl_neg (ih ho)
  | cond a b c iha ihb ihc => intro ho; exact vl_cond (iha ho.1) (ihb ho.2.1) (ihc ho.2.2)
  | two op a b iha ihb =>
    intro ho
    obtain ⟨h0, h1, h2⟩ := ho
    have hm : op = 61 ∨ op = 60 ∨ op = 62 ∨ op = 43 ∨ op = 45 ∨ op = 42 ∨ op = 47 ∨ op = 37 ∨ op = 109 ∨ op = 77 := by simpa [opOk] using h0
    rcases hm with rfl | rfl | rfl | rfl | rfl | rfl | rfl | rfl | rfl | rfl
    all_goals first
      | exact vl_div (o := 47) rfl (by decide) (iha h1) (ihb h2) (ev_bd hn hs a h1) (ev_bd hn hs b h2)
      | exact vl_div (o := 37) rfl (by decide) (iha h1) (ihb h2) (ev_bd hn hs a h1) (ev_bd hn hs b h2)
      | exact vl_two (o := 61) rfl (by decide) (iha h1) (ihb h2)
      | exact vl_two (o := 60) rfl (by decide) (iha h1) (ihb h2)
      | exact vl_two (o := 62) rfl (by decide) (iha h1) (ihb h2)
      | exact vl_two (o := 43) rfl (by decide) (iha h1) (ihb h2)
      | exact vl_two (o := 45) rfl (by decide) (iha h1) (ihb h2)
      | exact vl_two (o := 42) rfl (by decide) (iha h1) (ihb h2)
      | exact vl_two (o := 109) rfl (by decide) (iha h1) (ihb h2)
      | exact vl_two (o := 77) rfl (by decide) (iha h1) (ihb h2)
end Go.Proofs.YthadeccnibnioaaGreatDoor
