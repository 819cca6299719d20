import Derived.Test.YtoooninneccfcaaGreatDoorGt
import Derived.Test.YtoooninneccfcaaGreatDoorGu
import Derived.Laws.BytesArg
/- The document's Text of a tree. -/
namespace Go.Proofs.YtoooninneccfcaaGreatDoor
open Go.RowKit
open Go.Lib (decDigits itoa)
set_option linter.unusedVariables false
def bb (l : List UInt8) : ByteArray := ⟨l.toArray⟩
theorem bb_app (a b : List UInt8) : bb a ++ bb b = bb (a ++ b) := by
  apply ByteArray.ext
  simp [bb]
theorem bb_size (a : List UInt8) : (bb a).size = a.length := by simp [bb, ByteArray.size]
/-- How tight an operator binds, by its number. -/
def tg (a : Int) : Nat := if a = 63 then 0 else if a = 60 ∨ a = 61 ∨ a = 62 then 1 else if a = 43 ∨ a = 45 then 2 else if a = 42 ∨ a = 47 ∨ a = 37 then 3 else if a = 126 then 4 else 5
def opOk (op : UInt8) : Prop := op ∈ [61, 60, 62, 43, 45, 42, 47, 37, 109, 77]
def okT : Tm → Prop
  | .num _ | .vn | .vs => True
  | .neg a => okT a
  | .two op a b => opOk op ∧ okT a ∧ okT b
  | .cond a b c => okT a ∧ okT b ∧ okT c
theorem tg_op : ∀ op : UInt8, tg op.toNat = rk op ∨ op = 48 := by
  intro op
  have h : ∀ n : Fin 256, tg ((UInt8.ofNat n.val).toNat) = rk (UInt8.ofNat n.val) ∨ UInt8.ofNat n.val = 48 := by decide +kernel
  have := h ⟨op.toNat, op.toNat_lt⟩
  simpa using this
theorem tg_tree {S : Nat → Prop} {w : World} {t : Tm} {v : Tv} (h : TrV S w t v) : tg v.a = rk t.op := by
  cases t with
  | num n => rw [h.1]; show tg 0 = rk 48; decide
  | vn => rw [show v = _ from h]; decide
  | vs => rw [show v = _ from h]; decide
  | neg a => obtain ⟨q, x, -, rfl, -⟩ := h; show tg 126 = rk 126; decide
  | two op a b =>
    obtain ⟨q, x, y, -, rfl, -⟩ := h
    rcases tg_op op with h | h
    · exact h
    · subst h; show tg 48 = rk 48; decide
  | cond a b c => obtain ⟨q, x, y, z, -, rfl, -⟩ := h; show tg 63 = rk 63; decide
theorem TrV.bel {S : Nat → Prop} {w w' : World} {t : Tm} {v : Tv} (h : TrV S w t v) (hb : Below w.heap.size w w') : TrV S w' t v := TrV.keep (fun p o _ ho => by rw [hb.block p (some_lt ho)]; exact ho) t v h
abbrev tvV (v : Tv) : Value := .agg #[.int .i64 v.a, .int .i64 v.b, .slice v.A v.n v.c]
set_option maxHeartbeats 2000000 in
theorem tight_any (a b : Int) (A : Option Addr) (n c : Nat) (w : World) : Calls Tryz.prog 35 #[.agg #[.int .i64 a, .int .i64 b, .slice A n c]] w fun e w' => e = .returned (.int .i64 (tg a : Nat)) ∧ Below w.heap.size w w' := by
  have hb : Below w.heap.size w (w.alloc (.cells #[.int .i64 a, .int .i64 b, .slice A n c] 24)) := (Below.refl _ _).alloc (Nat.le_refl _) _
  by_cases h1 : a = 63 ∨ a = 60 ∨ a = 61 ∨ a = 62 ∨ a = 43 ∨ a = 45 ∨ a = 42 ∨ a = 47 ∨ a = 37 ∨ a = 126
  · rcases h1 with rfl | rfl | rfl | rfl | rfl | rfl | rfl | rfl | rfl | rfl
    all_goals
      go_enter Tryz.func35, Tryz.ntmps35
      go_wp2_with fail
      go_ret
      exact ⟨rfl, hb⟩
  · have e : tg a = 5 := by
      unfold tg
      rw [if_neg (by omega), if_neg (by omega), if_neg (by omega), if_neg (by omega), if_neg (by omega)]
    rw [e]
    have q1 : (a == 63) = false := by simp; omega
    have q2 : (a == 60) = false := by simp; omega
    have q3 : (a == 61) = false := by simp; omega
    have q4 : (a == 62) = false := by simp; omega
    have q5 : (a == 43) = false := by simp; omega
    have q6 : (a == 45) = false := by simp; omega
    have q7 : (a == 42) = false := by simp; omega
    have q8 : (a == 47) = false := by simp; omega
    have q9 : (a == 37) = false := by simp; omega
    have q10 : (a == 126) = false := by simp; omega
    clear h1 e
    go_enter Tryz.func35, Tryz.ntmps35
    go_wp2_with fail
    go_ret
    exact ⟨rfl, hb⟩
def TxOK (t : Tm) : Prop := ∀ (S : Nat → Prop) (w : World) (v : Tv), TrV S w t v → Calls Tryz.prog 10 #[tvV v] w fun e w' => e = .returned (.string (bb (prt t))) ∧ Below w.heap.size w w'
theorem in_any {t : Tm} (h : TxOK t) {S : Nat → Prop} {w : World} {v : Tv} (hT : TrV S w t v) (lm : Nat) (hl : (prt t).length ≤ 10000) : Calls Tryz.prog 34 #[tvV v, .int .i64 lm] w fun e w' => e = .returned (.string (bb (brk (rk t.op < lm) (prt t)))) ∧ Below w.heap.size w w' := by
  have htg := tg_tree hT
  obtain ⟨a, b, A, n, c⟩ := v
  have b1 : Below w.heap.size w (w.alloc (.cells #[.int .i64 a, .int .i64 b, .slice A n c] 24)) := (Below.refl _ _).alloc (Nat.le_refl _) _
  have HT := h S _ _ (hT.bel b1)
  have HG := tight_any a b A n c
  simp only at htg
  rw [htg] at HG
  have hz := bb_size (prt t)
  simp only [tvV] at *
  generalize prt t = l at *
  generalize rk t.op = r at *
  clear h hT htg
  have hl0 : w.heap.size < (w.alloc (.cells #[.int .i64 a, .int .i64 b, .slice A n c] 24)).heap.size := by simp
  have e1 : bb [40] ++ bb l ++ bb [41] = bb (40 :: (l ++ [41])) := by rw [bb_app, bb_app]; rfl
  have E1 := Lib.hid e1
  clear e1
  by_cases hr : r < lm
  · have hr' : (r : Int) < lm := by omega
    rw [show brk (decide (r < lm)) l = 40 :: (l ++ [41]) from by simp [brk, hr]]
    generalize hbb : bb l = bl at *
    go_enter Tryz.func34, Tryz.ntmps34
    go_wp2_with (go_at_call 10; refine HT.mono ?_; rintro e u ⟨rfl, b2⟩; refine Hid.out ?_)
    refine Lib.hid ?_
    have z0 : u.cell? ⟨w.heap.size, 0, none⟩ = some (.int .i64 a) := by rw [b2.cell (p := ⟨w.heap.size, 0, none⟩) hl0]; simp
    have z1 : u.cell? ⟨w.heap.size, 1, none⟩ = some (.int .i64 b) := by rw [b2.cell (p := ⟨w.heap.size, 1, none⟩) hl0]; simp
    have z2 : u.cell? ⟨w.heap.size, 2, none⟩ = some (.slice A n c) := by rw [b2.cell (p := ⟨w.heap.size, 2, none⟩) hl0]; simp
    have HB2 := Lib.hid (b1.trans (b2.mono b1.size))
    clear b2 HT
    go_wp2_with (go_at_call 35; refine (HG _).mono ?_; rintro e u3 ⟨rfl, b3⟩)
    go_ret
    exact ⟨by rw [← E1.out]; rfl, HB2.out.trans (b3.mono HB2.out.size)⟩
  · have hr' : ¬ (r : Int) < lm := by omega
    rw [show brk (decide (r < lm)) l = l from by simp [brk, hr]]
    generalize bb l = bl at *
    go_enter Tryz.func34, Tryz.ntmps34
    go_wp2_with (go_at_call 10; refine HT.mono ?_; rintro e u ⟨rfl, b2⟩; refine Hid.out ?_)
    refine Lib.hid ?_
    have z0 : u.cell? ⟨w.heap.size, 0, none⟩ = some (.int .i64 a) := by rw [b2.cell (p := ⟨w.heap.size, 0, none⟩) hl0]; simp
    have z1 : u.cell? ⟨w.heap.size, 1, none⟩ = some (.int .i64 b) := by rw [b2.cell (p := ⟨w.heap.size, 1, none⟩) hl0]; simp
    have z2 : u.cell? ⟨w.heap.size, 2, none⟩ = some (.slice A n c) := by rw [b2.cell (p := ⟨w.heap.size, 2, none⟩) hl0]; simp
    have HB2 := Lib.hid (b1.trans (b2.mono b1.size))
    clear b2 HT
    go_wp2_with (go_at_call 35; refine (HG _).mono ?_; rintro e u3 ⟨rfl, b3⟩)
    go_ret
    exact ⟨rfl, HB2.out.trans (b3.mono HB2.out.size)⟩
end Go.Proofs.YtoooninneccfcaaGreatDoor

/- The document's Text, of every tree. -/
namespace Go.Proofs.YtoooninneccfcaaGreatDoor
open Go.RowKit
open Go.Lib (decDigits itoa)
set_option linter.unusedVariables false
theorem brk_le2 (b : Bool) (l : List UInt8) : (brk b l).length ≤ l.length + 2 := by unfold brk; split <;> simp
theorem boxed (w : World) (a b : Int) (A : Option Addr) (n c : Nat) : Below w.heap.size w (w.alloc (.cells #[.int .i64 a, .int .i64 b, .slice A n c] 24)) := (Below.refl _ _).alloc (Nat.le_refl _) _
theorem tx_num (v : Nat) : TxOK (.num v) := by
  intro S w x hT
  obtain ⟨rfl, hv⟩ := hT
  have b1 := boxed w 0 v none 0 0
  have HD := digs_any (w.alloc (.cells #[.int .i64 0, .int .i64 v, .slice none 0 0] 24)) v (by omega) (by omega)
  have e : itoB v = bb (prt (.num v)) := by
    unfold itoB prt bb itoa
    rw [if_neg (by omega), Int.toNat_natCast]
  rw [e] at HD
  generalize bb (prt (.num v)) = r at *
  clear e
  show Calls Tryz.prog 10 #[.agg #[.int .i64 0, .int .i64 v, .slice none 0 0]] w _
  go_enter Tryz.func10, Tryz.ntmps10
  go_wp2_with (go_at_call 33; refine HD.mono ?_; rintro e u ⟨rfl, b2⟩)
  go_ret
  exact ⟨rfl, b1.trans (b2.mono b1.size)⟩
theorem tx_vn : TxOK .vn := by
  intro S w x hT
  obtain rfl : x = _ := hT
  have b1 := boxed w 110 0 none 0 0
  show Calls Tryz.prog 10 #[.agg #[.int .i64 110, .int .i64 0, .slice none 0 0]] w _
  go_enter Tryz.func10, Tryz.ntmps10
  go_wp2_with fail
  go_ret
  exact ⟨rfl, b1⟩
theorem tx_vs : TxOK .vs := by
  intro S w x hT
  obtain rfl : x = _ := hT
  have b1 := boxed w 115 0 none 0 0
  show Calls Tryz.prog 10 #[.agg #[.int .i64 115, .int .i64 0, .slice none 0 0]] w _
  go_enter Tryz.func10, Tryz.ntmps10
  go_wp2_with fail
  go_ret
  exact ⟨rfl, b1⟩
set_option maxHeartbeats 2000000 in
theorem tx_neg {a : Tm} (h : TxOK a) (hl : (prt a).length ≤ 1000) : TxOK (.neg a) := by
  intro S w x hT
  obtain ⟨q, y, hq, rfl, hc, hTa⟩ := hT
  have b1 := boxed w 126 0 (some ⟨q, 0, none⟩) 1 1
  have hc1 := (b1.block _ (some_lt hc)).trans hc
  have HI := in_any h (hTa.bel b1) 4 (by omega)
  have e : bb [45] ++ bb (brk (decide (rk a.op < 4)) (prt a)) = bb (prt (.neg a)) := by rw [bb_app]; rfl
  have hz : (bb (brk (decide (rk a.op < 4)) (prt a))).size ≤ 2000 := by rw [bb_size]; have := brk_le2 (decide (rk a.op < 4)) (prt a); omega
  have E := Lib.hid e
  generalize bb (brk (decide (rk a.op < 4)) (prt a)) = r at *
  have hql := some_lt hc1
  have z0 : (w.alloc (.cells #[.int .i64 126, .int .i64 0, .slice (some ⟨q, 0, none⟩) 1 1] 24)).cell? ⟨q, 0, none⟩ = some (.int .i64 y.a) := by simp [World.cell?, hc1]
  have z1 : (w.alloc (.cells #[.int .i64 126, .int .i64 0, .slice (some ⟨q, 0, none⟩) 1 1] 24)).cell? ⟨q, 1, none⟩ = some (.int .i64 y.b) := by simp [World.cell?, hc1]
  have z2 : (w.alloc (.cells #[.int .i64 126, .int .i64 0, .slice (some ⟨q, 0, none⟩) 1 1] 24)).cell? ⟨q, 2, none⟩ = some (.slice y.A y.n y.c) := by simp [World.cell?, hc1]
  obtain ⟨ya, yb, yA, yn, yc⟩ := y
  simp only [tvV] at *
  clear e hTa hc hc1 h
  go_enter Tryz.func10, Tryz.ntmps10
  go_wp2_with (go_at_call 34; refine HI.mono ?_; rintro e u ⟨rfl, b2⟩)
  go_ret
  exact ⟨by rw [← E.out]; rfl, b1.trans (b2.mono b1.size)⟩
/-- A kid's three cells, in a world that keeps the row. -/
theorem kid {u : World} {q k : Nat} {cs : Array Value} {ty : TypeId} {x : Tv} (h : u.heap[q]? = some (.cells cs ty (0, 0))) (h0 : cs[k]? = some (.int .i64 x.a)) (h1 : cs[k + 1]? = some (.int .i64 x.b)) (h2 : cs[k + 2]? = some (.slice x.A x.n x.c)) :
    u.cell? ⟨q, k, none⟩ = some (.int .i64 x.a) ∧ u.cell? ⟨q, k + 1, none⟩ = some (.int .i64 x.b) ∧ u.cell? ⟨q, k + 2, none⟩ = some (.slice x.A x.n x.c) := by
  simp only [World.cell?, h]; exact ⟨h0, h1, h2⟩
set_option maxHeartbeats 4000000 in
set_option maxRecDepth 100000 in
theorem tx_cond {a b c : Tm} (ha : TxOK a) (hb : TxOK b) (hc : TxOK c) (la : (prt a).length ≤ 1000) (lb : (prt b).length ≤ 1000) (lc : (prt c).length ≤ 1000) : TxOK (.cond a b c) := by
  intro S w v hT
  obtain ⟨q, x, y, z, hq, rfl, hr, hTa, hTb, hTc⟩ := hT
  have b1 := boxed w 63 0 (some ⟨q, 0, none⟩) 3 3
  have hbox : (w.alloc (.cells #[.int .i64 63, .int .i64 0, .slice (some ⟨q, 0, none⟩) 3 3] 24)).heap[w.heap.size]? = some (.cells #[.int .i64 63, .int .i64 0, .slice (some ⟨q, 0, none⟩) 3 3] 24 (0, 0)) := heap_alloc_new w _
  have HA := Lib.hid (fun (u : World) (hu : Below w.heap.size w u) => in_any ha (hTa.bel hu) 1 (by omega))
  have HB := Lib.hid (fun (u : World) (hu : Below w.heap.size w u) => hb S u y (hTb.bel hu))
  have HC := Lib.hid (fun (u : World) (hu : Below w.heap.size w u) => hc S u z (hTc.bel hu))
  have HK := Lib.hid (fun (u : World) (hu : Below w.heap.size w u) => (hu.block _ (some_lt hr)).trans hr)
  have e : bb (brk (decide (rk a.op < 1)) (prt a)) ++ bb [63] ++ bb (prt b) ++ bb [58] ++ bb (prt c) = bb (prt (.cond a b c)) := by
    simp only [bb_app, prt, List.append_assoc, List.cons_append, List.nil_append]
  have hz1 : (bb (brk (decide (rk a.op < 1)) (prt a))).size ≤ 2000 := by rw [bb_size]; have := brk_le2 (decide (rk a.op < 1)) (prt a); omega
  have hz2 : (bb (prt b)).size ≤ 2000 := by rw [bb_size]; omega
  have hz3 : (bb (prt c)).size ≤ 2000 := by rw [bb_size]; omega
  have E := Lib.hid e
  generalize bb (brk (decide (rk a.op < 1)) (prt a)) = r1 at *
  generalize bb (prt b) = r2 at *
  generalize bb (prt c) = r3 at *
  have hql := some_lt hr
  clear e hTa hTb hTc hr ha hb hc
  obtain ⟨xa, xb, xA, xn, xc⟩ := x
  obtain ⟨ya, yb, yA, yn, yc⟩ := y
  obtain ⟨za, zb, zA, zn, zc⟩ := z
  simp only [tvV] at *
  have k1 := HK.out _ b1
  obtain ⟨x0, x1, x2⟩ := kid (k := 0) (x := ⟨xa, xb, xA, xn, xc⟩) k1 rfl rfl rfl
  have HA1 := HA.out _ b1
  go_enter Tryz.func10, Tryz.ntmps10
  go_wp2_with (go_at_call 34; refine HA1.mono ?_; rintro e u ⟨rfl, b2⟩; refine Hid.out ?_)
  refine Lib.hid ?_
  have c2 : Below w.heap.size w u := b1.trans (b2.mono b1.size)
  have k2 := HK.out _ c2
  obtain ⟨y0, y1, y2⟩ := kid (k := 3) (x := ⟨ya, yb, yA, yn, yc⟩) k2 rfl rfl rfl
  have hbx := (b2.block _ (some_lt hbox)).trans hbox
  have g0 : u.cell? ⟨w.heap.size, 2, none⟩ = some (.slice (some ⟨q, 0, none⟩) 3 3) := by simp [World.cell?, hbx]
  have HB1 := HB.out _ c2
  clear HA HA1 b2 x0 x1 x2 k1
  go_wp2_with (go_at_call 10; refine HB1.mono ?_; rintro e u3 ⟨rfl, b3⟩; refine Hid.out ?_)
  refine Lib.hid ?_
  have c3 : Below w.heap.size w u3 := c2.trans (b3.mono c2.size)
  have k3 := HK.out _ c3
  obtain ⟨z0, z1, z2⟩ := kid (k := 6) (x := ⟨za, zb, zA, zn, zc⟩) k3 rfl rfl rfl
  have hbx3 := (b3.block _ (some_lt hbx)).trans hbx
  have g3 : u3.cell? ⟨w.heap.size, 2, none⟩ = some (.slice (some ⟨q, 0, none⟩) 3 3) := by simp [World.cell?, hbx3]
  have HC1 := HC.out _ c3
  clear HB HB1 b3 y0 y1 y2 k2 g0
  go_wp2_with (go_at_call 10; refine HC1.mono ?_; rintro e u4 ⟨rfl, b4⟩)
  go_ret
  exact ⟨by rw [← E.out]; rfl, c3.trans (b4.mono c3.size)⟩
end Go.Proofs.YtoooninneccfcaaGreatDoor

/- The document's Text: two kids; every tree. -/
namespace Go.Proofs.YtoooninneccfcaaGreatDoor
open Go.RowKit
open Go.Lib (decDigits itoa)
set_option linter.unusedVariables false
set_option maxHeartbeats 4000000 in
set_option maxRecDepth 100000 in
theorem tx_mm {op : UInt8} {a b : Tm} {o : Int} (hoo : ((op.toNat : Nat) : Int) = o) (ho : op = 109 ∧ o = 109 ∨ op = 77 ∧ o = 77) (ha : TxOK a) (hb : TxOK b) (la : (prt a).length ≤ 1000) (lb : (prt b).length ≤ 1000) : TxOK (.two op a b) := by
  intro S w v hT
  obtain ⟨q, x, y, hq, rfl, hr, hTa, hTb⟩ := hT
  rw [hoo]
  have b1 := boxed w o 0 (some ⟨q, 0, none⟩) 2 2
  have hbox : (w.alloc (.cells #[.int .i64 o, .int .i64 0, .slice (some ⟨q, 0, none⟩) 2 2] 24)).heap[w.heap.size]? = some (.cells #[.int .i64 o, .int .i64 0, .slice (some ⟨q, 0, none⟩) 2 2] 24 (0, 0)) := heap_alloc_new w _
  have HA := Lib.hid (fun (u : World) (hu : Below w.heap.size w u) => ha S u x (hTa.bel hu))
  have HB := Lib.hid (fun (u : World) (hu : Below w.heap.size w u) => hb S u y (hTb.bel hu))
  have HK := Lib.hid (fun (u : World) (hu : Below w.heap.size w u) => (hu.block _ (some_lt hr)).trans hr)
  have e1 : op = 109 → bb [109, 105, 110, 40] ++ bb (prt a) ++ bb [44] ++ bb (prt b) ++ bb [41] = bb (prt (.two op a b)) := fun h => by
    subst h; simp only [bb_app, prt, if_pos, List.append_assoc, List.cons_append, List.nil_append]
  have e2 : op = 77 → bb [109, 97, 120, 40] ++ bb (prt a) ++ bb [44] ++ bb (prt b) ++ bb [41] = bb (prt (.two op a b)) := fun h => by
    subst h
    rw [prt, if_neg (by decide), if_pos rfl]
    simp only [bb_app, List.append_assoc, List.cons_append, List.nil_append]
  have hz1 : (bb (prt a)).size ≤ 2000 := by rw [bb_size]; omega
  have hz2 : (bb (prt b)).size ≤ 2000 := by rw [bb_size]; omega
  have E1 := Lib.hid e1
  have E2 := Lib.hid e2
  generalize bb (prt a) = r1 at *
  generalize bb (prt b) = r2 at *
  have hql := some_lt hr
  clear e1 e2 hTa hTb hr ha hb
  obtain ⟨xa, xb, xA, xn, xc⟩ := x
  obtain ⟨ya, yb, yA, yn, yc⟩ := y
  simp only [tvV] at *
  have k1 := HK.out _ b1
  obtain ⟨x0, x1, x2⟩ := kid (k := 0) (x := ⟨xa, xb, xA, xn, xc⟩) k1 rfl rfl rfl
  have HA1 := HA.out _ b1
  rcases ho with ⟨ho1, rfl⟩ | ⟨ho1, rfl⟩
  all_goals
    go_enter Tryz.func10, Tryz.ntmps10
    go_wp2_with (go_at_call 10; refine HA1.mono ?_; rintro e u ⟨rfl, b2⟩; refine Hid.out ?_)
    refine Lib.hid ?_
    have c2 : Below w.heap.size w u := b1.trans (b2.mono b1.size)
    have k2 := HK.out _ c2
    obtain ⟨y0, y1, y2⟩ := kid (k := 3) (x := ⟨ya, yb, yA, yn, yc⟩) k2 rfl rfl rfl
    have hbx := (b2.block _ (some_lt hbox)).trans hbox
    have g0 : u.cell? ⟨w.heap.size, 2, none⟩ = some (.slice (some ⟨q, 0, none⟩) 2 2) := by simp [World.cell?, hbx]
    have HB1 := HB.out _ c2
    clear HA HA1 b2 x0 x1 x2 k1
    go_wp2_with (go_at_call 10; refine HB1.mono ?_; rintro e u3 ⟨rfl, b3⟩; refine Hid.out ?_)
    refine Lib.hid ?_
    have c3 : Below w.heap.size w u3 := c2.trans (b3.mono c2.size)
    have hbx3 := (b3.block _ (some_lt hbx)).trans hbx
    have g3 := (show u3.cell? ⟨w.heap.size, 0, none⟩ = _ from by simp only [World.cell?, hbx3]; rfl)
    clear HB HB1 b3 y0 y1 y2 k2 g0
    go_wp2_with fail
    go_ret
    exact ⟨by first | (rw [← E1.out ho1]; rfl) | (rw [← E2.out ho1]; rfl), c3⟩
/-- The operators between. -/
def mid (op : UInt8) : Prop := op ∈ [61, 60, 62, 43, 45, 42, 47, 37]
def lfR (op : UInt8) : Nat := if rk op = 1 then 2 else rk op
theorem prt_mid {op : UInt8} (h : mid op) (a b : Tm) : prt (.two op a b) = brk (decide (rk a.op < lfR op)) (prt a) ++ op :: brk (decide (rk b.op < rk op + 1)) (prt b) := by
  have hm : op = 61 ∨ op = 60 ∨ op = 62 ∨ op = 43 ∨ op = 45 ∨ op = 42 ∨ op = 47 ∨ op = 37 := by simpa [mid] using h
  rcases hm with rfl | rfl | rfl | rfl | rfl | rfl | rfl | rfl <;> rfl
theorem conv_one (w : World) (op : UInt8) : (convert 81 9 (.slice (some ⟨w.heap.size, 0, none⟩) 1 1)).run Tryz.prog (w.alloc (.cells #[.int .u8 op.toNat] 5)) = .ok (.string ⟨#[op]⟩) (w.alloc (.cells #[.int .u8 op.toNat] 5)) := by
  have := run_convert_bytes_back (P := Tryz.prog) (w.alloc (.cells #[.int .u8 op.toNat] 5)) 81 9 5 ⟨w.heap.size, 0, none⟩ 1 [op] Tryz.underlying81 Tryz.underlying5 Tryz.underlying9 (fun j hj => by
    obtain rfl : j = 0 := by simpa using hj
    simp [Addr.add])
  exact this
set_option maxHeartbeats 4000000 in
set_option maxRecDepth 100000 in
theorem tx_mid {op : UInt8} {a b : Tm} {o : Int} (hoo : ((op.toNat : Nat) : Int) = o) (ho : mid op) (ha : TxOK a) (hb : TxOK b) (la : (prt a).length ≤ 1000) (lb : (prt b).length ≤ 1000) : TxOK (.two op a b) := by
  intro S w v hT
  obtain ⟨q, x, y, hq, rfl, hr, hTa, hTb⟩ := hT
  rw [hoo]
  have b1 := boxed w o 0 (some ⟨q, 0, none⟩) 2 2
  have hbox : (w.alloc (.cells #[.int .i64 o, .int .i64 0, .slice (some ⟨q, 0, none⟩) 2 2] 24)).heap[w.heap.size]? = some (.cells #[.int .i64 o, .int .i64 0, .slice (some ⟨q, 0, none⟩) 2 2] 24 (0, 0)) := heap_alloc_new w _
  have HA := Lib.hid (fun (u : World) (hu : Below w.heap.size w u) => in_any ha (hTa.bel hu) (lfR op) (by omega))
  have HB := Lib.hid (fun (u : World) (hu : Below w.heap.size w u) => in_any hb (hTb.bel hu) (rk op + 1) (by omega))
  have HK := Lib.hid (fun (u : World) (hu : Below w.heap.size w u) => (hu.block _ (some_lt hr)).trans hr)
  have HG := Lib.hid (fun (u : World) => tight_any o 0 (some ⟨q, 0, none⟩) 2 2 u)
  have e : bb (brk (decide (rk a.op < lfR op)) (prt a)) ++ bb [op] ++ bb (brk (decide (rk b.op < rk op + 1)) (prt b)) = bb (prt (.two op a b)) := by
    rw [prt_mid ho]; simp only [bb_app, List.append_assoc, List.cons_append, List.nil_append]
  have hz1 : (bb (brk (decide (rk a.op < lfR op)) (prt a))).size ≤ 2000 := by rw [bb_size]; have := brk_le2 (decide (rk a.op < lfR op)) (prt a); omega
  have hz2 : (bb (brk (decide (rk b.op < rk op + 1)) (prt b))).size ≤ 2000 := by rw [bb_size]; have := brk_le2 (decide (rk b.op < rk op + 1)) (prt b); omega
  have E := Lib.hid e
  generalize bb (brk (decide (rk a.op < lfR op)) (prt a)) = r1 at *
  generalize bb (brk (decide (rk b.op < rk op + 1)) (prt b)) = r2 at *
  have hql := some_lt hr
  clear e hTa hTb hr ha hb
  obtain ⟨xa, xb, xA, xn, xc⟩ := x
  obtain ⟨ya, yb, yA, yn, yc⟩ := y
  simp only [tvV] at *
  have htg : tg o = rk op := by
    rcases tg_op op with h | h
    · rw [← hoo]; exact h
    · subst h; exact absurd ho (by simp [mid])
  have hwr : IntKind.u8.wrap o = o := by
    have := op.toNat_lt
    rw [← hoo]; simp [IntKind.wrap, IntKind.bits, IntKind.signed]; omega
  have hnn : (o == 0) = false ∧ (o == 110) = false ∧ (o == 115) = false ∧ (o == 126) = false ∧ (o == 63) = false ∧ (o == 109) = false ∧ (o == 77) = false := by
    have hm : op = 61 ∨ op = 60 ∨ op = 62 ∨ op = 43 ∨ op = 45 ∨ op = 42 ∨ op = 47 ∨ op = 37 := by simpa [mid] using ho
    rw [← hoo]
    rcases hm with rfl | rfl | rfl | rfl | rfl | rfl | rfl | rfl <;> decide
  obtain ⟨n1, n2, n3, n4, n5, n6, n7⟩ := hnn
  have hrk : rk op ≤ 3 ∧ 1 ≤ rk op := by
    have hm : op = 61 ∨ op = 60 ∨ op = 62 ∨ op = 43 ∨ op = 45 ∨ op = 42 ∨ op = 47 ∨ op = 37 := by simpa [mid] using ho
    rcases hm with rfl | rfl | rfl | rfl | rfl | rfl | rfl | rfl <;> decide
  have hlf : lfR op = if rk op = 1 then 2 else rk op := rfl
  have CV := Lib.hid (fun (u : World) => conv_one u op)
  rw [hoo] at CV
  rw [htg] at HG
  generalize lfR op = lf at *
  generalize rk op = r at *
  have HG1 := HG.out (w.alloc (.cells #[.int .i64 o, .int .i64 0, .slice (some ⟨q, 0, none⟩) 2 2] 24))
  clear HG htg ho
  go_enter Tryz.func10, Tryz.ntmps10
  go_wp2_with (go_at_call 35; refine HG1.mono ?_; rintro e u1 ⟨rfl, bt⟩; refine Hid.out ?_)
  refine Lib.hid ?_
  have c1 : Below w.heap.size w u1 := b1.trans (bt.mono b1.size)
  have hbx1 := (bt.block _ (some_lt hbox)).trans hbox
  have k1 := HK.out _ c1
  obtain ⟨x0, x1, x2⟩ := kid (k := 0) (x := ⟨xa, xb, xA, xn, xc⟩) k1 rfl rfl rfl
  have g1 : u1.cell? ⟨w.heap.size, 2, none⟩ = some (.slice (some ⟨q, 0, none⟩) 2 2) := by simp [World.cell?, hbx1]
  have HA1 := HA.out _ c1
  clear bt HG1 HA
  have hL : Hid (r = 1 ∧ lf = 2 ∨ (((r : Nat) : Int) == 1) = false ∧ lf = r) := Lib.hid (by
    by_cases h : r = 1
    · left; exact ⟨h, by rw [hlf, if_pos h]⟩
    · right; exact ⟨by simp; omega, by rw [hlf, if_neg h]⟩)
  clear hlf
  rcases hL.out with ⟨hr1, hlf⟩ | ⟨hr1, hlf⟩
  all_goals
    clear hL
    subst hlf
    try subst hr1
    go_wp2_with (go_at_call 34; refine HA1.mono ?_; rintro e u ⟨rfl, b2⟩; refine Hid.out ?_)
    refine Lib.hid ?_
    have c2 : Below w.heap.size w u := c1.trans (b2.mono c1.size)
    have k2 := HK.out _ c2
    obtain ⟨y0, y1, y2⟩ := kid (k := 3) (x := ⟨ya, yb, yA, yn, yc⟩) k2 rfl rfl rfl
    have hbx2 := (b2.block _ (some_lt hbx1)).trans hbx1
    have g2 : u.cell? ⟨w.heap.size, 2, none⟩ = some (.slice (some ⟨q, 0, none⟩) 2 2) := by simp [World.cell?, hbx2]
    have HB1 := HB.out _ c2
    clear HB HA1 b2 x0 x1 x2 k1 g1
    go_wp2_with (go_at_call 34; refine HB1.mono ?_; rintro e u3 ⟨rfl, b3⟩; refine Hid.out ?_)
    refine Lib.hid ?_
    have c3 : Below w.heap.size w u3 := c2.trans (b3.mono c2.size)
    have hbx3 := (b3.block _ (some_lt hbx2)).trans hbx2
    have g3 : u3.cell? ⟨w.heap.size, 0, none⟩ = some (.int .i64 o) := by simp [World.cell?, hbx3]
    have cv := CV.out u3
    have c4 := c3.alloc c3.size (.cells #[.int .u8 o] 5)
    clear HB1 b3 y0 y1 y2 k2 g2 CV
    go_wp2_with fail
    go_ret
    exact ⟨by rw [← E.out]; rfl, c4⟩
theorem brk_ge (b : Bool) (l : List UInt8) : l.length ≤ (brk b l).length := by unfold brk; split <;> simp; omega
theorem txt_any : ∀ t : Tm, okT t → (prt t).length ≤ 1000 → TxOK t := by
  intro t
  induction t with
  | num v => intro _ _; exact tx_num v
  | vn => intro _ _; exact tx_vn
  | vs => intro _ _; exact tx_vs
  | neg a ih =>
    intro ho hl
    have h1 : (prt a).length ≤ 1000 := by
      have := brk_ge (decide (rk a.op < 4)) (prt a)
      rw [prt, List.length_cons] at hl; omega
    exact tx_neg (ih ho h1) h1
  | cond a b c iha ihb ihc =>
    intro ho hl
    have h0 := brk_ge (decide (rk a.op < 1)) (prt a)
    rw [prt] at hl
    simp only [List.length_append, List.length_cons] at hl
    exact tx_cond (iha ho.1 (by omega)) (ihb ho.2.1 (by omega)) (ihc ho.2.2 (by omega)) (by omega) (by omega) (by omega)
  | two op a b iha ihb =>
    intro ho hl
    obtain ⟨h0, h1, h2⟩ := ho
    by_cases hm : mid op
    · rw [prt_mid hm] at hl
      simp only [List.length_append, List.length_cons] at hl
      have g1 := brk_ge (decide (rk a.op < lfR op)) (prt a)
      have g2 := brk_ge (decide (rk b.op < rk op + 1)) (prt b)
      exact tx_mid rfl hm (iha h1 (by omega)) (ihb h2 (by omega)) (by omega) (by omega)
    · have ho2 : op = 109 ∨ op = 77 := by
        simp [opOk] at h0
        simp [mid] at hm
        rcases h0 with h | h | h | h | h | h | h | h | h | h
        all_goals first | (exact .inl h) | (exact .inr h) | (exact absurd h (by simp [hm]))
      rcases ho2 with rfl | rfl
      · rw [prt, if_pos rfl] at hl
        simp only [List.length_append, List.length_cons] at hl
        exact tx_mm rfl (.inl ⟨rfl, rfl⟩) (iha h1 (by omega)) (ihb h2 (by omega)) (by omega) (by omega)
      · rw [prt, if_neg (by decide), if_pos rfl] at hl
        simp only [List.length_append, List.length_cons] at hl
        exact tx_mm rfl (.inr ⟨rfl, rfl⟩) (iha h1 (by omega)) (ihb h2 (by omega)) (by omega) (by omega)
end Go.Proofs.YtoooninneccfcaaGreatDoor
