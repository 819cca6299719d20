/- How a tree is written: the ranks, and the functions that append. -/
import Derived.Test.YtdegibjfcjkgdabDoorRr
import Derived.Lib.AppendIntMem
import Derived.Lib.ItoaLen
import Derived.Lib.ItoaMem
import Derived.Lib.AppendStr
import Derived.Lib.Slices
import Derived.Lib.Hide
import Derived.Laws.IdiomStrings
import Derived.OwnWalk
import Derived.BigCall
namespace Go.Proofs.YtdegibjfcjkgdabDoor
open Go.RowKit

theorem infoByte : (Tryd.prog.info? 5).map (fun i => (i.zero, i.size, i.bytes)) = some (some (.int .u8 0), 1, 1) := by kernel_rfl
abbrev Own (B : Nat) (w : World) (v : Value) (l : List UInt8) : Prop := w.ownsRow B 5 1 v l.length (Lib.byteCells l)
theorem own_snoc {B : Nat} {w : World} {v : Value} {l : List UInt8} {c : UInt8} (h : w.ownsRow B 5 1 v (l.length + 1) (Lib.byteCells l ++ [.int .u8 c.toNat])) : Own B w v (l ++ [c]) := by
  have e1 : (l ++ [c]).length = l.length + 1 := by simp
  have e2 : Lib.byteCells (l ++ [c]) = Lib.byteCells l ++ [.int .u8 c.toNat] := by simp [Lib.byteCells]
  unfold Own; rw [e1, e2]; exact h
theorem own_app {B : Nat} {w : World} {v : Value} {l r : List UInt8} {n : Nat} (h : w.ownsRow B 5 1 v (l.length + n) (Lib.byteCells l ++ Lib.byteCells r)) (hn : n = r.length) : Own B w v (l ++ r) := by
  have e1 : (l ++ r).length = l.length + n := by simp [hn]
  have e2 : Lib.byteCells (l ++ r) = Lib.byteCells l ++ Lib.byteCells r := by simp [Lib.byteCells]
  unfold Own; rw [e1, e2]; exact h
def Tb (B : Nat) (w : World) : Prop := Lib.TabBelow Tryd.prog B w "internal/strconv.uint64pow10" .u64 Lib.pow10Tab

def allOps : List UInt8 := [63, 61, 60, 62, 43, 45, 42, 47, 37, 126, 48, 110, 115, 109, 77]
set_option maxHeartbeats 1000000 in
theorem rank_any (op : UInt8) (ho : op ∈ allOps) (w : World) : Calls Tryd.prog 16 #[.int .u8 op.toNat] w fun e w' => e = .returned (.int .i64 (rk op)) ∧ w = w' := by
  simp only [allOps, List.mem_cons, List.not_mem_nil, or_false] at ho
  rcases ho with rfl | rfl | rfl | rfl | rfl | rfl | rfl | rfl | rfl | rfl | rfl | rfl | rfl | rfl | rfl
  all_goals
    go_enter Tryd.func16, Tryd.ntmps16
    go_wp2_with fail
    go_ret
    exact ⟨rfl, rfl⟩
theorem op_all {t : Tm} (h : OkT t) : t.op ∈ allOps := by
  cases t with
  | num v => simp [Tm.op, allOps]
  | vn => simp [Tm.op, allOps]
  | vs => simp [Tm.op, allOps]
  | neg a => simp [Tm.op, allOps]
  | two op a b =>
    have ho := h.1
    simp only [okOps, List.mem_cons, List.not_mem_nil, or_false] at ho
    rcases ho with rfl | rfl | rfl | rfl | rfl | rfl | rfl | rfl | rfl | rfl <;> simp [Tm.op, allOps]
  | cond a b c => simp [Tm.op, allOps]

/-- Writing a tree where one of a rank may stand: what is owned from B on grows by its text. -/
def AtOK (B : Nat) (w0 : World) (t : Tm) (p : Nat) : Prop := ∀ (w1 : World) (v1 : Value) (l : List UInt8) (k : Nat), Below B w0 w1 → Own B w1 v1 l → l.length + (brk (decide (rk t.op < k)) (prt t)).length ≤ 1000 →
  Calls Tryd.prog 11 #[v1, .pointer (some ⟨p, 0, none⟩), .int .i64 k] w1 fun e w' => ∃ v', e = .returned v' ∧ Own B w' v' (l ++ brk (decide (rk t.op < k)) (prt t)) ∧ Below B w0 w'

theorem cellB {B : Nat} {w0 w : World} {p i : Nat} {c : Array Value} {t : TypeId} {v : Value} (h : w0.heap[p]? = some (.cells c t)) (hB : B = w0.heap.size) (hb : Below B w0 w) (hv : c[i]? = some v) : w.cell? ⟨p, i, none⟩ = some v := by
  rw [hb.cell (p := ⟨p, i, none⟩) (by show p < B; rw [hB]; exact some_lt h)]
  rw [cellN h]; exact hv

theorem AtOK.zero {B : Nat} {w0 : World} {t : Tm} {p : Nat} (h : AtOK B w0 t p) (w1 : World) (v1 : Value) (l : List UInt8) (hb : Below B w0 w1) (ho : Own B w1 v1 l) (hl : l.length + (prt t).length ≤ 1000) :
    Calls Tryd.prog 11 #[v1, .pointer (some ⟨p, 0, none⟩), .int .i64 0] w1 fun e w' => ∃ v', e = .returned v' ∧ Own B w' v' (l ++ prt t) ∧ Below B w0 w' := by
  have e : brk (decide (rk t.op < 0)) (prt t) = prt t := by simp [brk]
  have := h w1 v1 l 0 hb ho (by rw [e]; exact hl)
  rw [e] at this; exact this
/-- A tree's text where one of a rank may stand. -/
def pin (k : Nat) (t : Tm) : List UInt8 := brk (decide (rk t.op < k)) (prt t)
theorem AtOK.at {B : Nat} {w0 : World} {t : Tm} {p : Nat} (h : AtOK B w0 t p) (k : Nat) (w1 : World) (v1 : Value) (l : List UInt8) (hb : Below B w0 w1) (ho : Own B w1 v1 l) (hl : l.length + (pin k t).length ≤ 1000) :
    Calls Tryd.prog 11 #[v1, .pointer (some ⟨p, 0, none⟩), .int .i64 k] w1 fun e w' => ∃ v', e = .returned v' ∧ Own B w' v' (l ++ pin k t) ∧ Below B w0 w' := h w1 v1 l k hb ho hl

set_option maxRecDepth 100000 in
set_option maxHeartbeats 2000000 in
theorem pair_print {B : Nat} {w0 : World} (hB : B = w0.heap.size) {op : UInt8} {a b : Tm} {p q pa pb : Nat} (ha : AtOK B w0 a pa) (hb : AtOK B w0 b pb)
    (h1 : w0.heap[p]? = some (.cells #[.int .u8 op.toNat, .int .i64 0, .slice (some ⟨q, 0, none⟩) 2 2] 49)) (h2 : w0.heap[q]? = some (.cells #[.pointer (some ⟨pa, 0, none⟩), .pointer (some ⟨pb, 0, none⟩)] 33))
    (w1 : World) (v1 : Value) (m1 : List UInt8) (hb1 : Below B w0 w1) (hown1 : Own B w1 v1 m1) (hlim : m1.length + (40 :: (prt a ++ 44 :: (prt b ++ [41]))).length ≤ 1000) :
    Calls Tryd.prog 27 #[v1, .pointer (some ⟨p, 0, none⟩)] w1 fun e w' => ∃ v', e = .returned v' ∧ Own B w' v' (m1 ++ 40 :: (prt a ++ 44 :: (prt b ++ [41]))) ∧ Below B w0 w' := by
  obtain ⟨i0, hi, hz0, hz1, hz2⟩ := info_parts infoByte
  have cp : ∀ w, Below B w0 w → w.cell? ⟨p, 2, none⟩ = some (.slice (some ⟨q, 0, none⟩) 2 2) := fun w hb => cellB h1 hB hb rfl
  have c0 : ∀ w, Below B w0 w → w.cell? ⟨p, 0, none⟩ = some (.int .u8 op.toNat) := fun w hb => cellB h1 hB hb rfl
  have cq0 : ∀ w, Below B w0 w → w.cell? ⟨q, 0, none⟩ = some (.pointer (some ⟨pa, 0, none⟩)) := fun w hb => cellB h2 hB hb rfl
  have cq1 : ∀ w, Below B w0 w → w.cell? ⟨q, 1, none⟩ = some (.pointer (some ⟨pb, 0, none⟩)) := fun w hb => cellB h2 hB hb rfl
  have hBle : B ≤ w0.heap.size := Nat.le_of_eq hB
  clear hB h1 h2
  have hle1 : m1.length + ((prt a).length + (prt b).length + 3) ≤ 1000 := by simp at hlim; omega
  clear hlim
  go_enter Tryd.func27, Tryd.ntmps27
  go_wp2_with (at_builtin; refine wpList_append_own _ rfl _ _ 36 rfl B 5 i0 (.int .u8 0) 1 1 Tryd.underlying36 hi hz0 hz1 hz2 rfl (by decide) _ _ _ rfl (hown1.alloc _) ⟨w1.heap.size, 0, none⟩ 1 1 [Value.int .u8 40] rfl rfl (by intro j u' hj; match j, hj with | 0, hj => simp at hj; subst hj; simp [Addr.add]) (by intro u' hu'; simp at hu'; subst hu'; rfl) (by unfold maxLen; omega) (by omega) (by have := hb1.size; simp; omega) ?_)
  intro v2 w2 own' grow _
  have hb2 : Below B w0 w2 := (hb1.alloc (by have := hb1.size; omega) _).grown grow (by have := hb1.size; simp; omega) (fun k hk => (hown1.lt k hk).1)
  have hown2 : Own B w2 v2 (m1 ++ [40]) := own_snoc own'
  clear own' grow
  obtain ⟨m2, hm2⟩ : ∃ x, x = m1 ++ [40] := ⟨_, rfl⟩
  rw [← hm2] at hown2
  have hle2 : m2.length + ((prt a).length + (prt b).length + 2) ≤ 1000 := by rw [hm2]; simp; omega
  have HM2 := Lib.hid hm2
  clear hm2
  have zz0 := cp w2 hb2
  have zz1 := cq0 w2 hb2
  go_wp2_with (go_at_call 11; refine (ha.zero w2 v2 m2 hb2 hown2 (by omega)).mono ?_; rintro e w3 ⟨v3, rfl, hown3, hb3⟩; refine Hid.out ?_)
  refine Lib.hid ?_
  clear zz0 zz1
  obtain ⟨m3, hm3⟩ : ∃ x, x = m2 ++ prt a := ⟨_, rfl⟩
  rw [← hm3] at hown3
  have hle3 : m3.length + ((prt b).length + 2) ≤ 1000 := by rw [hm3]; simp; omega
  have HM3 := Lib.hid hm3
  clear hm3
  go_wp2_with (at_builtin; refine wpList_append_own _ rfl _ _ 36 rfl B 5 i0 (.int .u8 0) 1 1 Tryd.underlying36 hi hz0 hz1 hz2 rfl (by decide) _ _ _ rfl (hown3.alloc _) ⟨w3.heap.size, 0, none⟩ 1 1 [Value.int .u8 44] rfl rfl (by intro j u' hj; match j, hj with | 0, hj => simp at hj; subst hj; simp [Addr.add]) (by intro u' hu'; simp at hu'; subst hu'; rfl) (by unfold maxLen; omega) (by omega) (by have := hb3.size; simp; omega) ?_)
  intro v4 w4 own' grow _
  have hb4 : Below B w0 w4 := (hb3.alloc (by have := hb3.size; omega) _).grown grow (by have := hb3.size; simp; omega) (fun k hk => (hown3.lt k hk).1)
  have hown4 : Own B w4 v4 (m3 ++ [44]) := own_snoc own'
  clear own' grow
  obtain ⟨m4, hm4⟩ : ∃ x, x = m3 ++ [44] := ⟨_, rfl⟩
  rw [← hm4] at hown4
  have hle4 : m4.length + ((prt b).length + 1) ≤ 1000 := by rw [hm4]; simp; omega
  have HM4 := Lib.hid hm4
  clear hm4
  have zz0 := cp w4 hb4
  have zz1 := cq1 w4 hb4
  go_wp2_with (go_at_call 11; refine (hb.zero w4 v4 m4 hb4 hown4 (by omega)).mono ?_; rintro e w5 ⟨v5, rfl, hown5, hb5⟩; refine Hid.out ?_)
  refine Lib.hid ?_
  clear zz0 zz1
  obtain ⟨m5, hm5⟩ : ∃ x, x = m4 ++ prt b := ⟨_, rfl⟩
  rw [← hm5] at hown5
  have hle5 : m5.length + (1) ≤ 1000 := by rw [hm5]; simp; omega
  have HM5 := Lib.hid hm5
  clear hm5
  go_wp2_with (at_builtin; refine wpList_append_own _ rfl _ _ 36 rfl B 5 i0 (.int .u8 0) 1 1 Tryd.underlying36 hi hz0 hz1 hz2 rfl (by decide) _ _ _ rfl (hown5.alloc _) ⟨w5.heap.size, 0, none⟩ 1 1 [Value.int .u8 41] rfl rfl (by intro j u' hj; match j, hj with | 0, hj => simp at hj; subst hj; simp [Addr.add]) (by intro u' hu'; simp at hu'; subst hu'; rfl) (by unfold maxLen; omega) (by omega) (by have := hb5.size; simp; omega) ?_)
  intro v6 w6 own' grow _
  have hb6 : Below B w0 w6 := (hb5.alloc (by have := hb5.size; omega) _).grown grow (by have := hb5.size; simp; omega) (fun k hk => (hown5.lt k hk).1)
  have hown6 : Own B w6 v6 (m5 ++ [41]) := own_snoc own'
  clear own' grow
  obtain ⟨m6, hm6⟩ : ∃ x, x = m5 ++ [41] := ⟨_, rfl⟩
  rw [← hm6] at hown6
  have hle6 : m6.length + (0) ≤ 1000 := by rw [hm6]; simp; omega
  have HM6 := Lib.hid hm6
  clear hm6
  go_wp2_with fail
  go_ret
  refine ⟨v6, rfl, ?_, hb6⟩
  have hfin : m6 = m1 ++ 40 :: (prt a ++ 44 :: (prt b ++ [41])) := by rw [HM6.out, HM5.out, HM4.out, HM3.out, HM2.out]; simp
  rw [← hfin]; exact hown6

set_option maxRecDepth 100000 in
set_option maxHeartbeats 2000000 in
theorem both_print {B : Nat} {w0 : World} (hB : B = w0.heap.size) {op : UInt8} {a b : Tm} {p q pa pb : Nat} (ha : AtOK B w0 a pa) (hb : AtOK B w0 b pb)
    (h1 : w0.heap[p]? = some (.cells #[.int .u8 op.toNat, .int .i64 0, .slice (some ⟨q, 0, none⟩) 2 2] 49)) (h2 : w0.heap[q]? = some (.cells #[.pointer (some ⟨pa, 0, none⟩), .pointer (some ⟨pb, 0, none⟩)] 33))
    (j k : Nat) (w1 : World) (v1 : Value) (m1 : List UInt8) (hb1 : Below B w0 w1) (hown1 : Own B w1 v1 m1) (hlim : m1.length + (pin j a ++ op :: pin k b).length ≤ 1000) :
    Calls Tryd.prog 17 #[v1, .pointer (some ⟨p, 0, none⟩), .int .i64 j, .int .i64 k] w1 fun e w' => ∃ v', e = .returned v' ∧ Own B w' v' (m1 ++ (pin j a ++ op :: pin k b)) ∧ Below B w0 w' := by
  obtain ⟨i0, hi, hz0, hz1, hz2⟩ := info_parts infoByte
  have cp : ∀ w, Below B w0 w → w.cell? ⟨p, 2, none⟩ = some (.slice (some ⟨q, 0, none⟩) 2 2) := fun w hb => cellB h1 hB hb rfl
  have c0 : ∀ w, Below B w0 w → w.cell? ⟨p, 0, none⟩ = some (.int .u8 op.toNat) := fun w hb => cellB h1 hB hb rfl
  have cq0 : ∀ w, Below B w0 w → w.cell? ⟨q, 0, none⟩ = some (.pointer (some ⟨pa, 0, none⟩)) := fun w hb => cellB h2 hB hb rfl
  have cq1 : ∀ w, Below B w0 w → w.cell? ⟨q, 1, none⟩ = some (.pointer (some ⟨pb, 0, none⟩)) := fun w hb => cellB h2 hB hb rfl
  have hBle : B ≤ w0.heap.size := Nat.le_of_eq hB
  clear hB h1 h2
  have hle1 : m1.length + ((pin j a).length + (pin k b).length + 1) ≤ 1000 := by simp at hlim; omega
  clear hlim
  have zz0 := cp w1 hb1
  have zz1 := cq0 w1 hb1
  go_enter Tryd.func17, Tryd.ntmps17
  go_wp2_with (go_at_call 11; refine (ha.at j w1 v1 m1 hb1 hown1 (by omega)).mono ?_; rintro e w2 ⟨v2, rfl, hown2, hb2⟩; refine Hid.out ?_)
  refine Lib.hid ?_
  clear zz0 zz1
  obtain ⟨m2, hm2⟩ : ∃ x, x = m1 ++ pin j a := ⟨_, rfl⟩
  rw [← hm2] at hown2
  have hle2 : m2.length + ((pin k b).length + 1) ≤ 1000 := by rw [hm2]; simp; omega
  have HM2 := Lib.hid hm2
  clear hm2
  have c0' := c0 w2 hb2
  go_wp2_with (at_builtin; refine wpList_append_own _ rfl _ _ 36 rfl B 5 i0 (.int .u8 0) 1 1 Tryd.underlying36 hi hz0 hz1 hz2 rfl (by decide) _ _ _ rfl (hown2.alloc _) ⟨w2.heap.size, 0, none⟩ 1 1 [Value.int .u8 op.toNat] rfl rfl (by intro j u' hj; match j, hj with | 0, hj => simp at hj; subst hj; simp [Addr.add]) (by intro u' hu'; simp at hu'; subst hu'; rfl) (by unfold maxLen; omega) (by omega) (by have := hb2.size; simp; omega) ?_)
  intro v3 w3 own' grow _
  have hb3 : Below B w0 w3 := (hb2.alloc (by have := hb2.size; omega) _).grown grow (by have := hb2.size; simp; omega) (fun k hk => (hown2.lt k hk).1)
  have hown3 : Own B w3 v3 (m2 ++ [op]) := own_snoc own'
  clear own' grow
  obtain ⟨m3, hm3⟩ : ∃ x, x = m2 ++ [op] := ⟨_, rfl⟩
  rw [← hm3] at hown3
  have hle3 : m3.length + ((pin k b).length) ≤ 1000 := by rw [hm3]; simp; omega
  have HM3 := Lib.hid hm3
  clear hm3
  clear c0'
  have zz0 := cp w3 hb3
  have zz1 := cq1 w3 hb3
  go_wp2_with (go_at_call 11; refine (hb.at k w3 v3 m3 hb3 hown3 (by omega)).mono ?_; rintro e w4 ⟨v4, rfl, hown4, hb4⟩; refine Hid.out ?_)
  refine Lib.hid ?_
  clear zz0 zz1
  obtain ⟨m4, hm4⟩ : ∃ x, x = m3 ++ pin k b := ⟨_, rfl⟩
  rw [← hm4] at hown4
  have hle4 : m4.length + (0) ≤ 1000 := by rw [hm4]; simp; omega
  have HM4 := Lib.hid hm4
  clear hm4
  go_wp2_with fail
  go_ret
  refine ⟨v4, rfl, ?_, hb4⟩
  have hfin : m4 = m1 ++ (pin j a ++ op :: pin k b) := by rw [HM4.out, HM3.out, HM2.out]; simp
  rw [← hfin]; exact hown4

end Go.Proofs.YtdegibjfcjkgdabDoor
