/- How a tree is written, all of it. -/
import Derived.Test.YtdegibjfcjkgdabDoorRs
namespace Go.Proofs.YtdegibjfcjkgdabDoor
open Go.RowKit

def DirOK (B : Nat) (w0 : World) (t : Tm) (p : Nat) : Prop := ∀ (w1 : World) (v1 : Value) (m1 : List UInt8) (k : Nat), Below B w0 w1 → Own B w1 v1 m1 → k ≤ rk t.op → m1.length + (prt t).length ≤ 1000 →
  Calls Tryd.prog 11 #[v1, .pointer (some ⟨p, 0, none⟩), .int .i64 k] w1 fun e w' => ∃ v', e = .returned v' ∧ Own B w' v' (m1 ++ prt t) ∧ Below B w0 w'
/-- Writing a single one. -/
def SinOK (B : Nat) (w0 : World) (t : Tm) (p : Nat) : Prop := ∀ (w1 : World) (v1 : Value) (m1 : List UInt8), Below B w0 w1 → Own B w1 v1 m1 → m1.length + (prt t).length ≤ 1000 →
  Calls Tryd.prog 18 #[v1, .pointer (some ⟨p, 0, none⟩)] w1 fun e w' => ∃ v', e = .returned v' ∧ Own B w' v' (m1 ++ prt t) ∧ Below B w0 w'

set_option maxRecDepth 100000 in
set_option maxHeartbeats 2000000 in
theorem sin_num {B : Nat} {w0 : World} (hB : B = w0.heap.size) (hT : Tb B w0) {v p lo : Nat} (ht : Tr lo w0 (.num v) p) : SinOK B w0 (.num v) p := by
  intro w1 v1 m1 hb1 hown1 hlim
  obtain ⟨_, hv, h1⟩ := ht
  have c0 : w1.cell? ⟨p, 0, none⟩ = some (.int .u8 48) := cellB h1 hB hb1 rfl
  have c1 : w1.cell? ⟨p, 1, none⟩ = some (.int .i64 v) := cellB h1 hB hb1 rfl
  have hBle : B ≤ w1.heap.size := by have := hb1.size; omega
  clear hB h1
  have hlen : m1.length ≤ 1000 := by omega
  clear hlim
  go_enter Tryd.func18, Tryd.ntmps18
  go_wp2_with (go_at_call 26; refine (Tryd.strconv_AppendInt_10 B m1.length v (by omega) (by omega) v1 _ w1 hown1 hBle (by omega) (hT.on hb1)).mono ?_; rintro e w2 ⟨v2, rfl, hown2, hb2, -⟩; refine Hid.out ?_)
  refine Lib.hid ?_
  have hown3 : Own B w2 v2 (m1 ++ prt (.num v)) := by
    have e : prt (.num v) = Lib.itoa (v : Int) := (Lib.itoa_nonneg v).symm
    rw [e]; exact own_app hown2 rfl
  clear hown2
  go_wp2_with fail
  go_ret
  exact ⟨v2, rfl, hown3, hb1.trans hb2⟩

set_option maxRecDepth 100000 in
set_option maxHeartbeats 2000000 in
theorem sin_vn {B : Nat} {w0 : World} (hB : B = w0.heap.size) {p lo : Nat} (ht : Tr lo w0 .vn p) : SinOK B w0 .vn p := by
  intro w1 v1 m1 hb1 hown1 hlim
  obtain ⟨_, h1⟩ := ht
  obtain ⟨i0, hi, hz0, hz1, hz2⟩ := info_parts infoByte
  have c0 : w1.cell? ⟨p, 0, none⟩ = some (.int .u8 110) := cellB h1 hB hb1 rfl
  have hBle : B ≤ w0.heap.size := Nat.le_of_eq hB
  clear hB h1
  have hle1 : m1.length + 1 ≤ 1000 := by simpa [prt] using hlim
  clear hlim
  go_enter Tryd.func18, Tryd.ntmps18
  go_wp2_with (at_builtin; refine wpList_append_own _ rfl _ _ 36 rfl B 5 i0 (.int .u8 0) 1 1 Tryd.underlying36 hi hz0 hz1 hz2 rfl (by decide) _ _ _ rfl (hown1.alloc _) ⟨w1.heap.size, 0, none⟩ 1 1 [Value.int .u8 110] rfl rfl (by intro j u' hj; match j, hj with | 0, hj => simp at hj; subst hj; simp [Addr.add]) (by intro u' hu'; simp at hu'; subst hu'; rfl) (by unfold maxLen; omega) (by omega) (by have := hb1.size; simp; omega) ?_)
  intro v2 w2 own' grow _
  have hb2 : Below B w0 w2 := (hb1.alloc (by have := hb1.size; omega) _).grown grow (by have := hb1.size; simp; omega) (fun k hk => (hown1.lt k hk).1)
  have hown2 : Own B w2 v2 (m1 ++ [110]) := own_snoc own'
  clear own' grow
  obtain ⟨m2, hm2⟩ : ∃ x, x = m1 ++ [110] := ⟨_, rfl⟩
  rw [← hm2] at hown2
  have hle2 : m2.length + (0) ≤ 1000 := by rw [hm2]; simp; omega
  have HM2 := Lib.hid hm2
  clear hm2
  go_wp2_with fail
  go_ret
  refine ⟨v2, rfl, ?_, hb2⟩
  have hfin : m2 = m1 ++ prt .vn := by rw [HM2.out]; rfl
  rw [← hfin]; exact hown2

set_option maxRecDepth 100000 in
set_option maxHeartbeats 2000000 in
theorem sin_vs {B : Nat} {w0 : World} (hB : B = w0.heap.size) {p lo : Nat} (ht : Tr lo w0 .vs p) : SinOK B w0 .vs p := by
  intro w1 v1 m1 hb1 hown1 hlim
  obtain ⟨_, h1⟩ := ht
  obtain ⟨i0, hi, hz0, hz1, hz2⟩ := info_parts infoByte
  have c0 : w1.cell? ⟨p, 0, none⟩ = some (.int .u8 115) := cellB h1 hB hb1 rfl
  have hBle : B ≤ w0.heap.size := Nat.le_of_eq hB
  clear hB h1
  have hle1 : m1.length + 1 ≤ 1000 := by simpa [prt] using hlim
  clear hlim
  go_enter Tryd.func18, Tryd.ntmps18
  go_wp2_with (at_builtin; refine wpList_append_own _ rfl _ _ 36 rfl B 5 i0 (.int .u8 0) 1 1 Tryd.underlying36 hi hz0 hz1 hz2 rfl (by decide) _ _ _ rfl (hown1.alloc _) ⟨w1.heap.size, 0, none⟩ 1 1 [Value.int .u8 115] rfl rfl (by intro j u' hj; match j, hj with | 0, hj => simp at hj; subst hj; simp [Addr.add]) (by intro u' hu'; simp at hu'; subst hu'; rfl) (by unfold maxLen; omega) (by omega) (by have := hb1.size; simp; omega) ?_)
  intro v2 w2 own' grow _
  have hb2 : Below B w0 w2 := (hb1.alloc (by have := hb1.size; omega) _).grown grow (by have := hb1.size; simp; omega) (fun k hk => (hown1.lt k hk).1)
  have hown2 : Own B w2 v2 (m1 ++ [115]) := own_snoc own'
  clear own' grow
  obtain ⟨m2, hm2⟩ : ∃ x, x = m1 ++ [115] := ⟨_, rfl⟩
  rw [← hm2] at hown2
  have hle2 : m2.length + (0) ≤ 1000 := by rw [hm2]; simp; omega
  have HM2 := Lib.hid hm2
  clear hm2
  go_wp2_with fail
  go_ret
  refine ⟨v2, rfl, ?_, hb2⟩
  have hfin : m2 = m1 ++ prt .vs := by rw [HM2.out]; rfl
  rw [← hfin]; exact hown2

set_option maxRecDepth 100000 in
set_option maxHeartbeats 2000000 in
theorem sin_109 {B : Nat} {w0 : World} (hB : B = w0.heap.size) {a b : Tm} {p q pa pb : Nat} (ha : AtOK B w0 a pa) (hb : AtOK B w0 b pb)
    (h1 : w0.heap[p]? = some (.cells #[.int .u8 (109 : UInt8).toNat, .int .i64 0, .slice (some ⟨q, 0, none⟩) 2 2] 49)) (h2 : w0.heap[q]? = some (.cells #[.pointer (some ⟨pa, 0, none⟩), .pointer (some ⟨pb, 0, none⟩)] 33)) : SinOK B w0 (.two 109 a b) p := by
  intro w1 v1 m1 hb1 hown1 hlim
  obtain ⟨i0, hi, hz0, hz1, hz2⟩ := info_parts infoByte
  have c0 : w1.cell? ⟨p, 0, none⟩ = some (.int .u8 109) := cellB h1 hB hb1 rfl
  have hpp := pair_print hB ha hb h1 h2
  have hBle : B ≤ w0.heap.size := Nat.le_of_eq hB
  clear hB h1 h2
  have ep : prt (.two 109 a b) = [109, 105, 110] ++ 40 :: (prt a ++ 44 :: (prt b ++ [41])) := by simp [prt]
  have hle1 : m1.length + (3 + (40 :: (prt a ++ 44 :: (prt b ++ [41]))).length) ≤ 1000 := by rw [ep] at hlim; simp at hlim ⊢; omega
  have EP := Lib.hid ep
  clear hlim ep
  generalize 40 :: (prt a ++ 44 :: (prt b ++ [41])) = pr at hle1 EP hpp
  go_enter Tryd.func18, Tryd.ntmps18
  go_wp2_with (at_builtin; refine Lib.wpList_append_own_string _ rfl _ _ 36 9 rfl B 5 i0 Tryd.underlying36 Tryd.underlying9 hi hz0 hz1 hz2 _ _ _ rfl hown1 ⟨#[109, 105, 110]⟩ rfl (by unfold maxLen; show _ + 3 ≤ _; omega) (by show _ + 3 ≤ _; omega) (by have := hb1.size; omega) ?_)
  intro v2 w2 own' grow _
  have hb2 : Below B w0 w2 := hb1.grown grow (by have := hb1.size; omega) (fun k hk => (hown1.lt k hk).1)
  have hown2 : Own B w2 v2 (m1 ++ [109, 105, 110]) := own_app (n := 3) own' rfl
  clear own' grow
  obtain ⟨m2, hm2⟩ : ∃ x, x = m1 ++ [109, 105, 110] := ⟨_, rfl⟩
  rw [← hm2] at hown2
  have hle2 : m2.length + (pr.length) ≤ 1000 := by rw [hm2]; simp; omega
  have HM2 := Lib.hid hm2
  clear hm2
  go_wp2_with (go_at_call 27; refine (hpp w2 v2 m2 hb2 hown2 (by omega)).mono ?_; rintro e w3 ⟨v3, rfl, hown3, hb3⟩; refine Hid.out ?_)
  refine Lib.hid ?_
  obtain ⟨m3, hm3⟩ : ∃ x, x = m2 ++ pr := ⟨_, rfl⟩
  rw [← hm3] at hown3
  have hle3 : m3.length + (0) ≤ 1000 := by rw [hm3]; simp; omega
  have HM3 := Lib.hid hm3
  clear hm3
  go_wp2_with fail
  go_ret
  refine ⟨v3, rfl, ?_, hb3⟩
  have hfin : m3 = m1 ++ prt (.two 109 a b) := by rw [HM3.out, HM2.out, EP.out]; simp
  rw [← hfin]; exact hown3

set_option maxRecDepth 100000 in
set_option maxHeartbeats 2000000 in
theorem sin_77 {B : Nat} {w0 : World} (hB : B = w0.heap.size) {a b : Tm} {p q pa pb : Nat} (ha : AtOK B w0 a pa) (hb : AtOK B w0 b pb)
    (h1 : w0.heap[p]? = some (.cells #[.int .u8 (77 : UInt8).toNat, .int .i64 0, .slice (some ⟨q, 0, none⟩) 2 2] 49)) (h2 : w0.heap[q]? = some (.cells #[.pointer (some ⟨pa, 0, none⟩), .pointer (some ⟨pb, 0, none⟩)] 33)) : SinOK B w0 (.two 77 a b) p := by
  intro w1 v1 m1 hb1 hown1 hlim
  obtain ⟨i0, hi, hz0, hz1, hz2⟩ := info_parts infoByte
  have c0 : w1.cell? ⟨p, 0, none⟩ = some (.int .u8 77) := cellB h1 hB hb1 rfl
  have hpp := pair_print hB ha hb h1 h2
  have hBle : B ≤ w0.heap.size := Nat.le_of_eq hB
  clear hB h1 h2
  have ep : prt (.two 77 a b) = [109, 97, 120] ++ 40 :: (prt a ++ 44 :: (prt b ++ [41])) := by simp [prt]
  have hle1 : m1.length + (3 + (40 :: (prt a ++ 44 :: (prt b ++ [41]))).length) ≤ 1000 := by rw [ep] at hlim; simp at hlim ⊢; omega
  have EP := Lib.hid ep
  clear hlim ep
  generalize 40 :: (prt a ++ 44 :: (prt b ++ [41])) = pr at hle1 EP hpp
  go_enter Tryd.func18, Tryd.ntmps18
  go_wp2_with (at_builtin; refine Lib.wpList_append_own_string _ rfl _ _ 36 9 rfl B 5 i0 Tryd.underlying36 Tryd.underlying9 hi hz0 hz1 hz2 _ _ _ rfl hown1 ⟨#[109, 97, 120]⟩ rfl (by unfold maxLen; show _ + 3 ≤ _; omega) (by show _ + 3 ≤ _; omega) (by have := hb1.size; omega) ?_)
  intro v2 w2 own' grow _
  have hb2 : Below B w0 w2 := hb1.grown grow (by have := hb1.size; omega) (fun k hk => (hown1.lt k hk).1)
  have hown2 : Own B w2 v2 (m1 ++ [109, 97, 120]) := own_app (n := 3) own' rfl
  clear own' grow
  obtain ⟨m2, hm2⟩ : ∃ x, x = m1 ++ [109, 97, 120] := ⟨_, rfl⟩
  rw [← hm2] at hown2
  have hle2 : m2.length + (pr.length) ≤ 1000 := by rw [hm2]; simp; omega
  have HM2 := Lib.hid hm2
  clear hm2
  go_wp2_with (go_at_call 27; refine (hpp w2 v2 m2 hb2 hown2 (by omega)).mono ?_; rintro e w3 ⟨v3, rfl, hown3, hb3⟩; refine Hid.out ?_)
  refine Lib.hid ?_
  obtain ⟨m3, hm3⟩ : ∃ x, x = m2 ++ pr := ⟨_, rfl⟩
  rw [← hm3] at hown3
  have hle3 : m3.length + (0) ≤ 1000 := by rw [hm3]; simp; omega
  have HM3 := Lib.hid hm3
  clear hm3
  go_wp2_with fail
  go_ret
  refine ⟨v3, rfl, ?_, hb3⟩
  have hfin : m3 = m1 ++ prt (.two 77 a b) := by rw [HM3.out, HM2.out, EP.out]; simp
  rw [← hfin]; exact hown3

set_option maxRecDepth 100000 in
set_option maxHeartbeats 2000000 in
theorem dir_single {B : Nat} {w0 : World} {t : Tm} {p : Nat} (hs : SinOK B w0 t p) (ho : t.op ∈ allOps) (hr : rk t.op = 5) (hc : ∀ w, Below B w0 w → w.cell? ⟨p, 0, none⟩ = some (.int .u8 t.op.toNat)) : DirOK B w0 t p := by
  intro w1 v1 m1 k hb1 hown1 hk hlim
  have c0 := hc w1 hb1
  have hk' : ¬ (5 : Int) < k := by omega
  have hra := fun w => rank_any t.op ho w
  rw [hr] at hra
  generalize t.op.toNat = o at c0 hra
  have hs1 := hs w1 v1 m1 hb1 hown1 hlim
  clear hlim hc
  go_enter Tryd.func11, Tryd.ntmps11
  go_wp2_with (first | (go_at_call 16; refine (hra _).mono ?_; rintro e w' ⟨rfl, rfl⟩) | (go_at_call 18; refine hs1.mono ?_; rintro e w2 ⟨v2, rfl, hown2, hb2⟩))
  go_ret
  exact ⟨v2, rfl, hown2, hb2⟩

set_option maxRecDepth 100000 in
set_option maxHeartbeats 2000000 in
theorem dir_both1 {B : Nat} {w0 : World} (hB : B = w0.heap.size) {op : UInt8} {a b : Tm} {p q pa pb : Nat} (ha : AtOK B w0 a pa) (hb : AtOK B w0 b pb)
    (h1 : w0.heap[p]? = some (.cells #[.int .u8 op.toNat, .int .i64 0, .slice (some ⟨q, 0, none⟩) 2 2] 49)) (h2 : w0.heap[q]? = some (.cells #[.pointer (some ⟨pa, 0, none⟩), .pointer (some ⟨pb, 0, none⟩)] 33)) (ho : op ∈ allOps) (hr : rk op = 1) (ep : prt (.two op a b) = pin 2 a ++ op :: pin 2 b) : DirOK B w0 (.two op a b) p := by
  intro w1 v1 m1 k hb1 hown1 hk hlim
  have c0 : w1.cell? ⟨p, 0, none⟩ = some (.int .u8 op.toNat) := cellB h1 hB hb1 rfl
  have hk2 : k ≤ 1 := by have e : (Tm.two op a b).op = op := rfl; rw [e, hr] at hk; exact hk
  have hk' : ¬ (1 : Int) < k := by omega
  have hra := fun w => rank_any op ho w
  rw [hr] at hra
  rw [ep] at hlim
  have hs1 := both_print hB ha hb h1 h2 2 2 w1 v1 m1 hb1 hown1 hlim
  rw [ep]
  generalize pin 2 a ++ op :: pin 2 b = pr at hs1
  generalize op.toNat = o at c0 hra hs1
  clear hlim h1 h2 hk hB
  go_enter Tryd.func11, Tryd.ntmps11
  go_wp2_with (first | (go_at_call 16; refine (hra _).mono ?_; rintro e w' ⟨rfl, rfl⟩) | (go_at_call 17; refine hs1.mono ?_; rintro e w2 ⟨v2, rfl, hown2, hb2⟩))
  go_ret
  exact ⟨v2, rfl, hown2, hb2⟩

set_option maxRecDepth 100000 in
set_option maxHeartbeats 2000000 in
theorem dir_both2 {B : Nat} {w0 : World} (hB : B = w0.heap.size) {op : UInt8} {a b : Tm} {p q pa pb : Nat} (ha : AtOK B w0 a pa) (hb : AtOK B w0 b pb)
    (h1 : w0.heap[p]? = some (.cells #[.int .u8 op.toNat, .int .i64 0, .slice (some ⟨q, 0, none⟩) 2 2] 49)) (h2 : w0.heap[q]? = some (.cells #[.pointer (some ⟨pa, 0, none⟩), .pointer (some ⟨pb, 0, none⟩)] 33)) (ho : op ∈ allOps) (hr : rk op = 2) (ep : prt (.two op a b) = pin 2 a ++ op :: pin 3 b) : DirOK B w0 (.two op a b) p := by
  intro w1 v1 m1 k hb1 hown1 hk hlim
  have c0 : w1.cell? ⟨p, 0, none⟩ = some (.int .u8 op.toNat) := cellB h1 hB hb1 rfl
  have hk2 : k ≤ 2 := by have e : (Tm.two op a b).op = op := rfl; rw [e, hr] at hk; exact hk
  have hk' : ¬ (2 : Int) < k := by omega
  have hra := fun w => rank_any op ho w
  rw [hr] at hra
  rw [ep] at hlim
  have hs1 := both_print hB ha hb h1 h2 2 3 w1 v1 m1 hb1 hown1 hlim
  rw [ep]
  generalize pin 2 a ++ op :: pin 3 b = pr at hs1
  generalize op.toNat = o at c0 hra hs1
  clear hlim h1 h2 hk hB
  go_enter Tryd.func11, Tryd.ntmps11
  go_wp2_with (first | (go_at_call 16; refine (hra _).mono ?_; rintro e w' ⟨rfl, rfl⟩) | (go_at_call 17; refine hs1.mono ?_; rintro e w2 ⟨v2, rfl, hown2, hb2⟩))
  go_ret
  exact ⟨v2, rfl, hown2, hb2⟩

set_option maxRecDepth 100000 in
set_option maxHeartbeats 2000000 in
theorem dir_both3 {B : Nat} {w0 : World} (hB : B = w0.heap.size) {op : UInt8} {a b : Tm} {p q pa pb : Nat} (ha : AtOK B w0 a pa) (hb : AtOK B w0 b pb)
    (h1 : w0.heap[p]? = some (.cells #[.int .u8 op.toNat, .int .i64 0, .slice (some ⟨q, 0, none⟩) 2 2] 49)) (h2 : w0.heap[q]? = some (.cells #[.pointer (some ⟨pa, 0, none⟩), .pointer (some ⟨pb, 0, none⟩)] 33)) (ho : op ∈ allOps) (hr : rk op = 3) (ep : prt (.two op a b) = pin 3 a ++ op :: pin 4 b) : DirOK B w0 (.two op a b) p := by
  intro w1 v1 m1 k hb1 hown1 hk hlim
  have c0 : w1.cell? ⟨p, 0, none⟩ = some (.int .u8 op.toNat) := cellB h1 hB hb1 rfl
  have hk2 : k ≤ 3 := by have e : (Tm.two op a b).op = op := rfl; rw [e, hr] at hk; exact hk
  have hk' : ¬ (3 : Int) < k := by omega
  have hra := fun w => rank_any op ho w
  rw [hr] at hra
  rw [ep] at hlim
  have hs1 := both_print hB ha hb h1 h2 3 4 w1 v1 m1 hb1 hown1 hlim
  rw [ep]
  generalize pin 3 a ++ op :: pin 4 b = pr at hs1
  generalize op.toNat = o at c0 hra hs1
  clear hlim h1 h2 hk hB
  go_enter Tryd.func11, Tryd.ntmps11
  go_wp2_with (first | (go_at_call 16; refine (hra _).mono ?_; rintro e w' ⟨rfl, rfl⟩) | (go_at_call 17; refine hs1.mono ?_; rintro e w2 ⟨v2, rfl, hown2, hb2⟩))
  go_ret
  exact ⟨v2, rfl, hown2, hb2⟩

set_option maxRecDepth 100000 in
set_option maxHeartbeats 2000000 in
theorem at_of_dir {B : Nat} {w0 : World} (hB : B = w0.heap.size) {t : Tm} {p : Nat} (hD : DirOK B w0 t p) (ho : t.op ∈ allOps) (hc : ∀ w, Below B w0 w → w.cell? ⟨p, 0, none⟩ = some (.int .u8 t.op.toNat)) : AtOK B w0 t p := by
  intro w1 v1 m1 k hb1 hown1 hlim
  by_cases hk : rk t.op < k
  · have eb : brk (decide (rk t.op < k)) (prt t) = 40 :: (prt t ++ [41]) := by simp [brk, hk]
    rw [eb] at hlim ⊢
    obtain ⟨i0, hi, hz0, hz1, hz2⟩ := info_parts infoByte
    have c0 := hc w1 hb1
    have hk' : ((rk t.op : Nat) : Int) < k := by omega
    have hra := fun w => rank_any t.op ho w
    have hDz := fun w v m h1 h2 h3 => hD w v m 0 h1 h2 (by omega) h3
    have hBle : B ≤ w0.heap.size := Nat.le_of_eq hB
    have hle1 : m1.length + ((prt t).length + 2) ≤ 1000 := by simp at hlim; omega
    clear hlim hc hD hB eb hk
    generalize rk t.op = r at hra hk'
    generalize t.op.toNat = o at c0 hra
    go_enter Tryd.func11, Tryd.ntmps11
    go_wp2_with (go_at_call 16; refine (hra _).mono ?_; rintro e w' ⟨rfl, rfl⟩; refine Hid.out ?_)
    refine Lib.hid ?_
    go_wp2_with (at_builtin; refine wpList_append_own _ rfl _ _ 36 rfl B 5 i0 (.int .u8 0) 1 1 Tryd.underlying36 hi hz0 hz1 hz2 rfl (by decide) _ _ _ rfl (hown1.alloc _) ⟨w1.heap.size, 0, none⟩ 1 1 [Value.int .u8 40] rfl rfl (by intro j u' hj; match j, hj with | 0, hj => simp at hj; subst hj; simp [Addr.add]) (by intro u' hu'; simp at hu'; subst hu'; rfl) (by unfold maxLen; omega) (by omega) (by have := hb1.size; simp; omega) ?_)
    intro v2 w2 own' grow _
    have hb2 : Below B w0 w2 := (hb1.alloc (by have := hb1.size; omega) _).grown grow (by have := hb1.size; simp; omega) (fun k hk => (hown1.lt k hk).1)
    have hown2 : Own B w2 v2 (m1 ++ [40]) := own_snoc own'
    clear own' grow
    obtain ⟨m2, hm2⟩ : ∃ x, x = m1 ++ [40] := ⟨_, rfl⟩
    rw [← hm2] at hown2
    have hle2 : m2.length + ((prt t).length + 1) ≤ 1000 := by rw [hm2]; simp; omega
    have HM2 := Lib.hid hm2
    clear hm2
    go_wp2_with (go_at_call 11; refine (hDz w2 v2 m2 hb2 hown2 (by omega)).mono ?_; rintro e w3 ⟨v3, rfl, hown3, hb3⟩; refine Hid.out ?_)
    refine Lib.hid ?_
    obtain ⟨m3, hm3⟩ : ∃ x, x = m2 ++ prt t := ⟨_, rfl⟩
    rw [← hm3] at hown3
    have hle3 : m3.length + (1) ≤ 1000 := by rw [hm3]; simp; omega
    have HM3 := Lib.hid hm3
    clear hm3
    go_wp2_with (at_builtin; refine wpList_append_own _ rfl _ _ 36 rfl B 5 i0 (.int .u8 0) 1 1 Tryd.underlying36 hi hz0 hz1 hz2 rfl (by decide) _ _ _ rfl (hown3.alloc _) ⟨w3.heap.size, 0, none⟩ 1 1 [Value.int .u8 41] rfl rfl (by intro j u' hj; match j, hj with | 0, hj => simp at hj; subst hj; simp [Addr.add]) (by intro u' hu'; simp at hu'; subst hu'; rfl) (by unfold maxLen; omega) (by omega) (by have := hb3.size; simp; omega) ?_)
    intro v4 w4 own' grow _
    have hb4 : Below B w0 w4 := (hb3.alloc (by have := hb3.size; omega) _).grown grow (by have := hb3.size; simp; omega) (fun k hk => (hown3.lt k hk).1)
    have hown4 : Own B w4 v4 (m3 ++ [41]) := own_snoc own'
    clear own' grow
    obtain ⟨m4, hm4⟩ : ∃ x, x = m3 ++ [41] := ⟨_, rfl⟩
    rw [← hm4] at hown4
    have hle4 : m4.length + (0) ≤ 1000 := by rw [hm4]; simp; omega
    have HM4 := Lib.hid hm4
    clear hm4
    go_wp2_with fail
    go_ret
    refine ⟨v4, rfl, ?_, hb4⟩
    have hfin : m4 = m1 ++ 40 :: (prt t ++ [41]) := by rw [HM4.out, HM3.out, HM2.out]; simp
    rw [← hfin]; exact hown4

  · have eb : brk (decide (rk t.op < k)) (prt t) = prt t := by simp [brk, hk]
    rw [eb] at hlim ⊢
    exact hD w1 v1 m1 k hb1 hown1 (by omega) hlim
end Go.Proofs.YtdegibjfcjkgdabDoor
