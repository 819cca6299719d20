/- How a choice and one with a sign ahead are written; and every tree. -/
import Derived.Test.YtdegibjfcjkgdabDoorRt
import Derived.Deep.RegionHeld3
namespace Go.Proofs.YtdegibjfcjkgdabDoor
open Go.RowKit

theorem own_drew_alloc {B : Nat} {w : World} {v : Value} {l : List UInt8} (h : Own B w v l) (o : Obj) : Own B (w.drew.alloc o) v l := (show Own B w.drew v l from h).alloc o
theorem step_append_own {P : Program} {ops : Array Oper} {o : Oper} {a : Act} {w : World} {K : Act → World → Prop} {Q : Exit → Act → World → Prop} {E : Prop} (hg : o.guard = none) (s x : Operand) (t : TypeId)
    (ho : o.op = .call { callee := .builtin .append, args := #[s, x], argTypes := #[t, t] })
    (base : Nat) (e : TypeId) (i : TypeInfo) (z : Value) (size bytes : Nat) (ht : P.underlying t = some (.slice e)) (hi : P.info? e = some i) (hz : i.zero = some z)
    (hsize : i.size = size) (hby : i.bytes = bytes) (hzs : z.cells.size = size) (hsz : 0 < size)
    (v : Value) (n : Nat) (xs : List Value) (hs : a.eval s = v) (hown : w.ownsRow base e size v n xs)
    (ad : Addr) (m c : Nat) (news : List Value) (hx : a.eval x = .slice (some ad) m c) (hl : news.length = m * size) (hnews : ∀ j u, news[j]? = some u → w.cell? (ad.add j) = some u) (h1 : ∀ u ∈ news, u.oneCell' = true)
    (h63 : n + m ≤ maxLen) (hbytes : (n + m) * bytes ≤ 140737488355328) (hbase : base ≤ w.heap.size)
    (h : ∀ v' w', w'.ownsRow base e size v' (n + m) (xs ++ news) → w.grownBy w' v.ownBlock → K (a.put o.dst v') w') :
    if Region.wanted o (yielded ops a.tmps) = true then Oper.wp P o a w K Q else E := by
  have hw : Region.wanted o (yielded ops a.tmps) = true := by simp [Region.wanted, hg]
  rw [if_pos hw]
  exact wp_append_own w s x t ho base e i z size bytes ht hi hz hsize hby hzs hsz v n xs hs hown ad m c news hx hl hnews h1 h63 hbytes hbase (fun v' w' h2 h3 _ => h v' w' h2 h3)

set_option maxRecDepth 100000 in
set_option maxHeartbeats 2000000 in
theorem dir_cond {B : Nat} {w0 : World} (hB : B = w0.heap.size) {a b c : Tm} {p q pa pb pc : Nat} (ha : AtOK B w0 a pa) (hb : AtOK B w0 b pb) (hc : AtOK B w0 c pc)
    (h1 : w0.heap[p]? = some (.cells #[.int .u8 63, .int .i64 0, .slice (some ⟨q, 0, none⟩) 3 3] 49)) (h2 : w0.heap[q]? = some (.cells #[.pointer (some ⟨pa, 0, none⟩), .pointer (some ⟨pb, 0, none⟩), .pointer (some ⟨pc, 0, none⟩)] 33)) : DirOK B w0 (.cond a b c) p := by
  intro w1 v1 m1 k hb1 hown1 hk hlim
  obtain rfl : k = 0 := by have e : rk (Tm.cond a b c).op = 0 := rfl; omega
  obtain ⟨i0, hi, hz0, hz1, hz2⟩ := info_parts infoByte
  have hra : ∀ w, Calls Tryd.prog 16 #[.int .u8 63] w fun e w' => e = .returned (.int .i64 0) ∧ w = w' := fun w => rank_any 63 (by decide) w
  have c0 : ∀ w, Below B w0 w → w.cell? ⟨p, 0, none⟩ = some (.int .u8 63) := fun w hb => cellB h1 hB hb rfl
  have cp : ∀ w, Below B w0 w → w.cell? ⟨p, 2, none⟩ = some (.slice (some ⟨q, 0, none⟩) 3 3) := fun w hb => cellB h1 hB hb rfl
  have cq0 : ∀ w, Below B w0 w → w.cell? ⟨q, 0, none⟩ = some (.pointer (some ⟨pa, 0, none⟩)) := fun w hb => cellB h2 hB hb rfl
  have cq1 : ∀ w, Below B w0 w → w.cell? ⟨q, 1, none⟩ = some (.pointer (some ⟨pb, 0, none⟩)) := fun w hb => cellB h2 hB hb rfl
  have cq2 : ∀ w, Below B w0 w → w.cell? ⟨q, 2, none⟩ = some (.pointer (some ⟨pc, 0, none⟩)) := fun w hb => cellB h2 hB hb rfl
  have hBle : B ≤ w0.heap.size := Nat.le_of_eq hB
  clear hB h1 h2 hk
  have ep : prt (.cond a b c) = pin 1 a ++ 63 :: (prt b ++ 58 :: prt c) := rfl
  have hle1 : m1.length + ((pin 1 a).length + (prt b).length + (prt c).length + 2) ≤ 1000 := by rw [ep] at hlim; simp at hlim; omega
  have EP := Lib.hid ep
  clear hlim ep
  have z0 := c0 w1 hb1
  have zz0 := cp w1 hb1
  have zz1 := cq0 w1 hb1
  go_enter Tryd.func11, Tryd.ntmps11
  go_wp2_with (go_at_call 16; refine (hra _).mono ?_; rintro e w' ⟨rfl, rfl⟩)
  clear z0
  go_wp2_with (go_at_call 11; refine (ha.at 1 w1 v1 m1 hb1 hown1 (by omega)).mono ?_; rintro e w2 ⟨v2, rfl, hown2, hb2⟩; refine Hid.out ?_)
  refine Lib.hid ?_
  clear zz0 zz1
  obtain ⟨m2, hm2⟩ : ∃ x, x = m1 ++ pin 1 a := ⟨_, rfl⟩
  rw [← hm2] at hown2
  have hle2 : m2.length + ((prt b).length + (prt c).length + 2) ≤ 1000 := by rw [hm2]; simp; omega
  have HM2 := Lib.hid hm2
  clear hm2
  go_wp2_with (at_builtin; refine wpList_append_own _ rfl _ _ 36 rfl B 5 i0 (.int .u8 0) 1 1 Tryd.underlying36 hi hz0 hz1 hz2 rfl (by decide) _ _ _ rfl (hown2.alloc _) ⟨w2.heap.size, 0, none⟩ 1 1 [Value.int .u8 63] rfl rfl (by intro j u' hj; match j, hj with | 0, hj => simp at hj; subst hj; simp [Addr.add]) (by intro u' hu'; simp at hu'; subst hu'; rfl) (by unfold maxLen; omega) (by omega) (by have := hb2.size; simp; omega) ?_)
  intro v3 w3 own' grow _
  have hb3 : Below B w0 w3 := (hb2.alloc (by have := hb2.size; omega) _).grown grow (by have := hb2.size; simp; omega) (fun k hk => (hown2.lt k hk).1)
  have hown3 : Own B w3 v3 (m2 ++ [63]) := own_snoc own'
  clear own' grow
  obtain ⟨m3, hm3⟩ : ∃ x, x = m2 ++ [63] := ⟨_, rfl⟩
  rw [← hm3] at hown3
  have hle3 : m3.length + ((prt b).length + (prt c).length + 1) ≤ 1000 := by rw [hm3]; simp; omega
  have HM3 := Lib.hid hm3
  clear hm3
  have zz0 := cp w3 hb3
  have zz1 := cq1 w3 hb3
  go_wp2_with (go_at_call 11; refine (hb.zero w3 v3 m3 hb3 hown3 (by omega)).mono ?_; rintro e w4 ⟨v4, rfl, hown4, hb4⟩; refine Hid.out ?_)
  refine Lib.hid ?_
  clear zz0 zz1
  obtain ⟨m4, hm4⟩ : ∃ x, x = m3 ++ prt b := ⟨_, rfl⟩
  rw [← hm4] at hown4
  have hle4 : m4.length + ((prt c).length + 1) ≤ 1000 := by rw [hm4]; simp; omega
  have HM4 := Lib.hid hm4
  clear hm4
  go_wp2_with (at_builtin; refine wpList_append_own _ rfl _ _ 36 rfl B 5 i0 (.int .u8 0) 1 1 Tryd.underlying36 hi hz0 hz1 hz2 rfl (by decide) _ _ _ rfl (hown4.alloc _) ⟨w4.heap.size, 0, none⟩ 1 1 [Value.int .u8 58] rfl rfl (by intro j u' hj; match j, hj with | 0, hj => simp at hj; subst hj; simp [Addr.add]) (by intro u' hu'; simp at hu'; subst hu'; rfl) (by unfold maxLen; omega) (by omega) (by have := hb4.size; simp; omega) ?_)
  intro v5 w5 own' grow _
  have hb5 : Below B w0 w5 := (hb4.alloc (by have := hb4.size; omega) _).grown grow (by have := hb4.size; simp; omega) (fun k hk => (hown4.lt k hk).1)
  have hown5 : Own B w5 v5 (m4 ++ [58]) := own_snoc own'
  clear own' grow
  obtain ⟨m5, hm5⟩ : ∃ x, x = m4 ++ [58] := ⟨_, rfl⟩
  rw [← hm5] at hown5
  have hle5 : m5.length + ((prt c).length) ≤ 1000 := by rw [hm5]; simp; omega
  have HM5 := Lib.hid hm5
  clear hm5
  have zz0 := cp w5 hb5
  have zz1 := cq2 w5 hb5
  go_wp2_with (go_at_call 11; refine (hc.zero w5 v5 m5 hb5 hown5 (by omega)).mono ?_; rintro e w6 ⟨v6, rfl, hown6, hb6⟩; refine Hid.out ?_)
  refine Lib.hid ?_
  clear zz0 zz1
  obtain ⟨m6, hm6⟩ : ∃ x, x = m5 ++ prt c := ⟨_, rfl⟩
  rw [← hm6] at hown6
  have hle6 : m6.length + (0) ≤ 1000 := by rw [hm6]; simp; omega
  have HM6 := Lib.hid hm6
  clear hm6
  go_wp2_with fail
  go_ret
  refine ⟨v6, rfl, ?_, hb6⟩
  have hfin : m6 = m1 ++ prt (.cond a b c) := by rw [HM6.out, HM5.out, HM4.out, HM3.out, HM2.out, EP.out]; simp
  rw [← hfin]; exact hown6

set_option maxRecDepth 100000 in
set_option maxHeartbeats 2000000 in
theorem dir_neg {B : Nat} {w0 : World} (hB : B = w0.heap.size) {a : Tm} {p q pa : Nat} (ha : AtOK B w0 a pa)
    (h1 : w0.heap[p]? = some (.cells #[.int .u8 126, .int .i64 0, .slice (some ⟨q, 0, none⟩) 1 1] 49)) (h2 : w0.heap[q]? = some (.cells #[.pointer (some ⟨pa, 0, none⟩)] 33)) : DirOK B w0 (.neg a) p := by
  intro w1 v1 m1 k hb1 hown1 hk hlim
  have hk2 : k ≤ 4 := by have e : rk (Tm.neg a).op = 4 := rfl; omega
  have hk' : ¬ (4 : Int) < k := by omega
  obtain ⟨i0, hi, hz0, hz1, hz2⟩ := info_parts infoByte
  have hra : ∀ w, Calls Tryd.prog 16 #[.int .u8 126] w fun e w' => e = .returned (.int .i64 4) ∧ w = w' := fun w => rank_any 126 (by decide) w
  have c0 : w1.cell? ⟨p, 0, none⟩ = some (.int .u8 126) := cellB h1 hB hb1 rfl
  have cp : ∀ w, Below B w0 w → w.cell? ⟨p, 2, none⟩ = some (.slice (some ⟨q, 0, none⟩) 1 1) := fun w hb => cellB h1 hB hb rfl
  have cq0 : ∀ w, Below B w0 w → w.cell? ⟨q, 0, none⟩ = some (.pointer (some ⟨pa, 0, none⟩)) := fun w hb => cellB h2 hB hb rfl
  have x1 := cp w1 hb1
  have x2 := cq0 w1 hb1
  have hBle : B ≤ w0.heap.size := Nat.le_of_eq hB
  have hBw := hb1.size
  have lp : p < w1.heap.size := by have := some_lt h1; omega
  have lq : q < w1.heap.size := by have := some_lt h2; omega
  clear hB h1 h2 hk
  have ep : prt (.neg a) = 45 :: pin 4 a := rfl
  have hle1 : m1.length + ((pin 4 a).length + 1) ≤ 1000 := by rw [ep] at hlim; simp at hlim; omega
  have EP := Lib.hid ep
  clear hlim ep
  go_enter Tryd.func11, Tryd.ntmps11
  go_wp2_with (go_at_call 16; refine (hra _).mono ?_; rintro e w' ⟨rfl, rfl⟩)
  go_region_held3 (fun w' => w'.cell? ⟨p, 2, none⟩ = some (.slice (some ⟨q, 0, none⟩) 1 1) ∧ w'.cell? ⟨q, 0, none⟩ = some (.pointer (some ⟨pa, 0, none⟩))) (first | go_keep | exact ⟨cp _ hb2, cq0 _ hb2⟩)
    (first
      | (refine step_append_own (by rfl) _ _ 36 (by rfl) B 5 i0 (.int .u8 0) 1 1 Tryd.underlying36 hi hz0 hz1 hz2 rfl (by decide) v1 m1.length (Lib.byteCells m1) (by rfl) (own_drew_alloc hown1 _) ⟨w1.heap.size, 0, none⟩ 1 1 [Value.int .u8 45] (by rfl) rfl (by intro j u' hj; match j, hj with | 0, hj => simp at hj; subst hj; simp [Addr.add]) (by intro u' hu'; simp at hu'; subst hu'; rfl) (by unfold maxLen; omega) (by omega) (by simp; omega) ?_; intro v2 w2 own' grow; have hb2 : Below B w0 w2 := ((below_drewN hb1 1).alloc (by show B ≤ w1.heap.size; omega) _).grown grow (by simp; omega) (fun k hk => (hown1.lt k hk).1); have hown2 : Own B w2 v2 (m1 ++ [45]) := own_snoc own'; clear own' grow)
      | (go_at_call 11; refine (ha.at 4 _ v2 (m1 ++ [45]) hb2 hown2 (by simp; omega)).mono ?_; rintro e w3 ⟨v3, rfl, hown3, hb3⟩))
  go_wp2_with fail
  go_ret
  exact ⟨v3, rfl, by rw [EP.out]; simpa using hown3, hb3⟩

/-- Every tree that was read is written so. -/
theorem print_all {B : Nat} {w0 : World} (hB : B = w0.heap.size) (hT : Tb B w0) {lo : Nat} : ∀ (t : Tm) (p : Nat), Tr lo w0 t p → OkT t → AtOK B w0 t p := by
  intro t
  induction t with
  | num v =>
    intro p ht ho
    have h1 := ht.2.2
    exact at_of_dir hB (dir_single (sin_num hB hT ht) (by simp [Tm.op, allOps]) rfl (fun w hb => cellB h1 hB hb rfl)) (by simp [Tm.op, allOps]) (fun w hb => cellB h1 hB hb rfl)
  | vn =>
    intro p ht ho
    have h1 := ht.2
    exact at_of_dir hB (dir_single (sin_vn hB ht) (by simp [Tm.op, allOps]) rfl (fun w hb => cellB h1 hB hb rfl)) (by simp [Tm.op, allOps]) (fun w hb => cellB h1 hB hb rfl)
  | vs =>
    intro p ht ho
    have h1 := ht.2
    exact at_of_dir hB (dir_single (sin_vs hB ht) (by simp [Tm.op, allOps]) rfl (fun w hb => cellB h1 hB hb rfl)) (by simp [Tm.op, allOps]) (fun w hb => cellB h1 hB hb rfl)
  | neg a ih =>
    intro p ht ho
    obtain ⟨_, q, pa, _, h1, h2, h3⟩ := ht
    exact at_of_dir hB (dir_neg hB (ih _ h3 ho) h1 h2) (by simp [Tm.op, allOps]) (fun w hb => cellB h1 hB hb rfl)
  | cond a b c iha ihb ihc =>
    intro p ht ho
    obtain ⟨_, q, pa, pb, pc, _, h1, h2, h3, h4, h5⟩ := ht
    exact at_of_dir hB (dir_cond hB (iha _ h3 ho.1) (ihb _ h4 ho.2.1) (ihc _ h5 ho.2.2) h1 h2) (by simp [Tm.op, allOps]) (fun w hb => cellB h1 hB hb rfl)
  | two op a b iha ihb =>
    intro p ht ho
    obtain ⟨_, q, pa, pb, _, h1, h2, h3, h4⟩ := ht
    have ha := iha _ h3 ho.2.1
    have hb := ihb _ h4 ho.2.2
    have hall : (Tm.two op a b).op ∈ allOps := op_all ho
    have hcell : ∀ w, Below B w0 w → w.cell? ⟨p, 0, none⟩ = some (.int .u8 (Tm.two op a b).op.toNat) := fun w hb => cellB h1 hB hb rfl
    refine at_of_dir hB ?_ hall hcell
    have ho1 := ho.1
    simp only [okOps, List.mem_cons, List.not_mem_nil, or_false] at ho1
    rcases ho1 with rfl | rfl | rfl | rfl | rfl | rfl | rfl | rfl | rfl | rfl
    · exact dir_both1 hB ha hb h1 h2 (by decide) (by decide) rfl
    · exact dir_both1 hB ha hb h1 h2 (by decide) (by decide) rfl
    · exact dir_both1 hB ha hb h1 h2 (by decide) (by decide) rfl
    · exact dir_both2 hB ha hb h1 h2 (by decide) (by decide) rfl
    · exact dir_both2 hB ha hb h1 h2 (by decide) (by decide) rfl
    · exact dir_both3 hB ha hb h1 h2 (by decide) (by decide) rfl
    · exact dir_both3 hB ha hb h1 h2 (by decide) (by decide) rfl
    · exact dir_both3 hB ha hb h1 h2 (by decide) (by decide) rfl
    · exact dir_single (sin_109 hB ha hb h1 h2) hall rfl hcell
    · exact dir_single (sin_77 hB ha hb h1 h2) hall rfl hcell
end Go.Proofs.YtdegibjfcjkgdabDoor
