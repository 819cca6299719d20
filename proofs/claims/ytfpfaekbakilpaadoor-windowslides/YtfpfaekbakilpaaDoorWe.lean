/- A pane counts a record; a record is taken. -/
import Derived.Test.YtfpfaekbakilpaaDoorWd
namespace Go.Proofs.YtfpfaekbakilpaaDoor
open Go.RowKit
set_option linter.unusedVariables false

theorem alloc_new (w : World) (o : Obj) : (w.alloc o).heap[w.heap.size]? = some o := by show (w.heap.push o)[w.heap.size]? = some o; rw [Array.getElem?_push_size]
theorem heap_set_same (w : World) (B o : Nat) (cur : Array Value) (t : TypeId) (m : Nat × Nat) (h : w.heap[B]? = some (.cells cur t m)) (v : Value) : (w.setCell ⟨B, o, none⟩ v).heap[B]? = some (.cells (cur.setIfInBounds o v) t m) := by
  simp [World.setCell, Array.getElem?_modify, h]
/-- What counting makes of a block with a pane at o. -/
def cntA (cur : Array Value) (o : Nat) (mn sm num : Int) : Array Value := (cur.setIfInBounds (o + 3) (.int .i64 (w64 (mn + 1)))).setIfInBounds (o + 4) (.int .i64 (w64 (sm + num)))
set_option maxRecDepth 100000 in
set_option maxHeartbeats 1000000 in
theorem count_any (w : World) (B o : Nat) (cur : Array Value) (t : TypeId) (mn sm : Int) (r : Rg) (hB : w.heap[B]? = some (.cells cur t (0, 0))) (c3 : w.cell? ⟨B, o + 3, none⟩ = some (.int .i64 mn)) (c4 : w.cell? ⟨B, o + 4, none⟩ = some (.int .i64 sm)) :
    Calls Tryd.prog 25 #[.pointer (some ⟨B, o, none⟩), rV r] w fun e w' => e = .returned (.tuple #[]) ∧ w'.heap[B]? = some (.cells (cntA cur o mn sm r.num) t (0, 0)) ∧ Fr [B] w w' := by
  obtain ⟨key, num, tm⟩ := r
  simp only [rV]
  have hlt := some_lt hB
  have f3 : w.frozen? ⟨B, o + 3, none⟩ = false := by simp [World.frozen?, hB]
  have f4 : w.frozen? ⟨B, o + 4, none⟩ = false := by simp [World.frozen?, hB]
  have hend : ∀ u : World, u.heap = (((w.setCell ⟨B, o + 3, none⟩ (.int .i64 (w64 (mn + 1)))).setCell ⟨B, o + 4, none⟩ (.int .i64 (w64 (sm + num)))).alloc (.cells #[.string key, .int .i64 num, .int .i64 tm] 47)).heap → u.os = w.os → u.tape = w.tape → u.output = w.output → u.heap[B]? = some (.cells (cntA cur o mn sm num) t (0, 0)) ∧ Fr [B] w u := fun u h1 h2 h3 h4 => by
    refine ⟨?_, h2, h3, h4, ?_, fun k hk hx => ?_⟩
    · rw [h1, Below.heap_alloc _ _ _ (by simpa using hlt), heap_set_same _ B (o + 4) _ t (0, 0) (heap_set_same _ B (o + 3) cur t (0, 0) hB _)]
      rfl
    · rw [h1]; simp
    · rw [h1, Below.heap_alloc _ _ _ (by simpa using hk), Below.heap_setCell _ _ _ _ (by simpa using hx), Below.heap_setCell _ _ _ _ (by simpa using hx)]
  have HE := Lib.hid hend
  clear hend hB
  have e1 := w64_eq (mn + 1)
  have e2 := w64_eq (sm + num)
  go_enter Tryd.func25, Tryd.ntmps25
  go_wp2_with fail
  go_region
  all_goals exact bodyPost_end (results_none rfl _ _ _) rfl ⟨rfl, HE.out _ rfl rfl rfl rfl⟩
theorem count0_any (w : World) (B : Nat) (k : ByteArray) (fr to mn sm lt : Int) (r : Rg) (hB : w.heap[B]? = some (.cells #[.string k, .int .i64 fr, .int .i64 to, .int .i64 mn, .int .i64 sm, .int .i64 lt] 49 (0, 0))) :
    Calls Tryd.prog 25 #[.pointer (some ⟨B, 0, none⟩), rV r] w fun e w' => e = .returned (.tuple #[]) ∧ w'.heap[B]? = some (.cells #[.string k, .int .i64 fr, .int .i64 to, .int .i64 (w64 (mn + 1)), .int .i64 (w64 (sm + r.num)), .int .i64 lt] 49 (0, 0)) ∧ Fr [B] w w' := by
  refine (count_any w B 0 _ 49 mn sm r hB (by simp [World.cell?, hB]) (by simp [World.cell?, hB])).mono ?_
  rintro e w' ⟨rfl, h2, h3⟩
  exact ⟨rfl, by rw [h2]; rfl, h3⟩
theorem frm_bd {t size by_ : Int} (h1 : 1 ≤ by_) (hb : by_ ≤ 1000000) (h0 : 0 ≤ t) (ht : t ≤ 1000000) (hs : 1 ≤ size) {j : Nat} (hj : j ≤ nP t size by_) : -1000000 ≤ frm t by_ j ∧ frm t by_ j ≤ 1000000 := by
  have e := Int.mul_ediv_add_emod t by_
  rw [Int.mul_comm] at e
  have m0 := Int.emod_nonneg t (show by_ ≠ 0 by omega)
  have d0 : 0 ≤ t / by_ := Int.ediv_nonneg h0 (by omega)
  have d1 : 0 ≤ t / by_ * by_ := Int.mul_nonneg d0 (by omega)
  have d2 : 0 ≤ (j : Int) * by_ := Int.mul_nonneg (by omega) (by omega)
  cases j with
  | zero => unfold frm; simp; omega
  | succ j =>
    have := ((frm_lt t size by_ h1 h0 hs j).2 (by omega)).1
    have e2 : frm t by_ (j + 1) = frm t by_ j - by_ := by unfold frm; simp only [Int.natCast_add, Int.add_mul, Int.natCast_one, Int.one_mul]; omega
    unfold frm at *
    omega
theorem frm_succ (t by_ : Int) (j : Nat) : frm t by_ (j + 1) = frm t by_ j - by_ := by unfold frm; simp only [Int.natCast_add, Int.add_mul, Int.natCast_one, Int.one_mul]; omega
theorem frm_zero (t by_ : Int) : frm t by_ 0 = t / by_ * by_ := by unfold frm; simp
set_option maxRecDepth 100000 in
set_option maxHeartbeats 4000000 in
theorem take_any (w : World) (M : Nat) (L : List Pn) (h : MpAt w M L) (r : Rg) (size by_ mark : Int) (t0 : 0 ≤ r.tm) (t1 : r.tm ≤ 1000000) (s0 : 1 ≤ size) (s1 : size ≤ 1000000) (b0 : 1 ≤ by_) (b1 : by_ ≤ 1000000) (hsb : size ≤ 16 * by_) (hk : r.key.size ≤ 40) (hL : L.length ≤ 1000000) :
    Calls Tryd.prog 21 #[.map (some M), rV r, .int .i64 size, .int .i64 by_, .int .i64 mark] w fun e w' => e = .returned (.tuple #[]) ∧ MpAt w' M (takeP size by_ mark r L) ∧ Fr [M] w w' := by
  have hM := h.lt
  have hris := h.ris
  have hp0 : 0 ≤ r.tm / by_ * by_ := Int.mul_nonneg (Int.ediv_nonneg t0 (by omega)) (by omega)
  have hp1 : r.tm / by_ * by_ ≤ 1000000 := by
    have e := Int.mul_ediv_add_emod r.tm by_
    rw [Int.mul_comm] at e
    have m0 := Int.emod_nonneg r.tm (show by_ ≠ 0 by omega)
    omega
  have hdv0 : 0 ≤ r.tm / by_ := Int.ediv_nonneg t0 (by omega)
  have hdv1 : r.tm / by_ ≤ 1000000 := Int.le_trans (Int.ediv_le_self _ t0) t1
  have hz := frm_zero r.tm by_
  have HZ := Lib.hid hz
  clear hz
  have hF := fun j => frm_lt r.tm size by_ b0 t0 s0 j
  have hFb := fun j => frm_bd (t := r.tm) (size := size) b0 b1 t0 t1 s0 (j := j)
  have hFs := fun j => frm_succ r.tm by_ j
  have HF := Lib.hid hF
  have HFB := Lib.hid hFb
  have HFS := Lib.hid hFs
  have hT := fun j => takeTo_succ size by_ mark r L j
  have HT := Lib.hid hT
  have hTl := fun j => takeTo_len (size := size) (by_ := by_) (mark := mark) (r := r) hris j
  have hn := nP_le (t := r.tm) b0 hsb
  have HTL := Lib.hid hTl
  have HN := Lib.hid hn
  clear hF hFb hFs hT hTl hn
  unfold takeP
  generalize hN : nP r.tm size by_ = N at *
  clear hN
  have h0 : takeTo size by_ mark r L 0 = L := rfl
  have HT0 := Lib.hid h0
  clear h0
  generalize takeTo size by_ mark r L = TT at *
  have HU : ∀ (X : List Pn) (f : Int), upd size mark r X f = putP X (bump size mark r f ((findH X f r.key).getD pn0)) := fun _ _ => rfl
  have hbm1 : ∀ (f : Int) (q : Pn), mark ≥ f + size → bump size mark r f q = ⟨r.key, f, f + size, q.mn, q.sm, w64 (q.lt + 1)⟩ := fun f q hh => by unfold bump; rw [if_pos hh]
  have hbm2 : ∀ (f : Int) (q : Pn), ¬ mark ≥ f + size → bump size mark r f q = ⟨r.key, f, f + size, w64 (q.mn + 1), w64 (q.sm + r.num), q.lt⟩ := fun f q hh => by unfold bump; rw [if_neg hh]
  have HB1 := Lib.hid hbm1
  have HB2 := Lib.hid hbm2
  have HU2 := Lib.hid HU
  clear HU hbm1 hbm2
  obtain ⟨key, num, tm⟩ := r
  simp only [rV] at *
  go_enter Tryd.func21, Tryd.ntmps21
  go_wp2_with fail
  go_loopw [10] (fun i wr => ∃ j : Nat, j ≤ N ∧ i = .int .i64 (frm tm by_ j) ∧ MpAt wr M (TT j) ∧ Fr [M] (w.alloc (.cells #[.string key, .int .i64 num, .int .i64 tm] 47)) wr) (fun i _ => (1000001 + intOf i).toNat)
  case atStart => exact ⟨0, by omega, by rw [HZ.out], by rw [HT0.out]; exact h.block (Below.heap_alloc _ _ _ hM), Fr.refl _ _⟩
  case round =>
    obtain ⟨j, hj, rfl, hm, f⟩ := hrel
    obtain ⟨g0, g1⟩ := HFB.out j hj
    have hMs : M < wr.heap.size := hm.lt
    have hsz : w.heap.size < wr.heap.size := by have := f.size; simp at this; omega
    have c0 : wr.cell? ⟨w.heap.size, 0, none⟩ = some (.string key) := by
      rw [f.cell (p := ⟨w.heap.size, 0, none⟩) (by simp) (by simp; omega)]; simp
    have c1 : wr.cell? ⟨w.heap.size, 1, none⟩ = some (.int .i64 num) := by
      rw [f.cell (p := ⟨w.heap.size, 1, none⟩) (by simp) (by simp; omega)]; simp
    have c2 : wr.cell? ⟨w.heap.size, 2, none⟩ = some (.int .i64 tm) := by
      rw [f.cell (p := ⟨w.heap.size, 2, none⟩) (by simp) (by simp; omega)]; simp
    by_cases hlt : j < N
    · obtain ⟨a0, a1⟩ := (HF.out j).2 hlt
      have hT1 := HT.out j
      rw [HU2.out] at hT1
      have hs1 := HFS.out j
      have hl1 : (TT j).length < maxLen := by have := HTL.out j; have := HN.out; unfold maxLen; omega
      generalize frm tm by_ j = fr at *
      generalize hL2 : TT (j + 1) = L2 at *
      have HL2 := Lib.hid hL2
      clear hL2
      generalize TT j = L1 at *
      have hok : OkK fr key := ⟨⟨by omega, by omega⟩, by unfold maxLen; omega⟩
      have hlk := hm.look hok
      have hst : ∀ (q : Pn), q.fr = fr → q.key = key → L2 = putP L1 q → ∀ u, Below wr.heap.size wr u → ∃ u', (Instr.mapUpdate 54 (.map (some M)) (plV fr key) (pV q)).run Tryd.prog u = .ok () u' ∧ MpAt u' M L2 ∧ Fr [M] wr u' := fun q q1 q2 q3 u hu => by
        obtain ⟨u', e1, e2, e3⟩ := (hm.block (hu.block M hm.lt)).store (r := q) (by rw [q1, q2]; exact hok) hl1
        exact ⟨u', by rw [← e1, q1, q2], q3 ▸ e2, (Fr.below hu).trans e3⟩
      have HS := Lib.hid hst
      generalize (findH L1 fr key).getD pn0 = q at *
      have hlk1 := hlk (wr.alloc (.cells #[.string key, .int .i64 fr] 68)) (Below.heap_alloc _ _ _ hMs)
      clear hlk hst hm hok
      obtain ⟨qk, qf, qt, qm, qs, ql⟩ := q
      simp only [plV, pV] at hlk1
      by_cases hla : mark ≥ fr + size
      · rw [HB1.out fr _ hla] at hT1
        obtain ⟨u2, hrun, hm2, f2⟩ := HS.out _ rfl rfl hT1 ((wr.alloc (.cells #[.string key, .int .i64 fr] 68)).alloc (.cells #[.string key, .int .i64 fr, .int .i64 (fr + size), .int .i64 qm, .int .i64 qs, .int .i64 (w64 (ql + 1))] 49)) (((Below.refl _ _).alloc (Nat.le_refl _) _).alloc (by simp) _)
        simp only [plV, pV] at hrun
        have ew := w64_eq (ql + 1)
        have HM2 := Lib.hid hm2
        have HF2 := Lib.hid f2
        have HS1 := Lib.hid hs1
        clear hm2 f2 hT1 hs1 HS
        go_wp2_with fail
        go_roundw
        case rel => exact ⟨j + 1, by omega, by rw [HS1.out], by rw [HL2.out]; exact HM2.out, f.trans HF2.out⟩
        case measure => simp [intOf]; omega
      · rw [HB2.out fr _ (by omega)] at hT1
        have HC := count0_any ((wr.alloc (.cells #[.string key, .int .i64 fr] 68)).alloc (.cells #[.string key, .int .i64 fr, .int .i64 (fr + size), .int .i64 qm, .int .i64 qs, .int .i64 ql] 49)) (wr.heap.size + 1) key fr (fr + size) qm qs ql ⟨key, num, tm⟩ (by
          have e : wr.heap.size + 1 = (wr.alloc (.cells #[.string key, .int .i64 fr] 68)).heap.size := by simp
          rw [e]; exact alloc_new _ _)
        simp only [rV] at HC
        have HS2 := Lib.hid (HS.out _ rfl rfl hT1)
        have HS1 := Lib.hid hs1
        clear hT1 hs1 HS
        go_wp2_with (go_at_call 25; refine HC.mono ?_; rintro e u1 ⟨rfl, hQ, f1⟩; refine Hid.out ?_)
        refine Lib.hid ?_
        have hsz1 := f1.size
        simp at hsz1
        have k0 : u1.cell? ⟨wr.heap.size + 1, 0, none⟩ = some (.string key) := by simp [World.cell?, hQ]
        have k1 : u1.cell? ⟨wr.heap.size + 1, 1, none⟩ = some (.int .i64 fr) := by simp [World.cell?, hQ]
        have k2 : u1.cell? ⟨wr.heap.size + 1, 2, none⟩ = some (.int .i64 (fr + size)) := by simp [World.cell?, hQ]
        have k3 : u1.cell? ⟨wr.heap.size + 1, 3, none⟩ = some (.int .i64 (w64 (qm + 1))) := by simp [World.cell?, hQ]
        have k4 : u1.cell? ⟨wr.heap.size + 1, 4, none⟩ = some (.int .i64 (w64 (qs + num))) := by simp [World.cell?, hQ]
        have k5 : u1.cell? ⟨wr.heap.size + 1, 5, none⟩ = some (.int .i64 ql) := by simp [World.cell?, hQ]
        have p0 : u1.cell? ⟨wr.heap.size, 0, none⟩ = some (.string key) := by
          rw [f1.cell (p := ⟨wr.heap.size, 0, none⟩) (by simp; omega) (by simp)]; simp
        have p1 : u1.cell? ⟨wr.heap.size, 1, none⟩ = some (.int .i64 fr) := by
          rw [f1.cell (p := ⟨wr.heap.size, 1, none⟩) (by simp; omega) (by simp)]; simp
        have hB1 : Below wr.heap.size wr u1 := (((Below.refl _ _).alloc (Nat.le_refl _) _).alloc (by simp) _).trans (f1.toBelow (by simp; omega) (by simp))
        obtain ⟨u2, hrun, hm2, f2⟩ := HS2.out u1 hB1
        simp only [plV, pV] at hrun
        have HM2 := Lib.hid hm2
        have HF2 := Lib.hid f2
        clear hm2 f2 HS2 HC hQ f1 hB1
        go_wp2_with fail
        go_roundw
        case rel => exact ⟨j + 1, by omega, by rw [HS1.out], by rw [HL2.out]; exact HM2.out, f.trans HF2.out⟩
        case measure => simp [intOf]; omega
    · have ej : j = N := by omega
      subst ej
      have hno : ¬ (0 ≤ frm tm by_ j ∧ tm < frm tm by_ j + size) := fun hc => hlt ((HF.out j).1 hc)
      have f' : Fr [M] w wr := (Fr.below ((Below.refl _ _).alloc (Nat.le_refl _) _)).trans f
      have HM2 := Lib.hid hm
      have HF2 := Lib.hid f'
      clear hm f f'
      generalize frm tm by_ j = fr at *
      by_cases h1 : 0 ≤ fr
      · have h2 : ¬ tm < fr + size := fun hc => hno ⟨h1, hc⟩
        clear hno
        go_wp2_with fail
        go_end0
        exact ⟨rfl, HM2.out, HF2.out⟩
      · clear hno
        have h3 : decide (0 ≤ fr) = false := by simp; omega
        go_wp2_with fail
        go_end0
        exact ⟨rfl, HM2.out, HF2.out⟩
end Go.Proofs.YtfpfaekbakilpaaDoor
