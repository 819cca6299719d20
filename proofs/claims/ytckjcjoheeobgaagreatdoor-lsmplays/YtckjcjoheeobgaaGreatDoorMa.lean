/- The document's side: an entry put among others, those that live. -/
import Derived.Test.YtckjcjoheeobgaaGreatDoorLa
import Derived.Laws.Cover1
namespace Go.Proofs.YtckjcjoheeobgaaGreatDoor
open Go.RowKit
set_option linter.unusedVariables false

theorem setE_le (e : En) : ∀ l : List En, (setE l e).length ≤ l.length + 1
  | [] => by simp [setE]
  | x :: l => by
    have := setE_le e l
    unfold setE
    split
    · simp only [List.length_cons]; omega
    · split
      · simp
      · simp
/-- How far an entry has been put. -/
def SetAt (L : List En) (e : En) (k : Nat) (done : Bool) (out : List En) : Prop :=
  (done = false ∧ out = L.take k ∧ setE L e = L.take k ++ setE (L.drop k) e) ∨ (done = true ∧ out ++ L.drop k = setE L e)
theorem SetAt.start (L : List En) (e : En) : SetAt L e 0 false [] := .inl ⟨rfl, rfl, rfl⟩
theorem SetAt.on {L : List En} {e : En} {k : Nat} {out : List En} (hk : k < L.length) (h : SetAt L e k true out) : SetAt L e (k + 1) true (out ++ [L[k]]) := by
  rcases h with ⟨h1, -⟩ | ⟨-, h2⟩
  · cases h1
  · exact .inr ⟨rfl, by rw [← h2, List.drop_eq_getElem_cons hk]; simp⟩
theorem SetAt.low {L : List En} {e : En} {k : Nat} {out : List En} (hk : k < L.length) (h : SetAt L e k false out) (hl : kl L[k] < kl e) : SetAt L e (k + 1) false (out ++ [L[k]]) := by
  rcases h with ⟨-, h1, h2⟩ | ⟨h1, -⟩
  · refine .inl ⟨rfl, by rw [h1, List.take_succ_eq_append_getElem hk], ?_⟩
    rw [h2, List.drop_eq_getElem_cons hk, setE, if_pos hl, List.take_succ_eq_append_getElem hk]
    rw [List.append_assoc]; rfl
  · cases h1
theorem SetAt.here {L : List En} {e : En} {k : Nat} {out : List En} (hk : k < L.length) (h : SetAt L e k false out) (hl : ¬ kl L[k] < kl e) (hg : kl e < kl L[k]) : SetAt L e (k + 1) true (out ++ [e] ++ [L[k]]) := by
  rcases h with ⟨-, h1, h2⟩ | ⟨h1, -⟩
  · refine .inr ⟨rfl, ?_⟩
    rw [h2, h1]
    conv => rhs; rw [List.drop_eq_getElem_cons hk, setE, if_neg hl, if_pos hg]
    simp
  · cases h1
theorem SetAt.same {L : List En} {e : En} {k : Nat} {out : List En} (hk : k < L.length) (h : SetAt L e k false out) (hl : ¬ kl L[k] < kl e) (hg : ¬ kl e < kl L[k]) : SetAt L e (k + 1) true (out ++ [e]) := by
  rcases h with ⟨-, h1, h2⟩ | ⟨h1, -⟩
  · refine .inr ⟨rfl, ?_⟩
    rw [h2, h1]
    conv => rhs; rw [List.drop_eq_getElem_cons hk, setE, if_neg hl, if_neg hg]
    simp
  · cases h1
theorem SetAt.endT {L : List En} {e : En} {k : Nat} {out : List En} (hk : L.length ≤ k) (h : SetAt L e k true out) : out = setE L e := by
  rcases h with ⟨h1, -⟩ | ⟨-, h2⟩
  · cases h1
  · rw [← h2, List.drop_of_length_le hk]; simp
theorem SetAt.endF {L : List En} {e : En} {k : Nat} {out : List En} (hk : L.length ≤ k) (h : SetAt L e k false out) : out ++ [e] = setE L e := by
  rcases h with ⟨-, h1, h2⟩ | ⟨h1, -⟩
  · rw [h2, h1, List.drop_of_length_le hk]; rfl
  · cases h1
theorem SetAt.len {L : List En} {e : En} {k : Nat} {d : Bool} {out : List En} (h : SetAt L e k d out) : out.length ≤ L.length + 1 := by
  rcases h with ⟨-, h1, -⟩ | ⟨-, h2⟩
  · rw [h1]; simp; omega
  · have h3 := congrArg List.length h2
    rw [List.length_append] at h3
    have h4 : (setE L e).length ≤ L.length + 1 := setE_le e L
    omega

set_option maxRecDepth 100000 in
set_option maxHeartbeats 1000000 in
theorem sset_any (w : World) (la : Option Addr) (c : Nat) (L : List En) (e : En) (h : CsAt w la (ecells L)) (hl4 : L.length ≤ 100000) :
    Calls Tryz.prog 27 #[.slice la L.length c, enV e, .bool true] w fun r w' => ∃ v, r = .returned v ∧ w'.ownsRow w.heap.size 40 3 v (setE L e).length (ecells (setE L e)) ∧ Below w.heap.size w w' := by
  obtain ⟨i0, hi, hz0, hz1, hz2⟩ := info_parts infoEn
  obtain ⟨B, hB⟩ : ∃ B, B = w.heap.size := ⟨_, rfl⟩
  have HK := Lib.hid (fun (u : World) (hb : Below B w u) => h.keep (by rw [← hB]; exact hb))
  have HBL := Lib.hid (fun (b o : Nat) (hla : la = some ⟨b, o, none⟩) (k : Nat) (hk : k < L.length) => show b < w.heap.size from by
    obtain ⟨b', o', h1, h2, -⟩ := ens_at h k hk
    rw [hla] at h1
    simp only [Option.some.injEq, Addr.mk.injEq, and_true] at h1
    rw [h1.1]; exact cell_lt h2)
  have hBw : B ≤ w.heap.size := by omega
  have hwB : w.heap.size ≤ B := by omega
  rw [← hB]
  obtain ⟨ek, ev, ed⟩ := e
  have C0 := new_block w (.cells #[.string ek, .string ev, .bool ed] 40)
  have B0 : Below B w (w.alloc (.cells #[.string ek, .string ev, .bool ed] 40)) := (Below.refl _ _).alloc hBw _
  have s0 : w.heap.size + 1 ≤ (w.alloc (.cells #[.string ek, .string ev, .bool ed] 40)).heap.size := by simp
  simp only [enV]
  clear h hB
  go_enter Tryz.func27, Tryz.ntmps27
  go_wp2_with fail
  go_loopw [7, 8, 9] (fun v d i wr => ∃ (k : Nat) (dn : Bool) (out : List En), k ≤ L.length ∧ i = .int .i64 k ∧ d = .bool dn ∧ SetAt L ⟨ek, ev, ed⟩ k dn out ∧ wr.ownsRow (w.heap.size + 1) 40 3 v out.length (ecells out) ∧ wr.heap[w.heap.size]? = some (.cells #[.string ek, .string ev, .bool ed] 40) ∧ Below B w wr ∧ w.heap.size + 1 ≤ wr.heap.size) (fun _ _ i _ => L.length - (intOf i).toNat)
  case atStart => exact ⟨0, false, [], by omega, rfl, rfl, SetAt.start L _, World.ownsRow_nil _ _ _ _, C0, B0, s0⟩
  case round =>
    obtain ⟨k, dn, out, hk, rfl, rfl, hP, own_wr, hC_wr, hb_wr, hs_wr⟩ := hrel
    clear C0 B0 s0
    have hol := hP.len
    have g0_wr : wr.cell? ⟨w.heap.size, 0, none⟩ = some (.string ek) := by simp [World.cell?, hC_wr]
    have g1_wr : wr.cell? ⟨w.heap.size, 1, none⟩ = some (.string ev) := by simp [World.cell?, hC_wr]
    have g2_wr : wr.cell? ⟨w.heap.size, 2, none⟩ = some (.bool ed) := by simp [World.cell?, hC_wr]
    obtain ⟨A0, cap0, rfl⟩ := row_slice own_wr
    by_cases hlt : k < L.length
    · obtain ⟨b, o, rfl, c0_wr, c1_wr, c2_wr⟩ := ens_at (HK.out wr hb_wr) k hlt
      have hlt' : (k : Int) < L.length := by omega
      cases dn with
      | true =>
        have HP := Lib.hid (hP.on hlt)
        clear hP
        generalize L[k] = r at *
        obtain ⟨key, val, dead⟩ := r
        simp only at c0_wr c1_wr c2_wr
        go_wp2_with fail
        go_quiet (fail)
        have own_wq : (wr.drewN nq).ownsRow (w.heap.size + 1) 40 3 _ out.length (ecells out) := own_wr
        have c0_wq : (wr.drewN nq).cell? ⟨b, o + k * 3, none⟩ = some (.string key) := c0_wr
        have c1_wq : (wr.drewN nq).cell? ⟨b, o + k * 3 + 1, none⟩ = some (.string val) := c1_wr
        have c2_wq : (wr.drewN nq).cell? ⟨b, o + k * 3 + 2, none⟩ = some (.bool dead) := c2_wr
        have hb_wq : Below B w (wr.drewN nq) := Below.drewN hb_wr nq
        have hC_wq : (wr.drewN nq).heap[w.heap.size]? = some (.cells #[.string ek, .string ev, .bool ed] 40) := hC_wr
        have hs_wq : w.heap.size + 1 ≤ (wr.drewN nq).heap.size := hs_wr
        have g0_wq : (wr.drewN nq).cell? ⟨w.heap.size, 0, none⟩ = some (.string ek) := g0_wr
        have g1_wq : (wr.drewN nq).cell? ⟨w.heap.size, 1, none⟩ = some (.string ev) := g1_wr
        have g2_wq : (wr.drewN nq).cell? ⟨w.heap.size, 2, none⟩ = some (.bool ed) := g2_wr
        clear own_wr c0_wr c1_wr c2_wr hb_wr hC_wr hs_wr g0_wr g1_wr g2_wr
        generalize wr.drewN nq = wq at *
        go_wp2_with (at_builtin; refine wpList_append_own _ rfl _ _ 30 rfl (w.heap.size + 1) 40 i0 (.agg #[.string ⟨#[]⟩, .string ⟨#[]⟩, .bool false]) 3 40 Tryz.underlying30 hi hz0 hz1 hz2 rfl (by decide) _ _ _ rfl (own_wq.alloc _) ⟨wq.heap.size, 0, none⟩ 1 1 [.string key, .string val, .bool dead] rfl rfl (cell3_new _ _ _ _ _) (by intro u hu; simp at hu; rcases hu with rfl | rfl | rfl <;> rfl) (by unfold maxLen; (try simp only [List.length_append, List.length_cons, List.length_nil]); omega) (by (try simp only [List.length_append, List.length_cons, List.length_nil]); omega) (by simp; omega) ?_)
        intro v_wz wz ow_wz gr_wz _
        have own_wz : wz.ownsRow (w.heap.size + 1) 40 3 v_wz (out ++ [(⟨key, val, dead⟩ : En)]).length (ecells (out ++ [(⟨key, val, dead⟩ : En)])) := by rw [ecells_append, List.length_append]; exact ow_wz
        have hn_wz : ∀ j, j < wq.heap.size → (∀ i, some i = Value.ownBlock _ → j ≠ i) → wz.heap[j]? = wq.heap[j]? := fun j hj hne => by
          rw [gr_wz.block j (by simp; omega) (fun e => hne j e rfl), Below.heap_alloc _ _ _ hj]
        have hb_wz : Below B w wz := (hb_wq.alloc (by omega) _).grown gr_wz (by simp; omega) (fun j hj => by have := (own_wq.lt j hj).1; omega)
        have hC_wz : wz.heap[w.heap.size]? = some (.cells #[.string ek, .string ev, .bool ed] 40) := by rw [hn_wz _ (by omega) (fun i hi' e => by have := (own_wq.lt i hi'.symm).1; omega)]; exact hC_wq
        have hs_wz : w.heap.size + 1 ≤ wz.heap.size := by have := gr_wz.size; simp at this; omega
        clear ow_wz gr_wz hn_wz
        go_wp2_with fail
        go_roundw
        case rel => exact ⟨k + 1, true, _, by omega, by go_num, rfl, HP.out, own_wz, hC_wz, hb_wz, hs_wz⟩
        case measure => simp [intOf]; omega
      | false =>
        by_cases hl : kl L[k] < kl ⟨ek, ev, ed⟩
        · have HP := Lib.hid (hP.low hlt hl)
          have hlB := less_yes (a := L[k].key) (b := ek) hl
          clear hP hl
          generalize L[k] = r at *
          obtain ⟨key, val, dead⟩ := r
          simp only at c0_wr c1_wr c2_wr hlB
          go_wp2_with fail
          go_quiet (fail)
          have own_wq : (wr.drewN nq).ownsRow (w.heap.size + 1) 40 3 _ out.length (ecells out) := own_wr
          have c0_wq : (wr.drewN nq).cell? ⟨b, o + k * 3, none⟩ = some (.string key) := c0_wr
          have c1_wq : (wr.drewN nq).cell? ⟨b, o + k * 3 + 1, none⟩ = some (.string val) := c1_wr
          have c2_wq : (wr.drewN nq).cell? ⟨b, o + k * 3 + 2, none⟩ = some (.bool dead) := c2_wr
          have hb_wq : Below B w (wr.drewN nq) := Below.drewN hb_wr nq
          have hC_wq : (wr.drewN nq).heap[w.heap.size]? = some (.cells #[.string ek, .string ev, .bool ed] 40) := hC_wr
          have hs_wq : w.heap.size + 1 ≤ (wr.drewN nq).heap.size := hs_wr
          have g0_wq : (wr.drewN nq).cell? ⟨w.heap.size, 0, none⟩ = some (.string ek) := g0_wr
          have g1_wq : (wr.drewN nq).cell? ⟨w.heap.size, 1, none⟩ = some (.string ev) := g1_wr
          have g2_wq : (wr.drewN nq).cell? ⟨w.heap.size, 2, none⟩ = some (.bool ed) := g2_wr
          clear own_wr c0_wr c1_wr c2_wr hb_wr hC_wr hs_wr g0_wr g1_wr g2_wr
          generalize wr.drewN nq = wq at *
          go_wp2_with (at_builtin; refine wpList_append_own _ rfl _ _ 30 rfl (w.heap.size + 1) 40 i0 (.agg #[.string ⟨#[]⟩, .string ⟨#[]⟩, .bool false]) 3 40 Tryz.underlying30 hi hz0 hz1 hz2 rfl (by decide) _ _ _ rfl (own_wq.alloc _) ⟨wq.heap.size, 0, none⟩ 1 1 [.string key, .string val, .bool dead] rfl rfl (cell3_new _ _ _ _ _) (by intro u hu; simp at hu; rcases hu with rfl | rfl | rfl <;> rfl) (by unfold maxLen; (try simp only [List.length_append, List.length_cons, List.length_nil]); omega) (by (try simp only [List.length_append, List.length_cons, List.length_nil]); omega) (by simp; omega) ?_)
          intro v_wz wz ow_wz gr_wz _
          have own_wz : wz.ownsRow (w.heap.size + 1) 40 3 v_wz (out ++ [(⟨key, val, dead⟩ : En)]).length (ecells (out ++ [(⟨key, val, dead⟩ : En)])) := by rw [ecells_append, List.length_append]; exact ow_wz
          have hn_wz : ∀ j, j < wq.heap.size → (∀ i, some i = Value.ownBlock _ → j ≠ i) → wz.heap[j]? = wq.heap[j]? := fun j hj hne => by
            rw [gr_wz.block j (by simp; omega) (fun e => hne j e rfl), Below.heap_alloc _ _ _ hj]
          have hb_wz : Below B w wz := (hb_wq.alloc (by omega) _).grown gr_wz (by simp; omega) (fun j hj => by have := (own_wq.lt j hj).1; omega)
          have hC_wz : wz.heap[w.heap.size]? = some (.cells #[.string ek, .string ev, .bool ed] 40) := by rw [hn_wz _ (by omega) (fun i hi' e => by have := (own_wq.lt i hi'.symm).1; omega)]; exact hC_wq
          have hs_wz : w.heap.size + 1 ≤ wz.heap.size := by have := gr_wz.size; simp at this; omega
          clear ow_wz gr_wz hn_wz
          go_wp2_with fail
          go_roundw
          case rel => exact ⟨k + 1, false, _, by omega, by go_num, rfl, HP.out, own_wz, hC_wz, hb_wz, hs_wz⟩
          case measure => simp [intOf]; omega
        · by_cases hg : kl ⟨ek, ev, ed⟩ < kl L[k]
          · have HP := Lib.hid (hP.here hlt hl hg)
            have hlB := less_no (a := L[k].key) (b := ek) hl
            have hne : (L[k].key.toList == ek.toList) = false := by
              rw [Lib.toList_data, Lib.toList_data]
              simp only [beq_eq_false_iff_ne, ne_eq]
              intro e2
              have h3 : kl (⟨ek, ev, ed⟩ : En) < kl L[k] := hg
              unfold kl at h3
              simp only at h3
              rw [e2] at h3
              exact kl_irrefl _ h3
            clear hP hl hg
            generalize L[k] = r at *
            obtain ⟨key, val, dead⟩ := r
            simp only at c0_wr c1_wr c2_wr hlB hne
            go_wp2_with fail
            go_quiet (fail)
            have own_wq : (wr.drewN nq).ownsRow (w.heap.size + 1) 40 3 _ out.length (ecells out) := own_wr
            have c0_wq : (wr.drewN nq).cell? ⟨b, o + k * 3, none⟩ = some (.string key) := c0_wr
            have c1_wq : (wr.drewN nq).cell? ⟨b, o + k * 3 + 1, none⟩ = some (.string val) := c1_wr
            have c2_wq : (wr.drewN nq).cell? ⟨b, o + k * 3 + 2, none⟩ = some (.bool dead) := c2_wr
            have hb_wq : Below B w (wr.drewN nq) := Below.drewN hb_wr nq
            have hC_wq : (wr.drewN nq).heap[w.heap.size]? = some (.cells #[.string ek, .string ev, .bool ed] 40) := hC_wr
            have hs_wq : w.heap.size + 1 ≤ (wr.drewN nq).heap.size := hs_wr
            have g0_wq : (wr.drewN nq).cell? ⟨w.heap.size, 0, none⟩ = some (.string ek) := g0_wr
            have g1_wq : (wr.drewN nq).cell? ⟨w.heap.size, 1, none⟩ = some (.string ev) := g1_wr
            have g2_wq : (wr.drewN nq).cell? ⟨w.heap.size, 2, none⟩ = some (.bool ed) := g2_wr
            clear own_wr c0_wr c1_wr c2_wr hb_wr hC_wr hs_wr g0_wr g1_wr g2_wr
            generalize wr.drewN nq = wq at *
            go_wp2_with fail
            go_quiet (fail)
            have own_wp : (wq.drewN nq).ownsRow (w.heap.size + 1) 40 3 _ out.length (ecells out) := own_wq
            have c0_wp : (wq.drewN nq).cell? ⟨b, o + k * 3, none⟩ = some (.string key) := c0_wq
            have c1_wp : (wq.drewN nq).cell? ⟨b, o + k * 3 + 1, none⟩ = some (.string val) := c1_wq
            have c2_wp : (wq.drewN nq).cell? ⟨b, o + k * 3 + 2, none⟩ = some (.bool dead) := c2_wq
            have hb_wp : Below B w (wq.drewN nq) := Below.drewN hb_wq nq
            have hC_wp : (wq.drewN nq).heap[w.heap.size]? = some (.cells #[.string ek, .string ev, .bool ed] 40) := hC_wq
            have hs_wp : w.heap.size + 1 ≤ (wq.drewN nq).heap.size := hs_wq
            have g0_wp : (wq.drewN nq).cell? ⟨w.heap.size, 0, none⟩ = some (.string ek) := g0_wq
            have g1_wp : (wq.drewN nq).cell? ⟨w.heap.size, 1, none⟩ = some (.string ev) := g1_wq
            have g2_wp : (wq.drewN nq).cell? ⟨w.heap.size, 2, none⟩ = some (.bool ed) := g2_wq
            clear own_wq c0_wq c1_wq c2_wq hb_wq hC_wq hs_wq g0_wq g1_wq g2_wq
            generalize wq.drewN nq = wp at *
            go_wp2_with (at_builtin; refine wpList_append_own _ rfl _ _ 30 rfl (w.heap.size + 1) 40 i0 (.agg #[.string ⟨#[]⟩, .string ⟨#[]⟩, .bool false]) 3 40 Tryz.underlying30 hi hz0 hz1 hz2 rfl (by decide) _ _ _ rfl (own_wp.alloc _) ⟨wp.heap.size, 0, none⟩ 1 1 [.string ek, .string ev, .bool ed] rfl rfl (cell3_new _ _ _ _ _) (by intro u hu; simp at hu; rcases hu with rfl | rfl | rfl <;> rfl) (by unfold maxLen; (try simp only [List.length_append, List.length_cons, List.length_nil]); omega) (by (try simp only [List.length_append, List.length_cons, List.length_nil]); omega) (by simp; omega) ?_)
            intro v_wy wy ow_wy gr_wy _
            have own_wy : wy.ownsRow (w.heap.size + 1) 40 3 v_wy (out ++ [(⟨ek, ev, ed⟩ : En)]).length (ecells (out ++ [(⟨ek, ev, ed⟩ : En)])) := by rw [ecells_append, List.length_append]; exact ow_wy
            have hn_wy : ∀ j, j < wp.heap.size → (∀ i, some i = Value.ownBlock _ → j ≠ i) → wy.heap[j]? = wp.heap[j]? := fun j hj hne => by
              rw [gr_wy.block j (by simp; omega) (fun e => hne j e rfl), Below.heap_alloc _ _ _ hj]
            have hb_wy : Below B w wy := (hb_wp.alloc (by omega) _).grown gr_wy (by simp; omega) (fun j hj => by have := (own_wp.lt j hj).1; omega)
            have hC_wy : wy.heap[w.heap.size]? = some (.cells #[.string ek, .string ev, .bool ed] 40) := by rw [hn_wy _ (by omega) (fun i hi' e => by have := (own_wp.lt i hi'.symm).1; omega)]; exact hC_wp
            have hs_wy : w.heap.size + 1 ≤ wy.heap.size := by have := gr_wy.size; simp at this; omega
            have hbb : b < wp.heap.size := cell_lt c0_wp
            have hbw : b < w.heap.size := HBL.out b o rfl k hlt
            have hby : wy.heap[b]? = wp.heap[b]? := hn_wy b hbb (fun i hi' e => by have := (own_wp.lt i hi'.symm).1; omega)
            have c0_wy : wy.cell? ⟨b, o + k * 3, none⟩ = some (.string key) := (World.cell?_of_block (w := wp) hby).trans c0_wp
            have c1_wy : wy.cell? ⟨b, o + k * 3 + 1, none⟩ = some (.string val) := (World.cell?_of_block (w := wp) hby).trans c1_wp
            have c2_wy : wy.cell? ⟨b, o + k * 3 + 2, none⟩ = some (.bool dead) := (World.cell?_of_block (w := wp) hby).trans c2_wp
            clear ow_wy gr_wy hn_wy hby
            obtain ⟨out2, ho2⟩ : ∃ o2 : List En, o2 = out ++ [(⟨ek, ev, ed⟩ : En)] := ⟨_, rfl⟩
            rw [← ho2] at own_wy
            have hol2 : out2.length ≤ out.length + 1 := by rw [ho2]; simp
            have HO2 := Lib.hid ho2
            clear ho2
            obtain ⟨A1, cap1, rfl⟩ := row_slice own_wy
            go_wp2_with (at_builtin; refine wpList_append_own _ rfl _ _ 30 rfl (w.heap.size + 1) 40 i0 (.agg #[.string ⟨#[]⟩, .string ⟨#[]⟩, .bool false]) 3 40 Tryz.underlying30 hi hz0 hz1 hz2 rfl (by decide) _ _ _ rfl (own_wy.alloc _) ⟨wy.heap.size, 0, none⟩ 1 1 [.string key, .string val, .bool dead] rfl rfl (cell3_new _ _ _ _ _) (by intro u hu; simp at hu; rcases hu with rfl | rfl | rfl <;> rfl) (by unfold maxLen; (try simp only [List.length_append, List.length_cons, List.length_nil]); omega) (by (try simp only [List.length_append, List.length_cons, List.length_nil]); omega) (by simp; omega) ?_)
            intro v_wz wz ow_wz gr_wz _
            have own_wz : wz.ownsRow (w.heap.size + 1) 40 3 v_wz (out2 ++ [(⟨key, val, dead⟩ : En)]).length (ecells (out2 ++ [(⟨key, val, dead⟩ : En)])) := by rw [ecells_append, List.length_append]; exact ow_wz
            have hn_wz : ∀ j, j < wy.heap.size → (∀ i, some i = Value.ownBlock _ → j ≠ i) → wz.heap[j]? = wy.heap[j]? := fun j hj hne => by
              rw [gr_wz.block j (by simp; omega) (fun e => hne j e rfl), Below.heap_alloc _ _ _ hj]
            have hb_wz : Below B w wz := (hb_wy.alloc (by omega) _).grown gr_wz (by simp; omega) (fun j hj => by have := (own_wy.lt j hj).1; omega)
            have hC_wz : wz.heap[w.heap.size]? = some (.cells #[.string ek, .string ev, .bool ed] 40) := by rw [hn_wz _ (by omega) (fun i hi' e => by have := (own_wy.lt i hi'.symm).1; omega)]; exact hC_wy
            have hs_wz : w.heap.size + 1 ≤ wz.heap.size := by have := gr_wz.size; simp at this; omega
            clear ow_wz gr_wz hn_wz
            go_wp2_with fail
            go_roundw
            case rel => exact ⟨k + 1, true, _, by omega, by go_num, rfl, by rw [HO2.out]; exact HP.out, own_wz, hC_wz, hb_wz, hs_wz⟩
            case measure => simp [intOf]; omega
          · have HP := Lib.hid (hP.same hlt hl hg)
            have hlB := less_no (a := L[k].key) (b := ek) hl
            have hne : (L[k].key.toList == ek.toList) = true := by
              rw [Lib.toList_data, Lib.toList_data]
              simp only [beq_iff_eq]
              rcases kl_tri (kl L[k]) (kl ⟨ek, ev, ed⟩) with h4 | h4 | h4
              · exact absurd h4 hl
              · exact h4
              · exact absurd h4 hg
            clear hP hl hg
            generalize L[k] = r at *
            obtain ⟨key, val, dead⟩ := r
            simp only at c0_wr c1_wr c2_wr hlB hne
            go_wp2_with fail
            go_quiet (fail)
            have own_wq : (wr.drewN nq).ownsRow (w.heap.size + 1) 40 3 _ out.length (ecells out) := own_wr
            have c0_wq : (wr.drewN nq).cell? ⟨b, o + k * 3, none⟩ = some (.string key) := c0_wr
            have c1_wq : (wr.drewN nq).cell? ⟨b, o + k * 3 + 1, none⟩ = some (.string val) := c1_wr
            have c2_wq : (wr.drewN nq).cell? ⟨b, o + k * 3 + 2, none⟩ = some (.bool dead) := c2_wr
            have hb_wq : Below B w (wr.drewN nq) := Below.drewN hb_wr nq
            have hC_wq : (wr.drewN nq).heap[w.heap.size]? = some (.cells #[.string ek, .string ev, .bool ed] 40) := hC_wr
            have hs_wq : w.heap.size + 1 ≤ (wr.drewN nq).heap.size := hs_wr
            have g0_wq : (wr.drewN nq).cell? ⟨w.heap.size, 0, none⟩ = some (.string ek) := g0_wr
            have g1_wq : (wr.drewN nq).cell? ⟨w.heap.size, 1, none⟩ = some (.string ev) := g1_wr
            have g2_wq : (wr.drewN nq).cell? ⟨w.heap.size, 2, none⟩ = some (.bool ed) := g2_wr
            clear own_wr c0_wr c1_wr c2_wr hb_wr hC_wr hs_wr g0_wr g1_wr g2_wr
            generalize wr.drewN nq = wq at *
            go_wp2_with fail
            go_quiet (fail)
            have own_wp : (wq.drewN nq).ownsRow (w.heap.size + 1) 40 3 _ out.length (ecells out) := own_wq
            have c0_wp : (wq.drewN nq).cell? ⟨b, o + k * 3, none⟩ = some (.string key) := c0_wq
            have c1_wp : (wq.drewN nq).cell? ⟨b, o + k * 3 + 1, none⟩ = some (.string val) := c1_wq
            have c2_wp : (wq.drewN nq).cell? ⟨b, o + k * 3 + 2, none⟩ = some (.bool dead) := c2_wq
            have hb_wp : Below B w (wq.drewN nq) := Below.drewN hb_wq nq
            have hC_wp : (wq.drewN nq).heap[w.heap.size]? = some (.cells #[.string ek, .string ev, .bool ed] 40) := hC_wq
            have hs_wp : w.heap.size + 1 ≤ (wq.drewN nq).heap.size := hs_wq
            have g0_wp : (wq.drewN nq).cell? ⟨w.heap.size, 0, none⟩ = some (.string ek) := g0_wq
            have g1_wp : (wq.drewN nq).cell? ⟨w.heap.size, 1, none⟩ = some (.string ev) := g1_wq
            have g2_wp : (wq.drewN nq).cell? ⟨w.heap.size, 2, none⟩ = some (.bool ed) := g2_wq
            clear own_wq c0_wq c1_wq c2_wq hb_wq hC_wq hs_wq g0_wq g1_wq g2_wq
            generalize wq.drewN nq = wp at *
            go_wp2_with (at_builtin; refine wpList_append_own _ rfl _ _ 30 rfl (w.heap.size + 1) 40 i0 (.agg #[.string ⟨#[]⟩, .string ⟨#[]⟩, .bool false]) 3 40 Tryz.underlying30 hi hz0 hz1 hz2 rfl (by decide) _ _ _ rfl (own_wp.alloc _) ⟨wp.heap.size, 0, none⟩ 1 1 [.string ek, .string ev, .bool ed] rfl rfl (cell3_new _ _ _ _ _) (by intro u hu; simp at hu; rcases hu with rfl | rfl | rfl <;> rfl) (by unfold maxLen; (try simp only [List.length_append, List.length_cons, List.length_nil]); omega) (by (try simp only [List.length_append, List.length_cons, List.length_nil]); omega) (by simp; omega) ?_)
            intro v_wz wz ow_wz gr_wz _
            have own_wz : wz.ownsRow (w.heap.size + 1) 40 3 v_wz (out ++ [(⟨ek, ev, ed⟩ : En)]).length (ecells (out ++ [(⟨ek, ev, ed⟩ : En)])) := by rw [ecells_append, List.length_append]; exact ow_wz
            have hn_wz : ∀ j, j < wp.heap.size → (∀ i, some i = Value.ownBlock _ → j ≠ i) → wz.heap[j]? = wp.heap[j]? := fun j hj hne => by
              rw [gr_wz.block j (by simp; omega) (fun e => hne j e rfl), Below.heap_alloc _ _ _ hj]
            have hb_wz : Below B w wz := (hb_wp.alloc (by omega) _).grown gr_wz (by simp; omega) (fun j hj => by have := (own_wp.lt j hj).1; omega)
            have hC_wz : wz.heap[w.heap.size]? = some (.cells #[.string ek, .string ev, .bool ed] 40) := by rw [hn_wz _ (by omega) (fun i hi' e => by have := (own_wp.lt i hi'.symm).1; omega)]; exact hC_wp
            have hs_wz : w.heap.size + 1 ≤ wz.heap.size := by have := gr_wz.size; simp at this; omega
            clear ow_wz gr_wz hn_wz
            go_wp2_with fail
            go_roundw
            case rel => exact ⟨k + 1, true, _, by omega, by go_num, rfl, HP.out, own_wz, hC_wz, hb_wz, hs_wz⟩
            case measure => simp [intOf]; omega
    · have hlt' : ¬ (k : Int) < L.length := by omega
      cases dn with
      | true =>
        have HY := Lib.hid (hP.endT (by omega))
        clear hP
        go_wp2_with fail
        go_ret
        exact ⟨_, rfl, by rw [← HY.out]; exact own_wr.mono (by omega), hb_wr⟩
      | false =>
        have HE := Lib.hid (hP.endF (by omega))
        clear hP
        go_wp2_with (at_builtin; refine wpList_append_own _ rfl _ _ 30 rfl (w.heap.size + 1) 40 i0 (.agg #[.string ⟨#[]⟩, .string ⟨#[]⟩, .bool false]) 3 40 Tryz.underlying30 hi hz0 hz1 hz2 rfl (by decide) _ _ _ rfl (own_wr.alloc _) ⟨wr.heap.size, 0, none⟩ 1 1 [.string ek, .string ev, .bool ed] rfl rfl (cell3_new _ _ _ _ _) (by intro u hu; simp at hu; rcases hu with rfl | rfl | rfl <;> rfl) (by unfold maxLen; (try simp only [List.length_append, List.length_cons, List.length_nil]); omega) (by (try simp only [List.length_append, List.length_cons, List.length_nil]); omega) (by simp; omega) ?_)
        intro v_wz wz ow_wz gr_wz _
        have own_wz : wz.ownsRow (w.heap.size + 1) 40 3 v_wz (out ++ [(⟨ek, ev, ed⟩ : En)]).length (ecells (out ++ [(⟨ek, ev, ed⟩ : En)])) := by rw [ecells_append, List.length_append]; exact ow_wz
        have hn_wz : ∀ j, j < wr.heap.size → (∀ i, some i = Value.ownBlock _ → j ≠ i) → wz.heap[j]? = wr.heap[j]? := fun j hj hne => by
          rw [gr_wz.block j (by simp; omega) (fun e => hne j e rfl), Below.heap_alloc _ _ _ hj]
        have hb_wz : Below B w wz := (hb_wr.alloc (by omega) _).grown gr_wz (by simp; omega) (fun j hj => by have := (own_wr.lt j hj).1; omega)
        have hC_wz : wz.heap[w.heap.size]? = some (.cells #[.string ek, .string ev, .bool ed] 40) := by rw [hn_wz _ (by omega) (fun i hi' e => by have := (own_wr.lt i hi'.symm).1; omega)]; exact hC_wr
        have hs_wz : w.heap.size + 1 ≤ wz.heap.size := by have := gr_wz.size; simp at this; omega
        rw [HE.out] at own_wz
        clear ow_wz gr_wz hn_wz
        go_wp2_with fail
        go_ret
        exact ⟨_, rfl, own_wz.mono (by omega), hb_wz⟩
set_option maxRecDepth 100000 in
set_option maxHeartbeats 2000000 in
theorem slive_any (w : World) (la : Option Addr) (c : Nat) (xs : List En) (h : CsAt w la (ecells xs)) (hx4 : xs.length ≤ 100000) :
    Calls Tryz.prog 15 #[.slice la xs.length c] w fun e w' => ∃ v, e = .returned v ∧ w'.ownsRow w.heap.size 40 3 v (xs.filter (fun e : En => !e.dead)).length (ecells (xs.filter (fun e : En => !e.dead))) ∧ Below w.heap.size w w' := by
  obtain ⟨i0, hi, hz0, hz1, hz2⟩ := info_parts infoEn
  obtain ⟨B, hB⟩ : ∃ B, B = w.heap.size := ⟨_, rfl⟩
  have hkeep : ∀ w', Below B w w' → CsAt w' la (ecells xs) := fun w' hb => h.keep (by rw [← hB]; exact hb)
  have hBw : B ≤ w.heap.size := by omega
  rw [← hB]
  clear h hB
  go_enter Tryz.func15, Tryz.ntmps15
  go_wp2_with fail
  go_loopw [3, 4] (fun v i wr => ∃ k : Nat, k ≤ xs.length ∧ i = .int .i64 k ∧ wr.ownsRow B 40 3 v ((xs.take k).filter (fun e : En => !e.dead)).length (ecells ((xs.take k).filter (fun e : En => !e.dead))) ∧ Below B w wr) (fun _ i _ => xs.length - (intOf i).toNat)
  case atStart => exact ⟨0, by omega, rfl, World.ownsRow_nil _ _ _ _, Below.refl _ _⟩
  case round =>
    obtain ⟨k, hk, rfl, hown, hb⟩ := hrel
    have hbz := hb.size
    by_cases hlt : k < xs.length
    · obtain ⟨b, o, rfl, c0, c1, c2⟩ := ens_at (hkeep _ hb) k hlt
      have hsn := filt_snoc (fun e : En => !e.dead) xs k hlt
      have hfl := filt_le (fun e : En => !e.dead) xs k
      generalize (xs.take k).filter (fun e : En => !e.dead) = ys at *
      generalize xs[k] = r at *
      obtain ⟨key, val, dead⟩ := r
      simp only at c0 c1 c2
      have hBr : B ≤ wr.heap.size := by omega
      cases dead with
      | true =>
        simp only [Bool.not_true, Bool.false_eq_true, if_false, List.append_nil] at hsn
        have HSN := Lib.hid hsn
        clear hsn
        go_wp2_with fail
        go_roundw
        case rel => exact ⟨k + 1, by omega, by go_num, by rw [HSN.out]; exact hown, hb⟩
        case measure => simp [intOf]; omega
      | false =>
        simp only [Bool.not_false, if_true] at hsn
        have HSN := Lib.hid hsn
        clear hsn
        go_wp2_with (at_builtin; refine wpList_append_own _ rfl _ _ 30 rfl B 40 i0 (.agg #[.string ⟨#[]⟩, .string ⟨#[]⟩, .bool false]) 3 40 Tryz.underlying30 hi hz0 hz1 hz2 rfl (by decide) _ _ _ rfl (hown.alloc _) ⟨_, 0, none⟩ 1 1 [.string key, .string val, .bool false] rfl rfl (cell3_new _ _ _ _ _) (by intro u hu; simp at hu; rcases hu with rfl | rfl | rfl <;> rfl) (by unfold maxLen; omega) (by omega) (by simp; omega) ?_)
        intro v' w3 hown' hgrow _
        have own3 : w3.ownsRow B 40 3 v' (ys ++ [(⟨key, val, false⟩ : En)]).length (ecells (ys ++ [(⟨key, val, false⟩ : En)])) := by rw [ecells_append, List.length_append]; exact hown'
        have b3 : Below B w w3 := (hb.alloc hBr _).grown hgrow (by simp; omega) (fun j hj => by have := (hown.lt j hj).1; omega)
        clear hown' hgrow
        go_wp2_with fail
        go_roundw
        case rel => exact ⟨k + 1, by omega, by go_num, by rw [HSN.out]; exact own3, b3⟩
        case measure => simp [intOf]; omega
    · have e : xs.take k = xs := List.take_of_length_le (by omega)
      rw [e] at hown
      go_wp2_with fail
      go_ret
      exact ⟨_, rfl, hown, hb⟩


end Go.Proofs.YtckjcjoheeobgaaGreatDoor
