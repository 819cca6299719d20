/- The document's Session. -/
import Derived.Test.YtfpfaekbakilpaaDoorOa
import Derived.Test.YtfpfaekbakilpaaDoorPureWm
namespace Go.Proofs.YtfpfaekbakilpaaDoor
open Go.RowKit
set_option linter.unusedVariables false

theorem dsP_take0 (gap : Int) (l : List Rg) : dsP gap (l.take 0) = [] := rfl
/-- The check of records, whoever calls. -/
def ssE (l : List Rg) (gap : Int) : Nat := if 400 < l.length then 4 else if l.any badR then 1 else if spanB gap then 0 else 1
def SsEnd (w : World) (D : List Pn) (E : Nat) (e : Ending) (w' : World) : Prop :=
  (E ≠ 0 ∧ e = .returned (.tuple #[.slice none 0 0, .int .i64 (E : Nat)]) ∧ Below w.heap.size w w') ∨
  (E = 0 ∧ ∃ A cap, e = .returned (.tuple #[.slice A D.length cap, .int .i64 0]) ∧ CsAt w' A (pcells D) ∧ Below w.heap.size w w')
theorem SsEnd.no {w : World} {D : List Pn} {E : Nat} {e : Ending} {w' : World} (h0 : E ≠ 0) (he : e = .returned (.tuple #[.slice none 0 0, .int .i64 (E : Nat)])) (hb : Below w.heap.size w w') : SsEnd w D E e w' := .inl ⟨h0, he, hb⟩
theorem jkey (p : Pn) (L : List Pn) : (jAll p L).1.key = p.key := by
  refine snoc_ind (P := fun L => (jAll p L).1.key = p.key) rfl (fun L q ih => ?_) L
  rw [jAll_snoc]; unfold jStep; split
  · exact ih
  · exact ih
set_option maxRecDepth 100000 in
set_option maxHeartbeats 4000000 in
theorem ssession_any (w : World) (la : Option Addr) (c : Nat) (l : List Rg) (gap : Int) (h : CsAt w la (rcells l)) (hn : l.length ≤ 9223372036854775807) (hks : ∀ r ∈ l, r.key.size ≤ 9223372036854775807) (hnum : ∀ r ∈ l, r.num = w64 r.num) :
    Calls Tryd.prog 11 #[.slice la l.length c, .int .i64 gap] w fun e w' => SsEnd w (dsP gap l) (ssE l gap) e w' := by
  obtain ⟨E, hE⟩ : ∃ E, E = ssE l gap := ⟨_, rfl⟩
  rw [← hE]
  have HE := Lib.hid hE
  clear hE
  have H := Lib.hid h
  have HK := Lib.hid hks
  clear h hks
  by_cases hmany : 400 < l.length
  · have hm' : (400 : Int) < l.length := by omega
    have e4 : E = 4 := by rw [HE.out]; unfold ssE; rw [if_pos hmany]
    subst e4
    go_enter Tryd.func11, Tryd.ntmps11
    go_wp2_with fail
    go_ret2
    exact SsEnd.no (by decide) rfl (Below.refl _ _)
  have hm' : ¬ (400 : Int) < l.length := by omega
  have e4 : E = if l.any badR then 1 else if spanB gap then 0 else 1 := by rw [HE.out]; unfold ssE; rw [if_neg hmany]
  have HE' := Lib.hid e4
  clear e4 HE
  go_enter Tryd.func11, Tryd.ntmps11
  go_upto_block 0 with fail
  go_cut [6] (fun n wc => l.any badR = false ∧ Below w.heap.size w wc)
  case first =>
    go_wp2_with fail
    go_loopw [6] (fun i wr => ∃ j : Nat, j ≤ l.length ∧ i = .int .i64 j ∧ (l.take j).any badR = false ∧ Below w.heap.size w wr) (fun i _ => l.length - (intOf i).toNat)
    case atStart => exact ⟨0, by omega, rfl, by simp, Below.refl _ _⟩
    case round =>
      obtain ⟨j, hj, rfl, hno2, hb2⟩ := hrel
      by_cases hlt2 : j < l.length
      · obtain ⟨b, o, rfl, c0, c1, c2⟩ := rcs_at ((H.out).keep hb2) j hlt2
        have hat := fun hf => any_at (f := badR) j hlt2 hf
        have hsn := any_snoc badR l j hlt2
        have hkk := HK.out _ (List.getElem_mem hlt2)
        have hBz := hb2.size
        rw [hno2, Bool.false_or] at hsn
        generalize l[j] = r at *
        have HC := fun u => srec_any r u hkk
        obtain ⟨key, num, tm⟩ := r
        simp only [rV] at c0 c1 c2 hkk HC
        generalize badR ⟨key, num, tm⟩ = bb at *
        cases bb with
        | true =>
          have e1 : E = 1 := by rw [HE'.out, if_pos (hat rfl)]
          subst e1
          clear hat hsn hno2
          go_wp2_with (go_at_call 16; refine (HC _).mono ?_; rintro e w' ⟨rfl, hb3⟩)
          go_ret2
          exact SsEnd.no (by decide) rfl (hb2.trans (hb3.mono hBz))
        | false =>
          have HSN := Lib.hid hsn
          clear hat hsn hno2
          go_wp2_with (go_at_call 16; refine (HC _).mono ?_; rintro e w' ⟨rfl, hb3⟩)
          go_roundw
          case rel => exact ⟨j + 1, by omega, by go_num, HSN.out, hb2.trans (hb3.mono hBz)⟩
          case measure => simp [intOf]; omega
      · have e : l.take j = l := List.take_of_length_le (by omega)
        rw [e] at hno2
        have HN2 := Lib.hid hno2
        clear hno2 e
        go_wp2_with fail
        go_meet
        exact ⟨HN2.out, hb2⟩
  case rest =>
    obtain ⟨hall, hb⟩ := hcut
    have e5 : E = if spanB gap then 0 else 1 := by rw [HE'.out, hall]; rfl
    have HAL := Lib.hid hall
    have HE2 := Lib.hid e5
    clear hall e5 HE'
    generalize wc = W at *
    by_cases hs1 : gap < 1
    · have e1 : E = 1 := by rw [HE2.out, if_neg (by unfold spanB; simp; omega)]
      subst e1
      go_wp2_with fail
      go_ret2
      exact SsEnd.no (by decide) rfl hb
    by_cases hs2 : 1000000 < gap
    · have e1 : E = 1 := by rw [HE2.out, if_neg (by unfold spanB; simp; omega)]
      subst e1
      go_wp2_with fail
      go_ret2
      exact SsEnd.no (by decide) rfl hb
    have s0 : 1 ≤ gap := by omega
    have s1 : gap ≤ 1000000 := by omega
    have e1 : E = 0 := by rw [HE2.out, if_pos (by unfold spanB; simp; omega)]
    subst e1
    clear HE2
    have hgood : ∀ r ∈ l, 0 ≤ r.tm ∧ r.tm ≤ 1000000 := fun r h1 => by
      have h2 : badR r = false := by
        cases hb : badR r with
        | false => rfl
        | true => have := List.any_eq_true.2 ⟨r, h1, hb⟩; rw [HAL.out] at this; cases this
      unfold badR at h2
      simp only [Bool.not_eq_false', Bool.and_eq_true, decide_eq_true_eq] at h2
      omega
    have HG := Lib.hid hgood
    obtain ⟨DS, hDS⟩ : ∃ DS, DS = dsP gap := ⟨_, rfl⟩
    have HT : Hid (∀ k (h : k < l.length), DS (l.take (k + 1)) = (jAll (rP gap l[k]) (DS (l.take k))).2.take (plcP (jAll (rP gap l[k]) (DS (l.take k))).2 (jAll (rP gap l[k]) (DS (l.take k))).1) ++ (jAll (rP gap l[k]) (DS (l.take k))).1 :: (jAll (rP gap l[k]) (DS (l.take k))).2.drop (plcP (jAll (rP gap l[k]) (DS (l.take k))).2 (jAll (rP gap l[k]) (DS (l.take k))).1)) := by rw [hDS]; exact Lib.hid (ds_ins s0 l hnum)
    have HLN : Hid (∀ k, (DS (l.take k)).length ≤ (l.take k).length) := by rw [hDS]; exact Lib.hid (fun k => dsP_len gap (l.take k))
    have HRS : Hid (∀ k, RisH (DS (l.take k))) := by rw [hDS]; exact Lib.hid (fun k => dsP_ris gap (l.take k))
    have HFE : Hid (dsP gap l = DS (l.take l.length)) := by rw [hDS, List.take_length]; exact Lib.hid rfl
    have HF0 : Hid (DS (l.take 0) = []) := by rw [hDS]; exact Lib.hid rfl
    clear hDS hgood HAL hmany hnum
    go_wp2_with fail
    go_loopw [8, 9] (fun v i wr => ∃ (k : Nat), k ≤ l.length ∧ i = .int .i64 k ∧ PnR wr v (DS (l.take k)) ∧ Below W.heap.size W wr) (fun _ i _ => l.length - (intOf i).toNat)
    case atStart => exact ⟨0, by omega, rfl, by rw [HF0.out]; exact PnR.nil _, Below.refl _ _⟩
    case round =>
      rename World => wo
      obtain ⟨k, hk, rfl, hrow, hb4⟩ := hrel
      by_cases hlt : k < l.length
      · obtain ⟨b, o, rfl, c0, c1, c2⟩ := rcs_at ((H.out).keep (hb.trans (hb4.mono hb.size))) k hlt
        have hln := HLN.out k
        have hrs := HRS.out k
        have hgr := HG.out _ (List.getElem_mem hlt)
        have hnx := HT.out k hlt
        rw [List.length_take] at hln
        generalize DS (l.take k) = L at *
        generalize l[k] = r at *
        obtain ⟨A0, cap0, rfl, hcp, hcm⟩ := hrow.slice
        have HROW := Lib.hid hrow
        have HNX := Lib.hid hnx
        have HRIS := Lib.hid hrs
        clear hrow hnx hrs
        obtain ⟨key, num, tm⟩ := r
        simp only at c0 c1 c2 hgr
        obtain ⟨t0, t1⟩ := hgr
        have hbz := hb4.size
        have hL4 : L.length ≤ 400 := by omega
        have lt0 := cell_lt c0
        have HJ := Lib.hid (jAll_take (rP gap ⟨key, num, tm⟩) L)
        have HJL : Hid (∀ k, (jAll (rP gap ⟨key, num, tm⟩) (L.take k)).2.length ≤ k) := Lib.hid (fun k => by
          have h1 := jAll_len (rP gap ⟨key, num, tm⟩) (L.take k)
          rw [List.length_take] at h1; omega)
        have HJR : Hid (RisH (jAll (rP gap ⟨key, num, tm⟩) L).2) := Lib.hid (jAll_ris _ HRIS.out)
        have HJ0 : Hid (jAll (rP gap ⟨key, num, tm⟩) (L.take 0) = (⟨key, tm, tm + gap, 1, num, 0⟩, [])) := Lib.hid rfl
        have HJE : Hid (jAll (rP gap ⟨key, num, tm⟩) (L.take L.length) = jAll (rP gap ⟨key, num, tm⟩) L) := by rw [List.take_length]; exact Lib.hid rfl
        clear HRIS
        generalize jAll (rP gap ⟨key, num, tm⟩) = JA at *
        go_upto_region 15 with fail
        go_cut [10] (fun v wx => v = .pointer (some ⟨wo.heap.size, 0, none⟩) ∧ wx.heap[wo.heap.size]? = some (.cells (pc1 ⟨key, tm, tm + gap, 1, num, 0⟩) 49 (0, 0)) ∧ wx.heap.size = wo.heap.size + 1 ∧ Below wo.heap.size wo wx)
        case first =>
          go_region
          all_goals
            go_wp2_with fail
            go_meet
            exact ⟨rfl, by exact heap_new wo _, by exact World.size_alloc wo _, ⟨rfl, rfl, rfl, by show wo.heap.size ≤ (wo.alloc _).heap.size; rw [World.size_alloc]; omega, fun k hk => Below.heap_alloc wo _ _ hk⟩⟩
        case rest =>
          obtain ⟨rfl, hblk, hz5, hb5⟩ := hcut
          rename World => W5
          go_upto_block 4 with fail
          go_cut [11] (fun v wy => PnR wy v (JA L).2 ∧ wy.heap[wo.heap.size]? = some (.cells (pc1 (JA L).1) 49 (0, 0)) ∧ (∀ b, Value.ownBlock v = some b → wo.heap.size < b) ∧ Below wo.heap.size wo wy)
          case first =>
            go_wp2_with fail
            go_loopw [11, 12] (fun v i wz => ∃ j : Nat, j ≤ L.length ∧ i = .int .i64 j ∧ PnR wz v (JA (L.take j)).2 ∧ wz.heap[wo.heap.size]? = some (.cells (pc1 (JA (L.take j)).1) 49 (0, 0)) ∧ (∀ b, Value.ownBlock v = some b → wo.heap.size < b) ∧ Below wo.heap.size wo wz) (fun _ i _ => L.length - (intOf i).toNat)
            case atStart => exact ⟨0, by omega, rfl, by rw [HJ0.out]; exact PnR.nil _, by rw [HJ0.out]; exact hblk, by simp [Value.ownBlock], hb5⟩
            case round =>
              rename World => wz
              obtain ⟨j, hj, rfl, hrowK, hbJ, hown, hbz⟩ := hrel
              have hjl := HJL.out j
              by_cases hlt3 : j < L.length
              · obtain ⟨g, og, rfl, q0, q1, q2, q3, q4, q5⟩ := pns_at (HROW.out.keep hbz).cs j hlt3
                have hjs := HJ.out j hlt3
                generalize JA (L.take j) = S at *
                generalize L[j] = q at *
                obtain ⟨J, K⟩ := S
                obtain ⟨Jk, Jf, Jt, Jm, Js, Jl⟩ := J
                obtain ⟨qk, qf, qt, qm, qs, ql⟩ := q
                simp only at hrowK hbJ q0 q1 q2 q3 q4 q5 hjl
                have hPz := some_lt hbJ
                have p0 : wz.cell? ⟨wo.heap.size, 0, none⟩ = some (.string Jk) := by simp [World.cell?, hbJ, pc1]
                have p1 : wz.cell? ⟨wo.heap.size, 1, none⟩ = some (.int .i64 Jf) := by simp [World.cell?, hbJ, pc1]
                have p2 : wz.cell? ⟨wo.heap.size, 2, none⟩ = some (.int .i64 Jt) := by simp [World.cell?, hbJ, pc1]
                have p3 : wz.cell? ⟨wo.heap.size, 3, none⟩ = some (.int .i64 Jm) := by simp [World.cell?, hbJ, pc1]
                have p4 : wz.cell? ⟨wo.heap.size, 4, none⟩ = some (.int .i64 Js) := by simp [World.cell?, hbJ, pc1]
                have f1 : wz.frozen? ⟨wo.heap.size, 1, none⟩ = false := by simp [World.frozen?, hbJ]
                have f2 : wz.frozen? ⟨wo.heap.size, 2, none⟩ = false := by simp [World.frozen?, hbJ]
                have f3 : wz.frozen? ⟨wo.heap.size, 3, none⟩ = false := by simp [World.frozen?, hbJ]
                have f4 : wz.frozen? ⟨wo.heap.size, 4, none⟩ = false := by simp [World.frozen?, hbJ]
                have lg := cell_lt q0
                have HBJ := Lib.hid hbJ
                have HRK := Lib.hid hrowK
                have HOW := Lib.hid hown
                have HBZ := Lib.hid hbz
                have em := w64_eq (Jm + qm)
                have es := w64_eq (Js + qs)
                clear hbJ hrowK hown hbz c0 c1 c2 hblk hb5
                by_cases ht : tch ⟨qk, qf, qt, qm, qs, ql⟩ ⟨Jk, Jf, Jt, Jm, Js, Jl⟩
                · have hs2 : JA (L.take (j + 1)) = (⟨Jk, min Jf qf, max Jt qt, w64 (Jm + qm), w64 (Js + qs), Jl⟩, K) := by rw [hjs]; exact if_pos ht
                  have HS2 := Lib.hid hs2
                  clear hjs hs2
                  obtain ⟨t1, t2, t3⟩ := ht
                  simp only at t1 t2 t3
                  subst t1
                  by_cases ha : qf < Jf
                  · by_cases hb2 : Jt < qt
                    · skip
                      have hmin : min Jf qf = qf := by omega
                      have hmax : max Jt qt = qt := by omega
                      rw [hmin, hmax] at HS2
                      clear hmin hmax
                      go_wp2_with fail
                      exact ⟨⟨j + 1, by omega, by go_num, by rw [HS2.out]; exact jn_fin HRK.out HOW.out HBZ.out ((((((Fr.refl _ wz).setCell (.inl (by simp)) _).setCell (.inl (by simp)) _).setCell (.inl (by simp)) _).setCell (.inl (by simp)) _).alloc _) (jta (jt4 (w64 (Js + qs)) (jt3 (w64 (Jm + qm)) (jt2 qt (jt1 qf (HBJ.out))))))⟩, by simp [intOf]; omega⟩
                    · skip
                      have hmin : min Jf qf = qf := by omega
                      have hmax : max Jt qt = Jt := by omega
                      rw [hmin, hmax] at HS2
                      clear hmin hmax
                      go_wp2_with fail
                      exact ⟨⟨j + 1, by omega, by go_num, by rw [HS2.out]; exact jn_fin HRK.out HOW.out HBZ.out (((((Fr.refl _ wz).setCell (.inl (by simp)) _).setCell (.inl (by simp)) _).setCell (.inl (by simp)) _).alloc _) (jta (jt4 (w64 (Js + qs)) (jt3 (w64 (Jm + qm)) (jt1 qf (HBJ.out)))))⟩, by simp [intOf]; omega⟩
                  · by_cases hb2 : Jt < qt
                    · skip
                      have hmin : min Jf qf = Jf := by omega
                      have hmax : max Jt qt = qt := by omega
                      rw [hmin, hmax] at HS2
                      clear hmin hmax
                      go_wp2_with fail
                      exact ⟨⟨j + 1, by omega, by go_num, by rw [HS2.out]; exact jn_fin HRK.out HOW.out HBZ.out (((((Fr.refl _ wz).setCell (.inl (by simp)) _).setCell (.inl (by simp)) _).setCell (.inl (by simp)) _).alloc _) (jta (jt4 (w64 (Js + qs)) (jt3 (w64 (Jm + qm)) (jt2 qt (HBJ.out)))))⟩, by simp [intOf]; omega⟩
                    · skip
                      have hmin : min Jf qf = Jf := by omega
                      have hmax : max Jt qt = Jt := by omega
                      rw [hmin, hmax] at HS2
                      clear hmin hmax
                      go_wp2_with fail
                      exact ⟨⟨j + 1, by omega, by go_num, by rw [HS2.out]; exact jn_fin HRK.out HOW.out HBZ.out ((((Fr.refl _ wz).setCell (.inl (by simp)) _).setCell (.inl (by simp)) _).alloc _) (jta (jt4 (w64 (Js + qs)) (jt3 (w64 (Jm + qm)) (HBJ.out))))⟩, by simp [intOf]; omega⟩
                · have hs2 : JA (L.take (j + 1)) = (⟨Jk, Jf, Jt, Jm, Js, Jl⟩, K ++ [⟨qk, qf, qt, qm, qs, ql⟩]) := by rw [hjs]; exact if_neg ht
                  have HS2 := Lib.hid hs2
                  clear hjs hs2 em es
                  obtain ⟨AK, cK, rfl, hcK, -⟩ := HRK.out.slice
                  have hu1 : Below wz.heap.size wz (wz.alloc (.cells (pc1 ⟨qk, qf, qt, qm, qs, ql⟩) 49)) := (Below.refl _ _).alloc (Nat.le_refl _) _
                  obtain ⟨A9, c9, w9, hr9, hro9, hg9, ha9⟩ := pn_app ((HRK.out.keep hu1).keep ((Below.refl _ (wz.alloc (.cells (pc1 ⟨qk, qf, qt, qm, qs, ql⟩) 49))).alloc (Nat.le_refl _) (.cells (pc1 ⟨qk, qf, qt, qm, qs, ql⟩) 49))) (pc1_src (wz.alloc (.cells (pc1 ⟨qk, qf, qt, qm, qs, ql⟩) 49)) ⟨qk, qf, qt, qm, qs, ql⟩) (by simp; omega)
                  have hfin : PnR w9 (.slice A9 (K.length + 1) c9) (K ++ [⟨qk, qf, qt, qm, qs, ql⟩]) ∧ w9.heap[wo.heap.size]? = some (.cells (pc1 ⟨Jk, Jf, Jt, Jm, Js, Jl⟩) 49 (0, 0)) ∧ (∀ b, Value.ownBlock (.slice A9 (K.length + 1) c9) = some b → wo.heap.size < b) ∧ Below wo.heap.size wo w9 := by
                    have hzs := HBZ.out.size
                    refine ⟨hro9, ?_, fun b hb => ?_, ?_⟩
                    · rw [hg9.block _ (by simp; omega) (fun e => by have := HOW.out _ e.symm; omega)]
                      exact jta (jta HBJ.out)
                    · rcases ha9 b hb with e | e
                      · exact HOW.out b e
                      · simp at e; omega
                    · refine (((HBZ.out.alloc hzs _).alloc (by simp; omega) _)).trans ⟨hg9.os, hg9.tape, hg9.output, hg9.size, fun k hk => hg9.block k (by simp; omega) (fun e => by have := HOW.out _ e.symm; omega)⟩
                  have HFin := Lib.hid hfin
                  simp only [List.length_singleton, World.size_alloc, pc1] at hr9
                  have HR9 := Lib.hid hr9
                  clear hfin hr9 hro9 hg9 ha9 hu1 p3 p4 f1 f2 f3 f4
                  by_cases n1 : qk = Jk
                  · subst n1
                    by_cases n2 : qf < Jt
                    · have n3 : ¬ Jf < qt := fun e => ht ⟨rfl, n2, e⟩
                      have n4 : decide (Jf < qt) = false := by simp; omega
                      go_wp2_with (at_builtin; refine wpList_append_run (by rfl) _ _ 23 (by rfl) (.slice AK K.length cK) (.slice (some ⟨wz.heap.size + 1, 0, none⟩) 1 1) (.slice A9 (K.length + 1) c9) w9 (by rfl) (by rfl) (by exact HR9.out) ?_; refine Hid.out ?_)
                      refine Lib.hid ?_
                      go_wp2_with fail
                      exact ⟨⟨j + 1, by omega, by go_num, by rw [HS2.out]; exact HFin.out⟩, by simp [intOf]; omega⟩
                    · have n4 : decide (qf < Jt) = false := by simp; omega
                      go_wp2_with (at_builtin; refine wpList_append_run (by rfl) _ _ 23 (by rfl) (.slice AK K.length cK) (.slice (some ⟨wz.heap.size + 1, 0, none⟩) 1 1) (.slice A9 (K.length + 1) c9) w9 (by rfl) (by rfl) (by exact HR9.out) ?_; refine Hid.out ?_)
                      refine Lib.hid ?_
                      go_wp2_with fail
                      exact ⟨⟨j + 1, by omega, by go_num, by rw [HS2.out]; exact HFin.out⟩, by simp [intOf]; omega⟩
                  · have n4 := str_ne2 n1
                    go_wp2_with (at_builtin; refine wpList_append_run (by rfl) _ _ 23 (by rfl) (.slice AK K.length cK) (.slice (some ⟨wz.heap.size + 1, 0, none⟩) 1 1) (.slice A9 (K.length + 1) c9) w9 (by rfl) (by rfl) (by exact HR9.out) ?_; refine Hid.out ?_)
                    refine Lib.hid ?_
                    go_wp2_with fail
                    exact ⟨⟨j + 1, by omega, by go_num, by rw [HS2.out]; exact HFin.out⟩, by simp [intOf]; omega⟩
              · have ej : j = L.length := by omega
                subst ej
                rw [HJE.out] at hrowK hbJ
                have HRK := Lib.hid hrowK
                have HBJ := Lib.hid hbJ
                have HOW := Lib.hid hown
                clear hrowK hbJ hown hblk hb5 c0 c1 c2
                go_wp2_with fail
                go_meet
                exact ⟨HRK.out, HBJ.out, HOW.out, hbz⟩
          case rest =>
            obtain ⟨hrowK, hblkJ, hown, hb6⟩ := hcut
            rename World => wy
            have hnx := HNX.out
            have hjr := HJR.out
            have hjl := HJL.out L.length
            rw [HJE.out] at hjl
            generalize JA L = S at *
            obtain ⟨J, K⟩ := S
            obtain ⟨Jk, Jf, Jt, Jm, Js, Jl⟩ := J
            simp only at hrowK hblkJ hnx hjr hjl
            obtain ⟨AK, cK, rfl, hcK, hcKm⟩ := hrowK.slice
            have hpl := plcP_le K ⟨Jk, Jf, Jt, Jm, Js, Jl⟩
            have HLT : Hid (∀ i x, i < plcP K ⟨Jk, Jf, Jt, Jm, Js, Jl⟩ → K[i]? = some x → Ah x ⟨Jk, Jf, Jt, Jm, Js, Jl⟩) := Lib.hid (fun i x hi hx => by
              obtain ⟨h1, h2⟩ := List.getElem?_eq_some_iff.1 hx
              rw [← h2]; exact plcP_lt hjr _ i hi)
            have HGE : Hid (∀ x, K[plcP K ⟨Jk, Jf, Jt, Jm, Js, Jl⟩]? = some x → ¬ Ah x ⟨Jk, Jf, Jt, Jm, Js, Jl⟩) := Lib.hid (fun x hx => by
              obtain ⟨h1, h2⟩ := List.getElem?_eq_some_iff.1 hx
              rw [← h2]; exact plcP_ge hjr _ h1)
            have HNX2 := Lib.hid hnx
            have HRK := Lib.hid hrowK
            have HBJ := Lib.hid hblkJ
            have HB6 := Lib.hid (hb4.trans (hb6.mono hb4.size))
            have hz6 := hb6.size
            have hPw := some_lt hblkJ
            clear hnx hjr hrowK hblkJ hown hblk hb5 c0 c1 c2 HJ HJL HJR HJ0 HJE HNX HROW hb4 hb6 hz5
            generalize plcP K ⟨Jk, Jf, Jt, Jm, Js, Jl⟩ = N at *
            go_upto_block 6 with fail
            go_cut [14] (fun v wx => v = .int .i64 (N : Nat) ∧ Below wy.heap.size wy wx)
            case first =>
              go_wp2_with fail
              go_loopw [14] (fun i wx => ∃ p : Nat, p ≤ N ∧ i = .int .i64 p ∧ Below wy.heap.size wy wx) (fun i _ => K.length + 1 - (intOf i).toNat)
              case atStart => exact ⟨0, by omega, rfl, Below.refl _ _⟩
              case round =>
                rename World => wx
                obtain ⟨p, hp, rfl, hbx⟩ := hrel
                have hbl := (hbx.block wo.heap.size hPw).trans HBJ.out
                have p0 : wx.cell? ⟨wo.heap.size, 0, none⟩ = some (.string Jk) := by simp [World.cell?, hbl, pc1]
                have p1 : wx.cell? ⟨wo.heap.size, 1, none⟩ = some (.int .i64 Jf) := by simp [World.cell?, hbl, pc1]
                by_cases hpn : p < N
                · obtain ⟨g, og, rfl, q0, q1, -⟩ := pns_at (HRK.out.keep hbx).cs p (by omega)
                  have hA := HLT.out p _ hpn (List.getElem?_eq_getElem (by omega))
                  have hki : (p : Int) < (K.length : Int) := by omega
                  generalize K[p]'(by omega) = x at *
                  obtain ⟨qk, qf, qt, qm, qs, ql⟩ := x
                  simp only at q0 q1
                  have HBX := Lib.hid hbx
                  clear hbl hbx
                  rcases hA with h1 | ⟨h1, h2⟩
                  · have hl := less_kb h1
                    simp only at hl
                    clear h1
                    go_wp2_with fail
                    go_quiet (fail)
                    go_wp2_with fail
                    exact ⟨⟨p + 1, by omega, by go_num, ⟨HBX.out.os, HBX.out.tape, HBX.out.output, HBX.out.size, HBX.out.block⟩⟩, by simp [intOf]; omega⟩
                  · simp only at h1 h2
                    subst h1
                    have hl := less_kbn (List.lt_irrefl (kb qk))
                    go_wp2_with fail
                    go_quiet (fail)
                    go_wp2_with fail
                    exact ⟨⟨p + 1, by omega, by go_num, ⟨HBX.out.os, HBX.out.tape, HBX.out.output, HBX.out.size, HBX.out.block⟩⟩, by simp [intOf]; omega⟩
                · have epn : p = N := by omega
                  subst epn
                  by_cases hpK : p < K.length
                  · obtain ⟨g, og, rfl, q0, q1, -⟩ := pns_at (HRK.out.keep hbx).cs p hpK
                    have hA := HGE.out _ (List.getElem?_eq_getElem hpK)
                    have hki : (p : Int) < (K.length : Int) := by omega
                    generalize K[p] = x at *
                    obtain ⟨qk, qf, qt, qm, qs, ql⟩ := x
                    simp only at q0 q1
                    unfold Ah AhK at hA
                    simp only at hA
                    have hl := less_kbn (a := qk) (b := Jk) (fun e => hA (.inl e))
                    have HBX := Lib.hid hbx
                    clear hbl hbx
                    by_cases h1 : qk = Jk
                    · subst h1
                      have h2 : ¬ qf < Jf := fun e => hA (.inr ⟨rfl, e⟩)
                      have h3 : decide (qf < Jf) = false := by simp; omega
                      clear hA
                      go_wp2_with fail
                      go_quiet (fail)
                      go_wp2_with fail
                      go_meet
                      exact ⟨rfl, ⟨HBX.out.os, HBX.out.tape, HBX.out.output, HBX.out.size, HBX.out.block⟩⟩
                    · have h3 := str_ne2 h1
                      clear hA
                      go_wp2_with fail
                      go_quiet (fail)
                      go_wp2_with fail
                      go_meet
                      exact ⟨rfl, ⟨HBX.out.os, HBX.out.tape, HBX.out.output, HBX.out.size, HBX.out.block⟩⟩
                  · have epk : p = K.length := by omega
                    have hki : ¬ (p : Int) < (K.length : Int) := by omega
                    have hkd : decide ((p : Int) < (K.length : Int)) = false := by simp; omega
                    have HBX := Lib.hid hbx
                    clear hbl hbx
                    go_wp2_with fail
                    go_quiet (fail)
                    go_wp2_with fail
                    go_meet
                    exact ⟨by rw [epk], ⟨HBX.out.os, HBX.out.tape, HBX.out.output, HBX.out.size, HBX.out.block⟩⟩
            case rest =>
              obtain ⟨rfl, hbx⟩ := hcut
              rename World => wx
              have hKx := HRK.out.keep hbx
              have hBx := (HB6.out.trans (hbx.mono (Nat.le_trans HB6.out.size (Nat.le_refl _))))
              have hblx := (hbx.block wo.heap.size hPw).trans HBJ.out
              have hN0 : (0 : Int) ≤ (N : Int) := by omega
              have hNc : (N : Int) ≤ (cK : Int) := by omega
              have hNK : (N : Int) ≤ (K.length : Int) := by omega
              have HBX := Lib.hid hBx
              have HBLX := Lib.hid hblx
              have HKX := Lib.hid hKx
              clear HB6 HRK HBJ hBx hblx hKx
              by_cases hNK2 : N < K.length
              · skip
                obtain ⟨g, og, rfl, -⟩ := pns_at HKX.out.cs N hNK2
                have hki : (N : Int) < (K.length : Int) := by omega
                have hcp : ¬ cK = N := by omega
                obtain ⟨A1, d1, w1, A2, d2, w2, A3, d3, w3, r1, r2, r3, hro3, hown3, b1, b2, b3⟩ := pn_ins HKX.out ⟨Jk, Jf, Jt, Jm, Js, Jl⟩ (p := N) (by omega) (by omega) (x3 := (.slice (some ⟨g, og + N * 6, none⟩) (K.length - N) (cK - N))) (fun u' hu' => by have h := pn_drop (HKX.out.keep hu') (p := N) (by omega); rw [if_neg (by omega)] at h; exact h)
                have hblw := (b1.block wo.heap.size (some_lt HBLX.out)).trans HBLX.out
                have s0 : w1.cell? ⟨wo.heap.size, 0, none⟩ = some (.string Jk) := by simp [World.cell?, hblw, pc1]
                have s1 : w1.cell? ⟨wo.heap.size, 1, none⟩ = some (.int .i64 Jf) := by simp [World.cell?, hblw, pc1]
                have s2 : w1.cell? ⟨wo.heap.size, 2, none⟩ = some (.int .i64 Jt) := by simp [World.cell?, hblw, pc1]
                have s3 : w1.cell? ⟨wo.heap.size, 3, none⟩ = some (.int .i64 Jm) := by simp [World.cell?, hblw, pc1]
                have s4 : w1.cell? ⟨wo.heap.size, 4, none⟩ = some (.int .i64 Js) := by simp [World.cell?, hblw, pc1]
                have s5 : w1.cell? ⟨wo.heap.size, 5, none⟩ = some (.int .i64 Jl) := by simp [World.cell?, hblw, pc1]
                simp only [pc1] at r2
                have HR1 := Lib.hid r1
                have HR2 := Lib.hid r2
                have HR3 := Lib.hid r3
                have HRO := Lib.hid hro3
                have HB3 := Lib.hid (HBX.out.trans (b3.mono HBX.out.size))
                clear r1 r2 r3 hro3 hown3 b1 b2 b3 hblw
                go_wp2_with (at_builtin; refine wpList_append_run (by rfl) _ _ 23 (by rfl) (.slice none 0 0) (.slice (some ⟨g, og, none⟩) N cK) (.slice A1 N d1) w1 (by rfl) (by rfl) (by exact HR1.out) ?_; refine Hid.out ?_)
                refine Lib.hid ?_
                go_wp2_with (at_builtin; refine wpList_append_run (by rfl) _ _ 23 (by rfl) (.slice A1 N d1) (.slice (some ⟨w1.heap.size, 0, none⟩) 1 1) (.slice A2 (N + 1) d2) w2 (by rfl) (by rfl) (by exact HR2.out) ?_; refine Hid.out ?_)
                refine Lib.hid ?_
                go_wp2_with (at_builtin; refine wpList_append_run (by rfl) _ _ 23 (by rfl) (.slice A2 (N + 1) d2) (.slice (some ⟨g, og + N * 6, none⟩) (K.length - N) (cK - N)) (.slice A3 (K.length + 1) d3) w3 (by rfl) (by rfl) (by exact HR3.out) ?_; refine Hid.out ?_)
                refine Lib.hid ?_
                go_wp2_with fail
                exact ⟨⟨k + 1, by omega, by go_num, by rw [HNX2.out]; exact HRO.out, HB3.out⟩, by simp [intOf]; omega⟩
              · have hNe : N = K.length := by omega
                subst hNe
                cases AK with
                | none =>
                  have hcc0 : cK = 0 := by
                    rcases HKX.out.2 with ⟨h0, h1⟩ | ⟨g, o, cap, cur, hv, _⟩
                    · simp at h0; omega
                    · cases hv
                  subst hcc0
                  obtain rfl : K = [] := List.length_eq_zero_iff.1 (by omega)
                  simp only [List.length_nil] at *
                  obtain ⟨A1, d1, w1, A2, d2, w2, A3, d3, w3, r1, r2, r3, hro3, hown3, b1, b2, b3⟩ := pn_ins HKX.out ⟨Jk, Jf, Jt, Jm, Js, Jl⟩ (p := 0) (by simp) (by simp) (x3 := (.slice none 0 0)) (fun u' _ => by exact Src.ofNil u' Tryd.underlying23 0)
                  have hblw := (b1.block wo.heap.size (some_lt HBLX.out)).trans HBLX.out
                  have s0 : w1.cell? ⟨wo.heap.size, 0, none⟩ = some (.string Jk) := by simp [World.cell?, hblw, pc1]
                  have s1 : w1.cell? ⟨wo.heap.size, 1, none⟩ = some (.int .i64 Jf) := by simp [World.cell?, hblw, pc1]
                  have s2 : w1.cell? ⟨wo.heap.size, 2, none⟩ = some (.int .i64 Jt) := by simp [World.cell?, hblw, pc1]
                  have s3 : w1.cell? ⟨wo.heap.size, 3, none⟩ = some (.int .i64 Jm) := by simp [World.cell?, hblw, pc1]
                  have s4 : w1.cell? ⟨wo.heap.size, 4, none⟩ = some (.int .i64 Js) := by simp [World.cell?, hblw, pc1]
                  have s5 : w1.cell? ⟨wo.heap.size, 5, none⟩ = some (.int .i64 Jl) := by simp [World.cell?, hblw, pc1]
                  simp only [pc1] at r2
                  have HR1 := Lib.hid r1
                  have HR2 := Lib.hid r2
                  have HR3 := Lib.hid r3
                  have HRO := Lib.hid hro3
                  have HB3 := Lib.hid (HBX.out.trans (b3.mono HBX.out.size))
                  clear r1 r2 r3 hro3 hown3 b1 b2 b3 hblw
                  go_wp2_with (at_builtin; refine wpList_append_run (by rfl) _ _ 23 (by rfl) (.slice none 0 0) (.slice none 0 0) (.slice A1 0 d1) w1 (by rfl) (by rfl) (by exact HR1.out) ?_; refine Hid.out ?_)
                  refine Lib.hid ?_
                  go_wp2_with (at_builtin; refine wpList_append_run (by rfl) _ _ 23 (by rfl) (.slice A1 0 d1) (.slice (some ⟨w1.heap.size, 0, none⟩) 1 1) (.slice A2 (0 + 1) d2) w2 (by rfl) (by rfl) (by exact HR2.out) ?_; refine Hid.out ?_)
                  refine Lib.hid ?_
                  go_wp2_with (at_builtin; refine wpList_append_run (by rfl) _ _ 23 (by rfl) (.slice A2 (0 + 1) d2) (.slice none 0 0) (.slice A3 (0 + 1) d3) w3 (by rfl) (by rfl) (by exact HR3.out) ?_; refine Hid.out ?_)
                  refine Lib.hid ?_
                  go_wp2_with fail
                  exact ⟨⟨k + 1, by omega, by go_num, by rw [HNX2.out]; exact HRO.out, HB3.out⟩, by simp [intOf]; omega⟩
                | some ad =>
                  by_cases hcl0 : cK = K.length
                  · skip
                    subst hcl0
                    obtain ⟨A1, d1, w1, A2, d2, w2, A3, d3, w3, r1, r2, r3, hro3, hown3, b1, b2, b3⟩ := pn_ins HKX.out ⟨Jk, Jf, Jt, Jm, Js, Jl⟩ (p := K.length) (by omega) (by omega) (x3 := (.slice (some ad) 0 0)) (fun u' _ => by rw [List.drop_of_length_le (Nat.le_refl _)]; exact Src.ofSlice u' Tryd.underlying23 ad 0 0 [] (by simp) (fun j x hx => by simp at hx) (fun u hu => by simp at hu))
                    have hblw := (b1.block wo.heap.size (some_lt HBLX.out)).trans HBLX.out
                    have s0 : w1.cell? ⟨wo.heap.size, 0, none⟩ = some (.string Jk) := by simp [World.cell?, hblw, pc1]
                    have s1 : w1.cell? ⟨wo.heap.size, 1, none⟩ = some (.int .i64 Jf) := by simp [World.cell?, hblw, pc1]
                    have s2 : w1.cell? ⟨wo.heap.size, 2, none⟩ = some (.int .i64 Jt) := by simp [World.cell?, hblw, pc1]
                    have s3 : w1.cell? ⟨wo.heap.size, 3, none⟩ = some (.int .i64 Jm) := by simp [World.cell?, hblw, pc1]
                    have s4 : w1.cell? ⟨wo.heap.size, 4, none⟩ = some (.int .i64 Js) := by simp [World.cell?, hblw, pc1]
                    have s5 : w1.cell? ⟨wo.heap.size, 5, none⟩ = some (.int .i64 Jl) := by simp [World.cell?, hblw, pc1]
                    simp only [pc1] at r2
                    have HR1 := Lib.hid r1
                    have HR2 := Lib.hid r2
                    have HR3 := Lib.hid r3
                    have HRO := Lib.hid hro3
                    have HB3 := Lib.hid (HBX.out.trans (b3.mono HBX.out.size))
                    clear r1 r2 r3 hro3 hown3 b1 b2 b3 hblw
                    go_wp2_with (at_builtin; refine wpList_append_run (by rfl) _ _ 23 (by rfl) (.slice none 0 0) (.slice (some ad) K.length K.length) (.slice A1 K.length d1) w1 (by rfl) (by rfl) (by exact HR1.out) ?_; refine Hid.out ?_)
                    refine Lib.hid ?_
                    go_wp2_with (at_builtin; refine wpList_append_run (by rfl) _ _ 23 (by rfl) (.slice A1 K.length d1) (.slice (some ⟨w1.heap.size, 0, none⟩) 1 1) (.slice A2 (K.length + 1) d2) w2 (by rfl) (by rfl) (by exact HR2.out) ?_; refine Hid.out ?_)
                    refine Lib.hid ?_
                    go_wp2_with (at_builtin; refine wpList_append_run (by rfl) _ _ 23 (by rfl) (.slice A2 (K.length + 1) d2) (.slice (some ad) 0 0) (.slice A3 (K.length + 1) d3) w3 (by rfl) (by rfl) (by exact HR3.out) ?_; refine Hid.out ?_)
                    refine Lib.hid ?_
                    go_wp2_with fail
                    exact ⟨⟨k + 1, by omega, by go_num, by rw [HNX2.out]; exact HRO.out, HB3.out⟩, by simp [intOf]; omega⟩
                  · skip
                    obtain ⟨g, og, hgo⟩ : ∃ g og, ad = ⟨g, og, none⟩ := by
                      rcases HKX.out.2 with ⟨h0, -⟩ | ⟨g, o, cap, cur, hv, _⟩
                      · cases h0
                      · injection hv with e1 e2 e3; injection e1 with e1; exact ⟨g, o, e1⟩
                    subst hgo
                    have hcp : ¬ cK = K.length := hcl0
                    obtain ⟨A1, d1, w1, A2, d2, w2, A3, d3, w3, r1, r2, r3, hro3, hown3, b1, b2, b3⟩ := pn_ins HKX.out ⟨Jk, Jf, Jt, Jm, Js, Jl⟩ (p := K.length) (by omega) (by omega) (x3 := (.slice (some ⟨g, og + K.length * 6, none⟩) 0 (cK - K.length))) (fun u' _ => by rw [List.drop_of_length_le (Nat.le_refl _)]; exact Src.ofSlice u' Tryd.underlying23 _ 0 _ [] (by simp) (fun j x hx => by simp at hx) (fun u hu => by simp at hu))
                    have hblw := (b1.block wo.heap.size (some_lt HBLX.out)).trans HBLX.out
                    have s0 : w1.cell? ⟨wo.heap.size, 0, none⟩ = some (.string Jk) := by simp [World.cell?, hblw, pc1]
                    have s1 : w1.cell? ⟨wo.heap.size, 1, none⟩ = some (.int .i64 Jf) := by simp [World.cell?, hblw, pc1]
                    have s2 : w1.cell? ⟨wo.heap.size, 2, none⟩ = some (.int .i64 Jt) := by simp [World.cell?, hblw, pc1]
                    have s3 : w1.cell? ⟨wo.heap.size, 3, none⟩ = some (.int .i64 Jm) := by simp [World.cell?, hblw, pc1]
                    have s4 : w1.cell? ⟨wo.heap.size, 4, none⟩ = some (.int .i64 Js) := by simp [World.cell?, hblw, pc1]
                    have s5 : w1.cell? ⟨wo.heap.size, 5, none⟩ = some (.int .i64 Jl) := by simp [World.cell?, hblw, pc1]
                    simp only [pc1] at r2
                    have HR1 := Lib.hid r1
                    have HR2 := Lib.hid r2
                    have HR3 := Lib.hid r3
                    have HRO := Lib.hid hro3
                    have HB3 := Lib.hid (HBX.out.trans (b3.mono HBX.out.size))
                    clear r1 r2 r3 hro3 hown3 b1 b2 b3 hblw
                    go_wp2_with (at_builtin; refine wpList_append_run (by rfl) _ _ 23 (by rfl) (.slice none 0 0) (.slice (some ⟨g, og, none⟩) K.length cK) (.slice A1 K.length d1) w1 (by rfl) (by rfl) (by exact HR1.out) ?_; refine Hid.out ?_)
                    refine Lib.hid ?_
                    go_wp2_with (at_builtin; refine wpList_append_run (by rfl) _ _ 23 (by rfl) (.slice A1 K.length d1) (.slice (some ⟨w1.heap.size, 0, none⟩) 1 1) (.slice A2 (K.length + 1) d2) w2 (by rfl) (by rfl) (by exact HR2.out) ?_; refine Hid.out ?_)
                    refine Lib.hid ?_
                    go_wp2_with (at_builtin; refine wpList_append_run (by rfl) _ _ 23 (by rfl) (.slice A2 (K.length + 1) d2) (.slice (some ⟨g, og + K.length * 6, none⟩) 0 (cK - K.length)) (.slice A3 (K.length + 1) d3) w3 (by rfl) (by rfl) (by exact HR3.out) ?_; refine Hid.out ?_)
                    refine Lib.hid ?_
                    go_wp2_with fail
                    exact ⟨⟨k + 1, by omega, by go_num, by rw [HNX2.out]; exact HRO.out, HB3.out⟩, by simp [intOf]; omega⟩
      · have ek : k = l.length := by omega
        subst ek
        have hf := HFE.out
        rw [← hf] at hrow
        clear hf
        generalize hPP : dsP gap l = PP at *
        have HPP := Lib.hid hPP
        clear hPP
        obtain ⟨A0, cap0, rfl, -, -⟩ := hrow.slice
        have HC := Lib.hid hrow.cs
        clear hrow
        go_wp2_with fail
        go_ret2
        rw [HPP.out]
        exact .inr ⟨rfl, A0, cap0, rfl, HC.out, below_after hb4 hb⟩
end Go.Proofs.YtfpfaekbakilpaaDoor
