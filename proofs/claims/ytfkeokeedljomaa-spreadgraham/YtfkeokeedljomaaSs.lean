/- What was spread in turn is gathered in turn: the law's walk. -/
import Derived.Test.YtfkeokeedljomaaSr
namespace Go.Proofs.Ytfkeokeedljomaa
open Go.RowKit
set_option linter.unusedVariables false

def sA : ByteArray := ⟨#[97]⟩
def sB : ByteArray := ⟨#[98]⟩
def sC : ByteArray := ⟨#[99]⟩
theorem fact_rows : rowsP 2 [sA, sB, sC] = [[sA, sC], [sB]] := by rfl
theorem RowsEnd.at_ {w w' : World} {v : Value} {rows : List (List ByteArray)} (h : RowsEnd w w' v rows) : ∃ B, v = .slice (some ⟨B, 0, none⟩) rows.length rows.length ∧ Below w.heap.size w w' ∧
    ∀ (j : Nat) (r : List ByteArray), rows[j]? = some r → ∃ A c, w'.cell? ⟨B, j, none⟩ = some (.slice A r.length c) ∧ CsAt w' A (tcells r) := by
  obtain ⟨B, vs, h1, h2, h3, h4⟩ := h
  refine ⟨B, h1, h4, fun j r hr => ?_⟩
  have hl : j < vs.length := by rw [h2.len]; exact (List.getElem?_eq_some_iff.1 hr).1
  obtain ⟨v, hv⟩ := at_lt hl
  have ho := h2.own j v r hv hr
  obtain ⟨A, c, rfl, -, -⟩ := ho.slice
  exact ⟨A, c, (h2.cell hv).1, ho.cs⟩
set_option maxHeartbeats 1000000 in
theorem fact_even (W : World) : Calls Try.prog 6 #[.slice (some ⟨W.heap.size, 0, none⟩) 3 3, .int .i64 2] (W.alloc (.cells #[.string sA, .string sB, .string sC] 9)) fun e w' => ∃ B A c, e = .returned (.tuple #[.slice (some ⟨B, 0, none⟩) 2 2, .nilIface]) ∧ w'.cell? ⟨B, 0, none⟩ = some (.slice A 2 c) ∧ Below W.heap.size W w' := by
  have hcs : CsAt (W.alloc (.cells #[.string sA, .string sB, .string sC] 9)) (some ⟨W.heap.size, 0, none⟩) (tcells [sA, sB, sC]) := by
    refine .inr ⟨W.heap.size, 0, rfl, fun j u hu => ?_⟩
    match j, hu with
    | 0, hu => simp [tcells] at hu; subst hu; simp [go_sem]
    | 1, hu => simp [tcells] at hu; subst hu; simp [go_sem]
    | 2, hu => simp [tcells] at hu; subst hu; simp [go_sem]
    | n + 3, hu => simp [tcells] at hu
  have hb : Below W.heap.size W (W.alloc (.cells #[.string sA, .string sB, .string sC] 9)) := (Below.refl _ _).alloc (Nat.le_refl _) _
  refine (even_yes _ (some ⟨W.heap.size, 0, none⟩) 3 3 2 [sA, sB, sC] hcs rfl (by decide)).mono ?_
  rintro e w' ⟨v, rfl, hR⟩
  rw [fact_rows] at hR
  obtain ⟨B, rfl, hB, hat⟩ := hR.at_
  obtain ⟨A, c, h1, -⟩ := hat 0 _ rfl
  exact ⟨B, A, c, rfl, h1, hb.trans (hB.mono hb.size)⟩
section
variable (W : World) (a0 : Option Addr) (cap0 : Nat) (l : List ByteArray) (p : Int)
set_option maxRecDepth 100000 in
set_option maxHeartbeats 4000000 in
theorem back_walk (h : CsAt W a0 (tcells l)) (hl : l.length ≤ 281474976710656) : Calls Try.prog 4 #[.slice a0 l.length cap0, .int .i64 p] W fun e w' => e = .returned (.bool true) ∧ Below W.heap.size W w' := by
  have HF := Lib.hid (fact_even W)
  have H := Lib.hid h
  simp only [sA, sB, sC] at HF
  obtain ⟨n, hn⟩ : ∃ n, l.length = n := ⟨_, rfl⟩
  rw [hn] at hl ⊢
  have HN := Lib.hid hn
  clear h hn
  by_cases he : erC n p = 0
  · obtain ⟨q1, q2, q3⟩ := erC_ok he
    obtain ⟨m, rfl⟩ : ∃ m : Nat, p = m := ⟨p.toNat, by omega⟩
    have hm0 : 0 < m := by omega
    have hm16 : m ≤ 16 := by omega
    have hn4 : n ≤ 400 := by omega
    have HE := Lib.hid (fun (u : World) (hb : Below W.heap.size W u) => even_yes u a0 cap0 n m l (H.out.keep hb) HN.out.symm he)
    clear he q1 q2 q3
    go_enter Try.func4, Try.ntmps4
    go_wp2_with fail
    refine HF.out.mono ?_
    rintro e u ⟨B0, A0, c0, rfl, h1, hb⟩
    have he := HE.out u hb
    have HB := Lib.hid hb
    clear hb
    go_wp2_with fail
    refine he.mono ?_
    rintro e z2 ⟨v, rfl, hR⟩
    obtain ⟨B, rfl, hb2, hat⟩ := hR.at_
    rw [rowsP_len]
    have HB2 := Lib.hid (below_after hb2 HB.out)
    have HAT : Hid (∀ (j : Nat), j < m → ∃ A c, z2.cell? ⟨B, j, none⟩ = some (.slice A (rowP m l j).length c) ∧ CsAt z2 A (tcells (rowP m l j))) := fun j hj => hat j _ (rowsP_at m l j hj)
    clear hb2 hat hR h1 he HB
    go_wp2_with fail
    go_loopw [9, 10] (fun vb vk wr => ∃ k : Nat, vk = .int .i64 (k : Int) ∧ k ≤ n + 1 ∧ Hid (TxR wr vb (l.take (k * m)) ∧ (∀ b, vb.ownBlock = some b → z2.heap.size ≤ b) ∧ Below z2.heap.size z2 wr)) (fun _ vk _ => n + 1 - (intOf vk).toNat)
    case atStart => exact ⟨0, rfl, by omega, by rw [Nat.zero_mul, List.take_zero]; exact RwAt.nil _ _ _, by simp [Value.ownBlock], Below.refl _ _⟩
    case round =>
      obtain ⟨k, rfl, hk, hT⟩ := hrel
      by_cases hlt : k ≤ n
      · have hz : (k : Int) ≤ (n : Int) := by omega
        go_wp2_with fail
        go_loopw [9, 11] (fun vb vi wr => ∃ i : Nat, vi = .int .i64 (i : Int) ∧ i ≤ m ∧ Hid (TxR wr vb (l.take (k * m + i)) ∧ (∀ b, vb.ownBlock = some b → z2.heap.size ≤ b) ∧ Below z2.heap.size z2 wr)) (fun _ vi _ => m - (intOf vi).toNat)
        case atStart => exact ⟨0, rfl, by omega, hT⟩
        case round =>
          rename World => wi
          obtain ⟨i, rfl, hi, hT2⟩ := hrel
          by_cases hlt2 : i < m
          · have hz2 : (i : Int) < (m : Int) := by omega
            have hmz : (0 : Int) < (m : Int) := by omega
            obtain ⟨Ai, ci, d1, d2⟩ := HAT.out i hlt2
            obtain ⟨Az, cz, d3, -⟩ := HAT.out 0 hm0
            have hr1 := rowP_le m hm0 i hlt2 l
            have hr2 := rowP_len m hm0 i hlt2 l k
            have hr3 := rowP_at m hm0 i hlt2 l k
            have hln := HN.out
            have d1' : wi.cell? ⟨B, i, none⟩ = some (.slice Ai (rowP m l i).length ci) := by rw [hT2.out.2.2.cell (p := ⟨B, i, none⟩) (cell_lt d1)]; exact d1
            have hfin : Hid (∀ wx, Below z2.heap.size z2 wx → wx.cell? ⟨B, i, none⟩ = some (.slice Ai (rowP m l i).length ci) ∧ wx.cell? ⟨B, 0, none⟩ = some (.slice Az (rowP m l 0).length cz)) := fun wx hb => ⟨by rw [hb.cell (p := ⟨B, i, none⟩) (cell_lt d1)]; exact d1, by rw [hb.cell (p := ⟨B, 0, none⟩) (cell_lt d3)]; exact d3⟩
            have hle : (rowP m l i).length ≤ 400 ∧ (rowP m l 0).length ≤ (rowP m l i).length + 1 ∧ (rowP m l i).length ≤ (rowP m l 0).length := by omega
            have HROW : Hid (CsAt z2 Ai (tcells (rowP m l i))) := d2
            have HR2 : Hid (k < (rowP m l i).length ↔ k * m + i < l.length) := hr2
            have HR3 : Hid ((rowP m l i)[k]? = l[k * m + i]?) := hr3
            have hkm : (l.take (k * m + i)).length ≤ 400 := by rw [List.length_take]; omega
            clear hr1 hr2 hr3 hln d1 d2 d3
            go_upto_if 57 with fail
            go_cut [9] (fun v wx => TxR wx v (l.take (k * m + i + 1)) ∧ (∀ b, v.ownBlock = some b → z2.heap.size ≤ b) ∧ Below z2.heap.size z2 wx)
            case first =>
              by_cases hkr : k < (rowP m l i).length
              · have hz3 : (k : Int) < ((rowP m l i).length : Int) := by omega
                have hkl := HR2.out.1 hkr
                obtain ⟨b, o, rfl, c1⟩ := tx_at HROW.out k hkr
                have e3 := HR3.out
                rw [List.getElem?_eq_getElem hkr, List.getElem?_eq_getElem hkl] at e3
                injection e3 with e3
                rw [e3] at c1
                have c1' : wi.cell? ⟨b, o + k, none⟩ = some (.string l[k * m + i]) := by rw [hT2.out.2.2.cell (p := ⟨b, o + k, none⟩) (cell_lt c1)]; exact c1
                have htk : l.take (k * m + i + 1) = l.take (k * m + i) ++ [l[k * m + i]] := List.take_succ_eq_append_getElem hkl
                have HTK := Lib.hid htk
                clear c1 e3 htk
                generalize l[k * m + i] = x at *
                have hb2 : Below wi.heap.size wi (wi.alloc (.cells #[.string x] 9)) := (Below.refl _ _).alloc (Nat.le_refl _) _
                obtain ⟨A1, c2, w1, hrun, h4, h5, h6⟩ := tx_app (m := [x]) (hT2.out.1.keep hb2) (src_one (s := x) (u := wi.alloc (.cells #[.string x] 9)) (heap_alloc_new wi _)) (by rw [List.length_singleton]; omega)
                have HE2 : Hid (TxR w1 (.slice A1 (l.take (k * m + i) ++ [x]).length c2) (l.take (k * m + i) ++ [x]) ∧ (∀ b, Value.ownBlock (.slice A1 (l.take (k * m + i) ++ [x]).length c2) = some b → z2.heap.size ≤ b) ∧ Below z2.heap.size z2 w1) := by
                  refine ⟨h4, fun b' hb' => ?_, below_grown (hT2.out.2.2.alloc hT2.out.2.2.size _) h5 hT2.out.2.1⟩
                  rcases h6 b' hb' with h | h
                  · exact hT2.out.2.1 b' h
                  · have := hT2.out.2.2.size; have := hb2.size; omega
                obtain ⟨A9, c9, rfl, -, -⟩ := hT2.out.1.slice
                have hln2 : (l.take (k * m + i) ++ [x]).length = (l.take (k * m + i)).length + [x].length := by simp
                rw [hln2] at HE2
                have HR := Lib.hid hrun
                clear hrun h4 h5 h6 hb2 hln2
                generalize (l.take (k * m + i)).length = q at *
                go_wp2_with (at_builtin; refine Lib.wpList_append_run _ rfl _ _ _ _ rfl _ _ rfl rfl _ _ HR.out ?_)
                go_meet
                rw [HTK.out]
                exact HE2.out
              · have hz3 : ¬ (k : Int) < ((rowP m l i).length : Int) := by omega
                have htk : l.take (k * m + i + 1) = l.take (k * m + i) := by
                  have := HR2.out
                  rw [List.take_of_length_le (by omega), List.take_of_length_le (by omega)]
                have HTK := Lib.hid htk
                clear htk
                go_wp2_with fail
                go_meet
                rw [HTK.out]
                exact hT2.out
            case rest =>
              obtain ⟨e1, e2⟩ := hfin.out _ hcut.2.2
              have HT3 := Lib.hid hcut
              clear hcut d1' hT2 hfin
              generalize (rowP m l i).length = li at *
              generalize (rowP m l 0).length = l0 at *
              have g1 : ¬ (l0 : Int) - (li : Int) > 1 := by omega
              have g2 : ¬ (li : Int) > (l0 : Int) := by omega
              have g3 : wrap64 ((l0 : Int) - (li : Int)) = (l0 : Int) - (li : Int) := by unfold wrap64; omega
              have g4 : decide ((l0 : Int) - (li : Int) > 1) = false := decide_eq_false g1
              have g5 : decide ((li : Int) > (l0 : Int)) = false := decide_eq_false g2
              go_wp2_with fail
              go_quiet (fail)
              have HT4 : Hid (TxR (wc.drewN nq) u9 (l.take (k * m + (i + 1))) ∧ (∀ b, u9.ownBlock = some b → z2.heap.size ≤ b) ∧ Below z2.heap.size z2 (wc.drewN nq)) :=
                ⟨HT3.out.1.block (fun _ _ => rfl), HT3.out.2.1, HT3.out.2.2.trans ⟨rfl, rfl, rfl, Nat.le_refl _, fun _ _ => rfl⟩⟩
              go_wp2_with fail
              exact ⟨⟨i + 1, by go_num, by omega, HT4⟩, by simp [intOf]; omega⟩
          · have hz2 : ¬ (i : Int) < (m : Int) := by omega
            obtain rfl : i = m := by omega
            go_wp2_with fail
            exact ⟨⟨k + 1, by go_num, by omega, by rw [Nat.add_mul, Nat.one_mul]; exact hT2.out⟩, by simp [intOf]; omega⟩
      · have hz : ¬ (k : Int) ≤ (n : Int) := by omega
        have hfull : l.take (k * m) = l := by
          refine List.take_of_length_le ?_
          have h1 : (n + 1) * 1 ≤ k * m := Nat.mul_le_mul (by omega) hm0
          have := HN.out
          omega
        rw [hfull] at hT
        obtain ⟨A9, c9, rfl, -, -⟩ := hT.out.1.slice
        have hb3 := hT.out.2.2
        have ht := texts_yes _ A9 a0 c9 cap0 n l hT.out.1.cs (H.out.keep (below_after hb3 HB2.out)) HN.out.symm (by omega)
        have HT := Lib.hid ht
        have HB3 := Lib.hid (below_after hb3 HB2.out)
        clear hfull hT ht hb3
        rw [HN.out]
        go_wp2_with fail
        refine HT.out.mono ?_
        rintro e w' ⟨rfl, q, rfl⟩
        go_wp2_with fail
        go_ret
        exact ⟨rfl, HB3.out.trans ⟨rfl, rfl, rfl, Nat.le_refl _, fun _ _ => rfl⟩⟩
  · have HE := Lib.hid (fun (u : World) (hb : Below W.heap.size W u) => even_no u a0 cap0 n p l (H.out.keep hb) HN.out.symm (by omega) he)
    obtain ⟨tv, htv⟩ := errV_ne he
    rw [htv] at HE
    clear he htv
    go_enter Try.func4, Try.ntmps4
    go_wp2_with fail
    refine HF.out.mono ?_
    rintro e u ⟨B, A, c, rfl, h1, hb⟩
    have he := HE.out u hb
    have HB := Lib.hid hb
    clear hb
    go_wp2_with fail
    refine he.mono ?_
    rintro e w' ⟨rfl, hb2⟩
    have HB2 := Lib.hid (below_after hb2 HB.out)
    clear hb2
    go_wp2_with fail
    go_ret
    exact ⟨rfl, HB2.out⟩
end
end Go.Proofs.Ytfkeokeedljomaa
