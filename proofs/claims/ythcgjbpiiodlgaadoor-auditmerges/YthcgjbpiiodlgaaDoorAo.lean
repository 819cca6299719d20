/- Judge. -/
import Derived.Test.YthcgjbpiiodlgaaDoorAn
import Derived.Test.YthcgjbpiiodlgaaDoorPo
import Derived.Test.YthcgjbpiiodlgaaDoorAe
import Derived.Test.YthcgjbpiiodlgaaDoorPureQf
namespace Go.Proofs.YthcgjbpiiodlgaaDoor
open Go.RowKit Mp
set_option linter.unusedVariables false

theorem results_tmp4 {fn : Func} {t u v x : Tmp} (h : fn.results = #[.tmp t, .tmp u, .tmp v, .tmp x]) (tmps : Array Value) (P : Program) (w : World) :
    (results fn tmps).run P w = .ok (.tuple #[tmps.getD t undef, tmps.getD u undef, tmps.getD v undef, tmps.getD x undef]) w := by
  simp [results, h]
/-- All numbers of lines are such as a machine has. -/
theorem RgL.getD {L : List Ln} (h : RgL L) (k : ByteArray) : ∀ x ∈ getD L k, I64 x := by
  intro x hx
  by_cases e : Go.Proofs.YthcgjbpiiodlgaaDoor.getD L k = []
  · rw [e] at hx; cases hx
  · exact h _ (getD_mem e) x hx
noncomputable def jdV (W G : List Ln) : Nat × ByteArray × Nat := if bothE W G = 0 then judgeP W G else (0, ByteArray.empty, 0)
theorem both_ok {W G : List Ln} (h : bothE W G = 0) : LOk W ∧ LOk G := by
  unfold bothE at h
  by_cases e : linesE W = 0
  · rw [if_pos e] at h; exact ⟨lines_ok e, lines_ok h⟩
  · rw [if_neg e] at h; exact absurd h e
theorem both_good {W G : List Ln} (h1 : LOk W) (h2 : LOk G) : bothE W G = 0 := by
  unfold bothE; rw [if_pos (lines_good h1)]; exact lines_good h2
theorem key_at {w : World} {A : Option Addr} {l : List ByteArray} (h : CsAt w A (kcells l)) (k : Nat) (hk : k < l.length) : ∃ b o, A = some ⟨b, o, none⟩ ∧ w.cell? ⟨b, o + k, none⟩ = some (.string l[k]) := by
  rcases h with h | ⟨b, o, rfl, hc⟩
  · have : (kcells l).length = 0 := by rw [h]; rfl
    simp [kcells] at this; subst this; simp at hk
  · exact ⟨b, o, rfl, hc k _ (by simp [kcells, hk])⟩
theorem key_size {w : World} {la : Option Addr} {L : List Ln} (h : LnsAt w la L) : ∀ l ∈ L, l.1.size ≤ 9223372036854775807 := by
  intro l hl
  obtain ⟨i, hi, rfl⟩ := List.getElem_of_mem hl
  obtain ⟨_, _, _, _, _, _, _, _, _, _, h7⟩ := ln_at h i hi
  exact h7
theorem keys_size {a b : List Ln} (ha : ∀ l ∈ a, l.1.size ≤ 9223372036854775807) (hb : ∀ l ∈ b, l.1.size ≤ 9223372036854775807) : ∀ k ∈ keysOf (mergeP a b), k.size ≤ maxLen := by
  intro k hk
  unfold maxLen
  rcases (mem_keys_merge a b k).1 hk with h | h
  · obtain ⟨l, hl, rfl⟩ := List.mem_map.1 h; exact ha l hl
  · obtain ⟨l, hl, rfl⟩ := List.mem_map.1 h; exact hb l hl

set_option maxRecDepth 100000 in
set_option maxHeartbeats 2000000 in
theorem judge_any (w : World) (la lb : Option Addr) (c d n m : Nat) (W G : List Ln) (ha : LnsAt w la W) (hb : LnsAt w lb G) (hn : n = W.length) (hm : m = G.length) (hl : n < 9223372036854775808) (hl2 : m < 9223372036854775808) (hW : RgL W) (hG : RgL G) :
    Calls Tryd.prog 9 #[.slice la n c, .slice lb m d] w fun e w' => e = .returned (.tuple #[.int .i64 ((jdV W G).1 : Nat), .string (jdV W G).2.1, .int .i64 ((jdV W G).2.2 : Nat), errV (bothE W G)]) ∧ Below w.heap.size w w' := by
  have HB := Lib.hid (both_any w la lb c d n m W G ha hb hn hm hl hl2)
  by_cases h0 : bothE W G = 0
  · obtain ⟨okW, okG⟩ := both_ok h0
    have hn4 : n ≤ 400 := by rw [hn]; exact okW.len
    have hm4 : m ≤ 400 := by rw [hm]; exact okG.len
    have HK1 := Lib.hid (fun (u : World) (hu : Below w.heap.size w u) => byKey_any u la c n W (lns_b ha hu) hn hn4 okW.ris)
    have HK2 := Lib.hid (fun (u : World) (hu : Below w.heap.size w u) => byKey_any u lb d m G (lns_b hb hu) hm hm4 okG.ris)
    have HKA := Lib.hid (fun (u : World) (hu : Below w.heap.size w u) => allKeys_any u la lb c d n m W G (lns_b ha hu) (lns_b hb hu) hn hm hn4 hm4 okW.ris okG.ris)
    have HKS := Lib.hid (keys_size (key_size ha) (key_size hb))
    have hB := HB.out
    rw [h0] at hB
    have HBB := Lib.hid hB
    have hr : judgeK W G (keysOf (mergeP W G)) = judgeP W G := judgeK_is W G okW.ris okG.ris (fun l hl => (okW.one l hl).1)
    have HE : Hid (jdV W G = judgeP W G) := by show _ = _; unfold jdV; rw [if_pos h0]
    have HE0 : Hid (errV (bothE W G) = .nilIface) := by show _ = _; rw [h0]; rfl
    have HLW := Lib.hid (getD_len okW)
    have HLG := Lib.hid (getD_len okG)
    have HRW := Lib.hid hW.getD
    have HRG := Lib.hid hG.getD
    have HJ := Lib.hid (fun (u : World) (fa fb : Option Addr) (cc dd p q : Nat) (z g : List Int) => judge1_any u fa fb cc dd p q z g)
    rw [HE.out, HE0.out, ← hr]
    have hkl : (keysOf (mergeP W G)).length ≤ 100000 := by
      have h1 : ∀ (a b : List Ln), (mergeP a b).length ≤ a.length + b.length := by
        intro a b
        induction a, b using mergeP.induct with
        | case1 b => simp [mergeP]
        | case2 x A => simp [mergeP]
        | case3 x A y B h ih => rw [mergeP, if_pos h]; simp at ih ⊢; omega
        | case4 x A y B h e ih => rw [mergeP, if_neg h, if_pos e]; simp at ih ⊢; omega
        | case5 x A y B h e ih => rw [mergeP, if_neg h, if_neg e]; simp at ih ⊢; omega
      have := h1 W G
      simp [keysOf]; omega
    obtain ⟨K, hK⟩ : ∃ K, keysOf (mergeP W G) = K := ⟨_, rfl⟩
    rw [hK] at HKA HKS hkl ⊢
    generalize hR : judgeK W G K = r
    have HR := Lib.hid hR
    obtain ⟨N, hN⟩ : ∃ N, K.length = N := ⟨_, rfl⟩
    rw [hN] at HKA hkl
    have HN := Lib.hid hN
    clear h0 okW okG hB hr hW hG HE HE0 hK hR hN ha hb hn hm HB hl hl2
    have e0 : errV 0 = .nilIface := rfl
    go_enter Tryd.func9, Tryd.ntmps9
    go_wp2_with fail
    refine HBB.out.mono ?_
    rintro e w1 ⟨rfl, b1⟩
    have H1 := Lib.hid (HK1.out w1 b1)
    have HB1 := Lib.hid b1
    clear b1
    go_wp2_with fail
    refine H1.out.mono ?_
    rintro e w2 ⟨M1, g1, rfl, km1, -, of1, b2⟩
    have b2' := below_after b2 HB1.out
    have H2 := Lib.hid (HK2.out w2 b2')
    have HM1 : Hid (KmIs w2 M1 n g1 ∧ ofKey w2 W g1) := ⟨km1, of1⟩
    have HB2 := Lib.hid b2'
    clear b2 b2' km1 of1
    go_wp2_with fail
    refine H2.out.mono ?_
    rintro e w3 ⟨M2, g2, rfl, km2, -, of2, b3⟩
    have b3' := below_after b3 HB2.out
    have H3 := Lib.hid (HKA.out w3 b3')
    have HM2 : Hid ((KmIs w3 M1 n g1 ∧ ofKey w3 W g1) ∧ KmIs w3 M2 m g2 ∧ ofKey w3 G g2) := ⟨⟨HM1.out.1.keep b3, HM1.out.2.keep b3⟩, km2, of2⟩
    have HB3 := Lib.hid b3'
    clear b3 b3' km2 of2
    go_wp2_with fail
    refine H3.out.mono ?_
    rintro e w4 ⟨A, cc, rfl, ka, -, b4⟩
    have HM3 : Hid ((KmIs w4 M1 n g1 ∧ ofKey w4 W g1) ∧ (KmIs w4 M2 m g2 ∧ ofKey w4 G g2) ∧ CsAt w4 A (kcells K)) := ⟨⟨HM2.out.1.1.keep b4, HM2.out.1.2.keep b4⟩, ⟨HM2.out.2.1.keep b4, HM2.out.2.2.keep b4⟩, ka⟩
    have HB4 := Lib.hid (below_after b4 HB3.out)
    clear b4 ka
    go_wp2_with fail
    go_loopw [12, 13, 14, 29] (fun _ _ _ vi wr => ∃ k : Nat, vi = .int .i64 (k : Int) ∧ k ≤ N ∧ Hid (judgeK W G (K.drop k) = r) ∧ Hid (Below w4.heap.size w4 wr)) (fun _ _ _ vi _ => N - (intOf vi).toNat)
    case atStart => exact ⟨0, rfl, by omega, by show _ = _; rw [List.drop_zero]; exact HR.out, Below.refl _ _⟩
    case round =>
      obtain ⟨k, rfl, hk, hJ, hB⟩ := hrel
      by_cases hlt : k < N
      · have hi : (k : Int) < (N : Int) := by omega
        have k1 : k < K.length := by have := HN.out; omega
        obtain ⟨b, o, rfl, c0⟩ := key_at (HM3.out.2.2.keep hB.out) k k1
        have hks := HKS.out K[k] (List.getElem_mem k1)
        have l1 := (HM3.out.1.1.keep hB.out).look K[k] hks
        have l2 := (HM3.out.2.1.1.keep hB.out).look K[k] hks
        obtain ⟨fa, fc, e1, i1, q1, q2⟩ := (HM3.out.1.2.keep hB.out) K[k]
        obtain ⟨fb, fd, e2, i2, q3, q4⟩ := (HM3.out.2.1.2.keep hB.out) K[k]
        rw [e1] at l1
        rw [e2] at l2
        have hj := HJ.out wr fa fb fc fd _ _ _ _ i1 i2 rfl rfl (HLW.out K[k]) (HLG.out K[k]) (HRW.out K[k]) (HRG.out K[k]) q1 q3
        have hd := List.drop_eq_getElem_cons k1
        have hJ2 := hJ.out
        rw [hd, judgeK] at hJ2
        have HJ2 := Lib.hid hJ2
        have HJC := Lib.hid hj
        have hb5 : ∀ u, Below wr.heap.size wr u → Below w.heap.size w u := fun u hu => below_after hu (below_after hB.out HB4.out)
        have hb6 : ∀ u, Below wr.heap.size wr u → Below w4.heap.size w4 u := fun u hu => below_after hu hB.out
        have HB5 := Lib.hid hb5
        have HB6 := Lib.hid hb6
        clear hj hd hJ2 hJ i1 i2 e1 e2 hb5 hb6 hB
        generalize (getD W K[k]).length = p at *
        generalize (getD G K[k]).length = q at *
        generalize hjd : jdgP (getD W K[k]) (getD G K[k]) = jd at *
        generalize K[k] = key at *
        obtain ⟨jk, ja⟩ := jd
        clear hjd
        by_cases hz : jk = 0
        · have HE : Hid (judgeK W G (K.drop (k + 1)) = r) := by
            show _ = _
            have := HJ2.out
            rw [if_pos hz] at this; exact this
          subst hz
          clear HJ2
          go_wp2_with fail
          refine HJC.out.mono ?_
          rintro e w5 ⟨rfl, b5⟩
          have HB7 := Lib.hid (HB6.out w5 b5)
          clear b5
          go_wp2_with fail
          exact ⟨⟨k + 1, by go_num, by omega, HE, HB7⟩, by simp [intOf]; omega⟩
        · have HE : Hid (r = (jk, key, ja)) := by
            show _ = _
            have := HJ2.out
            rw [if_neg hz] at this; exact this.symm
          have hz2 : ((jk : Int) != 0) = true := by simp; omega
          clear HJ2 hz
          go_wp2_with fail
          refine HJC.out.mono ?_
          rintro e w5 ⟨rfl, b5⟩
          have HB7 := Lib.hid (HB5.out w5 b5)
          clear b5
          go_wp2_with fail
          refine bodyPost_ret (results_tmp4 rfl _ _ _) rfl ?_
          exact ⟨by rw [HE.out]; rfl, HB7.out⟩
      · have hi : ¬ (k : Int) < (N : Int) := by omega
        have HE : Hid (r = (0, ByteArray.empty, 0)) := by
          show _ = _
          rw [← hJ.out, List.drop_of_length_le (by have := HN.out; omega)]; rfl
        have HB7 := Lib.hid (below_after hB.out HB4.out)
        go_wp2_with fail
        refine bodyPost_ret (results_tmp4 rfl _ _ _) rfl ?_
        exact ⟨by rw [HE.out]; rfl, HB7.out⟩
  · obtain ⟨tv, hv⟩ := errV_ne h0
    have HE : Hid (jdV W G = (0, ByteArray.empty, 0)) := by show _ = _; unfold jdV; rw [if_neg h0]
    have hB := HB.out
    rw [hv] at hB
    have HBB := Lib.hid hB
    have HV := Lib.hid hv
    clear hB HB h0 hv ha hb hn hm hW hG
    go_enter Tryd.func9, Tryd.ntmps9
    go_wp2_with fail
    refine HBB.out.mono ?_
    rintro e w1 ⟨rfl, b1⟩
    have HB1 := Lib.hid b1
    clear b1
    go_wp2_with fail
    refine bodyPost_ret (results_tmp4 rfl _ _ _) rfl ?_
    exact ⟨by rw [HE.out, HV.out]; rfl, HB1.out⟩
end Go.Proofs.YthcgjbpiiodlgaaDoor
