/- Merge, walked. -/
import Derived.Test.YthcgjbpiiodlgaaDoorAp
namespace Go.Proofs.YthcgjbpiiodlgaaDoor
open Go.RowKit Mp
set_option linter.unusedVariables false

theorem mg_take {M : List Ln} {K : List ByteArray} {f : ByteArray → List Int} (h : M = K.map fun k => (k, f k)) (k : Nat) (hk : k < K.length) : M.take (k + 1) = M.take k ++ [(K[k], f K[k])] := by
  subst h
  rw [List.take_succ_eq_append_getElem (by simpa using hk)]
  simp
set_option maxRecDepth 100000 in
set_option maxHeartbeats 2000000 in
theorem merge_any (w : World) (la lb : Option Addr) (c d n m : Nat) (a b : List Ln) (ha : LnsAt w la a) (hb : LnsAt w lb b) (hn : n = a.length) (hm : m = b.length) (hl : n < 9223372036854775808) (hl2 : m < 9223372036854775808) :
    Calls Tryd.prog 11 #[.slice la n c, .slice lb m d] w fun e w' => ∃ A cc, e = .returned (.tuple #[.slice A (mgV a b).length cc, errV (mgE a b)]) ∧ LnsAt w' A (mgV a b) ∧ (mgV a b).length ≤ cc ∧ Below w.heap.size w w' := by
  have HB := Lib.hid (both_any w la lb c d n m a b ha hb hn hm hl hl2)
  by_cases h0 : bothE a b = 0
  · obtain ⟨okA, okB⟩ := both_ok h0
    have hn4 : n ≤ 400 := by rw [hn]; exact okA.len
    have hm4 : m ≤ 400 := by rw [hm]; exact okB.len
    have HK1 := Lib.hid (fun (u : World) (hu : Below w.heap.size w u) => byKey_any u la c n a (lns_b ha hu) hn hn4 okA.ris)
    have HK2 := Lib.hid (fun (u : World) (hu : Below w.heap.size w u) => byKey_any u lb d m b (lns_b hb hu) hm hm4 okB.ris)
    have HKA := Lib.hid (fun (u : World) (hu : Below w.heap.size w u) => allKeys_any u la lb c d n m a b (lns_b ha hu) (lns_b hb hu) hn hm hn4 hm4 okA.ris okB.ris)
    have HKS := Lib.hid (keys_size (key_size ha) (key_size hb))
    have hB := HB.out
    rw [h0] at hB
    have HBB := Lib.hid hB
    have HE1 : Hid (mgE a b = linesE (mergeP a b)) := by show _ = _; unfold mgE; rw [if_pos h0]
    have HLA := Lib.hid (getD_len okA)
    have HLB := Lib.hid (getD_len okB)
    have HMB := Lib.hid (merge_by a b okA.ris okB.ris)
    have HFO := Lib.hid (lines_four (ris_mergeP a b okA.ris okB.ris) (merge_ne a b (fun l hl => (okA.one l hl).1) (fun l hl => (okB.one l hl).1)))
    have hkl := merge_len a b
    have HV1 : Hid (linesE (mergeP a b) = 0 → mgV a b = mergeP a b) := fun e => by unfold mgV; rw [if_pos (HE1.out.trans e)]
    have HV2 : Hid (linesE (mergeP a b) ≠ 0 → mgV a b = []) := fun e => by unfold mgV; rw [if_neg (fun h => e (HE1.out.symm.trans h))]
    have HKM : Hid ((keysOf (mergeP a b)).length = (mergeP a b).length) := by show _ = _; simp [keysOf]
    generalize mgE a b = E at *
    generalize mgV a b = V at *
    obtain ⟨K, hK⟩ : ∃ K, keysOf (mergeP a b) = K := ⟨_, rfl⟩
    rw [hK] at HKA HKS HKM HMB
    generalize mergeP a b = M at *
    obtain ⟨N, hN⟩ : ∃ N, K.length = N := ⟨_, rfl⟩
    have HN := Lib.hid hN
    have hN4 : N ≤ 800 := by have := HKM.out; omega
    rw [hN] at HKA
    clear h0 okA okB hB hK hN ha hb hn hm HB hl hl2 hkl
    have e0 : errV 0 = .nilIface := rfl
    go_enter Tryd.func11, Tryd.ntmps11
    go_wp2_with fail
    refine HBB.out.mono ?_
    rintro e w1 ⟨rfl, b1⟩
    have H1 := Lib.hid (HK1.out w1 b1)
    have HB1 := Lib.hid b1
    clear b1
    go_wp2_with fail
    refine H1.out.mono ?_
    rintro e w2 ⟨M1, g1, rfl, km1, -, of1, b2⟩
    have b2' := below_after b2 HB1.out
    have H2 := Lib.hid (HK2.out w2 b2')
    have HM1 : Hid (KmIs w2 M1 n g1 ∧ ofKey w2 a g1) := ⟨km1, of1⟩
    have HB2 := Lib.hid b2'
    clear b2 b2' km1 of1
    go_wp2_with fail
    refine H2.out.mono ?_
    rintro e w3 ⟨M2, g2, rfl, km2, -, of2, b3⟩
    have b3' := below_after b3 HB2.out
    have H3 := Lib.hid (HKA.out w3 b3')
    have HM2 : Hid ((KmIs w3 M1 n g1 ∧ ofKey w3 a g1) ∧ KmIs w3 M2 m g2 ∧ ofKey w3 b g2) := ⟨⟨HM1.out.1.keep b3, HM1.out.2.keep b3⟩, km2, of2⟩
    have HB3 := Lib.hid b3'
    clear b3 b3' km2 of2
    go_wp2_with fail
    refine H3.out.mono ?_
    rintro e w4 ⟨A, cc, rfl, ka, -, b4⟩
    have HM3 : Hid ((KmIs w4 M1 n g1 ∧ ofKey w4 a g1) ∧ (KmIs w4 M2 m g2 ∧ ofKey w4 b g2) ∧ CsAt w4 A (kcells K)) := ⟨⟨HM2.out.1.1.keep b4, HM2.out.1.2.keep b4⟩, ⟨HM2.out.2.1.keep b4, HM2.out.2.2.keep b4⟩, ka⟩
    have HB4 := Lib.hid (below_after b4 HB3.out)
    clear b4 ka
    have H00 : Hid (LxM w4 w4 (.slice none 0 0) (M.take 0)) := LxM.nil w4
    go_wp2_with fail
    go_loopw [9, 11, 27] (fun vv _ vi wr => ∃ k : Nat, vi = .int .i64 (k : Int) ∧ k ≤ N ∧ Hid (LxM w4 wr vv (M.take k))) (fun _ _ vi _ => N - (intOf vi).toNat)
    case atStart => exact ⟨0, rfl, by omega, H00⟩
    case round =>
      obtain ⟨k, rfl, hk, hL⟩ := hrel
      by_cases hlt : k < N
      · have hi : (k : Int) < (N : Int) := by omega
        have k1 : k < K.length := by have := HN.out; omega
        have hB := hL.out.below
        obtain ⟨b, o, rfl, c0⟩ := key_at (HM3.out.2.2.keep hB) k k1
        have hks := HKS.out K[k] (List.getElem_mem k1)
        have l1 := (HM3.out.1.1.keep hB).look K[k] hks
        have l2 := (HM3.out.2.1.1.keep hB).look K[k] hks
        obtain ⟨fa, fc, e1, i1, q1, q2⟩ := (HM3.out.1.2.keep hB) K[k]
        obtain ⟨fb, fd, e2, i2, q3, q4⟩ := (HM3.out.2.1.2.keep hB) K[k]
        rw [e1] at l1
        rw [e2] at l2
        have hmt := mg_take HMB.out k k1
        have hla := HLA.out K[k]
        have hlb := HLB.out K[k]
        have hMl : (M.take k).length = k := by have := HKM.out; have := HN.out; simp; omega
        clear e1 e2
        generalize hz : getD a K[k] = z at *
        generalize hy : getD _ K[k] = y at *
        generalize K[k] = key at *
        clear hz hy
        obtain ⟨A0, c1, rfl, hc1, hc2⟩ := hL.out.slice
        rw [hMl] at hc1 hL
        have hzl : z.length ≤ 400 := hla
        have hyl : y.length ≤ 400 := hlb
        have hlt1 : ∀ g, Value.ownBlock (.slice A0 k c1) = some g → g < wr.heap.size := fun g hg => by
          obtain ⟨X, x1, -, -⟩ := hL.out
          exact (x1.1.lt hg).1
        have hW1 : Below wr.heap.size wr (wr.alloc (.cells #[.slice fa z.length fc, .slice fb y.length fd] 37)) := (Below.refl _ _).alloc (Nat.le_refl _) _
        have hcat := in_concat (wr.alloc (.cells #[.slice fa z.length fc, .slice fb y.length fd] 37)) (some ⟨wr.heap.size, 0, none⟩) 2 2 [⟨fa, z.length, fc, icells z⟩, ⟨fb, y.length, fd, icells y⟩]
          (.inr ⟨_, _, rfl, fun j u hu => by rw [Nat.zero_add]; exact cell_new _ _ _ (by simpa [slV] using hu)⟩) rfl (by omega)
          (by
            intro X hX u hu
            simp only [List.mem_cons, List.not_mem_nil, or_false] at hX
            rcases hX with rfl | rfl
            · exact src_cs Tryd.underlying37 (((ints_cs i1).keep hW1).keep hu) (by simp [icells]) (by omega) (icells_one _)
            · exact src_cs Tryd.underlying37 (((ints_cs i2).keep hW1).keep hu) (by simp [icells]) (by omega) (icells_one _))
          (by simp [allN]; omega)
        have hput : ∀ u v, Made (wr.alloc (.cells #[.slice fa z.length fc, .slice fb y.length fd] 37)) u 3 1 v (z.length + y.length) (icells (z ++ y)) →
            ∃ Av cv, v = .slice Av (z.length + y.length) cv ∧ ∃ A2 c2 w2, (Builtin.append_ #[22, 22] 22 #[.slice A0 k c1, .slice (some ⟨u.heap.size, 0, none⟩) 1 1]).run Tryd.prog (u.alloc (.cells #[.string key, .slice Av (z.length + y.length) cv] 39)) = .ok (.slice A2 (k + 1) c2) w2 ∧ LxM w4 w2 (.slice A2 (k + 1) c2) (M.take (k + 1)) := by
          intro u v hv
          obtain ⟨Av, cv, rfl, v1, v2⟩ := hv.1.slice
          have hlen : (z ++ y).length = z.length + y.length := by simp
          have hu : Below wr.heap.size wr u := below_after hv.2.2 hW1
          have hI : IntsAt u Av (z ++ y) := cs_ints hv.1.cells
          have hne : NeO u (.slice A0 k c1) (z ++ y) Av := by
            rcases hI with h | ⟨b', o', rfl, _⟩
            · exact .inl h
            · refine .inr ⟨b', o', rfl, (hv.1.lt (b := b') rfl).1, fun e => ?_⟩
              have h1 := hlt1 b' e
              have h2 := hv.2.1 b' rfl
              simp at h2; omega
          obtain ⟨A2, c2, w2, r1, r2, -⟩ := (hL.out.keep hu).put (l := (key, z ++ y)) hI (by simp only [hlen]; exact v1) v2 hks (by rw [hMl]; omega) hne
          rw [hMl] at r1 r2
          simp only [hlen] at r1
          exact ⟨Av, cv, rfl, A2, c2, w2, r1, by rw [hmt]; exact r2⟩
        have e1 : allN [⟨fa, z.length, fc, icells z⟩, ⟨fb, y.length, fd, icells y⟩] = z.length + y.length := by simp [allN]
        have e2 : allC [⟨fa, z.length, fc, icells z⟩, ⟨fb, y.length, fd, icells y⟩] = icells (z ++ y) := by simp [allC, icells]
        rw [e1, e2] at hcat
        have HCAT := Lib.hid hcat
        have HPUT := Lib.hid hput
        clear hcat hput e1 e2 hW1 hlt1 hc1 hc2 hL i1 i2 hmt hla hlb hB q2 q4
        generalize icells (z ++ y) = ic at *
        generalize z.length = p at *
        generalize y.length = q at *
        go_wp2_with fail
        refine HCAT.out.mono ?_
        rintro e u ⟨v, rfl, hv⟩
        obtain ⟨Av, cv, rfl, A2, c2, w2, hrun, hL2⟩ := HPUT.out u v hv
        have HR := Lib.hid hrun
        have HL2 := Lib.hid hL2
        clear hv hrun hL2 HPUT HCAT
        go_wp2_with (at_builtin; refine Lib.wpList_append_run _ rfl _ _ _ _ rfl _ _ rfl rfl _ _ HR.out ?_)
        exact ⟨⟨k + 1, by go_num, by omega, HL2⟩, by simp [intOf]; omega⟩
      · have hi : ¬ (k : Int) < (N : Int) := by omega
        have ht : M.take k = M := List.take_of_length_le (by have := HKM.out; have := HN.out; omega)
        rw [ht] at hL
        have hMl : M.length = N := by have := HKM.out; have := HN.out; omega
        obtain ⟨Av, cv, hv, hc1, hc2⟩ := hL.out.slice
        rw [hMl] at hv hc1
        subst hv
        have hLn := hL.out.lines hMl.symm
        have HCK := Lib.hid (check_any wr Av cv N M hLn hMl.symm (by omega))
        have HLn := Lib.hid hLn
        have HBe := Lib.hid (below_after hL.out.below HB4.out)
        have HML := Lib.hid hMl
        clear ht hL hMl hLn
        by_cases hE : linesE M = 0
        · have hck := HCK.out
          rw [hE] at hck
          have HCC := Lib.hid hck
          have HV := Lib.hid (HV1.out hE)
          have HEE : Hid (E = 0) := HE1.out.trans hE
          clear hck hE HCK
          go_wp2_with fail
          refine HCC.out.mono ?_
          rintro e w5 ⟨rfl, b5⟩
          have H5 : Hid (LnsAt w5 Av M ∧ Below w.heap.size w w5) := ⟨lns_b HLn.out b5, below_after b5 HBe.out⟩
          clear b5
          go_wp2_with fail
          go_ret2
          exact ⟨Av, cv, by rw [HEE.out, HV.out, HML.out]; rfl, by rw [HV.out]; exact H5.out.1, by rw [HV.out, HML.out]; exact hc1, H5.out.2⟩
        · obtain ⟨tv, hv⟩ := errV_ne hE
          have hck := HCK.out
          rw [hv] at hck
          have HCC := Lib.hid hck
          have HV := Lib.hid (HV2.out hE)
          have HEE : Hid (errV E = .iface 42 tv) := by show _ = _; rw [HE1.out]; exact hv
          clear hck hE HCK hv
          go_wp2_with fail
          refine HCC.out.mono ?_
          rintro e w5 ⟨rfl, b5⟩
          have H5 : Hid (Below w.heap.size w w5) := below_after b5 HBe.out
          clear b5
          go_wp2_with fail
          go_ret2
          exact ⟨none, 0, by rw [HEE.out, HV.out]; rfl, by rw [HV.out]; exact .inl rfl, by rw [HV.out]; simp, H5.out⟩
  · obtain ⟨tv, hv⟩ := errV_ne h0
    have HE : Hid (mgE a b = bothE a b) := by show _ = _; unfold mgE; rw [if_neg h0]
    have HV0 : Hid (mgV a b = []) := by show _ = _; unfold mgV; rw [if_neg (by rw [HE.out]; exact h0)]
    have hB := HB.out
    rw [hv] at hB
    have HBB := Lib.hid hB
    have HV := Lib.hid hv
    clear hB HB h0 hv ha hb hn hm
    go_enter Tryd.func11, Tryd.ntmps11
    go_wp2_with fail
    refine HBB.out.mono ?_
    rintro e w1 ⟨rfl, b1⟩
    have HB1 := Lib.hid b1
    clear b1
    go_wp2_with fail
    go_ret2
    exact ⟨none, 0, by rw [HE.out, HV.out, HV0.out]; rfl, by rw [HV0.out]; exact .inl rfl, by rw [HV0.out]; simp, HB1.out⟩
end Go.Proofs.YthcgjbpiiodlgaaDoor
