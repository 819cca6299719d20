/- KeyedMoves: the walk. -/
import Derived.Test.YtiofpimchbhfcabQn
namespace Go.Proofs.Ytiofpimchbhfcab
open Go.RowKit Go.Shelf
set_option linter.unusedVariables false

theorem infoBs : (Try.prog.info? 35).map (fun i => (i.zero, i.size, i.bytes)) = some (some (.slice none 0 0), 1, 24) := by kernel_rfl
theorem row_keep {w w' : World} {B n e m : Nat} {v : Value} {xs : List Value} (h : w.ownsRow B e m v n xs) (hb : Below w.heap.size w w') : w'.ownsRow B e m v n xs := by
  refine ⟨h.1, ?_⟩
  rcases h.2 with h0 | ⟨g, cap, cur, h0, h1, h2, h3⟩
  · exact .inl h0
  · exact .inr ⟨g, cap, cur, h0, h1, by rw [hb.block g (some_lt h2)]; exact h2, h3⟩
theorem whole_parts (w : World) (pa : Option Addr) (c : Nat) (T : List Pt) (S : List Hd) (hg : GoodL S) (P : Nat) (p1 : 1 ≤ (P : Int)) (p2 : (P : Int) ≤ 16) (hC : CsAt w pa (T.map ptV)) (hT : ∀ t ∈ T, PtOk w t) (hTl : T.length = P) (hTb : ∀ j (h : j < T.length), T[j].2.2 = lstB hdB (S.filter (inR (bgn P j) (bgn P (j + 1))))) :
    Calls Try.prog 10 #[.slice pa P c] w fun e w' => ∃ A cap, e = .returned (.tuple #[.slice A (lstB hdB S).length cap, .nilIface]) ∧ Bz w' A cap (lstB hdB S) ∧ Below w.heap.size w w' := by
  have H := whole_any w pa c T (partsP S P P) hC hT (by omega) (by rw [partsP_len, hTl]) (fun i h h' => by
    rw [hTb i h, good_read (hg.filter _)]
    simp [partsP])
  rw [hTl] at H
  refine H.mono ?_
  rintro e w' ⟨h1, hb⟩
  obtain ⟨a1, a2⟩ := parts_all hg.2.2 p1 p2 P (Int.le_refl _)
  rw [bgn_end p1 p2, part_all] at a1 a2
  rw [a1, a2, if_neg (by omega), if_neg (by have := hg.1; omega)] at h1
  obtain ⟨A, cap, e1, e2, -⟩ := h1
  exact ⟨A, cap, e1, e2, hb⟩
theorem new_ex (w : World) : ∃ R M, w.heap.size ≤ M ∧ w.heap.size ≤ R ∧ Calls Try.prog 5 #[] w fun e w' => e = .returned (.pointer (some ⟨R, 0, none⟩)) ∧ KyAt w' R M [] ∧ Below w.heap.size w w' := ⟨_, _, Nat.le_refl _, by omega, new_any w⟩
set_option maxRecDepth 100000 in
set_option maxHeartbeats 1000000 in
theorem moves_walk (w : World) (la : Option Addr) (c : Nat) (L : List Hd) (p q : Int) (h : CsAt w la (hcells L)) (hok : ∀ r ∈ L, OkHd r) (hlen : L.length ≤ 9223372036854775807) :
    Calls Try.prog 3 #[.slice la L.length c, .int .i64 p, .int .i64 q] w fun e w' => e = .returned (.bool true) ∧ Below w.heap.size w w' := by
  have HN := new_any w
  have e0 : errV 0 = .nilIface := rfl
  obtain ⟨i0, hi, hz0, hz1, hz2⟩ := info_parts infoBs
  go_enter Try.func3, Try.ntmps3
  go_wp2_with (go_at_call 5; refine HN.mono ?_; rintro e w1 ⟨rfl, k1, b1⟩; refine Hid.out ?_)
  refine Lib.hid ?_
  have HP1 := put_ok k1 ⟨1, ⟨#[97]⟩, 5, 0⟩ (by decide) (.inr (by simp)) (by simp)
  rw [putP_nil, e0] at HP1
  simp only [hdV] at HP1
  clear HN
  go_wp2_with (go_at_call 6; refine HP1.mono ?_; rintro e w2 ⟨rfl, k2, f2⟩; refine Hid.out ?_)
  refine Lib.hid ?_
  have HG := get_any k2 1 ⟨#[97]⟩ ⟨⟨by omega, by omega⟩, by decide⟩
  have ef : findH [⟨1, ⟨#[97]⟩, 5, 0⟩] 1 ⟨#[97]⟩ = some (⟨1, ⟨#[97]⟩, 5, 0⟩ : Hd) := (findH_iff k2.mp.ris _ _ _).2 ⟨by simp, rfl, rfl⟩
  rw [ef] at HG
  simp only [hdV, e0] at HG
  have B2 : Below w.heap.size w w2 := b1.trans (f2.toBelow b1.size (by simp))
  clear HP1 k1 f2 b1 k2 ef
  go_wp2_with (go_at_call 7; refine HG.mono ?_; rintro e w3 ⟨rfl, b3⟩; refine Hid.out ?_)
  refine Lib.hid ?_
  have B3 := B2.trans (b3.mono B2.size)
  have B4 : Below w.heap.size w (w3.alloc (.cells #[.int .i64 1, .string ⟨#[97]⟩, .int .i64 5, .int .i64 0] 29)) := B3.alloc B3.size _
  clear HG b3 B2 B3
  by_cases hin : (1 ≤ p ∧ p ≤ 16) ∧ (1 ≤ q ∧ q ≤ 16) ∧ L.length ≤ 100
  · obtain ⟨⟨p1, p2⟩, ⟨q1, q2⟩, hL⟩ := hin
    have p1' : ¬ p < 1 := by omega
    have p2' : ¬ 16 < p := by omega
    have q1' : ¬ q < 1 := by omega
    have q2' : ¬ 16 < q := by omega
    have hL' : ¬ (100 : Int) < L.length := by omega
    obtain ⟨R, M, hM0, hR0, HN⟩ := new_ex (w3.alloc (.cells #[.int .i64 1, .string ⟨#[97]⟩, .int .i64 5, .int .i64 0] 29))
    have hM : w.heap.size ≤ M := Nat.le_trans B4.size hM0
    go_wp2_with (go_at_call 5; refine HN.mono ?_; rintro e w5 ⟨rfl, k5, b5⟩; refine Hid.out ?_)
    refine Lib.hid ?_
    have B5 := B4.trans (b5.mono B4.size)
    clear HN B4 b5 hM0 hR0
    have HH := Lib.hid (fun (u : World) (hb : Below w.heap.size w u) => h.keep hb)
    have HO := Lib.hid hok
    clear h hok
    go_wp2_with fail
    go_loopw [12] (fun i wr => ∃ k : Nat, k ≤ L.length ∧ i = .int .i64 k ∧ KyAt wr R M (stK L k) ∧ Below w.heap.size w wr) (fun i _ => L.length - (intOf i).toNat)
    case atStart => exact ⟨0, by omega, rfl, k5, B5⟩
    case round =>
      clear k5 B5
      obtain ⟨k, hk, rfl, hK, hB⟩ := hrel
      by_cases hlt : k < L.length
      · have hlt' : (k : Int) < L.length := by omega
        obtain ⟨b, o, rfl, c0, c1, c2, c3⟩ := hds_at (HH.out wr hB) k hlt
        have hsn := stK_succ L k hlt
        have hsl := stK_len L k (by omega)
        have hor := HO.out _ (List.getElem_mem hlt)
        have HP : Calls Try.prog 6 #[.pointer (some ⟨R, 0, none⟩), hdV L[k]] wr fun e w' => ∃ v, e = .returned v ∧ KyAt w' R M (stK L (k + 1)) ∧ Below w.heap.size w w' := by
          rw [hsn]
          unfold goodP
          cases hbad : badHd L[k] with
          | true =>
            refine (put_bad hK L[k] (by have := hor.2.1; omega) hbad).mono ?_
            rintro e w' ⟨e1, e2⟩
            exact ⟨_, e1, by simpa using hK.keep e2, hB.trans (e2.mono hB.size)⟩
          | false =>
            refine (put_ok hK L[k] hbad (.inr (by omega)) (by omega)).mono ?_
            rintro e w' ⟨e1, e2, e3⟩
            exact ⟨_, e1, by simpa using e2, hB.trans (e3.toBelow hB.size (by simpa using hM))⟩
        clear hsn hor hK hB hsl
        generalize hS1 : stK L (k + 1) = S1 at *
        have HS1 := Lib.hid hS1
        clear hS1
        generalize L[k] = r at *
        obtain ⟨nd, key, a, bv⟩ := r
        simp only [hdV] at c0 c1 c2 c3 HP
        go_wp2_with (go_at_call 6; refine HP.mono ?_; rintro e u1 ⟨v1, rfl, K1, B1⟩)
        go_roundw
        case rel => exact ⟨k + 1, by omega, by go_num, by rw [HS1.out]; exact K1, B1⟩
        case measure => simp [intOf]; omega
      · have hkn : ¬ (k : Int) < L.length := by omega
        have hg := stK_goodL HO.out k hk (by omega)
        have hsl := stK_len L k hk
        generalize stK L k = S at *
        obtain ⟨P, rfl⟩ : ∃ P : Nat, p = P := ⟨p.toNat, by omega⟩
        obtain ⟨Q, rfl⟩ : ∃ Q : Nat, q = Q := ⟨q.toNat, by omega⟩
        have HG := Lib.hid hg
        clear HH HO hg
        go_wp2_with fail
        go_loopw [13, 14] (fun v i wr => ∃ (k : Nat) (T : List Pt), k ≤ P ∧ T.length = k ∧ i = .int .i64 k ∧ wr.ownsRow w.heap.size 35 1 v k (T.map ptV) ∧ Hid (∀ j (h : j < T.length), T[j].2.2 = lstB hdB (S.filter (inR (bgn P j) (bgn P (j + 1))))) ∧ Hid (∀ t ∈ T, PtOk wr t ∧ LyAt wr t.1 5) ∧ KyAt wr R M S ∧ Below w.heap.size w wr) (fun _ i _ => P - (intOf i).toNat)
        case atStart => exact ⟨0, [], by omega, rfl, rfl, World.ownsRow_nil _ _ _ _, Lib.hid (by intro j h; simp at h), Lib.hid (by simp), hK, hB⟩
        case round =>
          clear hK hB
          obtain ⟨k, T, hk, hTk, rfl, own, hTb, hTo, hK, hB⟩ := hrel
          by_cases hlt : k < P
          · have hlt' : (k : Int) < P := by omega
            have hst := bgn_step (p := (P : Int)) (i := (k : Int)) p1 p2 (by omega) hlt'
            have HRg := fun u => Range_yes (P : Int) (k : Int) u p1 p2 (by omega) hlt'
            have HE := export_ok hK HG.out (bgn P k) (bgn P (k + 1)) (by simp [rngB]; omega)
            have hgf := HG.out.filter (inR (bgn P k) (bgn P (k + 1)))
            have hlz := lsth_le (good_zero hgf) (fun r hr => (hgf.2.1 r hr).2)
            have HTb : Hid (∀ Bl, Bl = lstB hdB (S.filter (inR (bgn P k) (bgn P (k + 1)))) → ∀ A1 c1, ∀ j (h : j < (T ++ [((A1, c1, Bl) : Pt)]).length), (T ++ [((A1, c1, Bl) : Pt)])[j].2.2 = lstB hdB (S.filter (inR (bgn P j) (bgn P (j + 1))))) := Lib.hid (fun Bl hBl A1 c1 j h => by
              rw [List.length_append, List.length_singleton] at h
              by_cases hj : j < T.length
              · rw [List.getElem_append_left hj]; exact hTb.out j hj
              · have ej : j = k := by omega
                subst ej
                rw [List.getElem_append_right (by omega)]
                simp only [hTk, Nat.sub_self, List.getElem_cons_zero]
                exact hBl)
            generalize hBl : lstB hdB (S.filter (inR (bgn P k) (bgn P (k + 1)))) = Bl at *
            have HTb2 := Lib.hid (HTb.out Bl rfl)
            clear hTb HTb hBl hst hgf
            generalize bgn P k = lo at *
            generalize bgn P (k + 1) = hi2 at *
            go_wp2_with (first | (go_at_call 8; refine (HRg _).mono ?_; rintro e w' ⟨rfl, rfl⟩) | (go_at_call 9; refine HE.mono ?_; rintro e u1 ⟨A1, c1, rfl, z1, y1, b1⟩; refine Hid.out ?_))
            refine Lib.hid ?_
            have own1 := row_keep own b1
            have B1 := hB.trans (b1.mono hB.size)
            have hs1 : w.heap.size ≤ u1.heap.size := B1.size
            have K1 := hK.keep b1
            have T1 := Lib.hid (fun (t : Pt) (ht : t ∈ T) => (⟨(hTo.out t ht).1.keep b1, (hTo.out t ht).2.below b1⟩ : PtOk u1 t ∧ LyAt u1 t.1 5))
            have tk1 : PtOk u1 (A1, c1, Bl) := ⟨z1, by show Bl.length ≤ _; omega⟩
            have HK1 := Lib.hid K1
            clear HE HRg b1 own hB hK hTo z1 K1 hlz
            go_wp2_with (at_builtin; refine wpList_append_own _ rfl _ _ 32 rfl w.heap.size 35 i0 (.slice none 0 0) 1 24 Try.underlying32 hi hz0 hz1 hz2 rfl (by decide) _ _ _ rfl (own1.alloc _) ⟨u1.heap.size, 0, none⟩ 1 1 [.slice A1 Bl.length c1] rfl rfl (by intro j u' hj; match j, hj with | 0, hj => simp at hj; subst hj; simp [Addr.add]) (by intro u' hu'; simp at hu'; subst hu'; rfl) (by unfold maxLen; omega) (by omega) (by simp; omega) ?_)
            intro v2 u2 o2 g2 _
            refine Hid.out ?_
            refine Lib.hid ?_
            have kp2 : KpT u1 u2 := KpT.grown (w1 := u1.alloc (.cells #[.slice A1 Bl.length c1] 35)) (fun j hj => Below.heap_alloc _ _ _ hj) (by simp) g2 (own1.alloc _)
            have B2 : Below w.heap.size w u2 := (B1.alloc hs1 _).grown g2 (by simp; omega) (fun j hj => by have := (own1.lt j hj).1; omega)
            have K2 := HK1.out.kp kp2
            have o2' : u2.ownsRow w.heap.size 35 1 v2 (k + 1) ((T ++ [((A1, c1, Bl) : Pt)]).map ptV) := by simpa [ptV] using o2
            have TT2 : Hid (∀ t ∈ T ++ [((A1, c1, Bl) : Pt)], PtOk u2 t ∧ LyAt u2 t.1 5) := Lib.hid (fun t ht => by
              rcases List.mem_append.1 ht with ht | ht
              · exact ⟨(T1.out t ht).1.kp (T1.out t ht).2 kp2, (T1.out t ht).2.kp kp2 (by decide)⟩
              · rw [List.mem_singleton] at ht; subst ht; exact ⟨tk1.kp y1 kp2, y1.kp kp2 (by decide)⟩)
            clear o2 g2 T1 tk1 kp2 own1 y1 HK1
            go_wp2_with fail
            go_roundw
            case rel => exact ⟨k + 1, T ++ [(A1, c1, Bl)], by omega, by simp [hTk], by go_num, o2', Lib.hid (HTb2.out A1 c1), TT2, K2, B2⟩
            case measure => simp [intOf]; omega
          · have ek : k = P := by omega
            subst ek
            obtain ⟨pa, ca, rfl⟩ := row_slice own
            have hC := (own_cs own (by rw [List.length_map, hTk, Nat.mul_one])).1
            have HW := whole_parts wr pa ca T S HG.out k p1 p2 hC (fun t ht => (hTo.out t ht).1) hTk hTb.out
            have hkn : ¬ (k : Int) < (k : Int) := by omega
            clear own hTb hTo hC
            go_wp2_with (go_at_call 10; refine HW.mono ?_; rintro e U ⟨AU, cU, rfl, zU, bU⟩; refine Hid.out ?_)
            refine Lib.hid ?_
            have BU := hB.trans (bU.mono hB.size)
            have KU := hK.keep bU
            obtain ⟨Ra, Ma, hMa, hRa, HN⟩ := new_ex U
            clear HW hK hB bU
            go_wp2_with (go_at_call 5; refine HN.mono ?_; rintro e u4 ⟨rfl, k4, b4⟩; refine Hid.out ?_)
            refine Lib.hid ?_
            clear HN
            have hlB := lsth_le (good_zero HG.out) (fun r hr => (HG.out.2.1 r hr).2)
            have hrB := good_read HG.out
            generalize hBl : lstB hdB S = Bl at *
            have HZ := Lib.hid (fun (u : World) (hb : Below U.heap.size U u) => zU.keep hb)
            have HKU := Lib.hid (fun (u : World) (hb : Below U.heap.size U u) => KU.keep hb)
            have HRB := Lib.hid hrB
            clear hBl zU KU hrB hkn
            have hb0 : S.filter (inR 0 (bgn Q ((0 : Nat) : Int))) = [] := by rw [show bgn (Q : Int) ((0 : Nat) : Int) = 0 from bgn_zero q1 q2, part_zero]
            have HB0 := Lib.hid hb0
            clear hb0
            go_wp2_with fail
            go_loopw [23, 24] (fun nv i wr => ∃ k n : Nat, k ≤ Q ∧ i = .int .i64 k ∧ nv = .int .i64 n ∧ Hid (n = (S.filter (inR 0 (bgn Q k))).length) ∧ n ≤ 100 ∧ KyAt wr Ra Ma (S.filter (inR 0 (bgn Q k))) ∧ Below U.heap.size U wr) (fun _ i _ => Q - (intOf i).toNat)
            case atStart => exact ⟨0, 0, by omega, rfl, rfl, Lib.hid (by rw [HB0.out]; rfl), by omega, by rw [HB0.out]; exact k4, b4⟩
            case round =>
              clear k4 b4 HB0
              obtain ⟨i, n, hiQ, rfl, rfl, hn, hn1, hK, hB⟩ := hrel
              by_cases hlt : i < Q
              · have hlt' : (i : Int) < Q := by omega
                have hst := bgn_step (p := (Q : Int)) (i := (i : Int)) q1 q2 (by omega) hlt'
                have HRg := fun u => Range_yes (Q : Int) (i : Int) u q1 q2 (by omega) hlt'
                have hpp := part_put HG.out.2.2 (b := bgn Q i) (b' := bgn Q (i + 1)) (by omega)
                have hpl := part_len S (b := bgn Q i) (b' := bgn Q (i + 1)) (by omega) (by omega)
                have hfl := List.length_filter_le (inR 0 (bgn Q (i + 1))) S
                have hF := HG.out.filter (inR (bgn Q i) (bgn Q (i + 1)))
                have hFn := putAll_nil hF.2.2
                have hwho : ∀ r ∈ S.filter (inR (bgn Q i) (bgn Q (i + 1))), who Q (gH r) = i := fun r hr => by
                  have := (List.mem_filter.1 hr).2
                  simp [inR] at this
                  exact who_of q1 q2 (by omega) hlt' this.1 this.2
                have hrng : rngB (bgn Q i) (bgn Q (i + 1)) = true := by simp [rngB]; omega
                have HIm := fun (u : World) (Ro Mo : Nat) (hu : Below U.heap.size U u) (ho : KyAt u Ro Mo []) => import_ok ho (by simp) (bgn Q i) (bgn Q (i + 1)) hrng AU cU Bl S (HZ.out u hu) (by omega) HRB.out
                have hcast : ((i + 1 : Nat) : Int) = (i : Int) + 1 := by omega
                have HPP : Hid (putAll (S.filter (inR 0 (bgn Q i))) (S.filter (inR (bgn Q i) (bgn Q (i + 1)))) = S.filter (inR 0 (bgn Q ((i + 1 : Nat) : Int)))) := Lib.hid (by rw [hcast]; exact hpp)
                have HPL : Hid (n + (S.filter (inR (bgn Q i) (bgn Q (i + 1)))).length = (S.filter (inR 0 (bgn Q ((i + 1 : Nat) : Int)))).length) := Lib.hid (by rw [hcast, hn.out]; exact hpl)
                have hnF : n + (S.filter (inR (bgn Q i) (bgn Q (i + 1)))).length ≤ 100 := by rw [hn.out, hpl]; omega
                have hS0 : (S.filter (inR 0 (bgn Q i))).length = n := hn.out.symm
                have HIh := Lib.hid HIm
                have HWo := Lib.hid hwho
                have HFg := Lib.hid hF
                have HFn := Lib.hid hFn
                have HR0 := Lib.hid (HG.out.2.2.filter (inR 0 (bgn Q i)))
                clear hst hpp hpl hfl hF hFn hwho hrng HIm hcast hn
                generalize S.filter (inR (bgn Q i) (bgn Q (i + 1))) = F at *
                generalize S.filter (inR 0 (bgn Q i)) = S0 at *
                generalize bgn Q i = lo at *
                generalize bgn Q (i + 1) = hi2 at *
                obtain ⟨Ro, Mo, hMo, hRo, HN⟩ := new_ex wr
                go_wp2_with (first | (go_at_call 8; refine (HRg _).mono ?_; rintro e w' ⟨rfl, rfl⟩) | (go_at_call 5; refine HN.mono ?_; rintro e u5 ⟨rfl, k5, b5⟩; refine Hid.out ?_))
                refine Lib.hid ?_
                have B5 := hB.trans (b5.mono hB.size)
                have Ka5 := hK.keep b5
                have hRaL := hK.lt
                have hMaL := hK.ltM
                have HI := HIh.out u5 Ro Mo B5 k5
                unfold ImEnd at HI
                rw [HFn.out] at HI
                have hF4 : ¬ 400 < F.length := by have := HFg.out.1; omega
                simp only [if_neg hF4, e0] at HI
                clear hF4
                clear HN HRg HIh k5 b5 hK
                go_wp2_with (go_at_call 11; refine HI.mono ?_; rintro e u6 ⟨rfl, M6, hM6, k6, f6⟩; refine Hid.out ?_)
                refine Lib.hid ?_
                have Ka6 : KyAt u6 Ra Ma S0 := Ka5.fr f6 (by simp; omega) (by simp; omega)
                have B6 := B5.trans (f6.toBelow B5.size (by intro x hx; simp at hx; subst hx; exact Nat.le_trans hB.size hRo))
                have HA := all_any k6 (by have := HFg.out.1; omega)
                clear HI Ka5 B5 f6 k6 hB
                go_wp2_with (go_at_call 12; refine HA.mono ?_; rintro e u7 ⟨A7, c7, rfl, hs7, hc7, b7⟩; refine Hid.out ?_)
                refine Lib.hid ?_
                have Ka7 := Ka6.keep b7
                have B7 := B6.trans (b7.mono B6.size)
                have C7 := hs7.cs
                clear HA Ka6 B6 b7 hs7 hc7
                go_wp2_with fail
                go_loopw [23, 31] (fun nv jv wr => ∃ j : Nat, j ≤ F.length ∧ jv = .int .i64 j ∧ nv = .int .i64 ((n + j : Nat) : Int) ∧ KyAt wr Ra Ma (putAll S0 (F.take j)) ∧ CsAt wr A7 (hcells F) ∧ Below U.heap.size U wr) (fun _ jv _ => F.length - (intOf jv).toNat)
                case atStart => exact ⟨0, by omega, rfl, by simp, by simpa [putAll] using Ka7, C7, B7⟩
                case round =>
                  clear Ka7 C7 B7
                  obtain ⟨j, hj, rfl, rfl, hK, hc, hB⟩ := hrel
                  by_cases hjt : j < F.length
                  · have hjt' : (j : Int) < F.length := by omega
                    obtain ⟨b, o, rfl, c0, c1, c2, c3⟩ := hds_at hc j hjt
                    have hmF := List.getElem_mem hjt
                    have hgo := (HFg.out.2.1 _ hmF).1
                    have hpl := putAll_len hK.mp.ris (F.take j)
                    have hpl2 := putAll_len (l := S0) (by
                      have := hK.mp.ris
                      exact HR0.out) (F.take j)
                    rw [List.length_take] at hpl2
                    have hsn := putAll_take S0 F j hjt
                    have HOf := fun u => Of_any F[j].key u (good_ok hgo).2
                    have HOw := fun u => Owner_yes (Q : Int) (gH F[j]) u q1 q2 (gH_bd _).1 (gH_bd _).2
                    rw [HWo.out _ hmF] at HOw
                    have HP := put_ok hK F[j] hgo (.inr (by omega)) (by omega)
                    rw [← hsn, e0] at HP
                    have hgh : grp (hsh F[j].key.data.toList) = gH F[j] := rfl
                    rw [hgh] at HOf
                    have HCM := Lib.hid (fun (u : World) (f : Fr [Ma] wr u) => csM hc hK.mp f)
                    clear hsn hpl hpl2 hgh hmF hgo
                    generalize hS1 : putAll S0 (F.take (j + 1)) = S1 at *
                    have HS1 := Lib.hid hS1
                    generalize gH F[j] = gg at *
                    generalize F[j] = r at *
                    obtain ⟨nd, key, a, bv⟩ := r
                    simp only [hdV] at c0 c1 c2 c3 HOf HP
                    clear hS1 hc hK
                    go_wp2_with (first | (go_at_call 14; refine (HOf _).mono ?_; rintro e w' ⟨rfl, rfl⟩) | (go_at_call 13; refine (HOw _).mono ?_; rintro e w' ⟨rfl, rfl⟩) | (go_at_call 6; refine HP.mono ?_; rintro e u8 ⟨rfl, k8, f8⟩; refine Hid.out ?_))
                    refine Lib.hid ?_
                    have C8 := HCM.out u8 f8
                    have B8 := hB.trans (f8.toBelow hB.size (by intro x hx; simp at hx; subst hx; exact hMa))
                    clear HP HOf HOw HCM f8 c0 c1 c2 c3
                    go_wp2_with fail
                    go_roundw
                    case rel => exact ⟨j + 1, by omega, by go_num, by go_num, by rw [HS1.out]; exact k8, C8, B8⟩
                    case measure => simp [intOf]; omega
                  · have ej : F.take j = F := List.take_of_length_le (by omega)
                    have ejl : j = F.length := by omega
                    rw [ej, HPP.out] at hK
                    have hjn : ¬ (j : Int) < F.length := by omega
                    have HKe := Lib.hid hK
                    clear ej hc hK
                    go_wp2_with fail
                    go_roundw
                    case rel => exact ⟨i + 1, n + j, by omega, by go_num, rfl, Lib.hid (by rw [ejl]; exact HPL.out), by omega, HKe.out, hB⟩
                    case measure => simp [intOf]; omega
              · have ei : i = Q := by omega
                subst ei
                have hend : S.filter (inR 0 (bgn i i)) = S := by rw [bgn_end q1 q2, part_all]
                rw [hend] at hK
                have hnS : n = S.length := by rw [hn.out, hend]
                have HA1 := all_any hK (by omega)
                have hin : ¬ (i : Int) < (i : Int) := by omega
                clear hend hn
                go_wp2_with (go_at_call 12; refine HA1.mono ?_; rintro e u5 ⟨A5, c5, rfl, hs5, hc5, b5⟩; refine Hid.out ?_)
                refine Lib.hid ?_
                have B5 := hB.trans (b5.mono hB.size)
                have HA2 := all_any (HKU.out u5 B5) (by omega)
                clear HA1 hK
                go_wp2_with (go_at_call 12; refine HA2.mono ?_; rintro e u6 ⟨A6, c6, rfl, hs6, hc6, b6⟩; refine Hid.out ?_)
                refine Lib.hid ?_
                have B6 := B5.trans (b6.mono B5.size)
                have HSm := sameHds_any u6 A5 A6 c5 c6 S (hs5.cs.keep b6) hs6.cs (by omega)
                clear HA2 hs5 hs6 b5 b6
                go_wp2_with (go_at_call 15; refine HSm.mono ?_; rintro e u7 ⟨rfl, b7⟩; refine Hid.out ?_)
                refine Lib.hid ?_
                have B7 := B6.trans (b7.mono B6.size)
                have HA3 := all_any (HKU.out u7 B7) (by omega)
                subst hnS
                clear HSm b7
                go_wp2_with (go_at_call 12; refine HA3.mono ?_; rintro e u8 ⟨A8, c8, rfl, hs8, hc8, b8⟩; refine Hid.out ?_)
                refine Lib.hid ?_
                have B8 := BU.trans ((B7.trans (b8.mono B7.size)).mono BU.size)
                clear HA3 hs8 b8
                go_wp2_with fail
                go_ret
                exact ⟨rfl, B8⟩
  · by_cases a1 : p < 1
    · clear hin
      go_wp2_with fail
      go_ret
      exact ⟨rfl, B4⟩
    · by_cases a2 : 16 < p
      · clear hin
        go_wp2_with fail
        go_ret
        exact ⟨rfl, B4⟩
      · by_cases a3 : q < 1
        · clear hin
          go_wp2_with fail
          go_ret
          exact ⟨rfl, B4⟩
        · by_cases a4 : 16 < q
          · clear hin
            go_wp2_with fail
            go_ret
            exact ⟨rfl, B4⟩
          · have a5 : (100 : Int) < L.length := by omega
            clear hin
            go_wp2_with fail
            go_ret
            exact ⟨rfl, B4⟩
end Go.Proofs.Ytiofpimchbhfcab
