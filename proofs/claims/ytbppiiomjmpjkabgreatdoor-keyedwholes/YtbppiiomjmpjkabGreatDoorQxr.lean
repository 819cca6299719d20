import Derived.Test.YtbppiiomjmpjkabGreatDoorQq
/- KeyedWholes: the walk, where more than ten rows came in, and there are too many. -/
namespace Go.Proofs.YtbppiiomjmpjkabGreatDoor
open Go.RowKit Go.Shelf
set_option linter.unusedVariables false

set_option maxRecDepth 100000 in
set_option maxHeartbeats 20000000 in
theorem wholes_e (w : World) (ls p : Option Addr) (cs cb : Nat) (S0 : List (List Hd)) (lb : List UInt8) (low high : Int) (h : HssAt w ls S0) (hlen : S0.length ≤ 9223372036854775807) (hok : ∀ l ∈ S0, (∀ r ∈ l, OkHd r) ∧ l.length ≤ 9223372036854775807) (hb0 : Bz w p cb lb) (hbl : lb.length ≤ 140737488355328) (hg : w.cell? ⟨0, 0, none⟩ = some ET) (hSc : 10 < S0.length) (hFc : ¬ (putAll [] (S0.take 10).flatten).length < (S0.take 10).flatten.length ∧ 400 < (putAll [] (S0.take 10).flatten).length) :
    Calls Tryz.prog 4 #[.slice ls S0.length cs, .slice p lb.length cb, .int .i64 low, .int .i64 high] w fun e w' => e = .returned (.bool true) ∧ Below w.heap.size w w' := by
  have e0 : errV 0 = .nilIface := rfl
  obtain ⟨i0, hi, hz0, hz1, hz2⟩ := info_parts infoBs
  have HH := Lib.hid (fun (u : World) (hb : Below w.heap.size w u) => h.keep hb)
  have HO := Lib.hid hok
  have HZ := Lib.hid (fun (u : World) (hb : Below w.heap.size w u) => hb0.keep hb)
  have HET := Lib.hid (fun (u : World) (hb : Below w.heap.size w u) => et_below hg hb)
  have HFC := Lib.hid hFc
  clear h hok hb0 hg hFc
  go_enter Tryz.func4, Tryz.ntmps4
  go_wp2_with fail
  go_loopw [9, 10, 11, 12] (fun vp va ve vi wr => ∃ (k e : Nat) (T : List Pt) (A : Option Addr) (ca : Nat) (S : List Hd), k ≤ S0.length ∧ k ≤ 10 ∧ T.length = k ∧ vi = .int .i64 k ∧ wr.ownsRow w.heap.size 39 1 vp k (T.map ptV) ∧ Hid (∀ j (h : j < T.length) (h' : j < (S0.take k).length), T[j].2.2 = lstB hdB (S0.take k)[j]) ∧ Hid (∀ t ∈ T, PtOk wr t ∧ LyAt wr t.1 5) ∧ va = .slice A S.length ca ∧ Hid (S = putAll [] (S0.take k).flatten) ∧ CsAt wr A (hcells S) ∧ LyAt wr A 27 ∧ ve = .int .i64 e ∧ Hid (e = clE (S0.take k).flatten) ∧ (e = 0 ∨ e = 8) ∧ Hid (∀ l ∈ S0.take k, GoodL l) ∧ S.length ≤ 400 * k ∧ Below w.heap.size w wr) (fun _ _ _ vi _ => 10 - (intOf vi).toNat)
  case atStart => exact ⟨0, 0, [], none, 0, [], by omega, by omega, rfl, rfl, World.ownsRow_nil _ _ _ _, Lib.hid (by intro j h; simp at h), Lib.hid (by simp), rfl, Lib.hid (by simp [putAll]), .inl rfl, .inl rfl, rfl, Lib.hid (by simp [clE_nil]), .inl rfl, Lib.hid (by simp), by simp, Below.refl _ _⟩
  case round =>
    obtain ⟨k, e, T, A, ca, S, hk, hk1, hTk, rfl, own, hTb, hTo, rfl, hS, hcS, hyS, rfl, he, he2, hgS, hSl, hB⟩ := hrel
    by_cases hlt : k < S0.length ∧ k < 10
    · obtain ⟨hlt, hlt1⟩ := hlt
      have hlt' : (k : Int) < S0.length := by omega
      have hlt1' : (k : Int) < 10 := by omega
      have HE := HH.out w (Below.refl _ _)
      rcases HE with HE | ⟨b, o, rfl, hc⟩
      · rw [HE] at hlt; simp at hlt
      obtain ⟨q, cq, c0w, hLw⟩ := hc k hlt
      have HQ := Lib.hid (fun (u : World) (hu : Below w.heap.size w u) => (⟨(hu.cell (cell_lt c0w)).trans c0w, hLw.keep hu⟩ : u.cell? ⟨b, o + k, none⟩ = some (.slice q S0[k].length cq) ∧ CsAt u q (hcells S0[k])))
      obtain ⟨c0, hL⟩ := HQ.out wr hB
      clear c0w hLw hc
      obtain ⟨hokX, hXn⟩ := HO.out _ (List.getElem_mem hlt)
      have htk : S0.take (k + 1) = S0.take k ++ [S0[k]] := List.take_succ_eq_append_getElem hlt
      have hlk : (S0.take k).length = k := by rw [List.length_take]; omega
      have HTb : Hid (∀ Bl, Bl = lstB hdB S0[k] → ∀ A1 c1, ∀ j (h : j < (T ++ [((A1, c1, Bl) : Pt)]).length) (h' : j < (S0.take (k + 1)).length), (T ++ [((A1, c1, Bl) : Pt)])[j].2.2 = lstB hdB (S0.take (k + 1))[j]) := Lib.hid (fun Bl hBl A1 c1 j h h' => by
        rw [List.length_append, List.length_singleton] at h
        by_cases hj : j < T.length
        · rw [List.getElem_append_left hj, hTb.out j hj (by omega)]
          simp [List.getElem_take]
        · have ej : j = k := by omega
          subst ej
          rw [List.getElem_append_right (by omega)]
          simp only [hTk, Nat.sub_self, List.getElem_cons_zero]
          rw [hBl]
          simp [List.getElem_take])
      have hfl : (S0.take (k + 1)).flatten = (S0.take k).flatten ++ S0[k] := by rw [htk, List.flatten_append]; simp
      have hgn : GoodL S0[k] → ∀ l ∈ S0.take (k + 1), GoodL l := fun hg l hl => by
        rw [htk] at hl
        rcases List.mem_append.1 hl with hl | hl
        · exact hgS.out l hl
        · simp at hl; rw [hl]; exact hg
      have HFL := Lib.hid hfl
      have HGN := Lib.hid hgn
      have HSH := shelds_any wr q cq S0[k] hL hXn hokX
      have HXE := Lib.hid (fun (hz : heldsE ltH S0[k] = 0) => zero_good hz hokX)
      clear hTb hfl hgn htk hlk hgS
      generalize hFk : (S0.take k).flatten = F at *
      have HFK := Lib.hid hFk
      clear hFk
      generalize S0[k] = X at *
      unfold SwEnd at HSH
      by_cases hE : heldsE ltH X = 0
      · simp only [hE, if_true] at HSH
        have hgX := HXE.out hE
        have hX4 := hgX.1
        have hlz := lsth_le hE (fun r hr => (hgX.2.1 r hr).2)
        have HGX := Lib.hid hgX
        have HTb2 := Lib.hid (HTb.out _ rfl)
        clear hE HXE hgX hokX HTb
        generalize lstB hdB X = Bl at *
        go_wp2_with (go_at_call 15; refine HSH.mono ?_; rintro e u1 ⟨⟨v1, rfl, ow1⟩, b1⟩; refine Hid.out ?_)
        refine Lib.hid ?_
        obtain ⟨A1, c1, rfl, z1⟩ := own_bz ow1
        have y1 := LyAt.of ow1
        have own1 := row_keep own b1
        have B1 := hB.trans (b1.mono hB.size)
        have hs1 : w.heap.size ≤ u1.heap.size := B1.size
        have C1 := hcS.keep b1
        have Y1 := hyS.below b1
        have T1 := Lib.hid (fun (t : Pt) (ht : t ∈ T) => (⟨(hTo.out t ht).1.keep b1, (hTo.out t ht).2.below b1⟩ : PtOk u1 t ∧ LyAt u1 t.1 5))
        have tk1 : PtOk u1 (A1, c1, Bl) := ⟨z1, by show Bl.length ≤ _; omega⟩
        clear HSH b1 own hB hcS hyS hTo z1 hlz ow1 c0 hL
        go_wp2_with (at_builtin; refine wpList_append_own _ rfl _ _ 47 rfl w.heap.size 39 i0 (.slice none 0 0) 1 24 Tryz.underlying47 hi hz0 hz1 hz2 rfl (by decide) _ _ _ rfl (own1.alloc _) ⟨u1.heap.size, 0, none⟩ 1 1 [.slice A1 Bl.length c1] rfl rfl (by intro j u' hj; match j, hj with | 0, hj => simp at hj; subst hj; simp [Addr.add]) (by intro u' hu'; simp at hu'; subst hu'; rfl) (by unfold maxLen; omega) (by omega) (by simp; omega) ?_)
        intro v2 u2 o2 g2 _
        refine Hid.out ?_
        refine Lib.hid ?_
        have kp2 : KpT u1 u2 := KpT.grown (w1 := u1.alloc (.cells #[.slice A1 Bl.length c1] 39)) (fun j hj => Below.heap_alloc _ _ _ hj) (by simp) g2 (own1.alloc _)
        have B2 : Below w.heap.size w u2 := (B1.alloc hs1 _).grown g2 (by simp; omega) (fun j hj => by have := (own1.lt j hj).1; omega)
        have o2' : u2.ownsRow w.heap.size 39 1 v2 (k + 1) ((T ++ [((A1, c1, Bl) : Pt)]).map ptV) := by simpa [ptV] using o2
        have TT2 : Hid (∀ t ∈ T ++ [((A1, c1, Bl) : Pt)], PtOk u2 t ∧ LyAt u2 t.1 5) := Lib.hid (fun t ht => by
          rcases List.mem_append.1 ht with ht | ht
          · exact ⟨(T1.out t ht).1.kp (T1.out t ht).2 kp2, (T1.out t ht).2.kp kp2 (by decide)⟩
          · rw [List.mem_singleton] at ht; subst ht; exact ⟨tk1.kp y1 kp2, y1.kp kp2 (by decide)⟩)
        have C2 := C1.kp Y1 kp2 (by decide)
        have Y2 := Y1.kp kp2 (by decide)
        have hT2l : (T ++ [((A1, c1, Bl) : Pt)]).length = k + 1 := by simp [hTk]
        have HTb3 := Lib.hid (HTb2.out A1 c1)
        clear o2 g2 T1 tk1 kp2 own1 y1 HTb2 C1 Y1 hs1 B1
        generalize T ++ [((A1, c1, Bl) : Pt)] = T2 at *
        clear hTk
        go_wp2_with fail
        go_loopw [10, 11, 15] (fun va ve vk wx => ∃ (n e : Nat) (A : Option Addr) (ca : Nat) (S : List Hd), n ≤ X.length ∧ vk = .int .i64 n ∧ va = .slice A S.length ca ∧ Hid (S = putAll [] (F ++ X.take n)) ∧ CsAt wx A (hcells S) ∧ LyAt wx A 27 ∧ ve = .int .i64 e ∧ Hid (e = clE (F ++ X.take n)) ∧ (e = 0 ∨ e = 8) ∧ S.length ≤ 400 * k + n ∧ Below u2.heap.size u2 wx) (fun _ _ vk _ => X.length - (intOf vk).toNat)
        case atStart => exact ⟨0, e, A, ca, S, by omega, rfl, rfl, Lib.hid (by rw [hS.out]; simp), C2, Y2, rfl, Lib.hid (by rw [he.out]; simp), he2, by omega, Below.refl _ _⟩
        case round =>
          rename World => wx
          clear hS he he2 hSl C2 Y2
          obtain ⟨n, e, A, ca, S, hn, rfl, rfl, hS, hcS, hyS, rfl, he, he2, hSl, hb⟩ := hrel
          have BX := B2.trans (hb.mono B2.size)
          obtain ⟨c0, hL⟩ := HQ.out wx BX
          by_cases hnt : n < X.length
          · have hnt' : (n : Int) < X.length := by omega
            have hXC : ∃ qb qo, q = some ⟨qb, qo, none⟩ ∧ ∀ u, Below w.heap.size w u → u.cell? ⟨b, o + k, none⟩ = some (.slice (some ⟨qb, qo, none⟩) X.length cq) ∧ u.cell? ⟨qb, qo + n * 4, none⟩ = some (.int .i64 X[n].nd) ∧ u.cell? ⟨qb, qo + n * 4 + 1, none⟩ = some (.string X[n].key) ∧ u.cell? ⟨qb, qo + n * 4 + 2, none⟩ = some (.int .i64 X[n].a) ∧ u.cell? ⟨qb, qo + n * 4 + 3, none⟩ = some (.int .i64 X[n].b) := by
              obtain ⟨qb, qo, rfl, -⟩ := hds_at hL n hnt
              refine ⟨qb, qo, rfl, fun u hu => ?_⟩
              obtain ⟨d0, hLu⟩ := HQ.out u hu
              obtain ⟨b', o', eb, q0, q1, q2, q3⟩ := hds_at hLu n hnt
              simp only [Option.some.injEq, Addr.mk.injEq, and_true] at eb
              obtain ⟨rfl, rfl⟩ := eb
              exact ⟨d0, q0, q1, q2, q3⟩
            obtain ⟨qb, qo, rfl, hXC⟩ := hXC
            have htn : F ++ X.take (n + 1) = (F ++ X.take n) ++ [X[n]] := by rw [List.take_succ_eq_append_getElem hnt, List.append_assoc]
            have hcl := clE_step (F ++ X.take n) X[n]
            rw [← hS.out, ← he.out, ← htn] at hcl
            have hps : putAll [] (F ++ X.take (n + 1)) = putP S X[n] := by rw [htn, putAll_snoc, ← hS.out]
            have hrS : RisH S := by rw [hS.out]; exact putAll_ris List.Pairwise.nil _
            have hpl := putP_len hrS X[n]
            have HPl := fun (u : World) (cu : CsAt u A (hcells S)) => plc_ly u A ca S X[n] true cu (by omega)
            have epl : plc X[n] (!true) S = putP S X[n] := plc_put hrS X[n]
            rw [epl] at HPl
            have HCl := Lib.hid hcl
            have HPs := Lib.hid hps
            have hpl2 : (putP S X[n]).length ≤ S.length + 1 := by split at hpl <;> omega
            clear htn hcl hps hrS hpl epl hL hS he
            generalize hS2 : putP S X[n] = S2 at *
            generalize X[n] = r at *
            obtain ⟨nd, key, a, bv⟩ := r
            simp only at hXC HCl
            simp only [hdV] at HPl
            have HXC := Lib.hid hXC
            clear hXC
            obtain ⟨x0, x1, x2, x3, x4⟩ := HXC.out wx BX
            have hHC : ∀ u, CsAt u A (hcells S) → ∀ j (h : j < S.length), ∃ b o, A = some ⟨b, o, none⟩ ∧ u.cell? ⟨b, o + j * 4, none⟩ = some (.int .i64 S[j].nd) ∧ u.cell? ⟨b, o + j * 4 + 1, none⟩ = some (.string S[j].key) := fun u hu j hj => by
              obtain ⟨b, o, e, q0, q1, -, -⟩ := hds_at hu j hj
              exact ⟨b, o, e, q0, q1⟩
            have HHC := Lib.hid hHC
            have HS2 := Lib.hid hS2
            clear hHC hS2 c0
            go_wp2_with fail
            go_loopw [11, 16] (fun ev jv wy => ∃ (j e' : Nat), j ≤ S.length ∧ jv = .int .i64 j ∧ ev = .int .i64 e' ∧ Hid (e' = if (findH (S.take j) nd key).isSome then 8 else e) ∧ (e' = 0 ∨ e' = 8) ∧ Below wx.heap.size wx wy) (fun _ jv _ => S.length - (intOf jv).toNat)
            case atStart => exact ⟨0, e, by omega, rfl, rfl, Lib.hid (by simp [findH]), he2, Below.refl _ _⟩
            case round =>
              rename World => wy
              obtain ⟨j, e', hj, rfl, rfl, he', he2', hb'⟩ := hrel
              have BY := BX.trans (hb'.mono BX.size)
              clear x0 x1 x2 x3 x4
              obtain ⟨x0, x1, x2, x3, x4⟩ := HXC.out wy BY
              by_cases hjt : j < S.length
              · have hjt' : (j : Int) < S.length := by omega
                obtain ⟨sb, so, rfl, c0, c1⟩ := HHC.out wy (hcS.keep hb') j hjt
                have hst := take_find S nd key j hjt
                have hia : isAt nd key S[j] = decide (S[j].nd = nd ∧ S[j].key = key) := rfl
                rw [hia] at hst
                have HST := Lib.hid hst
                clear hst hia
                generalize S[j].nd = xn at *
                generalize S[j].key = xk at *
                have hgoal : ((xn == nd) = true ∧ (xk.toList == key.toList) = true ∧ decide (xn = nd ∧ xk = key) = true) ∨ (((xn == nd) = false ∨ ((xn == nd) = true ∧ (xk.toList == key.toList) = false)) ∧ decide (xn = nd ∧ xk = key) = false) := by
                  by_cases h1 : xn = nd
                  · by_cases h2 : xk = key
                    · exact .inl ⟨by simpa using h1, by rw [h2]; exact str_eq key, by simp [h1, h2]⟩
                    · exact .inr ⟨.inr ⟨by simpa using h1, str_ne h2⟩, by simp [h2]⟩
                  · exact .inr ⟨.inl (by simpa using h1), by simp [h1]⟩
                rcases hgoal with ⟨n1, n2, n3⟩ | ⟨n1, n3⟩
                · have HE : Hid ((8 : Nat) = if (findH (S.take (j + 1)) nd key).isSome then 8 else e) := Lib.hid (by rw [HST.out, n3]; simp)
                  clear n3 he' he2' HST
                  go_wp2_with fail
                  go_quiet (fail)
                  go_wp2_with fail
                  go_roundw
                  case rel => exact ⟨j + 1, 8, by omega, by go_num, rfl, HE, .inr rfl, ⟨hb'.os, hb'.tape, hb'.output, hb'.size, hb'.block⟩⟩
                  case measure => simp [intOf]; omega
                · have HE : Hid (e' = if (findH (S.take (j + 1)) nd key).isSome then 8 else e) := Lib.hid (by rw [HST.out, n3, he'.out]; simp)
                  clear n3 he' HST
                  rcases n1 with n1 | ⟨n1, n2⟩
                  all_goals
                    go_wp2_with fail
                    go_quiet (fail)
                    go_wp2_with fail
                    go_roundw
                    case rel => exact ⟨j + 1, e', by omega, by go_num, rfl, HE, he2', ⟨hb'.os, hb'.tape, hb'.output, hb'.size, hb'.block⟩⟩
                    case measure => simp [intOf]; omega
              · have hjn : ¬ (j : Int) < S.length := by omega
                have hE1 := he'.out
                rw [List.take_of_length_le (by omega), ← HCl.out] at hE1
                have CY := hcS.keep hb'
                have HP7 := HPl wy CY
                have HE1 := Lib.hid hE1
                clear he' HHC HPl hcS hE1
                go_wp2_with (go_at_call 9; refine HP7.mono ?_; rintro e u7 ⟨A7, c7, rfl, C7, Y7, b7⟩; refine Hid.out ?_)
                refine Lib.hid ?_
                have b77 : Below u2.heap.size u2 u7 := hb.trans ((hb'.trans (b7.mono hb'.size)).mono hb.size)
                clear HP7 CY b7 x0 x1 x2 x3 x4
                go_wp2_with fail
                go_roundw
                case rel => exact ⟨n + 1, e', A7, c7, S2, by omega, by go_num, rfl, Lib.hid HPs.out.symm, C7, Y7, rfl, HE1, he2', by omega, b77⟩
                case measure => simp [intOf]; omega
          · have hnn : ¬ (n : Int) < X.length := by omega
            have en : X.take n = X := List.take_of_length_le (by omega)
            have hS3 := hS.out
            have he3 := he.out
            rw [en, ← HFL.out] at hS3 he3
            have HS3 := Lib.hid hS3
            have HE3 := Lib.hid he3
            have TT3 : Hid (∀ t ∈ T2, PtOk wx t ∧ LyAt wx t.1 5) := Lib.hid (fun t ht => ⟨(TT2.out t ht).1.keep hb, (TT2.out t ht).2.below hb⟩)
            have own3 := row_keep o2' hb
            clear hS he hS3 he3 en hL TT2 o2'
            go_wp2_with fail
            go_roundw
            case rel => exact ⟨k + 1, e, T2, A, ca, S, by omega, by omega, hT2l, by go_num, own3, HTb3, TT3, rfl, HS3, hcS, hyS, rfl, HE3, he2, Lib.hid (HGN.out HGX.out), by omega, BX⟩
            case measure => simp [intOf]; omega
      · have hE2 : ¬ ((heldsE ltH X : Nat) : Int) = 0 := by omega
        simp only [if_neg hE] at HSH
        generalize heldsE ltH X = z at *
        have hz : (((z : Nat) : Int) == 0) = false := by simpa using hE2
        go_wp2_with (go_at_call 15; refine HSH.mono ?_; rintro e u1 ⟨rfl, b1⟩; refine Hid.out ?_)
        refine Lib.hid ?_
        have B1 := hB.trans (b1.mono hB.size)
        clear HSH b1 hE
        go_wp2_with fail
        go_ret
        exact ⟨rfl, B1⟩
    · have hl1 : (k : Int) < S0.length := by omega
      have hl2 : ¬ (k : Int) < 10 := by omega
      have hte : S0.take k = S0.take 10 := by rw [show k = 10 from by omega]
      have hS2 := hS.out
      have he3 := he.out
      have hgS2 := hgS.out
      rw [hte] at hS2 he3 hgS2
      have hTb2 : ∀ j (h : j < T.length) (h' : j < (S0.take 10).length), T[j].2.2 = lstB hdB (S0.take 10)[j] := fun j h h' => by
        have := hTb.out j h (by rw [hte]; exact h')
        rw [this]
        simp [List.getElem_take]
      have hlk : (S0.take 10).length = k := by rw [← hte, List.length_take]; omega
      obtain ⟨pa, cpa, rfl⟩ := row_slice own
      have hCp := (own_cs own (by rw [List.length_map, hTk, Nat.mul_one])).1
      have HW := fun (u : World) (hu : Below wr.heap.size wr u) => whole_at u pa cpa T (S0.take 10) k (hCp.keep hu) (fun t ht => (hTo.out t ht).1.keep hu) hTk hk1 hlk hgS2 hTb2
      have hFg : ∀ r ∈ (S0.take 10).flatten, badHd r = false ∧ OkHd r := fun r hr => by
        obtain ⟨l, hl, hrl⟩ := List.mem_flatten.1 hr
        exact (hgS2 l hl).2.1 r hrl
      have hFC := HFC.out
      have HWh := Lib.hid HW
      have HFg := Lib.hid hFg
      clear HH HO hlt hTb hTo hgS hS he own hCp hTb2 hgS2 hte HFC HW hFg hlk hTk
      generalize (S0.take 10).flatten = F at *
      have e8 : e = 0 := by rw [he3]; unfold clE; rw [if_neg hFC.1]
      subst e8
      have HW1 := HWh.out wr (Below.refl _ _)
      unfold WhEnd at HW1
      simp only [if_neg hFC.1, if_pos hFC.2] at HW1
      have e8' : errV 4 = .iface 56 (.int .i64 4) := rfl
      rw [e8'] at HW1
      have hcn := conv_nil
      have hS4 : (400 : Int) < S.length := by have := hFC.2; rw [← hS2] at this; omega
      clear HWh he3 he2
      go_wp2_with (go_at_call 18; refine HW1.mono ?_; rintro e u1 ⟨rfl, b1⟩; refine Hid.out ?_)
      refine Lib.hid ?_
      have B1 := hB.trans (b1.mono hB.size)
      have HEr := error_yes 4 u1 (HET.out u1 B1)
      rw [e8'] at HEr
      clear HW1 b1 hB
      go_wp2_with (go_at_call 7; refine HEr.mono ?_; rintro e u2 ⟨rfl, b2⟩; refine Hid.out ?_)
      refine Lib.hid ?_
      have BV := B1.trans (b2.mono B1.size)
      clear HEr b2 B1 hcS hyS hS2 hFC HFg
      have HB0 := Lib.hid (HZ.out u2 BV)
      cases hr : rngB low high with
      | false =>
        have hx : low < 0 ∨ (¬ low < 0 ∧ high < low) ∨ (¬ low < 0 ∧ ¬ high < low ∧ 16 < high) := by simp [rngB] at hr; omega
        have HSR1 := read_any u2 p cb lb HB0.out hbl
        go_wp2_with (go_at_call 19; refine HSR1.mono ?_; rintro e u3 ⟨A3, n3, c3, ok3, rfl, b3⟩; refine Hid.out ?_)
        refine Lib.hid ?_
        have B3 := BV.trans (b3.mono BV.size)
        obtain ⟨R, M, hM, hR, HN⟩ := new_ex u3
        clear HSR1 b3 HB0
        go_wp2_with (go_at_call 5; refine HN.mono ?_; rintro e u4 ⟨rfl, k4, b4⟩; refine Hid.out ?_)
        refine Lib.hid ?_
        have HP := put_ok k4 ⟨0, ⟨#[97]⟩, 1, 0⟩ (by decide) (.inr (by simp)) (by simp)
        rw [putP_nil, e0] at HP
        simp only [hdV] at HP
        clear HN
        go_wp2_with (go_at_call 8; refine HP.mono ?_; rintro e u5 ⟨rfl, k5, f5⟩; refine Hid.out ?_)
        refine Lib.hid ?_
        have B5 : Below w.heap.size w u5 := (B3.trans (b4.mono B3.size)).trans (f5.toBelow (Nat.le_trans B3.size b4.size) (by intro x hx; simp at hx; subst hx; exact Nat.le_trans B3.size hM))
        have e1' : errV 1 = .iface 56 (.int .i64 1) := rfl
        clear HP k4 f5 b4 B3
        rcases hx with x1 | ⟨x1, x2⟩ | ⟨x1, x2, x3⟩
        all_goals
          go_wp2_with fail
          go_loopw [24, 25] (fun v i wr => ∃ (A : Option Addr) (ca : Nat) (S : List Hd), i = .int .i64 0 ∧ v = .slice A S.length ca ∧ S.length ≤ 1 ∧ CsAt wr A (hcells S) ∧ KyAt wr R M S ∧ Below w.heap.size w wr) (fun _ _ _ => 0)
          case atStart => exact ⟨_, 1, [⟨0, ⟨#[97]⟩, 1, 0⟩], rfl, rfl, by simp, cs_new4 u5 0 ⟨#[97]⟩ 1 0, k5.alloc _, B5.alloc B5.size _⟩
          case round =>
            clear k5 B5
            obtain ⟨A6, c6, S6, rfl, rfl, hS6, hC, hK, hB⟩ := hrel
            have HIm := import_rng (w := wr) (R := R) low high hr p cb lb.length
            have HEr := error_yes 1 wr (HET.out wr hB)
            rw [e1'] at HIm HEr
            have hT0 : ((0 : Int) < n3) ∨ ¬ ((0 : Int) < n3) := by omega
            have hS7 : ¬ (400 : Int) < S6.length := by omega
            rcases hT0 with hT0 | hT0
            all_goals
              go_wp2_with (go_at_call 17; refine HIm.mono ?_; rintro e u7 ⟨rfl, rfl⟩; refine Hid.out ?_)
            all_goals
              refine Lib.hid ?_
              go_wp2_with (go_at_call 7; refine HEr.mono ?_; rintro e u8 ⟨rfl, b8⟩; refine Hid.out ?_)
            all_goals
              refine Lib.hid ?_
              have K8 := hK.keep b8
              have C8 := hC.keep b8
              have B8 := hB.trans (b8.mono hB.size)
              have HA := all_any K8 (by omega)
              clear HIm HEr hK hC b8 hB
              go_wp2_with (go_at_call 13; refine HA.mono ?_; rintro e u9 ⟨A9, c9, rfl, hs9, hc9, b9⟩; refine Hid.out ?_)
            all_goals
              refine Lib.hid ?_
              have HSm := sameHds_any u9 A9 A6 c9 c6 S6 hs9.cs (C8.keep b9) (by omega)
              have B9 := B8.trans (b9.mono B8.size)
              clear HA K8 C8 hs9 hc9 b9 B8
              go_wp2_with (go_at_call 12; refine HSm.mono ?_; rintro e u10 ⟨rfl, b10⟩; refine Hid.out ?_)
            all_goals
              refine Lib.hid ?_
              have B10 := B9.trans (b10.mono B9.size)
              clear HSm b10 B9
              go_wp2_with fail
              go_ret
              exact ⟨rfl, B10⟩
      | true =>
        have hx : ¬ low < 0 ∧ ¬ high < low ∧ ¬ 16 < high := by simp [rngB] at hr; omega
        obtain ⟨x1, x2, x3⟩ := hx
        cases hX : readHds ltH lb with
        | none =>
          have HSR1 := read_no u2 p cb lb HB0.out hbl hX
          go_wp2_with (go_at_call 19; refine HSR1.mono ?_; rintro e u3 ⟨rfl, b3⟩; refine Hid.out ?_)
          refine Lib.hid ?_
          have B3 := BV.trans (b3.mono BV.size)
          obtain ⟨R, M, hM, hR, HN⟩ := new_ex u3
          clear HSR1 b3 HB0
          go_wp2_with (go_at_call 5; refine HN.mono ?_; rintro e u4 ⟨rfl, k4, b4⟩; refine Hid.out ?_)
          refine Lib.hid ?_
          have HP := put_ok k4 ⟨0, ⟨#[97]⟩, 1, 0⟩ (by decide) (.inr (by simp)) (by simp)
          rw [putP_nil, e0] at HP
          simp only [hdV] at HP
          clear HN
          go_wp2_with (go_at_call 8; refine HP.mono ?_; rintro e u5 ⟨rfl, k5, f5⟩; refine Hid.out ?_)
          refine Lib.hid ?_
          have B5 : Below w.heap.size w u5 := (B3.trans (b4.mono B3.size)).trans (f5.toBelow (Nat.le_trans B3.size b4.size) (by intro x hx; simp at hx; subst hx; exact Nat.le_trans B3.size hM))
          have e1' : errV 9 = .iface 56 (.int .i64 9) := rfl
          clear HP k4 f5 b4 B3
          go_wp2_with fail
          go_loopw [24, 25] (fun v i wr => ∃ (A : Option Addr) (ca : Nat) (S : List Hd), i = .int .i64 0 ∧ v = .slice A S.length ca ∧ S.length ≤ 1 ∧ CsAt wr A (hcells S) ∧ KyAt wr R M S ∧ Below w.heap.size w wr) (fun _ _ _ => 0)
          case atStart => exact ⟨_, 1, [⟨0, ⟨#[97]⟩, 1, 0⟩], rfl, rfl, by simp, cs_new4 u5 0 ⟨#[97]⟩ 1 0, k5.alloc _, B5.alloc B5.size _⟩
          case round =>
            clear k5 B5
            obtain ⟨A6, c6, S6, rfl, rfl, hS6, hC, hK, hB⟩ := hrel
            have HIm := import_bad (w := wr) (R := R) low high hr p cb lb (HZ.out wr hB) hbl hX
            have HEr := fun u hu => error_yes 9 u (HET.out u hu)
            rw [e1'] at HIm HEr
            have hS7 : ¬ (400 : Int) < S6.length := by omega
            go_wp2_with (go_at_call 17; refine HIm.mono ?_; rintro e u7 ⟨rfl, b7⟩; refine Hid.out ?_)
            refine Lib.hid ?_
            have K7 := hK.keep b7
            have C7 := hC.keep b7
            have B7 := hB.trans (b7.mono hB.size)
            have HEr7 := HEr u7 B7
            clear HIm HEr hK hC b7 hB
            go_wp2_with (go_at_call 7; refine HEr7.mono ?_; rintro e u8 ⟨rfl, b8⟩; refine Hid.out ?_)
            refine Lib.hid ?_
            have K8 := K7.keep b8
            have C8 := C7.keep b8
            have B8 := B7.trans (b8.mono B7.size)
            have HA := all_any K8 (by omega)
            clear HEr7 K7 C7 b8 B7
            go_wp2_with (go_at_call 13; refine HA.mono ?_; rintro e u9 ⟨A9, c9, rfl, hs9, hc9, b9⟩; refine Hid.out ?_)
            refine Lib.hid ?_
            have HSm := sameHds_any u9 A9 A6 c9 c6 S6 hs9.cs (C8.keep b9) (by omega)
            have B9 := B8.trans (b9.mono B8.size)
            clear HA K8 C8 hs9 hc9 b9 B8
            go_wp2_with (go_at_call 12; refine HSm.mono ?_; rintro e u10 ⟨rfl, b10⟩; refine Hid.out ?_)
            refine Lib.hid ?_
            have B10 := B9.trans (b10.mono B9.size)
            clear HSm b10 B9
            go_wp2_with fail
            go_ret
            exact ⟨rfl, B10⟩
        | some X =>
          have hgX := (read_good hX).1
          have hX4 := hgX.1
          have HGX := Lib.hid hgX
          have HRd := Lib.hid hX
          have HSR1 := read_yes u2 p cb lb HB0.out hbl hX
          clear hX hgX
          go_wp2_with (go_at_call 19; refine HSR1.mono ?_; rintro e u3 ⟨AX, cX, rfl, CX3, b3⟩; refine Hid.out ?_)
          refine Lib.hid ?_
          have B3 := BV.trans (b3.mono BV.size)
          obtain ⟨R, M, hM, hR, HN⟩ := new_ex u3
          clear HSR1 b3 HB0
          go_wp2_with (go_at_call 5; refine HN.mono ?_; rintro e u4 ⟨rfl, k4, b4⟩; refine Hid.out ?_)
          refine Lib.hid ?_
          have HP := put_ok k4 ⟨0, ⟨#[97]⟩, 1, 0⟩ (by decide) (.inr (by simp)) (by simp)
          rw [putP_nil, e0] at HP
          simp only [hdV] at HP
          have CX4 := CX3.keep b4
          clear HN CX3
          go_wp2_with (go_at_call 8; refine HP.mono ?_; rintro e u5 ⟨rfl, k5, f5⟩; refine Hid.out ?_)
          refine Lib.hid ?_
          have B5 : Below w.heap.size w u5 := (B3.trans (b4.mono B3.size)).trans (f5.toBelow (Nat.le_trans B3.size b4.size) (by intro x hx; simp at hx; subst hx; exact Nat.le_trans B3.size hM))
          have CX5 := csM CX4 k4.mp f5
          obtain ⟨L0, hL0⟩ : ∃ L0 : List Hd, L0 = [⟨0, ⟨#[97]⟩, 1, 0⟩] := ⟨_, rfl⟩
          have hL1 : L0.length = 1 := by rw [hL0]; rfl
          rw [← hL0] at k5
          have HL0 := Lib.hid hL0
          have hR5 : w.heap.size ≤ R := Nat.le_trans B3.size hR
          clear HP k4 f5 b4 B3 CX4 hL0 hM
          go_wp2_with fail
          go_loopw [24, 25] (fun v i wr => ∃ (n : Nat) (A : Option Addr) (ca : Nat) (S : List Hd), n ≤ X.length ∧ i = .int .i64 n ∧ v = .slice A S.length ca ∧ S.length ≤ n + 1 ∧ Hid (S = putAll L0 ((X.take n).filter (inR low high))) ∧ CsAt wr A (hcells S) ∧ CsAt wr AX (hcells X) ∧ KyAt wr R M L0 ∧ Below w.heap.size w wr) (fun _ i _ => X.length - (intOf i).toNat)
          case atStart => exact ⟨0, _, 1, L0, by omega, rfl, by rw [hL1], by omega, Lib.hid (by simp [putAll]), by rw [HL0.out]; exact cs_new4 u5 0 ⟨#[97]⟩ 1 0, CX5.keep ((Below.refl _ _).alloc (Nat.le_refl _) _), k5.alloc _, B5.alloc B5.size _⟩
          case round =>
            clear k5 B5 CX5
            obtain ⟨n, A6, c6, S6, hn, rfl, rfl, hS6, hSe, hC, hCX, hK, hB⟩ := hrel
            by_cases hlt : n < X.length
            · have hlt' : (n : Int) < X.length := by omega
              obtain ⟨b, o, rfl, -⟩ := hds_at hCX n hlt
              have hXC : ∀ u, Below wr.heap.size wr u → u.cell? ⟨b, o + n * 4, none⟩ = some (.int .i64 X[n].nd) ∧ u.cell? ⟨b, o + n * 4 + 1, none⟩ = some (.string X[n].key) ∧ u.cell? ⟨b, o + n * 4 + 2, none⟩ = some (.int .i64 X[n].a) ∧ u.cell? ⟨b, o + n * 4 + 3, none⟩ = some (.int .i64 X[n].b) := fun u hu => by
                obtain ⟨b', o', eb, q0, q1, q2, q3⟩ := hds_at (hCX.keep hu) n hlt
                simp only [Option.some.injEq, Addr.mk.injEq, and_true] at eb
                obtain ⟨rfl, rfl⟩ := eb
                exact ⟨q0, q1, q2, q3⟩
              have HGr := RGroup_any X[n].key wr (HGX.out.okK _ (List.getElem_mem hlt)).2
              have hgh : grp (hsh X[n].key.data.toList) = gH X[n] := rfl
              rw [hgh] at HGr
              have hrS : RisH S6 := by rw [hSe.out]; exact putAll_ris hK.mp.ris _
              have hpl := putP_len hrS X[n]
              have hpl2 : (putP S6 X[n]).length ≤ S6.length + 1 := by split at hpl <;> omega
              have HPl := fun (u : World) (cu : CsAt u A6 (hcells S6)) => plc_any u A6 c6 S6 X[n] true cu (by omega)
              have epl : plc X[n] (!true) S6 = putP S6 X[n] := plc_put hrS X[n]
              rw [epl] at HPl
              have hst : putAll L0 ((X.take (n + 1)).filter (inR low high)) = if inR low high X[n] then putP S6 X[n] else S6 := by
                rw [List.take_succ_eq_append_getElem hlt, List.filter_append]
                cases hq : inR low high X[n] with
                | true =>
                  have h1 : List.filter (inR low high) [X[n]] = [X[n]] := by simp [hq]
                  rw [h1, putAll_snoc, ← hSe.out, if_pos rfl]
                | false =>
                  have h1 : List.filter (inR low high) [X[n]] = [] := by simp [hq]
                  rw [h1, List.append_nil, ← hSe.out, if_neg Bool.false_ne_true]
              have hin : inR low high X[n] = (decide (low ≤ gH X[n]) && decide (gH X[n] < high)) := rfl
              rw [hin] at hst
              clear hgh hin hSe hpl hrS epl
              generalize gH X[n] = gg at *
              generalize putP S6 X[n] = S2 at *
              generalize X[n] = x at *
              obtain ⟨xn, xk, xa, xb⟩ := x
              simp only [hdV] at hXC HGr HPl
              have HXC := Lib.hid hXC
              obtain ⟨c0, c1, c2, c3⟩ := hXC wr (Below.refl _ _)
              have HST := Lib.hid hst
              clear hXC hst
              go_wp2_with (go_at_call 14; refine HGr.mono ?_; rintro e u7 ⟨rfl, b7⟩; refine Hid.out ?_)
              refine Lib.hid ?_
              have B7 := hB.trans (b7.mono hB.size)
              have K7 := hK.keep b7
              have C7 := hC.keep b7
              have CX7 := hCX.keep b7
              have HPl7 := HPl u7 C7
              clear c0 c1 c2 c3 HGr hK hC hCX hB HPl
              obtain ⟨c0, c1, c2, c3⟩ := HXC.out u7 b7
              clear b7 HXC
              by_cases g1 : low ≤ gg
              · by_cases g2 : gg < high
                · have HF : Hid (S2 = putAll L0 ((X.take (n + 1)).filter (inR low high))) := Lib.hid (by rw [HST.out]; simp [g1, g2])
                  clear HST
                  go_wp2_with (go_at_call 9; refine HPl7.mono ?_; rintro e u8 ⟨A8, c8, rfl, C8, b8⟩; refine Hid.out ?_)
                  refine Lib.hid ?_
                  have B8 := B7.trans (b8.mono B7.size)
                  have K8 := K7.keep b8
                  have CX8 := CX7.keep b8
                  clear HPl7 c0 c1 c2 c3 B7 K7 C7 CX7 b8
                  go_wp2_with fail
                  go_roundw
                  case rel => exact ⟨n + 1, A8, c8, S2, by omega, by go_num, rfl, by omega, HF, C8, CX8, K8, B8⟩
                  case measure => simp [intOf]; omega
                · have HF : Hid (S6 = putAll L0 ((X.take (n + 1)).filter (inR low high))) := Lib.hid (by rw [HST.out]; simp [g2])
                  clear HST HPl7
                  go_wp2_with fail
                  go_roundw
                  case rel => exact ⟨n + 1, A6, c6, S6, by omega, by go_num, rfl, by omega, HF, C7, CX7, K7, B7⟩
                  case measure => simp [intOf]; omega
              · have HF : Hid (S6 = putAll L0 ((X.take (n + 1)).filter (inR low high))) := Lib.hid (by rw [HST.out]; simp [g1])
                clear HST HPl7
                go_wp2_with fail
                go_roundw
                case rel => exact ⟨n + 1, A6, c6, S6, by omega, by go_num, rfl, by omega, HF, C7, CX7, K7, B7⟩
                case measure => simp [intOf]; omega
            · have hkn : ¬ (n : Int) < X.length := by omega
              have hF : S6 = putAll L0 (X.filter (inR low high)) := by rw [hSe.out, List.take_of_length_le (by omega)]
              by_cases h4 : 400 < S6.length
              · have h4' : (400 : Int) < S6.length := by omega
                clear hF hSe hC hCX hK
                go_wp2_with fail
                go_ret
                exact ⟨rfl, hB⟩
              · have h4' : ¬ (400 : Int) < S6.length := by omega
                have HIm := import_ok hK (by omega) low high hr p cb lb X (HZ.out wr hB) hbl HRd.out
                rw [← hF] at HIm
                unfold ImEnd at HIm
                simp only [if_neg h4, e0] at HIm
                clear hF hSe hCX
                go_wp2_with (go_at_call 17; refine HIm.mono ?_; rintro e u7 ⟨rfl, M7, hM7, k7, f7⟩; refine Hid.out ?_)
                refine Lib.hid ?_
                have B7 : Below w.heap.size w u7 := hB.trans (f7.toBelow hB.size (by intro x hx; simp at hx; subst hx; exact hR5))
                have C7 := csR hC hK f7
                have HA := all_any k7 (by omega)
                clear HIm hC hK f7 hB
                go_wp2_with (go_at_call 7; refine (error_nil _).mono ?_; rintro e u8 ⟨rfl, rfl⟩; refine Hid.out ?_)
                refine Lib.hid ?_
                go_wp2_with (go_at_call 13; refine HA.mono ?_; rintro e u9 ⟨A9, c9, rfl, hs9, hc9, b9⟩; refine Hid.out ?_)
                refine Lib.hid ?_
                have HSm := sameHds_any u9 A9 A6 c9 c6 S6 hs9.cs (C7.keep b9) (by omega)
                have B9 := B7.trans (b9.mono B7.size)
                clear HA k7 C7 hs9 hc9 b9 B7
                go_wp2_with (go_at_call 12; refine HSm.mono ?_; rintro e u10 ⟨rfl, b10⟩; refine Hid.out ?_)
                refine Lib.hid ?_
                have B10 := B9.trans (b10.mono B9.size)
                clear HSm b10 B9
                go_wp2_with fail
                go_ret
                exact ⟨rfl, B10⟩
end Go.Proofs.YtbppiiomjmpjkabGreatDoor

/- KeyedWholes: the walk, where more than ten rows came in, and they go together. -/
namespace Go.Proofs.YtbppiiomjmpjkabGreatDoor
open Go.RowKit Go.Shelf
set_option linter.unusedVariables false

set_option maxRecDepth 100000 in
set_option maxHeartbeats 20000000 in
theorem wholes_f (w : World) (ls p : Option Addr) (cs cb : Nat) (S0 : List (List Hd)) (lb : List UInt8) (low high : Int) (h : HssAt w ls S0) (hlen : S0.length ≤ 9223372036854775807) (hok : ∀ l ∈ S0, (∀ r ∈ l, OkHd r) ∧ l.length ≤ 9223372036854775807) (hb0 : Bz w p cb lb) (hbl : lb.length ≤ 140737488355328) (hg : w.cell? ⟨0, 0, none⟩ = some ET) (hSc : 10 < S0.length) (hFc : ¬ (putAll [] (S0.take 10).flatten).length < (S0.take 10).flatten.length ∧ ¬ 400 < (putAll [] (S0.take 10).flatten).length) :
    Calls Tryz.prog 4 #[.slice ls S0.length cs, .slice p lb.length cb, .int .i64 low, .int .i64 high] w fun e w' => e = .returned (.bool true) ∧ Below w.heap.size w w' := by
  have e0 : errV 0 = .nilIface := rfl
  obtain ⟨i0, hi, hz0, hz1, hz2⟩ := info_parts infoBs
  have HH := Lib.hid (fun (u : World) (hb : Below w.heap.size w u) => h.keep hb)
  have HO := Lib.hid hok
  have HZ := Lib.hid (fun (u : World) (hb : Below w.heap.size w u) => hb0.keep hb)
  have HET := Lib.hid (fun (u : World) (hb : Below w.heap.size w u) => et_below hg hb)
  have HFC := Lib.hid hFc
  clear h hok hb0 hg hFc
  go_enter Tryz.func4, Tryz.ntmps4
  go_wp2_with fail
  go_loopw [9, 10, 11, 12] (fun vp va ve vi wr => ∃ (k e : Nat) (T : List Pt) (A : Option Addr) (ca : Nat) (S : List Hd), k ≤ S0.length ∧ k ≤ 10 ∧ T.length = k ∧ vi = .int .i64 k ∧ wr.ownsRow w.heap.size 39 1 vp k (T.map ptV) ∧ Hid (∀ j (h : j < T.length) (h' : j < (S0.take k).length), T[j].2.2 = lstB hdB (S0.take k)[j]) ∧ Hid (∀ t ∈ T, PtOk wr t ∧ LyAt wr t.1 5) ∧ va = .slice A S.length ca ∧ Hid (S = putAll [] (S0.take k).flatten) ∧ CsAt wr A (hcells S) ∧ LyAt wr A 27 ∧ ve = .int .i64 e ∧ Hid (e = clE (S0.take k).flatten) ∧ (e = 0 ∨ e = 8) ∧ Hid (∀ l ∈ S0.take k, GoodL l) ∧ S.length ≤ 400 * k ∧ Below w.heap.size w wr) (fun _ _ _ vi _ => 10 - (intOf vi).toNat)
  case atStart => exact ⟨0, 0, [], none, 0, [], by omega, by omega, rfl, rfl, World.ownsRow_nil _ _ _ _, Lib.hid (by intro j h; simp at h), Lib.hid (by simp), rfl, Lib.hid (by simp [putAll]), .inl rfl, .inl rfl, rfl, Lib.hid (by simp [clE_nil]), .inl rfl, Lib.hid (by simp), by simp, Below.refl _ _⟩
  case round =>
    obtain ⟨k, e, T, A, ca, S, hk, hk1, hTk, rfl, own, hTb, hTo, rfl, hS, hcS, hyS, rfl, he, he2, hgS, hSl, hB⟩ := hrel
    by_cases hlt : k < S0.length ∧ k < 10
    · obtain ⟨hlt, hlt1⟩ := hlt
      have hlt' : (k : Int) < S0.length := by omega
      have hlt1' : (k : Int) < 10 := by omega
      have HE := HH.out w (Below.refl _ _)
      rcases HE with HE | ⟨b, o, rfl, hc⟩
      · rw [HE] at hlt; simp at hlt
      obtain ⟨q, cq, c0w, hLw⟩ := hc k hlt
      have HQ := Lib.hid (fun (u : World) (hu : Below w.heap.size w u) => (⟨(hu.cell (cell_lt c0w)).trans c0w, hLw.keep hu⟩ : u.cell? ⟨b, o + k, none⟩ = some (.slice q S0[k].length cq) ∧ CsAt u q (hcells S0[k])))
      obtain ⟨c0, hL⟩ := HQ.out wr hB
      clear c0w hLw hc
      obtain ⟨hokX, hXn⟩ := HO.out _ (List.getElem_mem hlt)
      have htk : S0.take (k + 1) = S0.take k ++ [S0[k]] := List.take_succ_eq_append_getElem hlt
      have hlk : (S0.take k).length = k := by rw [List.length_take]; omega
      have HTb : Hid (∀ Bl, Bl = lstB hdB S0[k] → ∀ A1 c1, ∀ j (h : j < (T ++ [((A1, c1, Bl) : Pt)]).length) (h' : j < (S0.take (k + 1)).length), (T ++ [((A1, c1, Bl) : Pt)])[j].2.2 = lstB hdB (S0.take (k + 1))[j]) := Lib.hid (fun Bl hBl A1 c1 j h h' => by
        rw [List.length_append, List.length_singleton] at h
        by_cases hj : j < T.length
        · rw [List.getElem_append_left hj, hTb.out j hj (by omega)]
          simp [List.getElem_take]
        · have ej : j = k := by omega
          subst ej
          rw [List.getElem_append_right (by omega)]
          simp only [hTk, Nat.sub_self, List.getElem_cons_zero]
          rw [hBl]
          simp [List.getElem_take])
      have hfl : (S0.take (k + 1)).flatten = (S0.take k).flatten ++ S0[k] := by rw [htk, List.flatten_append]; simp
      have hgn : GoodL S0[k] → ∀ l ∈ S0.take (k + 1), GoodL l := fun hg l hl => by
        rw [htk] at hl
        rcases List.mem_append.1 hl with hl | hl
        · exact hgS.out l hl
        · simp at hl; rw [hl]; exact hg
      have HFL := Lib.hid hfl
      have HGN := Lib.hid hgn
      have HSH := shelds_any wr q cq S0[k] hL hXn hokX
      have HXE := Lib.hid (fun (hz : heldsE ltH S0[k] = 0) => zero_good hz hokX)
      clear hTb hfl hgn htk hlk hgS
      generalize hFk : (S0.take k).flatten = F at *
      have HFK := Lib.hid hFk
      clear hFk
      generalize S0[k] = X at *
      unfold SwEnd at HSH
      by_cases hE : heldsE ltH X = 0
      · simp only [hE, if_true] at HSH
        have hgX := HXE.out hE
        have hX4 := hgX.1
        have hlz := lsth_le hE (fun r hr => (hgX.2.1 r hr).2)
        have HGX := Lib.hid hgX
        have HTb2 := Lib.hid (HTb.out _ rfl)
        clear hE HXE hgX hokX HTb
        generalize lstB hdB X = Bl at *
        go_wp2_with (go_at_call 15; refine HSH.mono ?_; rintro e u1 ⟨⟨v1, rfl, ow1⟩, b1⟩; refine Hid.out ?_)
        refine Lib.hid ?_
        obtain ⟨A1, c1, rfl, z1⟩ := own_bz ow1
        have y1 := LyAt.of ow1
        have own1 := row_keep own b1
        have B1 := hB.trans (b1.mono hB.size)
        have hs1 : w.heap.size ≤ u1.heap.size := B1.size
        have C1 := hcS.keep b1
        have Y1 := hyS.below b1
        have T1 := Lib.hid (fun (t : Pt) (ht : t ∈ T) => (⟨(hTo.out t ht).1.keep b1, (hTo.out t ht).2.below b1⟩ : PtOk u1 t ∧ LyAt u1 t.1 5))
        have tk1 : PtOk u1 (A1, c1, Bl) := ⟨z1, by show Bl.length ≤ _; omega⟩
        clear HSH b1 own hB hcS hyS hTo z1 hlz ow1 c0 hL
        go_wp2_with (at_builtin; refine wpList_append_own _ rfl _ _ 47 rfl w.heap.size 39 i0 (.slice none 0 0) 1 24 Tryz.underlying47 hi hz0 hz1 hz2 rfl (by decide) _ _ _ rfl (own1.alloc _) ⟨u1.heap.size, 0, none⟩ 1 1 [.slice A1 Bl.length c1] rfl rfl (by intro j u' hj; match j, hj with | 0, hj => simp at hj; subst hj; simp [Addr.add]) (by intro u' hu'; simp at hu'; subst hu'; rfl) (by unfold maxLen; omega) (by omega) (by simp; omega) ?_)
        intro v2 u2 o2 g2 _
        refine Hid.out ?_
        refine Lib.hid ?_
        have kp2 : KpT u1 u2 := KpT.grown (w1 := u1.alloc (.cells #[.slice A1 Bl.length c1] 39)) (fun j hj => Below.heap_alloc _ _ _ hj) (by simp) g2 (own1.alloc _)
        have B2 : Below w.heap.size w u2 := (B1.alloc hs1 _).grown g2 (by simp; omega) (fun j hj => by have := (own1.lt j hj).1; omega)
        have o2' : u2.ownsRow w.heap.size 39 1 v2 (k + 1) ((T ++ [((A1, c1, Bl) : Pt)]).map ptV) := by simpa [ptV] using o2
        have TT2 : Hid (∀ t ∈ T ++ [((A1, c1, Bl) : Pt)], PtOk u2 t ∧ LyAt u2 t.1 5) := Lib.hid (fun t ht => by
          rcases List.mem_append.1 ht with ht | ht
          · exact ⟨(T1.out t ht).1.kp (T1.out t ht).2 kp2, (T1.out t ht).2.kp kp2 (by decide)⟩
          · rw [List.mem_singleton] at ht; subst ht; exact ⟨tk1.kp y1 kp2, y1.kp kp2 (by decide)⟩)
        have C2 := C1.kp Y1 kp2 (by decide)
        have Y2 := Y1.kp kp2 (by decide)
        have hT2l : (T ++ [((A1, c1, Bl) : Pt)]).length = k + 1 := by simp [hTk]
        have HTb3 := Lib.hid (HTb2.out A1 c1)
        clear o2 g2 T1 tk1 kp2 own1 y1 HTb2 C1 Y1 hs1 B1
        generalize T ++ [((A1, c1, Bl) : Pt)] = T2 at *
        clear hTk
        go_wp2_with fail
        go_loopw [10, 11, 15] (fun va ve vk wx => ∃ (n e : Nat) (A : Option Addr) (ca : Nat) (S : List Hd), n ≤ X.length ∧ vk = .int .i64 n ∧ va = .slice A S.length ca ∧ Hid (S = putAll [] (F ++ X.take n)) ∧ CsAt wx A (hcells S) ∧ LyAt wx A 27 ∧ ve = .int .i64 e ∧ Hid (e = clE (F ++ X.take n)) ∧ (e = 0 ∨ e = 8) ∧ S.length ≤ 400 * k + n ∧ Below u2.heap.size u2 wx) (fun _ _ vk _ => X.length - (intOf vk).toNat)
        case atStart => exact ⟨0, e, A, ca, S, by omega, rfl, rfl, Lib.hid (by rw [hS.out]; simp), C2, Y2, rfl, Lib.hid (by rw [he.out]; simp), he2, by omega, Below.refl _ _⟩
        case round =>
          rename World => wx
          clear hS he he2 hSl C2 Y2
          obtain ⟨n, e, A, ca, S, hn, rfl, rfl, hS, hcS, hyS, rfl, he, he2, hSl, hb⟩ := hrel
          have BX := B2.trans (hb.mono B2.size)
          obtain ⟨c0, hL⟩ := HQ.out wx BX
          by_cases hnt : n < X.length
          · have hnt' : (n : Int) < X.length := by omega
            have hXC : ∃ qb qo, q = some ⟨qb, qo, none⟩ ∧ ∀ u, Below w.heap.size w u → u.cell? ⟨b, o + k, none⟩ = some (.slice (some ⟨qb, qo, none⟩) X.length cq) ∧ u.cell? ⟨qb, qo + n * 4, none⟩ = some (.int .i64 X[n].nd) ∧ u.cell? ⟨qb, qo + n * 4 + 1, none⟩ = some (.string X[n].key) ∧ u.cell? ⟨qb, qo + n * 4 + 2, none⟩ = some (.int .i64 X[n].a) ∧ u.cell? ⟨qb, qo + n * 4 + 3, none⟩ = some (.int .i64 X[n].b) := by
              obtain ⟨qb, qo, rfl, -⟩ := hds_at hL n hnt
              refine ⟨qb, qo, rfl, fun u hu => ?_⟩
              obtain ⟨d0, hLu⟩ := HQ.out u hu
              obtain ⟨b', o', eb, q0, q1, q2, q3⟩ := hds_at hLu n hnt
              simp only [Option.some.injEq, Addr.mk.injEq, and_true] at eb
              obtain ⟨rfl, rfl⟩ := eb
              exact ⟨d0, q0, q1, q2, q3⟩
            obtain ⟨qb, qo, rfl, hXC⟩ := hXC
            have htn : F ++ X.take (n + 1) = (F ++ X.take n) ++ [X[n]] := by rw [List.take_succ_eq_append_getElem hnt, List.append_assoc]
            have hcl := clE_step (F ++ X.take n) X[n]
            rw [← hS.out, ← he.out, ← htn] at hcl
            have hps : putAll [] (F ++ X.take (n + 1)) = putP S X[n] := by rw [htn, putAll_snoc, ← hS.out]
            have hrS : RisH S := by rw [hS.out]; exact putAll_ris List.Pairwise.nil _
            have hpl := putP_len hrS X[n]
            have HPl := fun (u : World) (cu : CsAt u A (hcells S)) => plc_ly u A ca S X[n] true cu (by omega)
            have epl : plc X[n] (!true) S = putP S X[n] := plc_put hrS X[n]
            rw [epl] at HPl
            have HCl := Lib.hid hcl
            have HPs := Lib.hid hps
            have hpl2 : (putP S X[n]).length ≤ S.length + 1 := by split at hpl <;> omega
            clear htn hcl hps hrS hpl epl hL hS he
            generalize hS2 : putP S X[n] = S2 at *
            generalize X[n] = r at *
            obtain ⟨nd, key, a, bv⟩ := r
            simp only at hXC HCl
            simp only [hdV] at HPl
            have HXC := Lib.hid hXC
            clear hXC
            obtain ⟨x0, x1, x2, x3, x4⟩ := HXC.out wx BX
            have hHC : ∀ u, CsAt u A (hcells S) → ∀ j (h : j < S.length), ∃ b o, A = some ⟨b, o, none⟩ ∧ u.cell? ⟨b, o + j * 4, none⟩ = some (.int .i64 S[j].nd) ∧ u.cell? ⟨b, o + j * 4 + 1, none⟩ = some (.string S[j].key) := fun u hu j hj => by
              obtain ⟨b, o, e, q0, q1, -, -⟩ := hds_at hu j hj
              exact ⟨b, o, e, q0, q1⟩
            have HHC := Lib.hid hHC
            have HS2 := Lib.hid hS2
            clear hHC hS2 c0
            go_wp2_with fail
            go_loopw [11, 16] (fun ev jv wy => ∃ (j e' : Nat), j ≤ S.length ∧ jv = .int .i64 j ∧ ev = .int .i64 e' ∧ Hid (e' = if (findH (S.take j) nd key).isSome then 8 else e) ∧ (e' = 0 ∨ e' = 8) ∧ Below wx.heap.size wx wy) (fun _ jv _ => S.length - (intOf jv).toNat)
            case atStart => exact ⟨0, e, by omega, rfl, rfl, Lib.hid (by simp [findH]), he2, Below.refl _ _⟩
            case round =>
              rename World => wy
              obtain ⟨j, e', hj, rfl, rfl, he', he2', hb'⟩ := hrel
              have BY := BX.trans (hb'.mono BX.size)
              clear x0 x1 x2 x3 x4
              obtain ⟨x0, x1, x2, x3, x4⟩ := HXC.out wy BY
              by_cases hjt : j < S.length
              · have hjt' : (j : Int) < S.length := by omega
                obtain ⟨sb, so, rfl, c0, c1⟩ := HHC.out wy (hcS.keep hb') j hjt
                have hst := take_find S nd key j hjt
                have hia : isAt nd key S[j] = decide (S[j].nd = nd ∧ S[j].key = key) := rfl
                rw [hia] at hst
                have HST := Lib.hid hst
                clear hst hia
                generalize S[j].nd = xn at *
                generalize S[j].key = xk at *
                have hgoal : ((xn == nd) = true ∧ (xk.toList == key.toList) = true ∧ decide (xn = nd ∧ xk = key) = true) ∨ (((xn == nd) = false ∨ ((xn == nd) = true ∧ (xk.toList == key.toList) = false)) ∧ decide (xn = nd ∧ xk = key) = false) := by
                  by_cases h1 : xn = nd
                  · by_cases h2 : xk = key
                    · exact .inl ⟨by simpa using h1, by rw [h2]; exact str_eq key, by simp [h1, h2]⟩
                    · exact .inr ⟨.inr ⟨by simpa using h1, str_ne h2⟩, by simp [h2]⟩
                  · exact .inr ⟨.inl (by simpa using h1), by simp [h1]⟩
                rcases hgoal with ⟨n1, n2, n3⟩ | ⟨n1, n3⟩
                · have HE : Hid ((8 : Nat) = if (findH (S.take (j + 1)) nd key).isSome then 8 else e) := Lib.hid (by rw [HST.out, n3]; simp)
                  clear n3 he' he2' HST
                  go_wp2_with fail
                  go_quiet (fail)
                  go_wp2_with fail
                  go_roundw
                  case rel => exact ⟨j + 1, 8, by omega, by go_num, rfl, HE, .inr rfl, ⟨hb'.os, hb'.tape, hb'.output, hb'.size, hb'.block⟩⟩
                  case measure => simp [intOf]; omega
                · have HE : Hid (e' = if (findH (S.take (j + 1)) nd key).isSome then 8 else e) := Lib.hid (by rw [HST.out, n3, he'.out]; simp)
                  clear n3 he' HST
                  rcases n1 with n1 | ⟨n1, n2⟩
                  all_goals
                    go_wp2_with fail
                    go_quiet (fail)
                    go_wp2_with fail
                    go_roundw
                    case rel => exact ⟨j + 1, e', by omega, by go_num, rfl, HE, he2', ⟨hb'.os, hb'.tape, hb'.output, hb'.size, hb'.block⟩⟩
                    case measure => simp [intOf]; omega
              · have hjn : ¬ (j : Int) < S.length := by omega
                have hE1 := he'.out
                rw [List.take_of_length_le (by omega), ← HCl.out] at hE1
                have CY := hcS.keep hb'
                have HP7 := HPl wy CY
                have HE1 := Lib.hid hE1
                clear he' HHC HPl hcS hE1
                go_wp2_with (go_at_call 9; refine HP7.mono ?_; rintro e u7 ⟨A7, c7, rfl, C7, Y7, b7⟩; refine Hid.out ?_)
                refine Lib.hid ?_
                have b77 : Below u2.heap.size u2 u7 := hb.trans ((hb'.trans (b7.mono hb'.size)).mono hb.size)
                clear HP7 CY b7 x0 x1 x2 x3 x4
                go_wp2_with fail
                go_roundw
                case rel => exact ⟨n + 1, e', A7, c7, S2, by omega, by go_num, rfl, Lib.hid HPs.out.symm, C7, Y7, rfl, HE1, he2', by omega, b77⟩
                case measure => simp [intOf]; omega
          · have hnn : ¬ (n : Int) < X.length := by omega
            have en : X.take n = X := List.take_of_length_le (by omega)
            have hS3 := hS.out
            have he3 := he.out
            rw [en, ← HFL.out] at hS3 he3
            have HS3 := Lib.hid hS3
            have HE3 := Lib.hid he3
            have TT3 : Hid (∀ t ∈ T2, PtOk wx t ∧ LyAt wx t.1 5) := Lib.hid (fun t ht => ⟨(TT2.out t ht).1.keep hb, (TT2.out t ht).2.below hb⟩)
            have own3 := row_keep o2' hb
            clear hS he hS3 he3 en hL TT2 o2'
            go_wp2_with fail
            go_roundw
            case rel => exact ⟨k + 1, e, T2, A, ca, S, by omega, by omega, hT2l, by go_num, own3, HTb3, TT3, rfl, HS3, hcS, hyS, rfl, HE3, he2, Lib.hid (HGN.out HGX.out), by omega, BX⟩
            case measure => simp [intOf]; omega
      · have hE2 : ¬ ((heldsE ltH X : Nat) : Int) = 0 := by omega
        simp only [if_neg hE] at HSH
        generalize heldsE ltH X = z at *
        have hz : (((z : Nat) : Int) == 0) = false := by simpa using hE2
        go_wp2_with (go_at_call 15; refine HSH.mono ?_; rintro e u1 ⟨rfl, b1⟩; refine Hid.out ?_)
        refine Lib.hid ?_
        have B1 := hB.trans (b1.mono hB.size)
        clear HSH b1 hE
        go_wp2_with fail
        go_ret
        exact ⟨rfl, B1⟩
    · have hl1 : (k : Int) < S0.length := by omega
      have hl2 : ¬ (k : Int) < 10 := by omega
      have hte : S0.take k = S0.take 10 := by rw [show k = 10 from by omega]
      have hS2 := hS.out
      have he3 := he.out
      have hgS2 := hgS.out
      rw [hte] at hS2 he3 hgS2
      have hTb2 : ∀ j (h : j < T.length) (h' : j < (S0.take 10).length), T[j].2.2 = lstB hdB (S0.take 10)[j] := fun j h h' => by
        have := hTb.out j h (by rw [hte]; exact h')
        rw [this]
        simp [List.getElem_take]
      have hlk : (S0.take 10).length = k := by rw [← hte, List.length_take]; omega
      obtain ⟨pa, cpa, rfl⟩ := row_slice own
      have hCp := (own_cs own (by rw [List.length_map, hTk, Nat.mul_one])).1
      have HW := fun (u : World) (hu : Below wr.heap.size wr u) => whole_at u pa cpa T (S0.take 10) k (hCp.keep hu) (fun t ht => (hTo.out t ht).1.keep hu) hTk hk1 hlk hgS2 hTb2
      have hFg : ∀ r ∈ (S0.take 10).flatten, badHd r = false ∧ OkHd r := fun r hr => by
        obtain ⟨l, hl, hrl⟩ := List.mem_flatten.1 hr
        exact (hgS2 l hl).2.1 r hrl
      have hFC := HFC.out
      have HWh := Lib.hid HW
      have HFg := Lib.hid hFg
      clear HH HO hlt hTb hTo hgS hS he own hCp hTb2 hgS2 hte HFC HW hFg hlk hTk
      generalize (S0.take 10).flatten = F at *
      have e8 : e = 0 := by rw [he3]; unfold clE; rw [if_neg hFC.1]
      subst e8
      have hgS3 : GoodL S := by rw [hS2]; exact putAll_good HFg.out (by have := hFC.2; omega)
      have HSH := shelds_any wr A ca S hcS (by have := hgS3.1; omega) (fun r hr => (hgS3.2.1 r hr).2)
      unfold SwEnd at HSH
      rw [good_zero hgS3] at HSH
      simp only [if_true] at HSH
      unfold WhEnd at HWh
      rw [← hS2] at HWh hFC
      simp only [if_neg hFC.1, if_neg hFC.2] at HWh
      have hS4 : ¬ (400 : Int) < S.length := by have := hFC.2; omega
      clear he3 he2 hcS hyS hS2 HFg
      generalize lstB hdB S = Bl at *
      go_wp2_with (go_at_call 15; refine HSH.mono ?_; rintro e u0 ⟨⟨v0, rfl, ow0⟩, b0⟩; refine Hid.out ?_)
      refine Lib.hid ?_
      have B0 := hB.trans (b0.mono hB.size)
      have HW1 := HWh.out u0 b0
      obtain ⟨A0, c0, rfl, z0⟩ := own_bz ow0
      clear HSH HWh hB b0 ow0
      go_wp2_with (go_at_call 18; refine HW1.mono ?_; rintro e u1 ⟨⟨A1, c1, rfl, z1, -⟩, b1⟩; refine Hid.out ?_)
      refine Lib.hid ?_
      have BV := B0.trans (b1.mono B0.size)
      have z0' := z0.keep b1
      have cv0 := z0'.1.convert Bl.length c0 rfl
      have cv1 := z1.1.convert Bl.length c1 rfl
      clear HW1 b1 B0 z0
      generalize u1 = u2 at *
      go_wp2_with (go_at_call 7; refine (error_nil _).mono ?_; rintro e u3 ⟨rfl, rfl⟩; refine Hid.out ?_)
      refine Lib.hid ?_
      have HB0 := Lib.hid (HZ.out u2 BV)
      cases hr : rngB low high with
      | false =>
        have hx : low < 0 ∨ (¬ low < 0 ∧ high < low) ∨ (¬ low < 0 ∧ ¬ high < low ∧ 16 < high) := by simp [rngB] at hr; omega
        have HSR1 := read_any u2 p cb lb HB0.out hbl
        go_wp2_with (go_at_call 19; refine HSR1.mono ?_; rintro e u3 ⟨A3, n3, c3, ok3, rfl, b3⟩; refine Hid.out ?_)
        refine Lib.hid ?_
        have B3 := BV.trans (b3.mono BV.size)
        obtain ⟨R, M, hM, hR, HN⟩ := new_ex u3
        clear HSR1 b3 HB0
        go_wp2_with (go_at_call 5; refine HN.mono ?_; rintro e u4 ⟨rfl, k4, b4⟩; refine Hid.out ?_)
        refine Lib.hid ?_
        have HP := put_ok k4 ⟨0, ⟨#[97]⟩, 1, 0⟩ (by decide) (.inr (by simp)) (by simp)
        rw [putP_nil, e0] at HP
        simp only [hdV] at HP
        clear HN
        go_wp2_with (go_at_call 8; refine HP.mono ?_; rintro e u5 ⟨rfl, k5, f5⟩; refine Hid.out ?_)
        refine Lib.hid ?_
        have B5 : Below w.heap.size w u5 := (B3.trans (b4.mono B3.size)).trans (f5.toBelow (Nat.le_trans B3.size b4.size) (by intro x hx; simp at hx; subst hx; exact Nat.le_trans B3.size hM))
        have e1' : errV 1 = .iface 56 (.int .i64 1) := rfl
        clear HP k4 f5 b4 B3
        rcases hx with x1 | ⟨x1, x2⟩ | ⟨x1, x2, x3⟩
        all_goals
          go_wp2_with fail
          go_loopw [24, 25] (fun v i wr => ∃ (A : Option Addr) (ca : Nat) (S : List Hd), i = .int .i64 0 ∧ v = .slice A S.length ca ∧ S.length ≤ 1 ∧ CsAt wr A (hcells S) ∧ KyAt wr R M S ∧ Below w.heap.size w wr) (fun _ _ _ => 0)
          case atStart => exact ⟨_, 1, [⟨0, ⟨#[97]⟩, 1, 0⟩], rfl, rfl, by simp, cs_new4 u5 0 ⟨#[97]⟩ 1 0, k5.alloc _, B5.alloc B5.size _⟩
          case round =>
            clear k5 B5
            obtain ⟨A6, c6, S6, rfl, rfl, hS6, hC, hK, hB⟩ := hrel
            have HIm := import_rng (w := wr) (R := R) low high hr p cb lb.length
            have HEr := error_yes 1 wr (HET.out wr hB)
            rw [e1'] at HIm HEr
            have hT0 : ((0 : Int) < n3) ∨ ¬ ((0 : Int) < n3) := by omega
            have hS7 : ¬ (400 : Int) < S6.length := by omega
            rcases hT0 with hT0 | hT0
            all_goals
              go_wp2_with (go_at_call 17; refine HIm.mono ?_; rintro e u7 ⟨rfl, rfl⟩; refine Hid.out ?_)
            all_goals
              refine Lib.hid ?_
              go_wp2_with (go_at_call 7; refine HEr.mono ?_; rintro e u8 ⟨rfl, b8⟩; refine Hid.out ?_)
            all_goals
              refine Lib.hid ?_
              have K8 := hK.keep b8
              have C8 := hC.keep b8
              have B8 := hB.trans (b8.mono hB.size)
              have HA := all_any K8 (by omega)
              clear HIm HEr hK hC b8 hB
              go_wp2_with (go_at_call 13; refine HA.mono ?_; rintro e u9 ⟨A9, c9, rfl, hs9, hc9, b9⟩; refine Hid.out ?_)
            all_goals
              refine Lib.hid ?_
              have HSm := sameHds_any u9 A9 A6 c9 c6 S6 hs9.cs (C8.keep b9) (by omega)
              have B9 := B8.trans (b9.mono B8.size)
              clear HA K8 C8 hs9 hc9 b9 B8
              go_wp2_with (go_at_call 12; refine HSm.mono ?_; rintro e u10 ⟨rfl, b10⟩; refine Hid.out ?_)
            all_goals
              refine Lib.hid ?_
              have B10 := B9.trans (b10.mono B9.size)
              clear HSm b10 B9
              go_wp2_with fail
              go_ret
              exact ⟨rfl, B10⟩
      | true =>
        have hx : ¬ low < 0 ∧ ¬ high < low ∧ ¬ 16 < high := by simp [rngB] at hr; omega
        obtain ⟨x1, x2, x3⟩ := hx
        cases hX : readHds ltH lb with
        | none =>
          have HSR1 := read_no u2 p cb lb HB0.out hbl hX
          go_wp2_with (go_at_call 19; refine HSR1.mono ?_; rintro e u3 ⟨rfl, b3⟩; refine Hid.out ?_)
          refine Lib.hid ?_
          have B3 := BV.trans (b3.mono BV.size)
          obtain ⟨R, M, hM, hR, HN⟩ := new_ex u3
          clear HSR1 b3 HB0
          go_wp2_with (go_at_call 5; refine HN.mono ?_; rintro e u4 ⟨rfl, k4, b4⟩; refine Hid.out ?_)
          refine Lib.hid ?_
          have HP := put_ok k4 ⟨0, ⟨#[97]⟩, 1, 0⟩ (by decide) (.inr (by simp)) (by simp)
          rw [putP_nil, e0] at HP
          simp only [hdV] at HP
          clear HN
          go_wp2_with (go_at_call 8; refine HP.mono ?_; rintro e u5 ⟨rfl, k5, f5⟩; refine Hid.out ?_)
          refine Lib.hid ?_
          have B5 : Below w.heap.size w u5 := (B3.trans (b4.mono B3.size)).trans (f5.toBelow (Nat.le_trans B3.size b4.size) (by intro x hx; simp at hx; subst hx; exact Nat.le_trans B3.size hM))
          have e1' : errV 9 = .iface 56 (.int .i64 9) := rfl
          clear HP k4 f5 b4 B3
          go_wp2_with fail
          go_loopw [24, 25] (fun v i wr => ∃ (A : Option Addr) (ca : Nat) (S : List Hd), i = .int .i64 0 ∧ v = .slice A S.length ca ∧ S.length ≤ 1 ∧ CsAt wr A (hcells S) ∧ KyAt wr R M S ∧ Below w.heap.size w wr) (fun _ _ _ => 0)
          case atStart => exact ⟨_, 1, [⟨0, ⟨#[97]⟩, 1, 0⟩], rfl, rfl, by simp, cs_new4 u5 0 ⟨#[97]⟩ 1 0, k5.alloc _, B5.alloc B5.size _⟩
          case round =>
            clear k5 B5
            obtain ⟨A6, c6, S6, rfl, rfl, hS6, hC, hK, hB⟩ := hrel
            have HIm := import_bad (w := wr) (R := R) low high hr p cb lb (HZ.out wr hB) hbl hX
            have HEr := fun u hu => error_yes 9 u (HET.out u hu)
            rw [e1'] at HIm HEr
            have hS7 : ¬ (400 : Int) < S6.length := by omega
            go_wp2_with (go_at_call 17; refine HIm.mono ?_; rintro e u7 ⟨rfl, b7⟩; refine Hid.out ?_)
            refine Lib.hid ?_
            have K7 := hK.keep b7
            have C7 := hC.keep b7
            have B7 := hB.trans (b7.mono hB.size)
            have HEr7 := HEr u7 B7
            clear HIm HEr hK hC b7 hB
            go_wp2_with (go_at_call 7; refine HEr7.mono ?_; rintro e u8 ⟨rfl, b8⟩; refine Hid.out ?_)
            refine Lib.hid ?_
            have K8 := K7.keep b8
            have C8 := C7.keep b8
            have B8 := B7.trans (b8.mono B7.size)
            have HA := all_any K8 (by omega)
            clear HEr7 K7 C7 b8 B7
            go_wp2_with (go_at_call 13; refine HA.mono ?_; rintro e u9 ⟨A9, c9, rfl, hs9, hc9, b9⟩; refine Hid.out ?_)
            refine Lib.hid ?_
            have HSm := sameHds_any u9 A9 A6 c9 c6 S6 hs9.cs (C8.keep b9) (by omega)
            have B9 := B8.trans (b9.mono B8.size)
            clear HA K8 C8 hs9 hc9 b9 B8
            go_wp2_with (go_at_call 12; refine HSm.mono ?_; rintro e u10 ⟨rfl, b10⟩; refine Hid.out ?_)
            refine Lib.hid ?_
            have B10 := B9.trans (b10.mono B9.size)
            clear HSm b10 B9
            go_wp2_with fail
            go_ret
            exact ⟨rfl, B10⟩
        | some X =>
          have hgX := (read_good hX).1
          have hX4 := hgX.1
          have HGX := Lib.hid hgX
          have HRd := Lib.hid hX
          have HSR1 := read_yes u2 p cb lb HB0.out hbl hX
          clear hX hgX
          go_wp2_with (go_at_call 19; refine HSR1.mono ?_; rintro e u3 ⟨AX, cX, rfl, CX3, b3⟩; refine Hid.out ?_)
          refine Lib.hid ?_
          have B3 := BV.trans (b3.mono BV.size)
          obtain ⟨R, M, hM, hR, HN⟩ := new_ex u3
          clear HSR1 b3 HB0
          go_wp2_with (go_at_call 5; refine HN.mono ?_; rintro e u4 ⟨rfl, k4, b4⟩; refine Hid.out ?_)
          refine Lib.hid ?_
          have HP := put_ok k4 ⟨0, ⟨#[97]⟩, 1, 0⟩ (by decide) (.inr (by simp)) (by simp)
          rw [putP_nil, e0] at HP
          simp only [hdV] at HP
          have CX4 := CX3.keep b4
          clear HN CX3
          go_wp2_with (go_at_call 8; refine HP.mono ?_; rintro e u5 ⟨rfl, k5, f5⟩; refine Hid.out ?_)
          refine Lib.hid ?_
          have B5 : Below w.heap.size w u5 := (B3.trans (b4.mono B3.size)).trans (f5.toBelow (Nat.le_trans B3.size b4.size) (by intro x hx; simp at hx; subst hx; exact Nat.le_trans B3.size hM))
          have CX5 := csM CX4 k4.mp f5
          obtain ⟨L0, hL0⟩ : ∃ L0 : List Hd, L0 = [⟨0, ⟨#[97]⟩, 1, 0⟩] := ⟨_, rfl⟩
          have hL1 : L0.length = 1 := by rw [hL0]; rfl
          rw [← hL0] at k5
          have HL0 := Lib.hid hL0
          have hR5 : w.heap.size ≤ R := Nat.le_trans B3.size hR
          clear HP k4 f5 b4 B3 CX4 hL0 hM
          go_wp2_with fail
          go_loopw [24, 25] (fun v i wr => ∃ (n : Nat) (A : Option Addr) (ca : Nat) (S : List Hd), n ≤ X.length ∧ i = .int .i64 n ∧ v = .slice A S.length ca ∧ S.length ≤ n + 1 ∧ Hid (S = putAll L0 ((X.take n).filter (inR low high))) ∧ CsAt wr A (hcells S) ∧ CsAt wr AX (hcells X) ∧ KyAt wr R M L0 ∧ Below w.heap.size w wr) (fun _ i _ => X.length - (intOf i).toNat)
          case atStart => exact ⟨0, _, 1, L0, by omega, rfl, by rw [hL1], by omega, Lib.hid (by simp [putAll]), by rw [HL0.out]; exact cs_new4 u5 0 ⟨#[97]⟩ 1 0, CX5.keep ((Below.refl _ _).alloc (Nat.le_refl _) _), k5.alloc _, B5.alloc B5.size _⟩
          case round =>
            clear k5 B5 CX5
            obtain ⟨n, A6, c6, S6, hn, rfl, rfl, hS6, hSe, hC, hCX, hK, hB⟩ := hrel
            by_cases hlt : n < X.length
            · have hlt' : (n : Int) < X.length := by omega
              obtain ⟨b, o, rfl, -⟩ := hds_at hCX n hlt
              have hXC : ∀ u, Below wr.heap.size wr u → u.cell? ⟨b, o + n * 4, none⟩ = some (.int .i64 X[n].nd) ∧ u.cell? ⟨b, o + n * 4 + 1, none⟩ = some (.string X[n].key) ∧ u.cell? ⟨b, o + n * 4 + 2, none⟩ = some (.int .i64 X[n].a) ∧ u.cell? ⟨b, o + n * 4 + 3, none⟩ = some (.int .i64 X[n].b) := fun u hu => by
                obtain ⟨b', o', eb, q0, q1, q2, q3⟩ := hds_at (hCX.keep hu) n hlt
                simp only [Option.some.injEq, Addr.mk.injEq, and_true] at eb
                obtain ⟨rfl, rfl⟩ := eb
                exact ⟨q0, q1, q2, q3⟩
              have HGr := RGroup_any X[n].key wr (HGX.out.okK _ (List.getElem_mem hlt)).2
              have hgh : grp (hsh X[n].key.data.toList) = gH X[n] := rfl
              rw [hgh] at HGr
              have hrS : RisH S6 := by rw [hSe.out]; exact putAll_ris hK.mp.ris _
              have hpl := putP_len hrS X[n]
              have hpl2 : (putP S6 X[n]).length ≤ S6.length + 1 := by split at hpl <;> omega
              have HPl := fun (u : World) (cu : CsAt u A6 (hcells S6)) => plc_any u A6 c6 S6 X[n] true cu (by omega)
              have epl : plc X[n] (!true) S6 = putP S6 X[n] := plc_put hrS X[n]
              rw [epl] at HPl
              have hst : putAll L0 ((X.take (n + 1)).filter (inR low high)) = if inR low high X[n] then putP S6 X[n] else S6 := by
                rw [List.take_succ_eq_append_getElem hlt, List.filter_append]
                cases hq : inR low high X[n] with
                | true =>
                  have h1 : List.filter (inR low high) [X[n]] = [X[n]] := by simp [hq]
                  rw [h1, putAll_snoc, ← hSe.out, if_pos rfl]
                | false =>
                  have h1 : List.filter (inR low high) [X[n]] = [] := by simp [hq]
                  rw [h1, List.append_nil, ← hSe.out, if_neg Bool.false_ne_true]
              have hin : inR low high X[n] = (decide (low ≤ gH X[n]) && decide (gH X[n] < high)) := rfl
              rw [hin] at hst
              clear hgh hin hSe hpl hrS epl
              generalize gH X[n] = gg at *
              generalize putP S6 X[n] = S2 at *
              generalize X[n] = x at *
              obtain ⟨xn, xk, xa, xb⟩ := x
              simp only [hdV] at hXC HGr HPl
              have HXC := Lib.hid hXC
              obtain ⟨c0, c1, c2, c3⟩ := hXC wr (Below.refl _ _)
              have HST := Lib.hid hst
              clear hXC hst
              go_wp2_with (go_at_call 14; refine HGr.mono ?_; rintro e u7 ⟨rfl, b7⟩; refine Hid.out ?_)
              refine Lib.hid ?_
              have B7 := hB.trans (b7.mono hB.size)
              have K7 := hK.keep b7
              have C7 := hC.keep b7
              have CX7 := hCX.keep b7
              have HPl7 := HPl u7 C7
              clear c0 c1 c2 c3 HGr hK hC hCX hB HPl
              obtain ⟨c0, c1, c2, c3⟩ := HXC.out u7 b7
              clear b7 HXC
              by_cases g1 : low ≤ gg
              · by_cases g2 : gg < high
                · have HF : Hid (S2 = putAll L0 ((X.take (n + 1)).filter (inR low high))) := Lib.hid (by rw [HST.out]; simp [g1, g2])
                  clear HST
                  go_wp2_with (go_at_call 9; refine HPl7.mono ?_; rintro e u8 ⟨A8, c8, rfl, C8, b8⟩; refine Hid.out ?_)
                  refine Lib.hid ?_
                  have B8 := B7.trans (b8.mono B7.size)
                  have K8 := K7.keep b8
                  have CX8 := CX7.keep b8
                  clear HPl7 c0 c1 c2 c3 B7 K7 C7 CX7 b8
                  go_wp2_with fail
                  go_roundw
                  case rel => exact ⟨n + 1, A8, c8, S2, by omega, by go_num, rfl, by omega, HF, C8, CX8, K8, B8⟩
                  case measure => simp [intOf]; omega
                · have HF : Hid (S6 = putAll L0 ((X.take (n + 1)).filter (inR low high))) := Lib.hid (by rw [HST.out]; simp [g2])
                  clear HST HPl7
                  go_wp2_with fail
                  go_roundw
                  case rel => exact ⟨n + 1, A6, c6, S6, by omega, by go_num, rfl, by omega, HF, C7, CX7, K7, B7⟩
                  case measure => simp [intOf]; omega
              · have HF : Hid (S6 = putAll L0 ((X.take (n + 1)).filter (inR low high))) := Lib.hid (by rw [HST.out]; simp [g1])
                clear HST HPl7
                go_wp2_with fail
                go_roundw
                case rel => exact ⟨n + 1, A6, c6, S6, by omega, by go_num, rfl, by omega, HF, C7, CX7, K7, B7⟩
                case measure => simp [intOf]; omega
            · have hkn : ¬ (n : Int) < X.length := by omega
              have hF : S6 = putAll L0 (X.filter (inR low high)) := by rw [hSe.out, List.take_of_length_le (by omega)]
              by_cases h4 : 400 < S6.length
              · have h4' : (400 : Int) < S6.length := by omega
                clear hF hSe hC hCX hK
                go_wp2_with fail
                go_ret
                exact ⟨rfl, hB⟩
              · have h4' : ¬ (400 : Int) < S6.length := by omega
                have HIm := import_ok hK (by omega) low high hr p cb lb X (HZ.out wr hB) hbl HRd.out
                rw [← hF] at HIm
                unfold ImEnd at HIm
                simp only [if_neg h4, e0] at HIm
                clear hF hSe hCX
                go_wp2_with (go_at_call 17; refine HIm.mono ?_; rintro e u7 ⟨rfl, M7, hM7, k7, f7⟩; refine Hid.out ?_)
                refine Lib.hid ?_
                have B7 : Below w.heap.size w u7 := hB.trans (f7.toBelow hB.size (by intro x hx; simp at hx; subst hx; exact hR5))
                have C7 := csR hC hK f7
                have HA := all_any k7 (by omega)
                clear HIm hC hK f7 hB
                go_wp2_with (go_at_call 7; refine (error_nil _).mono ?_; rintro e u8 ⟨rfl, rfl⟩; refine Hid.out ?_)
                refine Lib.hid ?_
                go_wp2_with (go_at_call 13; refine HA.mono ?_; rintro e u9 ⟨A9, c9, rfl, hs9, hc9, b9⟩; refine Hid.out ?_)
                refine Lib.hid ?_
                have HSm := sameHds_any u9 A9 A6 c9 c6 S6 hs9.cs (C7.keep b9) (by omega)
                have B9 := B7.trans (b9.mono B7.size)
                clear HA k7 C7 hs9 hc9 b9 B7
                go_wp2_with (go_at_call 12; refine HSm.mono ?_; rintro e u10 ⟨rfl, b10⟩; refine Hid.out ?_)
                refine Lib.hid ?_
                have B10 := B9.trans (b10.mono B9.size)
                clear HSm b10 B9
                go_wp2_with fail
                go_ret
                exact ⟨rfl, B10⟩
end Go.Proofs.YtbppiiomjmpjkabGreatDoor
