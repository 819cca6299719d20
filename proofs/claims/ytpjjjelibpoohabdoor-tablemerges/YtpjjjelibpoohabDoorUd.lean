/- TableMerges's walk. -/
import Derived.Test.YtpjjjelibpoohabDoorUc
namespace Go.Proofs.YtpjjjelibpoohabDoor
open Go.RowKit
set_option linter.unusedVariables false


set_option maxRecDepth 100000 in
set_option maxHeartbeats 1000000 in
theorem merges_false (w : World) (la : Option Addr) (c : Nat) (S : List (List En)) (hS : EsAt w la S) (hSn : S.length ≤ 9223372036854775807) (hSo : ∀ l ∈ S, (∀ r ∈ l, OkEn r) ∧ l.length ≤ 9223372036854775807) (hg : w.cell? ⟨0, 0, none⟩ = some ET) :
    Calls Tryd.prog 4 #[.slice la S.length c, .bool false] w fun e w' => e = .returned (.bool true) ∧ Below w.heap.size w w' := by
  obtain ⟨i0, hi, hz0, hz1, hz2⟩ := info_parts infoBs
  have HS := Lib.hid (fun (u : World) (hb : Below w.heap.size w u) => hS.keep hb)
  have HO := Lib.hid hSo
  have HG := Lib.hid (fun (u : World) (hb : Below w.heap.size w u) => et_below hg hb)
  clear hS hSo hg
  go_enter Tryd.func4, Tryd.ntmps4
  go_wp2_with fail
  go_loopw [5, 6, 7] (fun vt va i wr => ∃ (k : Nat) (T : List Tab) (A : List En) (pa : Option Addr) (ca : Nat), k ≤ 8 ∧ k ≤ S.length ∧ i = .int .i64 k ∧ wr.ownsRow w.heap.size 24 1 vt T.length (T.map tabV) ∧ Hid (∀ t ∈ T, TabOk wr t ∧ LyAt wr t.1 5) ∧ Hid (allR T = some (S.take k)) ∧ T.length ≤ k ∧ va = .slice pa A.length ca ∧ CsAt wr pa (ecells A) ∧ LyAt wr pa 34 ∧ Hid (A = firE (S.take k).flatten) ∧ A.length ≤ 400 * k ∧ Below w.heap.size w wr) (fun _ _ i _ => S.length - (intOf i).toNat)
  case atStart => exact ⟨0, [], [], none, 0, by omega, by omega, rfl, World.ownsRow_nil _ _ _ _, Lib.hid (by simp), Lib.hid rfl, by simp, rfl, .inl rfl, .inl rfl, Lib.hid rfl, by simp, Below.refl _ _⟩
  case round =>
    obtain ⟨k, T, A, pa, ca, hk8, hk, rfl, own, hT, hR, hTl, rfl, hCA, hAt, hA, hAl, hb⟩ := hrel
    by_cases hlt : k < S.length ∧ k < 8
    · obtain ⟨h1, h2⟩ := hlt
      have h1' : (k : Int) < S.length := by omega
      have h2' : (k : Int) < 8 := by omega
      have HE := HS.out w (Below.refl _ _)
      rcases HE with HE | ⟨b, o, rfl, hc⟩
      · rw [HE] at h1; simp at h1
      obtain ⟨q, cq, c0w, hLw⟩ := hc k h1
      have HQ := Lib.hid (fun (u : World) (hu : Below w.heap.size w u) => (⟨(hu.cell (cell_lt c0w)).trans c0w, hLw.keep hu⟩ : u.cell? ⟨b, o + k, none⟩ = some (.slice q S[k].length cq) ∧ CsAt u q (ecells S[k])))
      obtain ⟨c0, hL⟩ := HQ.out wr hb
      clear c0w hLw
      obtain ⟨hok, hLn⟩ := HO.out _ (List.getElem_mem h1)
      have HNx := Lib.hid (fun (t : Tab) (ht : readTb t.2.2 = some S[k]) => (show allR (T ++ [t]) = some (S.take (k + 1)) from by rw [take_next h1]; exact allR_snoc hR.out ht))
      have HF := Lib.hid (fir_next h1 hA.out)
      clear hc hR hA
      generalize S[k] = L at *
      have hbl : b < wr.heap.size := cell_lt c0
      by_cases hE : entsE L = 0
      · have HB := build_yt wr q cq L hL hLn hok hE
        have hL4 := (ents_zero hE).1
        have HRd := Lib.hid (read_build hE)
        have HTk := Lib.hid (fun (u : World) A1 c1 (hz : Bz u A1 c1 (buildB L)) => tab_ok hz hE)
        clear hE hok
        generalize buildB L = Bl at *
        go_wp2_with (go_at_call 7; refine HB.mono ?_; rintro e u1 ⟨A1, c1, rfl, z1, a1, b1⟩; refine Hid.out ?_)
        refine Lib.hid ?_
        have own1 := row_keep own b1
        have B1 := hb.trans (b1.mono hb.size)
        have hs1 : w.heap.size ≤ u1.heap.size := B1.size
        have CA1 := hCA.keep b1
        have At1 := hAt.below b1
        have L1 := hL.keep b1
        have k1 := (b1.cell (p := ⟨b, o + k, none⟩) hbl).trans c0
        have hbl1 : b < u1.heap.size := cell_lt k1
        have T1 := Lib.hid (fun (t : Tab) (ht : t ∈ T) => (⟨(hT.out t ht).1.keep b1, (hT.out t ht).2.below b1⟩ : TabOk u1 t ∧ LyAt u1 t.1 5))
        have tk1 := HTk.out u1 A1 c1 z1
        clear HB b1 own hb hCA hAt hL c0 hT z1 HTk hbl
        go_wp2_with (at_builtin; refine wpList_append_own _ rfl _ _ 41 rfl w.heap.size 24 i0 (.slice none 0 0) 1 24 Tryd.underlying41 hi hz0 hz1 hz2 rfl (by decide) _ _ _ rfl (own1.alloc _) ⟨u1.heap.size, 0, none⟩ 1 1 [.slice A1 Bl.length c1] rfl rfl (by intro j u' hj; match j, hj with | 0, hj => simp at hj; subst hj; simp [Addr.add]) (by intro u' hu'; simp at hu'; subst hu'; rfl) (by unfold maxLen; omega) (by omega) (by simp; omega) ?_)
        intro v2 u2 o2 g2 _
        refine Hid.out ?_
        refine Lib.hid ?_
        have kp2 : KpT u1 u2 := KpT.grown (w1 := u1.alloc (.cells #[.slice A1 Bl.length c1] 24)) (fun j hj => Below.heap_alloc _ _ _ hj) (by simp) g2 (own1.alloc _)
        have B2 : Below w.heap.size w u2 := (B1.alloc hs1 _).grown g2 (by simp; omega) (fun j hj => by have := (own1.lt j hj).1; omega)
        obtain ⟨T2, hT2⟩ : ∃ T2 : List Tab, T2 = T ++ [(A1, c1, Bl)] := ⟨_, rfl⟩
        have o2' : u2.ownsRow w.heap.size 24 1 v2 T2.length (T2.map tabV) := by rw [hT2]; simpa [tabV] using o2
        have hT2l : T2.length ≤ k + 1 := by rw [hT2]; simp; omega
        have TT2 : Hid (∀ t ∈ T2, TabOk u2 t ∧ LyAt u2 t.1 5) := Lib.hid (fun t ht => by
          rw [hT2] at ht
          rcases List.mem_append.1 ht with ht | ht
          · exact ⟨(T1.out t ht).1.kp (T1.out t ht).2 kp2, (T1.out t ht).2.kp kp2 (by decide)⟩
          · rw [List.mem_singleton] at ht; subst ht; exact ⟨tk1.kp a1 kp2, a1.kp kp2 (by decide)⟩)
        have HR2 : Hid (allR T2 = some (S.take (k + 1))) := Lib.hid (by rw [hT2]; exact HNx.out _ HRd.out)
        have CA2 := CA1.kp At1 kp2 (by decide)
        have At2 := At1.kp kp2 (by decide)
        clear o2 g2 hT2 T1 tk1 CA1 At1 kp2 own1 a1 HNx HRd L1 k1 hs1 hbl1
        go_wp2_with fail
        go_loopw [6, 10] (fun va j wr => ∃ (n : Nat) (X : List En) (px : Option Addr) (cx : Nat), n ≤ L.length ∧ j = .int .i64 n ∧ va = .slice px X.length cx ∧ CsAt wr px (ecells X) ∧ LyAt wr px 34 ∧ Hid (X = (L.take n).foldl putE A) ∧ X.length ≤ A.length + n ∧ Below u2.heap.size u2 wr) (fun _ j _ => L.length - (intOf j).toNat)
        case atStart => exact ⟨0, A, pa, ca, by omega, rfl, rfl, CA2, At2, Lib.hid rfl, by omega, Below.refl _ _⟩
        case round =>
          obtain ⟨n, X, px, cx, hn, rfl, rfl, hCX, hAX, hX, hXl, hbx⟩ := hrel
          have B3 : Below w.heap.size w wr := B2.trans (hbx.mono B2.size)
          obtain ⟨k3, L3⟩ := HQ.out wr B3
          clear CA2 At2
          by_cases hln : n < L.length
          · have hln' : (n : Int) < L.length := by omega
            obtain ⟨bq, oq, rfl, d0, d1, d2⟩ := ens_at L3 n hln
            have HP := sput_any wr px cx X L[n] hCX (by omega)
            have HXn := Lib.hid (show putE X L[n] = (L.take (n + 1)).foldl putE A from by rw [fold_next hln, hX.out])
            have hpl := putE_len L[n] X
            clear L3 hX hCX hAX
            generalize L[n] = r at *
            obtain ⟨key, val, dead⟩ := r
            simp only [enV] at d0 d1 d2 HP
            generalize putE X ⟨key, val, dead⟩ = Y at *
            go_wp2_with (go_at_call 14; refine HP.mono ?_; rintro e u3 ⟨v3, rfl, own3, b3⟩; obtain ⟨p3, c3, rfl⟩ := row_slice own3; refine Hid.out ?_)
            refine Lib.hid ?_
            have hC3 := (own_cs own3 (ecells_len _)).1
            have hA3 := LyAt.of own3
            have D3 := hbx.trans (b3.mono hbx.size)
            clear HP own3 b3 hbx B3 k3 d0 d1 d2
            go_wp2_with fail
            go_roundw
            case rel => exact ⟨n + 1, Y, p3, c3, by omega, by go_num, rfl, hC3, hA3, HXn, by omega, D3⟩
            case measure => simp [intOf]; omega
          · have hln' : ¬ (n : Int) < L.length := by omega
            have HX : Hid (X = firE (S.take (k + 1)).flatten) := Lib.hid (by rw [hX.out, List.take_of_length_le (by omega)]; exact HF.out)
            have own3 := row_keep o2' hbx
            have TT3 : Hid (∀ t ∈ T2, TabOk wr t ∧ LyAt wr t.1 5) := Lib.hid (fun t ht => ⟨(TT2.out t ht).1.keep hbx, (TT2.out t ht).2.below hbx⟩)
            clear hX HF TT2 o2' L3 hbx
            go_wp2_with fail
            go_roundw
            case rel => exact ⟨k + 1, T2, X, px, cx, by omega, by omega, by go_num, own3, TT3, HR2, hT2l, rfl, hCX, hAX, HX, by omega, B3⟩
            case measure => simp [intOf]; omega
      · have HB := build_no wr q cq L hL hLn hok hE
        have HSe := Lib.hid (fun (u : World) (h : CsAt u q (ecells L)) => sents_is2 u q cq L h hLn hok)
        have hE1 : (((entsE L : Nat) : Int) != 0) = true := by simpa using hE
        generalize ((entsE L : Nat) : Int) = E at *
        clear hE hok HNx HF
        go_wp2_with (go_at_call 7; refine HB.mono ?_; rintro e u1 ⟨rfl, b1⟩; refine Hid.out ?_)
        refine Lib.hid ?_
        have B1 := hb.trans (b1.mono hb.size)
        have L1 := hL.keep b1
        have k1 := (b1.cell (p := ⟨b, o + k, none⟩) hbl).trans c0
        clear HB b1 hL c0 hb
        go_wp2_with (go_at_call 6; refine (HSe.out u1 L1).mono ?_; rintro e u2 ⟨rfl, b2⟩; refine Hid.out ?_)
        refine Lib.hid ?_
        have B2 := B1.trans (b2.mono B1.size)
        clear b2 HSe
        go_wp2_with fail
        go_ret
        exact ⟨rfl, B2⟩
    · have hR' := hR.out
      obtain ⟨p5, c5, rfl⟩ := row_slice own
      have hC5 : CsAt wr p5 (T.map tabV) := (own_cs own (by simp)).1
      have hTB := Lib.hid (fun (t : Tab) (ht : t ∈ T) => (hT.out t ht).1)
      have HMr : Hid (mergeP (S.take k) false = A.filter fun e : En => !e.dead) := Lib.hid (by rw [hA.out]; simp [mergeP])
      have hRl : (A.filter fun e : En => !e.dead).length ≤ 3200 := (Nat.le_trans (List.length_filter_le _ _) (by omega))
      clear own hT hAt hA hR'
      rcases (by omega : ¬ (k : Int) < S.length ∨ ((k : Int) < S.length ∧ ¬ (k : Int) < 8)) with hx | ⟨hx, hy⟩
      all_goals
        have HLv := slive_any wr pa ca A hCA (by omega)
        generalize (A.filter fun e : En => !e.dead) = R at *
        go_wp2_with (go_at_call 15; refine HLv.mono ?_; rintro e x1 ⟨vx, rfl, ownx, bx⟩; obtain ⟨px, cx, rfl⟩ := row_slice ownx; refine Hid.out ?_)
        refine Lib.hid ?_
        have hCR := (own_cs ownx (ecells_len _)).1
        have hTx : ∀ t ∈ T, TabOk x1 t := fun t ht => (hTB.out t ht).keep bx
        have hCx : CsAt x1 p5 (T.map tabV) := hC5.keep bx
        have Bx := hb.trans (bx.mono hb.size)
        clear HLv ownx bx hCA hC5 hTB hb

        have HMg := merge_false x1 p5 c5 T hCx hTx (by omega)
        by_cases h4 : R.length ≤ 400
        · have h4' : ¬ (400 : Int) < R.length := by omega
          have HMy := HMg.mono (fun e y1 hE => mg_yes hR.out HMr.out h4 hE)
          have HRe := Lib.hid (fun (u : World) A1 c1 (hz : Bz u A1 c1 (buildB R)) => read_yes u A1 c1 R hz (by have h9 := merge_ents hR.out false; rw [HMr.out, if_neg (by omega)] at h9; exact h9))
          clear HMg hCx hTx hR HMr
          generalize buildB R = Bl at *
          go_wp2_with (go_at_call 16; refine HMy.mono ?_; rintro e y1 ⟨A1, c1, rfl, z1, b1⟩; refine Hid.out ?_)
          refine Lib.hid ?_
          have By := Bx.trans (b1.mono Bx.size)
          have hCR1 := hCR.keep b1
          clear HMy b1 Bx hCR
          go_wp2_with (go_at_call 8; refine (error_nil y1).mono ?_; rintro e u ⟨rfl, rfl⟩; refine Hid.out ?_)
          refine Lib.hid ?_
          go_wp2_with (go_at_call 9; refine (HRe.out y1 A1 c1 z1).mono ?_; rintro e y2 ⟨A2, c2, rfl, s2, b2⟩; refine Hid.out ?_)
          refine Lib.hid ?_
          have By2 := By.trans (b2.mono By.size)
          have hCR2 := hCR1.keep b2
          clear HRe z1 b2 By hCR1
          go_wp2_with (go_at_call 10; refine (sameEns_any y2 A2 px c2 cx R s2 hCR2 (by omega)).mono ?_; rintro e y3 ⟨rfl, b3⟩; refine Hid.out ?_)
          refine Lib.hid ?_
          have By3 := By2.trans (b3.mono By2.size)
          clear b3 s2 hCR2 By2
          go_wp2_with fail
          go_ret
          exact ⟨rfl, By3⟩
        · have h4' : (400 : Int) < R.length := by omega
          have HMn := HMg.mono (fun e y1 hE => mg_no hR.out HMr.out (by omega) hE)
          clear HMg hCx hTx hR HMr
          go_wp2_with (go_at_call 16; refine HMn.mono ?_; rintro e y1 ⟨rfl, b1⟩; refine Hid.out ?_)
          refine Lib.hid ?_
          have By := Bx.trans (b1.mono Bx.size)
          have HEh := error_hit 4 y1 (HG.out y1 By)
          clear HMn b1 Bx hCR
          go_wp2_with (go_at_call 8; refine HEh.mono ?_; rintro e y2 ⟨rfl, b2⟩; refine Hid.out ?_)
          refine Lib.hid ?_
          have By2 := By.trans (b2.mono By.size)
          clear HEh b2 By
          go_wp2_with fail
          go_ret
          exact ⟨rfl, By2⟩
end Go.Proofs.YtpjjjelibpoohabDoor
