/- The document's side: states written. -/
import Derived.Test.YtbppiiomjmpjkaaDoorGf
import Derived.Deep.RegionHeld3
namespace Go.Proofs.YtbppiiomjmpjkaaDoor
open Go.RowKit

theorem not_badH {r : Hd} (h : badHd r = false) : r.key.size ≤ 40 := by simp [badHd] at h; omega

set_option maxRecDepth 100000 in
set_option maxHeartbeats 2000000 in
theorem shelds_any (w : World) (la : Option Addr) (c : Nat) (L : List Hd) (h : CsAt w la (hcells L)) (hlen : L.length ≤ 9223372036854775807) (hok : ∀ r ∈ L, OkHd r) :
    Calls Tryd.prog 11 #[.slice la L.length c] w fun e w' => SwEnd w (heldsE ltH L) (lstB hdB L) e w' := by
  by_cases hmany : 400 < L.length
  · have hm' : (400 : Int) < L.length := by omega
    have e4 : heldsE ltH L = 4 := by unfold heldsE; rw [if_pos hmany]
    rw [e4]
    go_enter Tryd.func11, Tryd.ntmps11
    go_wp2_with fail
    go_ret2
    exact ⟨by rw [if_neg (by omega)]; rfl, Below.refl _ _⟩
  · have hm' : ¬ (400 : Int) < L.length := by omega
    have eE : heldsE ltH L = hdsE ltH none L := by unfold heldsE; rw [if_neg hmany]
    obtain ⟨E, hE⟩ : ∃ E, E = heldsE ltH L := ⟨_, rfl⟩
    rw [← hE] at eE ⊢
    have HE := Lib.hid eE
    clear eE hE
    have hten := num_ten (n := (L.length : Int)) (by omega) (by omega)
    have HN := fun (u : World) => snum_any u (L.length : Int) ⟨by omega, by omega⟩
    have HP0 : Hid (∀ v w', E = 0 → Own w.heap.size w' v (lstB hdB L) → Below w.heap.size w w' → SwEnd w E (lstB hdB L) (.returned (.tuple #[v, .int .i64 0])) w') := Lib.hid (fun v w' e0 ho hb => ⟨by rw [if_pos e0]; exact ⟨v, rfl, ho⟩, hb⟩)
    have HP1 : Hid (∀ w', E = 1 → Below w.heap.size w w' → SwEnd w E (lstB hdB L) (.returned (.tuple #[.slice none 0 0, .int .i64 1])) w') := Lib.hid (fun w' e1 hb => ⟨by rw [if_neg (by omega), e1]; rfl, hb⟩)
    have HP5 : Hid (∀ w', E = 5 → Below w.heap.size w w' → SwEnd w E (lstB hdB L) (.returned (.tuple #[.slice none 0 0, .int .i64 5])) w') := Lib.hid (fun w' e1 hb => ⟨by rw [if_neg (by omega), e1]; rfl, hb⟩)
    obtain ⟨B, hB⟩ : ∃ B, B = w.heap.size := ⟨_, rfl⟩
    have hB' : B ≤ w.heap.size := by omega
    have hkeep : ∀ w', Below B w w' → CsAt w' la (hcells L) := fun w' hb => h.keep (by rw [← hB]; exact hb)
    rw [← hB] at HP0 HP1 HP5
    have HN0 := HN w
    rw [← hB] at HN0
    clear hB h HN
    go_enter Tryd.func11, Tryd.ntmps11
    go_wp2_with (go_at_call 18; refine HN0.mono ?_; rintro e w2 ⟨v2, rfl, o2, b2⟩; refine Hid.out ?_)
    refine Lib.hid ?_
    clear HN0
    go_wp2_with fail
    go_loopw [4, 5] (fun v i wr => ∃ k : Nat, k ≤ L.length ∧ i = .int .i64 k ∧ E = hdsE ltH (pv L k) (L.drop k) ∧ Own B wr v (numB L.length ++ allB hdB (L.take k)) ∧ (∀ r ∈ L.take k, r.key.size ≤ 40) ∧ Below B w wr) (fun _ i _ => L.length - (intOf i).toNat)
    case atStart => exact ⟨0, by omega, rfl, by rw [HE.out]; exact hdsE_zero L, by simpa [allB] using o2, by simp, b2⟩
    case round =>
      obtain ⟨k, hk, rfl, hno, hown, hkk, hb⟩ := hrel
      clear HE o2 b2
      have hBz := hb.size
      have hBr : B ≤ wr.heap.size := by omega
      by_cases hlt : k < L.length
      · have hok1 := hok _ (List.getElem_mem hlt)
        obtain ⟨b, o, rfl, c0, c1, c2, c3⟩ := hds_at (hkeep _ hb) k hlt
        have hcellA : ∀ (j : Nat) (hj : j < L.length) (u : World), Below B w u → u.cell? ⟨b, o + j * 4, none⟩ = some (.int .i64 L[j].nd) ∧ u.cell? ⟨b, o + j * 4 + 1, none⟩ = some (.string L[j].key) ∧ u.cell? ⟨b, o + j * 4 + 2, none⟩ = some (.int .i64 L[j].a) ∧ u.cell? ⟨b, o + j * 4 + 3, none⟩ = some (.int .i64 L[j].b) := fun j hj u hu => by
          obtain ⟨b', o', e, d⟩ := hds_at (hkeep _ hu) j hj
          simp only [Option.some.injEq, Addr.mk.injEq, and_true] at e
          obtain ⟨rfl, rfl⟩ := e
          exact d
        cases hbad : badHd L[k] with
        | true =>
          have e1 : E = 1 := by rw [hno]; exact hdsE_bad hlt hbad
          have HR := sheld_any L[k] wr (by have := hok1.2.1; omega)
          rw [hbad] at HR
          have HP := Lib.hid (fun w' => HP1.out w' e1)
          clear HP0 HP1 HP5 hno hok hbad hok1 e1 hcellA hkk
          generalize L[k] = r at *
          obtain ⟨nd, key, a, bv⟩ := r
          simp only [hdV] at c0 c1 c2 c3 HR
          go_wp2_with (go_at_call 33; refine HR.mono ?_; rintro e u1 ⟨rfl, b1⟩)
          go_ret2
          exact HP.out _ (hb.trans (b1.mono hBr))
        | false =>
          have HR := sheld_any L[k] wr (by have := hok1.2.1; omega)
          rw [hbad] at HR
          have hcell := hcellA k hlt
          cases k with
          | zero =>
            have HN := Lib.hid (hno.trans (hdsE_first hlt hbad))
            have hsn := allB_snoc hdB L 0 hlt
            have hsz : (allB hdB (L.take 0)).length ≤ 32000 := by
              have h1 := allB_le hdB 80 (L.take 0) (fun r hr => hdB_le (hok r (List.mem_of_mem_take hr)) (hkk r hr))
              have h2 : (L.take 0).length ≤ 400 := by rw [List.length_take]; omega
              exact Nat.le_trans h1 (by omega)
            have hk40 := not_badH hbad
            have HKK : Hid (∀ r ∈ L.take (0 + 1), r.key.size ≤ 40) := Lib.hid (by
              rw [List.take_succ_eq_append_getElem hlt]
              intro r hr
              rcases List.mem_append.1 hr with h | h
              · exact hkk r h
              · simp at h; subst h; exact hk40)
            clear hno hok hbad hcellA hkk
            generalize L[0] = r at *
            obtain ⟨nd, key, a, bv⟩ := r
            obtain ⟨ok0, ok1, ok2, ok3⟩ := hok1
            simp only [Nat.zero_mul, Nat.add_zero] at hcell c0 c1 c2 c3
            simp only [hdV, hdB] at hcell c0 c1 c2 c3 HR hsn hk40 ok0 ok1 ok2 ok3
            have HSN := Lib.hid hsn
            clear hsn
            generalize allB hdB (L.take 0) = q at *
            have hql : (numB L.length ++ q).length ≤ 32010 := by simp; omega
            generalize hl0 : numB L.length ++ q = l0 at *
            have HL0 := Lib.hid hl0
            clear hl0
            have hkt := num_ten (n := (key.size : Int)) (by omega) (by omega)
            have hkl : (kB key).length ≤ 50 := by have := kB_len key; omega
            have hnd := num_ten ok0.1 ok0.2
            have hnt := num_ten ok2.1 ok2.2
            have htt := num_ten ok3.1 ok3.2
            have hle1 : l0.length + (numB nd).length ≤ 140737488355328 := by omega
            obtain ⟨l1, hl1⟩ : ∃ l1, l1 = l0 ++ numB nd := ⟨_, rfl⟩
            obtain ⟨l2, hl2⟩ : ∃ l2, l2 = l1 ++ kB key := ⟨_, rfl⟩
            obtain ⟨l3, hl3⟩ : ∃ l3, l3 = l2 ++ numB a := ⟨_, rfl⟩
            obtain ⟨l4, hl4⟩ : ∃ l4, l4 = l3 ++ numB bv := ⟨_, rfl⟩
            have hle2 : l1.length + (kB key).length ≤ 140737488355328 := by rw [hl1]; simp only [List.length_append]; omega
            have hle3 : l2.length + (numB a).length ≤ 140737488355328 := by rw [hl2, hl1]; simp only [List.length_append]; omega
            have hle4 : l3.length + (numB bv).length ≤ 140737488355328 := by rw [hl3, hl2, hl1]; simp only [List.length_append]; omega
            have HL1 := Lib.hid hl1
            have HL2 := Lib.hid hl2
            have HL3 := Lib.hid hl3
            have HL4 := Lib.hid hl4
            clear hl1 hl2 hl3 hl4
            have HT := fun (u : World) => stext_any u key (by omega)
            have HN0 := fun (u : World) => snum_any u nd ok0
            have HN1 := fun (u : World) => snum_any u a ok2
            have HN2 := fun (u : World) => snum_any u bv ok3
            go_wp2_with (go_at_call 33; refine HR.mono ?_; rintro e u1 ⟨rfl, b1⟩; refine Hid.out ?_)
            refine Lib.hid ?_
            have hw1 := own_keep hown b1
            have hB1 : Below B w u1 := hb.trans (b1.mono hBr)
            have hz1 : B ≤ u1.heap.size := Nat.le_trans hBr b1.size
            obtain ⟨g10, g11, g12, g13⟩ := hcell u1 hB1
            clear b1 hown HR
            go_wp2_with fail
            go_quiet (fail)
            have hw3 : Own B (u1.drewN nq) _ l0 := hw1
            have hB3 : Below B w (u1.drewN nq) := ⟨hB1.os, hB1.tape, hB1.output, hB1.size, hB1.block⟩
            have hz3 : B ≤ (u1.drewN nq).heap.size := hz1
            clear hw1 hB1 hz1 g10 g11 g12 g13
            generalize u1.drewN nq = u3 at *
            obtain ⟨g30, g31, g32, g33⟩ := hcell u3 hB3
            go_wp2_with (go_at_call 18; refine (HN0 u3).mono ?_; rintro e u4 ⟨v4, rfl, o4, b4⟩; refine Hid.out ?_)
            refine Lib.hid ?_
            obtain ⟨w4, A4, c4', rfl, s4, n4⟩ := piece hw3 b4 o4
            have hz4 : B ≤ u4.heap.size := Nat.le_trans hz3 b4.size
            go_wp2_with (at_builtin; refine append_bs rfl _ _ rfl B _ l0 rfl w4 A4 _ c4' (numB nd) rfl rfl s4 n4 hle1 hz4 ?_)
            intro v5 u5 hw5 b5
            rw [← HL1.out] at hw5
            have hB5 : Below B w u5 := (hB3.trans (b4.mono hz3)).trans b5
            have hz5 : B ≤ u5.heap.size := Nat.le_trans hz4 b5.size
            clear b4 b5 o4 w4 s4 n4 hw3
            obtain ⟨g50, g51, g52, g53⟩ := hcell u5 hB5
            go_wp2_with (go_at_call 20; refine (HT u5).mono ?_; rintro e u6 ⟨v6, rfl, o6, b6⟩; refine Hid.out ?_)
            refine Lib.hid ?_
            obtain ⟨w6, A6, c6', rfl, s6, n6⟩ := piece hw5 b6 o6
            have hz6 : B ≤ u6.heap.size := Nat.le_trans hz5 b6.size
            go_wp2_with (at_builtin; refine append_bs rfl _ _ rfl B _ l1 rfl w6 A6 _ c6' (kB key) rfl rfl s6 n6 hle2 hz6 ?_)
            intro v7 u7 hw7 b7
            rw [← HL2.out] at hw7
            have hB7 : Below B w u7 := (hB5.trans (b6.mono hz5)).trans b7
            have hz7 : B ≤ u7.heap.size := Nat.le_trans hz6 b7.size
            clear b6 b7 o6 w6 s6 n6 hw5
            obtain ⟨g70, g71, g72, g73⟩ := hcell u7 hB7
            go_wp2_with (go_at_call 18; refine (HN1 u7).mono ?_; rintro e u8 ⟨v8, rfl, o8, b8⟩; refine Hid.out ?_)
            refine Lib.hid ?_
            obtain ⟨w8, A8, c8', rfl, s8, n8⟩ := piece hw7 b8 o8
            have hz8 : B ≤ u8.heap.size := Nat.le_trans hz7 b8.size
            go_wp2_with (at_builtin; refine append_bs rfl _ _ rfl B _ l2 rfl w8 A8 _ c8' (numB a) rfl rfl s8 n8 hle3 hz8 ?_)
            intro v9 u9 hw9 b9
            rw [← HL3.out] at hw9
            have hB9 : Below B w u9 := (hB7.trans (b8.mono hz7)).trans b9
            have hz9 : B ≤ u9.heap.size := Nat.le_trans hz8 b9.size
            clear b8 b9 o8 w8 s8 n8 hw7
            obtain ⟨g90, g91, g92, g93⟩ := hcell u9 hB9
            go_wp2_with (go_at_call 18; refine (HN2 u9).mono ?_; rintro e u10 ⟨v10, rfl, o10, b10⟩; refine Hid.out ?_)
            refine Lib.hid ?_
            obtain ⟨w10, A10, c10', rfl, s10, n10⟩ := piece hw9 b10 o10
            have hz10 : B ≤ u10.heap.size := Nat.le_trans hz9 b10.size
            go_wp2_with (at_builtin; refine append_bs rfl _ _ rfl B _ l3 rfl w10 A10 _ c10' (numB bv) rfl rfl s10 n10 hle4 hz10 ?_)
            intro v11 u11 hw11 b11
            rw [← HL4.out] at hw11
            have hB11 : Below B w u11 := (hB9.trans (b10.mono hz9)).trans b11
            have hz11 : B ≤ u11.heap.size := Nat.le_trans hz10 b11.size
            clear b10 b11 o10 w10 s10 n10 hw9
            go_wp2_with fail
            go_roundw
            case rel => exact ⟨1, by omega, by go_num, HN.out, by rw [HSN.out]; rw [HL4.out, HL3.out, HL2.out, HL1.out, ← HL0.out] at hw11; simpa using hw11, HKK.out, hB11⟩
            case measure => simp [intOf]; omega
          | succ k =>
            have hlt0 : k < L.length := by omega
            have hcell0 := hcellA k hlt0
            have HLo := fun hc => hno.trans (hdsE_low hlt hbad hc)
            have HNx := fun hc => hno.trans (hdsE_next hlt hbad hc)
            have HC := fun w' => ahead_any L[k] L[k + 1] w'
            have hsn := allB_snoc hdB L (k + 1) hlt
            have hsz : (allB hdB (L.take (k + 1))).length ≤ 32000 := by
              have h1 := allB_le hdB 80 (L.take (k + 1)) (fun r hr => hdB_le (hok r (List.mem_of_mem_take hr)) (hkk r hr))
              have h2 : (L.take (k + 1)).length ≤ 400 := by rw [List.length_take]; omega
              exact Nat.le_trans h1 (by omega)
            have hk40 := not_badH hbad
            have HKK : Hid (∀ r ∈ L.take ((k + 1) + 1), r.key.size ≤ 40) := Lib.hid (by
              rw [List.take_succ_eq_append_getElem hlt]
              intro r hr
              rcases List.mem_append.1 hr with h | h
              · exact hkk r h
              · simp at h; subst h; exact hk40)
            have hlz : ltH L[k] L[k + 1] = decide (cmpH L[k] L[k + 1] < 0) := rfl
            rw [hlz] at HC
            clear hno hok hbad hcellA hkk hlz
            generalize cmpH L[k] L[k + 1] = z at *
            generalize L[k + 1] = r at *
            generalize L[k] = r' at *
            obtain ⟨nd, key, a, bv⟩ := r
            obtain ⟨nd', key', a', bv'⟩ := r'
            obtain ⟨ok0, ok1, ok2, ok3⟩ := hok1
            simp only [hdV] at hcell0 HC
            simp only [hdV, hdB] at hcell c0 c1 c2 c3 HR hsn hk40 ok0 ok1 ok2 ok3
            have HSN := Lib.hid hsn
            clear hsn
            generalize allB hdB (L.take (k + 1)) = q at *
            have hql : (numB L.length ++ q).length ≤ 32010 := by simp; omega
            generalize hl0 : numB L.length ++ q = l0 at *
            have HL0 := Lib.hid hl0
            clear hl0
            have hkt := num_ten (n := (key.size : Int)) (by omega) (by omega)
            have hkl : (kB key).length ≤ 50 := by have := kB_len key; omega
            have hnd := num_ten ok0.1 ok0.2
            have hnt := num_ten ok2.1 ok2.2
            have htt := num_ten ok3.1 ok3.2
            have hle1 : l0.length + (numB nd).length ≤ 140737488355328 := by omega
            obtain ⟨l1, hl1⟩ : ∃ l1, l1 = l0 ++ numB nd := ⟨_, rfl⟩
            obtain ⟨l2, hl2⟩ : ∃ l2, l2 = l1 ++ kB key := ⟨_, rfl⟩
            obtain ⟨l3, hl3⟩ : ∃ l3, l3 = l2 ++ numB a := ⟨_, rfl⟩
            obtain ⟨l4, hl4⟩ : ∃ l4, l4 = l3 ++ numB bv := ⟨_, rfl⟩
            have hle2 : l1.length + (kB key).length ≤ 140737488355328 := by rw [hl1]; simp only [List.length_append]; omega
            have hle3 : l2.length + (numB a).length ≤ 140737488355328 := by rw [hl2, hl1]; simp only [List.length_append]; omega
            have hle4 : l3.length + (numB bv).length ≤ 140737488355328 := by rw [hl3, hl2, hl1]; simp only [List.length_append]; omega
            have HL1 := Lib.hid hl1
            have HL2 := Lib.hid hl2
            have HL3 := Lib.hid hl3
            have HL4 := Lib.hid hl4
            clear hl1 hl2 hl3 hl4
            have HT := fun (u : World) => stext_any u key (by omega)
            have HN0 := fun (u : World) => snum_any u nd ok0
            have HN1 := fun (u : World) => snum_any u a ok2
            have HN2 := fun (u : World) => snum_any u bv ok3
            go_wp2_with (go_at_call 33; refine HR.mono ?_; rintro e u1 ⟨rfl, b1⟩; refine Hid.out ?_)
            refine Lib.hid ?_
            have hw1 := own_keep hown b1
            have hB1 : Below B w u1 := hb.trans (b1.mono hBr)
            have hz1 : B ≤ u1.heap.size := Nat.le_trans hBr b1.size
            obtain ⟨g10, g11, g12, g13⟩ := hcell u1 hB1
            clear b1 hown HR
            have hlA : ∀ v w' : World, v.heap = u1.heap → Below v.heap.size v w' → w'.cell? ⟨b, o + k * 4, none⟩ = some (.int .i64 nd') ∧ w'.cell? ⟨b, o + k * 4 + 1, none⟩ = some (.string key') ∧ w'.cell? ⟨b, o + k * 4 + 2, none⟩ = some (.int .i64 a') ∧ w'.cell? ⟨b, o + k * 4 + 3, none⟩ = some (.int .i64 bv') ∧ w'.cell? ⟨b, o + (k + 1) * 4, none⟩ = some (.int .i64 nd) ∧ w'.cell? ⟨b, o + (k + 1) * 4 + 1, none⟩ = some (.string key) ∧ w'.cell? ⟨b, o + (k + 1) * 4 + 2, none⟩ = some (.int .i64 a) ∧ w'.cell? ⟨b, o + (k + 1) * 4 + 3, none⟩ = some (.int .i64 bv) := by
              intro v w' hv hvb
              have hbb : b < u1.heap.size := cell_lt g10
              obtain ⟨p0, p1, p2, p3⟩ := hcell0 u1 hB1
              have kk : ∀ (oo : Nat) (x : Value), u1.cell? ⟨b, oo, none⟩ = some x → w'.cell? ⟨b, oo, none⟩ = some x := fun oo x hx => by
                rw [hvb.cell (p := ⟨b, oo, none⟩) (by rw [hv]; exact hbb), World.cell?_of_block (w := u1) (by rw [hv])]; exact hx
              exact ⟨kk _ _ p0, kk _ _ p1, kk _ _ p2, kk _ _ p3, kk _ _ g10, kk _ _ g11, kk _ _ g12, kk _ _ g13⟩
            have hi0 : (0 : Int) ≤ (k : Int) := by omega
            have hi1 : (k : Int) < (L.length : Int) := by omega
            have hi2 : (k : Int) + 1 < (L.length : Int) := by omega
            have hi4 : (k : Int) + 1 ≤ 400 := by omega
            have hi5 : IntKind.i64.wrap (k : Int) = (k : Int) := by simp [IntKind.wrap, IntKind.bits, IntKind.signed]; omega
            have hi6 : (0 : Int) ≤ (k : Int) + 1 := by omega
            have hi7 : (k : Int) + 1 ≤ (L.length : Int) := by omega
            have hi8 : IntKind.i64.wrap ((k : Int) + 1) = (k : Int) + 1 := by simp [IntKind.wrap, IntKind.bits, IntKind.signed]; omega
            have hk1 : (0 : Int) < ((k + 1 : Nat) : Int) := by omega
            by_cases hz : 0 ≤ z
            · have HP := Lib.hid (fun w' => HP5.out w' (HLo (by omega)))
              have hdz : decide (z < 0) = false := by simp; omega
              rw [hdz] at HC
              clear HLo HNx HP0 HP1 HP5 HN0 HN1 HN2 HT hdz
              go_wp2_with fail
              have HO := hlA _ _ rfl (Below.refl _ u1)
              go_region_held3 (fun w' => w'.cell? ⟨b, o + k * 4, none⟩ = some (.int .i64 nd') ∧ w'.cell? ⟨b, o + k * 4 + 1, none⟩ = some (.string key') ∧ w'.cell? ⟨b, o + k * 4 + 2, none⟩ = some (.int .i64 a') ∧ w'.cell? ⟨b, o + k * 4 + 3, none⟩ = some (.int .i64 bv') ∧ w'.cell? ⟨b, o + (k + 1) * 4, none⟩ = some (.int .i64 nd) ∧ w'.cell? ⟨b, o + (k + 1) * 4 + 1, none⟩ = some (.string key) ∧ w'.cell? ⟨b, o + (k + 1) * 4 + 2, none⟩ = some (.int .i64 a) ∧ w'.cell? ⟨b, o + (k + 1) * 4 + 3, none⟩ = some (.int .i64 bv)) (first | go_keep | exact HO | exact hlA u1.drew w2 rfl b2) ((go_at_call 34; refine (HC _).mono ?_; rintro e w2 ⟨rfl, b2⟩))
              all_goals
                go_wp2_with fail
                go_ret2
                exact HP.out _ (hB1.drew.trans (b2.mono hz1))
            · have HN := Lib.hid (HNx (by omega))
              have hdz : decide (z < 0) = true := by simp; omega
              rw [hdz] at HC
              clear HLo HNx HP0 HP1 HP5 hdz
              go_wp2_with fail
              have HO := hlA _ _ rfl (Below.refl _ u1)
              go_region_held3 (fun w' => w'.cell? ⟨b, o + k * 4, none⟩ = some (.int .i64 nd') ∧ w'.cell? ⟨b, o + k * 4 + 1, none⟩ = some (.string key') ∧ w'.cell? ⟨b, o + k * 4 + 2, none⟩ = some (.int .i64 a') ∧ w'.cell? ⟨b, o + k * 4 + 3, none⟩ = some (.int .i64 bv') ∧ w'.cell? ⟨b, o + (k + 1) * 4, none⟩ = some (.int .i64 nd) ∧ w'.cell? ⟨b, o + (k + 1) * 4 + 1, none⟩ = some (.string key) ∧ w'.cell? ⟨b, o + (k + 1) * 4 + 2, none⟩ = some (.int .i64 a) ∧ w'.cell? ⟨b, o + (k + 1) * 4 + 3, none⟩ = some (.int .i64 bv)) (first | go_keep | exact HO | exact hlA u1.drew w2 rfl b2) ((go_at_call 34; refine (HC _).mono ?_; rintro e w2 ⟨rfl, b2⟩))
              have hw3 : Own B w2 _ l0 := own_keep (w := u1.drew) hw1 b2
              have hB3 : Below B w w2 := hB1.drew.trans (b2.mono hz1)
              have hz3 : B ≤ w2.heap.size := Nat.le_trans hz1 b2.size
              clear hw1 hB1 hz1 g10 g11 g12 g13 HC HO hlA hcell0 b2
              generalize w2 = u3 at *
              obtain ⟨g30, g31, g32, g33⟩ := hcell u3 hB3
              go_wp2_with (go_at_call 18; refine (HN0 u3).mono ?_; rintro e u4 ⟨v4, rfl, o4, b4⟩; refine Hid.out ?_)
              refine Lib.hid ?_
              obtain ⟨w4, A4, c4', rfl, s4, n4⟩ := piece hw3 b4 o4
              have hz4 : B ≤ u4.heap.size := Nat.le_trans hz3 b4.size
              go_wp2_with (at_builtin; refine append_bs rfl _ _ rfl B _ l0 rfl w4 A4 _ c4' (numB nd) rfl rfl s4 n4 hle1 hz4 ?_)
              intro v5 u5 hw5 b5
              rw [← HL1.out] at hw5
              have hB5 : Below B w u5 := (hB3.trans (b4.mono hz3)).trans b5
              have hz5 : B ≤ u5.heap.size := Nat.le_trans hz4 b5.size
              clear b4 b5 o4 w4 s4 n4 hw3
              obtain ⟨g50, g51, g52, g53⟩ := hcell u5 hB5
              go_wp2_with (go_at_call 20; refine (HT u5).mono ?_; rintro e u6 ⟨v6, rfl, o6, b6⟩; refine Hid.out ?_)
              refine Lib.hid ?_
              obtain ⟨w6, A6, c6', rfl, s6, n6⟩ := piece hw5 b6 o6
              have hz6 : B ≤ u6.heap.size := Nat.le_trans hz5 b6.size
              go_wp2_with (at_builtin; refine append_bs rfl _ _ rfl B _ l1 rfl w6 A6 _ c6' (kB key) rfl rfl s6 n6 hle2 hz6 ?_)
              intro v7 u7 hw7 b7
              rw [← HL2.out] at hw7
              have hB7 : Below B w u7 := (hB5.trans (b6.mono hz5)).trans b7
              have hz7 : B ≤ u7.heap.size := Nat.le_trans hz6 b7.size
              clear b6 b7 o6 w6 s6 n6 hw5
              obtain ⟨g70, g71, g72, g73⟩ := hcell u7 hB7
              go_wp2_with (go_at_call 18; refine (HN1 u7).mono ?_; rintro e u8 ⟨v8, rfl, o8, b8⟩; refine Hid.out ?_)
              refine Lib.hid ?_
              obtain ⟨w8, A8, c8', rfl, s8, n8⟩ := piece hw7 b8 o8
              have hz8 : B ≤ u8.heap.size := Nat.le_trans hz7 b8.size
              go_wp2_with (at_builtin; refine append_bs rfl _ _ rfl B _ l2 rfl w8 A8 _ c8' (numB a) rfl rfl s8 n8 hle3 hz8 ?_)
              intro v9 u9 hw9 b9
              rw [← HL3.out] at hw9
              have hB9 : Below B w u9 := (hB7.trans (b8.mono hz7)).trans b9
              have hz9 : B ≤ u9.heap.size := Nat.le_trans hz8 b9.size
              clear b8 b9 o8 w8 s8 n8 hw7
              obtain ⟨g90, g91, g92, g93⟩ := hcell u9 hB9
              go_wp2_with (go_at_call 18; refine (HN2 u9).mono ?_; rintro e u10 ⟨v10, rfl, o10, b10⟩; refine Hid.out ?_)
              refine Lib.hid ?_
              obtain ⟨w10, A10, c10', rfl, s10, n10⟩ := piece hw9 b10 o10
              have hz10 : B ≤ u10.heap.size := Nat.le_trans hz9 b10.size
              go_wp2_with (at_builtin; refine append_bs rfl _ _ rfl B _ l3 rfl w10 A10 _ c10' (numB bv) rfl rfl s10 n10 hle4 hz10 ?_)
              intro v11 u11 hw11 b11
              rw [← HL4.out] at hw11
              have hB11 : Below B w u11 := (hB9.trans (b10.mono hz9)).trans b11
              have hz11 : B ≤ u11.heap.size := Nat.le_trans hz10 b11.size
              clear b10 b11 o10 w10 s10 n10 hw9
              go_wp2_with fail
              go_roundw
              case rel => exact ⟨k + 2, by omega, by go_num, HN.out, by rw [HSN.out]; rw [HL4.out, HL3.out, HL2.out, HL1.out, ← HL0.out] at hw11; simpa using hw11, HKK.out, hB11⟩
              case measure => simp [intOf]; omega
      · have e : L.take k = L := List.take_of_length_le (by omega)
        have e0 : E = 0 := by rw [hno]; exact hdsE_end (by omega)
        rw [e] at hown
        have HP := Lib.hid (fun v w' => HP0.out v w' e0)
        clear HP0 HP1 HP5 e0 hno
        go_wp2_with fail
        go_ret2
        exact HP.out _ _ hown hb
end Go.Proofs.YtbppiiomjmpjkaaDoor
