/- FrameBack's walk: eight ways. -/
import Derived.Test.YtbppiiomjmpjkaaFv
namespace Go.Proofs.Ytbppiiomjmpjkaa
open Go.RowKit

theorem num300_any (u : World) : Calls Try.prog 7 #[.int .i64 300] u fun e u' => ∃ g cap, e = .returned (.slice (some ⟨g, 0, none⟩) 2 cap) ∧ u'.cell? ⟨g, 0, none⟩ = some (.int .u8 216) ∧ Below u.heap.size u u' := by
  refine (num_any u 300 ⟨by omega, by omega⟩).mono ?_
  rintro e u' ⟨v, rfl, ho, hb⟩
  rw [numB_300] at ho
  obtain ⟨g, cap, rfl, h1, h2, h3, h4⟩ := own_form ho (by simp)
  exact ⟨g, cap, rfl, h4 0 (by simp), hb⟩
set_option maxRecDepth 100000 in
set_option maxHeartbeats 2000000 in
theorem back_yyy (w : World) (la lh p q : Option Addr) (c d cb cm : Nat) (L : List Rc) (H : List Hd) (lb lm : List UInt8)
    (hL : CsAt w la (rcells L)) (hLn : L.length ≤ 9223372036854775807) (hLo : ∀ r ∈ L, OkRc r) (hH : CsAt w lh (hcells H)) (hHn : H.length ≤ 9223372036854775807) (hHo : ∀ r ∈ H, OkHd r)
    (hb : Bz w p cb lb) (hbc : p = none → cb = 0) (hm : Bz w q cm lm) (hmc : q = none → cm = 0) (hlen : lb.length + lm.length ≤ 1048576)
    (hr : recsE L = 0) (hh : heldsE ltH H = 0) (xs : List Rc) (hx : readRcs lm = some xs) :
    Calls Try.prog 4 #[.slice la L.length c, .slice lh H.length d, .slice p lb.length cb, .slice q lm.length cm] w fun e w' => e = .returned (.bool true) ∧ Below w.heap.size w w' := by
  have kL : ∀ u, Below w.heap.size w u → CsAt u la (rcells L) := fun u h => hL.keep h
  have kH : ∀ u, Below w.heap.size w u → CsAt u lh (hcells H) := fun u h => hH.keep h
  have kb : ∀ u, Below w.heap.size w u → Bz u p cb lb := fun u h => hb.keep h
  have km : ∀ u, Below w.heap.size w u → Bz u q cm lm := fun u h => hm.keep h
  obtain ⟨n, hn⟩ : ∃ n, (sealB lb).length = n + 1 := ⟨(sealB lb).length - 1, by have := seal_len lb; omega⟩
  have hnt := num_ten (n := (lb.length : Int)) (by omega) (by omega)
  have hsl := seal_len lb
  have hcut := open_cut lb (by omega) n (by omega)
  have hopn := open_seal lb lm (by omega)
  rw [hn] at hopn
  have hn2 : n + 1 ≤ 1048600 := by omega
  have hapl : (sealB lb ++ lm).length = n + 1 + lm.length := by rw [List.length_append, hn]
  have htl : ((sealB lb).take n).length = n := by rw [List.length_take]; omega
  have h28 := lst_le hr hLo
  have hral := readRcs_all L hLo hr
  have h32 := lsth_le hh hHo
  have hhal := readHds_all ltH H hHo hh
  obtain ⟨hxo, hxe, hxl0⟩ := readRcs_some hx
  have hxl := Lib.hid hxl0
  have hx4 := (ok_key hxe).1
  clear hxl0
  obtain ⟨u0, hu0⟩ : ∃ u, u = w := ⟨_, rfl⟩
  have B0 : Below w.heap.size w u0 := by rw [hu0]; exact Below.refl _ _
  have hB0 := B0.size
  have hSL := Lib.hid hsl
  have hHN := Lib.hid hn
  have HT := Lib.hid htl
  have HA := Lib.hid hapl
  clear hL hH hb hm hsl hn htl hapl
  rw [← hu0]
  rw [hu0] at hB0
  have hz0 : w.heap.size ≤ u0.heap.size := by rw [hu0]; omega
  have HU := Lib.hid hu0
  clear hu0 hB0
  go_enter Try.func4, Try.ntmps4
  go_wp2_with (go_at_call 7; refine (num300_any u0).mono ?_; rintro e u1 ⟨g1, c1, rfl, hg1, b1⟩; refine Hid.out ?_)
  refine Lib.hid ?_
  have B1 : Below w.heap.size w u1 := B0.trans (b1.mono hz0)
  have hz1 : w.heap.size ≤ u1.heap.size := Nat.le_trans hz0 b1.size
  go_wp2_with (go_at_call 13; refine (records_yes u1 la c L (kL u1 B1) hLn hLo hr).mono ?_; rintro e u2 ⟨A2, c2, rfl, z2, b2⟩; refine Hid.out ?_)
  refine Lib.hid ?_
  have B2 : Below w.heap.size w u2 := B1.trans (b2.mono hz1)
  have hz2 : w.heap.size ≤ u2.heap.size := Nat.le_trans hz1 b2.size
  go_wp2_with (go_at_call 14; refine (readRecs_yes u2 A2 c2 _ L z2 (by omega) hral).mono ?_; rintro e u3 ⟨A3, c3, rfl, z3, b3⟩; refine Hid.out ?_)
  refine Lib.hid ?_
  have B3 : Below w.heap.size w u3 := B2.trans (b3.mono hz2)
  have hz3 : w.heap.size ≤ u3.heap.size := Nat.le_trans hz2 b3.size
  go_wp2_with (go_at_call 15; refine (sameRecs_any u3 A3 la c3 c L z3 (kL u3 B3) hLn).mono ?_; rintro e u4 ⟨rfl, b4⟩; refine Hid.out ?_)
  refine Lib.hid ?_
  have B4 : Below w.heap.size w u4 := B3.trans (b4.mono hz3)
  have hz4 : w.heap.size ≤ u4.heap.size := Nat.le_trans hz3 b4.size
  go_wp2_with (go_at_call 16; refine (helds_yes u4 lh d H (kH u4 B4) hHn hHo hh).mono ?_; rintro e u5 ⟨A4, c4, rfl, z4, b5⟩; refine Hid.out ?_)
  refine Lib.hid ?_
  have B5 : Below w.heap.size w u5 := B4.trans (b5.mono hz4)
  have hz5 : w.heap.size ≤ u5.heap.size := Nat.le_trans hz4 b5.size
  go_wp2_with (go_at_call 17; refine (readHds_yes u5 A4 c4 _ H z4 (by omega) hhal).mono ?_; rintro e u6 ⟨A5, c5, rfl, z5, b6⟩; refine Hid.out ?_)
  refine Lib.hid ?_
  have B6 : Below w.heap.size w u6 := B5.trans (b6.mono hz5)
  have hz6 : w.heap.size ≤ u6.heap.size := Nat.le_trans hz5 b6.size
  go_wp2_with (go_at_call 18; refine (sameHds_any u6 A5 lh c5 d H z5 (kH u6 B6) hHn).mono ?_; rintro e u7 ⟨rfl, b7⟩; refine Hid.out ?_)
  refine Lib.hid ?_
  have B7 : Below w.heap.size w u7 := B6.trans (b7.mono hz6)
  have hz7 : w.heap.size ≤ u7.heap.size := Nat.le_trans hz6 b7.size
  go_wp2_with (go_at_call 11; refine (seal_form u7 p cb lb n hHN.out (kb u7 B7).1 (by omega) hbc).mono ?_; rintro e u8 ⟨g6, c6, rfl, o6, l6, m6, b8⟩; refine Hid.out ?_)
  refine Lib.hid ?_
  have B8 : Below w.heap.size w u8 := B7.trans (b8.mono hz7)
  have hz8 : w.heap.size ≤ u8.heap.size := Nat.le_trans hz7 b8.size
  have z6 : Bz u8 (some ⟨g6, 0, none⟩) c6 (sealB lb) := by
    obtain ⟨A, cap, e, hz⟩ := own_bz o6
    injection e with e1 e2 e3
    rw [e1, e3]; exact hz
  go_wp2_with (go_at_call 19; refine (open_no u8 (some ⟨g6, 0, none⟩) c6 n ((sealB lb).take n) HT.out.symm (bz_take z6 n) (by rw [HT.out]; omega) hcut).mono ?_; rintro e u9 ⟨rfl, b9⟩; refine Hid.out ?_)
  refine Lib.hid ?_
  have B9 : Below w.heap.size w u9 := B8.trans (b9.mono hz8)
  have hz9 : w.heap.size ≤ u9.heap.size := Nat.le_trans hz8 b9.size
  have o7 := own_keep o6 b9
  have hSz : u7.heap.size ≤ u9.heap.size := Nat.le_trans b8.size b9.size
  have zm := km u9 B9
  go_wp2_with (at_builtin; refine append_bs rfl _ _ rfl u7.heap.size _ (sealB lb) rfl o7 q _ cm lm rfl rfl zm.1 hmc (by rw [hHN.out]; omega) hSz ?_)
  intro v10 u10 o10 b10'
  have b10 : Below w.heap.size u9 u10 := b10'.mono hz7
  have B10 : Below w.heap.size w u10 := B9.trans b10
  have hz10 : w.heap.size ≤ u10.heap.size := Nat.le_trans hz9 b10.size
  obtain ⟨A8, c8, rfl, z8⟩ := own_bz o10
  rw [HA.out]
  go_wp2_with (go_at_call 19; refine (open_yes u10 A8 c8 _ _ lb (n + 1) HA.out.symm z8 (by rw [HA.out]; omega) hopn).mono ?_; rintro e u11 ⟨A9, c9, rfl, z9, b11⟩; refine Hid.out ?_)
  refine Lib.hid ?_
  have B11 : Below w.heap.size w u11 := B10.trans (b11.mono hz10)
  have hz11 : w.heap.size ≤ u11.heap.size := Nat.le_trans hz10 b11.size
  have v1 := z9.1.convert lb.length c9 rfl
  have v2 := (kb u11 B11).1.convert lb.length cb rfl
  go_wp2_with (go_at_call 14; refine (readRecs_yes u11 q cm lm xs (km u11 B11) (by omega) hx).mono ?_; rintro e u12 ⟨A10, c10, rfl, z10, b12⟩; refine Hid.out ?_)
  refine Lib.hid ?_
  have B12 : Below w.heap.size w u12 := B11.trans (b12.mono hz11)
  have hz12 : w.heap.size ≤ u12.heap.size := Nat.le_trans hz11 b12.size
  go_wp2_with (go_at_call 13; refine (records_yes u12 A10 c10 xs z10 (by omega) hxo hxe).mono ?_; rintro e u13 ⟨A11, c11, rfl, z11, b13⟩; refine Hid.out ?_)
  refine Lib.hid ?_
  have B13 : Below w.heap.size w u13 := B12.trans (b13.mono hz12)
  have hz13 : w.heap.size ≤ u13.heap.size := Nat.le_trans hz12 b13.size
  have v3 := z11.1.convert (lstB rcB xs).length c11 rfl
  have v4 := (km u13 B13).1.convert lm.length cm rfl
  rw [← hxl.out] at v3
  rw [← hxl.out]
  go_wp2_with fail
  go_ret
  exact ⟨rfl, by rw [HU.out]; exact B13⟩
set_option maxRecDepth 100000 in
set_option maxHeartbeats 2000000 in
theorem back_yyn (w : World) (la lh p q : Option Addr) (c d cb cm : Nat) (L : List Rc) (H : List Hd) (lb lm : List UInt8)
    (hL : CsAt w la (rcells L)) (hLn : L.length ≤ 9223372036854775807) (hLo : ∀ r ∈ L, OkRc r) (hH : CsAt w lh (hcells H)) (hHn : H.length ≤ 9223372036854775807) (hHo : ∀ r ∈ H, OkHd r)
    (hb : Bz w p cb lb) (hbc : p = none → cb = 0) (hm : Bz w q cm lm) (hmc : q = none → cm = 0) (hlen : lb.length + lm.length ≤ 1048576)
    (hr : recsE L = 0) (hh : heldsE ltH H = 0) (hx : readRcs lm = none) :
    Calls Try.prog 4 #[.slice la L.length c, .slice lh H.length d, .slice p lb.length cb, .slice q lm.length cm] w fun e w' => e = .returned (.bool true) ∧ Below w.heap.size w w' := by
  have kL : ∀ u, Below w.heap.size w u → CsAt u la (rcells L) := fun u h => hL.keep h
  have kH : ∀ u, Below w.heap.size w u → CsAt u lh (hcells H) := fun u h => hH.keep h
  have kb : ∀ u, Below w.heap.size w u → Bz u p cb lb := fun u h => hb.keep h
  have km : ∀ u, Below w.heap.size w u → Bz u q cm lm := fun u h => hm.keep h
  obtain ⟨n, hn⟩ : ∃ n, (sealB lb).length = n + 1 := ⟨(sealB lb).length - 1, by have := seal_len lb; omega⟩
  have hnt := num_ten (n := (lb.length : Int)) (by omega) (by omega)
  have hsl := seal_len lb
  have hcut := open_cut lb (by omega) n (by omega)
  have hopn := open_seal lb lm (by omega)
  rw [hn] at hopn
  have hn2 : n + 1 ≤ 1048600 := by omega
  have hapl : (sealB lb ++ lm).length = n + 1 + lm.length := by rw [List.length_append, hn]
  have htl : ((sealB lb).take n).length = n := by rw [List.length_take]; omega
  have h28 := lst_le hr hLo
  have hral := readRcs_all L hLo hr
  have h32 := lsth_le hh hHo
  have hhal := readHds_all ltH H hHo hh
  obtain ⟨u0, hu0⟩ : ∃ u, u = w := ⟨_, rfl⟩
  have B0 : Below w.heap.size w u0 := by rw [hu0]; exact Below.refl _ _
  have hB0 := B0.size
  have hSL := Lib.hid hsl
  have hHN := Lib.hid hn
  have HT := Lib.hid htl
  have HA := Lib.hid hapl
  clear hL hH hb hm hsl hn htl hapl
  rw [← hu0]
  rw [hu0] at hB0
  have hz0 : w.heap.size ≤ u0.heap.size := by rw [hu0]; omega
  have HU := Lib.hid hu0
  clear hu0 hB0
  go_enter Try.func4, Try.ntmps4
  go_wp2_with (go_at_call 7; refine (num300_any u0).mono ?_; rintro e u1 ⟨g1, c1, rfl, hg1, b1⟩; refine Hid.out ?_)
  refine Lib.hid ?_
  have B1 : Below w.heap.size w u1 := B0.trans (b1.mono hz0)
  have hz1 : w.heap.size ≤ u1.heap.size := Nat.le_trans hz0 b1.size
  go_wp2_with (go_at_call 13; refine (records_yes u1 la c L (kL u1 B1) hLn hLo hr).mono ?_; rintro e u2 ⟨A2, c2, rfl, z2, b2⟩; refine Hid.out ?_)
  refine Lib.hid ?_
  have B2 : Below w.heap.size w u2 := B1.trans (b2.mono hz1)
  have hz2 : w.heap.size ≤ u2.heap.size := Nat.le_trans hz1 b2.size
  go_wp2_with (go_at_call 14; refine (readRecs_yes u2 A2 c2 _ L z2 (by omega) hral).mono ?_; rintro e u3 ⟨A3, c3, rfl, z3, b3⟩; refine Hid.out ?_)
  refine Lib.hid ?_
  have B3 : Below w.heap.size w u3 := B2.trans (b3.mono hz2)
  have hz3 : w.heap.size ≤ u3.heap.size := Nat.le_trans hz2 b3.size
  go_wp2_with (go_at_call 15; refine (sameRecs_any u3 A3 la c3 c L z3 (kL u3 B3) hLn).mono ?_; rintro e u4 ⟨rfl, b4⟩; refine Hid.out ?_)
  refine Lib.hid ?_
  have B4 : Below w.heap.size w u4 := B3.trans (b4.mono hz3)
  have hz4 : w.heap.size ≤ u4.heap.size := Nat.le_trans hz3 b4.size
  go_wp2_with (go_at_call 16; refine (helds_yes u4 lh d H (kH u4 B4) hHn hHo hh).mono ?_; rintro e u5 ⟨A4, c4, rfl, z4, b5⟩; refine Hid.out ?_)
  refine Lib.hid ?_
  have B5 : Below w.heap.size w u5 := B4.trans (b5.mono hz4)
  have hz5 : w.heap.size ≤ u5.heap.size := Nat.le_trans hz4 b5.size
  go_wp2_with (go_at_call 17; refine (readHds_yes u5 A4 c4 _ H z4 (by omega) hhal).mono ?_; rintro e u6 ⟨A5, c5, rfl, z5, b6⟩; refine Hid.out ?_)
  refine Lib.hid ?_
  have B6 : Below w.heap.size w u6 := B5.trans (b6.mono hz5)
  have hz6 : w.heap.size ≤ u6.heap.size := Nat.le_trans hz5 b6.size
  go_wp2_with (go_at_call 18; refine (sameHds_any u6 A5 lh c5 d H z5 (kH u6 B6) hHn).mono ?_; rintro e u7 ⟨rfl, b7⟩; refine Hid.out ?_)
  refine Lib.hid ?_
  have B7 : Below w.heap.size w u7 := B6.trans (b7.mono hz6)
  have hz7 : w.heap.size ≤ u7.heap.size := Nat.le_trans hz6 b7.size
  go_wp2_with (go_at_call 11; refine (seal_form u7 p cb lb n hHN.out (kb u7 B7).1 (by omega) hbc).mono ?_; rintro e u8 ⟨g6, c6, rfl, o6, l6, m6, b8⟩; refine Hid.out ?_)
  refine Lib.hid ?_
  have B8 : Below w.heap.size w u8 := B7.trans (b8.mono hz7)
  have hz8 : w.heap.size ≤ u8.heap.size := Nat.le_trans hz7 b8.size
  have z6 : Bz u8 (some ⟨g6, 0, none⟩) c6 (sealB lb) := by
    obtain ⟨A, cap, e, hz⟩ := own_bz o6
    injection e with e1 e2 e3
    rw [e1, e3]; exact hz
  go_wp2_with (go_at_call 19; refine (open_no u8 (some ⟨g6, 0, none⟩) c6 n ((sealB lb).take n) HT.out.symm (bz_take z6 n) (by rw [HT.out]; omega) hcut).mono ?_; rintro e u9 ⟨rfl, b9⟩; refine Hid.out ?_)
  refine Lib.hid ?_
  have B9 : Below w.heap.size w u9 := B8.trans (b9.mono hz8)
  have hz9 : w.heap.size ≤ u9.heap.size := Nat.le_trans hz8 b9.size
  have o7 := own_keep o6 b9
  have hSz : u7.heap.size ≤ u9.heap.size := Nat.le_trans b8.size b9.size
  have zm := km u9 B9
  go_wp2_with (at_builtin; refine append_bs rfl _ _ rfl u7.heap.size _ (sealB lb) rfl o7 q _ cm lm rfl rfl zm.1 hmc (by rw [hHN.out]; omega) hSz ?_)
  intro v10 u10 o10 b10'
  have b10 : Below w.heap.size u9 u10 := b10'.mono hz7
  have B10 : Below w.heap.size w u10 := B9.trans b10
  have hz10 : w.heap.size ≤ u10.heap.size := Nat.le_trans hz9 b10.size
  obtain ⟨A8, c8, rfl, z8⟩ := own_bz o10
  rw [HA.out]
  go_wp2_with (go_at_call 19; refine (open_yes u10 A8 c8 _ _ lb (n + 1) HA.out.symm z8 (by rw [HA.out]; omega) hopn).mono ?_; rintro e u11 ⟨A9, c9, rfl, z9, b11⟩; refine Hid.out ?_)
  refine Lib.hid ?_
  have B11 : Below w.heap.size w u11 := B10.trans (b11.mono hz10)
  have hz11 : w.heap.size ≤ u11.heap.size := Nat.le_trans hz10 b11.size
  have v1 := z9.1.convert lb.length c9 rfl
  have v2 := (kb u11 B11).1.convert lb.length cb rfl
  go_wp2_with (go_at_call 14; refine (readRecs_no u11 q cm lm (km u11 B11) (by omega) hx).mono ?_; rintro e u12 ⟨rfl, b12⟩; refine Hid.out ?_)
  refine Lib.hid ?_
  have B12 : Below w.heap.size w u12 := B11.trans (b12.mono hz11)
  have hz12 : w.heap.size ≤ u12.heap.size := Nat.le_trans hz11 b12.size
  go_wp2_with fail
  go_ret
  exact ⟨rfl, by rw [HU.out]; exact B12⟩
set_option maxRecDepth 100000 in
set_option maxHeartbeats 2000000 in
theorem back_yny (w : World) (la lh p q : Option Addr) (c d cb cm : Nat) (L : List Rc) (H : List Hd) (lb lm : List UInt8)
    (hL : CsAt w la (rcells L)) (hLn : L.length ≤ 9223372036854775807) (hLo : ∀ r ∈ L, OkRc r) (hH : CsAt w lh (hcells H)) (hHn : H.length ≤ 9223372036854775807) (hHo : ∀ r ∈ H, OkHd r)
    (hb : Bz w p cb lb) (hbc : p = none → cb = 0) (hm : Bz w q cm lm) (hmc : q = none → cm = 0) (hlen : lb.length + lm.length ≤ 1048576)
    (hr : recsE L = 0) (hh : ¬ heldsE ltH H = 0) (xs : List Rc) (hx : readRcs lm = some xs) :
    Calls Try.prog 4 #[.slice la L.length c, .slice lh H.length d, .slice p lb.length cb, .slice q lm.length cm] w fun e w' => e = .returned (.bool true) ∧ Below w.heap.size w w' := by
  have kL : ∀ u, Below w.heap.size w u → CsAt u la (rcells L) := fun u h => hL.keep h
  have kH : ∀ u, Below w.heap.size w u → CsAt u lh (hcells H) := fun u h => hH.keep h
  have kb : ∀ u, Below w.heap.size w u → Bz u p cb lb := fun u h => hb.keep h
  have km : ∀ u, Below w.heap.size w u → Bz u q cm lm := fun u h => hm.keep h
  obtain ⟨n, hn⟩ : ∃ n, (sealB lb).length = n + 1 := ⟨(sealB lb).length - 1, by have := seal_len lb; omega⟩
  have hnt := num_ten (n := (lb.length : Int)) (by omega) (by omega)
  have hsl := seal_len lb
  have hcut := open_cut lb (by omega) n (by omega)
  have hopn := open_seal lb lm (by omega)
  rw [hn] at hopn
  have hn2 : n + 1 ≤ 1048600 := by omega
  have hapl : (sealB lb ++ lm).length = n + 1 + lm.length := by rw [List.length_append, hn]
  have htl : ((sealB lb).take n).length = n := by rw [List.length_take]; omega
  have h28 := lst_le hr hLo
  have hral := readRcs_all L hLo hr
  obtain ⟨hxo, hxe, hxl0⟩ := readRcs_some hx
  have hxl := Lib.hid hxl0
  have hx4 := (ok_key hxe).1
  clear hxl0
  obtain ⟨u0, hu0⟩ : ∃ u, u = w := ⟨_, rfl⟩
  have B0 : Below w.heap.size w u0 := by rw [hu0]; exact Below.refl _ _
  have hB0 := B0.size
  have hSL := Lib.hid hsl
  have hHN := Lib.hid hn
  have HT := Lib.hid htl
  have HA := Lib.hid hapl
  clear hL hH hb hm hsl hn htl hapl
  rw [← hu0]
  rw [hu0] at hB0
  have hz0 : w.heap.size ≤ u0.heap.size := by rw [hu0]; omega
  have HU := Lib.hid hu0
  clear hu0 hB0
  go_enter Try.func4, Try.ntmps4
  go_wp2_with (go_at_call 7; refine (num300_any u0).mono ?_; rintro e u1 ⟨g1, c1, rfl, hg1, b1⟩; refine Hid.out ?_)
  refine Lib.hid ?_
  have B1 : Below w.heap.size w u1 := B0.trans (b1.mono hz0)
  have hz1 : w.heap.size ≤ u1.heap.size := Nat.le_trans hz0 b1.size
  go_wp2_with (go_at_call 13; refine (records_yes u1 la c L (kL u1 B1) hLn hLo hr).mono ?_; rintro e u2 ⟨A2, c2, rfl, z2, b2⟩; refine Hid.out ?_)
  refine Lib.hid ?_
  have B2 : Below w.heap.size w u2 := B1.trans (b2.mono hz1)
  have hz2 : w.heap.size ≤ u2.heap.size := Nat.le_trans hz1 b2.size
  go_wp2_with (go_at_call 14; refine (readRecs_yes u2 A2 c2 _ L z2 (by omega) hral).mono ?_; rintro e u3 ⟨A3, c3, rfl, z3, b3⟩; refine Hid.out ?_)
  refine Lib.hid ?_
  have B3 : Below w.heap.size w u3 := B2.trans (b3.mono hz2)
  have hz3 : w.heap.size ≤ u3.heap.size := Nat.le_trans hz2 b3.size
  go_wp2_with (go_at_call 15; refine (sameRecs_any u3 A3 la c3 c L z3 (kL u3 B3) hLn).mono ?_; rintro e u4 ⟨rfl, b4⟩; refine Hid.out ?_)
  refine Lib.hid ?_
  have B4 : Below w.heap.size w u4 := B3.trans (b4.mono hz3)
  have hz4 : w.heap.size ≤ u4.heap.size := Nat.le_trans hz3 b4.size
  go_wp2_with (go_at_call 16; refine (helds_no u4 lh d H (kH u4 B4) hHn hHo hh).mono ?_; rintro e u5 ⟨⟨x4, rfl⟩, b5⟩; refine Hid.out ?_)
  refine Lib.hid ?_
  have B5 : Below w.heap.size w u5 := B4.trans (b5.mono hz4)
  have hz5 : w.heap.size ≤ u5.heap.size := Nat.le_trans hz4 b5.size
  go_wp2_with (go_at_call 11; refine (seal_form u5 p cb lb n hHN.out (kb u5 B5).1 (by omega) hbc).mono ?_; rintro e u6 ⟨g6, c6, rfl, o6, l6, m6, b6⟩; refine Hid.out ?_)
  refine Lib.hid ?_
  have B6 : Below w.heap.size w u6 := B5.trans (b6.mono hz5)
  have hz6 : w.heap.size ≤ u6.heap.size := Nat.le_trans hz5 b6.size
  have z6 : Bz u6 (some ⟨g6, 0, none⟩) c6 (sealB lb) := by
    obtain ⟨A, cap, e, hz⟩ := own_bz o6
    injection e with e1 e2 e3
    rw [e1, e3]; exact hz
  go_wp2_with (go_at_call 19; refine (open_no u6 (some ⟨g6, 0, none⟩) c6 n ((sealB lb).take n) HT.out.symm (bz_take z6 n) (by rw [HT.out]; omega) hcut).mono ?_; rintro e u7 ⟨rfl, b7⟩; refine Hid.out ?_)
  refine Lib.hid ?_
  have B7 : Below w.heap.size w u7 := B6.trans (b7.mono hz6)
  have hz7 : w.heap.size ≤ u7.heap.size := Nat.le_trans hz6 b7.size
  have o7 := own_keep o6 b7
  have hSz : u5.heap.size ≤ u7.heap.size := Nat.le_trans b6.size b7.size
  have zm := km u7 B7
  go_wp2_with (at_builtin; refine append_bs rfl _ _ rfl u5.heap.size _ (sealB lb) rfl o7 q _ cm lm rfl rfl zm.1 hmc (by rw [hHN.out]; omega) hSz ?_)
  intro v8 u8 o8 b8'
  have b8 : Below w.heap.size u7 u8 := b8'.mono hz5
  have B8 : Below w.heap.size w u8 := B7.trans b8
  have hz8 : w.heap.size ≤ u8.heap.size := Nat.le_trans hz7 b8.size
  obtain ⟨A8, c8, rfl, z8⟩ := own_bz o8
  rw [HA.out]
  go_wp2_with (go_at_call 19; refine (open_yes u8 A8 c8 _ _ lb (n + 1) HA.out.symm z8 (by rw [HA.out]; omega) hopn).mono ?_; rintro e u9 ⟨A9, c9, rfl, z9, b9⟩; refine Hid.out ?_)
  refine Lib.hid ?_
  have B9 : Below w.heap.size w u9 := B8.trans (b9.mono hz8)
  have hz9 : w.heap.size ≤ u9.heap.size := Nat.le_trans hz8 b9.size
  have v1 := z9.1.convert lb.length c9 rfl
  have v2 := (kb u9 B9).1.convert lb.length cb rfl
  go_wp2_with (go_at_call 14; refine (readRecs_yes u9 q cm lm xs (km u9 B9) (by omega) hx).mono ?_; rintro e u10 ⟨A10, c10, rfl, z10, b10⟩; refine Hid.out ?_)
  refine Lib.hid ?_
  have B10 : Below w.heap.size w u10 := B9.trans (b10.mono hz9)
  have hz10 : w.heap.size ≤ u10.heap.size := Nat.le_trans hz9 b10.size
  go_wp2_with (go_at_call 13; refine (records_yes u10 A10 c10 xs z10 (by omega) hxo hxe).mono ?_; rintro e u11 ⟨A11, c11, rfl, z11, b11⟩; refine Hid.out ?_)
  refine Lib.hid ?_
  have B11 : Below w.heap.size w u11 := B10.trans (b11.mono hz10)
  have hz11 : w.heap.size ≤ u11.heap.size := Nat.le_trans hz10 b11.size
  have v3 := z11.1.convert (lstB rcB xs).length c11 rfl
  have v4 := (km u11 B11).1.convert lm.length cm rfl
  rw [← hxl.out] at v3
  rw [← hxl.out]
  go_wp2_with fail
  go_ret
  exact ⟨rfl, by rw [HU.out]; exact B11⟩
set_option maxRecDepth 100000 in
set_option maxHeartbeats 2000000 in
theorem back_ynn (w : World) (la lh p q : Option Addr) (c d cb cm : Nat) (L : List Rc) (H : List Hd) (lb lm : List UInt8)
    (hL : CsAt w la (rcells L)) (hLn : L.length ≤ 9223372036854775807) (hLo : ∀ r ∈ L, OkRc r) (hH : CsAt w lh (hcells H)) (hHn : H.length ≤ 9223372036854775807) (hHo : ∀ r ∈ H, OkHd r)
    (hb : Bz w p cb lb) (hbc : p = none → cb = 0) (hm : Bz w q cm lm) (hmc : q = none → cm = 0) (hlen : lb.length + lm.length ≤ 1048576)
    (hr : recsE L = 0) (hh : ¬ heldsE ltH H = 0) (hx : readRcs lm = none) :
    Calls Try.prog 4 #[.slice la L.length c, .slice lh H.length d, .slice p lb.length cb, .slice q lm.length cm] w fun e w' => e = .returned (.bool true) ∧ Below w.heap.size w w' := by
  have kL : ∀ u, Below w.heap.size w u → CsAt u la (rcells L) := fun u h => hL.keep h
  have kH : ∀ u, Below w.heap.size w u → CsAt u lh (hcells H) := fun u h => hH.keep h
  have kb : ∀ u, Below w.heap.size w u → Bz u p cb lb := fun u h => hb.keep h
  have km : ∀ u, Below w.heap.size w u → Bz u q cm lm := fun u h => hm.keep h
  obtain ⟨n, hn⟩ : ∃ n, (sealB lb).length = n + 1 := ⟨(sealB lb).length - 1, by have := seal_len lb; omega⟩
  have hnt := num_ten (n := (lb.length : Int)) (by omega) (by omega)
  have hsl := seal_len lb
  have hcut := open_cut lb (by omega) n (by omega)
  have hopn := open_seal lb lm (by omega)
  rw [hn] at hopn
  have hn2 : n + 1 ≤ 1048600 := by omega
  have hapl : (sealB lb ++ lm).length = n + 1 + lm.length := by rw [List.length_append, hn]
  have htl : ((sealB lb).take n).length = n := by rw [List.length_take]; omega
  have h28 := lst_le hr hLo
  have hral := readRcs_all L hLo hr
  obtain ⟨u0, hu0⟩ : ∃ u, u = w := ⟨_, rfl⟩
  have B0 : Below w.heap.size w u0 := by rw [hu0]; exact Below.refl _ _
  have hB0 := B0.size
  have hSL := Lib.hid hsl
  have hHN := Lib.hid hn
  have HT := Lib.hid htl
  have HA := Lib.hid hapl
  clear hL hH hb hm hsl hn htl hapl
  rw [← hu0]
  rw [hu0] at hB0
  have hz0 : w.heap.size ≤ u0.heap.size := by rw [hu0]; omega
  have HU := Lib.hid hu0
  clear hu0 hB0
  go_enter Try.func4, Try.ntmps4
  go_wp2_with (go_at_call 7; refine (num300_any u0).mono ?_; rintro e u1 ⟨g1, c1, rfl, hg1, b1⟩; refine Hid.out ?_)
  refine Lib.hid ?_
  have B1 : Below w.heap.size w u1 := B0.trans (b1.mono hz0)
  have hz1 : w.heap.size ≤ u1.heap.size := Nat.le_trans hz0 b1.size
  go_wp2_with (go_at_call 13; refine (records_yes u1 la c L (kL u1 B1) hLn hLo hr).mono ?_; rintro e u2 ⟨A2, c2, rfl, z2, b2⟩; refine Hid.out ?_)
  refine Lib.hid ?_
  have B2 : Below w.heap.size w u2 := B1.trans (b2.mono hz1)
  have hz2 : w.heap.size ≤ u2.heap.size := Nat.le_trans hz1 b2.size
  go_wp2_with (go_at_call 14; refine (readRecs_yes u2 A2 c2 _ L z2 (by omega) hral).mono ?_; rintro e u3 ⟨A3, c3, rfl, z3, b3⟩; refine Hid.out ?_)
  refine Lib.hid ?_
  have B3 : Below w.heap.size w u3 := B2.trans (b3.mono hz2)
  have hz3 : w.heap.size ≤ u3.heap.size := Nat.le_trans hz2 b3.size
  go_wp2_with (go_at_call 15; refine (sameRecs_any u3 A3 la c3 c L z3 (kL u3 B3) hLn).mono ?_; rintro e u4 ⟨rfl, b4⟩; refine Hid.out ?_)
  refine Lib.hid ?_
  have B4 : Below w.heap.size w u4 := B3.trans (b4.mono hz3)
  have hz4 : w.heap.size ≤ u4.heap.size := Nat.le_trans hz3 b4.size
  go_wp2_with (go_at_call 16; refine (helds_no u4 lh d H (kH u4 B4) hHn hHo hh).mono ?_; rintro e u5 ⟨⟨x4, rfl⟩, b5⟩; refine Hid.out ?_)
  refine Lib.hid ?_
  have B5 : Below w.heap.size w u5 := B4.trans (b5.mono hz4)
  have hz5 : w.heap.size ≤ u5.heap.size := Nat.le_trans hz4 b5.size
  go_wp2_with (go_at_call 11; refine (seal_form u5 p cb lb n hHN.out (kb u5 B5).1 (by omega) hbc).mono ?_; rintro e u6 ⟨g6, c6, rfl, o6, l6, m6, b6⟩; refine Hid.out ?_)
  refine Lib.hid ?_
  have B6 : Below w.heap.size w u6 := B5.trans (b6.mono hz5)
  have hz6 : w.heap.size ≤ u6.heap.size := Nat.le_trans hz5 b6.size
  have z6 : Bz u6 (some ⟨g6, 0, none⟩) c6 (sealB lb) := by
    obtain ⟨A, cap, e, hz⟩ := own_bz o6
    injection e with e1 e2 e3
    rw [e1, e3]; exact hz
  go_wp2_with (go_at_call 19; refine (open_no u6 (some ⟨g6, 0, none⟩) c6 n ((sealB lb).take n) HT.out.symm (bz_take z6 n) (by rw [HT.out]; omega) hcut).mono ?_; rintro e u7 ⟨rfl, b7⟩; refine Hid.out ?_)
  refine Lib.hid ?_
  have B7 : Below w.heap.size w u7 := B6.trans (b7.mono hz6)
  have hz7 : w.heap.size ≤ u7.heap.size := Nat.le_trans hz6 b7.size
  have o7 := own_keep o6 b7
  have hSz : u5.heap.size ≤ u7.heap.size := Nat.le_trans b6.size b7.size
  have zm := km u7 B7
  go_wp2_with (at_builtin; refine append_bs rfl _ _ rfl u5.heap.size _ (sealB lb) rfl o7 q _ cm lm rfl rfl zm.1 hmc (by rw [hHN.out]; omega) hSz ?_)
  intro v8 u8 o8 b8'
  have b8 : Below w.heap.size u7 u8 := b8'.mono hz5
  have B8 : Below w.heap.size w u8 := B7.trans b8
  have hz8 : w.heap.size ≤ u8.heap.size := Nat.le_trans hz7 b8.size
  obtain ⟨A8, c8, rfl, z8⟩ := own_bz o8
  rw [HA.out]
  go_wp2_with (go_at_call 19; refine (open_yes u8 A8 c8 _ _ lb (n + 1) HA.out.symm z8 (by rw [HA.out]; omega) hopn).mono ?_; rintro e u9 ⟨A9, c9, rfl, z9, b9⟩; refine Hid.out ?_)
  refine Lib.hid ?_
  have B9 : Below w.heap.size w u9 := B8.trans (b9.mono hz8)
  have hz9 : w.heap.size ≤ u9.heap.size := Nat.le_trans hz8 b9.size
  have v1 := z9.1.convert lb.length c9 rfl
  have v2 := (kb u9 B9).1.convert lb.length cb rfl
  go_wp2_with (go_at_call 14; refine (readRecs_no u9 q cm lm (km u9 B9) (by omega) hx).mono ?_; rintro e u10 ⟨rfl, b10⟩; refine Hid.out ?_)
  refine Lib.hid ?_
  have B10 : Below w.heap.size w u10 := B9.trans (b10.mono hz9)
  have hz10 : w.heap.size ≤ u10.heap.size := Nat.le_trans hz9 b10.size
  go_wp2_with fail
  go_ret
  exact ⟨rfl, by rw [HU.out]; exact B10⟩
set_option maxRecDepth 100000 in
set_option maxHeartbeats 2000000 in
theorem back_nyy (w : World) (la lh p q : Option Addr) (c d cb cm : Nat) (L : List Rc) (H : List Hd) (lb lm : List UInt8)
    (hL : CsAt w la (rcells L)) (hLn : L.length ≤ 9223372036854775807) (hLo : ∀ r ∈ L, OkRc r) (hH : CsAt w lh (hcells H)) (hHn : H.length ≤ 9223372036854775807) (hHo : ∀ r ∈ H, OkHd r)
    (hb : Bz w p cb lb) (hbc : p = none → cb = 0) (hm : Bz w q cm lm) (hmc : q = none → cm = 0) (hlen : lb.length + lm.length ≤ 1048576)
    (hr : ¬ recsE L = 0) (hh : heldsE ltH H = 0) (xs : List Rc) (hx : readRcs lm = some xs) :
    Calls Try.prog 4 #[.slice la L.length c, .slice lh H.length d, .slice p lb.length cb, .slice q lm.length cm] w fun e w' => e = .returned (.bool true) ∧ Below w.heap.size w w' := by
  have kL : ∀ u, Below w.heap.size w u → CsAt u la (rcells L) := fun u h => hL.keep h
  have kH : ∀ u, Below w.heap.size w u → CsAt u lh (hcells H) := fun u h => hH.keep h
  have kb : ∀ u, Below w.heap.size w u → Bz u p cb lb := fun u h => hb.keep h
  have km : ∀ u, Below w.heap.size w u → Bz u q cm lm := fun u h => hm.keep h
  obtain ⟨n, hn⟩ : ∃ n, (sealB lb).length = n + 1 := ⟨(sealB lb).length - 1, by have := seal_len lb; omega⟩
  have hnt := num_ten (n := (lb.length : Int)) (by omega) (by omega)
  have hsl := seal_len lb
  have hcut := open_cut lb (by omega) n (by omega)
  have hopn := open_seal lb lm (by omega)
  rw [hn] at hopn
  have hn2 : n + 1 ≤ 1048600 := by omega
  have hapl : (sealB lb ++ lm).length = n + 1 + lm.length := by rw [List.length_append, hn]
  have htl : ((sealB lb).take n).length = n := by rw [List.length_take]; omega
  have h32 := lsth_le hh hHo
  have hhal := readHds_all ltH H hHo hh
  obtain ⟨hxo, hxe, hxl0⟩ := readRcs_some hx
  have hxl := Lib.hid hxl0
  have hx4 := (ok_key hxe).1
  clear hxl0
  obtain ⟨u0, hu0⟩ : ∃ u, u = w := ⟨_, rfl⟩
  have B0 : Below w.heap.size w u0 := by rw [hu0]; exact Below.refl _ _
  have hB0 := B0.size
  have hSL := Lib.hid hsl
  have hHN := Lib.hid hn
  have HT := Lib.hid htl
  have HA := Lib.hid hapl
  clear hL hH hb hm hsl hn htl hapl
  rw [← hu0]
  rw [hu0] at hB0
  have hz0 : w.heap.size ≤ u0.heap.size := by rw [hu0]; omega
  have HU := Lib.hid hu0
  clear hu0 hB0
  go_enter Try.func4, Try.ntmps4
  go_wp2_with (go_at_call 7; refine (num300_any u0).mono ?_; rintro e u1 ⟨g1, c1, rfl, hg1, b1⟩; refine Hid.out ?_)
  refine Lib.hid ?_
  have B1 : Below w.heap.size w u1 := B0.trans (b1.mono hz0)
  have hz1 : w.heap.size ≤ u1.heap.size := Nat.le_trans hz0 b1.size
  go_wp2_with (go_at_call 13; refine (records_no u1 la c L (kL u1 B1) hLn hLo hr).mono ?_; rintro e u2 ⟨⟨x2, rfl⟩, b2⟩; refine Hid.out ?_)
  refine Lib.hid ?_
  have B2 : Below w.heap.size w u2 := B1.trans (b2.mono hz1)
  have hz2 : w.heap.size ≤ u2.heap.size := Nat.le_trans hz1 b2.size
  go_wp2_with (go_at_call 16; refine (helds_yes u2 lh d H (kH u2 B2) hHn hHo hh).mono ?_; rintro e u3 ⟨A4, c4, rfl, z4, b3⟩; refine Hid.out ?_)
  refine Lib.hid ?_
  have B3 : Below w.heap.size w u3 := B2.trans (b3.mono hz2)
  have hz3 : w.heap.size ≤ u3.heap.size := Nat.le_trans hz2 b3.size
  go_wp2_with (go_at_call 17; refine (readHds_yes u3 A4 c4 _ H z4 (by omega) hhal).mono ?_; rintro e u4 ⟨A5, c5, rfl, z5, b4⟩; refine Hid.out ?_)
  refine Lib.hid ?_
  have B4 : Below w.heap.size w u4 := B3.trans (b4.mono hz3)
  have hz4 : w.heap.size ≤ u4.heap.size := Nat.le_trans hz3 b4.size
  go_wp2_with (go_at_call 18; refine (sameHds_any u4 A5 lh c5 d H z5 (kH u4 B4) hHn).mono ?_; rintro e u5 ⟨rfl, b5⟩; refine Hid.out ?_)
  refine Lib.hid ?_
  have B5 : Below w.heap.size w u5 := B4.trans (b5.mono hz4)
  have hz5 : w.heap.size ≤ u5.heap.size := Nat.le_trans hz4 b5.size
  go_wp2_with (go_at_call 11; refine (seal_form u5 p cb lb n hHN.out (kb u5 B5).1 (by omega) hbc).mono ?_; rintro e u6 ⟨g6, c6, rfl, o6, l6, m6, b6⟩; refine Hid.out ?_)
  refine Lib.hid ?_
  have B6 : Below w.heap.size w u6 := B5.trans (b6.mono hz5)
  have hz6 : w.heap.size ≤ u6.heap.size := Nat.le_trans hz5 b6.size
  have z6 : Bz u6 (some ⟨g6, 0, none⟩) c6 (sealB lb) := by
    obtain ⟨A, cap, e, hz⟩ := own_bz o6
    injection e with e1 e2 e3
    rw [e1, e3]; exact hz
  go_wp2_with (go_at_call 19; refine (open_no u6 (some ⟨g6, 0, none⟩) c6 n ((sealB lb).take n) HT.out.symm (bz_take z6 n) (by rw [HT.out]; omega) hcut).mono ?_; rintro e u7 ⟨rfl, b7⟩; refine Hid.out ?_)
  refine Lib.hid ?_
  have B7 : Below w.heap.size w u7 := B6.trans (b7.mono hz6)
  have hz7 : w.heap.size ≤ u7.heap.size := Nat.le_trans hz6 b7.size
  have o7 := own_keep o6 b7
  have hSz : u5.heap.size ≤ u7.heap.size := Nat.le_trans b6.size b7.size
  have zm := km u7 B7
  go_wp2_with (at_builtin; refine append_bs rfl _ _ rfl u5.heap.size _ (sealB lb) rfl o7 q _ cm lm rfl rfl zm.1 hmc (by rw [hHN.out]; omega) hSz ?_)
  intro v8 u8 o8 b8'
  have b8 : Below w.heap.size u7 u8 := b8'.mono hz5
  have B8 : Below w.heap.size w u8 := B7.trans b8
  have hz8 : w.heap.size ≤ u8.heap.size := Nat.le_trans hz7 b8.size
  obtain ⟨A8, c8, rfl, z8⟩ := own_bz o8
  rw [HA.out]
  go_wp2_with (go_at_call 19; refine (open_yes u8 A8 c8 _ _ lb (n + 1) HA.out.symm z8 (by rw [HA.out]; omega) hopn).mono ?_; rintro e u9 ⟨A9, c9, rfl, z9, b9⟩; refine Hid.out ?_)
  refine Lib.hid ?_
  have B9 : Below w.heap.size w u9 := B8.trans (b9.mono hz8)
  have hz9 : w.heap.size ≤ u9.heap.size := Nat.le_trans hz8 b9.size
  have v1 := z9.1.convert lb.length c9 rfl
  have v2 := (kb u9 B9).1.convert lb.length cb rfl
  go_wp2_with (go_at_call 14; refine (readRecs_yes u9 q cm lm xs (km u9 B9) (by omega) hx).mono ?_; rintro e u10 ⟨A10, c10, rfl, z10, b10⟩; refine Hid.out ?_)
  refine Lib.hid ?_
  have B10 : Below w.heap.size w u10 := B9.trans (b10.mono hz9)
  have hz10 : w.heap.size ≤ u10.heap.size := Nat.le_trans hz9 b10.size
  go_wp2_with (go_at_call 13; refine (records_yes u10 A10 c10 xs z10 (by omega) hxo hxe).mono ?_; rintro e u11 ⟨A11, c11, rfl, z11, b11⟩; refine Hid.out ?_)
  refine Lib.hid ?_
  have B11 : Below w.heap.size w u11 := B10.trans (b11.mono hz10)
  have hz11 : w.heap.size ≤ u11.heap.size := Nat.le_trans hz10 b11.size
  have v3 := z11.1.convert (lstB rcB xs).length c11 rfl
  have v4 := (km u11 B11).1.convert lm.length cm rfl
  rw [← hxl.out] at v3
  rw [← hxl.out]
  go_wp2_with fail
  go_ret
  exact ⟨rfl, by rw [HU.out]; exact B11⟩
set_option maxRecDepth 100000 in
set_option maxHeartbeats 2000000 in
theorem back_nyn (w : World) (la lh p q : Option Addr) (c d cb cm : Nat) (L : List Rc) (H : List Hd) (lb lm : List UInt8)
    (hL : CsAt w la (rcells L)) (hLn : L.length ≤ 9223372036854775807) (hLo : ∀ r ∈ L, OkRc r) (hH : CsAt w lh (hcells H)) (hHn : H.length ≤ 9223372036854775807) (hHo : ∀ r ∈ H, OkHd r)
    (hb : Bz w p cb lb) (hbc : p = none → cb = 0) (hm : Bz w q cm lm) (hmc : q = none → cm = 0) (hlen : lb.length + lm.length ≤ 1048576)
    (hr : ¬ recsE L = 0) (hh : heldsE ltH H = 0) (hx : readRcs lm = none) :
    Calls Try.prog 4 #[.slice la L.length c, .slice lh H.length d, .slice p lb.length cb, .slice q lm.length cm] w fun e w' => e = .returned (.bool true) ∧ Below w.heap.size w w' := by
  have kL : ∀ u, Below w.heap.size w u → CsAt u la (rcells L) := fun u h => hL.keep h
  have kH : ∀ u, Below w.heap.size w u → CsAt u lh (hcells H) := fun u h => hH.keep h
  have kb : ∀ u, Below w.heap.size w u → Bz u p cb lb := fun u h => hb.keep h
  have km : ∀ u, Below w.heap.size w u → Bz u q cm lm := fun u h => hm.keep h
  obtain ⟨n, hn⟩ : ∃ n, (sealB lb).length = n + 1 := ⟨(sealB lb).length - 1, by have := seal_len lb; omega⟩
  have hnt := num_ten (n := (lb.length : Int)) (by omega) (by omega)
  have hsl := seal_len lb
  have hcut := open_cut lb (by omega) n (by omega)
  have hopn := open_seal lb lm (by omega)
  rw [hn] at hopn
  have hn2 : n + 1 ≤ 1048600 := by omega
  have hapl : (sealB lb ++ lm).length = n + 1 + lm.length := by rw [List.length_append, hn]
  have htl : ((sealB lb).take n).length = n := by rw [List.length_take]; omega
  have h32 := lsth_le hh hHo
  have hhal := readHds_all ltH H hHo hh
  obtain ⟨u0, hu0⟩ : ∃ u, u = w := ⟨_, rfl⟩
  have B0 : Below w.heap.size w u0 := by rw [hu0]; exact Below.refl _ _
  have hB0 := B0.size
  have hSL := Lib.hid hsl
  have hHN := Lib.hid hn
  have HT := Lib.hid htl
  have HA := Lib.hid hapl
  clear hL hH hb hm hsl hn htl hapl
  rw [← hu0]
  rw [hu0] at hB0
  have hz0 : w.heap.size ≤ u0.heap.size := by rw [hu0]; omega
  have HU := Lib.hid hu0
  clear hu0 hB0
  go_enter Try.func4, Try.ntmps4
  go_wp2_with (go_at_call 7; refine (num300_any u0).mono ?_; rintro e u1 ⟨g1, c1, rfl, hg1, b1⟩; refine Hid.out ?_)
  refine Lib.hid ?_
  have B1 : Below w.heap.size w u1 := B0.trans (b1.mono hz0)
  have hz1 : w.heap.size ≤ u1.heap.size := Nat.le_trans hz0 b1.size
  go_wp2_with (go_at_call 13; refine (records_no u1 la c L (kL u1 B1) hLn hLo hr).mono ?_; rintro e u2 ⟨⟨x2, rfl⟩, b2⟩; refine Hid.out ?_)
  refine Lib.hid ?_
  have B2 : Below w.heap.size w u2 := B1.trans (b2.mono hz1)
  have hz2 : w.heap.size ≤ u2.heap.size := Nat.le_trans hz1 b2.size
  go_wp2_with (go_at_call 16; refine (helds_yes u2 lh d H (kH u2 B2) hHn hHo hh).mono ?_; rintro e u3 ⟨A4, c4, rfl, z4, b3⟩; refine Hid.out ?_)
  refine Lib.hid ?_
  have B3 : Below w.heap.size w u3 := B2.trans (b3.mono hz2)
  have hz3 : w.heap.size ≤ u3.heap.size := Nat.le_trans hz2 b3.size
  go_wp2_with (go_at_call 17; refine (readHds_yes u3 A4 c4 _ H z4 (by omega) hhal).mono ?_; rintro e u4 ⟨A5, c5, rfl, z5, b4⟩; refine Hid.out ?_)
  refine Lib.hid ?_
  have B4 : Below w.heap.size w u4 := B3.trans (b4.mono hz3)
  have hz4 : w.heap.size ≤ u4.heap.size := Nat.le_trans hz3 b4.size
  go_wp2_with (go_at_call 18; refine (sameHds_any u4 A5 lh c5 d H z5 (kH u4 B4) hHn).mono ?_; rintro e u5 ⟨rfl, b5⟩; refine Hid.out ?_)
  refine Lib.hid ?_
  have B5 : Below w.heap.size w u5 := B4.trans (b5.mono hz4)
  have hz5 : w.heap.size ≤ u5.heap.size := Nat.le_trans hz4 b5.size
  go_wp2_with (go_at_call 11; refine (seal_form u5 p cb lb n hHN.out (kb u5 B5).1 (by omega) hbc).mono ?_; rintro e u6 ⟨g6, c6, rfl, o6, l6, m6, b6⟩; refine Hid.out ?_)
  refine Lib.hid ?_
  have B6 : Below w.heap.size w u6 := B5.trans (b6.mono hz5)
  have hz6 : w.heap.size ≤ u6.heap.size := Nat.le_trans hz5 b6.size
  have z6 : Bz u6 (some ⟨g6, 0, none⟩) c6 (sealB lb) := by
    obtain ⟨A, cap, e, hz⟩ := own_bz o6
    injection e with e1 e2 e3
    rw [e1, e3]; exact hz
  go_wp2_with (go_at_call 19; refine (open_no u6 (some ⟨g6, 0, none⟩) c6 n ((sealB lb).take n) HT.out.symm (bz_take z6 n) (by rw [HT.out]; omega) hcut).mono ?_; rintro e u7 ⟨rfl, b7⟩; refine Hid.out ?_)
  refine Lib.hid ?_
  have B7 : Below w.heap.size w u7 := B6.trans (b7.mono hz6)
  have hz7 : w.heap.size ≤ u7.heap.size := Nat.le_trans hz6 b7.size
  have o7 := own_keep o6 b7
  have hSz : u5.heap.size ≤ u7.heap.size := Nat.le_trans b6.size b7.size
  have zm := km u7 B7
  go_wp2_with (at_builtin; refine append_bs rfl _ _ rfl u5.heap.size _ (sealB lb) rfl o7 q _ cm lm rfl rfl zm.1 hmc (by rw [hHN.out]; omega) hSz ?_)
  intro v8 u8 o8 b8'
  have b8 : Below w.heap.size u7 u8 := b8'.mono hz5
  have B8 : Below w.heap.size w u8 := B7.trans b8
  have hz8 : w.heap.size ≤ u8.heap.size := Nat.le_trans hz7 b8.size
  obtain ⟨A8, c8, rfl, z8⟩ := own_bz o8
  rw [HA.out]
  go_wp2_with (go_at_call 19; refine (open_yes u8 A8 c8 _ _ lb (n + 1) HA.out.symm z8 (by rw [HA.out]; omega) hopn).mono ?_; rintro e u9 ⟨A9, c9, rfl, z9, b9⟩; refine Hid.out ?_)
  refine Lib.hid ?_
  have B9 : Below w.heap.size w u9 := B8.trans (b9.mono hz8)
  have hz9 : w.heap.size ≤ u9.heap.size := Nat.le_trans hz8 b9.size
  have v1 := z9.1.convert lb.length c9 rfl
  have v2 := (kb u9 B9).1.convert lb.length cb rfl
  go_wp2_with (go_at_call 14; refine (readRecs_no u9 q cm lm (km u9 B9) (by omega) hx).mono ?_; rintro e u10 ⟨rfl, b10⟩; refine Hid.out ?_)
  refine Lib.hid ?_
  have B10 : Below w.heap.size w u10 := B9.trans (b10.mono hz9)
  have hz10 : w.heap.size ≤ u10.heap.size := Nat.le_trans hz9 b10.size
  go_wp2_with fail
  go_ret
  exact ⟨rfl, by rw [HU.out]; exact B10⟩
set_option maxRecDepth 100000 in
set_option maxHeartbeats 2000000 in
theorem back_nny (w : World) (la lh p q : Option Addr) (c d cb cm : Nat) (L : List Rc) (H : List Hd) (lb lm : List UInt8)
    (hL : CsAt w la (rcells L)) (hLn : L.length ≤ 9223372036854775807) (hLo : ∀ r ∈ L, OkRc r) (hH : CsAt w lh (hcells H)) (hHn : H.length ≤ 9223372036854775807) (hHo : ∀ r ∈ H, OkHd r)
    (hb : Bz w p cb lb) (hbc : p = none → cb = 0) (hm : Bz w q cm lm) (hmc : q = none → cm = 0) (hlen : lb.length + lm.length ≤ 1048576)
    (hr : ¬ recsE L = 0) (hh : ¬ heldsE ltH H = 0) (xs : List Rc) (hx : readRcs lm = some xs) :
    Calls Try.prog 4 #[.slice la L.length c, .slice lh H.length d, .slice p lb.length cb, .slice q lm.length cm] w fun e w' => e = .returned (.bool true) ∧ Below w.heap.size w w' := by
  have kL : ∀ u, Below w.heap.size w u → CsAt u la (rcells L) := fun u h => hL.keep h
  have kH : ∀ u, Below w.heap.size w u → CsAt u lh (hcells H) := fun u h => hH.keep h
  have kb : ∀ u, Below w.heap.size w u → Bz u p cb lb := fun u h => hb.keep h
  have km : ∀ u, Below w.heap.size w u → Bz u q cm lm := fun u h => hm.keep h
  obtain ⟨n, hn⟩ : ∃ n, (sealB lb).length = n + 1 := ⟨(sealB lb).length - 1, by have := seal_len lb; omega⟩
  have hnt := num_ten (n := (lb.length : Int)) (by omega) (by omega)
  have hsl := seal_len lb
  have hcut := open_cut lb (by omega) n (by omega)
  have hopn := open_seal lb lm (by omega)
  rw [hn] at hopn
  have hn2 : n + 1 ≤ 1048600 := by omega
  have hapl : (sealB lb ++ lm).length = n + 1 + lm.length := by rw [List.length_append, hn]
  have htl : ((sealB lb).take n).length = n := by rw [List.length_take]; omega
  obtain ⟨hxo, hxe, hxl0⟩ := readRcs_some hx
  have hxl := Lib.hid hxl0
  have hx4 := (ok_key hxe).1
  clear hxl0
  obtain ⟨u0, hu0⟩ : ∃ u, u = w := ⟨_, rfl⟩
  have B0 : Below w.heap.size w u0 := by rw [hu0]; exact Below.refl _ _
  have hB0 := B0.size
  have hSL := Lib.hid hsl
  have hHN := Lib.hid hn
  have HT := Lib.hid htl
  have HA := Lib.hid hapl
  clear hL hH hb hm hsl hn htl hapl
  rw [← hu0]
  rw [hu0] at hB0
  have hz0 : w.heap.size ≤ u0.heap.size := by rw [hu0]; omega
  have HU := Lib.hid hu0
  clear hu0 hB0
  go_enter Try.func4, Try.ntmps4
  go_wp2_with (go_at_call 7; refine (num300_any u0).mono ?_; rintro e u1 ⟨g1, c1, rfl, hg1, b1⟩; refine Hid.out ?_)
  refine Lib.hid ?_
  have B1 : Below w.heap.size w u1 := B0.trans (b1.mono hz0)
  have hz1 : w.heap.size ≤ u1.heap.size := Nat.le_trans hz0 b1.size
  go_wp2_with (go_at_call 13; refine (records_no u1 la c L (kL u1 B1) hLn hLo hr).mono ?_; rintro e u2 ⟨⟨x2, rfl⟩, b2⟩; refine Hid.out ?_)
  refine Lib.hid ?_
  have B2 : Below w.heap.size w u2 := B1.trans (b2.mono hz1)
  have hz2 : w.heap.size ≤ u2.heap.size := Nat.le_trans hz1 b2.size
  go_wp2_with (go_at_call 16; refine (helds_no u2 lh d H (kH u2 B2) hHn hHo hh).mono ?_; rintro e u3 ⟨⟨x4, rfl⟩, b3⟩; refine Hid.out ?_)
  refine Lib.hid ?_
  have B3 : Below w.heap.size w u3 := B2.trans (b3.mono hz2)
  have hz3 : w.heap.size ≤ u3.heap.size := Nat.le_trans hz2 b3.size
  go_wp2_with (go_at_call 11; refine (seal_form u3 p cb lb n hHN.out (kb u3 B3).1 (by omega) hbc).mono ?_; rintro e u4 ⟨g6, c6, rfl, o6, l6, m6, b4⟩; refine Hid.out ?_)
  refine Lib.hid ?_
  have B4 : Below w.heap.size w u4 := B3.trans (b4.mono hz3)
  have hz4 : w.heap.size ≤ u4.heap.size := Nat.le_trans hz3 b4.size
  have z6 : Bz u4 (some ⟨g6, 0, none⟩) c6 (sealB lb) := by
    obtain ⟨A, cap, e, hz⟩ := own_bz o6
    injection e with e1 e2 e3
    rw [e1, e3]; exact hz
  go_wp2_with (go_at_call 19; refine (open_no u4 (some ⟨g6, 0, none⟩) c6 n ((sealB lb).take n) HT.out.symm (bz_take z6 n) (by rw [HT.out]; omega) hcut).mono ?_; rintro e u5 ⟨rfl, b5⟩; refine Hid.out ?_)
  refine Lib.hid ?_
  have B5 : Below w.heap.size w u5 := B4.trans (b5.mono hz4)
  have hz5 : w.heap.size ≤ u5.heap.size := Nat.le_trans hz4 b5.size
  have o7 := own_keep o6 b5
  have hSz : u3.heap.size ≤ u5.heap.size := Nat.le_trans b4.size b5.size
  have zm := km u5 B5
  go_wp2_with (at_builtin; refine append_bs rfl _ _ rfl u3.heap.size _ (sealB lb) rfl o7 q _ cm lm rfl rfl zm.1 hmc (by rw [hHN.out]; omega) hSz ?_)
  intro v6 u6 o6 b6'
  have b6 : Below w.heap.size u5 u6 := b6'.mono hz3
  have B6 : Below w.heap.size w u6 := B5.trans b6
  have hz6 : w.heap.size ≤ u6.heap.size := Nat.le_trans hz5 b6.size
  obtain ⟨A8, c8, rfl, z8⟩ := own_bz o6
  rw [HA.out]
  go_wp2_with (go_at_call 19; refine (open_yes u6 A8 c8 _ _ lb (n + 1) HA.out.symm z8 (by rw [HA.out]; omega) hopn).mono ?_; rintro e u7 ⟨A9, c9, rfl, z9, b7⟩; refine Hid.out ?_)
  refine Lib.hid ?_
  have B7 : Below w.heap.size w u7 := B6.trans (b7.mono hz6)
  have hz7 : w.heap.size ≤ u7.heap.size := Nat.le_trans hz6 b7.size
  have v1 := z9.1.convert lb.length c9 rfl
  have v2 := (kb u7 B7).1.convert lb.length cb rfl
  go_wp2_with (go_at_call 14; refine (readRecs_yes u7 q cm lm xs (km u7 B7) (by omega) hx).mono ?_; rintro e u8 ⟨A10, c10, rfl, z10, b8⟩; refine Hid.out ?_)
  refine Lib.hid ?_
  have B8 : Below w.heap.size w u8 := B7.trans (b8.mono hz7)
  have hz8 : w.heap.size ≤ u8.heap.size := Nat.le_trans hz7 b8.size
  go_wp2_with (go_at_call 13; refine (records_yes u8 A10 c10 xs z10 (by omega) hxo hxe).mono ?_; rintro e u9 ⟨A11, c11, rfl, z11, b9⟩; refine Hid.out ?_)
  refine Lib.hid ?_
  have B9 : Below w.heap.size w u9 := B8.trans (b9.mono hz8)
  have hz9 : w.heap.size ≤ u9.heap.size := Nat.le_trans hz8 b9.size
  have v3 := z11.1.convert (lstB rcB xs).length c11 rfl
  have v4 := (km u9 B9).1.convert lm.length cm rfl
  rw [← hxl.out] at v3
  rw [← hxl.out]
  go_wp2_with fail
  go_ret
  exact ⟨rfl, by rw [HU.out]; exact B9⟩
set_option maxRecDepth 100000 in
set_option maxHeartbeats 2000000 in
theorem back_nnn (w : World) (la lh p q : Option Addr) (c d cb cm : Nat) (L : List Rc) (H : List Hd) (lb lm : List UInt8)
    (hL : CsAt w la (rcells L)) (hLn : L.length ≤ 9223372036854775807) (hLo : ∀ r ∈ L, OkRc r) (hH : CsAt w lh (hcells H)) (hHn : H.length ≤ 9223372036854775807) (hHo : ∀ r ∈ H, OkHd r)
    (hb : Bz w p cb lb) (hbc : p = none → cb = 0) (hm : Bz w q cm lm) (hmc : q = none → cm = 0) (hlen : lb.length + lm.length ≤ 1048576)
    (hr : ¬ recsE L = 0) (hh : ¬ heldsE ltH H = 0) (hx : readRcs lm = none) :
    Calls Try.prog 4 #[.slice la L.length c, .slice lh H.length d, .slice p lb.length cb, .slice q lm.length cm] w fun e w' => e = .returned (.bool true) ∧ Below w.heap.size w w' := by
  have kL : ∀ u, Below w.heap.size w u → CsAt u la (rcells L) := fun u h => hL.keep h
  have kH : ∀ u, Below w.heap.size w u → CsAt u lh (hcells H) := fun u h => hH.keep h
  have kb : ∀ u, Below w.heap.size w u → Bz u p cb lb := fun u h => hb.keep h
  have km : ∀ u, Below w.heap.size w u → Bz u q cm lm := fun u h => hm.keep h
  obtain ⟨n, hn⟩ : ∃ n, (sealB lb).length = n + 1 := ⟨(sealB lb).length - 1, by have := seal_len lb; omega⟩
  have hnt := num_ten (n := (lb.length : Int)) (by omega) (by omega)
  have hsl := seal_len lb
  have hcut := open_cut lb (by omega) n (by omega)
  have hopn := open_seal lb lm (by omega)
  rw [hn] at hopn
  have hn2 : n + 1 ≤ 1048600 := by omega
  have hapl : (sealB lb ++ lm).length = n + 1 + lm.length := by rw [List.length_append, hn]
  have htl : ((sealB lb).take n).length = n := by rw [List.length_take]; omega
  obtain ⟨u0, hu0⟩ : ∃ u, u = w := ⟨_, rfl⟩
  have B0 : Below w.heap.size w u0 := by rw [hu0]; exact Below.refl _ _
  have hB0 := B0.size
  have hSL := Lib.hid hsl
  have hHN := Lib.hid hn
  have HT := Lib.hid htl
  have HA := Lib.hid hapl
  clear hL hH hb hm hsl hn htl hapl
  rw [← hu0]
  rw [hu0] at hB0
  have hz0 : w.heap.size ≤ u0.heap.size := by rw [hu0]; omega
  have HU := Lib.hid hu0
  clear hu0 hB0
  go_enter Try.func4, Try.ntmps4
  go_wp2_with (go_at_call 7; refine (num300_any u0).mono ?_; rintro e u1 ⟨g1, c1, rfl, hg1, b1⟩; refine Hid.out ?_)
  refine Lib.hid ?_
  have B1 : Below w.heap.size w u1 := B0.trans (b1.mono hz0)
  have hz1 : w.heap.size ≤ u1.heap.size := Nat.le_trans hz0 b1.size
  go_wp2_with (go_at_call 13; refine (records_no u1 la c L (kL u1 B1) hLn hLo hr).mono ?_; rintro e u2 ⟨⟨x2, rfl⟩, b2⟩; refine Hid.out ?_)
  refine Lib.hid ?_
  have B2 : Below w.heap.size w u2 := B1.trans (b2.mono hz1)
  have hz2 : w.heap.size ≤ u2.heap.size := Nat.le_trans hz1 b2.size
  go_wp2_with (go_at_call 16; refine (helds_no u2 lh d H (kH u2 B2) hHn hHo hh).mono ?_; rintro e u3 ⟨⟨x4, rfl⟩, b3⟩; refine Hid.out ?_)
  refine Lib.hid ?_
  have B3 : Below w.heap.size w u3 := B2.trans (b3.mono hz2)
  have hz3 : w.heap.size ≤ u3.heap.size := Nat.le_trans hz2 b3.size
  go_wp2_with (go_at_call 11; refine (seal_form u3 p cb lb n hHN.out (kb u3 B3).1 (by omega) hbc).mono ?_; rintro e u4 ⟨g6, c6, rfl, o6, l6, m6, b4⟩; refine Hid.out ?_)
  refine Lib.hid ?_
  have B4 : Below w.heap.size w u4 := B3.trans (b4.mono hz3)
  have hz4 : w.heap.size ≤ u4.heap.size := Nat.le_trans hz3 b4.size
  have z6 : Bz u4 (some ⟨g6, 0, none⟩) c6 (sealB lb) := by
    obtain ⟨A, cap, e, hz⟩ := own_bz o6
    injection e with e1 e2 e3
    rw [e1, e3]; exact hz
  go_wp2_with (go_at_call 19; refine (open_no u4 (some ⟨g6, 0, none⟩) c6 n ((sealB lb).take n) HT.out.symm (bz_take z6 n) (by rw [HT.out]; omega) hcut).mono ?_; rintro e u5 ⟨rfl, b5⟩; refine Hid.out ?_)
  refine Lib.hid ?_
  have B5 : Below w.heap.size w u5 := B4.trans (b5.mono hz4)
  have hz5 : w.heap.size ≤ u5.heap.size := Nat.le_trans hz4 b5.size
  have o7 := own_keep o6 b5
  have hSz : u3.heap.size ≤ u5.heap.size := Nat.le_trans b4.size b5.size
  have zm := km u5 B5
  go_wp2_with (at_builtin; refine append_bs rfl _ _ rfl u3.heap.size _ (sealB lb) rfl o7 q _ cm lm rfl rfl zm.1 hmc (by rw [hHN.out]; omega) hSz ?_)
  intro v6 u6 o6 b6'
  have b6 : Below w.heap.size u5 u6 := b6'.mono hz3
  have B6 : Below w.heap.size w u6 := B5.trans b6
  have hz6 : w.heap.size ≤ u6.heap.size := Nat.le_trans hz5 b6.size
  obtain ⟨A8, c8, rfl, z8⟩ := own_bz o6
  rw [HA.out]
  go_wp2_with (go_at_call 19; refine (open_yes u6 A8 c8 _ _ lb (n + 1) HA.out.symm z8 (by rw [HA.out]; omega) hopn).mono ?_; rintro e u7 ⟨A9, c9, rfl, z9, b7⟩; refine Hid.out ?_)
  refine Lib.hid ?_
  have B7 : Below w.heap.size w u7 := B6.trans (b7.mono hz6)
  have hz7 : w.heap.size ≤ u7.heap.size := Nat.le_trans hz6 b7.size
  have v1 := z9.1.convert lb.length c9 rfl
  have v2 := (kb u7 B7).1.convert lb.length cb rfl
  go_wp2_with (go_at_call 14; refine (readRecs_no u7 q cm lm (km u7 B7) (by omega) hx).mono ?_; rintro e u8 ⟨rfl, b8⟩; refine Hid.out ?_)
  refine Lib.hid ?_
  have B8 : Below w.heap.size w u8 := B7.trans (b8.mono hz7)
  have hz8 : w.heap.size ≤ u8.heap.size := Nat.le_trans hz7 b8.size
  go_wp2_with fail
  go_ret
  exact ⟨rfl, by rw [HU.out]; exact B8⟩
end Go.Proofs.Ytbppiiomjmpjkaa
