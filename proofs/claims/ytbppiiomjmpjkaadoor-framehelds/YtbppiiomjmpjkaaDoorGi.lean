/- FrameHelds's walk: eight ways. -/
import Derived.Test.YtbppiiomjmpjkaaDoorGh
namespace Go.Proofs.YtbppiiomjmpjkaaDoor
open Go.RowKit

theorem helds_err (u : World) (la : Option Addr) (c : Nat) (L : List Hd) (h : CsAt u la (hcells L)) (hlen : L.length ≤ 9223372036854775807) (hok : ∀ r ∈ L, OkHd r) (hE : ¬ heldsE ltH L = 0) :
    Calls Tryd.prog 12 #[.slice la L.length c] u fun e u' => e = .returned (.tuple #[.slice none 0 0, .iface 58 (.int .i64 ((heldsE ltH L : Nat) : Int))]) ∧ Below u.heap.size u u' := by
  refine (helds_any u la c L h hlen hok).mono ?_
  rintro e u' ⟨h1, hb⟩
  rw [if_neg hE] at h1
  exact ⟨h1, hb⟩
theorem shelds_err (u : World) (la : Option Addr) (c : Nat) (L : List Hd) (h : CsAt u la (hcells L)) (hlen : L.length ≤ 9223372036854775807) (hok : ∀ r ∈ L, OkHd r) (hE : ¬ heldsE ltH L = 0) :
    Calls Tryd.prog 11 #[.slice la L.length c] u fun e u' => e = .returned (.tuple #[.slice none 0 0, .int .i64 ((heldsE ltH L : Nat) : Int)]) ∧ Below u.heap.size u u' := by
  refine (shelds_any u la c L h hlen hok).mono ?_
  rintro e u' ⟨h1, hb⟩
  rw [if_neg hE] at h1
  exact ⟨h1, hb⟩
theorem shelds_yes (u : World) (la : Option Addr) (c : Nat) (L : List Hd) (h : CsAt u la (hcells L)) (hlen : L.length ≤ 9223372036854775807) (hok : ∀ r ∈ L, OkHd r) (hE : heldsE ltH L = 0) :
    Calls Tryd.prog 11 #[.slice la L.length c] u fun e u' => ∃ A cap, e = .returned (.tuple #[.slice A (lstB hdB L).length cap, .int .i64 0]) ∧ Bz u' A cap (lstB hdB L) ∧ Below u.heap.size u u' := by
  refine (shelds_any u la c L h hlen hok).mono ?_
  rintro e u' ⟨h1, hb⟩
  rw [hE, if_pos rfl] at h1
  obtain ⟨v, rfl, ho⟩ := h1
  obtain ⟨A, cap, rfl, hz⟩ := own_bz ho
  exact ⟨A, cap, rfl, hz, hb⟩
theorem sreadHds_yes (u : World) (p : Option Addr) (c : Nat) (l : List UInt8) (L : List Hd) (h : Bz u p c l) (hlen : l.length ≤ 140737488355328) (hr : readHds ltH l = some L) :
    Calls Tryd.prog 13 #[.slice p l.length c] u fun e u' => ∃ A cap, e = .returned (.tuple #[.slice A L.length cap, .bool true]) ∧ CsAt u' A (hcells L) ∧ Below u.heap.size u u' := by
  refine (sreadHds_any u p c l h.1 hlen h.2.1 h.2.2).mono ?_
  rintro e u' ⟨h1, hb⟩
  rw [hr] at h1
  obtain ⟨v, rfl, ho⟩ := h1
  obtain ⟨A, cap, rfl⟩ := row_slice ho
  exact ⟨A, cap, rfl, (own_cs ho (hcells_len L)).1, hb⟩
theorem sreadHds_no (u : World) (p : Option Addr) (c : Nat) (l : List UInt8) (h : Bz u p c l) (hlen : l.length ≤ 140737488355328) (hr : readHds ltH l = none) :
    Calls Tryd.prog 13 #[.slice p l.length c] u fun e u' => e = .returned (.tuple #[.slice none 0 0, .bool false]) ∧ Below u.heap.size u u' := by
  refine (sreadHds_any u p c l h.1 hlen h.2.1 h.2.2).mono ?_
  rintro e u' ⟨h1, hb⟩
  rw [hr] at h1
  exact ⟨h1, hb⟩
set_option maxRecDepth 100000 in
set_option maxHeartbeats 2000000 in
theorem hds_yyy (w : World) (la p : Option Addr) (c cb : Nat) (L : List Hd) (lb : List UInt8)
    (hL : CsAt w la (hcells L)) (hLn : L.length ≤ 9223372036854775807) (hLo : ∀ r ∈ L, OkHd r) (hb : Bz w p cb lb) (hbc : p = none → cb = 0) (hlen : lb.length + 14 ≤ 140737488355328) (hg : w.cell? ⟨0, 0, none⟩ = some ET)
    (hr : heldsE ltH L = 0) (xs : List Hd) (hx : readHds ltH lb = some xs) (ob : List UInt8) (ok : Nat) (ho : openB lb = some (ob, ok)) :
    Calls Tryd.prog 4 #[.slice la L.length c, .slice p lb.length cb] w fun e w' => e = .returned (.bool true) ∧ Below w.heap.size w w' := by
  have kL : ∀ u, Below w.heap.size w u → CsAt u la (hcells L) := fun u h => hL.keep h
  have kb : ∀ u, Below w.heap.size w u → Bz u p cb lb := fun u h => hb.keep h
  have kg : ∀ u, Below w.heap.size w u → u.cell? ⟨0, 0, none⟩ = some ET := fun u h => et_below hg h
  have hxn : xs.length ≤ 9223372036854775807 := by
    have := (ok_hkey (show heldsE ltH xs = 0 from readHds_ok hx)).1
    omega
  obtain ⟨u0, hu0⟩ : ∃ u, u = w := ⟨_, rfl⟩
  have B0 : Below w.heap.size w u0 := by rw [hu0]; exact Below.refl _ _
  have hz0 : w.heap.size ≤ u0.heap.size := by rw [hu0]; exact Nat.le_refl _
  have HU := Lib.hid hu0
  clear hL hb hg
  rw [← hu0]
  clear hu0
  go_enter Tryd.func4, Tryd.ntmps4
  go_wp2_with (go_at_call 11; refine (shelds_yes u0 la c L (kL u0 B0) hLn hLo hr).mono ?_; rintro e u1 ⟨A1, c1, rfl, z1, b1⟩; refine Hid.out ?_)
  refine Lib.hid ?_
  have B1 : Below w.heap.size w u1 := B0.trans (b1.mono hz0)
  have hz1 : w.heap.size ≤ u1.heap.size := Nat.le_trans hz0 b1.size
  go_wp2_with (go_at_call 12; refine (helds_yes u1 la c L (kL u1 B1) hLn hLo hr).mono ?_; rintro e u2 ⟨A2, c2, rfl, z2, b2⟩; refine Hid.out ?_)
  refine Lib.hid ?_
  have B2 : Below w.heap.size w u2 := B1.trans (b2.mono hz1)
  have hz2 : w.heap.size ≤ u2.heap.size := Nat.le_trans hz1 b2.size
  have v1 := (z1.keep b2).1.convert _ c1 rfl
  have v2 := z2.1.convert _ c2 rfl
  go_wp2_with (go_at_call 7; refine (error_nil u2).mono ?_; rintro e u ⟨rfl, rfl⟩; refine Hid.out ?_)
  refine Lib.hid ?_
  go_wp2_with (go_at_call 13; refine (sreadHds_yes u2 p cb lb xs (kb u2 B2) (by omega) hx).mono ?_; rintro e u3 ⟨A3, c3, rfl, z3, b3⟩; refine Hid.out ?_)
  refine Lib.hid ?_
  have B3 : Below w.heap.size w u3 := B2.trans (b3.mono hz2)
  have hz3 : w.heap.size ≤ u3.heap.size := Nat.le_trans hz2 b3.size
  go_wp2_with (go_at_call 14; refine (readHds_yes u3 p cb lb xs (kb u3 B3) (by omega) hx).mono ?_; rintro e u4 ⟨A4, c4, rfl, z4, b4⟩; refine Hid.out ?_)
  refine Lib.hid ?_
  have B4 : Below w.heap.size w u4 := B3.trans (b4.mono hz3)
  have hz4 : w.heap.size ≤ u4.heap.size := Nat.le_trans hz3 b4.size
  have z3k := z3.keep b4
  go_wp2_with (go_at_call 7; refine (error_nil u4).mono ?_; rintro e u ⟨rfl, rfl⟩; refine Hid.out ?_)
  refine Lib.hid ?_
  go_wp2_with (go_at_call 15; refine (sameHds_any u4 A4 A3 c4 c3 xs z4 z3k hxn).mono ?_; rintro e u5 ⟨rfl, b5⟩; refine Hid.out ?_)
  refine Lib.hid ?_
  have B5 : Below w.heap.size w u5 := B4.trans (b5.mono hz4)
  have hz5 : w.heap.size ≤ u5.heap.size := Nat.le_trans hz4 b5.size
  go_wp2_with (go_at_call 16; refine (sopen_yes u5 p cb lb ob ok (kb u5 B5) hlen hbc ho).mono ?_; rintro e u6 ⟨A5, c5, rfl, z5, b6⟩; refine Hid.out ?_)
  refine Lib.hid ?_
  have B6 : Below w.heap.size w u6 := B5.trans (b6.mono hz5)
  have hz6 : w.heap.size ≤ u6.heap.size := Nat.le_trans hz5 b6.size
  go_wp2_with (go_at_call 17; refine (open_yes u6 p cb _ lb ob ok rfl (kb u6 B6) (by omega) ho).mono ?_; rintro e u7 ⟨A6, c6, rfl, z6, b7⟩; refine Hid.out ?_)
  refine Lib.hid ?_
  have B7 : Below w.heap.size w u7 := B6.trans (b7.mono hz6)
  have hz7 : w.heap.size ≤ u7.heap.size := Nat.le_trans hz6 b7.size
  have v5 := (z5.keep b7).convert _ c5 rfl
  have v6 := z6.1.convert _ c6 rfl
  go_wp2_with (go_at_call 7; refine (error_nil u7).mono ?_; rintro e u ⟨rfl, rfl⟩; refine Hid.out ?_)
  refine Lib.hid ?_
  go_wp2_with fail
  go_ret
  exact ⟨rfl, by rw [HU.out]; exact B7⟩
set_option maxRecDepth 100000 in
set_option maxHeartbeats 2000000 in
theorem hds_yyn (w : World) (la p : Option Addr) (c cb : Nat) (L : List Hd) (lb : List UInt8)
    (hL : CsAt w la (hcells L)) (hLn : L.length ≤ 9223372036854775807) (hLo : ∀ r ∈ L, OkHd r) (hb : Bz w p cb lb) (hbc : p = none → cb = 0) (hlen : lb.length + 14 ≤ 140737488355328) (hg : w.cell? ⟨0, 0, none⟩ = some ET)
    (hr : heldsE ltH L = 0) (xs : List Hd) (hx : readHds ltH lb = some xs) (ho : openB lb = none) :
    Calls Tryd.prog 4 #[.slice la L.length c, .slice p lb.length cb] w fun e w' => e = .returned (.bool true) ∧ Below w.heap.size w w' := by
  have kL : ∀ u, Below w.heap.size w u → CsAt u la (hcells L) := fun u h => hL.keep h
  have kb : ∀ u, Below w.heap.size w u → Bz u p cb lb := fun u h => hb.keep h
  have kg : ∀ u, Below w.heap.size w u → u.cell? ⟨0, 0, none⟩ = some ET := fun u h => et_below hg h
  have hxn : xs.length ≤ 9223372036854775807 := by
    have := (ok_hkey (show heldsE ltH xs = 0 from readHds_ok hx)).1
    omega
  obtain ⟨u0, hu0⟩ : ∃ u, u = w := ⟨_, rfl⟩
  have B0 : Below w.heap.size w u0 := by rw [hu0]; exact Below.refl _ _
  have hz0 : w.heap.size ≤ u0.heap.size := by rw [hu0]; exact Nat.le_refl _
  have HU := Lib.hid hu0
  clear hL hb hg
  rw [← hu0]
  clear hu0
  go_enter Tryd.func4, Tryd.ntmps4
  go_wp2_with (go_at_call 11; refine (shelds_yes u0 la c L (kL u0 B0) hLn hLo hr).mono ?_; rintro e u1 ⟨A1, c1, rfl, z1, b1⟩; refine Hid.out ?_)
  refine Lib.hid ?_
  have B1 : Below w.heap.size w u1 := B0.trans (b1.mono hz0)
  have hz1 : w.heap.size ≤ u1.heap.size := Nat.le_trans hz0 b1.size
  go_wp2_with (go_at_call 12; refine (helds_yes u1 la c L (kL u1 B1) hLn hLo hr).mono ?_; rintro e u2 ⟨A2, c2, rfl, z2, b2⟩; refine Hid.out ?_)
  refine Lib.hid ?_
  have B2 : Below w.heap.size w u2 := B1.trans (b2.mono hz1)
  have hz2 : w.heap.size ≤ u2.heap.size := Nat.le_trans hz1 b2.size
  have v1 := (z1.keep b2).1.convert _ c1 rfl
  have v2 := z2.1.convert _ c2 rfl
  go_wp2_with (go_at_call 7; refine (error_nil u2).mono ?_; rintro e u ⟨rfl, rfl⟩; refine Hid.out ?_)
  refine Lib.hid ?_
  go_wp2_with (go_at_call 13; refine (sreadHds_yes u2 p cb lb xs (kb u2 B2) (by omega) hx).mono ?_; rintro e u3 ⟨A3, c3, rfl, z3, b3⟩; refine Hid.out ?_)
  refine Lib.hid ?_
  have B3 : Below w.heap.size w u3 := B2.trans (b3.mono hz2)
  have hz3 : w.heap.size ≤ u3.heap.size := Nat.le_trans hz2 b3.size
  go_wp2_with (go_at_call 14; refine (readHds_yes u3 p cb lb xs (kb u3 B3) (by omega) hx).mono ?_; rintro e u4 ⟨A4, c4, rfl, z4, b4⟩; refine Hid.out ?_)
  refine Lib.hid ?_
  have B4 : Below w.heap.size w u4 := B3.trans (b4.mono hz3)
  have hz4 : w.heap.size ≤ u4.heap.size := Nat.le_trans hz3 b4.size
  have z3k := z3.keep b4
  go_wp2_with (go_at_call 7; refine (error_nil u4).mono ?_; rintro e u ⟨rfl, rfl⟩; refine Hid.out ?_)
  refine Lib.hid ?_
  go_wp2_with (go_at_call 15; refine (sameHds_any u4 A4 A3 c4 c3 xs z4 z3k hxn).mono ?_; rintro e u5 ⟨rfl, b5⟩; refine Hid.out ?_)
  refine Lib.hid ?_
  have B5 : Below w.heap.size w u5 := B4.trans (b5.mono hz4)
  have hz5 : w.heap.size ≤ u5.heap.size := Nat.le_trans hz4 b5.size
  go_wp2_with (go_at_call 16; refine (sopen_no u5 p cb lb (kb u5 B5) hlen hbc ho).mono ?_; rintro e u6 ⟨rfl, b6⟩; refine Hid.out ?_)
  refine Lib.hid ?_
  have B6 : Below w.heap.size w u6 := B5.trans (b6.mono hz5)
  have hz6 : w.heap.size ≤ u6.heap.size := Nat.le_trans hz5 b6.size
  go_wp2_with (go_at_call 17; refine (open_no u6 p cb _ lb rfl (kb u6 B6) (by omega) ho).mono ?_; rintro e u7 ⟨rfl, b7⟩; refine Hid.out ?_)
  refine Lib.hid ?_
  have B7 : Below w.heap.size w u7 := B6.trans (b7.mono hz6)
  have hz7 : w.heap.size ≤ u7.heap.size := Nat.le_trans hz6 b7.size
  go_wp2_with (go_at_call 7; refine (error_hit 9 u7 (kg u7 B7)).mono ?_; rintro e u8 ⟨rfl, b8⟩; refine Hid.out ?_)
  refine Lib.hid ?_
  have B8 : Below w.heap.size w u8 := B7.trans (b8.mono hz7)
  have hz8 : w.heap.size ≤ u8.heap.size := Nat.le_trans hz7 b8.size
  have v5 := cvn u8
  go_wp2_with fail
  go_ret
  exact ⟨rfl, by rw [HU.out]; exact B8⟩
set_option maxRecDepth 100000 in
set_option maxHeartbeats 2000000 in
theorem hds_yny (w : World) (la p : Option Addr) (c cb : Nat) (L : List Hd) (lb : List UInt8)
    (hL : CsAt w la (hcells L)) (hLn : L.length ≤ 9223372036854775807) (hLo : ∀ r ∈ L, OkHd r) (hb : Bz w p cb lb) (hbc : p = none → cb = 0) (hlen : lb.length + 14 ≤ 140737488355328) (hg : w.cell? ⟨0, 0, none⟩ = some ET)
    (hr : heldsE ltH L = 0) (hx : readHds ltH lb = none) (ob : List UInt8) (ok : Nat) (ho : openB lb = some (ob, ok)) :
    Calls Tryd.prog 4 #[.slice la L.length c, .slice p lb.length cb] w fun e w' => e = .returned (.bool true) ∧ Below w.heap.size w w' := by
  have kL : ∀ u, Below w.heap.size w u → CsAt u la (hcells L) := fun u h => hL.keep h
  have kb : ∀ u, Below w.heap.size w u → Bz u p cb lb := fun u h => hb.keep h
  have kg : ∀ u, Below w.heap.size w u → u.cell? ⟨0, 0, none⟩ = some ET := fun u h => et_below hg h
  obtain ⟨u0, hu0⟩ : ∃ u, u = w := ⟨_, rfl⟩
  have B0 : Below w.heap.size w u0 := by rw [hu0]; exact Below.refl _ _
  have hz0 : w.heap.size ≤ u0.heap.size := by rw [hu0]; exact Nat.le_refl _
  have HU := Lib.hid hu0
  clear hL hb hg
  rw [← hu0]
  clear hu0
  go_enter Tryd.func4, Tryd.ntmps4
  go_wp2_with (go_at_call 11; refine (shelds_yes u0 la c L (kL u0 B0) hLn hLo hr).mono ?_; rintro e u1 ⟨A1, c1, rfl, z1, b1⟩; refine Hid.out ?_)
  refine Lib.hid ?_
  have B1 : Below w.heap.size w u1 := B0.trans (b1.mono hz0)
  have hz1 : w.heap.size ≤ u1.heap.size := Nat.le_trans hz0 b1.size
  go_wp2_with (go_at_call 12; refine (helds_yes u1 la c L (kL u1 B1) hLn hLo hr).mono ?_; rintro e u2 ⟨A2, c2, rfl, z2, b2⟩; refine Hid.out ?_)
  refine Lib.hid ?_
  have B2 : Below w.heap.size w u2 := B1.trans (b2.mono hz1)
  have hz2 : w.heap.size ≤ u2.heap.size := Nat.le_trans hz1 b2.size
  have v1 := (z1.keep b2).1.convert _ c1 rfl
  have v2 := z2.1.convert _ c2 rfl
  go_wp2_with (go_at_call 7; refine (error_nil u2).mono ?_; rintro e u ⟨rfl, rfl⟩; refine Hid.out ?_)
  refine Lib.hid ?_
  go_wp2_with (go_at_call 13; refine (sreadHds_no u2 p cb lb (kb u2 B2) (by omega) hx).mono ?_; rintro e u3 ⟨rfl, b3⟩; refine Hid.out ?_)
  refine Lib.hid ?_
  have B3 : Below w.heap.size w u3 := B2.trans (b3.mono hz2)
  have hz3 : w.heap.size ≤ u3.heap.size := Nat.le_trans hz2 b3.size
  go_wp2_with (go_at_call 14; refine (readHds_no u3 p cb lb (kb u3 B3) (by omega) hx).mono ?_; rintro e u4 ⟨rfl, b4⟩; refine Hid.out ?_)
  refine Lib.hid ?_
  have B4 : Below w.heap.size w u4 := B3.trans (b4.mono hz3)
  have hz4 : w.heap.size ≤ u4.heap.size := Nat.le_trans hz3 b4.size
  go_wp2_with (go_at_call 7; refine (error_hit 9 u4 (kg u4 B4)).mono ?_; rintro e u5 ⟨rfl, b5⟩; refine Hid.out ?_)
  refine Lib.hid ?_
  have B5 : Below w.heap.size w u5 := B4.trans (b5.mono hz4)
  have hz5 : w.heap.size ≤ u5.heap.size := Nat.le_trans hz4 b5.size
  go_wp2_with (go_at_call 15; refine (sameHds_any u5 none none 0 0 [] (.inl rfl) (.inl rfl) (by simp)).mono ?_; rintro e u6 ⟨rfl, b6⟩; refine Hid.out ?_)
  refine Lib.hid ?_
  have B6 : Below w.heap.size w u6 := B5.trans (b6.mono hz5)
  have hz6 : w.heap.size ≤ u6.heap.size := Nat.le_trans hz5 b6.size
  go_wp2_with (go_at_call 16; refine (sopen_yes u6 p cb lb ob ok (kb u6 B6) hlen hbc ho).mono ?_; rintro e u7 ⟨A5, c5, rfl, z5, b7⟩; refine Hid.out ?_)
  refine Lib.hid ?_
  have B7 : Below w.heap.size w u7 := B6.trans (b7.mono hz6)
  have hz7 : w.heap.size ≤ u7.heap.size := Nat.le_trans hz6 b7.size
  go_wp2_with (go_at_call 17; refine (open_yes u7 p cb _ lb ob ok rfl (kb u7 B7) (by omega) ho).mono ?_; rintro e u8 ⟨A6, c6, rfl, z6, b8⟩; refine Hid.out ?_)
  refine Lib.hid ?_
  have B8 : Below w.heap.size w u8 := B7.trans (b8.mono hz7)
  have hz8 : w.heap.size ≤ u8.heap.size := Nat.le_trans hz7 b8.size
  have v5 := (z5.keep b8).convert _ c5 rfl
  have v6 := z6.1.convert _ c6 rfl
  go_wp2_with (go_at_call 7; refine (error_nil u8).mono ?_; rintro e u ⟨rfl, rfl⟩; refine Hid.out ?_)
  refine Lib.hid ?_
  go_wp2_with fail
  go_ret
  exact ⟨rfl, by rw [HU.out]; exact B8⟩
set_option maxRecDepth 100000 in
set_option maxHeartbeats 2000000 in
theorem hds_ynn (w : World) (la p : Option Addr) (c cb : Nat) (L : List Hd) (lb : List UInt8)
    (hL : CsAt w la (hcells L)) (hLn : L.length ≤ 9223372036854775807) (hLo : ∀ r ∈ L, OkHd r) (hb : Bz w p cb lb) (hbc : p = none → cb = 0) (hlen : lb.length + 14 ≤ 140737488355328) (hg : w.cell? ⟨0, 0, none⟩ = some ET)
    (hr : heldsE ltH L = 0) (hx : readHds ltH lb = none) (ho : openB lb = none) :
    Calls Tryd.prog 4 #[.slice la L.length c, .slice p lb.length cb] w fun e w' => e = .returned (.bool true) ∧ Below w.heap.size w w' := by
  have kL : ∀ u, Below w.heap.size w u → CsAt u la (hcells L) := fun u h => hL.keep h
  have kb : ∀ u, Below w.heap.size w u → Bz u p cb lb := fun u h => hb.keep h
  have kg : ∀ u, Below w.heap.size w u → u.cell? ⟨0, 0, none⟩ = some ET := fun u h => et_below hg h
  obtain ⟨u0, hu0⟩ : ∃ u, u = w := ⟨_, rfl⟩
  have B0 : Below w.heap.size w u0 := by rw [hu0]; exact Below.refl _ _
  have hz0 : w.heap.size ≤ u0.heap.size := by rw [hu0]; exact Nat.le_refl _
  have HU := Lib.hid hu0
  clear hL hb hg
  rw [← hu0]
  clear hu0
  go_enter Tryd.func4, Tryd.ntmps4
  go_wp2_with (go_at_call 11; refine (shelds_yes u0 la c L (kL u0 B0) hLn hLo hr).mono ?_; rintro e u1 ⟨A1, c1, rfl, z1, b1⟩; refine Hid.out ?_)
  refine Lib.hid ?_
  have B1 : Below w.heap.size w u1 := B0.trans (b1.mono hz0)
  have hz1 : w.heap.size ≤ u1.heap.size := Nat.le_trans hz0 b1.size
  go_wp2_with (go_at_call 12; refine (helds_yes u1 la c L (kL u1 B1) hLn hLo hr).mono ?_; rintro e u2 ⟨A2, c2, rfl, z2, b2⟩; refine Hid.out ?_)
  refine Lib.hid ?_
  have B2 : Below w.heap.size w u2 := B1.trans (b2.mono hz1)
  have hz2 : w.heap.size ≤ u2.heap.size := Nat.le_trans hz1 b2.size
  have v1 := (z1.keep b2).1.convert _ c1 rfl
  have v2 := z2.1.convert _ c2 rfl
  go_wp2_with (go_at_call 7; refine (error_nil u2).mono ?_; rintro e u ⟨rfl, rfl⟩; refine Hid.out ?_)
  refine Lib.hid ?_
  go_wp2_with (go_at_call 13; refine (sreadHds_no u2 p cb lb (kb u2 B2) (by omega) hx).mono ?_; rintro e u3 ⟨rfl, b3⟩; refine Hid.out ?_)
  refine Lib.hid ?_
  have B3 : Below w.heap.size w u3 := B2.trans (b3.mono hz2)
  have hz3 : w.heap.size ≤ u3.heap.size := Nat.le_trans hz2 b3.size
  go_wp2_with (go_at_call 14; refine (readHds_no u3 p cb lb (kb u3 B3) (by omega) hx).mono ?_; rintro e u4 ⟨rfl, b4⟩; refine Hid.out ?_)
  refine Lib.hid ?_
  have B4 : Below w.heap.size w u4 := B3.trans (b4.mono hz3)
  have hz4 : w.heap.size ≤ u4.heap.size := Nat.le_trans hz3 b4.size
  go_wp2_with (go_at_call 7; refine (error_hit 9 u4 (kg u4 B4)).mono ?_; rintro e u5 ⟨rfl, b5⟩; refine Hid.out ?_)
  refine Lib.hid ?_
  have B5 : Below w.heap.size w u5 := B4.trans (b5.mono hz4)
  have hz5 : w.heap.size ≤ u5.heap.size := Nat.le_trans hz4 b5.size
  go_wp2_with (go_at_call 15; refine (sameHds_any u5 none none 0 0 [] (.inl rfl) (.inl rfl) (by simp)).mono ?_; rintro e u6 ⟨rfl, b6⟩; refine Hid.out ?_)
  refine Lib.hid ?_
  have B6 : Below w.heap.size w u6 := B5.trans (b6.mono hz5)
  have hz6 : w.heap.size ≤ u6.heap.size := Nat.le_trans hz5 b6.size
  go_wp2_with (go_at_call 16; refine (sopen_no u6 p cb lb (kb u6 B6) hlen hbc ho).mono ?_; rintro e u7 ⟨rfl, b7⟩; refine Hid.out ?_)
  refine Lib.hid ?_
  have B7 : Below w.heap.size w u7 := B6.trans (b7.mono hz6)
  have hz7 : w.heap.size ≤ u7.heap.size := Nat.le_trans hz6 b7.size
  go_wp2_with (go_at_call 17; refine (open_no u7 p cb _ lb rfl (kb u7 B7) (by omega) ho).mono ?_; rintro e u8 ⟨rfl, b8⟩; refine Hid.out ?_)
  refine Lib.hid ?_
  have B8 : Below w.heap.size w u8 := B7.trans (b8.mono hz7)
  have hz8 : w.heap.size ≤ u8.heap.size := Nat.le_trans hz7 b8.size
  go_wp2_with (go_at_call 7; refine (error_hit 9 u8 (kg u8 B8)).mono ?_; rintro e u9 ⟨rfl, b9⟩; refine Hid.out ?_)
  refine Lib.hid ?_
  have B9 : Below w.heap.size w u9 := B8.trans (b9.mono hz8)
  have hz9 : w.heap.size ≤ u9.heap.size := Nat.le_trans hz8 b9.size
  have v5 := cvn u9
  go_wp2_with fail
  go_ret
  exact ⟨rfl, by rw [HU.out]; exact B9⟩
set_option maxRecDepth 100000 in
set_option maxHeartbeats 2000000 in
theorem hds_nyy (w : World) (la p : Option Addr) (c cb : Nat) (L : List Hd) (lb : List UInt8)
    (hL : CsAt w la (hcells L)) (hLn : L.length ≤ 9223372036854775807) (hLo : ∀ r ∈ L, OkHd r) (hb : Bz w p cb lb) (hbc : p = none → cb = 0) (hlen : lb.length + 14 ≤ 140737488355328) (hg : w.cell? ⟨0, 0, none⟩ = some ET)
    (hr : ¬ heldsE ltH L = 0) (xs : List Hd) (hx : readHds ltH lb = some xs) (ob : List UInt8) (ok : Nat) (ho : openB lb = some (ob, ok)) :
    Calls Tryd.prog 4 #[.slice la L.length c, .slice p lb.length cb] w fun e w' => e = .returned (.bool true) ∧ Below w.heap.size w w' := by
  have kL : ∀ u, Below w.heap.size w u → CsAt u la (hcells L) := fun u h => hL.keep h
  have kb : ∀ u, Below w.heap.size w u → Bz u p cb lb := fun u h => hb.keep h
  have kg : ∀ u, Below w.heap.size w u → u.cell? ⟨0, 0, none⟩ = some ET := fun u h => et_below hg h
  have hxn : xs.length ≤ 9223372036854775807 := by
    have := (ok_hkey (show heldsE ltH xs = 0 from readHds_ok hx)).1
    omega
  obtain ⟨u0, hu0⟩ : ∃ u, u = w := ⟨_, rfl⟩
  have B0 : Below w.heap.size w u0 := by rw [hu0]; exact Below.refl _ _
  have hz0 : w.heap.size ≤ u0.heap.size := by rw [hu0]; exact Nat.le_refl _
  have HU := Lib.hid hu0
  clear hL hb hg
  rw [← hu0]
  clear hu0
  go_enter Tryd.func4, Tryd.ntmps4
  go_wp2_with (go_at_call 11; refine (shelds_err u0 la c L (kL u0 B0) hLn hLo hr).mono ?_; rintro e u1 ⟨rfl, b1⟩; refine Hid.out ?_)
  refine Lib.hid ?_
  have B1 : Below w.heap.size w u1 := B0.trans (b1.mono hz0)
  have hz1 : w.heap.size ≤ u1.heap.size := Nat.le_trans hz0 b1.size
  go_wp2_with (go_at_call 12; refine (helds_err u1 la c L (kL u1 B1) hLn hLo hr).mono ?_; rintro e u2 ⟨rfl, b2⟩; refine Hid.out ?_)
  refine Lib.hid ?_
  have B2 : Below w.heap.size w u2 := B1.trans (b2.mono hz1)
  have hz2 : w.heap.size ≤ u2.heap.size := Nat.le_trans hz1 b2.size
  go_wp2_with (go_at_call 7; refine (error_hit _ u2 (kg u2 B2)).mono ?_; rintro e u3 ⟨rfl, b3⟩; refine Hid.out ?_)
  refine Lib.hid ?_
  have B3 : Below w.heap.size w u3 := B2.trans (b3.mono hz2)
  have hz3 : w.heap.size ≤ u3.heap.size := Nat.le_trans hz2 b3.size
  have v1 := cvn u3
  go_wp2_with (go_at_call 13; refine (sreadHds_yes u3 p cb lb xs (kb u3 B3) (by omega) hx).mono ?_; rintro e u4 ⟨A3, c3, rfl, z3, b4⟩; refine Hid.out ?_)
  refine Lib.hid ?_
  have B4 : Below w.heap.size w u4 := B3.trans (b4.mono hz3)
  have hz4 : w.heap.size ≤ u4.heap.size := Nat.le_trans hz3 b4.size
  go_wp2_with (go_at_call 14; refine (readHds_yes u4 p cb lb xs (kb u4 B4) (by omega) hx).mono ?_; rintro e u5 ⟨A4, c4, rfl, z4, b5⟩; refine Hid.out ?_)
  refine Lib.hid ?_
  have B5 : Below w.heap.size w u5 := B4.trans (b5.mono hz4)
  have hz5 : w.heap.size ≤ u5.heap.size := Nat.le_trans hz4 b5.size
  have z3k := z3.keep b5
  go_wp2_with (go_at_call 7; refine (error_nil u5).mono ?_; rintro e u ⟨rfl, rfl⟩; refine Hid.out ?_)
  refine Lib.hid ?_
  go_wp2_with (go_at_call 15; refine (sameHds_any u5 A4 A3 c4 c3 xs z4 z3k hxn).mono ?_; rintro e u6 ⟨rfl, b6⟩; refine Hid.out ?_)
  refine Lib.hid ?_
  have B6 : Below w.heap.size w u6 := B5.trans (b6.mono hz5)
  have hz6 : w.heap.size ≤ u6.heap.size := Nat.le_trans hz5 b6.size
  go_wp2_with (go_at_call 16; refine (sopen_yes u6 p cb lb ob ok (kb u6 B6) hlen hbc ho).mono ?_; rintro e u7 ⟨A5, c5, rfl, z5, b7⟩; refine Hid.out ?_)
  refine Lib.hid ?_
  have B7 : Below w.heap.size w u7 := B6.trans (b7.mono hz6)
  have hz7 : w.heap.size ≤ u7.heap.size := Nat.le_trans hz6 b7.size
  go_wp2_with (go_at_call 17; refine (open_yes u7 p cb _ lb ob ok rfl (kb u7 B7) (by omega) ho).mono ?_; rintro e u8 ⟨A6, c6, rfl, z6, b8⟩; refine Hid.out ?_)
  refine Lib.hid ?_
  have B8 : Below w.heap.size w u8 := B7.trans (b8.mono hz7)
  have hz8 : w.heap.size ≤ u8.heap.size := Nat.le_trans hz7 b8.size
  have v5 := (z5.keep b8).convert _ c5 rfl
  have v6 := z6.1.convert _ c6 rfl
  go_wp2_with (go_at_call 7; refine (error_nil u8).mono ?_; rintro e u ⟨rfl, rfl⟩; refine Hid.out ?_)
  refine Lib.hid ?_
  go_wp2_with fail
  go_ret
  exact ⟨rfl, by rw [HU.out]; exact B8⟩
set_option maxRecDepth 100000 in
set_option maxHeartbeats 2000000 in
theorem hds_nyn (w : World) (la p : Option Addr) (c cb : Nat) (L : List Hd) (lb : List UInt8)
    (hL : CsAt w la (hcells L)) (hLn : L.length ≤ 9223372036854775807) (hLo : ∀ r ∈ L, OkHd r) (hb : Bz w p cb lb) (hbc : p = none → cb = 0) (hlen : lb.length + 14 ≤ 140737488355328) (hg : w.cell? ⟨0, 0, none⟩ = some ET)
    (hr : ¬ heldsE ltH L = 0) (xs : List Hd) (hx : readHds ltH lb = some xs) (ho : openB lb = none) :
    Calls Tryd.prog 4 #[.slice la L.length c, .slice p lb.length cb] w fun e w' => e = .returned (.bool true) ∧ Below w.heap.size w w' := by
  have kL : ∀ u, Below w.heap.size w u → CsAt u la (hcells L) := fun u h => hL.keep h
  have kb : ∀ u, Below w.heap.size w u → Bz u p cb lb := fun u h => hb.keep h
  have kg : ∀ u, Below w.heap.size w u → u.cell? ⟨0, 0, none⟩ = some ET := fun u h => et_below hg h
  have hxn : xs.length ≤ 9223372036854775807 := by
    have := (ok_hkey (show heldsE ltH xs = 0 from readHds_ok hx)).1
    omega
  obtain ⟨u0, hu0⟩ : ∃ u, u = w := ⟨_, rfl⟩
  have B0 : Below w.heap.size w u0 := by rw [hu0]; exact Below.refl _ _
  have hz0 : w.heap.size ≤ u0.heap.size := by rw [hu0]; exact Nat.le_refl _
  have HU := Lib.hid hu0
  clear hL hb hg
  rw [← hu0]
  clear hu0
  go_enter Tryd.func4, Tryd.ntmps4
  go_wp2_with (go_at_call 11; refine (shelds_err u0 la c L (kL u0 B0) hLn hLo hr).mono ?_; rintro e u1 ⟨rfl, b1⟩; refine Hid.out ?_)
  refine Lib.hid ?_
  have B1 : Below w.heap.size w u1 := B0.trans (b1.mono hz0)
  have hz1 : w.heap.size ≤ u1.heap.size := Nat.le_trans hz0 b1.size
  go_wp2_with (go_at_call 12; refine (helds_err u1 la c L (kL u1 B1) hLn hLo hr).mono ?_; rintro e u2 ⟨rfl, b2⟩; refine Hid.out ?_)
  refine Lib.hid ?_
  have B2 : Below w.heap.size w u2 := B1.trans (b2.mono hz1)
  have hz2 : w.heap.size ≤ u2.heap.size := Nat.le_trans hz1 b2.size
  go_wp2_with (go_at_call 7; refine (error_hit _ u2 (kg u2 B2)).mono ?_; rintro e u3 ⟨rfl, b3⟩; refine Hid.out ?_)
  refine Lib.hid ?_
  have B3 : Below w.heap.size w u3 := B2.trans (b3.mono hz2)
  have hz3 : w.heap.size ≤ u3.heap.size := Nat.le_trans hz2 b3.size
  have v1 := cvn u3
  go_wp2_with (go_at_call 13; refine (sreadHds_yes u3 p cb lb xs (kb u3 B3) (by omega) hx).mono ?_; rintro e u4 ⟨A3, c3, rfl, z3, b4⟩; refine Hid.out ?_)
  refine Lib.hid ?_
  have B4 : Below w.heap.size w u4 := B3.trans (b4.mono hz3)
  have hz4 : w.heap.size ≤ u4.heap.size := Nat.le_trans hz3 b4.size
  go_wp2_with (go_at_call 14; refine (readHds_yes u4 p cb lb xs (kb u4 B4) (by omega) hx).mono ?_; rintro e u5 ⟨A4, c4, rfl, z4, b5⟩; refine Hid.out ?_)
  refine Lib.hid ?_
  have B5 : Below w.heap.size w u5 := B4.trans (b5.mono hz4)
  have hz5 : w.heap.size ≤ u5.heap.size := Nat.le_trans hz4 b5.size
  have z3k := z3.keep b5
  go_wp2_with (go_at_call 7; refine (error_nil u5).mono ?_; rintro e u ⟨rfl, rfl⟩; refine Hid.out ?_)
  refine Lib.hid ?_
  go_wp2_with (go_at_call 15; refine (sameHds_any u5 A4 A3 c4 c3 xs z4 z3k hxn).mono ?_; rintro e u6 ⟨rfl, b6⟩; refine Hid.out ?_)
  refine Lib.hid ?_
  have B6 : Below w.heap.size w u6 := B5.trans (b6.mono hz5)
  have hz6 : w.heap.size ≤ u6.heap.size := Nat.le_trans hz5 b6.size
  go_wp2_with (go_at_call 16; refine (sopen_no u6 p cb lb (kb u6 B6) hlen hbc ho).mono ?_; rintro e u7 ⟨rfl, b7⟩; refine Hid.out ?_)
  refine Lib.hid ?_
  have B7 : Below w.heap.size w u7 := B6.trans (b7.mono hz6)
  have hz7 : w.heap.size ≤ u7.heap.size := Nat.le_trans hz6 b7.size
  go_wp2_with (go_at_call 17; refine (open_no u7 p cb _ lb rfl (kb u7 B7) (by omega) ho).mono ?_; rintro e u8 ⟨rfl, b8⟩; refine Hid.out ?_)
  refine Lib.hid ?_
  have B8 : Below w.heap.size w u8 := B7.trans (b8.mono hz7)
  have hz8 : w.heap.size ≤ u8.heap.size := Nat.le_trans hz7 b8.size
  go_wp2_with (go_at_call 7; refine (error_hit 9 u8 (kg u8 B8)).mono ?_; rintro e u9 ⟨rfl, b9⟩; refine Hid.out ?_)
  refine Lib.hid ?_
  have B9 : Below w.heap.size w u9 := B8.trans (b9.mono hz8)
  have hz9 : w.heap.size ≤ u9.heap.size := Nat.le_trans hz8 b9.size
  have v5 := cvn u9
  go_wp2_with fail
  go_ret
  exact ⟨rfl, by rw [HU.out]; exact B9⟩
set_option maxRecDepth 100000 in
set_option maxHeartbeats 2000000 in
theorem hds_nny (w : World) (la p : Option Addr) (c cb : Nat) (L : List Hd) (lb : List UInt8)
    (hL : CsAt w la (hcells L)) (hLn : L.length ≤ 9223372036854775807) (hLo : ∀ r ∈ L, OkHd r) (hb : Bz w p cb lb) (hbc : p = none → cb = 0) (hlen : lb.length + 14 ≤ 140737488355328) (hg : w.cell? ⟨0, 0, none⟩ = some ET)
    (hr : ¬ heldsE ltH L = 0) (hx : readHds ltH lb = none) (ob : List UInt8) (ok : Nat) (ho : openB lb = some (ob, ok)) :
    Calls Tryd.prog 4 #[.slice la L.length c, .slice p lb.length cb] w fun e w' => e = .returned (.bool true) ∧ Below w.heap.size w w' := by
  have kL : ∀ u, Below w.heap.size w u → CsAt u la (hcells L) := fun u h => hL.keep h
  have kb : ∀ u, Below w.heap.size w u → Bz u p cb lb := fun u h => hb.keep h
  have kg : ∀ u, Below w.heap.size w u → u.cell? ⟨0, 0, none⟩ = some ET := fun u h => et_below hg h
  obtain ⟨u0, hu0⟩ : ∃ u, u = w := ⟨_, rfl⟩
  have B0 : Below w.heap.size w u0 := by rw [hu0]; exact Below.refl _ _
  have hz0 : w.heap.size ≤ u0.heap.size := by rw [hu0]; exact Nat.le_refl _
  have HU := Lib.hid hu0
  clear hL hb hg
  rw [← hu0]
  clear hu0
  go_enter Tryd.func4, Tryd.ntmps4
  go_wp2_with (go_at_call 11; refine (shelds_err u0 la c L (kL u0 B0) hLn hLo hr).mono ?_; rintro e u1 ⟨rfl, b1⟩; refine Hid.out ?_)
  refine Lib.hid ?_
  have B1 : Below w.heap.size w u1 := B0.trans (b1.mono hz0)
  have hz1 : w.heap.size ≤ u1.heap.size := Nat.le_trans hz0 b1.size
  go_wp2_with (go_at_call 12; refine (helds_err u1 la c L (kL u1 B1) hLn hLo hr).mono ?_; rintro e u2 ⟨rfl, b2⟩; refine Hid.out ?_)
  refine Lib.hid ?_
  have B2 : Below w.heap.size w u2 := B1.trans (b2.mono hz1)
  have hz2 : w.heap.size ≤ u2.heap.size := Nat.le_trans hz1 b2.size
  go_wp2_with (go_at_call 7; refine (error_hit _ u2 (kg u2 B2)).mono ?_; rintro e u3 ⟨rfl, b3⟩; refine Hid.out ?_)
  refine Lib.hid ?_
  have B3 : Below w.heap.size w u3 := B2.trans (b3.mono hz2)
  have hz3 : w.heap.size ≤ u3.heap.size := Nat.le_trans hz2 b3.size
  have v1 := cvn u3
  go_wp2_with (go_at_call 13; refine (sreadHds_no u3 p cb lb (kb u3 B3) (by omega) hx).mono ?_; rintro e u4 ⟨rfl, b4⟩; refine Hid.out ?_)
  refine Lib.hid ?_
  have B4 : Below w.heap.size w u4 := B3.trans (b4.mono hz3)
  have hz4 : w.heap.size ≤ u4.heap.size := Nat.le_trans hz3 b4.size
  go_wp2_with (go_at_call 14; refine (readHds_no u4 p cb lb (kb u4 B4) (by omega) hx).mono ?_; rintro e u5 ⟨rfl, b5⟩; refine Hid.out ?_)
  refine Lib.hid ?_
  have B5 : Below w.heap.size w u5 := B4.trans (b5.mono hz4)
  have hz5 : w.heap.size ≤ u5.heap.size := Nat.le_trans hz4 b5.size
  go_wp2_with (go_at_call 7; refine (error_hit 9 u5 (kg u5 B5)).mono ?_; rintro e u6 ⟨rfl, b6⟩; refine Hid.out ?_)
  refine Lib.hid ?_
  have B6 : Below w.heap.size w u6 := B5.trans (b6.mono hz5)
  have hz6 : w.heap.size ≤ u6.heap.size := Nat.le_trans hz5 b6.size
  go_wp2_with (go_at_call 15; refine (sameHds_any u6 none none 0 0 [] (.inl rfl) (.inl rfl) (by simp)).mono ?_; rintro e u7 ⟨rfl, b7⟩; refine Hid.out ?_)
  refine Lib.hid ?_
  have B7 : Below w.heap.size w u7 := B6.trans (b7.mono hz6)
  have hz7 : w.heap.size ≤ u7.heap.size := Nat.le_trans hz6 b7.size
  go_wp2_with (go_at_call 16; refine (sopen_yes u7 p cb lb ob ok (kb u7 B7) hlen hbc ho).mono ?_; rintro e u8 ⟨A5, c5, rfl, z5, b8⟩; refine Hid.out ?_)
  refine Lib.hid ?_
  have B8 : Below w.heap.size w u8 := B7.trans (b8.mono hz7)
  have hz8 : w.heap.size ≤ u8.heap.size := Nat.le_trans hz7 b8.size
  go_wp2_with (go_at_call 17; refine (open_yes u8 p cb _ lb ob ok rfl (kb u8 B8) (by omega) ho).mono ?_; rintro e u9 ⟨A6, c6, rfl, z6, b9⟩; refine Hid.out ?_)
  refine Lib.hid ?_
  have B9 : Below w.heap.size w u9 := B8.trans (b9.mono hz8)
  have hz9 : w.heap.size ≤ u9.heap.size := Nat.le_trans hz8 b9.size
  have v5 := (z5.keep b9).convert _ c5 rfl
  have v6 := z6.1.convert _ c6 rfl
  go_wp2_with (go_at_call 7; refine (error_nil u9).mono ?_; rintro e u ⟨rfl, rfl⟩; refine Hid.out ?_)
  refine Lib.hid ?_
  go_wp2_with fail
  go_ret
  exact ⟨rfl, by rw [HU.out]; exact B9⟩
set_option maxRecDepth 100000 in
set_option maxHeartbeats 2000000 in
theorem hds_nnn (w : World) (la p : Option Addr) (c cb : Nat) (L : List Hd) (lb : List UInt8)
    (hL : CsAt w la (hcells L)) (hLn : L.length ≤ 9223372036854775807) (hLo : ∀ r ∈ L, OkHd r) (hb : Bz w p cb lb) (hbc : p = none → cb = 0) (hlen : lb.length + 14 ≤ 140737488355328) (hg : w.cell? ⟨0, 0, none⟩ = some ET)
    (hr : ¬ heldsE ltH L = 0) (hx : readHds ltH lb = none) (ho : openB lb = none) :
    Calls Tryd.prog 4 #[.slice la L.length c, .slice p lb.length cb] w fun e w' => e = .returned (.bool true) ∧ Below w.heap.size w w' := by
  have kL : ∀ u, Below w.heap.size w u → CsAt u la (hcells L) := fun u h => hL.keep h
  have kb : ∀ u, Below w.heap.size w u → Bz u p cb lb := fun u h => hb.keep h
  have kg : ∀ u, Below w.heap.size w u → u.cell? ⟨0, 0, none⟩ = some ET := fun u h => et_below hg h
  obtain ⟨u0, hu0⟩ : ∃ u, u = w := ⟨_, rfl⟩
  have B0 : Below w.heap.size w u0 := by rw [hu0]; exact Below.refl _ _
  have hz0 : w.heap.size ≤ u0.heap.size := by rw [hu0]; exact Nat.le_refl _
  have HU := Lib.hid hu0
  clear hL hb hg
  rw [← hu0]
  clear hu0
  go_enter Tryd.func4, Tryd.ntmps4
  go_wp2_with (go_at_call 11; refine (shelds_err u0 la c L (kL u0 B0) hLn hLo hr).mono ?_; rintro e u1 ⟨rfl, b1⟩; refine Hid.out ?_)
  refine Lib.hid ?_
  have B1 : Below w.heap.size w u1 := B0.trans (b1.mono hz0)
  have hz1 : w.heap.size ≤ u1.heap.size := Nat.le_trans hz0 b1.size
  go_wp2_with (go_at_call 12; refine (helds_err u1 la c L (kL u1 B1) hLn hLo hr).mono ?_; rintro e u2 ⟨rfl, b2⟩; refine Hid.out ?_)
  refine Lib.hid ?_
  have B2 : Below w.heap.size w u2 := B1.trans (b2.mono hz1)
  have hz2 : w.heap.size ≤ u2.heap.size := Nat.le_trans hz1 b2.size
  go_wp2_with (go_at_call 7; refine (error_hit _ u2 (kg u2 B2)).mono ?_; rintro e u3 ⟨rfl, b3⟩; refine Hid.out ?_)
  refine Lib.hid ?_
  have B3 : Below w.heap.size w u3 := B2.trans (b3.mono hz2)
  have hz3 : w.heap.size ≤ u3.heap.size := Nat.le_trans hz2 b3.size
  have v1 := cvn u3
  go_wp2_with (go_at_call 13; refine (sreadHds_no u3 p cb lb (kb u3 B3) (by omega) hx).mono ?_; rintro e u4 ⟨rfl, b4⟩; refine Hid.out ?_)
  refine Lib.hid ?_
  have B4 : Below w.heap.size w u4 := B3.trans (b4.mono hz3)
  have hz4 : w.heap.size ≤ u4.heap.size := Nat.le_trans hz3 b4.size
  go_wp2_with (go_at_call 14; refine (readHds_no u4 p cb lb (kb u4 B4) (by omega) hx).mono ?_; rintro e u5 ⟨rfl, b5⟩; refine Hid.out ?_)
  refine Lib.hid ?_
  have B5 : Below w.heap.size w u5 := B4.trans (b5.mono hz4)
  have hz5 : w.heap.size ≤ u5.heap.size := Nat.le_trans hz4 b5.size
  go_wp2_with (go_at_call 7; refine (error_hit 9 u5 (kg u5 B5)).mono ?_; rintro e u6 ⟨rfl, b6⟩; refine Hid.out ?_)
  refine Lib.hid ?_
  have B6 : Below w.heap.size w u6 := B5.trans (b6.mono hz5)
  have hz6 : w.heap.size ≤ u6.heap.size := Nat.le_trans hz5 b6.size
  go_wp2_with (go_at_call 15; refine (sameHds_any u6 none none 0 0 [] (.inl rfl) (.inl rfl) (by simp)).mono ?_; rintro e u7 ⟨rfl, b7⟩; refine Hid.out ?_)
  refine Lib.hid ?_
  have B7 : Below w.heap.size w u7 := B6.trans (b7.mono hz6)
  have hz7 : w.heap.size ≤ u7.heap.size := Nat.le_trans hz6 b7.size
  go_wp2_with (go_at_call 16; refine (sopen_no u7 p cb lb (kb u7 B7) hlen hbc ho).mono ?_; rintro e u8 ⟨rfl, b8⟩; refine Hid.out ?_)
  refine Lib.hid ?_
  have B8 : Below w.heap.size w u8 := B7.trans (b8.mono hz7)
  have hz8 : w.heap.size ≤ u8.heap.size := Nat.le_trans hz7 b8.size
  go_wp2_with (go_at_call 17; refine (open_no u8 p cb _ lb rfl (kb u8 B8) (by omega) ho).mono ?_; rintro e u9 ⟨rfl, b9⟩; refine Hid.out ?_)
  refine Lib.hid ?_
  have B9 : Below w.heap.size w u9 := B8.trans (b9.mono hz8)
  have hz9 : w.heap.size ≤ u9.heap.size := Nat.le_trans hz8 b9.size
  go_wp2_with (go_at_call 7; refine (error_hit 9 u9 (kg u9 B9)).mono ?_; rintro e u10 ⟨rfl, b10⟩; refine Hid.out ?_)
  refine Lib.hid ?_
  have B10 : Below w.heap.size w u10 := B9.trans (b10.mono hz9)
  have hz10 : w.heap.size ≤ u10.heap.size := Nat.le_trans hz9 b10.size
  have v5 := cvn u10
  go_wp2_with fail
  go_ret
  exact ⟨rfl, by rw [HU.out]; exact B10⟩
end Go.Proofs.YtbppiiomjmpjkaaDoor
