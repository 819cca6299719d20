/- Export, Import. -/
import Derived.Test.YtiofpimchbhfcabFv
import Derived.Test.YtiofpimchbhfcabQl
import Derived.OneCell
namespace Go.Proofs.Ytiofpimchbhfcab
open Go.RowKit Go.Shelf
set_option linter.unusedVariables false

theorem HsAt.blk {w : World} {B : Nat} {A : Option Addr} {xs : List Hd} (h : HsAt w B A xs) : ∀ k ∈ blkA A, B ≤ k := by
  cases A with
  | none => intro k hk; simp [blkA] at hk
  | some a => intro k hk; simp [blkA] at hk; subst hk; exact (h.off a rfl).2.1
theorem helds_yt (u : World) (la : Option Addr) (c : Nat) (L : List Hd) (h : CsAt u la (hcells L)) (hg : GoodL L) :
    Calls Try.prog 25 #[.slice la L.length c] u fun e u' => ∃ A cap, e = .returned (.tuple #[.slice A (lstB hdB L).length cap, .nilIface]) ∧ Bz u' A cap (lstB hdB L) ∧ LyAt u' A 5 ∧ Below u.heap.size u u' := by
  refine (helds_any u la c L h (by have := hg.1; omega) (fun r hr => (hg.2.1 r hr).2)).mono ?_
  rintro e u' ⟨h1, hb⟩
  rw [good_zero hg, if_pos rfl] at h1
  obtain ⟨v, rfl, ho⟩ := h1
  obtain ⟨A, cap, rfl, hz⟩ := own_bz ho
  exact ⟨A, cap, rfl, hz, LyAt.of ho, hb⟩
theorem readHs_yes (u : World) (p : Option Addr) (c : Nat) (l : List UInt8) (X : List Hd) (h : Bz u p c l) (hlen : l.length ≤ 140737488355328) (hr : readHds ltH l = some X) :
    Calls Try.prog 27 #[.slice p l.length c] u fun e u' => ∃ A cap, e = .returned (.tuple #[.slice A X.length cap, .nilIface]) ∧ HsAt u' u.heap.size A X ∧ X.length ≤ cap ∧ (∀ k ∈ blkA A, k < u'.heap.size) ∧ Below u.heap.size u u' := by
  refine (readHds_any u p c l h.1 hlen h.2.1 h.2.2).mono ?_
  rintro e u' ⟨h1, hb⟩
  rw [hr] at h1
  obtain ⟨v, rfl, ho⟩ := h1
  obtain ⟨A, cap, rfl⟩ := row_slice ho
  obtain ⟨k1, k2⟩ := own_hs ho rfl
  refine ⟨A, cap, rfl, k1, k2, fun k hk => ?_, hb⟩
  cases A with
  | none => simp [blkA] at hk
  | some a =>
    simp [blkA] at hk
    subst hk
    rcases ho.2 with ⟨e0, -⟩ | ⟨g, cap', cur, e0, -⟩
    · simp at e0
    · simp only [Value.slice.injEq, Option.some.injEq] at e0
      obtain ⟨rfl, -⟩ := e0
      exact (ho.lt g rfl).2
set_option maxRecDepth 100000 in
set_option maxHeartbeats 1000000 in
theorem export_ok {w : World} {R M : Nat} {L : List Hd} (h : KyAt w R M L) (hg : GoodL L) (low high : Int) (hr : rngB low high = true) :
    Calls Try.prog 9 #[.pointer (some ⟨R, 0, none⟩), .int .i64 low, .int .i64 high] w fun e w' => ∃ A cap, e = .returned (.tuple #[.slice A (lstB hdB (L.filter (inR low high))).length cap, .nilIface]) ∧ Bz w' A cap (lstB hdB (L.filter (inR low high))) ∧ LyAt w' A 5 ∧ Below w.heap.size w w' := by
  have HR := fun u => rng_any low high u
  rw [hr] at HR
  have HA := all_any h (by have := hg.1; omega)
  have hks : ∀ r ∈ L, r.key.size ≤ maxLen := fun r hr => (hg.okK r hr).2
  have hl4 := hg.1
  have HW := fun (u : World) (A : Option Addr) (cap : Nat) (hs : HsAt u w.heap.size A L) (hc : L.length ≤ cap) => within_any low high w.heap.size u A cap L hs hks (by omega) hc
  have hgf := hg.filter (inR low high)
  have HWh := Lib.hid HW
  have HG := Lib.hid hgf
  clear h hg hr hks HW hgf
  generalize L.filter (inR low high) = F at *
  go_enter Try.func9, Try.ntmps9
  go_wp2_with (first | (go_at_call 24; refine (HR _).mono ?_; rintro e w' ⟨rfl, rfl⟩) | (go_at_call 12; refine HA.mono ?_; rintro e u1 ⟨A1, c1, rfl, hs1, hc1, b1⟩; refine Hid.out ?_))
  refine Lib.hid ?_
  have HW1 := HWh.out u1 A1 c1 hs1 hc1
  have hbk : ∀ k ∈ blkA A1, w.heap.size ≤ k := hs1.blk
  clear HA HR HWh hs1 hc1
  go_wp2_with (go_at_call 26; refine HW1.mono ?_; rintro e u2 ⟨rfl, hs2, f2⟩; refine Hid.out ?_)
  refine Lib.hid ?_
  have B2 := b1.trans (f2.toBelow b1.size hbk)
  have HH := helds_yt u2 A1 c1 F hs2 HG.out
  clear HW1 hs2 b1 f2 hbk
  go_wp2_with (go_at_call 25; refine HH.mono ?_; rintro e u3 ⟨A3, c3, rfl, hz3, hy3, b3⟩; refine Hid.out ?_)
  refine Lib.hid ?_
  have B3 := B2.trans (b3.mono B2.size)
  clear HH b3 B2
  go_wp2_with fail
  go_ret2
  exact ⟨A3, c3, rfl, hz3, hy3, B3⟩
set_option maxRecDepth 100000 in
set_option maxHeartbeats 1000000 in
theorem export_no {w : World} {R : Nat} (low high : Int) (hr : rngB low high = false) :
    Calls Try.prog 9 #[.pointer (some ⟨R, 0, none⟩), .int .i64 low, .int .i64 high] w fun e w' => e = .returned (.tuple #[.slice none 0 0, errV 1]) ∧ w = w' := by
  have HR := fun u => rng_any low high u
  rw [hr] at HR
  go_enter Try.func9, Try.ntmps9
  go_wp2_with (go_at_call 24; refine (HR _).mono ?_; rintro e w' ⟨rfl, rfl⟩)
  go_ret2
  exact ⟨rfl, rfl⟩
theorem mclone_any (w : World) (M : Nat) (L : List Hd) (h : MpAt w M L) :
    Calls Try.prog 29 #[.map (some M)] w fun e w' => e = .returned (.map (some w.heap.size)) ∧ MpAt w' w.heap.size L ∧ Below w.heap.size w w' := by
  obtain ⟨D, h1, h2⟩ := h
  have hc := AnyW.maps_Clone_owns Try.cloneM 57 hdR M L.length D w h1
  change Calls Try.prog 29 _ _ _ at hc
  refine hc.mono ?_
  rintro e w' ⟨e1, e2, -, e3⟩
  exact ⟨e1, ⟨D, e2, h2⟩, e3⟩
/-- How Import ends. -/
def ImEnd (w : World) (R M : Nat) (L N : List Hd) (e : Ending) (w' : World) : Prop :=
  if 400 < N.length then e = .returned (errV 4) ∧ KyAt w' R M L ∧ Below w.heap.size w w'
  else e = .returned (errV 0) ∧ ∃ M', w.heap.size ≤ M' ∧ KyAt w' R M' N ∧ Fr [R] w w'
set_option maxRecDepth 100000 in
set_option maxHeartbeats 1000000 in
theorem import_ok {w : World} {R M : Nat} {L : List Hd} (h : KyAt w R M L) (hL : L.length ≤ 400) (low high : Int) (hr : rngB low high = true) (p : Option Addr) (c : Nat) (l : List UInt8) (X : List Hd) (hb : Bz w p c l) (hlen : l.length ≤ 140737488355328) (hX : readHds ltH l = some X) :
    Calls Try.prog 11 #[.pointer (some ⟨R, 0, none⟩), .slice p l.length c, .int .i64 low, .int .i64 high] w fun e w' => ImEnd w R M L (putAll L (X.filter (inR low high))) e w' := by
  have HR := fun u => rng_any low high u
  rw [hr] at HR
  have hgX := (read_good hX).1
  have HX := readHs_yes w p c l X hb hlen hX
  have hks : ∀ r ∈ X, r.key.size ≤ maxLen := fun r hr => (hgX.okK r hr).2
  have hx4 := hgX.1
  have HW := fun (u : World) (B : Nat) (A : Option Addr) (cap : Nat) (hs : HsAt u B A X) (hc : X.length ≤ cap) => within_any low high B u A cap X hs hks (by omega) hc
  have hokF : ∀ r ∈ X.filter (inR low high), OkK r.nd r.key := (hgX.filter (inR low high)).okK
  have hFl : (X.filter (inR low high)).length ≤ 400 := (hgX.filter (inR low high)).1
  have hNl := putAll_len h.mp.ris (X.filter (inR low high))
  have HWh := Lib.hid HW
  have hlt := h.lt
  have hM := h.ltM
  have c0 := h.c0
  have HK := Lib.hid h
  have HOK := Lib.hid hokF
  clear hr hgX hks HW hokF h hb hX
  generalize X.filter (inR low high) = F at *
  generalize hN : putAll L F = N at *
  have HN := Lib.hid hN
  clear hN
  go_enter Try.func11, Try.ntmps11
  go_wp2_with (first | (go_at_call 24; refine (HR _).mono ?_; rintro e w' ⟨rfl, rfl⟩) | (go_at_call 27; refine HX.mono ?_; rintro e u1 ⟨A1, c1, rfl, hs1, hc1, hMk, b1⟩; refine Hid.out ?_))
  refine Lib.hid ?_
  have K1 := HK.out.keep b1
  have HC := mclone_any u1 M L K1.mp
  have d0 := K1.c0
  clear HX HR
  go_wp2_with (go_at_call 29; refine HC.mono ?_; rintro e u2 ⟨rfl, hm2, b2⟩; refine Hid.out ?_)
  refine Lib.hid ?_
  have B2 := below_after b2 b1
  have hs2 : HsAt u2 w.heap.size A1 X := ⟨hs1.cs.keep b2, fun a ha => by
    obtain ⟨k1, k2, k3⟩ := hs1.off a ha
    refine ⟨k1, k2, fun i hi => ?_⟩
    subst ha
    obtain ⟨g, o, e, hc⟩ := hs1.cs.at (fun e => by have := hcells_len X; rw [e] at this; simp at this; omega)
    simp only [Option.some.injEq] at e
    subst e
    have hg : g < u1.heap.size := cell_lt (hc 0 _ (List.getElem?_eq_getElem (by rw [hcells_len]; omega)))
    rw [World.frozen?_of_block (w := u1) (b2.block g hg)]
    exact k3 i hi⟩
  have HW2 := HWh.out u2 w.heap.size A1 c1 hs2 hc1
  have hbk : ∀ k ∈ blkA A1, w.heap.size ≤ k := hs2.blk
  have K2 := K1.keep b2
  have hMn : w.heap.size ≤ u1.heap.size := b1.size
  have hMu : u1.heap.size < u2.heap.size := hm2.lt
  have HBK := Lib.hid hbk
  have HMK := Lib.hid hMk
  have HM2 := Lib.hid hm2
  have HK2 := Lib.hid K2
  clear HC HWh hs1 hs2 d0 b1 b2 hbk hMk hm2 K1 K2 HK
  generalize u1.heap.size = Mn at *
  go_wp2_with (go_at_call 26; refine HW2.mono ?_; rintro e u3 ⟨rfl, hs3, f3⟩; refine Hid.out ?_)
  refine Lib.hid ?_
  have hm3 : MpAt u3 Mn L := HM2.out.block (f3.block Mn hMu (fun hk => by have := HMK.out _ hk; omega))
  have K3 : KyAt u3 R M L := HK2.out.fr f3 (fun hk => by have := HBK.out _ hk; omega) (fun hk => by have := HBK.out _ hk; omega)
  have B3 := B2.trans (f3.toBelow B2.size HBK.out)
  have HP := put1_any u3 Mn L hm3 A1 c1 F hs3 HOK.out (by omega)
  clear HW2 hs3 f3 HM2 HK2 hm3
  go_wp2_with (go_at_call 21; refine HP.mono ?_; rintro e u4 ⟨rfl, hm4, f4⟩; refine Hid.out ?_)
  refine Lib.hid ?_
  have K4 : KyAt u4 R M L := K3.fr f4 (by simp; omega) (by simp; omega)
  have B4 := B3.trans (f4.toBelow B3.size (by simpa using hMn))
  rw [HN.out] at hm4
  have hln := fun ty => hm4.len ty u4 rfl
  have k0 := K4.c0
  have kz := K4.fz
  have HK4 := Lib.hid K4
  have HM4 := Lib.hid hm4
  have hRu : R < u4.heap.size := K4.lt
  clear HP K3 f4 B3 K4 hm4 HOK HMK HBK
  by_cases h4 : 400 < N.length
  · have h4' : (400 : Int) < N.length := by omega
    go_wp2_with fail
    go_ret
    unfold ImEnd
    rw [if_pos h4]
    exact ⟨rfl, HK4.out, B4⟩
  · have h4' : ¬ (400 : Int) < N.length := by omega
    go_wp2_with fail
    go_ret
    unfold ImEnd
    rw [if_neg h4]
    refine ⟨rfl, Mn, hMn, ⟨one_setCell HK4.out.blk, HM4.out.block (Below.heap_setCell _ _ _ _ (by show Mn ≠ R; omega))⟩, ?_⟩
    exact (Fr.below (xs := [R]) B4).setCell (p := ⟨R, 0, none⟩) (.inl (by simp)) _
set_option maxHeartbeats 1000000 in
theorem import_bad {w : World} {R : Nat} (low high : Int) (hr : rngB low high = true) (p : Option Addr) (c : Nat) (l : List UInt8) (hb : Bz w p c l) (hlen : l.length ≤ 140737488355328) (hX : readHds ltH l = none) :
    Calls Try.prog 11 #[.pointer (some ⟨R, 0, none⟩), .slice p l.length c, .int .i64 low, .int .i64 high] w fun e w' => e = .returned (errV 9) ∧ Below w.heap.size w w' := by
  have HR := fun u => rng_any low high u
  rw [hr] at HR
  have HX := readHds_no w p c l hb hlen hX
  clear hr hb hX
  go_enter Try.func11, Try.ntmps11
  go_wp2_with (first | (go_at_call 24; refine (HR _).mono ?_; rintro e w' ⟨rfl, rfl⟩) | (go_at_call 27; refine HX.mono ?_; rintro e u1 ⟨rfl, b1⟩))
  go_ret
  exact ⟨rfl, b1⟩
set_option maxHeartbeats 1000000 in
theorem import_rng {w : World} {R : Nat} (low high : Int) (hr : rngB low high = false) (p : Option Addr) (c n : Nat) :
    Calls Try.prog 11 #[.pointer (some ⟨R, 0, none⟩), .slice p n c, .int .i64 low, .int .i64 high] w fun e w' => e = .returned (errV 1) ∧ w = w' := by
  have HR := fun u => rng_any low high u
  rw [hr] at HR
  go_enter Try.func11, Try.ntmps11
  go_wp2_with (go_at_call 24; refine (HR _).mono ?_; rintro e w' ⟨rfl, rfl⟩)
  go_ret
  exact ⟨rfl, rfl⟩

/-- Bytes behind a slice: where they lie, how much room there is, and they. -/
abbrev Pt := Option Addr × Nat × List UInt8
def ptV (t : Pt) : Value := .slice t.1 t.2.2.length t.2.1
def PtOk (w : World) (t : Pt) : Prop := Bz w t.1 t.2.1 t.2.2 ∧ t.2.2.length ≤ 140737488355328
theorem PtOk.keep {w u : World} {t : Pt} (h : PtOk w t) (b : Below w.heap.size w u) : PtOk u t := ⟨h.1.keep b, h.2⟩
/-- How Whole ends. -/
def WhEnd (w : World) (F : List Hd) (e : Ending) (w' : World) : Prop :=
  (if (putAll [] F).length < F.length then e = .returned (.tuple #[.slice none 0 0, errV 8])
   else if 400 < (putAll [] F).length then e = .returned (.tuple #[.slice none 0 0, errV 4])
   else ∃ A cap, e = .returned (.tuple #[.slice A (lstB hdB (putAll [] F)).length cap, .nilIface]) ∧ Bz w' A cap (lstB hdB (putAll [] F)) ∧ LyAt w' A 5) ∧ Below w.heap.size w w'
theorem helds_full (u : World) (la : Option Addr) (c : Nat) (L : List Hd) (h : CsAt u la (hcells L)) (hlen : L.length ≤ 9223372036854775807) (hok : ∀ r ∈ L, OkHd r) (hE : 400 < L.length) :
    Calls Try.prog 25 #[.slice la L.length c] u fun e u' => e = .returned (.tuple #[.slice none 0 0, errV 4]) ∧ Below u.heap.size u u' := by
  refine (helds_any u la c L h hlen hok).mono ?_
  rintro e u' ⟨h1, hb⟩
  have e4 : heldsE ltH L = 4 := by unfold heldsE; rw [if_pos hE]
  rw [e4] at h1
  exact ⟨h1, hb⟩
set_option maxRecDepth 100000 in
set_option maxHeartbeats 1000000 in
theorem whole_any (w : World) (pa : Option Addr) (c : Nat) (T : List Pt) (Ls : List (List Hd)) (hC : CsAt w pa (T.map ptV)) (hT : ∀ t ∈ T, PtOk w t) (hn : T.length ≤ 1000) (hln : Ls.length = T.length) (hR : ∀ i (h : i < T.length) (h' : i < Ls.length), readHds ltH T[i].2.2 = some Ls[i]) :
    Calls Try.prog 10 #[.slice pa T.length c] w fun e w' => WhEnd w Ls.flatten e w' := by
  have hmm := @run_makeMap Try.prog
  have hm0 := mp_new w
  have hb0 : Below w.heap.size w (w.alloc (.map #[] 0)) := (Below.refl _ w).alloc (Nat.le_refl _) _
  have hlk : ∀ k, k ≤ T.length → (Ls.take k).flatten.length ≤ 400 * k := fun k hk => by
    induction k with
    | zero => simp
    | succ k ih =>
      have hk' : k < Ls.length := by omega
      have := ih (by omega)
      rw [List.take_succ_eq_append_getElem hk', List.flatten_append, List.length_append, show [Ls[k]].flatten = Ls[k] from by simp]
      have h2 := (read_good (hR k (by omega) hk')).1.1
      omega
  have hokA : ∀ k, k ≤ T.length → ∀ r ∈ (Ls.take k).flatten, badHd r = false ∧ OkHd r := fun k hk r hr => by
    obtain ⟨X, hX, hrX⟩ := List.mem_flatten.1 hr
    obtain ⟨i, hi, rfl⟩ := List.getElem_of_mem hX
    rw [List.length_take] at hi
    rw [List.getElem_take] at hrX
    exact (read_good (hR i (by omega) (by omega))).1.2.1 r hrX
  have HLK := Lib.hid hlk
  have HOA := Lib.hid hokA
  have kC := Lib.hid (fun (u : World) (hb : Below w.heap.size w u) => hC.keep hb)
  have kT := Lib.hid (fun (u : World) (hb : Below w.heap.size w u) (t : Pt) (ht : t ∈ T) => (hT t ht).keep hb)
  have HR := Lib.hid hR
  clear hC hT hlk hokA hR
  go_enter Try.func10, Try.ntmps10
  go_wp2
  go_loopw [5, 13] (fun m i wr => ∃ k n : Nat, k ≤ T.length ∧ i = .int .i64 k ∧ m = .int .i64 n ∧ n = (Ls.take k).flatten.length ∧ MpAt wr w.heap.size (putAll [] (Ls.take k).flatten) ∧ Below w.heap.size w wr) (fun _ i _ => T.length - (intOf i).toNat)
  case atStart => exact ⟨0, 0, by omega, rfl, rfl, rfl, hm0, hb0⟩
  case round =>
    clear hm0 hb0
    obtain ⟨k, n, hk, rfl, rfl, hnn, hm, hb⟩ := hrel
    by_cases hlt : k < T.length
    · have hlt' : (k : Int) < T.length := by omega
      have hkL : k < Ls.length := by omega
      obtain ⟨b, o, rfl, hcell⟩ := (kC.out wr hb).at (fun e => by have h0 := congrArg List.length e; rw [List.length_map] at h0; simp only [List.length_nil] at h0; omega)
      have c0 := hcell k (ptV T[k]) (by simp [hlt])
      have hok := kT.out wr hb _ (List.getElem_mem hlt)
      have hr := HR.out k hlt hkL
      have hg := (read_good hr).1
      have HRd := readHs_yes wr T[k].1 T[k].2.1 T[k].2.2 Ls[k] hok.1 hok.2 hr
      have hfl : (Ls.take (k + 1)).flatten = (Ls.take k).flatten ++ Ls[k] := by
        rw [List.take_succ_eq_append_getElem hkL, List.flatten_append]; simp
      have hfll : (Ls.take (k + 1)).flatten.length = n + Ls[k].length := by rw [hfl, List.length_append, hnn]
      have hlk1 := HLK.out k hk
      have hpl := putAll_len (l := []) List.Pairwise.nil (Ls.take k).flatten
      have hX4 := hg.1
      have hXo := hg.okK
      have HFL : Hid (putAll [] (Ls.take (k + 1)).flatten = putAll (putAll [] (Ls.take k).flatten) Ls[k]) := Lib.hid (by rw [hfl, putAll_append])
      have HFN := Lib.hid hfll
      rw [← hnn] at hlk1 hpl
      clear hcell hok hr hg hfl hfll hnn
      generalize Ls[k] = X at *
      generalize putAll [] (Ls.take k).flatten = S at *
      generalize T[k] = t at *
      obtain ⟨tp, tc, tl⟩ := t
      simp only [ptV] at c0 HRd
      simp only [List.length_nil, Nat.zero_add] at hpl
      go_wp2_with (go_at_call 27; refine HRd.mono ?_; rintro e u1 ⟨A1, c1, rfl, hs1, hc1, -, b1⟩; refine Hid.out ?_)
      refine Lib.hid ?_
      have hm1 := hm.block (b1.block _ hm.lt)
      have B1 := hb.trans (b1.mono hb.size)
      have HP := put1_any u1 w.heap.size S hm1 A1 c1 X hs1.cs hXo (by omega)
      clear HRd hs1 b1 hm1 hm hXo hb
      go_wp2_with (go_at_call 21; refine HP.mono ?_; rintro e u2 ⟨rfl, hm2, f2⟩; refine Hid.out ?_)
      refine Lib.hid ?_
      have B2 := B1.trans (f2.toBelow B1.size (by simp))
      have HM2 := Lib.hid hm2
      have hnx : wrap64 ((n : Int) + (X.length : Int)) = (n : Int) + (X.length : Int) := by unfold wrap64; omega
      clear HP f2 hm2 B1
      go_wp2_with fail
      go_roundw
      case rel => exact ⟨k + 1, n + X.length, by omega, by go_num, by go_num, HFN.out.symm, by rw [HFL.out]; exact HM2.out, B2⟩
      case measure => simp [intOf]; omega
    · have ek : Ls.take k = Ls := List.take_of_length_le (by omega)
      have hlk1 := HLK.out k hk
      have hoa := HOA.out k hk
      rw [ek] at hm hlk1 hoa hnn
      have hpl := putAll_len (l := []) List.Pairwise.nil Ls.flatten
      simp only [List.length_nil, Nat.zero_add] at hpl
      have hris := hm.ris
      have hoS : ∀ r ∈ putAll [] Ls.flatten, badHd r = false ∧ OkHd r := putAll_mem_of (by simp) hoa
      have hln2 := fun ty => hm.len ty wr rfl
      have HS := stsorted_any wr w.heap.size (putAll [] Ls.flatten) hm (by omega)
      have hkn : ¬ (k : Int) < T.length := by omega
      have HOS := Lib.hid hoS
      have HRS := Lib.hid hris
      have HEk := Lib.hid ek
      clear hoa hoS hm hris HR HOA HLK kC kT ek
      generalize hF : Ls.flatten = F at *
      generalize hS : putAll [] F = S at *
      have HSd := Lib.hid hS
      have HFd := Lib.hid hF
      clear hS hF
      subst hnn
      have hlk2 : F.length ≤ 400000 := by omega
      by_cases h8 : S.length < F.length
      · have h8' : (S.length : Int) < F.length := by omega
        clear HS
        go_wp2_with fail
        go_ret2
        unfold WhEnd
        rw [HFd.out, HSd.out, if_pos h8]
        exact ⟨by rfl, hb⟩
      · have h8' : ¬ (S.length : Int) < F.length := by omega
        go_wp2_with (go_at_call 28; refine HS.mono ?_; rintro e u1 ⟨A1, c1, rfl, hs1, hc1, b1⟩; refine Hid.out ?_)
        refine Lib.hid ?_
        have B1 := hb.trans (b1.mono hb.size)
        by_cases h4 : 400 < S.length
        · have HH := helds_full u1 A1 c1 S hs1.cs (by omega) (fun r hr => (HOS.out r hr).2) h4
          clear HS hs1 b1 HOS
          go_wp2_with (go_at_call 25; refine HH.mono ?_; rintro e u2 ⟨rfl, b2⟩; refine Hid.out ?_)
          refine Lib.hid ?_
          have B2 := B1.trans (b2.mono B1.size)
          clear HH b2
          go_wp2_with fail
          go_ret2
          unfold WhEnd
          rw [HFd.out, HSd.out, if_neg h8, if_pos h4]
          exact ⟨by rfl, B2⟩
        · have HH := helds_yt u1 A1 c1 S hs1.cs ⟨by omega, HOS.out, HRS.out⟩
          clear HS hs1 b1 HOS
          go_wp2_with (go_at_call 25; refine HH.mono ?_; rintro e u2 ⟨A2, c2, rfl, hz2, hy2, b2⟩; refine Hid.out ?_)
          refine Lib.hid ?_
          have B2 := B1.trans (b2.mono B1.size)
          clear HH b2
          go_wp2_with fail
          go_ret2
          unfold WhEnd
          rw [HFd.out, HSd.out, if_neg h8, if_neg h4]
          exact ⟨⟨A2, c2, rfl, hz2, hy2⟩, B2⟩
end Go.Proofs.Ytiofpimchbhfcab
