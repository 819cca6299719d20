/- TableGarbles's walk. -/
import Derived.Test.YtpjjjelibpoohabDoorErr
import Derived.Test.YtpjjjelibpoohabDoorTh
import Derived.Test.YtpjjjelibpoohabDoorTe
namespace Go.Proofs.YtpjjjelibpoohabDoor
open Go.RowKit
set_option linter.unusedVariables false

theorem infoBs : (Tryd.prog.info? 24).map (fun i => (i.zero, i.size, i.bytes)) = some (some (.slice none 0 0), 1, 24) := by kernel_rfl
theorem read_gno (u : World) (p : Option Addr) (c : Nat) (l : List UInt8) (h : TabOk u (p, c, l)) (hr : readTb l = none) :
    Calls Tryd.prog 9 #[.slice p l.length c] u fun e u' => e = .returned (.tuple #[.slice none 0 0, .iface 51 (.int .i64 9)]) ∧ Below u.heap.size u u' := by
  refine (read_any u p c l h.1 h.2.1 h.2.2.1 h.2.2.2).mono ?_
  rintro e u' ⟨h1, hb⟩
  rw [hr] at h1
  exact ⟨h1, hb⟩
theorem read_gyes (u : World) (p : Option Addr) (c : Nat) (l : List UInt8) (xs : List En) (h : TabOk u (p, c, l)) (hr : readTb l = some xs) :
    Calls Tryd.prog 9 #[.slice p l.length c] u fun e u' => ∃ A' c', e = .returned (.tuple #[.slice A' xs.length c', .nilIface]) ∧ CsAt u' A' (ecells xs) ∧ Below u.heap.size u u' := by
  refine (read_any u p c l h.1 h.2.1 h.2.2.1 h.2.2.2).mono ?_
  rintro e u' ⟨h1, hb⟩
  rw [hr] at h1
  obtain ⟨v, rfl, ho⟩ := h1
  obtain ⟨A', c', rfl⟩ := row_slice ho
  exact ⟨A', c', rfl, (own_cs ho (ecells_len xs)).1, hb⟩
theorem scan_gno (u : World) (p : Option Addr) (c : Nat) (l : List UInt8) (low high : ByteArray) (h : TabOk u (p, c, l)) (hr : readTb l = none) :
    Calls Tryd.prog 12 #[.slice p l.length c, .string low, .string high] u fun e u' => e = .returned (.tuple #[.slice none 0 0, .iface 51 (.int .i64 9)]) ∧ Below u.heap.size u u' := by
  refine (scan_any u p c l low high h.1 h.2.1 h.2.2.1 h.2.2.2).mono ?_
  rintro e u' ⟨h1, hb⟩
  rw [hr] at h1
  exact ⟨h1, hb⟩
theorem scan_gyes (u : World) (p : Option Addr) (c : Nat) (l : List UInt8) (xs : List En) (low high : ByteArray) (h : TabOk u (p, c, l)) (hr : readTb l = some xs) :
    Calls Tryd.prog 12 #[.slice p l.length c, .string low, .string high] u fun e u' => ∃ A' n' c', e = .returned (.tuple #[.slice A' n' c', .nilIface]) ∧ Below u.heap.size u u' := by
  refine (scan_any u p c l low high h.1 h.2.1 h.2.2.1 h.2.2.2).mono ?_
  rintro e u' ⟨h1, hb⟩
  rw [hr] at h1
  obtain ⟨v, rfl, ho⟩ := h1
  obtain ⟨A', c', rfl⟩ := row_slice ho
  exact ⟨A', _, c', rfl, hb⟩
theorem merge_gno (u : World) (p : Option Addr) (c : Nat) (l : List UInt8) (h : TabOk u (p, c, l)) (hr : readTb l = none) :
    Calls Tryd.prog 16 #[.slice (some ⟨u.heap.size, 0, none⟩) 1 1, .bool true] (u.alloc (.cells #[.slice p l.length c] 24)) fun e u' => e = .returned (.tuple #[.slice none 0 0, .iface 51 (.int .i64 9)]) ∧ Below u.heap.size u u' := by
  have hb := (Below.refl u.heap.size u).alloc (Nat.le_refl _) (.cells #[.slice p l.length c] 24)
  refine (merge_true (u.alloc (.cells #[.slice p l.length c] 24)) (some ⟨u.heap.size, 0, none⟩) 1 [(p, c, l)] (cs_one u _ _) (fun t ht => by simp at ht; subst ht; exact h.keep hb) (by simp)).mono ?_
  rintro e u' ⟨h1, hb2⟩
  simp only [allR, hr, Option.map_none] at h1
  exact ⟨h1, hb.trans (hb2.mono (by simp))⟩
theorem merge_gyes (u : World) (p : Option Addr) (c : Nat) (l : List UInt8) (xs : List En) (h : TabOk u (p, c, l)) (hr : readTb l = some xs) :
    Calls Tryd.prog 16 #[.slice (some ⟨u.heap.size, 0, none⟩) 1 1, .bool true] (u.alloc (.cells #[.slice p l.length c] 24)) fun e u' => ∃ A' n' c', e = .returned (.tuple #[.slice A' n' c', .nilIface]) ∧ Below u.heap.size u u' := by
  have hb := (Below.refl u.heap.size u).alloc (Nat.le_refl _) (.cells #[.slice p l.length c] 24)
  have hE := (readTb_some hr).1
  refine (merge_yes (u.alloc (.cells #[.slice p l.length c] 24)) (some ⟨u.heap.size, 0, none⟩) 1 [(p, c, l)] (cs_one u _ _) (fun t ht => by simp at ht; subst ht; exact h.keep hb) (by simp) [xs] (by simp [allR, hr]) xs (merge_one (ents_zero hE).2.2) hE).mono ?_
  rintro e u' ⟨A, cap, h1, -, h3⟩
  exact ⟨A, _, cap, h1, hb.trans (h3.mono (by simp))⟩
def enA : En := ⟨⟨#[97]⟩, ⟨#[98]⟩, false⟩
theorem enA_ok : entsE [enA] = 0 := by
  refine ents_ok (by simp) (fun e he => ?_) (by simp [Ris])
  simp at he; subst he
  exact ⟨by decide, by decide⟩
theorem get_a (u : World) (A : Option Addr) (c : Nat) (hz : Bz u A c (buildB [enA])) :
    Calls Tryd.prog 11 #[.slice A (buildB [enA]).length c, .string ⟨#[97]⟩] u fun e u' => e = .returned (.tuple #[.agg #[.string ⟨#[97]⟩, .string ⟨#[98]⟩, .bool false], .nilIface]) ∧ Below u.heap.size u u' := by
  refine (get_any u A c _ ⟨#[97]⟩ hz.1 (bld_len enA_ok) hz.2.1 hz.2.2).mono ?_
  rintro e u' ⟨h1, hb⟩
  rw [read_build enA_ok] at h1
  rcases h1 with ⟨x, hx, -, rfl⟩ | ⟨hno, -⟩
  · simp at hx; subst hx; exact ⟨rfl, hb⟩
  · exact absurd rfl (hno enA (by simp))

set_option maxRecDepth 100000 in
set_option maxHeartbeats 1000000 in
theorem garb_no (w : World) (p la : Option Addr) (cb c : Nat) (lb : List UInt8) (L : List En) (at_ z : Int)
    (hb0 : TabOk w (p, cb, lb)) (hL : CsAt w la (ecells L)) (hLn : L.length ≤ 9223372036854775807) (hLo : ∀ r ∈ L, OkEn r) (hg : w.cell? ⟨0, 0, none⟩ = some ET) (hE0 : ¬ entsE L = 0) :
    Calls Tryd.prog 5 #[.slice p lb.length cb, .slice la L.length c, .int .i64 at_, .int .u8 z] w fun e w' => e = .returned (.bool true) ∧ Below w.heap.size w w' := by
  obtain ⟨i0, hi, hz0, hz1, hz2⟩ := info_parts infoBs
  have H1 := build_yes (w.alloc (.cells #[.string ⟨#[97]⟩, .string ⟨#[98]⟩, .bool false] 34)) (some ⟨w.heap.size, 0, none⟩) 1 [enA] (cs_en w enA 34) (by simp) (fun r hr => by simp at hr; subst hr; exact ⟨by decide, by decide⟩) enA_ok
  have B0 : Below w.heap.size w (w.alloc (.cells #[.string ⟨#[97]⟩, .string ⟨#[98]⟩, .bool false] 34)) := (Below.refl _ _).alloc (Nat.le_refl _) _
  have H2 := Lib.hid (fun (u : World) A c' (hz : Bz u A c' (buildB [enA])) => get_a u A c' hz)
  have HT := Lib.hid (fun (u : World) (hb : Below w.heap.size w u) => hb0.keep hb)
  have H3 := Lib.hid (fun (u : World) (hb : Below w.heap.size w u) => build_no u la c L (hL.keep hb) hLn hLo hE0)
  have HG := Lib.hid (fun (u : World) (h : Below w.heap.size w u) => et_below hg h)
  simp only [List.length_cons, List.length_nil, Nat.zero_add] at H1
  generalize hB1 : buildB [enA] = Bl1 at *
  generalize ((entsE L : Nat) : Int) = E at *
  clear hB1 hL hg hb0 hLo
  go_enter Tryd.func5, Tryd.ntmps5
  go_wp2_with (go_at_call 7; refine H1.mono ?_; rintro e u1 ⟨A1, c1, rfl, z1, b1⟩; refine Hid.out ?_)
  refine Lib.hid ?_
  have B1 := B0.trans (b1.mono B0.size)
  go_wp2_with (go_at_call 11; refine (H2.out u1 A1 c1 z1).mono ?_; rintro e u2 ⟨rfl, b2⟩; refine Hid.out ?_)
  refine Lib.hid ?_
  have B2 := B1.trans (b2.mono B1.size)
  have B2a := B2.alloc B2.size (.cells #[.string ⟨#[97]⟩, .string ⟨#[98]⟩, .bool false] 34)
  clear H1 H2 b1 b2 z1 B1 B0
  go_wp2_with (at_builtin; refine wpList_append_own _ rfl _ _ 41 rfl (u2.heap.size + 1) 24 i0 (.slice none 0 0) 1 24 Tryd.underlying41 hi hz0 hz1 hz2 rfl (by decide) (.slice none 0 0) 0 [] rfl (World.ownsRow_nil _ _ _ _) ⟨u2.heap.size + 1, 0, none⟩ 1 1 [.slice p lb.length cb] rfl rfl (by intro j u' hj; match j, hj with | 0, hj => simp at hj; subst hj; simp [Addr.add]) (by intro u' hu'; simp at hu'; subst hu'; rfl) (by unfold maxLen; omega) (by omega) (by simp) ?_)
  intro v3 u3 o3 g3 _
  have B3 : Below w.heap.size w u3 := (B2a.alloc (by simp; have := B2.size; omega) _).grown g3 (by simp; have := B2.size; omega) (fun j hj => by simp [Value.ownBlock] at hj)
  obtain ⟨T, hTe⟩ : ∃ T : List Tab, T = [(p, cb, lb)] := ⟨_, rfl⟩
  have o3' : u3.ownsRow (u2.heap.size + 1) 24 1 v3 T.length (T.map tabV) := by rw [hTe]; exact o3
  obtain ⟨A3, c3, rfl⟩ := row_slice o3'
  have hC3 := (own_cs o3' (by simp)).1
  clear g3 B2a B2 o3 o3'
  have HTe := Lib.hid hTe
  clear hTe
  go_wp2_with (go_at_call 7; refine (H3.out u3 B3).mono ?_; rintro e u ⟨rfl, b4⟩; refine Hid.out ?_)
  refine Lib.hid ?_
  have Bu := B3.trans (b4.mono B3.size)
  have hC : CsAt u A3 (T.map tabV) := hC3.keep b4
  have hTe := HTe.out
  have hT : ∀ t ∈ T, TabOk u t := fun t ht => by rw [hTe] at ht; simp at ht; subst ht; exact HT.out u Bu
  have hTl : 1 = T.length := by rw [hTe]; rfl
  have hn2 : T.length ≤ 2 := by omega
  clear b4 hC3 B3 H3 hTe HTe HT hTl
  go_wp2_with fail
  go_loopw [17] (fun i wr => ∃ k : Nat, k ≤ T.length ∧ i = .int .i64 k ∧ Below u.heap.size u wr) (fun i _ => T.length - (intOf i).toNat)
  case atStart => exact ⟨0, by omega, rfl, Below.refl _ _⟩
  case round =>
    obtain ⟨k, hk, rfl, hb⟩ := hrel
    have Bw : Below w.heap.size w wr := Bu.trans (hb.mono Bu.size)
    by_cases hlt : k < T.length
    · obtain ⟨b, o, rfl, hcell⟩ := (hC.keep hb).at (fun e => by have h0 := congrArg List.length e; rw [List.length_map] at h0; simp only [List.length_nil] at h0; omega)
      have c0 := hcell k (tabV T[k]) (by simp [hlt])
      have hok := (hT _ (List.getElem_mem hlt)).keep hb
      generalize T[k] = t at *
      obtain ⟨tp, tc, tl⟩ := t
      simp only [tabV] at c0
      have hbl : b < wr.heap.size := cell_lt c0
      clear hcell
      cases hr : readTb tl with
      | none =>
        have H1 := read_gno wr tp tc tl hok hr
        have H2 := Lib.hid (fun (v : World) (h : TabOk v (tp, tc, tl)) => scan_gno v tp tc tl ⟨#[]⟩ ⟨#[]⟩ h hr)
        have H3 := Lib.hid (fun (v : World) (h : TabOk v (tp, tc, tl)) => merge_gno v tp tc tl h hr)
        clear hr
        go_wp2_with (go_at_call 9; refine H1.mono ?_; rintro e u1 ⟨rfl, b1⟩; refine Hid.out ?_)
        refine Lib.hid ?_
        have c1 := (b1.cell (p := ⟨b, o + k, none⟩) hbl).trans c0
        have ok1 := hok.keep b1
        have B1 := Bw.trans (b1.mono Bw.size)
        have z1 := b1.size
        have D1 := hb.trans (b1.mono hb.size)
        clear H1 b1 hok c0 Bw
        go_wp2_with (go_at_call 12; refine (H2.out u1 ok1).mono ?_; rintro e u2 ⟨rfl, b2⟩; refine Hid.out ?_)
        refine Lib.hid ?_
        have c2 := (b2.cell (p := ⟨b, o + k, none⟩) (show b < _ by omega)).trans c1
        have ok2 := ok1.keep b2
        have B2 := B1.trans (b2.mono B1.size)
        have D2 := D1.trans (b2.mono D1.size)
        clear H2 b2 ok1 c1 B1 D1
        go_wp2_with (go_at_call 16; refine (H3.out u2 ok2).mono ?_; rintro e u3 ⟨rfl, b3⟩; refine Hid.out ?_)
        refine Lib.hid ?_
        have B3 := B2.trans (b3.mono B2.size)
        have D3 := D2.trans (b3.mono D2.size)
        clear H3 b3 ok2 c2 B2 D2
        go_wp2_with fail
        go_quiet (fail)
        have hg3 : (u3.drewN nq).cell? ⟨0, 0, none⟩ = some ET := HG.out u3 B3
        have HE := error_hit 9 (u3.drewN nq) hg3
        go_wp2_with (go_at_call 8; refine HE.mono ?_; rintro e u4 ⟨rfl, b4⟩; refine Hid.out ?_)
        refine Lib.hid ?_
        have D4 : Below u.heap.size u u4 := (Below.drewN D3 nq).trans (b4.mono D3.size)
        clear HE b4 D3 B3
        go_wp2_with fail
        go_roundw
        case rel => exact ⟨k + 1, by omega, by go_num, D4⟩
        case measure => simp [intOf]; omega
      | some xs =>
        have H1 := read_gyes wr tp tc tl xs hok hr
        have H2 := Lib.hid (fun (v : World) (h : TabOk v (tp, tc, tl)) => scan_gyes v tp tc tl xs ⟨#[]⟩ ⟨#[]⟩ h hr)
        have H3 := Lib.hid (fun (v : World) (h : TabOk v (tp, tc, tl)) => merge_gyes v tp tc tl xs h hr)
        obtain ⟨hE, hBl⟩ := readTb_some hr
        have hx4 := (ents_zero hE).1
        have H4 := Lib.hid (fun (v : World) A1 c1 (h : CsAt v A1 (ecells xs)) => build_yes v A1 c1 xs h (by omega) (ents_oks hE) hE)
        rw [← hBl] at H4
        clear hr hBl hE
        go_wp2_with (go_at_call 9; refine H1.mono ?_; rintro e u1 ⟨A1, c1, rfl, s1, b1⟩; refine Hid.out ?_)
        refine Lib.hid ?_
        have k1 := (b1.cell (p := ⟨b, o + k, none⟩) hbl).trans c0
        have ok1 := hok.keep b1
        have z1 := b1.size
        have D1 := hb.trans (b1.mono hb.size)
        clear H1 b1 hok c0 Bw
        go_wp2_with (go_at_call 12; refine (H2.out u1 ok1).mono ?_; rintro e u2 ⟨A2, n2, c2, rfl, b2⟩; refine Hid.out ?_)
        refine Lib.hid ?_
        have k2 := (b2.cell (p := ⟨b, o + k, none⟩) (show b < _ by omega)).trans k1
        have ok2 := ok1.keep b2
        have s2 := s1.keep b2
        have z2 := b2.size
        have D2 := D1.trans (b2.mono D1.size)
        clear H2 b2 ok1 k1 D1 s1
        go_wp2_with (go_at_call 16; refine (H3.out u2 ok2).mono ?_; rintro e u3 ⟨A3, n3, c3, rfl, b3⟩; refine Hid.out ?_)
        refine Lib.hid ?_
        have k3 := (b3.cell (p := ⟨b, o + k, none⟩) (show b < _ by omega)).trans k2
        have ok3 := ok2.keep b3
        have s3 := s2.keep b3
        have z3 := b3.size
        have D3 := D2.trans (b3.mono D2.size)
        clear H3 b3 ok2 k2 D2 s2
        go_wp2_with fail
        go_quiet (fail)
        have s3' : CsAt (u3.drewN nq) A1 (ecells xs) := s3
        have ok3' : TabOk (u3.drewN nq) (tp, tc, tl) := ok3
        have H4' := H4.out (u3.drewN nq) A1 c1 s3'
        go_wp2_with (go_at_call 7; refine H4'.mono ?_; rintro e u4 ⟨A4, c4, rfl, z4, b4⟩; refine Hid.out ?_)
        refine Lib.hid ?_
        have k4 : u4.cell? ⟨b, o + k, none⟩ = some (.slice tp tl.length tc) := (b4.cell (p := ⟨b, o + k, none⟩) (show b < u3.heap.size by omega)).trans k3
        have D4 : Below u.heap.size u u4 := (Below.drewN D3 nq).trans (b4.mono D3.size)
        have v1 := fun (n : Nat) => BsAt.convert (w := u4.drewN n) z4.1 _ c4 rfl
        have v2 := fun (n : Nat) => BsAt.convert (w := u4.drewN n) (ok3'.keep b4).1 _ tc rfl
        clear H4 H4' b4 D3 s3 s3' ok3 ok3' k3 z4
        go_wp2_with fail
        go_quiet (fail)
        go_wp2_with fail
        go_roundw
        case rel => exact ⟨k + 1, by omega, by go_num, ⟨D4.os, D4.tape, D4.output, D4.size, D4.block⟩⟩
        case measure => simp [intOf]; omega
    · go_wp2_with fail
      go_ret
      exact ⟨rfl, Bw⟩
end Go.Proofs.YtpjjjelibpoohabDoor
