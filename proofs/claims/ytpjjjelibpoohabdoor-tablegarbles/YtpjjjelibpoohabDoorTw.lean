/- TableGarbles's walk, where there is a table to be garbled. -/
import Derived.Test.YtpjjjelibpoohabDoorTv
namespace Go.Proofs.YtpjjjelibpoohabDoor
open Go.RowKit
set_option linter.unusedVariables false

theorem build_own (u : World) (la : Option Addr) (c : Nat) (L : List En) (h : CsAt u la (ecells L)) (hlen : L.length ≤ 9223372036854775807) (hok : ∀ r ∈ L, OkEn r) (hE : entsE L = 0) :
    Calls Tryd.prog 7 #[.slice la L.length c] u fun e u' => ∃ g cap, e = .returned (.tuple #[.slice (some ⟨g, 0, none⟩) (buildB L).length cap, .nilIface]) ∧ Own u.heap.size u' (.slice (some ⟨g, 0, none⟩) (buildB L).length cap) (buildB L) ∧ Below u.heap.size u u' := by
  refine (build_any u la c L h hlen (fun r hr => by have := hok r hr; exact ⟨by have := this.1; omega, by have := this.2; omega⟩)).mono ?_
  rintro e u' ⟨h1, hb⟩
  rw [if_pos hE] at h1
  obtain ⟨v, rfl, ho⟩ := h1
  have hne : buildB L ≠ [] := fun e => by have : (buildB L).length = 0 := by rw [e]; rfl
                                          unfold buildB at this; rw [seal_len] at this; omega
  rcases ho.2 with ⟨h0, h1⟩ | ⟨g, cap, cur, h0, -⟩
  · exact absurd (List.length_eq_zero_iff.1 h1) hne
  · rw [h0] at ho ⊢
    exact ⟨g, cap, rfl, ho, hb⟩
theorem row_other {w : World} {B e m n : Nat} {v : Value} {cs : List Value} {g o : Nat} (h : w.ownsRow B e m v n cs) (hne : ∀ j, v.ownBlock = some j → j ≠ g) (u : Value) : (w.setCell ⟨g, o, none⟩ u).ownsRow B e m v n cs :=
  ⟨h.1, h.2.imp id fun ⟨b, cap, cur, h0, h1, h2, h3⟩ => ⟨b, cap, cur, h0, h1, by
    have hb : b ≠ g := hne b (by rw [h0]; rfl)
    rw [Below.heap_setCell _ _ _ _ (by simpa using hb)]; exact h2, h3⟩⟩
theorem set_u8 {u : World} {g cap : Nat} {B : Nat} {l : List UInt8} (h : Own B u (.slice (some ⟨g, 0, none⟩) l.length cap) l) (m : Nat) (hm : m < l.length) (z : Int) (hz : 0 ≤ z ∧ z < 256) :
    u.cell? ⟨g, m, none⟩ = some (.int .u8 l[m].toNat) ∧ u.frozen? ⟨g, m, none⟩ = false ∧ BsAt (u.setCell ⟨g, m, none⟩ (.int .u8 z)) (some ⟨g, 0, none⟩) (l.set m (UInt8.ofNat z.toNat)) := by
  have hc : ∀ i (hi : i < l.length), u.cell? ⟨g, i, none⟩ = some (.int .u8 l[i].toNat) := fun i hi => by
    rw [h.cellAt i (by omega)]; simp [bcs, hi]
  refine ⟨hc m hm, by rw [show (⟨g, m, none⟩ : Addr) = ⟨g, m, none⟩ from rfl]; exact h.frozenAt m, .inr ⟨g, 0, rfl, fun i hi => ?_⟩⟩
  have hi' : i < l.length := by simpa using hi
  rw [Nat.zero_add]
  by_cases e : i = m
  · subst e
    rw [World.cell?_setCell_same' u ⟨g, i, none⟩ _ (by rw [hc i hi']; rfl)]
    simp only [List.getElem_set_self]
    rw [show ((UInt8.ofNat z.toNat).toNat : Int) = z from by simp; omega]
  · have h2 : (u.setCell ⟨g, m, none⟩ (.int .u8 z)).cell? ⟨g, i, none⟩ = u.cell? ⟨g, i, none⟩ := World.cell?_setCell_other u ⟨g, m, none⟩ ⟨g, i, none⟩ _ (fun e2 => e (by injection e2 with _ e3 _; exact e3.symm))
    rw [h2, hc i hi', List.getElem_set_ne (fun e2 => e e2.symm)]
set_option maxRecDepth 100000 in
set_option maxHeartbeats 1000000 in
theorem garb_yes (w : World) (p la : Option Addr) (cb c : Nat) (lb : List UInt8) (L : List En) (at_ z : Int)
    (hb0 : TabOk w (p, cb, lb)) (hL : CsAt w la (ecells L)) (hLn : L.length ≤ 9223372036854775807) (hLo : ∀ r ∈ L, OkEn r) (hg : w.cell? ⟨0, 0, none⟩ = some ET) (hz8 : 0 ≤ z ∧ z < 256) (hat : I64 at_) (hE0 : entsE L = 0) :
    Calls Tryd.prog 5 #[.slice p lb.length cb, .slice la L.length c, .int .i64 at_, .int .u8 z] w fun e w' => e = .returned (.bool true) ∧ Below w.heap.size w w' := by
  obtain ⟨i0, hi, hz0, hz1, hz2⟩ := info_parts infoBs
  have H1 := build_yes (w.alloc (.cells #[.string ⟨#[97]⟩, .string ⟨#[98]⟩, .bool false] 34)) (some ⟨w.heap.size, 0, none⟩) 1 [enA] (cs_en w enA 34) (by simp) (fun r hr => by simp at hr; subst hr; exact ⟨by decide, by decide⟩) enA_ok
  have B0 : Below w.heap.size w (w.alloc (.cells #[.string ⟨#[97]⟩, .string ⟨#[98]⟩, .bool false] 34)) := (Below.refl _ _).alloc (Nat.le_refl _) _
  have H2 := Lib.hid (fun (u : World) A c' (hz : Bz u A c' (buildB [enA])) => get_a u A c' hz)
  have HT := Lib.hid (fun (u : World) (hb : Below w.heap.size w u) => hb0.keep hb)
  have H3 := Lib.hid (fun (u : World) (hb : Below w.heap.size w u) => build_own u la c L (hL.keep hb) hLn hLo hE0)
  have HG := Lib.hid (fun (u : World) (h : Below w.heap.size w u) => et_below hg h)
  simp only [List.length_cons, List.length_nil, Nat.zero_add] at H1
  generalize hB1 : buildB [enA] = Bl1 at *
  have hBn : 0 < (buildB L).length := by unfold buildB; rw [seal_len]; omega
  have hBx : (buildB L).length ≤ 140737488355328 := bld_len hE0
  generalize hBL : buildB L = Bl at *
  clear hBL
  clear hB1 hL hg hb0 hLo
  go_enter Tryd.func5, Tryd.ntmps5
  go_wp2_with (go_at_call 7; refine H1.mono ?_; rintro e u1 ⟨A1, c1, rfl, z1, b1⟩; refine Hid.out ?_)
  refine Lib.hid ?_
  have B1 := B0.trans (b1.mono B0.size)
  go_wp2_with (go_at_call 11; refine (H2.out u1 A1 c1 z1).mono ?_; rintro e u2 ⟨rfl, b2⟩; refine Hid.out ?_)
  refine Lib.hid ?_
  have B2 := B1.trans (b2.mono B1.size)
  have B2a := B2.alloc B2.size (.cells #[.string ⟨#[97]⟩, .string ⟨#[98]⟩, .bool false] 34)
  clear H1 H2 b1 b2 z1 B1 B0
  go_wp2_with (at_builtin; refine wpList_append_own _ rfl _ _ 41 rfl (u2.heap.size + 1) 24 i0 (.slice none 0 0) 1 24 Tryd.underlying41 hi hz0 hz1 hz2 rfl (by decide) (.slice none 0 0) 0 [] rfl (World.ownsRow_nil _ _ _ _) ⟨u2.heap.size + 1, 0, none⟩ 1 1 [.slice p lb.length cb] rfl rfl (by intro j u' hj; match j, hj with | 0, hj => simp at hj; subst hj; simp [Addr.add]) (by intro u' hu'; simp at hu'; subst hu'; rfl) (by unfold maxLen; omega) (by omega) (by simp) ?_)
  intro v3 u3 o3 g3 _
  have B3 : Below w.heap.size w u3 := (B2a.alloc (by simp; have := B2.size; omega) _).grown g3 (by simp; have := B2.size; omega) (fun j hj => by simp [Value.ownBlock] at hj)
  obtain ⟨T, hTe⟩ : ∃ T : List Tab, T = [(p, cb, lb)] := ⟨_, rfl⟩
  have o3' : u3.ownsRow (u2.heap.size + 1) 24 1 v3 T.length (T.map tabV) := by rw [hTe]; exact o3
  obtain ⟨A3, c3, rfl⟩ := row_slice o3'
  have hC3 := (own_cs o3' (by simp)).1
  have hw2 : w.heap.size ≤ u2.heap.size := B2.size
  have hu23 : u2.heap.size + 1 ≤ u3.heap.size := by have := g3.size; simp at this; omega
  clear g3 B2a B2 o3
  have HTe := Lib.hid hTe
  clear hTe
  go_wp2_with (go_at_call 7; refine (H3.out u3 B3).mono ?_; rintro e u4 ⟨g4, c4, rfl, o4, b4⟩; refine Hid.out ?_)
  refine Lib.hid ?_
  have hpos : (0 : Int) < (Bl.length : Int) := by omega
  have hne0 : ¬ (Bl.length : Int) = 0 := by omega
  have hr1 : at_.tmod (Bl.length : Int) < (Bl.length : Int) := Int.tmod_lt_of_pos at_ hpos
  have hr2 : -(Bl.length : Int) < at_.tmod (Bl.length : Int) := Int.lt_tmod_of_pos at_ hpos
  by_cases h0 : at_.tmod (Bl.length : Int) < 0
  · have hw : wrap64 (at_.tmod (Bl.length : Int) + (Bl.length : Int)) = at_.tmod (Bl.length : Int) + (Bl.length : Int) := by unfold wrap64; omega
    have hx0 : 0 ≤ at_.tmod (Bl.length : Int) + (Bl.length : Int) := by omega
    have hx1 : at_.tmod (Bl.length : Int) + (Bl.length : Int) < (Bl.length : Int) := by omega
    have hmlt : (at_.tmod (Bl.length : Int) + (Bl.length : Int)).toNat < Bl.length := by omega
    have hcs := set_u8 o4 (at_.tmod (Bl.length : Int) + (Bl.length : Int)).toNat hmlt z hz8
    obtain ⟨k0, k1, hbs⟩ := hcs
    have o3k : u4.ownsRow (u2.heap.size + 1) 24 1 (.slice A3 T.length c3) T.length (T.map tabV) := own_keep o3' b4
    have hg4 : u3.heap.size ≤ g4 := (o4.lt g4 rfl).1
    have hrb : ∀ j, (Value.slice A3 T.length c3).ownBlock = some j → j ≠ g4 := fun j hj => by have := (o3'.lt j hj).2; omega
    have o5 := row_other (o := (at_.tmod (Bl.length : Int) + (Bl.length : Int)).toNat) o3k hrb (.int .u8 z)
    have B4 := B3.trans (b4.mono B3.size)
    have B5 : Below w.heap.size w (u4.setCell ⟨g4, (at_.tmod (Bl.length : Int) + (Bl.length : Int)).toNat, none⟩ (.int .u8 z)) := B4.setCell (p := ⟨g4, (at_.tmod (Bl.length : Int) + (Bl.length : Int)).toNat, none⟩) (by simp; have := B3.size; omega) _
    have z5 : (u4.setCell ⟨g4, (at_.tmod (Bl.length : Int) + (Bl.length : Int)).toNat, none⟩ (.int .u8 z)).heap.size = u4.heap.size := by simp
    have hg5 : g4 < u4.heap.size := (o4.lt g4 rfl).2
    have hu2 : u2.heap.size + 1 ≤ u4.heap.size := by have := b4.size; omega
    have hTl := HTe.out
    have hTn : T.length ≤ 2 := by rw [hTl]; simp
    clear hTl
    generalize hu5 : u4.setCell ⟨g4, (at_.tmod (Bl.length : Int) + (Bl.length : Int)).toNat, none⟩ (.int .u8 z) = u5 at *
    have hu5s : u2.heap.size + 1 ≤ u5.heap.size := by omega
    have HU5 := Lib.hid hu5
    have HZ5 := Lib.hid z5
    clear z5
    clear o3k o3' b4 B3 B4
    go_wp2_with (at_builtin; (try rw [hu5]); refine wpList_append_own _ rfl _ _ 41 rfl (u2.heap.size + 1) 24 i0 (.slice none 0 0) 1 24 Tryd.underlying41 hi hz0 hz1 hz2 rfl (by decide) _ _ _ rfl (o5.alloc _) ⟨u5.heap.size, 0, none⟩ 1 1 [.slice (some ⟨g4, 0, none⟩) Bl.length c4] rfl rfl (by intro j u' hj; match j, hj with | 0, hj => simp at hj; subst hj; simp [Addr.add]) (by intro u' hu'; simp at hu'; subst hu'; rfl) (by unfold maxLen; omega) (by omega) (by simp; omega) ?_)
    intro v6 u o6 g6 _
    obtain ⟨T2, hT2⟩ : ∃ T2 : List Tab, T2 = T ++ [(some ⟨g4, 0, none⟩, c4, Bl.set (at_.tmod (Bl.length : Int) + (Bl.length : Int)).toNat (UInt8.ofNat z.toNat))] := ⟨_, rfl⟩
    have o6' : u.ownsRow (u2.heap.size + 1) 24 1 v6 T2.length (T2.map tabV) := by rw [hT2]; simpa [tabV] using o6
    obtain ⟨A6, c6, rfl⟩ := row_slice o6'
    have hwu : w.heap.size ≤ u5.heap.size := B5.size
    have Bu : Below w.heap.size w u := (B5.alloc hwu _).grown g6 (by simp; omega) (fun j hj => by have := (o5.lt j hj).1; have := hw2; omega)
    have hC2 : CsAt u A6 (T2.map tabV) := (own_cs o6' (by simp)).1
    have hgu : u.heap[g4]? = u5.heap[g4]? := by
      have e1 := HZ5.out
      rw [g6.block g4 (by simp; omega) (fun e => hrb g4 e.symm rfl), Below.heap_alloc _ _ _ (by omega)]
    have hcp := own_bs o4 rfl
    have hcq := own_cap o4
    have hTT : ∀ t ∈ T2, TabOk u t := fun t ht => by
      rw [hT2, HTe.out] at ht
      simp only [List.cons_append, List.nil_append, List.mem_cons, List.not_mem_nil, or_false] at ht
      rcases ht with rfl | rfl
      · exact HT.out u Bu
      · exact ⟨hbs.blocks (fun a ha _ => by injection ha with ha; subst ha; exact hgu), by rw [List.length_set]; exact hBx, by rw [List.length_set]; exact hcp.2.1, hcq⟩
    have hTn2 : T2.length ≤ 3 := by rw [hT2, List.length_append]; simp; omega
    clear o6 o6' g6 hgu hbs k0 k1 o5 hT2 hcp hcq o4 hu5 HU5 HZ5 hrb H3 HT HTe B5
    go_wp2_with fail
    go_loopw [17] (fun i wr => ∃ k : Nat, k ≤ T2.length ∧ i = .int .i64 k ∧ Below u.heap.size u wr) (fun i _ => T2.length - (intOf i).toNat)
    case atStart => exact ⟨0, by omega, rfl, Below.refl _ _⟩
    case round =>
      obtain ⟨k, hk, rfl, hb⟩ := hrel
      have Bw : Below w.heap.size w wr := Bu.trans (hb.mono Bu.size)
      by_cases hlt : k < T2.length
      · obtain ⟨b, o, rfl, hcell⟩ := (hC2.keep hb).at (fun e => by have h0 := congrArg List.length e; rw [List.length_map] at h0; simp only [List.length_nil] at h0; omega)
        have c0 := hcell k (tabV T2[k]) (by simp [hlt])
        have hok := (hTT _ (List.getElem_mem hlt)).keep hb
        generalize T2[k] = t at *
        obtain ⟨tp, tc, tl⟩ := t
        simp only [tabV] at c0
        have hbl : b < wr.heap.size := cell_lt c0
        clear hcell
        cases hr : readTb tl with
        | none =>
          have H1 := read_gno wr tp tc tl hok hr
          have H2 := Lib.hid (fun (v : World) (h : TabOk v (tp, tc, tl)) => scan_gno v tp tc tl ⟨#[]⟩ ⟨#[]⟩ h hr)
          have H3 := Lib.hid (fun (v : World) (h : TabOk v (tp, tc, tl)) => merge_gno v tp tc tl h hr)
          clear hr
          go_wp2_with (go_at_call 9; refine H1.mono ?_; rintro e u1 ⟨rfl, b1⟩; refine Hid.out ?_)
          refine Lib.hid ?_
          have c1 := (b1.cell (p := ⟨b, o + k, none⟩) hbl).trans c0
          have ok1 := hok.keep b1
          have B1 := Bw.trans (b1.mono Bw.size)
          have z1 := b1.size
          have D1 := hb.trans (b1.mono hb.size)
          clear H1 b1 hok c0 Bw
          go_wp2_with (go_at_call 12; refine (H2.out u1 ok1).mono ?_; rintro e u2 ⟨rfl, b2⟩; refine Hid.out ?_)
          refine Lib.hid ?_
          have c2 := (b2.cell (p := ⟨b, o + k, none⟩) (show b < _ by omega)).trans c1
          have ok2 := ok1.keep b2
          have B2 := B1.trans (b2.mono B1.size)
          have D2 := D1.trans (b2.mono D1.size)
          clear H2 b2 ok1 c1 B1 D1
          go_wp2_with (go_at_call 16; refine (H3.out u2 ok2).mono ?_; rintro e u3 ⟨rfl, b3⟩; refine Hid.out ?_)
          refine Lib.hid ?_
          have B3 := B2.trans (b3.mono B2.size)
          have D3 := D2.trans (b3.mono D2.size)
          clear H3 b3 ok2 c2 B2 D2
          go_wp2_with fail
          go_quiet (fail)
          have hg3 : (u3.drewN nq).cell? ⟨0, 0, none⟩ = some ET := HG.out u3 B3
          have HE := error_hit 9 (u3.drewN nq) hg3
          go_wp2_with (go_at_call 8; refine HE.mono ?_; rintro e u4 ⟨rfl, b4⟩; refine Hid.out ?_)
          refine Lib.hid ?_
          have D4 : Below u.heap.size u u4 := (Below.drewN D3 nq).trans (b4.mono D3.size)
          clear HE b4 D3 B3
          go_wp2_with fail
          go_roundw
          case rel => exact ⟨k + 1, by omega, by go_num, D4⟩
          case measure => simp [intOf]; omega
        | some xs =>
          have H1 := read_gyes wr tp tc tl xs hok hr
          have H2 := Lib.hid (fun (v : World) (h : TabOk v (tp, tc, tl)) => scan_gyes v tp tc tl xs ⟨#[]⟩ ⟨#[]⟩ h hr)
          have H3 := Lib.hid (fun (v : World) (h : TabOk v (tp, tc, tl)) => merge_gyes v tp tc tl xs h hr)
          obtain ⟨hE, hBl⟩ := readTb_some hr
          have hx4 := (ents_zero hE).1
          have H4 := Lib.hid (fun (v : World) A1 c1 (h : CsAt v A1 (ecells xs)) => build_yes v A1 c1 xs h (by omega) (ents_oks hE) hE)
          rw [← hBl] at H4
          clear hr hBl hE
          go_wp2_with (go_at_call 9; refine H1.mono ?_; rintro e u1 ⟨A1, c1, rfl, s1, b1⟩; refine Hid.out ?_)
          refine Lib.hid ?_
          have k1 := (b1.cell (p := ⟨b, o + k, none⟩) hbl).trans c0
          have ok1 := hok.keep b1
          have z1 := b1.size
          have D1 := hb.trans (b1.mono hb.size)
          clear H1 b1 hok c0 Bw
          go_wp2_with (go_at_call 12; refine (H2.out u1 ok1).mono ?_; rintro e u2 ⟨A2, n2, c2, rfl, b2⟩; refine Hid.out ?_)
          refine Lib.hid ?_
          have k2 := (b2.cell (p := ⟨b, o + k, none⟩) (show b < _ by omega)).trans k1
          have ok2 := ok1.keep b2
          have s2 := s1.keep b2
          have z2 := b2.size
          have D2 := D1.trans (b2.mono D1.size)
          clear H2 b2 ok1 k1 D1 s1
          go_wp2_with (go_at_call 16; refine (H3.out u2 ok2).mono ?_; rintro e u3 ⟨A3, n3, c3, rfl, b3⟩; refine Hid.out ?_)
          refine Lib.hid ?_
          have k3 := (b3.cell (p := ⟨b, o + k, none⟩) (show b < _ by omega)).trans k2
          have ok3 := ok2.keep b3
          have s3 := s2.keep b3
          have z3 := b3.size
          have D3 := D2.trans (b3.mono D2.size)
          clear H3 b3 ok2 k2 D2 s2
          go_wp2_with fail
          go_quiet (fail)
          have s3' : CsAt (u3.drewN nq) A1 (ecells xs) := s3
          have ok3' : TabOk (u3.drewN nq) (tp, tc, tl) := ok3
          have H4' := H4.out (u3.drewN nq) A1 c1 s3'
          go_wp2_with (go_at_call 7; refine H4'.mono ?_; rintro e u4 ⟨A4, c4, rfl, z4, b4⟩; refine Hid.out ?_)
          refine Lib.hid ?_
          have k4 : u4.cell? ⟨b, o + k, none⟩ = some (.slice tp tl.length tc) := (b4.cell (p := ⟨b, o + k, none⟩) (show b < u3.heap.size by omega)).trans k3
          have D4 : Below u.heap.size u u4 := (Below.drewN D3 nq).trans (b4.mono D3.size)
          have v1 := fun (n : Nat) => BsAt.convert (w := u4.drewN n) z4.1 _ c4 rfl
          have v2 := fun (n : Nat) => BsAt.convert (w := u4.drewN n) (ok3'.keep b4).1 _ tc rfl
          clear H4 H4' b4 D3 s3 s3' ok3 ok3' k3 z4
          go_wp2_with fail
          go_quiet (fail)
          go_wp2_with fail
          go_roundw
          case rel => exact ⟨k + 1, by omega, by go_num, ⟨D4.os, D4.tape, D4.output, D4.size, D4.block⟩⟩
          case measure => simp [intOf]; omega
      · go_wp2_with fail
        go_ret
        exact ⟨rfl, Bw⟩
  · have hx0 : 0 ≤ at_.tmod (Bl.length : Int) := by omega
    have hmlt : (at_.tmod (Bl.length : Int)).toNat < Bl.length := by omega
    have hcs := set_u8 o4 (at_.tmod (Bl.length : Int)).toNat hmlt z hz8
    obtain ⟨k0, k1, hbs⟩ := hcs
    have o3k : u4.ownsRow (u2.heap.size + 1) 24 1 (.slice A3 T.length c3) T.length (T.map tabV) := own_keep o3' b4
    have hg4 : u3.heap.size ≤ g4 := (o4.lt g4 rfl).1
    have hrb : ∀ j, (Value.slice A3 T.length c3).ownBlock = some j → j ≠ g4 := fun j hj => by have := (o3'.lt j hj).2; omega
    have o5 := row_other (o := (at_.tmod (Bl.length : Int)).toNat) o3k hrb (.int .u8 z)
    have B4 := B3.trans (b4.mono B3.size)
    have B5 : Below w.heap.size w (u4.setCell ⟨g4, (at_.tmod (Bl.length : Int)).toNat, none⟩ (.int .u8 z)) := B4.setCell (p := ⟨g4, (at_.tmod (Bl.length : Int)).toNat, none⟩) (by simp; have := B3.size; omega) _
    have z5 : (u4.setCell ⟨g4, (at_.tmod (Bl.length : Int)).toNat, none⟩ (.int .u8 z)).heap.size = u4.heap.size := by simp
    have hg5 : g4 < u4.heap.size := (o4.lt g4 rfl).2
    have hu2 : u2.heap.size + 1 ≤ u4.heap.size := by have := b4.size; omega
    have hTl := HTe.out
    have hTn : T.length ≤ 2 := by rw [hTl]; simp
    clear hTl
    generalize hu5 : u4.setCell ⟨g4, (at_.tmod (Bl.length : Int)).toNat, none⟩ (.int .u8 z) = u5 at *
    have hu5s : u2.heap.size + 1 ≤ u5.heap.size := by omega
    have HU5 := Lib.hid hu5
    have HZ5 := Lib.hid z5
    clear z5
    clear o3k o3' b4 B3 B4
    go_wp2_with (at_builtin; (try rw [hu5]); refine wpList_append_own _ rfl _ _ 41 rfl (u2.heap.size + 1) 24 i0 (.slice none 0 0) 1 24 Tryd.underlying41 hi hz0 hz1 hz2 rfl (by decide) _ _ _ rfl (o5.alloc _) ⟨u5.heap.size, 0, none⟩ 1 1 [.slice (some ⟨g4, 0, none⟩) Bl.length c4] rfl rfl (by intro j u' hj; match j, hj with | 0, hj => simp at hj; subst hj; simp [Addr.add]) (by intro u' hu'; simp at hu'; subst hu'; rfl) (by unfold maxLen; omega) (by omega) (by simp; omega) ?_)
    intro v6 u o6 g6 _
    obtain ⟨T2, hT2⟩ : ∃ T2 : List Tab, T2 = T ++ [(some ⟨g4, 0, none⟩, c4, Bl.set (at_.tmod (Bl.length : Int)).toNat (UInt8.ofNat z.toNat))] := ⟨_, rfl⟩
    have o6' : u.ownsRow (u2.heap.size + 1) 24 1 v6 T2.length (T2.map tabV) := by rw [hT2]; simpa [tabV] using o6
    obtain ⟨A6, c6, rfl⟩ := row_slice o6'
    have hwu : w.heap.size ≤ u5.heap.size := B5.size
    have Bu : Below w.heap.size w u := (B5.alloc hwu _).grown g6 (by simp; omega) (fun j hj => by have := (o5.lt j hj).1; have := hw2; omega)
    have hC2 : CsAt u A6 (T2.map tabV) := (own_cs o6' (by simp)).1
    have hgu : u.heap[g4]? = u5.heap[g4]? := by
      have e1 := HZ5.out
      rw [g6.block g4 (by simp; omega) (fun e => hrb g4 e.symm rfl), Below.heap_alloc _ _ _ (by omega)]
    have hcp := own_bs o4 rfl
    have hcq := own_cap o4
    have hTT : ∀ t ∈ T2, TabOk u t := fun t ht => by
      rw [hT2, HTe.out] at ht
      simp only [List.cons_append, List.nil_append, List.mem_cons, List.not_mem_nil, or_false] at ht
      rcases ht with rfl | rfl
      · exact HT.out u Bu
      · exact ⟨hbs.blocks (fun a ha _ => by injection ha with ha; subst ha; exact hgu), by rw [List.length_set]; exact hBx, by rw [List.length_set]; exact hcp.2.1, hcq⟩
    have hTn2 : T2.length ≤ 3 := by rw [hT2, List.length_append]; simp; omega
    clear o6 o6' g6 hgu hbs k0 k1 o5 hT2 hcp hcq o4 hu5 HU5 HZ5 hrb H3 HT HTe B5
    go_wp2_with fail
    go_loopw [17] (fun i wr => ∃ k : Nat, k ≤ T2.length ∧ i = .int .i64 k ∧ Below u.heap.size u wr) (fun i _ => T2.length - (intOf i).toNat)
    case atStart => exact ⟨0, by omega, rfl, Below.refl _ _⟩
    case round =>
      obtain ⟨k, hk, rfl, hb⟩ := hrel
      have Bw : Below w.heap.size w wr := Bu.trans (hb.mono Bu.size)
      by_cases hlt : k < T2.length
      · obtain ⟨b, o, rfl, hcell⟩ := (hC2.keep hb).at (fun e => by have h0 := congrArg List.length e; rw [List.length_map] at h0; simp only [List.length_nil] at h0; omega)
        have c0 := hcell k (tabV T2[k]) (by simp [hlt])
        have hok := (hTT _ (List.getElem_mem hlt)).keep hb
        generalize T2[k] = t at *
        obtain ⟨tp, tc, tl⟩ := t
        simp only [tabV] at c0
        have hbl : b < wr.heap.size := cell_lt c0
        clear hcell
        cases hr : readTb tl with
        | none =>
          have H1 := read_gno wr tp tc tl hok hr
          have H2 := Lib.hid (fun (v : World) (h : TabOk v (tp, tc, tl)) => scan_gno v tp tc tl ⟨#[]⟩ ⟨#[]⟩ h hr)
          have H3 := Lib.hid (fun (v : World) (h : TabOk v (tp, tc, tl)) => merge_gno v tp tc tl h hr)
          clear hr
          go_wp2_with (go_at_call 9; refine H1.mono ?_; rintro e u1 ⟨rfl, b1⟩; refine Hid.out ?_)
          refine Lib.hid ?_
          have c1 := (b1.cell (p := ⟨b, o + k, none⟩) hbl).trans c0
          have ok1 := hok.keep b1
          have B1 := Bw.trans (b1.mono Bw.size)
          have z1 := b1.size
          have D1 := hb.trans (b1.mono hb.size)
          clear H1 b1 hok c0 Bw
          go_wp2_with (go_at_call 12; refine (H2.out u1 ok1).mono ?_; rintro e u2 ⟨rfl, b2⟩; refine Hid.out ?_)
          refine Lib.hid ?_
          have c2 := (b2.cell (p := ⟨b, o + k, none⟩) (show b < _ by omega)).trans c1
          have ok2 := ok1.keep b2
          have B2 := B1.trans (b2.mono B1.size)
          have D2 := D1.trans (b2.mono D1.size)
          clear H2 b2 ok1 c1 B1 D1
          go_wp2_with (go_at_call 16; refine (H3.out u2 ok2).mono ?_; rintro e u3 ⟨rfl, b3⟩; refine Hid.out ?_)
          refine Lib.hid ?_
          have B3 := B2.trans (b3.mono B2.size)
          have D3 := D2.trans (b3.mono D2.size)
          clear H3 b3 ok2 c2 B2 D2
          go_wp2_with fail
          go_quiet (fail)
          have hg3 : (u3.drewN nq).cell? ⟨0, 0, none⟩ = some ET := HG.out u3 B3
          have HE := error_hit 9 (u3.drewN nq) hg3
          go_wp2_with (go_at_call 8; refine HE.mono ?_; rintro e u4 ⟨rfl, b4⟩; refine Hid.out ?_)
          refine Lib.hid ?_
          have D4 : Below u.heap.size u u4 := (Below.drewN D3 nq).trans (b4.mono D3.size)
          clear HE b4 D3 B3
          go_wp2_with fail
          go_roundw
          case rel => exact ⟨k + 1, by omega, by go_num, D4⟩
          case measure => simp [intOf]; omega
        | some xs =>
          have H1 := read_gyes wr tp tc tl xs hok hr
          have H2 := Lib.hid (fun (v : World) (h : TabOk v (tp, tc, tl)) => scan_gyes v tp tc tl xs ⟨#[]⟩ ⟨#[]⟩ h hr)
          have H3 := Lib.hid (fun (v : World) (h : TabOk v (tp, tc, tl)) => merge_gyes v tp tc tl xs h hr)
          obtain ⟨hE, hBl⟩ := readTb_some hr
          have hx4 := (ents_zero hE).1
          have H4 := Lib.hid (fun (v : World) A1 c1 (h : CsAt v A1 (ecells xs)) => build_yes v A1 c1 xs h (by omega) (ents_oks hE) hE)
          rw [← hBl] at H4
          clear hr hBl hE
          go_wp2_with (go_at_call 9; refine H1.mono ?_; rintro e u1 ⟨A1, c1, rfl, s1, b1⟩; refine Hid.out ?_)
          refine Lib.hid ?_
          have k1 := (b1.cell (p := ⟨b, o + k, none⟩) hbl).trans c0
          have ok1 := hok.keep b1
          have z1 := b1.size
          have D1 := hb.trans (b1.mono hb.size)
          clear H1 b1 hok c0 Bw
          go_wp2_with (go_at_call 12; refine (H2.out u1 ok1).mono ?_; rintro e u2 ⟨A2, n2, c2, rfl, b2⟩; refine Hid.out ?_)
          refine Lib.hid ?_
          have k2 := (b2.cell (p := ⟨b, o + k, none⟩) (show b < _ by omega)).trans k1
          have ok2 := ok1.keep b2
          have s2 := s1.keep b2
          have z2 := b2.size
          have D2 := D1.trans (b2.mono D1.size)
          clear H2 b2 ok1 k1 D1 s1
          go_wp2_with (go_at_call 16; refine (H3.out u2 ok2).mono ?_; rintro e u3 ⟨A3, n3, c3, rfl, b3⟩; refine Hid.out ?_)
          refine Lib.hid ?_
          have k3 := (b3.cell (p := ⟨b, o + k, none⟩) (show b < _ by omega)).trans k2
          have ok3 := ok2.keep b3
          have s3 := s2.keep b3
          have z3 := b3.size
          have D3 := D2.trans (b3.mono D2.size)
          clear H3 b3 ok2 k2 D2 s2
          go_wp2_with fail
          go_quiet (fail)
          have s3' : CsAt (u3.drewN nq) A1 (ecells xs) := s3
          have ok3' : TabOk (u3.drewN nq) (tp, tc, tl) := ok3
          have H4' := H4.out (u3.drewN nq) A1 c1 s3'
          go_wp2_with (go_at_call 7; refine H4'.mono ?_; rintro e u4 ⟨A4, c4, rfl, z4, b4⟩; refine Hid.out ?_)
          refine Lib.hid ?_
          have k4 : u4.cell? ⟨b, o + k, none⟩ = some (.slice tp tl.length tc) := (b4.cell (p := ⟨b, o + k, none⟩) (show b < u3.heap.size by omega)).trans k3
          have D4 : Below u.heap.size u u4 := (Below.drewN D3 nq).trans (b4.mono D3.size)
          have v1 := fun (n : Nat) => BsAt.convert (w := u4.drewN n) z4.1 _ c4 rfl
          have v2 := fun (n : Nat) => BsAt.convert (w := u4.drewN n) (ok3'.keep b4).1 _ tc rfl
          clear H4 H4' b4 D3 s3 s3' ok3 ok3' k3 z4
          go_wp2_with fail
          go_quiet (fail)
          go_wp2_with fail
          go_roundw
          case rel => exact ⟨k + 1, by omega, by go_num, ⟨D4.os, D4.tape, D4.output, D4.size, D4.block⟩⟩
          case measure => simp [intOf]; omega
      · go_wp2_with fail
        go_ret
        exact ⟨rfl, Bw⟩
end Go.Proofs.YtpjjjelibpoohabDoor
