/- TableParts's walk. -/
import Derived.Test.YtpjjjelibpoohabTh
namespace Go.Proofs.Ytpjjjelibpoohab
open Go.RowKit
set_option linter.unusedVariables false

def enA : En := ⟨⟨#[97]⟩, ⟨#[98]⟩, false⟩
theorem enA_ok : entsE [enA] = 0 := by
  refine ents_ok (by simp) (fun e he => ?_) (by simp [Ris])
  simp at he; subst he
  exact ⟨by decide, by decide⟩
theorem enA_in : [enA].filter (inE ⟨#[]⟩ ⟨#[]⟩) = [enA] := by
  have h : inE ⟨#[]⟩ ⟨#[]⟩ enA = true := by simp [inE]
  simp [h]
theorem filt_ok {L : List En} (h : entsE L = 0) (p : En → Bool) : entsE (L.filter p) = 0 := by
  obtain ⟨h1, h2, h3⟩ := ents_zero h
  exact ents_ok (Nat.le_trans (List.length_filter_le _ _) h1) (fun e he => h2 e (List.mem_filter.1 he).1) (ris_filter h3 p)
theorem parts_in {L : List En} (h : entsE L = 0) (key : ByteArray) (hk : ¬ key = ⟨#[]⟩) : L.filter (inE ⟨#[]⟩ key) ++ L.filter (inE key ⟨#[]⟩) = L := by
  have := parts_all (ents_zero h).2.2 key.data.toList (by
    intro e; apply hk; obtain ⟨d⟩ := key; obtain ⟨l⟩ := d; simp only at e; rw [e])
  exact this
theorem allR_two {x y : Tab} {a b : List En} (hx : readTb x.2.2 = some a) (hy : readTb y.2.2 = some b) : allR [x, y] = some [a, b] := by
  simp [allR, hx, hy]
theorem conv_of {u : World} {A : Option Addr} {c : Nat} {l : List UInt8} (h : Bz u A c l) : (convert 23 9 (.slice A l.length c)).run Try.prog u = .ok (.string ⟨l.toArray⟩) u := h.1.convert _ c rfl

set_option maxRecDepth 100000 in
set_option maxHeartbeats 1000000 in
theorem parts_walk (w : World) (la : Option Addr) (c : Nat) (L : List En) (key : ByteArray)
    (hL : CsAt w la (ecells L)) (hLn : L.length ≤ 9223372036854775807) (hLo : ∀ r ∈ L, OkEn r) :
    Calls Try.prog 3 #[.slice la L.length c, .string key] w fun e w' => e = .returned (.bool true) ∧ Below w.heap.size w w' := by
  have kL : ∀ u, Below w.heap.size w u → CsAt u la (ecells L) := fun u h => hL.keep h
  have HL := Lib.hid kL
  have H1 := build_yes (w.alloc (.cells #[.string ⟨#[97]⟩, .string ⟨#[98]⟩, .bool false] 29)) (some ⟨w.heap.size, 0, none⟩) 1 [enA] (cs_en w enA 29) (by simp) (fun r hr => by simp at hr; subst hr; exact ⟨by decide, by decide⟩) enA_ok
  have B0 : Below w.heap.size w (w.alloc (.cells #[.string ⟨#[97]⟩, .string ⟨#[98]⟩, .bool false] 29)) := (Below.refl _ _).alloc (Nat.le_refl _) _
  have H2 := Lib.hid (fun (u : World) A c' (hz : Bz u A c' (buildB [enA])) => scan_yes u A c' [enA] ⟨#[]⟩ ⟨#[]⟩ hz enA_ok)
  rw [enA_in] at H2
  simp only [List.length_cons, List.length_nil, Nat.zero_add] at H1
  generalize hB1 : buildB [enA] = Bl1 at *
  clear hB1 kL hL
  by_cases hE : entsE L = 0
  · by_cases hk : key = ⟨#[]⟩
    · subst hk
      have H3 := Lib.hid (fun (u : World) (hb : Below w.heap.size w u) => build_yes u la c L (HL.out u hb) hLn hLo hE)
      generalize hBl : buildB L = Bl at *
      clear hBl
      have hke := empty_yes
      go_enter Try.func3, Try.ntmps3
      go_wp2_with (go_at_call 4; refine H1.mono ?_; rintro e u1 ⟨A1, c1, rfl, z1, b1⟩; refine Hid.out ?_)
      refine Lib.hid ?_
      have B1 := B0.trans (b1.mono B0.size)
      go_wp2_with (go_at_call 5; refine (H2.out u1 A1 c1 z1).mono ?_; rintro e u2 ⟨A2, c2, rfl, s2, -, b2⟩; refine Hid.out ?_)
      refine Lib.hid ?_
      have B2 := B1.trans (b2.mono B1.size)
      clear H1 H2 b1 b2
      go_wp2_with (go_at_call 4; refine (H3.out u2 B2).mono ?_; rintro e u3 ⟨A3, c3, rfl, z3, b3⟩; refine Hid.out ?_)
      refine Lib.hid ?_
      have B3 := B2.trans (b3.mono B2.size)
      clear H3 b3
      go_wp2_with fail
      go_ret
      exact ⟨rfl, B3⟩
    · have hke := empty_no hk
      have hpa := parts_in hE key hk
      have hE1 := filt_ok hE (inE ⟨#[]⟩ key)
      have hE2 := filt_ok hE (inE key ⟨#[]⟩)
      have hl4 := (ents_zero hE).1
      have hf1 : (L.filter (inE ⟨#[]⟩ key)).length ≤ 400 := Nat.le_trans (List.length_filter_le _ _) hl4
      have hf2 : (L.filter (inE key ⟨#[]⟩)).length ≤ 400 := Nat.le_trans (List.length_filter_le _ _) hl4
      have hris := (ents_zero hE).2.2
      have H3 := Lib.hid (fun (u : World) (hb : Below w.heap.size w u) => build_yes u la c L (HL.out u hb) hLn hLo hE)
      have H4 := Lib.hid (fun (u : World) A c' (hz : Bz u A c' (buildB L)) => scan_yes u A c' L ⟨#[]⟩ key hz hE)
      have H5 := Lib.hid (fun (u : World) A c' (hz : Bz u A c' (buildB L)) => scan_yes u A c' L key ⟨#[]⟩ hz hE)
      have HR0 := read_build hE
      have HM2 : Hid (∀ (u : World) (p q : Option Addr) (cp cq : Nat), Bz u p cp (buildB L) → Bz u q cq (buildB L) → Calls Try.prog 7 #[.slice (some ⟨u.heap.size, 0, none⟩) 2 2, .bool true] (u.alloc (.cells #[.slice p (buildB L).length cp, .slice q (buildB L).length cq] 23)) fun e u' => ∃ A cap, e = .returned (.tuple #[.slice A (buildB L).length cap, .nilIface]) ∧ Bz u' A cap (buildB L) ∧ Below u.heap.size u u') := Lib.hid (fun u p q cp cq hp hq => by
        have hb := (Below.refl u.heap.size u).alloc (Nat.le_refl _) (.cells #[.slice p (buildB L).length cp, .slice q (buildB L).length cq] 23)
        refine (merge_yes _ (some ⟨u.heap.size, 0, none⟩) 2 [(p, cp, buildB L), (q, cq, buildB L)] (cs_two u _ _ _) (fun t ht => by
          simp at ht
          rcases ht with rfl | rfl
          · exact (tab_ok hp hE).keep hb
          · exact (tab_ok hq hE).keep hb) (by simp) [L, L] (allR_two HR0 HR0) L (merge_twice hris) hE).mono ?_
        rintro e u' ⟨A, cap, h1, h2, h3⟩
        exact ⟨A, cap, h1, h2, hb.trans (h3.mono (by simp))⟩)
      generalize hx : L.filter (inE ⟨#[]⟩ key) = X at *
      generalize hy : L.filter (inE key ⟨#[]⟩) = Y at *
      clear hx hy
      have HRx := read_build hE1
      have HRy := read_build hE2
      have HM1 : Hid (∀ (u : World) (p q : Option Addr) (cp cq : Nat), Bz u p cp (buildB Y) → Bz u q cq (buildB X) → Calls Try.prog 7 #[.slice (some ⟨u.heap.size, 0, none⟩) 2 2, .bool true] (u.alloc (.cells #[.slice p (buildB Y).length cp, .slice q (buildB X).length cq] 23)) fun e u' => ∃ A cap, e = .returned (.tuple #[.slice A (buildB L).length cap, .nilIface]) ∧ Bz u' A cap (buildB L) ∧ Below u.heap.size u u') := Lib.hid (fun u p q cp cq hp hq => by
        have hb := (Below.refl u.heap.size u).alloc (Nat.le_refl _) (.cells #[.slice p (buildB Y).length cp, .slice q (buildB X).length cq] 23)
        refine (merge_yes _ (some ⟨u.heap.size, 0, none⟩) 2 [(p, cp, buildB Y), (q, cq, buildB X)] (cs_two u _ _ _) (fun t ht => by
          simp at ht
          rcases ht with rfl | rfl
          · exact (tab_ok hp hE2).keep hb
          · exact (tab_ok hq hE1).keep hb) (by simp) [Y, X] (allR_two HRy HRx) L (by rw [merge_parts (a := X) (b := Y) (by rw [hpa]; exact hris), hpa]) hE).mono ?_
        rintro e u' ⟨A, cap, h1, h2, h3⟩
        exact ⟨A, cap, h1, h2, hb.trans (h3.mono (by simp))⟩)
      have HBx := Lib.hid (fun (u : World) A c' (h : CsAt u A (ecells X)) => build_yes u A c' X h (by omega) (ents_oks hE1) hE1)
      have HBy := Lib.hid (fun (u : World) A c' (h : CsAt u A (ecells Y)) => build_yes u A c' Y h (by omega) (ents_oks hE2) hE2)
      have HPA := Lib.hid hpa
      generalize hBl : buildB L = Bl at *
      generalize hBx : buildB X = Bx at *
      generalize hBy : buildB Y = By at *
      clear hBl hBx hBy hE1 hE2 HRx HRy HR0 hpa hE hk hris
      go_enter Try.func3, Try.ntmps3
      go_wp2_with (go_at_call 4; refine H1.mono ?_; rintro e u1 ⟨A1, c1, rfl, z1, b1⟩; refine Hid.out ?_)
      refine Lib.hid ?_
      have B1 := B0.trans (b1.mono B0.size)
      go_wp2_with (go_at_call 5; refine (H2.out u1 A1 c1 z1).mono ?_; rintro e u2 ⟨A2, c2, rfl, s2, -, b2⟩; refine Hid.out ?_)
      refine Lib.hid ?_
      have B2 := B1.trans (b2.mono B1.size)
      clear H1 H2 b1 b2 s2 z1 B1 B0
      go_wp2_with (go_at_call 4; refine (H3.out u2 B2).mono ?_; rintro e u3 ⟨A3, c3, rfl, z3, b3⟩; refine Hid.out ?_)
      refine Lib.hid ?_
      have B3 := B2.trans (b3.mono B2.size)
      clear H3 b3 B2
      go_wp2_with (go_at_call 5; refine (H4.out u3 A3 c3 z3).mono ?_; rintro e u4 ⟨A4, c4, rfl, s4, n4, b4⟩; refine Hid.out ?_)
      refine Lib.hid ?_
      have B4 := B3.trans (b4.mono B3.size)
      have z4 := z3.keep b4
      clear H4 b4 B3 z3
      go_wp2_with (go_at_call 5; refine (H5.out u4 A3 c3 z4).mono ?_; rintro e u5 ⟨A5, c5, rfl, s5, n5, b5⟩; refine Hid.out ?_)
      refine Lib.hid ?_
      have B5 := B4.trans (b5.mono B4.size)
      have z5 := z4.keep b5
      have s4' := s4.keep b5
      clear H5 b5 B4 z4 s4
      go_wp2_with (at_builtin; refine append_es rfl _ _ rfl u5.heap.size (.slice none 0 0) [] rfl (World.ownsRow_nil _ _ _ _) A4 _ c4 X rfl rfl s4' n4 (by simp; omega) (Nat.le_refl _) ?_)
      intro v6 u6 o6 b6
      try simp only [List.nil_append] at o6
      have s5' := s5.keep b6
      have hz6 := b6.size
      obtain ⟨A6, c6, rfl⟩ := row_slice o6
      go_wp2_with (at_builtin; refine append_es rfl _ _ rfl u5.heap.size _ X rfl o6 A5 _ c5 Y rfl rfl s5' n5 (by omega) hz6 ?_)
      intro v7 u7 o7 b7
      have o7' : u7.ownsRow u5.heap.size 29 3 v7 (X ++ Y).length (ecells (X ++ Y)) := by first | exact o7 | (rw [List.length_append]; exact o7)
      rw [HPA.out] at o7'
      clear o7
      obtain ⟨A7, c7, rfl⟩ := row_slice o7'
      have b57 := b6.trans b7
      have s7 := (own_cs o7' (ecells_len L)).1
      have s4_7 := s4'.keep b57
      have s5_7 := s5.keep b57
      have z7 := z5.keep b57
      have B7 := B5.trans (b57.mono B5.size)
      clear s5' s5 s4' z5 b57 b6 b7 o6 o7' B5 n4 n5
      go_wp2_with (go_at_call 6; refine (sameEns_any u7 A7 la c7 c L s7 (HL.out u7 B7) hLn).mono ?_; rintro e u8 ⟨rfl, b8⟩; refine Hid.out ?_)
      refine Lib.hid ?_
      have s4_8 := s4_7.keep b8
      have s5_8 := s5_7.keep b8
      have z8 := z7.keep b8
      have B8 := B7.trans (b8.mono B7.size)
      clear s4_7 s5_7 z7 B7 b8 s7
      go_wp2_with (go_at_call 4; refine (HBx.out u8 A4 c4 s4_8).mono ?_; rintro e u9 ⟨A9, c9, rfl, z9, b9⟩; refine Hid.out ?_)
      refine Lib.hid ?_
      have s5_9 := s5_8.keep b9
      have y9 := z8.keep b9
      have B9 := B8.trans (b9.mono B8.size)
      clear s4_8 s5_8 z8 B8 b9 HBx
      go_wp2_with (go_at_call 4; refine (HBy.out u9 A5 c5 s5_9).mono ?_; rintro e u10 ⟨A10, c10, rfl, z10, b10⟩; refine Hid.out ?_)
      refine Lib.hid ?_
      have x10 := z9.keep b10
      have y10 := y9.keep b10
      have B10 := B9.trans (b10.mono B9.size)
      clear s5_9 z9 y9 B9 b10 HBy
      go_wp2_with (go_at_call 7; refine (HM1.out u10 A10 A9 c10 c9 z10 x10).mono ?_; rintro e u11 ⟨A11, c11, rfl, z11, b11⟩; refine Hid.out ?_)
      refine Lib.hid ?_
      have y11 := y10.keep b11
      have B11 := B10.trans (b11.mono B10.size)
      clear x10 z10 y10 B10 b11 HM1
      go_wp2_with (go_at_call 7; refine (HM2.out u11 A3 A3 c3 c3 y11 y11).mono ?_; rintro e u12 ⟨A12, c12, rfl, z12, b12⟩; refine Hid.out ?_)
      refine Lib.hid ?_
      have k1 := conv_of (z11.keep b12)
      have k2 := conv_of (y11.keep b12)
      have k3 := conv_of z12
      have B12 := B11.trans (b12.mono B11.size)
      clear y11 z11 z12 B11 b12 HM2
      go_wp2_with fail
      go_ret
      exact ⟨rfl, B12⟩
  · have H3 := Lib.hid (fun (u : World) (hb : Below w.heap.size w u) => build_no u la c L (HL.out u hb) hLn hLo hE)
    generalize ((entsE L : Nat) : Int) = E at *
    go_enter Try.func3, Try.ntmps3
    go_wp2_with (go_at_call 4; refine H1.mono ?_; rintro e u1 ⟨A1, c1, rfl, z1, b1⟩; refine Hid.out ?_)
    refine Lib.hid ?_
    have B1 := B0.trans (b1.mono B0.size)
    go_wp2_with (go_at_call 5; refine (H2.out u1 A1 c1 z1).mono ?_; rintro e u2 ⟨A2, c2, rfl, s2, -, b2⟩; refine Hid.out ?_)
    refine Lib.hid ?_
    have B2 := B1.trans (b2.mono B1.size)
    clear H1 H2 b1 b2
    go_wp2_with (go_at_call 4; refine (H3.out u2 B2).mono ?_; rintro e u3 ⟨rfl, b3⟩; refine Hid.out ?_)
    refine Lib.hid ?_
    have B3 := B2.trans (b3.mono B2.size)
    clear H3 b3
    go_wp2_with fail
    go_ret
    exact ⟨rfl, B3⟩
end Go.Proofs.Ytpjjjelibpoohab
