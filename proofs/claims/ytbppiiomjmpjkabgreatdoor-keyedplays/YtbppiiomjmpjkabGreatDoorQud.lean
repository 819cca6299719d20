/- KeyedPlays: the walk, where more than 100 states are put, more than 100 are taken away. -/
import Derived.Test.YtbppiiomjmpjkabGreatDoorQp
namespace Go.Proofs.YtbppiiomjmpjkabGreatDoor
open Go.RowKit Go.Shelf
set_option linter.unusedVariables false

set_option maxRecDepth 100000 in
set_option maxHeartbeats 20000000 in
theorem plays_d (w : World) (la lg : Option Addr) (c cg : Nat) (L G : List Hd) (low high : Int) (h : CsAt w la (hcells L)) (hok : ∀ r ∈ L, OkHd r) (hlen : L.length ≤ 9223372036854775807) (h2 : CsAt w lg (hcells G)) (hok2 : ∀ r ∈ G, OkHd r) (hlen2 : G.length ≤ 9223372036854775807) (hg : w.cell? ⟨0, 0, none⟩ = some ET) (hLc : 100 < L.length) (hGc : 100 < G.length) :
    Calls Tryz.prog 3 #[.slice la L.length c, .slice lg G.length cg, .int .i64 low, .int .i64 high] w fun e w' => e = .returned (.bool true) ∧ Below w.heap.size w w' := by
  have e0 : errV 0 = .nilIface := rfl
  obtain ⟨i0, hi, hz0, hz1, hz2⟩ := info_parts infoHd
  obtain ⟨R, M, hM, hR, HN⟩ := new_ex w
  have HH := Lib.hid (fun (u : World) (hb : Below w.heap.size w u) => h.keep hb)
  have HO := Lib.hid hok
  have HG := Lib.hid (fun (u : World) (hb : Below w.heap.size w u) => h2.keep hb)
  have HOG := Lib.hid hok2
  have HET := Lib.hid (fun (u : World) (hb : Below w.heap.size w u) => et_below hg hb)
  clear h hok h2 hok2 hg
  go_enter Tryz.func3, Tryz.ntmps3
  go_wp2_with (go_at_call 5; refine HN.mono ?_; rintro e w1 ⟨rfl, k1, b1⟩; refine Hid.out ?_)
  refine Lib.hid ?_
  clear HN
  go_wp2_with fail
  go_loopw [10, 11] (fun v i wr => ∃ (k : Nat) (A : Option Addr) (ca : Nat) (S : List Hd), k ≤ L.length ∧ k ≤ 100 ∧ i = .int .i64 k ∧ v = .slice A S.length ca ∧ S.length ≤ k ∧ Hid (GoodL S) ∧ CsAt wr A (hcells S) ∧ KyAt wr R M S ∧ Below w.heap.size w wr) (fun _ i _ => 100 - (intOf i).toNat)
  case atStart => exact ⟨0, none, 0, [], by omega, by omega, rfl, rfl, by simp, Lib.hid ⟨by simp, by simp, List.Pairwise.nil⟩, .inl rfl, k1, b1⟩
  case round =>
    clear k1 b1
    obtain ⟨k, A, ca, S, hk, hk1, rfl, rfl, hSl, hgS, hcS, hK, hB⟩ := hrel
    by_cases hlt : k < L.length ∧ k < 100
    · obtain ⟨hlt, hlt1⟩ := hlt
      have hlt' : (k : Int) < L.length := by omega
      have hlt1' : (k : Int) < 100 := by omega
      obtain ⟨b, o, rfl, c0, c1, c2, c3⟩ := hds_at (HH.out wr hB) k hlt
      have hor := HO.out _ (List.getElem_mem hlt)
      have HSh := fun u => sheld_any L[k] u (by have := hor.2.1; omega)
      have hC : ∀ u, Below w.heap.size w u → u.cell? ⟨b, o + k * 4, none⟩ = some (.int .i64 L[k].nd) ∧ u.cell? ⟨b, o + k * 4 + 1, none⟩ = some (.string L[k].key) ∧ u.cell? ⟨b, o + k * 4 + 2, none⟩ = some (.int .i64 L[k].a) ∧ u.cell? ⟨b, o + k * 4 + 3, none⟩ = some (.int .i64 L[k].b) := fun u hu => by
        obtain ⟨b', o', eb, q0, q1, q2, q3⟩ := hds_at (HH.out u hu) k hlt
        simp only [Option.some.injEq, Addr.mk.injEq, and_true] at eb
        obtain ⟨rfl, rfl⟩ := eb
        exact ⟨q0, q1, q2, q3⟩
      cases hbad : badHd L[k] with
      | true =>
        rw [hbad] at HSh
        have HP := fun (u : World) (hu : Below w.heap.size w u) (ku : KyAt u R M S) => put_bad ku L[k] (by have := hor.2.1; omega) hbad
        clear hbad hor
        generalize L[k] = r at *
        obtain ⟨nd, key, a, bv⟩ := r
        simp only [hdV, Bool.not_true] at c0 c1 c2 c3 HSh HP hC
        have HC := Lib.hid hC
        clear hC
        go_wp2_with (go_at_call 6; refine (HSh _).mono ?_; rintro e u1 ⟨rfl, b1⟩; refine Hid.out ?_)
        refine Lib.hid ?_
        have B1 := hB.trans (b1.mono hB.size)
        have K1 := hK.keep b1
        have C1 := hcS.keep b1
        have HP1 := HP u1 B1 K1
        clear c0 c1 c2 c3 HSh HP hK hcS b1 hB
        obtain ⟨c0, c1, c2, c3⟩ := HC.out u1 B1
        go_wp2_with (go_at_call 8; refine HP1.mono ?_; rintro e u2 ⟨rfl, b2⟩; refine Hid.out ?_)
        refine Lib.hid ?_
        have B2 := B1.trans (b2.mono B1.size)
        have HE := error_yes 1 u2 (HET.out u2 B2)
        clear HP1 c0 c1 c2 c3
        go_wp2_with (go_at_call 7; refine HE.mono ?_; rintro e u3 ⟨rfl, b3⟩; refine Hid.out ?_)
        refine Lib.hid ?_
        have B3 := B2.trans (b3.mono B2.size)
        have K3 := (K1.keep b2).keep b3
        have C3 := (C1.keep b2).keep b3
        clear HE K1 C1 B1 b2 b3 B2
        go_wp2_with fail
        go_roundw
        case rel => exact ⟨k + 1, A, ca, S, by omega, by omega, by go_num, rfl, by omega, hgS, C3, K3, B3⟩
        case measure => simp [intOf]; omega
      | false =>
        rw [hbad] at HSh
        have HP := fun (u : World) (ku : KyAt u R M S) => put_ok ku L[k] hbad (.inr (by omega)) (by omega)
        have HPl := fun (u : World) (cu : CsAt u A (hcells S)) => plc_any u A ca S L[k] true cu (by omega)
        have hgS2 := putP_good hgS.out hbad hor (by omega)
        have hpl := putP_len hgS.out.2.2 L[k]
        have hpl2 : (putP S L[k]).length ≤ k + 1 := by split at hpl <;> omega
        have epl : plc L[k] (!true) S = putP S L[k] := plc_put hgS.out.2.2 L[k]
        rw [epl] at HPl
        have HG2 := Lib.hid hgS2
        clear hbad hor hgS2 hpl epl hgS
        generalize putP S L[k] = S2 at *
        generalize L[k] = r at *
        obtain ⟨nd, key, a, bv⟩ := r
        simp only [hdV, Bool.not_false, e0] at c0 c1 c2 c3 HSh HP hC HPl
        have HC := Lib.hid hC
        clear hC
        go_wp2_with (go_at_call 6; refine (HSh _).mono ?_; rintro e u1 ⟨rfl, b1⟩; refine Hid.out ?_)
        refine Lib.hid ?_
        have B1 := hB.trans (b1.mono hB.size)
        have K1 := hK.keep b1
        have C1 := hcS.keep b1
        have HP1 := HP u1 K1
        clear c0 c1 c2 c3 HSh HP hK hcS b1 hB
        obtain ⟨c0, c1, c2, c3⟩ := HC.out u1 B1
        go_wp2_with (go_at_call 8; refine HP1.mono ?_; rintro e u2 ⟨rfl, K2, f2⟩; refine Hid.out ?_)
        refine Lib.hid ?_
        have B2 := B1.trans (f2.toBelow B1.size (by simpa using hM))
        have C2 := csM C1 K1.mp f2
        have HE := error_nil u2
        clear HP1 c0 c1 c2 c3 K1 C1 f2 B1
        obtain ⟨c0, c1, c2, c3⟩ := HC.out u2 B2
        have HPl2 := HPl u2 C2
        go_wp2_with (go_at_call 7; refine HE.mono ?_; rintro e u3 ⟨rfl, rfl⟩; refine Hid.out ?_)
        refine Lib.hid ?_
        clear HE
        go_wp2_with (go_at_call 9; refine HPl2.mono ?_; rintro e u4 ⟨A4, c4, rfl, C4, b4⟩; refine Hid.out ?_)
        refine Lib.hid ?_
        have B4 := B2.trans (b4.mono B2.size)
        have K4 := K2.keep b4
        clear HPl HPl2 C2 K2 b4 c0 c1 c2 c3 B2
        go_wp2_with fail
        go_roundw
        case rel => exact ⟨k + 1, A4, c4, S2, by omega, by omega, by go_num, rfl, by omega, HG2, C4, K4, B4⟩
        case measure => simp [intOf]; omega
    · have hl1 : (k : Int) < L.length := by omega
      have hl2 : ¬ (k : Int) < 100 := by omega
      clear HH HO hlt
      have hS1 : S.length ≤ 100 := by omega
      go_wp2_with fail
      go_loopw [10, 15] (fun v i wr => ∃ (k : Nat) (A : Option Addr) (ca : Nat) (T : List Hd), k ≤ G.length ∧ k ≤ 100 ∧ i = .int .i64 k ∧ v = .slice A T.length ca ∧ T.length ≤ 100 ∧ Hid (GoodL T) ∧ CsAt wr A (hcells T) ∧ KyAt wr R M T ∧ Below w.heap.size w wr) (fun _ i _ => 100 - (intOf i).toNat)
      case atStart => exact ⟨0, A, ca, S, by omega, by omega, rfl, rfl, hS1, hgS, hcS, hK, hB⟩
      case round =>
        clear hK hcS hgS hB hS1 hSl
        obtain ⟨k, A, ca, T, hk, hk1, rfl, rfl, hTl, hgT, hcT, hK, hB⟩ := hrel
        by_cases hlt : k < G.length ∧ k < 100
        · obtain ⟨hlt, hlt1⟩ := hlt
          have hlt' : (k : Int) < G.length := by omega
          have hlt1' : (k : Int) < 100 := by omega
          have hor := HOG.out _ (List.getElem_mem hlt)
          have hC : ∃ b o, lg = some ⟨b, o, none⟩ ∧ ∀ u, Below w.heap.size w u → u.cell? ⟨b, o + k * 4, none⟩ = some (.int .i64 G[k].nd) ∧ u.cell? ⟨b, o + k * 4 + 1, none⟩ = some (.string G[k].key) ∧ u.cell? ⟨b, o + k * 4 + 2, none⟩ = some (.int .i64 G[k].a) ∧ u.cell? ⟨b, o + k * 4 + 3, none⟩ = some (.int .i64 G[k].b) := by
            obtain ⟨b, o, rfl, -⟩ := hds_at (HG.out wr hB) k hlt
            refine ⟨b, o, rfl, fun u hu => ?_⟩
            obtain ⟨b', o', eb, q0, q1, q2, q3⟩ := hds_at (HG.out u hu) k hlt
            simp only [Option.some.injEq, Addr.mk.injEq, and_true] at eb
            obtain ⟨rfl, rfl⟩ := eb
            exact ⟨q0, q1, q2, q3⟩
          obtain ⟨gb, go, rfl, hC⟩ := hC
          have hkk : OkK G[k].nd G[k].key := ⟨hor.1, by have := hor.2.1; unfold maxLen; omega⟩
          generalize G[k] = r at *
          obtain ⟨nd, key, a, bv⟩ := r
          simp only at hC hkk
          have HC := Lib.hid hC
          clear hC hor
          obtain ⟨g0, g1, g2, g3⟩ := HC.out wr hB
          have hHC : ∀ u, CsAt u A (hcells T) → ∀ j (h : j < T.length), ∃ b o, A = some ⟨b, o, none⟩ ∧ u.cell? ⟨b, o + j * 4, none⟩ = some (.int .i64 T[j].nd) ∧ u.cell? ⟨b, o + j * 4 + 1, none⟩ = some (.string T[j].key) := fun u hu j hj => by
            obtain ⟨b, o, e, q0, q1, -, -⟩ := hds_at hu j hj
            exact ⟨b, o, e, q0, q1⟩
          have HHC := Lib.hid hHC
          clear hHC
          go_wp2_with fail
          go_loopw [16, 17] (fun ev jv wx => ∃ (j : Nat) (e : Nat), j ≤ T.length ∧ jv = .int .i64 j ∧ ev = .int .i64 e ∧ Hid (e = if (findH (T.take j) nd key).isSome then 0 else 6) ∧ (e = 0 ∨ e = 6) ∧ Below wr.heap.size wr wx) (fun _ jv _ => T.length - (intOf jv).toNat)
          case atStart => exact ⟨0, 6, by omega, rfl, rfl, Lib.hid (by simp [findH]), .inr rfl, Below.refl _ _⟩
          case round =>
            rename World => wx
            obtain ⟨j, e, hj, rfl, rfl, he, he2, hb⟩ := hrel
            by_cases hjt : j < T.length
            · have hjt' : (j : Int) < T.length := by omega
              obtain ⟨b, o, rfl, c0, c1⟩ := HHC.out wx (hcT.keep hb) j hjt
              obtain ⟨s0, s1, s2, s3⟩ := HC.out wx (hB.trans (hb.mono hB.size))
              have hst := take_find T nd key j hjt
              have hia : isAt nd key T[j] = decide (T[j].nd = nd ∧ T[j].key = key) := rfl
              rw [hia] at hst
              have HST := Lib.hid hst
              clear hst hia g0 g1 g2 g3 hK
              generalize T[j].nd = xn at *
              generalize T[j].key = xk at *
              have hgoal : ((xn == nd) = true ∧ (xk.toList == key.toList) = true ∧ decide (xn = nd ∧ xk = key) = true) ∨ (((xn == nd) = false ∨ ((xn == nd) = true ∧ (xk.toList == key.toList) = false)) ∧ decide (xn = nd ∧ xk = key) = false) := by
                by_cases h1 : xn = nd
                · by_cases h2 : xk = key
                  · exact .inl ⟨by simpa using h1, by rw [h2]; exact str_eq key, by simp [h1, h2]⟩
                  · exact .inr ⟨.inr ⟨by simpa using h1, str_ne h2⟩, by simp [h2]⟩
                · exact .inr ⟨.inl (by simpa using h1), by simp [h1]⟩
              have hbd : Below wr.heap.size wr wx := hb
              rcases hgoal with ⟨n1, n2, n3⟩ | ⟨n1, n3⟩
              · have HE : Hid ((0 : Nat) = if (findH (T.take (j + 1)) nd key).isSome then 0 else 6) := Lib.hid (by rw [HST.out, n3]; simp)
                clear n3 he he2 HST
                go_wp2_with fail
                go_quiet (fail)
                go_wp2_with fail
                go_roundw
                case rel => exact ⟨j + 1, 0, by omega, by go_num, rfl, HE, .inl rfl, ⟨hbd.os, hbd.tape, hbd.output, hbd.size, hbd.block⟩⟩
                case measure => simp [intOf]; omega
              · have HE : Hid (e = if (findH (T.take (j + 1)) nd key).isSome then 0 else 6) := Lib.hid (by rw [HST.out, n3, he.out]; simp)
                clear n3 he HST
                rcases n1 with n1 | ⟨n1, n2⟩
                all_goals
                  go_wp2_with fail
                  go_quiet (fail)
                  go_wp2_with fail
                  go_roundw
                  case rel => exact ⟨j + 1, e, by omega, by go_num, rfl, HE, he2, ⟨hbd.os, hbd.tape, hbd.output, hbd.size, hbd.block⟩⟩
                  case measure => simp [intOf]; omega
            · have hjn : ¬ (j : Int) < T.length := by omega
              have hE1 := he.out
              rw [List.take_of_length_le (by omega)] at hE1
              have BW := hB.trans (hb.mono hB.size)
              have KW := hK.keep hb
              have CW := hcT.keep hb
              clear g0 g1 g2 g3 hK hcT hB hb HHC he he2
              generalize wx = W at *
              obtain ⟨g0, g1, g2, g3⟩ := HC.out W BW
              have HS := Lib.hid (fun (u : World) (hu : Below W.heap.size W u) => (⟨(HC.out u (BW.trans (hu.mono BW.size))).1, (HC.out u (BW.trans (hu.mono BW.size))).2.1⟩ : u.cell? ⟨gb, go + k * 4, none⟩ = some (.int .i64 nd) ∧ u.cell? ⟨gb, go + k * 4 + 1, none⟩ = some (.string key)))
              have HKW := Lib.hid KW
              have HCW := Lib.hid CW
              cases hf : findH T nd key with
              | some x =>
                obtain ⟨-, hx1, hx2⟩ := (findH_iff hgT.out.2.2 nd key x).1 hf
                obtain ⟨xn, xk, xa, xb⟩ := x
                simp only at hx1 hx2
                subst hx1 hx2
                have hGet : ∀ u, Below W.heap.size W u → Calls Tryz.prog 10 #[.pointer (some ⟨R, 0, none⟩), .int .i64 xn, .string xk] u fun e w' => e = .returned (.tuple #[.agg #[.int .i64 xn, .string xk, .int .i64 xa, .int .i64 xb], .nilIface]) ∧ Below u.heap.size u w' := fun u hu => by
                  have := get_any (HKW.out.keep hu) xn xk hkk
                  rw [hf] at this
                  exact this
                rw [hf] at hE1
                have e6 : e = 0 := by simpa using hE1
                subst e6
                have HFd := Lib.hid hf
                clear hE1 hf KW CW g2 g3
                go_wp2_with fail
                go_region_held3 (fun u => u.cell? ⟨gb, go + k * 4, none⟩ = some (.int .i64 xn) ∧ u.cell? ⟨gb, go + k * 4 + 1, none⟩ = some (.string xk)) (first | exact ⟨g0, g1⟩ | exact HS.out _ (by repeat (first | assumption | with_reducible refine Below.drew ?_ | with_reducible refine Below.setCell ?_ (by first | exact b2.size | exact Nat.le_refl _ | (simp; done) | (simp; omega)) _ | with_reducible refine Below.alloc ?_ (by first | exact b2.size | exact Nat.le_refl _ | (simp; done) | (simp; omega)) _ | with_reducible exact Below.refl _ _))) ((go_at_call 10; refine (hGet _ (by repeat (first | with_reducible refine Below.drew ?_ | with_reducible refine Below.alloc ?_ (by simp) _ | with_reducible exact Below.refl _ _))).mono ?_; rintro e u1 ⟨rfl, b1⟩; have b2 : Below W.heap.size W u1 := below_after b1 (by repeat (first | with_reducible refine Below.drew ?_ | with_reducible refine Below.alloc ?_ (by simp) _ | with_reducible exact Below.refl _ _)); try (obtain ⟨⟨z0, z1, z2, z3⟩, zf⟩ := new_after b1; have y0 := zf 0; have y1 := zf 1; have y2 := zf 2; have y3 := zf 3; clear zf); clear b1))
                all_goals first
                  | (with_reducible change Exit.then _ _ _ _ (World.alloc _ _)
                     have hV := b2.alloc b2.size (.cells #[.int .i64 xn, .string xk, .int .i64 xa, .int .i64 xb] 27)
                     have hq : ∃ hb, hb = u1.heap.size ∧ W.heap.size ≤ hb ∧ hb < (u1.alloc (.cells #[.int .i64 xn, .string xk, .int .i64 xa, .int .i64 xb] 27)).heap.size ∧ (u1.alloc (.cells #[.int .i64 xn, .string xk, .int .i64 xa, .int .i64 xb] 27)).cell? ⟨hb, 0, none⟩ = some (.int .i64 xn) ∧ (u1.alloc (.cells #[.int .i64 xn, .string xk, .int .i64 xa, .int .i64 xb] 27)).cell? ⟨hb, 1, none⟩ = some (.string xk) ∧ (u1.alloc (.cells #[.int .i64 xn, .string xk, .int .i64 xa, .int .i64 xb] 27)).cell? ⟨hb, 2, none⟩ = some (.int .i64 xa) ∧ (u1.alloc (.cells #[.int .i64 xn, .string xk, .int .i64 xa, .int .i64 xb] 27)).cell? ⟨hb, 3, none⟩ = some (.int .i64 xb) := ⟨u1.heap.size, rfl, b2.size, by simp, by simp, by simp, by simp, by simp⟩
                     generalize u1.alloc (.cells #[.int .i64 xn, .string xk, .int .i64 xa, .int .i64 xb] 27) = V at hV hq ⊢
                     obtain ⟨hb, hbe, hb1, hb2, p0, p1, p2, p3⟩ := hq
                     rw [← hbe])
                  | (have hV := (((b2.setCell (p := ⟨W.heap.size, 0, none⟩) (Nat.le_refl _) (.int .i64 xn)).setCell (p := ⟨W.heap.size, 1, none⟩) (Nat.le_refl _) (.string xk)).setCell (p := ⟨W.heap.size, 2, none⟩) (Nat.le_refl _) (.int .i64 xa)).setCell (p := ⟨W.heap.size, 3, none⟩) (Nat.le_refl _) (.int .i64 xb)
                     have hq : ∃ hb, hb = W.heap.size ∧ W.heap.size ≤ hb ∧ hb < ((((u1.setCell ⟨W.heap.size, 0, none⟩ (.int .i64 xn)).setCell ⟨W.heap.size, 1, none⟩ (.string xk)).setCell ⟨W.heap.size, 2, none⟩ (.int .i64 xa)).setCell ⟨W.heap.size, 3, none⟩ (.int .i64 xb)).heap.size ∧ ((((u1.setCell ⟨W.heap.size, 0, none⟩ (.int .i64 xn)).setCell ⟨W.heap.size, 1, none⟩ (.string xk)).setCell ⟨W.heap.size, 2, none⟩ (.int .i64 xa)).setCell ⟨W.heap.size, 3, none⟩ (.int .i64 xb)).cell? ⟨hb, 0, none⟩ = some (.int .i64 xn) ∧ ((((u1.setCell ⟨W.heap.size, 0, none⟩ (.int .i64 xn)).setCell ⟨W.heap.size, 1, none⟩ (.string xk)).setCell ⟨W.heap.size, 2, none⟩ (.int .i64 xa)).setCell ⟨W.heap.size, 3, none⟩ (.int .i64 xb)).cell? ⟨hb, 1, none⟩ = some (.string xk) ∧ ((((u1.setCell ⟨W.heap.size, 0, none⟩ (.int .i64 xn)).setCell ⟨W.heap.size, 1, none⟩ (.string xk)).setCell ⟨W.heap.size, 2, none⟩ (.int .i64 xa)).setCell ⟨W.heap.size, 3, none⟩ (.int .i64 xb)).cell? ⟨hb, 2, none⟩ = some (.int .i64 xa) ∧ ((((u1.setCell ⟨W.heap.size, 0, none⟩ (.int .i64 xn)).setCell ⟨W.heap.size, 1, none⟩ (.string xk)).setCell ⟨W.heap.size, 2, none⟩ (.int .i64 xa)).setCell ⟨W.heap.size, 3, none⟩ (.int .i64 xb)).cell? ⟨hb, 3, none⟩ = some (.int .i64 xb) := ⟨W.heap.size, rfl, Nat.le_refl _, by have := cell_lt z0; simpa using this, by simp [go_sem, z0], by simp [go_sem, z1], by simp [go_sem, z2], by simp [go_sem, z3]⟩
                     generalize (((u1.setCell ⟨W.heap.size, 0, none⟩ (.int .i64 xn)).setCell ⟨W.heap.size, 1, none⟩ (.string xk)).setCell ⟨W.heap.size, 2, none⟩ (.int .i64 xa)).setCell ⟨W.heap.size, 3, none⟩ (.int .i64 xb) = V at hV hq ⊢
                     obtain ⟨hb, hbe, hb1, hb2, p0, p1, p2, p3⟩ := hq
                     rw [← hbe])
                all_goals
                  clear g0 g1 hGet hbe
                  obtain ⟨g0, g1⟩ := HS.out V hV
                  have KV := HKW.out.keep hV
                  have CV := HCW.out.keep hV
                  have BV := BW.trans (hV.mono BW.size)
                  have HD := del_some (KV.drewN 1) xn xk hkk ⟨xn, xk, xa, xb⟩ HFd.out
                  have hdw : V.drewN 1 = V.drew := rfl
                  rw [hdw, e0] at HD
                  have hfB : ∀ u, Fr [M] V.drew u → Below w.heap.size w u := fun u f => BV.trans (Below.mono (B := w.heap.size) (Fr.toBelow (xs := [M]) (a := V) ⟨f.os, f.tape, f.output, f.size, f.block⟩ BV.size (by simpa using hM)) (Nat.le_refl _))
                  have HFB := Lib.hid hfB
                  have HCM := Lib.hid (fun (u : World) (f : Fr [M] V.drew u) => csM CV KV.mp ⟨f.os, f.tape, f.output, f.size, f.block⟩)
                  have hneM : hb ≠ M := by
                    intro e
                    obtain ⟨es, cl, hm⟩ := KV.mp.map
                    rw [← e] at hm
                    simp [World.cell?, hm] at p0
                  have hpc : ∀ u, Fr [M] V.drew u → u.cell? ⟨hb, 0, none⟩ = some (.int .i64 xn) ∧ u.cell? ⟨hb, 1, none⟩ = some (.string xk) := fun u f => ⟨(f.cell (p := ⟨hb, 0, none⟩) hb2 (by simpa using hneM)).trans p0, (f.cell (p := ⟨hb, 1, none⟩) hb2 (by simpa using hneM)).trans p1⟩
                  have HPC := Lib.hid hpc
                  clear hfB hdw KV CV hpc hV HS
                  go_wp2_with (go_at_call 7; refine (error_nil _).mono ?_; rintro e u4 ⟨rfl, rfl⟩; refine Hid.out ?_)
                all_goals
                  refine Lib.hid ?_
                  go_wp2_with fail
                  go_region_held3 (fun u => u.cell? ⟨gb, go + k * 4, none⟩ = some (.int .i64 xn) ∧ u.cell? ⟨gb, go + k * 4 + 1, none⟩ = some (.string xk)) (first | go_keep | exact ⟨g0, g1⟩ | exact ⟨(HC.out _ (HFB.out _ f2)).1, (HC.out _ (HFB.out _ f2)).2.1⟩) (first | (go_at_call 11; refine HD.mono ?_; rintro e u2 ⟨rfl, k2, f2⟩) | (go_at_call 7; refine (error_nil _).mono ?_; rintro e u4 ⟨rfl, rfl⟩))
                all_goals
                  have B5 := HFB.out _ f2
                  have C5 := HCM.out _ f2
                  obtain ⟨h0, h1⟩ := HPC.out _ f2
                  clear g0 g1 p0 p1 p2 p3 HD HFB HCM HPC f2 hneM BV
                  obtain ⟨g0, g1, g2, g3⟩ := HC.out u2 B5
                  have K5 := Lib.hid k2
                  clear k2
                  have HPl := fun (u : World) (cu : CsAt u A (hcells T)) => plc_any u A ca T ⟨xn, xk, a, bv⟩ false cu (by omega)
                  have ept : plc (⟨xn, xk, a, bv⟩ : Hd) (!false) T = delP T xn xk := plc_true _ _
                  rw [ept] at HPl
                  simp only [hdV] at HPl
                  clear ept
                  go_wp2_with fail
                  go_quiet (fail)
                  have B6 : Below w.heap.size w (u2.drewN nq) := ⟨B5.os, B5.tape, B5.output, B5.size, B5.block⟩
                  have bdr : Below u2.heap.size u2 (u2.drewN nq) := ⟨rfl, rfl, rfl, Nat.le_refl _, fun _ _ => rfl⟩
                  have K6 := Lib.hid (K5.out.keep bdr)
                  have C6 := C5.keep bdr
                  generalize u2.drewN nq = U6 at *
                  clear bdr K5 C5 B5 g0 g1 g2 g3
                  obtain ⟨g0, g1, g2, g3⟩ := HC.out U6 B6
                  have HPl6 := HPl U6 C6
                  go_wp2_with (go_at_call 9; refine HPl6.mono ?_; rintro e u7 ⟨A7, c7, rfl, C7, b7⟩; refine Hid.out ?_)
                all_goals
                  refine Lib.hid ?_
                  have B7 := B6.trans (b7.mono B6.size)
                  have K7 := K6.out.keep b7
                  have hdl := delP_len hgT.out.2.2 xn xk
                  have HK7 := Lib.hid K7
                  have HG7 := Lib.hid (delP_good hgT.out xn xk)
                  clear HPl HPl6 K6 C6 b7 g0 g1 g2 g3 K7 B6
                  generalize delP T xn xk = T7 at *
                  go_wp2_with fail
                  go_roundw
                  case rel => exact ⟨k + 1, A7, c7, T7, by omega, by omega, by go_num, rfl, by omega, HG7, C7, HK7.out, B7⟩
                  case measure => simp [intOf]; omega
              | none =>
                have hGet : ∀ u, Below W.heap.size W u → Calls Tryz.prog 10 #[.pointer (some ⟨R, 0, none⟩), .int .i64 nd, .string key] u fun e w' => e = .returned (.tuple #[.agg #[.int .i64 0, .string ⟨#[]⟩, .int .i64 0, .int .i64 0], .iface 56 (.int .i64 6)]) ∧ Below u.heap.size u w' := fun u hu => by
                  have := get_any (HKW.out.keep hu) nd key hkk
                  rw [hf] at this
                  exact this
                rw [hf] at hE1
                have e6 : e = 6 := by simpa using hE1
                subst e6
                have HFd := Lib.hid hf
                clear hE1 hf KW CW g2 g3
                go_wp2_with fail
                go_region_held3 (fun u => u.cell? ⟨gb, go + k * 4, none⟩ = some (.int .i64 nd) ∧ u.cell? ⟨gb, go + k * 4 + 1, none⟩ = some (.string key)) (first | exact ⟨g0, g1⟩ | exact HS.out _ (by repeat (first | assumption | with_reducible refine Below.drew ?_ | with_reducible refine Below.setCell ?_ (by first | exact b2.size | exact Nat.le_refl _ | (simp; done) | (simp; omega)) _ | with_reducible refine Below.alloc ?_ (by first | exact b2.size | exact Nat.le_refl _ | (simp; done) | (simp; omega)) _ | with_reducible exact Below.refl _ _))) ((go_at_call 10; refine (hGet _ (by repeat (first | with_reducible refine Below.drew ?_ | with_reducible refine Below.alloc ?_ (by simp) _ | with_reducible exact Below.refl _ _))).mono ?_; rintro e u1 ⟨rfl, b1⟩; have b2 : Below W.heap.size W u1 := below_after b1 (by repeat (first | with_reducible refine Below.drew ?_ | with_reducible refine Below.alloc ?_ (by simp) _ | with_reducible exact Below.refl _ _)); try (obtain ⟨⟨z0, z1, z2, z3⟩, zf⟩ := new_after b1; have y0 := zf 0; have y1 := zf 1; have y2 := zf 2; have y3 := zf 3; clear zf); clear b1))
                all_goals first
                  | (with_reducible change Exit.then _ _ _ _ (World.alloc _ _)
                     have hV := b2.alloc b2.size (.cells #[.int .i64 0, .string ⟨#[]⟩, .int .i64 0, .int .i64 0] 27)
                     have hq : ∃ hb, hb = u1.heap.size ∧ W.heap.size ≤ hb ∧ hb < (u1.alloc (.cells #[.int .i64 0, .string ⟨#[]⟩, .int .i64 0, .int .i64 0] 27)).heap.size ∧ (u1.alloc (.cells #[.int .i64 0, .string ⟨#[]⟩, .int .i64 0, .int .i64 0] 27)).cell? ⟨hb, 0, none⟩ = some (.int .i64 0) ∧ (u1.alloc (.cells #[.int .i64 0, .string ⟨#[]⟩, .int .i64 0, .int .i64 0] 27)).cell? ⟨hb, 1, none⟩ = some (.string ⟨#[]⟩) ∧ (u1.alloc (.cells #[.int .i64 0, .string ⟨#[]⟩, .int .i64 0, .int .i64 0] 27)).cell? ⟨hb, 2, none⟩ = some (.int .i64 0) ∧ (u1.alloc (.cells #[.int .i64 0, .string ⟨#[]⟩, .int .i64 0, .int .i64 0] 27)).cell? ⟨hb, 3, none⟩ = some (.int .i64 0) := ⟨u1.heap.size, rfl, b2.size, by simp, by simp, by simp, by simp, by simp⟩
                     generalize u1.alloc (.cells #[.int .i64 0, .string ⟨#[]⟩, .int .i64 0, .int .i64 0] 27) = V at hV hq ⊢
                     obtain ⟨hb, hbe, hb1, hb2, p0, p1, p2, p3⟩ := hq
                     rw [← hbe])
                  | (have hV := (((b2.setCell (p := ⟨W.heap.size, 0, none⟩) (Nat.le_refl _) (.int .i64 0)).setCell (p := ⟨W.heap.size, 1, none⟩) (Nat.le_refl _) (.string ⟨#[]⟩)).setCell (p := ⟨W.heap.size, 2, none⟩) (Nat.le_refl _) (.int .i64 0)).setCell (p := ⟨W.heap.size, 3, none⟩) (Nat.le_refl _) (.int .i64 0)
                     have hq : ∃ hb, hb = W.heap.size ∧ W.heap.size ≤ hb ∧ hb < ((((u1.setCell ⟨W.heap.size, 0, none⟩ (.int .i64 0)).setCell ⟨W.heap.size, 1, none⟩ (.string ⟨#[]⟩)).setCell ⟨W.heap.size, 2, none⟩ (.int .i64 0)).setCell ⟨W.heap.size, 3, none⟩ (.int .i64 0)).heap.size ∧ ((((u1.setCell ⟨W.heap.size, 0, none⟩ (.int .i64 0)).setCell ⟨W.heap.size, 1, none⟩ (.string ⟨#[]⟩)).setCell ⟨W.heap.size, 2, none⟩ (.int .i64 0)).setCell ⟨W.heap.size, 3, none⟩ (.int .i64 0)).cell? ⟨hb, 0, none⟩ = some (.int .i64 0) ∧ ((((u1.setCell ⟨W.heap.size, 0, none⟩ (.int .i64 0)).setCell ⟨W.heap.size, 1, none⟩ (.string ⟨#[]⟩)).setCell ⟨W.heap.size, 2, none⟩ (.int .i64 0)).setCell ⟨W.heap.size, 3, none⟩ (.int .i64 0)).cell? ⟨hb, 1, none⟩ = some (.string ⟨#[]⟩) ∧ ((((u1.setCell ⟨W.heap.size, 0, none⟩ (.int .i64 0)).setCell ⟨W.heap.size, 1, none⟩ (.string ⟨#[]⟩)).setCell ⟨W.heap.size, 2, none⟩ (.int .i64 0)).setCell ⟨W.heap.size, 3, none⟩ (.int .i64 0)).cell? ⟨hb, 2, none⟩ = some (.int .i64 0) ∧ ((((u1.setCell ⟨W.heap.size, 0, none⟩ (.int .i64 0)).setCell ⟨W.heap.size, 1, none⟩ (.string ⟨#[]⟩)).setCell ⟨W.heap.size, 2, none⟩ (.int .i64 0)).setCell ⟨W.heap.size, 3, none⟩ (.int .i64 0)).cell? ⟨hb, 3, none⟩ = some (.int .i64 0) := ⟨W.heap.size, rfl, Nat.le_refl _, by have := cell_lt z0; simpa using this, by simp [go_sem, z0], by simp [go_sem, z1], by simp [go_sem, z2], by simp [go_sem, z3]⟩
                     generalize (((u1.setCell ⟨W.heap.size, 0, none⟩ (.int .i64 0)).setCell ⟨W.heap.size, 1, none⟩ (.string ⟨#[]⟩)).setCell ⟨W.heap.size, 2, none⟩ (.int .i64 0)).setCell ⟨W.heap.size, 3, none⟩ (.int .i64 0) = V at hV hq ⊢
                     obtain ⟨hb, hbe, hb1, hb2, p0, p1, p2, p3⟩ := hq
                     rw [← hbe])
                all_goals
                  clear g0 g1 hGet hbe
                  obtain ⟨g0, g1⟩ := HS.out V hV
                  have KV := HKW.out.keep hV
                  have CV := HCW.out.keep hV
                  have BV := BW.trans (hV.mono BW.size)
                  have HEr := error_yes 6 V (HET.out V BV)
                  have e6' : errV 6 = .iface 56 (.int .i64 6) := rfl
                  rw [e6'] at HEr
                  clear hV HS p0 p1 p2 p3 hb1 hb2
                  go_wp2_with (go_at_call 7; refine HEr.mono ?_; rintro e u4 ⟨rfl, b4⟩; refine Hid.out ?_)
                all_goals
                  refine Lib.hid ?_
                  have B4 := BV.trans (b4.mono BV.size)
                  have K4 := KV.keep b4
                  have C4 := CV.keep b4
                  clear HEr KV CV b4 BV g0 g1
                  obtain ⟨g0, g1, g2, g3⟩ := HC.out u4 B4
                  have HD := del_none (K4.drewN 1) nd key hkk HFd.out
                  have hdw : u4.drewN 1 = u4.drew := rfl
                  rw [hdw, e6'] at HD
                  have HEe := fun (u : World) (hu : Below u4.drew.heap.size u4.drew u) => error_yes 6 u (HET.out u (below_dr B4 hu))
                  rw [e6'] at HEe
                  have HGc := Lib.hid (fun (u : World) (hu : Below u4.drew.heap.size u4.drew u) => (⟨(HC.out u (below_dr B4 hu)).1, (HC.out u (below_dr B4 hu)).2.1⟩ : u.cell? ⟨gb, go + k * 4, none⟩ = some (.int .i64 nd) ∧ u.cell? ⟨gb, go + k * 4 + 1, none⟩ = some (.string key)))
                  clear hdw
                  go_wp2_with fail
                  go_region_held3 (fun u => u.cell? ⟨gb, go + k * 4, none⟩ = some (.int .i64 nd) ∧ u.cell? ⟨gb, go + k * 4 + 1, none⟩ = some (.string key)) (first | go_keep | exact ⟨g0, g1⟩ | exact HGc.out _ b6 | exact HGc.out _ b5) (first | (go_at_call 11; refine HD.mono ?_; rintro e u5 ⟨rfl, b5⟩) | (go_at_call 7; refine (HEe _ b5).mono ?_; rintro e u6 ⟨rfl, b6'⟩; have b6 : Below u4.drew.heap.size u4.drew u6 := below_after b6' b5))
                all_goals
                  have b7 : Below u4.heap.size u4 u6 := ⟨b6.os, b6.tape, b6.output, b6.size, b6.block⟩
                  have B7 := B4.trans (b7.mono B4.size)
                  have K7 := K4.keep b7
                  have C7 := C4.keep b7
                  have HK7 := Lib.hid K7
                  have HC7 := Lib.hid C7
                  have HB7 := Lib.hid B7
                  clear HD HEe HGc K4 C4 K7 C7 b7 b6 b6' b5 B4 g0 g1 g2 g3 B7
                  go_wp2_with fail
                  go_quiet (fail)
                  go_wp2_with fail
                  go_roundw
                  case rel => exact ⟨k + 1, A, ca, T, by omega, by omega, by go_num, rfl, by omega, hgT, HC7.out.keep ⟨rfl, rfl, rfl, Nat.le_refl _, fun _ _ => rfl⟩, HK7.out.drewN _, ⟨HB7.out.os, HB7.out.tape, HB7.out.output, HB7.out.size, HB7.out.block⟩⟩
                  case measure => simp [intOf]; omega
        · have hl1 : (k : Int) < G.length := by omega
          have hl2 : ¬ (k : Int) < 100 := by omega
          have HA := all_any hK (by omega)
          clear HG HOG hlt
          go_wp2_with (go_at_call 13; refine HA.mono ?_; rintro e u1 ⟨A1, c1, rfl, hs1, hc1, b1⟩; refine Hid.out ?_)
          refine Lib.hid ?_
          have B1 := hB.trans (b1.mono hB.size)
          have K1 := hK.keep b1
          have C1 := hcT.keep b1
          have HSm := sameHds_any u1 A1 A c1 ca T hs1.cs C1 (by omega)
          clear HA hK hcT b1 hB hs1 hc1
          go_wp2_with (go_at_call 12; refine HSm.mono ?_; rintro e u2 ⟨rfl, b2⟩; refine Hid.out ?_)
          refine Lib.hid ?_
          have B2 := B1.trans (b2.mono B1.size)
          have K2 := K1.keep b2
          have C2 := C1.keep b2
          clear HSm K1 C1 b2 B1
          cases hr : rngB low high with
          | false =>
            have hx : low < 0 ∨ (¬ low < 0 ∧ high < low) ∨ (¬ low < 0 ∧ ¬ high < low ∧ 16 < high) := by simp [rngB] at hr; omega
            have hcn := conv_nil
            have e1' : errV 1 = .iface 56 (.int .i64 1) := rfl
            rcases hx with x1 | ⟨x1, x2⟩ | ⟨x1, x2, x3⟩
            all_goals
              go_wp2_with fail
              go_loopw [24, 25] (fun v i wr => v = .slice none 0 0 ∧ i = .int .i64 0 ∧ Below u2.heap.size u2 wr) (fun _ _ _ => 0)
              case atStart => exact ⟨rfl, rfl, Below.refl _ _⟩
              case round =>
                obtain ⟨rfl, rfl, hb⟩ := hrel
                have BX := B2.trans (hb.mono B2.size)
                have HEx := export_no (w := wr) (R := R) low high hr
                have HEr := error_yes 1 wr (HET.out wr BX)
                rw [e1'] at HEx HEr
                have hT0 : ((0 : Int) < T.length) ∨ ¬ ((0 : Int) < T.length) := by omega
                clear K2 C2 hb
                rcases hT0 with hT0 | hT0
                all_goals
                  go_wp2_with (go_at_call 16; refine HEx.mono ?_; rintro e u3 ⟨rfl, rfl⟩; refine Hid.out ?_)
                all_goals
                  refine Lib.hid ?_
                  go_wp2_with (go_at_call 7; refine HEr.mono ?_; rintro e u4 ⟨rfl, b4⟩; refine Hid.out ?_)
                all_goals
                  refine Lib.hid ?_
                  have B4 := BX.trans (b4.mono BX.size)
                  have HIm := import_rng (w := u4) (R := R) low high hr none 0 0
                  have HEr2 := error_yes 1 u4 (HET.out u4 B4)
                  rw [e1'] at HIm HEr2
                  clear HEx HEr b4
                  go_wp2_with (go_at_call 17; refine HIm.mono ?_; rintro e u5 ⟨rfl, rfl⟩; refine Hid.out ?_)
                all_goals
                  refine Lib.hid ?_
                  go_wp2_with (go_at_call 7; refine HEr2.mono ?_; rintro e u6 ⟨rfl, b6⟩; refine Hid.out ?_)
                all_goals
                  refine Lib.hid ?_
                  have B6 := B4.trans (b6.mono B4.size)
                  clear HIm HEr2 b6
                  go_wp2_with fail
                  go_ret
                  exact ⟨rfl, B6⟩
          | true =>
            have hx : ¬ low < 0 ∧ ¬ high < low ∧ ¬ 16 < high := by simp [rngB] at hr; omega
            obtain ⟨x1, x2, x3⟩ := hx
            have HK2 := Lib.hid (fun (u : World) (hu : Below u2.heap.size u2 u) => K2.keep hu)
            have HC2 := Lib.hid (fun (u : World) (hu : Below u2.heap.size u2 u) => C2.keep hu)
            have HB2 := Lib.hid (fun (u : World) (hu : Below u2.heap.size u2 u) => B2.trans (hu.mono B2.size))
            clear K2 C2 B2 HET
            go_wp2_with fail
            go_loopw [24, 25] (fun v i wr => ∃ (k : Nat) (ys : List Hd), k ≤ T.length ∧ i = .int .i64 k ∧ wr.ownsRow u2.heap.size 27 4 v ys.length (hcells ys) ∧ Hid (ys = (T.take k).filter (inR low high)) ∧ ys.length ≤ k ∧ Below u2.heap.size u2 wr) (fun _ i _ => T.length - (intOf i).toNat)
            case atStart => exact ⟨0, [], by omega, rfl, World.ownsRow_nil _ _ _ _, Lib.hid (by simp), by simp, Below.refl _ _⟩
            case round =>
              obtain ⟨k, ys, hk, rfl, own, hys, hyl, hb⟩ := hrel
              by_cases hlt : k < T.length
              · have hlt' : (k : Int) < T.length := by omega
                obtain ⟨b, o, rfl, -⟩ := hds_at (HC2.out wr hb) k hlt
                have hXC : ∀ u, Below u2.heap.size u2 u → u.cell? ⟨b, o + k * 4, none⟩ = some (.int .i64 T[k].nd) ∧ u.cell? ⟨b, o + k * 4 + 1, none⟩ = some (.string T[k].key) ∧ u.cell? ⟨b, o + k * 4 + 2, none⟩ = some (.int .i64 T[k].a) ∧ u.cell? ⟨b, o + k * 4 + 3, none⟩ = some (.int .i64 T[k].b) := fun u hu => by
                  obtain ⟨b', o', eb, q0, q1, q2, q3⟩ := hds_at (HC2.out u hu) k hlt
                  simp only [Option.some.injEq, Addr.mk.injEq, and_true] at eb
                  obtain ⟨rfl, rfl⟩ := eb
                  exact ⟨q0, q1, q2, q3⟩
                have HGr := RGroup_any T[k].key wr (hgT.out.okK _ (List.getElem_mem hlt)).2
                have hgh : grp (hsh T[k].key.data.toList) = gH T[k] := rfl
                rw [hgh] at HGr
                have hst : (T.take (k + 1)).filter (inR low high) = if inR low high T[k] then ys ++ [T[k]] else ys := by
                  rw [List.take_succ_eq_append_getElem hlt, List.filter_append, ← hys.out]
                  cases hq : inR low high T[k] <;> simp [hq]
                have hin : inR low high T[k] = (decide (low ≤ gH T[k]) && decide (gH T[k] < high)) := rfl
                rw [hin] at hst
                clear hgh hin hys
                generalize gH T[k] = gg at *
                generalize T[k] = x at *
                obtain ⟨xn, xk, xa, xb⟩ := x
                simp only at hXC HGr
                have HXC := Lib.hid hXC
                obtain ⟨c0, c1, c2, c3⟩ := hXC wr hb
                clear hXC
                have HST := Lib.hid hst
                clear hst
                go_wp2_with (go_at_call 14; refine HGr.mono ?_; rintro e u3 ⟨rfl, b3⟩; refine Hid.out ?_)
                refine Lib.hid ?_
                have B3 := hb.trans (b3.mono hb.size)
                have own3 := row_keep own b3
                clear HGr own c0 c1 c2 c3 hb b3
                obtain ⟨c0, c1, c2, c3⟩ := HXC.out u3 B3
                have hs3 : u2.heap.size ≤ u3.heap.size := B3.size
                by_cases g1 : low ≤ gg
                · by_cases g2 : gg < high
                  · have HF : Hid (ys ++ [(⟨xn, xk, xa, xb⟩ : Hd)] = (T.take (k + 1)).filter (inR low high)) := Lib.hid (by rw [HST.out]; simp [g1, g2])
                    clear HST
                    go_wp2_with (at_builtin; refine wpList_append_own _ rfl _ _ 22 rfl u2.heap.size 27 i0 (.agg #[.int .i64 0, .string ⟨#[]⟩, .int .i64 0, .int .i64 0]) 4 40 Tryz.underlying22 hi hz0 hz1 hz2 rfl (by decide) _ _ _ rfl (own3.alloc _) ⟨u3.heap.size, 0, none⟩ 1 1 [.int .i64 xn, .string xk, .int .i64 xa, .int .i64 xb] rfl rfl (cell_four_new _ _ _ _ _ _) (by intro u' hu'; simp at hu'; rcases hu' with rfl | rfl | rfl | rfl <;> rfl) (by unfold maxLen; omega) (by omega) (by simp; omega) ?_)
                    intro v4 u4 o4 g4 _
                    refine Hid.out ?_
                    refine Lib.hid ?_
                    have B4 : Below u2.heap.size u2 u4 := fr_own (B3.alloc hs3 _) (by simp; omega) g4 (own3.alloc _)
                    have p4 : u4.ownsRow u2.heap.size 27 4 v4 (ys ++ [(⟨xn, xk, xa, xb⟩ : Hd)]).length (hcells (ys ++ [(⟨xn, xk, xa, xb⟩ : Hd)])) := by rw [hcells_append, List.length_append]; exact o4
                    clear o4 g4 own3 c0 c1 c2 c3
                    go_wp2_with fail
                    go_roundw
                    case rel => exact ⟨k + 1, ys ++ [⟨xn, xk, xa, xb⟩], by omega, by go_num, p4, HF, by simp; omega, B4⟩
                    case measure => simp [intOf]; omega
                  · have HF : Hid (ys = (T.take (k + 1)).filter (inR low high)) := Lib.hid (by rw [HST.out]; simp [g2])
                    clear HST
                    go_wp2_with fail
                    go_roundw
                    case rel => exact ⟨k + 1, ys, by omega, by go_num, own3, HF, by omega, B3⟩
                    case measure => simp [intOf]; omega
                · have HF : Hid (ys = (T.take (k + 1)).filter (inR low high)) := Lib.hid (by rw [HST.out]; simp [g1])
                  clear HST
                  go_wp2_with fail
                  go_roundw
                  case rel => exact ⟨k + 1, ys, by omega, by go_num, own3, HF, by omega, B3⟩
                  case measure => simp [intOf]; omega
              · have hkn : ¬ (k : Int) < T.length := by omega
                have hF : ys = T.filter (inR low high) := by rw [hys.out, List.take_of_length_le (by omega)]
                have hgF : GoodL ys := by rw [hF]; exact hgT.out.filter _
                obtain ⟨A5, c5, rfl⟩ := row_slice own
                have C5 := (own_cs own (hcells_len ys)).1
                have HSH := shelds_any wr A5 c5 ys C5 (by omega) (fun r hr => (hgF.2.1 r hr).2)
                have hEx := fun (u : World) (hu : Below u2.heap.size u2 u) => export_ok (HK2.out u hu) hgT.out low high hr
                rw [← hF] at hEx
                have hlz := lsth_le (good_zero hgF) (fun r hr => (hgF.2.1 r hr).2)
                have hrd := good_read hgF
                have hall : putAll [] (ys.filter (inR 0 16)) = ys := by rw [part_all, putAll_nil hgF.2.2]
                have hy4 := hgF.1
                unfold SwEnd at HSH
                rw [good_zero hgF] at HSH
                simp only [if_true] at HSH
                have HEx := Lib.hid hEx
                have HRd := Lib.hid hrd
                have HAl := Lib.hid hall
                clear hF hgF own hEx hrd hall hys HC2
                generalize hBl : lstB hdB ys = Bl at *
                have HBl := Lib.hid hBl
                clear hBl
                go_wp2_with (go_at_call 15; refine HSH.mono ?_; rintro e u3 ⟨⟨v3, rfl, own3⟩, b3⟩; refine Hid.out ?_)
                refine Lib.hid ?_
                have B3 := hb.trans (b3.mono hb.size)
                have C3 := C5.keep b3
                obtain ⟨A3, c3, rfl, z3⟩ := own_bz own3
                have HX3 := HEx.out u3 B3
                clear HSH C5 own3 b3 hb HEx
                go_wp2_with (go_at_call 16; refine HX3.mono ?_; rintro e u4 ⟨A4, c4, rfl, z4, -, b4⟩; refine Hid.out ?_)
                refine Lib.hid ?_
                have B4 := B3.trans (b4.mono B3.size)
                have C4 := C3.keep b4
                have z3' := z3.keep b4
                have v3' := z3'.1.convert Bl.length c3 rfl
                have v4' := z4.1.convert Bl.length c4 rfl
                clear HX3 C3 b4 z3 B3
                go_wp2_with (go_at_call 7; refine (error_nil _).mono ?_; rintro e u5 ⟨rfl, rfl⟩; refine Hid.out ?_)
                refine Lib.hid ?_
                obtain ⟨Ro, Mo, hMo, hRo, HN⟩ := new_ex u4
                go_wp2_with (go_at_call 5; refine HN.mono ?_; rintro e u5 ⟨rfl, k5, b5⟩; refine Hid.out ?_)
                refine Lib.hid ?_
                have HIm := import_ok k5 (by simp) 0 16 (by simp [rngB]) A4 c4 Bl ys (z4.keep b5) (by omega) HRd.out
                rw [HAl.out] at HIm
                unfold ImEnd at HIm
                have hy5 : ¬ 400 < ys.length := by omega
                simp only [if_neg hy5, e0] at HIm
                clear HN v3' v4' z3' hy5 k5
                go_wp2_with (go_at_call 17; refine HIm.mono ?_; rintro e u6 ⟨rfl, M6, hM6, k6, f6⟩; refine Hid.out ?_)
                refine Lib.hid ?_
                have b6 : Below u4.heap.size u4 u6 := b5.trans (f6.toBelow b5.size (by intro x hx; simp at hx; subst hx; exact hRo))
                have HA6 := all_any k6 (by omega)
                clear HIm f6 b5
                go_wp2_with (go_at_call 13; refine HA6.mono ?_; rintro e u7 ⟨A7, c7, rfl, hs7, hc7, b7⟩; refine Hid.out ?_)
                refine Lib.hid ?_
                have b67 := b6.trans (b7.mono b6.size)
                have HSm := sameHds_any u7 A7 A5 c7 c5 ys hs7.cs (C4.keep b67) (by omega)
                clear HA6 k6 hs7 hc7 b7 b6
                go_wp2_with (go_at_call 12; refine HSm.mono ?_; rintro e u8 ⟨rfl, b8⟩; refine Hid.out ?_)
                refine Lib.hid ?_
                have B8 := HB2.out u8 (B4.trans ((b67.trans (b8.mono b67.size)).mono B4.size))
                clear HSm b8
                go_wp2_with fail
                go_ret
                exact ⟨rfl, B8⟩
end Go.Proofs.YtbppiiomjmpjkabGreatDoor
