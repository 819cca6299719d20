/- KeyedLast: the walk. -/
import Derived.Test.YtbppiiomjmpjkabQg
namespace Go.Proofs.Ytbppiiomjmpjkab
open Go.RowKit
set_option linter.unusedVariables false

set_option maxRecDepth 100000 in
set_option maxHeartbeats 1000000 in
theorem last_walk (w : World) (la : Option Addr) (c : Nat) (L : List Hd) (h : CsAt w la (hcells L)) (hok : ∀ r ∈ L, OkHd r) (hlen : L.length ≤ 9223372036854775807) :
    Calls Try.prog 4 #[.slice la L.length c] w fun e w' => e = .returned (.bool true) ∧ Below w.heap.size w w' := by
  have HN := new_any w
  have e0 : errV 0 = .nilIface := rfl
  go_enter Try.func4, Try.ntmps4
  go_wp2_with (go_at_call 5; refine HN.mono ?_; rintro e w1 ⟨rfl, k1, b1⟩; refine Hid.out ?_)
  refine Lib.hid ?_
  have HP1 := put_ok k1 ⟨2, ⟨#[97]⟩, 1, 0⟩ (by decide) (.inr (by simp)) (by simp)
  rw [putP_nil, e0] at HP1
  simp only [hdV] at HP1
  clear HN
  go_wp2_with (go_at_call 6; refine HP1.mono ?_; rintro e w2 ⟨rfl, k2, f2⟩; refine Hid.out ?_)
  refine Lib.hid ?_
  have HP2 := put_ok k2 ⟨2, ⟨#[97]⟩, 2, 0⟩ (by decide) (.inr (by simp)) (by simp)
  rw [putP_sm (x := ⟨2, ⟨#[97]⟩, 1, 0⟩) (y := ⟨2, ⟨#[97]⟩, 2, 0⟩) ⟨rfl, rfl⟩, e0] at HP2
  simp only [hdV] at HP2
  clear HP1 k1
  go_wp2_with (go_at_call 6; refine HP2.mono ?_; rintro e w3 ⟨rfl, k3, f3⟩; refine Hid.out ?_)
  refine Lib.hid ?_
  have HA := all_any k3 (by simp)
  have B3 : Below w.heap.size w w3 := (b1.trans (f2.toBelow b1.size (by simp))).trans (f3.toBelow (Nat.le_trans b1.size f2.size) (by simp))
  clear HP2 k2 f2 f3 b1
  go_wp2_with (go_at_call 12; refine HA.mono ?_; rintro e w4 ⟨A4, c4, rfl, hs4, hc4, b4⟩; refine Hid.out ?_)
  refine Lib.hid ?_
  have B4 := B3.trans (b4.mono B3.size)
  obtain ⟨g, o, rfl, d0, d1, d2, d3⟩ := hds_at hs4.cs 0 (by simp)
  simp only [List.getElem_cons_zero, Nat.zero_mul, Nat.add_zero] at d0 d1 d2 d3
  have HN := new_any w4
  clear HA hs4 b4 B3 k3 d0 d1 d3 hc4
  go_wp2_with (go_at_call 5; refine HN.mono ?_; rintro e w5 ⟨rfl, k5, b5⟩; refine Hid.out ?_)
  refine Lib.hid ?_
  have B5 := B4.trans (b5.mono B4.size)
  have hR : w.heap.size ≤ w4.heap.size + 1 := Nat.le_trans B4.size (by omega)
  have hM : w.heap.size ≤ w4.heap.size := B4.size
  clear HN d2 b5 B4
  generalize w4.heap.size + 1 = R at *
  generalize w4.heap.size = M at *
  have HH := Lib.hid (fun (u : World) (hb : Below w.heap.size w u) => h.keep hb)
  have HO := Lib.hid hok
  clear h hok
  go_wp2_with fail
  go_loopw [8] (fun i wr => ∃ k : Nat, k ≤ L.length ∧ k ≤ 100 ∧ i = .int .i64 k ∧ KyAt wr R M (stK L k) ∧ Below w.heap.size w wr) (fun i _ => 100 - (intOf i).toNat)
  case atStart => exact ⟨0, by omega, by omega, rfl, k5, B5⟩
  case round =>
    clear k5 B5
    obtain ⟨k, hk, hk1, rfl, hK, hB⟩ := hrel
    by_cases hlt : k < L.length ∧ k < 100
    · obtain ⟨hlt, hlt1⟩ := hlt
      have hlt' : (k : Int) < L.length := by omega
      have hlt1' : (k : Int) < 100 := by omega
      obtain ⟨b, o, rfl, c0, c1, c2, c3⟩ := hds_at (HH.out wr hB) k hlt
      have hsn := stK_succ L k hlt
      have hsl := stK_len L k (by omega)
      have hor := HO.out _ (List.getElem_mem hlt)
      cases hbad : badHd L[k] with
      | true =>
        have HP := put_bad hK L[k] (by have := hor.2.1; omega) hbad
        have e2 : stK L (k + 1) = stK L k := by rw [hsn]; unfold goodP; rw [if_pos hbad]
        have HE := Lib.hid e2
        clear hsn e2 hbad hor
        generalize L[k] = r at *
        obtain ⟨nd, key, a, bv⟩ := r
        simp only [hdV] at c0 c1 c2 c3 HP
        have e1 : errV 1 = .iface 54 (.int .i64 1) := rfl
        rw [e1] at HP
        clear e1
        go_wp2_with (go_at_call 6; refine HP.mono ?_; rintro e u1 ⟨rfl, b1⟩; refine Hid.out ?_)
        refine Lib.hid ?_
        have B1 := hB.trans (b1.mono hB.size)
        have K1 := hK.keep b1
        clear HP b1
        go_wp2_with fail
        go_roundw
        case rel => exact ⟨k + 1, by omega, by omega, by go_num, by rw [HE.out]; exact K1, B1⟩
        case measure => simp [intOf]; omega
      | false =>
        have HP := put_ok hK L[k] hbad (.inr (by omega)) (by omega)
        have hgo := good_ok hbad
        have e2 : stK L (k + 1) = putP (stK L k) L[k] := by rw [hsn]; unfold goodP; rw [hbad]; rfl
        have hfd : findH (stK L (k + 1)) L[k].nd L[k].key = some L[k] := by rw [e2, find_putP hK.mp.ris, if_pos ⟨rfl, rfl⟩]
        rw [← e2, e0] at HP
        clear hsn e2 hbad hor
        have HNQ := fun u => neqHd L[k] u
        have hC : ∀ u, Below w.heap.size w u → u.cell? ⟨b, o + k * 4, none⟩ = some (.int .i64 L[k].nd) ∧ u.cell? ⟨b, o + k * 4 + 1, none⟩ = some (.string L[k].key) ∧ u.cell? ⟨b, o + k * 4 + 2, none⟩ = some (.int .i64 L[k].a) ∧ u.cell? ⟨b, o + k * 4 + 3, none⟩ = some (.int .i64 L[k].b) := fun u hu => by
          obtain ⟨b', o', eb, q0, q1, q2, q3⟩ := hds_at (HH.out u hu) k hlt
          simp only [Option.some.injEq, Addr.mk.injEq, and_true] at eb
          obtain ⟨rfl, rfl⟩ := eb
          exact ⟨q0, q1, q2, q3⟩
        generalize L[k] = r at *
        have HR := Lib.hid hgo
        generalize hS1 : stK L (k + 1) = S1 at *
        obtain ⟨nd, key, a, bv⟩ := r
        simp only [hdV] at c0 c1 c2 c3 HP HNQ
        go_wp2_with (go_at_call 6; refine HP.mono ?_; rintro e W ⟨rfl, K1, f1⟩; refine Hid.out ?_)
        refine Lib.hid ?_
        have B1 : Below w.heap.size w W := hB.trans (f1.toBelow hB.size (by simpa using hM))
        have hG : ∀ u, Below W.heap.size W u → Calls Try.prog 7 #[.pointer (some ⟨R, 0, none⟩), .int .i64 nd, .string key] u fun e w' => e = .returned (.tuple #[.agg #[.int .i64 nd, .string key, .int .i64 a, .int .i64 bv], .nilIface]) ∧ Below u.heap.size u w' := fun u hu => by
          have := get_any (K1.keep hu) nd key hgo
          rw [hfd] at this
          exact this
        have HS := Lib.hid (fun (u : World) (hu : Below W.heap.size W u) => hC u (B1.trans (hu.mono B1.size)))
        obtain ⟨s0, s1, s2, s3⟩ := HS.out W (Below.refl _ _)
        have HK1 := Lib.hid K1
        have HS1 := Lib.hid hS1
        clear hC HP c0 c1 c2 c3 hK hB f1 hS1 K1 hfd hgo HR hsl
        go_wp2_with fail
        go_region_held3 (fun u => u.cell? ⟨b, o + k * 4, none⟩ = some (.int .i64 nd) ∧ u.cell? ⟨b, o + k * 4 + 1, none⟩ = some (.string key) ∧ u.cell? ⟨b, o + k * 4 + 2, none⟩ = some (.int .i64 a) ∧ u.cell? ⟨b, o + k * 4 + 3, none⟩ = some (.int .i64 bv)) (first | exact ⟨s0, s1, s2, s3⟩ | exact HS.out _ (by repeat (first | assumption | with_reducible refine Below.drew ?_ | with_reducible refine Below.setCell ?_ (by first | exact b2.size | exact Nat.le_refl _ | (simp; done) | (simp; omega)) _ | with_reducible refine Below.alloc ?_ (by first | exact b2.size | exact Nat.le_refl _ | (simp; done) | (simp; omega)) _ | with_reducible exact Below.refl _ _))) ((go_at_call 7; refine (hG _ (by repeat (first | with_reducible refine Below.drew ?_ | with_reducible refine Below.alloc ?_ (by simp) _ | with_reducible exact Below.refl _ _))).mono ?_; rintro e u1 ⟨rfl, b1⟩; have b2 : Below W.heap.size W u1 := below_after b1 (by repeat (first | with_reducible refine Below.drew ?_ | with_reducible refine Below.alloc ?_ (by simp) _ | with_reducible exact Below.refl _ _)); try (obtain ⟨⟨z0, z1, z2, z3⟩, zf⟩ := new_after b1; have y0 := zf 0; have y1 := zf 1; have y2 := zf 2; have y3 := zf 3; clear zf); clear b1))
        all_goals first
          | (with_reducible change Exit.then _ _ _ _ (World.alloc _ _)
             have hV := b2.alloc b2.size (.cells #[.int .i64 nd, .string key, .int .i64 a, .int .i64 bv] 29)
             have hq : ∃ hb, hb = u1.heap.size ∧ (u1.alloc (.cells #[.int .i64 nd, .string key, .int .i64 a, .int .i64 bv] 29)).cell? ⟨hb, 0, none⟩ = some (.int .i64 nd) ∧ (u1.alloc (.cells #[.int .i64 nd, .string key, .int .i64 a, .int .i64 bv] 29)).cell? ⟨hb, 1, none⟩ = some (.string key) ∧ (u1.alloc (.cells #[.int .i64 nd, .string key, .int .i64 a, .int .i64 bv] 29)).cell? ⟨hb, 2, none⟩ = some (.int .i64 a) ∧ (u1.alloc (.cells #[.int .i64 nd, .string key, .int .i64 a, .int .i64 bv] 29)).cell? ⟨hb, 3, none⟩ = some (.int .i64 bv) := ⟨u1.heap.size, rfl, by simp, by simp, by simp, by simp⟩
             generalize u1.alloc (.cells #[.int .i64 nd, .string key, .int .i64 a, .int .i64 bv] 29) = V at hV hq ⊢
             obtain ⟨hb, hbe, p0, p1, p2, p3⟩ := hq
             rw [← hbe])
          | (have hV := (((b2.setCell (p := ⟨W.heap.size, 0, none⟩) (Nat.le_refl _) (.int .i64 nd)).setCell (p := ⟨W.heap.size, 1, none⟩) (Nat.le_refl _) (.string key)).setCell (p := ⟨W.heap.size, 2, none⟩) (Nat.le_refl _) (.int .i64 a)).setCell (p := ⟨W.heap.size, 3, none⟩) (Nat.le_refl _) (.int .i64 bv)
             have hq : ∃ hb, hb = W.heap.size ∧ ((((u1.setCell ⟨W.heap.size, 0, none⟩ (.int .i64 nd)).setCell ⟨W.heap.size, 1, none⟩ (.string key)).setCell ⟨W.heap.size, 2, none⟩ (.int .i64 a)).setCell ⟨W.heap.size, 3, none⟩ (.int .i64 bv)).cell? ⟨hb, 0, none⟩ = some (.int .i64 nd) ∧ ((((u1.setCell ⟨W.heap.size, 0, none⟩ (.int .i64 nd)).setCell ⟨W.heap.size, 1, none⟩ (.string key)).setCell ⟨W.heap.size, 2, none⟩ (.int .i64 a)).setCell ⟨W.heap.size, 3, none⟩ (.int .i64 bv)).cell? ⟨hb, 1, none⟩ = some (.string key) ∧ ((((u1.setCell ⟨W.heap.size, 0, none⟩ (.int .i64 nd)).setCell ⟨W.heap.size, 1, none⟩ (.string key)).setCell ⟨W.heap.size, 2, none⟩ (.int .i64 a)).setCell ⟨W.heap.size, 3, none⟩ (.int .i64 bv)).cell? ⟨hb, 2, none⟩ = some (.int .i64 a) ∧ ((((u1.setCell ⟨W.heap.size, 0, none⟩ (.int .i64 nd)).setCell ⟨W.heap.size, 1, none⟩ (.string key)).setCell ⟨W.heap.size, 2, none⟩ (.int .i64 a)).setCell ⟨W.heap.size, 3, none⟩ (.int .i64 bv)).cell? ⟨hb, 3, none⟩ = some (.int .i64 bv) := ⟨W.heap.size, rfl, by simp [go_sem, z0], by simp [go_sem, z1], by simp [go_sem, z2], by simp [go_sem, z3]⟩
             generalize (((u1.setCell ⟨W.heap.size, 0, none⟩ (.int .i64 nd)).setCell ⟨W.heap.size, 1, none⟩ (.string key)).setCell ⟨W.heap.size, 2, none⟩ (.int .i64 a)).setCell ⟨W.heap.size, 3, none⟩ (.int .i64 bv) = V at hV hq ⊢
             obtain ⟨hb, hbe, p0, p1, p2, p3⟩ := hq
             rw [← hbe])
        all_goals
          clear s0 s1 s2 s3 hG
          obtain ⟨s0, s1, s2, s3⟩ := HS.out V hV
          have KV := Lib.hid (HK1.out.keep hV)
          have BV := Lib.hid (B1.trans (hV.mono B1.size))
          clear HS HK1 hV hbe
          go_wp2_with fail
          go_quiet (fail)
          go_wp2_with fail
          go_roundw
          case rel => exact ⟨k + 1, by omega, by omega, by go_num, by rw [HS1.out]; exact KV.out.drewN _, ⟨BV.out.os, BV.out.tape, BV.out.output, BV.out.size, BV.out.block⟩⟩
          case measure => simp [intOf]; omega
    · have hkS := stK_len L k hk
      have hgS := stK_good L k hk
      have hrS := stK_ris L k hk
      generalize stK L k = S at *
      have HA := all_any hK (by omega)
      have hrA : ∀ i (hi : i + 1 < S.length), decide (Ah S[i] S[i + 1]) = true := fun i hi => decide_eq_true (List.pairwise_iff_getElem.1 hrS i (i + 1) (by omega) hi (by omega))
      have HRA := Lib.hid hrA
      have HRS := Lib.hid hrS
      have HGS := Lib.hid hgS
      clear hrA hrS hgS HH HO
      have hcs : ((k : Int) < L.length ∧ ¬ (k : Int) < 100) ∨ ¬ (k : Int) < L.length := by omega
      rcases hcs with ⟨hl1, hl2⟩ | hl1
      all_goals
        go_wp2_with (go_at_call 12; refine HA.mono ?_; rintro e u1 ⟨A1, c1, rfl, hs, hcap, b1⟩; refine Hid.out ?_)
      all_goals
        refine Lib.hid ?_
        have B1 := hB.trans (b1.mono hB.size)
        have K1 := hK.keep b1
        have hs1 := hs.cs
        clear HA hK hB hs b1 hcap
        go_wp2_with fail
        go_loopw [13] (fun i wr => ∃ j : Nat, j ≤ S.length ∧ i = .int .i64 j ∧ Below u1.heap.size u1 wr) (fun i _ => S.length - (intOf i).toNat)
        case atStart => exact ⟨0, by omega, rfl, Below.refl _ _⟩
        case round =>
          obtain ⟨j, hj, rfl, hb⟩ := hrel
          by_cases hjt : j < S.length
          · have hjt' : (j : Int) < S.length := by omega
            cases j with
            | zero =>
              go_wp2_with fail
              go_quiet (fail)
              go_wp2_with fail
              go_roundw
              case rel => exact ⟨1, by omega, by go_num, ⟨hb.os, hb.tape, hb.output, hb.size, hb.block⟩⟩
              case measure => simp [intOf]; omega
            | succ j =>
              have hj0 : j < S.length := by omega
              obtain ⟨b, o, rfl, c0, c1, c2, c3⟩ := hds_at (hs1.keep hb) (j + 1) hjt
              obtain ⟨b', o', hbo, d0, d1, d2, d3⟩ := hds_at (hs1.keep hb) j hj0
              simp only [Option.some.injEq, Addr.mk.injEq, and_true] at hbo
              obtain ⟨rfl, rfl⟩ := hbo
              have hbl : b < wr.heap.size := cell_lt c0
              have HC := ahead2_any S[j] S[j + 1] wr.drew
              rw [HRA.out j hjt] at HC
              generalize S[j + 1] = r at *
              generalize S[j] = r' at *
              obtain ⟨nd, key, a, bv⟩ := r
              obtain ⟨nd', key', a', bv'⟩ := r'
              simp only [hdV] at c0 c1 c2 c3 d0 d1 d2 d3 HC
              have hold : ∀ u, Below wr.drew.heap.size wr.drew u → u.cell? ⟨b, o + j * 4, none⟩ = some (.int .i64 nd') ∧ u.cell? ⟨b, o + j * 4 + 1, none⟩ = some (.string key') ∧ u.cell? ⟨b, o + j * 4 + 2, none⟩ = some (.int .i64 a') ∧ u.cell? ⟨b, o + j * 4 + 3, none⟩ = some (.int .i64 bv') ∧ u.cell? ⟨b, o + (j + 1) * 4, none⟩ = some (.int .i64 nd) ∧ u.cell? ⟨b, o + (j + 1) * 4 + 1, none⟩ = some (.string key) ∧ u.cell? ⟨b, o + (j + 1) * 4 + 2, none⟩ = some (.int .i64 a) ∧ u.cell? ⟨b, o + (j + 1) * 4 + 3, none⟩ = some (.int .i64 bv)
                := fun u hu => by
                have k1 : ∀ (oo : Nat) (x : Value), wr.cell? ⟨b, oo, none⟩ = some x → u.cell? ⟨b, oo, none⟩ = some x := fun oo x hx => by
                  rw [hu.cell (p := ⟨b, oo, none⟩) hbl]; exact hx
                exact ⟨k1 _ _ d0, k1 _ _ d1, k1 _ _ d2, k1 _ _ d3, k1 _ _ c0, k1 _ _ c1, k1 _ _ c2, k1 _ _ c3⟩
              have hk1 : (0 : Int) < ((j + 1 : Nat) : Int) := by omega
              have hi0 : (0 : Int) ≤ (j : Int) := by omega
              have hi1 : (j : Int) < (S.length : Int) := by omega
              have hi2 : (j : Int) ≤ (S.length : Int) := by omega
              have hi5 : IntKind.i64.wrap (j : Int) = (j : Int) := by simp [IntKind.wrap, IntKind.bits, IntKind.signed]; omega
              have hi4 : (j : Int) + 1 ≤ 100 := by omega
              have hi6 : (0 : Int) ≤ (j : Int) + 1 := by omega
              have hi7 : (j : Int) + 1 < (S.length : Int) := by omega
              have hi8 : ((j : Int) + 1).toNat = j + 1 := by omega
              clear K1 B1
              go_wp2_with fail
              go_region_held3 (fun u => u.cell? ⟨b, o + j * 4, none⟩ = some (.int .i64 nd') ∧ u.cell? ⟨b, o + j * 4 + 1, none⟩ = some (.string key') ∧ u.cell? ⟨b, o + j * 4 + 2, none⟩ = some (.int .i64 a') ∧ u.cell? ⟨b, o + j * 4 + 3, none⟩ = some (.int .i64 bv') ∧ u.cell? ⟨b, o + (j + 1) * 4, none⟩ = some (.int .i64 nd) ∧ u.cell? ⟨b, o + (j + 1) * 4 + 1, none⟩ = some (.string key) ∧ u.cell? ⟨b, o + (j + 1) * 4 + 2, none⟩ = some (.int .i64 a) ∧ u.cell? ⟨b, o + (j + 1) * 4 + 3, none⟩ = some (.int .i64 bv)) (first | go_keep | exact ⟨d0, d1, d2, d3, c0, c1, c2, c3⟩ | exact hold u2 b2) ((go_at_call 16; refine HC.mono ?_; rintro e u2 ⟨rfl, b2⟩))
              all_goals
                go_wp2_with fail
                go_roundw
                case rel => exact ⟨j + 2, by omega, by go_num, hb.trans (show Below u1.heap.size wr u2 from Below.mono ⟨b2.os, b2.tape, b2.output, b2.size, b2.block⟩ hb.size)⟩
                case measure => simp [intOf]; omega
          · have BW := B1.trans (hb.mono B1.size)
            have KW := K1.keep hb
            have CW := hs1.keep hb
            have hjn : ¬ (j : Int) < S.length := by omega
            clear K1 B1 hs1 hb HRA
            go_wp2_with fail
            go_loopw [14] (fun i wr => ∃ j : Nat, j ≤ S.length ∧ i = .int .i64 j ∧ KyAt wr R M (S.drop j) ∧ CsAt wr A1 (hcells S) ∧ Below w.heap.size w wr) (fun i _ => S.length - (intOf i).toNat)
            case atStart => exact ⟨0, by omega, rfl, by simpa using KW, CW, BW⟩
            case round =>
              clear KW CW BW hjn
              obtain ⟨j, hj, rfl, hK, hc, hB⟩ := hrel
              by_cases hjt : j < S.length
              · have hjt' : (j : Int) < S.length := by omega
                obtain ⟨b, o, rfl, c0, c1, c2, c3⟩ := hds_at hc j hjt
                have hdr : S.drop j = S[j] :: S.drop (j + 1) := (List.getElem_cons_drop (h := hjt)).symm
                have hris2 : RisH (S[j] :: S.drop (j + 1)) := by rw [← hdr]; exact HRS.out.sublist (List.drop_sublist _ _)
                obtain ⟨hf1, hf2⟩ := find_head hris2
                rw [← hdr] at hf1 hf2
                have HD := del_some (hK.drewN 1) S[j].nd S[j].key (good_ok (HGS.out _ (List.getElem_mem hjt))) S[j] hf1
                rw [hf2, e0] at HD
                have hdw : wr.drewN 1 = wr.drew := rfl
                rw [hdw] at HD
                have hcM : ∀ u, Fr [M] wr.drew u → CsAt u (some ⟨b, o, none⟩) (hcells S) := fun u f => csM hc hK.mp ⟨f.os, f.tape, f.output, f.size, f.block⟩
                have hcS : ∀ u, CsAt u (some ⟨b, o, none⟩) (hcells S) → u.cell? ⟨b, o + j * 4, none⟩ = some (.int .i64 S[j].nd) ∧ u.cell? ⟨b, o + j * 4 + 1, none⟩ = some (.string S[j].key) := fun u hu => by
                  obtain ⟨b', o', eb, q0, q1, q2, q3⟩ := hds_at hu j hjt
                  simp only [Option.some.injEq, Addr.mk.injEq, and_true] at eb
                  obtain ⟨rfl, rfl⟩ := eb
                  exact ⟨q0, q1⟩
                have HCM := Lib.hid hcM
                have HCS := Lib.hid hcS
                have hB2 : ∀ u, Fr [M] wr.drew u → Below w.heap.size w u := fun u f => hB.trans (Below.mono (B := w.heap.size) (Fr.toBelow (xs := [M]) (a := wr) ⟨f.os, f.tape, f.output, f.size, f.block⟩ hB.size (by simpa using hM)) (Nat.le_refl _))
                have HB2 := Lib.hid hB2
                clear hcM hcS hB2 hf1 hf2 hris2 hK hc hB hdw hdr
                generalize S[j] = r at *
                obtain ⟨nd, key, a, bv⟩ := r
                simp only at c0 c1 c2 c3 HD HCS
                go_wp2_with fail
                go_region_held3 (fun u => u.cell? ⟨b, o + j * 4, none⟩ = some (.int .i64 nd) ∧ u.cell? ⟨b, o + j * 4 + 1, none⟩ = some (.string key)) (first | go_keep | exact HCS.out _ (HCM.out _ f2)) ((go_at_call 17; refine HD.mono ?_; rintro e u2 ⟨rfl, k2, f2⟩))
                all_goals
                  have c5 := HCM.out _ f2
                  have B5 := HB2.out _ f2
                  have HK2 := Lib.hid k2
                  have HC5 := Lib.hid c5
                  clear HCS HCM HB2 HD f2 c5 k2 c0 c1 c2 c3
                  go_wp2_with fail
                  go_roundw
                  case rel => exact ⟨j + 1, by omega, by go_num, HK2.out, HC5.out, B5⟩
                  case measure => simp [intOf]; omega
              · have ed : S.drop j = [] := List.drop_of_length_le (by omega)
                rw [ed] at hK
                have HA := all_any hK (by simp)
                have hjn : ¬ (j : Int) < S.length := by omega
                clear hK hc ed
                go_wp2_with (go_at_call 12; refine HA.mono ?_; rintro e u3 ⟨A3, c3, rfl, hs3, hcap3, b3⟩)
                go_ret
                exact ⟨rfl, hB.trans (b3.mono hB.size)⟩
end Go.Proofs.Ytbppiiomjmpjkab
