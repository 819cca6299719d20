/- LsmOpens, walked. -/
import Derived.Test.YtckjcjoheeobgaaLm
import Derived.Test.YtckjcjoheeobgaaLj
import Derived.Test.YtckjcjoheeobgaaLg
import Derived.Test.YtckjcjoheeobgaaLo
import Derived.Test.YtckjcjoheeobgaaDg
import Derived.Test.YtckjcjoheeobgaaPureLb
import Derived.Deep.DeepCutAuto
namespace Go.Proofs.Ytckjcjoheeobgaa
open Go.RowKit
set_option linter.unusedVariables false

/-- A row of entries that is wanted later. -/
def WtAt (u : World) (A : Option Addr) (R : List En) : Prop := CsAt u A (ecells R) ∧ LyAt u A 46
theorem WtAt.keep {u u' : World} {A : Option Addr} {R : List En} (h : WtAt u A R) (hb : Below u.heap.size u u') : WtAt u' A R := ⟨h.1.keep hb, h.2.below hb⟩
theorem WtAt.frs {u u' : World} {lo : Nat} {A : Option Addr} {R : List En} (h : WtAt u A R) (f : FrS lo u u') : WtAt u' A R := ⟨h.1.block h.2 (f.cells (by decide) (by decide)), h.2.block (f.cells (by decide) (by decide))⟩

set_option maxRecDepth 100000 in
set_option maxHeartbeats 4000000 in
theorem opens_walk (w : World) (lim oth : Int) (ps : Option Addr) (cs : Nat) (P : List (List Int)) (hP : IiAt w ps P) (hPl : P.length ≤ 9223372036854775807) (hPll : ∀ l ∈ P, l.length ≤ 9223372036854775807) (hPi : ∀ l ∈ P, ∀ x ∈ l, I64 x) :
    Calls Try.prog 3 #[.int .i64 lim, .int .i64 oth, .slice ps P.length cs] w fun e w' => e = .returned (.bool true) ∧ Below w.heap.size w w' := by
  have HP := Lib.hid hP
  have HPi := Lib.hid hPi
  have HPl := Lib.hid hPll
  clear hP hPi hPll
  go_enter Try.func3, Try.ntmps3
  go_wp2_with (go_at_call 4; refine Hid.out ?_)
  refine Lib.hid ?_
  refine (new_any 2 (by decide) (by decide)).mono ?_
  rintro e w1 ⟨S0, L0, F0, v0, rfl, hs1, b1⟩
  have ok0 : SOk (newS 2) := new_ok (by decide) (by decide)
  have he0 : setErr (newS 2) ⟨⟨#[97]⟩, ⟨#[98]⟩, false⟩ = 0 := new_err 2 rfl
  obtain ⟨g1, g2⟩ := put_get ok0 he0 rfl
  have H1 := Lib.hid (put_any hs1 ok0 (by decide) ⟨#[97]⟩ ⟨#[98]⟩)
  clear hs1
  go_wp2_with (go_at_call 5; refine Hid.out ?_)
  refine Lib.hid ?_
  refine H1.out.mono ?_
  rintro e w2 ⟨rfl, ⟨v2, hs2⟩, f2⟩
  have H2 := get_any hs2 ⟨#[97]⟩ (by decide)
  have hkl : kl (⟨⟨#[97]⟩, ⟨#[98]⟩, false⟩ : En) = (⟨#[97]⟩ : ByteArray).data.toList := rfl
  rw [hkl] at g1 g2
  rw [g1, g2] at H2
  rw [he0]
  have H2' := Lib.hid H2
  have B2 : Below w.heap.size w w2 := b1.trans (f2.toBelow)
  clear H1 H2 hs2 f2 b1 g1 g2 hkl he0
  simp only [errV, if_true]
  go_wp2_with (go_at_call 6; refine Hid.out ?_)
  refine Lib.hid ?_
  refine H2'.out.mono ?_
  rintro e w3 ⟨rfl, b3⟩
  have B3 := B2.trans (b3.mono B2.size)
  clear H2' b3 B2
  simp only [errV, if_true]
  by_cases hl : lim < 1 ∨ 400 < lim
  · have HB := Lib.hid (new_bad (w := w3) lim hl)
    go_wp2_with (go_at_call 4; refine Hid.out ?_)
    refine Lib.hid ?_
    refine HB.out.mono ?_
    rintro e w4 ⟨rfl, b4⟩
    have B4 := B3.trans (b4.mono B3.size)
    simp only [errV]
    by_cases hl1 : lim < 1
    · go_wp2_with fail
      go_ret
      exact ⟨rfl, B4⟩
    · have hl2 : 400 < lim := by omega
      go_wp2_with fail
      go_ret
      exact ⟨rfl, B4⟩
  · obtain ⟨m, rfl⟩ : ∃ m : Nat, lim = m := ⟨lim.toNat, by omega⟩
    have hm1 : 1 ≤ m := by omega
    have hm2 : m ≤ 400 := by omega
    have HN := Lib.hid (new_any (w := w3) m hm1 hm2)
    clear hl
    go_wp2_with (go_at_call 4; refine Hid.out ?_)
    refine Lib.hid ?_
    refine HN.out.mono ?_
    rintro e w4 ⟨S, Ml, Mf, v, rfl, hs4, b4⟩
    have B4 := B3.trans (b4.mono B3.size)
    have hlo : w.heap.size ≤ w3.heap.size := B3.size
    obtain ⟨lo, hlo'⟩ : ∃ lo, lo = w3.heap.size := ⟨_, rfl⟩
    rw [← hlo'] at hs4 hlo
    have okN := new_ok hm1 hm2
    have cvN := new_cov m
    clear HN B3 b4 hlo'
    go_wp2_with fail
    go_loopw [13] (fun i wr => ∃ (j : Nat) (v : Value) (s : Sto), j ≤ P.length ∧ j ≤ 120 ∧ i = .int .i64 j ∧ StAt lo wr S Ml Mf v s ∧ SOk s ∧ Cov s ∧ s.tabs.length ≤ j ∧ Below w.heap.size w wr) (fun i _ => P.length - (intOf i).toNat)
    case atStart => exact ⟨0, v, newS m, Nat.zero_le _, by omega, rfl, hs4, okN, cvN, by simp [newS], B4⟩
    case round =>
      clear hs4 okN cvN B4
      obtain ⟨j, v, s, hj, hj8, rfl, hst, ok, cov, htl, hB⟩ := hrel
      by_cases hlt : j < P.length ∧ j < 120
      · obtain ⟨l1, l2⟩ := hlt
        have i1 : (j : Int) < P.length := by omega
        have i2 : (j : Int) < 120 := by omega
        obtain ⟨sb, so, rfl, hPj⟩ : ∃ b o, ps = some ⟨b, o, none⟩ ∧ ∀ i (h : i < P.length), ∃ q c, w.cell? ⟨b, o + i, none⟩ = some (.slice q P[i].length c) ∧ IsAt w q P[i] := by
          rcases HP.out with h | h
          · subst h; simp at l1
          · exact h
        obtain ⟨q, qc, s1, s2⟩ := hPj j l1
        have hlen := HPl.out _ (List.getElem_mem l1)
        have hi64 := HPi.out _ (List.getElem_mem l1)
        have hsb := cell_lt s1
        have r1 := Lib.hid (fun (u : World) (h : Below w.heap.size w u) => (h.cell (p := ⟨sb, so + j, none⟩) hsb).trans s1)
        have r2 := Lib.hid s2
        clear s1 s2 hPj HP
        generalize P[j] = l at *
        generalize wr = wo at *
        have HSt := Lib.hid hst
        have HI := Lib.hid hi64
        clear hst hi64
        go_wp2
        have hVa : Below wo.heap.size wo (wo.alloc (.cells #[.int .i64 0, .int .i64 0, .int .i64 0] 31)) := (Below.refl _ _).alloc (Nat.le_refl _) _
        have hV0 : (wo.alloc (.cells #[.int .i64 0, .int .i64 0, .int .i64 0] 31)).heap[wo.heap.size]? = some (.cells #[.int .i64 (vv l 0 0), .int .i64 (vv l 0 1), .int .i64 (vv l 0 2)] 31) := by
          rw [(MapKept.heap_alloc wo _).1]; simp [vv]
        have hz0 : wo.heap.size + 1 ≤ (wo.alloc (.cells #[.int .i64 0, .int .i64 0, .int .i64 0] 31)).heap.size := by simp
        go_loopw [15] (fun i wr => ∃ t : Nat, t ≤ l.length ∧ t ≤ 3 ∧ i = .int .i64 t ∧ Below wo.heap.size wo wr ∧ wr.heap[wo.heap.size]? = some (.cells #[.int .i64 (vv l t 0), .int .i64 (vv l t 1), .int .i64 (vv l t 2)] 31) ∧ wo.heap.size + 1 ≤ wr.heap.size) (fun i _ => 3 - (intOf i).toNat)
        case atStart => exact ⟨0, Nat.zero_le _, by omega, rfl, hVa, hV0, hz0⟩
        case round =>
          clear hVa hV0 hz0
          obtain ⟨t, ht, ht4, rfl, hVa, hV0, hz0⟩ := hrel
          have hBv : Below w.heap.size w wr := hB.trans (hVa.mono hB.size)
          have rr1 := r1.out wr hBv
          by_cases hl : t < l.length ∧ t < 3
          · obtain ⟨m1, m2⟩ := hl
            have n1 : (t : Int) < l.length := by omega
            have n2 : (t : Int) < 3 := by omega
            obtain ⟨lb, lo', rfl, s2⟩ : ∃ b o, q = some ⟨b, o, none⟩ ∧ ∀ i (h : i < l.length), w.cell? ⟨b, o + i, none⟩ = some (.int .i64 l[i]) := by
              rcases r2.out with h | h
              · subst h; simp at m1
              · exact h
            have s3 := s2 t m1
            have s4 : wr.cell? ⟨lb, lo' + t, none⟩ = some (.int .i64 (l.getD t 0)) := by
              rw [(hBv.cell (p := ⟨lb, lo' + t, none⟩) (cell_lt s3)).trans s3]; simp [List.getD, m1]
            have vc : ∀ m, m < 3 → wr.cell? ⟨wo.heap.size, m, none⟩ = some (.int .i64 (vv l t m)) := fun m hm => by
              obtain rfl | rfl | rfl : m = 0 ∨ m = 1 ∨ m = 2 := by omega
              all_goals simp [World.cell?, hV0]
            have vc0 := vc t m2
            have vf : wr.frozen? ⟨wo.heap.size, t, none⟩ = false := by simp [World.frozen?, hV0]
            have HV : Hid ((wr.setCell ⟨wo.heap.size, t, none⟩ (.int .i64 (l.getD t 0))).heap[wo.heap.size]? = some (.cells #[.int .i64 (vv l (t + 1) 0), .int .i64 (vv l (t + 1) 1), .int .i64 (vv l (t + 1) 2)] 31)) := by
              show _ = _
              obtain rfl | rfl | rfl : t = 0 ∨ t = 1 ∨ t = 2 := by omega
              all_goals simp [World.setCell, Array.getElem?_modify, hV0, vv]
            have HB : Hid (Below wo.heap.size wo (wr.setCell ⟨wo.heap.size, t, none⟩ (.int .i64 (l.getD t 0)))) := hVa.setCell (Nat.le_refl _) _
            clear s2 s3 vc
            generalize l.getD t 0 = lt at *
            go_wp2
            go_roundw
            case rel => exact ⟨t + 1, by omega, by omega, by go_num, HB.out, HV.out, by simpa using hz0⟩
            case measure => simp [intOf]; omega
          · have hcase : ¬ (t : Int) < l.length ∨ ((t : Int) < l.length ∧ ¬ (t : Int) < 3) := by omega
            have i64a := vv_i64 HI.out t 1
            have i64b := vv_i64 HI.out t 2
            have hst := HSt.out.keep hVa
            generalize vv l t 0 = v0 at *
            generalize vv l t 1 = v1 at *
            generalize vv l t 2 = v2 at *
            have y0 : wr.cell? ⟨wo.heap.size, 0, none⟩ = some (.int .i64 v0) := by simp [World.cell?, hV0]
            have y1 : wr.cell? ⟨wo.heap.size, 1, none⟩ = some (.int .i64 v1) := by simp [World.cell?, hV0]
            have y2 : wr.cell? ⟨wo.heap.size, 2, none⟩ = some (.int .i64 v2) := by simp [World.cell?, hV0]
            have hzw : wo.heap.size < wr.heap.size := by omega
            have HVB := Lib.hid hV0
            have HS2 := Lib.hid hst
            clear HSt hst hV0 HI r1 r2
            generalize wr = wp at *
            by_cases h3 : v0 = 3
            · have h3' : (v0 == 3) = true := by simpa using h3
              have HKy := Lib.hid (key_any wp v1 i64a)
              clear h3
              rcases hcase with n1 | ⟨n1, n2⟩
              all_goals
                go_wp2_with (go_at_call 8; refine Hid.out ?_)
                refine Lib.hid ?_
                refine HKy.out.mono ?_
                rintro e u1 ⟨k, rfl, hkz, c1⟩
                have HD := Lib.hid (dele_any (HS2.out.keep c1) ok (by omega) k)
                go_wp2_with (go_at_call 7; refine Hid.out ?_)
                refine Lib.hid ?_
                refine HD.out.mono ?_
                rintro e u2 ⟨rfl, ⟨v5, hs5⟩, f5⟩
                have B5 : Below w.heap.size w u2 := (hBv.trans (c1.mono hBv.size)).trans (f5.mono hlo).toBelow
                have HS5 := Lib.hid hs5
                have htb := put_tabs s ⟨k, ⟨#[]⟩, true⟩
                have ok5 := Lib.hid (put_ok ok (e := ⟨k, ⟨#[]⟩, true⟩) rfl)
                have cv5 := Lib.hid (put_cov ok cov (e := ⟨k, ⟨#[]⟩, true⟩) rfl)
                clear HD hs5 f5 c1 HKy
                go_wp2_with fail
                go_roundw
                case rel => exact ⟨j + 1, v5, _, by omega, by omega, by go_num, HS5.out, ok5.out, cv5.out, by omega, B5⟩
                case measure => simp [intOf]; omega
            · have h3' : (v0 == 3) = false := by simpa using h3
              have HDg := Lib.hid (Dg.digs_any wp v2 i64b.1 (by have := i64b.2; omega))
              clear h3
              rcases hcase with n1 | ⟨n1, n2⟩
              all_goals
                go_wp2_with (go_at_call 9; refine Hid.out ?_)
                refine Lib.hid ?_
                refine HDg.out.mono ?_
                rintro e u0 ⟨rfl, c0⟩
                generalize Dg.itoB v2 = dg at *
                have z1 : u0.cell? ⟨wo.heap.size, 1, none⟩ = some (.int .i64 v1) := (c0.cell (p := ⟨wo.heap.size, 1, none⟩) hzw).trans y1
                have HKy := Lib.hid (key_any u0 v1 i64a)
                go_wp2_with (go_at_call 8; refine Hid.out ?_)
                refine Lib.hid ?_
                refine HKy.out.mono ?_
                rintro e u1 ⟨k, rfl, hkz, c1⟩
                have C1 : Below wp.heap.size wp u1 := c0.trans (c1.mono c0.size)
                have HD := Lib.hid (put_any (HS2.out.keep C1) ok (by omega) k dg)
                go_wp2_with (go_at_call 5; refine Hid.out ?_)
                refine Lib.hid ?_
                refine HD.out.mono ?_
                rintro e u2 ⟨rfl, ⟨v5, hs5⟩, f5⟩
                have B5 : Below w.heap.size w u2 := (hBv.trans (C1.mono hBv.size)).trans (f5.mono hlo).toBelow
                have HS5 := Lib.hid hs5
                have htb := put_tabs s ⟨k, dg, false⟩
                have ok5 := Lib.hid (put_ok ok (e := ⟨k, dg, false⟩) rfl)
                have cv5 := Lib.hid (put_cov ok cov (e := ⟨k, dg, false⟩) rfl)
                clear HD hs5 f5 c1 HKy c0 C1
                go_wp2_with fail
                go_roundw
                case rel => exact ⟨j + 1, v5, _, by omega, by omega, by go_num, HS5.out, ok5.out, cv5.out, by omega, B5⟩
                case measure => simp [intOf]; omega
      · have hcase : ¬ (j : Int) < P.length ∨ ((j : Int) < P.length ∧ ¬ (j : Int) < 120) := by omega
        have hsc := scan_ly hst ok ⟨#[]⟩ ⟨#[]⟩
        rw [show scanS s (⟨#[]⟩ : ByteArray).data.toList (⟨#[]⟩ : ByteArray).data.toList = livE s.all from scan_all s] at hsc
        have HSt := Lib.hid hst
        have hR4 : (livE s.all).length ≤ 400 := (ents_zero (liv_ents ok)).1
        obtain ⟨R, hR⟩ : ∃ R, R = livE s.all := ⟨_, rfl⟩
        rw [← hR] at hsc hR4
        have HSC := Lib.hid hsc
        have HR := Lib.hid hR
        clear hsc hst hR
        rcases hcase with n1 | ⟨n1, n2⟩
        all_goals
          go_wp2_with (go_at_call 10; refine Hid.out ?_)
          refine Lib.hid ?_
          refine HSC.out.mono ?_
          rintro e u1 ⟨A1, c1, rfl, hc1, hy1, b1⟩
          have W1 : WtAt u1 A1 R := ⟨hc1, hy1⟩
          have hs1 := HSt.out.keep b1
          have HFl := Lib.hid (flush_any hs1 ok (by omega))
          have D1 : Below w.heap.size w u1 := hB.trans (b1.mono hB.size)
          clear hc1 hy1 hs1 b1 HSC HSt hB
          go_wp2_with (go_at_call 11; refine Hid.out ?_)
          refine Lib.hid ?_
          refine HFl.out.mono ?_
          rintro e u2 ⟨rfl, ⟨v2, hs2⟩, f2⟩
          have W2 := W1.frs f2
          have D2 : Below w.heap.size w u2 := D1.trans (f2.mono hlo).toBelow
          obtain ⟨s2, hs2e⟩ : ∃ s2, s2 = flushS s := ⟨_, rfl⟩
          rw [← hs2e] at hs2
          have ok2 : SOk s2 := by rw [hs2e]; exact flush_ok ok
          have cv2 : Cov s2 := by rw [hs2e]; exact flush_cov ok cov
          have fr2 : s2.fr = [] := by rw [hs2e]; exact flush_fr s
          have HR2 : Hid (R = livE s2.all) := Lib.hid (by rw [hs2e, flush_all]; exact HR.out)
          have ht2 : s2.tabs.length ≤ 121 := by
            have := flush_tabs s
            rw [hs2e, this]; split <;> omega
          have HTb := Lib.hid (tables_any hs2 (by omega))
          have HS2 := Lib.hid hs2
          have FR2 := Lib.hid fr2
          have hfl2 : ((s2.fr.length : Nat) : Int) = 0 := by rw [fr2]; rfl
          have HFr2 := Lib.hid hfl2
          clear hs2e hs2 HFl f2 W1 D1 HR fr2 hfl2 ok cov
          go_wp2_with (go_at_call 13; refine Hid.out ?_)
          refine Lib.hid ?_
          refine HTb.out.mono ?_
          rintro e u3 ⟨A3, c3, T3, rfl, hC3, hm3, hT3, b3⟩
          have W3 := W2.keep b3
          have D3 := D2.trans (b3.mono D2.size)
          have hT3l : T3.length = s2.tabs.length := by have := congrArg List.length hm3; simpa using this
          have HS3 := Lib.hid (HS2.out.keep b3)
          clear W2 D2 HTb b3 HS2
          by_cases ho : oth < 1 ∨ 400 < oth
          · have HB := Lib.hid (open_bad (w := u3) A3 T3.length c3 oth ho)
            clear hC3 hm3 hT3 hT3l
            go_wp2_with (go_at_call 12; refine Hid.out ?_)
            refine Lib.hid ?_
            refine HB.out.mono ?_
            rintro e u4 ⟨rfl, b4⟩
            have D4 := D3.trans (b4.mono D3.size)
            simp only [errV]
            by_cases ho1 : oth < 1
            · go_wp2_with fail
              go_ret
              exact ⟨rfl, D4⟩
            · have ho2 : 400 < oth := by omega
              go_wp2_with fail
              go_ret
              exact ⟨rfl, D4⟩
          · obtain ⟨n, rfl⟩ : ∃ n : Nat, oth = n := ⟨oth.toNat, by omega⟩
            have hn1 : 1 ≤ n := by omega
            have hn2 : n ≤ 400 := by omega
            have q1 : ¬ (n : Int) < 1 := by omega
            have q2 : ¬ (400 : Int) < n := by omega
            have HO := opens_any (w := u3) A3 c3 T3 s2.tabs.reverse hC3 hT3 hm3 (fun t ht => ok2.tab t (by simpa using ht)) (by omega) n hn1 hn2 (by rw [List.reverse_reverse, openA_eq ok2 cv2 FR2.out]; exact ok2.len)
            rw [List.reverse_reverse] at HO
            have HOp := Lib.hid HO
            have okO : SOk (openS n s2.tabs) := open_ok hn1 hn2 ok2.tab (by rw [openA_eq ok2 cv2 FR2.out]; exact ok2.len)
            clear HO hC3 hm3 hT3 hT3l ho
            go_wp2_with (go_at_call 12; refine Hid.out ?_)
            refine Lib.hid ?_
            refine HOp.out.mono ?_
            rintro e u4 ⟨S4, L4, F4, v4, rfl, hs4, b4⟩
            have W4 := W3.keep b4
            have D4 := D3.trans (b4.mono D3.size)
            have HS4 := Lib.hid (HS3.out.keep b4)
            have hfr := fresh_any HS4.out ok2
            rw [HFr2.out] at hfr
            have HFre := Lib.hid hfr
            have hsc4 := scan_ly hs4 okO ⟨#[]⟩ ⟨#[]⟩
            rw [show scanS (openS n s2.tabs) (⟨#[]⟩ : ByteArray).data.toList (⟨#[]⟩ : ByteArray).data.toList = R from (open_same ok2 cv2 FR2.out n).trans HR2.out.symm] at hsc4
            have HSC4 := Lib.hid hsc4
            clear W3 D3 HOp hs4 b4 hfr hsc4 HS3
            go_wp2_with (go_at_call 14; refine Hid.out ?_)
            refine Lib.hid ?_
            refine HFre.out.mono ?_
            rintro e u4' ⟨rfl, rfl⟩
            go_wp2_with (go_at_call 10; refine Hid.out ?_)
            refine Lib.hid ?_
            refine HSC4.out.mono ?_
            rintro e u5 ⟨A5, c5, rfl, hc5, hy5, b5⟩
            have W5 := W4.keep b5
            have D5 := D4.trans (b5.mono D4.size)
            have HS5 := Lib.hid (HS4.out.keep b5)
            have HSm := Lib.hid (sameEns_any u5 A5 A1 c5 c1 R hc5 W5.1 (by omega))
            clear W4 D4 HSC4 HFre b5 hc5 hy5 HS4
            go_wp2_with (go_at_call 15; refine Hid.out ?_)
            refine Lib.hid ?_
            refine HSm.out.mono ?_
            rintro e u5' ⟨rfl, b5'⟩
            replace W5 := W5.keep b5'
            replace D5 := D5.trans (b5'.mono D5.size)
            replace HS5 := Lib.hid (HS5.out.keep b5')
            have HCo := Lib.hid (compact_any HS5.out ok2)
            clear b5'
            go_wp2_with (go_at_call 16; refine Hid.out ?_)
            refine Lib.hid ?_
            refine HCo.out.mono ?_
            rintro e u6 ⟨rfl, ⟨v6, hs6⟩, f6⟩
            have W6 := W5.frs f6
            have D6 : Below w.heap.size w u6 := D5.trans (f6.mono hlo).toBelow
            obtain ⟨s6, hs6e⟩ : ∃ s6, s6 = compS s2 := ⟨_, rfl⟩
            rw [← hs6e] at hs6
            have ok6 : SOk s6 := by rw [hs6e]; exact comp_ok ok2
            have cv6 : Cov s6 := by rw [hs6e]; exact comp_cov ok2
            have fr6 : Hid (s6.fr = []) := Lib.hid (by rw [hs6e]; rfl)
            have HR6 : Hid (R = livE s6.all) := Lib.hid (by rw [hs6e, comp_all]; exact HR2.out)
            have ht6 : s6.tabs.length ≤ 1 := by rw [hs6e]; exact comp_tabs s2
            have HTb6 := Lib.hid (tables_any hs6 (by omega))
            have HS6 := Lib.hid hs6
            clear hs6e hs6 HCo HSm f6 W5 D5 HS5 ok2 cv2 ht2 okO FR2 HFr2 HR2
            go_wp2_with (go_at_call 13; refine Hid.out ?_)
            refine Lib.hid ?_
            refine HTb6.out.mono ?_
            rintro e u7 ⟨A7, c7, T7, rfl, hC7, hm7, hT7, b7⟩
            have W7 := W6.keep b7
            have D7 := D6.trans (b7.mono D6.size)
            have hT7l : T7.length = s6.tabs.length := by have := congrArg List.length hm7; simpa using this
            have HS7 := Lib.hid (HS6.out.keep b7)
            have HO7 := opens_any (w := u7) A7 c7 T7 s6.tabs.reverse hC7 hT7 hm7 (fun t ht => ok6.tab t (by simpa using ht)) (by omega) n hn1 hn2 (by rw [List.reverse_reverse, openA_eq ok6 cv6 fr6.out]; exact ok6.len)
            rw [List.reverse_reverse] at HO7
            have HOp7 := Lib.hid HO7
            have okO7 : SOk (openS n s6.tabs) := open_ok hn1 hn2 ok6.tab (by rw [openA_eq ok6 cv6 fr6.out]; exact ok6.len)
            clear HO7 hC7 hm7 hT7 hT7l W6 D6 HTb6 b7 HS6
            go_wp2_with (go_at_call 12; refine Hid.out ?_)
            refine Lib.hid ?_
            refine HOp7.out.mono ?_
            rintro e u8 ⟨S8, L8, F8, v8, rfl, hs8, b8⟩
            have W8 := W7.keep b8
            have D8 := D7.trans (b8.mono D7.size)
            have HS8 := Lib.hid (HS7.out.keep b8)
            have HU8 := Lib.hid hs8
            have HTb8 := Lib.hid (tables_any HS8.out (by omega))
            clear W7 D7 HOp7 hs8 b8 HS7
            go_wp2_with (go_at_call 13; refine Hid.out ?_)
            refine Lib.hid ?_
            refine HTb8.out.mono ?_
            rintro e u9 ⟨A9, c9, T9, rfl, -, hm9, -, b9⟩
            have W9 := W8.keep b9
            have D9 := D8.trans (b9.mono D8.size)
            have hT9l : ¬ (1 : Int) < T9.length := by have := congrArg List.length hm9; simp at this; omega
            have hsc9 := scan_ly (HU8.out.keep b9) okO7 ⟨#[]⟩ ⟨#[]⟩
            rw [show scanS (openS n s6.tabs) (⟨#[]⟩ : ByteArray).data.toList (⟨#[]⟩ : ByteArray).data.toList = R from (open_same ok6 cv6 fr6.out n).trans HR6.out.symm] at hsc9
            have HSC9 := Lib.hid hsc9
            clear W8 D8 HTb8 b9 hm9 hsc9 HU8 HS8
            generalize T9.length = t9 at *
            go_wp2_with (go_at_call 10; refine Hid.out ?_)
            refine Lib.hid ?_
            refine HSC9.out.mono ?_
            rintro e ua ⟨Aa, ca, rfl, hca, hya, ba⟩
            have Wa := W9.keep ba
            have Da := D9.trans (ba.mono D9.size)
            have HSma := Lib.hid (sameEns_any ua Aa A1 ca c1 R hca Wa.1 (by omega))
            clear W9 D9 HSC9 ba hca hya
            go_wp2_with (go_at_call 15; refine Hid.out ?_)
            refine Lib.hid ?_
            refine HSma.out.mono ?_
            rintro e ua' ⟨rfl, ba'⟩
            replace Da := Da.trans (ba'.mono Da.size)
            go_wp2_with fail
            go_ret
            exact ⟨rfl, Da⟩
end Go.Proofs.Ytckjcjoheeobgaa
