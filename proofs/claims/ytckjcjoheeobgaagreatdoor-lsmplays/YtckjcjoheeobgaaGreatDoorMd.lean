/- LsmPlays, walked. -/
import Derived.Test.YtckjcjoheeobgaaGreatDoorMc
import Derived.Test.YtckjcjoheeobgaaGreatDoorLm
import Derived.Test.YtckjcjoheeobgaaGreatDoorLj
import Derived.Test.YtckjcjoheeobgaaGreatDoorLg
import Derived.Test.YtckjcjoheeobgaaGreatDoorLo
import Derived.Test.YtckjcjoheeobgaaGreatDoorDg
import Derived.Test.YtckjcjoheeobgaaGreatDoorErr
import Derived.Test.YtckjcjoheeobgaaGreatDoorPureLb
import Derived.Deep.DeepCutAuto
import Derived.Deep.RegionHeld3
namespace Go.Proofs.YtckjcjoheeobgaaGreatDoor
open Go.RowKit
set_option linter.unusedVariables false

theorem mput_any {lo : Nat} {w : World} {B : Nat} {A : Option Addr} {c : Nat} {v : Value} {s : Sto} {F : List ByteArray} (h : MAt lo w B A c v s F) (ok : SOk s) (hn : s.tabs.length ≤ 100000) (e : En) :
    Calls Tryz.prog 9 #[.pointer (some ⟨B, 0, none⟩), enV e] w (MPEnd lo B w s e) := by
  cases hb : badEn e with
  | true => exact mput_bad h e hb
  | false => exact mput_ok h ok.len (fr_small ok) hn e hb
/-- An error against its number. -/
theorem error_any (k : Nat) (w : World) (hg : w.cell? ⟨0, 0, none⟩ = some ET) : Calls Tryz.prog 5 #[errV k, .int .i64 (k : Nat)] w fun e w' => e = .returned (.bool true) ∧ Below w.heap.size w w' := by
  unfold errV
  by_cases h : k = 0
  · subst h
    rw [if_pos rfl]
    refine (error_nil w).mono ?_
    rintro e w' ⟨h1, rfl⟩
    exact ⟨h1, Below.refl _ _⟩
  · rw [if_neg h]
    exact error_hit (k : Nat) w hg
/-- What is found. -/
def fndE (o : Option En) : Int := match o with
  | none => 6
  | some _ => 0
def fndV (o : Option En) : ByteArray := match o with
  | none => ⟨#[]⟩
  | some e => e.val
theorem fnd_get {s : Sto} (ok : SOk s) (k : List UInt8) : fndE (atK (livE s.all) k) = (getE s k : Nat) ∧ fndV (atK (livE s.all) k) = getV s k := by
  unfold livE getE getV
  rw [atK_filter ok.ris]
  cases h : atK s.all k with
  | none => exact ⟨rfl, rfl⟩
  | some e =>
    cases hd : e.dead with
    | true => simp [Option.filter, hd, fndE, fndV]
    | false => simp [Option.filter, hd, fndE, fndV]
theorem at_next {l : List En} (h : Ris l) (j : Nat) (hj : j < l.length) (k : List UInt8) : atK (l.take (j + 1)) k = if kl l[j] = k then some l[j] else atK (l.take j) k := by
  rw [List.take_succ_eq_append_getElem hj, atK_app, atK_cons]
  by_cases he : kl l[j] = k
  · rw [if_pos he, if_pos he]
    have : atK (l.take j) k = none := atK_none.2 (fun e hm h1 => by
      obtain ⟨i, hi, rfl⟩ := List.getElem_of_mem hm
      have hij : i < j := by simp at hi; omega
      have := List.pairwise_iff_getElem.1 h i j (by omega) hj hij
      simp only [List.getElem_take] at h1
      rw [h1, he] at this
      exact kl_irrefl _ this)
    rw [this]; rfl
  · rw [if_neg he, if_neg he]
    cases atK (l.take j) k <;> simp [atK]

set_option maxRecDepth 100000 in
set_option maxHeartbeats 4000000 in
theorem plays_walk (w : World) (lim : Int) (ps : Option Addr) (cs : Nat) (P : List (List Int)) (hP : IiAt w ps P) (hPl : P.length ≤ 9223372036854775807) (hPll : ∀ l ∈ P, l.length ≤ 9223372036854775807) (hPi : ∀ l ∈ P, ∀ x ∈ l, I64 x) (low high : ByteArray) (hg : w.cell? ⟨0, 0, none⟩ = some ET) :
    Calls Tryz.prog 3 #[.int .i64 lim, .slice ps P.length cs, .string low, .string high] w fun e w' => e = .returned (.bool true) ∧ Below w.heap.size w w' := by
  have HP := Lib.hid hP
  have HPi := Lib.hid hPi
  have HPl := Lib.hid hPll
  have HG := Lib.hid (fun (u : World) (h : Below w.heap.size w u) => et_below hg h)
  clear hP hPi hPll hg
  by_cases hl : lim < 1 ∨ 400 < lim
  · have HB := Lib.hid (new_bad (w := w) lim hl)
    by_cases hl1 : lim < 1
    all_goals
      go_enter Tryz.func3, Tryz.ntmps3
      go_wp2_with (go_at_call 4; refine Hid.out ?_)
      refine Lib.hid ?_
      refine HB.out.mono ?_
      rintro e w4 ⟨rfl, b4⟩
      have HE := Lib.hid (error_any 1 w4 (HG.out w4 b4))
      first | (have hl2 : 400 < lim := by omega) | skip
      rw [show errV 1 = .iface 54 (.int .i64 1) from rfl] at HE ⊢
      go_wp2_with (go_at_call 5; refine Hid.out ?_)
      refine Lib.hid ?_
      refine HE.out.mono ?_
      rintro e w5 ⟨rfl, b5⟩
      have B5 := b4.trans (b5.mono b4.size)
      go_wp2_with fail
      go_ret
      exact ⟨rfl, B5⟩
  · obtain ⟨m, rfl⟩ : ∃ m : Nat, lim = m := ⟨lim.toNat, by omega⟩
    have hm1 : 1 ≤ m := by omega
    have hm2 : m ≤ 400 := by omega
    have q1 : ¬ (m : Int) < 1 := by omega
    have q2 : ¬ (400 : Int) < m := by omega
    have HN := Lib.hid (new_any (w := w) m hm1 hm2)
    clear hl
    go_enter Tryz.func3, Tryz.ntmps3
    go_wp2_with (go_at_call 4; refine Hid.out ?_)
    refine Lib.hid ?_
    refine HN.out.mono ?_
    rintro e w1 ⟨S, Ml, Mf, v, rfl, hs1, b1⟩
    have okN := new_ok hm1 hm2
    go_wp2_with (go_at_call 5; refine Hid.out ?_)
    refine Lib.hid ?_
    refine (error_nil w1).mono ?_
    rintro e w1' ⟨rfl, rfl⟩
    have bA : Below w1.heap.size w1 (w1.alloc (.cells #[.slice none 0 0, .slice none 0 0, .int .i64 0, .int .i64 m] 33)) := (Below.refl _ _).alloc (Nat.le_refl _) _
    have hm0 : MAt w.heap.size (w1.alloc (.cells #[.slice none 0 0, .slice none 0 0, .int .i64 0, .int .i64 m] 33)) w1.heap.size none 0 (.slice none 0 0) (newS m) [] :=
      ⟨(MapKept.heap_alloc w1 _).1, ⟨.inl rfl, .inl rfl⟩, World.ownsRow_nil _ _ _ _, rfl, b1.size⟩
    have hs0 := hs1.keep bA
    have D0 := b1.trans (bA.mono b1.size)
    obtain ⟨lo, hlo'⟩ : ∃ lo, lo = w.heap.size := ⟨_, rfl⟩
    rw [← hlo'] at hs0 hm0
    have hlo : w.heap.size ≤ lo := by omega
    have HS0 := Lib.hid hs0
    have HM0 := Lib.hid hm0
    clear HN hs1 b1 bA hs0 hm0 hlo'
    go_wp2_with fail
    generalize w1.heap.size = B at *
    go_loopw [14, 12] (fun i td wr => ∃ (j : Nat) (v : Value) (s : Sto) (A : Option Addr) (c : Nat) (v' : Value) (F : List ByteArray), j ≤ P.length ∧ j ≤ 120 ∧ i = .int .i64 j ∧ td = .bool true ∧ StAt lo wr S Ml Mf v s ∧ MAt lo wr B A c v' s F ∧ SOk s ∧ s.tabs.length ≤ j ∧ Below w.heap.size w wr) (fun i _ _ => P.length - (intOf i).toNat)
    case atStart => exact ⟨0, v, newS m, none, 0, _, [], Nat.zero_le _, by omega, rfl, rfl, HS0.out, HM0.out, okN, by simp [newS], D0⟩
    case round =>
      clear HS0 HM0 okN D0
      obtain ⟨j, v, s, A, c, v', F, hj, hj8, rfl, rfl, hst, hmt, ok, htl, hB⟩ := hrel
      by_cases hlt : j < P.length ∧ j < 120
      · obtain ⟨l1, l2⟩ := hlt
        have i1 : (j : Int) < P.length := by omega
        have i2 : (j : Int) < 120 := by omega
        obtain ⟨sb, so, rfl, hPj⟩ : ∃ b o, ps = some ⟨b, o, none⟩ ∧ ∀ i (h : i < P.length), ∃ q c, w.cell? ⟨b, o + i, none⟩ = some (.slice q P[i].length c) ∧ IsAt w q P[i] := by
          rcases HP.out with h | h
          · subst h; simp at l1
          · exact h
        obtain ⟨q, qc, s1, s2⟩ := hPj j l1
        have hlen := HPl.out _ (List.getElem_mem l1)
        have hi64 := HPi.out _ (List.getElem_mem l1)
        have hsb := cell_lt s1
        have r1 := Lib.hid (fun (u : World) (h : Below w.heap.size w u) => (h.cell (p := ⟨sb, so + j, none⟩) hsb).trans s1)
        have r2 := Lib.hid s2
        clear s1 s2 hPj HP
        generalize P[j] = l at *
        generalize wr = wo at *
        have HSt := Lib.hid hst
        have HMt := Lib.hid hmt
        have HI := Lib.hid hi64
        clear hst hi64 hmt
        go_wp2
        have hVa : Below wo.heap.size wo (wo.alloc (.cells #[.int .i64 0, .int .i64 0, .int .i64 0] 34)) := (Below.refl _ _).alloc (Nat.le_refl _) _
        have hV0 : (wo.alloc (.cells #[.int .i64 0, .int .i64 0, .int .i64 0] 34)).heap[wo.heap.size]? = some (.cells #[.int .i64 (vv l 0 0), .int .i64 (vv l 0 1), .int .i64 (vv l 0 2)] 34) := by
          rw [(MapKept.heap_alloc wo _).1]; simp [vv]
        have hz0 : wo.heap.size + 1 ≤ (wo.alloc (.cells #[.int .i64 0, .int .i64 0, .int .i64 0] 34)).heap.size := by simp
        go_loopw [16] (fun i wr => ∃ t : Nat, t ≤ l.length ∧ t ≤ 3 ∧ i = .int .i64 t ∧ Below wo.heap.size wo wr ∧ wr.heap[wo.heap.size]? = some (.cells #[.int .i64 (vv l t 0), .int .i64 (vv l t 1), .int .i64 (vv l t 2)] 34) ∧ wo.heap.size + 1 ≤ wr.heap.size) (fun i _ => 3 - (intOf i).toNat)
        case atStart => exact ⟨0, Nat.zero_le _, by omega, rfl, hVa, hV0, hz0⟩
        case round =>
          clear hVa hV0 hz0
          obtain ⟨t, ht, ht4, rfl, hVa, hV0, hz0⟩ := hrel
          have hBv : Below w.heap.size w wr := hB.trans (hVa.mono hB.size)
          have rr1 := r1.out wr hBv
          by_cases hl : t < l.length ∧ t < 3
          · obtain ⟨m1, m2⟩ := hl
            have n1 : (t : Int) < l.length := by omega
            have n2 : (t : Int) < 3 := by omega
            obtain ⟨lb, lo', rfl, s2⟩ : ∃ b o, q = some ⟨b, o, none⟩ ∧ ∀ i (h : i < l.length), w.cell? ⟨b, o + i, none⟩ = some (.int .i64 l[i]) := by
              rcases r2.out with h | h
              · subst h; simp at m1
              · exact h
            have s3 := s2 t m1
            have s4 : wr.cell? ⟨lb, lo' + t, none⟩ = some (.int .i64 (l.getD t 0)) := by
              rw [(hBv.cell (p := ⟨lb, lo' + t, none⟩) (cell_lt s3)).trans s3]; simp [List.getD, m1]
            have vc : ∀ m, m < 3 → wr.cell? ⟨wo.heap.size, m, none⟩ = some (.int .i64 (vv l t m)) := fun m hm => by
              obtain rfl | rfl | rfl : m = 0 ∨ m = 1 ∨ m = 2 := by omega
              all_goals simp [World.cell?, hV0]
            have vc0 := vc t m2
            have vf : wr.frozen? ⟨wo.heap.size, t, none⟩ = false := by simp [World.frozen?, hV0]
            have HV : Hid ((wr.setCell ⟨wo.heap.size, t, none⟩ (.int .i64 (l.getD t 0))).heap[wo.heap.size]? = some (.cells #[.int .i64 (vv l (t + 1) 0), .int .i64 (vv l (t + 1) 1), .int .i64 (vv l (t + 1) 2)] 34)) := by
              show _ = _
              obtain rfl | rfl | rfl : t = 0 ∨ t = 1 ∨ t = 2 := by omega
              all_goals simp [World.setCell, Array.getElem?_modify, hV0, vv]
            have HB : Hid (Below wo.heap.size wo (wr.setCell ⟨wo.heap.size, t, none⟩ (.int .i64 (l.getD t 0)))) := hVa.setCell (Nat.le_refl _) _
            clear s2 s3 vc
            generalize l.getD t 0 = lt at *
            go_wp2
            go_roundw
            case rel => exact ⟨t + 1, by omega, by omega, by go_num, HB.out, HV.out, by simpa using hz0⟩
            case measure => simp [intOf]; omega
          · have hcase : ¬ (t : Int) < l.length ∨ ((t : Int) < l.length ∧ ¬ (t : Int) < 3) := by omega
            have i64a := vv_i64 HI.out t 1
            have i64b := vv_i64 HI.out t 2
            have hst := HSt.out.keep hVa
            have hmt := HMt.out.keep hVa
            generalize vv l t 0 = v0 at *
            generalize vv l t 1 = v1 at *
            generalize vv l t 2 = v2 at *
            have y0 : wr.cell? ⟨wo.heap.size, 0, none⟩ = some (.int .i64 v0) := by simp [World.cell?, hV0]
            have y1 : wr.cell? ⟨wo.heap.size, 1, none⟩ = some (.int .i64 v1) := by simp [World.cell?, hV0]
            have y2 : wr.cell? ⟨wo.heap.size, 2, none⟩ = some (.int .i64 v2) := by simp [World.cell?, hV0]
            have hzw : wo.heap.size < wr.heap.size := by omega
            have HS2 := Lib.hid hst
            have HM2 := Lib.hid hmt
            clear HSt HMt hst hmt hV0 HI r1 r2
            generalize wr = wp at *
            go_upto_region 14 with fail
            go_cut [69] (fun t wc => wp = wc ∧ t = .bool false)
            case first =>
              rcases hcase with n1 | ⟨n1, n2⟩
              · go_wp2_with fail
                go_meet
                case rel => exact ⟨rfl, by simp⟩
              · go_wp2_with fail
                go_meet
                case rel => exact ⟨rfl, by simp⟩
            case rest =>
              obtain ⟨rfl, rfl⟩ := hcut
              clear hcase
              have HKy := Lib.hid (key_any wp v1 i64a)
              go_wp2_with (go_at_call 6; refine Hid.out ?_)
              refine Lib.hid ?_
              refine HKy.out.mono ?_
              rintro e u1 ⟨k, rfl, hkz, c1⟩
              have z0 : u1.cell? ⟨wo.heap.size, 0, none⟩ = some (.int .i64 v0) := (c1.cell (p := ⟨wo.heap.size, 0, none⟩) hzw).trans y0
              have z2 : u1.cell? ⟨wo.heap.size, 2, none⟩ = some (.int .i64 v2) := (c1.cell (p := ⟨wo.heap.size, 2, none⟩) hzw).trans y2
              have HS3 := Lib.hid (HS2.out.keep c1)
              have HM3 := Lib.hid (HM2.out.keep c1)
              have D1 := hBv.trans (c1.mono hBv.size)
              clear HKy HS2 HM2 y0 y1 y2 rr1 hBv hB hVa c1 hzw hz0
              go_upto_region 18 with fail
              go_cut [85] (fun t wc => u1 = wc ∧ t = .int .i64 v0)
              case first =>
                go_wp2_with fail
                go_meet
                case rel => exact ⟨rfl, rfl⟩
              case rest =>
                obtain ⟨rfl, rfl⟩ := hcut
                apply_assumption
                go_cut [12] (fun td wc => td = .bool true ∧ ∃ (v : Value) (s' : Sto) (A : Option Addr) (c : Nat) (v' : Value) (F : List ByteArray), StAt lo wc S Ml Mf v s' ∧ MAt lo wc B A c v' s' F ∧ SOk s' ∧ s'.tabs.length ≤ j + 1 ∧ Below w.heap.size w wc)
                case first =>
                  by_cases hk : v0 = 0 ∨ v0 = 1 ∨ v0 = 2
                  · have HDg := Lib.hid (Dg.digs_any u1 v2 i64b.1 (by have := i64b.2; omega))
                    rcases hk with rfl | rfl | rfl
                    all_goals
                      go_wp2_with (go_at_call 7; refine Hid.out ?_)
                      refine Lib.hid ?_
                      refine HDg.out.mono ?_
                      rintro e u2 ⟨rfl, c2⟩
                      generalize Dg.itoB v2 = dg at *
                      clear HDg
                      have HPt := Lib.hid (put_any (HS3.out.keep c2) ok (by omega) k dg)
                      have HM4 := Lib.hid (HM3.out.keep c2)
                      have D2 : Below w.heap.size w u2 := D1.trans (c2.mono D1.size)
                      clear HS3 HM3
                      go_wp2_with (go_at_call 8; refine Hid.out ?_)
                      refine Lib.hid ?_
                      refine HPt.out.mono ?_
                      rintro e u3 ⟨rfl, ⟨v5, hs5⟩, f5⟩
                      have hmp := mput_any (HM4.out.frs f5) ok (by omega) ⟨k, dg, false⟩
                      simp only [enV] at hmp
                      have HMp := Lib.hid hmp
                      have D3 : Below w.heap.size w u3 := D2.trans (f5.mono hlo).toBelow
                      have HS5 := Lib.hid hs5
                      clear hmp hs5 f5 HPt HM4 D2
                      go_wp2_with (go_at_call 9; refine Hid.out ?_)
                      refine Lib.hid ?_
                      refine HMp.out.mono ?_
                      rintro e u4 ⟨rfl, ⟨A6, c6, v6, F6, hm6⟩, f6⟩
                      have D4 : Below w.heap.size w u4 := D3.trans (f6.mono hlo).toBelow
                      have HE := Lib.hid (error_any (setErr s ⟨k, dg, false⟩) u4 (HG.out u4 D4))
                      have HS6 := Lib.hid (HS5.out.frm f6)
                      have HM6 := Lib.hid hm6
                      have htb := put_tabs s ⟨k, dg, false⟩
                      have ok5 := Lib.hid (put_ok ok (e := ⟨k, dg, false⟩) rfl)
                      clear hm6 f6 HMp HS5 D3
                      generalize putS s ⟨k, dg, false⟩ = s5 at *
                      generalize setErr s ⟨k, dg, false⟩ = er at *
                      go_wp2_with (go_at_call 5; refine Hid.out ?_)
                      refine Lib.hid ?_
                      refine HE.out.mono ?_
                      rintro e u5 ⟨rfl, c5⟩
                      have D5 : Below w.heap.size w u5 := D4.trans (c5.mono D4.size)
                      have HS7 := Lib.hid (HS6.out.keep c5)
                      have HM7 := Lib.hid (HM6.out.keep c5)
                      clear c5 HS6 HM6 D4 HE
                      go_wp2_with fail
                      go_meet
                      case rel => exact ⟨rfl, v5, s5, A6, c6, v6, F6, HS7.out, HM7.out, ok5.out, by omega, D5⟩
                  · have e0 : (v0 == 0) = false := by simp; omega
                    have e1 : (v0 == 1) = false := by simp; omega
                    have e2 : (v0 == 2) = false := by simp; omega
                    clear z2
                    by_cases h3 : v0 = 3
                    · subst h3
                      clear e0 e1 e2 hk
                      have HPt := Lib.hid (dele_any HS3.out ok (by omega) k)
                      have HM4 := Lib.hid (HM3.out)
                      have D2 : Below w.heap.size w u1 := D1
                      clear HS3 HM3
                      go_wp2_with (go_at_call 10; refine Hid.out ?_)
                      refine Lib.hid ?_
                      refine HPt.out.mono ?_
                      rintro e u3 ⟨rfl, ⟨v5, hs5⟩, f5⟩
                      have hmp := mput_any (HM4.out.frs f5) ok (by omega) ⟨k, ⟨#[]⟩, true⟩
                      simp only [enV] at hmp
                      have HMp := Lib.hid hmp
                      have D3 : Below w.heap.size w u3 := D2.trans (f5.mono hlo).toBelow
                      have HS5 := Lib.hid hs5
                      clear hmp hs5 f5 HPt HM4 D2
                      go_wp2_with (go_at_call 9; refine Hid.out ?_)
                      refine Lib.hid ?_
                      refine HMp.out.mono ?_
                      rintro e u4 ⟨rfl, ⟨A6, c6, v6, F6, hm6⟩, f6⟩
                      have D4 : Below w.heap.size w u4 := D3.trans (f6.mono hlo).toBelow
                      have HE := Lib.hid (error_any (setErr s ⟨k, ⟨#[]⟩, true⟩) u4 (HG.out u4 D4))
                      have HS6 := Lib.hid (HS5.out.frm f6)
                      have HM6 := Lib.hid hm6
                      have htb := put_tabs s ⟨k, ⟨#[]⟩, true⟩
                      have ok5 := Lib.hid (put_ok ok (e := ⟨k, ⟨#[]⟩, true⟩) rfl)
                      clear hm6 f6 HMp HS5 D3
                      generalize putS s ⟨k, ⟨#[]⟩, true⟩ = s5 at *
                      generalize setErr s ⟨k, ⟨#[]⟩, true⟩ = er at *
                      go_wp2_with (go_at_call 5; refine Hid.out ?_)
                      refine Lib.hid ?_
                      refine HE.out.mono ?_
                      rintro e u5 ⟨rfl, c5⟩
                      have D5 : Below w.heap.size w u5 := D4.trans (c5.mono D4.size)
                      have HS7 := Lib.hid (HS6.out.keep c5)
                      have HM7 := Lib.hid (HM6.out.keep c5)
                      clear c5 HS6 HM6 D4 HE
                      go_wp2_with fail
                      go_meet
                      case rel => exact ⟨rfl, v5, s5, A6, c6, v6, F6, HS7.out, HM7.out, ok5.out, by omega, D5⟩
                    · have e3 : (v0 == 3) = false := by simpa using h3
                      by_cases h4 : v0 = 4
                      · subst h4
                        clear e0 e1 e2 hk e3 h3
                        have HPt := Lib.hid (flush_any HS3.out ok (by omega))
                        clear HS3
                        go_wp2_with (go_at_call 11; refine Hid.out ?_)
                        refine Lib.hid ?_
                        refine HPt.out.mono ?_
                        rintro e u3 ⟨rfl, ⟨v5, hs5⟩, f5⟩
                        have HMp := Lib.hid (mflush_any (HM3.out.frs f5) (by omega))
                        have D3 : Below w.heap.size w u3 := D1.trans (f5.mono hlo).toBelow
                        have HS5 := Lib.hid hs5
                        clear hs5 f5 HPt HM3
                        go_wp2_with (go_at_call 12; refine Hid.out ?_)
                        refine Lib.hid ?_
                        refine HMp.out.mono ?_
                        rintro e u4 ⟨rfl, ⟨v6, hm6⟩, f6⟩
                        have D4 : Below w.heap.size w u4 := D3.trans (f6.mono hlo).toBelow
                        have HS6 := Lib.hid (HS5.out.frm f6)
                        have HM6 := Lib.hid hm6
                        have ht5 : (flushS s).tabs.length ≤ j + 1 := by rw [flush_tabs]; split <;> omega
                        have ok5 := Lib.hid (flush_ok ok)
                        clear hm6 f6 HMp HS5 D3
                        go_wp2_with fail
                        go_meet
                        case rel => exact ⟨rfl, v5, _, _, _, v6, _, HS6.out, HM6.out, ok5.out, ht5, D4⟩
                      · have e4 : (v0 == 4) = false := by simpa using h4
                        by_cases h5 : v0 = 5
                        · subst h5
                          clear e0 e1 e2 hk e3 h3 e4 h4
                          have HPt := Lib.hid (compact_any HS3.out ok)
                          clear HS3
                          go_wp2_with (go_at_call 13; refine Hid.out ?_)
                          refine Lib.hid ?_
                          refine HPt.out.mono ?_
                          rintro e u3 ⟨rfl, ⟨v5, hs5⟩, f5⟩
                          have HMp := Lib.hid (mcomp_any (HM3.out.frs f5) (by have := ok.len; omega))
                          have D3 : Below w.heap.size w u3 := D1.trans (f5.mono hlo).toBelow
                          have HS5 := Lib.hid hs5
                          clear hs5 f5 HPt HM3
                          go_wp2_with (go_at_call 14; refine Hid.out ?_)
                          refine Lib.hid ?_
                          refine HMp.out.mono ?_
                          rintro e u4 ⟨rfl, ⟨A6, c6, v6, hm6⟩, f6⟩
                          have D4 : Below w.heap.size w u4 := D3.trans (f6.mono hlo).toBelow
                          have HS6 := Lib.hid (HS5.out.frm f6)
                          have HM6 := Lib.hid hm6
                          have ht5 : (compS s).tabs.length ≤ j + 1 := by have := comp_tabs s; omega
                          have ok5 := Lib.hid (comp_ok ok)
                          clear hm6 f6 HMp HS5 D3
                          go_wp2_with fail
                          go_meet
                          case rel => exact ⟨rfl, v5, _, A6, c6, v6, _, HS6.out, HM6.out, ok5.out, ht5, D4⟩
                        · have e5 : (v0 == 5) = false := by simpa using h5
                          go_wp2_with fail
                          go_meet
                          case rel => exact ⟨rfl, v, s, A, c, v', F, HS3.out, HM3.out, ok, by omega, D1⟩
                case rest =>
                  obtain ⟨rfl, v5, s5, A5, c5, v6, F5, hs5, hm5, ok5, ht5, D5⟩ := hcut
                  clear HS3 HM3 D1 ok htl z0 z2
                  obtain ⟨d0, d1, d2, d3⟩ := hm5.cell
                  have h400 := ok5.len
                  have HLv := Lib.hid (slive_any wc A5 c5 s5.all hm5.all.1 (by omega))
                  have HS4 := Lib.hid hs5
                  have HM4 := Lib.hid hm5
                  clear hs5 hm5 d1 d2 d3
                  apply_assumption
                  go_wp2_with (go_at_call 15; refine Hid.out ?_)
                  refine Lib.hid ?_
                  refine HLv.out.mono ?_
                  rintro e u2 ⟨vl, rfl, own2, c2⟩
                  obtain ⟨A2, cap2, rfl⟩ := row_slice own2
                  have hC2 := Lib.hid (own_cs own2 (ecells_len _)).1
                  have hLR : Ris (livE s5.all) := ok5.ris.filter _
                  have hFG := Lib.hid (fnd_get ok5 k.data.toList)
                  have HSc := Lib.hid (fun (u : World) (h : StAt lo u S Ml Mf v5 s5) => scan_any h ok5 low high)
                  rw [show ∀ (a b : List UInt8), scanS s5 a b = partE (livE s5.all) a b from fun _ _ => rfl] at HSc
                  have D6 : Below w.heap.size w u2 := D5.trans (c2.mono D5.size)
                  have HS5 := Lib.hid (HS4.out.keep c2)
                  have HM5 := Lib.hid (HM4.out.keep c2)
                  have hL4 : (livE s5.all).length ≤ 400 := (ents_zero (liv_ents ok5)).1
                  simp only [show ∀ l : List En, l.filter (fun e : En => !e.dead) = livE l from fun _ => rfl] at *
                  clear HS4 HM4 c2 D5 own2 d0 HLv
                  generalize livE s5.all = L at *
                  have HRis := Lib.hid hLR
                  clear hLR
                  go_wp2_with fail
                  go_loop [11, 20, 21] (fun e wt i => ∃ t : Nat, t ≤ L.length ∧ i = .int .i64 t ∧ e = .int .i64 (fndE (atK (L.take t) k.data.toList)) ∧ wt = .string (fndV (atK (L.take t) k.data.toList))) (fun _ _ i => L.length - (intOf i).toNat)
                  case atStart => exact ⟨0, Nat.zero_le _, rfl, rfl, rfl⟩
                  case round =>
                    obtain ⟨y, hy, rfl, rfl, rfl⟩ := hrel
                    by_cases hyl : y < L.length
                    · obtain ⟨b2, o2, rfl, g0, g1, g2⟩ := ens_at hC2.out y hyl
                      have hnx := at_next HRis.out y hyl k.data.toList
                      have HNx := Lib.hid hnx
                      have hyi : (y : Int) < L.length := by omega
                      by_cases he : L[y].key.data.toList = k.data.toList
                      · have hs := str_eq he
                        have hfe : Hid (fndE (atK (L.take (y + 1)) k.data.toList) = 0 ∧ fndV (atK (L.take (y + 1)) k.data.toList) = L[y].val) := Lib.hid (by
                          rw [HNx.out, if_pos (show kl L[y] = k.data.toList from he)]; exact ⟨rfl, rfl⟩)
                        generalize L[y] = x at *
                        clear he hnx HNx
                        go_wp2_with fail
                        go_round
                        case rel => exact ⟨y + 1, by omega, by go_num, by rw [hfe.out.1], by rw [hfe.out.2]⟩
                        case measure => simp [intOf]; omega
                      · have hs := str_ne he
                        have hfe : Hid (atK (L.take (y + 1)) k.data.toList = atK (L.take y) k.data.toList) := Lib.hid (by
                          rw [HNx.out, if_neg (show ¬ kl L[y] = k.data.toList from he)])
                        generalize L[y] = x at *
                        clear he hnx HNx
                        generalize atK (L.take y) k.data.toList = ak at *
                        go_wp2_with fail
                        go_round
                        case rel => exact ⟨y + 1, by omega, by go_num, by rw [hfe.out], by rw [hfe.out]⟩
                        case measure => simp [intOf]; omega
                    · have hyi : ¬ (y : Int) < L.length := by omega
                      have hty : L.take y = L := List.take_of_length_le (by omega)
                      rw [hty]
                      obtain ⟨hf1, hf2⟩ := hFG.out
                      rw [hf1, hf2]
                      have HGt := Lib.hid (get_any HS5.out k (by simp [maxLen]; omega))
                      clear hFG hf1 hf2 hty
                      generalize getE s5 k.data.toList = gE at *
                      generalize getV s5 k.data.toList = gV at *
                      go_wp2_with (go_at_call 16; refine Hid.out ?_)
                      refine Lib.hid ?_
                      refine HGt.out.mono ?_
                      rintro e u3 ⟨rfl, c3⟩
                      have D7 : Below w.heap.size w u3 := D6.trans (c3.mono D6.size)
                      have HE := Lib.hid (error_any gE u3 (HG.out u3 D7))
                      have hC3 := Lib.hid (hC2.out.keep c3)
                      have HS6 := Lib.hid (HS5.out.keep c3)
                      have HM6 := Lib.hid (HM5.out.keep c3)
                      clear HGt c3 D6 HS5 HM5 hC2
                      go_wp2_with (go_at_call 5; refine Hid.out ?_)
                      refine Lib.hid ?_
                      refine HE.out.mono ?_
                      rintro e u4 ⟨rfl, c4⟩
                      have D8 : Below w.heap.size w u4 := D7.trans (c4.mono D7.size)
                      have hC4 := Lib.hid (hC3.out.keep c4)
                      have HS7 := Lib.hid (HS6.out.keep c4)
                      have HM7 := Lib.hid (HM6.out.keep c4)
                      have HSd := Lib.hid (HSc.out u4 HS7.out)
                      clear HSc HE c4 D7 hC3 HS6 HM6
                      generalize errV gE = er at *
                      go_wp2_with (go_at_call 18; refine Hid.out ?_)
                      refine Lib.hid ?_
                      refine HSd.out.mono ?_
                      rintro e u5 ⟨A7, c7, rfl, hc7, b7⟩
                      have D9 : Below w.heap.size w u5 := D8.trans (b7.mono D8.size)
                      have HPa := Lib.hid (spart_any u5 A2 cap2 L low high (hC4.out.keep b7) hL4)
                      have HS8 := Lib.hid (HS7.out.keep b7)
                      have HM8 := Lib.hid (HM7.out.keep b7)
                      have hC7 := Lib.hid hc7
                      clear HSd hc7 b7 D8 HS7 HM7 hC4
                      go_wp2_with (go_at_call 19; refine Hid.out ?_)
                      refine Lib.hid ?_
                      refine HPa.out.mono ?_
                      rintro e u6 ⟨v8, rfl, own8, c8⟩
                      obtain ⟨A8, cap8, rfl⟩ := row_slice own8
                      have hL7 : (L.filter (inE low high)).length ≤ 400 := Nat.le_trans (List.length_filter_le _ _) hL4
                      have HSm := Lib.hid (sameEns_any u6 A7 A8 c7 cap8 (L.filter (inE low high)) (hC7.out.keep c8) (own_cs own8 (ecells_len _)).1 (by omega))
                      rw [part_in]
                      have DA : Below w.heap.size w u6 := D9.trans (c8.mono D9.size)
                      have HS9 := Lib.hid (HS8.out.keep c8)
                      have HM9 := Lib.hid (HM8.out.keep c8)
                      clear HPa own8 c8 D9 HS8 HM8 hC7
                      generalize (L.filter (inE low high)).length = pl at *
                      go_wp2_with (go_at_call 17; refine Hid.out ?_)
                      refine Lib.hid ?_
                      refine HSm.out.mono ?_
                      rintro e u7 ⟨rfl, c9⟩
                      have DB : Below w.heap.size w u7 := DA.trans (c9.mono DA.size)
                      have HSa := Lib.hid (HS9.out.keep c9)
                      have HMa := Lib.hid (HM9.out.keep c9)
                      clear HSm DA c9 HS9 HM9
                      obtain ⟨A9, c9, rfl⟩ := HMa.out.form
                      obtain ⟨d0, d1, d2, d3⟩ := HMa.out.cell
                      rw [HMa.out.len] at d1
                      have hBlt := HMa.out.lt
                      have hgg : (gV.toList == gV.toList) = true := by simp
                      have hSd : StAt lo u7.drew S Ml Mf v5 s5 := HSa.out.drewN 1
                      have hMd : MAt lo u7.drew B A5 c5 (.slice A9 F5.length c9) s5 F5 := HMa.out.drewN 1
                      have DC : Below w.heap.size w u7.drew := DB.drew
                      have HFr := Lib.hid (fresh_any hSd ok5)
                      have HTb := Lib.hid (tables_any hSd (by omega))
                      have HSd := Lib.hid hSd
                      have HMd := Lib.hid hMd
                      clear hSd hMd
                      have HC := Lib.hid (fun (u : World) (h : Below u7.drew.heap.size u7.drew u) => (show u.cell? ⟨B, 1, none⟩ = some (.slice A9 s5.fr.length c9) ∧ u.cell? ⟨B, 2, none⟩ = some (.int .i64 s5.tabs.length) from ⟨(h.cell (p := ⟨B, 1, none⟩) hBlt).trans d1, (h.cell (p := ⟨B, 2, none⟩) hBlt).trans d2⟩))
                      clear d0 d3
                      go_wp2_with fail
                      go_region_held3 (fun u => u.cell? ⟨B, 1, none⟩ = some (.slice A9 s5.fr.length c9) ∧ u.cell? ⟨B, 2, none⟩ = some (.int .i64 s5.tabs.length)) (first | go_keep | exact HC.out _ (by assumption)) (first | (go_at_call 20; refine HFr.out.mono ?_; rintro e w' ⟨rfl, rfl⟩) | (go_at_call 21; refine HTb.out.mono ?_; rintro e u8 ⟨Az, cz, Tz, rfl, -, hmz, -, b9⟩; have hTz : Tz.length = s5.tabs.length := (by simpa using congrArg List.length hmz); rw [hTz]; clear hmz))
                      have DD : Below w.heap.size w u8 := DC.trans (b9.mono DC.size)
                      have HSe := Lib.hid (HSd.out.keep b9)
                      have HMe := Lib.hid (HMd.out.keep b9)
                      clear b9 HC HSa HMa HFr HTb hTz HSd HMd DB DC d1 d2 hgg
                      go_wp2_with fail
                      go_roundw
                      case rel => exact ⟨j + 1, v5, s5, A5, c5, _, F5, by omega, by omega, by go_num, rfl, HSe.out, HMe.out, ok5, ht5, DD⟩
                      case measure => simp [intOf]; omega
      · have hcase : ¬ (j : Int) < P.length ∨ ((j : Int) < P.length ∧ ¬ (j : Int) < 120) := by omega
        clear hst hmt
        rcases hcase with n1 | ⟨n1, n2⟩
        all_goals
          go_wp2_with fail
          go_ret
          exact ⟨rfl, hB⟩
end Go.Proofs.YtckjcjoheeobgaaGreatDoor
