/- LsmLast, walked. -/
import Derived.Test.YtckjcjoheeobgaaDoorLm
import Derived.Test.YtckjcjoheeobgaaDoorLq
import Derived.Test.YtckjcjoheeobgaaDoorErr
import Derived.Test.YtckjcjoheeobgaaDoorPureLc
import Derived.Deep.DeepCutAuto
namespace Go.Proofs.YtckjcjoheeobgaaDoor
open Go.RowKit
set_option linter.unusedVariables false

set_option maxRecDepth 100000 in
set_option maxHeartbeats 4000000 in
theorem last_walk (w : World) (lim : Int) (pk pv : Option Addr) (ck cv : Nat) (ks vs : List ByteArray) (hk : SsAt w pk ks) (hv : SsAt w pv vs) (hkl : ks.length ≤ 9223372036854775807) (hvl : vs.length ≤ 9223372036854775807) (hkz : ∀ x ∈ ks, x.size ≤ maxLen) (gone : ByteArray) (hg : w.cell? ⟨0, 0, none⟩ = some ET) :
    Calls Tryd.prog 3 #[.int .i64 lim, .slice pk ks.length ck, .slice pv vs.length cv, .string gone] w fun e w' => e = .returned (.bool true) ∧ Below w.heap.size w w' := by
  have HK := Lib.hid hk
  have HV := Lib.hid hv
  have HKZ := Lib.hid hkz
  have HG := Lib.hid (fun (u : World) (h : Below w.heap.size w u) => et_below hg h)
  clear hk hv hkz hg
  by_cases hl : lim < 1 ∨ 400 < lim
  · have HB := Lib.hid (new_bad (w := w) lim hl)
    go_enter Tryd.func3, Tryd.ntmps3
    go_wp2_with (go_at_call 4; refine Hid.out ?_)
    refine Lib.hid ?_
    refine HB.out.mono ?_
    rintro e w4 ⟨rfl, b4⟩
    simp only [errV]
    by_cases hl1 : lim < 1
    · go_wp2_with fail
      go_ret
      exact ⟨rfl, b4⟩
    · have hl2 : 400 < lim := by omega
      go_wp2_with fail
      go_ret
      exact ⟨rfl, b4⟩
  · obtain ⟨m, rfl⟩ : ∃ m : Nat, lim = m := ⟨lim.toNat, by omega⟩
    have hm1 : 1 ≤ m := by omega
    have hm2 : m ≤ 400 := by omega
    have HN := Lib.hid (new_any (w := w) m hm1 hm2)
    clear hl
    go_enter Tryd.func3, Tryd.ntmps3
    go_wp2_with (go_at_call 4; refine Hid.out ?_)
    refine Lib.hid ?_
    refine HN.out.mono ?_
    rintro e w1 ⟨S, Ml, Mf, v, rfl, hs1, b1⟩
    have okN := new_ok hm1 hm2
    have HS1 := Lib.hid hs1
    clear HN hs1
    obtain ⟨lo, hlo'⟩ : ∃ lo, lo = w.heap.size := ⟨_, rfl⟩
    rw [← hlo'] at HS1
    have hlo : w.heap.size ≤ lo := by omega
    clear hlo'
    go_wp2_with (go_at_call 4; refine Hid.out ?_)
    refine Lib.hid ?_
    refine (new_any 9 (by decide) (by decide)).mono ?_
    rintro e w2 ⟨S0, L0, F0, v0, rfl, hs2, b2⟩
    have ok0 : SOk (newS 9) := new_ok (by decide) (by decide)
    have he0 : setErr (newS 9) ⟨⟨#[97]⟩, ⟨#[120]⟩, false⟩ = 0 := new_err 9 rfl
    have ok1 : SOk (putS (newS 9) ⟨⟨#[97]⟩, ⟨#[120]⟩, false⟩) := put_ok ok0 rfl
    have he1 : setErr (putS (newS 9) ⟨⟨#[97]⟩, ⟨#[120]⟩, false⟩) ⟨⟨#[97]⟩, ⟨#[121]⟩, false⟩ = 0 := by
      unfold setErr
      rw [if_neg (by decide), if_neg ?_]
      rintro ⟨h1, -⟩
      unfold hasK at h1
      unfold putS at h1
      rw [if_pos he0, set_all, setE_at (show Ris (newS 9).all from List.Pairwise.nil), if_pos (show kl (⟨⟨#[97]⟩, ⟨#[121]⟩, false⟩ : En) = kl (⟨⟨#[97]⟩, ⟨#[120]⟩, false⟩ : En) from rfl)] at h1
      cases h1
    obtain ⟨g1, g2⟩ := put_get ok1 he1 rfl
    have htl1 : (putS (newS 9) ⟨⟨#[97]⟩, ⟨#[120]⟩, false⟩).tabs.length ≤ 1 := put_tabs _ _
    generalize hp1 : putS (newS 9) ⟨⟨#[97]⟩, ⟨#[120]⟩, false⟩ = p1 at *
    have H1 := Lib.hid (put_any hs2 ok0 (by decide) ⟨#[97]⟩ ⟨#[120]⟩)
    have HP1 := Lib.hid hp1
    clear hs2 hp1
    go_wp2_with (go_at_call 5; refine Hid.out ?_)
    refine Lib.hid ?_
    refine H1.out.mono ?_
    rintro e w3 ⟨rfl, ⟨v3, hs3⟩, f3⟩
    rw [HP1.out] at hs3
    rw [he0]
    simp only [errV, if_true]
    have H2 := Lib.hid (put_any hs3 ok1 (by omega) ⟨#[97]⟩ ⟨#[121]⟩)
    have B3 : Below w1.heap.size w1 w3 := b2.trans f3.toBelow
    clear H1 hs3 f3 b2 he0 HP1
    go_wp2_with (go_at_call 5; refine Hid.out ?_)
    refine Lib.hid ?_
    refine H2.out.mono ?_
    rintro e w4 ⟨rfl, ⟨v4, hs4⟩, f4⟩
    rw [he1]
    simp only [errV, if_true]
    have H3 := get_any hs4 ⟨#[97]⟩ (by decide)
    have hkl2 : kl (⟨⟨#[97]⟩, ⟨#[121]⟩, false⟩ : En) = (⟨#[97]⟩ : ByteArray).data.toList := rfl
    rw [hkl2] at g1 g2
    rw [g1, g2] at H3
    have H3' := Lib.hid H3
    have B4 : Below w1.heap.size w1 w4 := B3.trans f4.toBelow
    clear H2 H3 hs4 f4 B3 g1 g2 hkl2 he1
    go_wp2_with (go_at_call 6; refine Hid.out ?_)
    refine Lib.hid ?_
    refine H3'.out.mono ?_
    rintro e w5 ⟨rfl, b5⟩
    have B5 : Below w1.heap.size w1 w5 := B4.trans (b5.mono B4.size)
    have hs5 := HS1.out.keep B5
    have D5 : Below w.heap.size w w5 := b1.trans (B5.mono b1.size)
    simp only [errV, if_true]
    clear H3' b5 B4 B5 HS1 b1
    obtain ⟨nn, hnn, hn1, hn2⟩ : ∃ nn : Nat, nn = min ks.length vs.length ∧ nn ≤ ks.length ∧ nn ≤ vs.length := ⟨_, rfl, by omega, by omega⟩
    have HNN := Lib.hid hnn
    clear hnn
    go_upto_region 12 with fail
    go_cut [16] (fun t wc => w5 = wc ∧ t = .int .i64 ks.length)
    case first =>
      go_wp2_with fail
      go_meet
      case rel => exact ⟨rfl, rfl⟩
    case rest =>
    obtain ⟨rfl, rfl⟩ := hcut
    apply_assumption
    refine wp_seq_k (fun K hK => ?_)
    go_cut [16] (fun t wc => w5 = wc ∧ t = .int .i64 nn)
    case first =>
      by_cases hc : vs.length < ks.length
      · have hc' : (vs.length : Int) < ks.length := by omega
        have e1 : (nn : Int) = vs.length := by have := HNN.out; omega
        have E1 := Lib.hid e1
        clear e1
        go_wp2_with fail
        go_meet
        case rel => exact ⟨rfl, by rw [E1.out]⟩
      · have hc' : ¬ (vs.length : Int) < ks.length := by omega
        have e1 : (nn : Int) = ks.length := by have := HNN.out; omega
        have E1 := Lib.hid e1
        clear e1
        go_wp2_with fail
        go_meet
        case rel => exact ⟨rfl, by rw [E1.out]⟩
    case rest =>
      obtain ⟨rfl, rfl⟩ := hcut
      refine hK _ _ ?_
      clear hK K
      have HS5 := Lib.hid hs5
      clear hs5
      go_wp2_with fail
      go_loopw [17] (fun i wr => ∃ (j : Nat) (v : Value) (s : Sto), j ≤ nn ∧ j ≤ 40 ∧ i = .int .i64 j ∧ StAt lo wr S Ml Mf v s ∧ SOk s ∧ s.tabs.length ≤ 2 * j ∧ (∀ k, lookS s k = lastV ((kvs ks vs).take j) k) ∧ Below w.heap.size w wr) (fun i _ => nn - (intOf i).toNat)
      case atStart => exact ⟨0, v, newS m, Nat.zero_le _, by omega, rfl, HS5.out, okN, by simp [newS], fun k => rfl, D5⟩
      case round =>
        clear HS5 okN D5 ok0 ok1 htl1
        obtain ⟨j, v, s, hj, hj8, rfl, hst, ok, htl, hlook, hB⟩ := hrel
        by_cases hlt : j < nn ∧ j < 40
        · obtain ⟨l1, l2⟩ := hlt
          have i1 : (j : Int) < nn := by omega
          have i2 : (j : Int) < 40 := by omega
          have jk : j < ks.length := by omega
          have jv : j < vs.length := by omega
          have i3 : (j : Int) < ks.length := by omega
          have i4 : (j : Int) < vs.length := by omega
          obtain ⟨kb, ko, rfl, kbl, kc⟩ := HK.out.at jk
          obtain ⟨vb, vo, rfl, vbl, vc⟩ := HV.out.at jv
          have kc1 := kc j jk
          have vc1 := vc j jv
          have hnx := kvs_next ks vs j jk jv
          have hls := fun (he : setErr s ⟨ks[j], vs[j], false⟩ = 0) (k : List UInt8) => look_set ok he k
          generalize ks[j] = key at *
          generalize vs[j] = val at *
          have HC := Lib.hid (fun (u : World) (h : Below w.heap.size w u) => (⟨(h.cell (p := ⟨kb, ko + j, none⟩) kbl).trans kc1, (h.cell (p := ⟨vb, vo + j, none⟩) vbl).trans vc1⟩ : u.cell? ⟨kb, ko + j, none⟩ = some (.string key) ∧ u.cell? ⟨vb, vo + j, none⟩ = some (.string val)))
          have rc1 := (HC.out wr hB).1
          have rc2 := (HC.out wr hB).2
          have HPu := Lib.hid (put_any (hst.drewN 1) ok (by omega) key val)
          have HLo := Lib.hid hlook
          have HNx := Lib.hid hnx
          have HLs := Lib.hid hls
          have okS := Lib.hid ok
          clear kc vc kc1 vc1 hnx hls hlook hst ok HK HV
          by_cases he : setErr s ⟨key, val, false⟩ = 0
          · have hpo := Lib.hid (put_ok okS.out (e := ⟨key, val, false⟩) rfl)
            have hpt := put_tabs s ⟨key, val, false⟩
            have HL2 : Hid (∀ k, lookS (putS s ⟨key, val, false⟩) k = lastV ((kvs ks vs).take (j + 1)) k) := Lib.hid (fun k => by
              rw [HLs.out he k, HNx.out, lastV_snoc]
              show (if k = key.data.toList then _ else _) = if k = key.data.toList then _ else _
              split
              · rfl
              · exact HLo.out k)
            generalize hps : putS s ⟨key, val, false⟩ = s1 at *
            have HPS := Lib.hid hps
            have HE0 := Lib.hid he
            clear hps he
            have hrest : Hid (∀ (u : World), (∃ v', StAt lo u S Ml Mf v' s1) → Below w.heap.size w u → True) := Lib.hid (fun _ _ _ => trivial)
            go_wp2_with fail
            go_region_held3 (fun u => u.cell? ⟨kb, ko + j, none⟩ = some (.string key) ∧ u.cell? ⟨vb, vo + j, none⟩ = some (.string val)) (first | go_keep | exact HC.out _ (by assumption)) (first | (go_at_call 5; refine HPu.out.mono ?_; rintro e u1 ⟨rfl, ⟨v1, hs1⟩, f1⟩; have D1 : Below w.heap.size w u1 := hB.trans (show Below w.heap.size wr u1 from ⟨f1.os, f1.tape, f1.output, f1.size, fun k hk => f1.low k (by omega)⟩); rw [HPS.out] at hs1; rw [HE0.out]; simp only [errV, if_true]; have HS1 := Lib.hid hs1; clear hs1 f1))
            have ok1 := hpo
            have HL1 := HL2
            clear HPu HLo HNx HLs hpo HL2
            by_cases h3 : j % 3 = 1
            · have h3' : (((j : Int) % 3) == 1) = true := by simp; omega
              have HFl := Lib.hid (flush_any HS1.out ok1.out (by omega))
              go_wp2_with (go_at_call 7; refine Hid.out ?_)
              refine Lib.hid ?_
              refine HFl.out.mono ?_
              rintro e u2 ⟨rfl, ⟨v2, hs2⟩, f2⟩
              have D2 : Below w.heap.size w u2 := D1.trans (f2.mono hlo).toBelow
              have HS2 := Lib.hid hs2
              have ok2 := Lib.hid (flush_ok ok1.out)
              have ht2 : (flushS s1).tabs.length ≤ 2 * (j + 1) := by have := flush_tabs s1; rw [this]; split <;> omega
              have HL2 : Hid (∀ k, lookS (flushS s1) k = lastV ((kvs ks vs).take (j + 1)) k) := Lib.hid (fun k => by rw [look_flush]; exact HL1.out k)
              generalize flushS s1 = s2 at *
              clear hs2 f2 HFl HS1 ok1 HL1
              by_cases h7 : j % 7 = 5
              · have h7' : (((j : Int) % 7) == 5) = true := by simp; omega
                have HCo := Lib.hid (compact_any HS2.out ok2.out)
                go_wp2_with (go_at_call 8; refine Hid.out ?_)
                refine Lib.hid ?_
                refine HCo.out.mono ?_
                rintro e u3 ⟨rfl, ⟨v3, hs3⟩, f3⟩
                have D3 : Below w.heap.size w u3 := D2.trans (f3.mono hlo).toBelow
                have HS3 := Lib.hid hs3
                have ok3 := Lib.hid (comp_ok ok2.out)
                have ht3 : (compS s2).tabs.length ≤ 2 * (j + 1) := by have := comp_tabs s2; omega
                have HL3 : Hid (∀ k, lookS (compS s2) k = lastV ((kvs ks vs).take (j + 1)) k) := Lib.hid (fun k => by rw [look_comp ok2.out]; exact HL2.out k)
                clear hs3 f3 HCo
                go_wp2_with fail
                go_roundw
                case rel => exact ⟨j + 1, v3, _, by omega, by omega, by go_num, HS3.out, ok3.out, ht3, HL3.out, D3⟩
                case measure => simp [intOf]; omega
              · have h7' : (((j : Int) % 7) == 5) = false := by simp; omega
                go_wp2_with fail
                go_roundw
                case rel => exact ⟨j + 1, _, _, by omega, by omega, by go_num, HS2.out, ok2.out, by omega, HL2.out, D2⟩
                case measure => simp [intOf]; omega
            · have h3' : (((j : Int) % 3) == 1) = false := by simp; omega
              by_cases h7 : j % 7 = 5
              · have h7' : (((j : Int) % 7) == 5) = true := by simp; omega
                have HCo := Lib.hid (compact_any HS1.out ok1.out)
                go_wp2_with (go_at_call 8; refine Hid.out ?_)
                refine Lib.hid ?_
                refine HCo.out.mono ?_
                rintro e u3 ⟨rfl, ⟨v3, hs3⟩, f3⟩
                have D3 : Below w.heap.size w u3 := D1.trans (f3.mono hlo).toBelow
                have HS3 := Lib.hid hs3
                have ok3 := Lib.hid (comp_ok ok1.out)
                have ht3 : (compS s1).tabs.length ≤ 2 * (j + 1) := by have := comp_tabs s1; omega
                have HL3 : Hid (∀ k, lookS (compS s1) k = lastV ((kvs ks vs).take (j + 1)) k) := Lib.hid (fun k => by rw [look_comp ok1.out]; exact HL1.out k)
                clear hs3 f3 HCo
                go_wp2_with fail
                go_roundw
                case rel => exact ⟨j + 1, v3, _, by omega, by omega, by go_num, HS3.out, ok3.out, ht3, HL3.out, D3⟩
                case measure => simp [intOf]; omega
              · have h7' : (((j : Int) % 7) == 5) = false := by simp; omega
                go_wp2_with fail
                go_roundw
                case rel => exact ⟨j + 1, _, _, by omega, by omega, by go_num, HS1.out, ok1.out, by omega, HL1.out, D1⟩
                case measure => simp [intOf]; omega
          · have hne : errV (setErr s ⟨key, val, false⟩) = .iface 45 (.int .i64 (setErr s ⟨key, val, false⟩ : Nat)) := by unfold errV; rw [if_neg he]
            have HNe := Lib.hid hne
            clear hne
            go_wp2_with fail
            go_region_held3 (fun u => u.cell? ⟨kb, ko + j, none⟩ = some (.string key) ∧ u.cell? ⟨vb, vo + j, none⟩ = some (.string val)) (first | go_keep | exact HC.out _ (by assumption)) (first | (go_at_call 5; refine HPu.out.mono ?_; rintro e u1 ⟨rfl, -, f1⟩; have D1 : Below w.heap.size w u1 := hB.trans (show Below w.heap.size wr u1 from ⟨f1.os, f1.tape, f1.output, f1.size, fun k hk => f1.low k (by omega)⟩); rw [HNe.out]; clear f1))
            go_wp2_with fail
            go_ret
            exact ⟨rfl, D1⟩
        · have hcase : ¬ (j : Int) < nn ∨ ((j : Int) < nn ∧ ¬ (j : Int) < 40) := by omega
          obtain ⟨M, hM⟩ : ∃ M, M = j := ⟨_, rfl⟩
          have hMe : M = min nn 40 := by omega
          have HDe := Lib.hid (dele_any hst ok (by omega) gone)
          have HLo := Lib.hid hlook
          rw [← hM] at HLo
          have okS := Lib.hid ok
          by_cases he : setErr s ⟨gone, ⟨#[]⟩, true⟩ = 0
          · have ok2 := Lib.hid (put_ok ok (e := ⟨gone, ⟨#[]⟩, true⟩) rfl)
            have HL2 : Hid (∀ k, lookS (putS s ⟨gone, ⟨#[]⟩, true⟩) k = if k = gone.data.toList then none else lastV ((kvs ks vs).take M) k) := Lib.hid (fun k => by
              rw [look_set okS.out he k]
              show (if k = gone.data.toList then _ else _) = if k = gone.data.toList then _ else _
              split
              · rfl
              · exact HLo.out k)
            generalize hps : putS s ⟨gone, ⟨#[]⟩, true⟩ = s2 at *
            have HPS := Lib.hid hps
            have HE0 := Lib.hid he
            have hM1 : M ≤ nn := by omega
            have hM2 : M ≤ 40 := by omega
            have HMe := Lib.hid hMe
            clear hps he hst ok hlook okS HLo hM hMe htl
            rcases hcase with n1 | ⟨n1, n2⟩
            all_goals
              go_wp2_with (go_at_call 9; refine Hid.out ?_)
              refine Lib.hid ?_
              refine HDe.out.mono ?_
              rintro e u1 ⟨rfl, ⟨v1, hs1⟩, f1⟩
              rw [HPS.out] at hs1
              rw [HE0.out]
              simp only [errV, if_true]
              have D1 : Below w.heap.size w u1 := hB.trans (f1.mono hlo).toBelow
              have HS1 := Lib.hid hs1
              clear hs1 f1 HDe hB
              go_wp2_with fail
              go_loopw [20] (fun i wr => ∃ (q : Nat), q ≤ M ∧ i = .int .i64 q ∧ StAt lo wr S Ml Mf v1 s2 ∧ Below w.heap.size w wr) (fun i _ => nn - (intOf i).toNat)
              case atStart => exact ⟨0, Nat.zero_le _, rfl, HS1.out, D1⟩
              case round =>
                clear HS1 D1
                obtain ⟨q, hq, rfl, hst, hB⟩ := hrel
                by_cases hlt2 : q < M
                · have i1 : (q : Int) < nn := by omega
                  have i2 : (q : Int) < 40 := by omega
                  have qk : q < ks.length := by omega
                  have qv : q < vs.length := by omega
                  have i3 : (q : Int) < ks.length := by omega
                  obtain ⟨kb, ko, rfl, kbl, kc⟩ := HK.out.at qk
                  obtain ⟨vb, vo, rfl, vbl, vc⟩ := HV.out.at qv
                  have KC := Lib.hid (fun (u : World) (h : Below w.heap.size w u) (t : Nat) (ht : t < ks.length) => (h.cell (p := ⟨kb, ko + t, none⟩) kbl).trans (kc t ht))
                  have VC := Lib.hid (fun (u : World) (h : Below w.heap.size w u) (t : Nat) (ht : t < vs.length) => (h.cell (p := ⟨vb, vo + t, none⟩) vbl).trans (vc t ht))
                  have HSt := Lib.hid hst
                  obtain ⟨kq, hkq⟩ : ∃ kq, kq = ks[q] := ⟨_, rfl⟩
                  have HKQ := Lib.hid hkq
                  clear kc vc hst hkq
                  generalize wr = wo at *
                  go_wp2_with fail
                  go_loopw [21, 22] (fun la i wr => ∃ (t r : Nat), q ≤ t ∧ t < r ∧ r ≤ M ∧ (q < r) ∧ la = .int .i64 t ∧ i = .int .i64 r ∧ (∃ ht : t < ks.length, (ks[t]).data.toList = kq.data.toList) ∧ (∀ t' (h' : t' < ks.length), t < t' → t' < r → ks[t'].data.toList ≠ kq.data.toList) ∧ StAt lo wr S Ml Mf v1 s2 ∧ Below w.heap.size w wr) (fun _ i _ => nn - (intOf i).toNat)
                  case atStart => exact ⟨q, q + 1, Nat.le_refl _, by omega, by omega, by omega, rfl, by go_num, ⟨qk, by rw [HKQ.out]⟩, fun t' h' h1 h2 => by omega, HSt.out, hB⟩
                  case round =>
                    clear hB HSt
                    obtain ⟨t, r, tq, tr, rM, qr, rfl, rfl, ⟨ht, hte⟩, hto, hst, hB⟩ := hrel
                    have KR := fun (t : Nat) (h : t < ks.length) => KC.out wr hB t h
                    have HSt := Lib.hid hst
                    have HTe := Lib.hid hte
                    have HTo := Lib.hid hto
                    clear hst hte hto
                    by_cases hrM : r < M
                    · have j1 : (r : Int) < nn := by omega
                      have j2 : (r : Int) < 40 := by omega
                      have rk : r < ks.length := by omega
                      have j3 : (r : Int) < ks.length := by omega
                      have a1 := KR r rk
                      have a2 := KR q qk
                      rw [← HKQ.out] at a2
                      by_cases hse : (ks[r]).data.toList = kq.data.toList
                      · have hsb := str_eq hse
                        have HSe := Lib.hid hse
                        generalize hkr : ks[r] = kr at a1 hsb
                        clear hse hkr KR
                        go_wp2_with fail
                        go_quiet (fail)
                        have hst2 := Lib.hid (HSt.out.drewN nq)
                        have hB2 := Below.drewN hB nq
                        go_wp2_with fail
                        go_roundw
                        case rel => exact ⟨r, r + 1, by omega, by omega, by omega, by omega, rfl, by go_num, ⟨rk, HSe.out⟩, fun t' h' h1 h2 => by omega, hst2.out, hB2⟩
                        case measure => simp [intOf]; omega
                      · have hsb := str_ne hse
                        have HSe := Lib.hid hse
                        generalize hkr : ks[r] = kr at a1 hsb
                        clear hse hkr KR
                        go_wp2_with fail
                        go_quiet (fail)
                        have hst2 := Lib.hid (HSt.out.drewN nq)
                        have hB2 := Below.drewN hB nq
                        go_wp2_with fail
                        go_roundw
                        case rel => exact ⟨t, r + 1, by omega, by omega, by omega, by omega, rfl, by go_num, ⟨ht, HTe.out⟩, fun t' h' h1 h2 => by
                          by_cases e' : t' = r
                          · subst e'; exact HSe.out
                          · exact HTo.out t' h' h1 (by omega), hst2.out, hB2⟩
                        case measure => simp [intOf]; omega
                    · have hcase2 : ¬ (r : Int) < nn ∨ ((r : Int) < nn ∧ ¬ (r : Int) < 40) := by have := HMe.out; omega
                      have a2 := KR q qk
                      rw [← HKQ.out] at a2
                      have hkz := HKZ.out _ (List.getElem_mem qk)
                      rw [← HKQ.out] at hkz
                      have HGe := get_any HSt.out kq hkz
                      have tM : t < M := by omega
                      have hlast : lastV ((kvs ks vs).take M) kq.data.toList = some (vs[t]'(by omega)) := kvs_last ks vs M t (by omega) (by omega) tM kq HTe.out (fun j' hj' h1 => HTo.out j' (by omega) h1 (by omega))
                      have hlk := HL2.out kq.data.toList
                      have tv : t < vs.length := by omega
                      have i5 : (t : Int) < vs.length := by omega
                      have v1c := VC.out wr hB t tv
                      by_cases hgo : kq.data.toList = gone.data.toList
                      · rw [if_pos hgo] at hlk
                        have hge := (look_get s2 _).1 hlk
                        rw [hge, show errV 6 = .iface 45 (.int .i64 6) from rfl] at HGe
                        have HGE := Lib.hid HGe
                        have hsb := str_eq hgo
                        have HVC := Lib.hid (fun (u : World) (h : Below w.heap.size w u) => (show u.cell? ⟨kb, ko + q, none⟩ = some (.string kq) from by rw [HKQ.out]; exact KC.out u h q qk))
                        clear hgo hlk hge HGe hlast KR v1c
                        rcases hcase2 with n3 | ⟨n3, n4⟩
                        all_goals
                          go_wp2_with (go_at_call 6; refine Hid.out ?_)
                          refine Lib.hid ?_
                          refine HGE.out.mono ?_
                          rintro e u2 ⟨rfl, b2⟩
                          have D2 := hB.trans (b2.mono hB.size)
                          have a3 := HVC.out u2 D2
                          have HEr := Lib.hid (error_hit 6 u2 (HG.out u2 D2))
                          have hst2 := HSt.out.keep b2
                          generalize getV s2 _ = gv
                          go_wp2_with (go_at_call 10; refine Hid.out ?_)
                          refine Lib.hid ?_
                          refine HEr.out.mono ?_
                          rintro e u3 ⟨rfl, b3⟩
                          have D3 := D2.trans (b3.mono D2.size)
                          have hst3 := Lib.hid (hst2.keep b3)
                          clear hst2 HEr HGE
                          go_wp2_with fail
                          go_roundw
                          case rel => exact ⟨q + 1, by omega, by go_num, hst3.out, D3⟩
                          case measure => simp [intOf]; omega
                      · rw [if_neg hgo, hlast] at hlk
                        obtain ⟨hge, hgv⟩ := (look_get s2 _).2 _ hlk
                        rw [hge, hgv] at HGe
                        simp only [errV, if_true] at HGe
                        have HGE := Lib.hid HGe
                        have hsb := str_ne hgo
                        have HVC := Lib.hid (fun (u : World) (h : Below w.heap.size w u) => (⟨by rw [HKQ.out]; exact KC.out u h q qk, VC.out u h t tv⟩ : u.cell? ⟨kb, ko + q, none⟩ = some (.string kq) ∧ u.cell? ⟨vb, vo + t, none⟩ = some (.string (vs[t]'tv))))
                        clear hgo hlk hge HGe hlast KR hgv v1c
                        generalize hvt : vs[t] = vt at *
                        have hvv : (vt.toList == vt.toList) = true := by simp
                        clear hvt
                        rcases hcase2 with n3 | ⟨n3, n4⟩
                        all_goals
                          go_wp2_with (go_at_call 6; refine Hid.out ?_)
                          refine Lib.hid ?_
                          refine HGE.out.mono ?_
                          rintro e u2 ⟨rfl, b2⟩
                          have D2 := hB.trans (b2.mono hB.size)
                          obtain ⟨a3, a4⟩ := HVC.out u2 D2
                          have hst2 := Lib.hid (HSt.out.keep b2)
                          clear HGE
                          go_wp2_with fail
                          go_roundw
                          case rel => exact ⟨q + 1, by omega, by go_num, hst2.out, D2⟩
                          case measure => simp [intOf]; omega
                · have hcase2 : ¬ (q : Int) < nn ∨ ((q : Int) < nn ∧ ¬ (q : Int) < 40) := by have := HMe.out; omega
                  clear hst
                  rcases hcase2 with n3 | ⟨n3, n4⟩
                  all_goals
                    go_wp2_with fail
                    go_ret
                    exact ⟨rfl, hB⟩
          · have hne : errV (setErr s ⟨gone, ⟨#[]⟩, true⟩) = .iface 45 (.int .i64 (setErr s ⟨gone, ⟨#[]⟩, true⟩ : Nat)) := by unfold errV; rw [if_neg he]
            have HNe := Lib.hid hne
            clear hne hst ok hlook okS HLo hM hMe
            rcases hcase with n1 | ⟨n1, n2⟩
            all_goals
              go_wp2_with (go_at_call 9; refine Hid.out ?_)
              refine Lib.hid ?_
              refine HDe.out.mono ?_
              rintro e u1 ⟨rfl, -, f1⟩
              rw [HNe.out]
              have D1 : Below w.heap.size w u1 := hB.trans (f1.mono hlo).toBelow
              go_wp2_with fail
              go_ret
              exact ⟨rfl, D1⟩
end Go.Proofs.YtckjcjoheeobgaaDoor
