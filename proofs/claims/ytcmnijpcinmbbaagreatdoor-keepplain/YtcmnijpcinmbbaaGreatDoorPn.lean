/- KeepPlain: the walk. -/
import Derived.Test.YtcmnijpcinmbbaaGreatDoorPm
import Derived.BigQuiet
import Derived.Test.YtcmnijpcinmbbaaGreatDoorPureKu
namespace Go.Proofs.YtcmnijpcinmbbaaGreatDoor
open Go.RowKit
set_option linter.unusedVariables false
open Classical in
/-- What the law wants Save to tell. -/
noncomputable def wantE (L : List Int) (x : Int) : Int := if ¬ IdOk x then 1 else if x ∈ L then 8 else 0
/-- What the law holds between two saves. -/
structure Kl (W : World) (k : Nat) (wr : World) (v8 : Value) (L : List Int) (P : Pc) (uv : Value) (d : Ds) (n : Nat) : Prop where
  ks : KpS W.heap.size wr (W.heap.size + 1) W.heap.size uv d n P
  U : d.U = []
  bd : d.bd < 0
  sm : Sm (10 * k) d
  n : n ≤ 10 * k
  ids : IdsIs P L
  len : L.length ≤ k
  own : OwnI W.heap.size wr v8 L
  below : Below W.heap.size W wr
theorem Kl.keep {W wr w' : World} {k : Nat} {v8 : Value} {L : List Int} {P : Pc} {uv : Value} {d : Ds} {n : Nat} (h : Kl W k wr v8 L P uv d n) (hb : Below wr.heap.size wr w') : Kl W k w' v8 L P uv d n :=
  ⟨h.ks.keep hb, h.U, h.bd, h.sm, h.n, h.ids, h.len, ownI_keep h.own hb, h.below.trans (hb.mono h.below.size)⟩
theorem Kl.drewN {W wr : World} {k : Nat} {v8 : Value} {L : List Int} {P : Pc} {uv : Value} {d : Ds} {n : Nat} (h : Kl W k wr v8 L P uv d n) (q : Nat) : Kl W k (wr.drewN q) v8 L P uv d n :=
  h.keep ⟨rfl, rfl, rfl, Nat.le_refl _, fun _ _ => rfl⟩
theorem own_othB {lo : Nat} {w : World} {B M : Nat} {uv : Value} {d : Ds} {n : Nat} (h : DkS lo w B M uv d n) {b : Nat} {v : Value} {l : List UInt8} (ho : Own b w v l) {g : Nat} (hg : v.ownBlock = some g) : Oth B M uv g := by
  obtain ⟨cur, hc⟩ := own_cells ho hg
  refine ⟨fun e => ?_, fun e => ?_, fun e => ?_⟩
  · have := h.blk
    rw [← e, hc] at this
    simp at this
  · obtain ⟨D, ⟨es, cl, hb, _⟩, _⟩ := h.mp
    rw [← e, hc] at hb
    cases hb
  · obtain ⟨V, hV, _⟩ := h.row
    obtain ⟨cur2, hc2⟩ := own_cells hV e
    rw [hc] at hc2
    simp at hc2
theorem own_frdB {lo : Nat} {w w' : World} {B M : Nat} {uv : Value} {d : Ds} {n : Nat} (h : DkS lo w B M uv d n) (f : FrD B M uv w w') {b : Nat} {v : Value} {l : List UInt8} (ho : Own b w v l) : Own b w' v l :=
  own_block ho (fun g hg => f.block g (ho.lt g hg).2 (own_othB h ho hg))
set_option maxRecDepth 100000 in
set_option maxHeartbeats 16000000 in
theorem plain_walk (W : World) (hT : KT W.heap.size W) (het : W.cell? ⟨0, 0, none⟩ = some ET) (a0 : Option Addr) (c0 : Nat) (ids : List Int) (hids : IsAt W a0 ids) (a1 : Option Addr) (c1 : Nat) (b : List UInt8) (hb : BsAt W a1 b) (hbc : a1 = none → c1 = 0) (many : Int) (hmany : many ≤ 9223372036854775807) (hml : -9223372036854775808 ≤ many) :
    Calls Tryz.prog 3 #[.slice a0 ids.length c0, .slice a1 b.length c1, .int .i64 many] W fun e w' => e = .returned (.bool true) ∧ Below W.heap.size W w' := by
  have HN := new_any W
  by_cases hbl : b.length ≤ 20000
  · have hbl' : ¬ (20000 : Int) < (b.length : Int) := by omega
    go_enter Tryz.func3, Tryz.ntmps3
    go_wp2_with (go_at_call 6; refine Hid.out ?_)
    refine Lib.hid ?_
    refine HN.mono ?_
    rintro e w1 ⟨rfl, hd1, hb1⟩
    have hk1 : Kl W 0 w1 (.slice none 0 0) [] (fun _ => none) (.slice none 0 0) newD 0 := ⟨⟨hd1, KpD.new, hT.on hb1⟩, rfl, by decide, Sm.new, by omega, ids_nil, by simp, World.ownsRow_nil _ _ _ _, hb1⟩
    clear HN hd1
    go_upto_block 0 with fail
    go_cut [8] (fun v8 wc => ∃ (k : Nat) (A : Option Addr) (L : List Int) (c : Nat) (P : Pc) (uv : Value) (d : Ds) (n : Nat), k ≤ 30 ∧ v8 = .slice A L.length c ∧ Hid (Kl W k wc (.slice A L.length c) L P uv d n))
    case first =>
      go_wp2_with fail
      go_loopw [8, 9] (fun v8 i wr => ∃ (k : Nat) (A : Option Addr) (L : List Int) (c : Nat) (P : Pc) (uv : Value) (d : Ds) (n : Nat), k ≤ 30 ∧ k ≤ ids.length ∧ v8 = .slice A L.length c ∧ i = .int .i64 k ∧ Hid (Kl W k wr (.slice A L.length c) L P uv d n)) (fun _ i _ => 30 - (intOf i).toNat)
      case atStart => exact ⟨0, none, [], 0, _, _, _, _, by omega, by omega, rfl, rfl, hk1⟩
      case round =>
        obtain ⟨k, A, L, c, P, uv, d, n, hk30, hkl, rfl, rfl, HK⟩ := hrel
        clear hk1
        by_cases hlt : k < ids.length ∧ k < 30
        · obtain ⟨hltI, hlt30⟩ := hlt
          obtain ⟨wo, rfl⟩ : ∃ wo, wo = wr := ⟨_, rfl⟩
          have h1 : (k : Int) < (ids.length : Int) := by omega
          have h2 : (k : Int) < 30 := by omega
          obtain ⟨pb, po, rfl, hcel⟩ := hids.at hltI
          have ck : wo.cell? ⟨pb, po + k, none⟩ = some (.int .i64 ids[k]) := (HK.out.below.cell (p := ⟨pb, po + k, none⟩) (block_lt_of_cell hcel)).trans hcel
          generalize ids[k] = x at *
          generalize ids.length = nl at *
          clear hids
          have hetc : ∀ u, Below W.heap.size W u → u.cell? ⟨0, 0, none⟩ = some ET := fun u hu => (hu.cell (p := ⟨0, 0, none⟩) (block_lt_of_cell het)).trans het
          have HET := Lib.hid hetc
          clear hetc het
          have hLl : L.length ≤ 30 := by have := HK.out.len; omega
          obtain ⟨bx, hbx⟩ : ∃ bx : Bool, bx = (decide (x < 1) || decide (1000000000 < x)) := ⟨_, rfl⟩
          go_upto_region 9 with fail
          go_cut [51] (fun v51 wc => v51 = .bool bx ∧ wo = wc)
          case first =>
            by_cases hx1 : x < 1
            · have hbt : bx = true := by rw [hbx]; simp [hx1]
              clear hbx
              subst hbt
              go_wp2_with fail
              go_meet
              case rel => exact ⟨rfl, rfl⟩
            · by_cases hx2 : 1000000000 < x
              · have hbt : bx = true := by rw [hbx]; simp [hx2]
                clear hbx
                subst hbt
                go_wp2_with fail
                go_meet
                case rel => exact ⟨rfl, rfl⟩
              · have hbt : bx = false := by rw [hbx]; simp; omega
                clear hbx
                subst hbt
                go_wp2_with fail
                go_meet
                case rel => exact ⟨rfl, rfl⟩
          case rest =>
            obtain ⟨rfl, rfl⟩ := hcut
            obtain ⟨e0, he0⟩ : ∃ e0 : Int, e0 = if bx then 1 else 0 := ⟨_, rfl⟩
            go_upto_if 51 with fail
            go_cut [10] (fun v10 wc => v10 = .int .i64 e0 ∧ wo = wc)
            case first =>
              cases bx
              · subst he0
                go_wp2_with fail
                go_meet
                case rel => exact ⟨rfl, rfl⟩
              · subst he0
                go_wp2_with fail
                go_meet
                case rel => exact ⟨rfl, rfl⟩
            case rest =>
              obtain ⟨rfl, rfl⟩ := hcut
              have hok : bx = false ↔ IdOk x := by
                rw [hbx]; unfold IdOk; simp
              have HOK := Lib.hid hok
              clear hok hbx
              go_upto_block 2 with fail
              go_cut [10, 11] (fun v10 v11 wc => v10 = .int .i64 (wantE L x) ∧ ∃ q, wc = wo.drewN q)
              case first =>
                have hL0 : (L.length : Int) ≤ 30 := by omega
                cases bx
                · have hid : IdOk x := HOK.out.1 rfl
                  have he : e0 = 0 := he0
                  clear he0
                  subst he
                  obtain ⟨A', c', hA', hcap, hcm, hgg⟩ := ownI_slice HK.out.own
                  simp only [Value.slice.injEq, true_and] at hA'
                  obtain ⟨rfl, rfl⟩ := hA'
                  have HOw := Lib.hid HK.out.own
                  have HGG := Lib.hid hgg
                  clear hgg
                  have HW := Lib.hid (show wantE L x = if x ∈ L then 8 else 0 by unfold wantE; rw [if_neg (by simpa using hid)])
                  go_wp2_with fail
                  go_loopw [10, 11] (fun e j wr => ∃ (jj : Nat) (ee : Int), jj ≤ L.length ∧ e = .int .i64 ee ∧ j = .int .i64 jj ∧ (ee = 0 ∧ (∀ i (h : i < jj) (h' : i < L.length), L[i] ≠ x) ∨ ee = 8 ∧ x ∈ L) ∧ ∃ q, wr = wo.drewN q) (fun _ j _ => L.length - (intOf j).toNat)
                  case atStart => exact ⟨0, 0, by omega, rfl, rfl, .inl ⟨rfl, fun i h => by omega⟩, 0, rfl⟩
                  case round =>
                    obtain ⟨jj, ee, hjl, rfl, rfl, hee, q, rfl⟩ := hrel
                    by_cases hjlt : jj < L.length
                    · have hj1 : (jj : Int) < (L.length : Int) := by omega
                      rcases hee with ⟨rfl, hne⟩ | ⟨rfl, hin⟩
                      · obtain ⟨g, rfl, -, -⟩ := HGG.out (by intro e; rw [e] at hjlt; simp at hjlt)
                        have cj : wo.cell? ⟨g, jj, none⟩ = some (.int .i64 L[jj]) := ownI_cell HOw.out jj hjlt
                        have cj' : wo.cell? ⟨g, 0 + jj, none⟩ = some (.int .i64 L[jj]) := by rw [Nat.zero_add]; exact cj
                        have hnext : Hid (∀ y, y = L[jj] → y ≠ x → ∀ i (h : i < jj + 1) (h' : i < L.length), L[i] ≠ x) := fun y hy hyx i h h' => by
                          by_cases e : i = jj
                          · subst e; rw [← hy]; exact hyx
                          · exact hne i (by omega) h'
                        have hmem : Hid (∀ y, y = L[jj] → y = x → x ∈ L) := fun y hy hyx => by rw [← hyx, hy]; exact List.getElem_mem hjlt
                        clear hne
                        obtain ⟨y, hy⟩ : ∃ y, y = L[jj] := ⟨_, rfl⟩
                        rw [← hy] at cj cj'
                        have HY := Lib.hid hy
                        clear hy
                        by_cases hyx : y = x
                        · have hbq : (y == x) = true := by simpa using hyx
                          go_wp2_with fail
                          go_quiet (fail)
                          go_wp2_with fail
                          go_roundw
                          case rel => exact ⟨jj + 1, 8, by omega, rfl, by go_num, .inr ⟨rfl, hmem.out y HY.out hyx⟩, _, rfl⟩
                          case measure => simp [intOf]; omega
                        · have hbq : (y == x) = false := by simpa using hyx
                          go_wp2_with fail
                          go_quiet (fail)
                          go_wp2_with fail
                          go_roundw
                          case rel => exact ⟨jj + 1, 0, by omega, rfl, by go_num, .inl ⟨rfl, hnext.out y HY.out hyx⟩, _, rfl⟩
                          case measure => simp [intOf]; omega
                      · have HIn := Lib.hid hin
                        clear hin
                        go_wp2_with fail
                        go_meet
                        case rel => exact ⟨by rw [HW.out, if_pos HIn.out], q, rfl⟩
                    · have hj1 : ¬ (jj : Int) < (L.length : Int) := by omega
                      have HEE := Lib.hid hee
                      clear hee
                      go_wp2_with fail
                      go_meet
                      case rel =>
                        refine ⟨?_, q, rfl⟩
                        rcases HEE.out with ⟨rfl, hne⟩ | ⟨rfl, hin⟩
                        · rw [HW.out, if_neg (fun hm => by obtain ⟨i, hi, e⟩ := List.getElem_of_mem hm; exact hne i (by omega) hi e)]
                        · rw [HW.out, if_pos hin]
                · have hid : ¬ IdOk x := fun h => by have := HOK.out.2 h; cases this
                  have he : e0 = 1 := he0
                  clear he0
                  subst he
                  have HW := Lib.hid (show wantE L x = 1 by unfold wantE; rw [if_pos hid])
                  go_wp2_with fail
                  go_loopw [10, 11] (fun e j wr => e = .int .i64 1 ∧ j = .int .i64 0 ∧ wo = wr) (fun _ _ _ => 0)
                  case atStart => exact ⟨rfl, rfl, rfl⟩
                  case round =>
                    obtain ⟨rfl, rfl, rfl⟩ := hrel
                    by_cases hL1 : (0 : Int) < (L.length : Int)
                    · go_wp2_with fail
                      go_meet
                      case rel => exact ⟨by rw [HW.out], 0, rfl⟩
                    · go_wp2_with fail
                      go_meet
                      case rel => exact ⟨by rw [HW.out], 0, rfl⟩
              case rest =>
                obtain ⟨rfl, q0, rfl⟩ := hcut
                have HKc := Lib.hid (HK.out.drewN q0)
                have hcc : (wo.drewN q0).cell? ⟨pb, po + k, none⟩ = some (.int .i64 x) := ck
                clear ck HK he0
                obtain ⟨wc2, hwc2⟩ : ∃ u, u = wo.drewN q0 := ⟨_, rfl⟩
                rw [← hwc2] at HKc hcc
                rw [← hwc2]
                clear hwc2
                have hkc := HKc.out
                have hbW0 := hkc.below
                go_wp2_with (at_builtin; refine Hid.out ?_)
                refine Lib.hid ?_
                refine append_bs rfl _ _ rfl wc2.heap.size _ [] rfl (World.ownsRow_nil _ _ _ _) a1 b.length c1 b rfl rfl (hb.keep hbW0) hbc (by simp; omega) (Nat.le_refl _) ?_
                intro v2 u2 own2 bu2
                obtain ⟨A2, cp2, rfl⟩ := own_slice own2
                have hbs1 := bs_one u2 (UInt8.ofNat k) 5 (k : Int) (by rw [b_toNat (by omega)])
                have hal : Below u2.heap.size u2 (u2.alloc (.cells #[.int .u8 (k : Int)] 5)) := (Below.refl _ _).alloc (Nat.le_refl _) _
                have own2' : Own wc2.heap.size (u2.alloc (.cells #[.int .u8 (k : Int)] 5)) (.slice A2 ([] ++ b).length cp2) ([] ++ b) := own_keep own2 hal
                have hsz2 := bu2.size
                clear own2
                go_wp2_with (at_builtin; refine Hid.out ?_)
                refine Lib.hid ?_
                refine append_bs rfl _ _ rfl wc2.heap.size _ ([] ++ b) rfl own2' (some ⟨u2.heap.size, 0, none⟩) 1 1 [UInt8.ofNat k] rfl rfl hbs1 (by intro h; cases h) (by simp; omega) (by simp; omega) ?_
                intro v3 u3 own3 bu3
                obtain ⟨A3, cp3, rfl⟩ := own_slice own3
                obtain ⟨hbs3, -, hnone3, hfr3⟩ := own_bs own3 rfl
                have bu : Below wc2.heap.size wc2 u3 := (bu2.trans (hal.mono hsz2)).trans bu3
                have hk3 := hkc.keep bu
                have hxl : ([] ++ b ++ [UInt8.ofNat k]).length ≤ 50000 := by simp; omega
                have HSv := save_any hk3.ks.dk hk3.ks.kp.kp hk3.ks.tab hk3.sm.1 (by have := hk3.sm.2.1; omega) (by rw [hk3.U]; decide) (by have := hk3.n; omega) x A3 cp3 ([] ++ b ++ [UInt8.ofNat k]) hbs3 hxl hnone3
                have HO3 := Lib.hid own3
                clear own3 own2' hbs1 hal hkc
                have ckx : u3.cell? ⟨pb, po + k, none⟩ = some (.int .i64 x) := (hk3.below.cell (p := ⟨pb, po + k, none⟩) (block_lt_of_cell hcel)).trans hcel
                have hlx : ([] ++ b ++ [UInt8.ofNat k]).length = b.length + 1 := by simp
                rw [hlx] at HSv
                clear hlx
                by_cases hid : IdOk x
                · by_cases hin : x ∈ L
                  · have hwe : wantE L x = 8 := by unfold wantE; rw [if_neg (by simpa using hid), if_pos hin]
                    have hin' := (hk3.ids.2 x).1 hin
                    rw [hwe]
                    clear hwe hin
                    have hrr : saveR d P x ([] ++ b ++ [UInt8.ofNat k]) = (8, d) := save_clash hid hin' _
                    rw [hrr] at HSv
                    go_wp2_with (go_at_call 8; refine Hid.out ?_)
                    refine Lib.hid ?_
                    refine HSv.mono ?_
                    intro e w4 hst
                    obtain ⟨rfl, uv4, hk4, hf4, -, hb4⟩ := hk3.ks.step hst hk3.ks.kp
                    have hown4 := own_frd hk3.ks.dk hf4 hk3.own
                    have hbW4 : Below W.heap.size W w4 := hk3.below.trans hb4
                    have HE := error_hit 8 w4 (HET.out _ hbW4)
                    simp only [erV_8]
                    clear HSv hst hf4 ckx hbs3
                    go_wp2_with (go_at_call 7; refine Hid.out ?_)
                    refine Lib.hid ?_
                    refine HE.mono ?_
                    rintro e w5 ⟨rfl, hb5⟩
                    have hk5 : Kl W (k + 1) w5 (.slice A L.length c) L P uv4 d (n + 2) := Kl.keep (wr := w4) ⟨hk4, hk3.U, hk3.bd, hk3.sm.up (by omega), by have := hk3.n; omega, hk3.ids, by have := hk3.len; omega, hown4, hbW4⟩ hb5
                    clear hk4 hown4 hk3 HE
                    have hn5 := hk5.n
                    have HLi := list_is hk5.ks (by omega) hk5.ids
                    go_wp2_with (go_at_call 11; refine Hid.out ?_)
                    refine Lib.hid ?_
                    refine HLi.mono ?_
                    rintro e w6 ⟨A6, c6, rfl, ho6, -, hc6, hb6⟩
                    have hk6 := hk5.keep hb6
                    have hl6 := hk6.len
                    have HIn := ints_same (ownI_is ho6) (ownI_is hk6.own) c6 c (by omega)
                    clear HLi ho6 hk5
                    go_wp2_with (go_at_call 10; refine Hid.out ?_)
                    refine Lib.hid ?_
                    refine HIn.mono ?_
                    rintro e w7 ⟨rfl, q, rfl⟩
                    have HK7 := Lib.hid (hk6.drewN q)
                    clear HIn hk6
                    go_wp2_with fail
                    go_roundw
                    case rel => exact ⟨k + 1, A, L, c, _, _, _, _, by omega, by omega, rfl, by go_num, HK7⟩
                    case measure => simp [intOf]; omega
                  · have hwe : wantE L x = 0 := by unfold wantE; rw [if_neg (by simpa using hid), if_neg hin]
                    have hPn : P x = none := by
                      cases hp : P x with
                      | none => rfl
                      | some y => exact absurd ((hk3.ids.2 x).2 (by rw [hp]; rfl)) hin
                    obtain ⟨d2, s2, k2, u2, b2, n2⟩ := save_free hk3.ks.kp hk3.bd hid hPn hxl
                    rw [hwe]
                    rw [s2] at HSv
                    clear hwe
                    go_wp2_with (go_at_call 8; refine Hid.out ?_)
                    refine Lib.hid ?_
                    refine HSv.mono ?_
                    intro e w4 hst
                    obtain ⟨rfl, uv4, hk4, hf4, -, hb4⟩ := hk3.ks.step hst k2
                    have hown4 := own_frd hk3.ks.dk hf4 hk3.own
                    have HO4 := Lib.hid (own_frdB hk3.ks.dk hf4 HO3.out)
                    clear HO3
                    have hbW4 : Below W.heap.size W w4 := hk3.below.trans hb4
                    have HE := error_nil w4
                    simp only [erV_0]
                    have cx : w4.cell? ⟨pb, po + k, none⟩ = some (.int .i64 x) := (hbW4.cell (p := ⟨pb, po + k, none⟩) (block_lt_of_cell hcel)).trans hcel
                    have hlen3 := hk3.len
                    have HI3 := Lib.hid hk3.ids
                    clear HSv hst hf4 ckx
                    go_wp2_with (go_at_call 7; refine Hid.out ?_)
                    refine Lib.hid ?_
                    refine HE.mono ?_
                    rintro e w5 ⟨rfl, rfl⟩
                    clear HE
                    obtain ⟨Ag, cg, hAg, hcap, hcm, hgg⟩ := ownI_slice hown4
                    simp only [Value.slice.injEq, true_and] at hAg
                    obtain ⟨rfl, rfl⟩ := hAg
                    have HGG := Lib.hid hgg
                    have HOw := Lib.hid hown4
                    clear hgg
                    go_upto_block 4 with fail
                    go_cut [14] (fun v14 wc => ∃ (kk q : Nat), kk ≤ L.length ∧ v14 = .int .i64 kk ∧ Hid ((∀ i (h : i < kk) (h' : i < L.length), L[i] < x) ∧ ∀ i (h : kk ≤ i) (h' : i < L.length), x < L[i]) ∧ wc = w4.drewN q)
                    case first =>
                      go_wp2_with fail
                      go_loopw [14] (fun j wr => ∃ (jj : Nat), jj ≤ L.length ∧ j = .int .i64 jj ∧ Hid (∀ i (h : i < jj) (h' : i < L.length), L[i] < x) ∧ ∃ q, wr = w4.drewN q) (fun j _ => L.length - (intOf j).toNat)
                      case atStart => exact ⟨0, by omega, rfl, fun i h => by omega, 0, rfl⟩
                      case round =>
                        obtain ⟨jj, hjl, rfl, hlow, q, rfl⟩ := hrel
                        by_cases hjlt : jj < L.length
                        · have hj1 : (jj : Int) < (L.length : Int) := by omega
                          have hd0 : decide ((jj : Int) < (L.length : Int)) = true := by simpa using hj1
                          obtain ⟨g, rfl, -, -⟩ := HGG.out (by intro e; rw [e] at hjlt; simp at hjlt)
                          have cj : w4.cell? ⟨g, jj, none⟩ = some (.int .i64 L[jj]) := ownI_cell HOw.out jj hjlt
                          have cj' : w4.cell? ⟨g, 0 + jj, none⟩ = some (.int .i64 L[jj]) := by rw [Nat.zero_add]; exact cj
                          obtain ⟨y, hy⟩ : ∃ y, y = L[jj] := ⟨_, rfl⟩
                          rw [← hy] at cj cj'
                          have HY := Lib.hid hy
                          clear hy
                          by_cases hyx : y < x
                          · have hd1 : decide (y < x) = true := by simpa using hyx
                            have HN : Hid (∀ i (h : i < jj + 1) (h' : i < L.length), L[i] < x) := fun i h h' => by
                              by_cases e : i = jj
                              · subst e; rw [← HY.out]; exact hyx
                              · exact hlow.out i (by omega) h'
                            go_wp2_with fail
                            go_quiet (fail)
                            go_wp2_with fail
                            go_roundw
                            case rel => exact ⟨jj + 1, by omega, by go_num, HN, _, rfl⟩
                            case measure => simp [intOf]; omega
                          · have hd1 : decide (y < x) = false := by simpa using hyx
                            have HN : Hid ((∀ i (h : i < jj) (h' : i < L.length), L[i] < x) ∧ ∀ i (h : jj ≤ i) (h' : i < L.length), x < L[i]) := ⟨hlow.out, fun i h h' => by
                              have hne : y ≠ x := fun e => hin (by rw [← e, HY.out]; exact List.getElem_mem hjlt)
                              by_cases e : i = jj
                              · subst e; rw [← HY.out]; omega
                              · have := List.pairwise_iff_getElem.1 HI3.out.1 jj i hjlt h' (by omega)
                                rw [← HY.out] at this; omega⟩
                            go_wp2_with fail
                            go_quiet (fail)
                            go_wp2_with fail
                            go_meet
                            case rel => exact ⟨jj, q + nq, by omega, rfl, HN, by simp [World.drewN, Nat.add_assoc]⟩
                        · have hj1 : ¬ (jj : Int) < (L.length : Int) := by omega
                          have hd0 : decide ((jj : Int) < (L.length : Int)) = false := by simpa using hj1
                          have HN : Hid ((∀ i (h : i < jj) (h' : i < L.length), L[i] < x) ∧ ∀ i (h : jj ≤ i) (h' : i < L.length), x < L[i]) := ⟨hlow.out, fun i h h' => by omega⟩
                          go_wp2_with fail
                          go_quiet (fail)
                          go_wp2_with fail
                          go_meet
                          case rel => exact ⟨jj, q + nq, by omega, rfl, HN, by simp [World.drewN, Nat.add_assoc]⟩
                    case rest =>
                      obtain ⟨kk, q, hkk, rfl, HB, rfl⟩ := hcut
                      have hdr : Below w4.heap.size w4 (w4.drewN q) := ⟨rfl, rfl, rfl, Nat.le_refl _, fun _ _ => rfl⟩
                      have hk5 := hk4.keep hdr
                      have own5 := ownI_keep hown4 hdr
                      have HO5 := Lib.hid (own_keep HO4.out hdr)
                      clear HO4
                      have hbW5 : Below W.heap.size W (w4.drewN q) := ⟨hbW4.os, hbW4.tape, hbW4.output, hbW4.size, hbW4.block⟩
                      have cx5 : (w4.drewN q).cell? ⟨pb, po + k, none⟩ = some (.int .i64 x) := cx
                      obtain ⟨w5, hw5⟩ : ∃ u, u = w4.drewN q := ⟨_, rfl⟩
                      rw [← hw5] at hk5 own5 hbW5 cx5 HO5
                      rw [← hw5]
                      clear hw5 hdr hk4 hown4 HOw cx hbW4
                      have hcn : A = none → c = 0 := fun e => by
                        rcases own5.2 with ⟨h0, -⟩ | ⟨g, cap', cur, h0, -⟩
                        · simp at h0; exact h0.2.2
                        · rw [e] at h0; simp at h0
                      have isA := ownI_is own5
                      have isT : IsAt w5 A (L.take kk) := by
                        rcases isA with h | ⟨gb, go, e, h⟩
                        · left; rw [h]; simp
                        · rw [e]
                          have h1 := IsAt.piece h 0 kk (by omega)
                          rw [List.drop_zero, Nat.add_zero] at h1
                          exact h1
                      have hkc0 : (0 : Int) ≤ (kk : Int) := by omega
                      have hkc1 : (kk : Int) ≤ (c : Int) := by omega
                      have hkc2 : (kk : Int) ≤ (L.length : Int) := by omega
                      have hLt : (L.take kk).length = kk := by rw [List.length_take]; omega
                      have hLd : (L.drop kk).length = L.length - kk := by simp
                      have HOw := Lib.hid own5
                      have HIA := Lib.hid isA
                      have HIT := Lib.hid isT
                      have HHT := Lib.hid hLt
                      clear own5 isA isT hLt hLd HGG
                      go_wp2_with (at_builtin; refine Hid.out ?_)
                      refine Lib.hid ?_
                      refine append_is rfl _ _ rfl w5.heap.size _ [] rfl (World.ownsRow_nil _ _ _ _) A kk c (L.take kk) rfl HHT.out.symm HIT.out hcn (by rw [HHT.out]; simp; omega) (Nat.le_refl _) ?_
                      intro v6 w6 own6 b6
                      obtain ⟨A6, c6, hv6, -, -, -⟩ := ownI_slice own6
                      rw [show (([] : List Int) ++ L.take kk).length = kk from by simp; omega] at hv6
                      subst hv6
                      have hal : Below w6.heap.size w6 (w6.alloc (.cells #[.int .i64 x] 3)) := (Below.refl _ _).alloc (Nat.le_refl _) _
                      have own6' := ownI_keep own6 hal
                      have h6s := b6.size
                      have cx6 : w6.cell? ⟨pb, po + k, none⟩ = some (.int .i64 x) := (b6.cell (p := ⟨pb, po + k, none⟩) (block_lt_of_cell cx5)).trans cx5
                      have isx : IsAt (w6.alloc (.cells #[.int .i64 x] 3)) (some ⟨w6.heap.size, 0, none⟩) [x] := .inr ⟨_, _, rfl, fun i hi => by simp at hi; subst hi; simp⟩
                      have hl6 : ([] ++ L.take kk).length ≤ 30 := by simp; omega
                      have HO6 := Lib.hid own6'
                      have HB6 := Lib.hid (show Below w5.heap.size w5 (w6.alloc (.cells #[.int .i64 x] 3)) from b6.trans (hal.mono h6s))
                      clear own6 own6' b6 hal
                      go_wp2_with (at_builtin; refine Hid.out ?_)
                      refine Lib.hid ?_
                      refine append_is rfl _ _ rfl w5.heap.size _ ([] ++ L.take kk) rfl HO6.out (some ⟨w6.heap.size, 0, none⟩) 1 1 [x] rfl rfl isx (by intro h; cases h) (by simp; omega) (by simp; omega) ?_
                      intro v7 w7 own7 b7
                      obtain ⟨A7, c7, hv7, -, -, -⟩ := ownI_slice own7
                      rw [show (([] : List Int) ++ L.take kk ++ [x]).length = kk + 1 from by simp; omega] at hv7
                      subst hv7
                      have b57 : Below w5.heap.size w5 w7 := HB6.out.trans b7
                      have isD : IsAt w7 A L := HIA.out.keep b57
                      have hl7 : ([] ++ L.take kk ++ [x]).length ≤ 31 := by simp; omega
                      have h7s := b57.size
                      have HO7 := Lib.hid own7
                      have HID := Lib.hid isD
                      clear own7 isD b7
                      go_upto_region 29 with fail
                      go_cut [8] (fun v8 wc => ∃ (A8 : Option Addr) (c8 : Nat), v8 = .slice A8 (L.length + 1) c8 ∧ Hid (OwnI w5.heap.size wc (.slice A8 (L.length + 1) c8) (L.take kk ++ x :: L.drop kk) ∧ Below w5.heap.size w5 wc))
                      case first =>
                        have hll8 : ([] ++ L.take kk ++ [x]).length + (L.drop kk).length ≤ 1000000 := by simp; omega
                        have HHL := Lib.hid hll8
                        clear hll8
                        by_cases hck : c = kk
                        · have hLk : L.length = kk := by omega
                          have hdn : L.drop kk = [] := List.drop_of_length_le (by omega)
                          have HDN := Lib.hid hdn
                          clear hdn
                          subst hck
                          cases A with
                          | none =>
                            have hc0 : c = 0 := hcn rfl
                            have hL0 : L = [] := List.length_eq_zero_iff.1 (by omega)
                            subst hc0 hL0
                            go_wp2_with (at_builtin; refine Hid.out ?_)
                            refine Lib.hid ?_
                            refine append_is rfl _ _ rfl w5.heap.size _ ([] ++ List.take 0 [] ++ [x]) rfl HO7.out _ _ _ [] rfl ?hm ?hi ?hc ?hl ?hB ?_
                            case hm => rfl
                            case hi => exact .inl rfl
                            case hc => intro _; rfl
                            case hl => exact HHL.out
                            case hB => omega
                            intro v8 w8 own8 b8
                            clear HDN
                            have e8 : [] ++ ([] : List Int).take 0 ++ [x] ++ [] = ([] : List Int).take 0 ++ x :: ([] : List Int).drop 0 := by simp
                            rw [e8] at own8
                            obtain ⟨A8, c8, hv8, -, -, -⟩ := ownI_slice own8
                            have hl8 : (([] : List Int).take 0 ++ x :: ([] : List Int).drop 0).length = ([] : List Int).length + 1 := by simp <;> omega
                            rw [hl8] at hv8
                            subst hv8
                            have HZ := Lib.hid (And.intro own8 (b57.trans b8))
                            clear own8 b8 hl8 e8
                            go_wp2_with fail
                            go_meet
                            case rel => exact ⟨A8, c8, by first | rfl | rw [hLk], HZ⟩
                          | some ad =>
                            go_wp2_with (at_builtin; refine Hid.out ?_)
                            refine Lib.hid ?_
                            refine append_is rfl _ _ rfl w5.heap.size _ ([] ++ L.take c ++ [x]) rfl HO7.out _ _ _ (L.drop c) rfl ?hm ?hi ?hc ?hl ?hB ?_
                            case hm => rw [HDN.out]; rfl
                            case hi => exact .inl HDN.out
                            case hc => intro h; cases h
                            case hl => exact HHL.out
                            case hB => omega
                            intro v8 w8 own8 b8
                            clear HDN
                            have e8 : [] ++ L.take c ++ [x] ++ L.drop c = L.take c ++ x :: L.drop c := by simp
                            rw [e8] at own8
                            obtain ⟨A8, c8, hv8, -, -, -⟩ := ownI_slice own8
                            have hl8 : (L.take c ++ x :: L.drop c).length = L.length + 1 := by simp <;> omega
                            rw [hl8] at hv8
                            subst hv8
                            have HZ := Lib.hid (And.intro own8 (b57.trans b8))
                            clear own8 b8 hl8 e8
                            go_wp2_with fail
                            go_meet
                            case rel => exact ⟨A8, c8, by first | rfl | rw [hLk], HZ⟩
                        · have hcK : ¬ c = kk := hck
                          have hne : A ≠ none := fun e => by have := hcn e; omega
                          obtain ⟨ad, had⟩ := Option.ne_none_iff_exists'.1 hne
                          subst had
                          go_wp2_with (at_builtin; refine Hid.out ?_)
                          refine Lib.hid ?_
                          refine append_is rfl _ _ rfl w5.heap.size _ ([] ++ L.take kk ++ [x]) rfl HO7.out _ _ _ (L.drop kk) rfl ?hm ?hi ?hc ?hl ?hB ?_
                          case hm => simp
                          case hi =>
                            rcases HID.out with h | ⟨gb, go, e, h⟩
                            · exact .inl (by rw [h]; simp)
                            · simp only [Option.some.injEq] at e
                              subst e
                              have h1 := IsAt.piece h kk (L.length - kk) (by omega)
                              rw [List.take_of_length_le (by simp)] at h1
                              rw [show (⟨gb, go, none⟩ : Addr).add kk = ⟨gb, go + kk, none⟩ from by simp [Addr.add]]
                              exact h1
                          case hc => intro h; cases h
                          case hl => exact HHL.out
                          case hB => omega
                          intro v8 w8 own8 b8
                          have e8 : [] ++ L.take kk ++ [x] ++ L.drop kk = L.take kk ++ x :: L.drop kk := by simp
                          rw [e8] at own8
                          obtain ⟨A8, c8, hv8, -, -, -⟩ := ownI_slice own8
                          have hl8 : (L.take kk ++ x :: L.drop kk).length = L.length + 1 := by simp <;> omega
                          rw [hl8] at hv8
                          subst hv8
                          have HZ := Lib.hid (And.intro own8 (b57.trans b8))
                          clear own8 b8 hl8 e8
                          go_wp2_with fail
                          go_meet
                          case rel => exact ⟨A8, c8, by first | rfl | rw [hLk], HZ⟩
                      case rest =>
                        obtain ⟨A8, c8, rfl, HZ⟩ := hcut
                        rename World => w8
                        obtain ⟨own8', b58⟩ := HZ.out
                        clear HZ
                        have hids8 : IdsIs (updK P x (some ([] ++ b ++ [UInt8.ofNat k]))) (L.take kk ++ x :: L.drop kk) := by
                          refine ids_put (by rw [List.take_append_drop]; exact HI3.out) ?_ ?_ _
                          · intro i hi
                            obtain ⟨j, hj, e⟩ := List.getElem_of_mem hi
                            rw [← e, List.getElem_take]
                            exact HB.out.1 j (by simp at hj <;> omega) (by simp at hj <;> omega)
                          · intro i hi
                            obtain ⟨j, hj, e⟩ := List.getElem_of_mem hi
                            rw [← e, List.getElem_drop]
                            exact HB.out.2 (kk + j) (by omega) (by simp at hj <;> omega)
                        have hl8 : (L.take kk ++ x :: L.drop kk).length = L.length + 1 := by simp <;> omega
                        generalize L.take kk ++ x :: L.drop kk = L8 at own8' hids8 hl8
                        have hsm8 : Sm (10 * (k + 1)) d2 := by
                          have h := hk3.sm.save P x ([] ++ b ++ [UInt8.ofNat k])
                          rw [s2] at h
                          exact h.up (by omega)
                        have hk8 : Kl W (k + 1) w8 (.slice A8 L8.length c8) L8 (updK P x (some ([] ++ b ++ [UInt8.ofNat k]))) uv4 d2 (n + 2) := ⟨hk5.keep b58, u2, by rw [b2]; exact hk3.bd, hsm8, by have := hk3.n; omega, hids8, by omega, by rw [hl8]; exact ownI_mono own8' hbW5.size, hbW5.trans (b58.mono hbW5.size)⟩
                        have hox8 : Own wc2.heap.size w8 (.slice A3 ([] ++ b ++ [UInt8.ofNat k]).length cp3) ([] ++ b ++ [UInt8.ofNat k]) := own_keep HO5.out b58
                        have hcx8 : w8.cell? ⟨pb, po + k, none⟩ = some (.int .i64 x) := (b58.cell (p := ⟨pb, po + k, none⟩) (block_lt_of_cell cx5)).trans cx5
                        have hlx8 : ([] ++ b ++ [UInt8.ofNat k]).length = b.length + 1 := by simp
                        have hn3 : n ≤ 10 * k := hk3.n
                        clear hsm8 own8' b57 cx5 HO5 hk5 hk3 HO7 HID HO6 HB6 HIA HIT HHT HOw HB HI3 hids8 hPn s2 k2 n2 hbs3 u2 b2 hcn
                        generalize hXX : [] ++ b ++ [UInt8.ofNat k] = X at *
                        have HXX := Lib.hid hXX
                        clear hXX
                        rcases List.eq_nil_or_concat L8 with hnil | ⟨r, m, hcat⟩
                        · exfalso; rw [hnil] at hl8; simp at hl8
                        rw [List.concat_eq_append] at hcat
                        subst hcat
                        have hl9 := hk8.ids
                        obtain ⟨y, hy⟩ := Option.isSome_iff_exists.1 (hl9.last rfl).1
                        have HLt := lat_some hk8.ks (by omega) hl9 hy
                        have HRL := Lib.hid hl8
                        clear hl8
                        go_wp2_with (go_at_call 9; refine Hid.out ?_)
                        refine Lib.hid ?_
                        refine HLt.mono ?_
                        rintro e w9 ⟨A9, c9, rfl, hA9, hb9⟩
                        have hk9 := hk8.keep hb9
                        clear hk8 HLt
                        have hox9 := own_keep hox8 hb9
                        have hcx9 : w9.cell? ⟨pb, po + k, none⟩ = some (.int .i64 x) := (hb9.cell (p := ⟨pb, po + k, none⟩) (block_lt_of_cell hcx8)).trans hcx8
                        clear hox8 hcx8
                        obtain ⟨Ag, cg, hAg, -, -, hgg⟩ := ownI_slice hk9.own
                        obtain ⟨g8, hg8, -, -⟩ := hgg (by simp)
                        simp only [Value.slice.injEq] at hAg
                        obtain ⟨hAg, -, hcg⟩ := hAg
                        subst hAg hcg hg8
                        have clast : w9.cell? ⟨g8, L.length, none⟩ = some (.int .i64 m) := by
                          have h := ownI_cell hk9.own r.length (by simp)
                          have hrr : r.length = L.length := by have := HRL.out; simpa using this
                          have h2 : w9.cell? ⟨g8, r.length, none⟩ = some (.int .i64 m) := by simpa using h
                          rw [hrr] at h2
                          exact h2
                        have clast' : w9.cell? ⟨g8, 0 + L.length, none⟩ = some (.int .i64 m) := by rw [Nat.zero_add]; exact clast
                        have HK9 := Lib.hid hk9
                        clear hk9 hgg
                        have q0 : ((L.length + 1 : Nat) : Int) - 1 = (L.length : Int) := by omega
                        have q1 : (m == m) = true := by simp
                        have e2 := ((own_bs hox9 rfl).1).convert X.length cp3 rfl
                        clear hox9
                        have hXl : X.length = b.length + 1 := hlx8
                        rw [hXl] at e2
                        go_upto_region 31 with fail
                        go_cut [158] (fun v158 wc => v158 = .bool false ∧ w9 = wc)
                        case first =>
                          by_cases hmx : m = x
                          · have hyX : y = X := by rw [hmx, updK_same] at hy; injection hy with hy; exact hy.symm
                            subst hyX
                            subst hmx
                            have e1 := hA9.convert y.length c9 rfl
                            rw [hXl] at e1
                            have e3 := str_eqT y
                            clear hA9 hy hl9
                            generalize (⟨y.toArray⟩ : ByteArray) = sa at *
                            go_wp2_with fail
                            go_meet
                            case rel => exact ⟨rfl, rfl⟩
                          · have hmx' : (m == x) = false := by simpa using hmx
                            clear hA9 hy hl9 e2
                            go_wp2_with fail
                            go_meet
                            case rel => exact ⟨rfl, rfl⟩
                        case rest =>
                          obtain ⟨rfl, rfl⟩ := hcut
                          clear hA9 hy hl9 e2 clast clast' hcx9
                          have hrl := HRL.out
                          have hk5 := HK9.out
                          have hn5 := hk5.n
                          have HLi := list_is hk5.ks (by omega) hk5.ids
                          simp only [hrl] at HLi
                          go_wp2_with (go_at_call 11; refine Hid.out ?_)
                          refine Lib.hid ?_
                          refine HLi.mono ?_
                          rintro e w10 ⟨A10, c10, rfl, ho10, -, hc10, hb10⟩
                          have hk6 := hk5.keep hb10
                          have HIn := ints_same (ownI_is ho10) (ownI_is hk6.own) c10 c8 (by omega)
                          simp only [hrl] at HIn
                          clear HLi ho10 hk5 hc10 hb10
                          clear hrl
                          go_wp2_with (go_at_call 10; refine Hid.out ?_)
                          refine Lib.hid ?_
                          refine HIn.mono ?_
                          rintro e w11 ⟨rfl, q, rfl⟩
                          have HK7 := Lib.hid (hk6.drewN q)
                          clear HIn hk6
                          go_wp2_with fail
                          go_roundw
                          case rel => exact ⟨k + 1, some ⟨g8, 0, none⟩, r ++ [m], c8, _, _, _, _, by omega, by omega, by rw [HRL.out], by go_num, HK7⟩
                          case measure => simp [intOf]; omega
                · have hwe : wantE L x = 1 := by unfold wantE; rw [if_pos hid]
                  rw [hwe]
                  clear hwe
                  have hrr : saveR d P x ([] ++ b ++ [UInt8.ofNat k]) = (1, d) := save_range hid _
                  rw [hrr] at HSv
                  go_wp2_with (go_at_call 8; refine Hid.out ?_)
                  refine Lib.hid ?_
                  refine HSv.mono ?_
                  intro e w4 hst
                  obtain ⟨rfl, uv4, hk4, hf4, -, hb4⟩ := hk3.ks.step hst hk3.ks.kp
                  have hown4 := own_frd hk3.ks.dk hf4 hk3.own
                  have hbW4 : Below W.heap.size W w4 := hk3.below.trans hb4
                  have HE := error_hit 1 w4 (HET.out _ hbW4)
                  simp only [erV_1]
                  clear HSv hst hf4 ckx hbs3
                  go_wp2_with (go_at_call 7; refine Hid.out ?_)
                  refine Lib.hid ?_
                  refine HE.mono ?_
                  rintro e w5 ⟨rfl, hb5⟩
                  have hk5 : Kl W (k + 1) w5 (.slice A L.length c) L P uv4 d (n + 2) := Kl.keep (wr := w4) ⟨hk4, hk3.U, hk3.bd, hk3.sm.up (by omega), by have := hk3.n; omega, hk3.ids, by have := hk3.len; omega, hown4, hbW4⟩ hb5
                  clear hk4 hown4 hk3 HE
                  have hn5 := hk5.n
                  have HLi := list_is hk5.ks (by omega) hk5.ids
                  go_wp2_with (go_at_call 11; refine Hid.out ?_)
                  refine Lib.hid ?_
                  refine HLi.mono ?_
                  rintro e w6 ⟨A6, c6, rfl, ho6, -, hc6, hb6⟩
                  have hk6 := hk5.keep hb6
                  have hl6 := hk6.len
                  have HIn := ints_same (ownI_is ho6) (ownI_is hk6.own) c6 c (by omega)
                  clear HLi ho6 hk5
                  go_wp2_with (go_at_call 10; refine Hid.out ?_)
                  refine Lib.hid ?_
                  refine HIn.mono ?_
                  rintro e w7 ⟨rfl, q, rfl⟩
                  have HK7 := Lib.hid (hk6.drewN q)
                  clear HIn hk6
                  go_wp2_with fail
                  go_roundw
                  case rel => exact ⟨k + 1, A, L, c, _, _, _, _, by omega, by omega, rfl, by go_num, HK7⟩
                  case measure => simp [intOf]; omega
        · by_cases h1 : k < ids.length
          · have h1' : (k : Int) < (ids.length : Int) := by omega
            have h2' : ¬ (k : Int) < 30 := by omega
            go_wp2_with fail
            go_meet
            case rel => exact ⟨k, A, L, c, P, uv, d, n, hk30, rfl, HK⟩
          · have h1' : ¬ (k : Int) < (ids.length : Int) := by omega
            go_wp2_with fail
            go_meet
            case rel => exact ⟨k, A, L, c, P, uv, d, n, hk30, rfl, HK⟩
    case rest =>
      obtain ⟨k, A, L, c, P, uv, d, n, hk30, rfl, HK⟩ := hcut
      have hks := HK.out.ks
      have hlen := HK.out.len
      have hnn := HK.out.n
      have HC := clean_any hks.dk hks.kp.kp hks.tab HK.out.sm (by omega) (by omega) many hmany L HK.out.ids
      have hown := HK.out.own
      have hcc := (ownI_slice hown)
      obtain ⟨A', c', hA', hcap, hcm, hgg⟩ := hcc
      simp only [Value.slice.injEq, true_and] at hA'
      obtain ⟨rfl, rfl⟩ := hA'
      have hetc : ∀ u, Below W.heap.size W u → u.cell? ⟨0, 0, none⟩ = some ET := fun u hu => (hu.cell (p := ⟨0, 0, none⟩) (block_lt_of_cell het)).trans het
      have HET := Lib.hid hetc
      clear hetc
      by_cases hm1 : many < 1
      · have hcl : cleanR d L many = (1, d) := by unfold cleanR; rw [if_pos hm1]
        rw [hcl] at HC
        go_wp2_with (go_at_call 12; refine Hid.out ?_)
        refine Lib.hid ?_
        refine HC.mono ?_
        intro e w2 hst
        have hfr := hst.2
        obtain ⟨rfl, uv2, hk2, hf2, -, hb2⟩ := hks.step hst hks.kp
        have hbW : Below W.heap.size W w2 := HK.out.below.trans hb2
        have hown2 := own_frd hks.dk hf2 hown
        have hall := ownI_is hown2
        have hl2 := HK.out.ids
        have hn2 : n + 2 * L.length ≤ 1000000 := by omega
        have HE := error_hit 1 w2 (HET.out _ hbW)
        simp only [erV_1]
        clear HC hst hfr hf2 hown hown2
        go_wp2_with (go_at_call 7; refine Hid.out ?_)
        refine Lib.hid ?_
        refine HE.mono ?_
        rintro e w2b ⟨rfl, hb2b⟩
        have hk2' := hk2.keep hb2b
        have hall' := hall.keep hb2b
        have hbW' : Below W.heap.size W w2b := hbW.trans (hb2b.mono hk2.dk.lole)
        clear hk2 hall hbW HE
        have hk2 := hk2'; have hall := hall'; have hbW := hbW'
        clear hk2' hall' hbW'
        have HLi := list_is hk2 hn2 hl2
        go_wp2_with (go_at_call 11; refine Hid.out ?_)
        refine Lib.hid ?_
        refine HLi.mono ?_
        rintro e w3 ⟨A3, c3, rfl, ho3, -, hc3, hb3⟩
        have HIn := ints_same (ownI_is ho3) (hall.keep hb3) c3 c (by omega)
        skip
        have hk3 := hk2.keep hb3
        have hb03 : Below W.heap.size W w3 := hbW.trans (hb3.mono hk2.dk.lole)
        clear HLi ho3 hc3
        go_wp2_with (go_at_call 10; refine Hid.out ?_)
        refine Lib.hid ?_
        refine HIn.mono ?_
        rintro e w4 ⟨rfl, q, rfl⟩
        have hk4 := hk3.keep (w' := w3.drewN q) ⟨rfl, rfl, rfl, Nat.le_refl _, fun _ _ => rfl⟩
        have hb04 : Below W.heap.size W (w3.drewN q) := ⟨hb03.os, hb03.tape, hb03.output, hb03.size, hb03.block⟩
        clear HIn hk3
        rcases List.eq_nil_or_concat (L) with hnil | ⟨r, m, hcat⟩
        · have hlz : (L).length = 0 := by rw [hnil]; rfl
          rw [hnil] at hl2
          have HLt := lat_none hk4 hn2 hl2
          clear hall
          (try rw [hlz])
          go_wp2_with (go_at_call 9; refine Hid.out ?_)
          refine Lib.hid ?_
          refine HLt.mono ?_
          rintro e w5 ⟨rfl, hb5⟩
          clear HLt
          have hb05 : Below W.heap.size W w5 := hb04.trans (hb5.mono hk4.dk.lole)
          go_wp2_with fail
          go_ret
          first
            | exact ⟨rfl, hb05⟩
            | (refine ⟨?_, hb05⟩; simp only [List.length_drop] at hlz; simp; omega)
        · rw [List.concat_eq_append] at hcat
          have hlz : (L).length = r.length + 1 := by rw [hcat]; simp
          rw [hcat] at hl2
          obtain ⟨x, hx⟩ := Option.isSome_iff_exists.1 (hl2.last rfl).1
          have HLt := lat_some hk4 hn2 hl2 hx
          have hpos : (0 : Int) < (((L).length : Nat) : Int) := by rw [hlz]; omega
          clear hall
          go_wp2_with (go_at_call 9; refine Hid.out ?_)
          refine Lib.hid ?_
          refine HLt.mono ?_
          rintro e w5 ⟨A5, c5, rfl, -, hb5⟩
          clear HLt
          have hb05 : Below W.heap.size W w5 := hb04.trans (hb5.mono hk4.dk.lole)
          go_wp2_with fail
          go_ret
          first
            | exact ⟨rfl, hb05⟩
            | (refine ⟨?_, hb05⟩; simp only [List.length_drop] at hlz; simp; omega)
      · have hm1' : 1 ≤ many := by omega
        obtain ⟨d2, hcl, hkd2, hu2, hbd2, -⟩ := clean_free hks.kp HK.out.bd HK.out.ids hm1'
        rw [hcl] at HC
        have hleft := ids_left HK.out.ids (L.length - many.toNat)
        obtain ⟨KK, hKK⟩ : ∃ KK, KK = L.length - many.toNat := ⟨_, rfl⟩
        rw [← hKK] at hkd2 hleft
        go_wp2_with (go_at_call 12; refine Hid.out ?_)
        refine Lib.hid ?_
        refine HC.mono ?_
        intro e w2 hst
        obtain ⟨rfl, uv2, hk2, hf2, -, hb2⟩ := hks.step hst hkd2
        have hbW : Below W.heap.size W w2 := HK.out.below.trans hb2
        have hown2 := own_frd hks.dk hf2 hown
        have hn2 : n + 2 * L.length ≤ 1000000 := by omega
        have HE := error_nil w2
        simp only [erV_0]
        clear HC hst hf2 hown
        by_cases hgt : many < (L.length : Int)
        · have hne : L ≠ [] := fun e => by rw [e] at hgt; simp at hgt; omega
          obtain ⟨g, rfl, -, -⟩ := hgg hne
          have hKi : (L.length : Int) - many = (KK : Int) := by omega
          have hKlt : KK < L.length := by omega
          have hcK : ¬ c = KK := by omega
          have hall : IsAt w2 (some ⟨g, KK, none⟩) (L.drop KK) := by
            have h1 := IsAt.piece (o := 0) (fun i hi => by rw [Nat.zero_add]; exact ownI_cell hown2 i hi) KK (L.length - KK) (by omega)
            rw [Nat.zero_add, List.take_of_length_le (by simp)] at h1
            exact h1
          have hl2 := hleft
          have hld : (L.drop KK).length = L.length - KK := by simp
          have hKi0 : (0 : Int) ≤ (KK : Int) := by omega
          have hKi1 : (KK : Int) ≤ (L.length : Int) := by omega
          clear hown2 hKK
          go_wp2_with (go_at_call 7; refine Hid.out ?_)
          refine Lib.hid ?_
          refine HE.mono ?_
          rintro e w2b ⟨rfl, rfl⟩
          clear HE
          have HLi := list_is hk2 hn2 hl2
          go_wp2_with (go_at_call 11; refine Hid.out ?_)
          refine Lib.hid ?_
          refine HLi.mono ?_
          rintro e w3 ⟨A3, c3, rfl, ho3, -, hc3, hb3⟩
          have HIn := ints_same (ownI_is ho3) (hall.keep hb3) c3 (c - KK) (by omega)
          simp only [List.length_drop] at HIn
          have hk3 := hk2.keep hb3
          have hb03 : Below W.heap.size W w3 := hbW.trans (hb3.mono hk2.dk.lole)
          clear HLi ho3 hc3
          go_wp2_with (go_at_call 10; refine Hid.out ?_)
          refine Lib.hid ?_
          refine HIn.mono ?_
          rintro e w4 ⟨rfl, q, rfl⟩
          have hk4 := hk3.keep (w' := w3.drewN q) ⟨rfl, rfl, rfl, Nat.le_refl _, fun _ _ => rfl⟩
          have hb04 : Below W.heap.size W (w3.drewN q) := ⟨hb03.os, hb03.tape, hb03.output, hb03.size, hb03.block⟩
          clear HIn hk3
          rcases List.eq_nil_or_concat (L.drop KK) with hnil | ⟨r, m, hcat⟩
          · have hlz : (L.drop KK).length = 0 := by rw [hnil]; rfl
            rw [hnil] at hl2
            have HLt := lat_none hk4 hn2 hl2
            clear hall
            (try rw [hlz])
            go_wp2_with (go_at_call 9; refine Hid.out ?_)
            refine Lib.hid ?_
            refine HLt.mono ?_
            rintro e w5 ⟨rfl, hb5⟩
            clear HLt
            have hb05 : Below W.heap.size W w5 := hb04.trans (hb5.mono hk4.dk.lole)
            go_wp2_with fail
            go_ret
            first
              | exact ⟨rfl, hb05⟩
              | (refine ⟨?_, hb05⟩; simp only [List.length_drop] at hlz; simp; omega)
          · rw [List.concat_eq_append] at hcat
            have hlz : (L.drop KK).length = r.length + 1 := by rw [hcat]; simp
            rw [hcat] at hl2
            obtain ⟨x, hx⟩ := Option.isSome_iff_exists.1 (hl2.last rfl).1
            have HLt := lat_some hk4 hn2 hl2 hx
            have hpos : (0 : Int) < (((L.drop KK).length : Nat) : Int) := by rw [hlz]; omega
            clear hall
            go_wp2_with (go_at_call 9; refine Hid.out ?_)
            refine Lib.hid ?_
            refine HLt.mono ?_
            rintro e w5 ⟨A5, c5, rfl, -, hb5⟩
            clear HLt
            have hb05 : Below W.heap.size W w5 := hb04.trans (hb5.mono hk4.dk.lole)
            go_wp2_with fail
            go_ret
            first
              | exact ⟨rfl, hb05⟩
              | (refine ⟨?_, hb05⟩; simp only [List.length_drop] at hlz; simp; omega)
        · have hK0 : KK = 0 := by omega
          subst hK0
          have hl2 : IdsIs (updAll P (L.take 0)) L := by have h := hleft; rw [List.drop_zero] at h; exact h
          have hall := ownI_is hown2
          clear hown2 hKK hleft
          go_wp2_with (go_at_call 7; refine Hid.out ?_)
          refine Lib.hid ?_
          refine HE.mono ?_
          rintro e w2b ⟨rfl, rfl⟩
          clear HE
          have HLi := list_is hk2 hn2 hl2
          go_wp2_with (go_at_call 11; refine Hid.out ?_)
          refine Lib.hid ?_
          refine HLi.mono ?_
          rintro e w3 ⟨A3, c3, rfl, ho3, -, hc3, hb3⟩
          have HIn := ints_same (ownI_is ho3) (hall.keep hb3) c3 c (by omega)
          skip
          have hk3 := hk2.keep hb3
          have hb03 : Below W.heap.size W w3 := hbW.trans (hb3.mono hk2.dk.lole)
          clear HLi ho3 hc3
          go_wp2_with (go_at_call 10; refine Hid.out ?_)
          refine Lib.hid ?_
          refine HIn.mono ?_
          rintro e w4 ⟨rfl, q, rfl⟩
          have hk4 := hk3.keep (w' := w3.drewN q) ⟨rfl, rfl, rfl, Nat.le_refl _, fun _ _ => rfl⟩
          have hb04 : Below W.heap.size W (w3.drewN q) := ⟨hb03.os, hb03.tape, hb03.output, hb03.size, hb03.block⟩
          clear HIn hk3
          rcases List.eq_nil_or_concat (L) with hnil | ⟨r, m, hcat⟩
          · have hlz : (L).length = 0 := by rw [hnil]; rfl
            rw [hnil] at hl2
            have HLt := lat_none hk4 hn2 hl2
            clear hall
            (try rw [hlz])
            go_wp2_with (go_at_call 9; refine Hid.out ?_)
            refine Lib.hid ?_
            refine HLt.mono ?_
            rintro e w5 ⟨rfl, hb5⟩
            clear HLt
            have hb05 : Below W.heap.size W w5 := hb04.trans (hb5.mono hk4.dk.lole)
            go_wp2_with fail
            go_ret
            first
              | exact ⟨rfl, hb05⟩
              | (refine ⟨?_, hb05⟩; simp only [List.length_drop] at hlz; simp; omega)
          · rw [List.concat_eq_append] at hcat
            have hlz : (L).length = r.length + 1 := by rw [hcat]; simp
            rw [hcat] at hl2
            obtain ⟨x, hx⟩ := Option.isSome_iff_exists.1 (hl2.last rfl).1
            have HLt := lat_some hk4 hn2 hl2 hx
            have hpos : (0 : Int) < (((L).length : Nat) : Int) := by rw [hlz]; omega
            clear hall
            go_wp2_with (go_at_call 9; refine Hid.out ?_)
            refine Lib.hid ?_
            refine HLt.mono ?_
            rintro e w5 ⟨A5, c5, rfl, -, hb5⟩
            clear HLt
            have hb05 : Below W.heap.size W w5 := hb04.trans (hb5.mono hk4.dk.lole)
            go_wp2_with fail
            go_ret
            first
              | exact ⟨rfl, hb05⟩
              | (refine ⟨?_, hb05⟩; simp only [List.length_drop] at hlz; simp; omega)
  · have hbl' : (20000 : Int) < (b.length : Int) := by omega
    go_enter Tryz.func3, Tryz.ntmps3
    go_wp2_with (go_at_call 6; refine HN.mono ?_; rintro e w1 ⟨rfl, hd1, hb1⟩)
    go_ret
    exact ⟨rfl, hb1⟩
end Go.Proofs.YtcmnijpcinmbbaaGreatDoor
