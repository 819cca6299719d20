/- readNode. -/
import Derived.Test.YthadeccnibnioaaGreatDoorYf
namespace Go.Proofs.YthadeccnibnioaaGreatDoor
open Go.RowKit
set_option linter.unusedVariables false
/-- What holds of the world while From is read. -/
structure RnAt (w : World) (g5 : Nat) (k : Int) (fa : Option Addr) (fr : List (List UInt8)) (j : Nat) (wr : World) : Prop where
  below : Below w.heap.size w wr
  res : Nb wr w.heap.size 0 (.slice none 0 0) ⟨#[]⟩ 0
  words : WsAt wr fa fr
  early : fr = [] ∨ ∀ a, fa = some a → a.block < g5
  apart : w.heap.size < g5
  one : ∃ v zs, numsR (fr.take j) = some zs ∧ wr.ownsRow (g5 + 1) 3 1 v zs.length (iv zs) ∧ Nb wr g5 k v ⟨#[]⟩ 0
theorem RnAt.call {w : World} {g5 : Nat} {k : Int} {fa : Option Addr} {fr : List (List UInt8)} {j : Nat} {wr w' : World} (h : RnAt w g5 k fa fr j wr) (hb : Below wr.heap.size wr w') : RnAt w g5 k fa fr j w' := by
  obtain ⟨v, zs, h1, h2, h3⟩ := h.one
  exact ⟨h.below.trans (hb.mono h.below.size), h.res.below hb h.res.lt, h.words.keep (Keeps.of hb), h.early, h.apart, v, zs, h1, own_below h2 hb, h3.below hb h3.lt⟩
theorem RnAt.next {w : World} {g5 : Nat} {k : Int} {fa : Option Addr} {fr : List (List UInt8)} {j : Nat} {wr w3 : World} (h : RnAt w g5 k fa fr j wr) {v v' : Value} {zs : List Int} {n : Int} {o : Obj} (hone : Nb wr g5 k v ⟨#[]⟩ 0) (hown : wr.ownsRow (g5 + 1) 3 1 v zs.length (iv zs)) (hgrow : (wr.alloc o).grownBy w3 v.ownBlock)
    (hnext : numsR (fr.take (j + 1)) = some (zs ++ [n])) (hown' : w3.ownsRow (g5 + 1) 3 1 v' (zs.length + 1) (iv zs ++ [.int .i64 n])) : Nb w3 g5 k v ⟨#[]⟩ 0 ∧ RnAt w g5 k fa fr (j + 1) (w3.setCell ⟨g5, 1, none⟩ v') := by
  have hlt := hone.lt
  have hap := h.apart
  have hbA : Below (g5 + 1) wr (wr.alloc o) := (Below.refl _ _).alloc (by omega) o
  have hbg : Below (g5 + 1) wr w3 := hbA.grown hgrow (by simp; omega) (fun k hk => (hown.lt k hk).1)
  have hbw : Below w.heap.size w w3 := h.below.trans (hbg.mono (by omega))
  have h3 : Nb w3 g5 k v ⟨#[]⟩ 0 := hone.below hbg (by omega)
  refine ⟨h3, hbw.setCell (by simp; omega) _, (h.res.below hbg (by omega)).other _ (by simp; omega), ?_, h.early, hap, v', zs ++ [n], hnext, ?_, h3.put1 v'⟩
  · rcases h.words with he | ⟨b, o2, rfl, hc⟩
    · exact .inl he
    · rcases h.early with he | hb
      · exact .inl he
      · have hb5 : b < g5 := hb _ rfl
        refine .inr ⟨b, o2, rfl, fun i hi => ?_⟩
        rw [World.cell?_of_block (w := w3) (Below.heap_setCell _ _ _ _ (by simp; omega)), World.cell?_of_block (w := wr) (hbg.block b (by omega))]
        exact hc i hi
  · have e : (zs ++ [n]).length = zs.length + 1 := by simp
    rw [e, iv_snoc]
    exact ownsRow_setCell_below hown' (by simp) _
theorem rn_last {w wf : World} {base : Nat} (hb : Below w.heap.size w wf) (hres : Nb wf w.heap.size 0 (.slice none 0 0) ⟨#[]⟩ 0) (hbase : w.heap.size < base) (k : Int) (v : Value) (tx : ByteArray) (n : Int) :
    Nb ((((wf.setCell ⟨w.heap.size, 0, none⟩ (.int .i64 k)).setCell ⟨w.heap.size, 1, none⟩ v).setCell ⟨w.heap.size, 2, none⟩ (.string tx)).setCell ⟨w.heap.size, 3, none⟩ (.int .i64 n)) w.heap.size k v tx n ∧
    Below w.heap.size w ((((wf.setCell ⟨w.heap.size, 0, none⟩ (.int .i64 k)).setCell ⟨w.heap.size, 1, none⟩ v).setCell ⟨w.heap.size, 2, none⟩ (.string tx)).setCell ⟨w.heap.size, 3, none⟩ (.int .i64 n)) ∧
    ∀ vv nn xs, wf.ownsRow base 3 1 vv nn xs → ((((wf.setCell ⟨w.heap.size, 0, none⟩ (.int .i64 k)).setCell ⟨w.heap.size, 1, none⟩ v).setCell ⟨w.heap.size, 2, none⟩ (.string tx)).setCell ⟨w.heap.size, 3, none⟩ (.int .i64 n)).ownsRow base 3 1 vv nn xs :=
  ⟨(((hres.put0 k).put1 v).put2 tx).put3 n, (((hb.setCell (Nat.le_refl _) _).setCell (Nat.le_refl _) _).setCell (Nat.le_refl _) _).setCell (Nat.le_refl _) _,
    fun vv nn xs h => ownsRow_setCell_below (ownsRow_setCell_below (ownsRow_setCell_below (ownsRow_setCell_below h hbase _) hbase _) hbase _) hbase _⟩
theorem Nb.newk (w : World) (k : Int) : Nb (w.alloc (.cells #[.int .i64 k, .slice none 0 0, .string ⟨#[]⟩, .int .i64 0] 52)) w.heap.size k (.slice none 0 0) ⟨#[]⟩ 0 := Array.getElem?_push_size
theorem rn_start {w w1 : World} {k : Int} {fa : Option Addr} {fr : List (List UInt8)} (hbz : Below w.heap.size w w1) (hlt : w.heap.size < w1.heap.size) (hn1 : Nb w1 w.heap.size 0 (.slice none 0 0) ⟨#[]⟩ 0) (hFr : WsAt w1 fa fr) (n : Nat) : RnAt w w1.heap.size k fa fr 0 ((w1.alloc (.cells #[.int .i64 k, .slice none 0 0, .string ⟨#[]⟩, .int .i64 0] 52)).drewN n) where
  below := below_drewN (hbz.alloc (by omega) _) n
  res := (hn1.alloc _).drew n
  words := hFr.keep (Keeps.of (below_drewN ((Below.refl _ _).alloc (Nat.le_refl _) _) n))
  early := by
    by_cases hn : fr = []
    · exact .inl hn
    · rcases hFr with h | ⟨b, o, rfl, h⟩
      · exact absurd h hn
      · right
        intro a ha
        injection ha with ha
        subst ha
        exact cell_lt (h 0 (List.length_pos_iff.2 hn))
  apart := hlt
  one := ⟨.slice none 0 0, [], by rw [List.take_zero]; rfl, World.ownsRow_nil _ _ _ _, (Nb.newk w1 k).drew n⟩
set_option maxRecDepth 100000 in
set_option maxHeartbeats 1000000 in
theorem rn_kind {w : World} (hg : Gj w) (s : ByteArray) (hs : s.size ≤ 100000000) (w0 : List UInt8) (ws : List (List UInt8)) (hsp : splitW s.data.toList = w0 :: ws) (k : Int) (h0 : kindP w0 = k) (hk1 : 1 ≤ k) (hk2 : k ≤ 10) (hwl : ws.length ≤ 100000000) (R : Ending → World → Prop)
    (HRno : Hid (∀ (k n : Int) (A : Option Addr) (ln cp : Nat) (tx : ByteArray) w', Below w.heap.size w w' → readNd false s.data.toList = none → R (.returned (.tuple #[.agg #[.int .i64 k, .slice A ln cp, .string tx, .int .i64 n], .bool false])) w'))
    (HRyes : Hid (∀ nd fa fc w', Below w.heap.size w w' → readNd false s.data.toList = some nd → w'.ownsRow w.heap.size 3 1 (.slice fa nd.fs.length fc) nd.fs.length (iv nd.fs) → R (.returned (.tuple #[ndV nd fa fc, .bool true])) w')) : Calls Tryz.prog 56 #[.string s] w R := by
  have HS := split_words s (w.alloc (.cells #[.int .i64 0, .slice none 0 0, .string ⟨#[]⟩, .int .i64 0] 52)) hs hsp
  have hb0 : Below w.heap.size w (w.alloc (.cells #[.int .i64 0, .slice none 0 0, .string ⟨#[]⟩, .int .i64 0] 52)) := (Below.refl _ _).alloc (Nat.le_refl _) _
  have hn0 := Nb.new w
  have hsz : (w.alloc (.cells #[.int .i64 0, .slice none 0 0, .string ⟨#[]⟩, .int .i64 0] 52)).heap.size = w.heap.size + 1 := by simp
  rw [hsz] at HS
  have hkI : (k == 0) = false := by simpa using (by omega : ¬ k = 0)
  have HG := Lib.hid hg
  obtain ⟨i0, hi0, hz0, hz1, hz2⟩ := info_parts Tryz.infoInt
  go_enter Tryz.func56, Tryz.ntmps56
  go_wp2_with (first | (go_at_call 92; refine HS.mono ?_; rintro e w1 ⟨c, rfl, hc, cW0, hcell, hb1⟩; have hg1 := (hg.below hb0).below (by rw [hsz]; exact hb1); have HK := kind_any hg1 ⟨w0.toArray⟩; rw [show kindP (⟨w0.toArray⟩ : ByteArray).data.toList = k from h0] at HK; have hn1 := hn0.below hb1 (by omega); obtain ⟨⟨n0, n1, n2, n3⟩, f0, f1, f2, f3⟩ := hn1.cells; have hlt := hn1.lt; have hbz := hb0.trans (hb1.mono (by omega)); have HCell := Lib.hid hcell; clear hcell hn0) | (go_at_call 93; refine HK.mono ?_; rintro e w2 ⟨rfl, rfl⟩))
  obtain ⟨wa, cc, hway, hwsat, hcc⟩ : ∃ wa cc, ((c = 1 ∧ wa = some ⟨w.heap.size + 1, 0, none⟩ ∧ cc = 0) ∨ (c ≠ 1 ∧ wa = some ⟨w.heap.size + 1, 1, none⟩ ∧ cc = c - 1)) ∧ WsAt w1 wa ws ∧ ws.length ≤ cc := by
    by_cases hc1 : c = 1
    · exact ⟨_, _, .inl ⟨hc1, rfl, rfl⟩, .inl (List.length_eq_zero_iff.1 (by omega)), by omega⟩
    · exact ⟨_, _, .inr ⟨hc1, rfl, rfl⟩, .inr ⟨_, _, rfl, HCell.out⟩, by omega⟩
  obtain ⟨fa, fc, fr, own, ok, hfc, hfl, hown, hcase, hP⟩ := parted_any hk1 hk2 ws wa cc hcc (by omega)
  have hbA : Below w1.heap.size w1 (w1.alloc (.cells #[.int .i64 k, .slice none 0 0, .string ⟨#[]⟩, .int .i64 0] 52)) := (Below.refl _ _).alloc (Nat.le_refl _) _
  have hWA := hwsat.keep (Keeps.of hbA)
  have hFr := (hP _ hwsat).1
  have HPq := fun n => (hP ((w1.alloc (.cells #[.int .i64 k, .slice none 0 0, .string ⟨#[]⟩, .int .i64 0] 52)).drewN n) hWA).2
  have hRn := rn_start (k := k) hbz hlt hn1 hFr
  have HRn := Lib.hid hRn
  have HCase := Lib.hid hcase
  have HOwn := Lib.hid hown
  have HFl : Hid (fr.length ≤ 100000000) := Nat.le_trans hfl hwl
  clear hP hRn hFr hWA hbA hwsat hn1 hg HCell hcc hcase hown hfc hfl
  rcases hway with ⟨rfl, rfl, rfl⟩ | ⟨hc1, rfl, rfl⟩
  focus (
    obtain rfl : ws = [] := List.length_eq_zero_iff.1 (by omega)
    have HPq : ∀ n, Calls Tryz.prog 94 #[.int .i64 k, .slice (some ⟨w.heap.size + 1, 0, none⟩) 0 0] ((w1.alloc (.cells #[.int .i64 k, .slice none 0 0, .string ⟨#[]⟩, .int .i64 0] 52)).drewN n) fun e w' => e = .returned (.tuple #[.slice fa fr.length fc, .string ⟨own.toArray⟩, .bool ok]) ∧ ∃ m, w' = ((w1.alloc (.cells #[.int .i64 k, .slice none 0 0, .string ⟨#[]⟩, .int .i64 0] 52)).drewN n).drewN m := HPq
    go_quiet ((go_at_call 94; exact Calls.quiet_of (HPq _))))
  rotate_left 1
  focus (
    have hcI : ¬ ((c : Int) = 1) := by omega
    go_quiet ((go_at_call 94; exact Calls.quiet_of (HPq _))))
  all_goals (
    have hA := HRn.out nq
    have hlt := hA.res.lt
    have hap := hA.apart
    have HSp := Lib.hid hsp
    have HKd := Lib.hid h0
    have hlt0 := hlt
    generalize hwq : (w1.alloc (.cells #[.int .i64 k, .slice none 0 0, .string ⟨#[]⟩, .int .i64 0] 52)).drewN nq = wq at hA hlt ⊢
    clear HRn HPq hwq hsp h0 n0 n1 n2 n3 f0 f1 f2 f3 hbz cW0 hc HS hb0 hsz HK hlt0
    rcases HCase.out with ⟨rfl, hpt⟩ | ⟨rfl, hpt⟩
    · obtain ⟨m, hm⟩ : ∃ m, fr.length = m := ⟨_, rfl⟩
      have HM := Lib.hid hm
      simp only [hm]
      clear hm
      go_wp2_with fail
      go_loopw [38] (fun i wr => ∃ j : Nat, j ≤ m ∧ i = .int .i64 j ∧ RnAt w w1.heap.size k fa fr j wr) (fun i _ => m - (intOf i).toNat)
      case atStart => exact ⟨0, by omega, rfl, hA⟩
      case round =>
        obtain ⟨j, hj, rfl, hR⟩ := hrel
        have HPt := Lib.hid hpt
        clear hA hlt hpt
        have hR1 := hR.res.lt
        have hRs := hR.below.size
        by_cases hjm : j < m
        · have hjl : j < fr.length := by rw [HM.out]; exact hjm
          rcases hR.words with hnil | ⟨b, o, rfl, hcells⟩
          · exfalso; rw [hnil] at hjl; simp at hjl
          have cJ := hcells j hjl
          have hxs : fr[j].length ≤ 100000000 := by
            have h1 := (split_lens HSp.out).2.2 _ (part_sizes HPt.out _ (List.getElem_mem hjl))
            have h2 : s.data.toList.length = s.size := Array.length_toList
            omega
          have HNum := rdnum_any (HG.out.below hR.below) ⟨fr[j].toArray⟩ (by simp [ByteArray.size]; omega)
          unfold RdEnd at HNum
          obtain ⟨x, hx⟩ : ∃ x, fr[j] = x := ⟨_, rfl⟩
          have HNone : Hid (numR x = none → readNd false s.data.toList = none) := fun h => rd_nonum HSp.out HKd.out (by omega) HPt.out (nums_none hjl (by rw [hx]; exact h))
          have HTake : Hid (∀ zs n, numsR (fr.take j) = some zs → numR x = some n → numsR (fr.take (j + 1)) = some (zs ++ [n])) := fun zs n h1 h2 => nums_take hjl h1 (by rw [hx]; exact h2)
          rw [hx] at cJ HNum
          have hjI : (j : Int) < m := by omega
          have HR := Lib.hid hR
          clear hx hxs hcells hjl hR
          rename World => wr2
          rcases hnum : numR x with _ | n
          · rw [show numR (⟨x.toArray⟩ : ByteArray).data.toList = none from hnum] at HNum
            simp only [Option.isSome_none] at HNum
            have HNo := Lib.hid (HNone.out hnum)
            clear hnum HNone HTake
            go_wp2_with (go_at_call 95; refine HNum.mono ?_; rintro e w2 ⟨⟨z, rfl, -⟩, hb2⟩; have hR2 := HR.out.call hb2; obtain ⟨⟨n0, n1, n2, n3⟩, f0, f1, f2, f3⟩ := hR2.res.cells; have hlt2 := hR2.res.lt; have HR2 := Lib.hid hR2; clear hR2)
            obtain ⟨⟨q0, q1, q2, q3⟩, -⟩ := ((((HR2.out.res.put0 0).put1 (.slice none 0 0)).put2 ⟨#[]⟩).put3 0).cells
            have hbE := (((HR2.out.below.setCell (p := ⟨w.heap.size, 0, none⟩) (Nat.le_refl _) (.int .i64 0)).setCell (p := ⟨w.heap.size, 1, none⟩) (Nat.le_refl _) (.slice none 0 0)).setCell (p := ⟨w.heap.size, 2, none⟩) (Nat.le_refl _) (.string ⟨#[]⟩)).setCell (p := ⟨w.heap.size, 3, none⟩) (Nat.le_refl _) (.int .i64 0)
            exact bodyPost_ret (v := .tuple #[.agg #[.int .i64 0, .slice none 0 0, .string ⟨#[]⟩, .int .i64 0], .bool false]) (by simp [results, Tryz.results56, go_sem, q0, q1, q2, q3]) rfl (HRno.out _ _ _ _ _ _ _ hbE HNo.out)
          · rw [show numR (⟨x.toArray⟩ : ByteArray).data.toList = some n from hnum] at HNum
            simp only [Option.isSome_some] at HNum
            have HTk := Lib.hid (fun zs h => HTake.out zs n h hnum)
            clear hnum HNone HTake
            have hml : m ≤ 100000000 := by rw [← HM.out]; exact HFl.out
            go_wp2_with (first | (go_at_call 95; refine HNum.mono ?_; rintro e w2 ⟨⟨z, rfl, hz⟩, hb2⟩; obtain rfl := hz n rfl; have hR2 := HR.out.call hb2; obtain ⟨v, zs, hzs, hown2, hone⟩ := hR2.one; obtain ⟨⟨n0, n1, n2, n3⟩, f0, f1, f2, f3⟩ := hone.cells; have hlt2 := hone.lt; have hap2 := hR2.apart; have hzl : zs.length ≤ 100000000 := (by have h1 := nums_len hzs; rw [List.length_take] at h1; omega); have HR2 := Lib.hid hR2; have HOn := Lib.hid hown2; have HZs := Lib.hid hzs; have HNb := Lib.hid hone; clear hR2 hz hzs hown2 hone) | (at_builtin; refine wpList_append_own_at _ rfl _ _ 41 rfl (w1.heap.size + 1) 3 i0 (.int .i64 0) 1 8 Tryz.underlying41 hi0 hz0 hz1 hz2 rfl (by decide) v zs.length (iv zs) rfl (HOn.out.alloc _) ⟨w2.heap.size, 0, none⟩ 1 1 [.int .i64 z] rfl rfl (cell_one_new _ _ _) (by intro u hu; simp at hu; subst hu; rfl) (by unfold maxLen; omega) (by omega) (by simp; omega) ?_))
            intro v' w3 hown' hgrow _ _
            obtain ⟨A', cap', rfl⟩ := own_form hown'
            obtain ⟨h3, hN⟩ := HR2.out.next HNb.out HOn.out hgrow (HTk.out zs HZs.out) hown'
            obtain ⟨⟨n0, n1, n2, n3⟩, f0, f1, f2, f3⟩ := h3.cells
            have hlt3 := h3.lt
            have HNx := Lib.hid hN
            clear hN hown' hgrow h3
            go_wp2
            exact ⟨⟨j + 1, by omega, by go_num, HNx.out⟩, by simp [intOf]; omega⟩
        · obtain rfl : j = m := by omega
          obtain ⟨v, zs, hzs, hown, hone⟩ := hR.one
          rw [List.take_of_length_le (by rw [HM.out]; exact Nat.le_refl _)] at hzs
          obtain ⟨A, cap, rfl⟩ := own_form hown
          rename World => wr2
          have hos : own.length ≤ 100000000 := by
            have h2 : s.data.toList.length = s.size := Array.length_toList
            rcases HOwn.out with h | h
            · rw [h]; simp
            · have h1 := (split_lens HSp.out).2.2 _ h
              omega
          have HHn := fun u => hasN_any k u
          have HHt := fun u => hasT_any k u
          obtain ⟨⟨n0, n1, n2, n3⟩, f0, f1, f2, f3⟩ := hone.cells
          have hlt3 := hone.lt
          have HR := Lib.hid hR
          have HOn := Lib.hid hown
          have HNb := Lib.hid hone
          have HZs := Lib.hid hzs
          have hjI : ¬ ((j : Int) < j) := by omega
          clear hR hown hone hzs hjm
          rcases hN : hasNP k with _ | _
          · rcases hT : hasTP k with _ | _
            · have HRd := Lib.hid (rd_O HSp.out HKd.out (by omega) HPt.out HZs.out hN hT)
              rw [hN] at HHn
              rw [hT] at HHt
              clear hN hT
              obtain ⟨⟨m0, m1, m2, m3⟩, g0, g1, g2, g3⟩ := HR.out.res.cells
              go_wp2_with (first | (go_at_call 88; refine (HHn _).mono ?_; rintro e w' ⟨rfl, rfl⟩) | (go_at_call 89; refine (HHt _).mono ?_; rintro e w' ⟨rfl, rfl⟩))
              obtain ⟨hnF, hbF, hoF⟩ := rn_last (base := w1.heap.size + 1) HR.out.below HR.out.res (by omega) k (.slice A zs.length cap) ⟨#[]⟩ 0
              obtain ⟨⟨q0, q1, q2, q3⟩, -⟩ := hnF.cells
              have hi := own_base (hoF _ _ _ HOn.out) (show w.heap.size ≤ w1.heap.size + 1 by omega)
              exact bodyPost_ret (v := .tuple #[.agg #[.int .i64 k, .slice A zs.length cap, .string ⟨#[]⟩, .int .i64 0], .bool true]) (by simp [results, Tryz.results56, go_sem, q0, q1, q2, q3]) rfl (HRyes.out ⟨k, zs, ByteArray.empty, 0⟩ A cap _ hbF HRd.out hi)
            · have HRd := Lib.hid (rd_T HSp.out HKd.out (by omega) HPt.out HZs.out hN hT)
              rw [hN] at HHn
              rw [hT] at HHt
              clear hN hT
              have HCl := cloneS_any ⟨own.toArray⟩ wr2 (by simp [ByteArray.size]; omega)
              go_wp2_with (first | (go_at_call 88; refine (HHn _).mono ?_; rintro e w' ⟨rfl, rfl⟩) | (go_at_call 89; refine (HHt _).mono ?_; rintro e w' ⟨rfl, rfl⟩) | (go_at_call 96; refine HCl.mono ?_; rintro e w2 ⟨rfl, hb2⟩; have hR2 := HR.out.call hb2; have hone := HNb.out.below hb2 HNb.out.lt; obtain ⟨⟨n0, n1, n2, n3⟩, f0, f1, f2, f3⟩ := hone.cells; obtain ⟨⟨m0, m1, m2, m3⟩, g0, g1, g2, g3⟩ := hR2.res.cells; have hlt2 := hR2.res.lt; have hlt4 := hone.lt; have HOn2 := Lib.hid (own_below HOn.out hb2); have HR2 := Lib.hid hR2; have HNb2 := Lib.hid hone; clear hR2 hone))
              obtain ⟨hnF, hbF, hoF⟩ := rn_last (base := w1.heap.size + 1) (HR2.out.below.setCell (p := ⟨w1.heap.size, 2, none⟩) (by simp; omega) (.string ⟨own.toArray⟩)) (HR2.out.res.other (p := ⟨w1.heap.size, 2, none⟩) _ (by simp; omega)) (by omega) k (.slice A zs.length cap) ⟨own.toArray⟩ 0
              obtain ⟨⟨q0, q1, q2, q3⟩, -⟩ := hnF.cells
              have hi := own_base (hoF _ _ _ (ownsRow_setCell_below HOn2.out (by simp) _)) (show w.heap.size ≤ w1.heap.size + 1 by omega)
              exact bodyPost_ret (v := .tuple #[.agg #[.int .i64 k, .slice A zs.length cap, .string ⟨own.toArray⟩, .int .i64 0], .bool true]) (by simp [results, Tryz.results56, go_sem, q0, q1, q2, q3]) rfl (HRyes.out ⟨k, zs, ⟨own.toArray⟩, 0⟩ A cap _ hbF HRd.out hi)
          · have hT := nt_not hN
            have HNum := rdnum_any (HG.out.below HR.out.below) ⟨own.toArray⟩ (by simp [ByteArray.size]; omega)
            unfold RdEnd at HNum
            rw [hN] at HHn
            rw [hT] at HHt
            have HRd := Lib.hid (rd_N HSp.out HKd.out (by omega) HPt.out HZs.out hN)
            clear hN hT
            rcases hnum : numR own with _ | n
            · rw [show numR (⟨own.toArray⟩ : ByteArray).data.toList = none from hnum] at HNum
              simp only [Option.isSome_none] at HNum
              rw [hnum] at HRd
              clear hnum
              go_wp2_with (first | (go_at_call 88; refine (HHn _).mono ?_; rintro e w' ⟨rfl, rfl⟩) | (go_at_call 89; refine (HHt _).mono ?_; rintro e w' ⟨rfl, rfl⟩) | (go_at_call 95; refine HNum.mono ?_; rintro e w2 ⟨⟨z, rfl, -⟩, hb2⟩; have hR2 := HR.out.call hb2; have hone := HNb.out.below hb2 HNb.out.lt; obtain ⟨⟨n0, n1, n2, n3⟩, f0, f1, f2, f3⟩ := hone.cells; obtain ⟨⟨m0, m1, m2, m3⟩, g0, g1, g2, g3⟩ := hR2.res.cells; have hlt2 := hR2.res.lt; have hlt4 := hone.lt; have HOn2 := Lib.hid (own_below HOn.out hb2); have HR2 := Lib.hid hR2; have HNb2 := Lib.hid hone; clear hR2 hone))
              obtain ⟨hnF, hbF, hoF⟩ := rn_last (base := w1.heap.size + 1) (HR2.out.below.setCell (p := ⟨w1.heap.size, 3, none⟩) (by simp; omega) (.int .i64 z)) (HR2.out.res.other (p := ⟨w1.heap.size, 3, none⟩) _ (by simp; omega)) (by omega) k (.slice A zs.length cap) ⟨#[]⟩ z
              obtain ⟨⟨q0, q1, q2, q3⟩, -⟩ := hnF.cells
              exact bodyPost_ret (v := .tuple #[.agg #[.int .i64 k, .slice A zs.length cap, .string ⟨#[]⟩, .int .i64 z], .bool false]) (by simp [results, Tryz.results56, go_sem, q0, q1, q2, q3]) rfl (HRno.out _ _ _ _ _ _ _ hbF HRd.out)
            · rw [show numR (⟨own.toArray⟩ : ByteArray).data.toList = some n from hnum] at HNum
              simp only [Option.isSome_some] at HNum
              rw [hnum] at HRd
              clear hnum
              go_wp2_with (first | (go_at_call 88; refine (HHn _).mono ?_; rintro e w' ⟨rfl, rfl⟩) | (go_at_call 89; refine (HHt _).mono ?_; rintro e w' ⟨rfl, rfl⟩) | (go_at_call 95; refine HNum.mono ?_; rintro e w2 ⟨⟨z, rfl, hz⟩, hb2⟩; obtain rfl := hz n rfl; clear hz; have hR2 := HR.out.call hb2; have hone := HNb.out.below hb2 HNb.out.lt; obtain ⟨⟨n0, n1, n2, n3⟩, f0, f1, f2, f3⟩ := hone.cells; obtain ⟨⟨m0, m1, m2, m3⟩, g0, g1, g2, g3⟩ := hR2.res.cells; have hlt2 := hR2.res.lt; have hlt4 := hone.lt; have HOn2 := Lib.hid (own_below HOn.out hb2); have HR2 := Lib.hid hR2; have HNb2 := Lib.hid hone; clear hR2 hone))
              obtain ⟨hnF, hbF, hoF⟩ := rn_last (base := w1.heap.size + 1) (HR2.out.below.setCell (p := ⟨w1.heap.size, 3, none⟩) (by simp; omega) (.int .i64 z)) (HR2.out.res.other (p := ⟨w1.heap.size, 3, none⟩) _ (by simp; omega)) (by omega) k (.slice A zs.length cap) ⟨#[]⟩ z
              obtain ⟨⟨q0, q1, q2, q3⟩, -⟩ := hnF.cells
              have hi := own_base (hoF _ _ _ (ownsRow_setCell_below HOn2.out (by simp) _)) (show w.heap.size ≤ w1.heap.size + 1 by omega)
              exact bodyPost_ret (v := .tuple #[.agg #[.int .i64 k, .slice A zs.length cap, .string ⟨#[]⟩, .int .i64 z], .bool true]) (by simp [results, Tryz.results56, go_sem, q0, q1, q2, q3]) rfl (HRyes.out ⟨k, zs, ByteArray.empty, z⟩ A cap _ hbF HRd.out hi)
    · obtain ⟨⟨n0, n1, n2, n3⟩, f0, f1, f2, f3⟩ := hA.res.cells
      obtain ⟨⟨q0, q1, q2, q3⟩, -⟩ := ((((hA.res.put0 0).put1 (.slice none 0 0)).put2 ⟨#[]⟩).put3 0).cells
      have hbE := (((hA.below.setCell (p := ⟨w.heap.size, 0, none⟩) (Nat.le_refl _) (.int .i64 0)).setCell (p := ⟨w.heap.size, 1, none⟩) (Nat.le_refl _) (.slice none 0 0)).setCell (p := ⟨w.heap.size, 2, none⟩) (Nat.le_refl _) (.string ⟨#[]⟩)).setCell (p := ⟨w.heap.size, 3, none⟩) (Nat.le_refl _) (.int .i64 0)
      have HN := Lib.hid (rd_nopart HSp.out HKd.out (by omega) hpt)
      clear hpt hA
      go_wp2_with fail
      exact bodyPost_ret (v := .tuple #[.agg #[.int .i64 0, .slice none 0 0, .string ⟨#[]⟩, .int .i64 0], .bool false]) (by simp [results, Tryz.results56, go_sem, q0, q1, q2, q3]) rfl (HRno.out _ _ _ _ _ _ _ hbE HN.out))
end Go.Proofs.YthadeccnibnioaaGreatDoor
