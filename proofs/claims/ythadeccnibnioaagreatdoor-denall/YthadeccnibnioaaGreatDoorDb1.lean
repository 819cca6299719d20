/- The document's Apply. -/
import Derived.Test.YthadeccnibnioaaGreatDoorDb0
import Derived.Deep.DeepCutAuto
import Derived.Laws.Concat
namespace Go.Proofs.YthadeccnibnioaaGreatDoor
open Go.RowKit
set_option linter.unusedVariables false
set_option maxRecDepth 100000 in
set_option maxHeartbeats 8000000 in
theorem dapply_f {w : World} (nd : Nd) (fa : Option Addr) (fc : Nat) (st : Hd) (r : Rc) (input : Int) (hr : RcOk r) (hs : HdOk st) (hin : 0 ≤ input ∧ input < 100) (hn : nd.n ≤ 1000) :
    Calls Tryz.prog 98 #[ndV nd fa fc, hdV st, .bool false, rcV r, .int .i64 input] w fun e w' => ∃ A cap, e = .returned (.tuple #[.slice A (docA nd st false r input).1.length cap, hdV (docA nd st false r input).2.1, .bool (docA nd st false r input).2.2]) ∧ RrAt w' (.slice A (docA nd st false r input).1.length cap) (docA nd st false r input).1 ∧ Below w.heap.size w w' := by
  obtain ⟨D, hD⟩ : ∃ D, D = docA nd st false r input := ⟨_, rfl⟩
  rw [← hD]
  have HD := Lib.hid hD
  clear hD
  have hnum := hr.num
  have hkey := hr.key
  have hsa := hs.a
  have hsb := hs.b
  clear hr hs
  obtain ⟨hn0, hk0, ha0, hb0⟩ := st
  simp only at hsa hsb
  have HE : ∀ (u : World) (k : Int), Rng k → Calls Tryz.prog 133 #[.string nd.tx, .int .i64 r.num, .int .i64 k] u fun e w' => e = .returned (.int .i64 (valP nd.tx r.num k)) ∧ Below u.heap.size u w' := fun u k hk => deval_any nd.tx hnum hk u
  have HF := Lib.hid (show Fa w (((((w.alloc (.cells #[.int .i64 nd.k, .slice fa nd.fs.length fc, .string nd.tx, .int .i64 nd.n] 52)).alloc (.cells #[.int .i64 hn0, .string hk0, .int .i64 ha0, .int .i64 hb0] 162)).alloc (.cells #[.string r.key, .int .i64 r.num, .int .i64 r.time] 164)).alloc (.cells #[.int .i64 0, .string ⟨#[]⟩, .int .i64 0, .int .i64 0] 162)).alloc (.cells #[.string r.key, .int .i64 r.num, .int .i64 r.time] 164)) nd fa fc r r from by
    refine ⟨(((((Below.refl _ _).alloc (Nat.le_refl _) _).alloc (by simp) _).alloc (by simp; omega) _).alloc (by simp; omega) _).alloc (by simp; omega) _, ?_, ?_, ?_, ?_⟩
    · rw [Below.heap_alloc _ _ _ (by simp; omega), Below.heap_alloc _ _ _ (by simp; omega), Below.heap_alloc _ _ _ (by simp; omega), Below.heap_alloc _ _ _ (by simp)]; exact at_new _ _ _ rfl
    · rw [Below.heap_alloc _ _ _ (by simp), Below.heap_alloc _ _ _ (by simp)]; exact at_new _ _ _ (by simp)
    · rw [Below.heap_alloc _ _ _ (by simp)]; exact at_new _ _ _ (by simp)
    · exact at_new _ _ _ (by simp))
  have HG := Lib.hid hin
  clear hin
  obtain ⟨kk, fs, tx, nn⟩ := nd
  obtain ⟨key, num, time⟩ := r
  simp only [ndV, hdV, rcV] at *
  have rng0 : Rng 0 := by unfold Rng; omega
  go_enter Tryz.func98, Tryz.ntmps98
  go_upto_region 9 with fail
  go_cut [32] (fun t wc => t = .int .i64 kk ∧ Hid (Fa w wc ⟨kk, fs, tx, nn⟩ fa fc ⟨key, num, time⟩ ⟨key, num, time⟩))
  case first =>
    go_wp2_with fail
    go_meet
    case rel => exact ⟨rfl, HF⟩
  case rest =>
    obtain ⟨rfl, hF⟩ := hcut
    rename World => u
    clear HF
    apply_assumption
    go_cut [2, 13, 14, 16] (fun v2 v13 v14 v16 wc => ∃ (h' : Bool) (a' b' m' : Int) (o' : Rc), v2 = .bool h' ∧ v13 = .int .i64 a' ∧ v14 = .int .i64 b' ∧ v16 = .int .i64 m' ∧ m' ≤ 1000 ∧ o'.key.size ≤ 1000 ∧ Hid (D = endD ⟨key, num, time⟩ o' m' a' b' h') ∧ Hid (Fa w wc ⟨kk, fs, tx, nn⟩ fa fc ⟨key, num, time⟩ o'))
    case first =>
      by_cases h2 : kk = 2
      · subst h2
        as_aux_lemma =>
          obtain ⟨c0, c1, c2, c3, c4, c5, c6⟩ := hF.out.cells
          obtain ⟨f0, -⟩ := hF.out.frz 0
          obtain ⟨f1, -⟩ := hF.out.frz 1
          simp only at c0 c1 c2 c3 c4 c5 c6
          have hlt := hF.out.lt
          have HE1 := HE u 0 rng0
          go_wp2_with (go_at_call 133; refine HE1.mono ?_; rintro e u2 ⟨rfl, hb⟩; refine Hid.out ?_)
          refine Lib.hid ?_
          have hF2 := hF.out.keep hb
          obtain ⟨d0, d1, d2, d3, d4, d5, d6⟩ := hF2.cells
          obtain ⟨g0, -⟩ := hF2.frz 0
          obtain ⟨g1, -⟩ := hF2.frz 1
          simp only at d0 d1 d2 d3 d4 d5 d6
          have hlt2 := hF2.lt
          generalize hx : valP tx num 0 = x at *
          have HX := Lib.hid hx
          clear hx
          have hF3 := Lib.hid (hF2.set 1 (.int .i64 x) ⟨key, x, time⟩ rfl)
          clear hF2 hb HE1
          go_wp2_with fail
          go_meet
          case rel => exact ⟨false, 0, 0, 1, ⟨key, x, time⟩, rfl, rfl, rfl, by first | rfl | simp, by omega, by simp only; omega, Lib.hid (by rw [HD.out]; simp [docA, endD , HX.out]), hF3⟩
      have e2 : (kk == 2) = false := by simpa using h2
      by_cases h3 : kk = 3
      · subst h3
        as_aux_lemma =>
          obtain ⟨c0, c1, c2, c3, c4, c5, c6⟩ := hF.out.cells
          obtain ⟨f0, -⟩ := hF.out.frz 0
          obtain ⟨f1, -⟩ := hF.out.frz 1
          simp only at c0 c1 c2 c3 c4 c5 c6
          have hlt := hF.out.lt
          by_cases hx : valP tx num 0 = 0
          · have HX := Lib.hid hx
            have HE1 := HE u 0 rng0
            rw [hx] at HE1
            clear hx
            go_wp2_with (go_at_call 133; refine HE1.mono ?_; rintro e u2 ⟨rfl, hb⟩; refine Hid.out ?_)
            refine Lib.hid ?_
            have hF2 := hF.out.keep hb
            have hF3 := Lib.hid hF2
            clear hF2 hb HE1
            go_wp2_with fail
            go_meet
            case rel => exact ⟨false, 0, 0, 0, ⟨key, num, time⟩, rfl, rfl, rfl, by first | rfl | simp, by omega, by simp only; omega, Lib.hid (by rw [HD.out]; simp [docA, endD , HX.out]), hF3⟩
          · have HX := Lib.hid hx
            have HE1 := HE u 0 rng0
            go_wp2_with (go_at_call 133; refine HE1.mono ?_; rintro e u2 ⟨rfl, hb⟩; refine Hid.out ?_)
            refine Lib.hid ?_
            have hF2 := hF.out.keep hb
            generalize hy : valP tx num 0 = x at *
            have HY := Lib.hid hy
            have hx' : (x == 0) = false := by simpa using hx
            have hF3 := Lib.hid hF2
            clear hF2 hb HE1 hy
            go_wp2_with fail
            go_meet
            case rel => exact ⟨false, 0, 0, 1, ⟨key, num, time⟩, rfl, rfl, rfl, by first | rfl | simp, by omega, by simp only; omega, Lib.hid (by rw [HD.out]; simp [docA, endD , HY.out, HX.out]), hF3⟩
      have e3 : (kk == 3) = false := by simpa using h3
      by_cases h4 : kk = 4
      · subst h4
        as_aux_lemma =>
          obtain ⟨c0, c1, c2, c3, c4, c5, c6⟩ := hF.out.cells
          obtain ⟨f0, -⟩ := hF.out.frz 0
          obtain ⟨f1, -⟩ := hF.out.frz 1
          simp only at c0 c1 c2 c3 c4 c5 c6
          have hlt := hF.out.lt
          have hxr := rng_val tx hnum rng0
          have HE1 := HE u 0 rng0
          go_wp2_with (go_at_call 133; refine HE1.mono ?_; rintro e u2 ⟨rfl, hb⟩; refine Hid.out ?_)
          refine Lib.hid ?_
          have hF2 := hF.out.keep hb
          obtain ⟨d0, d1, d2, d3, d4, d5, d6⟩ := hF2.cells
          obtain ⟨g0, -⟩ := hF2.frz 0
          obtain ⟨g1, -⟩ := hF2.frz 1
          simp only at d0 d1 d2 d3 d4 d5 d6
          have hlt2 := hF2.lt
          generalize hx : valP tx num 0 = x at *
          have HX := Lib.hid hx
          have HDg := digs_any u2 x hxr.1 hxr.2
          have hds := itoB_size hxr.1 hxr.2
          generalize hy : itoB x = ds at *
          have HY := Lib.hid hy
          have o1 : (⟨#[47]⟩ : ByteArray).size = 1 := rfl
          have q1 := fun W => run_string_add_sum (P := Tryz.prog) W key ⟨#[47]⟩ (by omega)
          have q2 := fun W => run_string_add_sum (P := Tryz.prog) W (key ++ ⟨#[47]⟩) ds (by rw [ByteArray.size_append]; omega)
          have hks : (key ++ ⟨#[47]⟩ ++ ds).size ≤ 1000 := by rw [ByteArray.size_append, ByteArray.size_append]; omega
          clear hx hy HE1 o1
          go_wp2_with (go_at_call 34; refine HDg.mono ?_; rintro e u3 ⟨rfl, hb3⟩; refine Hid.out ?_)
          refine Lib.hid ?_
          have hF4 := hF2.keep hb3
          obtain ⟨k0, k1, k2, k3, k4, k5, k6⟩ := hF4.cells
          obtain ⟨l0, -⟩ := hF4.frz 0
          have hlt4 := hF4.lt
          simp only at k0 k1 k2 k3 k4 k5 k6
          have hF3 := Lib.hid (hF4.set 0 (.string (key ++ ⟨#[47]⟩ ++ ds)) ⟨key ++ ⟨#[47]⟩ ++ ds, num, time⟩ rfl)
          clear hF2 hF4 hb hb3 HDg
          go_wp2_with fail
          go_meet
          case rel => exact ⟨false, 0, 0, 1, ⟨key ++ ⟨#[47]⟩ ++ ds, num, time⟩, rfl, rfl, rfl, by first | rfl | simp, by omega, hks, Lib.hid (by rw [HD.out]; simp [docA, endD , HX.out, HY.out, ByteArray.append_assoc]), hF3⟩
      have e4 : (kk == 4) = false := by simpa using h4
      by_cases h5 : kk = 5
      · subst h5
        as_aux_lemma =>
          obtain ⟨c0, c1, c2, c3, c4, c5, c6⟩ := hF.out.cells
          obtain ⟨f0, -⟩ := hF.out.frz 0
          obtain ⟨f1, -⟩ := hF.out.frz 1
          simp only at c0 c1 c2 c3 c4 c5 c6
          have hlt := hF.out.lt
          go_wp2_with fail
          go_meet
          case rel => exact ⟨false, 0, 0, nn, ⟨key, num, time⟩, rfl, rfl, rfl, by first | rfl | simp, by omega, by simp only; omega, Lib.hid (by rw [HD.out]; simp [docA, endD ]), hF⟩
      have e5 : (kk == 5) = false := by simpa using h5
      by_cases h6 : kk = 6
      · subst h6
        as_aux_lemma =>
          obtain ⟨c0, c1, c2, c3, c4, c5, c6⟩ := hF.out.cells
          obtain ⟨f0, -⟩ := hF.out.frz 0
          obtain ⟨f1, -⟩ := hF.out.frz 1
          simp only at c0 c1 c2 c3 c4 c5 c6
          have hlt := hF.out.lt
          have hin := HG.out
          have HDg := digs_any u input (by omega) (by omega)
          have hds := itoB_size (n := input) (by omega) (by omega)
          generalize hy : itoB input = ds at *
          have HY := Lib.hid hy
          have o1 : (⟨#[58]⟩ : ByteArray).size = 1 := rfl
          have q1 := fun W => run_string_add_sum (P := Tryz.prog) W ds ⟨#[58]⟩ (by omega)
          have q2 := fun W => run_string_add_sum (P := Tryz.prog) W (ds ++ ⟨#[58]⟩) key (by rw [ByteArray.size_append]; omega)
          have hks : (ds ++ ⟨#[58]⟩ ++ key).size ≤ 1000 := by rw [ByteArray.size_append, ByteArray.size_append]; omega
          clear hy o1 hin
          go_wp2_with (go_at_call 34; refine HDg.mono ?_; rintro e u2 ⟨rfl, hb⟩; refine Hid.out ?_)
          refine Lib.hid ?_
          have hF2 := hF.out.keep hb
          obtain ⟨d0, d1, d2, d3, d4, d5, d6⟩ := hF2.cells
          obtain ⟨g0, -⟩ := hF2.frz 0
          obtain ⟨g1, -⟩ := hF2.frz 1
          simp only at d0 d1 d2 d3 d4 d5 d6
          have hlt2 := hF2.lt
          have hF3 := Lib.hid (hF2.set 0 (.string (ds ++ ⟨#[58]⟩ ++ key)) ⟨ds ++ ⟨#[58]⟩ ++ key, num, time⟩ rfl)
          clear hF2 hb HDg
          go_wp2_with fail
          go_meet
          case rel => exact ⟨false, 0, 0, 1, ⟨ds ++ ⟨#[58]⟩ ++ key, num, time⟩, rfl, rfl, rfl, by first | rfl | simp, by omega, hks, Lib.hid (by rw [HD.out]; simp [docA, endD , HY.out]), hF3⟩
      have e6 : (kk == 6) = false := by simpa using h6
      by_cases h7 : kk = 7
      · subst h7
        as_aux_lemma =>
          obtain ⟨c0, c1, c2, c3, c4, c5, c6⟩ := hF.out.cells
          obtain ⟨f0, -⟩ := hF.out.frz 0
          obtain ⟨f1, -⟩ := hF.out.frz 1
          simp only at c0 c1 c2 c3 c4 c5 c6
          have hlt := hF.out.lt
          have HE1 := HE u 0 rng0
          go_wp2_with (go_at_call 133; refine HE1.mono ?_; rintro e u2 ⟨rfl, hb⟩; refine Hid.out ?_)
          refine Lib.hid ?_
          have hF2 := hF.out.keep hb
          obtain ⟨d0, d1, d2, d3, d4, d5, d6⟩ := hF2.cells
          obtain ⟨g0, -⟩ := hF2.frz 0
          obtain ⟨g1, -⟩ := hF2.frz 1
          simp only at d0 d1 d2 d3 d4 d5 d6
          have hlt2 := hF2.lt
          generalize hx : valP tx num 0 = x at *
          have HX := Lib.hid hx
          clear hx
          have hF3 := Lib.hid (hF2.set 1 (.int .i64 x) ⟨key, x, time⟩ rfl)
          clear hF2 hb HE1
          go_wp2_with fail
          go_meet
          case rel => exact ⟨true, x, 0, 1, ⟨key, x, time⟩, rfl, rfl, rfl, by first | rfl | simp, by omega, by simp only; omega, Lib.hid (by rw [HD.out]; simp [docA, endD , HX.out]), hF3⟩
      have e7 : (kk == 7) = false := by simpa using h7
      by_cases h8 : kk = 8
      · subst h8
        as_aux_lemma =>
          obtain ⟨c0, c1, c2, c3, c4, c5, c6⟩ := hF.out.cells
          obtain ⟨f0, -⟩ := hF.out.frz 0
          obtain ⟨f1, -⟩ := hF.out.frz 1
          simp only at c0 c1 c2 c3 c4 c5 c6
          have hlt := hF.out.lt
          have e2' : wrap64 num = num := by rw [wr_eq]; exact wr_rng hnum
          have HX := Lib.hid (show wr 1 = 1 from wr_rng (by unfold Rng; omega))
          have HY := Lib.hid (show wr num = num from wr_rng hnum)
          by_cases hlt8 : 1 < nn
          · have HL8 := Lib.hid hlt8
            go_wp2_with fail
            go_meet
            case rel => exact ⟨true, 1, num, 0, ⟨key, num, time⟩, rfl, by first | rfl | rw [e1'], by first | rfl | rw [e2'], by first | rfl | simp, by omega, by simp only; omega, Lib.hid (by rw [HD.out]; simp [docA, endD , HX.out, HY.out, show 1 < nn from by have := HL8.out; omega]), hF⟩
          · have HL8 := Lib.hid hlt8
            have hF3 := Lib.hid (hF.out.set 1 (.int .i64 num) ⟨key, num, time⟩ rfl)
            go_wp2_with fail
            go_meet
            case rel => exact ⟨true, 0, 0, 1, ⟨key, num, time⟩, rfl, by first | rfl | rw [e1'], by first | rfl | rw [e2'], by first | rfl | simp, by omega, by simp only; omega, Lib.hid (by rw [HD.out]; simp [docA, endD , HX.out, HY.out, show ¬ 1 < nn from by have := HL8.out; omega]), hF3⟩
      have e8 : (kk == 8) = false := by simpa using h8
      by_cases h9 : kk = 9
      · subst h9
        as_aux_lemma =>
          obtain ⟨c0, c1, c2, c3, c4, c5, c6⟩ := hF.out.cells
          obtain ⟨f0, -⟩ := hF.out.frz 0
          obtain ⟨f1, -⟩ := hF.out.frz 1
          simp only at c0 c1 c2 c3 c4 c5 c6
          have hlt := hF.out.lt
          go_wp2_with fail
          go_meet
          case rel => exact ⟨true, 1, 0, 1, ⟨key, num, time⟩, rfl, rfl, rfl, by first | rfl | simp, by omega, by simp only; omega, Lib.hid (by rw [HD.out]; simp [docA, endD ]), hF⟩
      have e9 : (kk == 9) = false := by simpa using h9
      as_aux_lemma =>
        obtain ⟨c0, c1, c2, c3, c4, c5, c6⟩ := hF.out.cells
        obtain ⟨f0, -⟩ := hF.out.frz 0
        obtain ⟨f1, -⟩ := hF.out.frz 1
        simp only at c0 c1 c2 c3 c4 c5 c6
        have hlt := hF.out.lt
        go_wp2_with fail
        go_meet
        case rel => exact ⟨false, 0, 0, 1, ⟨key, num, time⟩, rfl, rfl, rfl, by first | rfl | simp, by omega, by simp only; omega, Lib.hid (by rw [HD.out]; simp [docA, endD , h2, h3, h4, h5, h6, h7, h8, h9]), hF⟩
    case rest =>
      as_aux_lemma =>
        obtain ⟨h', a', b', m', o', rfl, rfl, rfl, rfl, hm, hks, hD, hF⟩ := hcut
        rename World => u
        apply_assumption
        clear HD HE HG
        go_wp2_with fail
        by_cases hk4 : o'.key.size ≤ 40
        · have q4 : ((o'.key.size : Nat) : Int) ≤ 40 := by omega
          go_loopw [21, 22] (fun v i wr => ∃ (j : Nat) (A : Option Addr) (c : Nat), j ≤ m'.toNat ∧ i = .int .i64 j ∧ v = .slice A j c ∧ Hid (RrAt wr (.slice A j c) (List.replicate j o') ∧ (∀ b, Value.ownBlock (.slice A j c) = some b → w.heap.size + 1 + 1 + 1 + 1 < b) ∧ Fa w wr ⟨kk, fs, tx, nn⟩ fa fc ⟨key, num, time⟩ o')) (fun _ i _ => m'.toNat - (intOf i).toNat)
          case atStart => exact ⟨0, none, 0, by omega, rfl, rfl, Lib.hid ⟨RwAt.nil _ _ _, fun b hb => by simp [Value.ownBlock] at hb, hF.out⟩⟩
          case round =>
            obtain ⟨j, A1, c1, hj, rfl, rfl, hY⟩ := hrel
            rename World => wl
            obtain ⟨c0, -, -, -, c4, c5, c6⟩ := hY.out.2.2.cells
            by_cases hlt : (j : Int) < m'
            · have hrl : (List.replicate j o').length = j := by simp
              obtain ⟨hR, hO, hFl⟩ := hY.out
              have hltF := hFl.lt
              have hba : Below wl.heap.size wl (wl.alloc (.cells #[.string o'.key, .int .i64 o'.num, .int .i64 o'.time] 164)) := (Below.refl _ _).alloc (Nat.le_refl _) _
              obtain ⟨A2, c2, w2, hrun, hown, hgr, hat⟩ := rr_app (l := List.replicate j o') (m := [o']) (hR.keep hba) (src_one (g := wl.heap.size) (heap_alloc_new wl _)) (by rw [hrl]; simp; omega)
              simp only [hrl, List.length_singleton] at hrun hown hat
              have hre : List.replicate j o' ++ [o'] = List.replicate (j + 1) o' := by rw [List.replicate_succ']
              rw [hre] at hown
              have hFa := hFl.keep hba
              have hsz : wl.heap.size ≤ w2.heap.size := Nat.le_trans hba.size hgr.size
              have hkp : ∀ k, k ≤ w.heap.size + 1 + 1 + 1 + 1 → w2.heap[k]? = (wl.alloc (.cells #[.string o'.key, .int .i64 o'.num, .int .i64 o'.time] 164)).heap[k]? := fun k hk => hgr.block k (by simp; omega) (fun e => by have := hO k e.symm; omega)
              have hFb : Fa w w2 ⟨kk, fs, tx, nn⟩ fa fc ⟨key, num, time⟩ o' := ⟨⟨hgr.os.trans hFa.b.os, hgr.tape.trans hFa.b.tape, hgr.output.trans hFa.b.output, Nat.le_trans hFa.b.size hgr.size, fun k hk => (hkp k (by omega)).trans (hFa.b.block k hk)⟩, (hkp _ (by omega)).trans hFa.n, (hkp _ (by omega)).trans hFa.r, (hkp _ (by omega)).trans hFa.z, (hkp _ (by omega)).trans hFa.o⟩
              have HE9 := Lib.hid (show RrAt w2 (.slice A2 (j + 1) c2) (List.replicate (j + 1) o') ∧ (∀ b, Value.ownBlock (.slice A2 (j + 1) c2) = some b → w.heap.size + 1 + 1 + 1 + 1 < b) ∧ Fa w w2 ⟨kk, fs, tx, nn⟩ fa fc ⟨key, num, time⟩ o' from ⟨hown, fun b hb => by
                rcases hat b hb with e | e
                · exact hO b e
                · have := hba.size; omega, hFb⟩)
              have HR := Lib.hid hrun
              clear hrun hown hgr hat hre hFa hFb hkp hFl hO hR hrl hba hsz hY
              go_wp2_with (at_builtin; refine wpList_append_run (by rfl) _ _ _ (by rfl) _ _ _ _ (by rfl) (by rfl) (by exact HR.out) ?_)
              exact ⟨⟨j + 1, A2, c2, by omega, by go_num, rfl, HE9⟩, by simp [intOf]; omega⟩
            · have hjm' : j = m'.toNat := by omega
              have hjm := Lib.hid hjm'
              clear hjm'
              have hz := hY.out.2.2.z
              have hltF := hY.out.2.2.lt
              have z0 : wl.cell? ⟨w.heap.size + 1 + 1 + 1, 0, none⟩ = some (.int .i64 0) := by simp [World.cell?, hz]
              have z1 : wl.cell? ⟨w.heap.size + 1 + 1 + 1, 1, none⟩ = some (.string ⟨#[]⟩) := by simp [World.cell?, hz]
              have z2 : wl.cell? ⟨w.heap.size + 1 + 1 + 1, 2, none⟩ = some (.int .i64 0) := by simp [World.cell?, hz]
              have z3 : wl.cell? ⟨w.heap.size + 1 + 1 + 1, 3, none⟩ = some (.int .i64 0) := by simp [World.cell?, hz]
              have y0 := (hY.out.2.2.frz 0).2
              have y1 := (hY.out.2.2.frz 1).2
              have y2 := (hY.out.2.2.frz 2).2
              have y3 := (hY.out.2.2.frz 3).2
              have HX := Lib.hid (show D.1 = List.replicate j o' from by rw [hD.out, hjm.out]; simp [endD, hk4])
              have HDL := Lib.hid (show ∀ (w' : World), (∀ k, k ≠ w.heap.size + 1 + 1 + 1 → w'.heap[k]? = wl.heap[k]?) → w'.heap.size = wl.heap.size → w'.os = wl.os → w'.tape = wl.tape → w'.output = wl.output → RrAt w' (.slice A1 D.1.length c1) D.1 ∧ Below w.heap.size w w' from fun w' h1 h2 h3 h4 h5 => by
                rw [HX.out]
                have hr9 : (List.replicate j o').length = j := by simp
                obtain ⟨hR, hO, hFl⟩ := hY.out
                refine ⟨?_, ⟨h3.trans hFl.b.os, h4.trans hFl.b.tape, h5.trans hFl.b.output, by have := hFl.b.size; omega, fun k hk => (h1 k (by omega)).trans (hFl.b.block k hk)⟩⟩
                rw [hr9]
                exact RwAt.block (w := wl) hR (fun b hb => h1 b (by have := hO b hb; omega)))
              cases h' with
              | false =>
                have HT := Lib.hid (show D.2.1 = hd0 ∧ D.2.2 = false ∧ D.1.length = j from ⟨by rw [hD.out]; rfl, by rw [hD.out]; rfl, by rw [HX.out]; simp⟩)
                clear hz hD HX hY hF
                have HQ := Lib.hid (HDL.out ((((wl.setCell ⟨w.heap.size + 1 + 1 + 1, 0, none⟩ (.int .i64 0)).setCell ⟨w.heap.size + 1 + 1 + 1, 1, none⟩ (.string ⟨#[]⟩)).setCell ⟨w.heap.size + 1 + 1 + 1, 2, none⟩ (.int .i64 0)).setCell ⟨w.heap.size + 1 + 1 + 1, 3, none⟩ (.int .i64 0)) (fun k hk => by rw [Below.heap_setCell _ _ _ _ hk, Below.heap_setCell _ _ _ _ hk, Below.heap_setCell _ _ _ _ hk, Below.heap_setCell _ _ _ _ hk]) (by simp) rfl rfl rfl)
                clear HDL
                go_wp2_with fail
                exact bodyPost_ret (v := .tuple #[.slice A1 j c1, .agg #[.int .i64 0, .string ⟨#[]⟩, .int .i64 0, .int .i64 0], .bool false]) (by simp [results, Tryz.results98, go_sem, z0, z1, z2, z3]) rfl ⟨A1, c1, by rw [HT.out.1, HT.out.2.1, HT.out.2.2]; rfl, HQ.out⟩
              | true =>
                have HT := Lib.hid (show D.2.1 = ⟨0, key, a', b'⟩ ∧ D.2.2 = true ∧ D.1.length = j from ⟨by rw [hD.out]; rfl, by rw [hD.out]; rfl, by rw [HX.out]; simp⟩)
                clear hz hD HX hY hF
                have HQ := Lib.hid (HDL.out ((((wl.setCell ⟨w.heap.size + 1 + 1 + 1, 0, none⟩ (.int .i64 0)).setCell ⟨w.heap.size + 1 + 1 + 1, 1, none⟩ (.string key)).setCell ⟨w.heap.size + 1 + 1 + 1, 2, none⟩ (.int .i64 a')).setCell ⟨w.heap.size + 1 + 1 + 1, 3, none⟩ (.int .i64 b')) (fun k hk => by rw [Below.heap_setCell _ _ _ _ hk, Below.heap_setCell _ _ _ _ hk, Below.heap_setCell _ _ _ _ hk, Below.heap_setCell _ _ _ _ hk]) (by simp) rfl rfl rfl)
                clear HDL
                go_wp2_with fail
                exact bodyPost_ret (v := .tuple #[.slice A1 j c1, .agg #[.int .i64 0, .string key, .int .i64 a', .int .i64 b'], .bool true]) (by simp [results, Tryz.results98, go_sem, z0, z1, z2, z3]) rfl ⟨A1, c1, by rw [HT.out.1, HT.out.2.1, HT.out.2.2], HQ.out⟩
        · have q4 : ¬ ((o'.key.size : Nat) : Int) ≤ 40 := by omega
          go_loopw [21, 22] (fun v i wr => v = .slice none 0 0 ∧ i = .int .i64 0 ∧ Hid (Fa w wr ⟨kk, fs, tx, nn⟩ fa fc ⟨key, num, time⟩ o')) (fun _ _ _ => 0)
          case atStart => exact ⟨rfl, rfl, hF⟩
          case round =>
            obtain ⟨rfl, rfl, hY⟩ := hrel
            rename World => wl
            obtain ⟨c0, -, -, -, c4, c5, c6⟩ := hY.out.cells
            by_cases hlt : (0 : Int) < m'
            · have hz := hY.out.z
              have hltF := hY.out.lt
              have z0 : wl.cell? ⟨w.heap.size + 1 + 1 + 1, 0, none⟩ = some (.int .i64 0) := by simp [World.cell?, hz]
              have z1 : wl.cell? ⟨w.heap.size + 1 + 1 + 1, 1, none⟩ = some (.string ⟨#[]⟩) := by simp [World.cell?, hz]
              have z2 : wl.cell? ⟨w.heap.size + 1 + 1 + 1, 2, none⟩ = some (.int .i64 0) := by simp [World.cell?, hz]
              have z3 : wl.cell? ⟨w.heap.size + 1 + 1 + 1, 3, none⟩ = some (.int .i64 0) := by simp [World.cell?, hz]
              have y0 := (hY.out.frz 0).2
              have y1 := (hY.out.frz 1).2
              have y2 := (hY.out.frz 2).2
              have y3 := (hY.out.frz 3).2
              have HX := Lib.hid (show D.1 = ([] : List Rc) from by rw [hD.out]; simp [endD, hk4])
              have HDL := Lib.hid (show ∀ (w' : World), (∀ k, k ≠ w.heap.size + 1 + 1 + 1 → w'.heap[k]? = wl.heap[k]?) → w'.heap.size = wl.heap.size → w'.os = wl.os → w'.tape = wl.tape → w'.output = wl.output → RrAt w' (.slice none D.1.length 0) D.1 ∧ Below w.heap.size w w' from fun w' h1 h2 h3 h4 h5 => by
                rw [HX.out]
                obtain hFl := hY.out
                exact ⟨RwAt.nil _ _ _, ⟨h3.trans hFl.b.os, h4.trans hFl.b.tape, h5.trans hFl.b.output, by have := hFl.b.size; omega, fun k hk => (h1 k (by omega)).trans (hFl.b.block k hk)⟩⟩)
              cases h' with
              | false =>
                have HT := Lib.hid (show D.2.1 = hd0 ∧ D.2.2 = false ∧ D.1.length = 0 from ⟨by rw [hD.out]; rfl, by rw [hD.out]; rfl, by rw [HX.out]; rfl⟩)
                clear hz hD HX hY hF
                have HQ := Lib.hid (HDL.out ((((wl.setCell ⟨w.heap.size + 1 + 1 + 1, 0, none⟩ (.int .i64 0)).setCell ⟨w.heap.size + 1 + 1 + 1, 1, none⟩ (.string ⟨#[]⟩)).setCell ⟨w.heap.size + 1 + 1 + 1, 2, none⟩ (.int .i64 0)).setCell ⟨w.heap.size + 1 + 1 + 1, 3, none⟩ (.int .i64 0)) (fun k hk => by rw [Below.heap_setCell _ _ _ _ hk, Below.heap_setCell _ _ _ _ hk, Below.heap_setCell _ _ _ _ hk, Below.heap_setCell _ _ _ _ hk]) (by simp) rfl rfl rfl)
                clear HDL
                go_wp2_with fail
                exact bodyPost_ret (v := .tuple #[.slice none 0 0, .agg #[.int .i64 0, .string ⟨#[]⟩, .int .i64 0, .int .i64 0], .bool false]) (by simp [results, Tryz.results98, go_sem, z0, z1, z2, z3]) rfl ⟨none, 0, by rw [HT.out.1, HT.out.2.1, HT.out.2.2]; rfl, HQ.out⟩
              | true =>
                have HT := Lib.hid (show D.2.1 = ⟨0, key, a', b'⟩ ∧ D.2.2 = true ∧ D.1.length = 0 from ⟨by rw [hD.out]; rfl, by rw [hD.out]; rfl, by rw [HX.out]; rfl⟩)
                clear hz hD HX hY hF
                have HQ := Lib.hid (HDL.out ((((wl.setCell ⟨w.heap.size + 1 + 1 + 1, 0, none⟩ (.int .i64 0)).setCell ⟨w.heap.size + 1 + 1 + 1, 1, none⟩ (.string key)).setCell ⟨w.heap.size + 1 + 1 + 1, 2, none⟩ (.int .i64 a')).setCell ⟨w.heap.size + 1 + 1 + 1, 3, none⟩ (.int .i64 b')) (fun k hk => by rw [Below.heap_setCell _ _ _ _ hk, Below.heap_setCell _ _ _ _ hk, Below.heap_setCell _ _ _ _ hk, Below.heap_setCell _ _ _ _ hk]) (by simp) rfl rfl rfl)
                clear HDL
                go_wp2_with fail
                exact bodyPost_ret (v := .tuple #[.slice none 0 0, .agg #[.int .i64 0, .string key, .int .i64 a', .int .i64 b'], .bool true]) (by simp [results, Tryz.results98, go_sem, z0, z1, z2, z3]) rfl ⟨none, 0, by rw [HT.out.1, HT.out.2.1, HT.out.2.2], HQ.out⟩
            · have hz := hY.out.z
              have hltF := hY.out.lt
              have z0 : wl.cell? ⟨w.heap.size + 1 + 1 + 1, 0, none⟩ = some (.int .i64 0) := by simp [World.cell?, hz]
              have z1 : wl.cell? ⟨w.heap.size + 1 + 1 + 1, 1, none⟩ = some (.string ⟨#[]⟩) := by simp [World.cell?, hz]
              have z2 : wl.cell? ⟨w.heap.size + 1 + 1 + 1, 2, none⟩ = some (.int .i64 0) := by simp [World.cell?, hz]
              have z3 : wl.cell? ⟨w.heap.size + 1 + 1 + 1, 3, none⟩ = some (.int .i64 0) := by simp [World.cell?, hz]
              have y0 := (hY.out.frz 0).2
              have y1 := (hY.out.frz 1).2
              have y2 := (hY.out.frz 2).2
              have y3 := (hY.out.frz 3).2
              have HX := Lib.hid (show D.1 = ([] : List Rc) from by rw [hD.out]; simp [endD, hk4])
              have HDL := Lib.hid (show ∀ (w' : World), (∀ k, k ≠ w.heap.size + 1 + 1 + 1 → w'.heap[k]? = wl.heap[k]?) → w'.heap.size = wl.heap.size → w'.os = wl.os → w'.tape = wl.tape → w'.output = wl.output → RrAt w' (.slice none D.1.length 0) D.1 ∧ Below w.heap.size w w' from fun w' h1 h2 h3 h4 h5 => by
                rw [HX.out]
                obtain hFl := hY.out
                exact ⟨RwAt.nil _ _ _, ⟨h3.trans hFl.b.os, h4.trans hFl.b.tape, h5.trans hFl.b.output, by have := hFl.b.size; omega, fun k hk => (h1 k (by omega)).trans (hFl.b.block k hk)⟩⟩)
              cases h' with
              | false =>
                have HT := Lib.hid (show D.2.1 = hd0 ∧ D.2.2 = false ∧ D.1.length = 0 from ⟨by rw [hD.out]; rfl, by rw [hD.out]; rfl, by rw [HX.out]; rfl⟩)
                clear hz hD HX hY hF
                have HQ := Lib.hid (HDL.out ((((wl.setCell ⟨w.heap.size + 1 + 1 + 1, 0, none⟩ (.int .i64 0)).setCell ⟨w.heap.size + 1 + 1 + 1, 1, none⟩ (.string ⟨#[]⟩)).setCell ⟨w.heap.size + 1 + 1 + 1, 2, none⟩ (.int .i64 0)).setCell ⟨w.heap.size + 1 + 1 + 1, 3, none⟩ (.int .i64 0)) (fun k hk => by rw [Below.heap_setCell _ _ _ _ hk, Below.heap_setCell _ _ _ _ hk, Below.heap_setCell _ _ _ _ hk, Below.heap_setCell _ _ _ _ hk]) (by simp) rfl rfl rfl)
                clear HDL
                go_wp2_with fail
                exact bodyPost_ret (v := .tuple #[.slice none 0 0, .agg #[.int .i64 0, .string ⟨#[]⟩, .int .i64 0, .int .i64 0], .bool false]) (by simp [results, Tryz.results98, go_sem, z0, z1, z2, z3]) rfl ⟨none, 0, by rw [HT.out.1, HT.out.2.1, HT.out.2.2]; rfl, HQ.out⟩
              | true =>
                have HT := Lib.hid (show D.2.1 = ⟨0, key, a', b'⟩ ∧ D.2.2 = true ∧ D.1.length = 0 from ⟨by rw [hD.out]; rfl, by rw [hD.out]; rfl, by rw [HX.out]; rfl⟩)
                clear hz hD HX hY hF
                have HQ := Lib.hid (HDL.out ((((wl.setCell ⟨w.heap.size + 1 + 1 + 1, 0, none⟩ (.int .i64 0)).setCell ⟨w.heap.size + 1 + 1 + 1, 1, none⟩ (.string key)).setCell ⟨w.heap.size + 1 + 1 + 1, 2, none⟩ (.int .i64 a')).setCell ⟨w.heap.size + 1 + 1 + 1, 3, none⟩ (.int .i64 b')) (fun k hk => by rw [Below.heap_setCell _ _ _ _ hk, Below.heap_setCell _ _ _ _ hk, Below.heap_setCell _ _ _ _ hk, Below.heap_setCell _ _ _ _ hk]) (by simp) rfl rfl rfl)
                clear HDL
                go_wp2_with fail
                exact bodyPost_ret (v := .tuple #[.slice none 0 0, .agg #[.int .i64 0, .string key, .int .i64 a', .int .i64 b'], .bool true]) (by simp [results, Tryz.results98, go_sem, z0, z1, z2, z3]) rfl ⟨none, 0, by rw [HT.out.1, HT.out.2.1, HT.out.2.2], HQ.out⟩
end Go.Proofs.YthadeccnibnioaaGreatDoor
