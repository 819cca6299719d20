/- GatePlays's walk. -/
import Derived.Test.YtneglanmigifhaaDoorWf
import Derived.Deep.DeepCutAuto
namespace Go.Proofs.YtneglanmigifhaaDoor
open Go.ChangeShapes Go.WideShapes Go.RowKit
set_option linter.unusedVariables false
/-- The first t of three numbers. -/
def vv (l : List Int) (t m : Nat) : Int := if m < t then l.getD m 0 else 0
theorem takeG_len {g g' : Gt Rg} {r : Rg} {i : Nat} (h0 : 0 < g.ws.length) (h : takeG g = some (r, i, g')) : g'.ws.length = g.ws.length := by
  obtain ⟨-, -, rfl⟩ := takeG_some h0 h; simp
theorem boundG_len {g g' : Gt Rg} {m : Int} (h : boundG g = some (m, g')) : g'.ws.length = g.ws.length := by
  cases hc : leastG g.ws with
  | none => unfold boundG at h; rw [hc] at h; cases h
  | some m' => rw [boundG_is hc] at h; injection h with h; injection h with h1 h2; subst h2; simp
theorem three (u : World) (a b c : Obj) : (((u.alloc a).alloc b).alloc c).heap[u.heap.size]? = some a ∧ (((u.alloc a).alloc b).alloc c).heap[u.heap.size + 1]? = some b ∧ (((u.alloc a).alloc b).alloc c).heap[u.heap.size + 1 + 1]? = some c := by
  have e1 : (u.alloc a).heap.size = u.heap.size + 1 := by simp
  have e2 : ((u.alloc a).alloc b).heap.size = u.heap.size + 1 + 1 := by simp
  refine ⟨?_, ?_, ?_⟩
  · rw [Below.heap_alloc _ _ _ (by omega), Below.heap_alloc _ _ _ (by omega)]; exact heap_alloc_new u a
  · rw [Below.heap_alloc _ _ _ (by omega), ← e1]; exact heap_alloc_new _ b
  · rw [← e2]; exact heap_alloc_new _ c
set_option maxRecDepth 100000 in
set_option maxHeartbeats 4000000 in
theorem plays_walk (W : World) (inp : Int) (a1 : Option Addr) (c1 : Nat) (P : List (List Int)) (hP : IiAt W a1 P) (hg : W.cell? ⟨0, 0, none⟩ = some ET) :
    Calls Tryd.prog 3 #[.int .i64 inp, .slice a1 P.length c1] W fun e w' => e = .returned (.bool true) ∧ Below W.heap.size W w' := by
  have HG := Lib.hid (fun (u : World) (hb : Below W.heap.size W u) => et_below hg hb)
  have HPr := Lib.hid hP
  clear hP hg
  by_cases hR : inp < 1 ∨ 64 < inp
  · have HN := new_bad W inp hR
    have HE := error_any 1 W (HG.out W (Below.refl _ _))
    rw [erN_1] at HE
    have HE2 : Calls Tryd.prog 5 #[erV 1, .int .i64 1] W fun e w' => e = .returned (.bool true) ∧ Below W.heap.size W w' := HE
    clear HE HG HPr
    rcases hR with h | h
    · go_enter Tryd.func3, Tryd.ntmps3
      go_wp2_with first | (go_at_call 4; refine HN.mono ?_; rintro e u ⟨rfl, rfl⟩) | (go_at_call 5; refine HE2.mono ?_; rintro e u ⟨rfl, hb⟩)
      go_ret
      exact ⟨rfl, hb⟩
    · have h' : ¬ inp < 1 := by omega
      go_enter Tryd.func3, Tryd.ntmps3
      go_wp2_with first | (go_at_call 4; refine HN.mono ?_; rintro e u ⟨rfl, rfl⟩) | (go_at_call 5; refine HE2.mono ?_; rintro e u ⟨rfl, hb⟩)
      go_ret
      exact ⟨rfl, hb⟩
  obtain ⟨N, rfl⟩ : ∃ N : Nat, inp = N := ⟨inp.toNat, by omega⟩
  have hN1 : 1 ≤ N := by omega
  have hN2 : N ≤ 64 := by omega
  have q1 : ¬ (N : Int) < 1 := by omega
  have q2 : ¬ (64 : Int) < (N : Int) := by omega
  clear hR
  have HN := new_x W N hN1 hN2
  have HE := fun (u : World) => error_nil u
  go_enter Tryd.func3, Tryd.ntmps3
  go_wp2_with first | (go_at_call 4; refine HN.mono ?_; rintro e u ⟨B, rfl, hG0, hb0⟩) | (go_at_call 5; refine (HE _).mono ?_; rintro e u ⟨rfl, rfl⟩)
  rename World => u0
  clear HE HN
  have hmi := make_i N hN2
  have hms := make_s N hN2
  have HGM := Lib.hid (And.intro hG0 hb0)
  clear hG0 hb0
  go_cut [9] (fun mv wc => ∃ M WB LB, mv = .pointer (some ⟨M, 0, none⟩) ∧ GX W.heap.size wc B (newG N) ∧ MX W.heap.size wc M WB LB (newG N) ∧ Below W.heap.size W wc)
  case first =>
    have H1 := Lib.hid (three u0 (.cells (madeCells #[.slice none 0 0] N) 46) (.cells (madeCells #[.int .i64 0] N) 3) (.cells #[.slice (some ⟨u0.heap.size, 0, none⟩) N N, .slice (some ⟨u0.heap.size + 1, 0, none⟩) N N, .int .i64 0] 33))
    have H2 := Lib.hid (three u0 (.cells (madeCells #[.int .i64 0] N) 3) (.cells (madeCells #[.slice none 0 0] N) 46) (.cells #[.slice (some ⟨u0.heap.size + 1, 0, none⟩) N N, .slice (some ⟨u0.heap.size, 0, none⟩) N N, .int .i64 0] 33))
    go_region
    all_goals
      go_wp2_with fail
      go_meet
      case rel =>
        obtain ⟨hG, hB⟩ := HGM.out
        have hz := hB.size
        have bb := fun a b c => (((Below.refl u0.heap.size u0).alloc (Nat.le_refl _) a).alloc (by simp) b).alloc (by simp; omega) c
        first
          | exact ⟨_, _, _, rfl, hG.keep (bb _ _ _).drew, MX.new (w := World.drew _) hN1 hN2 H1.out.1 H1.out.2.1 H1.out.2.2 (by omega) (by omega) (by omega), hB.trans ((bb _ _ _).drew.mono hz)⟩
          | exact ⟨_, _, _, rfl, hG.keep (bb _ _ _).drew, MX.new (w := World.drew _) hN1 hN2 H2.out.2.1 H2.out.1 H2.out.2.2 (by omega) (by omega) (by omega), hB.trans ((bb _ _ _).drew.mono hz)⟩
  case rest =>
    obtain ⟨M, WB, LB, rfl, hG, hM, hB⟩ := hcut
    clear hmi hms HGM
    rename World => uc
    have HJ := Lib.hid (show (newG N).ws.length = N ∧ GX W.heap.size uc B (newG N) ∧ MX W.heap.size uc M WB LB (newG N) ∧ Below W.heap.size W uc from ⟨newG_len N, hG, hM, hB⟩)
    clear hG hM hB
    generalize newG N = gn at *
    apply_assumption
    go_wp2_with fail
    go_loopw [8, 10] (fun td iv wr => ∃ (j : Nat) (g : Gt Rg), td = .bool true ∧ j ≤ P.length ∧ j ≤ 120 ∧ iv = .int .i64 (j : Nat) ∧ g.ws.length = N ∧ GX W.heap.size wr B g ∧ MX W.heap.size wr M WB LB g ∧ Below W.heap.size W wr) (fun _ iv _ => 120 - (intOf iv).toNat)
    case atStart => exact ⟨0, gn, rfl, Nat.zero_le _, by omega, rfl, HJ.out⟩
    case round =>
      clear HJ
      obtain ⟨j, g, rfl, hj1, hj2, rfl, hgl, hG, hM, hB⟩ := hrel
      rename World => wo
      by_cases hl : j < P.length ∧ j < 120
      · obtain ⟨m1, m2⟩ := hl
        have n1 : (j : Int) < P.length := by omega
        have n2 : (j : Int) < 120 := by omega
        obtain ⟨pb, po, rfl, hrow⟩ : ∃ b o, a1 = some ⟨b, o, none⟩ ∧ ∀ i (h : i < P.length), ∃ q c, W.cell? ⟨b, o + i, none⟩ = some (.slice q P[i].length c) ∧ IsAt W q P[i] := by
          rcases HPr.out with h | h
          · subst h; simp at m1
          · exact h
        obtain ⟨q, qc, hq, hqI⟩ := hrow j m1
        generalize P[j] = l at *
        have r1 := Lib.hid (fun (u : World) (hu : Below W.heap.size W u) => (hu.cell (p := ⟨pb, po + j, none⟩) (cell_lt hq)).trans hq)
        have r2 := Lib.hid hqI
        have HGo := Lib.hid hG
        have HMo := Lib.hid hM
        clear hq hqI hrow hG hM
        have hVa : Below wo.heap.size wo (wo.alloc (.cells #[.int .i64 0, .int .i64 0, .int .i64 0] 34)) := (Below.refl _ _).alloc (Nat.le_refl _) _
        have hV0 : (wo.alloc (.cells #[.int .i64 0, .int .i64 0, .int .i64 0] 34)).heap[wo.heap.size]? = some (.cells #[.int .i64 (vv l 0 0), .int .i64 (vv l 0 1), .int .i64 (vv l 0 2)] 34) := by
          rw [heap_alloc_new]; simp [vv]
        have hz0 : wo.heap.size + 1 ≤ (wo.alloc (.cells #[.int .i64 0, .int .i64 0, .int .i64 0] 34)).heap.size := by simp
        go_wp2_with fail
        go_loopw [12] (fun i wr => ∃ t : Nat, t ≤ l.length ∧ t ≤ 3 ∧ i = .int .i64 t ∧ Below wo.heap.size wo wr ∧ wr.heap[wo.heap.size]? = some (.cells #[.int .i64 (vv l t 0), .int .i64 (vv l t 1), .int .i64 (vv l t 2)] 34) ∧ wo.heap.size + 1 ≤ wr.heap.size) (fun i _ => 3 - (intOf i).toNat)
        case atStart => exact ⟨0, Nat.zero_le _, by omega, rfl, hVa, hV0, hz0⟩
        case round =>
          clear hVa hV0 hz0
          obtain ⟨t, ht, ht4, rfl, hVa, hV0, hz0⟩ := hrel
          rename World => wr
          have hBv : Below W.heap.size W wr := hB.trans (hVa.mono hB.size)
          have rr1 := r1.out wr hBv
          by_cases hl : t < l.length ∧ t < 3
          · obtain ⟨m1, m2⟩ := hl
            have n1 : (t : Int) < l.length := by omega
            have n2 : (t : Int) < 3 := by omega
            obtain ⟨lb, lo', rfl, s2⟩ : ∃ b o, q = some ⟨b, o, none⟩ ∧ ∀ i (h : i < l.length), W.cell? ⟨b, o + i, none⟩ = some (.int .i64 l[i]) := by
              rcases r2.out with h | h
              · subst h; simp at m1
              · exact h
            have s3 := s2 t m1
            have s4 : wr.cell? ⟨lb, lo' + t, none⟩ = some (.int .i64 (l.getD t 0)) := by
              rw [(hBv.cell (p := ⟨lb, lo' + t, none⟩) (cell_lt s3)).trans s3]; simp [List.getD, m1]
            have vc : ∀ m, m < 3 → wr.cell? ⟨wo.heap.size, m, none⟩ = some (.int .i64 (vv l t m)) := fun m hm => by
              obtain rfl | rfl | rfl : m = 0 ∨ m = 1 ∨ m = 2 := by omega
              all_goals simp [World.cell?, hV0]
            have vc0 := vc t m2
            have vf : wr.frozen? ⟨wo.heap.size, t, none⟩ = false := by simp [World.frozen?, hV0]
            have HV : Hid ((wr.setCell ⟨wo.heap.size, t, none⟩ (.int .i64 (l.getD t 0))).heap[wo.heap.size]? = some (.cells #[.int .i64 (vv l (t + 1) 0), .int .i64 (vv l (t + 1) 1), .int .i64 (vv l (t + 1) 2)] 34)) := by
              show _ = _
              obtain rfl | rfl | rfl : t = 0 ∨ t = 1 ∨ t = 2 := by omega
              all_goals simp [World.setCell, Array.getElem?_modify, hV0, vv]
            have HB : Hid (Below wo.heap.size wo (wr.setCell ⟨wo.heap.size, t, none⟩ (.int .i64 (l.getD t 0)))) := hVa.setCell (Nat.le_refl _) _
            clear s2 s3 vc
            generalize l.getD t 0 = lt at *
            go_wp2
            go_roundw
            case rel => exact ⟨t + 1, by omega, by omega, by go_num, HB.out, HV.out, by simpa using hz0⟩
            case measure => simp [intOf]; omega
          · have hcase : ¬ (t : Int) < l.length ∨ ((t : Int) < l.length ∧ ¬ (t : Int) < 3) := by omega
            have hG2 := HGo.out.keep hVa
            have hM2 := HMo.out.keep hVa
            generalize vv l t 0 = v0 at *
            generalize vv l t 1 = v1 at *
            generalize vv l t 2 = v2 at *
            have HVb := Lib.hid hV0
            have HG2 := Lib.hid hG2
            have HM2 := Lib.hid hM2
            have y0 : wr.cell? ⟨wo.heap.size, 0, none⟩ = some (.int .i64 v0) := by simp [World.cell?, hV0]
            clear HGo HMo hG2 hM2 hV0 r1 r2
            generalize wo.heap.size = vb at *
            go_upto_region 14 with fail
            go_cut [78] (fun t wc => wr = wc ∧ t = .bool false)
            case first =>
              rcases hcase with n1 | ⟨n1, n2⟩
              · go_wp2_with fail
                go_meet
                case rel => exact ⟨rfl, by simp⟩
              · go_wp2_with fail
                go_meet
                case rel => exact ⟨rfl, by simp⟩
            case rest =>
              obtain ⟨rfl, rfl⟩ := hcut
              clear hcase rr1 n1 n2
              go_upto_region 17 with fail
              go_cut [91] (fun t wc => wr = wc ∧ t = .int .i64 v0)
              case first =>
                go_wp2_with fail
                go_meet
                case rel => exact ⟨rfl, rfl⟩
              case rest =>
                obtain ⟨rfl, rfl⟩ := hcut
                apply_assumption
                have hBr : Below W.heap.size W wr := hBv
                have HBr := Lib.hid hBr
                clear hBr hBv hVa hB hz0 hj1
                go_cut [8] (fun td wc => td = .bool true ∧ ∃ g' : Gt Rg, g'.ws.length = N ∧ GX W.heap.size wc B g' ∧ MX W.heap.size wc M WB LB g' ∧ Below W.heap.size W wc ∧ wc.heap[vb]? = some (.cells #[.int .i64 v0, .int .i64 v1, .int .i64 v2] 34 (0, 0)))
                case first =>
                  by_cases hk : v0 = 0 ∨ v0 = 1
                  · rcases hk with rfl | rfl
                    · as_aux_lemma =>
                        have hrb : (wr.alloc (.cells #[.string ⟨#[107]⟩, .int .i64 v2, .int .i64 0] 36)).heap[wr.heap.size]? = some (.cells #[.string ⟨#[107]⟩, .int .i64 v2, .int .i64 0] 36 (0, 0)) := heap_alloc_new wr _
                        have hva : Below wr.heap.size wr (wr.alloc (.cells #[.string ⟨#[107]⟩, .int .i64 v2, .int .i64 0] 36)) := (Below.refl _ _).alloc (Nat.le_refl _) _
                        have hvb : (wr.alloc (.cells #[.string ⟨#[107]⟩, .int .i64 v2, .int .i64 0] 36)).heap[vb]? = some (.cells #[.int .i64 0, .int .i64 v1, .int .i64 v2] 34 (0, 0)) := (hva.block vb (some_lt HVb.out)).trans HVb.out
                        have y2 : wr.cell? ⟨vb, 2, none⟩ = some (.int .i64 v2) := by have := HVb.out; simp [World.cell?, this]
                        have HG3 := Lib.hid (HG2.out.keep hva)
                        have HM3 := Lib.hid (HM2.out.keep hva)
                        have HB3 := Lib.hid (HBr.out.trans (hva.mono HBr.out.size))
                        have HBk := Lib.hid (And.intro hrb hvb)
                        clear hrb hvb hva HG2 HM2 HBr HVb
                        go_wp2_with fail

                        all_goals
                          obtain ⟨hrb, hvb⟩ := HBk.out
                          generalize wr.heap.size = rb at *
                          generalize wr.alloc (.cells #[.string ⟨#[107]⟩, .int .i64 v2, .int .i64 0] 36) = u1 at *
                          have x1 : u1.drew.cell? ⟨vb, 1, none⟩ = some (.int .i64 v1) := by
                            show u1.cell? _ = _
                            simp [World.cell?, hvb]
                          have x3 : u1.drew.cell? ⟨rb, 0, none⟩ = some (.string ⟨#[107]⟩) := by
                            show u1.cell? _ = _
                            simp [World.cell?, hrb]
                          have x4 : u1.drew.cell? ⟨rb, 1, none⟩ = some (.int .i64 v2) := by
                            show u1.cell? _ = _
                            simp [World.cell?, hrb]
                          have x5 : u1.drew.cell? ⟨rb, 2, none⟩ = some (.int .i64 0) := by
                            show u1.cell? _ = _
                            simp [World.cell?, hrb]
                          have bq : Below u1.heap.size u1 u1.drew := ⟨rfl, rfl, rfl, Nat.le_refl _, fun _ _ => rfl⟩
                          have HPu := Lib.hid (gpush_u (HG3.out.keep bq) v1 ⟨⟨#[107]⟩, v2, 0⟩ (by show 1 ≤ _; omega))
                          have HMu := Lib.hid (fun (u2 : World) (f2 : FrG W.heap.size u1.drew u2) => mpush_u ((HM3.out.keep bq).frg f2) v1 ⟨⟨#[107]⟩, v2, 0⟩)
                          have hBd : Below W.heap.size W u1.drew := HB3.out.trans (bq.mono HB3.out.size)
                          have HEr := Lib.hid (fun (u2 u3 : World) (f2 : FrG W.heap.size u1.drew u2) (f3 : FrD W.heap.size u2 u3) => error_any (pushE g v1) u3 (HG.out u3 ((hBd.trans f2.toBelow).trans f3.toBelow)))
                          have hlen2 := pushS_len g v1 (.one ⟨⟨#[107]⟩, v2, 0⟩)
                          have HS1 := Lib.hid (show ∀ u2, FrG W.heap.size u1.drew u2 → (u2.heap[vb]? = some (.cells #[.int .i64 0, .int .i64 v1, .int .i64 v2] 34 (0, 0)) ∧ u2.heap[rb]? = some (.cells #[.string ⟨#[107]⟩, .int .i64 v2, .int .i64 0] 36 (0, 0))) from fun u2 f2 => ⟨f2.kept _ _ hvb (notTurns (by decide)), f2.kept _ _ hrb (notTurns (by decide))⟩)
                          have HS2 := Lib.hid (show ∀ u2 u3, FrG W.heap.size u1.drew u2 → FrD W.heap.size u2 u3 → (u3.heap[vb]? = some (.cells #[.int .i64 0, .int .i64 v1, .int .i64 v2] 34 (0, 0)) ∧ u3.heap[rb]? = some (.cells #[.string ⟨#[107]⟩, .int .i64 v2, .int .i64 0] 36 (0, 0))) from fun u2 u3 f2 f3 => ⟨f3.kept _ _ (HS1.out u2 f2).1 (notTurnsD (by decide)), f3.kept _ _ (HS1.out u2 f2).2 (notTurnsD (by decide))⟩)
                          have HCe := Lib.hid (show ∀ u : World, u.heap[vb]? = some (.cells #[.int .i64 0, .int .i64 v1, .int .i64 v2] 34 (0, 0)) → u.heap[rb]? = some (.cells #[.string ⟨#[107]⟩, .int .i64 v2, .int .i64 0] 36 (0, 0)) → u.cell? ⟨vb, 1, none⟩ = some (.int .i64 v1) ∧ u.cell? ⟨rb, 0, none⟩ = some (.string ⟨#[107]⟩) ∧ u.cell? ⟨rb, 1, none⟩ = some (.int .i64 v2) ∧ u.cell? ⟨rb, 2, none⟩ = some (.int .i64 0) from fun u h1 h2 => by simp [World.cell?, h1, h2])
                          have HBd := Lib.hid hBd
                          have HGd := Lib.hid (HG3.out.keep bq)
                          clear hBd bq hrb hvb HG3 HM3 HB3 HBk y0 y2
                          simp only at HPu HMu
                          generalize pushS g v1 (.one ⟨⟨#[107]⟩, v2, 0⟩) = g1 at *
                          generalize pushE g v1 = pe at *
                          have hp1 : u1.cell? ⟨vb, 1, none⟩ = some (.int .i64 v1) := x1
                          have hp3 : u1.cell? ⟨rb, 0, none⟩ = some (.string ⟨#[107]⟩) := x3
                          have hp4 : u1.cell? ⟨rb, 1, none⟩ = some (.int .i64 v2) := x4
                          have hp5 : u1.cell? ⟨rb, 2, none⟩ = some (.int .i64 0) := x5
                          go_region_held3 (fun u => u.cell? ⟨vb, 1, none⟩ = some (.int .i64 v1) ∧ u.cell? ⟨rb, 0, none⟩ = some (.string ⟨#[107]⟩) ∧ u.cell? ⟨rb, 1, none⟩ = some (.int .i64 v2) ∧ u.cell? ⟨rb, 2, none⟩ = some (.int .i64 0)) (first | go_keep | exact HCe.out u4 ((b4.block _ (some_lt (HS2.out u2 u3 f2 f3).1)).trans (HS2.out u2 u3 f2 f3).1) ((b4.block _ (some_lt (HS2.out u2 u3 f2 f3).2)).trans (HS2.out u2 u3 f2 f3).2) | exact HCe.out u3 (HS2.out u2 u3 f2 f3).1 (HS2.out u2 u3 f2 f3).2 | exact HCe.out u2 (HS1.out u2 f2).1 (HS1.out u2 f2).2) (first | (go_at_call 6; refine HPu.out.mono ?_; rintro e u2 ⟨rfl, hG4, f2⟩) | (go_at_call 7; refine (HMu.out u2 f2).mono ?_; rintro e u3 ⟨rfl, hM4, f3⟩) | (go_at_call 5; refine (HEr.out u2 u3 f2 f3).mono ?_; rintro e u4 ⟨rfl, b4⟩))
                          all_goals
                            have HX := Lib.hid (show ∃ g' : Gt Rg, g'.ws.length = N ∧ GX W.heap.size u4 B g' ∧ MX W.heap.size u4 M WB LB g' ∧ Below W.heap.size W u4 ∧ u4.heap[vb]? = some (.cells #[.int .i64 0, .int .i64 v1, .int .i64 v2] 34 (0, 0)) from ⟨g1, by rw [hlen2]; exact hgl, (hG4.frd f3).keep b4, hM4.keep b4, ((HBd.out.trans f2.toBelow).trans f3.toBelow).trans (b4.mono ((HBd.out.trans f2.toBelow).trans f3.toBelow).size), (b4.block _ (some_lt (HS2.out u2 u3 f2 f3).1)).trans (HS2.out u2 u3 f2 f3).1⟩)
                            clear HPu HMu HEr HS1 HS2 HCe HBd HGd hG4 hM4 f2 f3 b4
                            go_wp2_with fail
                            go_meet
                            case rel => exact ⟨rfl, HX.out⟩
                    · as_aux_lemma =>
                        have hrb : (wr.alloc (.cells #[.string ⟨#[107]⟩, .int .i64 v2, .int .i64 0] 36)).heap[wr.heap.size]? = some (.cells #[.string ⟨#[107]⟩, .int .i64 v2, .int .i64 0] 36 (0, 0)) := heap_alloc_new wr _
                        have hva : Below wr.heap.size wr (wr.alloc (.cells #[.string ⟨#[107]⟩, .int .i64 v2, .int .i64 0] 36)) := (Below.refl _ _).alloc (Nat.le_refl _) _
                        have hvb : (wr.alloc (.cells #[.string ⟨#[107]⟩, .int .i64 v2, .int .i64 0] 36)).heap[vb]? = some (.cells #[.int .i64 1, .int .i64 v1, .int .i64 v2] 34 (0, 0)) := (hva.block vb (some_lt HVb.out)).trans HVb.out
                        have y2 : wr.cell? ⟨vb, 2, none⟩ = some (.int .i64 v2) := by have := HVb.out; simp [World.cell?, this]
                        have HG3 := Lib.hid (HG2.out.keep hva)
                        have HM3 := Lib.hid (HM2.out.keep hva)
                        have HB3 := Lib.hid (HBr.out.trans (hva.mono HBr.out.size))
                        have HBk := Lib.hid (And.intro hrb hvb)
                        clear hrb hvb hva HG2 HM2 HBr HVb
                        go_wp2_with fail

                        all_goals
                          obtain ⟨hrb, hvb⟩ := HBk.out
                          generalize wr.heap.size = rb at *
                          generalize wr.alloc (.cells #[.string ⟨#[107]⟩, .int .i64 v2, .int .i64 0] 36) = u1 at *
                          have x1 : u1.drew.cell? ⟨vb, 1, none⟩ = some (.int .i64 v1) := by
                            show u1.cell? _ = _
                            simp [World.cell?, hvb]
                          have x3 : u1.drew.cell? ⟨rb, 0, none⟩ = some (.string ⟨#[107]⟩) := by
                            show u1.cell? _ = _
                            simp [World.cell?, hrb]
                          have x4 : u1.drew.cell? ⟨rb, 1, none⟩ = some (.int .i64 v2) := by
                            show u1.cell? _ = _
                            simp [World.cell?, hrb]
                          have x5 : u1.drew.cell? ⟨rb, 2, none⟩ = some (.int .i64 0) := by
                            show u1.cell? _ = _
                            simp [World.cell?, hrb]
                          have bq : Below u1.heap.size u1 u1.drew := ⟨rfl, rfl, rfl, Nat.le_refl _, fun _ _ => rfl⟩
                          have HPu := Lib.hid (gpush_u (HG3.out.keep bq) v1 ⟨⟨#[107]⟩, v2, 0⟩ (by show 1 ≤ _; omega))
                          have HMu := Lib.hid (fun (u2 : World) (f2 : FrG W.heap.size u1.drew u2) => mpush_u ((HM3.out.keep bq).frg f2) v1 ⟨⟨#[107]⟩, v2, 0⟩)
                          have hBd : Below W.heap.size W u1.drew := HB3.out.trans (bq.mono HB3.out.size)
                          have HEr := Lib.hid (fun (u2 u3 : World) (f2 : FrG W.heap.size u1.drew u2) (f3 : FrD W.heap.size u2 u3) => error_any (pushE g v1) u3 (HG.out u3 ((hBd.trans f2.toBelow).trans f3.toBelow)))
                          have hlen2 := pushS_len g v1 (.one ⟨⟨#[107]⟩, v2, 0⟩)
                          have HS1 := Lib.hid (show ∀ u2, FrG W.heap.size u1.drew u2 → (u2.heap[vb]? = some (.cells #[.int .i64 1, .int .i64 v1, .int .i64 v2] 34 (0, 0)) ∧ u2.heap[rb]? = some (.cells #[.string ⟨#[107]⟩, .int .i64 v2, .int .i64 0] 36 (0, 0))) from fun u2 f2 => ⟨f2.kept _ _ hvb (notTurns (by decide)), f2.kept _ _ hrb (notTurns (by decide))⟩)
                          have HS2 := Lib.hid (show ∀ u2 u3, FrG W.heap.size u1.drew u2 → FrD W.heap.size u2 u3 → (u3.heap[vb]? = some (.cells #[.int .i64 1, .int .i64 v1, .int .i64 v2] 34 (0, 0)) ∧ u3.heap[rb]? = some (.cells #[.string ⟨#[107]⟩, .int .i64 v2, .int .i64 0] 36 (0, 0))) from fun u2 u3 f2 f3 => ⟨f3.kept _ _ (HS1.out u2 f2).1 (notTurnsD (by decide)), f3.kept _ _ (HS1.out u2 f2).2 (notTurnsD (by decide))⟩)
                          have HCe := Lib.hid (show ∀ u : World, u.heap[vb]? = some (.cells #[.int .i64 1, .int .i64 v1, .int .i64 v2] 34 (0, 0)) → u.heap[rb]? = some (.cells #[.string ⟨#[107]⟩, .int .i64 v2, .int .i64 0] 36 (0, 0)) → u.cell? ⟨vb, 1, none⟩ = some (.int .i64 v1) ∧ u.cell? ⟨rb, 0, none⟩ = some (.string ⟨#[107]⟩) ∧ u.cell? ⟨rb, 1, none⟩ = some (.int .i64 v2) ∧ u.cell? ⟨rb, 2, none⟩ = some (.int .i64 0) from fun u h1 h2 => by simp [World.cell?, h1, h2])
                          have HBd := Lib.hid hBd
                          have HGd := Lib.hid (HG3.out.keep bq)
                          clear hBd bq hrb hvb HG3 HM3 HB3 HBk y0 y2
                          simp only at HPu HMu
                          generalize pushS g v1 (.one ⟨⟨#[107]⟩, v2, 0⟩) = g1 at *
                          generalize pushE g v1 = pe at *
                          have hp1 : u1.cell? ⟨vb, 1, none⟩ = some (.int .i64 v1) := x1
                          have hp3 : u1.cell? ⟨rb, 0, none⟩ = some (.string ⟨#[107]⟩) := x3
                          have hp4 : u1.cell? ⟨rb, 1, none⟩ = some (.int .i64 v2) := x4
                          have hp5 : u1.cell? ⟨rb, 2, none⟩ = some (.int .i64 0) := x5
                          go_region_held3 (fun u => u.cell? ⟨vb, 1, none⟩ = some (.int .i64 v1) ∧ u.cell? ⟨rb, 0, none⟩ = some (.string ⟨#[107]⟩) ∧ u.cell? ⟨rb, 1, none⟩ = some (.int .i64 v2) ∧ u.cell? ⟨rb, 2, none⟩ = some (.int .i64 0)) (first | go_keep | exact HCe.out u4 ((b4.block _ (some_lt (HS2.out u2 u3 f2 f3).1)).trans (HS2.out u2 u3 f2 f3).1) ((b4.block _ (some_lt (HS2.out u2 u3 f2 f3).2)).trans (HS2.out u2 u3 f2 f3).2) | exact HCe.out u3 (HS2.out u2 u3 f2 f3).1 (HS2.out u2 u3 f2 f3).2 | exact HCe.out u2 (HS1.out u2 f2).1 (HS1.out u2 f2).2) (first | (go_at_call 6; refine HPu.out.mono ?_; rintro e u2 ⟨rfl, hG4, f2⟩) | (go_at_call 7; refine (HMu.out u2 f2).mono ?_; rintro e u3 ⟨rfl, hM4, f3⟩) | (go_at_call 5; refine (HEr.out u2 u3 f2 f3).mono ?_; rintro e u4 ⟨rfl, b4⟩))
                          all_goals
                            have HX := Lib.hid (show ∃ g' : Gt Rg, g'.ws.length = N ∧ GX W.heap.size u4 B g' ∧ MX W.heap.size u4 M WB LB g' ∧ Below W.heap.size W u4 ∧ u4.heap[vb]? = some (.cells #[.int .i64 1, .int .i64 v1, .int .i64 v2] 34 (0, 0)) from ⟨g1, by rw [hlen2]; exact hgl, (hG4.frd f3).keep b4, hM4.keep b4, ((HBd.out.trans f2.toBelow).trans f3.toBelow).trans (b4.mono ((HBd.out.trans f2.toBelow).trans f3.toBelow).size), (b4.block _ (some_lt (HS2.out u2 u3 f2 f3).1)).trans (HS2.out u2 u3 f2 f3).1⟩)
                            clear HPu HMu HEr HS1 HS2 HCe HBd HGd hG4 hM4 f2 f3 b4
                            go_wp2_with fail
                            go_meet
                            case rel => exact ⟨rfl, HX.out⟩
                  · have e0 : (v0 == 0) = false := by simp; omega
                    have e1 : (v0 == 1) = false := by simp; omega
                    by_cases h2 : v0 = 2
                    · subst h2
                      clear e0 e1 hk
                      as_aux_lemma =>
                        have hvb := HVb.out
                        have bq : Below wr.heap.size wr wr.drew := ⟨rfl, rfl, rfl, Nat.le_refl _, fun _ _ => rfl⟩
                        have HPu := Lib.hid (gbar_u (HG2.out.keep bq) v1 v2)
                        have HMu := Lib.hid (fun (u2 : World) (f2 : FrG W.heap.size wr.drew u2) => mbar_u ((HM2.out.keep bq).frg f2) v1 v2)
                        have hBd : Below W.heap.size W wr.drew := HBr.out.trans (bq.mono HBr.out.size)
                        have HEr := Lib.hid (fun (u2 u3 : World) (f2 : FrG W.heap.size wr.drew u2) (f3 : FrD W.heap.size u2 u3) => error_any (barE g v1 v2) u3 (HG.out u3 ((hBd.trans f2.toBelow).trans f3.toBelow)))
                        have hlen2 := barS_len g v1 v2
                        have HS1 := Lib.hid (show ∀ u2, FrG W.heap.size wr.drew u2 → u2.heap[vb]? = some (.cells #[.int .i64 2, .int .i64 v1, .int .i64 v2] 34 (0, 0)) from fun u2 f2 => f2.kept _ _ hvb (notTurns (by decide)))
                        have HS2 := Lib.hid (show ∀ u2 u3, FrG W.heap.size wr.drew u2 → FrD W.heap.size u2 u3 → u3.heap[vb]? = some (.cells #[.int .i64 2, .int .i64 v1, .int .i64 v2] 34 (0, 0)) from fun u2 u3 f2 f3 => f3.kept _ _ (HS1.out u2 f2) (notTurnsD (by decide)))
                        have HCe := Lib.hid (show ∀ u : World, u.heap[vb]? = some (.cells #[.int .i64 2, .int .i64 v1, .int .i64 v2] 34 (0, 0)) → u.cell? ⟨vb, 1, none⟩ = some (.int .i64 v1) ∧ u.cell? ⟨vb, 2, none⟩ = some (.int .i64 v2) from fun u h1 => by simp [World.cell?, h1])
                        have HBd := Lib.hid hBd
                        obtain ⟨hp1, hp2⟩ := HCe.out wr hvb
                        have x1 : wr.drew.cell? ⟨vb, 1, none⟩ = some (.int .i64 v1) := hp1
                        have x2 : wr.drew.cell? ⟨vb, 2, none⟩ = some (.int .i64 v2) := hp2
                        clear hBd bq hvb HG2 HM2 HBr HVb y0
                        generalize barS g v1 v2 = g1 at *
                        generalize barE g v1 v2 = pe at *
                        go_wp2_with fail
                        go_region_held3 (fun u => u.cell? ⟨vb, 1, none⟩ = some (.int .i64 v1) ∧ u.cell? ⟨vb, 2, none⟩ = some (.int .i64 v2)) (first | go_keep | exact HCe.out u4 ((b4.block _ (some_lt (HS2.out u2 u3 f2 f3))).trans (HS2.out u2 u3 f2 f3)) | exact HCe.out u3 (HS2.out u2 u3 f2 f3) | exact HCe.out u2 (HS1.out u2 f2)) (first | (go_at_call 8; refine HPu.out.mono ?_; rintro e u2 ⟨rfl, hG4, f2⟩) | (go_at_call 7; refine (HMu.out u2 f2).mono ?_; rintro e u3 ⟨rfl, hM4, f3⟩) | (go_at_call 5; refine (HEr.out u2 u3 f2 f3).mono ?_; rintro e u4 ⟨rfl, b4⟩))
                        all_goals
                          have HX := Lib.hid (show ∃ g' : Gt Rg, g'.ws.length = N ∧ GX W.heap.size u4 B g' ∧ MX W.heap.size u4 M WB LB g' ∧ Below W.heap.size W u4 ∧ u4.heap[vb]? = some (.cells #[.int .i64 2, .int .i64 v1, .int .i64 v2] 34 (0, 0)) from ⟨g1, by rw [hlen2]; exact hgl, (hG4.frd f3).keep b4, hM4.keep b4, ((HBd.out.trans f2.toBelow).trans f3.toBelow).trans (b4.mono ((HBd.out.trans f2.toBelow).trans f3.toBelow).size), (b4.block _ (some_lt (HS2.out u2 u3 f2 f3))).trans (HS2.out u2 u3 f2 f3)⟩)
                          clear HPu HMu HEr HS1 HS2 HCe HBd hG4 hM4 f2 f3 b4
                          go_wp2_with fail
                          go_meet
                          case rel => exact ⟨rfl, HX.out⟩
                    · have e2 : (v0 == 2) = false := by simpa using h2
                      by_cases h3 : v0 = 3
                      · subst h3
                        clear e0 e1 hk e2 h2
                        as_aux_lemma =>
                          clear y0
                          cases ht : takeG g with
                          | none =>
                            have HX := next_no HG2.out ht
                            have HT := Lib.hid (fun (u : World) (hu : Below wr.heap.size wr u) => mtake_no (HM2.out.keep hu) ht)
                            clear ht
                            go_wp2_with (go_at_call 9; refine HX.mono ?_; rintro e u2 ⟨rfl, b2⟩; refine Hid.out ?_)
                            refine Lib.hid ?_
                            have b3 := b2.alloc b2.size (.cells #[.string ⟨#[]⟩, .int .i64 0, .int .i64 0] 36)
                            have HT1 := HT.out _ b3
                            clear HX HT
                            have hz2 : u2.heap.size < (u2.alloc (.cells #[.string ⟨#[]⟩, .int .i64 0, .int .i64 0] 36)).heap.size := by simp
                            go_wp2_with (go_at_call 10; refine HT1.mono ?_; rintro e u3 ⟨rfl, b4⟩; refine Hid.out ?_)
                            refine Lib.hid ?_
                            have b5 : Below wr.heap.size wr u3 := b3.trans (b4.mono b3.size)
                            have b6 := b5.alloc b5.size (.cells #[.string ⟨#[]⟩, .int .i64 0, .int .i64 0] 36)
                            have kk : u3.heap[u2.heap.size]? = some (.cells #[.string ⟨#[]⟩, .int .i64 0, .int .i64 0] 36 (0, 0)) := (b4.block _ hz2).trans (heap_alloc_new u2 _)
                            have k0 : u3.cell? ⟨u2.heap.size, 0, none⟩ = some (.string ⟨#[]⟩) := by simp [World.cell?, kk]
                            have k1 : u3.cell? ⟨u2.heap.size, 1, none⟩ = some (.int .i64 0) := by simp [World.cell?, kk]
                            have k2 : u3.cell? ⟨u2.heap.size, 2, none⟩ = some (.int .i64 0) := by simp [World.cell?, kk]
                            have k3 := some_lt kk
                            have HX := Lib.hid (show ∃ g' : Gt Rg, g'.ws.length = N ∧ GX W.heap.size (u3.alloc (.cells #[.string ⟨#[]⟩, .int .i64 0, .int .i64 0] 36)) B g' ∧ MX W.heap.size (u3.alloc (.cells #[.string ⟨#[]⟩, .int .i64 0, .int .i64 0] 36)) M WB LB g' ∧ Below W.heap.size W (u3.alloc (.cells #[.string ⟨#[]⟩, .int .i64 0, .int .i64 0] 36)) ∧ (u3.alloc (.cells #[.string ⟨#[]⟩, .int .i64 0, .int .i64 0] 36)).heap[vb]? = some (.cells #[.int .i64 3, .int .i64 v1, .int .i64 v2] 34 (0, 0)) from ⟨g, hgl, HG2.out.keep b6, HM2.out.keep b6, HBr.out.trans (b6.mono HBr.out.size), (b6.block _ (some_lt HVb.out)).trans HVb.out⟩)
                            clear HT1 b2 b3 b4 b5 b6 kk HG2 HM2 HBr HVb hz2
                            go_wp2_with fail
                            go_meet
                            case rel => exact ⟨by simp, HX.out⟩
                          | some x =>
                            obtain ⟨r, i, g'⟩ := x
                            have hgl2 : g'.ws.length = N := (takeG_len (by omega) ht).trans hgl
                            have HX := next_x HG2.out ht
                            have HT := Lib.hid (fun (u u' : World) (f : FrG W.heap.size wr u) (hu : Below u.heap.size u u') => mtake_x ((HM2.out.frg f).keep hu) ht)
                            obtain ⟨k0, n0, t0⟩ := r
                            simp only at HX HT
                            clear ht
                            go_wp2_with (go_at_call 9; refine HX.mono ?_; rintro e u2 ⟨rfl, hG3, f2⟩; refine Hid.out ?_)
                            refine Lib.hid ?_
                            have b3 : Below u2.heap.size u2 (u2.alloc (.cells #[.string k0, .int .i64 n0, .int .i64 t0] 36)) := (Below.refl _ _).alloc (Nat.le_refl _) _
                            have HT1 := HT.out _ _ f2 b3
                            clear HX HT
                            have hz2 : u2.heap.size < (u2.alloc (.cells #[.string k0, .int .i64 n0, .int .i64 t0] 36)).heap.size := by simp
                            go_wp2_with (go_at_call 10; refine HT1.mono ?_; rintro e u3 ⟨rfl, hM3, f3⟩; refine Hid.out ?_)
                            refine Lib.hid ?_
                            have b6 : Below u3.heap.size u3 (u3.alloc (.cells #[.string k0, .int .i64 n0, .int .i64 t0] 36)) := (Below.refl _ _).alloc (Nat.le_refl _) _
                            have kk : u3.heap[u2.heap.size]? = some (.cells #[.string k0, .int .i64 n0, .int .i64 t0] 36 (0, 0)) := f3.kept _ _ (heap_alloc_new u2 _) (notTurnsD (by decide))
                            have kv : (u3.alloc (.cells #[.string k0, .int .i64 n0, .int .i64 t0] 36)).heap[vb]? = some (.cells #[.int .i64 3, .int .i64 v1, .int .i64 v2] 34 (0, 0)) := by
                              have a1 := f2.kept _ _ HVb.out (notTurns (by decide))
                              have a2 := (b3.block _ (some_lt a1)).trans a1
                              have a3 := f3.kept _ _ a2 (notTurnsD (by decide))
                              exact (b6.block _ (some_lt a3)).trans a3
                            have hBx : Below W.heap.size W u3 := by
                              have a1 := HBr.out.trans f2.toBelow
                              exact (a1.trans (b3.mono a1.size)).trans f3.toBelow
                            have z0 : u3.cell? ⟨u2.heap.size, 0, none⟩ = some (.string k0) := by simp [World.cell?, kk]
                            have z1 : u3.cell? ⟨u2.heap.size, 1, none⟩ = some (.int .i64 n0) := by simp [World.cell?, kk]
                            have z2 : u3.cell? ⟨u2.heap.size, 2, none⟩ = some (.int .i64 t0) := by simp [World.cell?, kk]
                            have z3 := some_lt kk
                            have HX := Lib.hid (show ∃ g' : Gt Rg, g'.ws.length = N ∧ GX W.heap.size (u3.alloc (.cells #[.string k0, .int .i64 n0, .int .i64 t0] 36)) B g' ∧ MX W.heap.size (u3.alloc (.cells #[.string k0, .int .i64 n0, .int .i64 t0] 36)) M WB LB g' ∧ Below W.heap.size W (u3.alloc (.cells #[.string k0, .int .i64 n0, .int .i64 t0] 36)) ∧ (u3.alloc (.cells #[.string k0, .int .i64 n0, .int .i64 t0] 36)).heap[vb]? = some (.cells #[.int .i64 3, .int .i64 v1, .int .i64 v2] 34 (0, 0)) from ⟨g', hgl2, ((hG3.keep b3).frd f3).keep b6, hM3.keep b6, hBx.trans (b6.mono hBx.size), kv⟩)
                            clear HT1 b3 b6 kk kv hBx hG3 hM3 f2 f3 HG2 HM2 HBr HVb hz2
                            go_wp2_with fail
                            go_meet
                            case rel => exact ⟨by simp, HX.out⟩
                      · have e3 : (v0 == 3) = false := by simpa using h3
                        by_cases h4 : v0 = 4
                        · subst h4
                          clear e0 e1 hk e2 h2 e3 h3
                          as_aux_lemma =>
                            clear y0
                            cases ht : boundG g with
                            | none =>
                              have HX := bound_n HG2.out ht
                              have HT := Lib.hid (fun (u : World) (hu : Below wr.heap.size wr u) => (HM2.out.keep hu).bound_n ht)
                              clear ht
                              go_wp2_with (go_at_call 11; refine HX.mono ?_; rintro e u2 ⟨rfl, b2⟩; refine Hid.out ?_)
                              refine Lib.hid ?_
                              have HT1 := HT.out _ b2
                              have HX2 := Lib.hid (show ∃ g' : Gt Rg, g'.ws.length = N ∧ GX W.heap.size u2 B g' ∧ MX W.heap.size u2 M WB LB g' ∧ Below W.heap.size W u2 ∧ u2.heap[vb]? = some (.cells #[.int .i64 4, .int .i64 v1, .int .i64 v2] 34 (0, 0)) from ⟨g, hgl, HG2.out.keep b2, HM2.out.keep b2, HBr.out.trans (b2.mono HBr.out.size), (b2.block _ (some_lt HVb.out)).trans HVb.out⟩)
                              clear HX HT b2 HG2 HM2 HBr HVb
                              go_wp2_with (go_at_call 12; refine HT1.mono ?_; rintro e u3 ⟨rfl, rfl⟩)
                              go_meet
                              case rel => exact ⟨by simp, HX2.out⟩
                            | some x =>
                              obtain ⟨m, g'⟩ := x
                              have hgl2 : g'.ws.length = N := (boundG_len ht).trans hgl
                              have HX := bound_x HG2.out ht
                              have HT := Lib.hid (fun (u : World) (f : FrG W.heap.size wr u) => (HM2.out.frg f).bound_x ht)
                              clear ht
                              go_wp2_with (go_at_call 11; refine HX.mono ?_; rintro e u2 ⟨rfl, hG3, f2⟩; refine Hid.out ?_)
                              refine Lib.hid ?_
                              have HT1 := HT.out _ f2
                              clear HX HT
                              go_wp2_with (go_at_call 12; refine HT1.mono ?_; rintro e u3 ⟨rfl, hM3, f3⟩; refine Hid.out ?_)
                              refine Lib.hid ?_
                              have HX2 := Lib.hid (show ∃ g' : Gt Rg, g'.ws.length = N ∧ GX W.heap.size u3 B g' ∧ MX W.heap.size u3 M WB LB g' ∧ Below W.heap.size W u3 ∧ u3.heap[vb]? = some (.cells #[.int .i64 4, .int .i64 v1, .int .i64 v2] 34 (0, 0)) from ⟨g', hgl2, hG3.frd f3, hM3, (HBr.out.trans f2.toBelow).trans f3.toBelow, f3.kept _ _ (f2.kept _ _ HVb.out (notTurns (by decide))) (notTurnsD (by decide))⟩)
                              clear HT1 hG3 hM3 f2 f3 HG2 HM2 HBr HVb
                              go_wp2_with fail
                              go_meet
                              case rel => exact ⟨by simp, HX2.out⟩
                        · have e4 : (v0 == 4) = false := by simpa using h4
                          as_aux_lemma =>
                            go_wp2_with fail
                            go_meet
                            case rel => exact ⟨rfl, g, hgl, HG2.out, HM2.out, HBr.out, HVb.out⟩
                case rest =>
                  as_aux_lemma =>
                    obtain ⟨rfl, g', hgl', hG, hM, hB, hV⟩ := hcut
                    rename World => wc
                    clear HG2 HM2 HBr HVb y0
                    obtain ⟨c0, hrows⟩ := hM.rows
                    have hle := manyK_le hM.len
                    have hend := manyK_end g' (Nat.le_of_eq hgl')
                    have hnext := fun k (hk : k < g'.ws.length) => manyK_next g'.ws hk
                    have hl4 := hM.len
                    rw [hgl'] at c0 hle hnext hrows hl4
                    have HR := Lib.hid hrows
                    have HL := Lib.hid hle
                    have HN := Lib.hid hnext
                    have HEd := Lib.hid hend
                    have HL4 := Lib.hid hl4
                    have HGc := Lib.hid hG
                    have HMc := Lib.hid hM
                    have HBc := Lib.hid hB
                    have HVc := Lib.hid hV
                    have hm0 : manyK g'.ws 0 = 0 := by simp [manyK]
                    have hw1 : wc.cell? ⟨vb, 1, none⟩ = some (.int .i64 v1) := by simp [World.cell?, hV]
                    clear hrows hle hnext hend hl4 hG hM hB hV
                    apply_assumption
                    go_wp2_with fail
                    go_loopw [24, 25] (fun nv jv wr => ∃ k : Nat, k ≤ N ∧ nv = .int .i64 (manyK g'.ws k : Nat) ∧ jv = .int .i64 (k : Nat) ∧ wr = wc) (fun _ jv _ => N - (intOf jv).toNat)
                    case atStart => exact ⟨0, Nat.zero_le _, by rw [hm0]; rfl, rfl, rfl⟩
                    case round =>
                      obtain ⟨k, hk, rfl, rfl, rfl⟩ := hrel
                      rename World => wd
                      by_cases hlt : k < N
                      · have hlt' : (k : Int) < N := by omega
                        obtain ⟨p, c, e0⟩ := HR.out k hlt
                        have hx := HN.out k hlt
                        have hy := HL.out (k + 1) (by omega)
                        rw [hx] at hy
                        have HX := Lib.hid hx
                        generalize (g'.ws.getD k []).length = a at *
                        generalize manyK g'.ws k = m at *
                        clear hx
                        go_wp2_with fail
                        go_roundw
                        case rel => exact ⟨k + 1, by omega, by rw [HX.out]; go_num, by go_num, trivial⟩
                        case measure => simp [intOf]; omega
                      · have hlt' : ¬ (k : Int) < N := by omega
                        obtain rfl : k = N := by omega
                        rw [HEd.out]
                        have HWt := waiting_x HGc.out
                        have HWe0 : manyG g' = manyG g' := rfl
                        generalize hmg : manyG g' = mg at HWt ⊢
                        have HWe := Lib.hid hmg
                        clear hmg HWe0
                        have HRel := Lib.hid (fun (u : World) (hu : Below wd.heap.size wd u) => (show GX W.heap.size u B g' ∧ MX W.heap.size u M WB LB g' ∧ Below W.heap.size W u from ⟨HGc.out.keep hu, HMc.out.keep hu, HBc.out.trans (hu.mono HBc.out.size)⟩))
                        by_cases hin : 0 ≤ v1 ∧ v1 < k
                        · obtain ⟨i, rfl⟩ : ∃ i : Nat, v1 = i := ⟨v1.toNat, by omega⟩
                          have hi : i < k := by omega
                          have hi' : (i : Int) < k := by omega
                          have hi0 : (0 : Int) ≤ (i : Int) := by omega
                          have HMb := HMc.out.blocked (i := i) (by omega)
                          have HGb := gblocked_ok HGc.out i (by omega)
                          have HE := error_nil wd
                          generalize (hBar (g'.ws.getD i [])).isSome = bb at *
                          clear HR HL HN HEd HL4 HGc HMc HVc hm0 hin
                          go_wp2_with first | (go_at_call 13; refine HMb.mono ?_; rintro e u ⟨rfl, rfl⟩) | (go_at_call 14; refine HGb.mono ?_; rintro e u ⟨rfl, rfl⟩) | (go_at_call 5; refine HE.mono ?_; rintro e u ⟨rfl, rfl⟩) | (go_at_call 15; refine HWt.mono ?_; rintro e u9 ⟨rfl, b9⟩; refine Hid.out ?_)
                          refine Lib.hid ?_
                          have HX := Lib.hid (HRel.out u9 b9)
                          clear HRel b9 HWt HMb HGb HE
                          cases bb
                          all_goals
                            go_wp2_with fail
                            go_roundw
                            case rel => exact ⟨j + 1, g', by simp, by omega, by omega, by go_num, hgl', HX.out⟩
                            case measure => simp [intOf]; omega
                        · have HGb := gblocked_bad HGc.out v1 (by omega)
                          have HE : Calls Tryd.prog 5 #[erV 1, .int .i64 1] wd fun e w' => e = .returned (.bool true) ∧ Below wd.heap.size wd w' := error_any 1 wd (HG.out wd HBc.out)
                          have HWt2 := Lib.hid (fun (u : World) (hu : Below wd.heap.size wd u) => (show Calls Tryd.prog 15 #[.pointer (some ⟨B, 0, none⟩)] u fun e w' => e = .returned (.int .i64 (mg : Nat)) ∧ Below u.heap.size u w' from HWe.out ▸ waiting_x (HGc.out.keep hu)))
                          have hcase : ¬ 0 ≤ v1 ∨ (0 ≤ v1 ∧ ¬ v1 < k) := by omega
                          clear HWt HR HL HN HEd HL4 hm0 HMc HVc hin HGc
                          rcases hcase with n1 | ⟨n1, n2⟩
                          all_goals
                            go_wp2_with first | (go_at_call 14; refine HGb.mono ?_; rintro e u ⟨rfl, rfl⟩) | (go_at_call 5; refine HE.mono ?_; rintro e u8 ⟨rfl, b8⟩; refine Hid.out ?_)
                            refine Lib.hid ?_
                            have HWt3 := HWt2.out u8 b8
                            go_wp2_with (go_at_call 15; refine HWt3.mono ?_; rintro e u9 ⟨rfl, b9⟩; refine Hid.out ?_)
                            refine Lib.hid ?_
                            have HX := Lib.hid (HRel.out u9 (b8.trans (b9.mono b8.size)))
                            clear HRel b8 b9 HWt2 HWt3 HGb HE
                            go_wp2_with fail
                            go_roundw
                            case rel => exact ⟨j + 1, g', by simp, by omega, by omega, by go_num, hgl', HX.out⟩
                            case measure => simp [intOf]; omega
      · have hcase : ¬ (j : Int) < P.length ∨ ((j : Int) < P.length ∧ ¬ (j : Int) < 120) := by omega
        clear hG hM
        rcases hcase with n1 | ⟨n1, n2⟩
        all_goals
          go_wp2_with fail
          go_ret
          exact ⟨rfl, hB⟩
end Go.Proofs.YtneglanmigifhaaDoor
