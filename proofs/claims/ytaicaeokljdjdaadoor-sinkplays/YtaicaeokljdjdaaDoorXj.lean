/- SinkPlays's walk. -/
import Derived.Test.YtaicaeokljdjdaaDoorXl
import Derived.Deep.DeepCutAuto
namespace Go.Proofs.YtaicaeokljdjdaaDoor
open Go.ChangeShapes Go.WideShapes Go.RowKit
set_option linter.unusedVariables false
/-- The first t of two numbers. -/
def vv (l : List Int) (t m : Nat) : Int := if m < t then l.getD m 0 else 0
def BoS (W w : World) (B : Nat) (K : Nat → Prop) (s : Sk Rg) (vw vo vl vi : Value) : Prop := Bo W w B K s vw vo vl vi s.wr s.op (s.sl.map Prod.snd) (s.sl.map Prod.fst)
theorem BoS.of {W w : World} {B : Nat} {K : Nat → Prop} {s : Sk Rg} {vw vo vl vi : Value} {wr op : List Rg} {sl : List (List Rg)} {ids : List Int} (h : Bo W w B K s vw vo vl vi wr op sl ids) (h1 : wr = s.wr) (h2 : op = s.op) (h3 : sl = s.sl.map Prod.snd) (h4 : ids = s.sl.map Prod.fst) : BoS W w B K s vw vo vl vi := by subst h1 h2 h3 h4; exact h
theorem BoS.new {W w : World} {B : Nat} (h : SkEnd (fun _ => False) W B newS w) : BoS W w B (fun _ => False) newS (.slice none 0 0) (.slice none 0 0) (.slice none 0 0) (.slice none 0 0) := by
  obtain ⟨F, h1, h2, h3⟩ := h
  refine ⟨h2.toBelow (fun k hk => hk.elim) (Nat.le_refl _), F, fun _ => False, [], h1, ⟨RwAt.nil _ _ _, RwAt.nil _ _ _, RwAt.nil _ _ _, RwAt.nil _ _ _, .nil, ?_, ?_, fun k hk => hk.elim⟩, fun k _ h => h, fun k hk => ⟨?_, fun h => h⟩, fun k hk => hk.elim⟩
  · refine List.pairwise_cons.2 ⟨fun v hv => nil_neb v, by simp⟩
  · intro v hv b hb
    simp at hv; subst hv; simp [Value.ownBlock] at hb
  · rcases h3 k hk with h | h
    · exact h.elim
    · exact h
theorem BoS.shape2 {W w : World} {B : Nat} {K : Nat → Prop} {s : Sk Rg} {vw vo vl vi : Value} (h : BoS W w B K s vw vo vl vi) : (∃ A c, vw = .slice A s.wr.length c) ∧ (∃ A c, vo = .slice A s.op.length c) ∧ (∃ A c, vl = .slice A s.sl.length c) ∧ ∃ A c, vi = .slice A s.sl.length c := by
  obtain ⟨⟨A1, c1, h1, -⟩, ⟨A2, c2, h2⟩, ⟨A3, c3, h3⟩, A4, c4, h4, -⟩ := Bo.shape h
  rw [List.length_map] at h3 h4
  exact ⟨⟨A1, c1, h1⟩, ⟨A2, c2, h2⟩, ⟨A3, c3, h3⟩, A4, c4, h4⟩
theorem comm_sub {α : Type} (id : Int) : ∀ l : List (Int × List α), (comm id l).2.length ≤ l.length
  | [] => Nat.le_refl _
  | t :: l => by
    rw [comm]
    split
    · have := comm_sub id l; simp only [List.length_cons]; omega
    · exact Nat.le_refl _
theorem KpK.trans {K : Nat → Prop} {a b c : World} (h1 : KpK K a b) (h2 : KpK K b c) (hs : a.heap.size ≤ b.heap.size) : KpK K a c := fun k hk hl => (h2 k hk (by omega)).trans (h1 k hk hl)
theorem KpK.below {K : Nat → Prop} {a b : World} (h : Below a.heap.size a b) : KpK K a b := fun k _ hl => h.block k hl
set_option maxRecDepth 100000 in
set_option maxHeartbeats 4000000 in
theorem plays_walk (W : World) (a1 : Option Addr) (c1 : Nat) (P : List (List Int)) (hP : IiAt W a1 P) (hg : W.cell? ⟨0, 0, none⟩ = some ET) :
    Calls Tryd.prog 3 #[.slice a1 P.length c1] W fun e w' => e = .returned (.bool true) ∧ Below W.heap.size W w' := by
  have HG := Lib.hid (fun (u : World) (hb : Below W.heap.size W u) => et_below hg hb)
  have HPr := Lib.hid hP
  clear hP hg
  have HN := new_any W
  go_enter Tryd.func3, Tryd.ntmps3
  go_wp2_with (go_at_call 4; refine HN.mono ?_; rintro e u0 ⟨B, rfl, h0⟩; refine Hid.out ?_)
  refine Lib.hid ?_
  have H0 := Lib.hid (BoS.new h0)
  clear HN h0
  go_wp2_with fail
  go_loopw [4, 5, 6, 7, 8, 9] (fun v4 v5 v6 v7 v8 iv wr => ∃ (j : Nat) (s : Sk Rg), j ≤ P.length ∧ j ≤ 100 ∧ iv = .int .i64 (j : Nat) ∧ v8 = .int .i64 s.la ∧ Hid (totS s ≤ j ∧ s.sl.length ≤ j ∧ BoS W wr B (fun _ => False) s v5 v4 v6 v7)) (fun _ _ _ _ _ iv _ => 100 - (intOf iv).toNat)
  case atStart => exact ⟨0, newS, Nat.zero_le _, by omega, rfl, rfl, Lib.hid ⟨Nat.le_refl _, Nat.le_refl _, H0.out⟩⟩
  case round =>
    clear H0
    obtain ⟨j, s, hj1, hj2, rfl, rfl, hX⟩ := hrel
    rename World => wo
    by_cases hl : j < P.length ∧ j < 100
    · obtain ⟨m1, m2⟩ := hl
      have n1 : (j : Int) < P.length := by omega
      have n2 : (j : Int) < 100 := by omega
      obtain ⟨pb, po, rfl, hrow⟩ : ∃ b o, a1 = some ⟨b, o, none⟩ ∧ ∀ i (h : i < P.length), ∃ q c, W.cell? ⟨b, o + i, none⟩ = some (.slice q P[i].length c) ∧ IsAt W q P[i] := by
        rcases HPr.out with h | h
        · subst h; simp at m1
        · exact h
      obtain ⟨q, qc, hq, hqI⟩ := hrow j m1
      generalize P[j] = l at *
      have r1 := Lib.hid (fun (u : World) (hu : Below W.heap.size W u) => (hu.cell (p := ⟨pb, po + j, none⟩) (cell_lt hq)).trans hq)
      have r2 := Lib.hid hqI
      clear hq hqI hrow
      have hB : Below W.heap.size W wo := hX.out.2.2.1
      have hVa : Below wo.heap.size wo (wo.alloc (.cells #[.int .i64 0, .int .i64 0] 28)) := (Below.refl _ _).alloc (Nat.le_refl _) _
      have hV0 : (wo.alloc (.cells #[.int .i64 0, .int .i64 0] 28)).heap[wo.heap.size]? = some (.cells #[.int .i64 (vv l 0 0), .int .i64 (vv l 0 1)] 28) := by
        rw [heap_alloc_new]; simp [vv]
      have hz0 : wo.heap.size + 1 ≤ (wo.alloc (.cells #[.int .i64 0, .int .i64 0] 28)).heap.size := by simp
      go_wp2_with fail
      go_loopw [11] (fun i wr => ∃ t : Nat, t ≤ l.length ∧ t ≤ 2 ∧ i = .int .i64 t ∧ Below wo.heap.size wo wr ∧ wr.heap[wo.heap.size]? = some (.cells #[.int .i64 (vv l t 0), .int .i64 (vv l t 1)] 28) ∧ wo.heap.size + 1 ≤ wr.heap.size) (fun i _ => 2 - (intOf i).toNat)
      case atStart => exact ⟨0, Nat.zero_le _, by omega, rfl, hVa, hV0, hz0⟩
      case round =>
        clear hVa hV0 hz0
        obtain ⟨t, ht, ht4, rfl, hVa, hV0, hz0⟩ := hrel
        rename World => wr
        have hBv : Below W.heap.size W wr := hB.trans (hVa.mono hB.size)
        have rr1 := r1.out wr hBv
        by_cases hl : t < l.length ∧ t < 2
        · obtain ⟨m1, m2⟩ := hl
          have n1 : (t : Int) < l.length := by omega
          have n2 : (t : Int) < 2 := by omega
          obtain ⟨lb, lo', rfl, s2⟩ : ∃ b o, q = some ⟨b, o, none⟩ ∧ ∀ i (h : i < l.length), W.cell? ⟨b, o + i, none⟩ = some (.int .i64 l[i]) := by
            rcases r2.out with h | h
            · subst h; simp at m1
            · exact h
          have s3 := s2 t m1
          have s4 : wr.cell? ⟨lb, lo' + t, none⟩ = some (.int .i64 (l.getD t 0)) := by
            rw [(hBv.cell (p := ⟨lb, lo' + t, none⟩) (cell_lt s3)).trans s3]; simp [List.getD, m1]
          have vc : ∀ m, m < 2 → wr.cell? ⟨wo.heap.size, m, none⟩ = some (.int .i64 (vv l t m)) := fun m hm => by
            obtain rfl | rfl : m = 0 ∨ m = 1 := by omega
            all_goals simp [World.cell?, hV0]
          have vc0 := vc t m2
          have vf : wr.frozen? ⟨wo.heap.size, t, none⟩ = false := by simp [World.frozen?, hV0]
          have HV : Hid ((wr.setCell ⟨wo.heap.size, t, none⟩ (.int .i64 (l.getD t 0))).heap[wo.heap.size]? = some (.cells #[.int .i64 (vv l (t + 1) 0), .int .i64 (vv l (t + 1) 1)] 28)) := by
            show _ = _
            obtain rfl | rfl : t = 0 ∨ t = 1 := by omega
            all_goals simp [World.setCell, Array.getElem?_modify, hV0, vv]
          have HB : Hid (Below wo.heap.size wo (wr.setCell ⟨wo.heap.size, t, none⟩ (.int .i64 (l.getD t 0)))) := hVa.setCell (Nat.le_refl _) _
          clear s2 s3 vc
          generalize l.getD t 0 = lt at *
          go_wp2
          go_roundw
          case rel => exact ⟨t + 1, by omega, by omega, by go_num, HB.out, HV.out, by simpa using hz0⟩
          case measure => simp [intOf]; omega
        · have hcase : ¬ (t : Int) < l.length ∨ ((t : Int) < l.length ∧ ¬ (t : Int) < 2) := by omega
          generalize vv l t 0 = v0 at *
          generalize vv l t 1 = v1 at *
          have HX2 := Lib.hid (show totS s ≤ j ∧ s.sl.length ≤ j ∧ BoS W wr B (fun k => k = wo.heap.size) s u5 u4 u6 u7 from ⟨hX.out.1, hX.out.2.1, hX.out.2.2.more hVa _ (fun k hk => .inr (by omega))⟩)
          have HVb := Lib.hid hV0
          have y0 : wr.cell? ⟨wo.heap.size, 0, none⟩ = some (.int .i64 v0) := by simp [World.cell?, hV0]
          clear hX hV0 r1 r2
          generalize wo.heap.size = vb at *
          obtain ⟨⟨Aw, cw, rfl⟩, ⟨Ao, co, rfl⟩, ⟨Al, cl, rfl⟩, Ai, ci, rfl⟩ := HX2.out.2.2.shape2
          go_upto_region 11 with fail
          go_cut [44] (fun t wc => wr = wc ∧ t = .bool false)
          case first =>
            rcases hcase with n1 | ⟨n1, n2⟩
            · go_wp2_with fail
              go_meet
              case rel => exact ⟨rfl, by simp⟩
            · go_wp2_with fail
              go_meet
              case rel => exact ⟨rfl, by simp⟩
          case rest =>
            obtain ⟨rfl, rfl⟩ := hcut
            clear hcase rr1 n1 n2
            go_upto_region 15 with fail
            go_cut [57] (fun t wc => wr = wc ∧ t = .int .i64 v0)
            case first =>
              go_wp2_with fail
              go_meet
              case rel => exact ⟨rfl, rfl⟩
            case rest =>
              obtain ⟨rfl, rfl⟩ := hcut
              apply_assumption
              have HBr := Lib.hid hBv
              have hvl := some_lt HVb.out
              clear hBv hVa hB hz0 hj1 y0
              go_cut [4, 5, 6, 7, 8, 12] (fun v4 v5 v6 v7 v8 td wc => ∃ s' : Sk Rg, td = .bool true ∧ v8 = .int .i64 s'.la ∧ Hid (totS s' ≤ j + 1 ∧ s'.sl.length ≤ j + 1 ∧ BoS W wc B (fun k => k = vb) s' v5 v4 v6 v7))
              case first =>
                by_cases hk : v0 = 0 ∨ v0 = 1 ∨ v0 = 2
                · rcases hk with rfl | rfl | rfl
                  · as_aux_lemma =>
                      have y1 : wr.cell? ⟨vb, 1, none⟩ = some (.int .i64 v1) := by have := HVb.out; simp [World.cell?, this]
                      obtain ⟨ht, hs, hX⟩ := HX2.out
                      have hop : s.op.length ≤ j := by unfold totS at ht; omega
                      have hva : Below wr.heap.size wr (wr.alloc (.cells #[.string ⟨#[107]⟩, .int .i64 v1, .int .i64 0] 30)) := (Below.refl _ _).alloc (Nat.le_refl _) _
                      have hrb : (wr.alloc (.cells #[.string ⟨#[107]⟩, .int .i64 v1, .int .i64 0] 30)).heap[wr.heap.size]? = some (.cells #[.string ⟨#[107]⟩, .int .i64 v1, .int .i64 0] 30 (0, 0)) := heap_alloc_new wr _
                      have h1 := hX.more hva (fun k => k = vb ∨ k = wr.heap.size) (fun k hk => hk.imp id (fun e => by omega))
                      have HAd := bo_add h1 (fun k hk => by simp only [World.size_alloc]; omega) (by omega) ⟨⟨#[107]⟩, v1, 0⟩ (by show 1 ≤ _; omega)
                      have HL2 := Lib.hid (And.intro ht hs)
                      have HRB := Lib.hid hrb
                      simp only [rV] at HAd
                      clear h1 hX hva hrb HX2 ht hs
                      go_wp2_with (go_at_call 5; refine HAd.mono ?_; rintro e u2 ⟨rfl, hB2, hK2⟩; refine Hid.out ?_)
                      refine Lib.hid ?_
                      have hrb2 := (hK2 wr.heap.size (.inr rfl) (some_lt HRB.out)).trans HRB.out
                      have hvb2 : vb < u2.heap.size := by
                        have h1 := hK2 vb (.inl rfl) (by simp only [World.size_alloc]; omega)
                        have h2 : (wr.alloc (.cells #[.string ⟨#[107]⟩, .int .i64 v1, .int .i64 0] 30)).heap[vb]? = wr.heap[vb]? := ((Below.refl wr.heap.size wr).alloc (Nat.le_refl _) _).block vb hvl
                        exact some_lt ((h1.trans h2).trans HVb.out)
                      have x0 : u2.cell? ⟨wr.heap.size, 0, none⟩ = some (.string ⟨#[107]⟩) := by simp [World.cell?, hrb2]
                      have x1 : u2.cell? ⟨wr.heap.size, 1, none⟩ = some (.int .i64 v1) := by simp [World.cell?, hrb2]
                      have x2 : u2.cell? ⟨wr.heap.size, 2, none⟩ = some (.int .i64 0) := by simp [World.cell?, hrb2]
                      have hrl := some_lt hrb2
                      have hvc : Below u2.heap.size u2 (u2.alloc (.cells #[.string ⟨#[107]⟩, .int .i64 v1, .int .i64 0] 30)) := (Below.refl _ _).alloc (Nat.le_refl _) _
                      obtain ⟨A9, c9, w9, hrun, hB9, hK9⟩ := bo_appOp (hB2.keep hvc) (fun k hk => by simp only [World.size_alloc]; omega) (by omega) ⟨⟨#[107]⟩, v1, 0⟩ (g := u2.heap.size) (heap_alloc_new u2 _)
                      have HR := Lib.hid hrun
                      have HE := Lib.hid (show totS (addS s ⟨⟨#[107]⟩, v1, 0⟩) ≤ j + 1 ∧ (addS s ⟨⟨#[107]⟩, v1, 0⟩).sl.length ≤ j + 1 ∧ BoS W w9 B (fun k => k = vb) (addS s ⟨⟨#[107]⟩, v1, 0⟩) (.slice Aw s.wr.length cw) (.slice A9 (s.op.length + 1) c9) (.slice Al s.sl.length cl) (.slice Ai s.sl.length ci) from
                        ⟨by rw [tot_add]; have := HL2.out.1; omega, by have := HL2.out.2; simp only [addS]; omega, BoS.of (hB9.more (Below.refl _ _) _ (fun k hk => .inl (.inl hk))) rfl rfl rfl rfl⟩)
                      clear hrun hB9 hK9 hvc hrb2 hB2 hK2 HAd HL2 HRB
                      generalize wr.heap.size = rb at *
                      go_wp2_with (at_builtin; refine wpList_append_run (by rfl) _ _ _ (by rfl) _ _ _ _ (by rfl) (by rfl) (by exact HR.out) ?_)
                      go_meet
                      case rel => exact ⟨addS s ⟨⟨#[107]⟩, v1, 0⟩, rfl, rfl, HE⟩
                  · as_aux_lemma =>
                      have y1 : wr.cell? ⟨vb, 1, none⟩ = some (.int .i64 v1) := by have := HVb.out; simp [World.cell?, this]
                      obtain ⟨ht, hs, hX⟩ := HX2.out
                      have hop : s.op.length ≤ j := by unfold totS at ht; omega
                      have hva : Below wr.heap.size wr (wr.alloc (.cells #[.string ⟨#[107]⟩, .int .i64 v1, .int .i64 0] 30)) := (Below.refl _ _).alloc (Nat.le_refl _) _
                      have hrb : (wr.alloc (.cells #[.string ⟨#[107]⟩, .int .i64 v1, .int .i64 0] 30)).heap[wr.heap.size]? = some (.cells #[.string ⟨#[107]⟩, .int .i64 v1, .int .i64 0] 30 (0, 0)) := heap_alloc_new wr _
                      have h1 := hX.more hva (fun k => k = vb ∨ k = wr.heap.size) (fun k hk => hk.imp id (fun e => by omega))
                      have HAd := bo_add h1 (fun k hk => by simp only [World.size_alloc]; omega) (by omega) ⟨⟨#[107]⟩, v1, 0⟩ (by show 1 ≤ _; omega)
                      have HL2 := Lib.hid (And.intro ht hs)
                      have HRB := Lib.hid hrb
                      simp only [rV] at HAd
                      clear h1 hX hva hrb HX2 ht hs
                      go_wp2_with (go_at_call 5; refine HAd.mono ?_; rintro e u2 ⟨rfl, hB2, hK2⟩; refine Hid.out ?_)
                      refine Lib.hid ?_
                      have hrb2 := (hK2 wr.heap.size (.inr rfl) (some_lt HRB.out)).trans HRB.out
                      have hvb2 : vb < u2.heap.size := by
                        have h1 := hK2 vb (.inl rfl) (by simp only [World.size_alloc]; omega)
                        have h2 : (wr.alloc (.cells #[.string ⟨#[107]⟩, .int .i64 v1, .int .i64 0] 30)).heap[vb]? = wr.heap[vb]? := ((Below.refl wr.heap.size wr).alloc (Nat.le_refl _) _).block vb hvl
                        exact some_lt ((h1.trans h2).trans HVb.out)
                      have x0 : u2.cell? ⟨wr.heap.size, 0, none⟩ = some (.string ⟨#[107]⟩) := by simp [World.cell?, hrb2]
                      have x1 : u2.cell? ⟨wr.heap.size, 1, none⟩ = some (.int .i64 v1) := by simp [World.cell?, hrb2]
                      have x2 : u2.cell? ⟨wr.heap.size, 2, none⟩ = some (.int .i64 0) := by simp [World.cell?, hrb2]
                      have hrl := some_lt hrb2
                      have hvc : Below u2.heap.size u2 (u2.alloc (.cells #[.string ⟨#[107]⟩, .int .i64 v1, .int .i64 0] 30)) := (Below.refl _ _).alloc (Nat.le_refl _) _
                      obtain ⟨A9, c9, w9, hrun, hB9, hK9⟩ := bo_appOp (hB2.keep hvc) (fun k hk => by simp only [World.size_alloc]; omega) (by omega) ⟨⟨#[107]⟩, v1, 0⟩ (g := u2.heap.size) (heap_alloc_new u2 _)
                      have HR := Lib.hid hrun
                      have HE := Lib.hid (show totS (addS s ⟨⟨#[107]⟩, v1, 0⟩) ≤ j + 1 ∧ (addS s ⟨⟨#[107]⟩, v1, 0⟩).sl.length ≤ j + 1 ∧ BoS W w9 B (fun k => k = vb) (addS s ⟨⟨#[107]⟩, v1, 0⟩) (.slice Aw s.wr.length cw) (.slice A9 (s.op.length + 1) c9) (.slice Al s.sl.length cl) (.slice Ai s.sl.length ci) from
                        ⟨by rw [tot_add]; have := HL2.out.1; omega, by have := HL2.out.2; simp only [addS]; omega, BoS.of (hB9.more (Below.refl _ _) _ (fun k hk => .inl (.inl hk))) rfl rfl rfl rfl⟩)
                      clear hrun hB9 hK9 hvc hrb2 hB2 hK2 HAd HL2 HRB
                      generalize wr.heap.size = rb at *
                      go_wp2_with (at_builtin; refine wpList_append_run (by rfl) _ _ _ (by rfl) _ _ _ _ (by rfl) (by rfl) (by exact HR.out) ?_)
                      go_meet
                      case rel => exact ⟨addS s ⟨⟨#[107]⟩, v1, 0⟩, rfl, rfl, HE⟩
                  · as_aux_lemma =>
                      have y1 : wr.cell? ⟨vb, 1, none⟩ = some (.int .i64 v1) := by have := HVb.out; simp [World.cell?, this]
                      obtain ⟨ht, hs, hX⟩ := HX2.out
                      have hop : s.op.length ≤ j := by unfold totS at ht; omega
                      have hva : Below wr.heap.size wr (wr.alloc (.cells #[.string ⟨#[107]⟩, .int .i64 v1, .int .i64 0] 30)) := (Below.refl _ _).alloc (Nat.le_refl _) _
                      have hrb : (wr.alloc (.cells #[.string ⟨#[107]⟩, .int .i64 v1, .int .i64 0] 30)).heap[wr.heap.size]? = some (.cells #[.string ⟨#[107]⟩, .int .i64 v1, .int .i64 0] 30 (0, 0)) := heap_alloc_new wr _
                      have h1 := hX.more hva (fun k => k = vb ∨ k = wr.heap.size) (fun k hk => hk.imp id (fun e => by omega))
                      have HAd := bo_add h1 (fun k hk => by simp only [World.size_alloc]; omega) (by omega) ⟨⟨#[107]⟩, v1, 0⟩ (by show 1 ≤ _; omega)
                      have HL2 := Lib.hid (And.intro ht hs)
                      have HRB := Lib.hid hrb
                      simp only [rV] at HAd
                      clear h1 hX hva hrb HX2 ht hs
                      go_wp2_with (go_at_call 5; refine HAd.mono ?_; rintro e u2 ⟨rfl, hB2, hK2⟩; refine Hid.out ?_)
                      refine Lib.hid ?_
                      have hrb2 := (hK2 wr.heap.size (.inr rfl) (some_lt HRB.out)).trans HRB.out
                      have hvb2 : vb < u2.heap.size := by
                        have h1 := hK2 vb (.inl rfl) (by simp only [World.size_alloc]; omega)
                        have h2 : (wr.alloc (.cells #[.string ⟨#[107]⟩, .int .i64 v1, .int .i64 0] 30)).heap[vb]? = wr.heap[vb]? := ((Below.refl wr.heap.size wr).alloc (Nat.le_refl _) _).block vb hvl
                        exact some_lt ((h1.trans h2).trans HVb.out)
                      have x0 : u2.cell? ⟨wr.heap.size, 0, none⟩ = some (.string ⟨#[107]⟩) := by simp [World.cell?, hrb2]
                      have x1 : u2.cell? ⟨wr.heap.size, 1, none⟩ = some (.int .i64 v1) := by simp [World.cell?, hrb2]
                      have x2 : u2.cell? ⟨wr.heap.size, 2, none⟩ = some (.int .i64 0) := by simp [World.cell?, hrb2]
                      have hrl := some_lt hrb2
                      have hvc : Below u2.heap.size u2 (u2.alloc (.cells #[.string ⟨#[107]⟩, .int .i64 v1, .int .i64 0] 30)) := (Below.refl _ _).alloc (Nat.le_refl _) _
                      obtain ⟨A9, c9, w9, hrun, hB9, hK9⟩ := bo_appOp (hB2.keep hvc) (fun k hk => by simp only [World.size_alloc]; omega) (by omega) ⟨⟨#[107]⟩, v1, 0⟩ (g := u2.heap.size) (heap_alloc_new u2 _)
                      have HR := Lib.hid hrun
                      have HE := Lib.hid (show totS (addS s ⟨⟨#[107]⟩, v1, 0⟩) ≤ j + 1 ∧ (addS s ⟨⟨#[107]⟩, v1, 0⟩).sl.length ≤ j + 1 ∧ BoS W w9 B (fun k => k = vb) (addS s ⟨⟨#[107]⟩, v1, 0⟩) (.slice Aw s.wr.length cw) (.slice A9 (s.op.length + 1) c9) (.slice Al s.sl.length cl) (.slice Ai s.sl.length ci) from
                        ⟨by rw [tot_add]; have := HL2.out.1; omega, by have := HL2.out.2; simp only [addS]; omega, BoS.of (hB9.more (Below.refl _ _) _ (fun k hk => .inl (.inl hk))) rfl rfl rfl rfl⟩)
                      clear hrun hB9 hK9 hvc hrb2 hB2 hK2 HAd HL2 HRB
                      generalize wr.heap.size = rb at *
                      go_wp2_with (at_builtin; refine wpList_append_run (by rfl) _ _ _ (by rfl) _ _ _ _ (by rfl) (by rfl) (by exact HR.out) ?_)
                      go_meet
                      case rel => exact ⟨addS s ⟨⟨#[107]⟩, v1, 0⟩, rfl, rfl, HE⟩
                · have e0 : (v0 == 0) = false := by simp; omega
                  have e1 : (v0 == 1) = false := by simp; omega
                  have e2 : (v0 == 2) = false := by simp; omega
                  by_cases h3 : v0 = 3
                  · subst h3
                    clear e0 e1 e2 hk
                    as_aux_lemma =>
                      have y1 : wr.cell? ⟨vb, 1, none⟩ = some (.int .i64 v1) := by have := HVb.out; simp [World.cell?, this]
                      by_cases h1 : v1 < 1
                      · have HS := seal_rng B v1 h1 wr
                        have HE : Calls Tryd.prog 6 #[erV 1, .int .i64 1] wr fun e w' => e = .returned (.bool true) ∧ Below wr.heap.size wr w' := error_hit 1 wr (HG.out wr HBr.out)
                        go_wp2_with first | (go_at_call 7; refine HS.mono ?_; rintro e u2 ⟨rfl, rfl⟩) | (go_at_call 6; refine HE.mono ?_; rintro e u3 ⟨rfl, b3⟩; refine Hid.out ?_)
                        refine Lib.hid ?_
                        have HY := Lib.hid (show totS s ≤ j + 1 ∧ s.sl.length ≤ j + 1 ∧ BoS W u3 B (fun k => k = vb) s (.slice Aw s.wr.length cw) (.slice Ao s.op.length co) (.slice Al s.sl.length cl) (.slice Ai s.sl.length ci) from ⟨by have := HX2.out.1; omega, by have := HX2.out.2.1; omega, HX2.out.2.2.keep b3⟩)
                        clear HS HE b3
                        go_wp2_with fail
                        go_meet
                        case rel => exact ⟨s, rfl, rfl, HY⟩
                      by_cases h2 : v1 ≤ s.la
                      · have HS := bo_ord HX2.out.2.2 v1 (by omega) h2
                        have HE : Calls Tryd.prog 6 #[erV 5, .int .i64 5] wr fun e w' => e = .returned (.bool true) ∧ Below wr.heap.size wr w' := error_hit 5 wr (HG.out wr HBr.out)
                        go_wp2_with first | (go_at_call 7; refine HS.mono ?_; rintro e u2 ⟨rfl, rfl⟩) | (go_at_call 6; refine HE.mono ?_; rintro e u3 ⟨rfl, b3⟩; refine Hid.out ?_)
                        refine Lib.hid ?_
                        have HY := Lib.hid (show totS s ≤ j + 1 ∧ s.sl.length ≤ j + 1 ∧ BoS W u3 B (fun k => k = vb) s (.slice Aw s.wr.length cw) (.slice Ao s.op.length co) (.slice Al s.sl.length cl) (.slice Ai s.sl.length ci) from ⟨by have := HX2.out.1; omega, by have := HX2.out.2.1; omega, HX2.out.2.2.keep b3⟩)
                        clear HS HE b3
                        go_wp2_with fail
                        go_meet
                        case rel => exact ⟨s, rfl, rfl, HY⟩
                      obtain ⟨ht, hs, hX⟩ := HX2.out
                      have HS := bo_seal hX (fun k hk => by omega) (by omega) v1 (by omega) (by omega)
                      have HL2 := Lib.hid (And.intro ht hs)
                      clear HX2 hX ht hs
                      go_wp2_with first | (go_at_call 7; refine HS.mono ?_; rintro e u2 ⟨rfl, hB2, hK2⟩) | (go_at_call 6; refine (error_nil _).mono ?_; rintro e u3 ⟨rfl, rfl⟩; refine Hid.out ?_)
                      refine Lib.hid ?_
                      rename World => u2
                      have hvb2 := (hK2 vb rfl hvl).trans HVb.out
                      have x1 : u2.cell? ⟨vb, 1, none⟩ = some (.int .i64 v1) := by simp [World.cell?, hvb2]
                      have hvl2 := some_lt hvb2
                      have hva : Below u2.heap.size u2 (u2.alloc (.cells #[.int .i64 v1] 3)) := (Below.refl _ _).alloc (Nat.le_refl _) _
                      obtain ⟨A8, c8, w8, hrun8, hB8, hK8⟩ := bo_appId (hB2.keep hva) (fun k hk => by simp only [World.size_alloc]; omega) (by have := HL2.out.2; simp; omega) v1 (g := u2.heap.size) (heap_alloc_new u2 _)
                      simp only [List.length_map] at hrun8 hB8
                      have hvb8 : w8.heap[vb]? = some (.cells #[.int .i64 3, .int .i64 v1] 28 (0, 0)) := (hK8 vb rfl (by simp only [World.size_alloc]; omega)).trans ((hva.block vb hvl2).trans hvb2)
                      have hvl8 := some_lt hvb8
                      have hvc : Below w8.heap.size w8 (w8.alloc (.cells #[.slice Ao s.op.length co] 25)) := (Below.refl _ _).alloc (Nat.le_refl _) _
                      obtain ⟨A9, c9, w9, hrun9, hB9, hK9⟩ := bo_appSl (hB8.keep hvc) (fun k hk => by simp only [World.size_alloc]; omega) (by have := HL2.out.2; simp; omega) (g := w8.heap.size) (heap_alloc_new w8 _)
                      simp only [List.length_map] at hrun9 hB9
                      have HR8 := Lib.hid hrun8
                      have HR9 := Lib.hid hrun9
                      have HE := Lib.hid (show totS (sealS s v1) ≤ j + 1 ∧ (sealS s v1).sl.length ≤ j + 1 ∧ BoS W w9 B (fun k => k = vb) (sealS s v1) (.slice Aw s.wr.length cw) (.slice none 0 0) (.slice A9 (s.sl.length + 1) c9) (.slice A8 (s.sl.length + 1) c8) from
                        ⟨by rw [tot_seal]; have := HL2.out.1; omega, by have := HL2.out.2; simp only [sealS, List.length_append, List.length_singleton]; omega, BoS.of hB9 rfl rfl (by simp [sealS]) (by simp [sealS])⟩)
                      have hla : (sealS s v1).la = v1 := rfl
                      clear hrun8 hrun9 hB8 hB9 hK8 hK9 hva hvc hB2 hK2 HS HL2 hvb2 hvb8
                      go_wp2_with (at_builtin; refine wpList_append_run (by rfl) _ _ _ (by rfl) _ _ _ _ (by rfl) (by rfl) (by exact HR8.out) ?_; refine Hid.out ?_)
                      refine Lib.hid ?_
                      go_wp2_with (at_builtin; refine wpList_append_run (by rfl) _ _ _ (by rfl) _ _ _ _ (by rfl) (by rfl) (by exact HR9.out) ?_)
                      go_meet
                      case rel => exact ⟨sealS s v1, rfl, rfl, HE⟩
                  · have e3 : (v0 == 3) = false := by simpa using h3
                    by_cases h4 : v0 = 4
                    · subst h4
                      clear e0 e1 e2 e3 hk h3
                      as_aux_lemma =>
                        have y1 : wr.cell? ⟨vb, 1, none⟩ = some (.int .i64 v1) := by have := HVb.out; simp [World.cell?, this]
                        by_cases h1 : v1 < 1
                        · have HC := commit_rng B v1 h1 wr
                          have HE : ∀ u : World, Below W.heap.size W u → Calls Tryd.prog 6 #[erV 1, .int .i64 1] u fun e w' => e = .returned (.bool true) ∧ Below u.heap.size u w' := fun u hu => error_hit 1 u (HG.out u hu)
                          go_wp2_with (go_at_call 8; refine HC.mono ?_; rintro e u2 ⟨rfl, rfl⟩; refine Hid.out ?_)
                          refine Lib.hid ?_
                          clear HC
                          go_wp2_with fail
                          go_loopw [5, 6, 7, 18] (fun v5 v6 v7 v18 wx => v5 = .slice Aw s.wr.length cw ∧ v6 = .slice Al s.sl.length cl ∧ v7 = .slice Ai s.sl.length ci ∧ v18 = .int .i64 0 ∧ Below wr.heap.size wr wx) (fun _ _ _ _ _ => 0)
                          case atStart => exact ⟨rfl, rfl, rfl, rfl, Below.refl _ _⟩
                          case round =>
                            obtain ⟨rfl, rfl, rfl, rfl, hbx⟩ := hrel
                            rename World => wx
                            go_wp2_with fail
                            go_quiet (fail)
                            have hb2 : Below wr.heap.size wr (wx.drewN nq) := ⟨hbx.os, hbx.tape, hbx.output, hbx.size, hbx.block⟩
                            generalize wx.drewN nq = wy at *
                            have HE2 := HE wy (HBr.out.trans (hb2.mono HBr.out.size))
                            go_wp2_with (go_at_call 6; refine HE2.mono ?_; rintro e u3 ⟨rfl, b3⟩; refine Hid.out ?_)
                            refine Lib.hid ?_
                            have HY := Lib.hid (show totS s ≤ j + 1 ∧ s.sl.length ≤ j + 1 ∧ BoS W u3 B (fun k => k = vb) s (.slice Aw s.wr.length cw) (.slice Ao s.op.length co) (.slice Al s.sl.length cl) (.slice Ai s.sl.length ci) from ⟨by have := HX2.out.1; omega, by have := HX2.out.2.1; omega, (HX2.out.2.2.keep hb2).keep b3⟩)
                            clear HE HE2 b3 hb2 hbx
                            go_wp2_with fail
                            go_meet
                            case rel => exact ⟨s, rfl, rfl, HY⟩
                        · obtain ⟨ht, hs, hX⟩ := HX2.out
                          have hS : totS s = s.wr.length + many s.sl + s.op.length := rfl
                          have HC := bo_commit hX (fun k hk => by omega) (by omega) v1 (by omega)
                          have hcl := comm_len v1 s.sl
                          have HL2 := Lib.hid (And.intro ht hs)
                          have HCL := Lib.hid hcl
                          obtain ⟨cn, hcn⟩ : ∃ cn, cn = (comm v1 s.sl).1.length := ⟨_, rfl⟩
                          rw [← hcn] at HC
                          have HCN := Lib.hid hcn
                          clear HX2 hX hs hcl hcn
                          go_wp2_with (go_at_call 8; refine HC.mono ?_; rintro e u2 ⟨rfl, hB2, hK2⟩; refine Hid.out ?_)
                          refine Lib.hid ?_
                          have hvb2 := (hK2 vb rfl hvl).trans HVb.out
                          have x1 : u2.cell? ⟨vb, 1, none⟩ = some (.int .i64 v1) := by simp [World.cell?, hvb2]
                          have HST := Lib.hid (And.intro hB2 hvb2)
                          clear HC hB2 hK2 hvb2
                          go_wp2_with fail
                          go_loopw [5, 6, 7, 18] (fun v5 v6 v7 v18 wx => ∃ (done : List Rg) (rest : List (Int × List Rg)), v18 = .int .i64 (done.length : Nat) ∧ Hid (comm v1 s.sl = (done ++ (comm v1 rest).1, (comm v1 rest).2)) ∧ done.length + many rest = many s.sl ∧ Hid (Bo W wx B (fun k => k = vb) (commS s v1) v5 (.slice Ao s.op.length co) v6 v7 (s.wr ++ done) s.op (rest.map Prod.snd) (rest.map Prod.fst) ∧ wx.heap[vb]? = some (.cells #[.int .i64 4, .int .i64 v1] 28 (0, 0)))) (fun _ _ v7 _ _ => match v7 with | .slice _ n _ => n | _ => 0)
                          case atStart => exact ⟨[], s.sl, rfl, Lib.hid rfl, by simp, Lib.hid ⟨by rw [List.append_nil]; exact HST.out.1, HST.out.2⟩⟩
                          case round =>
                            clear HST x1
                            obtain ⟨done, rest, rfl, hcm, hmn, hY⟩ := hrel
                            rename World => wx
                            have z1 : wx.cell? ⟨vb, 1, none⟩ = some (.int .i64 v1) := by have := hY.out.2; simp [World.cell?, this]
                            match rest, hcm, hmn, hY with
                            | [], hcm, hmn, hY =>
                              obtain ⟨⟨A5, c5, e5, -⟩, -, ⟨A6, c6, e6⟩, A7, c7, e7, -⟩ := hY.out.1.shape
                              rw [List.length_append] at e5
                              simp only [List.map_nil, List.length_nil] at e6 e7
                              subst e5 e6 e7
                              have hdn : cn = done.length := by rw [HCN.out, hcm.out]; simp [comm]
                              have HZ := Lib.hid (show ∀ u : World, Below wx.heap.size wx u → totS (commS s v1) ≤ j + 1 ∧ (commS s v1).sl.length ≤ j + 1 ∧ BoS W u B (fun k => k = vb) (commS s v1) (.slice A5 (s.wr.length + done.length) c5) (.slice Ao s.op.length co) (.slice A6 0 c6) (.slice A7 0 c7) from fun u hu => by
                                have he : commS s v1 = ⟨s.wr ++ done, [], s.op, s.la⟩ := by unfold commS; rw [hcm.out]; simp [comm]
                                refine ⟨by rw [tot_comm]; have := HL2.out.1; omega, by rw [he]; simp, ?_⟩
                                have := hY.out.1.keep hu
                                rw [he] at this ⊢
                                exact this)
                              subst hdn
                              clear hY HCN HCL hcm hmn hS ht
                              go_wp2_with fail
                              go_quiet (fail)
                              have hb2 : Below wx.heap.size wx (wx.drewN nq) := ⟨rfl, rfl, rfl, Nat.le_refl _, fun _ _ => rfl⟩
                              have HZ2 := Lib.hid (HZ.out _ hb2)
                              clear HZ hb2 z1
                              generalize wx.drewN nq = wy at *
                              go_wp2_with (go_at_call 6; refine (error_nil _).mono ?_; rintro e u3 ⟨rfl, rfl⟩)
                              go_meet
                              case rel => exact ⟨commS s v1, by simp, rfl, HZ2⟩
                            | p0 :: rest, hcm, hmn, hY =>
                              simp only [List.map_cons] at hY
                              obtain ⟨⟨A5, c5, e5, -⟩, -, -, -⟩ := hY.out.1.shape
                              rw [List.length_append] at e5
                              subst e5
                              rw [many] at hmn
                              have hbd : (s.wr ++ done).length + p0.2.length ≤ 1000000 := by rw [List.length_append]; omega
                              obtain ⟨g, o, c, g2, o2, c2, A0, c0, e6, hc, e0, e7, hc2, e2, -⟩ := bo_step hY.out.1 (fun k hk => by have := some_lt hY.out.2; omega) hbd
                              rw [List.length_map] at e6 e7 hc hc2
                              subst e6 e7
                              have q5 : (0 : Int) < ((rest.length + 1 : Nat) : Int) := by omega
                              by_cases hlt : p0.1 ≤ v1
                              · have HN := Lib.hid (show comm v1 s.sl = ((done ++ p0.2) ++ (comm v1 rest).1, (comm v1 rest).2) ∧ (done ++ p0.2).length + many rest = many s.sl from ⟨by rw [hcm.out, comm, if_pos hlt, List.append_assoc], by rw [List.length_append]; omega⟩)
                                have hdl : (done ++ p0.2).length = done.length + p0.2.length := List.length_append
                                have hd5 : done.length + p0.2.length ≤ 1000000 := by rw [List.length_append] at hbd; omega
                                have HSTEP := Lib.hid (fun (u : World) (hb : Below wx.heap.size wx u) => bo_step (hY.out.1.keep hb) (fun k hk => by have := some_lt hY.out.2; have := hb.size; omega) hbd)
                                have HVB := Lib.hid hY.out.2
                                have q1 : (1 : Int) ≤ ((rest.length + 1 : Nat) : Int) := by omega
                                have q2 : ((rest.length + 1 : Nat) : Int) ≤ (c : Int) := by omega
                                have q3 : ((rest.length + 1 : Nat) : Int) ≤ (c2 : Int) := by omega
                                have q4 : (1 : Int) ≤ (c : Int) := by omega
                                have q6 : (1 : Int) ≤ (c2 : Int) := by omega
                                clear hY HCN HCL hcm hmn hS ht hbd HL2
                                go_wp2_with fail
                                go_quiet (fail)
                                have hb2 : Below wx.heap.size wx (wx.drewN nq) := ⟨rfl, rfl, rfl, Nat.le_refl _, fun _ _ => rfl⟩
                                obtain ⟨g', o', c', g2', o2', c2', A0', c0', f1, hc', e0', f2, hc2', e2', A', c'', w1, hrun, hB1, hK1⟩ := HSTEP.out _ hb2
                                have hvb1 : w1.heap[vb]? = some (.cells #[.int .i64 4, .int .i64 v1] 28 (0, 0)) := (hK1 vb rfl (some_lt (show (wx.drewN nq).heap[vb]? = _ from HVB.out))).trans (show (wx.drewN nq).heap[vb]? = _ from HVB.out)
                                simp only [List.length_map, List.length_append] at f1 f2 hrun hB1
                                injection f1 with f1 _ f3
                                injection f1 with f1
                                injection f1 with f1 f4 _
                                injection f2 with f2 _ f5
                                injection f2 with f2
                                injection f2 with f2 f6 _
                                subst f1 f2 f3 f4 f5 f6
                                rw [List.append_assoc] at hB1
                                have HE := Lib.hid (And.intro hB1 hvb1)
                                have HR := Lib.hid hrun
                                clear hrun hB1 hK1 hvb1 HSTEP HVB e0 e2 hc' hc2' e2' z1 hb2
                                generalize p0.2.length = n0 at *
                                generalize hdn : done.length = n2 at *
                                have HDN := Lib.hid hdn
                                clear hdn
                                generalize wx.drewN nq = wy at *
                                by_cases hc1 : c = 1
                                · rw [if_pos hc1] at HE
                                  subst hc1
                                  by_cases hc21 : c2 = 1
                                  · rw [if_pos hc21] at HE
                                    subst hc21
                                    have hr0 : rest.length = 0 := by omega
                                    rw [hr0] at HE
                                    clear hr0
                                    go_wp2_with (at_builtin; refine wpList_append_run (by rfl) _ _ _ (by rfl) _ _ _ _ (by rfl) (by rfl) (by exact HR.out) ?_)
                                    exact ⟨⟨done ++ p0.2, rest, by rw [hdl, Int.natCast_add], Lib.hid HN.out.1, HN.out.2, Lib.hid HE.out⟩, by first | exact Nat.lt_succ_self _ | exact Nat.succ_pos _⟩
                                  · rw [if_neg hc21] at HE
                                    have hr0 : rest.length = 0 := by omega
                                    rw [hr0] at HE
                                    clear hr0
                                    go_wp2_with (at_builtin; refine wpList_append_run (by rfl) _ _ _ (by rfl) _ _ _ _ (by rfl) (by rfl) (by exact HR.out) ?_)
                                    exact ⟨⟨done ++ p0.2, rest, by rw [hdl, Int.natCast_add], Lib.hid HN.out.1, HN.out.2, Lib.hid HE.out⟩, by first | exact Nat.lt_succ_self _ | exact Nat.succ_pos _⟩
                                · rw [if_neg hc1] at HE
                                  by_cases hc21 : c2 = 1
                                  · rw [if_pos hc21] at HE
                                    subst hc21
                                    have hr0 : rest.length = 0 := by omega
                                    rw [hr0] at HE
                                    clear hr0
                                    go_wp2_with (at_builtin; refine wpList_append_run (by rfl) _ _ _ (by rfl) _ _ _ _ (by rfl) (by rfl) (by exact HR.out) ?_)
                                    exact ⟨⟨done ++ p0.2, rest, by rw [hdl, Int.natCast_add], Lib.hid HN.out.1, HN.out.2, Lib.hid HE.out⟩, by first | exact Nat.lt_succ_self _ | exact Nat.succ_pos _⟩
                                  · rw [if_neg hc21] at HE
                                    go_wp2_with (at_builtin; refine wpList_append_run (by rfl) _ _ _ (by rfl) _ _ _ _ (by rfl) (by rfl) (by exact HR.out) ?_)
                                    exact ⟨⟨done ++ p0.2, rest, by rw [hdl, Int.natCast_add], Lib.hid HN.out.1, HN.out.2, Lib.hid HE.out⟩, by first | exact Nat.lt_succ_self _ | exact Nat.succ_pos _⟩
                              · have hcc : comm v1 (p0 :: rest) = ([], p0 :: rest) := by rw [comm, if_neg hlt]
                                have hdn : cn = done.length := by rw [HCN.out, hcm.out, hcc]; simp
                                have HZ := Lib.hid (show ∀ u : World, Below wx.heap.size wx u → totS (commS s v1) ≤ j + 1 ∧ (commS s v1).sl.length ≤ j + 1 ∧ BoS W u B (fun k => k = vb) (commS s v1) (.slice A5 (s.wr.length + done.length) c5) (.slice Ao s.op.length co) (.slice (some ⟨g, o, none⟩) (rest.length + 1) c) (.slice (some ⟨g2, o2, none⟩) (rest.length + 1) c2) from fun u hu => by
                                  have he : commS s v1 = ⟨s.wr ++ done, p0 :: rest, s.op, s.la⟩ := by unfold commS; rw [hcm.out, hcc]; simp
                                  have hln : (p0 :: rest).length ≤ s.sl.length := by
                                    have h9 := congrArg (fun x => x.2.length) hcm.out
                                    simp only [hcc] at h9
                                    have h8 := comm_sub v1 s.sl
                                    omega
                                  refine ⟨by rw [tot_comm]; have := HL2.out.1; omega, by rw [he]; have := HL2.out.2; simp only; omega, ?_⟩
                                  have := hY.out.1.keep hu
                                  rw [he] at this ⊢
                                  exact this)
                                subst hdn
                                clear hY HCN HCL hcm hmn hS ht hcc
                                go_wp2_with fail
                                go_quiet (fail)
                                have hb2 : Below wx.heap.size wx (wx.drewN nq) := ⟨rfl, rfl, rfl, Nat.le_refl _, fun _ _ => rfl⟩
                                have HZ2 := Lib.hid (HZ.out _ hb2)
                                clear HZ hb2 z1 e0 e2
                                generalize wx.drewN nq = wy at *
                                go_wp2_with (go_at_call 6; refine (error_nil _).mono ?_; rintro e u3 ⟨rfl, rfl⟩)
                                go_meet
                                case rel => exact ⟨commS s v1, by simp, rfl, HZ2⟩
                    · have e4 : (v0 == 4) = false := by simpa using h4
                      by_cases h5 : v0 = 5
                      · subst h5
                        clear e0 e1 e2 e3 e4 hk h3 h4
                        as_aux_lemma =>
                          obtain ⟨ht, hs, hX⟩ := HX2.out
                          have hS : totS s = s.wr.length + many s.sl + s.op.length := rfl
                          obtain ⟨A3, c3, e3, hrow⟩ := bo_rows hX
                          injection e3 with e4 e5 e6
                          subst e4 e6
                          have HRW := Lib.hid (show ∀ i, i < s.sl.length → ∃ g o A' c', Al = some ⟨g, o, none⟩ ∧ wr.cell? ⟨g, o + i, none⟩ = some (.slice A' (many (s.sl.take (i + 1)) - many (s.sl.take i)) c') ∧ many (s.sl.take i) ≤ many (s.sl.take (i + 1)) ∧ many (s.sl.take (i + 1)) ≤ many s.sl from fun i hi => by
                            obtain ⟨g, o, A', c', h1, h2, -⟩ := hrow i (by simpa using hi)
                            have h3 := many_take s.sl i hi
                            rw [List.getElem_map] at h2
                            have h4 : many (s.sl.take (i + 1)) - many (s.sl.take i) = s.sl[i].2.length := by omega
                            exact ⟨g, o, A', c', h1, by rw [h4]; exact h2, by omega, many_take_le _ _⟩)
                          have HA := bo_abort hX (fun k hk => by omega) (by omega)
                          have HL2 := Lib.hid (And.intro ht hs)
                          obtain ⟨ma, hma⟩ : ∃ ma, ma = many s.sl := ⟨_, rfl⟩
                          rw [← hma] at HA hS
                          have HMA := Lib.hid hma
                          have hsl : s.sl.length ≤ 100 := by omega
                          clear HX2 hX hs hrow e5 hma
                          go_wp2_with fail
                          go_loopw [19, 20] (fun m i wx => ∃ k : Nat, k ≤ s.sl.length ∧ i = .int .i64 k ∧ m = .int .i64 ((s.op.length + many (s.sl.take k) : Nat) : Nat) ∧ wr = wx) (fun _ i _ => s.sl.length - (intOf i).toNat)
                          case atStart => exact ⟨0, by omega, rfl, by simp [many], rfl⟩
                          case round =>
                            obtain ⟨k, hk, rfl, rfl, rfl⟩ := hrel
                            by_cases hlt : k < s.sl.length
                            · obtain ⟨g, o, A', c', rfl, e0, hm1, hm2⟩ := HRW.out k hlt
                              have hki : (k : Int) < (s.sl.length : Int) := by omega
                              rw [← HMA.out] at hm2
                              generalize hm3 : many (s.sl.take (k + 1)) = m1 at *
                              have HM3 := Lib.hid hm3
                              clear hm3
                              generalize many (s.sl.take k) = m0 at *
                              obtain ⟨d, hd⟩ : ∃ d, m1 - m0 = d := ⟨_, rfl⟩
                              rw [hd] at e0
                              have hd2 : m1 = m0 + d := by omega
                              subst hd2
                              clear hd HRW HA
                              go_wp2_with fail
                              exact ⟨⟨k + 1, by omega, by go_num, by rw [HM3.out, ← Nat.add_assoc, Int.natCast_add, Int.natCast_add], by first | rfl | trivial⟩, by simp [intOf]; omega⟩
                            · have hki : ¬ (k : Int) < (s.sl.length : Int) := by omega
                              have hk' : k = s.sl.length := by omega
                              have hm : many (s.sl.take k) = ma := by rw [hk', List.take_length, HMA.out]
                              rw [hm]
                              clear hm hk' HRW
                              go_wp2_with (go_at_call 9; refine HA.mono ?_; rintro e u2 ⟨rfl, hB2, hK2⟩; refine Hid.out ?_)
                              refine Lib.hid ?_
                              have HE := Lib.hid (show totS (abortS s) ≤ j + 1 ∧ (abortS s).sl.length ≤ j + 1 ∧ BoS W u2 B (fun k => k = vb) (abortS s) (.slice Aw s.wr.length cw) (.slice none 0 0) (.slice none 0 0) (.slice none 0 0) from
                                ⟨by have := tot_abort s; have := HL2.out.1; omega, by simp [abortS], hB2⟩)
                              clear hB2 hK2 HA
                              go_wp2_with fail
                              go_meet
                              case rel => exact ⟨abortS s, by simp, rfl, HE⟩
                      · have e5 : (v0 == 5) = false := by simpa using h5
                        as_aux_lemma =>
                          go_wp2_with fail
                          go_meet
                          case rel => exact ⟨s, rfl, rfl, Lib.hid ⟨by have := HX2.out.1; omega, by have := HX2.out.2.1; omega, HX2.out.2.2⟩⟩
              case rest =>
                as_aux_lemma =>
                  obtain ⟨s', rfl, rfl, hZ⟩ := hcut
                  rename World => wc
                  clear HX2 HVb HBr
                  obtain ⟨ht, hs, hX⟩ := hZ.out
                  obtain ⟨⟨A5, c5, e5, hw⟩, ⟨A4, c4, e4⟩, ⟨A6, c6, e6⟩, A7, c7, e7, hi⟩ := Bo.shape hX
                  rw [List.length_map] at e6 e7
                  subst e5 e4 e6 e7
                  have HW := bo_written hX (by omega)
                  have hwl : s'.wr.length ≤ 1000 := by unfold totS at ht; omega
                  have HQ := Lib.hid (fun (u : World) (hb : Below wc.heap.size wc u) => bo_sealed (hX.keep hb) (by omega))
                  have HS1 := Lib.hid (fun (u : World) (A : Option Addr) (c : Nat) (h1 : CsAt u A (rcells s'.wr)) (h2 : CsAt u A5 (rcells s'.wr)) => sameRecs_any u A A5 c c5 s'.wr h1 h2 (by omega))
                  have HS2 := Lib.hid (fun (u : World) (A : Option Addr) (c : Nat) (h1 : CsAt u A (icells (s'.sl.map Prod.fst))) (h2 : CsAt u A7 (icells (s'.sl.map Prod.fst))) => (show Calls Tryd.prog 12 #[.slice A s'.sl.length c, .slice A7 s'.sl.length c7] u fun e w' => e = .returned (.bool true) ∧ Below u.heap.size u w' from by
                    have := sameInts_any u A A7 c c7 (s'.sl.map Prod.fst) h1 h2 (by simp; omega)
                    rw [List.length_map] at this
                    exact this))
                  have HWI := Lib.hid (And.intro hw hi)
                  have HFin := Lib.hid (fun (u : World) (hb : Below wc.heap.size wc u) => (show totS s' ≤ j + 1 ∧ s'.sl.length ≤ j + 1 ∧ BoS W u B (fun _ => False) s' (.slice A5 s'.wr.length c5) (.slice A4 s'.op.length c4) (.slice A6 s'.sl.length c6) (.slice A7 s'.sl.length c7) from ⟨ht, hs, hX.more hb _ (fun k hk => hk.elim)⟩))
                  clear hX hw hi hZ ht hs
                  apply_assumption
                  go_wp2_with (go_at_call 11; refine HW.mono ?_; rintro e u1 ⟨B1, d1, rfl, g1, b1⟩; refine Hid.out ?_)
                  refine Lib.hid ?_
                  have HR1 := HS1.out u1 B1 d1 g1 (HWI.out.1.keep b1)
                  clear HW g1
                  go_wp2_with (go_at_call 10; refine HR1.mono ?_; rintro e u2 ⟨rfl, b2⟩; refine Hid.out ?_)
                  refine Lib.hid ?_
                  have b12 := b1.trans (b2.mono b1.size)
                  have HQ1 := HQ.out u2 b12
                  clear HR1 HS1 HQ b1 b2
                  go_wp2_with (go_at_call 13; refine HQ1.mono ?_; rintro e u3 ⟨B2, d2, rfl, g2, b3⟩; refine Hid.out ?_)
                  refine Lib.hid ?_
                  have b13 := b12.trans (b3.mono b12.size)
                  have HR2 := HS2.out u3 B2 d2 g2 (HWI.out.2.keep b13)
                  clear HQ1 HS2 HWI b12 b3 g2
                  go_wp2_with (go_at_call 12; refine HR2.mono ?_; rintro e u4 ⟨rfl, b4⟩; refine Hid.out ?_)
                  refine Lib.hid ?_
                  have HE := Lib.hid (HFin.out u4 (b13.trans (b4.mono b13.size)))
                  clear HR2 HFin b13 b4
                  go_wp2_with fail
                  go_roundw
                  case rel => exact ⟨j + 1, s', by omega, by omega, by go_num, rfl, HE⟩
                  case measure => simp [intOf]; omega
    · have hcase : ¬ (j : Int) < P.length ∨ ((j : Int) < P.length ∧ ¬ (j : Int) < 100) := by omega
      have HB := Lib.hid hX.out.2.2.1
      clear hX
      rcases hcase with n1 | ⟨n1, n2⟩
      all_goals
        go_wp2_with fail
        go_ret
        exact ⟨rfl, HB.out⟩
end Go.Proofs.YtaicaeokljdjdaaDoor
