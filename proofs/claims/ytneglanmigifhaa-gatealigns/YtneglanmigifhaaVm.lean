/- GateAligns's walk. -/
import Derived.Test.YtneglanmigifhaaVl
namespace Go.Proofs.Ytneglanmigifhaa
open Go.ChangeShapes Go.WideShapes Go.RowKit
set_option linter.unusedVariables false
theorem sumN_zero : ∀ n, sumN n (fun _ => 0) = 0
  | 0 => rfl
  | n + 1 => by rw [sumN_succ, sumN_zero n]
def nat0 (l : List Int) (j : Nat) : Nat := (l.getD j 0).toNat
section
variable (W : World) (a0 a1 : Option Addr) (c0 c1 : Nat) (l0 l1 : List Int)
set_option maxRecDepth 100000 in
set_option maxHeartbeats 4000000 in
theorem align_walk (hl0 : IsAt W a0 l0) (hl1 : IsAt W a1 l1) : Calls Try.prog 3 #[.slice a0 l0.length c0, .slice a1 l1.length c1] W fun e w' => e = .returned (.bool true) ∧ Below W.heap.size W w' := by
  have HN1 := new_x W 1 (by omega) (by omega)
  obtain ⟨hgl, gf, hgf⟩ := fact_bound
  have HP := fun (u : World) (B : Nat) (h : GX W.heap.size u B (newG 1)) => bar_x h 0 7 (by rw [newG_len]; omega) (by omega) (by rw [(newG_at 1 0).1]; simp) (by rw [(newG_at 1 0).2]; omega)
  have HX := fun (u : World) (B : Nat) (h : GX W.heap.size u B (lastG (putG (newG 1) 0 (.bar 7)) 0 7)) => bound_x h hgf
  clear hgf hgl
  have HPh := Lib.hid HP
  have HXh := Lib.hid HX
  clear HP HX
  have HL0 := Lib.hid hl0
  have HL1 := Lib.hid hl1
  have hE0 : Hid (l0.length = l0.length) := Lib.hid rfl
  generalize hn0 : l0.length = n0 at *
  generalize hn1 : l1.length = n1 at *
  have HL := Lib.hid (show l0.length = n0 ∧ l1.length = n1 from ⟨hn0, hn1⟩)
  clear hl0 hl1 hn0 hn1 hE0
  go_enter Try.func3, Try.ntmps3
  go_wp2_with (go_at_call 5; refine HN1.mono ?_; rintro e u ⟨B1, rfl, hG1, hb1⟩; refine Hid.out ?_)
  refine Lib.hid ?_
  have HP1 := HPh.out u B1 hG1
  clear HN1 HPh hG1
  go_wp2_with (go_at_call 6; refine HP1.mono ?_; rintro e u2 ⟨rfl, hG2, hf2⟩; refine Hid.out ?_)
  refine Lib.hid ?_
  have HX1 := HXh.out u2 B1 hG2
  have hb2 := hb1.trans hf2.toBelow
  clear HP1 HXh hG2 hf2 hb1
  go_wp2_with (go_at_call 7; refine HX1.mono ?_; rintro e u3 ⟨rfl, hG3, hf3⟩; refine Hid.out ?_)
  refine Lib.hid ?_
  have HB4 := Lib.hid (hb2.trans hf3.toBelow)
  clear HX1 hG3 hf3 hb2
  by_cases h1 : (n0 : Int) < 1
  · go_wp2_with fail
    go_ret
    exact ⟨rfl, HB4.out⟩
  by_cases h2 : (20 : Int) < n0
  · go_wp2_with fail
    go_ret
    exact ⟨rfl, HB4.out⟩
  by_cases h3 : n1 = n0
  rotate_left 1
  · have h3' : ¬ (n1 : Int) = n0 := by omega
    go_wp2_with fail
    go_ret
    exact ⟨rfl, HB4.out⟩
  subst h3
  have hN1 : 1 ≤ n1 := by omega
  have hN2 : n1 ≤ 20 := by omega
  clear h1 h2
  obtain ⟨e0, e1⟩ := HL.out
  obtain ⟨b0, o0, rfl, hc0, hb0⟩ := HL0.out.at (i := 0) (by omega)
  obtain ⟨b1, o1, rfl, hc1, hb1⟩ := HL1.out.at (i := 0) (by omega)
  rw [e0] at hc0
  rw [e1] at hc1
  have HC0 := Lib.hid hc0
  have HC1 := Lib.hid hc1
  clear HL HL0 HL1 e0 e1 hc0 hc1
  have HNn := fun (w : World) => new_x w n1 (by omega) (by omega)
  have g1 : ¬ (n1 : Int) < 1 := by omega
  have g2 : ¬ (20 : Int) < n1 := by omega
  go_wp2_with (go_at_call 5; refine (HNn _).mono ?_; rintro e v ⟨B, rfl, hG5, hb5⟩; refine Hid.out ?_)
  refine Lib.hid ?_
  have hb6 := HB4.out.trans (hb5.mono HB4.out.size)
  have HG6 := Lib.hid (hG5.mono HB4.out.size)
  have HB6 := Lib.hid hb6
  have HA6 := Lib.hid (show Ali (newG n1) rN 3 n1 0 (nat0 l0) (nat0 l1) from ⟨newG_len n1, by simp [newG], rfl, fun j hj => by omega, fun j _ _ => newG_at n1 j⟩)
  clear HNn HB4 hb5 hG5 hb6
  generalize newG n1 = gn at *
  go_wp2_with fail
  go_loopw [12, 13] (fun tv iv wr => ∃ (i : Nat) (g : Gt Rg), i ≤ n1 ∧ iv = .int .i64 (i : Nat) ∧ tv = .int .i64 (sumN i (nat0 l0) : Nat) ∧ (∀ j, j < i → (0 ≤ l0.getD j 0 ∧ l0.getD j 0 ≤ 20) ∧ 0 ≤ l1.getD j 0 ∧ l1.getD j 0 ≤ 20) ∧ Ali g rN 3 n1 i (nat0 l0) (nat0 l1) ∧ GX W.heap.size wr B g ∧ Below W.heap.size W wr) (fun _ iv _ => n1 - (intOf iv).toNat)
  case atStart => exact ⟨0, gn, Nat.zero_le _, rfl, rfl, fun j hj => by omega, HA6.out, HG6.out, HB6.out⟩
  case round =>
    clear HA6 HG6 HB6
    obtain ⟨i, g, hi, rfl, rfl, hok, hA, hG, hB⟩ := hrel
    rename World => wr
    by_cases hlt : i < n1
    · have hlt' : (i : Int) < n1 := by omega
      have d0 := (hB.cell (p := ⟨b0, o0 + i, none⟩) hb0).trans (HC0.out i hlt)
      have d1 := (hB.cell (p := ⟨b1, o1 + i, none⟩) hb1).trans (HC1.out i hlt)
      have HOk := Lib.hid hok
      have HA := Lib.hid hA
      have HG := Lib.hid hG
      have HB := Lib.hid hB
      have hsm : sumN i (nat0 l0) ≤ 400 := by
        have := sumN_up (f := nat0 l0) (c := 20) i (fun j hj => by have := (hok j hj).1; unfold nat0; omega)
        omega
      have HS := Lib.hid (sumN_succ i (nat0 l0))
      clear hok hA hG hB
      by_cases t1 : l0.getD i 0 < 0
      · generalize l0.getD i 0 = z0 at *
        go_wp2_with fail
        go_ret
        exact ⟨rfl, HB.out⟩
      by_cases t2 : 20 < l0.getD i 0
      · generalize l0.getD i 0 = z0 at *
        go_wp2_with fail
        go_ret
        exact ⟨rfl, HB.out⟩
      by_cases t3 : l1.getD i 0 < 0
      · generalize l0.getD i 0 = z0 at *
        generalize l1.getD i 0 = z1 at *
        go_wp2_with fail
        go_ret
        exact ⟨rfl, HB.out⟩
      by_cases t4 : 20 < l1.getD i 0
      · generalize l0.getD i 0 = z0 at *
        generalize l1.getD i 0 = z1 at *
        go_wp2_with fail
        go_ret
        exact ⟨rfl, HB.out⟩
      have HOk2 := Lib.hid (show ∀ j, j < i + 1 → (0 ≤ l0.getD j 0 ∧ l0.getD j 0 ≤ 20) ∧ 0 ≤ l1.getD j 0 ∧ l1.getD j 0 ≤ 20 from fun j hj => by
        by_cases e : j = i
        · rw [e]; omega
        · exact HOk.out j (by omega))
      obtain ⟨A0, hA0, hA1⟩ : ∃ A0 : Nat, l0.getD i 0 = A0 ∧ nat0 l0 i = A0 := ⟨(l0.getD i 0).toNat, by omega, rfl⟩
      obtain ⟨A1, hA2, hA3⟩ : ∃ A1 : Nat, l1.getD i 0 = A1 ∧ nat0 l1 i = A1 := ⟨(l1.getD i 0).toNat, by omega, rfl⟩
      rw [hA0] at d0 t1 t2
      rw [hA2] at d1 t3 t4
      have HAk := Lib.hid (HA.out.start hlt)
      have hA20 : A0 ≤ 20 := by omega
      have hA21 : A1 ≤ 20 := by omega
      have HE := Lib.hid (show nat0 l0 i = A0 ∧ nat0 l1 i = A1 from ⟨hA1, hA3⟩)
      have HD := Lib.hid (show ∀ u, Below W.heap.size W u → u.cell? ⟨b0, o0 + i, none⟩ = some (.int .i64 A0) ∧ u.cell? ⟨b1, o1 + i, none⟩ = some (.int .i64 A1) from fun u hu => ⟨by rw [hu.cell (p := ⟨b0, o0 + i, none⟩) hb0, HC0.out i hlt, hA0], by rw [hu.cell (p := ⟨b1, o1 + i, none⟩) hb1, HC1.out i hlt, hA2]⟩)
      clear HOk HA hA0 hA1 hA2 hA3
      go_wp2_with fail
      clear d0 d1 t1 t2 t3 t4
      go_loopw [14] (fun kv u => ∃ (k : Nat) (g : Gt Rg), k ≤ A0 + A1 ∧ kv = .int .i64 (k : Nat) ∧ AliK g rN 3 n1 i k (nat0 l0) (nat0 l1) ∧ GX W.heap.size u B g ∧ Below W.heap.size W u) (fun kv _ => A0 + A1 - (intOf kv).toNat)
      case atStart => exact ⟨0, g, Nat.zero_le _, rfl, HAk.out, HG.out, HB.out⟩
      case round =>
        clear HAk HG HB
        obtain ⟨k, g, hk, rfl, hA, hG, hB⟩ := hrel
        rename World => wu
        obtain ⟨d0, d1⟩ := HD.out _ hB
        have hkk : (k : Int) ≤ 40 := by omega
        by_cases hltk : k < A0 + A1
        · have hltk' : (k : Int) < (A0 : Int) + A1 := by omega
          have hgl : g.ws.length = n1 := hA.1
          have hlen := hA.len
          go_wp2_with fail
          go_quiet (fail)
          have bq : Below wu.heap.size wu (wu.drewN nq) := ⟨rfl, rfl, rfl, Nat.le_refl _, fun _ _ => rfl⟩
          have hGq := hG.keep bq
          have hBq := hB.trans (bq.mono hB.size)
          obtain ⟨d2, d3⟩ := HD.out _ hBq
          clear d0 d1 hG hB bq
          generalize wu.drewN nq = wq at *
          by_cases hka : k = A0
          · subst hka
            have hE := HE.out.1
            have hA' : AliK g rN 3 n1 i (nat0 l0 i) (nat0 l0) (nat0 l1) := by rw [hE]; exact hA
            obtain ⟨⟨q1, q2⟩, q3, -⟩ := hA'.bar hlt
            rw [hE] at q1 q3
            have hbl : ((lastG (putG g i (.bar 3)) i 3).ws.getD i []).length < 400 := by
              show ((putG g i (.bar 3)).ws.getD i []).length < 400
              rw [putG_at (by omega), if_pos rfl, List.length_append, List.length_singleton]; omega
            have hbw : i < (lastG (putG g i (.bar 3)) i 3).ws.length := by
              show i < (putG g i (.bar 3)).ws.length
              rw [putG_len]; omega
            have HBr := bar_x hGq i 3 (by omega) (by omega) (by omega) (by rw [q2]; omega)
            generalize lastG (putG g i (.bar 3)) i 3 = g2 at *
            have HP := fun (u : World) (h : GX W.heap.size u B g2) => push_x h i hbw hbl (rN k) (by show (0 : Nat) ≤ _; omega)
            have HQ3 := Lib.hid q3
            generalize putG g2 i (.one (rN k)) = g3 at *
            simp only [rN, rV] at HP
            have HPh := Lib.hid HP
            clear HP hE hA' hlen hgl
            clear hA q1 q2 q3 hbl hbw hGq
            go_wp2_with (go_at_call 6; refine HBr.mono ?_; rintro e u5 ⟨rfl, hG2, hf2⟩; refine Hid.out ?_)
            refine Lib.hid ?_
            have HP1 := HPh.out u5 hG2
            have hB5 := hBq.trans hf2.toBelow
            clear HBr HPh hG2 hf2 hBq d2 d3
            go_wp2_with (go_at_call 8; refine HP1.mono ?_; rintro e u6 ⟨rfl, hG3, hf3⟩; refine Hid.out ?_)
            refine Lib.hid ?_
            have HB6 := Lib.hid (hB5.trans hf3.toBelow)
            have HG6 := Lib.hid hG3
            clear HP1 hB5 hf3 hG3
            go_wp2_with fail
            go_roundw
            case rel => exact ⟨k + 1, g3, by omega, by go_num, HQ3.out, HG6.out, HB6.out⟩
            case measure => simp [intOf]; omega
          · have hE := HE.out.1
            have HQ3 := Lib.hid (hA.push hlt (by omega))
            have HP1 := push_x hGq i (by omega) (by omega) (rN k) (by show (0 : Nat) ≤ _; omega)
            generalize putG g i (.one (rN k)) = g2 at *
            simp only [rN, rV] at HP1
            have hkA : ((k : Int) == (A0 : Int)) = false := by simp; omega
            clear hA hGq
            go_wp2_with (go_at_call 8; refine HP1.mono ?_; rintro e u6 ⟨rfl, hG3, hf3⟩; refine Hid.out ?_)
            refine Lib.hid ?_
            have HB6 := Lib.hid (hBq.trans hf3.toBelow)
            have HG6 := Lib.hid hG3
            clear HP1 hBq hf3 hG3 d2 d3
            go_wp2_with fail
            go_roundw
            case rel => exact ⟨k + 1, g2, by omega, by go_num, HQ3.out, HG6.out, HB6.out⟩
            case measure => simp [intOf]; omega
        · have hltk' : ¬ (k : Int) < (A0 : Int) + A1 := by omega
          have hgl : g.ws.length = n1 := hA.1
          have hlen := hA.len
          go_wp2_with fail
          go_quiet (fail)
          have bq : Below wu.heap.size wu (wu.drewN nq) := ⟨rfl, rfl, rfl, Nat.le_refl _, fun _ _ => rfl⟩
          have hGq := hG.keep bq
          have hBq := hB.trans (bq.mono hB.size)
          obtain ⟨d2, d3⟩ := HD.out _ hBq
          clear d0 d1 hG hB bq
          generalize wu.drewN nq = wq at *
          have hE := HE.out
          have hS := HS.out
          rw [hE.1] at hS
          have HS2 := Lib.hid hS
          clear HS hS
          by_cases hz : A1 = 0
          · obtain rfl : k = nat0 l0 i := by omega
            obtain ⟨⟨q1, q2⟩, -, q3⟩ := hA.bar hlt
            have HQ3 := Lib.hid (q3 (by omega))
            have HBr := bar_x hGq i 3 (by omega) (by omega) (by omega) (by rw [q2]; omega)
            generalize lastG (putG g i (.bar 3)) i 3 = g2 at *
            generalize sumN i (nat0 l0) = sm at *
            have hzz : ((A1 : Int) == 0) = true := by simp; omega
            have HDD := Lib.hid (fun u (hf : FrG W.heap.size wq u) => HD.out u (hBq.trans hf.toBelow))
            clear hA q1 q2 q3 hGq
            go_wp2_with (go_at_call 6; refine HBr.mono ?_; rintro e u5 ⟨rfl, hG2, hf2⟩; refine Hid.out ?_)
            refine Lib.hid ?_
            obtain ⟨d4, d5⟩ := HDD.out u5 hf2
            have HB6 := Lib.hid (hBq.trans hf2.toBelow)
            have HG6 := Lib.hid hG2
            clear HBr hG2 hf2 hBq d2 d3 HDD
            go_wp2_with fail
            go_roundw
            case rel => exact ⟨i + 1, g2, by omega, by go_num, by rw [HS2.out]; go_num, HOk2.out, HQ3.out, HG6.out, HB6.out⟩
            case measure => simp [intOf]; omega
          · have HQ3 := Lib.hid (hA.done (by omega) (by omega))
            have hzz : ((A1 : Int) == 0) = false := by simp; omega
            generalize sumN i (nat0 l0) = sm at *
            have HB6 := Lib.hid hBq
            have HG6 := Lib.hid hGq
            clear hA hGq hBq
            go_wp2_with fail
            go_roundw
            case rel => exact ⟨i + 1, g, by omega, by go_num, by rw [HS2.out]; go_num, HOk2.out, HQ3.out, HG6.out, HB6.out⟩
            case measure => simp [intOf]; omega
    · have hlt' : ¬ (i : Int) < n1 := by omega
      obtain rfl : i = n1 := by omega
      have hT : sumN i (nat0 l0) ≤ 400 := by
        have := sumN_up (f := nat0 l0) (c := 20) i (fun j hj => by have := (hok j hj).1; unfold nat0; omega)
        omega
      have HAB := Lib.hid (show ∀ u j, Below W.heap.size W u → j < i → u.cell? ⟨b0, o0 + j, none⟩ = some (.int .i64 (nat0 l0 j : Nat)) ∧ u.cell? ⟨b1, o1 + j, none⟩ = some (.int .i64 (nat0 l1 j : Nat)) ∧ nat0 l0 j ≤ 20 ∧ nat0 l1 j ≤ 20 from fun u j hu hj => by
        obtain ⟨⟨q1, q2⟩, q3, q4⟩ := hok j hj
        refine ⟨?_, ?_, by unfold nat0; omega, by unfold nat0; omega⟩
        · rw [hu.cell (p := ⟨b0, o0 + j, none⟩) hb0, HC0.out j hj]; unfold nat0; rw [Int.toNat_of_nonneg q1]
        · rw [hu.cell (p := ⟨b1, o1 + j, none⟩) hb1, HC1.out j hj]; unfold nat0; rw [Int.toNat_of_nonneg q3])
      have hmk := make_i wr i (by omega)
      have bA : Below wr.heap.size wr (wr.alloc (.cells (madeCells #[.int .i64 0] i) 3)) := (Below.refl _ _).alloc (Nat.le_refl _) _
      have HSi := Lib.hid (SiAt.made wr i)
      have HG := Lib.hid (hG.keep bA)
      have HB := Lib.hid (hB.trans (bA.mono hB.size))
      have HS := Lib.hid (hA.stA (by omega))
      have hWr := hB.size
      generalize nat0 l0 = fa at *
      generalize nat0 l1 = fb at *
      generalize hTT : sumN i fa = T at *
      have HTT := Lib.hid hTT
      clear hok hA hG hB bA hTT HC0 HC1
      go_wp2_with fail
      go_loopw [19] (fun kv u => ∃ (g : Gt Rg) (s : Nat → Nat), sumN i s ≤ T ∧ kv = .int .i64 (sumN i s : Nat) ∧ StA g rN 3 i fa fb s ∧ SiAt u wr.heap.size i s ∧ GX W.heap.size u B g ∧ Below W.heap.size W u ∧ W.heap.size ≤ wr.heap.size) (fun kv _ => T - (intOf kv).toNat)
      case atStart => exact ⟨g, fun _ => 0, by rw [sumN_zero]; omega, by rw [sumN_zero]; rfl, HS.out, HSi.out, HG.out, HB.out, hWr⟩
      case round =>
        clear HS HG HB HSi hmk hWr
        obtain ⟨g, s, hk, rfl, hS, hSi, hG, hB, hWw⟩ := hrel
        rename World => wu
        generalize wr.heap.size = sb at *
        by_cases hltk : sumN i s < T
        · have hltk' : ((sumN i s : Nat) : Int) < T := by omega
          have hub := stA_unbound hS (by rw [HTT.out]; exact hltk)
          obtain ⟨j, g', ht, hj, hsa, hS'⟩ := stA_take hS (by rw [HTT.out]; exact hltk)
          have HU := bound_n hG hub
          have hup := sum_up s j i
          rw [if_pos hj] at hup
          have HX := fun (u : World) (hu : Below wu.heap.size wu u) => next_x (hG.keep hu) ht
          simp only [rN] at HX
          have HXh := Lib.hid HX
          clear HX
          have HS' := Lib.hid hS'
          have HUp := Lib.hid hup
          clear hub ht hS hS' hup hG
          go_wp2_with (go_at_call 7; refine HU.mono ?_; rintro e u5 ⟨rfl, hb5⟩; refine Hid.out ?_)
          refine Lib.hid ?_
          have HX1 := HXh.out u5 hb5
          have hB5 := hB.trans (hb5.mono hB.size)
          have hSi5 := hSi.keep hb5
          clear HU HXh hb5 hB hSi
          go_wp2_with (go_at_call 9; refine HX1.mono ?_; rintro e u6 ⟨rfl, hG6, hf6⟩; refine Hid.out ?_)
          refine Lib.hid ?_
          have hB6 := hB5.trans hf6.toBelow
          have hSi6 := hSi5.frg hf6
          clear HX1 hB5 hSi5 hf6
          have bA0 : Below u6.heap.size u6 (u6.alloc (.cells #[.string ⟨#[]⟩, .int .i64 (s j : Nat), .int .i64 0] 33)) := (Below.refl _ _).alloc (Nat.le_refl _) _
          have hB7 := hB6.trans (bA0.mono hB6.size)
          have hSi7 := hSi6.keep bA0
          have hG7 := hG6.keep bA0
          obtain ⟨d0, -, d2, -⟩ := HAB.out _ j hB7 hj
          have s0 := hSi7.cell hj
          have r0 : (u6.alloc (.cells #[.string ⟨#[]⟩, .int .i64 (s j : Nat), .int .i64 0] 33)).cell? ⟨u6.heap.size, 1, none⟩ = some (.int .i64 (s j : Nat)) := by simp
          have hj' : (j : Int) < i := by omega
          have hsa' : ¬ ((fa j : Nat) : Int) ≤ ((s j : Nat) : Int) := by omega
          have hj0 : ¬ (j : Int) < 0 := by omega
          have hjn : ¬ (i : Int) ≤ (j : Int) := by omega
          clear hB6 hSi6 hG6 bA0
          go_wp2_with fail
          generalize u6.alloc (.cells #[.string ⟨#[]⟩, .int .i64 (s j : Nat), .int .i64 0] 33) = u7 at *
          go_quiet (fail)
          have bq : Below u7.heap.size u7 (u7.drewN nq) := ⟨rfl, rfl, rfl, Nat.le_refl _, fun _ _ => rfl⟩
          have hB8 := hB7.trans (bq.mono hB7.size)
          have hSi8 := hSi7.keep bq
          have hG8 := hG7.keep bq
          clear hB7 hSi7 hG7 bq s0 r0 d0
          generalize u7.drewN nq = u8 at *
          have s0 := hSi8.cell hj
          have s1 := hSi8.fz j
          have HG9 := Lib.hid (hG8.setI (j := j) hSi8 (.int .i64 ((s j : Nat) + 1)))
          have HSi9 := Lib.hid (hSi8.set hj)
          have HB9 := Lib.hid (hB8.setCell (p := ⟨sb, j, none⟩) hWw (.int .i64 ((s j : Nat) + 1)))
          have hsj : ((s j : Nat) : Int) ≤ 20 := by omega
          clear hB8 hSi8 hG8
          go_wp2_with fail
          go_roundw
          case rel => exact ⟨g', upN s j, by rw [HUp.out]; omega, by rw [HUp.out]; go_num, HS'.out, HSi9.out, HG9.out, HB9.out, hWw⟩
          case measure => simp [intOf]; omega
        · have hltk' : ¬ ((sumN i s : Nat) : Int) < T := by omega
          obtain ⟨ht, g', hbo, hS2⟩ := stA_end hS (by omega) (by rw [HTT.out]; omega)
          have HX := next_no hG ht
          have HBo := Lib.hid (fun (u : World) (hu : Below wu.heap.size wu u) => bound_x (hG.keep hu) hbo)
          have HS2 := Lib.hid hS2
          clear ht hbo hS hS2 hG
          go_wp2_with (go_at_call 9; refine HX.mono ?_; rintro e u5 ⟨rfl, hb5⟩; refine Hid.out ?_)
          refine Lib.hid ?_
          have bA := hb5.alloc hb5.size (.cells #[.string ⟨#[]⟩, .int .i64 0, .int .i64 0] 33)
          have HBo1 := HBo.out _ bA
          have hB6 := hB.trans (bA.mono hB.size)
          have hSi6 := hSi.keep bA
          clear HX HBo hb5 hB bA hSi
          go_wp2_with (go_at_call 7; refine HBo1.mono ?_; rintro e u6 ⟨rfl, hG7, hf7⟩; refine Hid.out ?_)
          refine Lib.hid ?_
          have HB7 := Lib.hid (hB6.trans hf7.toBelow)
          have HSi7 := Lib.hid (hSi6.frg hf7)
          have HG7 := Lib.hid hG7
          clear HBo1 hB6 hSi6 hG7 hf7
          have hT2 : sumN i (fun j => fa j + fb j) ≤ 800 := by
            have := sumN_up (f := fun j => fa j + fb j) (c := 40) i (fun j hj => by obtain ⟨-, -, q1, q2⟩ := HAB.out u6 j HB7.out hj; omega)
            omega
          go_wp2_with fail
          go_loopw [31] (fun _ u => ∃ (g : Gt Rg) (s : Nat → Nat), StB g rN i fa fb s ∧ SiAt u sb i s ∧ GX W.heap.size u B g ∧ Below W.heap.size W u) (fun _ u => sumN i (fun j => fa j + fb j) - mS sb i u)
          case atStart => exact ⟨g', s, HS2.out, HSi7.out, HG7.out, HB7.out⟩
          case round =>
            clear HS2 HSi7 HG7 HB7 hk hltk hltk'
            obtain ⟨g, s, hS, hSi, hG, hB⟩ := hrel
            rename World => wv
            have hms := hSi.sum
            cases ht : takeG g with
            | some x =>
              obtain ⟨r, j, g2⟩ := x
              obtain ⟨hj, rfl, hsj, hS2⟩ := stB_take hS ht
              have HX := next_x hG ht
              simp only [rN] at HX
              have hup := sum_up s j i
              rw [if_pos hj] at hup
              have hle := sumN_le (f := upN s j) (g := fun j => fa j + fb j) i (fun q hq => (hS2.2.2 q hq).2)
              obtain ⟨-, -, q1, q2⟩ := HAB.out wv j hB hj
              have HM := Lib.hid (show ∀ u, SiAt u sb i (upN s j) → sumN i (fun j => fa j + fb j) - mS sb i u < sumN i (fun j => fa j + fb j) - mS sb i wv from fun u hu => by rw [hu.sum, hms, hup]; omega)
              have HS2 := Lib.hid hS2
              clear hS hS2 ht hms hup hle hG
              go_wp2_with (go_at_call 9; refine HX.mono ?_; rintro e u6 ⟨rfl, hG6, hf6⟩; refine Hid.out ?_)
              refine Lib.hid ?_
              have hB6 := hB.trans hf6.toBelow
              have hSi6 := hSi.frg hf6
              clear HX hB hSi hf6
              have bA0 : Below u6.heap.size u6 (u6.alloc (.cells #[.string ⟨#[]⟩, .int .i64 (s j : Nat), .int .i64 0] 33)) := (Below.refl _ _).alloc (Nat.le_refl _) _
              have hB7 := hB6.trans (bA0.mono hB6.size)
              have hSi7 := hSi6.keep bA0
              have hG7 := hG6.keep bA0
              have s0 := hSi7.cell hj
              have r0 : (u6.alloc (.cells #[.string ⟨#[]⟩, .int .i64 (s j : Nat), .int .i64 0] 33)).cell? ⟨u6.heap.size, 1, none⟩ = some (.int .i64 (s j : Nat)) := by simp
              have hj' : (j : Int) < i := by omega
              clear hB6 hSi6 hG6 bA0
              go_wp2_with fail
              generalize u6.alloc (.cells #[.string ⟨#[]⟩, .int .i64 (s j : Nat), .int .i64 0] 33) = u7 at *
              go_quiet (fail)
              have bq : Below u7.heap.size u7 (u7.drewN nq) := ⟨rfl, rfl, rfl, Nat.le_refl _, fun _ _ => rfl⟩
              have hB8 := hB7.trans (bq.mono hB7.size)
              have hSi8 := hSi7.keep bq
              have hG8 := hG7.keep bq
              clear hB7 hSi7 hG7 bq s0 r0
              generalize u7.drewN nq = u8 at *
              have s0 := hSi8.cell hj
              have s1 := hSi8.fz j
              have HG9 := Lib.hid (hG8.setI (j := j) hSi8 (.int .i64 ((s j : Nat) + 1)))
              have HSi9 := Lib.hid (hSi8.set hj)
              have HB9 := Lib.hid (hB8.setCell (p := ⟨sb, j, none⟩) hWw (.int .i64 ((s j : Nat) + 1)))
              have hsj2 : ((s j : Nat) : Int) ≤ 40 := by omega
              clear hB8 hSi8 hG8
              go_wp2_with fail
              go_roundw
              case rel => exact ⟨g2, upN s j, HS2.out, HSi9.out, HG9.out, HB9.out⟩
              case measure => exact HM.out _ HSi9.out
            | none =>
              have hend := stB_end hS ht
              have hemp := (stB_empty hS (fun q hq => (hend q hq).1)).2
              have HX := next_no hG ht
              have HSE := Lib.hid (fun q (hq : q < i) => (hend q hq).1)
              have HG := Lib.hid hG
              have HEm := Lib.hid hemp
              clear hS ht hend hemp hms hG
              go_wp2_with (go_at_call 9; refine HX.mono ?_; rintro e u5 ⟨rfl, hb5⟩; refine Hid.out ?_)
              refine Lib.hid ?_
              have bA := hb5.alloc hb5.size (.cells #[.string ⟨#[]⟩, .int .i64 0, .int .i64 0] 33)
              have HB6 := Lib.hid (hB.trans (bA.mono hB.size))
              have HSi6 := Lib.hid (hSi.keep bA)
              have HG6 := Lib.hid (HG.out.keep bA)
              clear HX hb5 hB bA hSi HG
              go_wp2_with fail
              go_loopw [33] (fun iv u => ∃ q : Nat, q ≤ i ∧ iv = .int .i64 (q : Nat) ∧ SiAt u sb i s ∧ GX W.heap.size u B g ∧ Below W.heap.size W u) (fun iv _ => i - (intOf iv).toNat)
              case atStart => exact ⟨0, Nat.zero_le _, rfl, HSi6.out, HG6.out, HB6.out⟩
              case round =>
                clear HSi6 HG6 HB6
                obtain ⟨q, hq, rfl, hSi, hG, hB⟩ := hrel
                rename World => wx
                by_cases hlq : q < i
                · have hlq' : (q : Int) < i := by omega
                  obtain ⟨d0, d1, q1, q2⟩ := HAB.out wx q hB hlq
                  have s0 := hSi.cell hlq
                  have hsq := HSE.out q hlq
                  rw [hsq] at s0
                  have hne : ((((fa q + fb q : Nat)) : Int)) = ((fa q : Nat) : Int) + ((fb q : Nat) : Int) := by omega
                  rw [hne] at s0
                  have HSi := Lib.hid hSi
                  clear hsq hne hSi
                  generalize fa q = x0 at *
                  generalize fb q = x1 at *
                  go_wp2_with fail
                  go_quiet (fail)
                  have bq : Below wx.heap.size wx (wx.drewN nq) := ⟨rfl, rfl, rfl, Nat.le_refl _, fun _ _ => rfl⟩
                  have HB8 := Lib.hid (hB.trans (bq.mono hB.size))
                  have HSi8 := Lib.hid (HSi.out.keep bq)
                  have HG8 := Lib.hid (hG.keep bq)
                  clear hB HSi hG bq s0 d0 d1
                  generalize wx.drewN nq = u8 at *
                  go_wp2_with fail
                  go_roundw
                  case rel => exact ⟨q + 1, by omega, by go_num, HSi8.out, HG8.out, HB8.out⟩
                  case measure => simp [intOf]; omega
                · have hlq' : ¬ (q : Int) < i := by omega
                  have HWt := waiting_x hG
                  rw [HEm.out] at HWt
                  clear hSi hG
                  go_wp2_with (go_at_call 10; refine HWt.mono ?_; rintro e u6 ⟨rfl, hb6⟩; refine Hid.out ?_)
                  refine Lib.hid ?_
                  have HB3 := Lib.hid (hB.trans (hb6.mono hB.size))
                  clear HWt hb6 hB
                  go_wp2_with fail
                  go_ret
                  exact ⟨by simp, HB3.out⟩
end
end Go.Proofs.Ytneglanmigifhaa
