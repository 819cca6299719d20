/- AuditFinds. -/
import Derived.Test.YthcgjbpiiodlgaaBg
namespace Go.Proofs.Ythcgjbpiiodlgaa
open Go.RowKit Mp
set_option linter.unusedVariables false

theorem finds_fact (w : World) (B : Nat) (hB : w.heap.size = B) : Calls Try.prog 6 #[.slice (some ⟨B + 1, 0, none⟩) 1 1, .slice none 0 0] (litA w B ka [1]) fun e w' => ∃ key, e = .returned (.tuple #[.int .i64 1, .string key, .int .i64 0, .nilIface]) ∧ Below w.heap.size w w' := by
  subst hB
  have h1 := lit_at w ka [1] ka_size (by decide)
  have ok := ok_one ka [1] (by simp) (by simp)
  have hj : judgeP [(ka, [1])] [] = (1, ka, 0) := judge_gone [] ka [1] [] [] (by simp) (by simp)
  refine (judge_any _ _ none 1 0 1 0 _ [] h1 (.inl rfl) rfl rfl (by omega) (by omega) (by intro l hl x hx; simp at hl; subst hl; simp at hx; subst hx; exact ⟨by omega, by omega⟩) (by simp [RgL])).mono ?_
  rintro e w' ⟨rfl, hb⟩
  exact ⟨_, by rw [jd_of ok ok_nil, hj, both_good ok ok_nil]; rfl, below_after hb (lit_below _ _ _)⟩
theorem turn_rg {L : List Ln} {i : Nat} {z : List Int} (h : RgL L) (hz : ∀ x ∈ z, I64 x) : RgL (turnP L i z) := by
  unfold turnP
  split
  · intro l hl
    rcases List.mem_append.1 hl with hl | hl
    · exact h l (List.mem_of_mem_take hl)
    · exact h l (List.mem_of_mem_drop hl)
  · exact h.set hz
theorem finds_swap2 {L : List Ln} (h : LOk L) {i : Nat} (hi : i < L.length) {z : List Int} {key : ByteArray} (hz : z = L[i].2) (hk : key = L[i].1) {j : Nat} (hj : j + 1 < z.length) (hne : ¬ z[j] = z[j + 1]) :
    LOk (turnP L i ((z.set j z[j + 1]).set (j + 1) z[j])) ∧ judgeP L (turnP L i ((z.set j z[j + 1]).set (j + 1) z[j])) = (4, key, j) := by
  subst hz; subst hk
  exact finds_swap h hi hj hne
theorem both_self_no {L : List Ln} (h : linesE L ≠ 0) : bothE L L = linesE L := by unfold bothE; rw [if_neg h]
set_option maxRecDepth 100000 in
set_option maxHeartbeats 4000000 in
theorem finds_walk (w : World) (la : Option Addr) (cap : Nat) (L : List Ln) (at_ place : Int) (h : LnsAt w la L) (hl : L.length < 9223372036854775808) (hr : RgL L) (wa : I64 at_) (wp : I64 place) :
    Calls Try.prog 3 #[.slice la L.length cap, .int .i64 at_, .int .i64 place] w fun e w' => e = .returned (.bool true) ∧ Below w.heap.size w w' := by
  have H := Lib.hid h
  have HR := Lib.hid hr
  clear h hr
  obtain ⟨n, hn⟩ : ∃ n, n = L.length := ⟨_, rfl⟩
  rw [← hn] at hl ⊢
  have HN := Lib.hid hn
  clear hn
  obtain ⟨wb, hwb⟩ : ∃ wb, wb = w.alloc (.cells #[.slice la n cap] 22) := ⟨_, rfl⟩
  have hsz : wb.heap.size = w.heap.size + 1 := by rw [hwb]; simp
  have hwbB : Below w.heap.size w wb := by rw [hwb]; exact (Below.refl _ _).alloc (Nat.le_refl _) _
  have HWB := Lib.hid hwbB
  have HSZ := Lib.hid hsz
  have HF1 := Lib.hid (finds_fact wb (w.heap.size + 1) hsz)
  have HP0 : Hid (∀ u, Below wb.heap.size wb u → u.cell? ⟨w.heap.size, 0, none⟩ = some (.slice la n cap)) := fun u hu => Keeps.of hu _ _ (by rw [hwb]; exact cell_new w _ _ rfl)
  have HJ1 : Hid (∀ u, Below wb.heap.size wb u → Calls Try.prog 6 #[.slice la n cap, .slice la n cap] u fun e w' => e = .returned (.tuple #[.int .i64 ((jdV L L).1 : Nat), .string (jdV L L).2.1, .int .i64 ((jdV L L).2.2 : Nat), errV (bothE L L)]) ∧ Below u.heap.size u w') := fun u hu => judge_any u la la cap cap n n L L (lns_b H.out (below_after hu HWB.out)) (lns_b H.out (below_after hu HWB.out)) HN.out HN.out hl hl HR.out HR.out
  clear hsz hwbB
  go_enter Try.func3, Try.ntmps3
  go_wp2_with fail
  rw [← hwb]
  refine HF1.out.mono ?_
  rintro e w2 ⟨k0, rfl, b2⟩
  have B2 := Lib.hid b2
  have p0 := HP0.out w2 b2
  have H1 := Lib.hid (HJ1.out w2 b2)
  clear b2 HF1 hwb HJ1
  go_wp2_with fail
  by_cases h0 : linesE L = 0
  · have ok := lines_ok h0
    have hn4 : n ≤ 400 := by rw [HN.out]; exact ok.len
    have h3 := H1.out
    rw [jd_of ok ok, judge_self, both_good ok ok] at h3
    have HC := Lib.hid h3
    have HOK := Lib.hid ok
    clear H1 h3 h0 hl ok
    have e0 : errV 0 = .nilIface := rfl
    refine HC.out.mono ?_
    rintro e w3 ⟨rfl, b3⟩
    have B3 := Lib.hid (below_after b3 B2.out)
    have p1 := HP0.out w3 B3.out
    clear b3 B2 HC p0
    by_cases hn0 : n = 0
    · subst hn0
      go_wp2_with fail
      go_ret
      exact ⟨rfl, below_after B3.out HWB.out⟩
    · have hnz : ((n : Int) == 0) = false := by simp; omega
      go_wp2_with fail
      go_region_held3 (fun u => u.cell? ⟨w.heap.size, 0, none⟩ = some (.slice la n cap)) (first | go_keep) (fail)
      obtain ⟨i, hi, hii⟩ : ∃ i : Nat, i < n ∧ (IntKind.i64.wrap (at_.tmod (n : Int) + (n : Int))).tmod (n : Int) = (i : Int) := by
        have h1 := Int.tmod_lt_of_pos at_ (show (0 : Int) < (n : Int) by omega)
        have h2 : -(n : Int) < at_.tmod (n : Int) := by
          have := Int.lt_tmod_of_pos at_ (show (0 : Int) < (n : Int) by omega)
          omega
        have h3 : IntKind.i64.wrap (at_.tmod (n : Int) + (n : Int)) = at_.tmod (n : Int) + (n : Int) := by simp [IntKind.wrap, IntKind.bits, IntKind.signed]; omega
        rw [h3]
        have h4 := Int.tmod_lt_of_pos (at_.tmod (n : Int) + (n : Int)) (show (0 : Int) < (n : Int) by omega)
        have h5 := Int.tmod_nonneg (n : Int) (show 0 ≤ at_.tmod (n : Int) + (n : Int) by omega)
        exact ⟨((at_.tmod (n : Int) + (n : Int)).tmod (n : Int)).toNat, by omega, by omega⟩
      rw [hii]
      have hi0 : i < L.length := by have := HN.out; omega
      obtain ⟨w4, hw4⟩ : ∃ w4, w4 = (w3.alloc (.cells #[.int .i64 (i : Int)] 3)).drew := ⟨_, rfl⟩
      rw [← hw4]
      have b4 : Below w3.heap.size w3 w4 := by rw [hw4]; exact ((Below.refl _ _).alloc (Nat.le_refl _) _).drew
      have hq4 : w4.cell? ⟨w3.heap.size, 0, none⟩ = some (.int .i64 (i : Int)) := by
        rw [hw4]; show (w3.alloc _).cell? _ = _; exact cell_new w3 _ _ rfl
      have B4 : Hid (Below w.heap.size w w4) := below_after b4 (below_after B3.out HWB.out)
      obtain ⟨b, o, fa, fc, rfl, d0, d1, hI, j5, j6, j7⟩ := ln_at (lns_b H.out B4.out) i hi0
      obtain ⟨b2, o2, rfl, -⟩ := ints_at hI 0 (List.length_pos_iff.2 (HOK.out.one _ (List.getElem_mem hi0)).1)
      have HPQ : Hid (∀ u, Below w4.heap.size w4 u → (u.cell? ⟨w.heap.size, 0, none⟩ = some (.slice (some ⟨b, o, none⟩) n cap) ∧ u.cell? ⟨w3.heap.size, 0, none⟩ = some (.int .i64 (i : Int))) ∧ u.cell? ⟨b, o + i * 2, none⟩ = some (.string L[i].1) ∧ u.cell? ⟨b, o + i * 2 + 1, none⟩ = some (.slice (some ⟨b2, o2, none⟩) L[i].2.length fc) ∧ LnsAt u (some ⟨b, o, none⟩) L ∧ IntsAt u (some ⟨b2, o2, none⟩) L[i].2) := fun u hu => by
        refine ⟨⟨HP0.out u ?_, Keeps.of hu _ _ hq4⟩, Keeps.of hu _ _ d0, Keeps.of hu _ _ d1, lns_b H.out (below_after hu B4.out), ints_b hI hu⟩
        exact below_after hu (below_after b4 B3.out)
      generalize w3.heap.size = Qb at *
      obtain ⟨p, hp⟩ : ∃ p, p = L[i].2.length := ⟨_, rfl⟩
      obtain ⟨z, hz⟩ : ∃ z, z = L[i].2 := ⟨_, rfl⟩
      obtain ⟨key, hkey⟩ : ∃ key, key = L[i].1 := ⟨_, rfl⟩
      rw [← hp, ← hz, ← hkey] at HPQ
      rw [← hz] at hI
      rw [← hp] at j5
      rw [← hkey] at j7
      have hzp : z.length = p := by rw [hz, hp]
      obtain ⟨hne, h400⟩ := HOK.out.one _ (List.getElem_mem hi0)
      rw [← hz] at hne
      rw [← hp] at h400
      have hp0 : 0 < p := by rw [← hzp]; exact List.length_pos_iff.2 hne
      have HRz : Hid (∀ x ∈ z, I64 x) := by rw [hz]; exact HR.out _ (List.getElem_mem hi0)
      -- the closure, then Judge
      have HT : Hid (∀ u (y : List Int) fy cy, Below w4.heap.size w4 u → IntsAt u fy y → y.length ≤ cy → cy ≤ 9223372036854775807 → Calls Try.prog 7 #[.slice fy y.length cy, .pointer (some ⟨w.heap.size, 0, none⟩), .pointer (some ⟨Qb, 0, none⟩)] u fun e w' => ∃ A c, e = .returned (.slice A (turnP L i y).length c) ∧ LnsAt w' A (turnP L i y) ∧ Below u.heap.size u w') := fun u y fy cy hu hy h1 h2 => by
        obtain ⟨⟨q1, q2⟩, -, -, q3, -⟩ := HPQ.out u hu
        refine (turned_any u _ _ _ cap n i L y fy cy q1 q2 q3 HN.out hn4 hi hy h1 h2).mono ?_
        rintro e w' ⟨A, c, rfl, q4, -, q5⟩
        exact ⟨A, c, rfl, q4, q5⟩
      have HJ : Hid (∀ u A c M kd kx, Below w4.heap.size w4 u → LnsAt u A M → LOk M → RgL M → judgeP L M = (kd, key, kx) → Calls Try.prog 6 #[.slice (some ⟨b, o, none⟩) n cap, .slice A M.length c] u fun e w' => e = .returned (.tuple #[.int .i64 (kd : Nat), .string key, .int .i64 (kx : Nat), .nilIface]) ∧ Below u.heap.size u w') := fun u A c M kd kx hu hA ok rg hj => by
        obtain ⟨-, -, -, q3, -⟩ := HPQ.out u hu
        have h7 := judge_any u _ A cap c n M.length L M q3 hA HN.out rfl (by omega) (by have := ok.len; omega) HR.out rg
        rw [jd_of HOK.out ok, hj, both_good HOK.out ok] at h7
        exact h7
      have h4 := HPQ.out w4 (Below.refl _ _)
      obtain ⟨⟨x1, x2⟩, x3, x4, -, -⟩ := h4
      obtain ⟨Av, cv, w5, hr5, hrw5, hg5, ho5⟩ := in_app (RwAt.nil w4 3 1) (src_cs (P := Try.prog) (n := p) (c := fc) Try.underlying27 (ints_cs hI) (by simp [icells, hzp]) (by omega) (icells_one z)) (by omega)
      rw [Nat.zero_add] at hr5 hrw5 ho5
      have HR5 := Lib.hid hr5
      have b5 : Below w4.heap.size w4 w5 := below_grown (Below.refl _ _) hg5 (by simp [Value.ownBlock])
      rw [List.nil_append] at hrw5
      have hown5 : ∀ k, Value.ownBlock (.slice Av p cv) = some k → w4.heap.size ≤ k := fun k e => by
        rcases ho5 k e with h | h
        · simp [Value.ownBlock] at h
        · exact h
      have hbq : Below w5.heap.size w5 (w5.alloc (.cells #[.int .i64 7] 3)) := (Below.refl _ _).alloc (Nat.le_refl _) _
      obtain ⟨A6, c6, w6, hr6, hrw6, hg6, ho6⟩ := in_app (hrw5.keep hbq) (Src.ofSlice (P := Try.prog) (size := 1) _ Try.underlying27 (⟨w5.heap.size, 0, none⟩) 1 1 [.int .i64 7] rfl (World.news_of_block (cs := #[.int .i64 7]) (heap_alloc_new _ _)) (fun y hy => by simp at hy; subst hy; rfl)) (by omega)
      have HR6 := Lib.hid hr6
      have b6 : Below w4.heap.size w4 w6 := below_grown (below_after hbq b5) hg6 hown5
      have HL6 : Hid (IntsAt w6 A6 (z ++ [7]) ∧ Below w4.heap.size w4 w6 ∧ p + 1 ≤ c6 ∧ c6 ≤ 9223372036854775807) := by
        obtain ⟨_, _, e, h1, h2⟩ := hrw6.slice
        injection e with _ _ e
        refine ⟨cs_ints (show CsAt w6 A6 (icells (z ++ [7])) from ?_), b6, by omega, by unfold maxLen at h2; omega⟩
        rw [show icells (z ++ [7]) = icells z ++ [.int .i64 7] by simp [icells]]
        exact hrw6.cells
      clear hr5 hrw5 hg5 ho5 b5 hown5 hbq hr6 hrw6 hg6 ho6 b6 d0 d1 hI hw4 b4 hq4 HP0 hii B3 p1
      have HZP := Lib.hid hzp
      have HZe := Lib.hid hz
      have HPe := Lib.hid hp
      have HKe := Lib.hid hkey
      clear hp hz hkey hzp hne hnz
      go_upto_region 15 with fail
      go_upto_region 16 with (at_builtin; refine Lib.wpList_append_run _ rfl _ _ _ _ rfl _ _ rfl rfl _ _ HR5.out ?_)
      go_upto_region 17 with (at_builtin; refine Lib.wpList_append_run _ rfl _ _ _ _ rfl _ _ rfl rfl _ _ HR6.out ?_)
      clear HR5 HR6 x1 x2 x3 x4
      obtain ⟨hL6, hB6, hc6, hc7⟩ := HL6.out
      have HL7 := Lib.hid hL6
      have HB6 := Lib.hid hB6
      obtain ⟨⟨y1, y2⟩, y3, y4, -, -⟩ := HPQ.out w6 HB6.out
      clear HL6 hL6 hB6
      go_upto_if 86 with fail
      go_cut [] (fun wc => Hid (Below w4.heap.size w4 wc))
      case first =>
        by_cases g : p < 400
        · have g' : (p : Int) < 400 := by omega
          have hf := finds_long HOK.out hi0 7 (by rw [← HPe.out]; exact g)
          rw [← HZe.out, ← HKe.out, HZP.out] at hf
          have hzl : (z ++ [7]).length = p + 1 := by simp [HZP.out]
          have h8 := HT.out w6.drew (z ++ [7]) A6 c6 (HB6.out.drew) (HL7.out.keep (Keeps.of (Below.refl _ _).drew)) (by omega) (by omega)
          rw [hzl] at h8
          have HT8 := Lib.hid h8
          have hrg : RgL (turnP L i (z ++ [7])) := turn_rg HR.out (fun x hx => by
            rcases List.mem_append.1 hx with hx | hx
            · exact HRz.out x hx
            · simp at hx; subst hx; exact ⟨by omega, by omega⟩)
          have HJ8 : Hid (∀ u A c, Below w4.heap.size w4 u → LnsAt u A (turnP L i (z ++ [7])) → Calls Try.prog 6 #[.slice (some ⟨b, o, none⟩) n cap, .slice A (turnP L i (z ++ [7])).length c] u fun e w' => e = .returned (.tuple #[.int .i64 2, .string key, .int .i64 (p : Nat), .nilIface]) ∧ Below u.heap.size u w') := fun u A c hu hA => HJ.out u A c _ 2 p hu hA hf.1 hrg hf.2
          clear hf h8 hrg HJ HT
          go_wp2_with fail
          go_region_held3 (fun u => u.cell? ⟨w.heap.size, 0, none⟩ = some (.slice (some ⟨b, o, none⟩) n cap)) (first | go_keep | exact (HPQ.out _ (by assumption)).1.1) (first | (go_at_call 7; refine HT8.out.mono ?_; rintro e u2 ⟨A2, c2, rfl, hA2, bu2⟩; have bu3 : Below w4.heap.size w4 u2 := below_after bu2 HB6.out.drew; have HJ9 := Lib.hid (HJ8.out u2 A2 c2 bu3 hA2)) | (go_at_call 6; refine HJ9.out.mono ?_; rintro e u4 ⟨rfl, bu4⟩; have bu5 : Below w4.heap.size w4 u4 := below_after bu4 bu3))
          all_goals
            obtain ⟨⟨v1, v2⟩, v3, v4, -, -⟩ := HPQ.out u4 bu5
            clear HT8 HJ8 HJ9 hA2
            go_wp2_with fail
            go_meet
            exact bu5
        · have g' : ¬ (p : Int) < 400 := by omega
          clear HJ HT
          go_wp2_with fail
          go_meet
          exact HB6.out
      case rest =>
      rename World => w7
      have HB7 := Lib.hid hcut.out
      obtain ⟨⟨v1, v2⟩, v3, v4, -, vI⟩ := HPQ.out w7 HB7.out
      have HVI := Lib.hid vI
      clear hcut vI y1 y2 y3 y4 HL7 HB6
      obtain ⟨q, hq⟩ : ∃ q, p = q + 1 := ⟨p - 1, by omega⟩
      have HQ := Lib.hid hq
      have hsub : IntKind.i64.wrap ((p : Int) - 1) = (q : Int) := by simp [IntKind.wrap, IntKind.bits, IntKind.signed]; omega
      have hsl : (q : Int) ≤ (fc : Int) := by omega
      have hf := finds_short HOK.out hi0
      rw [← HZe.out, ← HKe.out, HZP.out, hq, Nat.add_sub_cancel] at hf
      clear hq
      have hzl : (z.take q).length = q := by rw [List.length_take, HZP.out]; have := HQ.out; omega
      have h8 := HT.out w7.drew (z.take q) (some ⟨b2, o2, none⟩) fc (HB7.out.drew) ((HVI.out.take q).keep (Keeps.of (Below.refl _ _).drew)) (by omega) (by omega)
      rw [hzl] at h8
      have HT8 := Lib.hid h8
      have hrg : RgL (turnP L i (z.take q)) := turn_rg HR.out (fun x hx => HRz.out x (List.mem_of_mem_take hx))
      have HJ8 : Hid (∀ u A c, Below w4.heap.size w4 u → LnsAt u A (turnP L i (z.take q)) → Calls Try.prog 6 #[.slice (some ⟨b, o, none⟩) n cap, .slice A (turnP L i (z.take q)).length c] u fun e w' => e = .returned (.tuple #[.int .i64 1, .string key, .int .i64 (q : Nat), .nilIface]) ∧ Below u.heap.size u w') := fun u A c hu hA => HJ.out u A c _ 1 q hu hA hf.1 hrg hf.2
      clear hf h8 hrg
      go_wp2_with fail
      go_region_held3 (fun u => u.cell? ⟨w.heap.size, 0, none⟩ = some (.slice (some ⟨b, o, none⟩) n cap) ∧ u.cell? ⟨Qb, 0, none⟩ = some (.int .i64 (i : Int)) ∧ u.cell? ⟨b, o + i * 2 + 1, none⟩ = some (.slice (some ⟨b2, o2, none⟩) p fc)) (first | go_keep | exact ⟨(HPQ.out _ (by assumption)).1.1, (HPQ.out _ (by assumption)).1.2, (HPQ.out _ (by assumption)).2.2.1⟩) (first | (go_at_call 7; refine HT8.out.mono ?_; rintro e u2 ⟨A2, c2, rfl, hA2, bu2⟩; have bu3 : Below w4.heap.size w4 u2 := below_after bu2 HB7.out.drew; have HJ9 := Lib.hid (HJ8.out u2 A2 c2 bu3 hA2)) | (go_at_call 6; refine HJ9.out.mono ?_; rintro e u4 ⟨rfl, bu4⟩; have bu5 : Below w4.heap.size w4 u4 := below_after bu4 bu3))
      all_goals
        clear v1 v2 v3 v4
        obtain ⟨⟨v1, v2⟩, v3, v4, -, vI⟩ := HPQ.out u4 bu5
        have HVI2 := Lib.hid vI
        have BU5 := Lib.hid bu5
        clear HT8 HJ8 HJ9 hA2 bu5 bu4 bu3 bu2 vI HVI HB7
        by_cases g2 : (p : Int) < 2
        · go_wp2_with fail
          go_ret
          exact ⟨rfl, below_after BU5.out B4.out⟩
        · have hq0 : ((q : Int) == 0) = false := by have := HQ.out; simp; omega
          have g2n : ¬ p < 2 := by omega
          have g2d : decide ((p : Int) < 2) = false := by simp; omega
          have hqp : 0 < q := by have := HQ.out; omega
          go_upto_region 27 with fail
          obtain ⟨j, hj, hjj⟩ : ∃ j : Nat, j < q ∧ (wrap64 (wrap64 (place.tmod (q : Int) + (p : Int)) - 1)).tmod (q : Int) = (j : Int) := by
            have h0 := HQ.out
            have h1 := Int.tmod_lt_of_pos place (show (0 : Int) < (q : Int) by omega)
            have h2 : -(q : Int) < place.tmod (q : Int) := Int.lt_tmod_of_pos place (show (0 : Int) < (q : Int) by omega)
            have h3 : wrap64 (place.tmod (q : Int) + (p : Int)) = place.tmod (q : Int) + (p : Int) := (by unfold wrap64; omega)
            have h4 : wrap64 (place.tmod (q : Int) + (p : Int) - 1) = place.tmod (q : Int) + (p : Int) - 1 := (by unfold wrap64; omega)
            rw [h3, h4]
            have h5 := Int.tmod_lt_of_pos (place.tmod (q : Int) + (p : Int) - 1) (show (0 : Int) < (q : Int) by omega)
            have h6 := Int.tmod_nonneg (q : Int) (show 0 ≤ place.tmod (q : Int) + (p : Int) - 1 by omega)
            exact ⟨((place.tmod (q : Int) + (p : Int) - 1).tmod (q : Int)).toNat, by omega, by omega⟩
          rw [hjj]
          clear hjj
          have hj1 : j + 1 < z.length := by have := HQ.out; have := HZP.out; omega
          have hjp : (j : Int) < (p : Int) := by have := HQ.out; omega
          have hjp1 : (j : Int) + 1 < (p : Int) := by have := HQ.out; omega
          have hadd : IntKind.i64.wrap ((j : Int) + 1) = ((j + 1 : Nat) : Int) := by simp [IntKind.wrap, IntKind.bits, IntKind.signed]; omega
          obtain ⟨_, _, ee, k1⟩ := ints_at HVI2.out j (by omega)
          injection ee with ee
          injection ee with ee1 ee2 _
          subst ee1; subst ee2
          obtain ⟨_, _, ee, k2⟩ := ints_at HVI2.out (j + 1) hj1
          injection ee with ee
          injection ee with ee1 ee2 _
          subst ee1; subst ee2
          by_cases hxy : z[j] = z[j + 1]
          · rw [← hxy] at k2
            have t1 : (z[j] == z[j]) = true := by simp
            clear hxy
            generalize z[j] = x at *
            go_quiet (fail)
            go_wp2_with fail
            go_ret
            exact ⟨rfl, below_drewN (below_after BU5.out B4.out) nq⟩
          · have hfs := finds_swap2 HOK.out hi0 HZe.out HKe.out hj1 hxy
            have HFS := Lib.hid hfs
            have t1 : (z[j] == z[j + 1]) = false := by simpa using hxy
            have hzx : ((z.set j z[j + 1]).set (j + 1) z[j]).length = p := by simp [HZP.out]
            have HZX := Lib.hid hzx
            have hrg : RgL (turnP L i ((z.set j z[j + 1]).set (j + 1) z[j])) := turn_rg HR.out (fun x hx => by
              rcases List.mem_or_eq_of_mem_set hx with hx | rfl
              · rcases List.mem_or_eq_of_mem_set hx with hx | rfl
                · exact HRz.out x hx
                · exact HRz.out _ (List.getElem_mem _)
              · exact HRz.out _ (List.getElem_mem _))
            have HRG := Lib.hid hrg
            clear hfs hxy hzx hrg
            go_quiet (fail)
            have BU6 : Hid (Below w4.heap.size w4 (u4.drewN nq)) := below_drewN BU5.out nq
            generalize u4.drewN nq = u6 at *
            clear v1 v2 v3 v4 k1 k2 HVI2
            obtain ⟨⟨v1, v2⟩, v3, v4, -, vI⟩ := HPQ.out u6 BU6.out
            obtain ⟨A8, c8, w8, hr8, hrw8, hg8, ho8⟩ := in_app (RwAt.nil u6 3 1) (src_cs (P := Try.prog) (n := p) (c := fc) Try.underlying27 (ints_cs vI) (by simp [icells, HZP.out]) (by omega) (icells_one z)) (by omega)
            rw [Nat.zero_add] at hr8 hrw8 ho8
            rw [List.nil_append] at hrw8
            obtain ⟨g8, o8, rfl, hnm⟩ := NmB.of hrw8 (by rw [HZP.out]) hp0
            have hg8l : u6.heap.size ≤ g8 := by
              rcases ho8 g8 rfl with h | h
              · simp [Value.ownBlock] at h
              · exact h
            have b8 : Below w4.heap.size w4 w8 := below_after (below_grown (Below.refl _ _) hg8 (by simp [Value.ownBlock])) BU6.out
            have hc8 : p ≤ c8 ∧ c8 ≤ 9223372036854775807 := by
              obtain ⟨_, _, e, h1, h2⟩ := hrw8.slice
              injection e with _ _ e
              unfold maxLen at h2
              exact ⟨by omega, by omega⟩
            have HR8 := Lib.hid hr8
            have hgl : w4.heap.size ≤ g8 := Nat.le_trans BU6.out.size hg8l
            obtain ⟨s1, s2⟩ := hnm.cell j (by omega)
            have hnm2 := hnm.set j (by omega) z[j + 1]
            obtain ⟨s3, s4⟩ := hnm2.cell (j + 1) (by simpa using hj1)
            have hnm3 := hnm2.set (j + 1) (by simpa using hj1) z[j]
            have b9 : Below w4.heap.size w4 (w8.setCell ⟨g8, o8 + j, none⟩ (.int .i64 z[j + 1])) := b8.setCell hgl _
            have b10 : Below w4.heap.size w4 ((w8.setCell ⟨g8, o8 + j, none⟩ (.int .i64 z[j + 1])).setCell ⟨g8, o8 + (j + 1), none⟩ (.int .i64 z[j])) := b9.setCell hgl _
            obtain ⟨⟨q1, q2⟩, q3, q4, -, qI⟩ := HPQ.out w8 b8
            obtain ⟨⟨r1, r2⟩, r3, r4, -, rI⟩ := HPQ.out _ b9
            obtain ⟨_, _, ee, k2⟩ := ints_at qI (j + 1) hj1
            injection ee with ee
            injection ee with ee1 ee2 _
            subst ee1; subst ee2
            obtain ⟨_, _, ee, k1⟩ := ints_at rI j (by omega)
            injection ee with ee
            injection ee with ee1 ee2 _
            subst ee1; subst ee2
            have HN3 : Hid (IntsAt ((w8.setCell ⟨g8, o8 + j, none⟩ (.int .i64 z[j + 1])).setCell ⟨g8, o8 + (j + 1), none⟩ (.int .i64 z[j])) (some ⟨g8, o8, none⟩) ((z.set j z[j + 1]).set (j + 1) z[j])) := hnm3.ints
            generalize ((z.set j z[j + 1]).set (j + 1) z[j]) = zz at *
            generalize z[j] = xj at *
            generalize z[j + 1] = xk at *
            clear hr8 hrw8 hg8 ho8 hnm hnm2 hnm3 vI qI rI
            have hjp2 : (j : Int) < (p : Int) := hjp
            go_wp2_with (at_builtin; refine Lib.wpList_append_run _ rfl _ _ _ _ rfl _ _ rfl rfl _ _ HR8.out ?_)
            have BU9 := Lib.hid b10
            clear k1 k2 s1 s2 s3 s4 q1 q2 q3 q4 r1 r2 r3 r4 v1 v2 v3 v4 b8 b9 HR8
            generalize ((w8.setCell ⟨g8, o8 + j, none⟩ (.int .i64 xk)).setCell ⟨g8, o8 + (j + 1), none⟩ (.int .i64 xj)) = w9 at *
            obtain ⟨⟨v1, v2⟩, v3, v4, -, -⟩ := HPQ.out w9 BU9.out
            have h8 := HT.out w9.drew zz (some ⟨g8, o8, none⟩) c8 (BU9.out.drew) (HN3.out.keep (Keeps.of (Below.refl _ _).drew)) (by rw [HZX.out]; omega) hc8.2
            rw [HZX.out] at h8
            have HT8 := Lib.hid h8
            have HJ8 : Hid (∀ u A c, Below w4.heap.size w4 u → LnsAt u A (turnP L i zz) → Calls Try.prog 6 #[.slice (some ⟨b, o, none⟩) n cap, .slice A (turnP L i zz).length c] u fun e w' => e = .returned (.tuple #[.int .i64 4, .string key, .int .i64 (j : Nat), .nilIface]) ∧ Below u.heap.size u w') := fun u A c hu hA => HJ.out u A c _ 4 j hu hA HFS.out.1 HRG.out HFS.out.2
            clear h8 HFS HRG HZX HN3 b10
            go_region_held3 (fun u => u.cell? ⟨w.heap.size, 0, none⟩ = some (.slice (some ⟨b, o, none⟩) n cap)) (first | go_keep | exact (HPQ.out _ (by assumption)).1.1) (first | (go_at_call 7; refine HT8.out.mono ?_; rintro e u2 ⟨A2, c2, rfl, hA2, bu2⟩; have bu3 : Below w4.heap.size w4 u2 := below_after bu2 BU9.out.drew; have HJ9 := Lib.hid (HJ8.out u2 A2 c2 bu3 hA2)) | (go_at_call 6; refine HJ9.out.mono ?_; rintro e u5 ⟨rfl, bu4⟩; have bu5 : Below w4.heap.size w4 u5 := below_after bu4 bu3))
            all_goals
              clear v1 v2 v3 v4
              obtain ⟨⟨v1, v2⟩, v3, v4, -, -⟩ := HPQ.out u5 bu5
              clear HT8 HJ8 HJ9 hA2
              go_wp2_with fail
              go_ret
              exact ⟨rfl, below_after bu5 B4.out⟩
  · obtain ⟨tv, hv⟩ := errV_ne h0
    have h3 := H1.out
    rw [both_self_no h0, hv] at h3
    have HC := Lib.hid h3
    clear H1 h3 h0 hl hv
    refine HC.out.mono ?_
    rintro e w3 ⟨rfl, b3⟩
    have B3 := Lib.hid (below_after (below_after b3 B2.out) HWB.out)
    clear b3
    go_wp2_with fail
    go_ret
    exact ⟨rfl, B3.out⟩
end Go.Proofs.Ythcgjbpiiodlgaa
