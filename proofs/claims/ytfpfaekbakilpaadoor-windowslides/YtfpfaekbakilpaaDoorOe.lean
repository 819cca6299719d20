/- WindowSlides walked. -/
import Derived.Test.YtfpfaekbakilpaaDoorOdf
import Derived.Test.YtfpfaekbakilpaaDoorWx
import Derived.Test.YtfpfaekbakilpaaDoorErr
import Derived.Test.YtfpfaekbakilpaaDoorWu
namespace Go.Proofs.YtfpfaekbakilpaaDoor
open Go.RowKit
set_option linter.unusedVariables false

theorem psame_nil (w : World) : Calls Tryd.prog 9 #[.slice none 0 0, .slice none 0 0] w fun e w' => e = .returned (.bool true) ∧ Below w.heap.size w w' :=
  psame_any w none none 0 0 [] (.inl rfl) (.inl rfl) (by simp)
set_option maxRecDepth 100000 in
set_option maxHeartbeats 2000000 in
/-- The four calls, whatever they answer: the same. -/
theorem wsl_main (w : World) (la : Option Addr) (c : Nat) (n : Nat) (size by_ slack : Int) (E1 E2 : Nat) (D1 D2 : List Pn) (hl1 : D1.length ≤ 1000000) (hl2 : D2.length ≤ 1000000) (hg : w.cell? ⟨0, 0, none⟩ = some ET)
    (HS1 : Calls Tryd.prog 6 #[.slice la n c, .int .i64 size, .int .i64 by_, .int .i64 slack] w fun e w' => ∃ A cap, e = .returned (.tuple #[.slice A D1.length cap, .int .i64 (E1 : Nat)]) ∧ CsAt w' A (pcells D1) ∧ Below w.heap.size w w')
    (HW1 : ∀ u, Below w.heap.size w u → Calls Tryd.prog 7 #[.slice la n c, .int .i64 size, .int .i64 by_, .int .i64 slack] u fun e w' => ∃ A cap, e = .returned (.tuple #[.slice A D1.length cap, errV E1]) ∧ CsAt w' A (pcells D1) ∧ Below u.heap.size u w')
    (HS2 : ∀ u, Below w.heap.size w u → Calls Tryd.prog 6 #[.slice la n c, .int .i64 size, .int .i64 size, .int .i64 slack] u fun e w' => ∃ A cap, e = .returned (.tuple #[.slice A D2.length cap, .int .i64 (E2 : Nat)]) ∧ CsAt w' A (pcells D2) ∧ Below u.heap.size u w')
    (HW2 : ∀ u, Below w.heap.size w u → Calls Tryd.prog 10 #[.slice la n c, .int .i64 size, .int .i64 slack] u fun e w' => ∃ A cap, e = .returned (.tuple #[.slice A D2.length cap, errV E2]) ∧ CsAt w' A (pcells D2) ∧ Below u.heap.size u w') :
    Calls Tryd.prog 3 #[.slice la n c, .int .i64 size, .int .i64 by_, .int .i64 slack] w fun e w' => e = .returned (.bool true) ∧ Below w.heap.size w w' := by
  have HEt := Lib.hid (fun (E : Nat) (u : World) (hu : Below w.heap.size w u) => show Calls Tryd.prog 8 #[errV E, .int .i64 (E : Nat)] u fun e w' => e = .returned (.bool true) ∧ Below u.heap.size u w' from by
    by_cases h0 : E = 0
    · subst h0
      refine (error_nil u).mono ?_
      rintro e w' ⟨rfl, rfl⟩
      exact ⟨rfl, Below.refl _ _⟩
    · rw [errV_ne h0]
      exact error_hit (E : Nat) u (et_below hg hu))
  have HEa := Lib.hid (HEt.out E1)
  have HEb := Lib.hid (HEt.out E2)
  have HW1' := Lib.hid HW1
  have HW2' := Lib.hid HW2
  have HS2' := Lib.hid HS2
  clear HEt hg HW1 HW2 HS2
  generalize errV E1 = e1 at *
  generalize errV E2 = e2 at *
  go_enter Tryd.func3, Tryd.ntmps3
  go_wp2_with (go_at_call 6; refine HS1.mono ?_; rintro e u1 ⟨A1, c1, rfl, hC1, b1⟩; refine Hid.out ?_)
  refine Lib.hid ?_
  have HWa := HW1'.out u1 b1
  have HC1 := Lib.hid hC1
  clear HS1 HW1' hC1
  go_wp2_with (go_at_call 7; refine HWa.mono ?_; rintro e u2 ⟨A2, c2, rfl, hC2, b2'⟩; refine Hid.out ?_)
  refine Lib.hid ?_
  have b2 := below_after b2' b1
  have HE1 := HEa.out u2 b2
  have HQ := Lib.hid (fun (u : World) (hu : Below u2.heap.size u2 u) => psame_any u A2 A1 c2 c1 D1 (hC2.keep hu) ((HC1.out.keep b2').keep hu) (by omega))
  clear HWa b2' hC2 HC1 HEa
  go_wp2_with (go_at_call 8; refine HE1.mono ?_; rintro e u3 ⟨rfl, b3'⟩; refine Hid.out ?_)
  refine Lib.hid ?_
  have b3 := below_after b3' b2
  have HQ1 := HQ.out u3 b3'
  clear HE1 HQ b3'
  go_wp2_with (go_at_call 9; refine HQ1.mono ?_; rintro e u4 ⟨rfl, b4'⟩; refine Hid.out ?_)
  refine Lib.hid ?_
  have b4 := below_after b4' b3
  have HSb := HS2'.out u4 b4
  clear HQ1 b4' HS2'
  go_wp2_with (go_at_call 6; refine HSb.mono ?_; rintro e u5 ⟨A5, c5, rfl, hC5, b5'⟩; refine Hid.out ?_)
  refine Lib.hid ?_
  have b5 := below_after b5' b4
  have HWb := HW2'.out u5 b5
  have HC5 := Lib.hid hC5
  clear HSb HW2' hC5 b5'
  go_wp2_with (go_at_call 10; refine HWb.mono ?_; rintro e u6 ⟨A6, c6, rfl, hC6, b6'⟩; refine Hid.out ?_)
  refine Lib.hid ?_
  have b6 := below_after b6' b5
  have HE2 := HEb.out u6 b6
  have HQ := Lib.hid (fun (u : World) (hu : Below u6.heap.size u6 u) => psame_any u A6 A5 c6 c5 D2 (hC6.keep hu) ((HC5.out.keep b6').keep hu) (by omega))
  clear HWb b6' hC6 HC5 HEb
  go_wp2_with (go_at_call 8; refine HE2.mono ?_; rintro e u7 ⟨rfl, b7'⟩; refine Hid.out ?_)
  refine Lib.hid ?_
  have b7 := below_after b7' b6
  have HQ2 := HQ.out u7 b7'
  clear HE2 HQ b7'
  go_wp2_with (go_at_call 9; refine HQ2.mono ?_; rintro e u8 ⟨rfl, b8'⟩; refine Hid.out ?_)
  refine Lib.hid ?_
  have b8 := below_after b8' b7
  clear HQ2 b8'
  go_wp2_with fail
  go_ret
  exact ⟨rfl, b8⟩
/-- What Slide answers, by either hand. -/
theorem ss_form (w : World) (la : Option Addr) (c : Nat) (l : List Rg) (size by_ slack : Int) (h : CsAt w la (rcells l)) (hn : l.length ≤ 9223372036854775807) (hks : ∀ r ∈ l, r.key.size ≤ 9223372036854775807) :
    Calls Tryd.prog 6 #[.slice la l.length c, .int .i64 size, .int .i64 by_, .int .i64 slack] w fun e w' => ∃ A cap, e = .returned (.tuple #[.slice A (if slE l size by_ slack = 0 then slideP size by_ slack l else []).length cap, .int .i64 ((slE l size by_ slack : Nat))]) ∧ CsAt w' A (pcells (if slE l size by_ slack = 0 then slideP size by_ slack l else [])) ∧ Below w.heap.size w w' := by
  refine (sslide_any w la c l size by_ slack h hn hks).mono ?_
  rintro e w' (⟨h0, h1, h2⟩ | ⟨h0, A, cap, h1, h2, h3⟩)
  · rw [if_neg h0]
    exact ⟨none, 0, h1, .inl rfl, h2⟩
  · rw [if_pos h0, h0]
    exact ⟨A, cap, h1, h2, h3⟩
theorem slE_eq (l : List Rg) (size by_ slack : Int) : slE l size by_ slack = if recsE l ≠ 0 then recsE l else if spanB size && spanB by_ && slackB slack && decide (size ≤ 16 * by_) then 0 else 1 := by
  unfold slE recsE
  by_cases g1 : 400 < l.length
  · simp [g1]
  · by_cases g2 : l.any badR = true
    · simp [g1, g2]
    · simp [g1, g2]
theorem sw_form (w : World) (la : Option Addr) (c : Nat) (l : List Rg) (size by_ slack : Int) (h : CsAt w la (rcells l)) (hn : l.length ≤ 9223372036854775807) (hks : ∀ r ∈ l, r.key.size ≤ 9223372036854775807) :
    Calls Tryd.prog 7 #[.slice la l.length c, .int .i64 size, .int .i64 by_, .int .i64 slack] w fun e w' => ∃ A cap, e = .returned (.tuple #[.slice A (if slE l size by_ slack = 0 then slideP size by_ slack l else []).length cap, errV (slE l size by_ slack)]) ∧ CsAt w' A (pcells (if slE l size by_ slack = 0 then slideP size by_ slack l else [])) ∧ Below w.heap.size w w' := by
  have he := slE_eq l size by_ slack
  by_cases hE : recsE l = 0
  · rw [if_neg (by simpa using hE)] at he
    cases hA : (spanB size && spanB by_ && slackB slack && decide (size ≤ 16 * by_)) with
    | true =>
      rw [hA, if_pos rfl] at he
      rw [if_pos he, he]
      simp only [Bool.and_eq_true, decide_eq_true_eq] at hA
      refine (slide_yes w la c l size by_ slack h hE hA.1.1.1 hA.1.1.2 hA.1.2 hA.2).mono ?_
      rintro e w' ⟨A, cap, rfl, h1, -, h3⟩
      exact ⟨A, cap, rfl, h1.cs, h3⟩
    | false =>
      rw [hA, if_neg (by simp)] at he
      rw [if_neg (by omega), he]
      refine (slide_args w la c l size by_ slack h hn hks hE hA).mono ?_
      rintro e w' ⟨rfl, h3⟩
      exact ⟨none, 0, rfl, .inl rfl, h3⟩
  · rw [if_pos hE] at he
    rw [if_neg (by omega), he]
    refine (slide_recs w la c l size by_ slack h hn hks hE).mono ?_
    rintro e w' ⟨rfl, h3⟩
    exact ⟨none, 0, rfl, .inl rfl, h3⟩
theorem st_form (w : World) (la : Option Addr) (c : Nat) (l : List Rg) (size slack : Int) (h : CsAt w la (rcells l)) (hn : l.length ≤ 9223372036854775807) (hks : ∀ r ∈ l, r.key.size ≤ 9223372036854775807) :
    Calls Tryd.prog 10 #[.slice la l.length c, .int .i64 size, .int .i64 slack] w fun e w' => ∃ A cap, e = .returned (.tuple #[.slice A (if slE l size size slack = 0 then slideP size size slack l else []).length cap, errV (slE l size size slack)]) ∧ CsAt w' A (pcells (if slE l size size slack = 0 then slideP size size slack l else [])) ∧ Below w.heap.size w w' := by
  have H := sw_form w la c l size size slack h hn hks
  clear h hn hks
  generalize (if slE l size size slack = 0 then slideP size size slack l else []) = D at *
  generalize errV (slE l size size slack) = e0 at *
  go_enter Tryd.func10, Tryd.ntmps10
  go_wp2_with (go_at_call 7; refine H.mono ?_; rintro e w' ⟨A2, c2, rfl, h1, h3⟩)
  go_ret2
  exact ⟨A2, c2, rfl, h1, h3⟩
theorem sl_len {l : List Rg} {size by_ slack : Int} : (if slE l size by_ slack = 0 then slideP size by_ slack l else []).length ≤ 1000000 := by
  by_cases h : slE l size by_ slack = 0
  · rw [if_pos h]
    have he := slE_eq l size by_ slack
    rw [h] at he
    by_cases hE : recsE l = 0
    · rw [if_neg (by simpa using hE)] at he
      have hA : (spanB size && spanB by_ && slackB slack && decide (size ≤ 16 * by_)) = true := by
        cases hA : (spanB size && spanB by_ && slackB slack && decide (size ≤ 16 * by_)) with
        | true => rfl
        | false => rw [hA, if_neg (by simp)] at he; omega
      simp only [Bool.and_eq_true, decide_eq_true_eq] at hA
      have a2 : 1 ≤ by_ ∧ by_ ≤ 1000000 := by have := hA.1.1.2; unfold spanB at this; simpa using this
      have := slS_len (slack := slack) a2.1 hA.2 l
      have := (recs_ok hE).1
      unfold slideP
      omega
    · rw [if_pos hE] at he; omega
  · rw [if_neg h]; simp
theorem wsl_walk (w : World) (la : Option Addr) (c : Nat) (l : List Rg) (size by_ slack : Int) (h : CsAt w la (rcells l)) (hn : l.length ≤ 9223372036854775807) (ho : ∀ r ∈ l, OkRc r) (hg : w.cell? ⟨0, 0, none⟩ = some ET) :
    Calls Tryd.prog 3 #[.slice la l.length c, .int .i64 size, .int .i64 by_, .int .i64 slack] w fun e w' => e = .returned (.bool true) ∧ Below w.heap.size w w' := by
  have hks : ∀ r ∈ l, r.key.size ≤ 9223372036854775807 := fun r hr => by have := (ho r hr).1; omega
  exact wsl_main w la c l.length size by_ slack _ _ _ _ sl_len sl_len hg (ss_form w la c l size by_ slack h hn hks) (fun u hu => sw_form u la c l size by_ slack (h.keep hu) hn hks) (fun u hu => ss_form u la c l size size slack (h.keep hu) hn hks) (fun u hu => st_form u la c l size slack (h.keep hu) hn hks)
end Go.Proofs.YtfpfaekbakilpaaDoor
