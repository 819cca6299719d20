/- AuditJudges. -/
import Derived.Test.YthcgjbpiiodlgaaDoorCc
import Derived.Test.YthcgjbpiiodlgaaDoorBa
import Derived.Test.YthcgjbpiiodlgaaDoorErr
namespace Go.Proofs.YthcgjbpiiodlgaaDoor
open Go.RowKit Mp
set_option linter.unusedVariables false

theorem err_any (k : Nat) (w : World) (hg : w.cell? ⟨0, 0, none⟩ = some ET) : Calls Tryd.prog 6 #[errV k, .int .i64 (k : Int)] w fun e w' => e = .returned (.bool true) ∧ Below w.heap.size w w' := by
  by_cases h : k = 0
  · subst h
    refine (error_nil w).mono ?_
    rintro e w' ⟨rfl, rfl⟩
    exact ⟨rfl, Below.refl _ _⟩
  · have : errV k = .iface 42 (.int .i64 k) := by unfold errV; rw [if_neg h]
    rw [this]
    exact error_hit (k : Int) w hg
set_option maxRecDepth 100000 in
set_option maxHeartbeats 4000000 in
theorem judges_walk (w : World) (la lb : Option Addr) (c d : Nat) (W G : List Ln) (ha : LnsAt w la W) (hb : LnsAt w lb G) (hl : W.length < 9223372036854775808) (hl2 : G.length < 9223372036854775808) (hW : RgL W) (hG : RgL G) (hg : w.cell? ⟨0, 0, none⟩ = some ET) :
    Calls Tryd.prog 3 #[.slice la W.length c, .slice lb G.length d] w fun e w' => e = .returned (.bool true) ∧ Below w.heap.size w w' := by
  obtain ⟨n, hn⟩ : ∃ n, n = W.length := ⟨_, rfl⟩
  obtain ⟨m, hm⟩ : ∃ m, m = G.length := ⟨_, rfl⟩
  rw [← hn] at hl ⊢
  rw [← hm] at hl2 ⊢
  have HET : Hid (∀ u, Below w.heap.size w u → u.cell? ⟨0, 0, none⟩ = some ET) := fun u hu => et_below hg hu
  have HD1 : Hid (∀ u, Below w.heap.size w u → Calls Tryd.prog 5 #[.slice la n c] u fun e w' => e = .returned (.int .i64 (linesE W : Nat)) ∧ Below u.heap.size u w') := fun u hu => (dcheck_any u la c n W (lns_b ha hu) hn).mono (fun e w' ⟨h1, q, h2⟩ => ⟨h1, by rw [h2]; exact below_dr u q⟩)
  have HD2 : Hid (∀ u, Below w.heap.size w u → Calls Tryd.prog 5 #[.slice lb m d] u fun e w' => e = .returned (.int .i64 (linesE G : Nat)) ∧ Below u.heap.size u w') := fun u hu => (dcheck_any u lb d m G (lns_b hb hu) hm).mono (fun e w' ⟨h1, q, h2⟩ => ⟨h1, by rw [h2]; exact below_dr u q⟩)
  have HCK : Hid (∀ u, Below w.heap.size w u → Calls Tryd.prog 7 #[.slice la n c] u fun e w' => e = .returned (errV (linesE W)) ∧ Below u.heap.size u w') := fun u hu => check_any u la c n W (lns_b ha hu) hn hl
  have HJ : Hid (∀ u, Below w.heap.size w u → Calls Tryd.prog 9 #[.slice la n c, .slice lb m d] u fun e w' => e = .returned (.tuple #[.int .i64 ((jdV W G).1 : Nat), .string (jdV W G).2.1, .int .i64 ((jdV W G).2.2 : Nat), errV (bothE W G)]) ∧ Below u.heap.size u w') := fun u hu => judge_any u la lb c d n m W G (lns_b ha hu) (lns_b hb hu) hn hm hl hl2 hW hG
  have HDJ : Hid (bothE W G = 0 → ∀ u, Below w.heap.size w u → Calls Tryd.prog 8 #[.slice la n c, .slice lb m d] u fun e w' => e = .returned (.tuple #[.int .i64 ((jdV W G).1 : Nat), .string (jdV W G).2.1, .int .i64 ((jdV W G).2.2 : Nat)]) ∧ Below u.heap.size u w') := fun h0 u hu => by
    obtain ⟨okW, okG⟩ := both_ok h0
    rw [jd_of okW okG]
    exact (djudge_any u la lb c d n m W G (lns_b ha hu) (lns_b hb hu) hn hm okW okG).mono (fun e w' ⟨h1, q, h2⟩ => ⟨h1, by rw [h2]; exact below_dr u q⟩)
  have HNO : Hid (bothE W G ≠ 0 → jdV W G = (0, ByteArray.empty, 0)) := fun h => by unfold jdV; rw [if_neg h]
  have HB0 : Hid (linesE W = 0 → bothE W G = linesE G) := fun h => by unfold bothE; rw [if_pos h]
  have HB1 : Hid (linesE W ≠ 0 → bothE W G = linesE W) := fun h => by unfold bothE; rw [if_neg h]
  clear ha hb hW hG hg hn hm
  generalize jdV W G = J at *
  generalize bothE W G = B at *
  generalize linesE W = E at *
  generalize linesE G = F at *
  clear hl hl2
  go_enter Tryd.func3, Tryd.ntmps3
  go_wp2_with fail
  refine (HD1.out w (Below.refl _ _)).mono ?_
  rintro e w1 ⟨rfl, b1⟩
  have B1 := Lib.hid b1
  have H1 := Lib.hid (HCK.out w1 b1)
  clear b1 HD1 HCK
  go_wp2_with fail
  refine H1.out.mono ?_
  rintro e w2 ⟨rfl, b2⟩
  have B2 := Lib.hid (below_after b2 B1.out)
  have H2 := Lib.hid (err_any E w2 (HET.out w2 B2.out))
  clear b2 B1 H1
  go_wp2_with fail
  refine H2.out.mono ?_
  rintro e w3 ⟨rfl, b3⟩
  have B3 := Lib.hid (below_after b3 B2.out)
  clear b3 B2 H2
  -- both checked
  have HTAIL : ∀ u, Below w.heap.size w u → True := fun _ _ => trivial
  clear HTAIL
  by_cases hE : E = 0
  · subst hE
    have hB := HB0.out rfl
    subst hB
    have H3 := Lib.hid (HD2.out w3 B3.out)
    clear HB0 HB1 HD2
    go_wp2_with fail
    refine H3.out.mono ?_
    rintro e w4 ⟨rfl, b4⟩
    have B4 := Lib.hid (below_after b4 B3.out)
    clear b4 B3 H3
    by_cases hF : B = 0
    · subst hF
      have H4 := Lib.hid (HDJ.out rfl w4 B4.out)
      clear HDJ HNO
      go_wp2_with fail
      refine H4.out.mono ?_
      rintro e w5 ⟨rfl, b5⟩
      have B5 := Lib.hid (below_after b5 B4.out)
      have H5 := Lib.hid (HJ.out w5 B5.out)
      clear b5 B4 H4 HJ
      go_wp2_with fail
      refine H5.out.mono ?_
      rintro e w6 ⟨rfl, b6⟩
      have B6 := Lib.hid (below_after b6 B5.out)
      have H6 := Lib.hid (err_any 0 w6 (HET.out w6 B6.out))
      clear b6 B5 H5
      go_wp2_with fail
      refine H6.out.mono ?_
      rintro e w7 ⟨rfl, b7⟩
      have B7 := Lib.hid (below_after b7 B6.out)
      clear b7 B6 H6
      have t1 : (J.2.1.toList == J.2.1.toList) = true := by simp
      go_wp2_with fail
      go_ret
      exact ⟨rfl, B7.out⟩
    · have hJ0 := HNO.out hF
      subst hJ0
      have hF2 : ((B : Int) == 0) = false := by simp; omega
      have H5 := Lib.hid (HJ.out w4 B4.out)
      clear HDJ HNO HJ
      go_wp2_with fail
      refine H5.out.mono ?_
      rintro e w6 ⟨rfl, b6⟩
      have B6 := Lib.hid (below_after b6 B4.out)
      have H6 := Lib.hid (err_any B w6 (HET.out w6 B6.out))
      clear b6 H5
      go_wp2_with fail
      refine H6.out.mono ?_
      rintro e w7 ⟨rfl, b7⟩
      have B7 := Lib.hid (below_after b7 B6.out)
      clear b7 B6 H6
      go_wp2_with fail
      go_ret
      exact ⟨rfl, B7.out⟩
  · have hB := HB1.out hE
    subst hB
    have hJ0 := HNO.out hE
    subst hJ0
    have hF2 : ((B : Int) == 0) = false := by simp; omega
    have H5 := Lib.hid (HJ.out w3 B3.out)
    clear HDJ HNO HJ HB0 HB1 HD2
    go_wp2_with fail
    refine H5.out.mono ?_
    rintro e w6 ⟨rfl, b6⟩
    have B6 := Lib.hid (below_after b6 B3.out)
    have H6 := Lib.hid (err_any B w6 (HET.out w6 B6.out))
    clear b6 H5
    go_wp2_with fail
    refine H6.out.mono ?_
    rintro e w7 ⟨rfl, b7⟩
    have B7 := Lib.hid (below_after b7 B6.out)
    clear b7 B6 H6
    go_wp2_with fail
    go_ret
    exact ⟨rfl, B7.out⟩
end Go.Proofs.YthcgjbpiiodlgaaDoor
