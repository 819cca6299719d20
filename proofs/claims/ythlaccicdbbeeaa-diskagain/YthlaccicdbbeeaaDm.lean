/- DiskAgain, walked. -/
import Derived.Test.YthlaccicdbbeeaaDk
import Derived.Test.YthlaccicdbbeeaaPureDm
namespace Go.Proofs.Ythlaccicdbbeeaa
open Go.RowKit
set_option linter.unusedVariables false

set_option maxRecDepth 100000 in
set_option maxHeartbeats 4000000 in
theorem again_big (w : World) (pa pb : Option Addr) (ca cb : Nat) (a b : List UInt8) (ha : BsAt w pa a) (hb : BsAt w pb b) (hal : a.length ≤ 140737488355328) (hbl : b.length ≤ 140737488355328) (keep : Int) (hbig : 60000 < a.length ∨ 60000 < b.length) :
    Calls Try.prog 4 #[.slice pa a.length ca, .slice pb b.length cb, .int .i64 keep] w fun e w' => e = .returned (.bool true) ∧ Below w.heap.size w w' := by
  go_enter Try.func4, Try.ntmps4
  go_wp2_with fail
  refine (new_any w).mono ?_
  rintro e w1 ⟨rfl, h1, b1⟩
  go_wp2_with fail
  refine (write_lo h1 Sm.new (by omega) (by omega) nA (by decide) b1 pa ca a ha rfl _ rfl hal).mono ?_
  rintro e w2 ⟨he, uv2, h2, b2⟩
  change e = .returned (erV (m1 a).1) at he
  generalize erV _ = v1 at he
  subst he
  have b2' := b1.trans b2
  go_wp2_with fail
  refine (write_lo h2 (Sm.new.wr nA a) (by omega) (by omega) nA (by decide) b2' pb cb b hb rfl _ rfl hbl).mono ?_
  rintro e w3 ⟨he, uv3, h3, b3⟩
  change e = .returned (erV (m2 a b).1) at he
  generalize erV _ = v2 at he
  subst he
  have b3' := b2'.trans b3
  change DkS w.heap.size w3 _ _ uv3 (m2 a b).2 _ at h3
  have hz3 := b3'.size
  go_wp2_with fail
  have HR : Calls Try.prog 13 #[.pointer (some ⟨w.heap.size + 1, 0, none⟩), .string nA] w3 fun e w4 => ∃ x y, e = .returned (.tuple #[x, y]) ∧ Below w3.heap.size w3 w4 := by
    refine (read_any h3 nA (by decide)).mono ?_
    rintro e w4 ⟨hb4, hr⟩
    split at hr
    · obtain ⟨A, cap, h1, _⟩ := hr
      exact ⟨_, _, h1, hb4⟩
    · exact ⟨_, _, hr, hb4⟩
  refine HR.mono ?_
  rintro e w4 ⟨x, y, rfl, b4⟩
  have b4' := b3'.trans (b4.mono hz3)
  clear h1 h2 h3 b1 b2 b3 b2' HR
  by_cases h6 : 60000 < a.length
  · have h6' : (60000 : Int) < a.length := by omega
    go_wp2
    go_ret
    exact ⟨rfl, b4'⟩
  · have h6' : ¬ (60000 : Int) < a.length := by omega
    have h6'' : (60000 : Int) < b.length := by omega
    go_wp2
    go_ret
    exact ⟨rfl, b4'⟩

set_option maxRecDepth 100000 in
set_option maxHeartbeats 4000000 in
theorem again_small (w : World) (pa pb : Option Addr) (ca cb : Nat) (a b : List UInt8) (ha : BsAt w pa a) (hb : BsAt w pb b) (hal : a.length ≤ 140737488355328) (hbl : b.length ≤ 140737488355328) (keep : Int) (ha6 : a.length ≤ 60000) (hb6 : b.length ≤ 60000) :
    Calls Try.prog 4 #[.slice pa a.length ca, .slice pb b.length cb, .int .i64 keep] w fun e w' => e = .returned (.bool true) ∧ Below w.heap.size w w' := by
  obtain ⟨⟨z1, z2⟩, -⟩ := again_two ha6 hb6
  obtain ⟨p2, p3⟩ := again_read ha6 hb6
  have pN := again_names ha6 hb6 keep
  have pU := (again_m3 ha6 hb6 keep).1
  have p4 := (again_m4 a b keep pU).1
  have na6 : ¬ (60000 : Int) < a.length := by omega
  have nb6 : ¬ (60000 : Int) < b.length := by omega
  have P5 := Lib.hid (fun hk : 0 < keep => again_last ha6 hb6 hk)
  go_enter Try.func4, Try.ntmps4
  go_wp2_with fail
  refine (new_any w).mono ?_
  rintro e w1 ⟨rfl, h1, b1⟩
  go_wp2_with fail
  refine (write_lo h1 Sm.new (by omega) (by omega) nA (by decide) b1 pa ca a ha rfl _ rfl hal).mono ?_
  rintro e w2 ⟨he, uv2, h2, b2⟩
  change e = .returned (erV (m1 a).1) at he
  rw [z1, erV_0] at he
  subst he
  have b2' := b1.trans b2
  go_wp2_with fail
  refine (write_lo h2 (Sm.new.wr nA a) (by omega) (by omega) nA (by decide) b2' pb cb b hb rfl _ rfl hbl).mono ?_
  rintro e w3 ⟨he, uv3, h3, b3⟩
  change e = .returned (erV (m2 a b).1) at he
  rw [z2, erV_0] at he
  subst he
  have b3' := b2'.trans b3
  change DkS w.heap.size w3 _ _ uv3 (m2 a b).2 _ at h3
  have hz3 := b3'.size
  go_wp2_with fail
  have HR : Calls Try.prog 13 #[.pointer (some ⟨w.heap.size + 1, 0, none⟩), .string nA] w3 fun e w4 => ∃ A cap, e = .returned (.tuple #[.slice A b.length cap, .nilIface]) ∧ BsAt w4 A b ∧ Below w3.heap.size w3 w4 := by
    refine (read_any h3 nA (by decide)).mono ?_
    rintro e w4 ⟨hb4, hr⟩
    rw [p2, if_pos rfl, p3] at hr
    obtain ⟨A, cap, h1, h2, _⟩ := hr
    exact ⟨A, cap, h1, h2, hb4⟩
  refine HR.mono ?_
  rintro e w4 ⟨Ax, capx, rfl, hAx, b4⟩
  have b4' := b3'.trans (b4.mono hz3)
  have hz4 := b4'.size
  have h4 := h3.keep b4
  have cv1 : (convert 22 9 (.slice Ax b.length capx)).run Try.prog w4 = .ok (.string ⟨b.toArray⟩) w4 := hAx.convert _ _ rfl
  have cv2 : (convert 22 9 (.slice pb b.length cb)).run Try.prog w4 = .ok (.string ⟨b.toArray⟩) w4 := (hb.keep b4').convert _ _ rfl
  clear h1 h2 h3 b1 b2 b3 b2' HR hAx b3' b4 p2 p3
  go_wp2_with fail
  refine (crash_lo h4 ((Sm.new.wr nA a).wr nA b) (by omega) (by omega) keep).mono ?_
  rintro e w5 ⟨⟨v5, rfl⟩, ⟨uv5, h5⟩, b5⟩
  change DkS w.heap.size w5 _ _ uv5 (m3 a b keep) _ at h5
  have b5' := b4'.trans b5
  have hz5 := b5'.size
  clear cv1 cv2 h4
  go_wp2_with fail
  refine (names_any h5 (by omega)).mono ?_
  rintro e w6 ⟨A6, cap6, l6, rfl, hA6, hN6, hln6, hAn6, b6⟩
  have E6 := Lib.hid (show l6 = namesA keep from hN6.unique pN)
  have b6' := b5'.trans (b6.mono hz5)
  have hz6 := b6'.size
  have h6 := h5.keep b6
  have hlen6 : l6.length ≤ 1000000000 := by omega
  clear hN6 hln6
  go_wp2_with fail
  refine (crash_any h6 99 (by rw [pU]; simp) (by rw [pU]; unfold maxLen; simp)).mono ?_
  rintro e w7 ⟨⟨v7, rfl⟩, h7, f7⟩
  change DkS w.heap.size w7 _ _ _ (m4 a b keep) _ at h7
  rw [pU] at h7
  have b7' := b6'.trans (f7.low h6)
  have hz7 := b7'.size
  have hA7 : SsAt w7 A6 l6 := hA6.keep (fun x u hu ⟨y, hy, hxy⟩ => by
    have h0 := hAn6 y hy
    rw [World.cell?_of_block (w := w6) (f7.block x.block (block_lt_of_cell hu) (h5.oth (by rw [hxy]; exact h0)))]
    exact hu)
  clear h6 hA6 f7 b6 h5
  go_wp2_with fail
  refine (names_any h7 (by simp)).mono ?_
  rintro e w8 ⟨A8, cap8, l8, rfl, hA8, hN8, hln8, hAn8, b8⟩
  rw [p4] at hN8
  have e8 : l8 = l6 := by rw [E6.out]; exact hN8.unique pN
  subst e8
  have b8' := b7'.trans (b8.mono hz7)
  have hz8 := b8'.size
  have h8 := h7.keep b8
  have HT := texts_same w8 A6 A8 cap6 cap8 l8 (hA7.below b8) hA8 hlen6 l8.length l8.length rfl rfl
  clear h7 hA7 hA8 hN8 hln8
  go_wp2_with fail
  refine HT.mono ?_
  rintro e w9 ⟨rfl, k9, rfl⟩
  have h9 := h8.drewN k9
  have b9' : Below w.heap.size w (w8.drewN k9) := ⟨b8'.os, b8'.tape, b8'.output, b8'.size, b8'.block⟩
  generalize w8.drewN k9 = w9 at *
  clear h8 b8' b8 HT hz8
  by_cases hk : 0 < keep
  · have hl1 : l8.length = 1 := by rw [E6.out]; unfold namesA; rw [if_pos hk]; rfl
    have Q := Lib.hid (P5.out hk)
    clear E6 hlen6 pN pU p4 P5 z1 z2
    generalize l8.length = ll at *
    subst hl1
    go_wp2_with fail
    obtain ⟨q1, q2, q3, q4⟩ := Q.out
    clear Q
    refine (rename_lo h9 (Sm.cr 0 _ 99) (by omega) (by simp) nA nB (by decide) (by decide)).mono ?_
    rintro e w10 ⟨he, uv10, h10, b10⟩
    change e = .returned (erV (m5 a b keep).1) at he
    rw [q1, erV_0] at he
    subst he
    have b10' := b9'.trans b10
    go_wp2_with fail
    refine (rename_lo h10 ((Sm.cr 0 _ 99).rn nA nB) (by omega) (by simp) nB nA (by decide) (by decide)).mono ?_
    rintro e w11 ⟨he, uv11, h11, b11⟩
    change e = .returned (erV (m6 a b keep).1) at he
    rw [q2, erV_0] at he
    subst he
    have b11' := b10'.trans b11
    change DkS w.heap.size w11 _ _ uv11 (m6 a b keep).2 _ at h11
    have HR2 : Calls Try.prog 13 #[.pointer (some ⟨w.heap.size + 1, 0, none⟩), .string nA] w11 fun e w12 => ∃ A cap, e = .returned (.tuple #[.slice A (wantA a b keep).length cap, .nilIface]) ∧ BsAt w12 A (wantA a b keep) ∧ Below w11.heap.size w11 w12 := by
      refine (read_any h11 nA (by decide)).mono ?_
      rintro e w12 ⟨hb12, hr⟩
      rw [q3, if_pos rfl, q4] at hr
      obtain ⟨A, cap, h1, h2, _⟩ := hr
      exact ⟨A, cap, h1, h2, hb12⟩
    clear h9 h10 h11 b10 b11 q1 q2 q3 q4
    go_wp2_with fail
    refine HR2.mono ?_
    rintro e w12 ⟨A12, cap12, rfl, hA12, b12⟩
    have b12' := b11'.trans (b12.mono b11'.size)
    have cv1 : (convert 22 9 (.slice A12 (wantA a b keep).length cap12)).run Try.prog w12 = .ok (.string ⟨(wantA a b keep).toArray⟩) w12 := hA12.convert _ _ rfl
    have hwa : BsAt w12 pa a := ha.keep b12'
    have hwb : BsAt w12 pb b := hb.keep b12'
    clear HR2 hA12 b12
    by_cases hk1 : 1 < keep
    · have cv2 : (convert 22 9 (.slice pb b.length cb)).run Try.prog w12 = .ok (.string ⟨(wantA a b keep).toArray⟩) w12 := by
        have : wantA a b keep = b := by unfold wantA; rw [if_pos hk1]
        rw [this]; exact hwb.convert _ _ rfl
      generalize (wantA a b keep).length = lw at *
      generalize wantA a b keep = wa at *
      go_wp2
      go_ret
      exact ⟨ret_bool (by simp), b12'⟩
    · have cv2 : (convert 22 9 (.slice pa a.length ca)).run Try.prog w12 = .ok (.string ⟨(wantA a b keep).toArray⟩) w12 := by
        have : wantA a b keep = a := by unfold wantA; rw [if_neg hk1]
        rw [this]; exact hwa.convert _ _ rfl
      generalize (wantA a b keep).length = lw at *
      generalize wantA a b keep = wa at *
      go_wp2
      go_ret
      exact ⟨ret_bool (by simp), b12'⟩
  · have hl1 : l8.length = 0 := by rw [E6.out]; unfold namesA; rw [if_neg hk]; rfl
    clear E6 hlen6 P5 pN pU p4 z1 z2
    generalize l8.length = ll at *
    subst hl1
    go_wp2
    go_ret
    exact ⟨rfl, b9'⟩

theorem again_walk (w : World) (pa pb : Option Addr) (ca cb : Nat) (a b : List UInt8) (ha : BsAt w pa a) (hb : BsAt w pb b) (hal : a.length ≤ 140737488355328) (hbl : b.length ≤ 140737488355328) (keep : Int) :
    Calls Try.prog 4 #[.slice pa a.length ca, .slice pb b.length cb, .int .i64 keep] w fun e w' => e = .returned (.bool true) ∧ Below w.heap.size w w' := by
  by_cases h : a.length ≤ 60000 ∧ b.length ≤ 60000
  · exact again_small w pa pb ca cb a b ha hb hal hbl keep h.1 h.2
  · exact again_big w pa pb ca cb a b ha hb hal hbl keep (by omega)
end Go.Proofs.Ythlaccicdbbeeaa
