/- What is wrong with a node's own Text and N. -/
import Derived.Test.YthadeccnibnioaaGreatDoorJb
import Derived.Test.YthadeccnibnioaaGreatDoorPureT
namespace Go.Proofs.YthadeccnibnioaaGreatDoor
open Go.RowKit

theorem empty_iff (x : ByteArray) : (x.toList == (⟨#[]⟩ : ByteArray).toList) = decide (x = ByteArray.empty) := by
  rw [toList_eq, toList_eq]
  obtain ⟨⟨l⟩⟩ := x
  cases l with
  | nil => decide
  | cons a r =>
    have h : ¬ (⟨⟨a :: r⟩⟩ : ByteArray) = ByteArray.empty := by
      intro h
      have h2 : (a :: r).length = 0 := congrArg (fun y : ByteArray => y.data.toList.length) h
      simp at h2
    simp [h]

theorem below_two {w w1 w2 : World} (h : Below w.heap.size w w1) (k : Below w1.heap.size w1 w2) : Below w.heap.size w w2 := h.trans (k.mono h.size)

set_option maxHeartbeats 4000000 in
set_option maxRecDepth 100000 in
theorem own_any {w : World} (hg : Gl w) (nd : Nd) (fa : Option Addr) (fc : Nat) (hs : nd.tx.size ≤ 9223372036854775807) :
    Calls Tryz.prog 84 #[ndV nd fa fc] w fun e w' => e = .returned (errV (ownP nd)) ∧ Below w.heap.size w w' := by
  obtain ⟨k, fs, tx, n⟩ := nd
  simp only [ndV] at *
  obtain ⟨at_, hck⟩ := ck_err tx.data.toList
  have hE := empty_iff tx
  unfold ownP
  simp only
  have cT : ∀ w, Calls Tryz.prog 89 #[.int .i64 k] w fun e w' => e = .returned (.bool (hasTP k)) ∧ w = w' := hasT_any k
  have cN : ∀ w, Calls Tryz.prog 88 #[.int .i64 k] w fun e w' => e = .returned (.bool (hasNP k)) ∧ w = w' := hasN_any k
  have cB : ∀ w, Calls Tryz.prog 126 #[.int .i64 k] w fun e w' => e = .returned (.tuple #[.int .i64 (bdLo k), .int .i64 (bdHi k)]) ∧ w = w' := bounds_any k
  have cC : ∀ w1, Gl w1 → Calls Tryz.prog 9 #[.string tx] w1 fun e w' => e = .returned (.tuple #[.int .i64 at_, errV (txP tx.data.toList)]) ∧ Below w1.heap.size w1 w' := by
    intro w1 g1; have := check_any g1 hs; rw [hck] at this; exact this
  have hg1 : Gl (w.alloc (.cells #[.int .i64 k, .slice fa fs.length fc, .string tx, .int .i64 n] 52)) := hg.below ((Below.refl _ _).alloc (Nat.le_refl _) _)
  have bel : Below w.heap.size w (w.alloc (.cells #[.int .i64 k, .slice fa fs.length fc, .string tx, .int .i64 n] 52)) := (Below.refl _ _).alloc (Nat.le_refl _) _
  generalize hasTP k = T at *
  generalize hasNP k = N at *
  generalize bdLo k = lo at *
  generalize bdHi k = hi at *
  generalize txP tx.data.toList = ex at *
  clear hck hg
  have HB := Lib.hid hg1
  have b3 : errV 3 = .iface 77 (.int .i64 3) := errV_pos (by decide)
  have b1 : errV 1 = .iface 77 (.int .i64 1) := errV_pos (by decide)
  have hEE : tx.toList.isEmpty = decide (tx = ByteArray.empty) := by
    rw [← hE]
    have e : (⟨#[]⟩ : ByteArray).toList = [] := by rw [toList_eq]
    rw [e]
    cases tx.toList <;> rfl
  clear hE hg1
  by_cases hx : tx = ByteArray.empty
  · have hE1 : tx.toList.isEmpty = true := by rw [hEE]; simpa using hx
    clear hEE
    have HX := Lib.hid hx
    clear hx
    by_cases hn : n = 0
    · have hn1 : (n != 0) = false := by simp [hn]
      subst hn
      cases T with
      | false =>
        cases N with
        | false =>
          rw [if_neg (by simp [HX.out])]
          by_cases h1 : 0 < lo
          · rw [if_pos (.inl h1), b1]
            go_enter Tryz.func84, Tryz.ntmps84
            go_wp2_with (first | (go_at_call 89; refine (cT _).mono ?_; rintro e w' ⟨rfl, rfl⟩) | (go_at_call 88; refine (cN _).mono ?_; rintro e w' ⟨rfl, rfl⟩) | (go_at_call 126; refine (cB _).mono ?_; rintro e w' ⟨rfl, rfl⟩))
            go_ret
            exact ⟨rfl, bel⟩
          · by_cases h2 : hi < 0
            · rw [if_pos (.inr h2), b1]
              go_enter Tryz.func84, Tryz.ntmps84
              go_wp2_with (first | (go_at_call 89; refine (cT _).mono ?_; rintro e w' ⟨rfl, rfl⟩) | (go_at_call 88; refine (cN _).mono ?_; rintro e w' ⟨rfl, rfl⟩) | (go_at_call 126; refine (cB _).mono ?_; rintro e w' ⟨rfl, rfl⟩))
              go_ret
              exact ⟨rfl, bel⟩
            · rw [if_neg (by omega), if_pos rfl, errV_zero]
              go_enter Tryz.func84, Tryz.ntmps84
              go_wp2_with (first | (go_at_call 89; refine (cT _).mono ?_; rintro e w' ⟨rfl, rfl⟩) | (go_at_call 88; refine (cN _).mono ?_; rintro e w' ⟨rfl, rfl⟩) | (go_at_call 126; refine (cB _).mono ?_; rintro e w' ⟨rfl, rfl⟩))
              go_ret
              exact ⟨rfl, bel⟩
        | true =>
          rw [if_neg (by simp [HX.out])]
          by_cases h1 : 0 < lo
          · rw [if_pos (.inl h1), b1]
            go_enter Tryz.func84, Tryz.ntmps84
            go_wp2_with (first | (go_at_call 89; refine (cT _).mono ?_; rintro e w' ⟨rfl, rfl⟩) | (go_at_call 88; refine (cN _).mono ?_; rintro e w' ⟨rfl, rfl⟩) | (go_at_call 126; refine (cB _).mono ?_; rintro e w' ⟨rfl, rfl⟩))
            go_ret
            exact ⟨rfl, bel⟩
          · by_cases h2 : hi < 0
            · rw [if_pos (.inr h2), b1]
              go_enter Tryz.func84, Tryz.ntmps84
              go_wp2_with (first | (go_at_call 89; refine (cT _).mono ?_; rintro e w' ⟨rfl, rfl⟩) | (go_at_call 88; refine (cN _).mono ?_; rintro e w' ⟨rfl, rfl⟩) | (go_at_call 126; refine (cB _).mono ?_; rintro e w' ⟨rfl, rfl⟩))
              go_ret
              exact ⟨rfl, bel⟩
            · rw [if_neg (by omega), if_pos rfl, errV_zero]
              go_enter Tryz.func84, Tryz.ntmps84
              go_wp2_with (first | (go_at_call 89; refine (cT _).mono ?_; rintro e w' ⟨rfl, rfl⟩) | (go_at_call 88; refine (cN _).mono ?_; rintro e w' ⟨rfl, rfl⟩) | (go_at_call 126; refine (cB _).mono ?_; rintro e w' ⟨rfl, rfl⟩))
              go_ret
              exact ⟨rfl, bel⟩
      | true =>
        cases N with
        | false =>
          rw [if_neg (by simp [HX.out])]
          by_cases h1 : 0 < lo
          · rw [if_pos (.inl h1), b1]
            go_enter Tryz.func84, Tryz.ntmps84
            go_wp2_with (first | (go_at_call 89; refine (cT _).mono ?_; rintro e w' ⟨rfl, rfl⟩) | (go_at_call 88; refine (cN _).mono ?_; rintro e w' ⟨rfl, rfl⟩) | (go_at_call 126; refine (cB _).mono ?_; rintro e w' ⟨rfl, rfl⟩))
            go_ret
            exact ⟨rfl, bel⟩
          · by_cases h2 : hi < 0
            · rw [if_pos (.inr h2), b1]
              go_enter Tryz.func84, Tryz.ntmps84
              go_wp2_with (first | (go_at_call 89; refine (cT _).mono ?_; rintro e w' ⟨rfl, rfl⟩) | (go_at_call 88; refine (cN _).mono ?_; rintro e w' ⟨rfl, rfl⟩) | (go_at_call 126; refine (cB _).mono ?_; rintro e w' ⟨rfl, rfl⟩))
              go_ret
              exact ⟨rfl, bel⟩
            · rw [if_neg (by omega), if_neg (by decide)]
              generalize errV ex = ve at *
              go_enter Tryz.func84, Tryz.ntmps84
              go_wp2_with (first | (go_at_call 89; refine (cT _).mono ?_; rintro e w' ⟨rfl, rfl⟩) | (go_at_call 88; refine (cN _).mono ?_; rintro e w' ⟨rfl, rfl⟩) | (go_at_call 126; refine (cB _).mono ?_; rintro e w' ⟨rfl, rfl⟩) | (go_at_call 9; refine (cC _ HB.out).mono ?_; rintro e w' ⟨rfl, hb⟩; have BB := below_two bel hb; clear hb))
              go_ret
              exact ⟨rfl, BB⟩
        | true =>
          rw [if_neg (by simp [HX.out])]
          by_cases h1 : 0 < lo
          · rw [if_pos (.inl h1), b1]
            go_enter Tryz.func84, Tryz.ntmps84
            go_wp2_with (first | (go_at_call 89; refine (cT _).mono ?_; rintro e w' ⟨rfl, rfl⟩) | (go_at_call 88; refine (cN _).mono ?_; rintro e w' ⟨rfl, rfl⟩) | (go_at_call 126; refine (cB _).mono ?_; rintro e w' ⟨rfl, rfl⟩))
            go_ret
            exact ⟨rfl, bel⟩
          · by_cases h2 : hi < 0
            · rw [if_pos (.inr h2), b1]
              go_enter Tryz.func84, Tryz.ntmps84
              go_wp2_with (first | (go_at_call 89; refine (cT _).mono ?_; rintro e w' ⟨rfl, rfl⟩) | (go_at_call 88; refine (cN _).mono ?_; rintro e w' ⟨rfl, rfl⟩) | (go_at_call 126; refine (cB _).mono ?_; rintro e w' ⟨rfl, rfl⟩))
              go_ret
              exact ⟨rfl, bel⟩
            · rw [if_neg (by omega), if_neg (by decide)]
              generalize errV ex = ve at *
              go_enter Tryz.func84, Tryz.ntmps84
              go_wp2_with (first | (go_at_call 89; refine (cT _).mono ?_; rintro e w' ⟨rfl, rfl⟩) | (go_at_call 88; refine (cN _).mono ?_; rintro e w' ⟨rfl, rfl⟩) | (go_at_call 126; refine (cB _).mono ?_; rintro e w' ⟨rfl, rfl⟩) | (go_at_call 9; refine (cC _ HB.out).mono ?_; rintro e w' ⟨rfl, hb⟩; have BB := below_two bel hb; clear hb))
              go_ret
              exact ⟨rfl, BB⟩
    · have hn1 : (n != 0) = true := by simp [hn]
      cases T with
      | false =>
        cases N with
        | false =>
          rw [if_pos (by first | exact .inl ⟨HX.out, rfl⟩ | exact .inr ⟨hn, rfl⟩), b3]
          clear hn
          go_enter Tryz.func84, Tryz.ntmps84
          go_wp2_with (first | (go_at_call 89; refine (cT _).mono ?_; rintro e w' ⟨rfl, rfl⟩) | (go_at_call 88; refine (cN _).mono ?_; rintro e w' ⟨rfl, rfl⟩) | (go_at_call 126; refine (cB _).mono ?_; rintro e w' ⟨rfl, rfl⟩))
          go_ret
          exact ⟨rfl, bel⟩
        | true =>
          rw [if_neg (by simp [HX.out])]
          clear hn
          by_cases h1 : n < lo
          · rw [if_pos (.inl h1), b1]
            go_enter Tryz.func84, Tryz.ntmps84
            go_wp2_with (first | (go_at_call 89; refine (cT _).mono ?_; rintro e w' ⟨rfl, rfl⟩) | (go_at_call 88; refine (cN _).mono ?_; rintro e w' ⟨rfl, rfl⟩) | (go_at_call 126; refine (cB _).mono ?_; rintro e w' ⟨rfl, rfl⟩))
            go_ret
            exact ⟨rfl, bel⟩
          · by_cases h2 : hi < n
            · rw [if_pos (.inr h2), b1]
              go_enter Tryz.func84, Tryz.ntmps84
              go_wp2_with (first | (go_at_call 89; refine (cT _).mono ?_; rintro e w' ⟨rfl, rfl⟩) | (go_at_call 88; refine (cN _).mono ?_; rintro e w' ⟨rfl, rfl⟩) | (go_at_call 126; refine (cB _).mono ?_; rintro e w' ⟨rfl, rfl⟩))
              go_ret
              exact ⟨rfl, bel⟩
            · rw [if_neg (by omega), if_pos rfl, errV_zero]
              go_enter Tryz.func84, Tryz.ntmps84
              go_wp2_with (first | (go_at_call 89; refine (cT _).mono ?_; rintro e w' ⟨rfl, rfl⟩) | (go_at_call 88; refine (cN _).mono ?_; rintro e w' ⟨rfl, rfl⟩) | (go_at_call 126; refine (cB _).mono ?_; rintro e w' ⟨rfl, rfl⟩))
              go_ret
              exact ⟨rfl, bel⟩
      | true =>
        cases N with
        | false =>
          rw [if_pos (by first | exact .inl ⟨HX.out, rfl⟩ | exact .inr ⟨hn, rfl⟩), b3]
          clear hn
          go_enter Tryz.func84, Tryz.ntmps84
          go_wp2_with (first | (go_at_call 89; refine (cT _).mono ?_; rintro e w' ⟨rfl, rfl⟩) | (go_at_call 88; refine (cN _).mono ?_; rintro e w' ⟨rfl, rfl⟩) | (go_at_call 126; refine (cB _).mono ?_; rintro e w' ⟨rfl, rfl⟩))
          go_ret
          exact ⟨rfl, bel⟩
        | true =>
          rw [if_neg (by simp [HX.out])]
          clear hn
          by_cases h1 : n < lo
          · rw [if_pos (.inl h1), b1]
            go_enter Tryz.func84, Tryz.ntmps84
            go_wp2_with (first | (go_at_call 89; refine (cT _).mono ?_; rintro e w' ⟨rfl, rfl⟩) | (go_at_call 88; refine (cN _).mono ?_; rintro e w' ⟨rfl, rfl⟩) | (go_at_call 126; refine (cB _).mono ?_; rintro e w' ⟨rfl, rfl⟩))
            go_ret
            exact ⟨rfl, bel⟩
          · by_cases h2 : hi < n
            · rw [if_pos (.inr h2), b1]
              go_enter Tryz.func84, Tryz.ntmps84
              go_wp2_with (first | (go_at_call 89; refine (cT _).mono ?_; rintro e w' ⟨rfl, rfl⟩) | (go_at_call 88; refine (cN _).mono ?_; rintro e w' ⟨rfl, rfl⟩) | (go_at_call 126; refine (cB _).mono ?_; rintro e w' ⟨rfl, rfl⟩))
              go_ret
              exact ⟨rfl, bel⟩
            · rw [if_neg (by omega), if_neg (by decide)]
              generalize errV ex = ve at *
              go_enter Tryz.func84, Tryz.ntmps84
              go_wp2_with (first | (go_at_call 89; refine (cT _).mono ?_; rintro e w' ⟨rfl, rfl⟩) | (go_at_call 88; refine (cN _).mono ?_; rintro e w' ⟨rfl, rfl⟩) | (go_at_call 126; refine (cB _).mono ?_; rintro e w' ⟨rfl, rfl⟩) | (go_at_call 9; refine (cC _ HB.out).mono ?_; rintro e w' ⟨rfl, hb⟩; have BB := below_two bel hb; clear hb))
              go_ret
              exact ⟨rfl, BB⟩
  · have hE1 : tx.toList.isEmpty = false := by rw [hEE]; simpa using hx
    clear hEE
    have HX := Lib.hid hx
    clear hx
    by_cases hn : n = 0
    · have hn1 : (n != 0) = false := by simp [hn]
      subst hn
      cases T with
      | false =>
        cases N with
        | false =>
          rw [if_pos (by first | exact .inl ⟨HX.out, rfl⟩ | exact .inr ⟨hn, rfl⟩), b3]
          go_enter Tryz.func84, Tryz.ntmps84
          go_wp2_with (first | (go_at_call 89; refine (cT _).mono ?_; rintro e w' ⟨rfl, rfl⟩) | (go_at_call 88; refine (cN _).mono ?_; rintro e w' ⟨rfl, rfl⟩) | (go_at_call 126; refine (cB _).mono ?_; rintro e w' ⟨rfl, rfl⟩))
          go_ret
          exact ⟨rfl, bel⟩
        | true =>
          rw [if_pos (by first | exact .inl ⟨HX.out, rfl⟩ | exact .inr ⟨hn, rfl⟩), b3]
          go_enter Tryz.func84, Tryz.ntmps84
          go_wp2_with (first | (go_at_call 89; refine (cT _).mono ?_; rintro e w' ⟨rfl, rfl⟩) | (go_at_call 88; refine (cN _).mono ?_; rintro e w' ⟨rfl, rfl⟩) | (go_at_call 126; refine (cB _).mono ?_; rintro e w' ⟨rfl, rfl⟩))
          go_ret
          exact ⟨rfl, bel⟩
      | true =>
        cases N with
        | false =>
          rw [if_neg (by simp [HX.out])]
          by_cases h1 : 0 < lo
          · rw [if_pos (.inl h1), b1]
            go_enter Tryz.func84, Tryz.ntmps84
            go_wp2_with (first | (go_at_call 89; refine (cT _).mono ?_; rintro e w' ⟨rfl, rfl⟩) | (go_at_call 88; refine (cN _).mono ?_; rintro e w' ⟨rfl, rfl⟩) | (go_at_call 126; refine (cB _).mono ?_; rintro e w' ⟨rfl, rfl⟩))
            go_ret
            exact ⟨rfl, bel⟩
          · by_cases h2 : hi < 0
            · rw [if_pos (.inr h2), b1]
              go_enter Tryz.func84, Tryz.ntmps84
              go_wp2_with (first | (go_at_call 89; refine (cT _).mono ?_; rintro e w' ⟨rfl, rfl⟩) | (go_at_call 88; refine (cN _).mono ?_; rintro e w' ⟨rfl, rfl⟩) | (go_at_call 126; refine (cB _).mono ?_; rintro e w' ⟨rfl, rfl⟩))
              go_ret
              exact ⟨rfl, bel⟩
            · rw [if_neg (by omega), if_neg (by decide)]
              generalize errV ex = ve at *
              go_enter Tryz.func84, Tryz.ntmps84
              go_wp2_with (first | (go_at_call 89; refine (cT _).mono ?_; rintro e w' ⟨rfl, rfl⟩) | (go_at_call 88; refine (cN _).mono ?_; rintro e w' ⟨rfl, rfl⟩) | (go_at_call 126; refine (cB _).mono ?_; rintro e w' ⟨rfl, rfl⟩) | (go_at_call 9; refine (cC _ HB.out).mono ?_; rintro e w' ⟨rfl, hb⟩; have BB := below_two bel hb; clear hb))
              go_ret
              exact ⟨rfl, BB⟩
        | true =>
          rw [if_neg (by simp [HX.out])]
          by_cases h1 : 0 < lo
          · rw [if_pos (.inl h1), b1]
            go_enter Tryz.func84, Tryz.ntmps84
            go_wp2_with (first | (go_at_call 89; refine (cT _).mono ?_; rintro e w' ⟨rfl, rfl⟩) | (go_at_call 88; refine (cN _).mono ?_; rintro e w' ⟨rfl, rfl⟩) | (go_at_call 126; refine (cB _).mono ?_; rintro e w' ⟨rfl, rfl⟩))
            go_ret
            exact ⟨rfl, bel⟩
          · by_cases h2 : hi < 0
            · rw [if_pos (.inr h2), b1]
              go_enter Tryz.func84, Tryz.ntmps84
              go_wp2_with (first | (go_at_call 89; refine (cT _).mono ?_; rintro e w' ⟨rfl, rfl⟩) | (go_at_call 88; refine (cN _).mono ?_; rintro e w' ⟨rfl, rfl⟩) | (go_at_call 126; refine (cB _).mono ?_; rintro e w' ⟨rfl, rfl⟩))
              go_ret
              exact ⟨rfl, bel⟩
            · rw [if_neg (by omega), if_neg (by decide)]
              generalize errV ex = ve at *
              go_enter Tryz.func84, Tryz.ntmps84
              go_wp2_with (first | (go_at_call 89; refine (cT _).mono ?_; rintro e w' ⟨rfl, rfl⟩) | (go_at_call 88; refine (cN _).mono ?_; rintro e w' ⟨rfl, rfl⟩) | (go_at_call 126; refine (cB _).mono ?_; rintro e w' ⟨rfl, rfl⟩) | (go_at_call 9; refine (cC _ HB.out).mono ?_; rintro e w' ⟨rfl, hb⟩; have BB := below_two bel hb; clear hb))
              go_ret
              exact ⟨rfl, BB⟩
    · have hn1 : (n != 0) = true := by simp [hn]
      cases T with
      | false =>
        cases N with
        | false =>
          rw [if_pos (by first | exact .inl ⟨HX.out, rfl⟩ | exact .inr ⟨hn, rfl⟩), b3]
          clear hn
          go_enter Tryz.func84, Tryz.ntmps84
          go_wp2_with (first | (go_at_call 89; refine (cT _).mono ?_; rintro e w' ⟨rfl, rfl⟩) | (go_at_call 88; refine (cN _).mono ?_; rintro e w' ⟨rfl, rfl⟩) | (go_at_call 126; refine (cB _).mono ?_; rintro e w' ⟨rfl, rfl⟩))
          go_ret
          exact ⟨rfl, bel⟩
        | true =>
          rw [if_pos (by first | exact .inl ⟨HX.out, rfl⟩ | exact .inr ⟨hn, rfl⟩), b3]
          clear hn
          go_enter Tryz.func84, Tryz.ntmps84
          go_wp2_with (first | (go_at_call 89; refine (cT _).mono ?_; rintro e w' ⟨rfl, rfl⟩) | (go_at_call 88; refine (cN _).mono ?_; rintro e w' ⟨rfl, rfl⟩) | (go_at_call 126; refine (cB _).mono ?_; rintro e w' ⟨rfl, rfl⟩))
          go_ret
          exact ⟨rfl, bel⟩
      | true =>
        cases N with
        | false =>
          rw [if_pos (by first | exact .inl ⟨HX.out, rfl⟩ | exact .inr ⟨hn, rfl⟩), b3]
          clear hn
          go_enter Tryz.func84, Tryz.ntmps84
          go_wp2_with (first | (go_at_call 89; refine (cT _).mono ?_; rintro e w' ⟨rfl, rfl⟩) | (go_at_call 88; refine (cN _).mono ?_; rintro e w' ⟨rfl, rfl⟩) | (go_at_call 126; refine (cB _).mono ?_; rintro e w' ⟨rfl, rfl⟩))
          go_ret
          exact ⟨rfl, bel⟩
        | true =>
          rw [if_neg (by simp [HX.out])]
          clear hn
          by_cases h1 : n < lo
          · rw [if_pos (.inl h1), b1]
            go_enter Tryz.func84, Tryz.ntmps84
            go_wp2_with (first | (go_at_call 89; refine (cT _).mono ?_; rintro e w' ⟨rfl, rfl⟩) | (go_at_call 88; refine (cN _).mono ?_; rintro e w' ⟨rfl, rfl⟩) | (go_at_call 126; refine (cB _).mono ?_; rintro e w' ⟨rfl, rfl⟩))
            go_ret
            exact ⟨rfl, bel⟩
          · by_cases h2 : hi < n
            · rw [if_pos (.inr h2), b1]
              go_enter Tryz.func84, Tryz.ntmps84
              go_wp2_with (first | (go_at_call 89; refine (cT _).mono ?_; rintro e w' ⟨rfl, rfl⟩) | (go_at_call 88; refine (cN _).mono ?_; rintro e w' ⟨rfl, rfl⟩) | (go_at_call 126; refine (cB _).mono ?_; rintro e w' ⟨rfl, rfl⟩))
              go_ret
              exact ⟨rfl, bel⟩
            · rw [if_neg (by omega), if_neg (by decide)]
              generalize errV ex = ve at *
              go_enter Tryz.func84, Tryz.ntmps84
              go_wp2_with (first | (go_at_call 89; refine (cT _).mono ?_; rintro e w' ⟨rfl, rfl⟩) | (go_at_call 88; refine (cN _).mono ?_; rintro e w' ⟨rfl, rfl⟩) | (go_at_call 126; refine (cB _).mono ?_; rintro e w' ⟨rfl, rfl⟩) | (go_at_call 9; refine (cC _ HB.out).mono ?_; rintro e w' ⟨rfl, hb⟩; have BB := below_two bel hb; clear hb))
              go_ret
              exact ⟨rfl, BB⟩
end Go.Proofs.YthadeccnibnioaaGreatDoor
