/- Whether all are names; the files of a picture, each once. -/
import Derived.Test.YthlaccicdbbeeaaHb
namespace Go.Proofs.Ythlaccicdbbeeaa
open Go.RowKit
open Go.Maps (string_keyed int_keyed)
open Go.Sort Go.Shelf
set_option linter.unusedVariables false

theorem cloneStr_any (x : ByteArray) (w : World) (hx : x.size ≤ 281474976710656) : Calls Try.prog 23 #[.string x] w fun e w' => e = .returned (.string x) ∧ Below w.heap.size w w' := by
  have H := Try.stringslite_Clone x w hx
  go_enter Try.func23, Try.ntmps23
  go_wp2_with (go_at_call 37; refine H.mono ?_; rintro e w' ⟨rfl, hb⟩)
  go_ret
  exact ⟨rfl, hb⟩
theorem once1_any (x : ByteArray) (w : World) (hx : x.size ≤ maxLen) : Calls Try.prog 46 #[.string x] w fun e w' => e = .returned (.bool (!isNm x)) ∧ w = w' := by
  have H := isName_any x w hx
  generalize isNm x = b at *
  go_enter Try.func46, Try.ntmps46
  go_wp2_with (go_at_call 31; refine H.mono ?_; rintro e w' ⟨rfl, rfl⟩)
  go_ret
  exact ⟨rfl, rfl⟩
def idxN : List ByteArray → Nat → Int
  | [], _ => -1
  | x :: r, i => if (!isNm x) = true then (i : Int) else idxN r (i + 1)
theorem idxN_any : ∀ (l : List ByteArray) (i : Nat), decide (0 ≤ idxN l i) = !l.all isNm := by
  intro l
  induction l with
  | nil => intro i; simp [idxN]
  | cons a r ih =>
    intro i
    cases h : isNm a with
    | false => simp [idxN, h]
    | true => simp only [idxN, h, List.all_cons, Bool.true_and]; simpa using ih (i + 1)
theorem idxN_step {L : List ByteArray} {j : Nat} (h : j < L.length) : idxN (L.drop j) j = if (!isNm L[j]) = true then (j : Int) else idxN (L.drop (j + 1)) (j + 1) := by
  rw [List.drop_eq_getElem_cons h, idxN]
set_option maxHeartbeats 1000000 in
theorem index_any {w : World} {la : Option Addr} {L : List ByteArray} {c : Nat} (hL : SsAt w la L) (hl : L.length ≤ 1000) (hz : ∀ x ∈ L, x.size ≤ maxLen) :
    Calls Try.prog 55 #[.slice la L.length c, .func (.func 46) #[] #[]] w fun e w' => e = .returned (.int .i64 (idxN L 0)) ∧ w = w' := by
  generalize hr : idxN L 0 = r
  have HR : Hid (idxN L 0 = r) := hr
  clear hr
  go_enter Try.func55, Try.ntmps55
  go_wp2_with fail
  go_loop [8] (fun i => ∃ j : Nat, j ≤ L.length ∧ i = .int .i64 j ∧ idxN (L.drop j) j = r) (fun i => L.length - (intOf i).toNat)
  case atStart => exact ⟨0, by omega, rfl, by simpa using HR.out⟩
  case round =>
    obtain ⟨j, hj, rfl, hrj⟩ := hrel
    by_cases hlt : j < L.length
    · rcases hL with hL | ⟨b, o, rfl, hL⟩
      · subst hL; simp at hlt
      · have c0 := hL j hlt
        rw [idxN_step hlt] at hrj
        have cE := once1_any L[j] w (hz _ (List.getElem_mem hlt))
        have HJ := Lib.hid hrj
        clear hrj hL hz
        generalize L[j] = x at *
        cases he : !isNm x with
        | true =>
          rw [he] at cE
          go_wp2_with (go_at_call 46; refine cE.mono ?_; rintro e w' ⟨rfl, rfl⟩)
          go_ret
          exact ⟨by have := HJ.out; rw [if_pos he] at this; subst this; rfl, rfl⟩
        | false =>
          rw [he] at cE
          go_wp2_with (go_at_call 46; refine cE.mono ?_; rintro e w' ⟨rfl, rfl⟩)
          go_round
          case rel => exact ⟨j + 1, by omega, by go_num, by have := HJ.out; rw [if_neg (by rw [he]; decide)] at this; exact this⟩
          case measure => simp [intOf]; omega
    · have hj' : j = L.length := by omega
      subst hj'
      rw [List.drop_length, idxN] at hrj
      go_wp2
      go_ret
      exact ⟨by subst hrj; rfl, rfl⟩
set_option maxHeartbeats 1000000 in
theorem contains_any {w : World} {la : Option Addr} {L : List ByteArray} {c : Nat} (hL : SsAt w la L) (hl : L.length ≤ 1000) (hz : ∀ x ∈ L, x.size ≤ maxLen) :
    Calls Try.prog 45 #[.slice la L.length c, .func (.func 46) #[] #[]] w fun e w' => e = .returned (.bool (!L.all isNm)) ∧ w = w' := by
  have ci := index_any (c := c) hL hl hz
  have hx := idxN_any L 0
  generalize (!L.all isNm) = a at *
  generalize idxN L 0 = r at *
  have HX := Lib.hid hx
  clear hx
  go_enter Try.func45, Try.ntmps45
  go_wp2_with (go_at_call 55; refine ci.mono ?_; rintro e w' ⟨rfl, rfl⟩)
  go_ret
  exact ⟨by rw [← HX.out]; rfl, rfl⟩

theorem erV_1 : erV 1 = .iface 53 (.int .i64 1) := rfl
theorem erV_8 : erV 8 = .iface 53 (.int .i64 8) := rfl
/-- slices.Sorted(maps.Keys(told)). -/
theorem keysT_any (mb : Option Nat) (W : World) : Calls Try.prog 44 #[.map mb] W fun e w' => e = .returned (.func (.func 54) #[] #[.pointer (some ⟨W.heap.size, 0, none⟩)]) ∧ w' = W.alloc (.cells #[.map mb] 82) :=
  callsIn_wide.1 (Try.maps_Keys_44 mb W)
theorem sortedT_any {w : World} {M : Nat} {l : List ByteArray} (h : TIs w M l) (hl : (disL l).length ≤ 400) :
    Calls Try.prog 29 #[.func (.func 54) #[] #[.pointer (some ⟨w.heap.size, 0, none⟩)]] (w.alloc (.cells #[.map (some M)] 82)) fun e w' => ∃ A cap own, e = .returned (.slice A own.length cap) ∧ SsAt w' A own ∧ own.Nodup ∧ (∀ f, f ∈ own ↔ f ∈ l) ∧
      (∀ a, A = some a → w.heap.size ≤ a.block ∧ a.off = 0 ∧ ∃ cur, w'.heap[a.block]? = some (.cells cur 9 (0, 0))) ∧ Below w.heap.size w w' := by
  obtain ⟨D, h1, h2⟩ := h
  have hs := TIs.size h1 h2
  refine (callsIn_wide.1 (Try.slices_Sorted_keys_29_44 M _ D vR w h1 (by unfold maxLen; omega) (by omega))).mono ?_
  rintro e w' ⟨v, ss, rfl, hS, hrow, hnil, hb⟩
  obtain ⟨⟨g1, g2, g3⟩, -⟩ := sorted_keys h1 hS
  obtain ⟨A, cap, rfl, hA, hB⟩ := row_ss hrow
  refine ⟨A, cap, _, rfl, hA, g1, fun f => by rw [g2, h2], fun a ha => ?_, ((Below.refl _ w).alloc (Nat.le_refl _) _).trans (hb.mono (by simp))⟩
  obtain ⟨q1, q2, q3⟩ := hB a ha
  exact ⟨by simp at q1; omega, q2, q3⟩
end Go.Proofs.Ythlaccicdbbeeaa
