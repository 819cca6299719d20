/- KeyedLast: the walk. -/
import Derived.Test.YtiofpimchbhfcabQf
import Derived.Laws.StructEq
import Derived.Sort.Walk0
namespace Go.Proofs.Ytiofpimchbhfcab
open Go.RowKit
set_option linter.unusedVariables false

theorem csM {w u : World} {A : Option Addr} {cs : List Value} {M : Nat} {L : List Hd} (h : CsAt w A cs) (hm : MpAt w M L) (f : Fr [M] w u) : CsAt u A cs := by
  obtain ⟨es, cl, hm⟩ := hm.map
  rcases h with hx | ⟨b, o, rfl, hc⟩
  · exact .inl hx
  · refine .inr ⟨b, o, rfl, fun j v hv => ?_⟩
    have h1 := hc j v hv
    rw [f.cell (p := ⟨b, o + j, none⟩) (cell_lt h1) (by
      simp only [List.mem_singleton]
      rintro rfl
      simp [World.cell?, hm] at h1)]
    exact h1
theorem heldS : Try.prog.underlying 29 = some (.struct (Try.prog.fieldsOf 29)) := by kernel_rfl
theorem heldP : Try.prog.stoodInHeld 29 = false := by kernel_rfl
theorem heldG : Try.prog.eqGuardType Try.prog.depth 29 = false := by kernel_rfl
theorem neqHd (r : Hd) (w : World) : (binOp .neq 29 (hdV r) (hdV r)).run Try.prog w = .ok (.bool false) w := by
  obtain ⟨nd, key, a, b⟩ := r
  have u3 := Try.underlying3
  have a3 := Try.isAgg3
  have z3 := Try.sizeOf3
  have u9 := Try.underlying9
  have a9 := Try.isAgg9
  have z9 := Try.sizeOf9
  simp only [hdV]
  rw [run_neq_struct, show (10000 : Nat) = 9999 + 1 from rfl, run_equalIn_agg w 9999 29 _ _ heldS heldP]
  simp only [Program.fieldsOf, Try.underlying29]
  go_simp
  try simp
/-- What is there behind some Puts. -/
def goodP (s : List Hd) (r : Hd) : List Hd := if badHd r then s else putP s r
def stK (L : List Hd) (k : Nat) : List Hd := (L.take k).foldl goodP []
theorem stK_zero (L : List Hd) : stK L 0 = [] := rfl
theorem stK_succ (L : List Hd) (k : Nat) (h : k < L.length) : stK L (k + 1) = goodP (stK L k) L[k] := by
  unfold stK
  rw [List.take_succ_eq_append_getElem h, List.foldl_append]; rfl
theorem stK_ris (L : List Hd) : ∀ k, k ≤ L.length → RisH (stK L k)
  | 0, _ => List.Pairwise.nil
  | k + 1, h => by
    rw [stK_succ L k (by omega)]
    unfold goodP
    split
    · exact stK_ris L k (by omega)
    · exact putP_ris (stK_ris L k (by omega)) _
theorem stK_len (L : List Hd) : ∀ k, k ≤ L.length → (stK L k).length ≤ k
  | 0, _ => by simp [stK]
  | k + 1, h => by
    have ih := stK_len L k (by omega)
    rw [stK_succ L k (by omega)]
    unfold goodP
    split
    · omega
    · have := putP_len (stK_ris L k (by omega)) L[k]
      split at this <;> omega
theorem stK_good (L : List Hd) : ∀ k, k ≤ L.length → ∀ r ∈ stK L k, badHd r = false
  | 0, _, r, h => by simp [stK] at h
  | k + 1, hk, r, h => by
    rw [stK_succ L k (by omega)] at h
    unfold goodP at h
    split at h
    · exact stK_good L k (by omega) r h
    · rename_i hb
      rcases (mem_putP _ _ _).1 h with rfl | ⟨h1, -⟩
      · simpa using hb
      · exact stK_good L k (by omega) r h1
theorem putP_nil (x : Hd) : putP [] x = [x] := rfl
theorem putP_sm {x y : Hd} (h : Sm x y) : putP [x] y = [y] := by
  have h1 : ¬ Ah x y := fun e => e.notSm h
  have h2 : ¬ Ah y x := fun e => e.notSm h.symm
  unfold putP
  simp [h1, h2]
set_option maxRecDepth 100000 in
set_option maxHeartbeats 1000000 in
theorem ahead2_any (a b : Hd) (w : World) : Calls Try.prog 16 #[hdV a, hdV b] w fun e w' => e = .returned (.bool (decide (Ah a b))) ∧ Below w.heap.size w w' := by
  obtain ⟨an, ak, aa, ab⟩ := a
  obtain ⟨bn, bk, ba, bb⟩ := b
  have HB := (((Below.refl w.heap.size w).alloc (Nat.le_refl _) (.cells #[.int .i64 an, .string ak, .int .i64 aa, .int .i64 ab] 29)).alloc (by simp) (.cells #[.int .i64 bn, .string bk, .int .i64 ba, .int .i64 bb] 29))
  by_cases h : an = bn
  · have e : decide (Ah ⟨an, ak, aa, ab⟩ ⟨bn, bk, ba, bb⟩) = decide (ak.data.toList < bk.data.toList) := decide_eq_decide.2 (by simp [Ah, kH, h])
    rw [e]
    subst h
    simp only [hdV]
    clear e
    go_enter Try.func16, Try.ntmps16
    go_wp2_with fail
    go_ret
    exact ⟨ret_bool (by rw [bytesLess_eq, Lib.toList_data, Lib.toList_data]), HB⟩
  · have e : decide (Ah ⟨an, ak, aa, ab⟩ ⟨bn, bk, ba, bb⟩) = decide (an < bn) := decide_eq_decide.2 (by simp [Ah, h])
    rw [e]
    simp only [hdV]
    clear e
    go_enter Try.func16, Try.ntmps16
    go_wp2_with fail
    go_ret
    exact ⟨rfl, HB⟩
end Go.Proofs.Ytiofpimchbhfcab
