/- weirgatebig: a number out of a word. -/
import Derived.Test.YtoooninneccfcaaGreatDoorNa
namespace Go.Proofs.YtoooninneccfcaaGreatDoor
open Go.RowKit
set_option linter.unusedVariables false

theorem give_neg {w : World} {b : Nat} {neg0 : Bool} {v0 v : Value} {n : Nat} (hb : w.heap[b]? = some (.cells #[.bool neg0, v0] 85 (0, 0))) (hv0 : ∃ A n c, v0 = .slice A n c) (hv : Wv w v (wl n)) (hn : n ≠ 0) :
    Calls Tryz.prog 118 #[.pointer (some ⟨b, 0, none⟩), .bool true, v] w fun e w' => e = .returned (.pointer (some ⟨b, 0, none⟩)) ∧ IntV w' b true n ∧ Fr [b] w w' := by
  have hv' := hv
  have hl : (0 : Int) < ((wl n).length : Int) := by rw [wl_pos hn]; simp
  obtain ⟨A, cap, rfl, -, -⟩ := hv
  have c0 : w.cell? ⟨b, 0, none⟩ = some (.bool neg0) := by simp [World.cell?, hb]
  have c1 : w.cell? ⟨b, 1, none⟩ = some v0 := by simp [World.cell?, hb]
  have f0 : w.frozen? ⟨b, 0, none⟩ = false := by simp [World.frozen?, hb]
  have f1 : w.frozen? ⟨b, 1, none⟩ = false := by simp [World.frozen?, hb]
  have G : Fr [b] w ((w.setCell ⟨b, 1, none⟩ (.slice A (wl n).length cap)).setCell ⟨b, 0, none⟩ (.bool true)) := ((Fr.refl _ _).setCell (.inl (by simp)) _).setCell (.inl (by simp)) _
  have I : IntV ((w.setCell ⟨b, 1, none⟩ (.slice A (wl n).length cap)).setCell ⟨b, 0, none⟩ (.bool true)) b true n := by
    refine ⟨.slice A (wl n).length cap, ?_, hv'.fr G hb (two_no rfl hv0)⟩
    simp [World.setCell, Array.getElem?_modify, hb]
  generalize (wl n).length = k at *
  go_enter Tryz.func118, Tryz.ntmps118
  go_wp2
  go_ret
  rw [show decide (0 < k) = true from by simpa using hl]
  exact ⟨rfl, I, G⟩

set_option maxRecDepth 100000 in
theorem setint_any {w : World} {b : Nat} {neg0 : Bool} {v0 : Value} (hb : w.heap[b]? = some (.cells #[.bool neg0, v0] 85 (0, 0))) (hv0 : ∃ A n c, v0 = .slice A n c) (n : Int) (h0 : -9223372036854775808 ≤ n) (h1 : n ≤ 9223372036854775807) :
    Calls Tryz.prog 73 #[.pointer (some ⟨b, 0, none⟩), .int .i64 n] w fun e w' => e = .returned (.pointer (some ⟨b, 0, none⟩)) ∧ IntV w' b (decide (n < 0)) n.natAbs ∧ Fr [b] w w' := by
  have hbl : b < w.heap.size := some_lt hb
  by_cases hn : n < 0
  · have HW := words_any n.natAbs w (by omega)
    have e1 : ((n.natAbs : Nat) : Int) = -n := by omega
    rw [e1] at HW
    have HG := Lib.hid (fun (u : World) (v : Value) (hu : u.heap[b]? = some (.cells #[.bool neg0, v0] 85 (0, 0))) (hv : Wv u v (wl n.natAbs)) => give_neg hu hv0 hv (by omega))
    have hu1 : IntKind.u64.wrap n = n + 18446744073709551616 := by rw [IntKind.wrap_u64]; omega
    have hu2 : IntKind.u64.wrap (-(n + 18446744073709551616)) = -n := by rw [IntKind.wrap_u64]; omega
    have hd : decide (n < 0) = true := by simpa using hn
    rw [hd]
    generalize n.natAbs = N at *
    clear e1 hd
    go_enter Tryz.func73, Tryz.ntmps73
    go_wp2_with (go_at_call 119; refine HW.mono ?_; rintro e u1 ⟨v, rfl, hv, b1⟩; refine Hid.out ?_)
    refine Lib.hid ?_
    have HGG := HG.out u1 v (by rw [b1.block b hbl]; exact hb) hv
    go_wp2_with (go_at_call 118; refine HGG.mono ?_; rintro e u2 ⟨rfl, hI, f2⟩; refine Hid.out ?_)
    refine Lib.hid ?_
    go_wp2_with fail
    go_ret
    exact ⟨rfl, hI, (Fr.below b1).trans f2⟩
  · have HW := words_any n.toNat w (by omega)
    have e1 : ((n.toNat : Nat) : Int) = n := by omega
    have e2 : n.natAbs = n.toNat := by omega
    rw [e1] at HW
    rw [e2]
    have HG := Lib.hid (fun (u : World) (v : Value) (hu : u.heap[b]? = some (.cells #[.bool neg0, v0] 85 (0, 0))) (hv : Wv u v (wl n.toNat)) => give_any hu hv0 hv)
    have hu1 : IntKind.u64.wrap n = n := by rw [IntKind.wrap_u64]; omega
    have hd : decide (n < 0) = false := by simpa using hn
    rw [hd]
    generalize n.toNat = N at *
    clear e1 e2 hd
    go_enter Tryz.func73, Tryz.ntmps73
    go_wp2_with (go_at_call 119; refine HW.mono ?_; rintro e u1 ⟨v, rfl, hv, b1⟩; refine Hid.out ?_)
    refine Lib.hid ?_
    have HGG := HG.out u1 v (by rw [b1.block b hbl]; exact hb) hv
    go_wp2_with (go_at_call 118; refine HGG.mono ?_; rintro e u2 ⟨rfl, hI, f2⟩; refine Hid.out ?_)
    refine Lib.hid ?_
    go_wp2_with fail
    go_ret
    exact ⟨rfl, hI, (Fr.below b1).trans f2⟩

set_option maxRecDepth 100000 in
theorem newint_any (w : World) (n : Int) (h0 : -9223372036854775808 ≤ n) (h1 : n ≤ 9223372036854775807) :
    Calls Tryz.prog 37 #[.int .i64 n] w fun e w' => e = .returned (.pointer (some ⟨w.heap.size, 0, none⟩)) ∧ IntV w' w.heap.size (decide (n < 0)) n.natAbs ∧ Below w.heap.size w w' := by
  have hb : (w.alloc (.cells #[.bool false, .slice none 0 0] 85)).heap[w.heap.size]? = some (.cells #[.bool false, .slice none 0 0] 85 (0, 0)) := by rw [heap_alloc_new]
  have H := setint_any hb ⟨none, 0, 0, rfl⟩ n h0 h1
  have B1 : Below w.heap.size w (w.alloc (.cells #[.bool false, .slice none 0 0] 85)) := (Below.refl _ _).alloc (Nat.le_refl _) _
  go_enter Tryz.func37, Tryz.ntmps37
  go_wp2_with (go_at_call 73; refine H.mono ?_; rintro e u2 ⟨rfl, hI, f2⟩; refine Hid.out ?_)
  refine Lib.hid ?_
  go_wp2_with fail
  go_ret
  exact ⟨rfl, hI, B1.trans (f2.toBelow (by simp) (by simp))⟩
end Go.Proofs.YtoooninneccfcaaGreatDoor
