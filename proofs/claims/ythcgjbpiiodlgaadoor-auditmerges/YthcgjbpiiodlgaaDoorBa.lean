/- weirsame.Ints and Lines at two that are the same; lines of a literal. -/
import Derived.Test.YthcgjbpiiodlgaaDoorAr
import Derived.Test.YthcgjbpiiodlgaaDoorPureQg
namespace Go.Proofs.YthcgjbpiiodlgaaDoor
open Go.RowKit Mp
set_option linter.unusedVariables false

set_option maxHeartbeats 1000000 in
theorem ints_same {w : World} {la lb : Option Addr} {z : List Int} (ha : IntsAt w la z) (hb : IntsAt w lb z) (ca cb : Nat) (hz : z.length ≤ 9223372036854775807) :
    Calls Tryd.prog 24 #[.slice la z.length ca, .slice lb z.length cb] w fun e w' => e = .returned (.bool true) ∧ ∃ n, w' = w.drewN n := by
  go_enter Tryd.func24, Tryd.ntmps24
  go_wp2_with fail
  go_loopw [5] (fun i wr => ∃ j : Nat, j ≤ z.length ∧ i = .int .i64 j ∧ ∃ n, wr = w.drewN n) (fun i _ => z.length - (intOf i).toNat)
  case atStart => exact ⟨0, by omega, rfl, 0, rfl⟩
  case round =>
    obtain ⟨j, hj, rfl, n, rfl⟩ := hrel
    by_cases hlt : j < z.length
    · have hi : (j : Int) < z.length := by omega
      rcases ha with ha | ⟨b1, o1, rfl, ha⟩
      · subst ha; simp at hlt
      rcases hb with hb | ⟨b2, o2, rfl, hb⟩
      · subst hb; simp at hlt
      have c1 := ha j hlt
      have c2 := hb j hlt
      generalize z[j] = x at *
      clear ha hb
      go_wp2_with fail
      go_quiet (fail)
      go_wp2_with fail
      exact ⟨⟨j + 1, by omega, by go_num, n + nq, rfl⟩, by simp [intOf]; omega⟩
    · have hi : ¬ (j : Int) < z.length := by omega
      go_wp2
      go_ret
      exact ⟨rfl, n, rfl⟩
set_option maxRecDepth 100000 in
set_option maxHeartbeats 2000000 in
theorem lines_same {w : World} {la lb : Option Addr} {L : List Ln} (ha : LnsAt w la L) (hb : LnsAt w lb L) (ca cb : Nat) (hl : L.length ≤ 9223372036854775807) :
    Calls Tryd.prog 12 #[.slice la L.length ca, .slice lb L.length cb] w fun e w' => e = .returned (.bool true) ∧ ∃ n, w' = w.drewN n := by
  go_enter Tryd.func12, Tryd.ntmps12
  go_wp2_with fail
  go_loopw [5] (fun i wr => ∃ j : Nat, j ≤ L.length ∧ i = .int .i64 j ∧ ∃ n, wr = w.drewN n) (fun i _ => L.length - (intOf i).toNat)
  case atStart => exact ⟨0, by omega, rfl, 0, rfl⟩
  case round =>
    obtain ⟨j, hj, rfl, n, rfl⟩ := hrel
    by_cases hlt : j < L.length
    · have hi : (j : Int) < L.length := by omega
      rcases ha with ha | ⟨b1, o1, rfl, ha⟩
      · subst ha; simp at hlt
      rcases hb with hb | ⟨b2, o2, rfl, hb⟩
      · subst hb; simp at hlt
      obtain ⟨c0, ⟨fa, fc, c1, c2, c3, c4⟩, c5⟩ := ha j hlt
      obtain ⟨d0, ⟨ga, gc, d1, d2, d3, d4⟩, d5⟩ := hb j hlt
      generalize L[j] = x at *
      obtain ⟨x1, x2⟩ := x
      simp only at *
      have k0 : (w.drewN n).cell? ⟨b1, o1 + j * 2, none⟩ = some (.string x1) := c0
      have k1 : (w.drewN n).cell? ⟨b1, o1 + j * 2 + 1, none⟩ = some (.slice fa x2.length fc) := c1
      have k2 : (w.drewN n).cell? ⟨b2, o2 + j * 2, none⟩ = some (.string x1) := d0
      have k3 : (w.drewN n).cell? ⟨b2, o2 + j * 2 + 1, none⟩ = some (.slice ga x2.length gc) := d1
      have i1 : IntsAt (w.drewN n) fa x2 := c2.keep (fun _ _ h => h)
      have i2 : IntsAt (w.drewN n) ga x2 := d2.keep (fun _ _ h => h)
      have HB : Hid (∀ m, ∃ n', (w.drewN n).drewN m = w.drewN n') := fun m => ⟨n + m, by simp⟩
      clear c0 c1 c2 d0 d1 d2 ha hb
      generalize w.drewN n = wq at *
      have HI : Hid (∀ m, Calls Tryd.prog 24 #[.slice fa x2.length fc, .slice ga x2.length gc] (wq.drewN m) fun e w' => e = .returned (.bool true) ∧ ∃ n, w' = (wq.drewN m).drewN n) := fun m => ints_same (w := wq.drewN m) (i1.keep (fun _ _ h => h)) (i2.keep (fun _ _ h => h)) fc gc (by omega)
      clear i1 i2
      go_wp2_with fail
      go_quiet ((go_at_call 24; exact Calls.quiet_of (HI.out _)))
      go_wp2_with fail
      go_quiet (fail)
      go_wp2_with fail
      exact ⟨⟨j + 1, by omega, by go_num, by simpa using HB.out _⟩, by simp [intOf]; omega⟩
    · have hi : ¬ (j : Int) < L.length := by omega
      go_wp2
      go_ret
      exact ⟨rfl, n, rfl⟩
/-- A literal of one line. -/
def litW (w : World) (k : ByteArray) (z : List Int) : World := (w.alloc (.cells (z.map (Value.int .i64)).toArray 3)).alloc (.cells #[.string k, .slice (some ⟨w.heap.size, 0, none⟩) z.length z.length] 39)
theorem lit_at (w : World) (k : ByteArray) (z : List Int) (hk : k.size ≤ 9223372036854775807) (hz : z.length ≤ 9223372036854775807) : LnsAt (litW w k z) (some ⟨w.heap.size + 1, 0, none⟩) [(k, z)] := by
  have := lines_new (w.alloc (.cells (z.map (Value.int .i64)).toArray 3)) [((k, z), some ⟨w.heap.size, 0, none⟩, z.length)] 39 (fun x hx => by
    obtain rfl := List.mem_singleton.1 hx
    exact ⟨ints_new w z _, Nat.le_refl _, hz, hk⟩)
  rw [World.size_alloc] at this
  exact this
theorem lit_below (w : World) (k : ByteArray) (z : List Int) : Below w.heap.size w (litW w k z) := ((Below.refl _ w).alloc (Nat.le_refl _) _).alloc (by simp) _
theorem lit_size (w : World) (k : ByteArray) (z : List Int) : (litW w k z).heap.size = w.heap.size + 2 := by simp [litW]
theorem ok_one (k : ByteArray) (z : List Int) (h : z ≠ []) (h2 : z.length ≤ 400) : LOk [(k, z)] := ⟨by simp, List.pairwise_singleton _ _, fun l hl => by obtain rfl := List.mem_singleton.1 hl; exact ⟨h, h2⟩⟩
theorem ok_nil : LOk [] := ⟨by simp, List.Pairwise.nil, by simp⟩
theorem ls_of {W G : List Ln} (h1 : LOk W) (h2 : LOk G) (h : prefP G W = true) : lsE W G = 0 ∧ lsN W G = (manyP W : Int) - (manyP G : Int) := by
  have e : lsE W G = 0 := by unfold lsE; rw [if_pos (both_good h1 h2), if_pos h]
  exact ⟨e, by unfold lsN; rw [if_pos e]⟩
theorem mg_of {a b L : List Ln} (h1 : LOk a) (h2 : LOk b) (hm : mergeP a b = L) (h : LOk L) : mgE a b = 0 ∧ mgV a b = L := by
  have e : mgE a b = 0 := by unfold mgE; rw [if_pos (both_good h1 h2), hm]; exact lines_good h
  exact ⟨e, by unfold mgV; rw [if_pos e, hm]⟩
theorem jd_of {W G : List Ln} (h1 : LOk W) (h2 : LOk G) : jdV W G = judgeP W G := by unfold jdV; rw [if_pos (both_good h1 h2)]
end Go.Proofs.YthcgjbpiiodlgaaDoor
