/- weirsame.Node and Jobs of two that are the same. -/
import Derived.Test.YthadeccnibnioaaGreatDoorYm
import Derived.Test.YthadeccnibnioaaGreatDoorJi
import Derived.Deep.RegionHeld3
namespace Go.Proofs.YthadeccnibnioaaGreatDoor
open Go.RowKit
set_option linter.unusedVariables false
set_option maxHeartbeats 1000000 in
theorem node_same {w : World} (nd : Nd) {fa fb : Option Addr} {ca cb : Nat} (ha : IntsAt w fa nd.fs) (hb : IntsAt w fb nd.fs) (hl : nd.fs.length ≤ 9223372036854775807) :
    Calls Tryz.prog 57 #[ndV nd fa ca, ndV nd fb cb] w fun e w' => e = .returned (.bool true) ∧ Below w.heap.size w w' := by
  obtain ⟨k, fs, tx, n⟩ := nd
  simp only [ndV] at *
  have hb2 : Below w.heap.size w ((w.alloc (.cells #[.int .i64 k, .slice fa fs.length ca, .string tx, .int .i64 n] 52)).alloc (.cells #[.int .i64 k, .slice fb fs.length cb, .string tx, .int .i64 n] 52)) := ((Below.refl _ _).alloc (Nat.le_refl _) _).alloc (by simp) _
  have HS := ints_same (ha.keep (Keeps.of hb2)) (hb.keep (Keeps.of hb2)) ca cb hl
  have e1 : (k == k) = true := by simp
  have e2 : (n == n) = true := by simp
  have e3 : (tx.toList == tx.toList) = true := by simp
  go_enter Tryz.func57, Tryz.ntmps57
  go_wp2_with (go_at_call 23; refine HS.mono ?_; rintro e w' ⟨rfl, m, rfl⟩)
  go_ret
  exact ⟨rfl, below_drewN hb2 m⟩
set_option maxRecDepth 100000 in
set_option maxHeartbeats 2000000 in
theorem jobs_same {w : World} {la lb : Option Addr} {L : List Nd} (ha : NdsAt w la L) (hb : NdsAt w lb L) (ca cb : Nat) (hl : L.length ≤ 12) :
    Calls Tryz.prog 26 #[.slice la L.length ca, .slice lb L.length cb] w fun e w' => e = .returned (.bool true) ∧ Below w.heap.size w w' := by
  have HA := Lib.hid ha
  have HB := Lib.hid hb
  clear ha hb
  go_enter Tryz.func26, Tryz.ntmps26
  go_wp2_with fail
  go_loopw [5] (fun i wr => ∃ j : Nat, j ≤ L.length ∧ i = .int .i64 j ∧ Below w.heap.size w wr) (fun i _ => L.length - (intOf i).toNat)
  case atStart => exact ⟨0, by omega, rfl, Below.refl _ _⟩
  case round =>
    obtain ⟨j, hj, rfl, hbr⟩ := hrel
    by_cases hlt : j < L.length
    · have hi : (j : Int) < L.length := by omega
      rename World => wr2
      rcases HA.out with ha | ⟨b1, o1, rfl, ha⟩
      · exfalso; rw [ha] at hlt; simp at hlt
      rcases HB.out with hb | ⟨b2, o2, rfl, hb⟩
      · exfalso; rw [hb] at hlt; simp at hlt
      obtain ⟨c0, ⟨fa, fc, c1, ia⟩, c2, c3, -, hfl⟩ := (ha j hlt).keep (Keeps.of hbr)
      obtain ⟨d0, ⟨fb, gc, d1, ib⟩, d2, d3, -⟩ := (hb j hlt).keep (Keeps.of hbr)
      have HN := fun (u : World) (hu : Keeps wr2 u) => node_same (w := u) (ca := fc) (cb := gc) L[j] (ia.keep hu) (ib.keep hu) hfl
      generalize L[j] = nd at *
      obtain ⟨k, fs, tx, n⟩ := nd
      simp only [ndV] at *
      have HBr := Lib.hid hbr
      clear ha hb ia ib hbr
      go_wp2_with fail
      go_region_held3 (fun u => u.cell? ⟨b1, o1 + j * 4, none⟩ = some (.int .i64 k) ∧ u.cell? ⟨b1, o1 + j * 4 + 1, none⟩ = some (.slice fa fs.length fc) ∧ u.cell? ⟨b1, o1 + j * 4 + 2, none⟩ = some (.string tx) ∧ u.cell? ⟨b1, o1 + j * 4 + 3, none⟩ = some (.int .i64 n) ∧ u.cell? ⟨b2, o2 + j * 4, none⟩ = some (.int .i64 k) ∧ u.cell? ⟨b2, o2 + j * 4 + 1, none⟩ = some (.slice fb fs.length gc) ∧ u.cell? ⟨b2, o2 + j * 4 + 2, none⟩ = some (.string tx) ∧ u.cell? ⟨b2, o2 + j * 4 + 3, none⟩ = some (.int .i64 n))
        (first | go_keep | exact ⟨Keeps.of hb3 _ _ c0, Keeps.of hb3 _ _ c1, Keeps.of hb3 _ _ c2, Keeps.of hb3 _ _ c3, Keeps.of hb3 _ _ d0, Keeps.of hb3 _ _ d1, Keeps.of hb3 _ _ d2, Keeps.of hb3 _ _ d3⟩)
        ((go_at_call 57; refine (HN wr2.drew (fun p v hv => hv)).mono ?_; rintro e w3 ⟨rfl, hb3⟩))
      go_wp2_with fail
      exact ⟨⟨j + 1, by omega, by go_num, HBr.out.trans ((⟨hb3.os, hb3.tape, hb3.output, hb3.size, hb3.block⟩ : Below wr2.heap.size wr2 w3).mono HBr.out.size)⟩, by simp [intOf]; omega⟩
    · have hi : ¬ (j : Int) < L.length := by omega
      go_wp2
      go_ret
      exact ⟨rfl, hbr⟩
end Go.Proofs.YthadeccnibnioaaGreatDoor
