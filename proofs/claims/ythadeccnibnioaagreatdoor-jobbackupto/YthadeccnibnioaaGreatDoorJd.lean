/- What is wrong with a node, those ahead being right. -/
import Derived.Test.YthadeccnibnioaaGreatDoorJc
namespace Go.Proofs.YthadeccnibnioaaGreatDoor
open Go.RowKit

theorem NdsAt.take {w : World} {la : Option Addr} {L : List Nd} (h : NdsAt w la L) (n : Nat) : NdsAt w la (L.take n) := by
  rcases h with h | ⟨b, o, h1, h2⟩
  · subst h; exact .inl (by simp)
  · refine .inr ⟨b, o, h1, fun i hi => ?_⟩
    have h3 : i < L.length := by simp at hi; omega
    rw [List.getElem_take]; exact h2 i h3

theorem fromP_step {A : List Nd} {fs : List Int} {j : Nat} (h : j < fs.length) : fromP A (fs.drop j) = if fromOne A fs[j] = 0 then fromP A (fs.drop (j + 1)) else fromOne A fs[j] := by
  rw [List.drop_eq_getElem_cons h, fromP]

theorem from_any {w : World} {la : Option Addr} {L : List Nd} {c : Nat} (hL : NdsAt w la L) (f : Int) (hl : L.length ≤ 12) :
    Calls Tryz.prog 83 #[.slice la L.length c, .int .i64 f] w fun e w' => e = .returned (errV (fromOne L f)) ∧ w = w' := by
  by_cases h0 : f < 0
  · have e : fromOne L f = 1 := by rw [fromOne, if_pos (.inl h0)]
    rw [e, errV_pos (by decide)]
    clear hL e
    go_enter Tryz.func83, Tryz.ntmps83
    go_wp2_with fail
    go_ret
    exact ⟨rfl, rfl⟩
  · by_cases h1 : (L.length : Int) ≤ f
    · have e : fromOne L f = 1 := by rw [fromOne, if_pos (.inr h1)]
      rw [e, errV_pos (by decide)]
      clear hL e
      go_enter Tryz.func83, Tryz.ntmps83
      go_wp2_with fail
      go_ret
      exact ⟨rfl, rfl⟩
    · obtain ⟨i, rfl⟩ : ∃ i : Nat, f = i := ⟨f.toNat, by omega⟩
      have hi : i < L.length := by omega
      rcases hL with hL | ⟨b, o, rfl, hL⟩
      · subst hL; simp at hi
      · obtain ⟨c0, -⟩ := hL i hi
        have hk : kindAt L (i : Int) = L[i].k := by simp [kindAt, hi]
        by_cases h10 : L[i].k = 10
        · have e : fromOne L (i : Int) = 7 := by rw [fromOne, if_neg (by omega), hk, if_pos h10]
          rw [e, errV_pos (by decide)]
          rw [h10] at c0
          clear hL e hk h10
          go_enter Tryz.func83, Tryz.ntmps83
          go_wp2_with fail
          go_ret
          exact ⟨rfl, rfl⟩
        · have e : fromOne L (i : Int) = 0 := by rw [fromOne, if_neg (by omega), hk, if_neg h10]
          have e10 : (L[i].k == 10) = false := by simpa using h10
          rw [e, errV_zero]
          generalize L[i].k = k at *
          clear hL e hk h10
          go_enter Tryz.func83, Tryz.ntmps83
          go_wp2_with fail
          go_ret
          exact ⟨rfl, rfl⟩

set_option maxHeartbeats 4000000 in
set_option maxRecDepth 100000 in
theorem node_any {w : World} (hg : Gl w) {la : Option Addr} {L : List Nd} {c : Nat} (hL : NdsAt w la L) (own : Nat) (hown : own < L.length) (hl : L.length ≤ 12) (hc : L.length ≤ c) :
    Calls Tryz.prog 46 #[.slice la L.length c, .int .i64 own] w fun e w' => e = .returned (errV (nodeP (L.take own) L[own])) ∧ Below w.heap.size w w' := by
  have hT := hL.take own
  have hTl : (L.take own).length = own := by simp; omega
  generalize hAh : L.take own = Ah at *
  rcases hL with hL | ⟨b, o, rfl, hL⟩
  · subst hL; simp at hown
  obtain ⟨c0, ⟨fa, fc, c1, hI⟩, c2, c3, hz1, hz2⟩ := hL own hown
  clear hL hAh
  generalize L[own] = nd at *
  obtain ⟨k, fs, tx, n⟩ := nd
  simp only at c0 c1 c2 c3 hz1 hz2 hI
  have bel : Below w.heap.size w (w.alloc (.cells #[.int .i64 k, .slice fa fs.length fc, .string tx, .int .i64 n] 52)) := (Below.refl _ _).alloc (Nat.le_refl _) _
  have g1 : Gl (w.alloc (.cells #[.int .i64 k, .slice fa fs.length fc, .string tx, .int .i64 n] 52)) := hg.below bel
  have hT1 : NdsAt (w.alloc (.cells #[.int .i64 k, .slice fa fs.length fc, .string tx, .int .i64 n] 52)) (some ⟨b, o, none⟩) Ah := hT.keep (Keeps.of bel)
  have hI1 : IntsAt (w.alloc (.cells #[.int .i64 k, .slice fa fs.length fc, .string tx, .int .i64 n] 52)) fa fs := hI.keep (Keeps.of bel)
  clear hT hI hg
  have cI : ∀ w, Calls Tryz.prog 82 #[.int .i64 k] w fun e w' => e = .returned (.tuple #[.int .i64 (inLo k), .int .i64 (inHi k)]) ∧ w = w' := inputs_any k
  have cO : Calls Tryz.prog 84 #[.agg #[.int .i64 k, .slice fa fs.length fc, .string tx, .int .i64 n]] (w.alloc (.cells #[.int .i64 k, .slice fa fs.length fc, .string tx, .int .i64 n] 52)) fun e w' => e = .returned (errV (ownP ⟨k, fs, tx, n⟩)) ∧ Below w.heap.size w w' :=
    (own_any g1 ⟨k, fs, tx, n⟩ fa fc hz1).mono fun e w' ⟨he, hb⟩ => ⟨he, below_two bel hb⟩
  have b3 : errV 3 = .iface 77 (.int .i64 3) := errV_pos (by decide)
  have b1 : errV 1 = .iface 77 (.int .i64 1) := errV_pos (by decide)
  unfold nodeP
  simp only
  by_cases hk1 : k < 1
  · rw [if_pos (.inl hk1), b1]
    clear cI cO hT1 hI1
    go_enter Tryz.func46, Tryz.ntmps46
    go_wp2_with fail
    go_ret
    exact ⟨rfl, bel⟩
  by_cases hk2 : 10 < k
  · rw [if_pos (.inr hk2), b1]
    clear cI cO hT1 hI1
    go_enter Tryz.func46, Tryz.ntmps46
    go_wp2_with fail
    go_ret
    exact ⟨rfl, bel⟩
  rw [if_neg (by omega)]
  generalize ownP ⟨k, fs, tx, n⟩ = vo at *
  generalize inLo k = lo at *
  generalize inHi k = hi at *
  by_cases hl1 : (fs.length : Int) < lo
  · rw [if_pos (.inl hl1), b3]
    clear cO hT1 hI1
    go_enter Tryz.func46, Tryz.ntmps46
    go_wp2_with (go_at_call 82; refine (cI _).mono ?_; rintro e w' ⟨rfl, rfl⟩)
    go_ret
    exact ⟨rfl, bel⟩
  by_cases hl2 : hi < (fs.length : Int)
  · rw [if_pos (.inr hl2), b3]
    clear cO hT1 hI1
    go_enter Tryz.func46, Tryz.ntmps46
    go_wp2_with (go_at_call 82; refine (cI _).mono ?_; rintro e w' ⟨rfl, rfl⟩)
    go_ret
    exact ⟨rfl, bel⟩
  rw [if_neg (by omega)]
  obtain ⟨R, hR⟩ : ∃ R, R = (if fromP Ah fs = 0 then vo else fromP Ah fs) := ⟨_, rfl⟩
  rw [← hR]
  have HR := Lib.hid hR
  clear hR
  have cF : ∀ f, Calls Tryz.prog 83 #[.slice (some ⟨b, o, none⟩) own c, .int .i64 f] (w.alloc (.cells #[.int .i64 k, .slice fa fs.length fc, .string tx, .int .i64 n] 52)) fun e w' => e = .returned (errV (fromOne Ah f)) ∧ (w.alloc (.cells #[.int .i64 k, .slice fa fs.length fc, .string tx, .int .i64 n] 52)) = w' := by
    intro f; have := from_any (c := c) hT1 f (by omega); rw [hTl] at this; exact this
  go_enter Tryz.func46, Tryz.ntmps46
  go_wp2_with (go_at_call 82; refine (cI _).mono ?_; rintro e w' ⟨rfl, rfl⟩)
  go_loopw [46] (fun i wr => ∃ j : Nat, j ≤ fs.length ∧ i = .int .i64 j ∧ fromP Ah (fs.drop j) = fromP Ah fs ∧ wr = (w.alloc (.cells #[.int .i64 k, .slice fa fs.length fc, .string tx, .int .i64 n] 52))) (fun i _ => fs.length - (intOf i).toNat)
  case atStart => exact ⟨0, by omega, rfl, by simp, rfl⟩
  case round =>
    obtain ⟨j, hj, rfl, hfj, rfl⟩ := hrel
    by_cases hlt : j < fs.length
    · rw [fromP_step hlt] at hfj
      rcases hI1 with hI1 | ⟨b2, o2, rfl, hI1⟩
      · subst hI1; simp at hlt
      have cj := hI1 j hlt
      have cFj := cF fs[j]
      generalize fs[j] = f at *
      by_cases h0 : fromOne Ah f = 0
      · rw [if_pos h0] at hfj
        rw [h0, errV_zero] at cFj
        have HF := Lib.hid hfj
        clear hfj cF h0 hI1
        go_wp2_with (go_at_call 83; refine cFj.mono ?_; rintro e w' ⟨rfl, rfl⟩)
        exact ⟨⟨j + 1, by omega, by go_num, HF.out, by trivial⟩, by simp [intOf]; omega⟩
      · rw [if_neg h0] at hfj
        rw [errV_pos h0] at cFj
        have hRR : R = fromOne Ah f := by rw [HR.out, ← hfj, if_neg h0]
        have hRv : errV R = .iface 77 (.int .i64 ((fromOne Ah f : Nat) : Int)) := by rw [hRR]; exact errV_pos h0
        have HV := Lib.hid hRv
        clear hfj cF hI1 HR hRR hRv h0
        go_wp2_with (go_at_call 83; refine cFj.mono ?_; rintro e w' ⟨rfl, rfl⟩)
        go_ret
        exact ⟨by rw [HV.out]; rfl, bel⟩
    · have hj' : j = fs.length := by omega
      subst hj'
      have hRR : R = vo := by rw [HR.out, ← hfj, List.drop_length, fromP, if_pos rfl]
      subst hRR
      clear hfj cF HR
      go_wp2_with (go_at_call 84; refine cO.mono ?_; rintro e w' ⟨rfl, hb2⟩)
      go_ret
      exact ⟨rfl, hb2⟩
end Go.Proofs.YthadeccnibnioaaGreatDoor
