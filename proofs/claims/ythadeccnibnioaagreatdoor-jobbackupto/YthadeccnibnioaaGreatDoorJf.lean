/- job.Check. -/
import Derived.Test.YthadeccnibnioaaGreatDoorJd
import Derived.Test.YthadeccnibnioaaGreatDoorJe
namespace Go.Proofs.YthadeccnibnioaaGreatDoor
open Go.RowKit

theorem allP_step {L : List Nd} {j : Nat} (h : j < L.length) : allP (L.take j) (L.drop j) = if nodeP (L.take j) L[j] = 0 then allP (L.take (j + 1)) (L.drop (j + 1)) else nodeP (L.take j) L[j] := by
  rw [List.drop_eq_getElem_cons h, allP, List.take_succ_eq_append_getElem h]

set_option maxHeartbeats 1000000 in
theorem job_any {w : World} (hg : Gl w) {la : Option Addr} {L : List Nd} {c : Nat} (hL : NdsAt w la L) (hc : L.length ≤ c) :
    Calls Tryz.prog 16 #[.slice la L.length c] w fun e w' => e = .returned (errV (jobP L)) ∧ Below w.heap.size w w' := by
  unfold jobP
  by_cases hlen : 12 < L.length
  · have hi : (12 : Int) < L.length := by omega
    rw [if_pos hlen, show errV 4 = .iface 77 (.int .i64 4) from errV_pos (by decide)]
    clear hL hg
    go_enter Tryz.func16, Tryz.ntmps16
    go_wp2_with fail
    go_ret
    exact ⟨rfl, Below.refl _ _⟩
  · rw [if_neg hlen]
    have hi : ¬ (12 : Int) < L.length := by omega
    obtain ⟨R, hR⟩ : ∃ R, R = (if allP [] L = 0 then endsP L else allP [] L) := ⟨_, rfl⟩
    rw [← hR]
    have HR := Lib.hid hR
    clear hR
    have cN : ∀ (w1 : World) (j : Nat) (h : j < L.length), Below w.heap.size w w1 → Calls Tryz.prog 46 #[.slice la L.length c, .int .i64 j] w1 fun e w' => e = .returned (errV (nodeP (L.take j) L[j])) ∧ Below w.heap.size w w' := by
      intro w1 j h hb
      have hs := hb.size
      refine (node_any (hg.below hb) (hL.keep (Keeps.of hb)) j h (by omega) hc).mono ?_
      rintro e w' ⟨he, hb2⟩
      exact ⟨he, below_two hb hb2⟩
    have cE : ∀ (w1 : World), Below w.heap.size w w1 → Calls Tryz.prog 47 #[.slice la L.length c] w1 fun e w' => e = .returned (errV (endsP L)) ∧ Below w.heap.size w w' := by
      intro w1 hb
      refine (ends_any (hL.keep (Keeps.of hb)) (by omega)).mono ?_
      rintro e w' ⟨he, hb2⟩
      exact ⟨he, below_two hb hb2⟩
    clear hL hg
    go_enter Tryz.func16, Tryz.ntmps16
    go_wp2_with fail
    go_loopw [11] (fun i wr => ∃ j : Nat, j ≤ L.length ∧ i = .int .i64 j ∧ allP (L.take j) (L.drop j) = allP [] L ∧ Below w.heap.size w wr) (fun i _ => L.length - (intOf i).toNat)
    case atStart => exact ⟨0, by omega, rfl, by simp, Below.refl _ _⟩
    case round =>
      obtain ⟨j, hj, rfl, hfj, hb⟩ := hrel
      by_cases hlt : j < L.length
      · rw [allP_step hlt] at hfj
        have cj := cN wr j hlt hb
        by_cases h0 : nodeP (L.take j) L[j] = 0
        · rw [if_pos h0] at hfj
          rw [h0, errV_zero] at cj
          have HF := Lib.hid hfj
          clear hfj cN cE h0 hb
          go_wp2_with (go_at_call 46; refine cj.mono ?_; rintro e w' ⟨rfl, hb2⟩)
          exact ⟨⟨j + 1, by omega, by go_num, HF.out, hb2⟩, by simp [intOf]; omega⟩
        · rw [if_neg h0] at hfj
          have hRR : R = nodeP (L.take j) L[j] := by rw [HR.out, ← hfj, if_neg h0]
          rw [errV_pos h0] at cj
          have hRv : errV R = .iface 77 (.int .i64 ((nodeP (L.take j) L[j] : Nat) : Int)) := by rw [hRR]; exact errV_pos h0
          generalize nodeP (L.take j) L[j] = x at *
          clear hfj cN cE HR hRR h0 hb
          have HV := Lib.hid hRv
          clear hRv
          go_wp2_with (go_at_call 46; refine cj.mono ?_; rintro e w' ⟨rfl, hb2⟩)
          go_ret
          exact ⟨by rw [HV.out]; rfl, hb2⟩
      · have hj' : j = L.length := by omega
        subst hj'
        have hRR : R = endsP L := by rw [HR.out, ← hfj, List.drop_length, allP, if_pos rfl]
        have ce := cE wr hb
        rw [← hRR] at ce
        clear hfj cN cE HR hRR hb
        go_wp2_with (go_at_call 47; refine ce.mono ?_; rintro e w' ⟨rfl, hb2⟩)
        go_ret
        exact ⟨rfl, hb2⟩
end Go.Proofs.YthadeccnibnioaaGreatDoor
