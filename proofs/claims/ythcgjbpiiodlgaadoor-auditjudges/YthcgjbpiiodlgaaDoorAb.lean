/- One key's numbers. -/
import Derived.Test.YthcgjbpiiodlgaaDoorAa
import Derived.Test.YthcgjbpiiodlgaaDoorPureQd
namespace Go.Proofs.YthcgjbpiiodlgaaDoor
open Go.RowKit
set_option linter.unusedVariables false

set_option maxRecDepth 100000 in
set_option maxHeartbeats 1000000 in
theorem alike_any (w : World) (la lb : Option Addr) (c d n m : Nat) (z y : List Int) (ha : IntsAt w la z) (hb : IntsAt w lb y) (hn : n = z.length) (hm : m = y.length) (hl : n ≤ 400) (hl2 : m ≤ 400) :
    Calls Tryd.prog 31 #[.slice la n c, .slice lb m d] w fun e w' => e = .returned (.int .i64 (lcpP z y : Nat)) ∧ ∃ q, w' = w.drewN q := by
  have HA := Lib.hid ha
  have HB := Lib.hid hb
  have HN := Lib.hid hn
  have HM := Lib.hid hm
  clear ha hb hn hm
  generalize hr : lcpP z y = r
  have HR := Lib.hid hr
  clear hr
  go_enter Tryd.func31, Tryd.ntmps31
  go_wp2_with fail
  go_loopw [5] (fun vi wr => ∃ k : Nat, vi = .int .i64 (k : Int) ∧ k ≤ n ∧ k ≤ m ∧ Hid (z.take k = y.take k) ∧ Hid (∃ q, wr = w.drewN q)) (fun vi _ => n - (intOf vi).toNat)
  case atStart => exact ⟨0, rfl, by omega, by omega, rfl, ⟨0, rfl⟩⟩
  case round =>
    obtain ⟨k, rfl, hk, hk2, HT, hq⟩ := hrel
    by_cases h1 : k < n
    · have t1 : decide ((k : Int) < (n : Int)) = true := by simp; omega
      have t1' : (k : Int) < (n : Int) := by omega
      have k1 : k < z.length := by have := HN.out; omega
      by_cases h2 : k < m
      · have t2 : decide ((k : Int) < (m : Int)) = true := by simp; omega
        have t2' : (k : Int) < (m : Int) := by omega
        have k2 : k < y.length := by have := HM.out; omega
        obtain ⟨b1, o1, rfl, c1⟩ := ints_at HA.out k k1
        obtain ⟨b2, o2, rfl, c2⟩ := ints_at HB.out k k2
        obtain ⟨q, hq⟩ := hq.out
        have c1' : wr.cell? ⟨b1, o1 + k, none⟩ = some (.int .i64 z[k]) := by rw [hq]; exact c1
        have c2' : wr.cell? ⟨b2, o2 + k, none⟩ = some (.int .i64 y[k]) := by rw [hq]; exact c2
        clear c1 c2
        by_cases h3 : z[k] = y[k]
        · have HT2 : Hid (z.take (k + 1) = y.take (k + 1)) := take_step k1 k2 HT.out h3
          have HQ := Lib.hid hq
          clear hq HT
          rw [← h3] at c2'
          clear h3
          generalize z[k] = x at *
          have t3 : (x == x) = true := by simp
          go_wp2_with fail
          go_quiet (fail)
          go_wp2_with fail
          exact ⟨⟨k + 1, by go_num, by omega, by omega, HT2, ⟨q + nq, by rw [HQ.out, World.drewN_drewN]⟩⟩, by simp [intOf]; omega⟩
        · have HE : Hid (r = k) := by
            show r = k
            rw [← HR.out]
            refine lcp_of z y k (by omega) (by omega) HT.out (.inr (.inr ?_))
            rw [List.getElem?_eq_getElem k1, List.getElem?_eq_getElem k2]
            simpa using h3
          have t3 : (z[k] == y[k]) = false := by simpa using h3
          have HQ := Lib.hid hq
          clear hq HT h3
          generalize z[k] = x at *
          generalize y[k] = x2 at *
          go_wp2_with fail
          go_quiet (fail)
          go_wp2_with fail
          go_ret
          exact ⟨by rw [HE.out]; rfl, ⟨q + nq, by rw [HQ.out, World.drewN_drewN]⟩⟩
      · have t2 : decide ((k : Int) < (m : Int)) = false := by simp; omega
        have t2' : ¬ (k : Int) < (m : Int) := by omega
        have HE : Hid (r = k) := by
          show r = k
          rw [← HR.out]
          exact lcp_of z y k (by omega) (by have := HM.out; omega) HT.out (.inr (.inl (by have := HM.out; omega)))
        obtain ⟨q, hq⟩ := hq.out
        have HQ := Lib.hid hq
        clear hq HT
        go_wp2_with fail
        go_quiet (fail)
        go_wp2_with fail
        go_ret
        exact ⟨by rw [HE.out]; rfl, ⟨q + nq, by rw [HQ.out, World.drewN_drewN]⟩⟩
    · have t1 : decide ((k : Int) < (n : Int)) = false := by simp; omega
      have t1' : ¬ (k : Int) < (n : Int) := by omega
      have HE : Hid (r = k) := by
        show r = k
        rw [← HR.out]
        exact lcp_of z y k (by have := HN.out; omega) (by have := HM.out; omega) HT.out (.inl (by have := HN.out; omega))
      obtain ⟨q, hq⟩ := hq.out
      have HQ := Lib.hid hq
      clear hq HT
      go_wp2_with fail
      go_quiet (fail)
      go_wp2_with fail
      go_ret
      exact ⟨by rw [HE.out]; rfl, ⟨q + nq, by rw [HQ.out, World.drewN_drewN]⟩⟩
end Go.Proofs.YthcgjbpiiodlgaaDoor
