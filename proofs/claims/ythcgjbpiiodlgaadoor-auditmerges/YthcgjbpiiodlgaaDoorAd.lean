/- What is wrong with one key's numbers. -/
import Derived.Test.YthcgjbpiiodlgaaDoorAc
namespace Go.Proofs.YthcgjbpiiodlgaaDoor
open Go.RowKit
set_option linter.unusedVariables false

set_option maxRecDepth 100000 in
set_option maxHeartbeats 1000000 in
theorem among_any (w : World) (la lb : Option Addr) (c d n m : Nat) (g v : List Int) (ha : IntsAt w la g) (hb : IntsAt w lb v) (hn : n = g.length) (hm : m = v.length) (hl : n ≤ 400) (hl2 : m ≤ 400) (hg : ∀ x ∈ g, I64 x) (hv : ∀ x ∈ v, I64 x) :
    Calls Tryd.prog 43 #[.slice la n c, .slice lb m d] w fun e w' => e = .returned (.bool (crossP v g)) ∧ Below w.heap.size w w' := by
  have HA := Lib.hid ha
  have HN := Lib.hid hn
  have HM := Lib.hid hm
  have HG := Lib.hid hg
  have HNB := Lib.hid (bag_any w lb d m v hb hm hl2 hv)
  clear ha hn hm hg hv hb
  generalize hr : crossP v g = r
  have HR := Lib.hid hr
  clear hr
  go_enter Tryd.func43, Tryd.ntmps43
  go_wp2_with fail
  refine HNB.out.mono ?_
  rintro e w1 ⟨B, M, rfl, hBA, hM, hBe⟩
  have e0 : bagN v m = bagT v g 0 := by
    funext x
    unfold bagN bagT
    rw [HM.out, List.take_length]
    simp
  rw [e0] at hBA
  have H1 : Hid (BaAt w1 B M (m + 0) (bagT v g 0) ∧ Below w.heap.size w w1) := ⟨hBA, hBe⟩
  clear hBA hBe e0
  go_wp2_with fail
  go_loopw [7, 12] (fun _ vi wr => ∃ k : Nat, vi = .int .i64 (k : Int) ∧ k ≤ n ∧ Hid (BaAt wr B M (m + k) (bagT v g k) ∧ Below w.heap.size w wr) ∧ Hid (∀ x, (g.take k).count x ≤ v.count x)) (fun _ vi _ => n - (intOf vi).toNat)
  case atStart => exact ⟨0, rfl, by omega, H1, fun x => by simp⟩
  case round =>
    obtain ⟨k, rfl, hk, hB, hC⟩ := hrel
    by_cases hlt : k < n
    · have hi : (k : Int) < (n : Int) := by omega
      have k1 : k < g.length := by have := HN.out; omega
      obtain ⟨b, o, rfl, c1⟩ := ints_at (ints_b HA.out hB.out.2) k k1
      have hx : I64 g[k] := HG.out _ (List.getElem_mem k1)
      obtain ⟨d1, d2⟩ := bag_bd2 v g k g[k] (by have := HM.out; omega) (by have := HN.out; omega)
      have ht := take_any wr B M (m + k) (bagT v g k) hB.out.1 (by omega) g[k] hx (by omega) (by omega)
      rw [bag_dn v g k k1] at ht
      have hcs := count_snoc g k k1
      by_cases hy : 1 ≤ bagT v g k g[k]
      · have hC2 : Hid (∀ x, (g.take (k + 1)).count x ≤ v.count x) := by
          intro x
          rw [hcs x]
          by_cases e : g[k] = x
          · rw [if_pos e]
            subst e
            unfold bagT at hy
            omega
          · rw [if_neg e]
            exact hC.out x
        rw [decide_eq_true hy] at ht
        have HT := Lib.hid ht
        have hBo := hB.out.2
        have HBo := Lib.hid hBo
        clear ht hB hC hcs hy d1 d2 hx hBo
        generalize g[k] = x at *
        go_wp2_with fail
        refine HT.out.mono ?_
        rintro e w2 ⟨rfl, hB2, hF⟩
        have HE : Hid (BaAt w2 B M (m + (k + 1)) (bagT v g (k + 1)) ∧ Below w.heap.size w w2) := ⟨hB2, Fr.onto HBo.out hF (by simpa using hM)⟩
        clear hB2 hF
        go_wp2_with fail
        exact ⟨⟨k + 1, by go_num, by omega, HE, hC2⟩, by simp [intOf]; omega⟩
      · have hF0 : Hid (r = false) := by
          show r = false
          rw [← HR.out]
          refine cross_no k1 ?_
          have := hcs g[k]
          rw [if_pos rfl] at this
          have := hC.out g[k]
          unfold bagT at hy
          omega
        rw [decide_eq_false hy] at ht
        have HT := Lib.hid ht
        have HBo := Lib.hid hB.out.2
        clear ht hB hC hcs hy d1 d2 hx
        generalize g[k] = x at *
        go_wp2_with fail
        refine HT.out.mono ?_
        rintro e w2 ⟨rfl, hB2, hF⟩
        have HE : Hid (Below w.heap.size w w2) := Fr.onto HBo.out hF (by simpa using hM)
        clear hB2 hF
        go_wp2_with fail
        go_ret
        exact ⟨by rw [hF0.out]; rfl, HE.out⟩
    · have hi : ¬ (k : Int) < (n : Int) := by omega
      have HE : Hid (r = true) := by
        show r = true
        rw [← HR.out]
        refine cross_yes ?_
        have : k = g.length := by have := HN.out; omega
        rw [← this]
        exact hC.out
      have HBo := Lib.hid hB.out.2
      clear hB hC
      go_wp2_with fail
      go_ret
      exact ⟨by rw [HE.out]; rfl, HBo.out⟩

theorem IntsAt.drop {w : World} {b o : Nat} {z : List Int} (h : IntsAt w (some ⟨b, o, none⟩) z) (k : Nat) : IntsAt w (some ⟨b, o + k, none⟩) (z.drop k) := by
  rcases h with h | ⟨b', o', e, hc⟩
  · exact .inl (by simp [h])
  · injection e with e
    injection e with e1 e2 _
    subst e1; subst e2
    refine .inr ⟨b, o + k, rfl, fun j hj => ?_⟩
    have hj' : k + j < z.length := by simp at hj; omega
    have := hc (k + j) hj'
    rw [← Nat.add_assoc] at this
    rw [this]; simp
/-- What is said of two that differ at a place. -/
def unlP (w g : List Int) (k : Nat) : Nat := if crossP (w.drop k) (g.drop k) = true then 4 else if 0 < k ∧ g[k]? = w[k - 1]? then 2 else 3
set_option maxRecDepth 100000 in
theorem run_from (b o n c k : Nat) (hk : k < n) (hc : n ≤ c) (u : World) : (Instr.slice 37 (.slice (some ⟨b, o, none⟩) n c) (some (.int .i64 (k : Int))) none none).run Tryd.prog u = .ok (.slice (some ⟨b, o + k, none⟩) (n - k) (c - k)) u := by
  have hu := Tryd.underlying37
  have hz := Tryd.sizeOf3
  have h4 : ¬ c = k := by omega
  have h5 : k ≤ n := by omega
  simp [Instr.slice, Instr.sliceBounds, Instr.sliceBound, asIntOf, run_underlying hu, hz, h4, h5, go_sem]
end Go.Proofs.YthcgjbpiiodlgaaDoor
