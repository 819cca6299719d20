/- Concat of lines. -/
import Derived.Test.YthcgjbpiiodlgaaDoorAj
namespace Go.Proofs.YthcgjbpiiodlgaaDoor
open Go.RowKit Mp
set_option linter.unusedVariables false

theorem ln_info : (Tryd.prog.info? 39).map (fun i => (i.zero, i.size, i.bytes)) = some (some (.agg #[.string ⟨#[]⟩, .slice none 0 0]), 2, 40) := by kernel_rfl
theorem ln_app {u : World} {v x : Value} {n m : Nat} {a b : List Value} (h : RwAt u 39 2 v n a) (hs : Src Tryd.prog 2 22 x m b u) (hl : n + m ≤ 1000000000) :
    ∃ A c w1, (Builtin.append_ #[22, 22] 22 #[v, x]).run Tryd.prog u = .ok (.slice A (n + m) c) w1 ∧ RwAt w1 39 2 (.slice A (n + m) c) (n + m) (a ++ b) ∧ u.grownBy w1 v.ownBlock ∧ (∀ b, Value.ownBlock (.slice A (n + m) c) = some b → v.ownBlock = some b ∨ u.heap.size ≤ b) := by
  obtain ⟨i0, hi, hz0, hz1, hz2⟩ := info_parts ln_info
  obtain ⟨A, c, w1, hrun, hown, hgr, hat⟩ := rw_append h 22 22 22 i0 _ 40 Tryd.underlying22 hi hz0 hz1 hz2 rfl x m b hs (by unfold maxLen; omega) (by omega)
  exact ⟨A, c, w1, hrun, hown, hgr, hat⟩
set_option maxHeartbeats 2000000 in
theorem ln_grow0 (w : World) : Calls Tryd.prog 40 #[.slice none 0 0, .int .i64 0] w fun e w' => e = .returned (.slice none 0 0) ∧ w' = w := by
  go_enter Tryd.func40, Tryd.ntmps40
  go_wp2
  go_ret
  exact ⟨rfl, rfl⟩
set_option maxHeartbeats 2000000 in
theorem ln_grow (n : Nat) (h0 : 0 < n) (hn : n ≤ 1000000000) (w : World) : Calls Tryd.prog 40 #[.slice none 0 0, .int .i64 n] w fun e w' => ∃ v, e = .returned v ∧ Made w w' 39 2 v 0 [] := by
  obtain ⟨i0, hi, hz0, hz1, hz2⟩ := info_parts ln_info
  have hrz : (Builtin.append_ #[22, 3] 22 #[.slice none 0 0, .int .i64 (n : Int)]).run Tryd.prog w = .ok (.slice (some ⟨w.heap.size, 0, none⟩) n (grownCap w n 0 39)) (w.drew.alloc (.cells (#[] ++ Builtin.zeroCells #[.string ⟨#[]⟩, .slice none 0 0] n ++ Builtin.zeroCells #[.string ⟨#[]⟩, .slice none 0 0] (grownCap w n 0 39 - n)) 39)) := by
    have h := Lib.run_append_grow_zeros w 22 3 22 39 i0 _ .i64 .i64 Tryd.underlying22 Tryd.underlying3 hi hz0 none 0 0 [] (run_firstCells_none w.drew i0.size 0 0 0) n h0 (by omega) (by omega) (by omega) (by rw [hz2]; omega)
      (by rw [Nat.zero_add]; exact growslice_fits h0 (by rw [hz2]; omega))
    rw [Nat.zero_add] at h
    simpa [Value.cells] using h
  have hge : n ≤ grownCap w n 0 39 := grownCap_ge w n 0 39
  have hcm : grownCap w n 0 39 ≤ maxLen := grownCap_le_maxLen w n 0 39 (by unfold maxLen; omega)
  generalize grownCap w n 0 39 = G at *
  have hTx : RwAt (w.drew.alloc (.cells (#[] ++ Builtin.zeroCells #[.string ⟨#[]⟩, .slice none 0 0] n ++ Builtin.zeroCells #[.string ⟨#[]⟩, .slice none 0 0] (G - n)) 39)) 39 2 (.slice (some ⟨w.heap.size, 0, none⟩) 0 G) 0 [] := by
    refine ⟨by simp, .inr ⟨w.heap.size, 0, G, _, rfl, heap_alloc_new w.drew _, by simp, hcm, ?_, by simp⟩⟩
    simp [size_zeroCells]; omega
  have hB : Below w.heap.size w (w.drew.alloc (.cells (#[] ++ Builtin.zeroCells #[.string ⟨#[]⟩, .slice none 0 0] n ++ Builtin.zeroCells #[.string ⟨#[]⟩, .slice none 0 0] (G - n)) 39)) := (Below.refl _ _).drew.alloc (Nat.le_refl _) _
  have hGz : (0 : Int) ≤ (G : Int) := by omega
  have hcm2 : G ≤ 9223372036854775807 := by unfold maxLen at hcm; omega
  generalize w.drew.alloc (.cells (#[] ++ Builtin.zeroCells #[.string ⟨#[]⟩, .slice none 0 0] n ++ Builtin.zeroCells #[.string ⟨#[]⟩, .slice none 0 0] (G - n)) 39) = W1 at hrz hTx hB
  have HE : Hid (Made w W1 39 2 (.slice (some ⟨w.heap.size, 0, none⟩) 0 G) 0 []) := ⟨hTx, fun b hb => by simp [Value.ownBlock] at hb; omega, hB⟩
  clear hTx hB hi hz0 hz1 hz2 hcm
  have h1 : ¬ (n : Int) < 0 := by omega
  have h2 : (n : Int) > 0 := by omega
  have HR := Lib.hid hrz
  clear hrz
  go_enter Tryd.func40, Tryd.ntmps40
  go_wp2_with (at_builtin; refine Lib.wpList_append_run _ rfl _ _ _ _ rfl _ _ rfl rfl _ _ HR.out ?_)
  all_goals (go_ret; exact ⟨_, rfl, HE.out⟩)
set_option maxRecDepth 100000 in
set_option maxHeartbeats 2000000 in
theorem ln_concat (w : World) (la : Option Addr) (c n : Nat) (L : List Sl) (h : CsAt w la (L.map slV)) (hn : n = L.length) (hl : n < 1000)
    (hS : ∀ X ∈ L, ∀ u, Below w.heap.size w u → Src Tryd.prog 2 22 (slV X) X.n X.cs u) (ht : allN L ≤ 1000000) :
    Calls Tryd.prog 28 #[.slice la n c] w fun e w' => ∃ v, e = .returned v ∧ Made w w' 39 2 v (allN L) (allC L) := by
  have H := Lib.hid h
  have HN := Lib.hid hn
  have HS0 := Lib.hid hS
  clear h hn hS
  obtain ⟨N, hNN⟩ : ∃ N, allN L = N := ⟨_, rfl⟩
  rw [hNN] at ht
  have HNN := Lib.hid hNN
  have hg : Calls Tryd.prog 40 #[.slice none 0 0, .int .i64 (N : Int)] w fun e w' => ∃ v, e = .returned v ∧ Made w w' 39 2 v 0 [] := by
    by_cases h0 : N = 0
    · subst h0
      exact (ln_grow0 w).mono fun e w' ⟨h1, h2⟩ => by
        subst h2
        exact ⟨_, h1, RwAt.nil _ _ _, by simp [Value.ownBlock], Below.refl _ _⟩
    · exact ln_grow N (by omega) (by omega) w
  have HG := Lib.hid hg
  clear hg hNN
  go_enter Tryd.func28, Tryd.ntmps28
  go_wp2_with fail
  go_loop [3, 11] (fun vs vi => ∃ k : Nat, vi = .int .i64 (k : Int) ∧ k ≤ n ∧ vs = .int .i64 (allN (L.take k) : Nat)) (fun _ vi => n - (intOf vi).toNat)
  case atStart => exact ⟨0, rfl, by omega, rfl⟩
  case round =>
    obtain ⟨k, rfl, hk, rfl⟩ := hrel
    have hle := allN_le L k
    rw [HNN.out] at hle
    by_cases hlt : k < n
    · have hz : (k : Int) < (n : Int) := by omega
      obtain ⟨b, o, rfl, c0⟩ := sl_at H.out k (by have := HN.out; omega)
      have hs := allN_take L k (by have := HN.out; omega)
      have hle2 := allN_le L (k + 1)
      rw [hs, HNN.out] at hle2
      have HS : Hid (allN (L.take (k + 1)) = allN (L.take k) + (L[k]'(by have := HN.out; omega)).n) := hs
      clear hs
      simp only [slV] at c0
      generalize (L[k]'(by have := HN.out; omega)).n = m at *
      generalize allN (L.take k) = q at *
      have hb : (q : Int) + (m : Int) ≤ 1000000 := by omega
      have hb0 : ¬ (q : Int) + (m : Int) < 0 := by omega
      go_wp2_with fail
      exact ⟨⟨k + 1, by go_num, by omega, by rw [HS.out]; go_num⟩, by simp [intOf]; omega⟩
    · have hz : ¬ (k : Int) < (n : Int) := by omega
      have ht : L.take k = L := List.take_of_length_le (by have := HN.out; omega)
      rw [ht, HNN.out]
      clear ht hle
      go_wp2_with fail
      refine HG.out.mono ?_
      rintro e u ⟨v, rfl, hT⟩
      have HT := Lib.hid hT
      clear hT
      go_wp2_with fail
      go_loopw [6, 27] (fun vv vi wr => ∃ k : Nat, vi = .int .i64 (k : Int) ∧ k ≤ n ∧ Hid (Made w wr 39 2 vv (allN (L.take k)) (allC (L.take k)))) (fun _ vi _ => n - (intOf vi).toNat)
      case atStart => exact ⟨0, rfl, by omega, HT⟩
      case round =>
        rename Value => vv
        obtain ⟨k, rfl, hk, hT⟩ := hrel
        by_cases hlt : k < n
        · have hz : (k : Int) < (n : Int) := by omega
          have hkl : k < L.length := by have := HN.out; omega
          obtain ⟨b, o, rfl, c0⟩ := sl_at (H.out.keep hT.out.2.2) k hkl
          have hs := allN_take L k hkl
          have hs2 := allC_take L k hkl
          have hle2 := allN_le L (k + 1)
          rw [hs, HNN.out] at hle2
          obtain ⟨A1, c1, w1, hrun, h1, h2, h3⟩ := ln_app hT.out.1 (HS0.out L[k] (List.getElem_mem _) wr hT.out.2.2) (by omega)
          obtain ⟨A0, cc, rfl, -, -⟩ := hT.out.1.slice
          have HR := Lib.hid hrun
          have HE : Hid (Made w w1 39 2 (.slice A1 (allN (L.take k) + L[k].n) c1) (allN (L.take (k + 1))) (allC (L.take (k + 1)))) := by
            rw [← hs2] at h1
            rw [hs]
            refine ⟨h1, fun b hb => ?_, below_grown hT.out.2.2 h2 hT.out.2.1⟩
            rcases h3 b hb with h | h
            · exact hT.out.2.1 b h
            · exact Nat.le_trans hT.out.2.2.size h
          clear hs hs2 hrun h1 h2 h3 hT hle2
          simp only [slV] at c0 HR
          generalize L[k] = X at *
          generalize allN (L.take k) = q at *
          go_wp2_with (at_builtin; refine Lib.wpList_append_run _ rfl _ _ _ _ rfl _ _ rfl rfl _ _ HR.out ?_)
          exact ⟨⟨k + 1, by go_num, by omega, HE⟩, by simp [intOf]; omega⟩
        · have hz : ¬ (k : Int) < (n : Int) := by omega
          have ht : L.take k = L := List.take_of_length_le (by have := HN.out; omega)
          rw [ht] at hT
          clear ht
          go_wp2_with fail
          go_ret
          exact ⟨_, rfl, hT.out⟩
end Go.Proofs.YthcgjbpiiodlgaaDoor
