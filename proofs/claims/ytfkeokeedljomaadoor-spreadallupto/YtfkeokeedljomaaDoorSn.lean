/- Concat; texts that are the same. -/
import Derived.Test.YtfkeokeedljomaaDoorSm
namespace Go.Proofs.YtfkeokeedljomaaDoor
open Go.RowKit
set_option linter.unusedVariables false

theorem below_grown {w0 u w1 : World} {v : Value} (h : Below w0.heap.size w0 u) (hg : u.grownBy w1 v.ownBlock) (hv : ∀ b, v.ownBlock = some b → w0.heap.size ≤ b) : Below w0.heap.size w0 w1 :=
  h.trans ⟨hg.os, hg.tape, hg.output, hg.size, fun k hk => hg.block k (Nat.lt_of_lt_of_le hk h.size) (fun e => by have := hv k e.symm; omega)⟩
set_option maxRecDepth 100000 in
set_option maxHeartbeats 2000000 in
theorem concat_any (w : World) (la : Option Addr) (c n : Nat) (L : List Tl) (h : TlsAt w la L) (hn : n = L.length) (hl : n < 4611686018427387904) (ht : (allT L).length ≤ 1000000) :
    Calls Tryd.prog 15 #[.slice la n c] w fun e w' => ∃ v, e = .returned v ∧ TxR w' v (allT L) ∧ (∀ b, v.ownBlock = some b → w.heap.size ≤ b) ∧ Below w.heap.size w w' := by
  have H := Lib.hid h
  have HN := Lib.hid hn
  clear h hn
  obtain ⟨N, hNN⟩ : ∃ N, (allT L).length = N := ⟨_, rfl⟩
  rw [hNN] at ht
  have HNN := Lib.hid hNN
  have hg : Calls Tryd.prog 21 #[.slice none 0 0, .int .i64 (N : Int)] w fun e w' => ∃ v, e = .returned v ∧ TxR w' v [] ∧ (∀ b, v.ownBlock = some b → w.heap.size ≤ b) ∧ Below w.heap.size w w' := by
    by_cases h0 : N = 0
    · subst h0
      exact (grow0_any w).mono fun e w' ⟨h1, h2⟩ => by
        subst h2
        exact ⟨_, h1, RwAt.nil _ _ _, by simp [Value.ownBlock], Below.refl _ _⟩
    · exact grow_any N (by omega) (by omega) w
  have HG := Lib.hid hg
  clear hg hNN
  go_enter Tryd.func15, Tryd.ntmps15
  go_wp2_with fail
  go_loop [3, 11] (fun vs vi => ∃ k : Nat, vi = .int .i64 (k : Int) ∧ k ≤ n ∧ vs = .int .i64 ((allT (L.take k)).length : Nat)) (fun _ vi => n - (intOf vi).toNat)
  case atStart => exact ⟨0, rfl, by omega, rfl⟩
  case round =>
    obtain ⟨k, rfl, hk, rfl⟩ := hrel
    have hle := allT_le L k
    rw [HNN.out] at hle
    by_cases hlt : k < n
    · have hz : (k : Int) < (n : Int) := by omega
      obtain ⟨b, o, rfl, c0⟩ := tl_at H.out.o k (by have := HN.out; omega)
      have hs := allT_take L k (by have := HN.out; omega)
      have hle2 := allT_le L (k + 1)
      rw [hs, List.length_append, HNN.out] at hle2
      have HS : Hid ((allT (L.take (k + 1))).length = (allT (L.take k)).length + (L[k]'(by have := HN.out; omega)).l.length) := by show _ = _; rw [hs, List.length_append]
      clear hs
      simp only [tlV] at c0
      generalize (L[k]'(by have := HN.out; omega)).l.length = m at *
      generalize (allT (L.take k)).length = q at *
      have hb : (q : Int) + (m : Int) ≤ 1000000 := by omega
      have hb0 : ¬ (q : Int) + (m : Int) < 0 := by omega
      go_wp2_with fail
      exact ⟨⟨k + 1, by go_num, by omega, by rw [HS.out]; go_num⟩, by simp [intOf]; omega⟩
    · have hz : ¬ (k : Int) < (n : Int) := by omega
      have ht : L.take k = L := List.take_of_length_le (by have := HN.out; omega)
      rw [ht, HNN.out]
      clear ht hle
      go_wp2_with fail
      refine HG.out.mono ?_
      rintro e u ⟨v, rfl, hT, hO, hB⟩
      have HT : Hid (TxR u v [] ∧ (∀ b, v.ownBlock = some b → w.heap.size ≤ b) ∧ Below w.heap.size w u) := ⟨hT, hO, hB⟩
      clear hT hO hB
      go_wp2_with fail
      go_loopw [6, 27] (fun vv vi wr => ∃ k : Nat, vi = .int .i64 (k : Int) ∧ k ≤ n ∧ Hid (TxR wr vv (allT (L.take k)) ∧ (∀ b, vv.ownBlock = some b → w.heap.size ≤ b) ∧ Below w.heap.size w wr)) (fun _ vi _ => n - (intOf vi).toNat)
      case atStart => exact ⟨0, rfl, by omega, HT⟩
      case round =>
        rename Value => vv
        obtain ⟨k, rfl, hk, hT⟩ := hrel
        by_cases hlt : k < n
        · have hz : (k : Int) < (n : Int) := by omega
          have hkl : k < L.length := by have := HN.out; omega
          have hTL := H.out.keep hT.out.2.2
          obtain ⟨b, o, rfl, c0⟩ := tl_at hTL.o k hkl
          have hs := allT_take L k hkl
          have hle2 := allT_le L (k + 1)
          rw [hs, List.length_append, HNN.out] at hle2
          obtain ⟨A1, c1, w1, hrun, h1, h2, h3⟩ := tx_app hT.out.1 (src_of (hTL.i L[k] (List.getElem_mem _)) (c := L[k].cap)) (by omega)
          obtain ⟨A0, cc, rfl, -, -⟩ := hT.out.1.slice
          have HR := Lib.hid hrun
          have HE : Hid (TxR w1 (.slice A1 (allT (L.take (k + 1))).length c1) (allT (L.take (k + 1))) ∧ (∀ b, Value.ownBlock (.slice A1 (allT (L.take (k + 1))).length c1) = some b → w.heap.size ≤ b) ∧ Below w.heap.size w w1) := by
            rw [← hs] at h1 h3
            refine ⟨h1, fun b hb => ?_, below_grown hT.out.2.2 h2 hT.out.2.1⟩
            rcases h3 b hb with h | h
            · exact hT.out.2.1 b h
            · exact Nat.le_trans hT.out.2.2.size h
          have HLN : Hid ((allT (L.take (k + 1))).length = (allT (L.take k)).length + L[k].l.length) := by show _ = _; rw [hs, List.length_append]
          clear hs hrun h1 h2 h3 hTL hT hle2
          simp only [tlV] at c0
          generalize L[k] = X at *
          generalize (allT (L.take k)).length = q at *
          go_wp2_with (at_builtin; refine Lib.wpList_append_run _ rfl _ _ _ _ rfl _ _ rfl rfl _ _ HR.out ?_)
          refine ⟨⟨k + 1, by go_num, by omega, ?_⟩, by simp [intOf]; omega⟩
          have := HE.out
          rw [HLN.out] at this
          exact this
        · have hz : ¬ (k : Int) < (n : Int) := by omega
          have ht : L.take k = L := List.take_of_length_le (by have := HN.out; omega)
          rw [ht] at hT
          clear ht
          go_wp2_with fail
          go_ret
          exact ⟨_, rfl, hT.out⟩
set_option maxHeartbeats 1000000 in
theorem texts_yes (w : World) (A B : Option Addr) (c d n : Nat) (l : List ByteArray) (h1 : CsAt w A (tcells l)) (h2 : CsAt w B (tcells l)) (hn : n = l.length) (hl : n < 4611686018427387904) :
    Calls Tryd.prog 7 #[.slice A n c, .slice B n d] w fun e w' => e = .returned (.bool true) ∧ ∃ q, w' = w.drewN q := by
  have H1 := Lib.hid h1
  have H2 := Lib.hid h2
  have HN := Lib.hid hn
  clear h1 h2 hn
  have t0 : ((n : Int) != (n : Int)) = false := by simp
  go_enter Tryd.func7, Tryd.ntmps7
  go_wp2_with fail
  go_loopw [5] (fun vi wr => ∃ k : Nat, vi = .int .i64 (k : Int) ∧ k ≤ n ∧ Hid (∃ q, wr = w.drewN q)) (fun vi _ => n - (intOf vi).toNat)
  case atStart => exact ⟨0, rfl, by omega, ⟨0, rfl⟩⟩
  case round =>
    obtain ⟨k, rfl, hk, ⟨q, rfl⟩⟩ := hrel
    by_cases hlt : k < n
    · have hz : (k : Int) < (n : Int) := by omega
      have hkl : k < l.length := by have := HN.out; omega
      obtain ⟨b1, o1, rfl, c1⟩ := tx_at H1.out k hkl
      obtain ⟨b2, o2, rfl, c2⟩ := tx_at H2.out k hkl
      have c1' : (w.drewN q).cell? ⟨b1, o1 + k, none⟩ = some (.string l[k]) := c1
      have c2' : (w.drewN q).cell? ⟨b2, o2 + k, none⟩ = some (.string l[k]) := c2
      clear c1 c2
      generalize l[k] = s at *
      have hs : (s.toList == s.toList) = true := by simp
      generalize hw1 : w.drewN q = w1 at c1' c2' ⊢
      have HW := Lib.hid hw1
      clear hw1
      go_wp2_with fail
      go_quiet (fail)
      go_wp2_with fail
      exact ⟨⟨k + 1, by go_num, by omega, ⟨q + nq, by rw [← HW.out, World.drewN_drewN]⟩⟩, by simp [intOf]; omega⟩
    · have hz : ¬ (k : Int) < (n : Int) := by omega
      go_wp2_with fail
      go_ret
      exact ⟨rfl, q, rfl⟩
end Go.Proofs.YtfkeokeedljomaaDoor
