/- All lists, one behind the other, as the law puts them together. -/
import Derived.Test.YtfkeokeedljomaaDoorSr
namespace Go.Proofs.YtfkeokeedljomaaDoor
open Go.RowKit
set_option linter.unusedVariables false

theorem RowsEnd.at_ {w w' : World} {v : Value} {rows : List (List ByteArray)} (h : RowsEnd w w' v rows) : ∃ B, v = .slice (some ⟨B, 0, none⟩) rows.length rows.length ∧ Below w.heap.size w w' ∧
    ∀ (j : Nat) (r : List ByteArray), rows[j]? = some r → ∃ A c, w'.cell? ⟨B, j, none⟩ = some (.slice A r.length c) ∧ CsAt w' A (tcells r) := by
  obtain ⟨B, vs, h1, h2, h3, h4⟩ := h
  refine ⟨B, h1, h4, fun j r hr => ?_⟩
  have hl : j < vs.length := by rw [h2.len]; exact (List.getElem?_eq_some_iff.1 hr).1
  obtain ⟨v, hv⟩ := at_lt hl
  have ho := h2.own j v r hv hr
  obtain ⟨A, c, rfl, -, -⟩ := ho.slice
  exact ⟨A, c, (h2.cell hv).1, ho.cs⟩
set_option maxHeartbeats 2000000 in
theorem all_any (w : World) (la : Option Addr) (c n : Nat) (L : List Tl) (h : TlsAt w la L) (hn : n = L.length) (hl : n < 4611686018427387904) (ht : (allT L).length ≤ 100000000) :
    Calls Tryd.prog 8 #[.slice la n c] w fun e w' => ∃ A d, e = .returned (.slice A (allT L).length d) ∧ CsAt w' A (tcells (allT L)) ∧ Below w.heap.size w w' := by
  have H := Lib.hid h
  have HN := Lib.hid hn
  clear h hn
  go_enter Tryd.func8, Tryd.ntmps8
  go_wp2_with fail
  go_loopw [3, 4] (fun vv vi wr => ∃ k : Nat, vi = .int .i64 (k : Int) ∧ k ≤ n ∧ Hid (TxR wr vv (allT (L.take k)) ∧ (∀ b, vv.ownBlock = some b → w.heap.size ≤ b) ∧ Below w.heap.size w wr)) (fun _ vi _ => n - (intOf vi).toNat)
  case atStart => exact ⟨0, rfl, by omega, RwAt.nil _ _ _, by simp [Value.ownBlock], Below.refl _ _⟩
  case round =>
    obtain ⟨k, rfl, hk, hT⟩ := hrel
    by_cases hlt : k < n
    · have hz : (k : Int) < (n : Int) := by omega
      have hkl : k < L.length := by have := HN.out; omega
      have hTL := H.out.keep hT.out.2.2
      obtain ⟨b, o, rfl, c0⟩ := tl_at hTL.o k hkl
      have hs := allT_take L k hkl
      have hle2 := allT_le L (k + 1)
      rw [hs, List.length_append] at hle2
      obtain ⟨A1, c1, w1, hrun, h1, h2, h3⟩ := tx_app hT.out.1 (src_of (hTL.i L[k] (List.getElem_mem _)) (c := L[k].cap)) (by omega)
      obtain ⟨A0, cc, rfl, -, -⟩ := hT.out.1.slice
      have HR := Lib.hid hrun
      have HE : Hid (TxR w1 (.slice A1 (allT (L.take (k + 1))).length c1) (allT (L.take (k + 1))) ∧ (∀ b, Value.ownBlock (.slice A1 (allT (L.take (k + 1))).length c1) = some b → w.heap.size ≤ b) ∧ Below w.heap.size w w1) := by
        rw [← hs] at h1 h3
        refine ⟨h1, fun b hb => ?_, below_grown hT.out.2.2 h2 hT.out.2.1⟩
        rcases h3 b hb with h | h
        · exact hT.out.2.1 b h
        · exact Nat.le_trans hT.out.2.2.size h
      have HLN : Hid ((allT (L.take (k + 1))).length = (allT (L.take k)).length + L[k].l.length) := by show _ = _; rw [hs, List.length_append]
      clear hs hrun h1 h2 h3 hTL hT hle2
      simp only [tlV] at c0
      generalize L[k] = X at *
      generalize (allT (L.take k)).length = q at *
      go_wp2_with (at_builtin; refine Lib.wpList_append_run _ rfl _ _ _ _ rfl _ _ rfl rfl _ _ HR.out ?_)
      refine ⟨⟨k + 1, by go_num, by omega, ?_⟩, by simp [intOf]; omega⟩
      have := HE.out
      rw [HLN.out] at this
      exact this
    · have hz : ¬ (k : Int) < (n : Int) := by omega
      have ht : L.take k = L := List.take_of_length_le (by have := HN.out; omega)
      rw [ht] at hT
      clear ht
      obtain ⟨A0, cc, rfl, -, -⟩ := hT.out.1.slice
      go_wp2_with fail
      go_ret
      exact ⟨A0, ⟨cc, rfl⟩, hT.out.1.cs, hT.out.2.2⟩
end Go.Proofs.YtfkeokeedljomaaDoor
