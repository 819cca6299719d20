/- Live, Pictures, Keep. -/
import Derived.Test.YthlaccicdbbeeaaHf
namespace Go.Proofs.Ythlaccicdbbeeaa
open Go.RowKit
open Go.Maps (string_keyed int_keyed)
open Go.Sort Go.Shelf
open Classical
set_option linter.unusedVariables false
/-- Numbers behind a slice. -/
def NsAt (w : World) (p : Option Addr) (l : List Int) : Prop :=
  l = [] ∨ ∃ b o, p = some ⟨b, o, none⟩ ∧ ∀ i (h : i < l.length), w.cell? ⟨b, o + i, none⟩ = some (.int .i64 l[i])
theorem NsAt.keepM {w w' : World} {p : Option Addr} {l : List Int} (h : NsAt w p l) {xs : List Nat} (f : Fr xs w w') (hx : ∀ b ∈ xs, ∃ es cl, w.heap[b]? = some (.map es cl)) : NsAt w' p l := by
  rcases h with h | ⟨b, o, rfl, hc⟩
  · exact .inl h
  · refine .inr ⟨b, o, rfl, fun i hi => ?_⟩
    have h1 := hc i hi
    have hlt := block_lt_of_cell h1
    rw [f.cell (p := ⟨b, o + i, none⟩) hlt (fun hm => by obtain ⟨es, cl, h2⟩ := hx b hm; exact cell_map h1 h2)]
    exact h1
theorem keysC_any (mb : Option Nat) (W : World) : Calls Try.prog 34 #[.map mb] W fun e w' => e = .returned (.func (.func 47) #[] #[.pointer (some ⟨W.heap.size, 0, none⟩)]) ∧ w' = W.alloc (.cells #[.map mb] 68) :=
  callsIn_wide.1 (Try.maps_Keys_34 mb W)
theorem keysP_any (mb : Option Nat) (W : World) : Calls Try.prog 36 #[.map mb] W fun e w' => e = .returned (.func (.func 50) #[] #[.pointer (some ⟨W.heap.size, 0, none⟩)]) ∧ w' = W.alloc (.cells #[.map mb] 67) :=
  callsIn_wide.1 (Try.maps_Keys_36 mb W)
theorem sortedC_any {w : World} {C n : Nat} {g : ByteArray → Nat} (h : CIs w C n (fun f => decide (g f ≠ 0)) g) (hn : n ≤ 1000000000) :
    Calls Try.prog 29 #[.func (.func 47) #[] #[.pointer (some ⟨w.heap.size, 0, none⟩)]] (w.alloc (.cells #[.map (some C)] 68)) fun e w' => ∃ A cap own, e = .returned (.slice A own.length cap) ∧ SsAt w' A own ∧ own.Nodup ∧ (∀ f, f ∈ own ↔ g f ≠ 0) ∧
      own.Pairwise (fun a b => a.data.toList ≤ b.data.toList) ∧ own.length ≤ n ∧ Below w.heap.size w w' := by
  obtain ⟨D, h1, h2⟩ := h
  have hs := h1.size_le
  refine (callsIn_wide.1 (Try.slices_Sorted_keys_29_34 C _ D vR w h1 (by unfold maxLen; omega) (by omega))).mono ?_
  rintro e w' ⟨v, ss, rfl, hS, hrow, hnil, hb⟩
  obtain ⟨⟨g1, g2, g3⟩, g4⟩ := sorted_keys h1 hS
  obtain ⟨A, cap, rfl, hA, hB⟩ := row_ss hrow
  exact ⟨A, cap, _, rfl, hA, g1, fun f => by rw [g2, (h2 f).1]; simp, g4, by rw [g3]; exact hs, ((Below.refl _ w).alloc (Nat.le_refl _) _).trans (hb.mono (by simp))⟩
theorem i64_keys {w : World} {P n : Nat} {D : DataW Value} (hown : w.ownsMap Try.prog 3 vR P n D) : ∀ x ∈ intKeys D, I64 x := by
  obtain ⟨es, rfl, hko⟩ := hown.keysOf
  intro x hx
  obtain ⟨p, hp, rfl⟩ := List.mem_map.1 hx
  obtain ⟨v, hv⟩ := hko p hp
  obtain ⟨y, _, hy, hw⟩ := Maps.keyOf_i64 Try.underlying3 hv
  rw [hy]
  exact i64_of_wf hw
theorem sortedP_any {w : World} {P : Nat} {L : List Pic} (h : PIs w P L) (hnd : (L.map (·.1)).Nodup) (hl : L.length ≤ 400) :
    Calls Try.prog 35 #[.func (.func 50) #[] #[.pointer (some ⟨w.heap.size, 0, none⟩)]] (w.alloc (.cells #[.map (some P)] 67)) fun e w' => ∃ A cap l, e = .returned (.slice A l.length cap) ∧ NsAt w' A l ∧ l.Perm (L.map (·.1)) ∧ l.Pairwise (· ≤ ·) ∧ (∀ x ∈ l, I64 x) ∧ l.length ≤ cap ∧ Below w.heap.size w w' := by
  obtain ⟨D, h1, h2, h3⟩ := h
  obtain ⟨k1, k2⟩ := intKeys_facts h1 hnd (fun x => by rw [h2, has_mem])
  have hs := PIs.size h1 h2 hnd
  have hi := i64_keys h1
  have tr : ∀ a b c : Int, leI a b = true → leI b c = true → leI a c = true := fun a b c h1 h2 => by simp only [leI, decide_eq_true_eq] at *; exact Int.le_trans h1 h2
  have to : ∀ a b : Int, (leI a b || leI b a) = true := fun a b => by simp only [leI, Bool.or_eq_true, decide_eq_true_eq]; exact Int.le_total a b
  refine (callsIn_wide.1 (Try.slices_Sorted_keys_35_36 P _ D vR w h1 (by unfold maxLen; omega) (by omega))).mono ?_
  rintro e w' ⟨v, ss, rfl, hS, hrow, hnil, hb⟩
  have hlen : (ss.mergeSort leI).length = ss.length := by simp
  have hpm : (ss.mergeSort leI).Perm (intKeys D) := (List.mergeSort_perm ss leI).trans hS
  have hB : Below w.heap.size w w' := ((Below.refl _ w).alloc (Nat.le_refl _) _).trans (hb.mono (by simp))
  have hp : (ss.mergeSort leI).Pairwise (· ≤ ·) := (List.pairwise_mergeSort tr to ss).imp fun {a b} h => by simpa [leI] using h
  rcases hrow.2 with ⟨h0, h1'⟩ | ⟨g, cap, cur, h0, hg, hgg, hle, _⟩
  · exact ⟨none, 0, ss.mergeSort leI, by rw [hlen, h0, h1'], .inl (List.length_eq_zero_iff.1 (by rw [hlen, h1'])), hpm.trans k1.symm, hp, fun x hx => hi x (hpm.mem_iff.1 hx), by rw [hlen, h1']; exact Nat.le_refl _, hB⟩
  · refine ⟨some ⟨g, 0, none⟩, cap, ss.mergeSort leI, by rw [hlen, h0], .inr ⟨g, 0, rfl, fun i hi' => ?_⟩, hpm.trans k1.symm, hp, fun x hx => hi x (hpm.mem_iff.1 hx), by rw [hlen]; exact hle, hB⟩
    subst h0
    rw [hlen] at hi'
    rw [Nat.zero_add, hrow.cellAt i (by omega)]
    simp [hi']
section
variable {w : World} {B P C n : Nat} {L : List Pic}
set_option maxHeartbeats 1000000 in
theorem live_any (h : ShS w B P C n L) (hn : n ≤ 1000000000) :
    Calls Try.prog 19 #[.pointer (some ⟨B, 0, none⟩)] w fun e w' => ∃ A cap own, e = .returned (.slice A own.length cap) ∧ SsAt w' A own ∧ own.Nodup ∧ (∀ f, f ∈ own ↔ cntP L f ≠ 0) ∧
      own.Pairwise (fun a b => a.data.toList ≤ b.data.toList) ∧ own.length ≤ n ∧ Below w.heap.size w w' := by
  have c1 := h.c1
  have HS := Lib.hid (sortedC_any h.cnt hn)
  clear h
  go_enter Try.func19, Try.ntmps19
  go_wp2_with (go_at_call 34; refine (keysC_any _ _).mono ?_; rintro e w1 ⟨rfl, rfl⟩; refine Hid.out ?_)
  refine Lib.hid ?_
  go_wp2_with (go_at_call 29; refine Hid.out ?_)
  refine Lib.hid ?_
  refine HS.out.mono ?_
  rintro e w2 ⟨A, cap, own, rfl, h1⟩
  go_wp2_with fail
  go_ret
  exact ⟨A, cap, own, rfl, h1⟩
set_option maxHeartbeats 1000000 in
theorem pics_any (h : ShS w B P C n L) (ok : POk L) :
    Calls Try.prog 20 #[.pointer (some ⟨B, 0, none⟩)] w fun e w' => ∃ A cap l, e = .returned (.slice A l.length cap) ∧ NsAt w' A l ∧ l.Perm (L.map (·.1)) ∧ l.Pairwise (· ≤ ·) ∧ (∀ x ∈ l, I64 x) ∧ l.length ≤ cap ∧ Below w.heap.size w w' := by
  have c0 := h.c0
  have HS := Lib.hid (sortedP_any h.pic ok.nd ok.len)
  clear h
  go_enter Try.func20, Try.ntmps20
  go_wp2_with (go_at_call 36; refine (keysP_any _ _).mono ?_; rintro e w1 ⟨rfl, rfl⟩; refine Hid.out ?_)
  refine Lib.hid ?_
  go_wp2_with (go_at_call 35; refine Hid.out ?_)
  refine Lib.hid ?_
  refine HS.out.mono ?_
  rintro e w2 ⟨A, cap, own, rfl, h1⟩
  go_wp2_with fail
  go_ret
  exact ⟨A, cap, own, rfl, h1⟩
theorem perm_has {l : List Int} (hp : l.Perm (L.map (·.1))) {t : Nat} (ht : t < l.length) : hasP L l[t] = true := has_mem.2 (hp.mem_iff.1 (List.getElem_mem ht))
theorem has_next {l : List Int} (hn : l.Nodup) {L' : List Pic} {j : Nat} (hj : j < l.length) (h : ∀ t (ht : t < l.length), j ≤ t → hasP L' l[t] = true) : ∀ t (ht : t < l.length), j + 1 ≤ t → hasP (dropP L' l[j]) l[t] = true := fun t ht hle =>
  has_mem.2 (drop_mem.2 ⟨has_mem.1 (h t ht (by omega)), fun e => absurd ((List.getElem_inj hn).1 e) (by omega)⟩)
set_option maxRecDepth 100000 in
set_option maxHeartbeats 2000000 in
theorem keep0_any (h : ShS w B P C n L) (ok : POk L) (hn : n ≤ 1000000000) :
    Calls Try.prog 21 #[.pointer (some ⟨B, 0, none⟩), .int .i64 0] w fun e w' => ∃ A cap, e = .returned (.slice A L.length cap) ∧ ShS w' B P C n [] ∧ Below w.heap.size w w ∧ Fr [P, C] w w' := by
  have HP := Lib.hid (pics_any h ok)
  have HS := Lib.hid h
  have HOk := Lib.hid ok
  clear h ok
  go_enter Try.func21, Try.ntmps21
  go_wp2_with (go_at_call 20; refine Hid.out ?_)
  refine Lib.hid ?_
  refine HP.out.mono ?_
  rintro e w1 ⟨A, cap, l, rfl, hA, hp, -, hi, hcap, hb⟩
  have hll : l.length = L.length := by rw [hp.length_eq, List.length_map]
  have HL := Lib.hid hll
  have hl4 : l.length ≤ 400 := by rw [hll]; exact HOk.out.len
  have HS1 := Lib.hid (HS.out.keep hb)
  have HA := Lib.hid hA
  have HPm := Lib.hid hp
  have HI := Lib.hid hi
  have HB := Lib.hid hb
  clear hA hp hi hll hb HP
  go_wp2_with fail
  go_loopw [25] (fun i wr => ∃ j : Nat, j ≤ l.length ∧ i = .int .i64 j ∧ ∃ L', ShS wr B P C n L' ∧ POk L' ∧ Fr [P, C] w1 wr ∧ L'.length + j = L.length ∧ ∀ t (ht : t < l.length), j ≤ t → hasP L' l[t] = true) (fun i _ => l.length - (intOf i).toNat)
  case atStart => exact ⟨0, by omega, rfl, L, HS1.out, HOk.out, Fr.refl _ _, rfl, fun t ht _ => perm_has HPm.out ht⟩
  case round =>
    obtain ⟨j, hj, rfl, L', hS', ok', hF, hle, hall⟩ := hrel
    by_cases hlt : j < l.length
    · have hns := HA.out.keepM hF HS1.out.maps
      rcases hns with hns | ⟨b, o, rfl, hns⟩
      · subst hns; simp at hlt
      have c0 := hns j hlt
      have hhas := hall j hlt (Nat.le_refl _)
      obtain ⟨own, hm⟩ := has_pic hhas
      have HD := Lib.hid (drop_any hS' ok' hn (HI.out _ (List.getElem_mem hlt)) hm)
      have hnd : l.Nodup := HPm.out.nodup_iff.2 HOk.out.nd
      have HX := Lib.hid (has_next hnd hlt hall)
      have HLn := Lib.hid (drop_len ok'.nd (has_mem.1 hhas))
      have HOk' := Lib.hid (ok'.drop l[j])
      have HF := Lib.hid hF
      have HLe := Lib.hid hle
      clear hns hall hhas hm hnd hS' ok' hF hle
      obtain ⟨x, hx⟩ : ∃ x, l[j] = x := ⟨_, rfl⟩
      rw [hx] at c0 HD HX HLn HOk'
      clear hx
      go_wp2_with (go_at_call 33; refine Hid.out ?_)
      refine Lib.hid ?_
      refine HD.out.mono ?_
      rintro e w3 ⟨⟨v, rfl⟩, h1, h2⟩
      go_wp2_with fail
      go_roundw
      case rel => exact ⟨j + 1, by omega, by go_num, _, h1, HOk'.out, HF.out.trans h2, by have := HLn.out; have := HLe.out; omega, HX.out⟩
      case measure => simp [intOf]; omega
    · have h0 : L'.length = 0 := by have := HL.out; omega
      have h0' := List.length_eq_zero_iff.1 h0
      subst h0'
      have HF := Lib.hid hF
      clear hall hF hle h0
      go_wp2_with fail
      go_ret
      exact ⟨A, cap, by rw [← HL.out]; rfl, hS', Below.refl _ _, (Fr.below HB.out).trans HF.out⟩
end
end Go.Proofs.Ythlaccicdbbeeaa
