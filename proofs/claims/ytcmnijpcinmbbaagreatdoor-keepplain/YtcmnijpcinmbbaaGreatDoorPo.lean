/- Numbers in rows that came in. -/
import Derived.Test.YtcmnijpcinmbbaaGreatDoorPk
import Derived.Deep.Slices
import Derived.WideKeyArgs
namespace Go.Proofs.YtcmnijpcinmbbaaGreatDoor
open Go.ChangeShapes Go.WideShapes Go.RowKit Go.Deep
set_option linter.unusedVariables false
/-- Numbers in rows, as they came in. -/
def IsAt (w : World) (p : Option Addr) (l : List Int) : Prop := l = [] ∨ ∃ b o, p = some ⟨b, o, none⟩ ∧ ∀ i (h : i < l.length), w.cell? ⟨b, o + i, none⟩ = some (.int .i64 l[i])
def IiAt (w : World) (p : Option Addr) (S : List (List Int)) : Prop := S = [] ∨ ∃ b o, p = some ⟨b, o, none⟩ ∧ ∀ i (h : i < S.length), ∃ q c, w.cell? ⟨b, o + i, none⟩ = some (.slice q S[i].length c) ∧ IsAt w q S[i]
theorem add_pl (b o i : Nat) : (⟨b, o, none⟩ : Addr).add i = ⟨b, o + i, none⟩ := by
  unfold Addr.add; split <;> simp_all
theorem open_is1 {H : Type} {enc : TypeId × Value → H} {W : World} {fuel : Nat} {v : Value} {x : DataW H × List MemPlace} (h : DataW.trod enc Tryz.prog W 0 (fun _ => true) true fuel 22 [v] = some x) :
    ∃ (l : List Int) (q : Option Addr) (c : Nat), v = .slice q l.length c ∧ IsAt W q l ∧ l.length ≤ 9223372036854775807 ∧ ∀ x ∈ l, I64 x := by
  have hml : maxLen = 9223372036854775807 := rfl
  rcases open_ints Tryz.underlying22 Tryz.underlying3 (by kernel_rfl) h with ⟨hcs, -⟩ | ⟨a, len, cap, zs, hcs, -, hl, hm, hz, -, hc, hwz⟩
  · exact ⟨[], none, 0, by simpa using hcs, .inl rfl, by simp, by simp⟩
  · simp only [if_true] at hz
    refine ⟨zs.take len, some a, cap, ?_, ?_, by rw [List.length_take]; omega, fun x hx => i64_of_wf (hwz x (List.mem_of_mem_take hx))⟩
    · have : (zs.take len).length = len := by rw [List.length_take]; omega
      rw [this]; simpa using hcs
    · by_cases h00 : len = 0
      · left; simp [h00]
      · right
        obtain ⟨b, o, spot⟩ := a
        have hspot : spot = none := by simpa [Addr.add] using World.cell?_spot (hc 0 (by omega))
        subst hspot
        refine ⟨b, o, rfl, fun i hi => ?_⟩
        have hi' : i < len := by rw [List.length_take] at hi; omega
        have h1 := hc i (by omega)
        rw [add_pl] at h1
        rw [h1]
        have hiz : i < zs.length := by omega
        simp [List.getD, hiz]

set_option maxRecDepth 100000 in
theorem open_iis {H : Type} {enc : TypeId × Value → H} {W : World} {a0 : Option Addr} {len cap : Nat} {d0 : DataW H} {p : List MemPlace} (h0 : DataW.Trod enc Tryz.prog W 0 (fun _ => true) true 36 (.slice a0 len cap) d0 p) :
    ∃ S : List (List Int), len = S.length ∧ IiAt W a0 S ∧ S.length ≤ 9223372036854775807 ∧ (∀ l ∈ S, l.length ≤ 9223372036854775807) ∧ ∀ l ∈ S, ∀ x ∈ l, I64 x := by
  obtain ⟨fuel, hf⟩ := h0
  have hml : maxLen = 9223372036854775807 := rfl
  rcases open_slice1 Tryz.underlying36 (by kernel_rfl) hf with ⟨h0, -⟩ | ⟨a, len', cap', m, n, V, D, Pl, h0, hb, hl, hm, hmm, hx0, hx⟩
  · simp [Value.cells] at h0
    exact ⟨[], h0.2.1, .inl rfl, by simp, by simp, by simp⟩
  · simp [Value.cells] at h0
    obtain ⟨rfl, rfl, rfl⟩ := h0
    simp only [if_true] at hmm
    obtain ⟨f, hf⟩ := choose_lt (α := List Int) (n := len) (p := fun i l => ∃ q c, W.cell? (a.add i) = some (.slice q l.length c) ∧ IsAt W q l ∧ l.length ≤ 9223372036854775807 ∧ ∀ x ∈ l, I64 x) (fun i hi => by
      obtain ⟨h1, h2⟩ := hx i (by omega)
      obtain ⟨l, q, c, hz, hok, hd, hw⟩ := open_is1 h2
      exact ⟨l, q, c, by rw [h1, hz], hok, hd, hw⟩)
    refine ⟨(List.range len).map f, by simp, ?_, by simp; omega, fun x hx => ?_, fun x hx => ?_⟩
    · by_cases h00 : len = 0
      · left; simp [h00]
      · right
        obtain ⟨b, o, spot⟩ := a
        have hspot : spot = none := by
          obtain ⟨q, c, h1, -⟩ := hf 0 (by omega)
          simpa [Addr.add] using World.cell?_spot h1
        subst hspot
        refine ⟨b, o, rfl, fun j hj => ?_⟩
        have hj' : j < len := by simpa using hj
        obtain ⟨q, c, h1, h2, -⟩ := hf j hj'
        rw [add_pl] at h1
        exact ⟨q, c, by simpa using h1, by simpa using h2⟩
    · obtain ⟨i, hi, rfl⟩ := List.mem_map.1 hx
      obtain ⟨q, c, -, -, h3, -⟩ := hf i (by simpa using hi)
      exact h3
    · obtain ⟨i, hi, rfl⟩ := List.mem_map.1 hx
      obtain ⟨q, c, -, -, -, h4⟩ := hf i (by simpa using hi)
      exact h4
theorem open_isA {H : Type} {enc : TypeId × Value → H} {W : World} {a0 : Option Addr} {len cap : Nat} {d0 : DataW H} {p : List MemPlace} (h0 : DataW.Trod enc Tryz.prog W 0 (fun _ => true) true 22 (.slice a0 len cap) d0 p) :
    ∃ l : List Int, len = l.length ∧ IsAt W a0 l := by
  obtain ⟨fuel, hf⟩ := h0
  have hml : maxLen = 9223372036854775807 := rfl
  rcases open_ints Tryz.underlying22 Tryz.underlying3 (by kernel_rfl) hf with ⟨hcs, -⟩ | ⟨a, len', cap', zs, hcs, -, hl, hm, hz, -, hc, hwz⟩
  · simp [Value.cells] at hcs
    exact ⟨[], hcs.2.1, .inl rfl⟩
  · simp only [if_true] at hz
    simp [Value.cells] at hcs
    obtain ⟨rfl, rfl, rfl⟩ := hcs
    refine ⟨zs.take len, by rw [List.length_take]; omega, ?_⟩
    by_cases h00 : len = 0
    · left; simp [h00]
    · right
      obtain ⟨b, o, spot⟩ := a
      have hspot : spot = none := by simpa [Addr.add] using World.cell?_spot (hc 0 (by omega))
      subst hspot
      refine ⟨b, o, rfl, fun i hi => ?_⟩
      have hi' : i < len := by rw [List.length_take] at hi; omega
      have h1 := hc i (by omega)
      rw [add_pl] at h1
      rw [h1]
      have hiz : i < zs.length := by omega
      simp [List.getD, hiz]
theorem IsAt.at {w : World} {p : Option Addr} {l : List Int} (h : IsAt w p l) {i : Nat} (hi : i < l.length) : ∃ b o, p = some ⟨b, o, none⟩ ∧ w.cell? ⟨b, o + i, none⟩ = some (.int .i64 l[i]) := by
  rcases h with rfl | ⟨b, o, rfl, hc⟩
  · simp at hi
  · exact ⟨b, o, rfl, hc i hi⟩
theorem IsAt.keep {w w' : World} {p : Option Addr} {l : List Int} (h : IsAt w p l) (hb : Below w.heap.size w w') : IsAt w' p l := by
  rcases h with rfl | ⟨b, o, rfl, hc⟩
  · exact .inl rfl
  · exact .inr ⟨b, o, rfl, fun i hi => by rw [hb.cell (p := ⟨b, o + i, none⟩) (block_lt_of_cell (hc i hi))]; exact hc i hi⟩
end Go.Proofs.YtcmnijpcinmbbaaGreatDoor
