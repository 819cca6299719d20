/- Rows of strings that came in. -/
import Derived.Test.YthlaccicdbbeeaaDa
import Derived.Deep.Slices
import Derived.Deep.Strs
import Derived.WideKeyArgs
namespace Go.Proofs.Ythlaccicdbbeeaa
open Go.ChangeShapes Go.WideShapes Go.RowKit Go.Deep
set_option linter.unusedVariables false
def SssAt (w : World) (p : Option Addr) (S : List (List ByteArray)) : Prop := S = [] ∨ ∃ b o, p = some ⟨b, o, none⟩ ∧ ∀ i (h : i < S.length), ∃ q c, w.cell? ⟨b, o + i, none⟩ = some (.slice q S[i].length c) ∧ SsAt w q S[i]
theorem add_pl (b o i : Nat) : (⟨b, o, none⟩ : Addr).add i = ⟨b, o + i, none⟩ := by
  unfold Addr.add; split <;> simp_all
theorem open_ss1 {H : Type} {enc : TypeId × Value → H} {W : World} {fuel : Nat} {v : Value} {x : DataW H × List MemPlace} (h : DataW.trod enc Try.prog W 0 (fun _ => true) true fuel 32 [v] = some x) :
    ∃ (l : List ByteArray) (q : Option Addr) (c : Nat), v = .slice q l.length c ∧ SsAt W q l ∧ l.length ≤ 9223372036854775807 ∧ ∀ x ∈ l, x.size ≤ maxLen := by
  have hml : maxLen = 9223372036854775807 := rfl
  rcases open_strs Try.underlying32 Try.underlying9 (by kernel_rfl) h with ⟨h0, -⟩ | ⟨a, len, cap, m, Sx, h0, hb, hl, hm, hmm, hx0, hx⟩
  · exact ⟨[], none, 0, by simpa using h0, .inl rfl, by simp, by simp⟩
  · simp only [if_true] at hmm
    refine ⟨(List.range len).map Sx, some a, cap, by simpa using h0, ?_, by simp; omega, fun x hx' => ?_⟩
    · by_cases h00 : len = 0
      · left; simp [h00]
      · right
        obtain ⟨b, o, spot⟩ := a
        have hspot : spot = none := by
          have h1 := (hx 0 (by omega)).1
          simpa [Addr.add] using World.cell?_spot h1
        subst hspot
        refine ⟨b, o, rfl, fun j hj => ?_⟩
        have hj' : j < len := by simpa using hj
        have h1 := (hx j (by omega)).1
        rw [add_pl] at h1
        simpa using h1
    · obtain ⟨i, hi, rfl⟩ := List.mem_map.1 hx'
      have h1 : i < len := by simpa using hi
      exact (hx i (by omega)).2
set_option maxRecDepth 100000 in
theorem open_ss2 {H : Type} {enc : TypeId × Value → H} {W : World} {a0 : Option Addr} {len cap : Nat} {d0 : DataW H} {p : List MemPlace} (h0 : DataW.Trod enc Try.prog W 0 (fun _ => true) true 38 (.slice a0 len cap) d0 p) :
    ∃ S : List (List ByteArray), len = S.length ∧ SssAt W a0 S ∧ S.length ≤ 9223372036854775807 ∧ (∀ l ∈ S, l.length ≤ 9223372036854775807) ∧ ∀ l ∈ S, ∀ x ∈ l, x.size ≤ maxLen := by
  obtain ⟨fuel, hf⟩ := h0
  have hml : maxLen = 9223372036854775807 := rfl
  rcases open_slice1 Try.underlying38 (by kernel_rfl) hf with ⟨h0, -⟩ | ⟨a, len', cap', m, n, V, D, Pl, h0, hb, hl, hm, hmm, hx0, hx⟩
  · simp [Value.cells] at h0
    exact ⟨[], h0.2.1, .inl rfl, by simp, by simp, by simp⟩
  · simp [Value.cells] at h0
    obtain ⟨rfl, rfl, rfl⟩ := h0
    simp only [if_true] at hmm
    obtain ⟨f, hf⟩ := choose_lt (α := List ByteArray) (n := len) (p := fun i l => ∃ q c, W.cell? (a.add i) = some (.slice q l.length c) ∧ SsAt W q l ∧ l.length ≤ 9223372036854775807 ∧ ∀ x ∈ l, x.size ≤ maxLen) (fun i hi => by
      obtain ⟨h1, h2⟩ := hx i (by omega)
      obtain ⟨l, q, c, hz, hok, hd⟩ := open_ss1 h2
      exact ⟨l, q, c, by rw [h1, hz], hok, hd⟩)
    refine ⟨(List.range len).map f, by simp, ?_, by simp; omega, fun x hx => ?_, fun x hx => ?_⟩
    · by_cases h00 : len = 0
      · left; simp [h00]
      · right
        obtain ⟨b, o, spot⟩ := a
        have hspot : spot = none := by
          obtain ⟨q, c, h1, -⟩ := hf 0 (by omega)
          simpa [Addr.add] using World.cell?_spot h1
        subst hspot
        refine ⟨b, o, rfl, fun j hj => ?_⟩
        have hj' : j < len := by simpa using hj
        obtain ⟨q, c, h1, h2, -⟩ := hf j hj'
        rw [add_pl] at h1
        exact ⟨q, c, by simpa using h1, by simpa using h2⟩
    · obtain ⟨i, hi, rfl⟩ := List.mem_map.1 hx
      obtain ⟨q, c, -, -, h3, -⟩ := hf i (by simpa using hi)
      exact h3
    · obtain ⟨i, hi, rfl⟩ := List.mem_map.1 hx
      obtain ⟨q, c, -, -, -, h3⟩ := hf i (by simpa using hi)
      exact h3
end Go.Proofs.Ythlaccicdbbeeaa
