/- Strings that came in. -/
import Derived.Test.YtckjcjoheeobgaaDoorFb
import Derived.Test.YtckjcjoheeobgaaDoorTd
import Derived.Deep.Strs
namespace Go.Proofs.YtckjcjoheeobgaaDoor
open Go.ChangeShapes Go.WideShapes Go.RowKit Go.Deep
set_option linter.unusedVariables false

/-- Strings behind a slice. -/
def SsAt (w : World) (p : Option Addr) (l : List ByteArray) : Prop :=
  l = [] ∨ ∃ b o, p = some ⟨b, o, none⟩ ∧ ∀ i (h : i < l.length), w.cell? ⟨b, o + i, none⟩ = some (.string l[i])
theorem SsAt.at {w : World} {p : Option Addr} {l : List ByteArray} (h : SsAt w p l) {i : Nat} (hi : i < l.length) : ∃ b o, p = some ⟨b, o, none⟩ ∧ b < w.heap.size ∧ ∀ i (h : i < l.length), w.cell? ⟨b, o + i, none⟩ = some (.string l[i]) := by
  rcases h with h | ⟨b, o, h1, h2⟩
  · subst h; simp at hi
  · exact ⟨b, o, h1, cell_lt (h2 i hi), h2⟩
theorem add_pl' (b o i : Nat) : (⟨b, o, none⟩ : Addr).add i = ⟨b, o + i, none⟩ := by
  unfold Addr.add; split <;> simp_all
set_option maxRecDepth 100000 in
theorem open_sss {H : Type} {enc : TypeId × Value → H} {W : World} {a0 : Option Addr} {len cap : Nat} {d0 : DataW H} {p : List MemPlace} (h0 : DataW.Trod enc Tryd.prog W 0 (fun _ => true) true 22 (.slice a0 len cap) d0 p) :
    ∃ l : List ByteArray, len = l.length ∧ SsAt W a0 l ∧ l.length ≤ 9223372036854775807 ∧ ∀ x ∈ l, x.size ≤ maxLen := by
  obtain ⟨fuel, hf⟩ := h0
  have hml : maxLen = 9223372036854775807 := rfl
  rcases open_strs Tryd.underlying22 Tryd.underlying9 (by kernel_rfl) hf with ⟨h0, -⟩ | ⟨a, len', cap', m, Sx, h0, hb, hl, hm, hmm, hx0, hx⟩
  · simp [Value.cells] at h0
    exact ⟨[], h0.2.1, .inl rfl, by simp, by simp⟩
  · simp [Value.cells] at h0
    obtain ⟨rfl, rfl, rfl⟩ := h0
    simp only [if_true] at hmm
    refine ⟨(List.range len).map Sx, by simp, ?_, by simp; omega, fun x hx' => ?_⟩
    · by_cases h00 : len = 0
      · left; simp [h00]
      · right
        obtain ⟨b, o, spot⟩ := a
        have hspot : spot = none := by
          have h1 := (hx 0 (by omega)).1
          simpa [Addr.add] using World.cell?_spot h1
        subst hspot
        refine ⟨b, o, rfl, fun j hj => ?_⟩
        have hj' : j < len := by simpa using hj
        have h1 := (hx j (by omega)).1
        rw [add_pl'] at h1
        simpa using h1
    · obtain ⟨i, hi, rfl⟩ := List.mem_map.1 hx'
      have h1 : i < len := by simpa using hi
      exact (hx i (by omega)).2
theorem str_eq {a b : ByteArray} (h : a.data.toList = b.data.toList) : (a.toList == b.toList) = true := by
  rw [Lib.toList_data, Lib.toList_data, h]; simp
theorem str_ne {a b : ByteArray} (h : a.data.toList ≠ b.data.toList) : (a.toList == b.toList) = false := by
  rw [Lib.toList_data, Lib.toList_data]; simpa using h
end Go.Proofs.YtckjcjoheeobgaaDoor
