/- A sink's calls, as a law sees them; numbers that came in. -/
import Derived.Test.YtaicaeokljdjdaaXd
import Derived.Test.YtaicaeokljdjdaaPureSt
import Derived.Deep.Slices
import Derived.WideKeyArgs
namespace Go.Proofs.Ytaicaeokljdjdaa
open Go.ChangeShapes Go.WideShapes Go.RowKit Go.Deep
set_option linter.unusedVariables false
def rN (k : Nat) : Rg := ⟨⟨#[]⟩, k, 0⟩
theorem rN_V (k : Nat) : rV (rN k) = .agg #[.string ⟨#[]⟩, .int .i64 (k : Nat), .int .i64 0] := rfl
/-- A sink above what there was at first. -/
def SkL (W w : World) (B : Nat) (s : Sk Rg) : Prop := Below W.heap.size W w ∧ ∃ F, SkAt w B F s ∧ ∀ k, F k → W.heap.size ≤ k
theorem SkL.of {W w w' : World} {B : Nat} {F : Nat → Prop} {s' : Sk Rg} (hb : Below W.heap.size W w) (hF : ∀ k, F k → W.heap.size ≤ k) (h : SkEnd F w B s' w') : SkL W w' B s' := by
  obtain ⟨F', h1, h2, h3⟩ := h
  refine ⟨hb.trans (h2.toBelow hF hb.size), F', h1, fun k hk => ?_⟩
  rcases h3 k hk with h | h
  · exact hF k h
  · have := hb.size; omega
section
variable {W w : World} {B : Nat} {s : Sk Rg}
theorem SkL.below (h : SkL W w B s) {w' : World} (hb : Below w.heap.size w w') : SkL W w' B s := by
  obtain ⟨h1, F, ⟨vw, vs, vo, tv, h2⟩, h3⟩ := h
  exact ⟨h1.trans (hb.mono h1.size), F, ⟨vw, vs, vo, tv, h2.keep hb⟩, h3⟩
theorem new_l (hb : Below W.heap.size W w) : Calls Try.prog 5 #[] w fun e w' => ∃ B, e = .returned (.pointer (some ⟨B, 0, none⟩)) ∧ SkL W w' B newS := by
  refine (new_any w).mono ?_
  rintro e w' ⟨B, rfl, h⟩
  exact ⟨B, rfl, SkL.of hb (fun k hk => hk.elim) h⟩
theorem add_l (h : SkL W w B s) (hl : s.op.length < 400) (k : Nat) : Calls Try.prog 6 #[.pointer (some ⟨B, 0, none⟩), .agg #[.string ⟨#[]⟩, .int .i64 (k : Nat), .int .i64 0]] w fun e w' => e = .returned .nilIface ∧ SkL W w' B (addS s (rN k)) := by
  obtain ⟨h1, F, h2, h3⟩ := h
  refine (add_any h2 hl (rN k) (by simp [rN, ByteArray.size])).mono ?_
  rintro e w' ⟨rfl, h⟩
  exact ⟨rfl, SkL.of h1 h3 h⟩
theorem seal_l (h : SkL W w B s) (hl : s.sl.length ≤ 1000000) (id : Int) (i1 : 1 ≤ id) (i2 : s.la < id) : Calls Try.prog 7 #[.pointer (some ⟨B, 0, none⟩), .int .i64 id] w fun e w' => e = .returned .nilIface ∧ SkL W w' B (sealS s id) := by
  obtain ⟨h1, F, h2, h3⟩ := h
  refine (seal_ok h2 hl id i1 i2).mono ?_
  rintro e w' ⟨rfl, h⟩
  exact ⟨rfl, SkL.of h1 h3 h⟩
theorem commit_l (h : SkL W w B s) (hl : totS s ≤ 1000000) (id : Int) (i1 : 1 ≤ id) : Calls Try.prog 8 #[.pointer (some ⟨B, 0, none⟩), .int .i64 id] w fun e w' => e = .returned (.tuple #[.int .i64 ((comm id s.sl).1.length : Nat), .nilIface]) ∧ SkL W w' B (commS s id) := by
  obtain ⟨h1, F, h2, h3⟩ := h
  refine (commit_ok h2 hl id i1).mono ?_
  rintro e w' ⟨rfl, h⟩
  exact ⟨rfl, SkL.of h1 h3 h⟩
theorem abort_l (h : SkL W w B s) (hl : totS s ≤ 1000000) : Calls Try.prog 9 #[.pointer (some ⟨B, 0, none⟩)] w fun e w' => e = .returned (.int .i64 ((s.op.length + many s.sl : Nat) : Nat)) ∧ SkL W w' B (abortS s) := by
  obtain ⟨h1, F, h2, h3⟩ := h
  refine (abort_any h2 hl).mono ?_
  rintro e w' ⟨rfl, h⟩
  exact ⟨rfl, SkL.of h1 h3 h⟩
theorem written_l (h : SkL W w B s) (hl : totS s ≤ 1000000) : Calls Try.prog 10 #[.pointer (some ⟨B, 0, none⟩)] w fun e w' => ∃ A c, e = .returned (.slice A s.wr.length c) ∧ CsAt w' A (rcells s.wr) ∧ Below W.heap.size W w' ∧ Below w.heap.size w w' := by
  obtain ⟨h1, F, h2, h3⟩ := h
  refine (written_any h2 hl).mono ?_
  rintro e w' ⟨A, c, rfl, a1, a2, a3⟩
  exact ⟨A, c, rfl, a1.cells, h1.trans (a3.mono h1.size), a3⟩
end
/-- Numbers, as they came in. -/
def IsAt (w : World) (p : Option Addr) (l : List Int) : Prop := l = [] ∨ ∃ b o, p = some ⟨b, o, none⟩ ∧ ∀ i (h : i < l.length), w.cell? ⟨b, o + i, none⟩ = some (.int .i64 l[i])
theorem open_isA {H : Type} {enc : TypeId × Value → H} {W : World} {a0 : Option Addr} {len cap : Nat} {d0 : DataW H} {p : List MemPlace} (h0 : DataW.Trod enc Try.prog W 0 (fun _ => true) true 22 (.slice a0 len cap) d0 p) :
    ∃ l : List Int, len = l.length ∧ IsAt W a0 l := by
  obtain ⟨fuel, hf⟩ := h0
  have hml : maxLen = 9223372036854775807 := rfl
  rcases open_ints Try.underlying22 Try.underlying3 (by kernel_rfl) hf with ⟨hcs, -⟩ | ⟨a, len', cap', zs, hcs, -, hl, hm, hz, -, hc, hwz⟩
  · simp [Value.cells] at hcs
    exact ⟨[], hcs.2.1, .inl rfl⟩
  · simp only [if_true] at hz
    simp [Value.cells] at hcs
    obtain ⟨rfl, rfl, rfl⟩ := hcs
    refine ⟨zs.take len, by rw [List.length_take]; omega, ?_⟩
    by_cases h00 : len = 0
    · left; simp [h00]
    · right
      obtain ⟨b, o, spot⟩ := a
      have hspot : spot = none := by simpa [Addr.add] using World.cell?_spot (hc 0 (by omega))
      subst hspot
      refine ⟨b, o, rfl, fun i hi => ?_⟩
      have hi' : i < len := by rw [List.length_take] at hi; omega
      have h1 := hc i (by omega)
      rw [add_off] at h1
      rw [h1]
      have hiz : i < zs.length := by omega
      simp [List.getD, hiz]
theorem IsAt.at {w : World} {p : Option Addr} {l : List Int} (h : IsAt w p l) {i : Nat} (hi : i < l.length) : ∃ b o, p = some ⟨b, o, none⟩ ∧ w.cell? ⟨b, o + i, none⟩ = some (.int .i64 l[i]) := by
  rcases h with rfl | ⟨b, o, rfl, hc⟩
  · simp at hi
  · exact ⟨b, o, rfl, hc i hi⟩
theorem IsAt.keep {w w' : World} {p : Option Addr} {l : List Int} (h : IsAt w p l) (hb : Below w.heap.size w w') : IsAt w' p l := by
  rcases h with rfl | ⟨b, o, rfl, hc⟩
  · exact .inl rfl
  · exact .inr ⟨b, o, rfl, fun i hi => by rw [hb.cell (p := ⟨b, o + i, none⟩) (cell_lt (hc i hi))]; exact hc i hi⟩
end Go.Proofs.Ytaicaeokljdjdaa
