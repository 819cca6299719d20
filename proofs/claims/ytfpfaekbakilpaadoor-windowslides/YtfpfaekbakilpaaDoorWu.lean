/- Records that came in. -/
import Derived.Test.YtfpfaekbakilpaaDoorWd
import Derived.Deep.Slices
import Derived.WideKeyArgs
namespace Go.Proofs.YtfpfaekbakilpaaDoor
open Go.ChangeShapes Go.WideShapes Go.RowKit Go.Deep
set_option linter.unusedVariables false

def OkRc (r : Rg) : Prop := r.key.size < 9223372036854775808 ∧ I64 r.num ∧ I64 r.tm
theorem cellsI : Tryd.prog.cellsOf 3 = 1 := by kernel_rfl
theorem cellsS : Tryd.prog.cellsOf 9 = 1 := by kernel_rfl
theorem cellsRc : Tryd.prog.cellsOf 47 = 3 := by kernel_rfl
theorem add_at (b o i : Nat) : (⟨b, o, none⟩ : Addr).add i = ⟨b, o + i, none⟩ := by
  unfold Addr.add; split <;> simp_all
theorem i64_wf {n : Int} (h : (Lit.int .i64 n).wf = true) : I64 n := by
  simp [Lit.wf, IntKind.min, IntKind.max, IntKind.signed, IntKind.bits] at h
  exact ⟨by omega, by omega⟩
theorem key_ok {s : ByteArray} (h : s.size ≤ maxLen) : s.size < 9223372036854775808 := by
  have hml : maxLen = 9223372036854775807 := rfl
  omega
set_option maxRecDepth 100000 in
theorem open_rcs {H : Type} {enc : TypeId × Value → H} {W : World} {a0 : Option Addr} {len cap : Nat} {d0 : DataW H} {p : List MemPlace} (h0 : DataW.Trod enc Tryd.prog W 0 (fun _ => true) true 22 (.slice a0 len cap) d0 p) :
    ∃ L : List Rg, len = L.length ∧ CsAt W a0 (rcells L) ∧ (∀ r ∈ L, OkRc r) ∧ len ≤ 9223372036854775807 := by
  obtain ⟨fuel, hf⟩ := h0
  have hml : maxLen = 9223372036854775807 := rfl
  rcases open_slice Tryd.underlying22 hf with ⟨h0, -⟩ | ⟨a, len', cap', m, n, D, Pl, h0, hb, hl, hm, hmm, -, hx⟩
  · simp [Value.cells] at h0
    exact ⟨[], h0.2.1, .inl rfl, by simp, by omega⟩
  · simp [Value.cells] at h0
    obtain ⟨rfl, rfl, rfl⟩ := h0
    have hlm : len ≤ m := by rw [hmm]; split <;> omega
    obtain ⟨b, o, spot⟩ := a
    by_cases h00 : len = 0
    · subst h00
      exact ⟨[], rfl, .inl rfl, by simp, by omega⟩
    have hspot : spot = none := by
      obtain ⟨cs', h1, h2⟩ := hx 0 (by omega)
      rw [cellsRc] at h1
      obtain ⟨_, hlen, hcell⟩ := World.cells?_some h1
      have hc := hcell 0 (by omega)
      rw [List.getElem?_eq_getElem (by omega)] at hc
      simpa [Addr.add] using World.cell?_spot hc
    subst hspot
    haveI : Inhabited Rg := ⟨⟨⟨#[]⟩, 0, 0⟩⟩
    obtain ⟨f, hf⟩ := choose_lt (α := Rg) (n := len) (p := fun i r => (W.cell? ⟨b, o + i * 3, none⟩ = some (.string r.key) ∧ W.cell? ⟨b, o + i * 3 + 1, none⟩ = some (.int .i64 r.num) ∧ W.cell? ⟨b, o + i * 3 + 2, none⟩ = some (.int .i64 r.tm)) ∧ OkRc r) (fun i hi => by
      obtain ⟨cs', h1, h2⟩ := hx i (by omega)
      rw [cellsRc] at h1
      obtain ⟨_, hlen, hcell⟩ := World.cells?_some h1
      obtain ⟨xs, k, -, -, -, hxl, hfs⟩ := DataW.trod_struct Tryd.underlying47 h2
      match cs', hlen with
      | [v0, v1, v2], _ =>
        have f0 : DataW.trod enc Tryd.prog W 0 (fun _ => true) true k 9 (([v0, v1, v2].drop 0).take (Tryd.prog.cellsOf 9)) = xs[0]? := hfs 0 _ rfl
        have f1 : DataW.trod enc Tryd.prog W 0 (fun _ => true) true k 3 (([v0, v1, v2].drop 1).take (Tryd.prog.cellsOf 3)) = xs[1]? := hfs 1 _ rfl
        have f2 : DataW.trod enc Tryd.prog W 0 (fun _ => true) true k 3 (([v0, v1, v2].drop 2).take (Tryd.prog.cellsOf 3)) = xs[2]? := hfs 2 _ rfl
        simp only [cellsI, cellsS, List.drop, List.take] at f0 f1 f2
        have hxl3 : xs.length = 3 := hxl
        rw [List.getElem?_eq_getElem (by omega)] at f0 f1 f2
        obtain ⟨x0, e0, -, w0⟩ := DataW.trod_string Tryd.underlying9 f0
        obtain ⟨x1, e1, -, w1⟩ := DataW.trod_int Tryd.underlying3 f1
        obtain ⟨x2, e2, -, w2⟩ := DataW.trod_int Tryd.underlying3 f2
        simp only [List.cons.injEq, and_true] at e0 e1 e2
        subst e0 e1 e2
        have c0 := hcell 0 (by omega)
        have c1 := hcell 1 (by omega)
        have c2 := hcell 2 (by omega)
        simp only [add_at] at c0 c1 c2
        exact ⟨⟨x0, x1, x2⟩, ⟨by simpa using c0, by simpa using c1, by simpa using c2⟩, key_ok w0, i64_wf w1, i64_wf w2⟩)
    refine ⟨(List.range len).map f, by simp, ?_, fun r hr => ?_, by omega⟩
    · refine rcs_of (fun i hi => ?_)
      have hi' : i < len := by simpa using hi
      simpa using (hf i hi').1
    · obtain ⟨i, hi, rfl⟩ := List.mem_map.1 hr
      exact (hf i (by simpa using hi)).2

end Go.Proofs.YtfpfaekbakilpaaDoor
