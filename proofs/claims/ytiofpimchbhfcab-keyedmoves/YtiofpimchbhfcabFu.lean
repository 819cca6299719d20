/- Records and states that came in. -/
import Derived.Test.YtiofpimchbhfcabFt
import Derived.Deep.Slices
import Derived.WideKeyArgs
namespace Go.Proofs.Ytiofpimchbhfcab
open Go.ChangeShapes Go.WideShapes Go.RowKit Go.Deep

theorem cellsI : Try.prog.cellsOf 3 = 1 := by kernel_rfl
theorem cellsS : Try.prog.cellsOf 9 = 1 := by kernel_rfl
theorem cellsHd : Try.prog.cellsOf 29 = 4 := by kernel_rfl
theorem add_at (b o i : Nat) : (⟨b, o, none⟩ : Addr).add i = ⟨b, o + i, none⟩ := by
  unfold Addr.add; split <;> simp_all
theorem i64_wf {n : Int} (h : (Lit.int .i64 n).wf = true) : I64 n := by
  simp [Lit.wf, IntKind.min, IntKind.max, IntKind.signed, IntKind.bits] at h
  exact ⟨by omega, by omega⟩
theorem key_ok {s : ByteArray} (h : s.size ≤ maxLen) : s.size < 9223372036854775808 := by
  have hml : maxLen = 9223372036854775807 := rfl
  omega
theorem rcs_of {W : World} {b o : Nat} : ∀ {L : List Rc}, (∀ i (hi : i < L.length), W.cell? ⟨b, o + i * 3, none⟩ = some (.string L[i].key) ∧ W.cell? ⟨b, o + i * 3 + 1, none⟩ = some (.int .i64 L[i].num) ∧ W.cell? ⟨b, o + i * 3 + 2, none⟩ = some (.int .i64 L[i].time)) → CsAt W (some ⟨b, o, none⟩) (rcells L) := by
  intro L h
  refine .inr ⟨b, o, rfl, fun j u hu => ?_⟩
  have hj : j < L.length * 3 := by rw [← rcells_len]; exact (List.getElem?_eq_some_iff.1 hu).1
  have hi : j / 3 < L.length := by omega
  obtain ⟨g0, g1, g2⟩ := rcells_at L (j / 3) hi
  obtain ⟨k0, k1, k2⟩ := h (j / 3) hi
  have hm : j = j / 3 * 3 ∨ j = j / 3 * 3 + 1 ∨ j = j / 3 * 3 + 2 := by omega
  rcases hm with e | e | e
  · rw [e, g0] at hu; rw [e]; rw [← hu]; exact k0
  · rw [e, g1] at hu; rw [e]; rw [← Nat.add_assoc]; rw [← hu]; exact k1
  · rw [e, g2] at hu; rw [e]; rw [← Nat.add_assoc]; rw [← hu]; exact k2
theorem hds_of {W : World} {b o : Nat} : ∀ {L : List Hd}, (∀ i (hi : i < L.length), W.cell? ⟨b, o + i * 4, none⟩ = some (.int .i64 L[i].nd) ∧ W.cell? ⟨b, o + i * 4 + 1, none⟩ = some (.string L[i].key) ∧ W.cell? ⟨b, o + i * 4 + 2, none⟩ = some (.int .i64 L[i].a) ∧ W.cell? ⟨b, o + i * 4 + 3, none⟩ = some (.int .i64 L[i].b)) → CsAt W (some ⟨b, o, none⟩) (hcells L) := by
  intro L h
  refine .inr ⟨b, o, rfl, fun j u hu => ?_⟩
  have hj : j < L.length * 4 := by rw [← hcells_len]; exact (List.getElem?_eq_some_iff.1 hu).1
  have hi : j / 4 < L.length := by omega
  obtain ⟨g0, g1, g2, g3⟩ := hcells_at L (j / 4) hi
  obtain ⟨k0, k1, k2, k3⟩ := h (j / 4) hi
  have hm : j = j / 4 * 4 ∨ j = j / 4 * 4 + 1 ∨ j = j / 4 * 4 + 2 ∨ j = j / 4 * 4 + 3 := by omega
  rcases hm with e | e | e | e
  · rw [e, g0] at hu; rw [e]; rw [← hu]; exact k0
  · rw [e, g1] at hu; rw [e]; rw [← Nat.add_assoc]; rw [← hu]; exact k1
  · rw [e, g2] at hu; rw [e]; rw [← Nat.add_assoc]; rw [← hu]; exact k2
  · rw [e, g3] at hu; rw [e]; rw [← Nat.add_assoc]; rw [← hu]; exact k3

set_option maxRecDepth 100000 in
theorem open_hds {H : Type} {enc : TypeId × Value → H} {W : World} {a0 : Option Addr} {len cap : Nat} {d0 : DataW H} {p : List MemPlace} (h0 : DataW.Trod enc Try.prog W 0 (fun _ => true) true 22 (.slice a0 len cap) d0 p) :
    ∃ L : List Hd, len = L.length ∧ CsAt W a0 (hcells L) ∧ (∀ r ∈ L, OkHd r) ∧ len ≤ 9223372036854775807 := by
  obtain ⟨fuel, hf⟩ := h0
  have hml : maxLen = 9223372036854775807 := rfl
  rcases open_slice Try.underlying22 hf with ⟨h0, -⟩ | ⟨a, len', cap', m, n, D, Pl, h0, hb, hl, hm, hmm, -, hx⟩
  · simp [Value.cells] at h0
    exact ⟨[], h0.2.1, .inl rfl, by simp, by omega⟩
  · simp [Value.cells] at h0
    obtain ⟨rfl, rfl, rfl⟩ := h0
    have hlm : len ≤ m := by rw [hmm]; split <;> omega
    obtain ⟨b, o, spot⟩ := a
    by_cases h00 : len = 0
    · subst h00
      exact ⟨[], rfl, .inl rfl, by simp, by omega⟩
    have hspot : spot = none := by
      obtain ⟨cs', h1, h2⟩ := hx 0 (by omega)
      rw [cellsHd] at h1
      obtain ⟨_, hlen, hcell⟩ := World.cells?_some h1
      have hc := hcell 0 (by omega)
      rw [List.getElem?_eq_getElem (by omega)] at hc
      simpa [Addr.add] using World.cell?_spot hc
    subst hspot
    haveI : Inhabited Hd := ⟨⟨0, ⟨#[]⟩, 0, 0⟩⟩
    obtain ⟨f, hf⟩ := choose_lt (α := Hd) (n := len) (p := fun i r => (W.cell? ⟨b, o + i * 4, none⟩ = some (.int .i64 r.nd) ∧ W.cell? ⟨b, o + i * 4 + 1, none⟩ = some (.string r.key) ∧ W.cell? ⟨b, o + i * 4 + 2, none⟩ = some (.int .i64 r.a) ∧ W.cell? ⟨b, o + i * 4 + 3, none⟩ = some (.int .i64 r.b)) ∧ OkHd r) (fun i hi => by
      obtain ⟨cs', h1, h2⟩ := hx i (by omega)
      rw [cellsHd] at h1
      obtain ⟨_, hlen, hcell⟩ := World.cells?_some h1
      obtain ⟨xs, k, -, -, -, hxl, hfs⟩ := DataW.trod_struct Try.underlying29 h2
      match cs', hlen with
      | [v0, v1, v2, v3], _ =>
        have f0 : DataW.trod enc Try.prog W 0 (fun _ => true) true k 3 (([v0, v1, v2, v3].drop 0).take (Try.prog.cellsOf 3)) = xs[0]? := hfs 0 _ rfl
        have f1 : DataW.trod enc Try.prog W 0 (fun _ => true) true k 9 (([v0, v1, v2, v3].drop 1).take (Try.prog.cellsOf 9)) = xs[1]? := hfs 1 _ rfl
        have f2 : DataW.trod enc Try.prog W 0 (fun _ => true) true k 3 (([v0, v1, v2, v3].drop 2).take (Try.prog.cellsOf 3)) = xs[2]? := hfs 2 _ rfl
        have f3 : DataW.trod enc Try.prog W 0 (fun _ => true) true k 3 (([v0, v1, v2, v3].drop 3).take (Try.prog.cellsOf 3)) = xs[3]? := hfs 3 _ rfl
        simp only [cellsI, cellsS, List.drop, List.take] at f0 f1 f2 f3
        have hxl3 : xs.length = 4 := hxl
        rw [List.getElem?_eq_getElem (by omega)] at f0 f1 f2 f3
        obtain ⟨x0, e0, -, w0⟩ := DataW.trod_int Try.underlying3 f0
        obtain ⟨x1, e1, -, w1⟩ := DataW.trod_string Try.underlying9 f1
        obtain ⟨x2, e2, -, w2⟩ := DataW.trod_int Try.underlying3 f2
        obtain ⟨x3, e3, -, w3⟩ := DataW.trod_int Try.underlying3 f3
        simp only [List.cons.injEq, and_true] at e0 e1 e2 e3
        subst e0 e1 e2 e3
        have c0 := hcell 0 (by omega)
        have c1 := hcell 1 (by omega)
        have c2 := hcell 2 (by omega)
        have c3 := hcell 3 (by omega)
        simp only [add_at] at c0 c1 c2 c3
        exact ⟨⟨x0, x1, x2, x3⟩, ⟨by simpa using c0, by simpa using c1, by simpa using c2, by simpa using c3⟩, i64_wf w0, key_ok w1, i64_wf w2, i64_wf w3⟩)
    refine ⟨(List.range len).map f, by simp, ?_, fun r hr => ?_, by omega⟩
    · refine hds_of (fun i hi => ?_)
      have hi' : i < len := by simpa using hi
      simpa using (hf i hi').1
    · obtain ⟨i, hi, rfl⟩ := List.mem_map.1 hr
      exact (hf i (by simpa using hi)).2
end Go.Proofs.Ytiofpimchbhfcab
