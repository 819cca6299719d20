/- Lines that came in, in memory. -/
import Derived.Test.YthcgjbpiiodlgaaDoorAa
import Derived.Deep.Slices
import Derived.WideKeyArgs
namespace Go.Proofs.YthcgjbpiiodlgaaDoor
open Go.RowKit Go.Deep

theorem Tryd.cellsLine : Tryd.prog.cellsOf 39 = 2 := by kernel_rfl
theorem Tryd.cellsI : Tryd.prog.cellsOf 3 = 1 := by kernel_rfl
theorem Tryd.cellsS : Tryd.prog.cellsOf 9 = 1 := by kernel_rfl
theorem Tryd.cellsL : Tryd.prog.cellsOf 37 = 1 := by kernel_rfl
theorem Tryd.laidOut : laidOutB Tryd.prog = true := by kernel_rfl

def RgL (L : List Ln) : Prop := ∀ l ∈ L, ∀ x ∈ l.2, I64 x
theorem i64_of_wf {n : Int} (h : (Lit.int .i64 n).wf = true) : I64 n := by
  simp [Lit.wf, IntKind.min, IntKind.max, IntKind.signed, IntKind.bits] at h
  exact ⟨by omega, by omega⟩
section
variable {H : Type} {enc : TypeId × Value → H}
theorem add_pl (b o i : Nat) : (⟨b, o, none⟩ : Addr).add i = ⟨b, o + i, none⟩ := by
  unfold Addr.add; split <;> simp_all

theorem open_ints {W : World} {sp : Nat → Bool} {fuel : Nat} {v : Value} {x : DataW H × List MemPlace} (h : DataW.trod enc Tryd.prog W 0 sp true fuel 37 [v] = some x) :
    ∃ fa zs fc, v = .slice fa zs.length fc ∧ zs.length ≤ fc ∧ fc ≤ maxLen ∧ IntsAt W fa zs ∧ ∀ x ∈ zs, I64 x := by
  rcases open_slice1 Tryd.underlying37 Tryd.cellsI h with ⟨h0, -⟩ | ⟨a, len, cap, m, n, V, D, Pl, h0, hb, hl, hm, hmm, -, hx⟩
  · exact ⟨none, [], 0, by simpa using h0, by simp, by simp, .inl rfl, by simp⟩
  · have hlm : len ≤ m := by rw [hmm]; split <;> omega
    obtain ⟨f, hf⟩ := choose_lt (α := Int) (n := len) (p := fun i z => W.cell? (a.add i) = some (.int .i64 z) ∧ I64 z) (fun i hi => by
      obtain ⟨h1, h2⟩ := hx i (by omega)
      obtain ⟨z, hz, -, hw⟩ := DataW.trod_int Tryd.underlying3 h2
      simp at hz
      exact ⟨z, by rw [h1, hz], i64_of_wf hw⟩)
    refine ⟨some a, (List.range len).map f, cap, by simpa using h0, by simpa using hl, hm, ?_, fun x hx => by
      obtain ⟨i, hi, rfl⟩ := List.mem_map.1 hx
      exact (hf i (by simpa using hi)).2⟩
    by_cases h00 : len = 0
    · left; simp [h00]
    · right
      obtain ⟨b, o, spot⟩ := a
      have hspot : spot = none := by simpa [Addr.add] using World.cell?_spot (hf 0 (by omega)).1
      subst hspot
      refine ⟨b, o, rfl, fun j hj => ?_⟩
      have hj' : j < len := by simpa using hj
      have := (hf j hj').1
      rw [add_pl] at this
      simpa using this

set_option maxRecDepth 100000 in
theorem open_lines {W : World} {sp : Nat → Bool} {fuel : Nat} {v : Value} {x : DataW H × List MemPlace} (h : DataW.trod enc Tryd.prog W 0 sp true fuel 22 [v] = some x) :
    ∃ la L c, v = .slice la L.length c ∧ L.length ≤ c ∧ c ≤ maxLen ∧ LnsAt W la L ∧ RgL L := by
  rcases open_slice Tryd.underlying22 h with ⟨h0, -⟩ | ⟨a, len, cap, m, n, D, Pl, h0, hb, hl, hm, hmm, -, hx⟩
  · exact ⟨none, [], 0, by simpa using h0, by simp, by simp, .inl rfl, by simp [RgL]⟩
  · have hlm : len ≤ m := by rw [hmm]; split <;> omega
    obtain ⟨b, o, spot⟩ := a
    by_cases h00 : len = 0
    · subst h00
      exact ⟨_, [], cap, by simpa using h0, by simp, hm, .inl rfl, by simp [RgL]⟩
    have hspot : spot = none := by
      obtain ⟨cs', h1, h2⟩ := hx 0 (by omega)
      rw [Tryd.cellsLine] at h1
      obtain ⟨_, hlen, hcell⟩ := World.cells?_some h1
      have hc := hcell 0 (by omega)
      rw [List.getElem?_eq_getElem (by omega)] at hc
      simpa [Addr.add] using World.cell?_spot hc
    subst hspot
    have hml : maxLen = 9223372036854775807 := rfl
    haveI : Inhabited Ln := ⟨(ByteArray.empty, [])⟩
    obtain ⟨f, hf⟩ := choose_lt (α := Ln) (n := len) (p := fun i l => LnAt W b (o + i * 2) l ∧ ∀ x ∈ l.2, I64 x) (fun i hi => by
      obtain ⟨cs', h1, h2⟩ := hx i (by omega)
      rw [Tryd.cellsLine] at h1
      obtain ⟨_, hlen, hcell⟩ := World.cells?_some h1
      obtain ⟨xs, k, -, -, -, hxl, hfs⟩ := DataW.trod_struct Tryd.underlying39 h2
      match cs', hlen with
      | [v0, v1], _ =>
        have f0 : DataW.trod enc Tryd.prog W 0 sp true k 9 (([v0, v1].drop 0).take (Tryd.prog.cellsOf 9)) = xs[0]? := hfs 0 _ rfl
        have f1 : DataW.trod enc Tryd.prog W 0 sp true k 37 (([v0, v1].drop 1).take (Tryd.prog.cellsOf 37)) = xs[1]? := hfs 1 _ rfl
        simp only [Tryd.cellsL, Tryd.cellsS, List.drop, List.take] at f0 f1
        have hxl2 : xs.length = 2 := hxl
        rw [List.getElem?_eq_getElem (by omega)] at f0 f1
        obtain ⟨s, e0, -, hs⟩ := DataW.trod_string Tryd.underlying9 f0
        obtain ⟨fa, zs, fc, e1, hzl, hzm, hI, hR⟩ := open_ints f1
        simp only [List.cons.injEq, and_true] at e0
        subst e0 e1
        have c0 := hcell 0 (by omega)
        have c1 := hcell 1 (by omega)
        simp only [add_pl] at c0 c1
        exact ⟨(s, zs), ⟨by simpa using c0, ⟨fa, fc, by simpa using c1, hI, hzl, by simpa [hml] using hzm⟩, by simpa [hml] using hs⟩, hR⟩)
    refine ⟨_, (List.range len).map f, cap, by simpa using h0, by simpa using hl, hm, .inr ⟨b, o, rfl, fun i hi => ?_⟩, fun l hl => ?_⟩
    · have hi' : i < len := by simpa using hi
      simpa using (hf i hi').1
    · obtain ⟨i, hi, rfl⟩ := List.mem_map.1 hl
      exact (hf i (by simpa using hi)).2
end
end Go.Proofs.YthcgjbpiiodlgaaDoor
