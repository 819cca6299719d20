/- A job that came in: its nodes in memory. -/
import Derived.Test.YthadeccnibnioaaGreatDoorJa
import Derived.Deep.Slices
import Derived.WideKeyArgs
namespace Go.Proofs.YthadeccnibnioaaGreatDoor
open Go.RowKit Go.Deep

theorem Tryz.cellsNode : Tryz.prog.cellsOf 52 = 4 := by kernel_rfl
theorem Tryz.cellsI : Tryz.prog.cellsOf 3 = 1 := by kernel_rfl
theorem Tryz.cellsS : Tryz.prog.cellsOf 9 = 1 := by kernel_rfl
theorem Tryz.cellsL : Tryz.prog.cellsOf 41 = 1 := by kernel_rfl
theorem Tryz.laidOut : laidOutB Tryz.prog = true := by kernel_rfl
instance : Inhabited Nd := ⟨sink 0⟩

section
variable {H : Type} {enc : TypeId × Value → H}
theorem add_pl (b o i : Nat) : (⟨b, o, none⟩ : Addr).add i = ⟨b, o + i, none⟩ := by
  unfold Addr.add; split <;> simp_all

theorem open_ints {W : World} {sp : Nat → Bool} {fuel : Nat} {v : Value} {x : DataW H × List MemPlace} (h : DataW.trod enc Tryz.prog W 0 sp true fuel 41 [v] = some x) :
    ∃ fa zs fc, v = .slice fa zs.length fc ∧ zs.length ≤ maxLen ∧ IntsAt W fa zs := by
  rcases open_slice1 Tryz.underlying41 Tryz.cellsI h with ⟨h0, -⟩ | ⟨a, len, cap, m, n, V, D, Pl, h0, hb, hl, hm, hmm, -, hx⟩
  · exact ⟨none, [], 0, by simpa using h0, by simp, .inl rfl⟩
  · have hlm : len ≤ m := by rw [hmm]; split <;> omega
    obtain ⟨f, hf⟩ := choose_lt (α := Int) (n := len) (p := fun i z => W.cell? (a.add i) = some (.int .i64 z)) (fun i hi => by
      obtain ⟨h1, h2⟩ := hx i (by omega)
      obtain ⟨z, hz, -⟩ := DataW.trod_int Tryz.underlying3 h2
      simp at hz
      exact ⟨z, by rw [h1, hz]⟩)
    refine ⟨some a, (List.range len).map f, cap, by simpa using h0, by simp; omega, ?_⟩
    by_cases h00 : len = 0
    · left; simp [h00]
    · right
      obtain ⟨b, o, spot⟩ := a
      have hspot : spot = none := by simpa [Addr.add] using World.cell?_spot (hf 0 (by omega))
      subst hspot
      refine ⟨b, o, rfl, fun j hj => ?_⟩
      have hj' : j < len := by simpa using hj
      have := hf j hj'
      rw [add_pl] at this
      simpa using this

set_option maxRecDepth 100000 in
theorem open_nodes {W : World} {sp : Nat → Bool} {fuel : Nat} {v : Value} {x : DataW H × List MemPlace} (h : DataW.trod enc Tryz.prog W 0 sp true fuel 38 [v] = some x) :
    ∃ la L c, v = .slice la L.length c ∧ L.length ≤ c ∧ c ≤ maxLen ∧ NdsAt W la L := by
  rcases open_slice Tryz.underlying38 h with ⟨h0, -⟩ | ⟨a, len, cap, m, n, D, Pl, h0, hb, hl, hm, hmm, -, hx⟩
  · exact ⟨none, [], 0, by simpa using h0, by simp, by simp, .inl rfl⟩
  · have hlm : len ≤ m := by rw [hmm]; split <;> omega
    obtain ⟨b, o, spot⟩ := a
    by_cases h00 : len = 0
    · subst h00
      exact ⟨_, [], cap, by simpa using h0, by simp, hm, .inl rfl⟩
    have hspot : spot = none := by
      obtain ⟨cs', h1, h2⟩ := hx 0 (by omega)
      rw [Tryz.cellsNode] at h1
      obtain ⟨_, hlen, hcell⟩ := World.cells?_some h1
      have hc := hcell 0 (by omega)
      rw [List.getElem?_eq_getElem (by omega)] at hc
      simpa [Addr.add] using World.cell?_spot hc
    subst hspot
    obtain ⟨f, hf⟩ := choose_lt (α := Nd) (n := len) (p := fun i nd => NdAt W b (o + i * 4) nd) (fun i hi => by
      obtain ⟨cs', h1, h2⟩ := hx i (by omega)
      rw [Tryz.cellsNode] at h1
      obtain ⟨_, hlen, hcell⟩ := World.cells?_some h1
      obtain ⟨xs, k, -, -, -, hxl, hfs⟩ := DataW.trod_struct Tryz.underlying52 h2
      match cs', hlen with
      | [v0, v1, v2, v3], _ =>
        have f0 : DataW.trod enc Tryz.prog W 0 sp true k 3 (([v0, v1, v2, v3].drop 0).take (Tryz.prog.cellsOf 3)) = xs[0]? := hfs 0 _ rfl
        have f1 : DataW.trod enc Tryz.prog W 0 sp true k 41 (([v0, v1, v2, v3].drop 1).take (Tryz.prog.cellsOf 41)) = xs[1]? := hfs 1 _ rfl
        have f2 : DataW.trod enc Tryz.prog W 0 sp true k 9 (([v0, v1, v2, v3].drop 2).take (Tryz.prog.cellsOf 9)) = xs[2]? := hfs 2 _ rfl
        have f3 : DataW.trod enc Tryz.prog W 0 sp true k 3 (([v0, v1, v2, v3].drop 3).take (Tryz.prog.cellsOf 3)) = xs[3]? := hfs 3 _ rfl
        simp only [Tryz.cellsI, Tryz.cellsL, Tryz.cellsS, List.drop, List.take] at f0 f1 f2 f3
        have hxl4 : xs.length = 4 := hxl
        rw [List.getElem?_eq_getElem (by omega)] at f0 f1 f2 f3
        obtain ⟨k0, e0, -, -⟩ := DataW.trod_int Tryz.underlying3 f0
        obtain ⟨fa, zs, fc, e1, hzm, hI⟩ := open_ints f1
        obtain ⟨s, e2, -, hs⟩ := DataW.trod_string Tryz.underlying9 f2
        obtain ⟨n0, e3, -, -⟩ := DataW.trod_int Tryz.underlying3 f3
        simp only [List.cons.injEq, and_true] at e0 e2 e3
        subst e0 e1 e2 e3
        have c0 := hcell 0 (by omega)
        have c1 := hcell 1 (by omega)
        have c2 := hcell 2 (by omega)
        have c3 := hcell 3 (by omega)
        simp only [add_pl] at c0 c1 c2 c3
        have hml : maxLen = 9223372036854775807 := rfl
        exact ⟨⟨k0, zs, s, n0⟩, by simpa using c0, ⟨fa, fc, by simpa using c1, hI⟩, by simpa using c2, by simpa using c3, by simpa [hml] using hs, by simpa [hml] using hzm⟩)
    refine ⟨_, (List.range len).map f, cap, by simpa using h0, by simpa using hl, hm, .inr ⟨b, o, rfl, fun i hi => ?_⟩⟩
    have hi' : i < len := by simpa using hi
    simpa using hf i hi'
end
end Go.Proofs.YthadeccnibnioaaGreatDoor
