import Derived.Test.YthadeccnibnioaaGreatDoorJz1
import Derived.Test.YthadeccnibnioaaGreatDoorKl
import Derived.Deep.Slices
import Derived.WideKeyArgs
import Derived.DataShut
import Derived.Laws.Cover1
import Derived.Sort.Walk0
/- weirsame.Ints at two lists that are the same. -/
namespace Go.Proofs.YthadeccnibnioaaGreatDoor
open Go.RowKit

set_option maxHeartbeats 1000000 in
theorem ints_same {w : World} {la lb : Option Addr} {z : List Int} (ha : IntsAt w la z) (hb : IntsAt w lb z) (ca cb : Nat) (hz : z.length ≤ 9223372036854775807) :
    Calls Tryz.prog 23 #[.slice la z.length ca, .slice lb z.length cb] w fun e w' => e = .returned (.bool true) ∧ ∃ n, w' = w.drewN n := by
  go_enter Tryz.func23, Tryz.ntmps23
  go_wp2_with fail
  go_loopw [5] (fun i wr => ∃ j : Nat, j ≤ z.length ∧ i = .int .i64 j ∧ ∃ n, wr = w.drewN n) (fun i _ => z.length - (intOf i).toNat)
  case atStart => exact ⟨0, by omega, rfl, 0, rfl⟩
  case round =>
    obtain ⟨j, hj, rfl, n, rfl⟩ := hrel
    by_cases hlt : j < z.length
    · have hi : (j : Int) < z.length := by omega
      rcases ha with ha | ⟨b1, o1, rfl, ha⟩
      · subst ha; simp at hlt
      rcases hb with hb | ⟨b2, o2, rfl, hb⟩
      · subst hb; simp at hlt
      have c1 := ha j hlt
      have c2 := hb j hlt
      generalize z[j] = x at *
      clear ha hb
      go_wp2_with fail
      go_quiet (fail)
      go_wp2_with fail
      exact ⟨⟨j + 1, by omega, by go_num, n + nq, rfl⟩, by simp [intOf]; omega⟩
    · have hi : ¬ (j : Int) < z.length := by omega
      go_wp2
      go_ret
      exact ⟨rfl, n, rfl⟩
end Go.Proofs.YthadeccnibnioaaGreatDoor

/- Literals in memory; weirsame.Lines of two that are the same. -/
namespace Go.Proofs.YthadeccnibnioaaGreatDoor
open Go.RowKit
set_option linter.unusedVariables false

/-- A node and where its numbers lie. -/
abbrev Ny := Nd × Option Addr × Nat
def NyOk (w : World) (x : Ny) : Prop := IntsAt w x.2.1 x.1.fs ∧ x.1.tx.size ≤ 9223372036854775807 ∧ x.1.fs.length ≤ 9223372036854775807
theorem NyOk.keep {w w' : World} {x : Ny} (h : NyOk w x) (k : Keeps w w') : NyOk w' x := ⟨h.1.keep k, h.2⟩
set_option maxRecDepth 100000 in
set_option maxHeartbeats 2000000 in
theorem lines_same {w : World} {la lb : Option Addr} {L : List Ln} (ha : LnsAt w la L) (hb : LnsAt w lb L) (ca cb : Nat) (hl : L.length ≤ 9223372036854775807) :
    Calls Tryz.prog 63 #[.slice la L.length ca, .slice lb L.length cb] w fun e w' => e = .returned (.bool true) ∧ ∃ n, w' = w.drewN n := by
  go_enter Tryz.func63, Tryz.ntmps63
  go_wp2_with fail
  go_loopw [5] (fun i wr => ∃ j : Nat, j ≤ L.length ∧ i = .int .i64 j ∧ ∃ n, wr = w.drewN n) (fun i _ => L.length - (intOf i).toNat)
  case atStart => exact ⟨0, by omega, rfl, 0, rfl⟩
  case round =>
    obtain ⟨j, hj, rfl, n, rfl⟩ := hrel
    by_cases hlt : j < L.length
    · have hi : (j : Int) < L.length := by omega
      rcases ha with ha | ⟨b1, o1, rfl, ha⟩
      · subst ha; simp at hlt
      rcases hb with hb | ⟨b2, o2, rfl, hb⟩
      · subst hb; simp at hlt
      obtain ⟨c0, ⟨fa, fc, c1, c2, c3, c4⟩, c5⟩ := ha j hlt
      obtain ⟨d0, ⟨ga, gc, d1, d2, d3, d4⟩, d5⟩ := hb j hlt
      generalize L[j] = x at *
      obtain ⟨x1, x2⟩ := x
      simp only at *
      have k0 : (w.drewN n).cell? ⟨b1, o1 + j * 2, none⟩ = some (.string x1) := c0
      have k1 : (w.drewN n).cell? ⟨b1, o1 + j * 2 + 1, none⟩ = some (.slice fa x2.length fc) := c1
      have k2 : (w.drewN n).cell? ⟨b2, o2 + j * 2, none⟩ = some (.string x1) := d0
      have k3 : (w.drewN n).cell? ⟨b2, o2 + j * 2 + 1, none⟩ = some (.slice ga x2.length gc) := d1
      have i1 : IntsAt (w.drewN n) fa x2 := c2.keep (fun _ _ h => h)
      have i2 : IntsAt (w.drewN n) ga x2 := d2.keep (fun _ _ h => h)
      have HB : Hid (∀ m, ∃ n', (w.drewN n).drewN m = w.drewN n') := fun m => ⟨n + m, by simp⟩
      clear c0 c1 c2 d0 d1 d2 ha hb
      generalize w.drewN n = wq at *
      have HI : Hid (∀ m, Calls Tryz.prog 23 #[.slice fa x2.length fc, .slice ga x2.length gc] (wq.drewN m) fun e w' => e = .returned (.bool true) ∧ ∃ n, w' = (wq.drewN m).drewN n) := fun m => ints_same (w := wq.drewN m) (i1.keep (fun _ _ h => h)) (i2.keep (fun _ _ h => h)) fc gc (by omega)
      clear i1 i2
      go_wp2_with fail
      go_quiet ((go_at_call 23; exact Calls.quiet_of (HI.out _)))
      go_wp2_with fail
      go_quiet (fail)
      go_wp2_with fail
      exact ⟨⟨j + 1, by omega, by go_num, by simpa using HB.out _⟩, by simp [intOf]; omega⟩
    · have hi : ¬ (j : Int) < L.length := by omega
      go_wp2
      go_ret
      exact ⟨rfl, n, rfl⟩
end Go.Proofs.YthadeccnibnioaaGreatDoor

/- Records that came in, in memory. -/
namespace Go.Proofs.YthadeccnibnioaaGreatDoor
open Go.RowKit Go.Deep

theorem Tryz.cellsRec : Tryz.prog.cellsOf 164 = 3 := by kernel_rfl
theorem Tryz.cellsI : Tryz.prog.cellsOf 3 = 1 := by kernel_rfl
theorem Tryz.cellsS : Tryz.prog.cellsOf 9 = 1 := by kernel_rfl
theorem Tryz.laidOut : laidOutB Tryz.prog = true := by kernel_rfl

theorem rcs_of {w : World} {b o : Nat} {L : List Rc} (h : ∀ (i : Nat) (hi : i < L.length), w.cell? ⟨b, o + i * 3, none⟩ = some (.string L[i].key) ∧ w.cell? ⟨b, o + i * 3 + 1, none⟩ = some (.int .i64 L[i].num) ∧ w.cell? ⟨b, o + i * 3 + 2, none⟩ = some (.int .i64 L[i].time)) : RcsAt w (some ⟨b, o, none⟩) L := by
  refine .inr ⟨b, o, rfl, fun j u hu => ?_⟩
  have hj : j < L.length * 3 := by rw [← rcells_len]; exact (List.getElem?_eq_some_iff.1 hu).1
  have hi : j / 3 < L.length := by omega
  obtain ⟨e0, e1, e2⟩ := rcells_at L (j / 3) hi
  obtain ⟨c0, c1, c2⟩ := h (j / 3) hi
  have hm : j % 3 = 0 ∨ j % 3 = 1 ∨ j % 3 = 2 := by omega
  rcases hm with hm | hm | hm
  · have ej : j = j / 3 * 3 := by omega
    rw [ej, e0] at hu
    rw [ej]; rw [← hu]; exact c0
  · have ej : j = j / 3 * 3 + 1 := by omega
    rw [ej, e1] at hu
    rw [ej, ← Nat.add_assoc, ← hu]; exact c1
  · have ej : j = j / 3 * 3 + 2 := by omega
    rw [ej, e2] at hu
    rw [ej, ← Nat.add_assoc, ← hu]; exact c2

section
variable {H : Type} {enc : TypeId × Value → H}
theorem add_pl (b o i : Nat) : (⟨b, o, none⟩ : Addr).add i = ⟨b, o + i, none⟩ := by
  unfold Addr.add; split <;> simp_all

set_option maxRecDepth 100000 in
theorem open_recs {W : World} {sp : Nat → Bool} {fuel : Nat} {v : Value} {x : DataW H × List MemPlace} (h : DataW.trod enc Tryz.prog W 0 sp true fuel 112 [v] = some x) :
    ∃ la L c, v = .slice la L.length c ∧ L.length ≤ c ∧ c ≤ maxLen ∧ RcsAt W la L ∧ ∀ r ∈ L, r.key.size ≤ 9223372036854775807 ∧ Rng r.num := by
  rcases open_slice Tryz.underlying112 h with ⟨h0, -⟩ | ⟨a, len, cap, m, n, D, Pl, h0, hb, hl, hm, hmm, -, hx⟩
  · exact ⟨none, [], 0, by simpa using h0, by simp, by simp, .inl rfl, by simp⟩
  · have hlm : len ≤ m := by rw [hmm]; split <;> omega
    obtain ⟨b, o, spot⟩ := a
    by_cases h00 : len = 0
    · subst h00
      exact ⟨_, [], cap, by simpa using h0, by simp, hm, .inl rfl, by simp⟩
    have hspot : spot = none := by
      obtain ⟨cs', h1, h2⟩ := hx 0 (by omega)
      rw [Tryz.cellsRec] at h1
      obtain ⟨_, hlen, hcell⟩ := World.cells?_some h1
      have hc := hcell 0 (by omega)
      rw [List.getElem?_eq_getElem (by omega)] at hc
      simpa [Addr.add] using World.cell?_spot hc
    subst hspot
    have hml : maxLen = 9223372036854775807 := rfl
    haveI : Inhabited Rc := ⟨⟨ByteArray.empty, 0, 0⟩⟩
    obtain ⟨f, hf⟩ := choose_lt (α := Rc) (n := len) (p := fun i r => (W.cell? ⟨b, o + i * 3, none⟩ = some (.string r.key) ∧ W.cell? ⟨b, o + i * 3 + 1, none⟩ = some (.int .i64 r.num) ∧ W.cell? ⟨b, o + i * 3 + 2, none⟩ = some (.int .i64 r.time)) ∧ r.key.size ≤ 9223372036854775807 ∧ Rng r.num) (fun i hi => by
      obtain ⟨cs', h1, h2⟩ := hx i (by omega)
      rw [Tryz.cellsRec] at h1
      obtain ⟨_, hlen, hcell⟩ := World.cells?_some h1
      obtain ⟨xs, k, -, -, -, hxl, hfs⟩ := DataW.trod_struct Tryz.underlying164 h2
      match cs', hlen with
      | [v0, v1, v2], _ =>
        have f0 : DataW.trod enc Tryz.prog W 0 sp true k 9 (([v0, v1, v2].drop 0).take (Tryz.prog.cellsOf 9)) = xs[0]? := hfs 0 _ rfl
        have f1 : DataW.trod enc Tryz.prog W 0 sp true k 3 (([v0, v1, v2].drop 1).take (Tryz.prog.cellsOf 3)) = xs[1]? := hfs 1 _ rfl
        have f2 : DataW.trod enc Tryz.prog W 0 sp true k 3 (([v0, v1, v2].drop 2).take (Tryz.prog.cellsOf 3)) = xs[2]? := hfs 2 _ rfl
        simp only [Tryz.cellsI, Tryz.cellsS, List.drop, List.take] at f0 f1 f2
        have hxl3 : xs.length = 3 := hxl
        rw [List.getElem?_eq_getElem (by omega)] at f0 f1 f2
        obtain ⟨s, e0, -, hs⟩ := DataW.trod_string Tryz.underlying9 f0
        obtain ⟨n1, e1, -, hw1⟩ := DataW.trod_int Tryz.underlying3 f1
        obtain ⟨n2, e2, -, -⟩ := DataW.trod_int Tryz.underlying3 f2
        simp only [List.cons.injEq, and_true] at e0 e1 e2
        subst e0 e1 e2
        have c0 := hcell 0 (by omega)
        have c1 := hcell 1 (by omega)
        have c2 := hcell 2 (by omega)
        simp only [add_pl] at c0 c1 c2
        exact ⟨⟨s, n1, n2⟩, ⟨by simpa using c0, by simpa using c1, by simpa using c2⟩, by simpa [hml] using hs, by
          obtain ⟨q1, q2⟩ := (Lit.wf_int_iff .i64 n1).1 hw1
          have m1 : IntKind.i64.min = -9223372036854775808 := by decide
          have m2 : IntKind.i64.max = 9223372036854775807 := by decide
          rw [m1] at q1
          rw [m2] at q2
          exact ⟨q1, q2⟩⟩)
    refine ⟨_, (List.range len).map f, cap, by simpa using h0, by simpa using hl, hm, rcs_of (fun i hi => ?_), fun r hr => ?_⟩
    · have hi' : i < len := by simpa using hi
      simpa using (hf i hi').1
    · obtain ⟨i, hi, rfl⟩ := List.mem_map.1 hr
      exact (hf i (by simpa using hi)).2
end
end Go.Proofs.YthadeccnibnioaaGreatDoor

/- weirsame.Sinks of two that are the same. -/
namespace Go.Proofs.YthadeccnibnioaaGreatDoor
open Go.RowKit
set_option linter.unusedVariables false
set_option maxRecDepth 100000 in
set_option maxHeartbeats 4000000 in
theorem sinks_same {w : World} {la lb : Option Addr} {LL : List (List Ln)} (ha : SksAt w la LL) (hb : SksAt w lb LL) (ca cb : Nat) (hl : LL.length ≤ 9223372036854775807) (hll : ∀ l ∈ LL, l.length ≤ 9223372036854775807) :
    Calls Tryz.prog 29 #[.slice la LL.length ca, .slice lb LL.length cb] w fun e w' => e = .returned (.bool true) ∧ ∃ n, w' = w.drewN n := by
  go_enter Tryz.func29, Tryz.ntmps29
  go_wp2_with fail
  go_loopw [5] (fun i wr => ∃ j : Nat, j ≤ LL.length ∧ i = .int .i64 j ∧ ∃ n, wr = w.drewN n) (fun i _ => LL.length - (intOf i).toNat)
  case atStart => exact ⟨0, by omega, rfl, 0, rfl⟩
  case round =>
    obtain ⟨j, hj, rfl, n, rfl⟩ := hrel
    by_cases hlt : j < LL.length
    · have hi : (j : Int) < LL.length := by omega
      rcases ha with ha | ⟨b1, o1, rfl, ha⟩
      · subst ha; simp at hlt
      rcases hb with hb | ⟨b2, o2, rfl, hb⟩
      · subst hb; simp at hlt
      obtain ⟨fa, fc, c0, c1, c2⟩ := ha j hlt
      obtain ⟨ga, gc, d0, d1, d2⟩ := hb j hlt
      have hlj := hll LL[j] (List.getElem_mem hlt)
      generalize LL[j] = x at *
      have k0 : (w.drewN n).cell? ⟨b1, o1 + j, none⟩ = some (.slice fa x.length fc) := c0
      have k1 : (w.drewN n).cell? ⟨b2, o2 + j, none⟩ = some (.slice ga x.length gc) := d0
      have i1 : LnsAt (w.drewN n) fa x := c1.keep (fun _ _ h => h)
      have i2 : LnsAt (w.drewN n) ga x := d1.keep (fun _ _ h => h)
      have HB : Hid (∀ m, ∃ n', (w.drewN n).drewN m = w.drewN n') := fun m => ⟨n + m, by simp⟩
      clear c0 c1 d0 d1 ha hb hll
      generalize w.drewN n = wq at *
      have HI : Hid (∀ m, Calls Tryz.prog 63 #[.slice fa x.length fc, .slice ga x.length gc] (wq.drewN m) fun e w' => e = .returned (.bool true) ∧ ∃ n, w' = (wq.drewN m).drewN n) := fun m => lines_same (w := wq.drewN m) (i1.keep (fun _ _ h => h)) (i2.keep (fun _ _ h => h)) fc gc (by omega)
      clear i1 i2
      go_wp2_with fail
      go_quiet ((go_at_call 63; exact Calls.quiet_of (HI.out _)))
      go_wp2_with fail
      exact ⟨⟨j + 1, by omega, by go_num, by simpa using HB.out _⟩, by simp [intOf]; omega⟩
    · have hi : ¬ (j : Int) < LL.length := by omega
      go_wp2
      go_ret
      exact ⟨rfl, n, rfl⟩
end Go.Proofs.YthadeccnibnioaaGreatDoor

/- A job that came in: its nodes in memory. -/
namespace Go.Proofs.YthadeccnibnioaaGreatDoor
open Go.RowKit Go.Deep

theorem Tryz.cellsNode : Tryz.prog.cellsOf 52 = 4 := by kernel_rfl
theorem Tryz.cellsL : Tryz.prog.cellsOf 41 = 1 := by kernel_rfl
instance : Inhabited Nd := ⟨sink 0⟩

section
variable {H : Type} {enc : TypeId × Value → H}

theorem open_ints {W : World} {sp : Nat → Bool} {fuel : Nat} {v : Value} {x : DataW H × List MemPlace} (h : DataW.trod enc Tryz.prog W 0 sp true fuel 41 [v] = some x) :
    ∃ fa zs fc, v = .slice fa zs.length fc ∧ zs.length ≤ maxLen ∧ IntsAt W fa zs := by
  rcases open_slice1 Tryz.underlying41 Tryz.cellsI h with ⟨h0, -⟩ | ⟨a, len, cap, m, n, V, D, Pl, h0, hb, hl, hm, hmm, -, hx⟩
  · exact ⟨none, [], 0, by simpa using h0, by simp, .inl rfl⟩
  · have hlm : len ≤ m := by rw [hmm]; split <;> omega
    obtain ⟨f, hf⟩ := choose_lt (α := Int) (n := len) (p := fun i z => W.cell? (a.add i) = some (.int .i64 z)) (fun i hi => by
      obtain ⟨h1, h2⟩ := hx i (by omega)
      obtain ⟨z, hz, -⟩ := DataW.trod_int Tryz.underlying3 h2
      simp at hz
      exact ⟨z, by rw [h1, hz]⟩)
    refine ⟨some a, (List.range len).map f, cap, by simpa using h0, by simp; omega, ?_⟩
    by_cases h00 : len = 0
    · left; simp [h00]
    · right
      obtain ⟨b, o, spot⟩ := a
      have hspot : spot = none := by simpa [Addr.add] using World.cell?_spot (hf 0 (by omega))
      subst hspot
      refine ⟨b, o, rfl, fun j hj => ?_⟩
      have hj' : j < len := by simpa using hj
      have := hf j hj'
      rw [add_pl] at this
      simpa using this

set_option maxRecDepth 100000 in
theorem open_nodes {W : World} {sp : Nat → Bool} {fuel : Nat} {v : Value} {x : DataW H × List MemPlace} (h : DataW.trod enc Tryz.prog W 0 sp true fuel 38 [v] = some x) :
    ∃ la L c, v = .slice la L.length c ∧ L.length ≤ c ∧ c ≤ maxLen ∧ NdsAt W la L := by
  rcases open_slice Tryz.underlying38 h with ⟨h0, -⟩ | ⟨a, len, cap, m, n, D, Pl, h0, hb, hl, hm, hmm, -, hx⟩
  · exact ⟨none, [], 0, by simpa using h0, by simp, by simp, .inl rfl⟩
  · have hlm : len ≤ m := by rw [hmm]; split <;> omega
    obtain ⟨b, o, spot⟩ := a
    by_cases h00 : len = 0
    · subst h00
      exact ⟨_, [], cap, by simpa using h0, by simp, hm, .inl rfl⟩
    have hspot : spot = none := by
      obtain ⟨cs', h1, h2⟩ := hx 0 (by omega)
      rw [Tryz.cellsNode] at h1
      obtain ⟨_, hlen, hcell⟩ := World.cells?_some h1
      have hc := hcell 0 (by omega)
      rw [List.getElem?_eq_getElem (by omega)] at hc
      simpa [Addr.add] using World.cell?_spot hc
    subst hspot
    obtain ⟨f, hf⟩ := choose_lt (α := Nd) (n := len) (p := fun i nd => NdAt W b (o + i * 4) nd) (fun i hi => by
      obtain ⟨cs', h1, h2⟩ := hx i (by omega)
      rw [Tryz.cellsNode] at h1
      obtain ⟨_, hlen, hcell⟩ := World.cells?_some h1
      obtain ⟨xs, k, -, -, -, hxl, hfs⟩ := DataW.trod_struct Tryz.underlying52 h2
      match cs', hlen with
      | [v0, v1, v2, v3], _ =>
        have f0 : DataW.trod enc Tryz.prog W 0 sp true k 3 (([v0, v1, v2, v3].drop 0).take (Tryz.prog.cellsOf 3)) = xs[0]? := hfs 0 _ rfl
        have f1 : DataW.trod enc Tryz.prog W 0 sp true k 41 (([v0, v1, v2, v3].drop 1).take (Tryz.prog.cellsOf 41)) = xs[1]? := hfs 1 _ rfl
        have f2 : DataW.trod enc Tryz.prog W 0 sp true k 9 (([v0, v1, v2, v3].drop 2).take (Tryz.prog.cellsOf 9)) = xs[2]? := hfs 2 _ rfl
        have f3 : DataW.trod enc Tryz.prog W 0 sp true k 3 (([v0, v1, v2, v3].drop 3).take (Tryz.prog.cellsOf 3)) = xs[3]? := hfs 3 _ rfl
        simp only [Tryz.cellsI, Tryz.cellsL, Tryz.cellsS, List.drop, List.take] at f0 f1 f2 f3
        have hxl4 : xs.length = 4 := hxl
        rw [List.getElem?_eq_getElem (by omega)] at f0 f1 f2 f3
        obtain ⟨k0, e0, -, -⟩ := DataW.trod_int Tryz.underlying3 f0
        obtain ⟨fa, zs, fc, e1, hzm, hI⟩ := open_ints f1
        obtain ⟨s, e2, -, hs⟩ := DataW.trod_string Tryz.underlying9 f2
        obtain ⟨n0, e3, -, -⟩ := DataW.trod_int Tryz.underlying3 f3
        simp only [List.cons.injEq, and_true] at e0 e2 e3
        subst e0 e1 e2 e3
        have c0 := hcell 0 (by omega)
        have c1 := hcell 1 (by omega)
        have c2 := hcell 2 (by omega)
        have c3 := hcell 3 (by omega)
        simp only [add_pl] at c0 c1 c2 c3
        have hml : maxLen = 9223372036854775807 := rfl
        exact ⟨⟨k0, zs, s, n0⟩, by simpa using c0, ⟨fa, fc, by simpa using c1, hI⟩, by simpa using c2, by simpa using c3, by simpa [hml] using hs, by simpa [hml] using hzm⟩)
    refine ⟨_, (List.range len).map f, cap, by simpa using h0, by simpa using hl, hm, .inr ⟨b, o, rfl, fun i hi => ?_⟩⟩
    have hi' : i < len := by simpa using hi
    simpa using hf i hi'
end
end Go.Proofs.YthadeccnibnioaaGreatDoor

/- Data that came in. -/
namespace Go.Proofs.YthadeccnibnioaaGreatDoor
open Go.RowKit Go.Deep
set_option linter.unusedVariables false
section
variable {H : Type} {enc : TypeId × Value → H}
set_option maxRecDepth 100000 in
theorem open_rss {W : World} {a0 : Option Addr} {len cap : Nat} {d0 : DataW H} {p : List MemPlace} (h0 : DataW.Trod enc Tryz.prog W 0 (fun _ => true) true 61 (.slice a0 len cap) d0 p) :
    ∃ S : List (List Rc), len = S.length ∧ RssAt W a0 S ∧ S.length ≤ cap ∧ cap ≤ 9223372036854775807 ∧ (∀ l ∈ S, l.length ≤ 9223372036854775807) ∧ ∀ l ∈ S, ∀ r ∈ l, r.key.size ≤ 9223372036854775807 ∧ Rng r.num := by
  obtain ⟨fuel, hf⟩ := h0
  have hml : maxLen = 9223372036854775807 := rfl
  rcases open_slice1 Tryz.underlying61 (by kernel_rfl) hf with ⟨h0, -⟩ | ⟨a, len', cap', m, n, V, D, Pl, h0, hb, hl, hm, hmm, hx0, hx⟩
  · simp [Value.cells] at h0
    exact ⟨[], h0.2.1, .inl rfl, by simp, by omega, by simp, by simp⟩
  · simp [Value.cells] at h0
    obtain ⟨rfl, rfl, rfl⟩ := h0
    simp only [if_true] at hmm
    obtain ⟨f, hf⟩ := choose_lt (α := List Rc) (n := len) (p := fun i l => ∃ q c, W.cell? (a.add i) = some (.slice q l.length c) ∧ RcsAt W q l ∧ l.length ≤ c ∧ c ≤ 9223372036854775807 ∧ ∀ r ∈ l, r.key.size ≤ 9223372036854775807 ∧ Rng r.num) (fun i hi => by
      obtain ⟨h1, h2⟩ := hx i (by omega)
      obtain ⟨q, l, c, hz, h3, h4, h5, h6⟩ := open_recs h2
      exact ⟨l, q, c, by rw [h1, hz], h5, h3, by omega, h6⟩)
    refine ⟨(List.range len).map f, by simp, ?_, by simp; omega, by omega, fun x hx => ?_, fun x hx => ?_⟩
    · by_cases h00 : len = 0
      · left; simp [h00]
      · right
        obtain ⟨b, o, spot⟩ := a
        have hspot : spot = none := by
          obtain ⟨q, c, h1, -⟩ := hf 0 (by omega)
          simpa [Addr.add] using World.cell?_spot h1
        subst hspot
        refine ⟨b, o, rfl, fun j hj => ?_⟩
        have hj' : j < len := by simpa using hj
        obtain ⟨q, c, h1, h2, h3, -⟩ := hf j hj'
        rw [add_pl] at h1
        exact ⟨q, c, by simpa using h1, by simpa using h2, by simpa using h3⟩
    · obtain ⟨i, hi, rfl⟩ := List.mem_map.1 hx
      obtain ⟨q, c, -, -, h3, h4, -⟩ := hf i (by simpa using hi)
      omega
    · obtain ⟨i, hi, rfl⟩ := List.mem_map.1 hx
      obtain ⟨q, c, -, -, -, -, h3⟩ := hf i (by simpa using hi)
      exact h3
end
end Go.Proofs.YthadeccnibnioaaGreatDoor
