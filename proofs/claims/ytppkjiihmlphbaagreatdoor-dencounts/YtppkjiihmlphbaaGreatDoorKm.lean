import Derived.Test.YtppkjiihmlphbaaGreatDoorJa
import Derived.Test.YtppkjiihmlphbaaGreatDoorKl
import Derived.Deep.Slices
import Derived.WideKeyArgs
import Derived.DataShut
/- weirsame.Ints at two lists that are the same. -/
namespace Go.Proofs.YtppkjiihmlphbaaGreatDoor
open Go.RowKit

set_option maxHeartbeats 1000000 in
theorem ints_same {w : World} {la lb : Option Addr} {z : List Int} (ha : IntsAt w la z) (hb : IntsAt w lb z) (ca cb : Nat) (hz : z.length ≤ 9223372036854775807) :
    Calls Tryz.prog 15 #[.slice la z.length ca, .slice lb z.length cb] w fun e w' => e = .returned (.bool true) ∧ ∃ n, w' = w.drewN n := by
  go_enter Tryz.func15, Tryz.ntmps15
  go_wp2_with fail
  go_loopw [5] (fun i wr => ∃ j : Nat, j ≤ z.length ∧ i = .int .i64 j ∧ ∃ n, wr = w.drewN n) (fun i _ => z.length - (intOf i).toNat)
  case atStart => exact ⟨0, by omega, rfl, 0, rfl⟩
  case round =>
    obtain ⟨j, hj, rfl, n, rfl⟩ := hrel
    by_cases hlt : j < z.length
    · have hi : (j : Int) < z.length := by omega
      rcases ha with ha | ⟨b1, o1, rfl, ha⟩
      · subst ha; simp at hlt
      rcases hb with hb | ⟨b2, o2, rfl, hb⟩
      · subst hb; simp at hlt
      have c1 := ha j hlt
      have c2 := hb j hlt
      generalize z[j] = x at *
      clear ha hb
      go_wp2_with fail
      go_quiet (fail)
      go_wp2_with fail
      exact ⟨⟨j + 1, by omega, by go_num, n + nq, rfl⟩, by simp [intOf]; omega⟩
    · have hi : ¬ (j : Int) < z.length := by omega
      go_wp2
      go_ret
      exact ⟨rfl, n, rfl⟩
end Go.Proofs.YtppkjiihmlphbaaGreatDoor

/- Literals in memory; weirsame.Lines of two that are the same. -/
namespace Go.Proofs.YtppkjiihmlphbaaGreatDoor
open Go.RowKit
set_option linter.unusedVariables false

theorem ints_new (w : World) (zs : List Int) (t : TypeId) : IntsAt (w.alloc (.cells (zs.map (Value.int .i64)).toArray t)) (some ⟨w.heap.size, 0, none⟩) zs :=
  .inr ⟨_, _, rfl, fun j hj => by rw [Nat.zero_add]; exact cell_new _ _ _ (by simp [hj])⟩
theorem int_new (w : World) (z : Int) (t : TypeId) : IntsAt (w.alloc (.cells #[.int .i64 z] t)) (some ⟨w.heap.size, 0, none⟩) [z] := ints_new w [z] t

/-- A node and where its numbers lie. -/
abbrev Ny := Nd × Option Addr × Nat
def ncl : List Ny → List Value
  | [] => []
  | x :: r => .int .i64 x.1.k :: .slice x.2.1 x.1.fs.length x.2.2 :: .string x.1.tx :: .int .i64 x.1.n :: ncl r
theorem ncl_at : ∀ (X : List Ny) (i : Nat) (h : i < X.length), (ncl X)[i * 4]? = some (.int .i64 X[i].1.k) ∧ (ncl X)[i * 4 + 1]? = some (.slice X[i].2.1 X[i].1.fs.length X[i].2.2) ∧ (ncl X)[i * 4 + 2]? = some (.string X[i].1.tx) ∧ (ncl X)[i * 4 + 3]? = some (.int .i64 X[i].1.n)
  | [], i, h => by simp at h
  | x :: r, 0, _ => by simp [ncl]
  | x :: r, i + 1, h => by
    have := ncl_at r i (by simpa using h)
    rw [show (i + 1) * 4 = i * 4 + 4 from by omega]
    simpa [ncl] using this
def NyOk (w : World) (x : Ny) : Prop := IntsAt w x.2.1 x.1.fs ∧ x.1.tx.size ≤ 9223372036854775807 ∧ x.1.fs.length ≤ 9223372036854775807
theorem NyOk.keep {w w' : World} {x : Ny} (h : NyOk w x) (k : Keeps w w') : NyOk w' x := ⟨h.1.keep k, h.2⟩
theorem nodes_new (w : World) (X : List Ny) (t : TypeId) (hx : ∀ x ∈ X, NyOk w x) : NdsAt (w.alloc (.cells (ncl X).toArray t)) (some ⟨w.heap.size, 0, none⟩) (X.map Prod.fst) := by
  refine .inr ⟨_, 0, rfl, fun i hi => ?_⟩
  have hi' : i < X.length := by simpa using hi
  obtain ⟨e0, e1, e2, e3⟩ := ncl_at X i hi'
  obtain ⟨h1, h2, h3⟩ := hx X[i] (List.getElem_mem hi')
  simp only [Nat.zero_add, List.getElem_map]
  exact ⟨cell_new _ _ _ (by simpa using e0), ⟨_, _, cell_new _ _ _ (by simpa using e1), h1.keep (Keeps.alloc _ _)⟩, cell_new _ _ _ (by simpa using e2), cell_new _ _ _ (by simpa using e3), h2, h3⟩
theorem rss_one (w : World) {la : Option Addr} {d : List Rc} {c : Nat} (h : RcsAt w la d) (hc : d.length ≤ c) (t : TypeId) : RssAt (w.alloc (.cells #[.slice la d.length c] t)) (some ⟨w.heap.size, 0, none⟩) [d] := by
  refine .inr ⟨_, 0, rfl, fun i hi => ?_⟩
  obtain rfl : i = 0 := by simp at hi; omega
  exact ⟨la, c, cell_new _ _ _ rfl, h.keep (Keeps.alloc _ _), hc⟩

set_option maxRecDepth 100000 in
set_option maxHeartbeats 2000000 in
theorem lines_same {w : World} {la lb : Option Addr} {L : List Ln} (ha : LnsAt w la L) (hb : LnsAt w lb L) (ca cb : Nat) (hl : L.length ≤ 9223372036854775807) :
    Calls Tryz.prog 12 #[.slice la L.length ca, .slice lb L.length cb] w fun e w' => e = .returned (.bool true) ∧ ∃ n, w' = w.drewN n := by
  go_enter Tryz.func12, Tryz.ntmps12
  go_wp2_with fail
  go_loopw [5] (fun i wr => ∃ j : Nat, j ≤ L.length ∧ i = .int .i64 j ∧ ∃ n, wr = w.drewN n) (fun i _ => L.length - (intOf i).toNat)
  case atStart => exact ⟨0, by omega, rfl, 0, rfl⟩
  case round =>
    obtain ⟨j, hj, rfl, n, rfl⟩ := hrel
    by_cases hlt : j < L.length
    · have hi : (j : Int) < L.length := by omega
      rcases ha with ha | ⟨b1, o1, rfl, ha⟩
      · subst ha; simp at hlt
      rcases hb with hb | ⟨b2, o2, rfl, hb⟩
      · subst hb; simp at hlt
      obtain ⟨c0, ⟨fa, fc, c1, c2, c3, c4⟩, c5⟩ := ha j hlt
      obtain ⟨d0, ⟨ga, gc, d1, d2, d3, d4⟩, d5⟩ := hb j hlt
      generalize L[j] = x at *
      obtain ⟨x1, x2⟩ := x
      simp only at *
      have k0 : (w.drewN n).cell? ⟨b1, o1 + j * 2, none⟩ = some (.string x1) := c0
      have k1 : (w.drewN n).cell? ⟨b1, o1 + j * 2 + 1, none⟩ = some (.slice fa x2.length fc) := c1
      have k2 : (w.drewN n).cell? ⟨b2, o2 + j * 2, none⟩ = some (.string x1) := d0
      have k3 : (w.drewN n).cell? ⟨b2, o2 + j * 2 + 1, none⟩ = some (.slice ga x2.length gc) := d1
      have i1 : IntsAt (w.drewN n) fa x2 := c2.keep (fun _ _ h => h)
      have i2 : IntsAt (w.drewN n) ga x2 := d2.keep (fun _ _ h => h)
      have HB : Hid (∀ m, ∃ n', (w.drewN n).drewN m = w.drewN n') := fun m => ⟨n + m, by simp⟩
      clear c0 c1 c2 d0 d1 d2 ha hb
      generalize w.drewN n = wq at *
      have HI : Hid (∀ m, Calls Tryz.prog 15 #[.slice fa x2.length fc, .slice ga x2.length gc] (wq.drewN m) fun e w' => e = .returned (.bool true) ∧ ∃ n, w' = (wq.drewN m).drewN n) := fun m => ints_same (w := wq.drewN m) (i1.keep (fun _ _ h => h)) (i2.keep (fun _ _ h => h)) fc gc (by omega)
      clear i1 i2
      go_wp2_with fail
      go_quiet ((go_at_call 15; exact Calls.quiet_of (HI.out _)))
      go_wp2_with fail
      go_quiet (fail)
      go_wp2_with fail
      exact ⟨⟨j + 1, by omega, by go_num, by simpa using HB.out _⟩, by simp [intOf]; omega⟩
    · have hi : ¬ (j : Int) < L.length := by omega
      go_wp2
      go_ret
      exact ⟨rfl, n, rfl⟩
end Go.Proofs.YtppkjiihmlphbaaGreatDoor

/- Records that came in, in memory. -/
namespace Go.Proofs.YtppkjiihmlphbaaGreatDoor
open Go.RowKit Go.Deep

theorem Tryz.cellsRec : Tryz.prog.cellsOf 33 = 3 := by kernel_rfl
theorem Tryz.cellsI : Tryz.prog.cellsOf 3 = 1 := by kernel_rfl
theorem Tryz.cellsS : Tryz.prog.cellsOf 9 = 1 := by kernel_rfl
theorem Tryz.laidOut : laidOutB Tryz.prog = true := by kernel_rfl

theorem rcs_of {w : World} {b o : Nat} {L : List Rc} (h : ∀ (i : Nat) (hi : i < L.length), w.cell? ⟨b, o + i * 3, none⟩ = some (.string L[i].key) ∧ w.cell? ⟨b, o + i * 3 + 1, none⟩ = some (.int .i64 L[i].num) ∧ w.cell? ⟨b, o + i * 3 + 2, none⟩ = some (.int .i64 L[i].time)) : RcsAt w (some ⟨b, o, none⟩) L := by
  refine .inr ⟨b, o, rfl, fun j u hu => ?_⟩
  have hj : j < L.length * 3 := by rw [← rcells_len]; exact (List.getElem?_eq_some_iff.1 hu).1
  have hi : j / 3 < L.length := by omega
  obtain ⟨e0, e1, e2⟩ := rcells_at L (j / 3) hi
  obtain ⟨c0, c1, c2⟩ := h (j / 3) hi
  have hm : j % 3 = 0 ∨ j % 3 = 1 ∨ j % 3 = 2 := by omega
  rcases hm with hm | hm | hm
  · have ej : j = j / 3 * 3 := by omega
    rw [ej, e0] at hu
    rw [ej]; rw [← hu]; exact c0
  · have ej : j = j / 3 * 3 + 1 := by omega
    rw [ej, e1] at hu
    rw [ej, ← Nat.add_assoc, ← hu]; exact c1
  · have ej : j = j / 3 * 3 + 2 := by omega
    rw [ej, e2] at hu
    rw [ej, ← Nat.add_assoc, ← hu]; exact c2

section
variable {H : Type} {enc : TypeId × Value → H}
theorem add_pl (b o i : Nat) : (⟨b, o, none⟩ : Addr).add i = ⟨b, o + i, none⟩ := by
  unfold Addr.add; split <;> simp_all

set_option maxRecDepth 100000 in
theorem open_recs {W : World} {sp : Nat → Bool} {fuel : Nat} {v : Value} {x : DataW H × List MemPlace} (h : DataW.trod enc Tryz.prog W 0 sp true fuel 34 [v] = some x) :
    ∃ la L c, v = .slice la L.length c ∧ L.length ≤ c ∧ c ≤ maxLen ∧ RcsAt W la L ∧ ∀ r ∈ L, r.key.size ≤ 9223372036854775807 ∧ Rng r.num := by
  rcases open_slice Tryz.underlying34 h with ⟨h0, -⟩ | ⟨a, len, cap, m, n, D, Pl, h0, hb, hl, hm, hmm, -, hx⟩
  · exact ⟨none, [], 0, by simpa using h0, by simp, by simp, .inl rfl, by simp⟩
  · have hlm : len ≤ m := by rw [hmm]; split <;> omega
    obtain ⟨b, o, spot⟩ := a
    by_cases h00 : len = 0
    · subst h00
      exact ⟨_, [], cap, by simpa using h0, by simp, hm, .inl rfl, by simp⟩
    have hspot : spot = none := by
      obtain ⟨cs', h1, h2⟩ := hx 0 (by omega)
      rw [Tryz.cellsRec] at h1
      obtain ⟨_, hlen, hcell⟩ := World.cells?_some h1
      have hc := hcell 0 (by omega)
      rw [List.getElem?_eq_getElem (by omega)] at hc
      simpa [Addr.add] using World.cell?_spot hc
    subst hspot
    have hml : maxLen = 9223372036854775807 := rfl
    haveI : Inhabited Rc := ⟨⟨ByteArray.empty, 0, 0⟩⟩
    obtain ⟨f, hf⟩ := choose_lt (α := Rc) (n := len) (p := fun i r => (W.cell? ⟨b, o + i * 3, none⟩ = some (.string r.key) ∧ W.cell? ⟨b, o + i * 3 + 1, none⟩ = some (.int .i64 r.num) ∧ W.cell? ⟨b, o + i * 3 + 2, none⟩ = some (.int .i64 r.time)) ∧ r.key.size ≤ 9223372036854775807 ∧ Rng r.num) (fun i hi => by
      obtain ⟨cs', h1, h2⟩ := hx i (by omega)
      rw [Tryz.cellsRec] at h1
      obtain ⟨_, hlen, hcell⟩ := World.cells?_some h1
      obtain ⟨xs, k, -, -, -, hxl, hfs⟩ := DataW.trod_struct Tryz.underlying33 h2
      match cs', hlen with
      | [v0, v1, v2], _ =>
        have f0 : DataW.trod enc Tryz.prog W 0 sp true k 9 (([v0, v1, v2].drop 0).take (Tryz.prog.cellsOf 9)) = xs[0]? := hfs 0 _ rfl
        have f1 : DataW.trod enc Tryz.prog W 0 sp true k 3 (([v0, v1, v2].drop 1).take (Tryz.prog.cellsOf 3)) = xs[1]? := hfs 1 _ rfl
        have f2 : DataW.trod enc Tryz.prog W 0 sp true k 3 (([v0, v1, v2].drop 2).take (Tryz.prog.cellsOf 3)) = xs[2]? := hfs 2 _ rfl
        simp only [Tryz.cellsI, Tryz.cellsS, List.drop, List.take] at f0 f1 f2
        have hxl3 : xs.length = 3 := hxl
        rw [List.getElem?_eq_getElem (by omega)] at f0 f1 f2
        obtain ⟨s, e0, -, hs⟩ := DataW.trod_string Tryz.underlying9 f0
        obtain ⟨n1, e1, -, hw1⟩ := DataW.trod_int Tryz.underlying3 f1
        obtain ⟨n2, e2, -, -⟩ := DataW.trod_int Tryz.underlying3 f2
        simp only [List.cons.injEq, and_true] at e0 e1 e2
        subst e0 e1 e2
        have c0 := hcell 0 (by omega)
        have c1 := hcell 1 (by omega)
        have c2 := hcell 2 (by omega)
        simp only [add_pl] at c0 c1 c2
        exact ⟨⟨s, n1, n2⟩, ⟨by simpa using c0, by simpa using c1, by simpa using c2⟩, by simpa [hml] using hs, by
          obtain ⟨q1, q2⟩ := (Lit.wf_int_iff .i64 n1).1 hw1
          have m1 : IntKind.i64.min = -9223372036854775808 := by decide
          have m2 : IntKind.i64.max = 9223372036854775807 := by decide
          rw [m1] at q1
          rw [m2] at q2
          exact ⟨q1, q2⟩⟩)
    refine ⟨_, (List.range len).map f, cap, by simpa using h0, by simpa using hl, hm, rcs_of (fun i hi => ?_), fun r hr => ?_⟩
    · have hi' : i < len := by simpa using hi
      simpa using (hf i hi').1
    · obtain ⟨i, hi, rfl⟩ := List.mem_map.1 hr
      exact (hf i (by simpa using hi)).2
end
end Go.Proofs.YtppkjiihmlphbaaGreatDoor

