/- The document's gate: Take. -/
import Derived.Test.YtneglanmigifhaaDoorWc
namespace Go.Proofs.YtneglanmigifhaaDoor
open Go.ChangeShapes Go.WideShapes Go.RowKit
set_option linter.unusedVariables false
section
variable {lo : Nat} {w : World} {M WB LB : Nat} {us : Nat → Value} {g : Gt Rg}
/-- A block that is none of the document's gate's, written. -/
theorem far3D {R : Nat} {cur : Array Value} {ty : TypeId} (hR : w.heap[R]? = some (.cells cur ty (0, 0))) (ht : ty ≠ 33 ∧ ty ≠ 46 ∧ ty ≠ 3 ∧ ty ≠ 40) (a b c : Value) : ∀ (k : Nat) (o : Obj), w.heap[k]? = some o → (TurnsD o ∨ ∃ cur, o = .cells cur 40 (0, 0)) → (((w.setCell ⟨R, 0, none⟩ a).setCell ⟨R, 1, none⟩ b).setCell ⟨R, 2, none⟩ c).heap[k]? = some o := by
  intro k o hk ho
  have hne : k ≠ R := fun e => by
    subst e; rw [hR] at hk; injection hk with hk; subst hk
    rcases ho with ho | ⟨c, e⟩
    · exact notTurnsD ⟨ht.1, ht.2.1, ht.2.2.1⟩ ho
    · injection e with e1 e2 e3; exact ht.2.2.2 e2
  rw [Below.heap_setCell _ _ _ _ hne, Below.heap_setCell _ _ _ _ hne, Below.heap_setCell _ _ _ _ hne]; exact hk
def MTakeEnd (lo M WB LB : Nat) (w : World) (g : Gt Rg) (e : Ending) (w' : World) : Prop :=
  (takeG g = none ∧ e = .returned (.tuple #[.agg #[.string ⟨#[]⟩, .int .i64 0, .int .i64 0], .int .i64 0, .bool false]) ∧ Below w.heap.size w w') ∨
  ∃ r i g', takeG g = some (r, i, g') ∧ e = .returned (.tuple #[.agg #[.string r.key, .int .i64 r.num, .int .i64 r.tm], .int .i64 (i : Nat), .bool true]) ∧ (∃ us', MgB lo w' M WB LB us' g') ∧ FrD lo w w'
/-- What is taken from a row. -/
theorem take_tail (h : MgB lo w M WB LB us g) {i : Nat} (hi : i < g.ws.length) {r : Rg} {l : List Itm} (hx : g.ws.getD i [] = .one r :: l) :
    ∃ b o c, w.cell? ⟨WB, i, none⟩ = some (.slice (some ⟨b, o, none⟩) (l.length + 1) c) ∧ l.length + 1 ≤ c ∧ c ≤ maxLen ∧ w.cell? ⟨b, o, none⟩ = some (.string r.key) ∧ w.cell? ⟨b, o + 1, none⟩ = some (.int .i64 r.num) ∧ w.cell? ⟨b, o + 2, none⟩ = some (.int .i64 r.tm) ∧ b < w.heap.size ∧
      ∀ w1, Below w.heap.size w w1 → ∃ us', MgB lo ((w1.setCell ⟨WB, i, none⟩ (.slice (if c = 1 then some ⟨b, o, none⟩ else some ⟨b, o + 4, none⟩) l.length (c - 1))).setCell ⟨M, 2, none⟩ (.int .i64 ((i + 1) % g.ws.length : Nat))) M WB LB us' { g with ws := g.ws.set i l, nx := (i + 1) % g.ws.length } ∧ FrD lo w ((w1.setCell ⟨WB, i, none⟩ (.slice (if c = 1 then some ⟨b, o, none⟩ else some ⟨b, o + 4, none⟩) l.length (c - 1))).setCell ⟨M, 2, none⟩ (.int .i64 ((i + 1) % g.ws.length : Nat))) := by
  have hr := h.own i hi
  rw [hx] at hr
  have hlen := h.len i hi
  rw [hx, List.length_cons] at hlen
  obtain ⟨b, o, c, e, q1, q2, q3, q4, q5, q6, q7, q8⟩ := hr.head
  refine ⟨b, o, c, by rw [← e]; exact h.w0 hi, q1, q2, q3, q4, q5, q7, fun w1 hb => ?_⟩
  have hr2 := (q8 _ rfl).block (fun k cur hc => by rw [hb.block k (some_lt hc)]; exact hc)
  obtain ⟨a1, a2⟩ := h.setRow hi hb hr2 (by omega) (fun id hid => h.ids _ (mem_getD hi) id (by rw [hx]; exact List.mem_cons_of_mem _ hid))
  obtain ⟨a3, a4⟩ := a1.setNext (t := (i + 1) % g.ws.length) (by simp only [List.length_set]; exact Nat.mod_lt _ h.n0)
  exact ⟨_, a3, a2.trans a4⟩
set_option maxRecDepth 100000 in
set_option maxHeartbeats 2000000 in
theorem mtake_any (h : MgB lo w M WB LB us g) : Calls Tryd.prog 10 #[.pointer (some ⟨M, 0, none⟩)] w (MTakeEnd lo M WB LB w g) := by
  have hloW := h.lo'
  have hn1 := h.n1
  have hn0 := h.n0
  have hnx := h.nx
  have hnxm : g.nx = g.nx % g.ws.length := (Nat.mod_eq_of_lt hnx).symm
  have HN := Lib.hid (show ∀ w', (∀ j, j < g.ws.length → hRec (g.ws.getD ((g.nx + j) % g.ws.length) []) = none) → Below w.heap.size w w' → MTakeEnd lo M WB LB w g (.returned (.tuple #[.agg #[.string ⟨#[]⟩, .int .i64 0, .int .i64 0], .int .i64 0, .bool false])) w' from fun w' h1 h2 => .inl ⟨takeG_no hnxm h1, rfl, h2⟩)
  have hat : ∀ (wr : World) (k : Nat), Below w.heap.size w wr → k < g.ws.length → (∀ j, j < k → hRec (g.ws.getD ((g.nx + j) % g.ws.length) []) = none) →
      wr.cell? ⟨M, 0, none⟩ = some (.slice (some ⟨WB, 0, none⟩) g.ws.length g.ws.length) ∧ wr.cell? ⟨M, 2, none⟩ = some (.int .i64 g.nx) ∧ wr.frozen? ⟨M, 2, none⟩ = false ∧ wr.frozen? ⟨WB, (g.nx + k) % g.ws.length, none⟩ = false ∧ M < wr.heap.size ∧ WB < wr.heap.size ∧ M ≠ WB ∧
      Calls Tryd.prog 13 #[.pointer (some ⟨M, 0, none⟩), .int .i64 ((g.nx + k) % g.ws.length : Nat)] wr (fun e w' => e = .returned (.bool (hBar (g.ws.getD ((g.nx + k) % g.ws.length) [])).isSome) ∧ wr = w') ∧
      ((hRec (g.ws.getD ((g.nx + k) % g.ws.length) []) = none ∧ ∃ (p : Option Addr) (m c : Nat), wr.cell? ⟨WB, (g.nx + k) % g.ws.length, none⟩ = some (.slice p m c) ∧ (m = 0 ∨ 0 < m ∧ (hBar (g.ws.getD ((g.nx + k) % g.ws.length) [])).isSome = true)) ∨
       ∃ (r : Rg) (b o c m : Nat), (hBar (g.ws.getD ((g.nx + k) % g.ws.length) [])).isSome = false ∧ wr.cell? ⟨WB, (g.nx + k) % g.ws.length, none⟩ = some (.slice (some ⟨b, o, none⟩) (m + 1) c) ∧ m + 1 ≤ c ∧ c ≤ maxLen ∧ wr.cell? ⟨b, o, none⟩ = some (.string r.key) ∧ wr.cell? ⟨b, o + 1, none⟩ = some (.int .i64 r.num) ∧ wr.cell? ⟨b, o + 2, none⟩ = some (.int .i64 r.tm) ∧ b < wr.heap.size ∧
         ∀ (w1 : World) (cur : Array Value) (x y z : Value), Below wr.heap.size wr w1 → w1.heap[w.heap.size]? = some (.cells cur 36 (0, 0)) → MTakeEnd lo M WB LB w g (.returned (.tuple #[.agg #[.string r.key, .int .i64 r.num, .int .i64 r.tm], .int .i64 ((g.nx + k) % g.ws.length : Nat), .bool true])) (((((w1.setCell ⟨WB, (g.nx + k) % g.ws.length, none⟩ (.slice (if c = 1 then some ⟨b, o, none⟩ else some ⟨b, o + 4, none⟩) m (c - 1))).setCell ⟨M, 2, none⟩ (.int .i64 (((g.nx + k) % g.ws.length + 1) % g.ws.length : Nat))).setCell ⟨w.heap.size, 0, none⟩ x).setCell ⟨w.heap.size, 1, none⟩ y).setCell ⟨w.heap.size, 2, none⟩ z)) := by
    intro wr k hb hk hj
    have hG := h.keep hb
    have hi : (g.nx + k) % g.ws.length < g.ws.length := Nat.mod_lt _ hn0
    have hbl := mblocked_any hG hi
    have htk := fun r => takeG_at (r := r) hnxm hj hk
    generalize (g.nx + k) % g.ws.length = i at *
    refine ⟨hG.c0, hG.c2, hG.fM 2, hG.fW i, hG.ltM, hG.ltW, hG.nes.1, hbl, ?_⟩
    have hw := hG.w0 hi
    have hr := hG.own i hi
    match hx : g.ws.getD i [] with
    | [] =>
      rw [hx] at hr
      obtain ⟨p, c, e, -⟩ := hr
      exact .inl ⟨rfl, p, 0, c, by rw [hw, e]; rfl, .inl rfl⟩
    | .bar id :: l =>
      rw [hx] at hr
      obtain ⟨p, c, e, -⟩ := hr
      exact .inl ⟨rfl, p, l.length + 1, c, by rw [hw, e]; rfl, .inr ⟨by omega, rfl⟩⟩
    | .one r :: l =>
      obtain ⟨b, o, c, z1, z2, z3, z4, z5, z6, z7, z8⟩ := take_tail hG hi hx
      refine .inr ⟨r, b, o, c, l.length, rfl, z1, z2, z3, z4, z5, z6, z7, fun w1 cur x y z hb1 hR => ?_⟩
      obtain ⟨us', a1, a2⟩ := z8 w1 hb1
      have ht := htk r (by rw [hx]; rfl)
      rw [hx] at ht
      have hF := (FrD.below hb hloW).trans a2
      have hRl := some_lt hR
      have hR2 : ((w1.setCell ⟨WB, i, none⟩ (.slice (if c = 1 then some ⟨b, o, none⟩ else some ⟨b, o + 4, none⟩) l.length (c - 1))).setCell ⟨M, 2, none⟩ (.int .i64 ((i + 1) % g.ws.length : Nat))).heap[w.heap.size]? = some (.cells cur 36 (0, 0)) := by
        have hWl := h.ltW
        have hMl := h.ltM
        rw [Below.heap_setCell _ _ _ _ (by simp only; omega), Below.heap_setCell _ _ _ _ (by simp only; omega)]; exact hR
      refine .inr ⟨r, i, _, ht, rfl, ⟨us', a1.stays (far3D hR2 (by decide) x y z)⟩, ⟨hF.os, hF.tape, hF.output, by simpa using hF.size, fun k hk => ?_, fun k o hk ho => ?_⟩⟩
      · rw [Below.heap_setCell _ _ _ _ (by simp only; omega), Below.heap_setCell _ _ _ _ (by simp only; omega), Below.heap_setCell _ _ _ _ (by simp only; omega)]; exact hF.low k hk
      · have := some_lt hk
        rw [Below.heap_setCell _ _ _ _ (by simp only; omega), Below.heap_setCell _ _ _ _ (by simp only; omega), Below.heap_setCell _ _ _ _ (by simp only; omega)]; exact hF.kept k o hk ho
  clear h hnxm
  generalize hQ : MTakeEnd lo M WB LB w g = Q at *
  have HA := Lib.hid hat
  clear hat hQ
  have hE : Hid (g.ws.length = g.ws.length) := Lib.hid rfl
  generalize hn : g.ws.length = n at *
  have c0 : w.cell? ⟨M, 0, none⟩ = some (.slice (some ⟨WB, 0, none⟩) n n) := (HA.out w 0 (Below.refl _ _) hn0 (fun j hj => by omega)).1
  have hWl0 : WB < w.heap.size := (HA.out w 0 (Below.refl _ _) hn0 (fun j hj => by omega)).2.2.2.2.2.1
  have hMl : M < w.heap.size := (HA.out w 0 (Below.refl _ _) hn0 (fun j hj => by omega)).2.2.2.2.1
  have HRW := Lib.hid (show (w.alloc (.cells #[.string ⟨#[]⟩, .int .i64 0, .int .i64 0] 36)).heap[w.heap.size]? = some (.cells #[.string ⟨#[]⟩, .int .i64 0, .int .i64 0] 36 (0, 0)) from heap_alloc_new w _)
  generalize g.nx = t at *
  go_enter Tryd.func10, Tryd.ntmps10
  go_wp2_with fail
  go_loopw [6] (fun at_ wr => ∃ k, k ≤ n ∧ at_ = .int .i64 (k : Nat) ∧ Below w.heap.size w wr ∧ wr.heap[w.heap.size]? = some (.cells #[.string ⟨#[]⟩, .int .i64 0, .int .i64 0] 36 (0, 0)) ∧ ∀ j, j < k → hRec (g.ws.getD ((t + j) % n) []) = none) (fun j _ => n - (intOf j).toNat)
  case atStart => exact ⟨0, Nat.zero_le _, rfl, (Below.refl _ _).alloc (Nat.le_refl _) _, HRW.out, fun j hj => by omega⟩
  case round =>
    clear c0 HRW
    obtain ⟨k, hk, rfl, hb, hR, hj⟩ := hrel
    rename World => wr
    have r0 : wr.cell? ⟨w.heap.size, 0, none⟩ = some (.string ⟨#[]⟩) := by simp [World.cell?, hR]
    have r1 : wr.cell? ⟨w.heap.size, 1, none⟩ = some (.int .i64 0) := by simp [World.cell?, hR]
    have r2 : wr.cell? ⟨w.heap.size, 2, none⟩ = some (.int .i64 0) := by simp [World.cell?, hR]
    have rf : ∀ o, wr.frozen? ⟨w.heap.size, o, none⟩ = false := fun o => by simp [World.frozen?, hR]
    have r3 := rf 0
    have r4 := rf 1
    have r5 := rf 2
    have hwl : w.heap.size < wr.heap.size := some_lt hR
    clear rf
    by_cases hlt : k < n
    · have hlt' : (k : Int) < n := by omega
      obtain ⟨d0, d1, d2, d3, d4, d5, d6, KB, hw⟩ := HA.out wr k hb hlt hj
      have hmod : ((t : Int) + (k : Int)) % (n : Int) = (((t + k) % n : Nat) : Int) := by rw [Int.natCast_emod, Int.natCast_add]
      have hsum : (t : Int) + (k : Int) ≤ 128 := by omega
      have hsum0 : (0 : Int) ≤ (t : Int) + (k : Int) := by omega
      have hnz : ¬ (n : Int) = 0 := by omega
      have hnn : ¬ (n : Int) = -1 := by omega
      have hir : (((t + k) % n : Nat) : Int) < (n : Int) := by have := Nat.mod_lt (t + k) hn0; omega
      have HK := Lib.hid (show hRec (g.ws.getD ((t + k) % n) []) = none → ∀ j, j < k + 1 → hRec (g.ws.getD ((t + j) % n) []) = none from fun h1 j hj' => by
        by_cases e : j = k
        · rw [e]; exact h1
        · exact hj j (by omega))
      clear HA hj HN
      generalize (t + k) % n = i at *
      rcases hw with ⟨hrec, p, m, c, e0, hm⟩ | ⟨r, b, o, c, m, hbf, e0, z1, z2, z3, z4, z5, z6, hend⟩
      · have HK1 := Lib.hid (HK.out hrec)
        have HRR := Lib.hid hR
        clear HK hR hrec
        rcases hm with rfl | ⟨hm, hbt⟩
        · generalize (hBar (g.ws.getD i [])).isSome = bb at *
          go_wp2_with (go_at_call 13; refine KB.mono ?_; rintro e u ⟨rfl, rfl⟩)
          go_roundw
          case rel => exact ⟨k + 1, by omega, by go_num, hb, HRR.out, HK1.out⟩
          case measure => simp [intOf]; omega
        · rw [hbt] at KB
          have hm' : ((m : Int) == 0) = false := by simp; omega
          go_wp2_with (go_at_call 13; refine KB.mono ?_; rintro e u ⟨rfl, rfl⟩)
          go_roundw
          case rel => exact ⟨k + 1, by omega, by go_num, hb, HRR.out, HK1.out⟩
          case measure => simp [intOf]; omega
      · rw [hbf] at KB
        have hm' : ((m : Int) + 1 == 0) = false := by simp; omega
        have hm0 : (0 : Int) < (m : Int) + 1 := by omega
        obtain ⟨k0, n0, t0⟩ := r
        simp only at z3 z4 z5 hend
        have HEnd := Lib.hid hend
        clear HK hend
        have b1 : Below wr.heap.size wr (wr.alloc (.cells #[.string k0, .int .i64 n0, .int .i64 t0] 36)) := (Below.refl _ _).alloc (Nat.le_refl _) _
        have x0 : (wr.alloc (.cells #[.string k0, .int .i64 n0, .int .i64 t0] 36)).cell? ⟨wr.heap.size, 0, none⟩ = some (.string k0) := by simp
        have x1 : (wr.alloc (.cells #[.string k0, .int .i64 n0, .int .i64 t0] 36)).cell? ⟨wr.heap.size, 1, none⟩ = some (.int .i64 n0) := by simp
        have x2 : (wr.alloc (.cells #[.string k0, .int .i64 n0, .int .i64 t0] 36)).cell? ⟨wr.heap.size, 2, none⟩ = some (.int .i64 t0) := by simp
        have y0 := (b1.cell (p := ⟨M, 0, none⟩) d4).trans d0
        have y1 := (b1.cell (p := ⟨M, 2, none⟩) d4).trans d1
        have y2 := (b1.frozen (p := ⟨M, 2, none⟩) d4).trans d2
        have y3 := (b1.frozen (p := ⟨WB, i, none⟩) d5).trans d3
        have y4 := (b1.cell (p := ⟨WB, i, none⟩) d5).trans e0
        have v0 := (b1.cell (p := ⟨w.heap.size, 0, none⟩) hwl).trans r0
        have v1 := (b1.cell (p := ⟨w.heap.size, 1, none⟩) hwl).trans r1
        have v2 := (b1.cell (p := ⟨w.heap.size, 2, none⟩) hwl).trans r2
        have v3 := (b1.frozen (p := ⟨w.heap.size, 0, none⟩) hwl).trans r3
        have v4 := (b1.frozen (p := ⟨w.heap.size, 1, none⟩) hwl).trans r4
        have v5 := (b1.frozen (p := ⟨w.heap.size, 2, none⟩) hwl).trans r5
        have hR1 := (b1.block _ hwl).trans hR
        have HEnd2 := Lib.hid (fun x y z => HEnd.out (wr.alloc (.cells #[.string k0, .int .i64 n0, .int .i64 t0] 36)).drew _ x y z ⟨b1.os, b1.tape, b1.output, b1.size, b1.block⟩ hR1)
        have hmodi : ((i : Int) + 1) % (n : Int) = (((i + 1) % n : Nat) : Int) := by rw [Int.natCast_emod, Int.natCast_add]; rfl
        have nR1 : M ≠ w.heap.size := by omega
        have nR2 : WB ≠ w.heap.size := by omega
        have nR3 : w.heap.size ≠ wr.heap.size := by omega
        have nM : M ≠ wr.heap.size := by omega
        have d7 : WB ≠ M := Ne.symm d6
        have HMi := Lib.hid hmodi
        clear hmodi
        have nW : WB ≠ wr.heap.size := by omega
        have i20 : (i : Int) + 1 ≤ 128 := by omega
        have qc1 : (1 : Int) ≤ (m : Int) + 1 := by omega
        have qc2 : (m : Int) + 1 ≤ (c : Int) := by omega
        have qc3 : (1 : Int) ≤ (c : Int) := by omega
        have qc4 : ((m : Int) + 1 - 1).toNat = m := by omega
        have qc5 : ((c : Int) - 1).toNat = c - 1 := by omega
        clear HEnd hb hR
        go_wp2_with (go_at_call 13; refine KB.mono ?_; rintro e u ⟨rfl, rfl⟩)
        clear d0 d1 d2 d3 r0 r1 r2 r3 r4 r5 z3 z4 z5 e0 b1 hR1 KB
        generalize wr.alloc (.cells #[.string k0, .int .i64 n0, .int .i64 t0] 36) = u1 at *
        have hfb : ∀ (v : Value) (k : Nat), k ≠ WB → (u1.drew.setCell ⟨WB, i, none⟩ v).heap[k]? = u1.heap[k]? := fun v k hk => Below.heap_setCell _ _ _ _ hk
        have HFar := Lib.hid (show ∀ v : Value, (u1.drew.setCell ⟨WB, i, none⟩ v).cell? ⟨M, 2, none⟩ = some (.int .i64 t) ∧ (u1.drew.setCell ⟨WB, i, none⟩ v).frozen? ⟨M, 2, none⟩ = false ∧
          (u1.drew.setCell ⟨WB, i, none⟩ v).cell? ⟨w.heap.size, 0, none⟩ = some (.string ⟨#[]⟩) ∧ (u1.drew.setCell ⟨WB, i, none⟩ v).cell? ⟨w.heap.size, 1, none⟩ = some (.int .i64 0) ∧ (u1.drew.setCell ⟨WB, i, none⟩ v).cell? ⟨w.heap.size, 2, none⟩ = some (.int .i64 0) ∧
          (u1.drew.setCell ⟨WB, i, none⟩ v).frozen? ⟨w.heap.size, 0, none⟩ = false ∧ (u1.drew.setCell ⟨WB, i, none⟩ v).frozen? ⟨w.heap.size, 1, none⟩ = false ∧ (u1.drew.setCell ⟨WB, i, none⟩ v).frozen? ⟨w.heap.size, 2, none⟩ = false ∧
          (u1.drew.setCell ⟨WB, i, none⟩ v).cell? ⟨wr.heap.size, 0, none⟩ = some (.string k0) ∧ (u1.drew.setCell ⟨WB, i, none⟩ v).cell? ⟨wr.heap.size, 1, none⟩ = some (.int .i64 n0) ∧ (u1.drew.setCell ⟨WB, i, none⟩ v).cell? ⟨wr.heap.size, 2, none⟩ = some (.int .i64 t0) from fun v =>
          ⟨(World.cell?_of_block (w := u1) (hfb v M d6)).trans y1, (World.frozen?_of_block (w := u1) (hfb v M d6)).trans y2,
           (World.cell?_of_block (w := u1) (hfb v _ (Ne.symm nR2))).trans v0, (World.cell?_of_block (w := u1) (hfb v _ (Ne.symm nR2))).trans v1, (World.cell?_of_block (w := u1) (hfb v _ (Ne.symm nR2))).trans v2,
           (World.frozen?_of_block (w := u1) (hfb v _ (Ne.symm nR2))).trans v3, (World.frozen?_of_block (w := u1) (hfb v _ (Ne.symm nR2))).trans v4, (World.frozen?_of_block (w := u1) (hfb v _ (Ne.symm nR2))).trans v5,
           (World.cell?_of_block (w := u1) (hfb v _ (Ne.symm nW))).trans x0, (World.cell?_of_block (w := u1) (hfb v _ (Ne.symm nW))).trans x1, (World.cell?_of_block (w := u1) (hfb v _ (Ne.symm nW))).trans x2⟩)
        clear hfb x0 x1 x2 y1 y2 v0 v1 v2 v3 v4 v5
        by_cases hc1 : c = 1
        · subst hc1
          simp only [if_true] at HEnd2
          have hm00 : m = 0 := by omega
          subst hm00
          simp only [Nat.sub_self] at HEnd2
          go_region
          all_goals
            rw [show (u1.setCell ⟨WB, i, none⟩ (.slice (some ⟨b, o, none⟩) 0 0)).drew = u1.drew.setCell ⟨WB, i, none⟩ (.slice (some ⟨b, o, none⟩) 0 0) from rfl]
            have F := HFar.out (.slice (some ⟨b, o, none⟩) 0 0)
            generalize u1.drew.setCell ⟨WB, i, none⟩ (.slice (some ⟨b, o, none⟩) 0 0) = u2 at *
            obtain ⟨p1, p2, p3, p4, p5, p6, p7, p8, p9, p10, p11⟩ := F
            clear HFar y0 y3 y4
            go_wp2_with fail
            rw [HMi.out]
            exact bodyPost_ret (v := .tuple #[.agg #[.string k0, .int .i64 n0, .int .i64 t0], .int .i64 i, .bool true]) (by simp [results, Tryd.results10, go_sem, p3, p4, p5]) rfl (HEnd2.out _ _ _)
        · simp only [if_neg hc1] at HEnd2
          go_region
          all_goals
            rw [show (u1.setCell ⟨WB, i, none⟩ (.slice (some ⟨b, o + 4, none⟩) m (c - 1))).drew = u1.drew.setCell ⟨WB, i, none⟩ (.slice (some ⟨b, o + 4, none⟩) m (c - 1)) from rfl]
            have F := HFar.out (.slice (some ⟨b, o + 4, none⟩) m (c - 1))
            generalize u1.drew.setCell ⟨WB, i, none⟩ (.slice (some ⟨b, o + 4, none⟩) m (c - 1)) = u2 at *
            obtain ⟨p1, p2, p3, p4, p5, p6, p7, p8, p9, p10, p11⟩ := F
            clear HFar y0 y3 y4
            go_wp2_with fail
            rw [HMi.out]
            exact bodyPost_ret (v := .tuple #[.agg #[.string k0, .int .i64 n0, .int .i64 t0], .int .i64 i, .bool true]) (by simp [results, Tryd.results10, go_sem, p3, p4, p5]) rfl (HEnd2.out _ _ _)
    · have hlt' : ¬ (k : Int) < n := by omega
      obtain rfl : k = n := by omega
      have HX := Lib.hid (fun w' (hw : Below w.heap.size w w') => HN.out w' hj hw)
      have HBB := Lib.hid (show Below w.heap.size w ((((wr.setCell ⟨w.heap.size, 0, none⟩ (.string ⟨#[]⟩)).setCell ⟨w.heap.size, 1, none⟩ (.int .i64 0)).setCell ⟨w.heap.size, 2, none⟩ (.int .i64 0))) from ((hb.setCell (p := ⟨w.heap.size, 0, none⟩) (Nat.le_refl _) _).setCell (p := ⟨w.heap.size, 1, none⟩) (Nat.le_refl _) _).setCell (p := ⟨w.heap.size, 2, none⟩) (Nat.le_refl _) _)
      clear hj hb hR HN HA
      go_wp2_with fail
      exact bodyPost_ret (v := .tuple #[.agg #[.string ⟨#[]⟩, .int .i64 0, .int .i64 0], .int .i64 0, .bool false]) (by simp [results, Tryd.results10, go_sem, r0, r1, r2]) rfl (HX.out _ HBB.out)
end
end Go.Proofs.YtneglanmigifhaaDoor
