/- Next. -/
import Derived.Test.YtneglanmigifhaaDoorVg
namespace Go.Proofs.YtneglanmigifhaaDoor
open Go.ChangeShapes Go.WideShapes Go.RowKit
set_option linter.unusedVariables false
theorem tmod_nat (a n : Nat) : Int.tmod (a : Int) (n : Int) = ((a % n : Nat) : Int) := by rw [Int.tmod_eq_emod_of_nonneg (by omega)]; rfl
theorem ptr_at {L i : Nat} : (⟨L, i * 2, none⟩ : Addr) = ⟨L, i * 2, none⟩ := rfl
theorem infoR : (Tryd.prog.info? 36).map (fun i => (i.zero, i.size, i.bytes)) = some (some (.agg #[.string ⟨#[]⟩, .int .i64 0, .int .i64 0]), 3, 32) := by kernel_rfl
theorem field_rec (k : ByteArray) (a b c : Int) (w : World) : (Instr.field 65 (.agg #[.string k, .int .i64 a, .int .i64 b, .int .i64 c]) 0).run Tryd.prog w = .ok (.agg #[.string k, .int .i64 a, .int .i64 b]) w := by
  obtain ⟨i0, hi, -, hz1, -⟩ := info_parts infoR
  simp [Instr.field, asAgg, part, isAgg, sizeOf, typeInfo, hi, hz1]
section
variable {lo : Nat} {w : World} {B L t : Nat} {vs : Nat → Value} {g : Gt Rg}
theorem GtB.stays {w' : World} (h : GtB lo w B L t vs g) (hk : ∀ (k : Nat) (o : Obj), w.heap[k]? = some o → Turns o → w'.heap[k]? = some o) : GtB lo w' B L t vs g := by
  obtain ⟨cur, h1, h2⟩ := h.rows
  refine ⟨hk _ _ h.blk ⟨_, .inl rfl⟩, ⟨cur, hk _ _ h1 ⟨_, .inr (.inl rfl)⟩, h2⟩, fun i hi => (h.own i hi).block (fun b hb' => ?_), h.ne, h.len, h.ids, h.lst, h.n0, h.n1, h.tn, h.nx, h.loB, h.loL⟩
  obtain ⟨-, -, c, hc⟩ := (h.own i hi).lt hb'
  rw [hk _ _ hc ⟨_, .inr (.inr rfl)⟩, hc]
/-- A block that is none of a gate's, written. -/
theorem far3 {R : Nat} {cur : Array Value} {ty : TypeId} (hR : w.heap[R]? = some (.cells cur ty (0, 0))) (ht : ¬ Turns (.cells cur ty (0, 0))) (a b c : Value) : ∀ (k : Nat) (o : Obj), w.heap[k]? = some o → Turns o → (((w.setCell ⟨R, 0, none⟩ a).setCell ⟨R, 1, none⟩ b).setCell ⟨R, 2, none⟩ c).heap[k]? = some o := by
  intro k o hk ho
  have hne : k ≠ R := fun e => by
    subst e; rw [hR] at hk; injection hk with hk; subst hk; exact ht ho
  rw [Below.heap_setCell _ _ _ _ hne, Below.heap_setCell _ _ _ _ hne, Below.heap_setCell _ _ _ _ hne]; exact hk
theorem notTurns {cur : Array Value} {ty : TypeId} (ht : ty ≠ 55 ∧ ty ≠ 60 ∧ ty ≠ 65) : ¬ Turns (.cells cur ty (0, 0)) := by
  rintro ⟨c, h | h | h⟩ <;> (injection h with h1 h2 h3; subst h2; simp at ht)
/-- What Next answers. -/
def NextEnd (lo B L : Nat) (w : World) (g : Gt Rg) (e : Ending) (w' : World) : Prop :=
  (takeG g = none ∧ e = .returned (.tuple #[.agg #[.string ⟨#[]⟩, .int .i64 0, .int .i64 0], .int .i64 0, .bool false]) ∧ Below w.heap.size w w') ∨
  ∃ r i g' t', takeG g = some (r, i, g') ∧ e = .returned (.tuple #[rV r, .int .i64 (i : Nat), .bool true]) ∧ (∃ vs', GtB lo w' B L t' vs' g') ∧ FrG lo w w'
set_option maxRecDepth 100000 in
set_option maxHeartbeats 2000000 in
theorem next_any (h : GtB lo w B L t vs g) : Calls Tryd.prog 9 #[.pointer (some ⟨B, 0, none⟩)] w (NextEnd lo B L w g) := by
  have hloW := h.loW
  have hn1 := h.n1
  have hn0 := h.n0
  have htn := h.tn
  have hBt := h.ltB
  have HN := Lib.hid (show ∀ w', (∀ j, j < g.ws.length → hRec (g.ws.getD ((t + j) % g.ws.length) []) = none) → Below w.heap.size w w' → NextEnd lo B L w g (.returned (.tuple #[.agg #[.string ⟨#[]⟩, .int .i64 0, .int .i64 0], .int .i64 0, .bool false])) w' from fun w' h1 h2 => .inl ⟨takeG_no h.nx h1, rfl, h2⟩)
  have hat : ∀ wr k, Below w.heap.size w wr → k < g.ws.length → (∀ j, j < k → hRec (g.ws.getD ((t + j) % g.ws.length) []) = none) →
      wr.cell? ⟨B, 0, none⟩ = some (.slice (some ⟨L, 0, none⟩) g.ws.length g.ws.length) ∧ wr.cell? ⟨B, 1, none⟩ = some (.int .i64 t) ∧ wr.frozen? ⟨B, 1, none⟩ = false ∧
      Calls Tryd.prog 21 #[.pointer (some ⟨L, (t + k) % g.ws.length * 2, none⟩)] wr (fun e w' => e = .returned (.bool (hRec (g.ws.getD ((t + k) % g.ws.length) [])).isSome) ∧ wr = w') ∧
      ∀ r, hRec (g.ws.getD ((t + k) % g.ws.length) []) = some r →
        (wr.setCell ⟨B, 1, none⟩ (.int .i64 (((t + k) % g.ws.length : Nat) + 1))).cell? ⟨B, 0, none⟩ = some (.slice (some ⟨L, 0, none⟩) g.ws.length g.ws.length) ∧
        Calls Tryd.prog 22 #[.pointer (some ⟨L, (t + k) % g.ws.length * 2, none⟩)] (wr.setCell ⟨B, 1, none⟩ (.int .i64 (((t + k) % g.ws.length : Nat) + 1))) (fun e w' => e = .returned (.agg #[.string r.key, .int .i64 r.num, .int .i64 r.tm, .int .i64 0]) ∧ FrG lo w w' ∧ FrG lo (wr.setCell ⟨B, 1, none⟩ (.int .i64 (((t + k) % g.ws.length : Nat) + 1))) w' ∧ ∀ cur a b c, w'.heap[w.heap.size]? = some (.cells cur 36 (0, 0)) → NextEnd lo B L w g (.returned (.tuple #[rV r, .int .i64 ((t + k) % g.ws.length : Nat), .bool true])) (((w'.setCell ⟨w.heap.size, 0, none⟩ a).setCell ⟨w.heap.size, 1, none⟩ b).setCell ⟨w.heap.size, 2, none⟩ c)) := by
    intro wr k hb hk hj
    have hG := h.keep hb
    have hi : (t + k) % g.ws.length < g.ws.length := Nat.mod_lt _ hn0
    have hop := isOpen_any (hG.l0 hi) (hG.own _ hi)
    rw [open_is (fun id hid => h.ids _ (mem_getD hi) id hid)] at hop
    refine ⟨hG.c0, hG.c1, hG.fB 1, hop, fun r hr => ?_⟩
    have htk := takeG_at h.nx hj hk hr
    generalize (t + k) % g.ws.length = i at *
    obtain ⟨hT, hTF⟩ := hG.turn (t' := i + 1) (by omega)
    have hx := (hRec_some hr).1
    have e1 : (((i + 1 : Nat) : Int)) = (i : Int) + 1 := by omega
    rw [e1] at hT hTF
    refine ⟨hT.c0, ?_⟩
    refine (take_g hT (by simpa using hi) hx).mono ?_
    rintro e w' ⟨rfl, ⟨vs', h3⟩, h4⟩
    have hF := ((FrG.below hb hloW).trans hTF).trans h4
    refine ⟨rfl, hF, h4, fun cur a b c hR => .inr ⟨r, i, _, i + 1, htk, rfl, ⟨vs', h3.stays (far3 hR (notTurns (by decide)) a b c)⟩, ⟨hF.os, hF.tape, hF.output, by simpa using hF.size, fun k hk => ?_, fun k o hk ho => ?_⟩⟩⟩
    · rw [Below.heap_setCell _ _ _ _ (by simp only; omega), Below.heap_setCell _ _ _ _ (by simp only; omega), Below.heap_setCell _ _ _ _ (by simp only; omega)]; exact hF.low k hk
    · have := some_lt hk
      rw [Below.heap_setCell _ _ _ _ (by simp only; omega), Below.heap_setCell _ _ _ _ (by simp only; omega), Below.heap_setCell _ _ _ _ (by simp only; omega)]; exact hF.kept k o hk ho
  clear h
  generalize hQ : NextEnd lo B L w g = Q at *
  have HA := Lib.hid hat
  clear hat hQ
  have hE : Hid (g.ws.length = g.ws.length) := Lib.hid rfl
  generalize hn : g.ws.length = n at *
  have c0 : w.cell? ⟨B, 0, none⟩ = some (.slice (some ⟨L, 0, none⟩) n n) := (HA.out w 0 (Below.refl _ _) hn0 (fun j hj => by omega)).1
  have hRW : (w.alloc (.cells #[.string ⟨#[]⟩, .int .i64 0, .int .i64 0] 36)).heap[w.heap.size]? = some (.cells #[.string ⟨#[]⟩, .int .i64 0, .int .i64 0] 36 (0, 0)) := heap_alloc_new w _
  have HRW := Lib.hid hRW
  clear hRW
  go_enter Tryd.func9, Tryd.ntmps9
  go_wp2_with fail
  go_loopw [12] (fun at_ wr => ∃ k, k ≤ n ∧ at_ = .int .i64 (k : Nat) ∧ Below w.heap.size w wr ∧ wr.heap[w.heap.size]? = some (.cells #[.string ⟨#[]⟩, .int .i64 0, .int .i64 0] 36 (0, 0)) ∧ ∀ j, j < k → hRec (g.ws.getD ((t + j) % n) []) = none) (fun j _ => n - (intOf j).toNat)
  case atStart => exact ⟨0, Nat.zero_le _, rfl, (Below.refl _ _).alloc (Nat.le_refl _) _, HRW.out, fun j hj => by omega⟩
  case round =>
    clear c0 HRW
    obtain ⟨k, hk, rfl, hb, hR, hj⟩ := hrel
    rename World => wr
    have r0 : wr.cell? ⟨w.heap.size, 0, none⟩ = some (.string ⟨#[]⟩) := by simp [World.cell?, hR]
    have r1 : wr.cell? ⟨w.heap.size, 1, none⟩ = some (.int .i64 0) := by simp [World.cell?, hR]
    have r2 : wr.cell? ⟨w.heap.size, 2, none⟩ = some (.int .i64 0) := by simp [World.cell?, hR]
    have rf : ∀ o, wr.frozen? ⟨w.heap.size, o, none⟩ = false := fun o => by simp [World.frozen?, hR]
    have r3 := rf 0
    have r4 := rf 1
    have r5 := rf 2
    have hwl : w.heap.size < wr.heap.size := some_lt hR
    clear rf
    by_cases hlt : k < n
    · have hlt' : (k : Int) < n := by omega
      obtain ⟨d0, d1, -, -, -⟩ := HA.out wr k hb hlt hj
      have hit : (t + k) % n < n := Nat.mod_lt _ hn0
      have hmod : ((t : Int) + (k : Int)) % (n : Int) = (((t + k) % n : Nat) : Int) := by rw [Int.natCast_emod, Int.natCast_add]
      have hsum : (t : Int) + (k : Int) ≤ 128 := by omega
      have hsum0 : (0 : Int) ≤ (t : Int) + (k : Int) := by omega
      have hnz : ¬ (n : Int) = 0 := by omega
      have hnn : ¬ (n : Int) = -1 := by omega
      have HMod := Lib.hid hmod
      have HJ := Lib.hid hj
      clear hmod hj
      go_wp2_with fail
      go_quiet (fail)
      rw [HMod.out]
      have hb' : Below w.heap.size w (wr.drewN nq) := ⟨hb.os, hb.tape, hb.output, hb.size, hb.block⟩
      obtain ⟨e0, e1, e2, KO, HT⟩ := HA.out (wr.drewN nq) k hb' hlt HJ.out
      have hR' : (wr.drewN nq).heap[w.heap.size]? = some (.cells #[.string ⟨#[]⟩, .int .i64 0, .int .i64 0] 36 (0, 0)) := hR
      have HK := Lib.hid (show hRec (g.ws.getD ((t + k) % n) []) = none → ∀ j, j < k + 1 → hRec (g.ws.getD ((t + j) % n) []) = none from fun h1 j hj => by
        by_cases e : j = k
        · rw [e]; exact h1
        · exact HJ.out j (by omega))
      have hir : (((t + k) % n : Nat) : Int) < (n : Int) := by omega
      have HT1 := Lib.hid HT
      clear HA HMod HJ hR hb d0 d1 r0 r1 r2 r3 r4 r5 HT hit hsum hsum0
      generalize (t + k) % n = i at *
      generalize wr.drewN nq = wq at *
      cases hr : hRec (g.ws.getD i []) with
      | none =>
        rw [hr] at KO
        have HK1 := Lib.hid (HK.out hr)
        have HRR := Lib.hid hR'
        clear HK hr hR'
        go_wp2_with (go_at_call 21; refine KO.mono ?_; rintro e u ⟨rfl, rfl⟩)
        go_roundw
        case rel => exact ⟨k + 1, by omega, by go_num, hb', HRR.out, HK1.out⟩
        case measure => simp [intOf]; omega
      | some r =>
        rw [hr] at KO
        obtain ⟨f0, KT⟩ := HT1.out r hr
        have hRs : (wq.setCell ⟨B, 1, none⟩ (.int .i64 ((i : Nat) + 1))).heap[w.heap.size]? = some (.cells #[.string ⟨#[]⟩, .int .i64 0, .int .i64 0] 36 (0, 0)) := by
          rw [Below.heap_setCell _ _ _ _ (by simp only; omega)]; exact hR'
        have HRR := Lib.hid hRs
        clear HK hr HT1 hb' hRs hR'
        obtain ⟨k0, n0, t0⟩ := r
        simp only [rV] at *
        go_wp2_with first | (go_at_call 21; refine KO.mono ?_; rintro e u ⟨rfl, rfl⟩) | (go_at_call 22; refine KT.mono ?_; rintro e u2 ⟨rfl, hF1, hF2, hE2⟩; refine Hid.out ?_)
        refine Lib.hid ?_
        have hR2 := hF2.kept _ _ HRR.out (notTurns (by decide))
        have HE2 := Lib.hid (fun a b c => hE2 _ a b c hR2)
        have r0 : u2.cell? ⟨w.heap.size, 0, none⟩ = some (.string ⟨#[]⟩) := by simp [World.cell?, hR2]
        have r1 : u2.cell? ⟨w.heap.size, 1, none⟩ = some (.int .i64 0) := by simp [World.cell?, hR2]
        have r2 : u2.cell? ⟨w.heap.size, 2, none⟩ = some (.int .i64 0) := by simp [World.cell?, hR2]
        have rf : ∀ o, u2.frozen? ⟨w.heap.size, o, none⟩ = false := fun o => by simp [World.frozen?, hR2]
        have r3 := rf 0
        have r4 := rf 1
        have r5 := rf 2
        have hwl2 : w.heap.size < u2.heap.size := some_lt hR2
        have hfr := field_rec k0 n0 t0 0 u2
        clear rf hF1 hF2 hE2 hR2 HRR KO KT f0 e0 e1 e2
        go_wp2_with fail
        exact bodyPost_ret (v := .tuple #[.agg #[.string k0, .int .i64 n0, .int .i64 t0], .int .i64 i, .bool true]) (by simp [results, Tryd.results9, go_sem, r0, r1, r2]) rfl (HE2.out _ _ _)
    · have hlt' : ¬ (k : Int) < n := by omega
      obtain rfl : k = n := by omega
      have HX := Lib.hid (fun w' (hw : Below w.heap.size w w') => HN.out w' hj hw)
      have HBB := Lib.hid (show Below w.heap.size w ((((wr.setCell ⟨w.heap.size, 0, none⟩ (.string ⟨#[]⟩)).setCell ⟨w.heap.size, 1, none⟩ (.int .i64 0)).setCell ⟨w.heap.size, 2, none⟩ (.int .i64 0))) from ((hb.setCell (p := ⟨w.heap.size, 0, none⟩) (Nat.le_refl _) _).setCell (p := ⟨w.heap.size, 1, none⟩) (Nat.le_refl _) _).setCell (p := ⟨w.heap.size, 2, none⟩) (Nat.le_refl _) _)
      clear hj hb hR HN HA
      go_wp2_with fail
      exact bodyPost_ret (v := .tuple #[.agg #[.string ⟨#[]⟩, .int .i64 0, .int .i64 0], .int .i64 0, .bool false]) (by simp [results, Tryd.results9, go_sem, r0, r1, r2]) rfl (HX.out _ HBB.out)
end
end Go.Proofs.YtneglanmigifhaaDoor
