/- atWork: a node with its states in a map. -/
import Derived.Test.YtppkjiihmlphbaaGreatDoorKd
import Derived.Test.YtppkjiihmlphbaaGreatDoorPureM
import Derived.Maps.OwnIn
namespace Go.Proofs.YtppkjiihmlphbaaGreatDoor
open Go.RowKit
open Go.Maps (string_keyed)
set_option linter.unusedVariables false

/-- How a state reads in the map. -/
def hdD (h : Hd) : DataW Unit := .agg [.lit (.int .i64 h.nd), .lit (.string h.key.data.toList), .lit (.int .i64 h.a), .lit (.int .i64 h.b)]
open Classical in
noncomputable def hdR (v : Value) : Option (DataW Unit × List MemPlace) := if h : ∃ x : Hd, v = hdV x then some (hdD h.choose, []) else none
theorem hdV_inj {x y : Hd} (h : hdV x = hdV y) : x = y := by
  obtain ⟨a, b, c, d⟩ := x
  obtain ⟨a', b', c', d'⟩ := y
  simp only [hdV, Value.agg.injEq, Array.mk.injEq, List.cons.injEq, Value.int.injEq, Value.string.injEq, true_and, and_true] at h
  obtain ⟨h1, h2, h3, h4⟩ := h
  rw [h1, h2, h3, h4]
theorem hdD_inj {x y : Hd} (h : hdD x = hdD y) : x = y := by
  obtain ⟨a, b, c, d⟩ := x
  obtain ⟨a', b', c', d'⟩ := y
  simp only [hdD, DataW.agg.injEq, List.cons.injEq, DataW.lit.injEq, Lit.int.injEq, Lit.string.injEq, true_and, and_true] at h
  obtain ⟨h1, h2, h3, h4⟩ := h
  rw [h1, h3, h4, WideShapes.bytes_inj h2]
theorem hdR_mk (h : Hd) : hdR (hdV h) = some (hdD h, []) := by
  have hx : ∃ x : Hd, hdV h = hdV x := ⟨h, rfl⟩
  unfold hdR
  rw [dif_pos hx, ← hdV_inj hx.choose_spec]
theorem hdR_inv {v : Value} {h : Hd} {ps : List MemPlace} (e : hdR v = some (hdD h, ps)) : v = hdV h := by
  unfold hdR at e
  split at e
  · rename_i hx
    injection e with e
    injection e with e1 e2
    have := hdD_inj e1
    rw [hx.choose_spec, this]
  · cases e

/-- A map that says what the states are. -/
structure MapIs (D : DataW Unit) (σ : Sts) : Prop where
  map : Maps.IsMap D
  has : ∀ k : ByteArray, Maps.has D (.string k.data.toList) = (σ k).isSome
  at_ : ∀ k : ByteArray, D.atKey (.string k.data.toList) (hdD hd0) = hdD ((σ k).getD hd0)
theorem mapIs_nil : MapIs (.map []) (fun _ => none) := ⟨Maps.isMap_empty, fun _ => rfl, fun _ => rfl⟩
theorem MapIs.put {D : DataW Unit} {σ : Sts} (h : MapIs D σ) (k : ByteArray) (x : Hd) : MapIs (D.put (.string k.data.toList) (hdD x)) (fun q => if q = k then some x else σ q) := by
  refine ⟨h.map.put _ _, fun q => ?_, fun q => ?_⟩
  · by_cases hq : q = k
    · subst hq
      rw [Maps.has_put_same h.map (show WideAt.IsKeyLit (.string _) from trivial), if_pos rfl]; rfl
    · rw [Maps.has_put_other (fun e => hq (by injection e with e; exact WideShapes.bytes_inj e)), if_neg hq]; exact h.has q
  · by_cases hq : q = k
    · subst hq
      rw [Maps.atKey_put_same h.map (show WideAt.IsKeyLit (.string _) from trivial), if_pos rfl]; rfl
    · rw [Maps.atKey_put_other (fun e => hq (by injection e with e; exact WideShapes.bytes_inj e)), if_neg hq]; exact h.at_ q

theorem own_block {w w' : World} {P : Program} {k : TypeId} {R : Value → Option (DataW Unit × List MemPlace)} {b n : Nat} {D : DataW Unit} (h : w.ownsMap P k R b n D) (hb : w'.heap[b]? = w.heap[b]?) : w'.ownsMap P k R b n D := by
  obtain ⟨es, cl, h1, h2⟩ := h
  exact ⟨es, cl, hb.trans h1, h2⟩

/-- A node at work: its states' map, and the node itself, in memory. -/
structure WkAt (w : World) (sb nb M n : Nat) (nd : Nd) (fa : Option Addr) (fc : Nat) (σ : Sts) : Prop where
  own : ∃ D, w.ownsMap Tryz.prog 9 hdR M n D ∧ MapIs D σ
  st : w.cell? ⟨sb, 0, none⟩ = some (.map (some M))
  c0 : w.cell? ⟨nb, 0, none⟩ = some (.int .i64 nd.k)
  c1 : w.cell? ⟨nb, 1, none⟩ = some (.slice fa nd.fs.length fc)
  c2 : w.cell? ⟨nb, 2, none⟩ = some (.string nd.tx)
  c3 : w.cell? ⟨nb, 3, none⟩ = some (.int .i64 nd.n)
theorem WkAt.lt {w : World} {sb nb M n : Nat} {nd : Nd} {fa : Option Addr} {fc : Nat} {σ : Sts} (h : WkAt w sb nb M n nd fa fc σ) : M < w.heap.size ∧ sb < w.heap.size ∧ nb < w.heap.size := by
  obtain ⟨D, h1, h2⟩ := h.own
  exact ⟨h1.lt, cell_lt h.st, cell_lt h.c0⟩
theorem map_no_cell {w : World} {P : Program} {k : TypeId} {R : Value → Option (DataW Unit × List MemPlace)} {b n o : Nat} {D : DataW Unit} {v : Value} (h : w.ownsMap P k R b n D) : w.cell? ⟨b, o, none⟩ ≠ some v := by
  obtain ⟨es, cl, h1, h2⟩ := h
  simp [World.cell?, h1]
theorem WkAt.ne {w : World} {sb nb M n : Nat} {nd : Nd} {fa : Option Addr} {fc : Nat} {σ : Sts} (h : WkAt w sb nb M n nd fa fc σ) : sb ≠ M ∧ nb ≠ M := by
  obtain ⟨D, h1, h2⟩ := h.own
  exact ⟨fun e => map_no_cell h1 (e ▸ h.st), fun e => map_no_cell h1 (e ▸ h.c0)⟩
theorem WkAt.keep {w w' : World} {sb nb M n : Nat} {nd : Nd} {fa : Option Addr} {fc : Nat} {σ : Sts} (h : WkAt w sb nb M n nd fa fc σ) (hb : Below w.heap.size w w') : WkAt w' sb nb M n nd fa fc σ := by
  obtain ⟨D, h1, h2⟩ := h.own
  have k := Keeps.of hb
  exact ⟨⟨D, own_block h1 (hb.block _ h1.lt), h2⟩, k _ _ h.st, k _ _ h.c0, k _ _ h.c1, k _ _ h.c2, k _ _ h.c3⟩

/-- A look-up whose answer is known. -/
theorem lookup_held {P : Program} (w : World) {ops : Array Oper} {rest : List Oper} {o : Oper} {a : Act} {Q : Exit → Act → World → Prop} (hg : o.guard = none) (m x : Operand) (t : TypeId) (hop : o.op = Op.lookup t m x true)
    (k e : TypeId) (K : Maps.Keyed P k) (ht : P.underlying t = some (.map k e)) (hz : (zeroValue e).run P w = .ok (hdV hd0) w) (b n : Nat) (D : DataW Unit)
    (hm : a.eval m = .map (some b)) (hown : w.ownsMap P k hdR b n D) (key : Value) (kl : Lit) (hx : a.eval x = key) (hkey : keyOf P k key = some kl) (h0 : Int) (h1 : ByteArray) (h2 h3 : Int) (r : Bool) (hat : D.atKey kl (hdD hd0) = hdD ⟨h0, h1, h2, h3⟩) (hhas : Maps.has D kl = r)
    (hK : wpList P ops Q rest (a.put o.dst (.tuple #[.agg #[.int .i64 h0, .string h1, .int .i64 h2, .int .i64 h3], .bool r])) w) :
    wpList P ops Q (o :: rest) a w :=
  wpList_lookup_own_ok w hg m x t hop k e K ht hdR hz (hdD hd0) [] (hdR_mk hd0) b n D hm hown key kl hx hkey (fun v ps hv => by
    rw [hat] at hv
    rw [hdR_inv hv, hhas]; exact hK)

set_option maxRecDepth 100000 in
set_option maxHeartbeats 4000000 in
theorem work_any {w : World} (hg : Gd w) {sb nb M n : Nat} {nd : Nd} {fa : Option Addr} {fc : Nat} {σ : Sts} (hw : WkAt w sb nb M n nd fa fc σ) (hσ : StOk σ) (hn : n < maxLen) (r : Rc) (input : Int) (hr : RcOk r) (ht : nd.tx.size ≤ 9223372036854775807) (hin : 0 ≤ input ∧ input < 100) (acc : List Rc) :
    Calls Tryz.prog 46 #[rcV r, .int .i64 input, .pointer (some ⟨sb, 0, none⟩), .pointer (some ⟨nb, 0, none⟩)] w fun e w' => ∃ A cap out, e = .returned (.slice A out.length cap) ∧ out.length ≤ 67108863 ∧ (stepP nd (acc, σ) (r, input)).1 = acc ++ out ∧
      w'.ownsRow w.heap.size 33 3 (.slice A out.length cap) out.length (rcells out) ∧ WkAt w' sb nb M (n + 1) nd fa fc (stepP nd (acc, σ) (r, input)).2 ∧ Fr [M] w w' := by
  obtain ⟨D, hown, hD⟩ := hw.own
  have hhas := hD.has r.key
  have hat := hD.at_ r.key
  have hne := hw.ne
  have hlt := hw.lt
  have hs : HdOk ((σ r.key).getD hd0) := by
    cases e : σ r.key with
    | none => exact hd0_ok
    | some h => exact hσ _ _ e
  have hkey : keyOf Tryz.prog 9 (.string r.key) = some (.string r.key.data.toList) := WideMaps.keyOf_string_mk Tryz.underlying9 (by have := hr.key; unfold maxLen; omega)
  have hK := string_keyed (P := Tryz.prog) (k := 9) Tryz.underlying9
  have hap := fun (w1 : World) (hb : Below w.heap.size w w1) => apply_any (hg.below hb) nd fa fc ((σ r.key).getD hd0) (σ r.key).isSome r input hr hs ht hin
  have hst1 : (stepP nd (acc, σ) (r, input)).1 = acc ++ (appP nd ((σ r.key).getD hd0) (σ r.key).isSome r input).1 := rfl
  have hst2 : (stepP nd (acc, σ) (r, input)).2 = if (appP nd ((σ r.key).getD hd0) (σ r.key).isSome r input).2.2 then fun k => if k = r.key then some (appP nd ((σ r.key).getD hd0) (σ r.key).isSome r input).2.1 else σ k else σ := rfl
  have hlen := app_len nd ((σ r.key).getD hd0) (σ r.key).isSome r input
  generalize appP nd ((σ r.key).getD hd0) (σ r.key).isSome r input = ap at *
  generalize stepP nd (acc, σ) (r, input) = sp at *
  obtain ⟨out, hd', h'⟩ := ap
  obtain ⟨s1, s2⟩ := sp
  simp only at hst1 hst2 hap hlen ⊢
  subst hst1 hst2
  have st := hw.st
  have c0 := hw.c0
  have c1 := hw.c1
  have c2 := hw.c2
  have c3 := hw.c3
  generalize hq1 : (σ r.key).isSome = hb at *
  generalize hq2 : (σ r.key).getD hd0 = hh at *
  obtain ⟨key, num, time⟩ := r
  obtain ⟨hn0, hk0, ha0, hb0⟩ := hh
  simp only [rcV, hdV, ndV] at *
  have HH := Lib.hid hhas
  have HT := Lib.hid hat
  have HP := Lib.hid hap
  clear hhas hat hap hq1 hq2
  obtain ⟨n1, n2⟩ := hne
  obtain ⟨l1, l2, l3⟩ := hlt
  have hB0 : Below w.heap.size w ((w.alloc (.cells #[.string key, .int .i64 num, .int .i64 time] 33)).alloc (.cells #[.int .i64 hn0, .string hk0, .int .i64 ha0, .int .i64 hb0] 94)) := ((Below.refl _ w).alloc (Nat.le_refl _) _).alloc (by simp) _
  have hML : M ≠ w.heap.size + 1 := by omega
  obtain ⟨hd0', hd1', hd2', hd3'⟩ := hd'
  simp only at HP
  cases h' with
  | true =>
    go_enter Tryz.func46, Tryz.ntmps46
    go_wp2_with (at_lookup; refine lookup_held _ rfl _ _ 92 rfl 9 94 hK Tryz.underlying92 (Tryz.zeroValue94 _) M n D rfl (hown.alloc _) _ _ rfl hkey hn0 hk0 ha0 hb0 hb HT.out HH.out ?_)
    refine (HP.out _ hB0).mono ?_
    rintro e w1 ⟨A, cap, rfl, hown1, hb1⟩
    obtain ⟨hc, hf⟩ := bcell hb1
    have hB1 : Below w.heap.size w w1 := hB0.trans (hb1.mono hB0.size)
    have hs1 : w.heap.size + 1 + 1 ≤ w1.heap.size := by have := hb1.size; simpa using this
    have ho1 : w1.ownsMap Tryz.prog 9 hdR M n D := own_block hown (hB1.block _ l1)
    have st1 := Keeps.of hB1 _ _ st
    have hsne : sb ≠ w.heap.size + 1 := by omega
    have hM4 : ∀ (u0 u1 u2 u3 : Value), ((((w1.setCell ⟨w.heap.size + 1, 0, none⟩ u0).setCell ⟨w.heap.size + 1, 1, none⟩ u1).setCell ⟨w.heap.size + 1, 2, none⟩ u2).setCell ⟨w.heap.size + 1, 3, none⟩ u3).ownsMap Tryz.prog 9 hdR M n D := fun u0 u1 u2 u3 =>
      own_block ho1 ((Below.heap_setCell _ _ _ _ hML).trans ((Below.heap_setCell _ _ _ _ hML).trans ((Below.heap_setCell _ _ _ _ hML).trans (Below.heap_setCell _ _ _ _ hML))))
    go_wp2_with (at_mapUpdate; refine wpList_mapUpdate_own _ rfl _ _ _ 92 rfl 9 94 hK Tryz.underlying92 _ M n D rfl (hM4 _ _ _ _) hn _ _ _ rfl rfl hkey (hdD ⟨hd0', hd1', hd2', hd3'⟩) [] (hdR_mk ⟨hd0', hd1', hd2', hd3'⟩) ?_)
    intro w3 hown3 hgrow3
    have hB4 : Below w.heap.size w ((((w1.setCell ⟨w.heap.size + 1, 0, none⟩ (.int .i64 hd0')).setCell ⟨w.heap.size + 1, 1, none⟩ (.string hd1')).setCell ⟨w.heap.size + 1, 2, none⟩ (.int .i64 hd2')).setCell ⟨w.heap.size + 1, 3, none⟩ (.int .i64 hd3')) := (((hB1.setCell (by simp) _).setCell (by simp) _).setCell (by simp) _).setCell (by simp) _
    have F3 : Fr [M] w w3 := ⟨hgrow3.os.trans hB4.os, hgrow3.tape.trans hB4.tape, hgrow3.output.trans hB4.output, Nat.le_trans hB4.size hgrow3.size, fun k hk hx => (hgrow3.block k (Nat.lt_of_lt_of_le hk hB4.size) (fun e => hx (by injection e with e; simp [e]))).trans (hB4.block k hk)⟩
    have W3 : WkAt w3 sb nb M (n + 1) nd fa fc (fun k => if k = key then some ⟨hd0', hd1', hd2', hd3'⟩ else σ k) :=
      ⟨⟨_, hown3, hD.put key ⟨hd0', hd1', hd2', hd3'⟩⟩, (F3.cell l2 (by simp [n1])).trans st, (F3.cell l3 (by simp [n2])).trans c0, (F3.cell l3 (by simp [n2])).trans c1, (F3.cell l3 (by simp [n2])).trans c2, (F3.cell l3 (by simp [n2])).trans c3⟩
    have R3 : w3.ownsRow w.heap.size 33 3 (.slice A out.length cap) out.length (rcells out) := by
      have hp : w.heap.size + 1 < ((w.alloc (.cells #[.string key, .int .i64 num, .int .i64 time] 33)).alloc (.cells #[.int .i64 hn0, .string hk0, .int .i64 ha0, .int .i64 hb0] 94)).heap.size := by simp
      have r4 := own_set (p := ⟨w.heap.size + 1, 3, none⟩) (own_set (p := ⟨w.heap.size + 1, 2, none⟩) (own_set (p := ⟨w.heap.size + 1, 1, none⟩) (own_set (p := ⟨w.heap.size + 1, 0, none⟩) hown1 hp (.int .i64 hd0')) hp (.string hd1')) hp (.int .i64 hd2')) hp (.int .i64 hd3')
      exact (r4.kept hgrow3 (.inr (fun e => by have := (r4.lt _ e).1; simp at this; omega))).mono (by simp; omega)
    clear hgrow3 hown3 hM4
    go_wp2
    go_ret
    exact ⟨A, cap, out, rfl, hlen, rfl, R3, W3, F3⟩
  | false =>
    go_enter Tryz.func46, Tryz.ntmps46
    go_wp2_with (at_lookup; refine lookup_held _ rfl _ _ 92 rfl 9 94 hK Tryz.underlying92 (Tryz.zeroValue94 _) M n D rfl (hown.alloc _) _ _ rfl hkey hn0 hk0 ha0 hb0 hb HT.out HH.out ?_)
    refine (HP.out _ hB0).mono ?_
    rintro e w1 ⟨A, cap, rfl, hown1, hb1⟩
    obtain ⟨hc, hf⟩ := bcell hb1
    have hB1 : Below w.heap.size w w1 := hB0.trans (hb1.mono hB0.size)
    have hs1 : w.heap.size + 1 + 1 ≤ w1.heap.size := by have := hb1.size; simpa using this
    go_wp2
    go_ret
    have hB4 : Below w.heap.size w ((((w1.setCell ⟨w.heap.size + 1, 0, none⟩ (.int .i64 hd0')).setCell ⟨w.heap.size + 1, 1, none⟩ (.string hd1')).setCell ⟨w.heap.size + 1, 2, none⟩ (.int .i64 hd2')).setCell ⟨w.heap.size + 1, 3, none⟩ (.int .i64 hd3')) := (((hB1.setCell (by simp) _).setCell (by simp) _).setCell (by simp) _).setCell (by simp) _
    have hp : w.heap.size + 1 < ((w.alloc (.cells #[.string key, .int .i64 num, .int .i64 time] 33)).alloc (.cells #[.int .i64 hn0, .string hk0, .int .i64 ha0, .int .i64 hb0] 94)).heap.size := by simp
    have r4 := own_set (p := ⟨w.heap.size + 1, 3, none⟩) (own_set (p := ⟨w.heap.size + 1, 2, none⟩) (own_set (p := ⟨w.heap.size + 1, 1, none⟩) (own_set (p := ⟨w.heap.size + 1, 0, none⟩) hown1 hp (.int .i64 hd0')) hp (.string hd1')) hp (.int .i64 hd2')) hp (.int .i64 hd3')
    have W4 := hw.keep hB4
    obtain ⟨D4, o4, m4⟩ := W4.own
    exact ⟨A, cap, out, rfl, hlen, rfl, r4.mono (by simp; omega), ⟨⟨D4, o4.mono (by omega), m4⟩, W4.st, W4.c0, W4.c1, W4.c2, W4.c3⟩, Fr.below hB4⟩
end Go.Proofs.YtppkjiihmlphbaaGreatDoor
