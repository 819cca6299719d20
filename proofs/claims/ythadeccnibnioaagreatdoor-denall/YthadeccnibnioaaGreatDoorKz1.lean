import Derived.Test.YthadeccnibnioaaGreatDoorKd
import Derived.Test.YthadeccnibnioaaGreatDoorHp
import Derived.Maps.OwnIn
import Derived.Laws.AppendOwnNone
/- atWork: a node with its states in a map. -/
namespace Go.Proofs.YthadeccnibnioaaGreatDoor
open Go.RowKit
open Go.Maps (string_keyed)
set_option linter.unusedVariables false

/-- How a state reads in the map. -/
def hdD (h : Hd) : DataW Unit := .agg [.lit (.int .i64 h.nd), .lit (.string h.key.data.toList), .lit (.int .i64 h.a), .lit (.int .i64 h.b)]
open Classical in
noncomputable def hdR (v : Value) : Option (DataW Unit × List MemPlace) := if h : ∃ x : Hd, v = hdV x then some (hdD h.choose, []) else none
theorem hdV_inj {x y : Hd} (h : hdV x = hdV y) : x = y := by
  obtain ⟨a, b, c, d⟩ := x
  obtain ⟨a', b', c', d'⟩ := y
  simp only [hdV, Value.agg.injEq, Array.mk.injEq, List.cons.injEq, Value.int.injEq, Value.string.injEq, true_and, and_true] at h
  obtain ⟨h1, h2, h3, h4⟩ := h
  rw [h1, h2, h3, h4]
theorem hdD_inj {x y : Hd} (h : hdD x = hdD y) : x = y := by
  obtain ⟨a, b, c, d⟩ := x
  obtain ⟨a', b', c', d'⟩ := y
  simp only [hdD, DataW.agg.injEq, List.cons.injEq, DataW.lit.injEq, Lit.int.injEq, Lit.string.injEq, true_and, and_true] at h
  obtain ⟨h1, h2, h3, h4⟩ := h
  rw [h1, h3, h4, WideShapes.bytes_inj h2]
theorem hdR_mk (h : Hd) : hdR (hdV h) = some (hdD h, []) := by
  have hx : ∃ x : Hd, hdV h = hdV x := ⟨h, rfl⟩
  unfold hdR
  rw [dif_pos hx, ← hdV_inj hx.choose_spec]
theorem hdR_inv {v : Value} {h : Hd} {ps : List MemPlace} (e : hdR v = some (hdD h, ps)) : v = hdV h := by
  unfold hdR at e
  split at e
  · rename_i hx
    injection e with e
    injection e with e1 e2
    have := hdD_inj e1
    rw [hx.choose_spec, this]
  · cases e

/-- A map that says what the states are. -/
structure MapIs (D : DataW Unit) (σ : Sts) : Prop where
  map : Maps.IsMap D
  has : ∀ k : ByteArray, Maps.has D (.string k.data.toList) = (σ k).isSome
  at_ : ∀ k : ByteArray, D.atKey (.string k.data.toList) (hdD hd0) = hdD ((σ k).getD hd0)
theorem mapIs_nil : MapIs (.map []) (fun _ => none) := ⟨Maps.isMap_empty, fun _ => rfl, fun _ => rfl⟩
theorem MapIs.put {D : DataW Unit} {σ : Sts} (h : MapIs D σ) (k : ByteArray) (x : Hd) : MapIs (D.put (.string k.data.toList) (hdD x)) (fun q => if q = k then some x else σ q) := by
  refine ⟨h.map.put _ _, fun q => ?_, fun q => ?_⟩
  · by_cases hq : q = k
    · subst hq
      rw [Maps.has_put_same h.map (show WideAt.IsKeyLit (.string _) from trivial), if_pos rfl]; rfl
    · rw [Maps.has_put_other (fun e => hq (by injection e with e; exact WideShapes.bytes_inj e)), if_neg hq]; exact h.has q
  · by_cases hq : q = k
    · subst hq
      rw [Maps.atKey_put_same h.map (show WideAt.IsKeyLit (.string _) from trivial), if_pos rfl]; rfl
    · rw [Maps.atKey_put_other (fun e => hq (by injection e with e; exact WideShapes.bytes_inj e)), if_neg hq]; exact h.at_ q

theorem own_block {w w' : World} {P : Program} {k : TypeId} {R : Value → Option (DataW Unit × List MemPlace)} {b n : Nat} {D : DataW Unit} (h : w.ownsMap P k R b n D) (hb : w'.heap[b]? = w.heap[b]?) : w'.ownsMap P k R b n D := by
  obtain ⟨es, cl, h1, h2⟩ := h
  exact ⟨es, cl, hb.trans h1, h2⟩

/-- A node at work: its states' map, and the node itself, in memory. -/
structure WkAt (w : World) (sb nb M n : Nat) (nd : Nd) (fa : Option Addr) (fc : Nat) (σ : Sts) : Prop where
  own : ∃ D, w.ownsMap Tryz.prog 9 hdR M n D ∧ MapIs D σ
  st : w.cell? ⟨sb, 0, none⟩ = some (.map (some M))
  c0 : w.cell? ⟨nb, 0, none⟩ = some (.int .i64 nd.k)
  c1 : w.cell? ⟨nb, 1, none⟩ = some (.slice fa nd.fs.length fc)
  c2 : w.cell? ⟨nb, 2, none⟩ = some (.string nd.tx)
  c3 : w.cell? ⟨nb, 3, none⟩ = some (.int .i64 nd.n)
theorem WkAt.lt {w : World} {sb nb M n : Nat} {nd : Nd} {fa : Option Addr} {fc : Nat} {σ : Sts} (h : WkAt w sb nb M n nd fa fc σ) : M < w.heap.size ∧ sb < w.heap.size ∧ nb < w.heap.size := by
  obtain ⟨D, h1, h2⟩ := h.own
  exact ⟨h1.lt, cell_lt h.st, cell_lt h.c0⟩
theorem map_no_cell {w : World} {P : Program} {k : TypeId} {R : Value → Option (DataW Unit × List MemPlace)} {b n o : Nat} {D : DataW Unit} {v : Value} (h : w.ownsMap P k R b n D) : w.cell? ⟨b, o, none⟩ ≠ some v := by
  obtain ⟨es, cl, h1, h2⟩ := h
  simp [World.cell?, h1]
theorem WkAt.ne {w : World} {sb nb M n : Nat} {nd : Nd} {fa : Option Addr} {fc : Nat} {σ : Sts} (h : WkAt w sb nb M n nd fa fc σ) : sb ≠ M ∧ nb ≠ M := by
  obtain ⟨D, h1, h2⟩ := h.own
  exact ⟨fun e => map_no_cell h1 (e ▸ h.st), fun e => map_no_cell h1 (e ▸ h.c0)⟩
theorem WkAt.keep {w w' : World} {sb nb M n : Nat} {nd : Nd} {fa : Option Addr} {fc : Nat} {σ : Sts} (h : WkAt w sb nb M n nd fa fc σ) (hb : Below w.heap.size w w') : WkAt w' sb nb M n nd fa fc σ := by
  obtain ⟨D, h1, h2⟩ := h.own
  have k := Keeps.of hb
  exact ⟨⟨D, own_block h1 (hb.block _ h1.lt), h2⟩, k _ _ h.st, k _ _ h.c0, k _ _ h.c1, k _ _ h.c2, k _ _ h.c3⟩

/-- A look-up whose answer is known. -/
theorem lookup_held {P : Program} (w : World) {ops : Array Oper} {rest : List Oper} {o : Oper} {a : Act} {Q : Exit → Act → World → Prop} (hg : o.guard = none) (m x : Operand) (t : TypeId) (hop : o.op = Op.lookup t m x true)
    (k e : TypeId) (K : Maps.Keyed P k) (ht : P.underlying t = some (.map k e)) (hz : (zeroValue e).run P w = .ok (hdV hd0) w) (b n : Nat) (D : DataW Unit)
    (hm : a.eval m = .map (some b)) (hown : w.ownsMap P k hdR b n D) (key : Value) (kl : Lit) (hx : a.eval x = key) (hkey : keyOf P k key = some kl) (h0 : Int) (h1 : ByteArray) (h2 h3 : Int) (r : Bool) (hat : D.atKey kl (hdD hd0) = hdD ⟨h0, h1, h2, h3⟩) (hhas : Maps.has D kl = r)
    (hK : wpList P ops Q rest (a.put o.dst (.tuple #[.agg #[.int .i64 h0, .string h1, .int .i64 h2, .int .i64 h3], .bool r])) w) :
    wpList P ops Q (o :: rest) a w :=
  wpList_lookup_own_ok w hg m x t hop k e K ht hdR hz (hdD hd0) [] (hdR_mk hd0) b n D hm hown key kl hx hkey (fun v ps hv => by
    rw [hat] at hv
    rw [hdR_inv hv, hhas]; exact hK)

set_option maxRecDepth 100000 in
set_option maxHeartbeats 4000000 in
theorem work_any {w : World} (hg : Gd w) {sb nb M n : Nat} {nd : Nd} {fa : Option Addr} {fc : Nat} {σ : Sts} (hw : WkAt w sb nb M n nd fa fc σ) (hσ : StOk σ) (hn : n < maxLen) (r : Rc) (input : Int) (hr : RcOk r) (ht : nd.tx.size ≤ 9223372036854775807) (hin : 0 ≤ input ∧ input < 100) (acc : List Rc) :
    Calls Tryz.prog 161 #[rcV r, .int .i64 input, .pointer (some ⟨sb, 0, none⟩), .pointer (some ⟨nb, 0, none⟩)] w fun e w' => ∃ A cap out, e = .returned (.slice A out.length cap) ∧ out.length ≤ 67108863 ∧ (stepP nd (acc, σ) (r, input)).1 = acc ++ out ∧
      w'.ownsRow w.heap.size 164 3 (.slice A out.length cap) out.length (rcells out) ∧ WkAt w' sb nb M (n + 1) nd fa fc (stepP nd (acc, σ) (r, input)).2 ∧ Fr [M] w w' := by
  obtain ⟨D, hown, hD⟩ := hw.own
  have hhas := hD.has r.key
  have hat := hD.at_ r.key
  have hne := hw.ne
  have hlt := hw.lt
  have hs : HdOk ((σ r.key).getD hd0) := by
    cases e : σ r.key with
    | none => exact hd0_ok
    | some h => exact hσ _ _ e
  have hkey : keyOf Tryz.prog 9 (.string r.key) = some (.string r.key.data.toList) := WideMaps.keyOf_string_mk Tryz.underlying9 (by have := hr.key; unfold maxLen; omega)
  have hK := string_keyed (P := Tryz.prog) (k := 9) Tryz.underlying9
  have hap := fun (w1 : World) (hb : Below w.heap.size w w1) => apply_any (hg.below hb) nd fa fc ((σ r.key).getD hd0) (σ r.key).isSome r input hr hs ht hin
  have hst1 : (stepP nd (acc, σ) (r, input)).1 = acc ++ (appP nd ((σ r.key).getD hd0) (σ r.key).isSome r input).1 := rfl
  have hst2 : (stepP nd (acc, σ) (r, input)).2 = if (appP nd ((σ r.key).getD hd0) (σ r.key).isSome r input).2.2 then fun k => if k = r.key then some (appP nd ((σ r.key).getD hd0) (σ r.key).isSome r input).2.1 else σ k else σ := rfl
  have hlen := app_len nd ((σ r.key).getD hd0) (σ r.key).isSome r input
  generalize appP nd ((σ r.key).getD hd0) (σ r.key).isSome r input = ap at *
  generalize stepP nd (acc, σ) (r, input) = sp at *
  obtain ⟨out, hd', h'⟩ := ap
  obtain ⟨s1, s2⟩ := sp
  simp only at hst1 hst2 hap hlen ⊢
  subst hst1 hst2
  have st := hw.st
  have c0 := hw.c0
  have c1 := hw.c1
  have c2 := hw.c2
  have c3 := hw.c3
  generalize hq1 : (σ r.key).isSome = hb at *
  generalize hq2 : (σ r.key).getD hd0 = hh at *
  obtain ⟨key, num, time⟩ := r
  obtain ⟨hn0, hk0, ha0, hb0⟩ := hh
  simp only [rcV, hdV, ndV] at *
  have HH := Lib.hid hhas
  have HT := Lib.hid hat
  have HP := Lib.hid hap
  clear hhas hat hap hq1 hq2
  obtain ⟨n1, n2⟩ := hne
  obtain ⟨l1, l2, l3⟩ := hlt
  have hB0 : Below w.heap.size w ((w.alloc (.cells #[.string key, .int .i64 num, .int .i64 time] 164)).alloc (.cells #[.int .i64 hn0, .string hk0, .int .i64 ha0, .int .i64 hb0] 162)) := ((Below.refl _ w).alloc (Nat.le_refl _) _).alloc (by simp) _
  have hML : M ≠ w.heap.size + 1 := by omega
  obtain ⟨hd0', hd1', hd2', hd3'⟩ := hd'
  simp only at HP
  cases h' with
  | true =>
    go_enter Tryz.func161, Tryz.ntmps161
    go_wp2_with (at_lookup; refine lookup_held _ rfl _ _ 232 rfl 9 162 hK Tryz.underlying232 (Tryz.zeroValue162 _) M n D rfl (hown.alloc _) _ _ rfl hkey hn0 hk0 ha0 hb0 hb HT.out HH.out ?_)
    refine (HP.out _ hB0).mono ?_
    rintro e w1 ⟨A, cap, rfl, hown1, hb1⟩
    obtain ⟨hc, hf⟩ := bcell hb1
    have hB1 : Below w.heap.size w w1 := hB0.trans (hb1.mono hB0.size)
    have hs1 : w.heap.size + 1 + 1 ≤ w1.heap.size := by have := hb1.size; simpa using this
    have ho1 : w1.ownsMap Tryz.prog 9 hdR M n D := own_block hown (hB1.block _ l1)
    have st1 := Keeps.of hB1 _ _ st
    have hsne : sb ≠ w.heap.size + 1 := by omega
    have hM4 : ∀ (u0 u1 u2 u3 : Value), ((((w1.setCell ⟨w.heap.size + 1, 0, none⟩ u0).setCell ⟨w.heap.size + 1, 1, none⟩ u1).setCell ⟨w.heap.size + 1, 2, none⟩ u2).setCell ⟨w.heap.size + 1, 3, none⟩ u3).ownsMap Tryz.prog 9 hdR M n D := fun u0 u1 u2 u3 =>
      own_block ho1 ((Below.heap_setCell _ _ _ _ hML).trans ((Below.heap_setCell _ _ _ _ hML).trans ((Below.heap_setCell _ _ _ _ hML).trans (Below.heap_setCell _ _ _ _ hML))))
    go_wp2_with (at_mapUpdate; refine wpList_mapUpdate_own _ rfl _ _ _ 232 rfl 9 162 hK Tryz.underlying232 _ M n D rfl (hM4 _ _ _ _) hn _ _ _ rfl rfl hkey (hdD ⟨hd0', hd1', hd2', hd3'⟩) [] (hdR_mk ⟨hd0', hd1', hd2', hd3'⟩) ?_)
    intro w3 hown3 hgrow3
    have hB4 : Below w.heap.size w ((((w1.setCell ⟨w.heap.size + 1, 0, none⟩ (.int .i64 hd0')).setCell ⟨w.heap.size + 1, 1, none⟩ (.string hd1')).setCell ⟨w.heap.size + 1, 2, none⟩ (.int .i64 hd2')).setCell ⟨w.heap.size + 1, 3, none⟩ (.int .i64 hd3')) := (((hB1.setCell (by simp) _).setCell (by simp) _).setCell (by simp) _).setCell (by simp) _
    have F3 : Fr [M] w w3 := ⟨hgrow3.os.trans hB4.os, hgrow3.tape.trans hB4.tape, hgrow3.output.trans hB4.output, Nat.le_trans hB4.size hgrow3.size, fun k hk hx => (hgrow3.block k (Nat.lt_of_lt_of_le hk hB4.size) (fun e => hx (by injection e with e; simp [e]))).trans (hB4.block k hk)⟩
    have W3 : WkAt w3 sb nb M (n + 1) nd fa fc (fun k => if k = key then some ⟨hd0', hd1', hd2', hd3'⟩ else σ k) :=
      ⟨⟨_, hown3, hD.put key ⟨hd0', hd1', hd2', hd3'⟩⟩, (F3.cell l2 (by simp [n1])).trans st, (F3.cell l3 (by simp [n2])).trans c0, (F3.cell l3 (by simp [n2])).trans c1, (F3.cell l3 (by simp [n2])).trans c2, (F3.cell l3 (by simp [n2])).trans c3⟩
    have R3 : w3.ownsRow w.heap.size 164 3 (.slice A out.length cap) out.length (rcells out) := by
      have hp : w.heap.size + 1 < ((w.alloc (.cells #[.string key, .int .i64 num, .int .i64 time] 164)).alloc (.cells #[.int .i64 hn0, .string hk0, .int .i64 ha0, .int .i64 hb0] 162)).heap.size := by simp
      have r4 := own_set (p := ⟨w.heap.size + 1, 3, none⟩) (own_set (p := ⟨w.heap.size + 1, 2, none⟩) (own_set (p := ⟨w.heap.size + 1, 1, none⟩) (own_set (p := ⟨w.heap.size + 1, 0, none⟩) hown1 hp (.int .i64 hd0')) hp (.string hd1')) hp (.int .i64 hd2')) hp (.int .i64 hd3')
      exact (r4.kept hgrow3 (.inr (fun e => by have := (r4.lt _ e).1; simp at this; omega))).mono (by simp; omega)
    clear hgrow3 hown3 hM4
    go_wp2
    go_ret
    exact ⟨A, cap, out, rfl, hlen, rfl, R3, W3, F3⟩
  | false =>
    go_enter Tryz.func161, Tryz.ntmps161
    go_wp2_with (at_lookup; refine lookup_held _ rfl _ _ 232 rfl 9 162 hK Tryz.underlying232 (Tryz.zeroValue162 _) M n D rfl (hown.alloc _) _ _ rfl hkey hn0 hk0 ha0 hb0 hb HT.out HH.out ?_)
    refine (HP.out _ hB0).mono ?_
    rintro e w1 ⟨A, cap, rfl, hown1, hb1⟩
    obtain ⟨hc, hf⟩ := bcell hb1
    have hB1 : Below w.heap.size w w1 := hB0.trans (hb1.mono hB0.size)
    have hs1 : w.heap.size + 1 + 1 ≤ w1.heap.size := by have := hb1.size; simpa using this
    go_wp2
    go_ret
    have hB4 : Below w.heap.size w ((((w1.setCell ⟨w.heap.size + 1, 0, none⟩ (.int .i64 hd0')).setCell ⟨w.heap.size + 1, 1, none⟩ (.string hd1')).setCell ⟨w.heap.size + 1, 2, none⟩ (.int .i64 hd2')).setCell ⟨w.heap.size + 1, 3, none⟩ (.int .i64 hd3')) := (((hB1.setCell (by simp) _).setCell (by simp) _).setCell (by simp) _).setCell (by simp) _
    have hp : w.heap.size + 1 < ((w.alloc (.cells #[.string key, .int .i64 num, .int .i64 time] 164)).alloc (.cells #[.int .i64 hn0, .string hk0, .int .i64 ha0, .int .i64 hb0] 162)).heap.size := by simp
    have r4 := own_set (p := ⟨w.heap.size + 1, 3, none⟩) (own_set (p := ⟨w.heap.size + 1, 2, none⟩) (own_set (p := ⟨w.heap.size + 1, 1, none⟩) (own_set (p := ⟨w.heap.size + 1, 0, none⟩) hown1 hp (.int .i64 hd0')) hp (.string hd1')) hp (.int .i64 hd2')) hp (.int .i64 hd3')
    have W4 := hw.keep hB4
    obtain ⟨D4, o4, m4⟩ := W4.own
    exact ⟨A, cap, out, rfl, hlen, rfl, r4.mono (by simp; omega), ⟨⟨D4, o4.mono (by omega), m4⟩, W4.st, W4.c0, W4.c1, W4.c2, W4.c3⟩, Fr.below hB4⟩
end Go.Proofs.YthadeccnibnioaaGreatDoor

/- atWork, handOn. -/
namespace Go.Proofs.YthadeccnibnioaaGreatDoor
open Go.RowKit
set_option linter.unusedVariables false

theorem cell_new (w : World) (cs : Array Value) (t : TypeId) {i : Nat} {v : Value} (h : cs[i]? = some v) : (w.alloc (.cells cs t)).cell? ⟨w.heap.size, i, none⟩ = some v := by
  have e : (w.alloc (.cells cs t)).heap[w.heap.size]? = some (.cells cs t) := by show (w.heap.push _)[w.heap.size]? = _; simp
  generalize w.alloc (.cells cs t) = w' at e
  simp [World.cell?, e, h]

set_option maxRecDepth 100000 in
theorem atWork_any (nd : Nd) (fa : Option Addr) (fc : Nat) (w : World) :
    Calls Tryz.prog 135 #[ndV nd fa fc] w fun e w' => e = .returned (.func (.func 161) #[] #[.pointer (some ⟨w.heap.size + 1 + 1, 0, none⟩), .pointer (some ⟨w.heap.size, 0, none⟩)]) ∧
      WkAt w' (w.heap.size + 1 + 1) w.heap.size (w.heap.size + 1) 0 nd fa fc (fun _ => none) ∧ Below w.heap.size w w' ∧ w'.heap.size = w.heap.size + 1 + 1 + 1 := by
  have hmm := @run_makeMap Tryz.prog
  obtain ⟨k, fs, tx, nn⟩ := nd
  simp only [ndV]
  go_enter Tryz.func135, Tryz.ntmps135
  go_wp2
  go_ret
  have hown : ((((w.alloc (.cells #[.int .i64 k, .slice fa fs.length fc, .string tx, .int .i64 nn] 52)).alloc (.map #[] 0)).alloc (.cells #[.map (some (w.heap.size + 1))] 232))).ownsMap Tryz.prog 9 hdR (w.heap.size + 1) 0 (.map []) := by
    have := (World.ownsMap_made (w.alloc (.cells #[.int .i64 k, .slice fa fs.length fc, .string tx, .int .i64 nn] 52)) Tryz.prog 9 hdR).alloc (.cells #[.map (some (w.heap.size + 1))] 232)
    rw [World.size_alloc] at this; exact this
  have hn : ∀ (i : Nat) (v : Value), #[Value.int .i64 k, .slice fa fs.length fc, .string tx, .int .i64 nn][i]? = some v → ((((w.alloc (.cells #[.int .i64 k, .slice fa fs.length fc, .string tx, .int .i64 nn] 52)).alloc (.map #[] 0)).alloc (.cells #[.map (some (w.heap.size + 1))] 232))).cell? ⟨w.heap.size, i, none⟩ = some v := fun i v h =>
    Keeps.alloc _ _ _ _ (Keeps.alloc _ _ _ _ (cell_new w _ _ h))
  have hs := cell_new ((w.alloc (.cells #[.int .i64 k, .slice fa fs.length fc, .string tx, .int .i64 nn] 52)).alloc (.map #[] 0)) #[.map (some (w.heap.size + 1))] 232 (i := 0) rfl
  rw [World.size_alloc, World.size_alloc] at hs
  exact ⟨rfl, ⟨⟨_, hown, mapIs_nil⟩, hs, hn 0 _ rfl, hn 1 _ rfl, hn 2 _ rfl, hn 3 _ rfl⟩, below3 _ _ _ _, by simp⟩

/-- Lists of records behind a slice. -/
def RssAt (w : World) (ga : Option Addr) (G : List (List Rc)) : Prop :=
  G = [] ∨ ∃ b o, ga = some ⟨b, o, none⟩ ∧ ∀ (i : Nat) (h : i < G.length), ∃ la cap, w.cell? ⟨b, o + i, none⟩ = some (.slice la G[i].length cap) ∧ RcsAt w la G[i] ∧ G[i].length ≤ cap
theorem RssAt.keep {w w' : World} {ga : Option Addr} {G : List (List Rc)} (h : RssAt w ga G) (k : Keeps w w') : RssAt w' ga G := by
  rcases h with h | ⟨b, o, h1, h2⟩
  · exact .inl h
  · refine .inr ⟨b, o, h1, fun i hi => ?_⟩
    obtain ⟨la, cap, e1, e2, e3⟩ := h2 i hi
    exact ⟨la, cap, k _ _ e1, e2.keep k, e3⟩

theorem own_fr {xs : List Nat} {w w' : World} {base : Nat} {e : TypeId} {size : Nat} {v : Value} {n : Nat} {us : List Value} (h : w.ownsRow base e size v n us) (f : Fr xs w w') (hx : ∀ k ∈ xs, k < base) : w'.ownsRow base e size v n us := by
  refine ⟨h.1, ?_⟩
  rcases h.2 with h0 | ⟨g, cap, cur, h0, hb, hg, hr⟩
  · exact .inl h0
  · exact .inr ⟨g, cap, cur, h0, hb, (f.block g (some_lt hg) (fun hm => by have := hx g hm; omega)).trans hg, hr⟩

/-- How handOn ends. -/
def HandEnd (w : World) (r : Option (List Rc)) (e : Ending) (w' : World) : Prop :=
  match r with
  | none => e = .returned (.tuple #[.slice none 0 0, errV 4]) ∧ Below w.heap.size w w'
  | some out => ∃ A cap, e = .returned (.tuple #[.slice A out.length cap, .nilIface]) ∧ RcsAt w' A out ∧ out.length ≤ cap ∧ (∀ a, A = some a → w.heap.size ≤ a.block) ∧ Below w.heap.size w w'

set_option maxRecDepth 100000 in
set_option maxHeartbeats 8000000 in
theorem handOn_any {w : World} (hg : Gd w) (nd : Nd) (fa : Option Addr) (fc : Nat) (ht : nd.tx.size ≤ 9223372036854775807) {ga : Option Addr} {gc : Nat} {G : List (List Rc)} (hG : RssAt w ga G) (hok : ∀ l ∈ G, ∀ r ∈ l, RcOk r) (hl : G.length ≤ 4) (hll : ∀ l ∈ G, l.length ≤ 2000) :
    Calls Tryz.prog 100 #[ndV nd fa fc, .slice ga G.length gc] w (HandEnd w (handP nd G)) := by
  obtain ⟨i0, hi0, hz0, hz1, hz2⟩ := info_parts Tryz.infoRc
  obtain ⟨k, fs, tx, nn⟩ := nd
  generalize hR : HandEnd w (handP ⟨k, fs, tx, nn⟩ G) = R
  have HR := Lib.hid hR
  clear hR
  have haw := atWork_any ⟨k, fs, tx, nn⟩ fa fc
  simp only [ndV] at *
  have hB1 : Below w.heap.size w (w.alloc (.cells #[.int .i64 k, .slice fa fs.length fc, .string tx, .int .i64 nn] 52)) := (Below.refl _ w).alloc (Nat.le_refl _) _
  have hwk := haw (w.alloc (.cells #[.int .i64 k, .slice fa fs.length fc, .string tx, .int .i64 nn] 52))
  rw [World.size_alloc] at hwk
  have HW := Lib.hid hwk
  clear haw hwk
  go_enter Tryz.func100, Tryz.ntmps100
  go_wp2_with (go_at_call 135; refine HW.out.mono ?_; rintro e w1 ⟨rfl, hwk1, hb1, hsz1⟩)
  have hB2 : Below w.heap.size w w1 := hB1.trans (hb1.mono (by simp))
  have hs1 : w1.heap.size = w.heap.size + 4 := by omega
  clear hsz1 hb1 hB1
  go_loopw [7, 16] (fun v i wr => ∃ p : Nat, p ≤ G.length ∧ i = .int .i64 p ∧ wr.ownsRow (w.heap.size + 4) 164 3 v (runP ⟨k, fs, tx, nn⟩ (preP G p 0)).1.length (rcells (runP ⟨k, fs, tx, nn⟩ (preP G p 0)).1) ∧ (runP ⟨k, fs, tx, nn⟩ (preP G p 0)).1.length ≤ 2000 ∧
      WkAt wr (w.heap.size + 1 + 1 + 1) (w.heap.size + 1) (w.heap.size + 1 + 1) (preP G p 0).length ⟨k, fs, tx, nn⟩ fa fc (runP ⟨k, fs, tx, nn⟩ (preP G p 0)).2 ∧ Below w.heap.size w wr ∧ w.heap.size + 4 ≤ wr.heap.size) (fun _ i _ => G.length - (intOf i).toNat)
  case atStart => exact ⟨0, by omega, rfl, World.ownsRow_nil _ _ _ _, by simp [preP, tagP, runP], hwk1, hB2, by omega⟩
  case round =>
    clear hwk1 hB2 hs1
    obtain ⟨p, hp, rfl, hown, hle, hwk, hB, hsz⟩ := hrel
    by_cases hlt : p < G.length
    · have hi : (p : Int) < G.length := by omega
      rcases hG with hG | ⟨gb, go, rfl, hG⟩
      · subst hG; simp at hlt
      obtain ⟨la, lc, g1, g2, g3⟩ := hG p hlt
      have c1 : wr.cell? ⟨gb, go + p, none⟩ = some (.slice la G[p].length lc) := Keeps.of hB _ _ g1
      have hlen := hll _ (List.getElem_mem hlt)
      have hall := hok _ (List.getElem_mem hlt)
      have hnx := pre_next hlt
      have hst := fun q (hq : q < G[p].length) => pre_step hlt hq
      have HL : Hid (∀ q, 2000 < (runP ⟨k, fs, tx, nn⟩ (preP G p q)).1.length → handP ⟨k, fs, tx, nn⟩ G = none) := fun q h => hand_none hlt h
      have HO : Hid (∀ q, StOk (runP ⟨k, fs, tx, nn⟩ (preP G p q)).2) := fun q => (run_ok _ _ (fun x hx => by obtain ⟨l, h1, h2⟩ := pre_mem x hx; exact hok l h1 _ h2)).2
      have HM : Hid (∀ q, (preP G p q).length ≤ 8000) := fun q => by
        obtain ⟨ys, e⟩ := pre_split (j := q) hlt
        have h1 := tag_len G 0 2000 hll
        rw [e, List.length_append] at h1
        have : G.length * 2000 ≤ 4 * 2000 := Nat.mul_le_mul_right _ hl
        omega
      have HN := Lib.hid hnx
      have HS := Lib.hid hst
      clear hnx hst g1 hG
      generalize G[p] = L at *
      have hLi : (L.length : Int) ≤ 2000 := by omega
      go_wp2_with fail
      go_loopw [7, 23] (fun v i wr => ∃ q : Nat, q ≤ L.length ∧ i = .int .i64 q ∧ wr.ownsRow (w.heap.size + 4) 164 3 v (runP ⟨k, fs, tx, nn⟩ (preP G p q)).1.length (rcells (runP ⟨k, fs, tx, nn⟩ (preP G p q)).1) ∧ (runP ⟨k, fs, tx, nn⟩ (preP G p q)).1.length ≤ 2000 ∧
          WkAt wr (w.heap.size + 1 + 1 + 1) (w.heap.size + 1) (w.heap.size + 1 + 1) (preP G p q).length ⟨k, fs, tx, nn⟩ fa fc (runP ⟨k, fs, tx, nn⟩ (preP G p q)).2 ∧ Below w.heap.size w wr ∧ w.heap.size + 4 ≤ wr.heap.size) (fun _ i _ => L.length - (intOf i).toNat)
      case atStart => exact ⟨0, by omega, rfl, hown, hle, hwk, hB, hsz⟩
      case round =>
        clear hown hle hwk hB hsz c1
        obtain ⟨q, hq, rfl, hown, hle, hwk, hB, hsz⟩ := hrel
        by_cases hlq : q < L.length
        · have hiq : (q : Int) < L.length := by omega
          rcases g2 with g2 | ⟨lb, lo, rfl, g2⟩
          · subst g2; simp at hlq
          obtain ⟨r0, r1, r2⟩ := rcells_at L q hlq
          have d0 := Keeps.of hB _ _ (g2 _ _ r0)
          have d1 := Keeps.of hB _ _ (g2 _ _ r1)
          have d2 := Keeps.of hB _ _ (g2 _ _ r2)
          rw [← Nat.add_assoc] at d1 d2
          have hrk := hall _ (List.getElem_mem hlq)
          have hsnoc : runP ⟨k, fs, tx, nn⟩ (preP G p (q + 1)) = stepP ⟨k, fs, tx, nn⟩ (runP ⟨k, fs, tx, nn⟩ (preP G p q)) (L[q], (p : Int)) := by rw [HS.out q hlq, runP_snoc]
          have hln : (preP G p (q + 1)).length = (preP G p q).length + 1 := by rw [HS.out q hlq]; simp
          have hso := HO.out q
          have hbd := HL.out (q + 1)
          have h8 := HM.out q
          rw [hsnoc] at hbd
          have HSN := Lib.hid hsnoc
          have HLN := Lib.hid hln
          have HBD := Lib.hid hbd
          clear hsnoc hln hbd g2 r0 r1 r2
          generalize L[q] = r at *
          generalize (preP G p q).length = m at *
          generalize runP ⟨k, fs, tx, nn⟩ (preP G p q) = rp at *
          obtain ⟨acc, σ⟩ := rp
          obtain ⟨key, num, time⟩ := r
          simp only at hown hle hwk hso d0 d1 d2
          have hw2 := hwk.keep ((Below.refl _ wr).alloc (Nat.le_refl _) (.cells #[.string key, .int .i64 num, .int .i64 time] 164))
          have hB2 : Below w.heap.size w (wr.alloc (.cells #[.string key, .int .i64 num, .int .i64 time] 164)) := hB.alloc (by omega) _
          have hwc := work_any (hg.below hB2) hw2 hso (by unfold maxLen; omega) ⟨key, num, time⟩ p hrk ht (by omega) acc
          simp only [rcV] at hwc
          have HWC := Lib.hid hwc
          have ho2 := hown.alloc (.cells #[.string key, .int .i64 num, .int .i64 time] 164)
          clear hwc hw2 hwk hown
          go_wp2_with fail
          refine HWC.out.mono ?_
          rintro e w3 ⟨A, cap, out, rfl, holen, hs1, hrow, hwk3, F3⟩
          have hsz3 : w.heap.size + 4 ≤ w3.heap.size := by have := F3.size; simp at this; omega
          have hB3 : Below w.heap.size w w3 := hB2.trans (F3.toBelow (by simp; omega) (by simp; omega))
          have ho3 : w3.ownsRow (w.heap.size + 4) 164 3 u7 acc.length (rcells acc) := own_fr ho2 F3 (by simp)
          have hacc : (stepP ⟨k, fs, tx, nn⟩ (acc, σ) ({ key := key, num := num, time := time }, (p : Int))).1 = acc ++ out := hs1
          generalize stepP ⟨k, fs, tx, nn⟩ (acc, σ) ({ key := key, num := num, time := time }, (p : Int)) = sp at *
          obtain ⟨acc2, σ2⟩ := sp
          simp only at hacc hwk3
          have HAcc := Lib.hid hacc
          clear hacc hs1 ho2 F3 d0 d1 d2 hB
          rcases hrow.2 with ⟨e0, e1⟩ | ⟨g, cap', cur, e0, eb, eg, er⟩
          · have hA : A = none := by simp at e0; exact e0.1
            have hc0 : cap = 0 := by simp at e0; exact e0.2.2
            have ho : out = [] := List.length_eq_zero_iff.1 e1
            subst hA hc0 ho
            have HA2 : Hid (acc2 = acc) := Lib.hid (by have := HAcc.out; simpa using this)
            simp only [List.length_nil]
            go_wp2_with (at_builtin; refine wpList_append_own_none rfl _ _ 112 rfl (w.heap.size + 4) 164 i0 3 Tryz.underlying112 hi0 _ _ _ rfl ho3 rfl ?_)
            obtain ⟨A4, cap4, rfl⟩ := own_fm ho3
            have hle' : ¬ (2000 : Int) < acc.length := by omega
            go_wp2
            exact ⟨⟨q + 1, by omega, by go_num, by rw [HSN.out, HA2.out]; exact ho3, by rw [HSN.out, HA2.out]; exact hle, by rw [HSN.out, HLN.out]; exact hwk3, hB3, hsz3⟩, by simp [intOf]; omega⟩
          · have hA : A = some ⟨g, 0, none⟩ := by simp at e0; exact e0.1
            subst hA
            have hcells := hrow.cells rfl
            go_wp2_with (at_builtin; refine wpList_append_own _ rfl _ _ 112 rfl (w.heap.size + 4) 164 i0 (.agg #[.string ⟨#[]⟩, .int .i64 0, .int .i64 0]) 3 32 Tryz.underlying112 hi0 hz0 hz1 hz2 rfl (by decide) _ _ _ rfl ho3 ⟨g, 0, none⟩ out.length cap (rcells out) rfl (rcells_len out) hcells (rcells_one out) (by unfold maxLen; omega) (by omega) hsz3 ?_)
            intro v' w4 hown' hgrow _
            have hB4 : Below w.heap.size w w4 := hB3.grown hgrow (by omega) (fun k hk => by have := (ho3.lt k hk).1; omega)
            have hsz4 : w.heap.size + 4 ≤ w4.heap.size := Nat.le_trans hsz3 hgrow.size
            have hwk4 : WkAt w4 (w.heap.size + 1 + 1 + 1) (w.heap.size + 1) (w.heap.size + 1 + 1) (m + 1) ⟨k, fs, tx, nn⟩ fa fc σ2 := by
              obtain ⟨D, hD1, hD2⟩ := hwk3.own
              have hkp : ∀ b, b < w.heap.size + 4 → w4.heap[b]? = w3.heap[b]? := fun b hb => hgrow.block b (by omega) (fun e => by have := (ho3.lt b e.symm).1; omega)
              have kc : ∀ (p : Addr) (v : Value), p.block < w.heap.size + 4 → w3.cell? p = some v → w4.cell? p = some v := fun p v hp hv => by
                rw [World.cell?_of_block (w := w3) (hkp p.block hp)]; exact hv
              exact ⟨⟨D, own_block hD1 (hkp _ (by omega)), hD2⟩, kc _ _ (by show _ < _; simp) hwk3.st, kc _ _ (by show _ < _; simp) hwk3.c0, kc _ _ (by show _ < _; simp) hwk3.c1, kc _ _ (by show _ < _; simp) hwk3.c2, kc _ _ (by show _ < _; simp) hwk3.c3⟩
            have ho4 : w4.ownsRow (w.heap.size + 4) 164 3 v' acc2.length (rcells acc2) := by
              rw [HAcc.out, rcells_append, List.length_append]; exact hown'
            clear hown' hgrow ho3 hwk3 hcells hB3 eg er
            obtain ⟨A4, cap4, rfl⟩ := own_fm ho4
            by_cases hbig : 2000 < acc2.length
            · have hbig' : (2000 : Int) < acc2.length := by omega
              have HE : Hid (handP ⟨k, fs, tx, nn⟩ G = none) := HBD.out hbig
              go_wp2
              rw [← HR.out, HE.out]
              exact ⟨by rw [errV_pos (by omega)]; rfl, hB4⟩
            · have hbig' : ¬ (2000 : Int) < acc2.length := by omega
              have hbg : acc2.length ≤ 2000 := by omega
              go_wp2
              exact ⟨⟨q + 1, by omega, by go_num, by rw [HSN.out]; exact ho4, by rw [HSN.out]; exact hbg, by rw [HSN.out, HLN.out]; exact hwk4, hB4, hsz4⟩, by simp [intOf]; omega⟩
        · have hiq : ¬ (q : Int) < L.length := by omega
          have hqe : q = L.length := by omega
          rw [hqe, HN.out] at hown hle hwk
          clear hqe
          go_wp2
          exact ⟨⟨p + 1, by omega, by go_num, hown, hle, hwk, hB, hsz⟩, by simp [intOf]; omega⟩
    · have hi : ¬ (p : Int) < G.length := by omega
      have hpe : p = G.length := by omega
      have HE : Hid (handP ⟨k, fs, tx, nn⟩ G = some (runP ⟨k, fs, tx, nn⟩ (preP G p 0)).1) := by
        rw [hpe] at hle ⊢
        exact hand_some (by omega)
      clear hpe
      generalize runP ⟨k, fs, tx, nn⟩ (preP G p 0) = rp at *
      obtain ⟨A, cap, rfl⟩ := own_fm hown
      go_wp2
      rw [← HR.out, HE.out]
      exact ⟨A, cap, rfl, (own_rcs hown rfl).1, (own_rcs hown rfl).2, fun a ha => by subst ha; have := (hown.lt a.block rfl).1; omega, hB⟩
end Go.Proofs.YthadeccnibnioaaGreatDoor
