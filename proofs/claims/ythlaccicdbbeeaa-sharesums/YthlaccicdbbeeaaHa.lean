/- The two maps of a Share. -/
import Derived.Test.YthlaccicdbbeeaaDa
import Derived.Test.YthlaccicdbbeeaaPureSh
import Derived.Test.YthlaccicdbbeeaaIter
namespace Go.Proofs.Ythlaccicdbbeeaa
open Go.RowKit
open Go.Maps (string_keyed int_keyed)
open Go.Sort Go.Shelf
set_option linter.unusedVariables false

def kl (k : ByteArray) : Lit := .string k.data.toList
theorem kl_inj {k k' : ByteArray} (h : kl k = kl k') : k = k' := by
  unfold kl at h
  injection h with h
  cases k; cases k'
  congr 1
  exact Array.toList_inj.1 h
def vR (v : Value) : Option (DataW Value × List MemPlace) := some (.held v, [])
theorem vR_inv {v : Value} {d : Value} {ps : List MemPlace} (h : vR v = some (.held d, ps)) : v = d := by
  unfold vR at h; injection h with h; injection h with h1 h2; injection h1
theorem key_of (k : ByteArray) (h : k.size ≤ maxLen) : keyOf Try.prog 9 (.string k) = some (kl k) := WideMaps.keyOf_string_mk Try.underlying9 h
theorem hKs : Maps.Keyed Try.prog 9 := string_keyed (P := Try.prog) (k := 9) Try.underlying9
theorem hKi : Maps.Keyed Try.prog 3 := int_keyed (P := Try.prog) (k := 3) Try.underlying3
theorem wf_of {n : Int} (h : I64 n) : (Lit.int .i64 n).wf = true := by
  obtain ⟨h1, h2⟩ := h
  simp [Lit.wf, IntKind.min, IntKind.max, IntKind.signed, IntKind.bits]
  omega
theorem key_int (a : Int) (h : I64 a) : keyOf Try.prog 3 (.int .i64 a) = some (.int .i64 a) := Maps.keyOf_int_mk Try.underlying3 (wf_of h)
theorem some_lt {w : World} {k : Nat} {o : Obj} (h : w.heap[k]? = some o) : k < w.heap.size := (Array.getElem?_eq_some_iff.1 h).1
theorem fr_turned {w w' : World} {M : Nat} (t : w.mapTurned w' M) : Fr [M] w w' :=
  ⟨t.grown.os, t.grown.tape, t.grown.output, t.grown.size, fun k hk hx => t.grown.block k hk (fun e => hx (by injection e with e; simp [e]))⟩
theorem own_tight {H : Type} {P : Program} {k : TypeId} {R : Value → Option (DataW H × List MemPlace)} {w : World} {b n : Nat} {D : DataW H} (h : w.ownsMap P k R b n D) : w.ownsMap P k R b (Maps.size D) D := by
  obtain ⟨es, cl, h1, h2, h3, rfl⟩ := h
  refine ⟨es, cl, h1, h2, ?_, rfl⟩
  simp [Maps.size, length_sorted]
theorem own_block {H : Type} {P : Program} {k : TypeId} {R : Value → Option (DataW H × List MemPlace)} {w w' : World} {b n : Nat} {D : DataW H} (h : w.ownsMap P k R b n D) (hb : w'.heap[b]? = w.heap[b]?) : w'.ownsMap P k R b n D := by
  obtain ⟨es, cl, h1, h2⟩ := h
  exact ⟨es, cl, hb.trans h1, h2⟩
theorem own_map {H : Type} {P : Program} {k : TypeId} {R : Value → Option (DataW H × List MemPlace)} {w : World} {b n : Nat} {D : DataW H} (h : w.ownsMap P k R b n D) : ∃ es cl, w.heap[b]? = some (.map es cl) := by
  obtain ⟨es, cl, h1, h2⟩ := h
  exact ⟨es, cl, h1⟩
theorem cell_map {w : World} {b o : Nat} {v : Value} {es : Array MapEntry} {cl : Nat} (h : w.cell? ⟨b, o, none⟩ = some v) (hm : w.heap[b]? = some (.map es cl)) : False := by
  simp [World.cell?, hm] at h

/-- Strings stay where all but maps stay. -/
theorem SsAt.keepM {w w' : World} {p : Option Addr} {l : List ByteArray} (h : SsAt w p l) {xs : List Nat} (f : Fr xs w w') (hx : ∀ b ∈ xs, ∃ es cl, w.heap[b]? = some (.map es cl)) : SsAt w' p l := by
  rcases h with h | ⟨b, o, rfl, hc⟩
  · exact .inl h
  · refine .inr ⟨b, o, rfl, fun i hi => ?_⟩
    have h1 := hc i hi
    have hlt := block_lt_of_cell h1
    rw [f.cell (p := ⟨b, o + i, none⟩) hlt (fun hm => by obtain ⟨es, cl, h2⟩ := hx b hm; exact cell_map h1 h2)]
    exact h1
/-- In how many pictures a file is: the map. -/
def iz : DataW Value := .held (.int .i64 0)
def CIs (w : World) (C n : Nat) (h : ByteArray → Bool) (g : ByteArray → Nat) : Prop :=
  ∃ D, w.ownsMap Try.prog 9 vR C n D ∧ ∀ f, Maps.has D (kl f) = h f ∧ D.atKey (kl f) iz = .held (.int .i64 (g f))
theorem CIs.block {w w' : World} {C n : Nat} {h : ByteArray → Bool} {g : ByteArray → Nat} (H : CIs w C n h g) (hb : w'.heap[C]? = w.heap[C]?) : CIs w' C n h g := by
  obtain ⟨D, h1, h2⟩ := H; exact ⟨D, own_block h1 hb, h2⟩
theorem CIs.map {w : World} {C n : Nat} {h : ByteArray → Bool} {g : ByteArray → Nat} (H : CIs w C n h g) : ∃ es cl, w.heap[C]? = some (.map es cl) := by
  obtain ⟨D, h1, h2⟩ := H; exact own_map h1
theorem CIs.look {w : World} {C n : Nat} {h : ByteArray → Bool} {g : ByteArray → Nat} (H : CIs w C n h g) (f : ByteArray) (hf : f.size ≤ maxLen) : (Instr.lookup 68 (.map (some C)) (.string f) false).run Try.prog w = .ok (.int .i64 (g f)) w := by
  obtain ⟨D, h1, h2⟩ := H
  obtain ⟨v', ps, hrun, hv⟩ := h1.lookup (e := 3) (t := 68) hKs Try.underlying68 (Try.zeroValue3 w) (zd := iz) (zp := []) rfl (key_of f hf)
  rw [(h2 f).2] at hv
  rw [hrun, vR_inv hv]
def upB {α : Type} (g : ByteArray → α) (k : ByteArray) (a : α) : ByteArray → α := fun x => if x = k then a else g x
theorem upB_same {α : Type} (g : ByteArray → α) (k : ByteArray) (a : α) : upB g k a k = a := by simp [upB]
theorem upB_other {α : Type} (g : ByteArray → α) {k x : ByteArray} (a : α) (h : x ≠ k) : upB g k a x = g x := by simp [upB, h]
theorem CIs.put {w : World} {C n : Nat} {h : ByteArray → Bool} {g : ByteArray → Nat} (H : CIs w C n h g) (hn : n ≤ 1000000000) (f : ByteArray) (hf : f.size ≤ maxLen) (z : Int) (m : Nat) (hz : z = m) :
    ∃ w', (Instr.mapUpdate 68 (.map (some C)) (.string f) (.int .i64 z)).run Try.prog w = .ok () w' ∧ CIs w' C (n + 1) (upB h f true) (upB g f m) ∧ Fr [C] w w' := by
  subst hz
  obtain ⟨D, h1, h2⟩ := H
  obtain ⟨w', e1, e2, e3⟩ := h1.store (e := 3) (t := 68) hKs Try.underlying68 (by unfold maxLen; omega) (key_of f hf) (show vR (.int .i64 (m : Int)) = some (.held (.int .i64 (m : Int)), []) from rfl)
  refine ⟨w', e1, ⟨_, e2, fun x => ?_⟩, fr_turned e3⟩
  have hD := h1.isMap
  by_cases e : x = f
  · subst e
    rw [upB_same, upB_same]
    exact ⟨Maps.has_put_same hD (show WideAt.IsKeyLit (.string _) from trivial) _, Maps.atKey_put_same hD (show WideAt.IsKeyLit (.string _) from trivial) _ _⟩
  · have hne : kl x ≠ kl f := fun h => e (kl_inj h)
    rw [upB_other _ _ e, upB_other _ _ e, Maps.has_put_other hne, Maps.atKey_put_other hne]
    exact h2 x
theorem CIs.del {w : World} {C n : Nat} {h : ByteArray → Bool} {g : ByteArray → Nat} (H : CIs w C n h g) (f : ByteArray) (hf : f.size ≤ maxLen) (ty : TypeId) :
    ∃ w', (Builtin.delete_ #[68, 9] ty #[.map (some C), .string f]).run Try.prog w = .ok (.tuple #[]) w' ∧ CIs w' C n (upB h f false) (upB g f 0) ∧ Fr [C] w w' := by
  obtain ⟨D, h1, h2⟩ := H
  obtain ⟨w', e1, e2, e3⟩ := h1.drop (e := 3) (t := 68) hKs Try.underlying68 (key_of f hf) ty
  refine ⟨w', e1, ⟨_, e2, fun x => ?_⟩, fr_turned e3⟩
  by_cases e : x = f
  · subst e
    rw [upB_same, upB_same]
    exact ⟨Maps.has_del_same, Maps.atKey_del_same _⟩
  · have hne : kl x ≠ kl f := fun h => e (kl_inj h)
    rw [upB_other _ _ e, upB_other _ _ e, Maps.has_del_other hne, Maps.atKey_del_other hne]
    exact h2 x

/-- The files of each picture: the map. -/
def sz : DataW Value := .held (.slice none 0 0)
def FsV (w : World) (v : Value) (fs : List ByteArray) : Prop := ∃ p c, v = .slice p fs.length c ∧ SsAt w p fs
def PIs (w : World) (P : Nat) (L : List Pic) : Prop :=
  ∃ D, w.ownsMap Try.prog 3 vR P L.length D ∧ (∀ k : Int, Maps.has D (.int .i64 k) = hasP L k) ∧ ∀ p ∈ L, ∃ v, D.atKey (.int .i64 p.1) sz = .held v ∧ FsV w v p.2
theorem PIs.map {w : World} {P : Nat} {L : List Pic} (H : PIs w P L) : ∃ es cl, w.heap[P]? = some (.map es cl) := by
  obtain ⟨D, h1, h2⟩ := H; exact own_map h1
theorem intKeys_facts {H : Type} {w : World} {R : Value → Option (DataW H × List MemPlace)} {b n : Nat} {D : DataW H} (hown : w.ownsMap Try.prog 3 R b n D) {ss : List Int} (hnd : ss.Nodup) (hm : ∀ x, x ∈ ss ↔ Maps.has D (.int .i64 x) = true) :
    ss.Perm (intKeys D) ∧ (intKeys D).length = Maps.size D := by
  obtain ⟨es, hD, hpw, _⟩ := hown.entries hKi
  obtain ⟨es', hD', hko⟩ := hown.keysOf
  obtain rfl : es = es' := by rw [hD] at hD'; simpa using hD'
  subst hD
  refine ⟨perm_intKeys hpw (fun p hp => ?_) hnd hm, by simp [intKeys, Maps.size]⟩
  obtain ⟨v, hv⟩ := hko p hp
  obtain ⟨x, _, hx, _⟩ := Maps.keyOf_i64 Try.underlying3 hv
  exact ⟨x, hx⟩
theorem PIs.size {w : World} {P n : Nat} {L : List Pic} {D : DataW Value} (hown : w.ownsMap Try.prog 3 vR P n D) (hh : ∀ k : Int, Maps.has D (.int .i64 k) = hasP L k) (hnd : (L.map (·.1)).Nodup) : Maps.size D = L.length := by
  obtain ⟨h1, h2⟩ := intKeys_facts hown hnd (fun x => by rw [hh, has_mem])
  rw [← h2, ← h1.length_eq, List.length_map]
theorem PIs.keep {w w' : World} {P : Nat} {L : List Pic} (H : PIs w P L) {xs : List Nat} (f : Fr xs w w') (hx : ∀ b ∈ xs, ∃ es cl, w.heap[b]? = some (.map es cl)) (hP : P ∉ xs) : PIs w' P L := by
  obtain ⟨D, h1, h2, h3⟩ := H
  refine ⟨D, own_block h1 (f.block P h1.lt hP), h2, fun p hp => ?_⟩
  obtain ⟨v, e1, q, c, e2, e3⟩ := h3 p hp
  exact ⟨v, e1, q, c, e2, e3.keepM f hx⟩
theorem PIs.len {w : World} {P : Nat} {L : List Pic} (H : PIs w P L) (hnd : (L.map (·.1)).Nodup) (ty : TypeId) : (Builtin.len_ #[67] ty #[.map (some P)]).run Try.prog w = .ok (.int .i64 L.length) w := by
  obtain ⟨D, h1, h2, h3⟩ := H
  rw [h1.len Try.underlying67 ty, PIs.size h1 h2 hnd]
theorem PIs.has {w : World} {P : Nat} {L : List Pic} (H : PIs w P L) (k : Int) (hk : I64 k) : ∃ p n c, (Instr.lookup 67 (.map (some P)) (.int .i64 k) true).run Try.prog w = .ok (.tuple #[.slice p n c, .bool (hasP L k)]) w := by
  obtain ⟨D, h1, h2, h3⟩ := H
  obtain ⟨v', ps, hrun, hv⟩ := h1.look_ok (e := 32) (t := 67) hKi Try.underlying67 (Try.zeroValue32 w) (zd := sz) (zp := []) rfl (key_int k hk)
  rw [hrun, h2 k]
  cases hc : hasP L k with
  | true =>
    obtain ⟨p, hp, hpk⟩ := List.any_eq_true.1 hc
    simp only [beq_iff_eq] at hpk
    obtain ⟨v, e1, q, c, e2, e3⟩ := h3 p hp
    rw [hpk] at e1
    rw [e1] at hv
    rw [vR_inv hv, e2]
    exact ⟨_, _, _, rfl⟩
  | false =>
    have := h2 k
    rw [hc] at this
    have e1 : D.atKey (.int .i64 k) sz = sz := Maps.atKey_of_not_has this sz
    rw [e1] at hv
    rw [vR_inv hv]
    exact ⟨_, _, _, rfl⟩
theorem PIs.at {w : World} {P : Nat} {L : List Pic} (H : PIs w P L) {k : Int} {own : List ByteArray} (hk : I64 k) (hm : (k, own) ∈ L) : ∃ p c, (Instr.lookup 67 (.map (some P)) (.int .i64 k) false).run Try.prog w = .ok (.slice p own.length c) w ∧ SsAt w p own := by
  obtain ⟨D, h1, h2, h3⟩ := H
  obtain ⟨v', ps, hrun, hv⟩ := h1.lookup (e := 32) (t := 67) hKi Try.underlying67 (Try.zeroValue32 w) (zd := sz) (zp := []) rfl (key_int k hk)
  obtain ⟨v, e1, q, c, e2, e3⟩ := h3 _ hm
  rw [e1] at hv
  rw [hrun, vR_inv hv, e2]
  exact ⟨q, c, rfl, e3⟩
theorem PIs.put {w : World} {P : Nat} {L : List Pic} (H : PIs w P L) (hnd : (L.map (·.1)).Nodup) (hl : L.length ≤ 1000) {k : Int} (hk : I64 k) (hh : hasP L k = false) {p : Option Addr} {c m : Nat} {own : List ByteArray} (hs : SsAt w p own) (hm : m = own.length) :
    ∃ w', (Instr.mapUpdate 67 (.map (some P)) (.int .i64 k) (.slice p m c)).run Try.prog w = .ok () w' ∧ PIs w' P ((k, own) :: L) ∧ Fr [P] w w' := by
  subst hm
  obtain ⟨D, h1, h2, h3⟩ := H
  obtain ⟨w', e1, e2, e3⟩ := h1.store (e := 32) (t := 67) hKi Try.underlying67 (by unfold maxLen; omega) (key_int k hk) (show vR (.slice p own.length c) = some (.held (.slice p own.length c), []) from rfl)
  have hD := h1.isMap
  have hf := fr_turned e3
  have hmp : ∀ b ∈ [P], ∃ es cl, w.heap[b]? = some (.map es cl) := fun b hb => by simp at hb; subst hb; exact own_map h1
  have hH : ∀ x : Int, Maps.has (D.put (.int .i64 k) (.held (.slice p own.length c))) (.int .i64 x) = hasP ((k, own) :: L) x := fun x => by
    by_cases e : x = k
    · subst e
      rw [Maps.has_put_same hD (show WideAt.IsKeyLit (.int _ _) from trivial)]
      simp [hasP]
    · rw [Maps.has_put_other (fun h => e (by injection h)), h2 x]
      have : (k == x) = false := by simpa using fun h => e h.symm
      simp [hasP, this]
  have hnd' : (((k, own) :: L).map (·.1)).Nodup := by
    rw [List.map_cons, List.nodup_cons]
    exact ⟨fun h => (by rw [has_mem.2 h] at hh; cases hh), hnd⟩
  refine ⟨w', e1, ⟨_, ?_, hH, fun q hq => ?_⟩, hf⟩
  · rw [← PIs.size e2 hH hnd']; exact own_tight e2
  · rcases List.mem_cons.1 hq with rfl | hq
    · exact ⟨_, Maps.atKey_put_same hD (show WideAt.IsKeyLit (.int _ _) from trivial) _ _, p, c, rfl, hs.keepM hf hmp⟩
    · have hne : q.1 ≠ k := fun e => by
        have : hasP L k = true := has_mem.2 (List.mem_map.2 ⟨q, hq, e⟩)
        rw [this] at hh; cases hh
      obtain ⟨v, g1, r, c', g2, g3⟩ := h3 q hq
      exact ⟨v, by rw [Maps.atKey_put_other (fun h => hne (by injection h))]; exact g1, r, c', g2, g3.keepM hf hmp⟩
theorem PIs.del {w : World} {P : Nat} {L : List Pic} (H : PIs w P L) (hnd : (L.map (·.1)).Nodup) {k : Int} (hk : I64 k) (ty : TypeId) :
    ∃ w', (Builtin.delete_ #[67, 3] ty #[.map (some P), .int .i64 k]).run Try.prog w = .ok (.tuple #[]) w' ∧ PIs w' P (dropP L k) ∧ Fr [P] w w' := by
  obtain ⟨D, h1, h2, h3⟩ := H
  obtain ⟨w', e1, e2, e3⟩ := h1.drop (e := 32) (t := 67) hKi Try.underlying67 (key_int k hk) ty
  have hf := fr_turned e3
  have hmp : ∀ b ∈ [P], ∃ es cl, w.heap[b]? = some (.map es cl) := fun b hb => by simp at hb; subst hb; exact own_map h1
  have hH : ∀ x : Int, Maps.has (D.del (.int .i64 k)) (.int .i64 x) = hasP (dropP L k) x := fun x => by
    by_cases e : x = k
    · subst e
      rw [Maps.has_del_same]
      symm
      rw [Bool.eq_false_iff]
      intro h
      exact (drop_mem.1 (has_mem.1 h)).2 rfl
    · rw [Maps.has_del_other (fun h => e (by injection h)), h2 x, Bool.eq_iff_iff, has_mem, has_mem, drop_mem]
      exact ⟨fun h => ⟨h, e⟩, fun h => h.1⟩
  have hnd' : ((dropP L k).map (·.1)).Nodup := hnd.sublist (List.Sublist.map _ List.filter_sublist)
  refine ⟨w', e1, ⟨_, ?_, hH, fun q hq => ?_⟩, hf⟩
  · rw [← PIs.size e2 hH hnd']; exact own_tight e2
  · obtain ⟨hq1, hq2⟩ := mem_drop.1 hq
    obtain ⟨v, g1, r, c', g2, g3⟩ := h3 q hq1
    exact ⟨v, by rw [Maps.atKey_del_other (fun h => hq2 (by injection h))]; exact g1, r, c', g2, g3.keepM hf hmp⟩
end Go.Proofs.Ythlaccicdbbeeaa
