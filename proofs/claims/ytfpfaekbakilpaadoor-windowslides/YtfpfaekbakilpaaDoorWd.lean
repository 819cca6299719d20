/- Panes in a map, by key and beginning. -/
import Derived.Test.YtfpfaekbakilpaaDoorWc
import Derived.Maps.OwnIn
import Derived.Maps.OwnSet
import Derived.DeepKeys4
namespace Go.Proofs.YtfpfaekbakilpaaDoor
open Go.RowKit
set_option linter.unusedVariables false

theorem laidOk : laidOutB Tryd.prog = true := by kernel_rfl
theorem rowPl : (68 : TypeId) < Tryd.prog.types.size := of_decide_eq_true (by kernel_rfl)
theorem cellsPl : Tryd.prog.cellsOf 68 = 2 := by kernel_rfl
theorem cellsPi : Tryd.prog.cellsOf 3 = 1 := by kernel_rfl
theorem cellsPs : Tryd.prog.cellsOf 9 = 1 := by kernel_rfl
theorem typePl : Tryd.prog.keyType 68 = true := by kernel_rfl
theorem deepPl : Tryd.prog.keyTypeAt 2 68 = true := by kernel_rfl
theorem keyedPl : Maps.Keyed Tryd.prog 68 := Maps.Keyed.of_law (deep_law_laid laidOk (m := 2) (by omega) rowPl deepPl (by rw [Tryd.underlying68]))
theorem pos_succ {a n : Nat} (h : a < n) : ∃ m, n = m + 1 := ⟨n - 1, by omega⟩
theorem sizeTy : ∃ m, Tryd.prog.types.size = m + 1 := pos_succ rowPl
def plV (n : Int) (k : ByteArray) : Value := .agg #[.string k, .int .i64 n]
def plB (n : Int) (k : ByteArray) : List UInt8 := keyBytes [.string k.data.toList, .int .i64 n]
def I64 (n : Int) : Prop := -9223372036854775808 ≤ n ∧ n < 9223372036854775808
def OkK (n : Int) (k : ByteArray) : Prop := I64 n ∧ k.size ≤ maxLen
theorem wf_i64 {n : Int} (h : I64 n) : (Lit.int .i64 n).wf = true := by
  simp [Lit.wf, IntKind.min, IntKind.max, IntKind.signed, IntKind.bits]; exact ⟨h.1, by have := h.2; omega⟩
theorem wf_i64' {n : Int} (h : (Lit.int .i64 n).wf = true) : I64 n := by
  simp [Lit.wf, IntKind.min, IntKind.max, IntKind.signed, IntKind.bits] at h
  exact ⟨h.1, by omega⟩
theorem keyOf_pl {n : Int} {k : ByteArray} (h : OkK n k) : keyOf Tryd.prog 68 (plV n k) = some (.string (plB n k)) := by
  obtain ⟨m, hm⟩ := sizeTy
  have hwf := wf_i64 h.1
  unfold keyOf plV
  simp only [Tryd.underlying68]
  rw [if_pos (by simp [typePl, Value.formed, Tryd.underlying68, cellsPl]), hm]
  unfold Program.keyLits
  simp only [Tryd.underlying68, Value.cells]
  rw [if_pos (by rw [cellsPl]; exact ⟨rfl, by simp⟩)]
  simp [Program.keyLits, Tryd.underlying3, Tryd.underlying9, cellsPi, cellsPs, hwf, h.2, plB]
theorem two_of {l : List Value} (h : l.length = 2) : ∃ a b, l = [a, b] := by
  match l, h with
  | [a, b], _ => exact ⟨a, b, rfl⟩
theorem lits_int {P : Program} {t : TypeId} (ht : P.underlying t = some (.int .i64)) {d : Nat} {v : Value} {L : List Lit} (h : P.keyLits (d + 1) t [v] = some L) : ∃ n, v = .int .i64 n ∧ I64 n ∧ L = [.int .i64 n] := by
  unfold Program.keyLits at h
  rw [ht] at h
  cases v <;> simp at h
  rename_i q n
  obtain ⟨⟨rfl, hw⟩, rfl⟩ := h
  exact ⟨n, rfl, wf_i64' hw, rfl⟩
theorem lits_str {P : Program} {t : TypeId} (ht : P.underlying t = some .string) {d : Nat} {v : Value} {L : List Lit} (h : P.keyLits (d + 1) t [v] = some L) : ∃ s, v = .string s ∧ s.size ≤ maxLen ∧ L = [.string s.data.toList] := by
  unfold Program.keyLits at h
  rw [ht] at h
  cases v <;> simp at h
  rename_i s
  obtain ⟨hs, rfl⟩ := h
  exact ⟨s, rfl, hs, rfl⟩
theorem lits_two {P : Program} {k : TypeId} {f0 f1 : Field} (hu : P.underlying k = some (.struct #[f0, f1])) (hc : P.cellsOf k = 2) (h0 : f0.offset = 0) (h1 : f1.offset = 1) (c0 : P.cellsOf f0.type = 1) (c1 : P.cellsOf f1.type = 1) {d : Nat} {xs : List Value} {L : List Lit} (h : P.keyLits (d + 1) k xs = some L) :
    ∃ a b x y, xs = [a, b] ∧ P.keyLits d f0.type [a] = some x ∧ P.keyLits d f1.type [b] = some y ∧ L = x ++ y := by
  unfold Program.keyLits at h
  simp only [hu] at h
  split at h
  · rename_i hh
    obtain ⟨a, b, rfl⟩ := two_of (hh.1.trans hc)
    simp [h0, h1, c0, c1, List.mapM_cons, Option.bind_eq_some_iff] at h
    obtain ⟨x, hx, ls, ⟨y, hy, rfl⟩, rfl⟩ := h
    exact ⟨a, b, x, y, rfl, hx, hy, by simp⟩
  · cases h
theorem keyOf_inv {v : Value} {l : Lit} (h : keyOf Tryd.prog 68 v = some l) : ∃ n k, v = plV n k ∧ OkK n k ∧ l = .string (plB n k) := by
  obtain ⟨xs, L, rfl, hl, rfl⟩ := keyOf_top (by rw [Tryd.underlying68]) h
  obtain ⟨m, hm⟩ := sizeTy
  rw [hm] at hl
  obtain ⟨a, b, x, y, e, hx, hy, rfl⟩ := lits_two Tryd.underlying68 cellsPl rfl rfl cellsPs cellsPi hl
  obtain ⟨n, rfl, hn, rfl⟩ := lits_int Tryd.underlying3 hy
  obtain ⟨s, rfl, hs, rfl⟩ := lits_str Tryd.underlying9 hx
  obtain ⟨xs⟩ := xs
  simp only at e
  subst e
  exact ⟨n, s, rfl, ⟨hn, hs⟩, rfl⟩
theorem plB_inj {n n' : Int} {k k' : ByteArray} (h : OkK n k) (h' : OkK n' k') (e : plB n k = plB n' k') : n = n' ∧ k = k' := by
  have h1 := keyOf_pl h
  have h2 := keyOf_pl h'
  rw [e] at h1
  have h3 := keyedPl.inj h1 h2
  simp only [plV, Value.agg.injEq, Array.mk.injEq, List.cons.injEq, Value.int.injEq, Value.string.injEq, and_true, true_and] at h3
  exact ⟨h3.2, h3.1⟩

/-- How a pane reads in the map. -/
def hdD (h : Pn) : DataW Unit := .agg [.lit (.string h.key.data.toList), .lit (.int .i64 h.fr), .lit (.int .i64 h.to), .lit (.int .i64 h.mn), .lit (.int .i64 h.sm), .lit (.int .i64 h.lt)]
open Classical in
noncomputable def hdR (v : Value) : Option (DataW Unit × List MemPlace) := if h : ∃ x : Pn, v = pV x then some (hdD h.choose, []) else none
theorem pV_inj {x y : Pn} (h : pV x = pV y) : x = y := by
  obtain ⟨a, b, c, d, e, f⟩ := x
  obtain ⟨a', b', c', d', e', f'⟩ := y
  simp only [pV, Value.agg.injEq, Array.mk.injEq, List.cons.injEq, Value.string.injEq, Value.int.injEq, and_true, true_and] at h
  obtain ⟨h1, h2, h3, h4, h5, h6⟩ := h
  rw [h1, h2, h3, h4, h5, h6]
theorem hdD_inj {x y : Pn} (h : hdD x = hdD y) : x = y := by
  obtain ⟨a, b, c, d, e, f⟩ := x
  obtain ⟨a', b', c', d', e', f'⟩ := y
  simp only [hdD, DataW.agg.injEq, List.cons.injEq, DataW.lit.injEq, Lit.string.injEq, Lit.int.injEq, and_true, true_and] at h
  obtain ⟨h1, h2, h3, h4, h5, h6⟩ := h
  rw [WideShapes.bytes_inj h1, h2, h3, h4, h5, h6]
theorem hdR_mk (h : Pn) : hdR (pV h) = some (hdD h, []) := by
  have hx : ∃ x : Pn, pV h = pV x := ⟨h, rfl⟩
  unfold hdR
  rw [dif_pos hx, ← pV_inj hx.choose_spec]
theorem hdR_any {v : Value} {y : DataW Unit × List MemPlace} (e : hdR v = some y) : ∃ x : Pn, v = pV x ∧ y = (hdD x, []) := by
  unfold hdR at e
  split at e
  · rename_i hx
    injection e with e
    exact ⟨hx.choose, hx.choose_spec, e.symm⟩
  · cases e
theorem hdR_inv {v : Value} {h : Pn} {ps : List MemPlace} (e : hdR v = some (hdD h, ps)) : v = pV h := by
  obtain ⟨x, h1, h2⟩ := hdR_any e
  injection h2 with h2 _
  rw [h1, hdD_inj h2]
/-- A map that has just these states. -/
structure MapH (D : DataW Unit) (L : List Pn) : Prop where
  tidy : Maps.Tidy D
  ris : RisH L
  ok : ∀ h ∈ L, OkK h.fr h.key
  has : ∀ x : List UInt8, Maps.has D (.string x) = true ↔ ∃ h ∈ L, plB h.fr h.key = x
  at_ : ∀ h ∈ L, ∀ z, D.atKey (.string (plB h.fr h.key)) z = hdD h
  size : Maps.size D = L.length
theorem mapH_nil : MapH (.map []) [] := ⟨Maps.tidy_empty, List.Pairwise.nil, by simp, fun x => by simp [Maps.has], by simp, rfl⟩
theorem MapH.hasK {D : DataW Unit} {L : List Pn} (h : MapH D L) {n : Int} {k : ByteArray} (hk : OkK n k) : Maps.has D (.string (plB n k)) = (findH L n k).isSome := by
  cases hf : findH L n k with
  | some y =>
    obtain ⟨h1, rfl, rfl⟩ := (findH_iff h.ris n k y).1 hf
    exact (h.has _).2 ⟨y, h1, rfl⟩
  | none =>
    rw [findH_none] at hf
    cases hh : Maps.has D (.string (plB n k)) with
    | false => rfl
    | true =>
      obtain ⟨y, hy, e⟩ := (h.has _).1 hh
      exact absurd (plB_inj (h.ok y hy) hk e) (hf y hy)
theorem MapH.atK {D : DataW Unit} {L : List Pn} (h : MapH D L) {n : Int} {k : ByteArray} (hk : OkK n k) : D.atKey (.string (plB n k)) (hdD pn0) = hdD ((findH L n k).getD pn0) := by
  have h1 := h.hasK hk
  cases hf : findH L n k with
  | some y =>
    obtain ⟨h2, rfl, rfl⟩ := (findH_iff h.ris n k y).1 hf
    exact h.at_ y h2 _
  | none =>
    rw [hf] at h1
    exact Maps.atKey_of_not_has h1 _
theorem isKey (x : List UInt8) : WideAt.IsKeyLit (.string x) := trivial
theorem MapH.put {D : DataW Unit} {L : List Pn} (h : MapH D L) {r : Pn} (hr : OkK r.fr r.key) : MapH (D.put (.string (plB r.fr r.key)) (hdD r)) (putP L r) where
  tidy := h.tidy.put (isKey _) _
  ris := putP_ris h.ris r
  ok := putP_mem_of h.ok hr
  has x := by
    by_cases hx : x = plB r.fr r.key
    · subst hx
      rw [Maps.has_put_same h.tidy.isMap (isKey _)]
      exact ⟨fun _ => ⟨r, (mem_putP L r r).2 (.inl rfl), rfl⟩, fun _ => rfl⟩
    · rw [Maps.has_put_other (fun e => hx (by injection e)), h.has]
      constructor
      · rintro ⟨y, hy, rfl⟩
        exact ⟨y, (mem_putP L r y).2 (.inr ⟨hy, fun k => hx (by rw [k.1, k.2])⟩), rfl⟩
      · rintro ⟨y, hy, rfl⟩
        rcases (mem_putP L r y).1 hy with rfl | ⟨h1, -⟩
        · exact absurd rfl hx
        · exact ⟨y, h1, rfl⟩
  at_ y hy z := by
    rcases (mem_putP L r y).1 hy with rfl | ⟨h1, h2⟩
    · exact Maps.atKey_put_same h.tidy.isMap (isKey _) _ _
    · rw [Maps.atKey_put_other (fun e => by injection e with e; exact h2 (plB_inj (h.ok y h1) hr e))]
      exact h.at_ y h1 z
  size := by
    rw [Maps.size_put h.tidy, h.hasK hr, h.size, putP_len h.ris]
theorem MapH.del {D : DataW Unit} {L : List Pn} (h : MapH D L) {n : Int} {k : ByteArray} (hk : OkK n k) : MapH (D.del (.string (plB n k))) (delP L n k) where
  tidy := h.tidy.del _
  ris := delP_ris h.ris n k
  ok := fun x hx => h.ok x ((mem_delP L n k x).1 hx).1
  has x := by
    by_cases hx : x = plB n k
    · subst hx
      rw [Maps.has_del_same]
      refine ⟨fun e => (by cases e), ?_⟩
      rintro ⟨y, hy, e⟩
      obtain ⟨h1, h2⟩ := (mem_delP L n k y).1 hy
      exact absurd (plB_inj (h.ok y h1) hk e) h2
    · rw [Maps.has_del_other (fun e => hx (by injection e)), h.has]
      constructor
      · rintro ⟨y, hy, rfl⟩
        exact ⟨y, (mem_delP L n k y).2 ⟨hy, fun k2 => hx (by rw [k2.1, k2.2])⟩, rfl⟩
      · rintro ⟨y, hy, rfl⟩
        exact ⟨y, ((mem_delP L n k y).1 hy).1, rfl⟩
  at_ y hy z := by
    obtain ⟨h1, h2⟩ := (mem_delP L n k y).1 hy
    rw [Maps.atKey_del_other (fun e => by injection e with e; exact h2 (plB_inj (h.ok y h1) hk e))]
    exact h.at_ y h1 z
  size := by
    have h1 := Maps.size_del (k := .string (plB n k)) h.tidy
    have h2 := delP_len h.ris n k
    rw [h.hasK hk, h.size] at h1
    omega
theorem own_block {w w' : World} {P : Program} {k : TypeId} {R : Value → Option (DataW Unit × List MemPlace)} {b n : Nat} {D : DataW Unit} (h : w.ownsMap P k R b n D) (hb : w'.heap[b]? = w.heap[b]?) : w'.ownsMap P k R b n D := by
  obtain ⟨es, cl, h1, h2⟩ := h
  exact ⟨es, cl, hb.trans h1, h2⟩
/-- The map in block M has just the states of L. -/
def MpAt (w : World) (M : Nat) (L : List Pn) : Prop := ∃ D, w.ownsMap Tryd.prog 68 hdR M L.length D ∧ MapH D L
theorem mp_of {w : World} {M n : Nat} {D : DataW Unit} {L : List Pn} (h : w.ownsMap Tryd.prog 68 hdR M n D) (hD : MapH D L) : MpAt w M L := by
  refine ⟨D, ?_, hD⟩
  have hs := hD.size
  obtain ⟨es, clock, hb, F, -, rfl⟩ := h
  refine ⟨es, clock, hb, F, ?_, rfl⟩
  rw [← hs]
  simp [Maps.size, length_sorted]
theorem MpAt.block {w u : World} {M : Nat} {L : List Pn} (h : MpAt w M L) (hb : u.heap[M]? = w.heap[M]?) : MpAt u M L := by
  obtain ⟨D, h1, h2⟩ := h
  exact ⟨D, own_block h1 hb, h2⟩
theorem MpAt.lt {w : World} {M : Nat} {L : List Pn} (h : MpAt w M L) : M < w.heap.size := by
  obtain ⟨D, h1, h2⟩ := h
  exact h1.lt
theorem MpAt.map {w : World} {M : Nat} {L : List Pn} (h : MpAt w M L) : ∃ es cl, w.heap[M]? = some (.map es cl) := by
  obtain ⟨D, ⟨es, cl, h1, -⟩, h2⟩ := h
  exact ⟨es, cl, h1⟩
theorem MpAt.ris {w : World} {M : Nat} {L : List Pn} (h : MpAt w M L) : RisH L := by
  obtain ⟨D, h1, h2⟩ := h
  exact h2.ris
theorem MpAt.ok {w : World} {M : Nat} {L : List Pn} (h : MpAt w M L) : ∀ r ∈ L, OkK r.fr r.key := by
  obtain ⟨D, h1, h2⟩ := h
  exact h2.ok
theorem mp_new (w : World) : MpAt (w.alloc (.map #[] 0)) w.heap.size [] := ⟨_, World.ownsMap_made w Tryd.prog 68 hdR, mapH_nil⟩
theorem MpAt.look {w : World} {M : Nat} {L : List Pn} (h : MpAt w M L) {n : Int} {k : ByteArray} (hk : OkK n k) (u : World) (hu : u.heap[M]? = w.heap[M]?) :
    (Instr.lookup 54 (.map (some M)) (plV n k) false).run Tryd.prog u = .ok (pV ((findH L n k).getD pn0)) u := by
  obtain ⟨D, h1, h2⟩ := h.block hu
  obtain ⟨v, ps, hrun, hv⟩ := h1.lookup (e := 49) (t := 54) keyedPl Tryd.underlying54 (Tryd.zeroValue49 u) (zd := hdD pn0) (zp := []) (hdR_mk pn0) (keyOf_pl hk)
  rw [h2.atK hk] at hv
  rw [hrun, hdR_inv hv]
theorem fr_map {w w' : World} {M : Nat} (t : w.mapTurned w' M) : Fr [M] w w' :=
  ⟨t.grown.os, t.grown.tape, t.grown.output, t.grown.size, fun k hk hx => t.grown.block k hk (fun e => hx (by injection e with e; simp [e]))⟩
theorem MpAt.store {w : World} {M : Nat} {L : List Pn} (h : MpAt w M L) {r : Pn} (hr : OkK r.fr r.key) (hl : L.length < maxLen) :
    ∃ w', (Instr.mapUpdate 54 (.map (some M)) (plV r.fr r.key) (pV r)).run Tryd.prog w = .ok () w' ∧ MpAt w' M (putP L r) ∧ Fr [M] w w' := by
  obtain ⟨D, h1, h2⟩ := h
  obtain ⟨w', e1, e2, e3⟩ := h1.store (t := 54) keyedPl Tryd.underlying54 hl (keyOf_pl hr) (hdR_mk r)
  exact ⟨w', e1, mp_of e2 (h2.put hr), fr_map e3⟩
end Go.Proofs.YtfpfaekbakilpaaDoor
