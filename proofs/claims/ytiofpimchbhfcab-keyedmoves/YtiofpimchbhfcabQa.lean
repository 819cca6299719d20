/- States in a map, by node and key. -/
import Derived.Test.YtiofpimchbhfcabFq
import Derived.Test.YtiofpimchbhfcabPureKy
import Derived.Maps.OwnIn
import Derived.Maps.OwnSet
import Derived.DeepKeys4
namespace Go.Proofs.Ytiofpimchbhfcab
open Go.RowKit
set_option linter.unusedVariables false

theorem laidOk : laidOutB Try.prog = true := by kernel_rfl
theorem rowPl : (57 : TypeId) < Try.prog.types.size := of_decide_eq_true (by kernel_rfl)
theorem cellsPl : Try.prog.cellsOf 57 = 2 := by kernel_rfl
theorem cellsPi : Try.prog.cellsOf 3 = 1 := by kernel_rfl
theorem cellsPs : Try.prog.cellsOf 9 = 1 := by kernel_rfl
theorem typePl : Try.prog.keyType 57 = true := by kernel_rfl
theorem deepPl : Try.prog.keyTypeAt 2 57 = true := by kernel_rfl
theorem keyedPl : Maps.Keyed Try.prog 57 := Maps.Keyed.of_law (deep_law_laid laidOk (m := 2) (by omega) rowPl deepPl (by rw [Try.underlying57]))
theorem pos_succ {a n : Nat} (h : a < n) : ∃ m, n = m + 1 := ⟨n - 1, by omega⟩
theorem sizeTy : ∃ m, Try.prog.types.size = m + 1 := pos_succ rowPl
def plV (n : Int) (k : ByteArray) : Value := .agg #[.int .i64 n, .string k]
def plB (n : Int) (k : ByteArray) : List UInt8 := keyBytes [.int .i64 n, .string k.data.toList]
def OkK (n : Int) (k : ByteArray) : Prop := I64 n ∧ k.size ≤ maxLen
theorem wf_i64 {n : Int} (h : I64 n) : (Lit.int .i64 n).wf = true := by
  simp [Lit.wf, IntKind.min, IntKind.max, IntKind.signed, IntKind.bits]; exact ⟨h.1, by have := h.2; omega⟩
theorem wf_i64' {n : Int} (h : (Lit.int .i64 n).wf = true) : I64 n := by
  simp [Lit.wf, IntKind.min, IntKind.max, IntKind.signed, IntKind.bits] at h
  exact ⟨h.1, by omega⟩
theorem keyOf_pl {n : Int} {k : ByteArray} (h : OkK n k) : keyOf Try.prog 57 (plV n k) = some (.string (plB n k)) := by
  obtain ⟨m, hm⟩ := sizeTy
  have hwf := wf_i64 h.1
  unfold keyOf plV
  simp only [Try.underlying57]
  rw [if_pos (by simp [typePl, Value.formed, Try.underlying57, cellsPl]), hm]
  unfold Program.keyLits
  simp only [Try.underlying57, Value.cells]
  rw [if_pos (by rw [cellsPl]; exact ⟨rfl, by simp⟩)]
  simp [Program.keyLits, Try.underlying3, Try.underlying9, cellsPi, cellsPs, hwf, h.2, plB]
theorem two_of {l : List Value} (h : l.length = 2) : ∃ a b, l = [a, b] := by
  match l, h with
  | [a, b], _ => exact ⟨a, b, rfl⟩
theorem lits_int {P : Program} {t : TypeId} (ht : P.underlying t = some (.int .i64)) {d : Nat} {v : Value} {L : List Lit} (h : P.keyLits (d + 1) t [v] = some L) : ∃ n, v = .int .i64 n ∧ I64 n ∧ L = [.int .i64 n] := by
  unfold Program.keyLits at h
  rw [ht] at h
  cases v <;> simp at h
  rename_i q n
  obtain ⟨⟨rfl, hw⟩, rfl⟩ := h
  exact ⟨n, rfl, wf_i64' hw, rfl⟩
theorem lits_str {P : Program} {t : TypeId} (ht : P.underlying t = some .string) {d : Nat} {v : Value} {L : List Lit} (h : P.keyLits (d + 1) t [v] = some L) : ∃ s, v = .string s ∧ s.size ≤ maxLen ∧ L = [.string s.data.toList] := by
  unfold Program.keyLits at h
  rw [ht] at h
  cases v <;> simp at h
  rename_i s
  obtain ⟨hs, rfl⟩ := h
  exact ⟨s, rfl, hs, rfl⟩
theorem lits_two {P : Program} {k : TypeId} {f0 f1 : Field} (hu : P.underlying k = some (.struct #[f0, f1])) (hc : P.cellsOf k = 2) (h0 : f0.offset = 0) (h1 : f1.offset = 1) (c0 : P.cellsOf f0.type = 1) (c1 : P.cellsOf f1.type = 1) {d : Nat} {xs : List Value} {L : List Lit} (h : P.keyLits (d + 1) k xs = some L) :
    ∃ a b x y, xs = [a, b] ∧ P.keyLits d f0.type [a] = some x ∧ P.keyLits d f1.type [b] = some y ∧ L = x ++ y := by
  unfold Program.keyLits at h
  simp only [hu] at h
  split at h
  · rename_i hh
    obtain ⟨a, b, rfl⟩ := two_of (hh.1.trans hc)
    simp [h0, h1, c0, c1, List.mapM_cons, Option.bind_eq_some_iff] at h
    obtain ⟨x, hx, ls, ⟨y, hy, rfl⟩, rfl⟩ := h
    exact ⟨a, b, x, y, rfl, hx, hy, by simp⟩
  · cases h
theorem keyOf_inv {v : Value} {l : Lit} (h : keyOf Try.prog 57 v = some l) : ∃ n k, v = plV n k ∧ OkK n k ∧ l = .string (plB n k) := by
  obtain ⟨xs, L, rfl, hl, rfl⟩ := keyOf_top (by rw [Try.underlying57]) h
  obtain ⟨m, hm⟩ := sizeTy
  rw [hm] at hl
  obtain ⟨a, b, x, y, e, hx, hy, rfl⟩ := lits_two Try.underlying57 cellsPl rfl rfl cellsPi cellsPs hl
  obtain ⟨n, rfl, hn, rfl⟩ := lits_int Try.underlying3 hx
  obtain ⟨s, rfl, hs, rfl⟩ := lits_str Try.underlying9 hy
  obtain ⟨xs⟩ := xs
  simp only at e
  subst e
  exact ⟨n, s, rfl, ⟨hn, hs⟩, rfl⟩
theorem plB_inj {n n' : Int} {k k' : ByteArray} (h : OkK n k) (h' : OkK n' k') (e : plB n k = plB n' k') : n = n' ∧ k = k' := by
  have h1 := keyOf_pl h
  have h2 := keyOf_pl h'
  rw [e] at h1
  have h3 := keyedPl.inj h1 h2
  simp only [plV, Value.agg.injEq, Array.mk.injEq, List.cons.injEq, Value.int.injEq, Value.string.injEq, and_true, true_and] at h3
  exact h3

def hd0 : Hd := ⟨0, ⟨#[]⟩, 0, 0⟩
/-- How a state reads in the map. -/
def hdD (h : Hd) : DataW Unit := .agg [.lit (.int .i64 h.nd), .lit (.string h.key.data.toList), .lit (.int .i64 h.a), .lit (.int .i64 h.b)]
open Classical in
noncomputable def hdR (v : Value) : Option (DataW Unit × List MemPlace) := if h : ∃ x : Hd, v = hdV x then some (hdD h.choose, []) else none
theorem hdV_inj {x y : Hd} (h : hdV x = hdV y) : x = y := by
  obtain ⟨a, b, c, d⟩ := x
  obtain ⟨a', b', c', d'⟩ := y
  simp only [hdV, Value.agg.injEq, Array.mk.injEq, List.cons.injEq, Value.string.injEq, Value.int.injEq, and_true, true_and] at h
  obtain ⟨h1, h2, h3, h4⟩ := h
  rw [h1, h2, h3, h4]
theorem hdD_inj {x y : Hd} (h : hdD x = hdD y) : x = y := by
  obtain ⟨a, b, c, d⟩ := x
  obtain ⟨a', b', c', d'⟩ := y
  simp only [hdD, DataW.agg.injEq, List.cons.injEq, DataW.lit.injEq, Lit.string.injEq, Lit.int.injEq, and_true, true_and] at h
  obtain ⟨h1, h2, h3, h4⟩ := h
  rw [h1, WideShapes.bytes_inj h2, h3, h4]
theorem hdR_mk (h : Hd) : hdR (hdV h) = some (hdD h, []) := by
  have hx : ∃ x : Hd, hdV h = hdV x := ⟨h, rfl⟩
  unfold hdR
  rw [dif_pos hx, ← hdV_inj hx.choose_spec]
theorem hdR_any {v : Value} {y : DataW Unit × List MemPlace} (e : hdR v = some y) : ∃ x : Hd, v = hdV x ∧ y = (hdD x, []) := by
  unfold hdR at e
  split at e
  · rename_i hx
    injection e with e
    exact ⟨hx.choose, hx.choose_spec, e.symm⟩
  · cases e
theorem hdR_inv {v : Value} {h : Hd} {ps : List MemPlace} (e : hdR v = some (hdD h, ps)) : v = hdV h := by
  obtain ⟨x, h1, h2⟩ := hdR_any e
  injection h2 with h2 _
  rw [h1, hdD_inj h2]
/-- A map that has just these states. -/
structure MapH (D : DataW Unit) (L : List Hd) : Prop where
  tidy : Maps.Tidy D
  ris : RisH L
  ok : ∀ h ∈ L, OkK h.nd h.key
  has : ∀ x : List UInt8, Maps.has D (.string x) = true ↔ ∃ h ∈ L, plB h.nd h.key = x
  at_ : ∀ h ∈ L, ∀ z, D.atKey (.string (plB h.nd h.key)) z = hdD h
  size : Maps.size D = L.length
theorem mapH_nil : MapH (.map []) [] := ⟨Maps.tidy_empty, List.Pairwise.nil, by simp, fun x => by simp [Maps.has], by simp, rfl⟩
theorem MapH.hasK {D : DataW Unit} {L : List Hd} (h : MapH D L) {n : Int} {k : ByteArray} (hk : OkK n k) : Maps.has D (.string (plB n k)) = (findH L n k).isSome := by
  cases hf : findH L n k with
  | some y =>
    obtain ⟨h1, rfl, rfl⟩ := (findH_iff h.ris n k y).1 hf
    exact (h.has _).2 ⟨y, h1, rfl⟩
  | none =>
    rw [findH_none] at hf
    cases hh : Maps.has D (.string (plB n k)) with
    | false => rfl
    | true =>
      obtain ⟨y, hy, e⟩ := (h.has _).1 hh
      exact absurd (plB_inj (h.ok y hy) hk e) (hf y hy)
theorem MapH.atK {D : DataW Unit} {L : List Hd} (h : MapH D L) {n : Int} {k : ByteArray} (hk : OkK n k) : D.atKey (.string (plB n k)) (hdD hd0) = hdD ((findH L n k).getD hd0) := by
  have h1 := h.hasK hk
  cases hf : findH L n k with
  | some y =>
    obtain ⟨h2, rfl, rfl⟩ := (findH_iff h.ris n k y).1 hf
    exact h.at_ y h2 _
  | none =>
    rw [hf] at h1
    exact Maps.atKey_of_not_has h1 _
theorem isKey (x : List UInt8) : WideAt.IsKeyLit (.string x) := trivial
theorem MapH.put {D : DataW Unit} {L : List Hd} (h : MapH D L) {r : Hd} (hr : OkK r.nd r.key) : MapH (D.put (.string (plB r.nd r.key)) (hdD r)) (putP L r) where
  tidy := h.tidy.put (isKey _) _
  ris := putP_ris h.ris r
  ok := putP_mem_of h.ok hr
  has x := by
    by_cases hx : x = plB r.nd r.key
    · subst hx
      rw [Maps.has_put_same h.tidy.isMap (isKey _)]
      exact ⟨fun _ => ⟨r, (mem_putP L r r).2 (.inl rfl), rfl⟩, fun _ => rfl⟩
    · rw [Maps.has_put_other (fun e => hx (by injection e)), h.has]
      constructor
      · rintro ⟨y, hy, rfl⟩
        exact ⟨y, (mem_putP L r y).2 (.inr ⟨hy, fun k => hx (by rw [k.1, k.2])⟩), rfl⟩
      · rintro ⟨y, hy, rfl⟩
        rcases (mem_putP L r y).1 hy with rfl | ⟨h1, -⟩
        · exact absurd rfl hx
        · exact ⟨y, h1, rfl⟩
  at_ y hy z := by
    rcases (mem_putP L r y).1 hy with rfl | ⟨h1, h2⟩
    · exact Maps.atKey_put_same h.tidy.isMap (isKey _) _ _
    · rw [Maps.atKey_put_other (fun e => by injection e with e; exact h2 (plB_inj (h.ok y h1) hr e))]
      exact h.at_ y h1 z
  size := by
    rw [Maps.size_put h.tidy, h.hasK hr, h.size, putP_len h.ris]
theorem MapH.del {D : DataW Unit} {L : List Hd} (h : MapH D L) {n : Int} {k : ByteArray} (hk : OkK n k) : MapH (D.del (.string (plB n k))) (delP L n k) where
  tidy := h.tidy.del _
  ris := delP_ris h.ris n k
  ok := fun x hx => h.ok x ((mem_delP L n k x).1 hx).1
  has x := by
    by_cases hx : x = plB n k
    · subst hx
      rw [Maps.has_del_same]
      refine ⟨fun e => (by cases e), ?_⟩
      rintro ⟨y, hy, e⟩
      obtain ⟨h1, h2⟩ := (mem_delP L n k y).1 hy
      exact absurd (plB_inj (h.ok y h1) hk e) h2
    · rw [Maps.has_del_other (fun e => hx (by injection e)), h.has]
      constructor
      · rintro ⟨y, hy, rfl⟩
        exact ⟨y, (mem_delP L n k y).2 ⟨hy, fun k2 => hx (by rw [k2.1, k2.2])⟩, rfl⟩
      · rintro ⟨y, hy, rfl⟩
        exact ⟨y, ((mem_delP L n k y).1 hy).1, rfl⟩
  at_ y hy z := by
    obtain ⟨h1, h2⟩ := (mem_delP L n k y).1 hy
    rw [Maps.atKey_del_other (fun e => by injection e with e; exact h2 (plB_inj (h.ok y h1) hk e))]
    exact h.at_ y h1 z
  size := by
    have h1 := Maps.size_del (k := .string (plB n k)) h.tidy
    have h2 := delP_len h.ris n k
    rw [h.hasK hk, h.size] at h1
    omega
theorem lookup_hd {P : Program} (w : World) {ops : Array Oper} {rest : List Oper} {o : Oper} {a : Act} {Q : Exit → Act → World → Prop} (hg : o.guard = none) (m x : Operand) (t : TypeId) (hop : o.op = Op.lookup t m x true)
    (k e : TypeId) (K : Maps.Keyed P k) (ht : P.underlying t = some (.map k e)) (hz : (zeroValue e).run P w = .ok (hdV hd0) w) (b n : Nat) (D : DataW Unit)
    (hm : a.eval m = .map (some b)) (hown : w.ownsMap P k hdR b n D) (key : Value) (kl : Lit) (hx : a.eval x = key) (hkey : keyOf P k key = some kl) (h0 : Int) (h1 : ByteArray) (h2 h3 : Int) (r : Bool) (hat : D.atKey kl (hdD hd0) = hdD ⟨h0, h1, h2, h3⟩) (hhas : Maps.has D kl = r)
    (hK : wpList P ops Q rest (a.put o.dst (.tuple #[.agg #[.int .i64 h0, .string h1, .int .i64 h2, .int .i64 h3], .bool r])) w) :
    wpList P ops Q (o :: rest) a w :=
  wpList_lookup_own_ok w hg m x t hop k e K ht hdR hz (hdD hd0) [] (hdR_mk hd0) b n D hm hown key kl hx hkey (fun v ps hv => by
    rw [hat] at hv
    rw [hdR_inv hv, hhas]; exact hK)
theorem own_block {w w' : World} {P : Program} {k : TypeId} {R : Value → Option (DataW Unit × List MemPlace)} {b n : Nat} {D : DataW Unit} (h : w.ownsMap P k R b n D) (hb : w'.heap[b]? = w.heap[b]?) : w'.ownsMap P k R b n D := by
  obtain ⟨es, cl, h1, h2⟩ := h
  exact ⟨es, cl, hb.trans h1, h2⟩
end Go.Proofs.Ytiofpimchbhfcab
