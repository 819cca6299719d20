/- Entries in a map: the first of each key. -/
import Derived.Test.YtckjcjoheeobgaaGreatDoorTd
import Derived.Maps.OwnIn
import Derived.Maps.OwnSet
namespace Go.Proofs.YtckjcjoheeobgaaGreatDoor
open Go.RowKit
open Go.Maps (string_keyed)
set_option linter.unusedVariables false

/-- How an entry reads in the map. -/
def enD (h : En) : DataW Unit := .agg [.lit (.string h.key.data.toList), .lit (.string h.val.data.toList), .lit (.bool h.dead)]
open Classical in
noncomputable def enR (v : Value) : Option (DataW Unit × List MemPlace) := if h : ∃ x : En, v = enV x then some (enD h.choose, []) else none
theorem enV_inj {x y : En} (h : enV x = enV y) : x = y := by
  obtain ⟨a, b, c⟩ := x
  obtain ⟨a', b', c'⟩ := y
  simp only [enV, Value.agg.injEq, Array.mk.injEq, List.cons.injEq, Value.string.injEq, Value.bool.injEq, and_true] at h
  obtain ⟨h1, h2, h3⟩ := h
  rw [h1, h2, h3]
theorem enD_inj {x y : En} (h : enD x = enD y) : x = y := by
  obtain ⟨a, b, c⟩ := x
  obtain ⟨a', b', c'⟩ := y
  simp only [enD, DataW.agg.injEq, List.cons.injEq, DataW.lit.injEq, Lit.string.injEq, Lit.bool.injEq, and_true] at h
  obtain ⟨h1, h2, h3⟩ := h
  rw [WideShapes.bytes_inj h1, WideShapes.bytes_inj h2, h3]
theorem enR_mk (h : En) : enR (enV h) = some (enD h, []) := by
  have hx : ∃ x : En, enV h = enV x := ⟨h, rfl⟩
  unfold enR
  rw [dif_pos hx, ← enV_inj hx.choose_spec]
theorem enR_any {v : Value} {y : DataW Unit × List MemPlace} (e : enR v = some y) : ∃ x : En, v = enV x ∧ y = (enD x, []) := by
  unfold enR at e
  split at e
  · rename_i hx
    injection e with e
    exact ⟨hx.choose, hx.choose_spec, e.symm⟩
  · cases e
theorem enR_inv {v : Value} {h : En} {ps : List MemPlace} (e : enR v = some (enD h, ps)) : v = enV h := by
  obtain ⟨x, h1, h2⟩ := enR_any e
  injection h2 with h2 _
  rw [h1, enD_inj h2]
def en0 : En := ⟨⟨#[]⟩, ⟨#[]⟩, false⟩
/-- A map that says which entry a key has. -/
structure MapIs (D : DataW Unit) (σ : ByteArray → Option En) : Prop where
  map : Maps.IsMap D
  has : ∀ k : ByteArray, Maps.has D (.string k.data.toList) = (σ k).isSome
  at_ : ∀ k : ByteArray, D.atKey (.string k.data.toList) (enD en0) = enD ((σ k).getD en0)
theorem mapIs_nil : MapIs (.map []) (fun _ => none) := ⟨Maps.isMap_empty, fun _ => rfl, fun _ => rfl⟩
theorem MapIs.put {D : DataW Unit} {σ : ByteArray → Option En} (h : MapIs D σ) (k : ByteArray) (x : En) : MapIs (D.put (.string k.data.toList) (enD x)) (fun q => if q.data.toList = k.data.toList then some x else σ q) := by
  refine ⟨h.map.put _ _, fun q => ?_, fun q => ?_⟩
  · by_cases hq : q.data.toList = k.data.toList
    · rw [hq, Maps.has_put_same h.map (show WideAt.IsKeyLit (.string _) from trivial), if_pos rfl]; rfl
    · rw [Maps.has_put_other (fun e => hq (by injection e)), if_neg hq]; exact h.has q
  · by_cases hq : q.data.toList = k.data.toList
    · rw [hq, Maps.atKey_put_same h.map (show WideAt.IsKeyLit (.string _) from trivial), if_pos rfl]; rfl
    · rw [Maps.atKey_put_other (fun e => hq (by injection e)), if_neg hq]; exact h.at_ q
/-- The first of each key. -/
def stE (l : List En) (k : ByteArray) : Option En := l.find? (fun e => decide (kl e = k.data.toList))
theorem stE_snoc (l : List En) (e : En) : stE (l ++ [e]) = if (stE l e.key).isSome = true then stE l else fun q => if q.data.toList = e.key.data.toList then some e else stE l q := by
  funext q
  have h1 : stE (l ++ [e]) q = (stE l q).or (if kl e = q.data.toList then some e else none) := by
    unfold stE
    rw [List.find?_append, List.find?_cons]
    by_cases hq : kl e = q.data.toList
    · simp [hq]
    · simp [hq]
  rw [h1]
  by_cases hs : (stE l e.key).isSome = true
  · rw [if_pos hs]
    by_cases hq : kl e = q.data.toList
    · have : stE l q = stE l e.key := by unfold stE; rw [← hq]; rfl
      rw [this]
      cases hx : stE l e.key with
      | none => rw [hx] at hs; cases hs
      | some y => rfl
    · rw [if_neg hq]; simp
  · rw [if_neg hs]
    by_cases hq : kl e = q.data.toList
    · have : stE l q = none := by
        have e2 : stE l q = stE l e.key := by unfold stE; rw [← hq]; rfl
        rw [e2]
        cases hx : stE l e.key with
        | none => rfl
        | some y => rw [hx] at hs; exact absurd rfl hs
      rw [this, if_pos hq, if_pos (show q.data.toList = e.key.data.toList from hq.symm)]; rfl
    · rw [if_neg hq, if_neg (show ¬ q.data.toList = e.key.data.toList from fun e2 => hq e2.symm)]; simp
theorem lookup_en {P : Program} (w : World) {ops : Array Oper} {rest : List Oper} {o : Oper} {a : Act} {Q : Exit → Act → World → Prop} (hg : o.guard = none) (m x : Operand) (t : TypeId) (hop : o.op = Op.lookup t m x true)
    (k e : TypeId) (K : Maps.Keyed P k) (ht : P.underlying t = some (.map k e)) (hz : (zeroValue e).run P w = .ok (enV en0) w) (b n : Nat) (D : DataW Unit)
    (hm : a.eval m = .map (some b)) (hown : w.ownsMap P k enR b n D) (key : Value) (kl : Lit) (hx : a.eval x = key) (hkey : keyOf P k key = some kl) (h0 h1 : ByteArray) (h2 : Bool) (r : Bool) (hat : D.atKey kl (enD en0) = enD ⟨h0, h1, h2⟩) (hhas : Maps.has D kl = r)
    (hK : wpList P ops Q rest (a.put o.dst (.tuple #[.agg #[.string h0, .string h1, .bool h2], .bool r])) w) :
    wpList P ops Q (o :: rest) a w :=
  wpList_lookup_own_ok w hg m x t hop k e K ht enR hz (enD en0) [] (enR_mk en0) b n D hm hown key kl hx hkey (fun v ps hv => by
    rw [hat] at hv
    rw [enR_inv hv, hhas]; exact hK)
theorem own_block {w w' : World} {P : Program} {k : TypeId} {R : Value → Option (DataW Unit × List MemPlace)} {b n : Nat} {D : DataW Unit} (h : w.ownsMap P k R b n D) (hb : w'.heap[b]? = w.heap[b]?) : w'.ownsMap P k R b n D := by
  obtain ⟨es, cl, h1, h2⟩ := h
  exact ⟨es, cl, hb.trans h1, h2⟩

end Go.Proofs.YtckjcjoheeobgaaGreatDoor
