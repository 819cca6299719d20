/- A Keyed in memory: New, Get, Del, Put. -/
import Derived.Test.YtiofpimchbhfcabQa
import Derived.Test.YtiofpimchbhfcabShelf
import Derived.Deep.RegionWith
import Derived.BigRegion
namespace Go.Proofs.Ytiofpimchbhfcab
open Go.RowKit
set_option linter.unusedVariables false

/-- The map in block M has just the states of L. -/
def MpAt (w : World) (M : Nat) (L : List Hd) : Prop := ∃ D, w.ownsMap Try.prog 57 hdR M L.length D ∧ MapH D L
theorem mp_of {w : World} {M n : Nat} {D : DataW Unit} {L : List Hd} (h : w.ownsMap Try.prog 57 hdR M n D) (hD : MapH D L) : MpAt w M L := by
  refine ⟨D, ?_, hD⟩
  have hs := hD.size
  obtain ⟨es, clock, hb, F, -, rfl⟩ := h
  refine ⟨es, clock, hb, F, ?_, rfl⟩
  rw [← hs]
  simp [Maps.size, length_sorted]
theorem MpAt.block {w u : World} {M : Nat} {L : List Hd} (h : MpAt w M L) (hb : u.heap[M]? = w.heap[M]?) : MpAt u M L := by
  obtain ⟨D, h1, h2⟩ := h
  exact ⟨D, own_block h1 hb, h2⟩
theorem MpAt.lt {w : World} {M : Nat} {L : List Hd} (h : MpAt w M L) : M < w.heap.size := by
  obtain ⟨D, h1, h2⟩ := h
  exact h1.lt
theorem MpAt.map {w : World} {M : Nat} {L : List Hd} (h : MpAt w M L) : ∃ es cl, w.heap[M]? = some (.map es cl) := by
  obtain ⟨D, ⟨es, cl, h1, -⟩, h2⟩ := h
  exact ⟨es, cl, h1⟩
theorem MpAt.ris {w : World} {M : Nat} {L : List Hd} (h : MpAt w M L) : RisH L := by
  obtain ⟨D, h1, h2⟩ := h
  exact h2.ris
theorem MpAt.ok {w : World} {M : Nat} {L : List Hd} (h : MpAt w M L) : ∀ r ∈ L, OkK r.nd r.key := by
  obtain ⟨D, h1, h2⟩ := h
  exact h2.ok
theorem mp_new (w : World) : MpAt (w.alloc (.map #[] 0)) w.heap.size [] := ⟨_, World.ownsMap_made w Try.prog 57 hdR, mapH_nil⟩
theorem MpAt.look {w : World} {M : Nat} {L : List Hd} (h : MpAt w M L) {n : Int} {k : ByteArray} (hk : OkK n k) (u : World) (hu : u.heap[M]? = w.heap[M]?) :
    (Instr.lookup 50 (.map (some M)) (plV n k) true).run Try.prog u = .ok (.tuple #[hdV ((findH L n k).getD hd0), .bool (findH L n k).isSome]) u := by
  obtain ⟨D, h1, h2⟩ := h.block hu
  obtain ⟨v, ps, hrun, hv⟩ := h1.look_ok (e := 29) (t := 50) keyedPl Try.underlying50 (Try.zeroValue29 u) (zd := hdD hd0) (zp := []) (hdR_mk hd0) (keyOf_pl hk)
  rw [h2.atK hk] at hv
  rw [hrun, hdR_inv hv, h2.hasK hk]
theorem MpAt.len {w : World} {M : Nat} {L : List Hd} (h : MpAt w M L) (ty : TypeId) (u : World) (hu : u.heap[M]? = w.heap[M]?) : (Builtin.len_ #[50] ty #[.map (some M)]).run Try.prog u = .ok (.int .i64 L.length) u := by
  obtain ⟨D, h1, h2⟩ := h.block hu
  rw [h1.len Try.underlying50 ty, h2.size]
theorem fr_map {w w' : World} {M : Nat} (t : w.mapTurned w' M) : Fr [M] w w' :=
  ⟨t.grown.os, t.grown.tape, t.grown.output, t.grown.size, fun k hk hx => t.grown.block k hk (fun e => hx (by injection e with e; simp [e]))⟩
theorem MpAt.store {w : World} {M : Nat} {L : List Hd} (h : MpAt w M L) {r : Hd} (hr : OkK r.nd r.key) (hl : L.length < maxLen) :
    ∃ w', (Instr.mapUpdate 50 (.map (some M)) (plV r.nd r.key) (hdV r)).run Try.prog w = .ok () w' ∧ MpAt w' M (putP L r) ∧ Fr [M] w w' := by
  obtain ⟨D, h1, h2⟩ := h
  obtain ⟨w', e1, e2, e3⟩ := h1.store (t := 50) keyedPl Try.underlying50 hl (keyOf_pl hr) (hdR_mk r)
  exact ⟨w', e1, mp_of e2 (h2.put hr), fr_map e3⟩
theorem MpAt.drop {w : World} {M : Nat} {L : List Hd} (h : MpAt w M L) {n : Int} {k : ByteArray} (hk : OkK n k) (ty : TypeId) :
    ∃ w', (Builtin.delete_ #[50, 57] ty #[.map (some M), plV n k]).run Try.prog w = .ok (.tuple #[]) w' ∧ MpAt w' M (delP L n k) ∧ Fr [M] w w' := by
  obtain ⟨D, h1, h2⟩ := h
  obtain ⟨w', e1, e2, e3⟩ := h1.drop (t := 50) keyedPl Try.underlying50 (keyOf_pl hk) ty
  exact ⟨w', e1, mp_of e2 (h2.del hk), fr_map e3⟩

/-- A Keyed at R, its states in the map M. -/
structure KyAt (w : World) (R M : Nat) (L : List Hd) : Prop where
  blk : w.heap[R]? = some (.cells #[.map (some M)] 52 (0, 0))
  mp : MpAt w M L
section
variable {w u : World} {R M : Nat} {L : List Hd}
theorem KyAt.lt (h : KyAt w R M L) : R < w.heap.size := some_lt h.blk
theorem KyAt.ltM (h : KyAt w R M L) : M < w.heap.size := h.mp.lt
theorem KyAt.ne (h : KyAt w R M L) : R ≠ M := fun e => by
  obtain ⟨es, cl, h1⟩ := h.mp.map
  rw [← e, h.blk] at h1; injection h1 with h1; injection h1
theorem KyAt.c0 (h : KyAt w R M L) : w.cell? ⟨R, 0, none⟩ = some (.map (some M)) := by have := h.blk; simp [World.cell?, this]
theorem KyAt.fz (h : KyAt w R M L) : w.frozen? ⟨R, 0, none⟩ = false := by have := h.blk; simp [World.frozen?, this]
theorem KyAt.fr (h : KyAt w R M L) {xs : List Nat} (f : Fr xs w u) (hR : R ∉ xs) (hM : M ∉ xs) : KyAt u R M L :=
  ⟨(f.block R h.lt hR).trans h.blk, h.mp.block (f.block M h.ltM hM)⟩
theorem KyAt.keep (h : KyAt w R M L) (b : Below w.heap.size w u) : KyAt u R M L := ⟨(b.block R h.lt).trans h.blk, h.mp.block (b.block M h.ltM)⟩
theorem KyAt.alloc (h : KyAt w R M L) (o : Obj) : KyAt (w.alloc o) R M L := h.keep ((Below.refl _ w).alloc (Nat.le_refl _) o)
theorem KyAt.drewN (h : KyAt w R M L) (n : Nat) : KyAt (w.drewN n) R M L := h.keep ⟨rfl, rfl, rfl, Nat.le_refl _, fun _ _ => rfl⟩
theorem KyAt.turn (h : KyAt w R M L) (f : Fr [M] w u) {L' : List Hd} (hm : MpAt u M L') : KyAt u R M L' := ⟨(f.block R h.lt (by simp; exact h.ne)).trans h.blk, hm⟩
end
theorem new_any (w : World) : Calls Try.prog 5 #[] w fun e w' => e = .returned (.pointer (some ⟨w.heap.size + 1, 0, none⟩)) ∧ KyAt w' (w.heap.size + 1) w.heap.size [] ∧ Below w.heap.size w w' := by
  have hmm := @run_makeMap Try.prog
  have hown := mp_new w
  go_enter Try.func5, Try.ntmps5
  go_wp2
  go_ret
  refine ⟨rfl, ⟨?_, hown.block (Below.heap_alloc _ _ _ (by simp))⟩, ((Below.refl _ _).alloc (Nat.le_refl _) _).alloc (by simp) _⟩
  show ((w.heap.push _).push _)[w.heap.size + 1]? = _
  have : (w.heap.push (.map #[] 0)).size = w.heap.size + 1 := by simp
  rw [← this, Array.getElem?_push_size]

set_option maxRecDepth 100000 in
set_option maxHeartbeats 1000000 in
theorem get_any {w : World} {R M : Nat} {L : List Hd} (h : KyAt w R M L) (n : Int) (k : ByteArray) (hk : OkK n k) :
    Calls Try.prog 7 #[.pointer (some ⟨R, 0, none⟩), .int .i64 n, .string k] w fun e w' =>
      e = .returned (match findH L n k with | none => .tuple #[hdV hd0, errV 6] | some x => .tuple #[hdV x, errV 0]) ∧ Below w.heap.size w w' := by
  have c0 := h.c0
  have hl := h.mp.look hk
  have hlt := h.lt
  have hM := h.ltM
  have l1 := hl (w.alloc (.cells #[.int .i64 0, .string ⟨#[]⟩, .int .i64 0, .int .i64 0] 29)) (Below.heap_alloc _ _ _ hM)
  clear hl h
  cases hf : findH L n k with
  | none =>
    rw [hf] at l1
    simp only [Option.getD_none, Option.isSome_none, hdV, hd0, plV] at l1 ⊢
    clear hf
    go_enter Try.func7, Try.ntmps7
    go_wp2_with fail
    exact bodyPost_ret (v := .tuple #[.agg #[.int .i64 0, .string ⟨#[]⟩, .int .i64 0, .int .i64 0], errV 6]) (by simp [results, Try.results7, go_sem, errV]) rfl ⟨rfl, (by repeat (first | with_reducible refine Below.setCell ?_ (by simp) _ | with_reducible refine Below.alloc ?_ (by simp) _ | with_reducible exact Below.refl _ _))⟩
  | some x =>
    rw [hf] at l1
    obtain ⟨x0, x1, x2, x3⟩ := x
    simp only [Option.getD_some, Option.isSome_some, hdV, plV] at l1 ⊢
    clear hf
    go_enter Try.func7, Try.ntmps7
    go_wp2_with fail
    exact bodyPost_ret (v := .tuple #[.agg #[.int .i64 x0, .string x1, .int .i64 x2, .int .i64 x3], errV 0]) (by simp [results, Try.results7, go_sem, errV]) rfl ⟨rfl, (by repeat (first | with_reducible refine Below.setCell ?_ (by simp) _ | with_reducible refine Below.alloc ?_ (by simp) _ | with_reducible exact Below.refl _ _))⟩
set_option maxHeartbeats 1000000 in
theorem place_any (r : Hd) (w : World) : Calls Try.prog 19 #[hdV r] w fun e w' => e = .returned (plV r.nd r.key) ∧ Below w.heap.size w w' := by
  obtain ⟨nd, key, a, b⟩ := r
  simp only [hdV, plV]
  go_enter Try.func19, Try.ntmps19
  go_wp2_with fail
  exact bodyPost_ret (v := .agg #[.int .i64 nd, .string key]) (by simp [results, Try.results19, go_sem]) rfl ⟨rfl, (by repeat (first | with_reducible refine Below.setCell ?_ (by simp) _ | with_reducible refine Below.alloc ?_ (by simp) _ | with_reducible exact Below.refl _ _))⟩
end Go.Proofs.Ytiofpimchbhfcab
