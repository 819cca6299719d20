/- What stays; maps of numbers and of rows. -/
import Derived.Test.YthcgjbpiiodlgaaDoorChecked
import Derived.Test.YthcgjbpiiodlgaaDoorPa
import Derived.Test.YthcgjbpiiodlgaaDoorPureQb
import Derived.Test.YthcgjbpiiodlgaaDoorPureRw
import Derived.Lib.Slices
import Derived.Lib.Hide
import Derived.Lib.SliceRun
import Derived.SizedLaws
import Derived.OwnWalk
import Derived.BigCall
import Derived.BigRegion
import Derived.Deep.RegionLaw
import Derived.Deep.RegionHeld3
import Derived.Laws.IdiomCopy
import Derived.Deep.Onto
import Derived.Deep.CutBlock
import Derived.Deep.DeepCutAuto
import Derived.Laws.EntriesVeiled
import Derived.Maps.OwnOps
import Derived.Maps.OwnSet
import Derived.Sort.Walk0
namespace Go.Proofs.YthcgjbpiiodlgaaDoor
open Go.RowKit
open Go.Maps (string_keyed int_keyed)
set_option linter.unusedVariables false

theorem some_lt {w : World} {k : Nat} {o : Obj} (h : w.heap[k]? = some o) : k < w.heap.size := (Array.getElem?_eq_some_iff.1 h).1
theorem ret_bool {a b : Bool} (h : a = b) : Ending.returned (.bool a) = .returned (.bool b) := by rw [h]
theorem ret_int {k : IntKind} {a b : Int} (h : a = b) : Ending.returned (.int k a) = .returned (.int k b) := by rw [h]
theorem below_after {W X u : World} (k : Below X.heap.size X u) (h : Below W.heap.size W X) : Below W.heap.size W u := h.trans (k.mono h.size)
theorem below_drewN {B : Nat} {a b : World} (h : Below B a b) (n : Nat) : Below B a (b.drewN n) := ⟨h.os, h.tape, h.output, h.size, h.block⟩
theorem below_dr (w : World) (n : Nat) : Below w.heap.size w (w.drewN n) := ⟨rfl, rfl, rfl, Nat.le_refl _, fun _ _ => rfl⟩
/-- Of the blocks that were there only those of xs may have turned. -/
structure Fr (xs : List Nat) (w w' : World) : Prop where
  os : w'.os = w.os
  tape : w'.tape = w.tape
  output : w'.output = w.output
  size : w.heap.size ≤ w'.heap.size
  block : ∀ k, k < w.heap.size → k ∉ xs → w'.heap[k]? = w.heap[k]?
theorem Fr.refl (xs : List Nat) (w : World) : Fr xs w w := ⟨rfl, rfl, rfl, Nat.le_refl _, fun _ _ _ => rfl⟩
theorem Fr.trans {xs : List Nat} {a b c : World} (h : Fr xs a b) (k : Fr xs b c) : Fr xs a c :=
  ⟨k.os.trans h.os, k.tape.trans h.tape, k.output.trans h.output, Nat.le_trans h.size k.size, fun i hi hx => (k.block i (Nat.lt_of_lt_of_le hi h.size) hx).trans (h.block i hi hx)⟩
theorem Fr.more {xs ys : List Nat} {a b : World} (h : Fr xs a b) (hy : ∀ k, k < a.heap.size → k ∈ xs → k ∈ ys) : Fr ys a b :=
  ⟨h.os, h.tape, h.output, h.size, fun i hi hx => h.block i hi (fun hm => hx (hy i hi hm))⟩
theorem Fr.alloc {xs : List Nat} {a w : World} (h : Fr xs a w) (o : Obj) : Fr xs a (w.alloc o) :=
  h.trans ⟨rfl, rfl, rfl, by simp, fun k hk _ => Below.heap_alloc _ _ _ hk⟩
theorem Fr.setCell {xs : List Nat} {a w : World} (h : Fr xs a w) {p : Addr} (hp : p.block ∈ xs ∨ a.heap.size ≤ p.block) (u : Value) : Fr xs a (w.setCell p u) :=
  ⟨h.os, h.tape, h.output, by simpa using h.size, fun k hk hx => by
    rw [Below.heap_setCell _ _ _ _ (by rcases hp with hp | hp; exact fun e => hx (e ▸ hp); omega)]; exact h.block k hk hx⟩
theorem Fr.drewN {xs : List Nat} {a w : World} (h : Fr xs a w) (n : Nat) : Fr xs a (w.drewN n) := ⟨h.os, h.tape, h.output, h.size, h.block⟩
theorem Fr.below {xs : List Nat} {a b : World} (h : Below a.heap.size a b) : Fr xs a b := ⟨h.os, h.tape, h.output, h.size, fun k hk _ => h.block k hk⟩
theorem Fr.toBelow {xs : List Nat} {a b : World} {B : Nat} (h : Fr xs a b) (hB : B ≤ a.heap.size) (hx : ∀ k ∈ xs, B ≤ k) : Below B a b :=
  ⟨h.os, h.tape, h.output, h.size, fun k hk => h.block k (by omega) (fun hm => by have := hx k hm; omega)⟩
theorem Fr.cell {xs : List Nat} {a b : World} (h : Fr xs a b) {p : Addr} (hp : p.block < a.heap.size) (hx : p.block ∉ xs) : b.cell? p = a.cell? p := World.cell?_of_block (w := a) (h.block p.block hp hx)
theorem Fr.turned {w w' : World} {M : Nat} (t : w.mapTurned w' M) : Fr [M] w w' :=
  ⟨t.grown.os, t.grown.tape, t.grown.output, t.grown.size, fun k hk hx => t.grown.block k hk (fun e => hx (by injection e with e; simp [e]))⟩
theorem Fr.onto {w a b : World} {xs : List Nat} (h : Below w.heap.size w a) (k : Fr xs a b) (hx : ∀ i ∈ xs, w.heap.size ≤ i) : Below w.heap.size w b := h.trans (k.toBelow h.size hx)

/-- An error, or none. -/
def errV (k : Nat) : Value := if k = 0 then .nilIface else .iface 42 (.int .i64 k)
theorem errV_ne {k : Nat} (h : k ≠ 0) : ∃ tv, errV k = .iface 42 tv := ⟨_, by unfold errV; rw [if_neg h]⟩

def I64 (n : Int) : Prop := -9223372036854775808 ≤ n ∧ n ≤ 9223372036854775807
def kl (k : ByteArray) : Lit := .string k.data.toList
theorem kl_inj {k k' : ByteArray} (h : kl k = kl k') : k = k' := by
  unfold kl at h
  injection h with h
  cases k; cases k'
  congr 1
  exact Array.toList_inj.1 h
def vR (v : Value) : Option (DataW Value × List MemPlace) := some (.held v, [])
theorem vR_inv {v : Value} {d : Value} {ps : List MemPlace} (h : vR v = some (.held d, ps)) : v = d := by
  unfold vR at h; injection h with h; injection h with h1 h2; injection h1
theorem key_of (k : ByteArray) (h : k.size ≤ maxLen) : keyOf Tryd.prog 9 (.string k) = some (kl k) := WideMaps.keyOf_string_mk Tryd.underlying9 h
theorem hKs : Maps.Keyed Tryd.prog 9 := string_keyed (P := Tryd.prog) (k := 9) Tryd.underlying9
theorem hKi : Maps.Keyed Tryd.prog 3 := int_keyed (P := Tryd.prog) (k := 3) Tryd.underlying3
theorem wf_of {n : Int} (h : I64 n) : (Lit.int .i64 n).wf = true := by
  obtain ⟨h1, h2⟩ := h
  simp [Lit.wf, IntKind.min, IntKind.max, IntKind.signed, IntKind.bits]
  omega
theorem key_int (a : Int) (h : I64 a) : keyOf Tryd.prog 3 (.int .i64 a) = some (.int .i64 a) := Maps.keyOf_int_mk Tryd.underlying3 (wf_of h)
theorem own_block {H : Type} {P : Program} {k : TypeId} {R : Value → Option (DataW H × List MemPlace)} {w w' : World} {b n : Nat} {D : DataW H} (h : w.ownsMap P k R b n D) (hb : w'.heap[b]? = w.heap[b]?) : w'.ownsMap P k R b n D := by
  obtain ⟨es, cl, h1, h2⟩ := h
  exact ⟨es, cl, hb.trans h1, h2⟩
theorem own_map {H : Type} {P : Program} {k : TypeId} {R : Value → Option (DataW H × List MemPlace)} {w : World} {b n : Nat} {D : DataW H} (h : w.ownsMap P k R b n D) : ∃ es cl, w.heap[b]? = some (.map es cl) := by
  obtain ⟨es, cl, h1, h2⟩ := h
  exact ⟨es, cl, h1⟩
theorem cell_map {w : World} {b o : Nat} {v : Value} {es : Array MapEntry} {cl : Nat} (h : w.cell? ⟨b, o, none⟩ = some v) (hm : w.heap[b]? = some (.map es cl)) : False := by
  simp [World.cell?, hm] at h

def up {κ α : Type} [DecidableEq κ] (g : κ → α) (k : κ) (a : α) : κ → α := fun x => if x = k then a else g x
theorem up_same {κ α : Type} [DecidableEq κ] (g : κ → α) (k : κ) (a : α) : up g k a k = a := by simp [up]
theorem up_other {κ α : Type} [DecidableEq κ] (g : κ → α) {k x : κ} (a : α) (h : x ≠ k) : up g k a x = g x := by simp [up, h]

/-- A map from texts to slices of numbers. -/
def sz : DataW Value := .held (.slice none 0 0)
def KmIs (w : World) (C n : Nat) (g : ByteArray → Value) : Prop :=
  ∃ D, w.ownsMap Tryd.prog 9 vR C n D ∧ ∀ f, D.atKey (kl f) sz = .held (g f)
theorem KmIs.block {w w' : World} {C n : Nat} {g : ByteArray → Value} (H : KmIs w C n g) (hb : w'.heap[C]? = w.heap[C]?) : KmIs w' C n g := by
  obtain ⟨D, h1, h2⟩ := H; exact ⟨D, own_block h1 hb, h2⟩
theorem KmIs.lt {w : World} {C n : Nat} {g : ByteArray → Value} (H : KmIs w C n g) : C < w.heap.size := by obtain ⟨D, h1, h2⟩ := H; exact h1.lt
theorem KmIs.keep {w w' : World} {C n : Nat} {g : ByteArray → Value} (H : KmIs w C n g) (hb : Below w.heap.size w w') : KmIs w' C n g := H.block (hb.block C H.lt)
theorem KmIs.look {w : World} {C n : Nat} {g : ByteArray → Value} (H : KmIs w C n g) (f : ByteArray) (hf : f.size ≤ maxLen) : (Instr.lookup 47 (.map (some C)) (.string f) false).run Tryd.prog w = .ok (g f) w := by
  obtain ⟨D, h1, h2⟩ := H
  obtain ⟨v', ps, hrun, hv⟩ := h1.lookup (e := 37) (t := 47) hKs Tryd.underlying47 (Tryd.zeroValue37 w) (zd := sz) (zp := []) rfl (key_of f hf)
  rw [h2 f] at hv
  rw [hrun, vR_inv hv]
theorem KmIs.put {w : World} {C n : Nat} {g : ByteArray → Value} (H : KmIs w C n g) (hn : n ≤ 1000000000) (f : ByteArray) (hf : f.size ≤ maxLen) (v : Value) :
    ∃ w', (Instr.mapUpdate 47 (.map (some C)) (.string f) v).run Tryd.prog w = .ok () w' ∧ KmIs w' C (n + 1) (up g f v) ∧ Fr [C] w w' := by
  obtain ⟨D, h1, h2⟩ := H
  obtain ⟨w', e1, e2, e3⟩ := h1.store (e := 37) (t := 47) hKs Tryd.underlying47 (by unfold maxLen; omega) (key_of f hf) (show vR v = some (.held v, []) from rfl)
  refine ⟨w', e1, ⟨_, e2, fun x => ?_⟩, Fr.turned e3⟩
  have hD := h1.isMap
  by_cases e : x = f
  · subst e
    rw [up_same]
    exact Maps.atKey_put_same hD (show WideAt.IsKeyLit (.string _) from trivial) _ _
  · rw [up_other g v e]
    have hne : kl x ≠ kl f := fun h => e (kl_inj h)
    rw [Maps.atKey_put_other hne]
    exact h2 x
theorem KmIs.made (w : World) : KmIs (w.alloc (.map #[] 0)) w.heap.size 0 (fun _ => .slice none 0 0) := ⟨_, World.ownsMap_made w Tryd.prog 9 vR, fun _ => rfl⟩

/-- A map from numbers to numbers. -/
def iz : DataW Value := .held (.int .i64 0)
def BgIs (w : World) (C n : Nat) (g : Int → Int) : Prop :=
  ∃ D, w.ownsMap Tryd.prog 3 vR C n D ∧ ∀ x, I64 x → D.atKey (.int .i64 x) iz = .held (.int .i64 (g x))
theorem BgIs.block {w w' : World} {C n : Nat} {g : Int → Int} (H : BgIs w C n g) (hb : w'.heap[C]? = w.heap[C]?) : BgIs w' C n g := by
  obtain ⟨D, h1, h2⟩ := H; exact ⟨D, own_block h1 hb, h2⟩
theorem BgIs.lt {w : World} {C n : Nat} {g : Int → Int} (H : BgIs w C n g) : C < w.heap.size := by obtain ⟨D, h1, h2⟩ := H; exact h1.lt
theorem BgIs.look {w : World} {C n : Nat} {g : Int → Int} (H : BgIs w C n g) (x : Int) (hx : I64 x) : (Instr.lookup 127 (.map (some C)) (.int .i64 x) false).run Tryd.prog w = .ok (.int .i64 (g x)) w := by
  obtain ⟨D, h1, h2⟩ := H
  obtain ⟨v', ps, hrun, hv⟩ := h1.lookup (e := 3) (t := 127) hKi Tryd.underlying127 (Tryd.zeroValue3 w) (zd := iz) (zp := []) rfl (key_int x hx)
  rw [h2 x hx] at hv
  rw [hrun, vR_inv hv]
theorem BgIs.put {w : World} {C n : Nat} {g : Int → Int} (H : BgIs w C n g) (hn : n ≤ 1000000000) (x : Int) (hx : I64 x) (z : Int) :
    ∃ w', (Instr.mapUpdate 127 (.map (some C)) (.int .i64 x) (.int .i64 z)).run Tryd.prog w = .ok () w' ∧ BgIs w' C (n + 1) (up g x z) ∧ Fr [C] w w' := by
  obtain ⟨D, h1, h2⟩ := H
  obtain ⟨w', e1, e2, e3⟩ := h1.store (e := 3) (t := 127) hKi Tryd.underlying127 (by unfold maxLen; omega) (key_int x hx) (show vR (.int .i64 z) = some (.held (.int .i64 z), []) from rfl)
  refine ⟨w', e1, ⟨_, e2, fun y hy => ?_⟩, Fr.turned e3⟩
  have hD := h1.isMap
  by_cases e : y = x
  · subst e
    rw [up_same]
    exact Maps.atKey_put_same hD (show WideAt.IsKeyLit (.int _ _) from trivial) _ _
  · rw [up_other g z e]
    have hne : Lit.int .i64 y ≠ Lit.int .i64 x := fun h => e (by injection h)
    rw [Maps.atKey_put_other hne]
    exact h2 y hy
theorem BgIs.made (w : World) : BgIs (w.alloc (.map #[] 0)) w.heap.size 0 (fun _ => 0) := ⟨_, World.ownsMap_made w Tryd.prog 3 vR, fun _ _ => rfl⟩

theorem ints_at {w : World} {la : Option Addr} {z : List Int} (h : IntsAt w la z) (k : Nat) (hk : k < z.length) : ∃ b o, la = some ⟨b, o, none⟩ ∧ w.cell? ⟨b, o + k, none⟩ = some (.int .i64 z[k]) := by
  rcases h with h | ⟨b, o, rfl, hc⟩
  · subst h; simp at hk
  · exact ⟨b, o, rfl, hc k hk⟩
theorem ints_b {w w' : World} {la : Option Addr} {z : List Int} (h : IntsAt w la z) (hb : Below w.heap.size w w') : IntsAt w' la z := h.keep (Keeps.of hb)
theorem lns_b {w w' : World} {la : Option Addr} {L : List Ln} (h : LnsAt w la L) (hb : Below w.heap.size w w') : LnsAt w' la L := h.keep (Keeps.of hb)
end Go.Proofs.YthcgjbpiiodlgaaDoor
