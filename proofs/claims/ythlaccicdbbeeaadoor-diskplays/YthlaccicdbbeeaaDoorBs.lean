/- Bytes in memory; what stays. -/
import Derived.Test.YthlaccicdbbeeaaDoorChecked
import Derived.Test.YthlaccicdbbeeaaDoorPureDk
import Derived.WalkKit
import Derived.ProofKit
import Derived.OpenShut
import Derived.Deep.QuietTactic
import Derived.BigQuiet
import Derived.Lib.AppendStr
import Derived.Lib.Slices
import Derived.Lib.Hide
import Derived.Lib.SliceRun
import Derived.Laws.IdiomStrings
import Derived.Laws.BytesArg
import Derived.SizedLaws
import Derived.OwnWalk
import Derived.BigCall
import Derived.Maps.OwnSet
import Derived.Maps.AppendAt
import Derived.Deep.RegionWith
import Derived.Deep.RegionHeld3
namespace Go.Proofs.YthlaccicdbbeeaaDoor
open Go.ChangeShapes Go.WideShapes Go.RowKit
/-- Of the blocks that were there only those of xs may have turned. -/
structure Fr (xs : List Nat) (w w' : World) : Prop where
  os : w'.os = w.os
  tape : w'.tape = w.tape
  output : w'.output = w.output
  size : w.heap.size ≤ w'.heap.size
  block : ∀ k, k < w.heap.size → k ∉ xs → w'.heap[k]? = w.heap[k]?

theorem Fr.refl (xs : List Nat) (w : World) : Fr xs w w := ⟨rfl, rfl, rfl, Nat.le_refl _, fun _ _ _ => rfl⟩
theorem Fr.trans {xs : List Nat} {a b c : World} (h : Fr xs a b) (k : Fr xs b c) : Fr xs a c :=
  ⟨k.os.trans h.os, k.tape.trans h.tape, k.output.trans h.output, Nat.le_trans h.size k.size, fun i hi hx => (k.block i (Nat.lt_of_lt_of_le hi h.size) hx).trans (h.block i hi hx)⟩
theorem Fr.more {xs ys : List Nat} {a b : World} (h : Fr xs a b) (hy : ∀ k, k < a.heap.size → k ∈ xs → k ∈ ys) : Fr ys a b :=
  ⟨h.os, h.tape, h.output, h.size, fun i hi hx => h.block i hi (fun hm => hx (hy i hi hm))⟩
theorem Fr.alloc {xs : List Nat} {a w : World} (h : Fr xs a w) (o : Obj) : Fr xs a (w.alloc o) :=
  h.trans ⟨rfl, rfl, rfl, by simp, fun k hk _ => Below.heap_alloc _ _ _ hk⟩
theorem Fr.setCell {xs : List Nat} {a w : World} (h : Fr xs a w) {p : Addr} (hp : p.block ∈ xs ∨ a.heap.size ≤ p.block) (u : Value) : Fr xs a (w.setCell p u) :=
  ⟨h.os, h.tape, h.output, by simpa using h.size, fun k hk hx => by
    rw [Below.heap_setCell _ _ _ _ (by rcases hp with hp | hp; exact fun e => hx (e ▸ hp); omega)]; exact h.block k hk hx⟩
theorem Fr.drewN {xs : List Nat} {a w : World} (h : Fr xs a w) (n : Nat) : Fr xs a (w.drewN n) := ⟨h.os, h.tape, h.output, h.size, h.block⟩
theorem Fr.below {xs : List Nat} {a b : World} (h : Below a.heap.size a b) : Fr xs a b := ⟨h.os, h.tape, h.output, h.size, fun k hk _ => h.block k hk⟩
theorem Fr.toBelow {xs : List Nat} {a b : World} {B : Nat} (h : Fr xs a b) (hB : B ≤ a.heap.size) (hx : ∀ k ∈ xs, B ≤ k) : Below B a b :=
  ⟨h.os, h.tape, h.output, h.size, fun k hk => h.block k (by omega) (fun hm => by have := hx k hm; omega)⟩
theorem Fr.cell {xs : List Nat} {a b : World} (h : Fr xs a b) {p : Addr} (hp : p.block < a.heap.size) (hx : p.block ∉ xs) : b.cell? p = a.cell? p := World.cell?_of_block (w := a) (h.block p.block hp hx)
theorem Fr.frozen {xs : List Nat} {a b : World} (h : Fr xs a b) {p : Addr} (hp : p.block < a.heap.size) (hx : p.block ∉ xs) : b.frozen? p = a.frozen? p := World.frozen?_of_block (w := a) (h.block p.block hp hx)

theorem infoByte : (Tryd.prog.info? 5).map (fun i => (i.zero, i.size, i.bytes)) = some (some (.int .u8 0), 1, 1) := by kernel_rfl
def bcs (l : List UInt8) : List Value := l.map fun c => .int .u8 c.toNat
abbrev Own (B : Nat) (w : World) (v : Value) (l : List UInt8) : Prop := w.ownsRow B 5 1 v l.length (bcs l)
theorem own_snoc {B : Nat} {w : World} {v : Value} {l : List UInt8} {c : UInt8} (h : w.ownsRow B 5 1 v (l.length + 1) (bcs l ++ [.int .u8 c.toNat])) : Own B w v (l ++ [c]) := by
  have e1 : (l ++ [c]).length = l.length + 1 := by simp
  have e2 : bcs (l ++ [c]) = bcs l ++ [.int .u8 c.toNat] := by simp [bcs]
  unfold Own; rw [e1, e2]; exact h
theorem own_app {B : Nat} {w : World} {v : Value} {l r : List UInt8} {n : Nat} (h : w.ownsRow B 5 1 v (l.length + n) (bcs l ++ bcs r)) (hn : n = r.length) : Own B w v (l ++ r) := by
  have e1 : (l ++ r).length = l.length + n := by simp [hn]
  have e2 : bcs (l ++ r) = bcs l ++ bcs r := by simp [bcs]
  unfold Own; rw [e1, e2]; exact h

/-- Bytes behind a slice. -/
def BsAt (w : World) (p : Option Addr) (l : List UInt8) : Prop :=
  l = [] ∨ ∃ b o, p = some ⟨b, o, none⟩ ∧ ∀ i (h : i < l.length), w.cell? ⟨b, o + i, none⟩ = some (.int .u8 l[i].toNat)
/-- append of bytes to what is owned. -/
theorem append_bs {w : World} {ops : Array Oper} {rest : List Oper} {o : Oper} {a : Act} {Q : Exit → Act → World → Prop} (hgd : o.guard = none) (s x : Operand)
    (ho : o.op = .call { callee := .builtin .append, args := #[s, x], argTypes := #[23, 23] })
    (B : Nat) (v : Value) (l : List UInt8) (hs : a.eval s = v) (hown : Own B w v l) (ao : Option Addr) (m c : Nat) (r : List UInt8) (hx : a.eval x = .slice ao m c) (hm : m = r.length) (hr : BsAt w ao r) (hc : ao = none → c = 0)
    (hlim : l.length + r.length ≤ 140737488355328) (hB : B ≤ w.heap.size)
    (hK : ∀ v' w', Own B w' v' (l ++ r) → Below B w w' → wpList Tryd.prog ops Q rest (a.put o.dst v') w') : wpList Tryd.prog ops Q (o :: rest) a w := by
  obtain ⟨i0, hi, hz0, hz1, hz2⟩ := info_parts infoByte
  subst hm
  cases ao with
  | none =>
    have hc0 := hc rfl
    subst hc0
    have hr0 : r = [] := by
      rcases hr with h | ⟨b, o, h, -⟩
      · exact h
      · cases h
    subst hr0
    refine wpList_plain hgd fun K hK' => ?_
    have hrun := run_append_owned_none (P := Tryd.prog) w B 23 o.type 5 i0 1 Tryd.underlying23 hi v _ _ hown
    have hx' : a.eval x = .slice none 0 0 := hx
    unfold Oper.wp
    simp [execOp, ho, resolve, invoke, builtin, hs, hx', hrun, Result.andThen]
    exact hK' _ _ (by simpa using hK v w (by simpa using hown) (Below.refl _ _))
  | some ad =>
    refine wpList_append_own w hgd s x 23 ho B 5 i0 (.int .u8 0) 1 1 Tryd.underlying23 hi hz0 hz1 hz2 rfl (by decide) v l.length (bcs l) hs hown ad r.length c (bcs r) hx (by simp [bcs]) ?_ (by intro u hu; simp only [bcs, List.mem_map] at hu; obtain ⟨c8, -, rfl⟩ := hu; rfl) (by unfold maxLen; omega) (by omega) hB ?_
    · intro j u hj
      rcases hr with rfl | ⟨b, o, h, hcell⟩
      · simp [bcs] at hj
      · simp only [Option.some.injEq] at h
        subst h
        simp only [bcs, List.getElem?_map, Option.map_eq_some_iff] at hj
        obtain ⟨c8, h1, rfl⟩ := hj
        obtain ⟨hlt, rfl⟩ := List.getElem?_eq_some_iff.1 h1
        rw [show (⟨b, o, none⟩ : Addr).add j = ⟨b, o + j, none⟩ from by simp [Addr.add]]
        exact hcell j hlt
    · intro v' w' own' grow _
      exact hK v' w' (own_app own' rfl) ((Below.refl _ _).grown grow hB (fun k hk => (hown.lt k hk).1))
/-- One byte of a new block. -/
theorem bs_one (w : World) (c : UInt8) (t : TypeId) (z : Int) (h : z = c.toNat) : BsAt (w.alloc (.cells #[.int .u8 z] t)) (some ⟨w.heap.size, 0, none⟩) [c] := by
  subst h
  exact .inr ⟨_, _, rfl, fun i hi => by simp at hi; subst hi; simp⟩
theorem BsAt.below {w w' : World} {B : Nat} {p : Option Addr} {l : List UInt8} (h : BsAt w p l) (hb : Below B w w') (hp : ∀ a, p = some a → a.block < B) : BsAt w' p l := by
  rcases h with h | ⟨b, o, rfl, hc⟩
  · exact .inl h
  · exact .inr ⟨b, o, rfl, fun i hi => by rw [hb.cell (p := ⟨b, o + i, none⟩) (hp ⟨b, o, none⟩ rfl)]; exact hc i hi⟩
theorem BsAt.lt {w : World} {p : Option Addr} {l : List UInt8} (h : BsAt w p l) (hne : l ≠ []) : ∃ b o, p = some ⟨b, o, none⟩ ∧ b < w.heap.size := by
  rcases h with h | ⟨b, o, rfl, hc⟩
  · exact absurd h hne
  · refine ⟨b, o, rfl, ?_⟩
    have h0 := hc 0 (by cases l with | nil => exact absurd rfl hne | cons => simp)
    rcases Nat.lt_or_ge b w.heap.size with h' | h'
    · exact h'
    · simp [World.cell?, Array.getElem?_eq_none h'] at h0
/-- Bytes stay where nothing old turns. -/
theorem BsAt.keep {w w' : World} {p : Option Addr} {l : List UInt8} (h : BsAt w p l) (hb : Below w.heap.size w w') : BsAt w' p l := by
  by_cases hne : l = []
  · exact .inl hne
  · obtain ⟨b, o, rfl, hlt⟩ := h.lt hne
    exact h.below hb (by intro a ha; simp at ha; subst ha; exact hlt)
/-- What is owned lies behind its slice. -/
theorem own_bs {w : World} {B n cap : Nat} {A : Option Addr} {l : List UInt8} (h : w.ownsRow B 5 1 (.slice A n cap) n (bcs l)) (hn : n = l.length) : BsAt w A l ∧ n ≤ cap ∧ (A = none → cap = 0) ∧ (∀ a, A = some a → B ≤ a.block) := by
  subst hn
  rcases h.2 with ⟨h0, h1⟩ | ⟨g, cap', cur, h0, hb, hg, hle, hm, hs, ht⟩
  · simp at h0
    exact ⟨.inl (List.length_eq_zero_iff.1 h1), by omega, fun _ => by omega, by intro a ha; rw [h0.1] at ha; cases ha⟩
  · simp at h0
    obtain ⟨rfl, rfl⟩ := h0
    refine ⟨.inr ⟨g, 0, rfl, fun j hj => ?_⟩, hle, (by intro h; cases h), (by intro a ha; simp at ha; subst ha; exact hb)⟩
    rw [Nat.zero_add, h.cellAt j (by simpa using hj)]
    simp [bcs, hj]
theorem own_keep {w w' : World} {B n e sz : Nat} {v : Value} {xs : List Value} (h : w.ownsRow B e sz v n xs) (hb : Below w.heap.size w w') : w'.ownsRow B e sz v n xs :=
  h.kept (row := none) ⟨hb.os, hb.tape, hb.output, hb.size, fun k hk _ => hb.block k hk⟩ (by cases v.ownBlock <;> simp)
theorem own_slice {w : World} {B n : Nat} {v : Value} {xs : List Value} (h : w.ownsRow B 5 1 v n xs) : ∃ A cap, v = .slice A n cap := by
  rcases h.2 with ⟨h0, h1⟩ | ⟨g, cap', cur, h0, -⟩
  · exact ⟨none, 0, by rw [h0, h1]⟩
  · exact ⟨_, _, h0⟩

theorem own_form {w : World} {B : Nat} {v : Value} {l : List UInt8} (h : Own B w v l) (hne : l ≠ []) : ∃ g cap, v = .slice (some ⟨g, 0, none⟩) l.length cap ∧ l.length ≤ cap ∧ B ≤ g ∧ g < w.heap.size ∧ ∀ i (h : i < l.length), w.cell? ⟨g, i, none⟩ = some (.int .u8 l[i].toNat) := by
  obtain ⟨A, cap, rfl⟩ := own_slice h
  obtain ⟨h1, h2, -, h4⟩ := own_bs h rfl
  obtain ⟨b, o, rfl, hlt⟩ := h1.lt hne
  have ho : o = 0 := by
    rcases h.2 with ⟨h0, -⟩ | ⟨g, cap', cur, h0, -⟩
    · simp at h0
    · simp at h0; exact h0.1.2
  subst ho
  refine ⟨b, cap, rfl, h2, h4 _ rfl, hlt, fun i hi => ?_⟩
  rcases h1 with h1 | ⟨b', o', h1, hc⟩
  · exact absurd h1 hne
  · simp at h1
    obtain ⟨rfl, rfl⟩ := h1
    simpa using hc i hi
theorem str_self (s : ByteArray) : (⟨s.data.toList.toArray⟩ : ByteArray) = s := by simp

theorem bs_reach {H : Type} {ts : List TypeId} {ds : List (DataW H)} {j len : Nat} {d0 : DataW H} (hsz : (DataW.weightsEach Tryd.prog ts ds).all (· ≤ reachBytes) = true) (ht : ts[j]? = some 23) (hd : ds[j]? = some d0)
    (h : len = 0 ∨ ∃ el sp, d0 = .slice el sp ∧ el.length = len) : len ≤ reachBytes := by
  rcases h with h | ⟨el, sp, rfl, h⟩
  · rw [h]; exact Nat.zero_le _
  · have := sized_slice hsz ht hd Tryd.underlying23
    rw [show Tryd.prog.bytesOf 5 = 1 from by kernel_rfl] at this
    omega
theorem i64_of_wf {n : Int} (h : (Lit.int .i64 n).wf = true) : I64 n := by
  simp [Lit.wf, IntKind.min, IntKind.max, IntKind.signed, IntKind.bits] at h
  exact ⟨by omega, by omega⟩
theorem ret_bool {a b : Bool} (h : a = b) : Ending.returned (.bool a) = .returned (.bool b) := by rw [h]
set_option maxHeartbeats 1000000 in
theorem clone_any (w : World) (a : Addr) (n c : Nat) (x : List UInt8) (hx : BsAt w (some a) x) (hn : n = x.length) (hlen : x.length ≤ 140737488355328) :
    Calls Tryd.prog 32 #[.slice (some a) n c] w fun e w' => ∃ v', e = .returned v' ∧ Own w.heap.size w' v' x ∧ Below w.heap.size w w' := by
  have q22 : ∀ (w : World) (a : Option Addr) (n c n' c' : Nat), (binOp .eql 23 (.slice a n c) (.slice none n' c')).run Tryd.prog w = .ok (.bool a.isNone) w := fun w a n c n' c' => Lib.run_eql_slice_nil w _ _ a n c n' c' Tryd.underlying23
  have hB : w.heap.size ≤ w.heap.size := Nat.le_refl _
  have hx' : BsAt (w.alloc (.cells #[] 5)) (some a) x := hx.keep ((Below.refl _ _).alloc (Nat.le_refl _) _)
  have HN := Lib.hid hn
  clear hn hx
  go_enter Tryd.func32, Tryd.ntmps32
  go_wp2_with (at_builtin; refine append_bs rfl _ _ rfl w.heap.size _ [] rfl ⟨rfl, .inr ⟨w.heap.size, 0, #[], rfl, Nat.le_refl _, (by show (w.heap.push (.cells #[] 5))[w.heap.size]? = _; simp), by simp, by simp, rfl, rfl⟩⟩ (some a) n c x rfl HN.out hx' (by intro h; cases h) (by simpa using hlen) (by simp) ?_)
  intro v2 w2 ho hb
  go_wp2_with fail
  go_ret
  exact ⟨v2, rfl, ho, ((Below.refl _ _).alloc (Nat.le_refl _) _).trans hb⟩

theorem own_mono {w : World} {B B' : Nat} {v : Value} {l : List UInt8} (h : Own B w v l) (hb : B' ≤ B) : Own B' w v l :=
  ⟨h.1, h.2.imp id fun ⟨g, cap, cur, h0, h1, h2⟩ => ⟨g, cap, cur, h0, Nat.le_trans hb h1, h2⟩⟩
end Go.Proofs.YthlaccicdbbeeaaDoor
