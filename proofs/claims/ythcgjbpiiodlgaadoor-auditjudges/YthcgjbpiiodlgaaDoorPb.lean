/- slices.Backward over lines: all of them, from the last on. -/
import Derived.RangeFuncNested
import Derived.RangeFuncBound
import Derived.RangeFuncCalls
import Derived.RangeFuncLeaves
import Derived.Shelf.Abstract
import Derived.Shelf.RegionOpen
import Derived.OwnWalkIn
import Derived.TacticsInMore
import Derived.LoopNIn
import Derived.LoopIn
import Derived.Test.YthcgjbpiiodlgaaDoorPa
namespace Go.Proofs.YthcgjbpiiodlgaaDoor
open Go.RowKit Go.Shelf

attribute [local go_sem] Oper.semAt_some

/-- A line as a round gets it: its place, its key, and where its numbers lie. -/
structure Lv where
  i : Nat
  key : ByteArray
  fa : Option Addr
  n : Nat
  c : Nat
  hi : i ≤ 9223372036854775807
  hk : key.size ≤ 9223372036854775807
def encLv (x : Lv) : Array Value := #[.int .i64 (x.i : Int), .agg #[.string x.key, .slice x.fa x.n x.c]]

/-- What a round keeps: all below n₀, and the block Bs. -/
def Kpb (n₀ Bs : Nat) (W W' : World) : Prop := ∀ k, k < n₀ ∨ k = Bs → W'.heap[k]? = W.heap[k]?
theorem Kpb.refl (n₀ Bs : Nat) (W : World) : Kpb n₀ Bs W W := fun _ _ => rfl
theorem Kpb.trans {n₀ Bs : Nat} {A B C : World} (h : Kpb n₀ Bs A B) (k : Kpb n₀ Bs B C) : Kpb n₀ Bs A C := fun i hi => (k i hi).trans (h i hi)
theorem Kpb.cell {n₀ Bs : Nat} {A B : World} (h : Kpb n₀ Bs A B) {p : Addr} (hp : p.block < n₀ ∨ p.block = Bs) : B.cell? p = A.cell? p := World.cell?_of_block (w := A) (h p.block hp)

/-- The lines xs lie in block b from off on. -/
def LvsAt (W : World) (b off : Nat) (xs : List Lv) : Prop :=
  ∀ (j : Nat) (h : j < xs.length), xs[j].i = j ∧ W.cell? ⟨b, off + j * 2, none⟩ = some (.string xs[j].key) ∧ W.cell? ⟨b, off + j * 2 + 1, none⟩ = some (.slice xs[j].fa xs[j].n xs[j].c)

theorem drop_cons {xs : List Lv} {k : Nat} (h : k < xs.length) : (xs.drop k).reverse = (xs.drop (k + 1)).reverse ++ [xs[k]] := by
  rw [List.drop_eq_getElem_cons h, List.reverse_cons]

set_option maxRecDepth 100000 in
set_option maxHeartbeats 2000000 in
theorem back1_in (F : Fence) (n : Nat) (h8 : F.fn 44) (hro : F.round = none) (hn : 1 ≤ n) (l Bs n₀ b off cap : Nat) (xs : List Lv) (hreach : xs.length ≤ 9223372036854775807) (hb : b < n₀) (J Jx : List Lv → World → Prop)
    (hY : ∀ pre x W, J pre W → pre.length < xs.length → YieldAt F (n - 1) Tryd.prog l (encLv x) W fun e W' =>
      (e = .returned (.bool true) ∧ J (pre ++ [x]) W' ∧ Kpb n₀ Bs W W') ∨ (e = .returned (.bool false) ∧ Jx (pre ++ [x]) W'))
    (W : World) (hBs : W.cell? ⟨Bs, 0, none⟩ = some (.slice (some ⟨b, off, none⟩) xs.length cap)) (hc : LvsAt W b off xs) (h0 : J [] W) :
    CallsIn F n Tryd.prog 44 #[.func (.yield l) #[] #[], .pointer (some ⟨Bs, 0, none⟩)] W fun e W' => (∃ v, e = .returned v) ∧
      ((∃ ys, ys = xs.reverse ∧ J ys W') ∨ (∃ pre, (∃ k, pre = (xs.drop k).reverse) ∧ Jx pre W')) := by
  refine callsIn_of_wp Tryd.func44 rfl h8 ?_ hro
  simp only [Tryd.ntmps44, List.size_toArray, List.length_cons, List.length_nil, Nat.reduceAdd, Nat.reduceSub, Array.replicate_succ, Array.replicate_zero, List.push_toArray, List.append_toArray, List.nil_append, List.cons_append]
  gi_wp2
  gi_loopw [3] (fun i wr => ∃ k : Nat, k ≤ xs.length ∧ i = .int .i64 ((k : Int) - 1) ∧ J (xs.drop k).reverse wr ∧ Kpb n₀ Bs W wr)
    (fun i _ => (intOf i + 1).toNat)
  case atStart => exact ⟨xs.length, Nat.le_refl _, by first | rfl | simp, by simpa using h0, Kpb.refl _ _ _⟩
  case round =>
    obtain ⟨k, hk, rfl, hJs, hnx⟩ := hrel
    cases k with
    | zero =>
      have hneg : ¬ (0 : Int) ≤ ((0 : Nat) : Int) - 1 := by omega
      gi_wp2
      go_end0
      exact ⟨⟨_, rfl⟩, .inl (by simpa using hJs)⟩
    | succ k =>
      have hlt : k < xs.length := by omega
      obtain ⟨e1, e2, e3⟩ := hc k hlt
      have c1 : wr.cell? ⟨b, off + k * 2, none⟩ = some (.string xs[k].key) := (hnx.cell (p := ⟨b, off + k * 2, none⟩) (.inl hb)).trans e2
      have c2 : wr.cell? ⟨b, off + k * 2 + 1, none⟩ = some (.slice xs[k].fa xs[k].n xs[k].c) := (hnx.cell (p := ⟨b, off + k * 2 + 1, none⟩) (.inl hb)).trans e3
      have c0 : wr.cell? ⟨Bs, 0, none⟩ = some (.slice (some ⟨b, off, none⟩) xs.length cap) := (hnx.cell (p := ⟨Bs, 0, none⟩) (.inr rfl)).trans hBs
      obtain ⟨fn, tmps, assign, body, hy, hR⟩ := hY _ xs[k] wr hJs (by simp; omega)
      unfold encLv at hy
      rw [e1] at hy
      have Hd : Hid ((xs.drop k).reverse = (xs.drop (k + 1)).reverse ++ [xs[k]]) := drop_cons hlt
      clear e1 e2 e3
      generalize xs[k] = x at *
      rw [show (((k + 1 : Nat) : Int) - 1) = (k : Int) from by omega]
      have hi : (k : Int) < xs.length := by omega
      gi_wp2
      refine hR.mono ?_
      rintro e W3 (⟨rfl, hJ3, hk3⟩ | ⟨rfl, hJx3⟩)
      · gi_wp2
        go_roundw
        case rel => exact ⟨k, by omega, rfl, by rw [Hd.out]; exact hJ3, hnx.trans hk3⟩
        case measure => simp [intOf]
      · gi_wp2
        refine bodyPost_ret (results_none rfl _ _ _) rfl ?_
        exact ⟨⟨_, rfl⟩, .inr ⟨_, ⟨k, Hd.out.symm⟩, hJx3⟩⟩

set_option maxRecDepth 100000 in
set_option maxHeartbeats 1000000 in
theorem back1_nil_in (F : Fence) (n : Nat) (h8 : F.fn 44) (hro : F.round = none) (l Bs cap : Nat) (la : Option Addr) (J : List Lv → World → Prop) (W : World) (hBs : W.cell? ⟨Bs, 0, none⟩ = some (.slice la 0 cap)) (h0 : J [] W) :
    CallsIn F n Tryd.prog 44 #[.func (.yield l) #[] #[], .pointer (some ⟨Bs, 0, none⟩)] W fun e W' => (∃ v, e = .returned v) ∧ J [] W' := by
  refine callsIn_of_wp Tryd.func44 rfl h8 ?_ hro
  simp only [Tryd.ntmps44, List.size_toArray, List.length_cons, List.length_nil, Nat.reduceAdd, Nat.reduceSub, Array.replicate_succ, Array.replicate_zero, List.push_toArray, List.append_toArray, List.nil_append, List.cons_append]
  gi_wp2
  gi_loopw [3] (fun i wr => i = .int .i64 (-1) ∧ J [] wr) (fun _ _ => 0)
  case atStart => exact ⟨rfl, h0⟩
  case round =>
    obtain ⟨rfl, hJs⟩ := hrel
    gi_wp2
    go_end0
    exact ⟨⟨_, rfl⟩, hJs⟩

set_option maxHeartbeats 1000000 in
theorem back_in (F : Fence) (n : Nat) (h6 : F.fn 34) (hro : F.round = none) (a : Option Addr) (len cap : Nat) (w : World) :
    CallsIn F n Tryd.prog 34 #[.slice a len cap] w fun e w' => e = .returned (.func (.func 44) #[] #[.pointer (some ⟨w.heap.size, 0, none⟩)]) ∧ w' = w.alloc (.cells #[.slice a len cap] 22) := by
  refine callsIn_of_wp Tryd.func34 rfl h6 ?_ hro
  simp only [Tryd.ntmps34, List.size_toArray, List.length_cons, List.length_nil, Nat.reduceAdd, Nat.reduceSub, Array.replicate_succ, Array.replicate_zero, List.push_toArray, List.append_toArray, List.nil_append, List.cons_append]
  gi_wp2
  go_ret
  exact ⟨rfl, rfl⟩

/-- Lines xs behind a slice, in a block below n₀. -/
def LvSl (n₀ : Nat) (W : World) (la : Option Addr) (xs : List Lv) : Prop := xs = [] ∨ ∃ b off, la = some ⟨b, off, none⟩ ∧ b < n₀ ∧ LvsAt W b off xs
theorem LvSl.below {n₀ : Nat} {A B : World} (h : Below n₀ A B) {la : Option Addr} {xs : List Lv} : LvSl n₀ A la xs → LvSl n₀ B la xs
  | .inl e => .inl e
  | .inr ⟨b, off, e, hb, hc⟩ => .inr ⟨b, off, e, hb, fun j hj => by
      obtain ⟨h1, h2, h3⟩ := hc j hj
      exact ⟨h1, (h.cell (p := ⟨b, off + j * 2, none⟩) hb).trans h2, (h.cell (p := ⟨b, off + j * 2 + 1, none⟩) hb).trans h3⟩⟩

theorem back_stops (F : Fence) (n : Nat) (h8 : F.fn 44) (hro : F.round = none) (hn : 1 ≤ n) (Bs n₀ cap : Nat) (la : Option Addr) (xs : List Lv) (hreach : xs.length ≤ 9223372036854775807) (w : World) (hBs : Bs < w.heap.size) (hn₀ : n₀ ≤ w.heap.size)
    (hc : w.cell? ⟨Bs, 0, none⟩ = some (.slice la xs.length cap)) (hI : LvSl n₀ w la xs) :
    SeqStopsK F n Tryd.prog 44 #[.pointer (some ⟨Bs, 0, none⟩)] encLv (Kpb n₀ Bs) (fun ys => ys = xs.reverse) (fun pre => ∃ k, pre = (xs.drop k).reverse) xs.length w := fun l J Jx W hW _ _ hY h0 => by
  have hc' := (hW.cell (p := ⟨Bs, 0, none⟩) hBs).trans hc
  rcases hI.below (hW.mono hn₀) with rfl | ⟨b, off, rfl, hb, hcs⟩
  · exact (back1_nil_in F n h8 hro l Bs cap la J W hc' h0).mono fun e W' ⟨he, hj⟩ => ⟨he, .inl ⟨_, rfl, hj⟩⟩
  · exact back1_in F n h8 hro hn l Bs n₀ b off cap xs hreach hb J Jx hY W hc' hcs h0
end Go.Proofs.YthcgjbpiiodlgaaDoor
