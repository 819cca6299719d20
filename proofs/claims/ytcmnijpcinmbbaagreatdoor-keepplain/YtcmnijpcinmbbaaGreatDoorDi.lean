/- slices.Backward over what takes back; Crash. -/
import Derived.RangeFuncNested
import Derived.RangeFuncBound
import Derived.RangeFuncCalls
import Derived.RangeFuncLeaves
import Derived.Shelf.Abstract
import Derived.Shelf.RegionOpen
import Derived.OwnWalkIn
import Derived.TacticsInMore
import Derived.LoopNIn
import Derived.LoopIn
import Derived.Test.YtcmnijpcinmbbaaGreatDoorDe
namespace Go.Proofs.YtcmnijpcinmbbaaGreatDoor
open Go.RowKit Go.Shelf
set_option linter.unusedVariables false

attribute [local go_sem] Oper.semAt_some

/-- One that takes back, as a round gets it. -/
structure Fv (w0 : World) (O : Nat → Prop) (B : Nat) where
  i : Nat
  v : Value
  b : Bk
  at_ : BkAt w0 O B v b
  ok : BkOk b
section
variable {w0 : World} {O : Nat → Prop} {B : Nat}
def encFv (x : Fv w0 O B) : Array Value := #[.int .i64 (x.i : Int), x.v]

/-- What a round keeps: the blocks g and Bs. -/
def Kq (g Bs : Nat) (W W' : World) : Prop := ∀ k, k = g ∨ k = Bs → W'.heap[k]? = W.heap[k]?
theorem Kq.refl (g Bs : Nat) (W : World) : Kq g Bs W W := fun _ _ => rfl
theorem Kq.trans {g Bs : Nat} {A B C : World} (h : Kq g Bs A B) (k : Kq g Bs B C) : Kq g Bs A C := fun i hi => (k i hi).trans (h i hi)
theorem Kq.cell {g Bs : Nat} {A B : World} (h : Kq g Bs A B) {p : Addr} (hp : p.block = g ∨ p.block = Bs) : B.cell? p = A.cell? p := World.cell?_of_block (w := A) (h p.block hp)

/-- They lie in block g from off on. -/
def FvsAt (W : World) (g off : Nat) (xs : List (Fv w0 O B)) : Prop :=
  ∀ (j : Nat) (h : j < xs.length), xs[j].i = j ∧ W.cell? ⟨g, off + j, none⟩ = some xs[j].v

theorem fdrop_cons {xs : List (Fv w0 O B)} {k : Nat} (h : k < xs.length) : (xs.drop k).reverse = (xs.drop (k + 1)).reverse ++ [xs[k]] := by
  rw [List.drop_eq_getElem_cons h, List.reverse_cons]

set_option maxRecDepth 100000 in
set_option maxHeartbeats 2000000 in
theorem fback1_in (F : Fence) (n : Nat) (h8 : F.fn 53) (hro : F.round = none) (hn : 1 ≤ n) (l Bs g off cap : Nat) (xs : List (Fv w0 O B)) (hreach : xs.length ≤ 9223372036854775807) (J Jx : List (Fv w0 O B) → World → Prop)
    (hY : ∀ pre x W, J pre W → pre.length < xs.length → YieldAt F (n - 1) Tryz.prog l (encFv x) W fun e W' =>
      (e = .returned (.bool true) ∧ J (pre ++ [x]) W' ∧ Kq g Bs W W') ∨ (e = .returned (.bool false) ∧ Jx (pre ++ [x]) W'))
    (W : World) (hBs : W.cell? ⟨Bs, 0, none⟩ = some (.slice (some ⟨g, off, none⟩) xs.length cap)) (hc : FvsAt W g off xs) (h0 : J [] W) :
    CallsIn F n Tryz.prog 53 #[.func (.yield l) #[] #[], .pointer (some ⟨Bs, 0, none⟩)] W fun e W' => (∃ v, e = .returned v) ∧
      ((∃ ys, ys = xs.reverse ∧ J ys W') ∨ (∃ pre, (∃ k, pre = (xs.drop k).reverse) ∧ Jx pre W')) := by
  refine callsIn_of_wp Tryz.func53 rfl h8 ?_ hro
  simp only [Tryz.ntmps53, List.size_toArray, List.length_cons, List.length_nil, Nat.reduceAdd, Nat.reduceSub, Array.replicate_succ, Array.replicate_zero, List.push_toArray, List.append_toArray, List.nil_append, List.cons_append]
  gi_wp2
  gi_loopw [3] (fun i wr => ∃ k : Nat, k ≤ xs.length ∧ i = .int .i64 ((k : Int) - 1) ∧ J (xs.drop k).reverse wr ∧ Kq g Bs W wr)
    (fun i _ => (intOf i + 1).toNat)
  case atStart => exact ⟨xs.length, Nat.le_refl _, by first | rfl | simp, by simpa using h0, Kq.refl _ _ _⟩
  case round =>
    obtain ⟨k, hk, rfl, hJs, hnx⟩ := hrel
    cases k with
    | zero =>
      have hneg : ¬ (0 : Int) ≤ ((0 : Nat) : Int) - 1 := by omega
      gi_wp2
      go_end0
      exact ⟨⟨_, rfl⟩, .inl (by simpa using hJs)⟩
    | succ k =>
      have hlt : k < xs.length := by omega
      obtain ⟨e1, e2⟩ := hc k hlt
      obtain ⟨ff, fbs, hform⟩ := xs[k].at_.form
      have c1 : wr.cell? ⟨g, off + k, none⟩ = some xs[k].v := (hnx.cell (p := ⟨g, off + k, none⟩) (.inl rfl)).trans e2
      have c0 : wr.cell? ⟨Bs, 0, none⟩ = some (.slice (some ⟨g, off, none⟩) xs.length cap) := (hnx.cell (p := ⟨Bs, 0, none⟩) (.inr rfl)).trans hBs
      obtain ⟨fn, tmps, assign, body, hy, hR⟩ := hY _ xs[k] wr hJs (by simp; omega)
      unfold encFv at hy
      rw [e1] at hy
      have Hd : Hid ((xs.drop k).reverse = (xs.drop (k + 1)).reverse ++ [xs[k]]) := fdrop_cons hlt
      clear e1 e2
      rw [hform] at c1 hy
      generalize xs[k] = x at *
      clear hform
      rw [show (((k + 1 : Nat) : Int) - 1) = (k : Int) from by omega]
      have hi : (k : Int) < xs.length := by omega
      gi_wp2
      refine hR.mono ?_
      rintro e W3 (⟨rfl, hJ3, hk3⟩ | ⟨rfl, hJx3⟩)
      · gi_wp2
        go_roundw
        case rel => exact ⟨k, by omega, rfl, by rw [Hd.out]; exact hJ3, hnx.trans hk3⟩
        case measure => simp [intOf]
      · gi_wp2
        refine bodyPost_ret (results_none rfl _ _ _) rfl ?_
        exact ⟨⟨_, rfl⟩, .inr ⟨_, ⟨k, Hd.out.symm⟩, hJx3⟩⟩

set_option maxRecDepth 100000 in
set_option maxHeartbeats 1000000 in
theorem fback1_nil_in (F : Fence) (n : Nat) (h8 : F.fn 53) (hro : F.round = none) (l Bs cap : Nat) (la : Option Addr) (J : List (Fv w0 O B) → World → Prop) (W : World) (hBs : W.cell? ⟨Bs, 0, none⟩ = some (.slice la 0 cap)) (h0 : J [] W) :
    CallsIn F n Tryz.prog 53 #[.func (.yield l) #[] #[], .pointer (some ⟨Bs, 0, none⟩)] W fun e W' => (∃ v, e = .returned v) ∧ J [] W' := by
  refine callsIn_of_wp Tryz.func53 rfl h8 ?_ hro
  simp only [Tryz.ntmps53, List.size_toArray, List.length_cons, List.length_nil, Nat.reduceAdd, Nat.reduceSub, Array.replicate_succ, Array.replicate_zero, List.push_toArray, List.append_toArray, List.nil_append, List.cons_append]
  gi_wp2
  gi_loopw [3] (fun i wr => i = .int .i64 (-1) ∧ J [] wr) (fun _ _ => 0)
  case atStart => exact ⟨rfl, h0⟩
  case round =>
    obtain ⟨rfl, hJs⟩ := hrel
    gi_wp2
    go_end0
    exact ⟨⟨_, rfl⟩, hJs⟩

set_option maxHeartbeats 1000000 in
theorem fback_in (F : Fence) (n : Nat) (h6 : F.fn 32) (hro : F.round = none) (a : Option Addr) (len cap : Nat) (w : World) :
    CallsIn F n Tryz.prog 32 #[.slice a len cap] w fun e w' => e = .returned (.func (.func 53) #[] #[.pointer (some ⟨w.heap.size, 0, none⟩)]) ∧ w' = w.alloc (.cells #[.slice a len cap] 44) := by
  refine callsIn_of_wp Tryz.func32 rfl h6 ?_ hro
  simp only [Tryz.ntmps32, List.size_toArray, List.length_cons, List.length_nil, Nat.reduceAdd, Nat.reduceSub, Array.replicate_succ, Array.replicate_zero, List.push_toArray, List.append_toArray, List.nil_append, List.cons_append]
  gi_wp2
  go_ret
  exact ⟨rfl, rfl⟩

/-- Behind a slice. -/
def FvSl (g : Nat) (W : World) (la : Option Addr) (xs : List (Fv w0 O B)) : Prop := xs = [] ∨ ∃ off, la = some ⟨g, off, none⟩ ∧ FvsAt W g off xs
theorem fback_stops (F : Fence) (n : Nat) (h8 : F.fn 53) (hro : F.round = none) (hn : 1 ≤ n) (Bs g cap : Nat) (la : Option Addr) (xs : List (Fv w0 O B)) (hreach : xs.length ≤ 9223372036854775807) (w : World) (hBs : Bs < w.heap.size) (hg : xs ≠ [] → g < w.heap.size)
    (hc : w.cell? ⟨Bs, 0, none⟩ = some (.slice la xs.length cap)) (hI : FvSl g w la xs) :
    SeqStopsK F n Tryz.prog 53 #[.pointer (some ⟨Bs, 0, none⟩)] encFv (Kq g Bs) (fun ys => ys = xs.reverse) (fun pre => ∃ k, pre = (xs.drop k).reverse) xs.length w := fun l J Jx W hW _ _ hY h0 => by
  have hc' := (hW.cell (p := ⟨Bs, 0, none⟩) hBs).trans hc
  by_cases hne : xs = []
  · subst hne
    exact (fback1_nil_in F n h8 hro l Bs cap la J W hc' h0).mono fun e W' ⟨he, hj⟩ => ⟨he, .inl ⟨_, rfl, hj⟩⟩
  · rcases hI with hI | ⟨off, rfl, hcs⟩
    · exact absurd hI hne
    · exact fback1_in F n h8 hro hn l Bs g off cap xs hreach J Jx hY W hc' (fun j hj => ⟨(hcs j hj).1, (hW.cell (p := ⟨g, off + j, none⟩) (hg hne)).trans (hcs j hj).2⟩) h0
end
end Go.Proofs.YtcmnijpcinmbbaaGreatDoor
