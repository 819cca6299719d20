/- slices.Backward over tables. -/
import Derived.RangeFuncNested
import Derived.RangeFuncBound
import Derived.RangeFuncCalls
import Derived.RangeFuncLeaves
import Derived.Shelf.Abstract
import Derived.Shelf.RegionOpen
import Derived.OwnWalkIn
import Derived.TacticsInMore
import Derived.LoopNIn
import Derived.LoopIn
import Derived.Test.YtckjcjoheeobgaaGreatDoorLh
namespace Go.Proofs.YtckjcjoheeobgaaGreatDoor
open Go.RowKit Go.Shelf
set_option linter.unusedVariables false

attribute [local go_sem] Oper.semAt_some

/-- A table, as a round gets it. -/
structure Bt (Ok : Tab → Prop) where
  i : Nat
  t : Tab
  ok : Ok t
section
variable {Ok : Tab → Prop}
def encBt (x : Bt Ok) : Array Value := #[.int .i64 (x.i : Int), tabV x.t]

/-- What a round keeps: the blocks g and Bs. -/
def Kq (g Bs : Nat) (W W' : World) : Prop := ∀ k, k = g ∨ k = Bs → W'.heap[k]? = W.heap[k]?
theorem Kq.refl (g Bs : Nat) (W : World) : Kq g Bs W W := fun _ _ => rfl
theorem Kq.trans {g Bs : Nat} {A B C : World} (h : Kq g Bs A B) (k : Kq g Bs B C) : Kq g Bs A C := fun i hi => (k i hi).trans (h i hi)
theorem Kq.cell {g Bs : Nat} {A B : World} (h : Kq g Bs A B) {p : Addr} (hp : p.block = g ∨ p.block = Bs) : B.cell? p = A.cell? p := World.cell?_of_block (w := A) (h p.block hp)

/-- They lie in block g from off on. -/
def BtsAt (W : World) (g off : Nat) (xs : List (Bt Ok)) : Prop :=
  ∀ (j : Nat) (h : j < xs.length), xs[j].i = j ∧ W.cell? ⟨g, off + j, none⟩ = some (tabV xs[j].t)

theorem bdrop_cons {xs : List (Bt Ok)} {k : Nat} (h : k < xs.length) : (xs.drop k).reverse = (xs.drop (k + 1)).reverse ++ [xs[k]] := by
  rw [List.drop_eq_getElem_cons h, List.reverse_cons]

set_option maxRecDepth 100000 in
set_option maxHeartbeats 2000000 in
theorem tback1_in (F : Fence) (n : Nat) (h8 : F.fn 52) (hro : F.round = none) (hn : 1 ≤ n) (l Bs g off cap : Nat) (xs : List (Bt Ok)) (hreach : xs.length ≤ 9223372036854775807) (J Jx : List (Bt Ok) → World → Prop)
    (hY : ∀ pre x W, J pre W → pre.length < xs.length → YieldAt F (n - 1) Tryz.prog l (encBt x) W fun e W' =>
      (e = .returned (.bool true) ∧ J (pre ++ [x]) W' ∧ Kq g Bs W W') ∨ (e = .returned (.bool false) ∧ Jx (pre ++ [x]) W'))
    (W : World) (hBs : W.cell? ⟨Bs, 0, none⟩ = some (.slice (some ⟨g, off, none⟩) xs.length cap)) (hc : BtsAt W g off xs) (h0 : J [] W) :
    CallsIn F n Tryz.prog 52 #[.func (.yield l) #[] #[], .pointer (some ⟨Bs, 0, none⟩)] W fun e W' => (∃ v, e = .returned v) ∧
      ((∃ ys, ys = xs.reverse ∧ J ys W') ∨ (∃ pre, (∃ k, pre = (xs.drop k).reverse) ∧ Jx pre W')) := by
  refine callsIn_of_wp Tryz.func52 rfl h8 ?_ hro
  simp only [Tryz.ntmps52, List.size_toArray, List.length_cons, List.length_nil, Nat.reduceAdd, Nat.reduceSub, Array.replicate_succ, Array.replicate_zero, List.push_toArray, List.append_toArray, List.nil_append, List.cons_append]
  gi_wp2
  gi_loopw [3] (fun i wr => ∃ k : Nat, k ≤ xs.length ∧ i = .int .i64 ((k : Int) - 1) ∧ J (xs.drop k).reverse wr ∧ Kq g Bs W wr)
    (fun i _ => (intOf i + 1).toNat)
  case atStart => exact ⟨xs.length, Nat.le_refl _, by first | rfl | simp, by simpa using h0, Kq.refl _ _ _⟩
  case round =>
    obtain ⟨k, hk, rfl, hJs, hnx⟩ := hrel
    cases k with
    | zero =>
      have hneg : ¬ (0 : Int) ≤ ((0 : Nat) : Int) - 1 := by omega
      gi_wp2
      go_end0
      exact ⟨⟨_, rfl⟩, .inl (by simpa using hJs)⟩
    | succ k =>
      have hlt : k < xs.length := by omega
      obtain ⟨e1, e2⟩ := hc k hlt
      have c1 : wr.cell? ⟨g, off + k, none⟩ = some (tabV xs[k].t) := (hnx.cell (p := ⟨g, off + k, none⟩) (.inl rfl)).trans e2
      have c0 : wr.cell? ⟨Bs, 0, none⟩ = some (.slice (some ⟨g, off, none⟩) xs.length cap) := (hnx.cell (p := ⟨Bs, 0, none⟩) (.inr rfl)).trans hBs
      obtain ⟨fn, tmps, assign, body, hy, hR⟩ := hY _ xs[k] wr hJs (by simp; omega)
      unfold encBt at hy
      rw [e1] at hy
      have Hd : Hid ((xs.drop k).reverse = (xs.drop (k + 1)).reverse ++ [xs[k]]) := bdrop_cons hlt
      clear e1 e2
      generalize xs[k] = x at *
      obtain ⟨xi, ⟨tp, tc, tl⟩, xok⟩ := x
      simp only [tabV] at c1 hy
      rw [show (((k + 1 : Nat) : Int) - 1) = (k : Int) from by omega]
      have hi : (k : Int) < xs.length := by omega
      gi_wp2
      refine hR.mono ?_
      rintro e W3 (⟨rfl, hJ3, hk3⟩ | ⟨rfl, hJx3⟩)
      · gi_wp2
        go_roundw
        case rel => exact ⟨k, by omega, rfl, by rw [Hd.out]; exact hJ3, hnx.trans hk3⟩
        case measure => simp [intOf]
      · gi_wp2
        refine bodyPost_ret (results_none rfl _ _ _) rfl ?_
        exact ⟨⟨_, rfl⟩, .inr ⟨_, ⟨k, Hd.out.symm⟩, hJx3⟩⟩

set_option maxRecDepth 100000 in
set_option maxHeartbeats 1000000 in
theorem tback1_nil_in (F : Fence) (n : Nat) (h8 : F.fn 52) (hro : F.round = none) (l Bs cap : Nat) (la : Option Addr) (J : List (Bt Ok) → World → Prop) (W : World) (hBs : W.cell? ⟨Bs, 0, none⟩ = some (.slice la 0 cap)) (h0 : J [] W) :
    CallsIn F n Tryz.prog 52 #[.func (.yield l) #[] #[], .pointer (some ⟨Bs, 0, none⟩)] W fun e W' => (∃ v, e = .returned v) ∧ J [] W' := by
  refine callsIn_of_wp Tryz.func52 rfl h8 ?_ hro
  simp only [Tryz.ntmps52, List.size_toArray, List.length_cons, List.length_nil, Nat.reduceAdd, Nat.reduceSub, Array.replicate_succ, Array.replicate_zero, List.push_toArray, List.append_toArray, List.nil_append, List.cons_append]
  gi_wp2
  gi_loopw [3] (fun i wr => i = .int .i64 (-1) ∧ J [] wr) (fun _ _ => 0)
  case atStart => exact ⟨rfl, h0⟩
  case round =>
    obtain ⟨rfl, hJs⟩ := hrel
    gi_wp2
    go_end0
    exact ⟨⟨_, rfl⟩, hJs⟩

set_option maxHeartbeats 1000000 in
theorem tback_in (F : Fence) (n : Nat) (h6 : F.fn 37) (hro : F.round = none) (a : Option Addr) (len cap : Nat) (w : World) :
    CallsIn F n Tryz.prog 37 #[.slice a len cap] w fun e w' => e = .returned (.func (.func 52) #[] #[.pointer (some ⟨w.heap.size, 0, none⟩)]) ∧ w' = w.alloc (.cells #[.slice a len cap] 50) := by
  refine callsIn_of_wp Tryz.func37 rfl h6 ?_ hro
  simp only [Tryz.ntmps37, List.size_toArray, List.length_cons, List.length_nil, Nat.reduceAdd, Nat.reduceSub, Array.replicate_succ, Array.replicate_zero, List.push_toArray, List.append_toArray, List.nil_append, List.cons_append]
  gi_wp2
  go_ret
  exact ⟨rfl, rfl⟩

/-- Behind a slice. -/
def BtSl (g : Nat) (W : World) (la : Option Addr) (xs : List (Bt Ok)) : Prop := xs = [] ∨ ∃ off, la = some ⟨g, off, none⟩ ∧ BtsAt W g off xs
theorem tback_stops (F : Fence) (n : Nat) (h8 : F.fn 52) (hro : F.round = none) (hn : 1 ≤ n) (Bs g cap : Nat) (la : Option Addr) (xs : List (Bt Ok)) (hreach : xs.length ≤ 9223372036854775807) (w : World) (hBs : Bs < w.heap.size) (hg : xs ≠ [] → g < w.heap.size)
    (hc : w.cell? ⟨Bs, 0, none⟩ = some (.slice la xs.length cap)) (hI : BtSl g w la xs) :
    SeqStopsK F n Tryz.prog 52 #[.pointer (some ⟨Bs, 0, none⟩)] encBt (Kq g Bs) (fun ys => ys = xs.reverse) (fun pre => ∃ k, pre = (xs.drop k).reverse) xs.length w := fun l J Jx W hW _ _ hY h0 => by
  have hc' := (hW.cell (p := ⟨Bs, 0, none⟩) hBs).trans hc
  by_cases hne : xs = []
  · subst hne
    exact (tback1_nil_in F n h8 hro l Bs cap la J W hc' h0).mono fun e W' ⟨he, hj⟩ => ⟨he, .inl ⟨_, rfl, hj⟩⟩
  · rcases hI with hI | ⟨off, rfl, hcs⟩
    · exact absurd hI hne
    · exact tback1_in F n h8 hro hn l Bs g off cap xs hreach J Jx hY W hc' (fun j hj => ⟨(hcs j hj).1, (hW.cell (p := ⟨g, off + j, none⟩) (hg hne)).trans (hcs j hj).2⟩) h0
end
def btOf {Ok : Tab → Prop} (T : List Tab) (h : ∀ t ∈ T, Ok t) : List (Bt Ok) := List.ofFn (fun j : Fin T.length => (⟨j.1, T[j.1], h _ (List.getElem_mem j.2)⟩ : Bt Ok))
section
variable {Ok : Tab → Prop} {T : List Tab} {h : ∀ t ∈ T, Ok t}
theorem btOf_len : (btOf T h).length = T.length := by simp [btOf]
theorem btOf_at (j : Nat) (hj : j < (btOf T h).length) : (btOf T h)[j].i = j ∧ (btOf T h)[j].t = T[j]'(by rw [btOf_len] at hj; exact hj) := by
  constructor <;> simp [btOf]
theorem btOf_map : (btOf T h).map (·.t) = T := by
  apply List.ext_getElem
  · simp [btOf_len]
  · intro i h1 h2
    rw [List.getElem_map]
    exact (btOf_at i (by simpa using h1)).2
end
/-- A row of tables, grown where no cells turn. -/
theorem tabs_grown {W W' : World} {row : Option Nat} (hg : W.grownBy W' row) (hr : ∀ r, row = some r → ∃ o : Obj, W.heap[r]? = some o ∧ o.isCells = false) (k : Nat) (cur : Array Value) (e : TypeId) (hc : W.heap[k]? = some (.cells cur e (0, 0))) : W'.heap[k]? = W.heap[k]? :=
  hg.block k (some_lt hc) (fun e' => by
    obtain ⟨o, h1, h2⟩ := hr k e'.symm
    rw [hc] at h1; injection h1 with h1; subst h1; cases h2)
end Go.Proofs.YtckjcjoheeobgaaGreatDoor
