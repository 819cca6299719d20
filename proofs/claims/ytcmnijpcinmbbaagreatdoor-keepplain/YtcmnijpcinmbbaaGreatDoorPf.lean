/- slices.Backward over numbers; Latest. -/
import Derived.Test.YtcmnijpcinmbbaaGreatDoorPe
import Derived.Test.YtcmnijpcinmbbaaGreatDoorDj
namespace Go.Proofs.YtcmnijpcinmbbaaGreatDoor
open Go.RowKit Go.Shelf
set_option linter.unusedVariables false
attribute [local go_sem] Oper.semAt_some
/-- A number, as a round gets it. -/
structure Iv (Ok : Int → Prop) where
  i : Nat
  x : Int
  ok : Ok x
section
variable {Ok : Int → Prop}
def encIv (x : Iv Ok) : Array Value := #[.int .i64 (x.i : Int), .int .i64 x.x]
/-- They lie in block g from off on. -/
def IvsAt (W : World) (g off : Nat) (xs : List (Iv Ok)) : Prop :=
  ∀ (j : Nat) (h : j < xs.length), xs[j].i = j ∧ W.cell? ⟨g, off + j, none⟩ = some (.int .i64 xs[j].x)
theorem idrop_cons {xs : List (Iv Ok)} {k : Nat} (h : k < xs.length) : (xs.drop k).reverse = (xs.drop (k + 1)).reverse ++ [xs[k]] := by
  rw [List.drop_eq_getElem_cons h, List.reverse_cons]

set_option maxRecDepth 100000 in
set_option maxHeartbeats 2000000 in
theorem iback1_in (F : Fence) (n : Nat) (h8 : F.fn 42) (hro : F.round = none) (hn : 1 ≤ n) (l Bs g off cap : Nat) (xs : List (Iv Ok)) (hreach : xs.length ≤ 9223372036854775807) (J Jx : List (Iv Ok) → World → Prop)
    (hY : ∀ pre x W, J pre W → pre.length < xs.length → YieldAt F (n - 1) Tryz.prog l (encIv x) W fun e W' =>
      (e = .returned (.bool true) ∧ J (pre ++ [x]) W' ∧ Kq g Bs W W') ∨ (e = .returned (.bool false) ∧ Jx (pre ++ [x]) W'))
    (W : World) (hBs : W.cell? ⟨Bs, 0, none⟩ = some (.slice (some ⟨g, off, none⟩) xs.length cap)) (hc : IvsAt W g off xs) (h0 : J [] W) :
    CallsIn F n Tryz.prog 42 #[.func (.yield l) #[] #[], .pointer (some ⟨Bs, 0, none⟩)] W fun e W' => (∃ v, e = .returned v) ∧
      ((∃ ys, ys = xs.reverse ∧ J ys W') ∨ (∃ pre, (∃ k, pre = (xs.drop k).reverse) ∧ Jx pre W')) := by
  refine callsIn_of_wp Tryz.func42 rfl h8 ?_ hro
  simp only [Tryz.ntmps42, List.size_toArray, List.length_cons, List.length_nil, Nat.reduceAdd, Nat.reduceSub, Array.replicate_succ, Array.replicate_zero, List.push_toArray, List.append_toArray, List.nil_append, List.cons_append]
  gi_wp2
  gi_loopw [3] (fun i wr => ∃ k : Nat, k ≤ xs.length ∧ i = .int .i64 ((k : Int) - 1) ∧ J (xs.drop k).reverse wr ∧ Kq g Bs W wr)
    (fun i _ => (intOf i + 1).toNat)
  case atStart => exact ⟨xs.length, Nat.le_refl _, by first | rfl | simp, by simpa using h0, Kq.refl _ _ _⟩
  case round =>
    obtain ⟨k, hk, rfl, hJs, hnx⟩ := hrel
    cases k with
    | zero =>
      have hneg : ¬ (0 : Int) ≤ ((0 : Nat) : Int) - 1 := by omega
      gi_wp2
      go_end0
      exact ⟨⟨_, rfl⟩, .inl (by simpa using hJs)⟩
    | succ k =>
      have hlt : k < xs.length := by omega
      obtain ⟨e1, e2⟩ := hc k hlt
      have c1 : wr.cell? ⟨g, off + k, none⟩ = some (.int .i64 xs[k].x) := (hnx.cell (p := ⟨g, off + k, none⟩) (.inl rfl)).trans e2
      have c0 : wr.cell? ⟨Bs, 0, none⟩ = some (.slice (some ⟨g, off, none⟩) xs.length cap) := (hnx.cell (p := ⟨Bs, 0, none⟩) (.inr rfl)).trans hBs
      obtain ⟨fn, tmps, assign, body, hy, hR⟩ := hY _ xs[k] wr hJs (by simp; omega)
      unfold encIv at hy
      rw [e1] at hy
      have Hd : Hid ((xs.drop k).reverse = (xs.drop (k + 1)).reverse ++ [xs[k]]) := idrop_cons hlt
      clear e1 e2
      generalize xs[k] = x at *
      rw [show (((k + 1 : Nat) : Int) - 1) = (k : Int) from by omega]
      have hi : (k : Int) < xs.length := by omega
      gi_wp2
      refine hR.mono ?_
      rintro e W3 (⟨rfl, hJ3, hk3⟩ | ⟨rfl, hJx3⟩)
      · gi_wp2
        go_roundw
        case rel => exact ⟨k, by omega, rfl, by rw [Hd.out]; exact hJ3, hnx.trans hk3⟩
        case measure => simp [intOf]
      · gi_wp2
        refine bodyPost_ret (results_none rfl _ _ _) rfl ?_
        exact ⟨⟨_, rfl⟩, .inr ⟨_, ⟨k, Hd.out.symm⟩, hJx3⟩⟩

set_option maxRecDepth 100000 in
set_option maxHeartbeats 1000000 in
theorem iback1_nil_in (F : Fence) (n : Nat) (h8 : F.fn 42) (hro : F.round = none) (l Bs cap : Nat) (la : Option Addr) (J : List (Iv Ok) → World → Prop) (W : World) (hBs : W.cell? ⟨Bs, 0, none⟩ = some (.slice la 0 cap)) (h0 : J [] W) :
    CallsIn F n Tryz.prog 42 #[.func (.yield l) #[] #[], .pointer (some ⟨Bs, 0, none⟩)] W fun e W' => (∃ v, e = .returned v) ∧ J [] W' := by
  refine callsIn_of_wp Tryz.func42 rfl h8 ?_ hro
  simp only [Tryz.ntmps42, List.size_toArray, List.length_cons, List.length_nil, Nat.reduceAdd, Nat.reduceSub, Array.replicate_succ, Array.replicate_zero, List.push_toArray, List.append_toArray, List.nil_append, List.cons_append]
  gi_wp2
  gi_loopw [3] (fun i wr => i = .int .i64 (-1) ∧ J [] wr) (fun _ _ => 0)
  case atStart => exact ⟨rfl, h0⟩
  case round =>
    obtain ⟨rfl, hJs⟩ := hrel
    gi_wp2
    go_end0
    exact ⟨⟨_, rfl⟩, hJs⟩

set_option maxHeartbeats 1000000 in
theorem iback_in (F : Fence) (n : Nat) (h6 : F.fn 24) (hro : F.round = none) (a : Option Addr) (len cap : Nat) (w : World) :
    CallsIn F n Tryz.prog 24 #[.slice a len cap] w fun e w' => e = .returned (.func (.func 42) #[] #[.pointer (some ⟨w.heap.size, 0, none⟩)]) ∧ w' = w.alloc (.cells #[.slice a len cap] 22) := by
  refine callsIn_of_wp Tryz.func24 rfl h6 ?_ hro
  simp only [Tryz.ntmps24, List.size_toArray, List.length_cons, List.length_nil, Nat.reduceAdd, Nat.reduceSub, Array.replicate_succ, Array.replicate_zero, List.push_toArray, List.append_toArray, List.nil_append, List.cons_append]
  gi_wp2
  go_ret
  exact ⟨rfl, rfl⟩

/-- Behind a slice. -/
def IvSl (g : Nat) (W : World) (la : Option Addr) (xs : List (Iv Ok)) : Prop := xs = [] ∨ ∃ off, la = some ⟨g, off, none⟩ ∧ IvsAt W g off xs
theorem iback_stops (F : Fence) (n : Nat) (h8 : F.fn 42) (hro : F.round = none) (hn : 1 ≤ n) (Bs g cap : Nat) (la : Option Addr) (xs : List (Iv Ok)) (hreach : xs.length ≤ 9223372036854775807) (w : World) (hBs : Bs < w.heap.size) (hg : xs ≠ [] → g < w.heap.size)
    (hc : w.cell? ⟨Bs, 0, none⟩ = some (.slice la xs.length cap)) (hI : IvSl g w la xs) :
    SeqStopsK F n Tryz.prog 42 #[.pointer (some ⟨Bs, 0, none⟩)] encIv (Kq g Bs) (fun ys => ys = xs.reverse) (fun pre => ∃ k, pre = (xs.drop k).reverse) xs.length w := fun l J Jx W hW _ _ hY h0 => by
  have hc' := (hW.cell (p := ⟨Bs, 0, none⟩) hBs).trans hc
  by_cases hne : xs = []
  · subst hne
    exact (iback1_nil_in F n h8 hro l Bs cap la J W hc' h0).mono fun e W' ⟨he, hj⟩ => ⟨he, .inl ⟨_, rfl, hj⟩⟩
  · rcases hI with hI | ⟨off, rfl, hcs⟩
    · exact absurd hI hne
    · exact iback1_in F n h8 hro hn l Bs g off cap xs hreach J Jx hY W hc' (fun j hj => ⟨(hcs j hj).1, (hW.cell (p := ⟨g, off + j, none⟩) (hg hne)).trans (hcs j hj).2⟩) h0
end
def ivOf {Ok : Int → Prop} (T : List Int) (h : ∀ t ∈ T, Ok t) : List (Iv Ok) := List.ofFn (fun j : Fin T.length => (⟨j.1, T[j.1], h _ (List.getElem_mem j.2)⟩ : Iv Ok))
section
variable {Ok : Int → Prop} {T : List Int} {h : ∀ t ∈ T, Ok t}
theorem ivOf_len : (ivOf T h).length = T.length := by simp [ivOf]
theorem ivOf_at (j : Nat) (hj : j < (ivOf T h).length) : (ivOf T h)[j].i = j ∧ (ivOf T h)[j].x = T[j]'(by rw [ivOf_len] at hj; exact hj) := by
  constructor <;> simp [ivOf]
theorem ivOf_map : (ivOf T h).map (·.x) = T := by
  apply List.ext_getElem
  · simp [ivOf_len]
  · intro i h1 h2
    rw [List.getElem_map]
    exact (ivOf_at i (by simpa using h1)).2
end
end Go.Proofs.YtcmnijpcinmbbaaGreatDoor
