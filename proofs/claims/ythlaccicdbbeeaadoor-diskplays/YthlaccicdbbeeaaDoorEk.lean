/- One step on both disks. -/
import Derived.Test.YthlaccicdbbeeaaDoorEj
import Derived.Test.YthlaccicdbbeeaaDoorErr
namespace Go.Proofs.YthlaccicdbbeeaaDoor
open Go.RowKit
set_option linter.unusedVariables false

/-- Bounds after so many steps. -/
structure Bd (j : Nat) (k : Kd) : Prop where
  all : ∀ i, ((k.T.take i).foldl doingP k.S).length ≤ j
  T : k.T.length ≤ j
  s0 : 0 ≤ k.st
  s1 : k.st ≤ j
theorem Bd.S {j : Nat} {k : Kd} (h : Bd j k) : k.S.length ≤ j := by simpa using h.all 0
theorem Bd.N {j : Nat} {k : Kd} (h : Bd j k) (ha : k.N = k.T.foldl doingP k.S) : k.N.length ≤ j := by
  have := h.all k.T.length
  rwa [List.take_length, ← ha] at this
theorem Bd.new : Bd 0 newK := ⟨fun i => by simp [newK], by simp [newK], by simp [newK], by simp [newK]⟩
theorem Bd.up {j j' : Nat} {k : Kd} (h : Bd j k) (hj : j ≤ j') : Bd j' k := ⟨fun i => Nat.le_trans (h.all i) hj, Nat.le_trans h.T hj, h.s0, by have := h.s1; omega⟩
theorem Bd.step {j : Nat} {k : Kd} (h : Bd j k) (ha : k.N = k.T.foldl doingP k.S) (x : Wk) : Bd (j + 1) (doP k x).2 := by
  have hu := h.up (Nat.le_succ j)
  unfold doP
  split
  · exact ⟨fun i => by simp; exact Nat.le_trans (h.all _) (Nat.le_succ j), by simp, by simp, by simp; omega⟩
  split
  · exact ⟨hu.all, hu.T, hu.s0, hu.s1⟩
  split
  · exact hu
  split
  · exact hu
  split
  · exact hu
  split
  · exact hu
  split
  · exact ⟨fun i => by simp; exact Nat.le_trans (h.N ha) (Nat.le_succ j), by simp, by have := h.s0; simp; omega, by have := h.s1; simp; omega⟩
  · refine ⟨fun i => ?_, by have := h.T; simp; omega, by have := h.s0; simp; omega, by have := h.s1; simp; omega⟩
    simp only
    by_cases hi : i ≤ k.T.length
    · rw [List.take_append_of_le_length hi]; exact Nat.le_trans (h.all i) (Nat.le_succ j)
    · rw [List.take_of_length_le (by simp; omega), List.foldl_append]
      have h1 := doing_len (k.T.foldl doingP k.S) x
      have h2 := h.N ha
      rw [ha] at h2
      simp only [List.foldl_cons, List.foldl_nil]
      omega

def OKb (Kb B M : Nat) (uv : Value) (b : Nat) : Prop := b ≠ Kb ∧ Oth B M uv b
/-- Both disks as they stand. -/
structure Both (lo : Nat) (w : World) (B M Kb : Nat) (uv : Value) (d : Ds) (k kd : Kd) (n j : Nat) : Prop where
  dk : DkS (fun b => b = Kb) lo w B M uv d n
  ka : KAt w (OKb Kb B M uv) Kb k
  tie : Tie d kd
  bd : Bd j k
  all : k.N = k.T.foldl doingP k.S
  nb : n ≤ 400 * j + 200
section
variable {lo : Nat} {w : World} {B M Kb : Nat} {uv : Value} {d : Ds} {k kd : Kd} {n j : Nat}
theorem Both.below (h : Both lo w B M Kb uv d k kd n j) {w' : World} (hb : Below w.heap.size w w') : Both lo w' B M Kb uv d k kd n j :=
  ⟨h.dk.keep hb, h.ka.keep (hb.block Kb h.ka.lt) (fun b hl _ => hb.block b hl) (fun _ _ h => h), h.tie, h.bd, h.all, h.nb⟩
theorem kb_oth {σ : Fs} {U : List Bk} {s bd : Int} (h : DkAt (fun b => b = Kb) lo w B M uv σ U s bd n) : Oth B M uv Kb :=
  ⟨fun e => h.xB e.symm, fun e => h.xM e.symm, fun e => h.xR Kb e rfl⟩
/-- The document's disk stays where ours turns. -/
theorem ka_turn {w' : World} {uv' : Value} {σ : Fs} {U : List Bk} {s bd : Int} (hk : KAt w (OKb Kb B M uv) Kb k) (h : DkAt (fun b => b = Kb) lo w B M uv σ U s bd n) (f : FrD B M uv w w') (hn : Nxt w uv uv') : KAt w' (OKb Kb B M uv') Kb k :=
  hk.keep (f.block Kb hk.lt (kb_oth h)) (fun b hl ho => f.block b hl ho.2) (fun b hl ho => ⟨ho.1, ho.2.next hn hl⟩)

theorem sm_of (ht : Tie d k) (hb : Bd j k) : Sm j d := ⟨by rw [ht.st]; exact hb.s0, by rw [ht.st]; exact hb.s1, by rw [ht.len]; exact hb.T⟩
/-- Ours is a step ahead. -/
def Mid (lo : Nat) (w : World) (B M Kb : Nat) (uv : Value) (k : Kd) (x : Wk) (j : Nat) (w' : World) : Prop :=
  ∃ uv' d' n', DkS (fun b => b = Kb) lo w' B M uv' d' n' ∧ KAt w' (OKb Kb B M uv') Kb k ∧ Tie d' (doP k x).2 ∧ n' ≤ 400 * (j + 1) + 200 ∧ FrD B M uv w w'
theorem mid_step (h : Both lo w B M Kb uv d k k n j) {x : Wk} {r : Int × Ds} {n' : Nat} (hr : r.1 = (doP k x).1 ∧ Tie r.2 (doP k x).2) (hn : n' ≤ 400 * (j + 1) + 200) {e : Ending} {w' : World} (hs : StepEnd (fun b => b = Kb) lo w B M uv n' r e w') :
    e = .returned (erV (doP k x).1) ∧ Mid lo w B M Kb uv k x j w' := by
  obtain ⟨h1, uv', h2, h3, h4⟩ := hs
  exact ⟨by rw [h1, hr.1], uv', r.2, n', h2, ka_turn h.ka h.dk h3 h4, hr.2, hn, h3⟩
theorem mid_write (h : Both lo w B M Kb uv d k k n j) (hj : j ≤ 100) (x : Wk) (hx : x.kind = 1) (hn : x.name.size ≤ 100) (q : Option Addr) (qc : Nat) (hq : BsAt w q x.bytes) (hqo : x.bytes ≠ [] → ∀ a, q = some a → Oth B M uv a.block) (hl : x.bytes.length ≤ 140737488355328) :
    Calls Tryd.prog 7 #[.pointer (some ⟨B, 0, none⟩), .string x.name, .slice q x.bytes.length qc] w fun e w' => e = .returned (erV (doP k x).1) ∧ Mid lo w B M Kb uv k x j w' := by
  have hs := sm_of h.tie h.bd
  have := h.nb
  exact (write_any h.dk hs.1 (by have := hs.2.1; omega) (by have := hs.2.2; omega) (by unfold maxLen; omega) x.name (by unfold maxLen; omega) q qc x.bytes hq _ rfl hl hqo).mono (fun e w' hs' => mid_step h (tie_write h.tie x hx) (by omega) hs')
theorem mid_rename (h : Both lo w B M Kb uv d k k n j) (hj : j ≤ 100) (x : Wk) (hx : x.kind = 2) (hn : x.name.size ≤ 100) (ht : x.to.size ≤ 100) :
    Calls Tryd.prog 8 #[.pointer (some ⟨B, 0, none⟩), .string x.name, .string x.to] w fun e w' => e = .returned (erV (doP k x).1) ∧ Mid lo w B M Kb uv k x j w' := by
  have hs := sm_of h.tie h.bd
  have := h.nb
  exact (rename_any h.dk hs.1 (by have := hs.2.1; omega) (by have := hs.2.2; omega) (by unfold maxLen; omega) x.name x.to (by unfold maxLen; omega) (by unfold maxLen; omega)).mono (fun e w' hs' => mid_step h (tie_rename h.tie x hx) (by omega) hs')
theorem mid_remove (h : Both lo w B M Kb uv d k k n j) (hj : j ≤ 100) (x : Wk) (hx : x.kind = 3) (hn : x.name.size ≤ 100) :
    Calls Tryd.prog 9 #[.pointer (some ⟨B, 0, none⟩), .string x.name] w fun e w' => e = .returned (erV (doP k x).1) ∧ Mid lo w B M Kb uv k x j w' := by
  have hs := sm_of h.tie h.bd
  have := h.nb
  exact (remove_any h.dk hs.1 (by have := hs.2.1; omega) (by have := hs.2.2; omega) (by unfold maxLen; omega) x.name (by unfold maxLen; omega)).mono (fun e w' hs' => mid_step h (tie_remove h.tie x hx) (by omega) hs')
theorem mid_sync (h : Both lo w B M Kb uv d k k n j) (hj : j ≤ 100) (x : Wk) (hx : x.kind = 4) :
    Calls Tryd.prog 10 #[.pointer (some ⟨B, 0, none⟩)] w fun e w' => e = .returned (erV (doP k x).1) ∧ Mid lo w B M Kb uv k x j w' := by
  have hs := sm_of h.tie h.bd
  have := h.nb
  exact (sync_any h.dk hs.1 (by have := hs.2.1; omega)).mono (fun e w' hs' => mid_step h (tie_sync h.tie x hx) (by omega) hs')
theorem mid_crash (h : Both lo w B M Kb uv d k k n j) (hj : j ≤ 100) (x : Wk) (hx : x.kind = 5) :
    Calls Tryd.prog 11 #[.pointer (some ⟨B, 0, none⟩), .int .i64 x.n] w fun e w' => (∃ v, e = .returned v) ∧ (0 = (doP k x).1 ∧ Mid lo w B M Kb uv k x j w') := by
  have hs := sm_of h.tie h.bd
  have := h.nb
  have h2 := hs.2.2
  obtain ⟨t1, t2⟩ := tie_crash h.tie x hx
  refine (crash_any h.dk x.n (by omega) (by unfold maxLen; omega)).mono ?_
  rintro e w' ⟨he, g1, g2⟩
  exact ⟨he, t1, _, _, _, g1, ka_turn h.ka h.dk g2 (Nxt.nil _ _), t2, by omega, g2⟩
theorem mid_fail (h : Both lo w B M Kb uv d k k n j) (hj : j ≤ 100) (x : Wk) (hx : x.kind = 6) :
    Calls Tryd.prog 12 #[.pointer (some ⟨B, 0, none⟩), .int .i64 x.n] w fun e w' => (∃ v, e = .returned v) ∧ (0 = (doP k x).1 ∧ Mid lo w B M Kb uv k x j w') := by
  have := h.nb
  obtain ⟨t1, t2⟩ := tie_fail h.tie x hx
  refine (fail_any h.dk x.n).mono ?_
  rintro e w' ⟨he, g1, g2⟩
  exact ⟨he, t1, _, _, _, g1, ka_turn h.ka h.dk g2 (Nxt.refl _ _), t2, by omega, g2⟩
/-- The document's follows. -/
theorem do_mid {x : Wk} {q : Option Addr} {qc : Nat} {w1 : World} (hb : Bd j k) (ha : k.N = k.T.foldl doingP k.S) (hj : j ≤ 100) (hm : Mid lo w B M Kb uv k x j w1) (hx : 1 ≤ x.kind ∧ x.kind ≤ 6) (hn : x.name.size ≤ 100) (ht : x.to.size ≤ 100) (hq : ∀ uv', w1.cell? ⟨B, 1, none⟩ = some uv' → BsO w1 (OKb Kb B M uv') q x.bytes) :
    Calls Tryd.prog 14 #[.pointer (some ⟨Kb, 0, none⟩), wkV x q qc] w1 fun e w' => e = .returned (.int .i64 (doP k x).1) ∧ (∃ uv' d' n', Both lo w' B M Kb uv' d' (doP k x).2 (doP k x).2 n' (j + 1)) ∧ Fr [Kb] w1 w' := by
  obtain ⟨uv', d', n', g1, g2, g3, g4, g5⟩ := hm
  have hq' := hq uv' g1.c1
  refine (do_any g2 (fun b hb' => ⟨fun e => by have := g2.lt; omega, (g1.oth hb').1⟩) (fun b hb' => hb'.1) x q qc hx hq' (by unfold maxLen; omega) (by unfold maxLen; omega) (by have := hb.N ha; omega) (by have := hb.S; omega) (by have := hb.T; omega) ⟨hb.s0, by have := hb.s1; omega⟩).mono ?_
  rintro e w' ⟨he, hk, hf⟩
  have hd : DkS (fun b => b = Kb) lo w' B M uv' d' n' := g1.keepX hf.size (fun b hl hne => hf.block b hl (by simpa using hne))
  exact ⟨he, ⟨uv', d', n', hd, hk, g3, hb.step ha x, g3.all, by omega⟩, hf⟩
theorem told_any (c : Int) (w : World) (hg : w.cell? ⟨0, 0, none⟩ = some ET) : Calls Tryd.prog 13 #[erV c, .int .i64 c] w fun e w' => e = .returned (.bool true) ∧ Below w.heap.size w w' := by
  by_cases h : c = 0
  · subst h
    exact (error_nil w).mono (fun e w' ⟨h1, h2⟩ => ⟨h1, by subst h2; exact Below.refl _ _⟩)
  · have : erV c = .iface 72 (.int .i64 c) := by unfold erV; rw [if_neg h]
    rw [this]
    exact error_hit c w hg
end
end Go.Proofs.YthlaccicdbbeeaaDoor
