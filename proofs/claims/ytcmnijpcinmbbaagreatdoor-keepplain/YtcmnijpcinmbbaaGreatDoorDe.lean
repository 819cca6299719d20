/- The calls on a disk: New, Write, Sync, Remove, Read. -/
import Derived.Test.YtcmnijpcinmbbaaGreatDoorDd
import Derived.Test.YtcmnijpcinmbbaaGreatDoorBt
import Derived.Test.YtcmnijpcinmbbaaGreatDoorShelf
namespace Go.Proofs.YtcmnijpcinmbbaaGreatDoor
open Go.RowKit
open Go.Maps (string_keyed)

theorem cloneStr_any (x : ByteArray) (w : World) (hx : x.size ≤ 281474976710656) : Calls Tryz.prog 35 #[.string x] w fun e w' => e = .returned (.string x) ∧ Below w.heap.size w w' := by
  have H := Tryz.stringslite_Clone x w hx
  go_enter Tryz.func35, Tryz.ntmps35
  go_wp2_with (go_at_call 59; refine H.mono ?_; rintro e w' ⟨rfl, hb⟩)
  go_ret
  exact ⟨rfl, hb⟩

theorem bclone_any (w : World) (p : Option Addr) (c : Nat) (x : List UInt8) (hx : BsAt w p x) (m : Nat) (hm : m = x.length) (hlen : x.length ≤ 140737488355328) :
    Calls Tryz.prog 38 #[.slice p m c] w fun e w' => ∃ A cap, e = .returned (.slice A x.length cap) ∧ BsAt w' A x ∧ (∀ a, A = some a → w.heap.size ≤ a.block) ∧ Below w.heap.size w w' := by
  cases p with
  | some a =>
    refine (clone_any w a m c x hx hm hlen).mono ?_
    rintro e w' ⟨v', rfl, ho, hb⟩
    obtain ⟨A, cap, rfl⟩ := own_slice ho
    obtain ⟨h1, _, _, h4⟩ := own_bs ho rfl
    exact ⟨A, cap, rfl, h1, h4, hb⟩
  | none =>
    have hx0 : x = [] := by
      rcases hx with h | ⟨b, o, h, -⟩
      · exact h
      · cases h
    subst hx0
    subst hm
    have q22 : ∀ (w : World) (a : Option Addr) (n c n' c' : Nat), (binOp .eql 23 (.slice a n c) (.slice none n' c')).run Tryz.prog w = .ok (.bool a.isNone) w := fun w a n c n' c' => Lib.run_eql_slice_nil w _ _ a n c n' c' Tryz.underlying23
    go_enter Tryz.func38, Tryz.ntmps38
    go_wp2_with fail
    go_ret
    exact ⟨none, 0, rfl, .inl rfl, (by intro a h; cases h), Below.refl _ _⟩

/-- A disk, plain, in memory. -/
abbrev DkS (lo : Nat) (w : World) (B M : Nat) (uv : Value) (d : Ds) (n : Nat) : Prop := DkAt lo w B M uv d.σ d.U d.s d.bd n
/-- How a step ends. -/
def StepEnd (lo : Nat) (w : World) (B M : Nat) (uv : Value) (n : Nat) (r : Int × Ds) (e : Ending) (w' : World) : Prop :=
  e = .returned (erV r.1) ∧ ∃ uv', DkS lo w' B M uv' r.2 n ∧ FrD B M uv w w' ∧ Nxt w uv uv'

theorem new_any (w : World) : Calls Tryz.prog 6 #[] w fun e w' => e = .returned (.pointer (some ⟨w.heap.size + 1, 0, none⟩)) ∧ DkS w.heap.size w' (w.heap.size + 1) w.heap.size (.slice none 0 0) newD 0 ∧ Below w.heap.size w w' := by
  have hmm := @run_makeMap Tryz.prog
  have hown := (World.ownsMap_made w Tryz.prog 9 vR).alloc (.cells #[.map (some w.heap.size), .slice none 0 0, .int .i64 0, .int .i64 (-1)] 46)
  go_enter Tryz.func6, Tryz.ntmps6
  go_wp2
  go_ret
  refine ⟨rfl, ⟨?_, ⟨[], World.ownsRow_nil _ _ _ _, fun i h => by simp [newD] at h⟩, ⟨_, hown, MapIs.made _ _⟩, by omega, Nat.le_refl _, FsOk.none, by simp [newD]⟩, ((Below.refl _ _).alloc (Nat.le_refl _) _).alloc (by simp) _⟩
  show ((w.heap.push _).push _)[w.heap.size + 1]? = _
  have : (w.heap.push (.map #[] 0)).size = w.heap.size + 1 := by simp
  rw [← this, Array.getElem?_push_size]; rfl

section
variable {lo : Nat} {w : World} {B M : Nat} {uv : Value} {d : Ds} {n : Nat}
theorem DkAt.up {σ : Fs} {U : List Bk} {s bd : Int} {n n' : Nat} (h : DkAt lo w B M uv σ U s bd n) (hn : n ≤ n') : DkAt lo w B M uv σ U s bd n' := by
  obtain ⟨D, hD, hm⟩ := h.mp
  exact ⟨h.blk, h.row, ⟨D, hD.mono hn, hm⟩, h.lo1, h.lo2, h.fok, h.uok⟩
/-- What check says, whatever the names lie in. -/
theorem check_at (h : DkS lo w B M uv d n) (p : Option Addr) (c : Nat) (l : List ByteArray) (hl : SsAt w p l) (hn : l.length ≤ 100) (hz : ∀ x ∈ l, x.size ≤ maxLen) (m : Nat) (hm : m = l.length) :
    Calls Tryz.prog 34 #[.pointer (some ⟨B, 0, none⟩), .slice p m c] w fun e w' => e = .returned (erV (chkP d.s d.bd l)) ∧ ∃ k, w' = w.drewN k := check_any w B d.s d.bd h.c2 h.c3 p c l hl hn hz m hm

set_option maxRecDepth 100000 in
set_option maxHeartbeats 2000000 in
theorem sync_any (h : DkS lo w B M uv d n) (hs0 : 0 ≤ d.s) (hs : d.s < 9223372036854775806) :
    Calls Tryz.prog 23 #[.pointer (some ⟨B, 0, none⟩)] w (StepEnd lo w B M uv n (syD d)) := by
  have HC := check_at h none 0 [] (.inl rfl) (by simp) (by simp) 0 rfl
  generalize hR : StepEnd lo w B M uv n (syD d) = R
  have HR := Lib.hid hR
  clear hR
  rcases chk_cases d.s d.bd [] with e | e | e
  · rw [e, erV_7] at HC
    go_enter Tryz.func23, Tryz.ntmps23
    go_wp2_with (go_at_call 34; refine HC.mono ?_; rintro e w' ⟨rfl, k, rfl⟩)
    rw [← HR.out]
    unfold syD
    rw [if_pos (by rw [e]; decide), e]
    exact ⟨rfl, uv, h.drewN k, (FrD.refl _ _ _ w).drewN k, Nxt.refl _ _⟩
  · rw [e, erV_2] at HC
    go_enter Tryz.func23, Tryz.ntmps23
    go_wp2_with (go_at_call 34; refine HC.mono ?_; rintro e w' ⟨rfl, k, rfl⟩)
    rw [← HR.out]
    unfold syD
    rw [if_pos (by rw [e]; decide), e]
    exact ⟨rfl, uv, h.drewN k, (FrD.refl _ _ _ w).drewN k, Nxt.refl _ _⟩
  · rw [e, erV_0] at HC
    obtain ⟨σ, U, s, bd⟩ := d
    simp only at *
    have c1 := h.c1
    have c2 := h.c2
    have f1 := h.fz 1
    have f2 := h.fz 2
    obtain ⟨A, c, rfl⟩ := h.form
    go_enter Tryz.func23, Tryz.ntmps23
    go_wp2_with (go_at_call 34; refine HC.mono ?_; rintro e w' ⟨rfl, k, rfl⟩)
    rw [← HR.out]
    unfold syD
    rw [if_neg (by rw [e]; decide)]
    refine ⟨rfl, .slice none 0 0, ?_, ?_, Nxt.nil _ _⟩
    · exact ((h.drewN k).set2 (s + 1)).set1 (U' := []) (V' := []) ⟨rfl, rfl, rfl, Nat.le_refl _, fun _ _ _ => rfl⟩ (Nxt.nil _ _) (World.ownsRow_nil _ _ _ _) (fun i h => by simp at h) (by simp)
    · exact (((FrD.refl _ _ _ w).drewN k).setB 2 _).setB 1 _
end
end Go.Proofs.YtcmnijpcinmbbaaGreatDoor
