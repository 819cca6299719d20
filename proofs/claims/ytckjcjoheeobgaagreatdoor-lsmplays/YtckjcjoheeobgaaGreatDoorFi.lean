/- The reader's items: many, record, held. -/
import Derived.Test.YtckjcjoheeobgaaGreatDoorFh
namespace Go.Proofs.YtckjcjoheeobgaaGreatDoor
open Go.RowKit

set_option maxRecDepth 100000 in
set_option maxHeartbeats 1000000 in
theorem rmany_any (N R : Nat) (w : World) (st : St) (h : RdB N w R st) (hNR : N ≤ R) :
    Calls Tryz.prog 56 #[.pointer (some ⟨R, 0, none⟩)] w fun e w' => e = .returned (.int .i64 (nM st).1) ∧ RdB N w' R (nM st).2 ∧ Fr [R] w w' := by
  have HI := rnum_any N R w st h hNR
  have hbd := nI_bd st
  unfold nM
  cases hq : (nI st).2 with
  | none =>
    have hn0 := nI_zero hq
    have e : nI st = (0, none) := Prod.ext hn0 hq
    rw [e] at HI ⊢
    clear hbd h hq hn0 e
    simp only
    go_enter Tryz.func56, Tryz.ntmps56
    go_wp2_with (go_at_call 75; refine HI.mono ?_; rintro e w1 ⟨rfl, r1, f1⟩)
    go_ret
    exact ⟨rfl, r1, f1⟩
  | some r =>
    obtain ⟨n, hn⟩ : ∃ n, n = (nI st).1 := ⟨_, rfl⟩
    have e : nI st = (n, some r) := Prod.ext hn.symm hq
    rw [e] at HI hbd ⊢
    clear h hq hn e
    simp only at hbd ⊢
    by_cases hbad : n < 0 ∨ 400 < n
    · rw [if_pos hbad]
      simp only
      by_cases hn0 : n < 0
      all_goals
        first
          | have hn1 : 400 < n := by omega
          | skip
        go_enter Tryz.func56, Tryz.ntmps56
        go_wp2_with (first | (go_at_call 75; refine HI.mono ?_; rintro e w1 ⟨rfl, r1, f1⟩; obtain ⟨p, c, hb, -⟩ := r1; have HS := spoil_any N R w1 _ _ hb) | (go_at_call 76; refine HS.mono ?_; rintro e w2 ⟨rfl, r2, f2⟩))
        go_ret
        exact ⟨rfl, r2, f1.trans f2⟩
    · rw [if_neg hbad]
      simp only
      have hn0 : ¬ n < 0 := by omega
      have hn1 : ¬ 400 < n := by omega
      clear hbad
      go_enter Tryz.func56, Tryz.ntmps56
      go_wp2_with (go_at_call 75; refine HI.mono ?_; rintro e w1 ⟨rfl, r1, f1⟩)
      go_ret
      exact ⟨rfl, r1, f1⟩

def rcV (r : Rc) : Value := .agg #[.string r.key, .int .i64 r.num, .int .i64 r.time]
def hdV (h : Hd) : Value := .agg #[.int .i64 h.nd, .string h.key, .int .i64 h.a, .int .i64 h.b]
theorem RdB.alloc {N : Nat} {w : World} {R : Nat} {st : St} (h : RdB N w R st) (hNR : N ≤ R) (o : Obj) : RdB N (w.alloc o) R st :=
  h.keep (Below.heap_alloc _ _ _ h.lt) (fun k hk => Below.heap_alloc _ _ _ (by have := h.lt; omega))
theorem fr_cell {R k j : Nat} {u v : World} {x : Value} (f : Fr [R] u v) (h : u.cell? ⟨k, j, none⟩ = some x) (hk : k ≠ R) (hlt : k < u.heap.size) : v.cell? ⟨k, j, none⟩ = some x := by
  rw [f.cell (p := ⟨k, j, none⟩) hlt (by simpa using hk)]; exact h

end Go.Proofs.YtckjcjoheeobgaaGreatDoor
