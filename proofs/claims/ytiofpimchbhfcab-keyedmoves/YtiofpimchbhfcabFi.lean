/- The reader's items: many, record, held. -/
import Derived.Test.YtiofpimchbhfcabFh
namespace Go.Proofs.Ytiofpimchbhfcab
open Go.RowKit

set_option maxRecDepth 100000 in
set_option maxHeartbeats 1000000 in
theorem rmany_any (N R : Nat) (w : World) (st : St) (h : RdB N w R st) (hNR : N ≤ R) :
    Calls Try.prog 40 #[.pointer (some ⟨R, 0, none⟩)] w fun e w' => e = .returned (.int .i64 (nM st).1) ∧ RdB N w' R (nM st).2 ∧ Fr [R] w w' := by
  have HI := rnum_any N R w st h hNR
  have hbd := nI_bd st
  unfold nM
  cases hq : (nI st).2 with
  | none =>
    have hn0 := nI_zero hq
    have e : nI st = (0, none) := Prod.ext hn0 hq
    rw [e] at HI ⊢
    clear hbd h hq hn0 e
    simp only
    go_enter Try.func40, Try.ntmps40
    go_wp2_with (go_at_call 48; refine HI.mono ?_; rintro e w1 ⟨rfl, r1, f1⟩)
    go_ret
    exact ⟨rfl, r1, f1⟩
  | some r =>
    obtain ⟨n, hn⟩ : ∃ n, n = (nI st).1 := ⟨_, rfl⟩
    have e : nI st = (n, some r) := Prod.ext hn.symm hq
    rw [e] at HI hbd ⊢
    clear h hq hn e
    simp only at hbd ⊢
    by_cases hbad : n < 0 ∨ 400 < n
    · rw [if_pos hbad]
      simp only
      by_cases hn0 : n < 0
      all_goals
        first
          | have hn1 : 400 < n := by omega
          | skip
        go_enter Try.func40, Try.ntmps40
        go_wp2_with (first | (go_at_call 48; refine HI.mono ?_; rintro e w1 ⟨rfl, r1, f1⟩; obtain ⟨p, c, hb, -⟩ := r1; have HS := spoil_any N R w1 _ _ hb) | (go_at_call 49; refine HS.mono ?_; rintro e w2 ⟨rfl, r2, f2⟩))
        go_ret
        exact ⟨rfl, r2, f1.trans f2⟩
    · rw [if_neg hbad]
      simp only
      have hn0 : ¬ n < 0 := by omega
      have hn1 : ¬ 400 < n := by omega
      clear hbad
      go_enter Try.func40, Try.ntmps40
      go_wp2_with (go_at_call 48; refine HI.mono ?_; rintro e w1 ⟨rfl, r1, f1⟩)
      go_ret
      exact ⟨rfl, r1, f1⟩

def rcV (r : Rc) : Value := .agg #[.string r.key, .int .i64 r.num, .int .i64 r.time]
def hdV (h : Hd) : Value := .agg #[.int .i64 h.nd, .string h.key, .int .i64 h.a, .int .i64 h.b]
theorem RdB.alloc {N : Nat} {w : World} {R : Nat} {st : St} (h : RdB N w R st) (hNR : N ≤ R) (o : Obj) : RdB N (w.alloc o) R st :=
  h.keep (Below.heap_alloc _ _ _ h.lt) (fun k hk => Below.heap_alloc _ _ _ (by have := h.lt; omega))
theorem fr_cell {R k j : Nat} {u v : World} {x : Value} (f : Fr [R] u v) (h : u.cell? ⟨k, j, none⟩ = some x) (hk : k ≠ R) (hlt : k < u.heap.size) : v.cell? ⟨k, j, none⟩ = some x := by
  rw [f.cell (p := ⟨k, j, none⟩) hlt (by simpa using hk)]; exact h

set_option maxRecDepth 100000 in
set_option maxHeartbeats 1000000 in
theorem held_any (N R : Nat) (w : World) (st : St) (h : RdB N w R st) (hNR : N ≤ R) :
    Calls Try.prog 41 #[.pointer (some ⟨R, 0, none⟩)] w fun e w' => e = .returned (hdV (nHd st).1) ∧ RdB N w' R (nHd st).2 ∧ Fr [R] w w' ∧ w.heap.size < w'.heap.size := by
  have hRl := h.lt
  obtain ⟨nd, s0, e0⟩ : ∃ k s1, nI st = (k, s1) := ⟨_, _, rfl⟩
  obtain ⟨k, s1, e1⟩ : ∃ k s1, nT s0 = (k, s1) := ⟨_, _, rfl⟩
  obtain ⟨n, s2, e2⟩ : ∃ n s2, nI s1 = (n, s2) := ⟨_, _, rfl⟩
  obtain ⟨t, s3, e3⟩ : ∃ t s3, nI s2 = (t, s3) := ⟨_, _, rfl⟩
  have er : nHd st = (⟨nd, k, n, t⟩, s3) := by unfold nHd; rw [e0]; simp only; rw [e1]; simp only; rw [e2]; simp only; rw [e3]
  rw [er]
  have H0 := fun (u : World) (hu : RdB N u R st) => rnum_any N R u st hu hNR
  have HT := fun (u : World) (hu : RdB N u R s0) => rtext_any N R u s0 hu hNR
  have H1 := fun (u : World) (hu : RdB N u R s1) => rnum_any N R u s1 hu hNR
  have H2 := fun (u : World) (hu : RdB N u R s2) => rnum_any N R u s2 hu hNR
  rw [e0] at H0
  rw [e1] at HT
  rw [e2] at H1
  rw [e3] at H2
  simp only at H0 HT H1 H2 ⊢
  have hd := h.alloc hNR (.cells #[.int .i64 0, .string ⟨#[]⟩, .int .i64 0, .int .i64 0] 29)
  have F0 := (Fr.refl [R] w).alloc (.cells #[.int .i64 0, .string ⟨#[]⟩, .int .i64 0, .int .i64 0] 29)
  have Z0 : w.heap.size < (w.alloc (.cells #[.int .i64 0, .string ⟨#[]⟩, .int .i64 0, .int .i64 0] 29)).heap.size := by simp
  have C0 : (w.alloc (.cells #[.int .i64 0, .string ⟨#[]⟩, .int .i64 0, .int .i64 0] 29)).heap[w.heap.size]? = some (.cells #[.int .i64 0, .string ⟨#[]⟩, .int .i64 0, .int .i64 0] 29) := by
    show (w.heap.push _)[w.heap.size]? = _; simp
  clear h e0 e1 e2 e3 er
  have hne : w.heap.size ≠ R := by omega
  go_enter Try.func41, Try.ntmps41
  go_wp2_with (go_at_call 48; refine (H0 _ hd).mono ?_; rintro e w0 ⟨rfl, r0, f0⟩; refine Hid.out ?_)
  refine Lib.hid ?_
  go_wp2_with (go_at_call 50; refine (HT _ r0).mono ?_; rintro e w1 ⟨rfl, r1, f1⟩; refine Hid.out ?_)
  refine Lib.hid ?_
  go_wp2_with (go_at_call 48; refine (H1 _ r1).mono ?_; rintro e w2 ⟨rfl, r2, f2⟩; refine Hid.out ?_)
  refine Lib.hid ?_
  go_wp2_with (go_at_call 48; refine (H2 _ r2).mono ?_; rintro e w3 ⟨rfl, r3, f3⟩; refine Hid.out ?_)
  refine Lib.hid ?_
  have F3 := f0.trans (f1.trans (f2.trans f3))
  have C3 : w3.heap[w.heap.size]? = some (.cells #[.int .i64 0, .string ⟨#[]⟩, .int .i64 0, .int .i64 0] 29) := by rw [F3.block _ Z0 (by simpa using hne)]; exact C0
  have g0 : w3.cell? ⟨w.heap.size, 0, none⟩ = some (.int .i64 0) := by simp [World.cell?, C3]
  have g1 : w3.cell? ⟨w.heap.size, 1, none⟩ = some (.string ⟨#[]⟩) := by simp [World.cell?, C3]
  have g2 : w3.cell? ⟨w.heap.size, 2, none⟩ = some (.int .i64 0) := by simp [World.cell?, C3]
  have g3 : w3.cell? ⟨w.heap.size, 3, none⟩ = some (.int .i64 0) := by simp [World.cell?, C3]
  have gf : ∀ o, w3.frozen? ⟨w.heap.size, o, none⟩ = false := fun o => by simp [World.frozen?, C3]
  have hFF := F0.trans F3
  have hsz := F3.size
  have hlt : w.heap.size < w3.heap.size := by omega
  have hkeep : ∀ u v x y, RdB N ((((w3.setCell ⟨w.heap.size, 0, none⟩ u).setCell ⟨w.heap.size, 1, none⟩ v).setCell ⟨w.heap.size, 2, none⟩ x).setCell ⟨w.heap.size, 3, none⟩ y) R s3 := fun u v x y => r3.keep (by
      rw [Below.heap_setCell _ _ _ _ (by simp; omega), Below.heap_setCell _ _ _ _ (by simp; omega), Below.heap_setCell _ _ _ _ (by simp; omega), Below.heap_setCell _ _ _ _ (by simp; omega)]) (fun j hj => by
      rw [Below.heap_setCell _ _ _ _ (by simp; omega), Below.heap_setCell _ _ _ _ (by simp; omega), Below.heap_setCell _ _ _ _ (by simp; omega), Below.heap_setCell _ _ _ _ (by simp; omega)])
  clear f0 f1 f2 f3 F3 C3 C0 F0 hd r0 r1 r2 r3 H0 HT H1 H2
  go_wp2_with fail
  refine bodyPost_ret (v := hdV ⟨nd, k, n, t⟩) (by simp [results, Try.results41, go_sem, hdV, g0, g1, g2, g3]) rfl ?_
  exact ⟨rfl, hkeep _ _ _ _, (((hFF.setCell (.inr (by simp)) _).setCell (.inr (by simp)) _).setCell (.inr (by simp)) _).setCell (.inr (by simp)) _, by simpa using hlt⟩
end Go.Proofs.Ytiofpimchbhfcab
