/- Places from the greatest load on. -/
import Derived.Test.YtfkeokeedljomaaDoorSg
import Derived.Test.YtfkeokeedljomaaDoorSh0
namespace Go.Proofs.YtfkeokeedljomaaDoor
open Go.RowKit
set_option linter.unusedVariables false

theorem rng_set (n k : Nat) (h : k < n) : (List.range' 0 k ++ List.replicate (n - k) 0).set k k = List.range' 0 (k + 1) ++ List.replicate (n - (k + 1)) 0 := by
  rw [show n - k = (n - (k + 1)) + 1 from by omega, List.replicate_succ]
  have := set_at (List.range' 0 k) (List.replicate (n - (k + 1)) 0) 0 k
  rw [List.length_range'] at this
  rw [this, show List.range' 0 (k + 1) = List.range' 0 k ++ [k] from by rw [List.range'_concat]; simp]
  simp
theorem LdAt.mk2 {w W : World} {la : Option Addr} {cap blk bx : Nat} {L : List Int} (h : CsAt w la (icells L)) (hle : L.length < 4611686018427387904) (hb : Below w.heap.size w W) (hc : W.cell? ⟨bx, 0, none⟩ = some (.slice la L.length cap)) (hne : bx ≠ blk) (hlo : w.heap.size ≤ blk) : LdAt W blk bx L := by
  refine ⟨hle, hne, la, cap, hc, h.keep hb, fun b o e hL => ?_⟩
  subst e
  obtain ⟨b2, o2, e2, hcc⟩ := h.at (by intro e; have := icells_len L; rw [e] at this; exact hL (List.eq_nil_of_length_eq_zero this.symm))
  injection e2 with e2
  injection e2 with e2 e3
  subst e2
  have := cell_lt (hcc 0 _ (icells_at L 0 (by cases L with | nil => exact absurd rfl hL | cons => simp)))
  omega

set_option maxHeartbeats 2000000 in
theorem gf_any (w : World) (la : Option Addr) (cap n : Nat) (L : List Int) (h : CsAt w la (icells L)) (hn : n = L.length) (hl : n ≤ 400) :
    Calls Tryd.prog 24 #[.slice la n cap] w fun e w' => ∃ g c C, e = .returned (.slice (some ⟨g, 0, none⟩) n c) ∧ Bk (ldf L) 0 C ∧ C.length = n ∧ IR w' g C ∧ w.heap.size ≤ g ∧ Below w.heap.size w w' := by
  have HMK := Lib.hid (make_i n hl)
  have HC : Hid (CsAt w la (icells L)) := h
  have HN : Hid (n = L.length) := hn
  clear h hn
  go_enter Tryd.func24, Tryd.ntmps24
  have hmk := HMK.out
  go_wp2_with fail
  have hF0 : Below w.heap.size w ((w.alloc (.cells #[.slice la n cap] 33)).alloc (.cells (madeCells #[.int .i64 0] n) 3)) := ((Below.refl _ _).alloc (Nat.le_refl _) _).alloc (by simp) _
  have hI0 : Hid (IR ((w.alloc (.cells #[.slice la n cap] 33)).alloc (.cells (madeCells #[.int .i64 0] n) 3)) (w.heap.size + 1) (List.range' 0 0 ++ List.replicate (n - 0) 0)) := by
    have := IR.made (w.alloc (.cells #[.slice la n cap] 33)) n
    show IR _ _ _
    simpa using this
  have hbx : ((w.alloc (.cells #[.slice la n cap] 33)).alloc (.cells (madeCells #[.int .i64 0] n) 3)).cell? ⟨w.heap.size, 0, none⟩ = some (.slice la n cap) := by simp [go_sem]
  have HLD : Hid (LdAt ((w.alloc (.cells #[.slice la n cap] 33)).alloc (.cells (madeCells #[.int .i64 0] n) 3)) (w.heap.size + 1) w.heap.size L) := LdAt.mk2 HC.out (by have := HN.out; omega) hF0 (by rw [← HN.out]; exact hbx) (by omega) (by omega)
  generalize hW : (w.alloc (.cells #[.slice la n cap] 33)).alloc (.cells (madeCells #[.int .i64 0] n) 3) = W at hF0 hI0 hbx HLD ⊢
  have HF0 : Hid (Below w.heap.size w W) := hF0
  have HHS : Hid (W.heap.size = w.heap.size + 2) := by rw [← hW]; show _ = _; simp
  clear hW hF0 hbx hmk
  go_loopw [10] (fun vk wr => ∃ k : Nat, vk = .int .i64 k ∧ k ≤ n ∧ Hid (IR wr (w.heap.size + 1) (List.range' 0 k ++ List.replicate (n - k) 0)) ∧ Hid (Fr [w.heap.size + 1] W wr)) (fun vk _ => n - (intOf vk).toNat)
  case atStart => exact ⟨0, rfl, by omega, hI0, Fr.refl _ _⟩
  case round =>
    obtain ⟨k, rfl, hk, hI, hF⟩ := hrel
    by_cases hlt : k < n
    · have hz : (k : Int) < (n : Int) := by omega
      have hat : (List.range' 0 k ++ List.replicate (n - k) 0)[k]? = some 0 := by
        rw [List.getElem?_append_right (by rw [List.length_range']; omega), List.length_range', Nat.sub_self, List.getElem?_replicate, if_pos (by omega)]
      obtain ⟨c1, f1⟩ := hI.out _ _ hat
      have hst : Hid (IR (wr.setCell ⟨w.heap.size + 1, k, none⟩ (.int .i64 (k : Int))) (w.heap.size + 1) (List.range' 0 (k + 1) ++ List.replicate (n - (k + 1)) 0)) := by
        have := hI.out.set k k
        rw [rng_set n k hlt] at this
        exact this
      have hf : Hid (Fr [w.heap.size + 1] W (wr.setCell ⟨w.heap.size + 1, k, none⟩ (.int .i64 (k : Int)))) := hF.out.setCell (.inl (by simp)) _
      clear hat hI hF
      go_wp2_with fail
      exact ⟨⟨k + 1, by go_num, by omega, hst, hf⟩, by simp [intOf]; omega⟩
    · have hz : ¬ (k : Int) < (n : Int) := by omega
      obtain rfl : k = n := by omega
      have HI : Hid (IR wr (w.heap.size + 1) (List.range' 0 k)) := by
        have := hI.out
        rw [Nat.sub_self, List.replicate_zero, List.append_nil] at this
        exact this
      clear hI
      go_wp2_with fail
      refine (sort_any _ (w.heap.size + 1) k k w.heap.size L HN.out (by omega) (HLD.out.fr hF.out) HI.out).mono ?_
      rintro e w2 ⟨rfl, ⟨C, h1, h2, h3⟩, hF2⟩
      go_wp2_with fail
      go_ret
      exact ⟨_, _, C, rfl, h1, h2, h3, by omega, HF0.out.trans ((hF.out.trans hF2).toBelow (by have := HHS.out; omega) (by simp))⟩
end Go.Proofs.YtfkeokeedljomaaDoor
