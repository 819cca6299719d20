/- The document's nums, count. -/
import Derived.Test.YthcgjbpiiodlgaaDoorAr
namespace Go.Proofs.YthcgjbpiiodlgaaDoor
open Go.RowKit Mp
set_option linter.unusedVariables false

theorem get_drop {L : List Ln} {key : ByteArray} (k : Nat) (h : ∀ j (hj : j < L.length), j < k → L[j].1 ≠ key) : Mp.get L key = Mp.get (L.drop k) key := by
  induction k generalizing L with
  | zero => simp
  | succ k ih =>
    cases L with
    | nil => simp
    | cons l L =>
      have h0 : l.1 ≠ key := h 0 (by simp) (by omega)
      rw [List.drop_succ_cons, Mp.get, if_neg h0]
      exact ih (fun j hj hk => h (j + 1) (by simp; omega) (by omega))
set_option maxHeartbeats 1000000 in
theorem nums_any (w : World) (la : Option Addr) (c n : Nat) (L : List Ln) (key : ByteArray) (h : LnsAt w la L) (hn : n = L.length) (hl : n ≤ 400) :
    Calls Tryd.prog 16 #[.slice la n c, .string key] w fun e w' => ∃ fa fc, e = .returned (.slice fa (getD L key).length fc) ∧ IntsAt w' fa (getD L key) ∧ (getD L key).length ≤ fc ∧ fc ≤ 9223372036854775807 ∧ ∃ q, w' = w.drewN q := by
  have H := Lib.hid h
  have HN := Lib.hid hn
  clear h hn
  go_enter Tryd.func16, Tryd.ntmps16
  go_wp2_with fail
  go_loopw [5] (fun vi wr => ∃ k : Nat, vi = .int .i64 (k : Int) ∧ k ≤ n ∧ Hid (∀ j (hj : j < L.length), j < k → L[j].1 ≠ key) ∧ Hid (∃ q, wr = w.drewN q)) (fun vi _ => n - (intOf vi).toNat)
  case atStart => exact ⟨0, rfl, by omega, fun j hj hk => by omega, ⟨0, rfl⟩⟩
  case round =>
    obtain ⟨k, rfl, hk, hX, hq⟩ := hrel
    obtain ⟨q0, rfl⟩ := hq.out
    by_cases hlt : k < n
    · have hi : (k : Int) < (n : Int) := by omega
      have k1 : k < L.length := by have := HN.out; omega
      obtain ⟨b, o, fa, fc, rfl, c0, c1, hI2, h5, h6, h7⟩ := ln_at (lns_b H.out (below_dr w q0)) k k1
      have hd := List.drop_eq_getElem_cons k1
      by_cases he : L[k].1 = key
      · have hg : getD L key = L[k].2 := by
          unfold getD
          rw [get_drop k hX.out, hd, Mp.get, if_pos he]; rfl
        have HG : Hid (∃ fa' fc', Value.slice fa L[k].2.length fc = .slice fa' (getD L key).length fc' ∧ IntsAt (w.drewN q0) fa' (getD L key) ∧ (getD L key).length ≤ fc' ∧ fc' ≤ 9223372036854775807) := ⟨fa, fc, by rw [hg], by rw [hg]; exact hI2, by rw [hg]; exact h5, h6⟩
        rw [he] at c0
        have t1 : (key.toList == key.toList) = true := by simp
        clear hI2 hd hg hX he h5
        generalize L[k].2.length = p at *
        generalize hw : w.drewN q0 = wr at *
        go_wp2_with fail
        go_ret
        obtain ⟨fa', fc', e1, e2⟩ := HG.out
        exact ⟨fa', fc', by rw [e1]; rfl, e2.1, e2.2.1, e2.2.2, q0, hw.symm⟩
      · have t1 := eq_no he
        have HX2 : Hid (∀ j (hj : j < L.length), j < k + 1 → L[j].1 ≠ key) := fun j hj hk2 => by
          by_cases e : j = k
          · subst e; exact he
          · exact hX.out j hj (by omega)
        clear hI2 hd hX he h5
        generalize L[k].2.length = p at *
        generalize L[k].1 = key2 at *
        have HQ : Hid (∃ q, w.drewN q0 = w.drewN q) := ⟨q0, rfl⟩
        generalize w.drewN q0 = wr at *
        go_wp2_with fail
        exact ⟨⟨k + 1, by go_num, by omega, HX2, HQ⟩, by simp [intOf]; omega⟩
    · have hi : ¬ (k : Int) < (n : Int) := by omega
      have hg : getD L key = [] := by
        unfold getD
        rw [get_drop k hX.out, List.drop_of_length_le (by have := HN.out; omega)]; rfl
      have HG := Lib.hid hg
      clear hX hg
      go_wp2_with fail
      go_ret
      exact ⟨none, 0, by rw [HG.out]; rfl, .inl HG.out, by rw [HG.out]; simp, by omega, q0, rfl⟩
theorem count_snoc2 (l : List Int) (k : Nat) (h : k < l.length) (x : Int) : (l.take (k + 1)).count x = (l.take k).count x + if l[k] = x then 1 else 0 := count_snoc l k h x
set_option maxHeartbeats 1000000 in
theorem count_any (w : World) (la : Option Addr) (c n : Nat) (z : List Int) (x : Int) (ha : IntsAt w la z) (hn : n = z.length) (hl : n ≤ 400) :
    Calls Tryd.prog 17 #[.slice la n c, .int .i64 x] w fun e w' => e = .returned (.int .i64 (z.count x : Nat)) ∧ ∃ q, w' = w.drewN q := by
  have H := Lib.hid ha
  have HN := Lib.hid hn
  clear ha hn
  go_enter Tryd.func17, Tryd.ntmps17
  go_wp2_with fail
  go_loopw [5, 6] (fun vk vi wr => ∃ k y : Nat, vi = .int .i64 (k : Int) ∧ k ≤ n ∧ vk = .int .i64 (y : Int) ∧ y ≤ k ∧ Hid ((z.take k).count x = y) ∧ Hid (∃ q, wr = w.drewN q)) (fun _ vi _ => n - (intOf vi).toNat)
  case atStart => exact ⟨0, 0, rfl, by omega, rfl, by omega, by show _ = _; simp, ⟨0, rfl⟩⟩
  case round =>
    obtain ⟨k, y, rfl, hk, rfl, hy, hC, hq⟩ := hrel
    obtain ⟨q0, rfl⟩ := hq.out
    by_cases hlt : k < n
    · have hi : (k : Int) < (n : Int) := by omega
      have k1 : k < z.length := by have := HN.out; omega
      obtain ⟨b, o, rfl, c0⟩ := ints_at (ints_b H.out (below_dr w q0)) k k1
      have hs := count_snoc z k k1 x
      rw [hC.out] at hs
      have HS := Lib.hid hs
      clear hs hC
      have HQ : Hid (∃ q, w.drewN q0 = w.drewN q) := ⟨q0, rfl⟩
      by_cases he : z[k] = x
      · have t1 : (x == x) = true := by simp
        have HS2 : Hid ((z.take (k + 1)).count x = y + 1) := by show _ = _; rw [HS.out, if_pos he]
        rw [he] at c0
        clear HS he
        generalize w.drewN q0 = wr at *
        go_wp2_with fail
        exact ⟨⟨k + 1, y + 1, by go_num, by omega, by go_num, by omega, HS2, HQ⟩, by simp [intOf]; omega⟩
      · have t1 : (z[k] == x) = false := by simpa using he
        have HS2 : Hid ((z.take (k + 1)).count x = y) := by show _ = _; rw [HS.out, if_neg he]; rfl
        clear HS he
        generalize z[k] = x2 at *
        generalize w.drewN q0 = wr at *
        go_wp2_with fail
        exact ⟨⟨k + 1, y, by go_num, by omega, rfl, by omega, HS2, HQ⟩, by simp [intOf]; omega⟩
    · have hi : ¬ (k : Int) < (n : Int) := by omega
      have ht : z.take k = z := List.take_of_length_le (by have := HN.out; omega)
      have HE : Hid (z.count x = y) := by show _ = _; rw [← hC.out, ht]
      go_wp2_with fail
      go_ret
      exact ⟨by rw [HE.out]; rfl, q0, rfl⟩
end Go.Proofs.YthcgjbpiiodlgaaDoor
