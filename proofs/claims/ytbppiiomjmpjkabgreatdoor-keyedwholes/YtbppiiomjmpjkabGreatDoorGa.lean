/- The document's reader D: its block; its numbers. -/
import Derived.Test.YtbppiiomjmpjkabGreatDoorFg
import Derived.Test.YtbppiiomjmpjkabGreatDoorPureS
namespace Go.Proofs.YtbppiiomjmpjkabGreatDoor
open Go.RowKit

/-- D's block. -/
def Db (w : World) (R : Nat) (v : Value) (at' : Int) (bad : Bool) : Prop := w.heap[R]? = some (.cells #[v, .int .i64 at', .bool bad] 79)
theorem Db.c0 {w : World} {R : Nat} {v : Value} {a : Int} {b : Bool} (h : Db w R v a b) : w.cell? ⟨R, 0, none⟩ = some v := by unfold Db at h; simp [World.cell?, h]
theorem Db.c1 {w : World} {R : Nat} {v : Value} {a : Int} {b : Bool} (h : Db w R v a b) : w.cell? ⟨R, 1, none⟩ = some (.int .i64 a) := by unfold Db at h; simp [World.cell?, h]
theorem Db.c2 {w : World} {R : Nat} {v : Value} {a : Int} {b : Bool} (h : Db w R v a b) : w.cell? ⟨R, 2, none⟩ = some (.bool b) := by unfold Db at h; simp [World.cell?, h]
theorem Db.fz {w : World} {R : Nat} {v : Value} {a : Int} {b : Bool} (h : Db w R v a b) (o : Nat) : w.frozen? ⟨R, o, none⟩ = false := by unfold Db at h; simp [World.frozen?, h]
theorem Db.set1 {w : World} {R : Nat} {v : Value} {a : Int} {b : Bool} (h : Db w R v a b) (j : Int) : Db (w.setCell ⟨R, 1, none⟩ (.int .i64 j)) R v j b := by
  unfold Db at h ⊢; simp [World.setCell, Array.getElem?_modify, h]
theorem Db.set2 {w : World} {R : Nat} {v : Value} {a : Int} {b : Bool} (h : Db w R v a b) (c : Bool) : Db (w.setCell ⟨R, 2, none⟩ (.bool c)) R v a c := by
  unfold Db at h ⊢; simp [World.setCell, Array.getElem?_modify, h]

/-- D reads the bytes l, which lie in blocks below N: what is left, or none. -/
def DdB (N : Nat) (w : World) (R : Nat) (l : List UInt8) (st : St) : Prop :=
  ∃ p c a bad, Db w R (.slice p l.length c) (a : Nat) bad ∧ BsAt w p l ∧ (∀ x, p = some x → l ≠ [] → x.block < N) ∧ l.length ≤ c ∧ c ≤ 9223372036854775807 ∧ l.length ≤ 140737488355328 ∧ a ≤ l.length ∧ ((st = none ∧ bad = true) ∨ (st = some (l.drop a) ∧ bad = false))
theorem DdB.lt {N : Nat} {w : World} {R : Nat} {l : List UInt8} {st : St} (h : DdB N w R l st) : R < w.heap.size := by
  obtain ⟨p, c, a, bad, h, -⟩ := h; exact some_lt h
theorem DdB.keep {N : Nat} {w w' : World} {R : Nat} {l : List UInt8} {st : St} (h : DdB N w R l st) (hR : w'.heap[R]? = w.heap[R]?) (hN : ∀ k, k < N → w'.heap[k]? = w.heap[k]?) : DdB N w' R l st := by
  obtain ⟨p, c, a, bad, h1, h2, h3, h4⟩ := h
  exact ⟨p, c, a, bad, by unfold Db; rw [hR]; exact h1, h2.blocks (fun x hx hne => hN _ (h3 x hx hne)), h3, h4⟩

theorem rd_bad2 (l : List UInt8) (k y : Nat) (a : Nat) (h : a < l.length) (hb : (k = 9 ∧ 1 < l[a].toNat) ∨ (0 < k ∧ l[a].toNat = 0)) : rdN k y (l.drop a) = none := by
  rw [drop_cons l a h, rdN]
  by_cases h10 : 10 ≤ k
  · rw [if_pos h10]
  · rw [if_neg h10]
    by_cases h128 : 128 ≤ l[a].toNat
    · rw [if_pos h128]
      rcases hb with ⟨rfl, -⟩ | ⟨-, h0⟩
      · exact rd_ten _ _
      · omega
    · rw [if_neg h128, if_pos (by omega)]
theorem rd_more2 (l : List UInt8) (k y a : Nat) (h : a < l.length) (hk : k ≤ 9) (hz : 128 ≤ l[a].toNat) : rdN k y (l.drop a) = rdN (k + 1) (y + l[a].toNat % 128 * 128 ^ k) (l.drop (a + 1)) := by
  rw [drop_cons l a h, rdN, if_neg (by omega), if_pos hz]
theorem rd_end2 (l : List UInt8) (k y a : Nat) (h : a < l.length) (hk : k ≤ 9) (hz : ¬ 128 ≤ l[a].toNat) (hb : ¬ ((k = 9 ∧ 1 < l[a].toNat) ∨ (0 < k ∧ l[a].toNat = 0))) : rdN k y (l.drop a) = some (y + l[a].toNat * 128 ^ k, k + 1) := by
  rw [drop_cons l a h, rdN, if_neg (by omega), if_neg hz, if_neg (by omega)]
theorem nI_rd (l : List UInt8) : (rdN 0 0 l = none → nI (some l) = (0, none)) ∧ (∀ y k, rdN 0 0 l = some (y, k) → nI (some l) = (zag y, some (l.drop k))) := by
  unfold nI rdI fstN
  exact ⟨fun h => by simp [h], fun y k h => by simp [h]⟩

set_option maxRecDepth 100000 in
set_option maxHeartbeats 1000000 in
theorem dnum_any (N R : Nat) (w : World) (l : List UInt8) (st : St) (h : DdB N w R l st) (hNR : N ≤ R) :
    Calls Tryz.prog 41 #[.pointer (some ⟨R, 0, none⟩)] w fun e w' => e = .returned (.int .i64 (nI st).1) ∧ DdB N w' R l (nI st).2 ∧ Fr [R] w w' := by
  obtain ⟨p, c, a0, bad, hd, hl, hN, hlc, hcm, hlen, hal, hst⟩ := h
  rcases hst with ⟨rfl, rfl⟩ | ⟨rfl, rfl⟩
  · have h2 := hd.c2
    have hf := hd.fz
    have HR := Lib.hid (show DdB N (w.setCell ⟨R, 2, none⟩ (.bool true)) R l none from ⟨p, c, a0, true, hd.set2 true, hl.blocks (fun x hx hne => Below.heap_setCell _ _ _ _ (by have := hN x hx hne; simp; omega)), hN, hlc, hcm, hlen, hal, .inl ⟨rfl, rfl⟩⟩)
    clear hl hN
    simp only [nI]
    go_enter Tryz.func41, Tryz.ntmps41
    go_wp2_with fail
    go_loop [3, 4, 5] (fun x y i => i = .int .i64 0) (fun _ _ _ => 0)
    case atStart => exact rfl
    case round =>
      subst hrel
      go_wp2_with fail
      go_ret
      exact ⟨rfl, HR.out, (Fr.refl _ _).setCell (by simp) _⟩
  · obtain ⟨V, S2, hVS⟩ : ∃ V S2, nI (some (l.drop a0)) = (V, S2) := ⟨_, _, rfl⟩
    rw [hVS]
    simp only
    have HV := Lib.hid hVS
    clear hVS
    have hkeep : ∀ u (a1 : Nat) (b1 : Bool) (s1 : St), Fr [R] w u → Db u R (.slice p l.length c) (a1 : Nat) b1 → a1 ≤ l.length → ((s1 = none ∧ b1 = true) ∨ (s1 = some (l.drop a1) ∧ b1 = false)) → DdB N u R l s1 := fun u a1 b1 s1 hf hdu ha hs =>
      ⟨p, c, a1, b1, hdu, hl.blocks (fun x hx hne => hf.block _ (by have := hN x hx hne; have := some_lt hd; omega) (by have := hN x hx hne; simp; omega)), hN, hlc, hcm, hlen, ha, hs⟩
    have hcell : ∀ u, Fr [R] w u → ∀ i (hi : i < l.length), ∃ b o, p = some ⟨b, o, none⟩ ∧ u.cell? ⟨b, o + i, none⟩ = some (.int .u8 l[i].toNat) := by
      intro u hf i hi
      rcases hl with rfl | ⟨b, o, rfl, hc⟩
      · simp at hi
      · have hne : l ≠ [] := by intro e; subst e; simp at hi
        have hbN : b < N := hN ⟨b, o, none⟩ rfl hne
        refine ⟨b, o, rfl, ?_⟩
        rw [hf.cell (p := ⟨b, o + i, none⟩) (by have := some_lt hd; show b < _; omega) (by simp; omega)]
        exact hc i hi
    have HK := Lib.hid hkeep
    have HC := Lib.hid hcell
    clear hkeep hcell hl hN
    go_enter Tryz.func41, Tryz.ntmps41
    go_wp2_with fail
    go_loopw [3, 4, 5] (fun x b i wr => ∃ k y : Nat, k ≤ 9 ∧ a0 + k ≤ l.length ∧ i = .int .i64 k ∧ x = .int .u64 y ∧ b = .int .u64 (128 ^ k : Nat) ∧ y < 128 ^ k ∧ rdN 0 0 (l.drop a0) = rdN k y (l.drop (a0 + k)) ∧ Db wr R (.slice p l.length c) ((a0 + k : Nat) : Int) false ∧ Fr [R] w wr) (fun _ _ i _ => 10 - (intOf i).toNat)
    case atStart => exact ⟨0, 0, by omega, by omega, rfl, rfl, by simp, by simp, by simp, by simpa using hd, Fr.refl _ _⟩
    case round =>
      obtain ⟨k, y, hk, hak, rfl, rfl, rfl, hy, hrd, hdr, hfr⟩ := hrel
      clear hd
      have hk10 : (k : Int) < 10 := by omega
      generalize hA : a0 + k = A at *
      have HA := Lib.hid hA
      clear hA
      by_cases hend : A < l.length
      · obtain ⟨b, o, rfl, hcr⟩ := HC.out wr hfr A hend
        obtain ⟨z, hze⟩ : ∃ z, z = l[A].toNat := ⟨_, rfl⟩
        have h8 : z < 256 := by rw [hze]; exact l[A].toNat_lt
        have HB := rd_bad2 l k y A hend
        have HM := rd_more2 l k y A hend hk
        have HE := rd_end2 l k y A hend hk
        rw [← hze] at HB HM HE hcr
        clear hze HC
        have gr0 := hdr.c0
        have gr1 := hdr.c1
        have gr2 := hdr.c2
        have grf := hdr.fz
        have hAI : (A : Int) < (l.length : Int) := by omega
        have hA47 : (A : Int) ≤ 140737488355328 := by omega
        have hnge : ¬ (l.length : Int) ≤ (A : Int) := by omega
        by_cases hbad : (k = 9 ∧ 1 < z) ∨ (0 < k ∧ z = 0)
        · have hv := (nI_rd (l.drop a0)).1 (hrd.trans (HB hbad))
          rw [HV.out] at hv
          injection hv with hv1 hv2
          subst hv1 hv2
          clear HB HM HE hrd HV hy
          by_cases hk9 : k = 9 ∧ 1 < z
          · obtain ⟨rfl, hz1⟩ := hk9
            have hz1' : (1 : Int) < (z : Int) := by omega
            go_wp2_with fail
            go_quiet (fail)
            have hd3 : Db (wr.drewN nq) R (.slice (some ⟨b, o, none⟩) l.length c) (A : Int) false := hdr
            have hf3 : Fr [R] w (wr.drewN nq) := hfr.drewN nq
            have hc3 : (wr.drewN nq).cell? ⟨b, o + A, none⟩ = some (.int .u8 (z : Int)) := hcr
            clear hdr hfr hcr gr0 gr1 gr2 grf
            generalize wr.drewN nq = w3 at *
            have g30 := hd3.c0
            have g31 := hd3.c1
            have g32 := hd3.c2
            have g3f := hd3.fz
            go_wp2_with fail
            go_quiet (fail)
            have hd4 : Db (w3.drewN nq) R (.slice (some ⟨b, o, none⟩) l.length c) (A : Int) false := hd3
            have hf4 : Fr [R] w (w3.drewN nq) := hf3.drewN nq
            have hc4 : (w3.drewN nq).cell? ⟨b, o + A, none⟩ = some (.int .u8 (z : Int)) := hc3
            clear hd3 hf3 hc3 g30 g31 g32 g3f
            generalize w3.drewN nq = w4 at *
            have g40 := hd4.c0
            have g41 := hd4.c1
            have g42 := hd4.c2
            have g4f := hd4.fz
            have hd5 := hd4.set1 ((A : Int) + 1)
            have hf5 : Fr [R] w (w4.setCell ⟨R, 1, none⟩ (.int .i64 ((A : Int) + 1))) := hf4.setCell (by simp) _
            go_wp2_with fail
            go_ret
            exact ⟨rfl, HK.out _ (A + 1) true none (hf5.setCell (by simp) _) (hd5.set2 true) (by omega) (.inl ⟨rfl, rfl⟩), hf5.setCell (by simp) _⟩
          · have hk0 : (0 : Int) < (k : Int) := by omega
            have hz0 : (z : Int) = 0 := by omega
            by_cases hk9' : k = 9
            · subst hk9'
              have hz1' : ¬ (1 : Int) < (z : Int) := by omega
              go_wp2_with fail
              go_quiet (fail)
              have hd3 : Db (wr.drewN nq) R (.slice (some ⟨b, o, none⟩) l.length c) (A : Int) false := hdr
              have hf3 : Fr [R] w (wr.drewN nq) := hfr.drewN nq
              have hc3 : (wr.drewN nq).cell? ⟨b, o + A, none⟩ = some (.int .u8 (z : Int)) := hcr
              clear hdr hfr hcr gr0 gr1 gr2 grf
              generalize wr.drewN nq = w3 at *
              have g30 := hd3.c0
              have g31 := hd3.c1
              have g32 := hd3.c2
              have g3f := hd3.fz
              go_wp2_with fail
              go_quiet (fail)
              have hd4 : Db (w3.drewN nq) R (.slice (some ⟨b, o, none⟩) l.length c) (A : Int) false := hd3
              have hf4 : Fr [R] w (w3.drewN nq) := hf3.drewN nq
              have hc4 : (w3.drewN nq).cell? ⟨b, o + A, none⟩ = some (.int .u8 (z : Int)) := hc3
              clear hd3 hf3 hc3 g30 g31 g32 g3f
              generalize w3.drewN nq = w4 at *
              have g40 := hd4.c0
              have g41 := hd4.c1
              have g42 := hd4.c2
              have g4f := hd4.fz
              have hd5 := hd4.set1 ((A : Int) + 1)
              have hf5 : Fr [R] w (w4.setCell ⟨R, 1, none⟩ (.int .i64 ((A : Int) + 1))) := hf4.setCell (by simp) _
              go_wp2_with fail
              go_ret
              exact ⟨rfl, HK.out _ (A + 1) true none (hf5.setCell (by simp) _) (hd5.set2 true) (by omega) (.inl ⟨rfl, rfl⟩), hf5.setCell (by simp) _⟩
            · have hk9i : ¬ (k : Int) = 9 := by omega
              go_wp2_with fail
              go_quiet (fail)
              have hd3 : Db (wr.drewN nq) R (.slice (some ⟨b, o, none⟩) l.length c) (A : Int) false := hdr
              have hf3 : Fr [R] w (wr.drewN nq) := hfr.drewN nq
              have hc3 : (wr.drewN nq).cell? ⟨b, o + A, none⟩ = some (.int .u8 (z : Int)) := hcr
              clear hdr hfr hcr gr0 gr1 gr2 grf
              generalize wr.drewN nq = w3 at *
              have g30 := hd3.c0
              have g31 := hd3.c1
              have g32 := hd3.c2
              have g3f := hd3.fz
              go_wp2_with fail
              go_quiet (fail)
              have hd4 : Db (w3.drewN nq) R (.slice (some ⟨b, o, none⟩) l.length c) (A : Int) false := hd3
              have hf4 : Fr [R] w (w3.drewN nq) := hf3.drewN nq
              have hc4 : (w3.drewN nq).cell? ⟨b, o + A, none⟩ = some (.int .u8 (z : Int)) := hc3
              clear hd3 hf3 hc3 g30 g31 g32 g3f
              generalize w3.drewN nq = w4 at *
              have g40 := hd4.c0
              have g41 := hd4.c1
              have g42 := hd4.c2
              have g4f := hd4.fz
              have hd5 := hd4.set1 ((A : Int) + 1)
              have hf5 : Fr [R] w (w4.setCell ⟨R, 1, none⟩ (.int .i64 ((A : Int) + 1))) := hf4.setCell (by simp) _
              go_wp2_with fail
              go_ret
              exact ⟨rfl, HK.out _ (A + 1) true none (hf5.setCell (by simp) _) (hd5.set2 true) (by omega) (.inl ⟨rfl, rfl⟩), hf5.setCell (by simp) _⟩
        · have hz9 : k = 9 → z ≤ 1 := by omega
          have hzk : 0 < k → z ≠ 0 := by omega
          have hP : 128 ^ (k + 1) = 128 ^ k * 128 := Nat.pow_succ ..
          have hP9 : 128 ^ k ≤ 9223372036854775808 := Nat.le_trans (Nat.pow_le_pow_right (by decide) hk) (by decide)
          have hP8 : k ≤ 8 → 128 ^ k ≤ 72057594037927936 := fun h => Nat.le_trans (Nat.pow_le_pow_right (by decide) h) (by decide)
          have hmul : z % 128 * 128 ^ k + y < 18446744073709551616 := by
            by_cases h9 : k = 9
            · have h1 := hz9 h9
              have h2 : z % 128 ≤ 1 := by omega
              have := Nat.mul_le_mul_right (128 ^ k) h2
              omega
            · have h2 : z % 128 ≤ 127 := by omega
              have := Nat.mul_le_mul_right (128 ^ k) h2
              have := hP8 (by omega)
              omega
          obtain ⟨x2, hx2⟩ : ∃ x2, x2 = y + z % 128 * 128 ^ k := ⟨_, rfl⟩
          have e1 : IntKind.u64.wrap (z : Int) = (z : Int) := wraps_u64 _ (by omega) (by omega)
          have e2 : IntKind.u64.wrap (((z : Int)).tmod 128 * ((128 ^ k : Nat) : Int)) = ((z % 128 * 128 ^ k : Nat) : Int) := by
            rw [show ((z : Int)).tmod 128 = ((z % 128 : Nat) : Int) from by rw [Int.tmod_eq_emod_of_nonneg (by omega)]; omega, show ((z % 128 : Nat) : Int) * ((128 ^ k : Nat) : Int) = ((z % 128 * 128 ^ k : Nat) : Int) from by norm_cast]
            exact wraps_u64 _ (by omega) (by omega)
          have e3 : IntKind.u64.wrap ((y : Int) + ((z % 128 * 128 ^ k : Nat) : Int)) = (x2 : Int) := by
            rw [show (y : Int) + ((z % 128 * 128 ^ k : Nat) : Int) = (x2 : Int) from by rw [hx2]; omega]
            exact wraps_u64 _ (by omega) (by omega)
          have hx2l : x2 < 18446744073709551616 := by omega
          generalize hPk : 128 ^ k = P at *
          generalize hMz : z % 128 * P = M at *
          by_cases hz128 : 128 ≤ z
          · have hk8 : k ≤ 8 := by
              rcases Nat.lt_or_ge k 9 with h | h
              · omega
              · have := hz9 (by omega); omega
            have hP8' := hP8 hk8
            have e4 : IntKind.u64.wrap ((P : Int) * 128) = ((P * 128 : Nat) : Int) := by
              rw [show (P : Int) * 128 = ((P * 128 : Nat) : Int) from by norm_cast]
              exact wraps_u64 _ (by omega) (by omega)
            have hz128' : ¬ (z : Int) < 128 := by omega
            have hlt' : x2 < P * 128 := by
              have := Nat.mul_le_mul_right P (show z % 128 ≤ 127 by omega)
              rw [hMz] at this
              omega
            have hrm := HM hz128
            have HRM := Lib.hid (hrd.trans hrm)
            have HPK := Lib.hid hPk
            have HX2 := Lib.hid hx2
            have HPP := Lib.hid hP
            have hn9 : ¬ ((k : Int) = 9) := by omega
            have hnz : ¬ ((z : Int) = 0) := by omega
            have e5 : IntKind.u64.wrap ((z : Int) % 128 * (P : Int)) = (M : Int) := by rw [← e2, Int.tmod_eq_emod_of_nonneg (by omega)]
            clear HB HM HE hrd hPk hx2 hP hMz hP8 hz9 hzk hbad hrm hmul hP9
            clear HV
            go_wp2_with fail
            go_quiet (fail)
            have hd3 : Db (wr.drewN nq) R (.slice (some ⟨b, o, none⟩) l.length c) (A : Int) false := hdr
            have hf3 : Fr [R] w (wr.drewN nq) := hfr.drewN nq
            have hc3 : (wr.drewN nq).cell? ⟨b, o + A, none⟩ = some (.int .u8 (z : Int)) := hcr
            clear hdr hfr hcr gr0 gr1 gr2 grf
            generalize wr.drewN nq = w3 at *
            have g30 := hd3.c0
            have g31 := hd3.c1
            have g32 := hd3.c2
            have g3f := hd3.fz
            go_wp2_with fail
            go_quiet (fail)
            have hd4 : Db (w3.drewN nq) R (.slice (some ⟨b, o, none⟩) l.length c) (A : Int) false := hd3
            have hf4 : Fr [R] w (w3.drewN nq) := hf3.drewN nq
            have hc4 : (w3.drewN nq).cell? ⟨b, o + A, none⟩ = some (.int .u8 (z : Int)) := hc3
            clear hd3 hf3 hc3 g30 g31 g32 g3f
            generalize w3.drewN nq = w4 at *
            have g40 := hd4.c0
            have g41 := hd4.c1
            have g42 := hd4.c2
            have g4f := hd4.fz
            have hd5 := hd4.set1 ((A : Int) + 1)
            have hf5 : Fr [R] w (w4.setCell ⟨R, 1, none⟩ (.int .i64 ((A : Int) + 1))) := hf4.setCell (by simp) _
            go_wp2_with fail
            all_goals
              go_roundw
              case rel => exact ⟨k + 1, x2, by omega, by have := HA.out; omega, by go_num, rfl, by rw [HPP.out]; go_num, by rw [HPP.out]; exact hlt', by rw [HRM.out, HX2.out, ← HA.out, Nat.add_assoc], by have := hd5; rw [show ((a0 + (k + 1) : Nat) : Int) = (A : Int) + 1 from by have := HA.out; omega]; exact this, hf5⟩
              case measure => simp [intOf]; omega
          · have hzm : z % 128 = z := by omega
            have hre := HE hz128 hbad
            have hv := (nI_rd (l.drop a0)).2 _ _ (hrd.trans hre)
            rw [HV.out] at hv
            have hxz : y + z * P = x2 := by rw [hx2, ← hMz, hzm]
            rw [hxz] at hv
            injection hv with hv1 hv2
            have HV1 := Lib.hid hv1
            have HS2 : Hid (S2 = some (l.drop (A + 1))) := Lib.hid (by rw [hv2, List.drop_drop, ← HA.out, Nat.add_assoc])
            have hz128' : (z : Int) < 128 := by omega
            have e5 : IntKind.u64.wrap ((z : Int) % 128 * (P : Int)) = (M : Int) := by rw [← e2, Int.tmod_eq_emod_of_nonneg (by omega)]
            have e6 : IntKind.u64.wrap ((z : Int) * (P : Int)) = (M : Int) := by rw [← e5]; congr 2; omega
            have hz9' : k = 9 → ¬ (1 : Int) < (z : Int) := fun h => by have := hz9 h; omega
            have hzk' : 0 < k → ¬ (z : Int) = 0 := fun h => by have := hzk h; omega
            clear HB HM HE hrd hPk hx2 hP hMz hP8 hz9 hzk hbad hre hmul hP9 hv1 hv2 hxz HV
            have HZ := Lib.hid (show zag x2 = if x2 % 2 = 1 then -((x2 / 2 : Nat) : Int) - 1 else ((x2 / 2 : Nat) : Int) from rfl)
            by_cases hk9 : k = 9
            · have hz1 := hz9' hk9
              have hz0 := hzk' (by omega)
              have hk9i : (k : Int) = 9 := by omega
              clear hk9
              by_cases hpp : x2 % 2 = 1
              · have hpar : x2 % 2 = 1 := by omega
                have hpar' : (x2 : Int) % 2 = 1 := by omega
                go_wp2_with fail
                go_quiet (fail)
                have hd3 : Db (wr.drewN nq) R (.slice (some ⟨b, o, none⟩) l.length c) (A : Int) false := hdr
                have hf3 : Fr [R] w (wr.drewN nq) := hfr.drewN nq
                have hc3 : (wr.drewN nq).cell? ⟨b, o + A, none⟩ = some (.int .u8 (z : Int)) := hcr
                clear hdr hfr hcr gr0 gr1 gr2 grf
                generalize wr.drewN nq = w3 at *
                have g30 := hd3.c0
                have g31 := hd3.c1
                have g32 := hd3.c2
                have g3f := hd3.fz
                go_wp2_with fail
                go_quiet (fail)
                have hd4 : Db (w3.drewN nq) R (.slice (some ⟨b, o, none⟩) l.length c) (A : Int) false := hd3
                have hf4 : Fr [R] w (w3.drewN nq) := hf3.drewN nq
                have hc4 : (w3.drewN nq).cell? ⟨b, o + A, none⟩ = some (.int .u8 (z : Int)) := hc3
                clear hd3 hf3 hc3 g30 g31 g32 g3f
                generalize w3.drewN nq = w4 at *
                have g40 := hd4.c0
                have g41 := hd4.c1
                have g42 := hd4.c2
                have g4f := hd4.fz
                have hd5 := hd4.set1 ((A : Int) + 1)
                have hf5 : Fr [R] w (w4.setCell ⟨R, 1, none⟩ (.int .i64 ((A : Int) + 1))) := hf4.setCell (by simp) _
                go_wp2_with fail
                all_goals first
                  | (exfalso; rename_i hh; simp only [beq_iff_eq] at hh; omega)
                  | (go_ret
                     refine ⟨?_, by rw [HS2.out]; exact HK.out _ (A + 1) false _ hf5 (by simpa using hd5) (by omega) (.inr ⟨rfl, rfl⟩), hf5⟩
                     rw [HV1.out, HZ.out, if_pos hpar]; go_num)
              · have hpar : ¬ x2 % 2 = 1 := by omega
                have hpar' : ¬ (x2 : Int) % 2 = 1 := by omega
                go_wp2_with fail
                go_quiet (fail)
                have hd3 : Db (wr.drewN nq) R (.slice (some ⟨b, o, none⟩) l.length c) (A : Int) false := hdr
                have hf3 : Fr [R] w (wr.drewN nq) := hfr.drewN nq
                have hc3 : (wr.drewN nq).cell? ⟨b, o + A, none⟩ = some (.int .u8 (z : Int)) := hcr
                clear hdr hfr hcr gr0 gr1 gr2 grf
                generalize wr.drewN nq = w3 at *
                have g30 := hd3.c0
                have g31 := hd3.c1
                have g32 := hd3.c2
                have g3f := hd3.fz
                go_wp2_with fail
                go_quiet (fail)
                have hd4 : Db (w3.drewN nq) R (.slice (some ⟨b, o, none⟩) l.length c) (A : Int) false := hd3
                have hf4 : Fr [R] w (w3.drewN nq) := hf3.drewN nq
                have hc4 : (w3.drewN nq).cell? ⟨b, o + A, none⟩ = some (.int .u8 (z : Int)) := hc3
                clear hd3 hf3 hc3 g30 g31 g32 g3f
                generalize w3.drewN nq = w4 at *
                have g40 := hd4.c0
                have g41 := hd4.c1
                have g42 := hd4.c2
                have g4f := hd4.fz
                have hd5 := hd4.set1 ((A : Int) + 1)
                have hf5 : Fr [R] w (w4.setCell ⟨R, 1, none⟩ (.int .i64 ((A : Int) + 1))) := hf4.setCell (by simp) _
                go_wp2_with fail
                all_goals first
                  | (exfalso; rename_i hh; simp only [beq_iff_eq] at hh; omega)
                  | (go_ret
                     refine ⟨?_, by rw [HS2.out]; exact HK.out _ (A + 1) false _ hf5 (by simpa using hd5) (by omega) (.inr ⟨rfl, rfl⟩), hf5⟩
                     rw [HV1.out, HZ.out, if_neg hpar]; go_num)
            · have hk9i : ¬ (k : Int) = 9 := by omega
              by_cases hk0 : k = 0
              · have hk0i : ¬ (0 : Int) < (k : Int) := by omega
                clear hk9
                by_cases hpp : x2 % 2 = 1
                · have hpar : x2 % 2 = 1 := by omega
                  have hpar' : (x2 : Int) % 2 = 1 := by omega
                  go_wp2_with fail
                  go_quiet (fail)
                  have hd3 : Db (wr.drewN nq) R (.slice (some ⟨b, o, none⟩) l.length c) (A : Int) false := hdr
                  have hf3 : Fr [R] w (wr.drewN nq) := hfr.drewN nq
                  have hc3 : (wr.drewN nq).cell? ⟨b, o + A, none⟩ = some (.int .u8 (z : Int)) := hcr
                  clear hdr hfr hcr gr0 gr1 gr2 grf
                  generalize wr.drewN nq = w3 at *
                  have g30 := hd3.c0
                  have g31 := hd3.c1
                  have g32 := hd3.c2
                  have g3f := hd3.fz
                  go_wp2_with fail
                  go_quiet (fail)
                  have hd4 : Db (w3.drewN nq) R (.slice (some ⟨b, o, none⟩) l.length c) (A : Int) false := hd3
                  have hf4 : Fr [R] w (w3.drewN nq) := hf3.drewN nq
                  have hc4 : (w3.drewN nq).cell? ⟨b, o + A, none⟩ = some (.int .u8 (z : Int)) := hc3
                  clear hd3 hf3 hc3 g30 g31 g32 g3f
                  generalize w3.drewN nq = w4 at *
                  have g40 := hd4.c0
                  have g41 := hd4.c1
                  have g42 := hd4.c2
                  have g4f := hd4.fz
                  have hd5 := hd4.set1 ((A : Int) + 1)
                  have hf5 : Fr [R] w (w4.setCell ⟨R, 1, none⟩ (.int .i64 ((A : Int) + 1))) := hf4.setCell (by simp) _
                  go_wp2_with fail
                  all_goals first
                    | (exfalso; rename_i hh; simp only [beq_iff_eq] at hh; omega)
                    | (go_ret
                       refine ⟨?_, by rw [HS2.out]; exact HK.out _ (A + 1) false _ hf5 (by simpa using hd5) (by omega) (.inr ⟨rfl, rfl⟩), hf5⟩
                       rw [HV1.out, HZ.out, if_pos hpar]; go_num)
                · have hpar : ¬ x2 % 2 = 1 := by omega
                  have hpar' : ¬ (x2 : Int) % 2 = 1 := by omega
                  go_wp2_with fail
                  go_quiet (fail)
                  have hd3 : Db (wr.drewN nq) R (.slice (some ⟨b, o, none⟩) l.length c) (A : Int) false := hdr
                  have hf3 : Fr [R] w (wr.drewN nq) := hfr.drewN nq
                  have hc3 : (wr.drewN nq).cell? ⟨b, o + A, none⟩ = some (.int .u8 (z : Int)) := hcr
                  clear hdr hfr hcr gr0 gr1 gr2 grf
                  generalize wr.drewN nq = w3 at *
                  have g30 := hd3.c0
                  have g31 := hd3.c1
                  have g32 := hd3.c2
                  have g3f := hd3.fz
                  go_wp2_with fail
                  go_quiet (fail)
                  have hd4 : Db (w3.drewN nq) R (.slice (some ⟨b, o, none⟩) l.length c) (A : Int) false := hd3
                  have hf4 : Fr [R] w (w3.drewN nq) := hf3.drewN nq
                  have hc4 : (w3.drewN nq).cell? ⟨b, o + A, none⟩ = some (.int .u8 (z : Int)) := hc3
                  clear hd3 hf3 hc3 g30 g31 g32 g3f
                  generalize w3.drewN nq = w4 at *
                  have g40 := hd4.c0
                  have g41 := hd4.c1
                  have g42 := hd4.c2
                  have g4f := hd4.fz
                  have hd5 := hd4.set1 ((A : Int) + 1)
                  have hf5 : Fr [R] w (w4.setCell ⟨R, 1, none⟩ (.int .i64 ((A : Int) + 1))) := hf4.setCell (by simp) _
                  go_wp2_with fail
                  all_goals first
                    | (exfalso; rename_i hh; simp only [beq_iff_eq] at hh; omega)
                    | (go_ret
                       refine ⟨?_, by rw [HS2.out]; exact HK.out _ (A + 1) false _ hf5 (by simpa using hd5) (by omega) (.inr ⟨rfl, rfl⟩), hf5⟩
                       rw [HV1.out, HZ.out, if_neg hpar]; go_num)
              · have hk0i : (0 : Int) < (k : Int) := by omega
                have hz0 := hzk' (by omega)
                clear hk9
                by_cases hpp : x2 % 2 = 1
                · have hpar : x2 % 2 = 1 := by omega
                  have hpar' : (x2 : Int) % 2 = 1 := by omega
                  go_wp2_with fail
                  go_quiet (fail)
                  have hd3 : Db (wr.drewN nq) R (.slice (some ⟨b, o, none⟩) l.length c) (A : Int) false := hdr
                  have hf3 : Fr [R] w (wr.drewN nq) := hfr.drewN nq
                  have hc3 : (wr.drewN nq).cell? ⟨b, o + A, none⟩ = some (.int .u8 (z : Int)) := hcr
                  clear hdr hfr hcr gr0 gr1 gr2 grf
                  generalize wr.drewN nq = w3 at *
                  have g30 := hd3.c0
                  have g31 := hd3.c1
                  have g32 := hd3.c2
                  have g3f := hd3.fz
                  go_wp2_with fail
                  go_quiet (fail)
                  have hd4 : Db (w3.drewN nq) R (.slice (some ⟨b, o, none⟩) l.length c) (A : Int) false := hd3
                  have hf4 : Fr [R] w (w3.drewN nq) := hf3.drewN nq
                  have hc4 : (w3.drewN nq).cell? ⟨b, o + A, none⟩ = some (.int .u8 (z : Int)) := hc3
                  clear hd3 hf3 hc3 g30 g31 g32 g3f
                  generalize w3.drewN nq = w4 at *
                  have g40 := hd4.c0
                  have g41 := hd4.c1
                  have g42 := hd4.c2
                  have g4f := hd4.fz
                  have hd5 := hd4.set1 ((A : Int) + 1)
                  have hf5 : Fr [R] w (w4.setCell ⟨R, 1, none⟩ (.int .i64 ((A : Int) + 1))) := hf4.setCell (by simp) _
                  go_wp2_with fail
                  all_goals first
                    | (exfalso; rename_i hh; simp only [beq_iff_eq] at hh; omega)
                    | (go_ret
                       refine ⟨?_, by rw [HS2.out]; exact HK.out _ (A + 1) false _ hf5 (by simpa using hd5) (by omega) (.inr ⟨rfl, rfl⟩), hf5⟩
                       rw [HV1.out, HZ.out, if_pos hpar]; go_num)
                · have hpar : ¬ x2 % 2 = 1 := by omega
                  have hpar' : ¬ (x2 : Int) % 2 = 1 := by omega
                  go_wp2_with fail
                  go_quiet (fail)
                  have hd3 : Db (wr.drewN nq) R (.slice (some ⟨b, o, none⟩) l.length c) (A : Int) false := hdr
                  have hf3 : Fr [R] w (wr.drewN nq) := hfr.drewN nq
                  have hc3 : (wr.drewN nq).cell? ⟨b, o + A, none⟩ = some (.int .u8 (z : Int)) := hcr
                  clear hdr hfr hcr gr0 gr1 gr2 grf
                  generalize wr.drewN nq = w3 at *
                  have g30 := hd3.c0
                  have g31 := hd3.c1
                  have g32 := hd3.c2
                  have g3f := hd3.fz
                  go_wp2_with fail
                  go_quiet (fail)
                  have hd4 : Db (w3.drewN nq) R (.slice (some ⟨b, o, none⟩) l.length c) (A : Int) false := hd3
                  have hf4 : Fr [R] w (w3.drewN nq) := hf3.drewN nq
                  have hc4 : (w3.drewN nq).cell? ⟨b, o + A, none⟩ = some (.int .u8 (z : Int)) := hc3
                  clear hd3 hf3 hc3 g30 g31 g32 g3f
                  generalize w3.drewN nq = w4 at *
                  have g40 := hd4.c0
                  have g41 := hd4.c1
                  have g42 := hd4.c2
                  have g4f := hd4.fz
                  have hd5 := hd4.set1 ((A : Int) + 1)
                  have hf5 : Fr [R] w (w4.setCell ⟨R, 1, none⟩ (.int .i64 ((A : Int) + 1))) := hf4.setCell (by simp) _
                  go_wp2_with fail
                  all_goals first
                    | (exfalso; rename_i hh; simp only [beq_iff_eq] at hh; omega)
                    | (go_ret
                       refine ⟨?_, by rw [HS2.out]; exact HK.out _ (A + 1) false _ hf5 (by simpa using hd5) (by omega) (.inr ⟨rfl, rfl⟩), hf5⟩
                       rw [HV1.out, HZ.out, if_neg hpar]; go_num)
      · have hnone : rdN 0 0 (l.drop a0) = none := by
          rw [hrd, List.drop_of_length_le (by omega)]; rfl
        have hv := (nI_rd (l.drop a0)).1 hnone
        rw [HV.out] at hv
        injection hv with hv1 hv2
        subst hv1 hv2
        have hge : (l.length : Int) ≤ (A : Int) := by omega
        have g0 := hdr.c0
        have g1 := hdr.c1
        have g2 := hdr.c2
        have hdq : ∀ n, Db (wr.drewN n) R (.slice p l.length c) (A : Int) false := fun n => hdr
        have hfq : ∀ n, Fr [R] w (wr.drewN n) := fun n => hfr.drewN n
        clear hrd hnone HC
        go_wp2_with fail
        go_quiet (fail)
        have hd3 := hdq nq
        have hf3 := hfq nq
        clear hdq hfq g0 g1 g2 hdr hfr
        have g2 := hd3.c2
        have gf := hd3.fz
        generalize wr.drewN nq = w3 at *
        go_wp2_with fail
        go_ret
        exact ⟨rfl, HK.out _ A true none (hf3.setCell (by simp) _) (hd3.set2 true) (by omega) (.inl ⟨rfl, rfl⟩), hf3.setCell (by simp) _⟩
end Go.Proofs.YtbppiiomjmpjkabGreatDoor
