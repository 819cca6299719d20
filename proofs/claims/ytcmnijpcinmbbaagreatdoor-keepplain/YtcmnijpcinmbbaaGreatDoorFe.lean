/- What package frame reads: Open; bytes.Equal, bytes.Clone. -/
import Derived.Test.YtcmnijpcinmbbaaGreatDoorFd
import Derived.Deep.RegionWith
import Derived.Lib.SliceRun
namespace Go.Proofs.YtcmnijpcinmbbaaGreatDoor
open Go.RowKit

set_option maxHeartbeats 1000000 in
theorem equal_any (w : World) (p q : Option Addr) (c d : Nat) (x y : List UInt8) (hx : BsAt w p x) (hy : BsAt w q y) (n m : Nat) (hn : n = x.length) (hm : m = y.length) :
    Calls Tryz.prog 70 #[.slice p n c, .slice q m d] w fun e w' => e = .returned (.bool (decide (x = y))) ∧ w = w' := by
  have c1 := hx.convert n c hn
  have c2 := hy.convert m d hm
  clear hn hm hx hy
  go_enter Tryz.func70, Tryz.ntmps70
  go_wp2_with fail
  go_ret
  exact ⟨ret_bool (by rw [Bool.eq_iff_iff]; simp), rfl⟩
set_option maxHeartbeats 1000000 in
theorem clone_any (w : World) (a : Addr) (n c : Nat) (x : List UInt8) (hx : BsAt w (some a) x) (hn : n = x.length) (hlen : x.length ≤ 140737488355328) :
    Calls Tryz.prog 38 #[.slice (some a) n c] w fun e w' => ∃ v', e = .returned v' ∧ Own w.heap.size w' v' x ∧ Below w.heap.size w w' := by
  have q22 : ∀ (w : World) (a : Option Addr) (n c n' c' : Nat), (binOp .eql 23 (.slice a n c) (.slice none n' c')).run Tryz.prog w = .ok (.bool a.isNone) w := fun w a n c n' c' => Lib.run_eql_slice_nil w _ _ a n c n' c' Tryz.underlying23
  have hB : w.heap.size ≤ w.heap.size := Nat.le_refl _
  have hx' : BsAt (w.alloc (.cells #[] 5)) (some a) x := hx.keep ((Below.refl _ _).alloc (Nat.le_refl _) _)
  have HN := Lib.hid hn
  clear hn hx
  go_enter Tryz.func38, Tryz.ntmps38
  go_wp2_with (at_builtin; refine append_bs rfl _ _ rfl w.heap.size _ [] rfl ⟨rfl, .inr ⟨w.heap.size, 0, #[], rfl, Nat.le_refl _, (by show (w.heap.push (.cells #[] 5))[w.heap.size]? = _; simp), by simp, by simp, rfl, rfl⟩⟩ (some a) n c x rfl HN.out hx' (by intro h; cases h) (by simpa using hlen) (by simp) ?_)
  intro v2 w2 ho hb
  go_wp2_with fail
  go_ret
  exact ⟨v2, rfl, ho, ((Below.refl _ _).alloc (Nat.le_refl _) _).trans hb⟩

theorem own_mono {w : World} {B B' : Nat} {v : Value} {l : List UInt8} (h : Own B w v l) (hb : B' ≤ B) : Own B' w v l :=
  ⟨h.1, h.2.imp id fun ⟨g, cap, cur, h0, h1, h2⟩ => ⟨g, cap, cur, h0, Nat.le_trans hb h1, h2⟩⟩
/-- How Open ends. -/
def OpenEnd (w : World) (r : Option (List UInt8 × Nat)) (e : Ending) (w' : World) : Prop := match r with
  | none => e = .returned (.tuple #[.slice none 0 0, .int .i64 0, .iface 47 (.int .i64 9)]) ∧ Below w.heap.size w w'
  | some (x, k) => ∃ v', e = .returned (.tuple #[v', .int .i64 k, .nilIface]) ∧ Own w.heap.size w' v' x ∧ Below w.heap.size w w'
theorem bs_piece {w : World} {b o : Nat} {l : List UInt8} (hc : ∀ i (h : i < l.length), w.cell? ⟨b, o + i, none⟩ = some (.int .u8 l[i].toNat)) (k n : Nat) (h : k + n ≤ l.length) : BsAt w (some ⟨b, o + k, none⟩) ((l.drop k).take n) := by
  refine .inr ⟨b, o + k, rfl, fun i hi => ?_⟩
  have hi' : i < n := by simp at hi; omega
  rw [Nat.add_assoc, hc (k + i) (by omega)]
  simp
set_option maxRecDepth 100000 in
set_option maxHeartbeats 2000000 in
theorem open_any (w : World) (p : Option Addr) (c : Nat) (l : List UInt8) (hl : BsAt w p l) (hlen : l.length ≤ 140737488355328) (hcap : l.length ≤ c) (hcm : c ≤ maxLen) :
    Calls Tryz.prog 47 #[.slice p l.length c] w fun e w' => OpenEnd w (openB l) e w' := by
  have HF := first_any w p c l hl hlen
  obtain ⟨R, hR⟩ : ∃ R, R = openB l := ⟨_, rfl⟩
  rw [← hR]
  have HR := Lib.hid hR
  clear hR
  unfold maxLen at hcm
  cases hf : fstN l with
  | none =>
    rw [hf] at HF
    have hr0 : R = none := by rw [HR.out]; unfold openB; rw [hf]
    subst hr0
    clear HR hf
    go_enter Tryz.func47, Tryz.ntmps47
    go_wp2_with (go_at_call 69; refine HF.mono ?_; rintro e w' ⟨rfl, rfl⟩; simp only [fstV])
    exact bodyPost_ret (v := .tuple #[.slice none 0 0, .int .i64 0, .iface 47 (.int .i64 9)]) (by simp [results, Tryz.results47, go_sem]) rfl ⟨rfl, Below.refl _ _⟩
  | some pr =>
    obtain ⟨n, k⟩ := pr
    rw [hf] at HF
    obtain ⟨f1, f2, f3, f4, f5, f6⟩ := fstN_some hf
    by_cases hbad : n < 0 ∨ (l.length : Int) - k - 4 < n
    · have hr0 : R = none := by rw [HR.out]; unfold openB; rw [hf]; simp only; rw [if_pos hbad]
      subst hr0
      clear HR hf f1
      go_enter Tryz.func47, Tryz.ntmps47
      go_wp2_with (go_at_call 69; refine HF.mono ?_; rintro e w' ⟨rfl, rfl⟩; simp only [fstV])
      all_goals exact bodyPost_ret (v := .tuple #[.slice none 0 0, .int .i64 0, .iface 47 (.int .i64 9)]) (by simp [results, Tryz.results47, go_sem]) rfl ⟨rfl, Below.refl _ _⟩
    · have hn0 : ¬ n < 0 := by omega
      have hn4 : ¬ (l.length : Int) - k - 4 < n := by omega
      obtain ⟨m, rfl⟩ : ∃ m : Nat, n = (m : Int) := ⟨n.toNat, by omega⟩
      have hkm : k + m + 4 ≤ l.length := by omega
      obtain ⟨b, o, rfl, hc⟩ : ∃ b o, p = some ⟨b, o, none⟩ ∧ ∀ i (h : i < l.length), w.cell? ⟨b, o + i, none⟩ = some (.int .u8 l[i].toNat) := by
        rcases hl with rfl | h
        · simp at f5; omega
        · exact h
      have hP := bs_piece hc k m (by omega)
      have hS := bs_piece hc (k + m) 4 (by omega)
      have hr : R = if (l.drop (k + m)).take 4 = sumB ((l.drop k).take m) then some ((l.drop k).take m, k + m + 4) else none := by
        rw [HR.out]; unfold openB; rw [hf]; simp only; rw [if_neg hbad]; rfl
      have hPl : ((l.drop k).take m).length = m := by simp; omega
      have hSl : ((l.drop (k + m)).take 4).length = 4 := by simp; omega
      clear HR hf f1 hl hc hbad
      generalize (l.drop k).take m = x at *
      generalize (l.drop (k + m)).take 4 = y at *
      have HS : ∀ w', Below w.heap.size w w' → Calls Tryz.prog 41 #[.slice (some ⟨b, o + k, none⟩) m (c - k)] w' fun e w'' => ∃ A cap, e = .returned (.slice A 4 cap) ∧ BsAt w'' A (sumB x) ∧ Below w'.heap.size w' w'' := by
        intro w' hb
        have h := sum_any w' (some ⟨b, o + k, none⟩) (c - k) x (hP.keep hb) (by omega)
        rw [hPl] at h
        refine h.mono ?_
        rintro e w'' ⟨v, rfl, ho, hb2⟩
        obtain ⟨A, cap, rfl⟩ := own_slice ho
        exact ⟨A, cap, rfl, (own_bs ho rfl).1, hb2⟩
      have HE : ∀ w' A cap cp, Below w.heap.size w w' → BsAt w' A (sumB x) → Calls Tryz.prog 70 #[.slice (some ⟨b, o + (k + m), none⟩) 4 cp, .slice A 4 cap] w' fun e w'' => e = .returned (.bool (decide (y = sumB x))) ∧ w' = w'' :=
        fun w' A cap cp hb hA => equal_any w' _ A cp cap y (sumB x) (hS.keep hb) hA 4 4 hSl.symm rfl
      have HC : ∀ w' cp, Below w.heap.size w w' → Calls Tryz.prog 38 #[.slice (some ⟨b, o + k, none⟩) m cp] w' fun e w'' => ∃ v', e = .returned v' ∧ Own w'.heap.size w'' v' x ∧ Below w'.heap.size w' w'' :=
        fun w' cp hb => clone_any w' _ m cp x (hP.keep hb) hPl.symm (by omega)
      have hB0 := Lib.hid (Below.refl w.heap.size w)
      have hcne : ¬ c = k := by omega
      have hcne2 : ¬ c = k + m := by omega
      have hHR := Lib.hid hr
      have HS' := Lib.hid HS
      have HC' := Lib.hid HC
      have hkm' := Lib.hid hkm
      clear HS HC f2 f3
      clear hr hP hS hPl hSl
      cases ht : decide (y = sumB x) with
      | true =>
        rw [ht] at HE
        have HE' := Lib.hid HE
        have hyx := Lib.hid (of_decide_eq_true ht)
        clear HE ht
        go_enter Tryz.func47, Tryz.ntmps47
        go_wp2_with (go_at_call 69; refine HF.mono ?_; rintro e w' ⟨rfl, rfl⟩; simp only [fstV])
        go_region_with (first | (go_at_call 41; refine (HS'.out _ (by first | exact (Below.refl _ _).drew | exact Below.refl _ _)).mono ?_; rintro e w2 ⟨A2, cap2, rfl, hA2, hb2⟩) | (go_at_call 70; refine (HE'.out w2 A2 cap2 _ (by exact Below.trans ((Below.refl _ _).drew) hb2) hA2).mono ?_; rintro e w3 ⟨rfl, rfl⟩))
        all_goals
          have hbw : Below w.heap.size w w2 := Below.trans ((Below.refl _ _).drew) hb2
          have HCC := HC'.out w2 (c - k) hbw
          clear hA2 hb2
          go_wp2_with (go_at_call 38; refine HCC.mono ?_; rintro e w4 ⟨v4, rfl, ho4, hb4⟩)
          refine bodyPost_ret (v := .tuple #[v4, .int .i64 ((k + m + 4 : Nat) : Int), .nilIface]) (by simp [results, Tryz.results47, go_sem]) rfl ?_
          rw [hHR.out, if_pos hyx.out]
          exact ⟨v4, rfl, own_mono ho4 hbw.size, hbw.trans (hb4.mono hbw.size)⟩
      | false =>
        rw [ht] at HE
        have HE' := Lib.hid HE
        have hyx := Lib.hid (of_decide_eq_false ht)
        clear HE ht
        go_enter Tryz.func47, Tryz.ntmps47
        go_wp2_with (go_at_call 69; refine HF.mono ?_; rintro e w' ⟨rfl, rfl⟩; simp only [fstV])
        go_region_with (first | (go_at_call 41; refine (HS'.out _ (by first | exact (Below.refl _ _).drew | exact Below.refl _ _)).mono ?_; rintro e w2 ⟨A2, cap2, rfl, hA2, hb2⟩) | (go_at_call 70; refine (HE'.out w2 A2 cap2 _ (by exact Below.trans ((Below.refl _ _).drew) hb2) hA2).mono ?_; rintro e w3 ⟨rfl, rfl⟩))
        all_goals
          have hbw : Below w.heap.size w w2 := Below.trans ((Below.refl _ _).drew) hb2
          clear hA2 hb2
          go_wp2_with fail
          refine bodyPost_ret (v := .tuple #[.slice none 0 0, .int .i64 0, .iface 47 (.int .i64 9)]) (by simp [results, Tryz.results47, go_sem]) rfl ?_
          rw [hHR.out, if_neg hyx.out]
          exact ⟨rfl, hbw⟩
end Go.Proofs.YtcmnijpcinmbbaaGreatDoor
