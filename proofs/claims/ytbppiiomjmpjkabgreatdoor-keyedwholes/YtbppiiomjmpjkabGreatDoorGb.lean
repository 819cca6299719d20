/- The document's reader: bounded numbers, texts. -/
import Derived.Test.YtbppiiomjmpjkabGreatDoorGa
namespace Go.Proofs.YtbppiiomjmpjkabGreatDoor
open Go.RowKit

set_option maxRecDepth 100000 in
set_option maxHeartbeats 1000000 in
theorem dupto_any (N R : Nat) (w : World) (l : List UInt8) (st : St) (m : Int) (hm : 0 ≤ m) (h : DdB N w R l st) (hNR : N ≤ R) :
    Calls Tryz.prog 39 #[.pointer (some ⟨R, 0, none⟩), .int .i64 m] w fun e w' => e = .returned (.int .i64 (nU m st).1) ∧ DdB N w' R l (nU m st).2 ∧ Fr [R] w w' := by
  have HI := dnum_any N R w l st h hNR
  unfold nU
  cases hq : (nI st).2 with
  | none =>
    have hn0 := nI_zero hq
    have e : nI st = (0, none) := Prod.ext hn0 hq
    rw [e] at HI ⊢
    clear h hq hn0 e
    simp only
    have hm' : ¬ m < 0 := by omega
    go_enter Tryz.func39, Tryz.ntmps39
    go_wp2_with (go_at_call 41; refine HI.mono ?_; rintro e w1 ⟨rfl, r1, f1⟩)
    go_ret
    exact ⟨rfl, r1, f1⟩
  | some r =>
    obtain ⟨n, hn⟩ : ∃ n, n = (nI st).1 := ⟨_, rfl⟩
    have e : nI st = (n, some r) := Prod.ext hn.symm hq
    rw [e] at HI ⊢
    clear h hq hn e
    simp only
    by_cases hbad : n < 0 ∨ m < n
    · rw [if_pos hbad]
      simp only
      by_cases hn0 : n < 0
      all_goals
        first
          | have hn1 : m < n := by omega
          | skip
        go_enter Tryz.func39, Tryz.ntmps39
        go_wp2_with (go_at_call 41; refine HI.mono ?_; rintro e w1 ⟨rfl, r1, f1⟩; refine Hid.out ?_)
        refine Lib.hid ?_
        obtain ⟨p, c, a, bad, hd, hl, hN, hlc, hcm, hlen, hal, hst⟩ := r1
        have g2 := hd.c2
        have gf := hd.fz
        have HR := Lib.hid (show DdB N (w1.setCell ⟨R, 2, none⟩ (.bool true)) R l none from ⟨p, c, a, true, hd.set2 true, hl.blocks (fun x hx hne => Below.heap_setCell _ _ _ _ (by have := hN x hx hne; simp; omega)), hN, hlc, hcm, hlen, hal, .inl ⟨rfl, rfl⟩⟩)
        clear hl hN hst hd
        go_wp2_with fail
        go_ret
        exact ⟨rfl, HR.out, f1.setCell (by simp) _⟩
    · rw [if_neg hbad]
      simp only
      have hn0 : ¬ n < 0 := by omega
      have hn1 : ¬ m < n := by omega
      clear hbad
      go_enter Tryz.func39, Tryz.ntmps39
      go_wp2_with (go_at_call 41; refine HI.mono ?_; rintro e w1 ⟨rfl, r1, f1⟩)
      go_ret
      exact ⟨rfl, r1, f1⟩

set_option maxRecDepth 100000 in
set_option maxHeartbeats 1000000 in
theorem dtext_any (N R : Nat) (w : World) (l : List UInt8) (st : St) (m : Int) (hm : 0 ≤ m) (h : DdB N w R l st) (hNR : N ≤ R) :
    Calls Tryz.prog 40 #[.pointer (some ⟨R, 0, none⟩), .int .i64 m] w fun e w' => e = .returned (.string (nX m st).1) ∧ DdB N w' R l (nX m st).2 ∧ Fr [R] w w' := by
  have HI := dupto_any N R w l st m hm h hNR
  have hub := nU_bd m st hm
  unfold nX
  cases hq : (nU m st).2 with
  | none =>
    have hn0 := nU_zero hq
    have e : nU m st = (0, none) := Prod.ext hn0 hq
    rw [e] at HI ⊢
    clear h hq hn0 e hub
    simp only
    go_enter Tryz.func40, Tryz.ntmps40
    go_wp2_with (go_at_call 39; refine HI.mono ?_; rintro e w1 ⟨rfl, r1, f1⟩; refine Hid.out ?_)
    refine Lib.hid ?_
    obtain ⟨p, c, a, bad, hd, hl, hN, hlc, hcm, hlen, hal, hst⟩ := r1
    have hb : bad = true := by
      rcases hst with ⟨-, h⟩ | ⟨h, -⟩
      · exact h
      · cases h
    subst hb
    have g2 := hd.c2
    have hdq : ∀ n, Db (w1.drewN n) R (.slice p l.length c) (a : Nat) true := fun n => hd
    have hlq : ∀ n, BsAt (w1.drewN n) p l := fun n => hl
    have hfq : ∀ n, Fr [R] w (w1.drewN n) := fun n => f1.drewN n
    clear hst hl hd f1
    go_wp2_with fail
    go_quiet (fail)
    have hd3 := hdq nq
    have hl3 := hlq nq
    have hf3 := hfq nq
    clear hdq hlq hfq g2
    generalize w1.drewN nq = w3 at *
    have g2 := hd3.c2
    have gf := hd3.fz
    have HR := Lib.hid (show DdB N (w3.setCell ⟨R, 2, none⟩ (.bool true)) R l none from ⟨p, c, a, true, hd3.set2 true, hl3.blocks (fun x hx hne => Below.heap_setCell _ _ _ _ (by have := hN x hx hne; simp; omega)), hN, hlc, hcm, hlen, hal, .inl ⟨rfl, rfl⟩⟩)
    clear hl3
    go_wp2_with fail
    go_ret
    exact ⟨rfl, HR.out, hf3.setCell (by simp) _⟩
  | some r =>
    obtain ⟨n, hn⟩ : ∃ n, n = (nU m st).1 := ⟨_, rfl⟩
    have e : nU m st = (n, some r) := Prod.ext hn.symm hq
    rw [e] at HI hub ⊢
    clear h hq hn e
    simp only at hub ⊢
    obtain ⟨k, rfl⟩ : ∃ k : Nat, n = (k : Int) := ⟨n.toNat, by omega⟩
    simp only [Int.toNat_natCast]
    by_cases hbad : (r.length : Int) < (k : Int)
    · rw [if_pos hbad]
      simp only
      go_enter Tryz.func40, Tryz.ntmps40
      go_wp2_with (go_at_call 39; refine HI.mono ?_; rintro e w1 ⟨rfl, r1, f1⟩; refine Hid.out ?_)
      refine Lib.hid ?_
      obtain ⟨p, c, a, bad, hd, hl, hN, hlc, hcm, hlen, hal, hst⟩ := r1
      obtain ⟨hr, hb⟩ : r = l.drop a ∧ bad = false := by
        rcases hst with ⟨h, -⟩ | ⟨h, h'⟩
        · cases h
        · injection h with h; exact ⟨h, h'⟩
      subst hb
      have hrl : r.length = l.length - a := by rw [hr, List.length_drop]
      have hgt : (l.length : Int) - (a : Int) < (k : Int) := by omega
      clear hr
      have g0 := hd.c0
      have g1 := hd.c1
      have g2 := hd.c2
      have hdq : ∀ n, Db (w1.drewN n) R (.slice p l.length c) (a : Nat) false := fun n => hd
      have hlq : ∀ n, BsAt (w1.drewN n) p l := fun n => hl
      have hfq : ∀ n, Fr [R] w (w1.drewN n) := fun n => f1.drewN n
      clear hst hl hd f1 hrl
      go_wp2_with fail
      go_quiet (fail)
      have hd3 := hdq nq
      have hl3 := hlq nq
      have hf3 := hfq nq
      clear hdq hlq hfq g0 g1 g2
      generalize w1.drewN nq = w3 at *
      have g2 := hd3.c2
      have gf := hd3.fz
      have HR := Lib.hid (show DdB N (w3.setCell ⟨R, 2, none⟩ (.bool true)) R l none from ⟨p, c, a, true, hd3.set2 true, hl3.blocks (fun x hx hne => Below.heap_setCell _ _ _ _ (by have := hN x hx hne; simp; omega)), hN, hlc, hcm, hlen, hal, .inl ⟨rfl, rfl⟩⟩)
      clear hl3
      go_wp2_with fail
      go_ret
      exact ⟨rfl, HR.out, hf3.setCell (by simp) _⟩
    · rw [if_neg hbad]
      simp only
      obtain ⟨tx, htx⟩ : ∃ tx : ByteArray, tx = ⟨(r.take k).toArray⟩ := ⟨_, rfl⟩
      rw [← htx]
      have HTX := Lib.hid htx
      clear htx
      go_enter Tryz.func40, Tryz.ntmps40
      go_wp2_with (go_at_call 39; refine HI.mono ?_; rintro e w1 ⟨rfl, r1, f1⟩; refine Hid.out ?_)
      refine Lib.hid ?_
      obtain ⟨p, c, a, bad, hd, hl, hN, hlc, hcm, hlen, hal, hst⟩ := r1
      obtain ⟨hr, hb⟩ : r = l.drop a ∧ bad = false := by
        rcases hst with ⟨h, -⟩ | ⟨h, h'⟩
        · cases h
        · injection h with h; exact ⟨h, h'⟩
      subst hb
      have hrl : r.length = l.length - a := by rw [hr, List.length_drop]
      have hgt : ¬ (l.length : Int) - (a : Int) < (k : Int) := by omega
      have hka : a + k ≤ l.length := by omega
      have HRD := Lib.hid (show some (r.drop k) = some (l.drop (a + k)) from by rw [hr, List.drop_drop])
      have HRT := Lib.hid (show r.take k = (l.drop a).take k from by rw [hr])
      have g0 := hd.c0
      have g1 := hd.c1
      have g2 := hd.c2
      have hdq : ∀ n, Db (w1.drewN n) R (.slice p l.length c) (a : Nat) false := fun n => hd
      have hlq : ∀ n, BsAt (w1.drewN n) p l := fun n => hl
      have hfq : ∀ n, Fr [R] w (w1.drewN n) := fun n => f1.drewN n
      clear hst hl hd f1 hrl hr hbad
      go_wp2_with fail
      go_quiet (fail)
      have hd3 := hdq nq
      have hl3 := hlq nq
      have hf3 := hfq nq
      clear hdq hlq hfq g0 g1 g2
      generalize w1.drewN nq = w3 at *
      have g1 := hd3.c1
      have gf := hd3.fz
      have hd4 := hd3.set1 ((a : Int) + (k : Int))
      have hf4 : Fr [R] w (w3.setCell ⟨R, 1, none⟩ (.int .i64 ((a : Int) + (k : Int)))) := hf3.setCell (by simp) _
      have hl4 : BsAt (w3.setCell ⟨R, 1, none⟩ (.int .i64 ((a : Int) + (k : Int)))) p l := hl3.blocks (fun x hx hne => Below.heap_setCell _ _ _ _ (by have := hN x hx hne; simp; omega))
      have ha47 : (a : Int) ≤ 140737488355328 := by omega
      have hk47 : (k : Int) ≤ 140737488355328 := by omega
      go_wp2_with fail
      clear hd3 hf3 hl3 g1 gf
      generalize w3.setCell ⟨R, 1, none⟩ (.int .i64 ((a : Int) + (k : Int))) = w4 at *
      have hd4' : Db w4 R (.slice p l.length c) ((a + k : Nat) : Int) false := by simpa using hd4
      have HR := Lib.hid (show ∀ n, DdB N (w4.drewN n) R l (some (r.drop k)) from fun n => ⟨p, c, a + k, false, hd4', hl4, hN, hlc, hcm, hlen, hka, .inr ⟨HRD.out, rfl⟩⟩)
      have HF := Lib.hid (show ∀ n, Fr [R] w (w4.drewN n) from fun n => hf4.drewN n)
      have g0 := hd4.c0
      have g1 := hd4.c1
      have hi1 : (a : Int) + (k : Int) - (k : Int) = (a : Int) := by omega
      have hi2 : (a : Int) ≤ (a : Int) + (k : Int) := by omega
      have hi3 : (a : Int) + (k : Int) ≤ (c : Int) := by omega
      have hcv0 : ∀ n p' c', (convert 39 9 (.slice p' 0 c')).run Tryz.prog (w4.drewN n) = .ok (.string ⟨#[]⟩) (w4.drewN n) := fun n p' c' => BsAt.convert (w := w4.drewN n) (p := p') (l := []) (.inl rfl) 0 c' rfl
      by_cases hl0 : l = []
      · subst hl0
        simp only [List.length_nil] at *
        have ha0 : a = 0 := by omega
        have hk0 : k = 0 := by omega
        subst ha0 hk0
        have HT0 : Hid (tx = ⟨#[]⟩) := Lib.hid (by rw [HTX.out]; simp)
        by_cases hc0 : c = 0
        · subst hc0
          go_quiet (fail)
          have HR' := HR.out nq
          have HF' := HF.out nq
          go_wp2_with fail
          go_ret
          exact ⟨by rw [HT0.out]; rfl, HR', HF'⟩
        · go_quiet (fail)
          have HR' := HR.out nq
          have HF' := HF.out nq
          go_wp2_with fail
          go_ret
          exact ⟨by rw [HT0.out]; rfl, HR', HF'⟩
      · obtain ⟨b, o, rfl, hcc⟩ : ∃ b o, p = some ⟨b, o, none⟩ ∧ ∀ i (h : i < l.length), w4.cell? ⟨b, o + i, none⟩ = some (.int .u8 l[i].toNat) := by
          rcases hl4 with h | h
          · exact absurd h hl0
          · exact h
        by_cases hca : c = a
        · have hk0 : k = 0 := by omega
          subst hk0 hca
          have HT0 : Hid (tx = ⟨#[]⟩) := Lib.hid (by rw [HTX.out]; simp)
          go_quiet (fail)
          have HR' := HR.out nq
          have HF' := HF.out nq
          go_wp2_with fail
          go_ret
          exact ⟨by rw [HT0.out]; rfl, HR', HF'⟩
        · have hcv : ∀ n c', (convert 39 9 (.slice (some ⟨b, o + a, none⟩) k c')).run Tryz.prog (w4.drewN n) = .ok (.string tx) (w4.drewN n) := fun n c' => by
            have h1 : BsAt (w4.drewN n) (some ⟨b, o + a, none⟩) ((l.drop a).take k) := by
              refine .inr ⟨b, o + a, rfl, fun i hi => ?_⟩
              have hi' : i < k := by simp at hi; omega
              have h2 := hcc (a + i) (by omega)
              rw [Nat.add_assoc]
              rw [show ((l.drop a).take k)[i] = l[a + i]'(by omega) from by simp]
              exact h2
            have h3 := h1.convert k c' (by simp; omega)
            rw [HTX.out, HRT.out]
            exact h3
          clear hcc
          go_quiet (fail)
          have HR' := HR.out nq
          have HF' := HF.out nq
          go_wp2_with fail
          go_ret
          exact ⟨rfl, HR', HF'⟩
end Go.Proofs.YtbppiiomjmpjkabGreatDoor
