/- The reader's other calls: ended, text, many, record, held. -/
import Derived.Test.YtiofpimchbhfcabFg
namespace Go.Proofs.Ytiofpimchbhfcab
open Go.RowKit

/-- What ended answers. -/
def endB (st : St) : Bool := match st with
  | some [] => true
  | _ => false
theorem ended_any (N R : Nat) (w : World) (st : St) (h : RdB N w R st) :
    Calls Try.prog 47 #[.pointer (some ⟨R, 0, none⟩)] w fun e w' => e = .returned (.bool (endB st)) ∧ w = w' := by
  cases st with
  | none =>
    have hb : Rb w R (.slice none 0 0) true := h
    have h0 := hb.c0
    have h1 := hb.c1
    clear h
    go_enter Try.func47, Try.ntmps47
    go_wp2_with fail
    go_ret
    exact ⟨rfl, rfl⟩
  | some l =>
    obtain ⟨p, c, hb, hl, hN, hlc, hcm, hlen⟩ := h
    have h0 := hb.c0
    have h1 := hb.c1
    clear hl hN
    cases l with
    | nil =>
      go_enter Try.func47, Try.ntmps47
      go_wp2_with fail
      go_ret
      exact ⟨rfl, rfl⟩
    | cons x l =>
      simp only [List.length_cons] at *
      go_enter Try.func47, Try.ntmps47
      go_wp2_with fail
      go_ret
      exact ⟨ret_bool (by simp only [endB]; first | rfl | (rw [decide_eq_false_iff_not]; omega) | (simp; omega)), rfl⟩

set_option maxRecDepth 100000 in
set_option maxHeartbeats 1000000 in
theorem rtext_any (N R : Nat) (w : World) (st : St) (h : RdB N w R st) (hNR : N ≤ R) :
    Calls Try.prog 50 #[.pointer (some ⟨R, 0, none⟩)] w fun e w' => e = .returned (.string (nT st).1) ∧ RdB N w' R (nT st).2 ∧ Fr [R] w w' := by
  have HI := rnum_any N R w st h hNR
  have hbd := nI_bd st
  rw [nT_steps]
  cases hq : (nI st).2 with
  | none =>
    have hn0 := nI_zero hq
    have e : nI st = (0, none) := Prod.ext hn0 hq
    rw [e] at HI ⊢
    clear hbd h hq hn0 e
    simp only
    have hcv : ∀ w' : World, (convert 35 9 (.slice none 0 0)).run Try.prog w' = .ok (.string ⟨#[]⟩) w' := fun w' => BsAt.convert (w := w') (p := none) (l := []) (.inl rfl) 0 0 rfl
    go_enter Try.func50, Try.ntmps50
    go_wp2_with (go_at_call 48; refine HI.mono ?_; rintro e w1 ⟨rfl, r1, f1⟩; have r1' : Rb w1 R (.slice none 0 0) true := r1; have g0 := r1'.c0; have gz := r1'.fz)
    go_ret
    exact ⟨rfl, r1'.set0 _, f1.setCell (by simp) _⟩
  | some r =>
    obtain ⟨n, hn⟩ : ∃ n, n = (nI st).1 := ⟨_, rfl⟩
    have e : nI st = (n, some r) := Prod.ext hn.symm hq
    rw [e] at HI hbd ⊢
    clear h hq hn e
    simp only at hbd ⊢
    by_cases hbad : n < 0 ∨ (r.length : Int) < n
    · rw [if_pos hbad]
      simp only
      go_enter Try.func50, Try.ntmps50
      go_wp2_with (go_at_call 48; refine HI.mono ?_; rintro e w1 ⟨rfl, r1, f1⟩; obtain ⟨p, c, hb, hl, hN, hlc, hcm, hlen⟩ := r1; have g0 := hb.c0; have HS := spoil_any N R w1 _ _ hb; refine Hid.out ?_)
      refine Lib.hid ?_
      by_cases hn0 : n < 0
      all_goals
        first
          | have hn1 : (r.length : Int) < n := by omega
          | skip
        go_wp2_with (go_at_call 49; refine HS.mono ?_; rintro e w2 ⟨rfl, r2, f2⟩)
        go_ret
        exact ⟨rfl, r2, f1.trans f2⟩
    · rw [if_neg hbad]
      simp only
      obtain ⟨m, rfl⟩ : ∃ m : Nat, n = (m : Int) := ⟨n.toNat, by omega⟩
      have hm : m ≤ r.length := by omega
      simp only [Int.toNat_natCast]
      clear hbad hbd
      go_enter Try.func50, Try.ntmps50
      go_wp2_with (go_at_call 48; refine HI.mono ?_; rintro e w1 ⟨rfl, r1, f1⟩; obtain ⟨p, c, hb, hl, hN, hlc, hcm, hlen⟩ := r1; have g0 := hb.c0; have gz := hb.fz; refine Hid.out ?_)
      refine Lib.hid ?_
      have hm' : ¬ (r.length : Int) < m := by omega
      have hmr : (m : Int) ≤ r.length := by omega
      have hdl : (r.drop m).length = r.length - m := List.length_drop
      have hpc : ∀ c', (convert 35 9 (.slice p m c')).run Try.prog w1 = .ok (.string ⟨(r.take m).toArray⟩) w1 := by
        intro c'
        refine BsAt.convert (p := p) (l := r.take m) ?_ m c' (by simp; omega)
        rcases hl with rfl | ⟨b, o, rfl, hc⟩
        · exact .inl (by simp)
        · exact .inr ⟨b, o, rfl, fun i hi => by have hi' : i < r.length := by simp at hi; omega
                                                rw [hc i hi']; simp⟩
      have HB := Lib.hid (fun (p' : Option Addr) (c' : Nat) (hp : (c' = 0 ∧ r.length = m ∧ p' = p) ∨ (c' = c - m ∧ r.length = m ∧ p' = p) ∨ (c' = c - m ∧ ∃ b o, p = some ⟨b, o, none⟩ ∧ p' = some ⟨b, o + m, none⟩)) => show RdB N (w1.setCell ⟨R, 0, none⟩ (.slice p' (r.length - m) c')) R (some (r.drop m)) from by
        have hst : ∀ (b' : Nat), b' < N → (w1.setCell ⟨R, 0, none⟩ (.slice p' (r.length - m) c')).heap[b']? = w1.heap[b']? := fun b' hb' => Below.heap_setCell _ _ _ _ (by simp; omega)
        refine ⟨p', c', by rw [hdl]; exact hb.set0 _, ?_, ?_, ?_, ?_, by omega⟩
        · rcases hp with ⟨-, hk, rfl⟩ | ⟨-, hk, rfl⟩ | ⟨-, b, o, rfl, rfl⟩
          · exact .inl (List.drop_of_length_le (by omega))
          · exact .inl (List.drop_of_length_le (by omega))
          · rcases hl with rfl | ⟨b2, o2, h2, hc⟩
            · exact .inl (by simp)
            · simp at h2
              obtain ⟨rfl, rfl⟩ := h2
              exact (bs_drop hc m hm).blocks (fun a ha hne => by simp at ha; subst ha; exact hst b (hN ⟨b, o, none⟩ rfl (by intro e; subst e; simp at hne)))
        · intro a ha hne
          have hne' : r ≠ [] := by intro e; subst e; simp at hne
          rcases hp with ⟨-, -, rfl⟩ | ⟨-, -, rfl⟩ | ⟨-, b, o, rfl, rfl⟩
          · exact hN a ha hne'
          · exact hN a ha hne'
          · simp at ha; subst ha; exact hN ⟨b, o, none⟩ rfl hne'
        · rcases hp with ⟨rfl, hk, -⟩ | ⟨rfl, -⟩ | ⟨rfl, -⟩ <;> omega
        · rcases hp with ⟨rfl, hk, -⟩ | ⟨rfl, -⟩ | ⟨rfl, -⟩ <;> omega)
      by_cases hp0 : r.length = 0
      · have hr0 : r = [] := List.eq_nil_of_length_eq_zero hp0
        subst hr0
        have hm0 : m = 0 := by simpa using hm
        subst hm0
        clear hl hb
        by_cases hc0 : c = 0
        · subst hc0
          have hr := HB.out p 0 (.inl ⟨rfl, rfl, rfl⟩)
          go_wp2_with fail
          go_ret
          exact ⟨rfl, hr, f1.setCell (by simp) _⟩
        · have hr := HB.out p c (.inr (.inl ⟨rfl, rfl, rfl⟩))
          go_wp2_with fail
          go_ret
          exact ⟨rfl, hr, f1.setCell (by simp) _⟩
      · obtain ⟨b, o, rfl, -⟩ := hl.lt (by intro h; subst h; simp at hp0)
        clear hl hb
        by_cases hck : c = m
        · subst hck
          go_wp2_with fail
          go_ret
          have hlk : r.length = c := by omega
          have hr := HB.out (some ⟨b, o, none⟩) 0 (.inl ⟨rfl, hlk, rfl⟩)
          rw [show r.length - c = 0 from by omega] at hr
          exact ⟨rfl, hr, f1.setCell (by simp) _⟩
        · go_wp2_with fail
          go_ret
          exact ⟨rfl, HB.out _ _ (by right; right; exact ⟨rfl, _, _, rfl, rfl⟩), f1.setCell (by simp) _⟩
end Go.Proofs.Ytiofpimchbhfcab
