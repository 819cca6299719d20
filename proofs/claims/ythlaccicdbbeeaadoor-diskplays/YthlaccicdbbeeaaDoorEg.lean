/- What the document's disk does: Remove. -/
import Derived.Test.YthlaccicdbbeeaaDoorEf
namespace Go.Proofs.YthlaccicdbbeeaaDoor
open Go.RowKit
set_option linter.unusedVariables false
section
variable {w : World} {O : Nat → Prop} {Kb : Nat} {k : Kd}

set_option maxRecDepth 100000 in
set_option maxHeartbeats 4000000 in
theorem do_three (h : KAt w O Kb k) (hO : ∀ b, w.heap.size ≤ b → O b) (hOK : ∀ b, O b → b ≠ Kb) (x : Wk) (q : Option Addr) (qc : Nat) (hx : x.kind = 3) (hq : BsO w O q x.bytes) (hn : x.name.size ≤ maxLen) (ht : x.to.size ≤ maxLen) (hN : k.N.length ≤ 10000) (hT : k.T.length ≤ 10000) (hst : 0 ≤ k.st ∧ k.st < 1000000000) (hb : ¬ (0 ≤ k.sp ∧ k.sp ≤ k.st)) :
    Calls Tryd.prog 14 #[.pointer (some ⟨Kb, 0, none⟩), wkV x q qc] w (KEnd w O Kb (doP k x)) := by
  have hlt := h.lt
  obtain ⟨pN, cN, LN, pS, cS, LS, pT, cT, TT, h1, h2, h3, h4, h5, h6, h7, h8⟩ := h.at_
  obtain ⟨kind, name, to, bs, n⟩ := x
  simp only at hx
  subst hx
  unfold wkV
  simp only
  have hB0 : Below w.heap.size w (w.alloc (.cells #[.int .i64 3, .string name, .string to, .slice q bs.length qc, .int .i64 n] 35)) := (Below.refl _ _).alloc (Nat.le_refl _) _
  have f0 : Fr [Kb] w (w.alloc (.cells #[.int .i64 3, .string name, .string to, .slice q bs.length qc, .int .i64 n] 35)) := Fr.below hB0
  have hh1 : (w.alloc (.cells #[.int .i64 3, .string name, .string to, .slice q bs.length qc, .int .i64 n] 35)).heap[Kb]? = some (.cells #[.slice pN LN.length cN, .slice pS LS.length cS, .slice pT TT.length cT, .int .i64 k.st, .int .i64 k.sp] 30) := (hB0.block Kb hlt).trans h1
  have d0 : (w.alloc (.cells #[.int .i64 3, .string name, .string to, .slice q bs.length qc, .int .i64 n] 35)).cell? ⟨Kb, 0, none⟩ = some (.slice pN LN.length cN) := by simp [World.cell?, hh1]
  have d1 : (w.alloc (.cells #[.int .i64 3, .string name, .string to, .slice q bs.length qc, .int .i64 n] 35)).cell? ⟨Kb, 1, none⟩ = some (.slice pS LS.length cS) := by simp [World.cell?, hh1]
  have d2 : (w.alloc (.cells #[.int .i64 3, .string name, .string to, .slice q bs.length qc, .int .i64 n] 35)).cell? ⟨Kb, 2, none⟩ = some (.slice pT TT.length cT) := by simp [World.cell?, hh1]
  have d3 : (w.alloc (.cells #[.int .i64 3, .string name, .string to, .slice q bs.length qc, .int .i64 n] 35)).cell? ⟨Kb, 3, none⟩ = some (.int .i64 k.st) := by simp [World.cell?, hh1]
  have d4 : (w.alloc (.cells #[.int .i64 3, .string name, .string to, .slice q bs.length qc, .int .i64 n] 35)).cell? ⟨Kb, 4, none⟩ = some (.int .i64 k.sp) := by simp [World.cell?, hh1]
  have e0 : ∀ o, (w.alloc (.cells #[.int .i64 3, .string name, .string to, .slice q bs.length qc, .int .i64 n] 35)).frozen? ⟨Kb, o, none⟩ = false := fun o => by simp [World.frozen?, hh1]
  have c0 : w.cell? ⟨Kb, 0, none⟩ = some (.slice pN LN.length cN) := by simp [World.cell?, h1]
  have c1 : w.cell? ⟨Kb, 1, none⟩ = some (.slice pS LS.length cS) := by simp [World.cell?, h1]
  have c2 : w.cell? ⟨Kb, 2, none⟩ = some (.slice pT TT.length cT) := by simp [World.cell?, h1]
  have c3 : w.cell? ⟨Kb, 3, none⟩ = some (.int .i64 k.st) := by simp [World.cell?, h1]
  have c4 : w.cell? ⟨Kb, 4, none⟩ = some (.int .i64 k.sp) := by simp [World.cell?, h1]
  have g0 : ∀ o, w.frozen? ⟨Kb, o, none⟩ = false := fun o => by simp [World.frozen?, h1]
  have hne : Kb ≠ w.heap.size := by omega
  have FR := Lib.hid (Fr.refl [Kb] w)
  generalize hR : KEnd w O Kb (doP k ⟨3, name, to, bs, n⟩) = R
  have HR := Lib.hid hR
  clear hR
  simp only at hq hn ht
  have hdk := doP_k k ⟨3, name, to, bs, n⟩ (show (3 : Int) ≠ 5 by decide) (show (3 : Int) ≠ 6 by decide)
  rw [if_neg hb] at hdk
  have HD := Lib.hid hdk
  clear hdk
  have HN := fun w' => named_any name w' hn
  have HM := fun w' => named_any to w' ht
  have hlN : LN.length ≤ 100000 := by rw [← List.length_map (f := En.pr), h3]; omega
  have hsp : (decide (0 ≤ k.sp) = false ∧ ¬ 0 ≤ k.sp) ∨ (decide (0 ≤ k.sp) = true ∧ decide (k.sp ≤ k.st) = false ∧ 0 ≤ k.sp ∧ ¬ k.sp ≤ k.st) := by
    by_cases h0 : 0 ≤ k.sp
    · exact .inr ⟨by simpa using h0, by simp; omega, h0, by omega⟩
    · exact .inl ⟨by simpa using h0, h0⟩
  obtain ⟨hst1, hst2⟩ := hst
  clear hb
  rcases hsp with ⟨s1, s2⟩ | ⟨s1, s2, s3, s4⟩
  · cases hnm : isNm name with
    | false =>
      rw [hnm] at HN
      go_enter Tryd.func14, Tryd.ntmps14
      go_wp2
      go_quiet (fail)
      have f1 : Fr [Kb] w ((w.alloc (.cells #[.int .i64 3, .string name, .string to, .slice q bs.length qc, .int .i64 n] 35)).drewN nq) := f0.drewN nq
      have hK1 : ((w.alloc (.cells #[.int .i64 3, .string name, .string to, .slice q bs.length qc, .int .i64 n] 35)).drewN nq).heap[Kb]? = some (.cells #[.slice pN LN.length cN, .slice pS LS.length cS, .slice pT TT.length cT, .int .i64 k.st, .int .i64 k.sp] 30) := hh1
      have bx1 : ((w.alloc (.cells #[.int .i64 3, .string name, .string to, .slice q bs.length qc, .int .i64 n] 35)).drewN nq).heap[w.heap.size]? = some (.cells #[.int .i64 3, .string name, .string to, .slice q bs.length qc, .int .i64 n] 35) := by
        show (w.heap.push _)[w.heap.size]? = _
        simp
      have hz1 : w.heap.size + 1 ≤ ((w.alloc (.cells #[.int .i64 3, .string name, .string to, .slice q bs.length qc, .int .i64 n] 35)).drewN nq).heap.size := by
        show _ ≤ (w.heap.push _).size
        simp
      clear hB0 f0 hh1 d0 d1 d2 d3 d4 e0 c0 c1 c2 c3 c4 g0
      generalize (w.alloc (.cells #[.int .i64 3, .string name, .string to, .slice q bs.length qc, .int .i64 n] 35)).drewN nq = W1 at *
      have d0 : W1.cell? ⟨Kb, 0, none⟩ = some (.slice pN LN.length cN) := by simp [World.cell?, hK1]
      have d3 : W1.cell? ⟨Kb, 3, none⟩ = some (.int .i64 k.st) := by simp [World.cell?, hK1]
      have e0 : ∀ o, W1.frozen? ⟨Kb, o, none⟩ = false := fun o => by simp [World.frozen?, hK1]
      have b0 : W1.cell? ⟨w.heap.size, 0, none⟩ = some (.int .i64 3) := by simp [World.cell?, bx1]
      have b1 : W1.cell? ⟨w.heap.size, 1, none⟩ = some (.string name) := by simp [World.cell?, bx1]
      have b2 : W1.cell? ⟨w.heap.size, 2, none⟩ = some (.string to) := by simp [World.cell?, bx1]
      have b3 : W1.cell? ⟨w.heap.size, 3, none⟩ = some (.slice q bs.length qc) := by simp [World.cell?, bx1]
      have b4 : W1.cell? ⟨w.heap.size, 4, none⟩ = some (.int .i64 n) := by simp [World.cell?, bx1]
      go_wp2_with (go_at_call 37; refine (HN _).mono ?_; rintro e w' ⟨rfl, rfl⟩; refine Hid.out ?_)
      refine Lib.hid ?_
      go_wp2
      rw [← HR.out, HD.out]
      rw [if_pos (by simp [hnm])]
      exact ⟨rfl, kat_of (cN := cN) (cS := cS) (cT := cT) hOK (f1) hK1 h2 h3 h4 h5 h6 h7 h8, f1⟩
    | true =>
      rw [hnm] at HN
      by_cases hf : findP name 0 k.N < 0
      · go_enter Tryd.func14, Tryd.ntmps14
        go_wp2
        go_quiet (fail)
        have f1 : Fr [Kb] w ((w.alloc (.cells #[.int .i64 3, .string name, .string to, .slice q bs.length qc, .int .i64 n] 35)).drewN nq) := f0.drewN nq
        have hK1 : ((w.alloc (.cells #[.int .i64 3, .string name, .string to, .slice q bs.length qc, .int .i64 n] 35)).drewN nq).heap[Kb]? = some (.cells #[.slice pN LN.length cN, .slice pS LS.length cS, .slice pT TT.length cT, .int .i64 k.st, .int .i64 k.sp] 30) := hh1
        have bx1 : ((w.alloc (.cells #[.int .i64 3, .string name, .string to, .slice q bs.length qc, .int .i64 n] 35)).drewN nq).heap[w.heap.size]? = some (.cells #[.int .i64 3, .string name, .string to, .slice q bs.length qc, .int .i64 n] 35) := by
          show (w.heap.push _)[w.heap.size]? = _
          simp
        have hz1 : w.heap.size + 1 ≤ ((w.alloc (.cells #[.int .i64 3, .string name, .string to, .slice q bs.length qc, .int .i64 n] 35)).drewN nq).heap.size := by
          show _ ≤ (w.heap.push _).size
          simp
        clear hB0 f0 hh1 d0 d1 d2 d3 d4 e0 c0 c1 c2 c3 c4 g0
        generalize (w.alloc (.cells #[.int .i64 3, .string name, .string to, .slice q bs.length qc, .int .i64 n] 35)).drewN nq = W1 at *
        have d0 : W1.cell? ⟨Kb, 0, none⟩ = some (.slice pN LN.length cN) := by simp [World.cell?, hK1]
        have d3 : W1.cell? ⟨Kb, 3, none⟩ = some (.int .i64 k.st) := by simp [World.cell?, hK1]
        have e0 : ∀ o, W1.frozen? ⟨Kb, o, none⟩ = false := fun o => by simp [World.frozen?, hK1]
        have b0 : W1.cell? ⟨w.heap.size, 0, none⟩ = some (.int .i64 3) := by simp [World.cell?, bx1]
        have b1 : W1.cell? ⟨w.heap.size, 1, none⟩ = some (.string name) := by simp [World.cell?, bx1]
        have b2 : W1.cell? ⟨w.heap.size, 2, none⟩ = some (.string to) := by simp [World.cell?, bx1]
        have b3 : W1.cell? ⟨w.heap.size, 3, none⟩ = some (.slice q bs.length qc) := by simp [World.cell?, bx1]
        have b4 : W1.cell? ⟨w.heap.size, 4, none⟩ = some (.int .i64 n) := by simp [World.cell?, bx1]
        have HFq : Hid (∀ j, Calls Tryd.prog 38 #[.slice pN LN.length cN, .string name] (W1.drewN j) fun e w' => e = .returned (.int .i64 (findP name 0 k.N)) ∧ ∃ m, w' = (W1.drewN j).drewN m) := fun j => (find_any (W1.drewN j) O pN cN LN ((h2.keep (fun b hl ho => f1.block b hl (by simp; exact hOK b ho)) (fun _ _ h => h)).below ⟨rfl, rfl, rfl, Nat.le_refl _, fun _ _ => rfl⟩) (by omega) LN.length rfl name).mono (fun e w' ⟨h1, h2⟩ => ⟨by rw [← h3]; exact h1, 0, h2.symm⟩)
        go_wp2_with (go_at_call 37; refine (HN _).mono ?_; rintro e w' ⟨rfl, rfl⟩; refine Hid.out ?_)
        refine Lib.hid ?_
        go_wp2
        go_quiet ((go_at_call 38; exact Calls.quiet_of (HFq.out _)))
        go_wp2
        rw [← HR.out, HD.out]
        rw [if_neg (by simp [hnm]), if_neg (by simp), if_pos (by simp; omega)]
        exact ⟨rfl, kat_of (cN := cN) (cS := cS) (cT := cT) hOK (f1.drewN nq) hK1 h2 h3 h4 h5 h6 h7 h8, f1.drewN nq⟩
      · go_enter Tryd.func14, Tryd.ntmps14
        go_wp2
        go_quiet (fail)
        have f1 : Fr [Kb] w ((w.alloc (.cells #[.int .i64 3, .string name, .string to, .slice q bs.length qc, .int .i64 n] 35)).drewN nq) := f0.drewN nq
        have hK1 : ((w.alloc (.cells #[.int .i64 3, .string name, .string to, .slice q bs.length qc, .int .i64 n] 35)).drewN nq).heap[Kb]? = some (.cells #[.slice pN LN.length cN, .slice pS LS.length cS, .slice pT TT.length cT, .int .i64 k.st, .int .i64 k.sp] 30) := hh1
        have bx1 : ((w.alloc (.cells #[.int .i64 3, .string name, .string to, .slice q bs.length qc, .int .i64 n] 35)).drewN nq).heap[w.heap.size]? = some (.cells #[.int .i64 3, .string name, .string to, .slice q bs.length qc, .int .i64 n] 35) := by
          show (w.heap.push _)[w.heap.size]? = _
          simp
        have hz1 : w.heap.size + 1 ≤ ((w.alloc (.cells #[.int .i64 3, .string name, .string to, .slice q bs.length qc, .int .i64 n] 35)).drewN nq).heap.size := by
          show _ ≤ (w.heap.push _).size
          simp
        clear hB0 f0 hh1 d0 d1 d2 d3 d4 e0 c0 c1 c2 c3 c4 g0
        generalize (w.alloc (.cells #[.int .i64 3, .string name, .string to, .slice q bs.length qc, .int .i64 n] 35)).drewN nq = W1 at *
        have d0 : W1.cell? ⟨Kb, 0, none⟩ = some (.slice pN LN.length cN) := by simp [World.cell?, hK1]
        have d3 : W1.cell? ⟨Kb, 3, none⟩ = some (.int .i64 k.st) := by simp [World.cell?, hK1]
        have e0 : ∀ o, W1.frozen? ⟨Kb, o, none⟩ = false := fun o => by simp [World.frozen?, hK1]
        have b0 : W1.cell? ⟨w.heap.size, 0, none⟩ = some (.int .i64 3) := by simp [World.cell?, bx1]
        have b1 : W1.cell? ⟨w.heap.size, 1, none⟩ = some (.string name) := by simp [World.cell?, bx1]
        have b2 : W1.cell? ⟨w.heap.size, 2, none⟩ = some (.string to) := by simp [World.cell?, bx1]
        have b3 : W1.cell? ⟨w.heap.size, 3, none⟩ = some (.slice q bs.length qc) := by simp [World.cell?, bx1]
        have b4 : W1.cell? ⟨w.heap.size, 4, none⟩ = some (.int .i64 n) := by simp [World.cell?, bx1]
        have HFq : Hid (∀ j, Calls Tryd.prog 38 #[.slice pN LN.length cN, .string name] (W1.drewN j) fun e w' => e = .returned (.int .i64 (findP name 0 k.N)) ∧ ∃ m, w' = (W1.drewN j).drewN m) := fun j => (find_any (W1.drewN j) O pN cN LN ((h2.keep (fun b hl ho => f1.block b hl (by simp; exact hOK b ho)) (fun _ _ h => h)).below ⟨rfl, rfl, rfl, Nat.le_refl _, fun _ _ => rfl⟩) (by omega) LN.length rfl name).mono (fun e w' ⟨h1, h2⟩ => ⟨by rw [← h3]; exact h1, 0, h2.symm⟩)
        go_wp2_with (go_at_call 37; refine (HN _).mono ?_; rintro e w' ⟨rfl, rfl⟩; refine Hid.out ?_)
        refine Lib.hid ?_
        go_wp2
        go_quiet ((go_at_call 38; exact Calls.quiet_of (HFq.out _)))
        go_wp2
        have f2 : Fr [Kb] w ((W1.drewN nq).setCell ⟨Kb, 3, none⟩ (.int .i64 (k.st + 1))) := (f1.drewN nq).setCell (.inl (by simp)) _
        have hK2 : ((W1.drewN nq).setCell ⟨Kb, 3, none⟩ (.int .i64 (k.st + 1))).heap[Kb]? = some (.cells #[.slice pN LN.length cN, .slice pS LS.length cS, .slice pT TT.length cT, .int .i64 (k.st + 1), .int .i64 k.sp] 30) := by
          have hh2 : (W1.drewN nq).heap[Kb]? = some (.cells #[.slice pN LN.length cN, .slice pS LS.length cS, .slice pT TT.length cT, .int .i64 k.st, .int .i64 k.sp] 30) := hK1
          generalize (W1.drewN nq) = W9 at hh2 ⊢
          simp [World.setCell, Array.getElem?_modify, hh2]
        have bx : ((W1.drewN nq).setCell ⟨Kb, 3, none⟩ (.int .i64 (k.st + 1))).heap[w.heap.size]? = some (.cells #[.int .i64 3, .string name, .string to, .slice q bs.length qc, .int .i64 n] 35) := by
          rw [Below.heap_setCell _ _ _ _ (Ne.symm hne)]
          exact bx1
        have hz2 : w.heap.size + 1 ≤ ((W1.drewN nq).setCell ⟨Kb, 3, none⟩ (.int .i64 (k.st + 1))).heap.size := by
          have : ((W1.drewN nq).setCell ⟨Kb, 3, none⟩ (.int .i64 (k.st + 1))).heap.size = W1.heap.size := by
            show (World.setCell _ _ _).heap.size = _
            first
              | (simp; done)
              | (simp [World.drewN]; done)
          omega
        clear d0 d3 e0 b0 b1 b2 b3 b4
        generalize (W1.drewN nq).setCell ⟨Kb, 3, none⟩ (.int .i64 (k.st + 1)) = W2 at *
        have kb2 : ∀ b, b < w.heap.size → O b → W2.heap[b]? = w.heap[b]? := fun b hl ho => f2.block b hl (by simp; exact hOK b ho)
        have hN2 := h2.keep kb2 (fun _ _ h => h)
        have hS2 := h4.keep kb2 (fun _ _ h => h)
        have hT2 := h6.keep kb2 (fun _ _ h => h)
        have hq2 := hq.keep kb2 (fun _ _ h => h)
        have hO2 : ∀ b, W2.heap.size ≤ b → O b := fun b hb' => hO b (by omega)
        have hlN : LN.length ≤ 100000 := by rw [← List.length_map (f := En.pr), h3]; omega
        have hlT : TT.length ≤ 100000 := by rw [← List.length_map (f := Wn.k), h7]; omega
        have HDO : Hid (Calls Tryd.prog 36 #[.slice pN LN.length cN, wkV ⟨3, name, to, bs, n⟩ q qc] (W2.drewN 1) (DoEnd (W2.drewN 1) O LN ⟨3, name, to, bs, n⟩)) := doing_any (W2.drewN 1) O hO2 pN cN LN (hN2.below ⟨rfl, rfl, rfl, Nat.le_refl _, fun _ _ => rfl⟩) hlN LN.length rfl ⟨3, name, to, bs, n⟩ q qc (hq2.below ⟨rfl, rfl, rfl, Nat.le_refl _, fun _ _ => rfl⟩)
        unfold wkV at HDO
        simp only at HDO
        have k0 : W2.cell? ⟨Kb, 0, none⟩ = some (.slice pN LN.length cN) := by simp [World.cell?, hK2]
        have b0 : W2.cell? ⟨w.heap.size, 0, none⟩ = some (.int .i64 3) := by simp [World.cell?, bx]
        have b1 : W2.cell? ⟨w.heap.size, 1, none⟩ = some (.string name) := by simp [World.cell?, bx]
        have b2 : W2.cell? ⟨w.heap.size, 2, none⟩ = some (.string to) := by simp [World.cell?, bx]
        have b3 : W2.cell? ⟨w.heap.size, 3, none⟩ = some (.slice q bs.length qc) := by simp [World.cell?, bx]
        have b4 : W2.cell? ⟨w.heap.size, 4, none⟩ = some (.int .i64 n) := by simp [World.cell?, bx]
        have hKl : Kb < W2.heap.size := by omega
        have KF : Hid (∀ w5 : World, Below W2.heap.size (W2.drewN 1) w5 → w5.heap[Kb]? = some (.cells #[.slice pN LN.length cN, .slice pS LS.length cS, .slice pT TT.length cT, .int .i64 (k.st + 1), .int .i64 k.sp] 30)) := fun w5 hb5 => (hb5.block Kb hKl).trans hK2
        go_region_with (go_at_call 36; refine HDO.out.mono ?_; rintro e w5 ⟨A5, c5, L5, rfl, g1, g2, g3, g4⟩; have hK5 := KF.out w5 g4; have kk0 : w5.cell? ⟨Kb, 0, none⟩ = some (.slice pN LN.length cN) := (by simp [World.cell?, hK5]); have kf0 : w5.frozen? ⟨Kb, 0, none⟩ = false := (by simp [World.frozen?, hK5]))
        all_goals
          have f5 : Fr [Kb] w w5 := f2.trans (Fr.trans (Fr.below (b := W2.drewN 1) ⟨rfl, rfl, rfl, Nat.le_refl _, fun _ _ => rfl⟩) (Fr.below g4))
          have f6 : Fr [Kb] w (w5.setCell ⟨Kb, 0, none⟩ (.slice A5 L5.length c5)) := f5.setCell (.inl (by simp)) _
          have hK6 : (w5.setCell ⟨Kb, 0, none⟩ (.slice A5 L5.length c5)).heap[Kb]? = some (.cells #[.slice A5 L5.length c5, .slice pS LS.length cS, .slice pT TT.length cT, .int .i64 (k.st + 1), .int .i64 k.sp] 30) := by simp [World.setCell, Array.getElem?_modify, hK5]
          have bx6 : (w5.setCell ⟨Kb, 0, none⟩ (.slice A5 L5.length c5)).heap[w.heap.size]? = some (.cells #[.int .i64 3, .string name, .string to, .slice q bs.length qc, .int .i64 n] 35) := by
            rw [Below.heap_setCell _ _ _ _ (Ne.symm hne), g4.block w.heap.size (show w.heap.size < W2.heap.size by omega)]; exact bx
          have hN6 : FlAt (w5.setCell ⟨Kb, 0, none⟩ (.slice A5 L5.length c5)) O A5 L5 := g1.keep (fun b hl ho => Below.heap_setCell _ _ _ _ (hOK b ho)) (fun _ _ h => h)
          have hz6 : w.heap.size + 1 ≤ (w5.setCell ⟨Kb, 0, none⟩ (.slice A5 L5.length c5)).heap.size := by have := g4.size; simp; show _ ≤ _; exact Nat.le_trans hz2 this
          clear kk0 kf0 hK5 g1 g4 f5 k0 b0 b1 b2 b3 b4 bx hK2
          generalize w5.setCell ⟨Kb, 0, none⟩ (.slice A5 L5.length c5) = w6 at *
          have kb6 : ∀ b, b < w.heap.size → O b → w6.heap[b]? = w.heap[b]? := fun b hl ho => f6.block b hl (by simp; exact hOK b ho)
          have hS6 := h4.keep kb6 (fun _ _ h => h)
          have hT6 := h6.keep kb6 (fun _ _ h => h)
          have hq6 := hq.keep kb6 (fun _ _ h => h)
          have k2 : w6.cell? ⟨Kb, 2, none⟩ = some (.slice pT TT.length cT) := by simp [World.cell?, hK6]
          go_wp2_with (at_builtin; refine append_wns rfl _ _ rfl w6.heap.size _ [] rfl (World.ownsRow_nil _ _ _ _) pT TT.length cT TT rfl rfl (wl_cells hT6) h8.2 (by simp; omega) (Nat.le_refl _) ?_)
          intro v7 w7 own7 hb7
          obtain ⟨A7, c7, hv7⟩ := own_form2 own7
          subst hv7
          have hK7 := (hb7.block Kb (by omega)).trans hK6
          have bx7 := (hb7.block w.heap.size (by omega)).trans bx6
          have f7 : Fr [Kb] w w7 := f6.trans (Fr.below hb7)
          have hz7 := hb7.size
          have hN7 := hN6.below hb7
          have b70 : w7.cell? ⟨w.heap.size, 0, none⟩ = some (.int .i64 3) := by simp [World.cell?, bx7]
          have b71 : w7.cell? ⟨w.heap.size, 1, none⟩ = some (.string name) := by simp [World.cell?, bx7]
          have b72 : w7.cell? ⟨w.heap.size, 2, none⟩ = some (.string to) := by simp [World.cell?, bx7]
          have b73 : w7.cell? ⟨w.heap.size, 3, none⟩ = some (.slice q bs.length qc) := by simp [World.cell?, bx7]
          have b74 : w7.cell? ⟨w.heap.size, 4, none⟩ = some (.int .i64 n) := by simp [World.cell?, bx7]
          have hone := one_wn w7 (⟨⟨3, name, to, bs, n⟩, q, qc⟩ : Wn)
          simp only at hone
          have HO1 := Lib.hid hone
          clear hone
          go_wp2_with (at_builtin; refine append_wns rfl _ _ rfl w6.heap.size _ TT rfl (own7.alloc _) _ 1 1 [(⟨⟨3, name, to, bs, n⟩, q, qc⟩ : Wn)] rfl rfl HO1.out (by intro h; cases h) (by simp; omega) (by simp; omega) ?_)
          intro v9 w9 own9 hb9
          have hb9' : Below w6.heap.size w7 w9 := ((Below.refl _ w7).alloc (by omega) _).trans hb9
          have hK9 := (hb9'.block Kb (by omega)).trans hK7
          have f9 : Fr [Kb] w w9 := ⟨hb9'.os.trans f7.os, hb9'.tape.trans f7.tape, hb9'.output.trans f7.output, Nat.le_trans f7.size hb9'.size, fun b hl hx => (hb9'.block b (by omega)).trans (f7.block b hl hx)⟩
          have kb9 : ∀ b, b < w.heap.size → O b → w9.heap[b]? = w.heap[b]? := fun b hl ho => f9.block b hl (by simp; exact hOK b ho)
          obtain ⟨A9, c9, hv9, hW9, hc9⟩ := wl_own (base := w6.heap.size) (O := O) (T := TT ++ [(⟨⟨3, name, to, bs, n⟩, q, qc⟩ : Wn)]) (by simpa using own9) (fun b hb' => hO b (by omega)) (fun y hy => by
            rcases List.mem_append.1 hy with hy | hy
            · exact (wl_bs h6 y hy).keep kb9 (fun _ _ h => h)
            · rw [List.mem_singleton] at hy; subst hy; exact BsO.keep hq kb9 (fun _ _ h => h))
          subst hv9
          have hN9 : FlAt w9 O A5 L5 := hN6.keep (fun b hl ho => (hb9'.block b hl).trans (hb7.block b hl)) (fun _ _ h => h)
          have hS9 := h4.keep kb9 (fun _ _ h => h)
          have k92 : w9.cell? ⟨Kb, 2, none⟩ = some (.slice pT TT.length cT) := by simp [World.cell?, hK9]
          have kf92 : w9.frozen? ⟨Kb, 2, none⟩ = false := by simp [World.frozen?, hK9]
          have hfin : KEnd w O Kb (0, ⟨doingP k.N ⟨3, name, to, bs, n⟩, k.S, k.T ++ [⟨3, name, to, bs, n⟩], k.st + 1, k.sp⟩) (.returned (.int .i64 0)) (w9.setCell ⟨Kb, 2, none⟩ (.slice A9 (TT ++ [(⟨⟨3, name, to, bs, n⟩, q, qc⟩ : Wn)]).length c9)) := by
            have hset : ∀ b, b < w9.heap.size → O b → (w9.setCell ⟨Kb, 2, none⟩ (.slice A9 (TT ++ [(⟨⟨3, name, to, bs, n⟩, q, qc⟩ : Wn)]).length c9)).heap[b]? = w9.heap[b]? := fun b hl ho => Below.heap_setCell _ _ _ _ (hOK b ho)
            refine ⟨rfl, ⟨A5, c5, L5, pS, cS, LS, A9, c9, TT ++ [(⟨⟨3, name, to, bs, n⟩, q, qc⟩ : Wn)], ?_, hN9.keep hset (fun _ _ h => h), by rw [g2, h3], hS9.keep hset (fun _ _ h => h), h5, hW9.keep hset (fun _ _ h => h), by simp [h7], hc9⟩, f9.setCell (.inl (by simp)) _⟩
            simp [World.setCell, Array.getElem?_modify, hK9]
          clear hK9 hb9 hb9' own9 own7 hb7 hK7 hK6 bx7 bx6 f9 f7 f6 hW9 hN9 hS9 hN7 hN6 hS6 hT6 hq6
          go_wp2
          rw [← HR.out, HD.out]
          rw [if_neg (by simp [hnm]), if_neg (by simp), if_neg (by simp; omega), if_neg (by simp)]
          simpa using hfin
  · cases hnm : isNm name with
    | false =>
      rw [hnm] at HN
      go_enter Tryd.func14, Tryd.ntmps14
      go_wp2
      go_quiet (fail)
      have f1 : Fr [Kb] w ((w.alloc (.cells #[.int .i64 3, .string name, .string to, .slice q bs.length qc, .int .i64 n] 35)).drewN nq) := f0.drewN nq
      have hK1 : ((w.alloc (.cells #[.int .i64 3, .string name, .string to, .slice q bs.length qc, .int .i64 n] 35)).drewN nq).heap[Kb]? = some (.cells #[.slice pN LN.length cN, .slice pS LS.length cS, .slice pT TT.length cT, .int .i64 k.st, .int .i64 k.sp] 30) := hh1
      have bx1 : ((w.alloc (.cells #[.int .i64 3, .string name, .string to, .slice q bs.length qc, .int .i64 n] 35)).drewN nq).heap[w.heap.size]? = some (.cells #[.int .i64 3, .string name, .string to, .slice q bs.length qc, .int .i64 n] 35) := by
        show (w.heap.push _)[w.heap.size]? = _
        simp
      have hz1 : w.heap.size + 1 ≤ ((w.alloc (.cells #[.int .i64 3, .string name, .string to, .slice q bs.length qc, .int .i64 n] 35)).drewN nq).heap.size := by
        show _ ≤ (w.heap.push _).size
        simp
      clear hB0 f0 hh1 d0 d1 d2 d3 d4 e0 c0 c1 c2 c3 c4 g0
      generalize (w.alloc (.cells #[.int .i64 3, .string name, .string to, .slice q bs.length qc, .int .i64 n] 35)).drewN nq = W1 at *
      have d0 : W1.cell? ⟨Kb, 0, none⟩ = some (.slice pN LN.length cN) := by simp [World.cell?, hK1]
      have d3 : W1.cell? ⟨Kb, 3, none⟩ = some (.int .i64 k.st) := by simp [World.cell?, hK1]
      have e0 : ∀ o, W1.frozen? ⟨Kb, o, none⟩ = false := fun o => by simp [World.frozen?, hK1]
      have b0 : W1.cell? ⟨w.heap.size, 0, none⟩ = some (.int .i64 3) := by simp [World.cell?, bx1]
      have b1 : W1.cell? ⟨w.heap.size, 1, none⟩ = some (.string name) := by simp [World.cell?, bx1]
      have b2 : W1.cell? ⟨w.heap.size, 2, none⟩ = some (.string to) := by simp [World.cell?, bx1]
      have b3 : W1.cell? ⟨w.heap.size, 3, none⟩ = some (.slice q bs.length qc) := by simp [World.cell?, bx1]
      have b4 : W1.cell? ⟨w.heap.size, 4, none⟩ = some (.int .i64 n) := by simp [World.cell?, bx1]
      go_wp2_with (go_at_call 37; refine (HN _).mono ?_; rintro e w' ⟨rfl, rfl⟩; refine Hid.out ?_)
      refine Lib.hid ?_
      go_wp2
      rw [← HR.out, HD.out]
      rw [if_pos (by simp [hnm])]
      exact ⟨rfl, kat_of (cN := cN) (cS := cS) (cT := cT) hOK (f1) hK1 h2 h3 h4 h5 h6 h7 h8, f1⟩
    | true =>
      rw [hnm] at HN
      by_cases hf : findP name 0 k.N < 0
      · go_enter Tryd.func14, Tryd.ntmps14
        go_wp2
        go_quiet (fail)
        have f1 : Fr [Kb] w ((w.alloc (.cells #[.int .i64 3, .string name, .string to, .slice q bs.length qc, .int .i64 n] 35)).drewN nq) := f0.drewN nq
        have hK1 : ((w.alloc (.cells #[.int .i64 3, .string name, .string to, .slice q bs.length qc, .int .i64 n] 35)).drewN nq).heap[Kb]? = some (.cells #[.slice pN LN.length cN, .slice pS LS.length cS, .slice pT TT.length cT, .int .i64 k.st, .int .i64 k.sp] 30) := hh1
        have bx1 : ((w.alloc (.cells #[.int .i64 3, .string name, .string to, .slice q bs.length qc, .int .i64 n] 35)).drewN nq).heap[w.heap.size]? = some (.cells #[.int .i64 3, .string name, .string to, .slice q bs.length qc, .int .i64 n] 35) := by
          show (w.heap.push _)[w.heap.size]? = _
          simp
        have hz1 : w.heap.size + 1 ≤ ((w.alloc (.cells #[.int .i64 3, .string name, .string to, .slice q bs.length qc, .int .i64 n] 35)).drewN nq).heap.size := by
          show _ ≤ (w.heap.push _).size
          simp
        clear hB0 f0 hh1 d0 d1 d2 d3 d4 e0 c0 c1 c2 c3 c4 g0
        generalize (w.alloc (.cells #[.int .i64 3, .string name, .string to, .slice q bs.length qc, .int .i64 n] 35)).drewN nq = W1 at *
        have d0 : W1.cell? ⟨Kb, 0, none⟩ = some (.slice pN LN.length cN) := by simp [World.cell?, hK1]
        have d3 : W1.cell? ⟨Kb, 3, none⟩ = some (.int .i64 k.st) := by simp [World.cell?, hK1]
        have e0 : ∀ o, W1.frozen? ⟨Kb, o, none⟩ = false := fun o => by simp [World.frozen?, hK1]
        have b0 : W1.cell? ⟨w.heap.size, 0, none⟩ = some (.int .i64 3) := by simp [World.cell?, bx1]
        have b1 : W1.cell? ⟨w.heap.size, 1, none⟩ = some (.string name) := by simp [World.cell?, bx1]
        have b2 : W1.cell? ⟨w.heap.size, 2, none⟩ = some (.string to) := by simp [World.cell?, bx1]
        have b3 : W1.cell? ⟨w.heap.size, 3, none⟩ = some (.slice q bs.length qc) := by simp [World.cell?, bx1]
        have b4 : W1.cell? ⟨w.heap.size, 4, none⟩ = some (.int .i64 n) := by simp [World.cell?, bx1]
        have HFq : Hid (∀ j, Calls Tryd.prog 38 #[.slice pN LN.length cN, .string name] (W1.drewN j) fun e w' => e = .returned (.int .i64 (findP name 0 k.N)) ∧ ∃ m, w' = (W1.drewN j).drewN m) := fun j => (find_any (W1.drewN j) O pN cN LN ((h2.keep (fun b hl ho => f1.block b hl (by simp; exact hOK b ho)) (fun _ _ h => h)).below ⟨rfl, rfl, rfl, Nat.le_refl _, fun _ _ => rfl⟩) (by omega) LN.length rfl name).mono (fun e w' ⟨h1, h2⟩ => ⟨by rw [← h3]; exact h1, 0, h2.symm⟩)
        go_wp2_with (go_at_call 37; refine (HN _).mono ?_; rintro e w' ⟨rfl, rfl⟩; refine Hid.out ?_)
        refine Lib.hid ?_
        go_wp2
        go_quiet ((go_at_call 38; exact Calls.quiet_of (HFq.out _)))
        go_wp2
        rw [← HR.out, HD.out]
        rw [if_neg (by simp [hnm]), if_neg (by simp), if_pos (by simp; omega)]
        exact ⟨rfl, kat_of (cN := cN) (cS := cS) (cT := cT) hOK (f1.drewN nq) hK1 h2 h3 h4 h5 h6 h7 h8, f1.drewN nq⟩
      · go_enter Tryd.func14, Tryd.ntmps14
        go_wp2
        go_quiet (fail)
        have f1 : Fr [Kb] w ((w.alloc (.cells #[.int .i64 3, .string name, .string to, .slice q bs.length qc, .int .i64 n] 35)).drewN nq) := f0.drewN nq
        have hK1 : ((w.alloc (.cells #[.int .i64 3, .string name, .string to, .slice q bs.length qc, .int .i64 n] 35)).drewN nq).heap[Kb]? = some (.cells #[.slice pN LN.length cN, .slice pS LS.length cS, .slice pT TT.length cT, .int .i64 k.st, .int .i64 k.sp] 30) := hh1
        have bx1 : ((w.alloc (.cells #[.int .i64 3, .string name, .string to, .slice q bs.length qc, .int .i64 n] 35)).drewN nq).heap[w.heap.size]? = some (.cells #[.int .i64 3, .string name, .string to, .slice q bs.length qc, .int .i64 n] 35) := by
          show (w.heap.push _)[w.heap.size]? = _
          simp
        have hz1 : w.heap.size + 1 ≤ ((w.alloc (.cells #[.int .i64 3, .string name, .string to, .slice q bs.length qc, .int .i64 n] 35)).drewN nq).heap.size := by
          show _ ≤ (w.heap.push _).size
          simp
        clear hB0 f0 hh1 d0 d1 d2 d3 d4 e0 c0 c1 c2 c3 c4 g0
        generalize (w.alloc (.cells #[.int .i64 3, .string name, .string to, .slice q bs.length qc, .int .i64 n] 35)).drewN nq = W1 at *
        have d0 : W1.cell? ⟨Kb, 0, none⟩ = some (.slice pN LN.length cN) := by simp [World.cell?, hK1]
        have d3 : W1.cell? ⟨Kb, 3, none⟩ = some (.int .i64 k.st) := by simp [World.cell?, hK1]
        have e0 : ∀ o, W1.frozen? ⟨Kb, o, none⟩ = false := fun o => by simp [World.frozen?, hK1]
        have b0 : W1.cell? ⟨w.heap.size, 0, none⟩ = some (.int .i64 3) := by simp [World.cell?, bx1]
        have b1 : W1.cell? ⟨w.heap.size, 1, none⟩ = some (.string name) := by simp [World.cell?, bx1]
        have b2 : W1.cell? ⟨w.heap.size, 2, none⟩ = some (.string to) := by simp [World.cell?, bx1]
        have b3 : W1.cell? ⟨w.heap.size, 3, none⟩ = some (.slice q bs.length qc) := by simp [World.cell?, bx1]
        have b4 : W1.cell? ⟨w.heap.size, 4, none⟩ = some (.int .i64 n) := by simp [World.cell?, bx1]
        have HFq : Hid (∀ j, Calls Tryd.prog 38 #[.slice pN LN.length cN, .string name] (W1.drewN j) fun e w' => e = .returned (.int .i64 (findP name 0 k.N)) ∧ ∃ m, w' = (W1.drewN j).drewN m) := fun j => (find_any (W1.drewN j) O pN cN LN ((h2.keep (fun b hl ho => f1.block b hl (by simp; exact hOK b ho)) (fun _ _ h => h)).below ⟨rfl, rfl, rfl, Nat.le_refl _, fun _ _ => rfl⟩) (by omega) LN.length rfl name).mono (fun e w' ⟨h1, h2⟩ => ⟨by rw [← h3]; exact h1, 0, h2.symm⟩)
        go_wp2_with (go_at_call 37; refine (HN _).mono ?_; rintro e w' ⟨rfl, rfl⟩; refine Hid.out ?_)
        refine Lib.hid ?_
        go_wp2
        go_quiet ((go_at_call 38; exact Calls.quiet_of (HFq.out _)))
        go_wp2
        have f2 : Fr [Kb] w ((W1.drewN nq).setCell ⟨Kb, 3, none⟩ (.int .i64 (k.st + 1))) := (f1.drewN nq).setCell (.inl (by simp)) _
        have hK2 : ((W1.drewN nq).setCell ⟨Kb, 3, none⟩ (.int .i64 (k.st + 1))).heap[Kb]? = some (.cells #[.slice pN LN.length cN, .slice pS LS.length cS, .slice pT TT.length cT, .int .i64 (k.st + 1), .int .i64 k.sp] 30) := by
          have hh2 : (W1.drewN nq).heap[Kb]? = some (.cells #[.slice pN LN.length cN, .slice pS LS.length cS, .slice pT TT.length cT, .int .i64 k.st, .int .i64 k.sp] 30) := hK1
          generalize (W1.drewN nq) = W9 at hh2 ⊢
          simp [World.setCell, Array.getElem?_modify, hh2]
        have bx : ((W1.drewN nq).setCell ⟨Kb, 3, none⟩ (.int .i64 (k.st + 1))).heap[w.heap.size]? = some (.cells #[.int .i64 3, .string name, .string to, .slice q bs.length qc, .int .i64 n] 35) := by
          rw [Below.heap_setCell _ _ _ _ (Ne.symm hne)]
          exact bx1
        have hz2 : w.heap.size + 1 ≤ ((W1.drewN nq).setCell ⟨Kb, 3, none⟩ (.int .i64 (k.st + 1))).heap.size := by
          have : ((W1.drewN nq).setCell ⟨Kb, 3, none⟩ (.int .i64 (k.st + 1))).heap.size = W1.heap.size := by
            show (World.setCell _ _ _).heap.size = _
            first
              | (simp; done)
              | (simp [World.drewN]; done)
          omega
        clear d0 d3 e0 b0 b1 b2 b3 b4
        generalize (W1.drewN nq).setCell ⟨Kb, 3, none⟩ (.int .i64 (k.st + 1)) = W2 at *
        have kb2 : ∀ b, b < w.heap.size → O b → W2.heap[b]? = w.heap[b]? := fun b hl ho => f2.block b hl (by simp; exact hOK b ho)
        have hN2 := h2.keep kb2 (fun _ _ h => h)
        have hS2 := h4.keep kb2 (fun _ _ h => h)
        have hT2 := h6.keep kb2 (fun _ _ h => h)
        have hq2 := hq.keep kb2 (fun _ _ h => h)
        have hO2 : ∀ b, W2.heap.size ≤ b → O b := fun b hb' => hO b (by omega)
        have hlN : LN.length ≤ 100000 := by rw [← List.length_map (f := En.pr), h3]; omega
        have hlT : TT.length ≤ 100000 := by rw [← List.length_map (f := Wn.k), h7]; omega
        have HDO : Hid (Calls Tryd.prog 36 #[.slice pN LN.length cN, wkV ⟨3, name, to, bs, n⟩ q qc] (W2.drewN 1) (DoEnd (W2.drewN 1) O LN ⟨3, name, to, bs, n⟩)) := doing_any (W2.drewN 1) O hO2 pN cN LN (hN2.below ⟨rfl, rfl, rfl, Nat.le_refl _, fun _ _ => rfl⟩) hlN LN.length rfl ⟨3, name, to, bs, n⟩ q qc (hq2.below ⟨rfl, rfl, rfl, Nat.le_refl _, fun _ _ => rfl⟩)
        unfold wkV at HDO
        simp only at HDO
        have k0 : W2.cell? ⟨Kb, 0, none⟩ = some (.slice pN LN.length cN) := by simp [World.cell?, hK2]
        have b0 : W2.cell? ⟨w.heap.size, 0, none⟩ = some (.int .i64 3) := by simp [World.cell?, bx]
        have b1 : W2.cell? ⟨w.heap.size, 1, none⟩ = some (.string name) := by simp [World.cell?, bx]
        have b2 : W2.cell? ⟨w.heap.size, 2, none⟩ = some (.string to) := by simp [World.cell?, bx]
        have b3 : W2.cell? ⟨w.heap.size, 3, none⟩ = some (.slice q bs.length qc) := by simp [World.cell?, bx]
        have b4 : W2.cell? ⟨w.heap.size, 4, none⟩ = some (.int .i64 n) := by simp [World.cell?, bx]
        have hKl : Kb < W2.heap.size := by omega
        have KF : Hid (∀ w5 : World, Below W2.heap.size (W2.drewN 1) w5 → w5.heap[Kb]? = some (.cells #[.slice pN LN.length cN, .slice pS LS.length cS, .slice pT TT.length cT, .int .i64 (k.st + 1), .int .i64 k.sp] 30)) := fun w5 hb5 => (hb5.block Kb hKl).trans hK2
        go_region_with (go_at_call 36; refine HDO.out.mono ?_; rintro e w5 ⟨A5, c5, L5, rfl, g1, g2, g3, g4⟩; have hK5 := KF.out w5 g4; have kk0 : w5.cell? ⟨Kb, 0, none⟩ = some (.slice pN LN.length cN) := (by simp [World.cell?, hK5]); have kf0 : w5.frozen? ⟨Kb, 0, none⟩ = false := (by simp [World.frozen?, hK5]))
        all_goals
          have f5 : Fr [Kb] w w5 := f2.trans (Fr.trans (Fr.below (b := W2.drewN 1) ⟨rfl, rfl, rfl, Nat.le_refl _, fun _ _ => rfl⟩) (Fr.below g4))
          have f6 : Fr [Kb] w (w5.setCell ⟨Kb, 0, none⟩ (.slice A5 L5.length c5)) := f5.setCell (.inl (by simp)) _
          have hK6 : (w5.setCell ⟨Kb, 0, none⟩ (.slice A5 L5.length c5)).heap[Kb]? = some (.cells #[.slice A5 L5.length c5, .slice pS LS.length cS, .slice pT TT.length cT, .int .i64 (k.st + 1), .int .i64 k.sp] 30) := by simp [World.setCell, Array.getElem?_modify, hK5]
          have bx6 : (w5.setCell ⟨Kb, 0, none⟩ (.slice A5 L5.length c5)).heap[w.heap.size]? = some (.cells #[.int .i64 3, .string name, .string to, .slice q bs.length qc, .int .i64 n] 35) := by
            rw [Below.heap_setCell _ _ _ _ (Ne.symm hne), g4.block w.heap.size (show w.heap.size < W2.heap.size by omega)]; exact bx
          have hN6 : FlAt (w5.setCell ⟨Kb, 0, none⟩ (.slice A5 L5.length c5)) O A5 L5 := g1.keep (fun b hl ho => Below.heap_setCell _ _ _ _ (hOK b ho)) (fun _ _ h => h)
          have hz6 : w.heap.size + 1 ≤ (w5.setCell ⟨Kb, 0, none⟩ (.slice A5 L5.length c5)).heap.size := by have := g4.size; simp; show _ ≤ _; exact Nat.le_trans hz2 this
          clear kk0 kf0 hK5 g1 g4 f5 k0 b0 b1 b2 b3 b4 bx hK2
          generalize w5.setCell ⟨Kb, 0, none⟩ (.slice A5 L5.length c5) = w6 at *
          have kb6 : ∀ b, b < w.heap.size → O b → w6.heap[b]? = w.heap[b]? := fun b hl ho => f6.block b hl (by simp; exact hOK b ho)
          have hS6 := h4.keep kb6 (fun _ _ h => h)
          have hT6 := h6.keep kb6 (fun _ _ h => h)
          have hq6 := hq.keep kb6 (fun _ _ h => h)
          have k2 : w6.cell? ⟨Kb, 2, none⟩ = some (.slice pT TT.length cT) := by simp [World.cell?, hK6]
          go_wp2_with (at_builtin; refine append_wns rfl _ _ rfl w6.heap.size _ [] rfl (World.ownsRow_nil _ _ _ _) pT TT.length cT TT rfl rfl (wl_cells hT6) h8.2 (by simp; omega) (Nat.le_refl _) ?_)
          intro v7 w7 own7 hb7
          obtain ⟨A7, c7, hv7⟩ := own_form2 own7
          subst hv7
          have hK7 := (hb7.block Kb (by omega)).trans hK6
          have bx7 := (hb7.block w.heap.size (by omega)).trans bx6
          have f7 : Fr [Kb] w w7 := f6.trans (Fr.below hb7)
          have hz7 := hb7.size
          have hN7 := hN6.below hb7
          have b70 : w7.cell? ⟨w.heap.size, 0, none⟩ = some (.int .i64 3) := by simp [World.cell?, bx7]
          have b71 : w7.cell? ⟨w.heap.size, 1, none⟩ = some (.string name) := by simp [World.cell?, bx7]
          have b72 : w7.cell? ⟨w.heap.size, 2, none⟩ = some (.string to) := by simp [World.cell?, bx7]
          have b73 : w7.cell? ⟨w.heap.size, 3, none⟩ = some (.slice q bs.length qc) := by simp [World.cell?, bx7]
          have b74 : w7.cell? ⟨w.heap.size, 4, none⟩ = some (.int .i64 n) := by simp [World.cell?, bx7]
          have hone := one_wn w7 (⟨⟨3, name, to, bs, n⟩, q, qc⟩ : Wn)
          simp only at hone
          have HO1 := Lib.hid hone
          clear hone
          go_wp2_with (at_builtin; refine append_wns rfl _ _ rfl w6.heap.size _ TT rfl (own7.alloc _) _ 1 1 [(⟨⟨3, name, to, bs, n⟩, q, qc⟩ : Wn)] rfl rfl HO1.out (by intro h; cases h) (by simp; omega) (by simp; omega) ?_)
          intro v9 w9 own9 hb9
          have hb9' : Below w6.heap.size w7 w9 := ((Below.refl _ w7).alloc (by omega) _).trans hb9
          have hK9 := (hb9'.block Kb (by omega)).trans hK7
          have f9 : Fr [Kb] w w9 := ⟨hb9'.os.trans f7.os, hb9'.tape.trans f7.tape, hb9'.output.trans f7.output, Nat.le_trans f7.size hb9'.size, fun b hl hx => (hb9'.block b (by omega)).trans (f7.block b hl hx)⟩
          have kb9 : ∀ b, b < w.heap.size → O b → w9.heap[b]? = w.heap[b]? := fun b hl ho => f9.block b hl (by simp; exact hOK b ho)
          obtain ⟨A9, c9, hv9, hW9, hc9⟩ := wl_own (base := w6.heap.size) (O := O) (T := TT ++ [(⟨⟨3, name, to, bs, n⟩, q, qc⟩ : Wn)]) (by simpa using own9) (fun b hb' => hO b (by omega)) (fun y hy => by
            rcases List.mem_append.1 hy with hy | hy
            · exact (wl_bs h6 y hy).keep kb9 (fun _ _ h => h)
            · rw [List.mem_singleton] at hy; subst hy; exact BsO.keep hq kb9 (fun _ _ h => h))
          subst hv9
          have hN9 : FlAt w9 O A5 L5 := hN6.keep (fun b hl ho => (hb9'.block b hl).trans (hb7.block b hl)) (fun _ _ h => h)
          have hS9 := h4.keep kb9 (fun _ _ h => h)
          have k92 : w9.cell? ⟨Kb, 2, none⟩ = some (.slice pT TT.length cT) := by simp [World.cell?, hK9]
          have kf92 : w9.frozen? ⟨Kb, 2, none⟩ = false := by simp [World.frozen?, hK9]
          have hfin : KEnd w O Kb (0, ⟨doingP k.N ⟨3, name, to, bs, n⟩, k.S, k.T ++ [⟨3, name, to, bs, n⟩], k.st + 1, k.sp⟩) (.returned (.int .i64 0)) (w9.setCell ⟨Kb, 2, none⟩ (.slice A9 (TT ++ [(⟨⟨3, name, to, bs, n⟩, q, qc⟩ : Wn)]).length c9)) := by
            have hset : ∀ b, b < w9.heap.size → O b → (w9.setCell ⟨Kb, 2, none⟩ (.slice A9 (TT ++ [(⟨⟨3, name, to, bs, n⟩, q, qc⟩ : Wn)]).length c9)).heap[b]? = w9.heap[b]? := fun b hl ho => Below.heap_setCell _ _ _ _ (hOK b ho)
            refine ⟨rfl, ⟨A5, c5, L5, pS, cS, LS, A9, c9, TT ++ [(⟨⟨3, name, to, bs, n⟩, q, qc⟩ : Wn)], ?_, hN9.keep hset (fun _ _ h => h), by rw [g2, h3], hS9.keep hset (fun _ _ h => h), h5, hW9.keep hset (fun _ _ h => h), by simp [h7], hc9⟩, f9.setCell (.inl (by simp)) _⟩
            simp [World.setCell, Array.getElem?_modify, hK9]
          clear hK9 hb9 hb9' own9 own7 hb7 hK7 hK6 bx7 bx6 f9 f7 f6 hW9 hN9 hS9 hN7 hN6 hS6 hT6 hq6
          go_wp2
          rw [← HR.out, HD.out]
          rw [if_neg (by simp [hnm]), if_neg (by simp), if_neg (by simp; omega), if_neg (by simp)]
          simpa using hfin
end
end Go.Proofs.YthlaccicdbbeeaaDoor
