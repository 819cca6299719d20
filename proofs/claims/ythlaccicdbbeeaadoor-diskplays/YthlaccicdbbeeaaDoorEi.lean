/- What the document's disk does: Sync, Crash. -/
import Derived.Test.YthlaccicdbbeeaaDoorEf
namespace Go.Proofs.YthlaccicdbbeeaaDoor
open Go.RowKit
set_option linter.unusedVariables false
section
variable {w : World} {O : Nat → Prop} {Kb : Nat} {k : Kd}

set_option maxRecDepth 100000 in
set_option maxHeartbeats 4000000 in
theorem do_four (h : KAt w O Kb k) (hO : ∀ b, w.heap.size ≤ b → O b) (hOK : ∀ b, O b → b ≠ Kb) (x : Wk) (q : Option Addr) (qc : Nat) (hx : x.kind = 4) (hq : BsO w O q x.bytes) (hn : x.name.size ≤ maxLen) (ht : x.to.size ≤ maxLen) (hN : k.N.length ≤ 10000) (hT : k.T.length ≤ 10000) (hst : 0 ≤ k.st ∧ k.st < 1000000000) (hb : ¬ (0 ≤ k.sp ∧ k.sp ≤ k.st)) :
    Calls Tryd.prog 14 #[.pointer (some ⟨Kb, 0, none⟩), wkV x q qc] w (KEnd w O Kb (doP k x)) := by
  have hlt := h.lt
  obtain ⟨pN, cN, LN, pS, cS, LS, pT, cT, TT, h1, h2, h3, h4, h5, h6, h7, h8⟩ := h.at_
  obtain ⟨kind, name, to, bs, n⟩ := x
  simp only at hx
  subst hx
  unfold wkV
  simp only
  have hB0 : Below w.heap.size w (w.alloc (.cells #[.int .i64 4, .string name, .string to, .slice q bs.length qc, .int .i64 n] 35)) := (Below.refl _ _).alloc (Nat.le_refl _) _
  have f0 : Fr [Kb] w (w.alloc (.cells #[.int .i64 4, .string name, .string to, .slice q bs.length qc, .int .i64 n] 35)) := Fr.below hB0
  have hh1 : (w.alloc (.cells #[.int .i64 4, .string name, .string to, .slice q bs.length qc, .int .i64 n] 35)).heap[Kb]? = some (.cells #[.slice pN LN.length cN, .slice pS LS.length cS, .slice pT TT.length cT, .int .i64 k.st, .int .i64 k.sp] 30) := (hB0.block Kb hlt).trans h1
  have d0 : (w.alloc (.cells #[.int .i64 4, .string name, .string to, .slice q bs.length qc, .int .i64 n] 35)).cell? ⟨Kb, 0, none⟩ = some (.slice pN LN.length cN) := by simp [World.cell?, hh1]
  have d1 : (w.alloc (.cells #[.int .i64 4, .string name, .string to, .slice q bs.length qc, .int .i64 n] 35)).cell? ⟨Kb, 1, none⟩ = some (.slice pS LS.length cS) := by simp [World.cell?, hh1]
  have d2 : (w.alloc (.cells #[.int .i64 4, .string name, .string to, .slice q bs.length qc, .int .i64 n] 35)).cell? ⟨Kb, 2, none⟩ = some (.slice pT TT.length cT) := by simp [World.cell?, hh1]
  have d3 : (w.alloc (.cells #[.int .i64 4, .string name, .string to, .slice q bs.length qc, .int .i64 n] 35)).cell? ⟨Kb, 3, none⟩ = some (.int .i64 k.st) := by simp [World.cell?, hh1]
  have d4 : (w.alloc (.cells #[.int .i64 4, .string name, .string to, .slice q bs.length qc, .int .i64 n] 35)).cell? ⟨Kb, 4, none⟩ = some (.int .i64 k.sp) := by simp [World.cell?, hh1]
  have e0 : ∀ o, (w.alloc (.cells #[.int .i64 4, .string name, .string to, .slice q bs.length qc, .int .i64 n] 35)).frozen? ⟨Kb, o, none⟩ = false := fun o => by simp [World.frozen?, hh1]
  have c0 : w.cell? ⟨Kb, 0, none⟩ = some (.slice pN LN.length cN) := by simp [World.cell?, h1]
  have c1 : w.cell? ⟨Kb, 1, none⟩ = some (.slice pS LS.length cS) := by simp [World.cell?, h1]
  have c2 : w.cell? ⟨Kb, 2, none⟩ = some (.slice pT TT.length cT) := by simp [World.cell?, h1]
  have c3 : w.cell? ⟨Kb, 3, none⟩ = some (.int .i64 k.st) := by simp [World.cell?, h1]
  have c4 : w.cell? ⟨Kb, 4, none⟩ = some (.int .i64 k.sp) := by simp [World.cell?, h1]
  have g0 : ∀ o, w.frozen? ⟨Kb, o, none⟩ = false := fun o => by simp [World.frozen?, h1]
  have hne : Kb ≠ w.heap.size := by omega
  have FR := Lib.hid (Fr.refl [Kb] w)
  generalize hR : KEnd w O Kb (doP k ⟨4, name, to, bs, n⟩) = R
  have HR := Lib.hid hR
  clear hR
  simp only at hq hn ht
  have hdk := doP_k k ⟨4, name, to, bs, n⟩ (show (4 : Int) ≠ 5 by decide) (show (4 : Int) ≠ 6 by decide)
  rw [if_neg hb] at hdk
  have HD := Lib.hid hdk
  clear hdk
  have HN := fun w' => named_any name w' hn
  have hsp : (decide (0 ≤ k.sp) = false ∧ ¬ 0 ≤ k.sp) ∨ (decide (0 ≤ k.sp) = true ∧ decide (k.sp ≤ k.st) = false ∧ 0 ≤ k.sp ∧ ¬ k.sp ≤ k.st) := by
    by_cases h0 : 0 ≤ k.sp
    · exact .inr ⟨by simpa using h0, by simp; omega, h0, by omega⟩
    · exact .inl ⟨by simpa using h0, h0⟩
  obtain ⟨hst1, hst2⟩ := hst
  clear hb
  generalize isNm name = g at HN
  rcases hsp with ⟨s1, s2⟩ | ⟨s1, s2, s3, s4⟩
  · cases g with
    | false =>
      go_enter Tryd.func14, Tryd.ntmps14
      go_wp2
      go_quiet (fail)
      have f1 : Fr [Kb] w ((w.alloc (.cells #[.int .i64 4, .string name, .string to, .slice q bs.length qc, .int .i64 n] 35)).drewN nq) := f0.drewN nq
      have hK1 : ((w.alloc (.cells #[.int .i64 4, .string name, .string to, .slice q bs.length qc, .int .i64 n] 35)).drewN nq).heap[Kb]? = some (.cells #[.slice pN LN.length cN, .slice pS LS.length cS, .slice pT TT.length cT, .int .i64 k.st, .int .i64 k.sp] 30) := hh1
      have bx1 : ((w.alloc (.cells #[.int .i64 4, .string name, .string to, .slice q bs.length qc, .int .i64 n] 35)).drewN nq).heap[w.heap.size]? = some (.cells #[.int .i64 4, .string name, .string to, .slice q bs.length qc, .int .i64 n] 35) := by
        show (w.heap.push _)[w.heap.size]? = _
        simp
      have hz1 : w.heap.size + 1 ≤ ((w.alloc (.cells #[.int .i64 4, .string name, .string to, .slice q bs.length qc, .int .i64 n] 35)).drewN nq).heap.size := by
        show _ ≤ (w.heap.push _).size
        simp
      clear hB0 f0 hh1 d0 d1 d2 d3 d4 e0 c0 c1 c2 c3 c4 g0
      generalize (w.alloc (.cells #[.int .i64 4, .string name, .string to, .slice q bs.length qc, .int .i64 n] 35)).drewN nq = W1 at *
      have d0 : W1.cell? ⟨Kb, 0, none⟩ = some (.slice pN LN.length cN) := by simp [World.cell?, hK1]
      have d3 : W1.cell? ⟨Kb, 3, none⟩ = some (.int .i64 k.st) := by simp [World.cell?, hK1]
      have e0 : ∀ o, W1.frozen? ⟨Kb, o, none⟩ = false := fun o => by simp [World.frozen?, hK1]
      have b0 : W1.cell? ⟨w.heap.size, 0, none⟩ = some (.int .i64 4) := by simp [World.cell?, bx1]
      have b1 : W1.cell? ⟨w.heap.size, 1, none⟩ = some (.string name) := by simp [World.cell?, bx1]
      have b2 : W1.cell? ⟨w.heap.size, 2, none⟩ = some (.string to) := by simp [World.cell?, bx1]
      have b3 : W1.cell? ⟨w.heap.size, 3, none⟩ = some (.slice q bs.length qc) := by simp [World.cell?, bx1]
      have b4 : W1.cell? ⟨w.heap.size, 4, none⟩ = some (.int .i64 n) := by simp [World.cell?, bx1]
      have d1 : W1.cell? ⟨Kb, 1, none⟩ = some (.slice pS LS.length cS) := by simp [World.cell?, hK1]
      have d2 : W1.cell? ⟨Kb, 2, none⟩ = some (.slice pT TT.length cT) := by simp [World.cell?, hK1]
      go_wp2_with (go_at_call 37; refine (HN _).mono ?_; rintro e w' ⟨rfl, rfl⟩; refine Hid.out ?_)
      refine Lib.hid ?_
      go_wp2
      rw [← HR.out, HD.out, if_neg (by simp), if_neg (by simp), if_neg (by simp), if_pos (by simp)]
      have f4 : Fr [Kb] w (((W1.setCell ⟨Kb, 3, none⟩ (.int .i64 (k.st + 1))).setCell ⟨Kb, 1, none⟩ (.slice pN LN.length cN)).setCell ⟨Kb, 2, none⟩ (.slice none 0 0)) := ((f1.setCell (.inl (by simp)) _).setCell (.inl (by simp)) _).setCell (.inl (by simp)) _
      refine ⟨rfl, kat_of (cN := cN) (cS := cN) (cT := 0) (pN := pN) (pS := pN) (pT := none) (LN := LN) (LS := LN) (TT := []) hOK f4 ?_ h2 h3 h2 h3 (.inl rfl) rfl ⟨by simp, fun _ => rfl⟩, f4⟩
      simp [World.setCell, Array.getElem?_modify, hK1]
    | true =>
      go_enter Tryd.func14, Tryd.ntmps14
      go_wp2
      go_quiet (fail)
      have f1 : Fr [Kb] w ((w.alloc (.cells #[.int .i64 4, .string name, .string to, .slice q bs.length qc, .int .i64 n] 35)).drewN nq) := f0.drewN nq
      have hK1 : ((w.alloc (.cells #[.int .i64 4, .string name, .string to, .slice q bs.length qc, .int .i64 n] 35)).drewN nq).heap[Kb]? = some (.cells #[.slice pN LN.length cN, .slice pS LS.length cS, .slice pT TT.length cT, .int .i64 k.st, .int .i64 k.sp] 30) := hh1
      have bx1 : ((w.alloc (.cells #[.int .i64 4, .string name, .string to, .slice q bs.length qc, .int .i64 n] 35)).drewN nq).heap[w.heap.size]? = some (.cells #[.int .i64 4, .string name, .string to, .slice q bs.length qc, .int .i64 n] 35) := by
        show (w.heap.push _)[w.heap.size]? = _
        simp
      have hz1 : w.heap.size + 1 ≤ ((w.alloc (.cells #[.int .i64 4, .string name, .string to, .slice q bs.length qc, .int .i64 n] 35)).drewN nq).heap.size := by
        show _ ≤ (w.heap.push _).size
        simp
      clear hB0 f0 hh1 d0 d1 d2 d3 d4 e0 c0 c1 c2 c3 c4 g0
      generalize (w.alloc (.cells #[.int .i64 4, .string name, .string to, .slice q bs.length qc, .int .i64 n] 35)).drewN nq = W1 at *
      have d0 : W1.cell? ⟨Kb, 0, none⟩ = some (.slice pN LN.length cN) := by simp [World.cell?, hK1]
      have d3 : W1.cell? ⟨Kb, 3, none⟩ = some (.int .i64 k.st) := by simp [World.cell?, hK1]
      have e0 : ∀ o, W1.frozen? ⟨Kb, o, none⟩ = false := fun o => by simp [World.frozen?, hK1]
      have b0 : W1.cell? ⟨w.heap.size, 0, none⟩ = some (.int .i64 4) := by simp [World.cell?, bx1]
      have b1 : W1.cell? ⟨w.heap.size, 1, none⟩ = some (.string name) := by simp [World.cell?, bx1]
      have b2 : W1.cell? ⟨w.heap.size, 2, none⟩ = some (.string to) := by simp [World.cell?, bx1]
      have b3 : W1.cell? ⟨w.heap.size, 3, none⟩ = some (.slice q bs.length qc) := by simp [World.cell?, bx1]
      have b4 : W1.cell? ⟨w.heap.size, 4, none⟩ = some (.int .i64 n) := by simp [World.cell?, bx1]
      have d1 : W1.cell? ⟨Kb, 1, none⟩ = some (.slice pS LS.length cS) := by simp [World.cell?, hK1]
      have d2 : W1.cell? ⟨Kb, 2, none⟩ = some (.slice pT TT.length cT) := by simp [World.cell?, hK1]
      go_wp2_with (go_at_call 37; refine (HN _).mono ?_; rintro e w' ⟨rfl, rfl⟩; refine Hid.out ?_)
      refine Lib.hid ?_
      go_wp2
      rw [← HR.out, HD.out, if_neg (by simp), if_neg (by simp), if_neg (by simp), if_pos (by simp)]
      have f4 : Fr [Kb] w (((W1.setCell ⟨Kb, 3, none⟩ (.int .i64 (k.st + 1))).setCell ⟨Kb, 1, none⟩ (.slice pN LN.length cN)).setCell ⟨Kb, 2, none⟩ (.slice none 0 0)) := ((f1.setCell (.inl (by simp)) _).setCell (.inl (by simp)) _).setCell (.inl (by simp)) _
      refine ⟨rfl, kat_of (cN := cN) (cS := cN) (cT := 0) (pN := pN) (pS := pN) (pT := none) (LN := LN) (LS := LN) (TT := []) hOK f4 ?_ h2 h3 h2 h3 (.inl rfl) rfl ⟨by simp, fun _ => rfl⟩, f4⟩
      simp [World.setCell, Array.getElem?_modify, hK1]
  · cases g with
    | false =>
      go_enter Tryd.func14, Tryd.ntmps14
      go_wp2
      go_quiet (fail)
      have f1 : Fr [Kb] w ((w.alloc (.cells #[.int .i64 4, .string name, .string to, .slice q bs.length qc, .int .i64 n] 35)).drewN nq) := f0.drewN nq
      have hK1 : ((w.alloc (.cells #[.int .i64 4, .string name, .string to, .slice q bs.length qc, .int .i64 n] 35)).drewN nq).heap[Kb]? = some (.cells #[.slice pN LN.length cN, .slice pS LS.length cS, .slice pT TT.length cT, .int .i64 k.st, .int .i64 k.sp] 30) := hh1
      have bx1 : ((w.alloc (.cells #[.int .i64 4, .string name, .string to, .slice q bs.length qc, .int .i64 n] 35)).drewN nq).heap[w.heap.size]? = some (.cells #[.int .i64 4, .string name, .string to, .slice q bs.length qc, .int .i64 n] 35) := by
        show (w.heap.push _)[w.heap.size]? = _
        simp
      have hz1 : w.heap.size + 1 ≤ ((w.alloc (.cells #[.int .i64 4, .string name, .string to, .slice q bs.length qc, .int .i64 n] 35)).drewN nq).heap.size := by
        show _ ≤ (w.heap.push _).size
        simp
      clear hB0 f0 hh1 d0 d1 d2 d3 d4 e0 c0 c1 c2 c3 c4 g0
      generalize (w.alloc (.cells #[.int .i64 4, .string name, .string to, .slice q bs.length qc, .int .i64 n] 35)).drewN nq = W1 at *
      have d0 : W1.cell? ⟨Kb, 0, none⟩ = some (.slice pN LN.length cN) := by simp [World.cell?, hK1]
      have d3 : W1.cell? ⟨Kb, 3, none⟩ = some (.int .i64 k.st) := by simp [World.cell?, hK1]
      have e0 : ∀ o, W1.frozen? ⟨Kb, o, none⟩ = false := fun o => by simp [World.frozen?, hK1]
      have b0 : W1.cell? ⟨w.heap.size, 0, none⟩ = some (.int .i64 4) := by simp [World.cell?, bx1]
      have b1 : W1.cell? ⟨w.heap.size, 1, none⟩ = some (.string name) := by simp [World.cell?, bx1]
      have b2 : W1.cell? ⟨w.heap.size, 2, none⟩ = some (.string to) := by simp [World.cell?, bx1]
      have b3 : W1.cell? ⟨w.heap.size, 3, none⟩ = some (.slice q bs.length qc) := by simp [World.cell?, bx1]
      have b4 : W1.cell? ⟨w.heap.size, 4, none⟩ = some (.int .i64 n) := by simp [World.cell?, bx1]
      have d1 : W1.cell? ⟨Kb, 1, none⟩ = some (.slice pS LS.length cS) := by simp [World.cell?, hK1]
      have d2 : W1.cell? ⟨Kb, 2, none⟩ = some (.slice pT TT.length cT) := by simp [World.cell?, hK1]
      go_wp2_with (go_at_call 37; refine (HN _).mono ?_; rintro e w' ⟨rfl, rfl⟩; refine Hid.out ?_)
      refine Lib.hid ?_
      go_wp2
      rw [← HR.out, HD.out, if_neg (by simp), if_neg (by simp), if_neg (by simp), if_pos (by simp)]
      have f4 : Fr [Kb] w (((W1.setCell ⟨Kb, 3, none⟩ (.int .i64 (k.st + 1))).setCell ⟨Kb, 1, none⟩ (.slice pN LN.length cN)).setCell ⟨Kb, 2, none⟩ (.slice none 0 0)) := ((f1.setCell (.inl (by simp)) _).setCell (.inl (by simp)) _).setCell (.inl (by simp)) _
      refine ⟨rfl, kat_of (cN := cN) (cS := cN) (cT := 0) (pN := pN) (pS := pN) (pT := none) (LN := LN) (LS := LN) (TT := []) hOK f4 ?_ h2 h3 h2 h3 (.inl rfl) rfl ⟨by simp, fun _ => rfl⟩, f4⟩
      simp [World.setCell, Array.getElem?_modify, hK1]
    | true =>
      go_enter Tryd.func14, Tryd.ntmps14
      go_wp2
      go_quiet (fail)
      have f1 : Fr [Kb] w ((w.alloc (.cells #[.int .i64 4, .string name, .string to, .slice q bs.length qc, .int .i64 n] 35)).drewN nq) := f0.drewN nq
      have hK1 : ((w.alloc (.cells #[.int .i64 4, .string name, .string to, .slice q bs.length qc, .int .i64 n] 35)).drewN nq).heap[Kb]? = some (.cells #[.slice pN LN.length cN, .slice pS LS.length cS, .slice pT TT.length cT, .int .i64 k.st, .int .i64 k.sp] 30) := hh1
      have bx1 : ((w.alloc (.cells #[.int .i64 4, .string name, .string to, .slice q bs.length qc, .int .i64 n] 35)).drewN nq).heap[w.heap.size]? = some (.cells #[.int .i64 4, .string name, .string to, .slice q bs.length qc, .int .i64 n] 35) := by
        show (w.heap.push _)[w.heap.size]? = _
        simp
      have hz1 : w.heap.size + 1 ≤ ((w.alloc (.cells #[.int .i64 4, .string name, .string to, .slice q bs.length qc, .int .i64 n] 35)).drewN nq).heap.size := by
        show _ ≤ (w.heap.push _).size
        simp
      clear hB0 f0 hh1 d0 d1 d2 d3 d4 e0 c0 c1 c2 c3 c4 g0
      generalize (w.alloc (.cells #[.int .i64 4, .string name, .string to, .slice q bs.length qc, .int .i64 n] 35)).drewN nq = W1 at *
      have d0 : W1.cell? ⟨Kb, 0, none⟩ = some (.slice pN LN.length cN) := by simp [World.cell?, hK1]
      have d3 : W1.cell? ⟨Kb, 3, none⟩ = some (.int .i64 k.st) := by simp [World.cell?, hK1]
      have e0 : ∀ o, W1.frozen? ⟨Kb, o, none⟩ = false := fun o => by simp [World.frozen?, hK1]
      have b0 : W1.cell? ⟨w.heap.size, 0, none⟩ = some (.int .i64 4) := by simp [World.cell?, bx1]
      have b1 : W1.cell? ⟨w.heap.size, 1, none⟩ = some (.string name) := by simp [World.cell?, bx1]
      have b2 : W1.cell? ⟨w.heap.size, 2, none⟩ = some (.string to) := by simp [World.cell?, bx1]
      have b3 : W1.cell? ⟨w.heap.size, 3, none⟩ = some (.slice q bs.length qc) := by simp [World.cell?, bx1]
      have b4 : W1.cell? ⟨w.heap.size, 4, none⟩ = some (.int .i64 n) := by simp [World.cell?, bx1]
      have d1 : W1.cell? ⟨Kb, 1, none⟩ = some (.slice pS LS.length cS) := by simp [World.cell?, hK1]
      have d2 : W1.cell? ⟨Kb, 2, none⟩ = some (.slice pT TT.length cT) := by simp [World.cell?, hK1]
      go_wp2_with (go_at_call 37; refine (HN _).mono ?_; rintro e w' ⟨rfl, rfl⟩; refine Hid.out ?_)
      refine Lib.hid ?_
      go_wp2
      rw [← HR.out, HD.out, if_neg (by simp), if_neg (by simp), if_neg (by simp), if_pos (by simp)]
      have f4 : Fr [Kb] w (((W1.setCell ⟨Kb, 3, none⟩ (.int .i64 (k.st + 1))).setCell ⟨Kb, 1, none⟩ (.slice pN LN.length cN)).setCell ⟨Kb, 2, none⟩ (.slice none 0 0)) := ((f1.setCell (.inl (by simp)) _).setCell (.inl (by simp)) _).setCell (.inl (by simp)) _
      refine ⟨rfl, kat_of (cN := cN) (cS := cN) (cT := 0) (pN := pN) (pS := pN) (pT := none) (LN := LN) (LS := LN) (TT := []) hOK f4 ?_ h2 h3 h2 h3 (.inl rfl) rfl ⟨by simp, fun _ => rfl⟩, f4⟩
      simp [World.setCell, Array.getElem?_modify, hK1]

set_option maxRecDepth 100000 in
set_option maxHeartbeats 4000000 in
theorem do_five (h : KAt w O Kb k) (hO : ∀ b, w.heap.size ≤ b → O b) (hOK : ∀ b, O b → b ≠ Kb) (x : Wk) (q : Option Addr) (qc : Nat) (hx : x.kind = 5) (hS : k.S.length ≤ 10000) (hT : k.T.length ≤ 10000) :
    Calls Tryd.prog 14 #[.pointer (some ⟨Kb, 0, none⟩), wkV x q qc] w (KEnd w O Kb (doP k x)) := by
  have hlt := h.lt
  obtain ⟨pN, cN, LN, pS, cS, LS, pT, cT, TT, h1, h2, h3, h4, h5, h6, h7, h8⟩ := h.at_
  obtain ⟨kind, name, to, bs, n⟩ := x
  simp only at hx
  subst hx
  unfold wkV
  simp only
  have hB0 : Below w.heap.size w (w.alloc (.cells #[.int .i64 5, .string name, .string to, .slice q bs.length qc, .int .i64 n] 35)) := (Below.refl _ _).alloc (Nat.le_refl _) _
  have f0 : Fr [Kb] w (w.alloc (.cells #[.int .i64 5, .string name, .string to, .slice q bs.length qc, .int .i64 n] 35)) := Fr.below hB0
  have hh1 : (w.alloc (.cells #[.int .i64 5, .string name, .string to, .slice q bs.length qc, .int .i64 n] 35)).heap[Kb]? = some (.cells #[.slice pN LN.length cN, .slice pS LS.length cS, .slice pT TT.length cT, .int .i64 k.st, .int .i64 k.sp] 30) := (hB0.block Kb hlt).trans h1
  have d0 : (w.alloc (.cells #[.int .i64 5, .string name, .string to, .slice q bs.length qc, .int .i64 n] 35)).cell? ⟨Kb, 0, none⟩ = some (.slice pN LN.length cN) := by simp [World.cell?, hh1]
  have d1 : (w.alloc (.cells #[.int .i64 5, .string name, .string to, .slice q bs.length qc, .int .i64 n] 35)).cell? ⟨Kb, 1, none⟩ = some (.slice pS LS.length cS) := by simp [World.cell?, hh1]
  have d2 : (w.alloc (.cells #[.int .i64 5, .string name, .string to, .slice q bs.length qc, .int .i64 n] 35)).cell? ⟨Kb, 2, none⟩ = some (.slice pT TT.length cT) := by simp [World.cell?, hh1]
  have d3 : (w.alloc (.cells #[.int .i64 5, .string name, .string to, .slice q bs.length qc, .int .i64 n] 35)).cell? ⟨Kb, 3, none⟩ = some (.int .i64 k.st) := by simp [World.cell?, hh1]
  have d4 : (w.alloc (.cells #[.int .i64 5, .string name, .string to, .slice q bs.length qc, .int .i64 n] 35)).cell? ⟨Kb, 4, none⟩ = some (.int .i64 k.sp) := by simp [World.cell?, hh1]
  have e0 : ∀ o, (w.alloc (.cells #[.int .i64 5, .string name, .string to, .slice q bs.length qc, .int .i64 n] 35)).frozen? ⟨Kb, o, none⟩ = false := fun o => by simp [World.frozen?, hh1]
  have c0 : w.cell? ⟨Kb, 0, none⟩ = some (.slice pN LN.length cN) := by simp [World.cell?, h1]
  have c1 : w.cell? ⟨Kb, 1, none⟩ = some (.slice pS LS.length cS) := by simp [World.cell?, h1]
  have c2 : w.cell? ⟨Kb, 2, none⟩ = some (.slice pT TT.length cT) := by simp [World.cell?, h1]
  have c3 : w.cell? ⟨Kb, 3, none⟩ = some (.int .i64 k.st) := by simp [World.cell?, h1]
  have c4 : w.cell? ⟨Kb, 4, none⟩ = some (.int .i64 k.sp) := by simp [World.cell?, h1]
  have g0 : ∀ o, w.frozen? ⟨Kb, o, none⟩ = false := fun o => by simp [World.frozen?, h1]
  have hne : Kb ≠ w.heap.size := by omega
  have FR := Lib.hid (Fr.refl [Kb] w)
  generalize hR : KEnd w O Kb (doP k ⟨5, name, to, bs, n⟩) = R
  have HR := Lib.hid hR
  clear hR
  have hlS : LS.length ≤ 10000 := by rw [← List.length_map (f := En.pr), h5]; omega
  have hlT : TT.length ≤ 10000 := by rw [← List.length_map (f := Wn.k), h7]; omega
  have hz0 := hB0.size
  have bx0 : (w.alloc (.cells #[.int .i64 5, .string name, .string to, .slice q bs.length qc, .int .i64 n] 35)).heap[w.heap.size]? = some (.cells #[.int .i64 5, .string name, .string to, .slice q bs.length qc, .int .i64 n] 35) := by
    show (w.heap.push _)[w.heap.size]? = _
    simp
  go_enter Tryd.func14, Tryd.ntmps14
  go_wp2
  clear d0 d1 d2 d3 d4 e0 c0 c1 c2 c3 c4 g0
  go_loopw [5, 6] (fun v i wr => ∃ (j : Nat) (A : Option Addr) (c' : Nat) (L' : List En), j ≤ keepK k.T n ∧ i = .int .i64 j ∧ v = .slice A L'.length c' ∧ FlAt wr O A L' ∧ L'.map En.pr = ((k.T.take j).foldl doingP k.S) ∧ L'.length ≤ LS.length + j ∧ Below w.heap.size w wr ∧ wr.heap[w.heap.size]? = some (.cells #[.int .i64 5, .string name, .string to, .slice q bs.length qc, .int .i64 n] 35) ∧ w.heap.size + 1 ≤ wr.heap.size) (fun _ i _ => keepK k.T n - (intOf i).toNat)
  case atStart => exact ⟨0, pS, cS, LS, Nat.zero_le _, rfl, rfl, h4.below hB0, by simp [h5], by omega, hB0, bx0, by simp⟩
  case round =>
    obtain ⟨j, A, c', L', hj, rfl, rfl, hA, hm, hlen, hB, hbx, hz⟩ := hrel
    have HM := Lib.hid hm
    have HLn := Lib.hid hlen
    clear hm hlen
    have hKr : wr.heap[Kb]? = some (.cells #[.slice pN LN.length cN, .slice pS LS.length cS, .slice pT TT.length cT, .int .i64 k.st, .int .i64 k.sp] 30) := (hB.block Kb hlt).trans h1
    have d2 : wr.cell? ⟨Kb, 2, none⟩ = some (.slice pT TT.length cT) := by simp [World.cell?, hKr]
    have b4 : wr.cell? ⟨w.heap.size, 4, none⟩ = some (.int .i64 n) := by simp [World.cell?, hbx]
    have hkk : keepK k.T n ≤ TT.length := by unfold keepK; rw [← h7]; simp; omega
    have hkn : (keepK k.T n : Int) = min (max n 0) TT.length := by unfold keepK; rw [← h7]; simp; omega
    by_cases hlt2 : j < keepK k.T n
    · have i1 : (j : Int) < TT.length := by omega
      have i2 : (j : Int) < n := by omega
      have hjT : j < TT.length := by omega
      have hT6 : WlAt wr O pT TT := h6.keep (fun b hl _ => hB.block b hl) (fun _ _ h => h)
      rcases hT6 with hT6 | ⟨tb, to', rfl, hto, hT6⟩
      · rw [hT6] at hjT; simp at hjT
      obtain ⟨⟨t0, t1, t2, t3, t4⟩, t5⟩ := hT6 j hjT
      have HDO := doing_any wr O (fun b hb' => hO b (by omega)) A c' L' hA (by have := HLn.out; omega) L'.length rfl TT[j].k TT[j].q TT[j].c t5
      have HT1 : Hid ((k.T.take (j + 1)).foldl doingP k.S = doingP ((k.T.take j).foldl doingP k.S) TT[j].k) := by
        show _ = _
        have hjk : j < k.T.length := by rw [← h7]; simpa using hjT
        rw [List.take_succ_eq_append_getElem hjk, List.foldl_append]
        have : k.T[j] = TT[j].k := by simp [← h7]
        rw [this]; rfl
      clear hT6
      generalize TT[j] = y at *
      obtain ⟨⟨yk, yn, yt, yb, yN⟩, yq, yc⟩ := y
      unfold wkV at HDO
      simp only at HDO t0 t1 t2 t3 t4
      have HDO' := Lib.hid HDO
      clear HDO
      go_wp2_with (go_at_call 36; refine HDO'.out.mono ?_; rintro e w5 ⟨A5, c5, L5, rfl, g1, g2, g3, g4⟩)
      have hB5 : Below w.heap.size w w5 := hB.trans (g4.mono hB.size)
      have bx5 := (g4.block w.heap.size (by omega)).trans hbx
      have hz5 := g4.size
      go_roundw
      case rel => exact ⟨j + 1, A5, c5, L5, by omega, by go_num, rfl, g1, by rw [HT1.out, g2, HM.out], by have := HLn.out; omega, hB5, bx5, by omega⟩
      case measure => simp [intOf]; omega
    · have hje : j = keepK k.T n := by omega
      have hdo : doP k ⟨5, name, to, bs, n⟩ = (0, ⟨(k.T.take j).foldl doingP k.S, (k.T.take j).foldl doingP k.S, [], 0, -1⟩) := by unfold doP; rw [if_pos rfl, hje]
      have HDo := Lib.hid hdo
      clear hdo
      have d0 : wr.cell? ⟨Kb, 0, none⟩ = some (.slice pN LN.length cN) := by simp [World.cell?, hKr]
      have d1 : wr.cell? ⟨Kb, 1, none⟩ = some (.slice pS LS.length cS) := by simp [World.cell?, hKr]
      have d3 : wr.cell? ⟨Kb, 3, none⟩ = some (.int .i64 k.st) := by simp [World.cell?, hKr]
      have d4 : wr.cell? ⟨Kb, 4, none⟩ = some (.int .i64 k.sp) := by simp [World.cell?, hKr]
      have e0 : ∀ o, wr.frozen? ⟨Kb, o, none⟩ = false := fun o => by simp [World.frozen?, hKr]
      have fr : Fr [Kb] w wr := Fr.below hB
      have HFI : Hid (KEnd w O Kb (0, ⟨(k.T.take j).foldl doingP k.S, (k.T.take j).foldl doingP k.S, [], 0, -1⟩) (.returned (.int .i64 0)) (((((wr.setCell ⟨Kb, 0, none⟩ (.slice A L'.length c')).setCell ⟨Kb, 1, none⟩ (.slice A L'.length c')).setCell ⟨Kb, 2, none⟩ (.slice none 0 0)).setCell ⟨Kb, 3, none⟩ (.int .i64 0)).setCell ⟨Kb, 4, none⟩ (.int .i64 (-1)))) := by
        have fz : Fr [Kb] w (((((wr.setCell ⟨Kb, 0, none⟩ (.slice A L'.length c')).setCell ⟨Kb, 1, none⟩ (.slice A L'.length c')).setCell ⟨Kb, 2, none⟩ (.slice none 0 0)).setCell ⟨Kb, 3, none⟩ (.int .i64 0)).setCell ⟨Kb, 4, none⟩ (.int .i64 (-1))) := ((((fr.setCell (.inl (by simp)) _).setCell (.inl (by simp)) _).setCell (.inl (by simp)) _).setCell (.inl (by simp)) _).setCell (.inl (by simp)) _
        have hk : ∀ b, b < wr.heap.size → O b → (((((wr.setCell ⟨Kb, 0, none⟩ (.slice A L'.length c')).setCell ⟨Kb, 1, none⟩ (.slice A L'.length c')).setCell ⟨Kb, 2, none⟩ (.slice none 0 0)).setCell ⟨Kb, 3, none⟩ (.int .i64 0)).setCell ⟨Kb, 4, none⟩ (.int .i64 (-1))).heap[b]? = wr.heap[b]? := fun b _ ho => by
          have hb' := hOK b ho
          rw [Below.heap_setCell _ _ _ _ hb', Below.heap_setCell _ _ _ _ hb', Below.heap_setCell _ _ _ _ hb', Below.heap_setCell _ _ _ _ hb', Below.heap_setCell _ _ _ _ hb']
        refine ⟨rfl, ⟨A, c', L', A, c', L', none, 0, [], ?_, hA.keep hk (fun _ _ h => h), HM.out, hA.keep hk (fun _ _ h => h), HM.out, .inl rfl, rfl, by simp, fun _ => rfl⟩, fz⟩
        simp [World.setCell, Array.getElem?_modify, hKr]
      by_cases i1 : (j : Int) < TT.length
      · have i2 : ¬ (j : Int) < n := by omega
        go_wp2
        rw [← HR.out, HDo.out]
        exact HFI.out
      · go_wp2
        rw [← HR.out, HDo.out]
        exact HFI.out
end
end Go.Proofs.YthlaccicdbbeeaaDoor
