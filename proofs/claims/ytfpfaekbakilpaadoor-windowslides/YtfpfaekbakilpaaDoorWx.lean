/- WindowGaps walked. -/
import Derived.Test.YtfpfaekbakilpaaDoorWv
namespace Go.Proofs.YtfpfaekbakilpaaDoor
open Go.RowKit
set_option linter.unusedVariables false

theorem sumF_reverse (f : Pn → Int) (L : List Pn) : sumF f L.reverse = sumF f L := by
  induction L with
  | nil => rfl
  | cons x L ih => rw [List.reverse_cons, sumF_append, ih, sumF_cons, sumF_cons, sumF_nil]; omega
theorem rev_take (l : List Rg) (m : Nat) (h : m < l.length) : rcells (l.reverse.take (l.length - m)) = rcells (l.reverse.take (l.length - (m + 1))) ++ [.string l[m].key, .int .i64 l[m].num, .int .i64 l[m].tm] := by
  have e : l.length - m = l.length - (m + 1) + 1 := by omega
  rw [e, List.take_succ_eq_append_getElem (by simp; omega), rcells_append, List.getElem_reverse]
  have e2 : l.length - 1 - (l.length - (m + 1)) = m := by omega
  simp only [e2, rcells]
theorem cs_two (w : World) (a b : Rg) : CsAt (w.alloc (.cells #[.string a.key, .int .i64 a.num, .int .i64 a.tm, .string b.key, .int .i64 b.num, .int .i64 b.tm] 47)) (some ⟨w.heap.size, 0, none⟩) (rcells [a, b]) := by
  refine .inr ⟨_, _, rfl, fun j u hu => ?_⟩
  match j, hu with
  | 0, hu => simp [rcells] at hu; subst hu; simp
  | 1, hu => simp [rcells] at hu; subst hu; simp
  | 2, hu => simp [rcells] at hu; subst hu; simp
  | 3, hu => simp [rcells] at hu; subst hu; simp
  | 4, hu => simp [rcells] at hu; subst hu; simp
  | 5, hu => simp [rcells] at hu; subst hu; simp
  | j + 6, hu => simp [rcells] at hu
theorem fact79 : sesR 3 [⟨⟨#[97]⟩, 0, 7⟩, ⟨⟨#[97]⟩, 0, 9⟩] = [⟨⟨#[97]⟩, 7, 12, 2, 0, 0⟩] := by kernel_rfl
theorem recs79 : recsE [⟨⟨#[97]⟩, 0, 7⟩, ⟨⟨#[97]⟩, 0, 9⟩] = 0 := by decide +kernel
theorem srt79 : SrtR [⟨⟨#[97]⟩, 0, 7⟩, ⟨⟨#[97]⟩, 0, 9⟩] := by
  unfold SrtR
  refine List.pairwise_cons.2 ⟨fun b hb => ?_, List.pairwise_cons.2 ⟨fun b hb => by simp at hb, List.Pairwise.nil⟩⟩
  simp at hb
  subst hb
  decide +kernel
theorem first_session (w : World) : Calls Tryd.prog 12 #[.slice (some ⟨w.heap.size, 0, none⟩) 2 2, .int .i64 3] (w.alloc (.cells #[.string ⟨#[97]⟩, .int .i64 0, .int .i64 7, .string ⟨#[97]⟩, .int .i64 0, .int .i64 9] 47)) fun e w' => ∃ b o cap, e = .returned (.tuple #[.slice (some ⟨b, o, none⟩) 1 cap, .nilIface]) ∧ w'.cell? ⟨b, o + 2, none⟩ = some (.int .i64 12) ∧ w'.cell? ⟨b, o + 3, none⟩ = some (.int .i64 2) ∧ Below w.heap.size w w' := by
  have h := session_yes (w.alloc (.cells #[.string ⟨#[97]⟩, .int .i64 0, .int .i64 7, .string ⟨#[97]⟩, .int .i64 0, .int .i64 9] 47)) (some ⟨w.heap.size, 0, none⟩) 2 [⟨⟨#[97]⟩, 0, 7⟩, ⟨⟨#[97]⟩, 0, 9⟩] 3 (cs_two w ⟨⟨#[97]⟩, 0, 7⟩ ⟨⟨#[97]⟩, 0, 9⟩) recs79 (by decide)
  refine Calls.mono h ?_
  rintro e w' ⟨A, cap, ys, rfl, hC, hp, hs, hb⟩
  have e1 : sesP 3 ys = [⟨⟨#[97]⟩, 7, 12, 2, 0, 0⟩] := by
    unfold sesP
    rw [ses_perm (by omega) hp hs srt79, fact79]; rfl
  rw [e1] at hC ⊢
  obtain ⟨b, o, rfl, -, -, c2, c3, -⟩ := pns_at hC 0 (by simp)
  exact ⟨b, o, cap, rfl, by simpa using c2, by simpa using c3, below_after hb ((Below.refl _ _).alloc (Nat.le_refl _) _)⟩
/-- The panes of a session, in a word that hangs on no order. -/
theorem session_all (w : World) (la : Option Addr) (c : Nat) (l ys0 : List Rg) (gap : Int) (h : CsAt w la (rcells l)) (hE : recsE l = 0) (hs : spanB gap = true) (hp0 : ys0.Perm l) (hs0 : SrtR ys0) :
    Calls Tryd.prog 12 #[.slice la l.length c, .int .i64 gap] w fun e w' => ∃ A cap, e = .returned (.tuple #[.slice A (sesP gap ys0).length cap, .nilIface]) ∧ CsAt w' A (pcells (sesP gap ys0)) ∧ Below w.heap.size w w' := by
  have a1 : 1 ≤ gap ∧ gap ≤ 1000000 := by unfold spanB at hs; simpa using hs
  refine (session_yes w la c l gap h hE hs).mono ?_
  rintro e w' ⟨A, cap, ys, rfl, h1, h2, h3, h4⟩
  have e1 : sesP gap ys = sesP gap ys0 := by unfold sesP; rw [ses_perm a1.1 (h2.trans hp0.symm) h3 hs0]
  rw [e1] at h1 ⊢
  exact ⟨A, cap, rfl, h1, h4⟩
/-- There is a sorted one. -/
theorem srt_ex (l : List Rg) : ∃ ys : List Rg, ys.Perm l ∧ SrtR ys := by
  induction l with
  | nil => exact ⟨[], List.Perm.refl _, List.Pairwise.nil⟩
  | cons a l ih =>
    obtain ⟨ys, h1, h2⟩ := ih
    refine ⟨ys.filter (fun x => decide (¬ AhR a x)) ++ a :: ys.filter (fun x => decide (AhR a x)), ?_, ?_⟩
    · refine List.perm_middle.trans (List.Perm.cons _ ?_)
      refine List.Perm.trans ?_ h1
      have := List.filter_append_perm (fun x => decide (¬ AhR a x)) ys
      have e : (fun x => !decide (¬ AhR a x)) = (fun x => decide (AhR a x)) := by funext x; simp
      rw [e] at this
      exact this
    · refine List.pairwise_append.2 ⟨h2.filter _, List.pairwise_cons.2 ⟨fun b hb => ?_, h2.filter _⟩, fun x hx y hy => ?_⟩
      · have : AhR a b := by simpa using (List.mem_filter.1 hb).2
        intro h
        exact AhK.irr _ _ (AhK.trans h this)
      · have hx1 : ¬ AhR a x := by simpa using (List.mem_filter.1 hx).2
        rcases List.mem_cons.1 hy with rfl | hy
        · exact hx1
        · have hy1 : AhR a y := by simpa using (List.mem_filter.1 hy).2
          intro h
          exact hx1 (AhK.trans hy1 h)
end Go.Proofs.YtfpfaekbakilpaaDoor
