/- A step of the document's Slide: where the pane is, and what becomes of it. Plain mathematics. -/
import Derived.Test.YtfpfaekbakilpaaDoorPureWm
namespace Go.Proofs.YtfpfaekbakilpaaDoor
set_option linter.unusedVariables false

/-- The beginning of the place that comes at step m. -/
def frmM (t by_ : Int) (m : Nat) : Int := t / by_ * by_ - 17 * by_ + m * by_
theorem frmM_succ (t by_ : Int) (m : Nat) : frmM t by_ m + by_ = frmM t by_ (m + 1) := by
  unfold frmM
  rw [show ((m + 1 : Nat) : Int) = (m : Int) + 1 from by omega, Int.add_mul]; omega
theorem frmM_zero (t by_ : Int) : t / by_ * by_ - 17 * by_ = frmM t by_ 0 := by unfold frmM; simp
theorem frmM_frm (t by_ : Int) (m : Nat) (h : m ≤ 17) : frmM t by_ m = frm t by_ (17 - m) := by
  unfold frmM frm
  have e : ((17 - m : Nat) : Int) = 17 - (m : Int) := by omega
  rw [e, Int.sub_mul]; omega
theorem div_bd {t by_ : Int} (h1 : 1 ≤ by_) (h0 : 0 ≤ t) : 0 ≤ t / by_ ∧ t / by_ ≤ t ∧ 0 ≤ t / by_ * by_ ∧ t / by_ * by_ ≤ t ∧ t < t / by_ * by_ + by_ := by
  have e := Int.mul_ediv_add_emod t by_
  have m0 := Int.emod_nonneg t (show by_ ≠ 0 by omega)
  have m1 := Int.emod_lt_of_pos t (show 0 < by_ by omega)
  have d0 : 0 ≤ t / by_ := Int.ediv_nonneg h0 (by omega)
  have d1 : t / by_ ≤ t := Int.ediv_le_self _ h0
  have p0 : 0 ≤ t / by_ * by_ := Int.mul_nonneg d0 (by omega)
  rw [Int.mul_comm] at e
  omega
theorem frmM_bd {t by_ : Int} (h1 : 1 ≤ by_) (h2 : by_ ≤ 1000000) (h0 : 0 ≤ t) (ht : t ≤ 1000000) (m : Nat) (hm : m ≤ 18) : -17000000 ≤ frmM t by_ m ∧ frmM t by_ m ≤ 2000000 ∧ (m ≤ 17 → frmM t by_ m ≤ t) ∧ (m = 18 → t < frmM t by_ m) := by
  obtain ⟨-, -, d2, d3, d4⟩ := div_bd h1 h0
  unfold frmM
  have a1 : 0 ≤ (m : Int) * by_ := Int.mul_nonneg (by omega) (by omega)
  have a2 : (m : Int) * by_ ≤ 18 * by_ := Int.mul_le_mul_of_nonneg_right (by omega) (by omega)
  have a3 : m ≤ 17 → (m : Int) * by_ ≤ 17 * by_ := fun h => Int.mul_le_mul_of_nonneg_right (by omega) (by omega)
  have a4 : m = 18 → (m : Int) * by_ = 18 * by_ := fun h => by rw [h]; rfl
  refine ⟨by omega, by omega, fun h => by have := a3 h; omega, fun h => by have := a4 h; omega⟩
/-- Whether a place is one of the record's. -/
theorem frmM_in {t size by_ : Int} (h1 : 1 ≤ by_) (h0 : 0 ≤ t) (hs : 1 ≤ size) (m : Nat) (hm : m ≤ 17) : (0 ≤ frmM t by_ m ∧ t < frmM t by_ m + size) ↔ 17 - m < nP t size by_ := by
  rw [frmM_frm t by_ m hm]; exact frm_lt t size by_ h1 h0 hs _
theorem docTo_skip {size by_ mark : Int} {r : Rg} {L : List Pn} (h1 : 1 ≤ by_) (h0 : 0 ≤ r.tm) (hs : 1 ≤ size) (m : Nat) (hm : m ≤ 17) (hn : ¬ (0 ≤ frmM r.tm by_ m ∧ r.tm < frmM r.tm by_ m + size)) : docTo size by_ mark r L (m + 1) = docTo size by_ mark r L m := by
  show dStep size by_ mark r _ (17 - m) = _
  unfold dStep
  rw [if_neg (fun h => hn ((frmM_in h1 h0 hs m hm).2 h))]
theorem docTo_upd {size by_ mark : Int} {r : Rg} {L : List Pn} (h1 : 1 ≤ by_) (h0 : 0 ≤ r.tm) (hs : 1 ≤ size) (m : Nat) (hm : m ≤ 17) (hn : 0 ≤ frmM r.tm by_ m ∧ r.tm < frmM r.tm by_ m + size) : docTo size by_ mark r L (m + 1) = upd size mark r (docTo size by_ mark r L m) (frmM r.tm by_ m) := by
  show dStep size by_ mark r _ (17 - m) = _
  unfold dStep
  rw [if_pos ((frmM_in h1 h0 hs m hm).1 hn), ← frmM_frm r.tm by_ m hm]
theorem upd_to {size mark : Int} {r : Rg} {L : List Pn} (h : ∀ p ∈ L, p.to = p.fr + size) (fr : Int) : ∀ p ∈ upd size mark r L fr, p.to = p.fr + size := by
  intro p hp
  unfold upd at hp
  obtain ⟨-, b2, b3⟩ := bump_at size mark r fr ((findH L fr r.key).getD pn0)
  rcases (mem_putP _ _ _).1 hp with rfl | ⟨h1, -⟩
  · rw [b2, b3]
  · exact h p h1
theorem docTo_to {size by_ mark : Int} {r : Rg} {L : List Pn} (h : ∀ p ∈ L, p.to = p.fr + size) : ∀ m, ∀ p ∈ docTo size by_ mark r L m, p.to = p.fr + size
  | 0 => h
  | m + 1 => by
    have ih := docTo_to (by_ := by_) (mark := mark) (r := r) h m
    intro p hp
    have hp' : p ∈ dStep size by_ mark r (docTo size by_ mark r L m) (17 - m) := hp
    unfold dStep at hp'
    split at hp'
    · exact upd_to ih _ p hp'
    · exact ih p hp'
/-- One that lies where the record's pane is to lie. -/
def z0 (key : ByteArray) (fr size : Int) : Pn := ⟨key, fr, fr + size, 0, 0, 0⟩
/-- What becomes of the row: found, or put there. -/
theorem upd_found {size mark : Int} {r : Rg} {L : List Pn} (hl : RisH L) (ht : ∀ p ∈ L, p.to = p.fr + size) (fr : Int) (hk : plcP L (z0 r.key fr size) < L.length) (hs : (L[plcP L (z0 r.key fr size)]).key = r.key ∧ (L[plcP L (z0 r.key fr size)]).fr = fr) :
    upd size mark r L fr = L.set (plcP L (z0 r.key fr size)) (bump size mark r fr L[plcP L (z0 r.key fr size)]) := by
  have hb := bump_at size mark r fr ((findH L fr r.key).getD pn0)
  have hA : ∀ (x y : Pn), x.key = y.key → x.fr = y.fr → ∀ z, Ah z x ↔ Ah z y := fun x y e1 e2 z => by unfold Ah; rw [e1, e2]
  have h2 := (put_at hl (bump size mark r fr ((findH L fr r.key).getD pn0)) (plcP L (z0 r.key fr size)) (plcP_le _ _) (fun i hi => (hA _ _ hb.1 hb.2.1 _).2 (plcP_lt hl (z0 r.key fr size) i hi))).1 hk ⟨hs.2.trans hb.2.1.symm, hs.1.trans hb.1.symm⟩
  rw [hb.2.1, hb.1] at h2
  unfold upd
  rw [h2.1, h2.2]
  rw [List.set_eq_take_append_cons_drop, if_pos hk]
  rfl
theorem upd_new {size mark : Int} {r : Rg} {L : List Pn} (hl : RisH L) (fr : Int) (hn : ∀ hk : plcP L (z0 r.key fr size) < L.length, ¬ ((L[plcP L (z0 r.key fr size)]).key = r.key ∧ (L[plcP L (z0 r.key fr size)]).fr = fr)) :
    upd size mark r L fr = (L.take (plcP L (z0 r.key fr size)) ++ z0 r.key fr size :: L.drop (plcP L (z0 r.key fr size))).set (plcP L (z0 r.key fr size)) (bump size mark r fr (z0 r.key fr size)) := by
  have hb := bump_at size mark r fr ((findH L fr r.key).getD pn0)
  have hA : ∀ (x y : Pn), x.key = y.key → x.fr = y.fr → ∀ z, Ah z x ↔ Ah z y := fun x y e1 e2 z => by unfold Ah; rw [e1, e2]
  have h2 := (put_at hl (bump size mark r fr ((findH L fr r.key).getD pn0)) (plcP L (z0 r.key fr size)) (plcP_le _ _) (fun i hi => (hA _ _ hb.1 hb.2.1 _).2 (plcP_lt hl (z0 r.key fr size) i hi))).2 (fun hk => by
    rcases Ah.tri (bump size mark r fr ((findH L fr r.key).getD pn0)) L[plcP L (z0 r.key fr size)] with c | c | c
    · exact c
    · exact absurd ⟨c.2.symm.trans hb.1, c.1.symm.trans hb.2.1⟩ (hn hk)
    · exact absurd ((hA _ _ hb.1 hb.2.1 _).1 c) (plcP_ge hl _ hk))
  rw [hb.2.1, hb.1] at h2
  unfold upd
  rw [h2.1, h2.2]
  have hlen : (L.take (plcP L (z0 r.key fr size))).length = plcP L (z0 r.key fr size) := by rw [List.length_take]; have := plcP_le L (z0 r.key fr size); omega
  rw [List.set_append_right _ _ (by omega), hlen, Nat.sub_self, List.set_cons_zero]
  rfl
end Go.Proofs.YtfpfaekbakilpaaDoor
