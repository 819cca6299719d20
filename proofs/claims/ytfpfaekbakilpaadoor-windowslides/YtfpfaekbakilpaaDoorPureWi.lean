/- The document's panes: from the first one on, put into a row that rises. Plain mathematics. -/
import Derived.Test.YtfpfaekbakilpaaDoorPureWc
namespace Go.Proofs.YtfpfaekbakilpaaDoor
set_option linter.unusedVariables false

def dStep (size by_ mark : Int) (r : Rg) (L : List Pn) (j : Nat) : List Pn := if j < nP r.tm size by_ then upd size mark r L (frm r.tm by_ j) else L
theorem dStep_ris {size by_ mark : Int} {r : Rg} {L : List Pn} (h : RisH L) (j : Nat) : RisH (dStep size by_ mark r L j) := by
  unfold dStep; split
  · exact upd_ris h _
  · exact h
theorem dStep_comm {size by_ mark : Int} {r : Rg} {L : List Pn} (h : RisH L) (i j : Nat) : dStep size by_ mark r (dStep size by_ mark r L i) j = dStep size by_ mark r (dStep size by_ mark r L j) i := by
  unfold dStep
  by_cases hi : i < nP r.tm size by_ <;> by_cases hj : j < nP r.tm size by_ <;> simp only [hi, hj, if_true, if_false]
  exact upd_comm h r r _ _
theorem dfold_mid {size by_ mark : Int} {r : Rg} : ∀ (l : List Nat) (L : List Pn) (a : Nat), RisH L → l.foldl (dStep size by_ mark r) (dStep size by_ mark r L a) = dStep size by_ mark r (l.foldl (dStep size by_ mark r) L) a
  | [], _, _, _ => rfl
  | b :: l, L, a, h => by
    simp only [List.foldl_cons]
    rw [dStep_comm h, dfold_mid l _ a (dStep_ris h b)]
theorem dfold_rev {size by_ mark : Int} {r : Rg} : ∀ (l : List Nat) (L : List Pn), RisH L → l.reverse.foldl (dStep size by_ mark r) L = l.foldl (dStep size by_ mark r) L
  | [], _, _ => rfl
  | b :: l, L, h => by
    rw [List.reverse_cons, List.foldl_append, dfold_rev l L h]
    simp only [List.foldl_cons, List.foldl_nil]
    rw [dfold_mid l L b h]
/-- The document's way: of 18 places from the first one on. -/
def docTo (size by_ mark : Int) (r : Rg) (L : List Pn) : Nat → List Pn
  | 0 => L
  | m + 1 => dStep size by_ mark r (docTo size by_ mark r L m) (17 - m)
theorem docTo_ris {size by_ mark : Int} {r : Rg} {L : List Pn} (h : RisH L) : ∀ m, RisH (docTo size by_ mark r L m)
  | 0 => h
  | m + 1 => dStep_ris (docTo_ris h m) _
theorem docTo_fold {size by_ mark : Int} {r : Rg} {L : List Pn} : ∀ m, docTo size by_ mark r L m = ((List.range m).map (17 - ·)).foldl (dStep size by_ mark r) L
  | 0 => rfl
  | m + 1 => by
    rw [List.range_succ, List.map_append, List.foldl_append, ← docTo_fold m]; rfl
theorem dfold_take {size by_ mark : Int} {r : Rg} {L : List Pn} : ∀ m, (List.range m).foldl (dStep size by_ mark r) L = takeTo size by_ mark r L (min m (nP r.tm size by_))
  | 0 => by rw [Nat.zero_min]; rfl
  | m + 1 => by
    rw [List.range_succ, List.foldl_append, dfold_take m]
    show dStep size by_ mark r _ m = _
    unfold dStep
    split
    · rename_i h
      rw [Nat.min_eq_left (by omega), Nat.min_eq_left (by omega), takeTo_succ]
    · rename_i h
      rw [Nat.min_eq_right (by omega), Nat.min_eq_right (by omega)]
theorem doc_take {size by_ mark : Int} {r : Rg} {L : List Pn} (h : RisH L) (h1 : 1 ≤ by_) (hs : size ≤ 16 * by_) : docTo size by_ mark r L 18 = takeP size by_ mark r L := by
  rw [docTo_fold]
  have e : (List.range 18).map (17 - ·) = (List.range 18).reverse := by decide
  rw [e, dfold_rev _ _ h, dfold_take]
  have := nP_le (t := r.tm) h1 hs
  rw [Nat.min_eq_right (by omega)]; rfl
theorem docTo_len {size by_ mark : Int} {r : Rg} {L : List Pn} (h : RisH L) : ∀ m, (docTo size by_ mark r L m).length ≤ L.length + m
  | 0 => Nat.le_refl _
  | m + 1 => by
    have := docTo_len (size := size) (by_ := by_) (mark := mark) (r := r) h m
    have h2 := docTo_ris (size := size) (by_ := by_) (mark := mark) (r := r) h m
    show (dStep size by_ mark r _ _).length ≤ _
    unfold dStep
    split
    · have := upd_len (size := size) (mark := mark) (r := r) h2 (frm r.tm by_ (17 - m)); omega
    · omega
/-- Where one is to be put: behind all that lie ahead. -/
theorem put_at {L : List Pn} (hl : RisH L) (h : Pn) (k : Nat) (hk : k ≤ L.length) (h1 : ∀ i (hi : i < k), Ah (L[i]'(by omega)) h) :
    (∀ hlt : k < L.length, Sm L[k] h → putP L h = L.take k ++ h :: L.drop (k + 1) ∧ findH L h.fr h.key = some L[k]) ∧
    ((∀ hlt : k < L.length, Ah h L[k]) → putP L h = L.take k ++ h :: L.drop k ∧ findH L h.fr h.key = none) := by
  have eL : L = L.take k ++ L.drop k := (List.take_append_drop k L).symm
  have hT : ∀ x ∈ L.take k, Ah x h := fun x hx => by
    obtain ⟨i, hi, rfl⟩ := List.mem_take_iff_getElem.1 hx
    exact h1 i (by omega)
  have fT1 : (L.take k).filter (fun x => decide (Ah x h)) = L.take k := List.filter_eq_self.2 (fun x hx => decide_eq_true (hT x hx))
  have fT2 : (L.take k).filter (fun x => decide (Ah h x)) = [] := List.filter_eq_nil_iff.2 (fun x hx => by simpa using (hT x hx).asym)
  have hP : (L.drop k).Pairwise Ah := List.Pairwise.sublist (List.drop_sublist k L) hl
  constructor
  · intro hlt hs
    have ed : L.drop k = L[k] :: L.drop (k + 1) := (List.getElem_cons_drop (h := hlt)).symm
    rw [ed] at hP
    obtain ⟨p1, -⟩ := List.pairwise_cons.1 hP
    have hD : ∀ x ∈ L.drop (k + 1), Ah h x := fun x hx => (p1 x hx).left hs
    have fD1 : (L.drop (k + 1)).filter (fun x => decide (Ah x h)) = [] := List.filter_eq_nil_iff.2 (fun x hx => by simpa using (hD x hx).asym)
    have fD2 : (L.drop (k + 1)).filter (fun x => decide (Ah h x)) = L.drop (k + 1) := List.filter_eq_self.2 (fun x hx => decide_eq_true (hD x hx))
    have n1 : ¬ Ah L[k] h := fun e => e.notSm hs
    have n2 : ¬ Ah h L[k] := fun e => e.notSm hs.symm
    refine ⟨?_, (findH_iff hl _ _ _).2 ⟨List.getElem_mem hlt, hs.1, hs.2⟩⟩
    unfold putP
    conv => lhs; rw [eL, ed]
    rw [List.filter_append, List.filter_append, List.filter_cons, List.filter_cons, fT1, fT2, fD1, fD2]
    simp [n1, n2]
  · intro hA
    have hD : ∀ x ∈ L.drop k, Ah h x := fun x hx => by
      by_cases hlt : k < L.length
      · have ed : L.drop k = L[k] :: L.drop (k + 1) := (List.getElem_cons_drop (h := hlt)).symm
        rw [ed] at hP hx
        obtain ⟨p1, -⟩ := List.pairwise_cons.1 hP
        rcases List.mem_cons.1 hx with rfl | hx
        · exact hA hlt
        · exact (hA hlt).trans (p1 x hx)
      · rw [List.drop_eq_nil_of_le (by omega)] at hx; simp at hx
    have fD1 : (L.drop k).filter (fun x => decide (Ah x h)) = [] := List.filter_eq_nil_iff.2 (fun x hx => by simpa using (hD x hx).asym)
    have fD2 : (L.drop k).filter (fun x => decide (Ah h x)) = L.drop k := List.filter_eq_self.2 (fun x hx => decide_eq_true (hD x hx))
    constructor
    · unfold putP
      conv => lhs; rw [eL]
      rw [List.filter_append, List.filter_append, fT1, fT2, fD1, fD2]
      simp
    · rw [findH_none]
      intro x hx ⟨e1, e2⟩
      have hs : Sm x h := ⟨e1, e2⟩
      rw [eL] at hx
      rcases List.mem_append.1 hx with hx | hx
      · exact (hT x hx).notSm hs
      · exact (hD x hx).notSm hs.symm
/-- The document's state behind some records. -/
def docS2 (size by_ slack : Int) (l : List Rg) (k : Nat) : List Pn × Int := slS size by_ slack (l.take k)
end Go.Proofs.YtfpfaekbakilpaaDoor
