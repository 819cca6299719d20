/- The document's marks: counted anew for each record. Plain mathematics. -/
import Derived.Test.YtfpfaekbakilpaaDoorPureWf
namespace Go.Proofs.YtfpfaekbakilpaaDoor
set_option linter.unusedVariables false

def neB (l : List Rg) : Bool := !l.isEmpty
/-- What is told in one turn: of those ahead one more came. -/
def turnO (slack : Int) (t : Nat) : List (List Rg) → List (List Rg) → List Int
  | pre, [] => []
  | pre, x :: post => (if t < x.length then [minL ((pre.filter neB).map (fun l => mkM slack l (t + 1)) ++ mkM slack x (t + 1) :: (post.filter neB).map (fun l => mkM slack l t))] else []) ++ turnO slack t (pre ++ [x]) post
theorem turnO_filter (slack : Int) (t : Nat) : ∀ (post pre : List (List Rg)), turnO slack t pre post = turnO slack t (pre.filter neB) (post.filter neB)
  | [], pre => rfl
  | x :: post, pre => by
    have ih := turnO_filter slack t post (pre ++ [x])
    cases x with
    | nil =>
      have e : (([] : List Rg) :: post).filter neB = post.filter neB := rfl
      rw [e]
      have e2 : (pre ++ [([] : List Rg)]).filter neB = pre.filter neB := by rw [List.filter_append]; simp [neB]
      rw [e2] at ih
      show (if t < 0 then _ else []) ++ turnO slack t (pre ++ [[]]) post = _
      rw [if_neg (by omega), ih]; rfl
    | cons r x =>
      have e : ((r :: x) :: post).filter neB = (r :: x) :: post.filter neB := rfl
      have e2 : (pre ++ [r :: x]).filter neB = pre.filter neB ++ [r :: x] := by rw [List.filter_append]; rfl
      rw [e2] at ih
      rw [e]
      show (if t < (r :: x).length then _ else []) ++ turnO slack t (pre ++ [r :: x]) post = (if t < (r :: x).length then _ else []) ++ turnO slack t (pre.filter neB ++ [r :: x]) (post.filter neB)
      rw [ih, List.filter_filter, List.filter_filter]
      simp
theorem mkM_over (slack : Int) (l : List Rg) (t : Nat) (h : l.length ≤ t) : mkM slack l (t + 1) = mkM slack l t := by
  unfold mkM; rw [List.take_of_length_le (by omega), List.take_of_length_le h]
/-- One turn, input by input. -/
theorem mkTurn_out (slack : Int) (t : Nat) (told : List Int) : ∀ (post pre : List (List Rg)), (∀ l ∈ pre ++ post, neB l = true) →
    (mkTurn slack (pre ++ post) t ((pre ++ post).map (fun l => mkM slack l t), told) pre.length).1 = pre.map (fun l => mkM slack l (t + 1)) ++ post.map (fun l => mkM slack l t) →
    (mkTurn slack (pre ++ post) t ((pre ++ post).map (fun l => mkM slack l t), told) (pre ++ post).length) = ((pre ++ post).map (fun l => mkM slack l (t + 1)), (mkTurn slack (pre ++ post) t ((pre ++ post).map (fun l => mkM slack l t), told) pre.length).2 ++ turnO slack t pre post)
  | [], pre, _, h => by
    simp only [List.append_nil, List.map_nil] at h ⊢
    simp only [turnO, List.append_nil]
    exact Prod.ext h rfl
  | x :: post, pre, hne, h => by
    have e : pre ++ x :: post = (pre ++ [x]) ++ post := by simp
    have hget : ((pre ++ x :: post).getD pre.length [])[t]? = x[t]? := by simp
    have hstep : mkTurn slack (pre ++ x :: post) t ((pre ++ x :: post).map (fun l => mkM slack l t), told) (pre.length + 1) = (match x[t]? with | some r => mkStep slack (mkTurn slack (pre ++ x :: post) t ((pre ++ x :: post).map (fun l => mkM slack l t), told) pre.length) pre.length r.tm | none => mkTurn slack (pre ++ x :: post) t ((pre ++ x :: post).map (fun l => mkM slack l t), told) pre.length) := by
      show (match ((pre ++ x :: post).getD pre.length [])[t]? with | some r => mkStep slack (mkTurn slack (pre ++ x :: post) t ((pre ++ x :: post).map (fun l => mkM slack l t), told) pre.length) pre.length r.tm | none => mkTurn slack (pre ++ x :: post) t ((pre ++ x :: post).map (fun l => mkM slack l t), told) pre.length) = _
      rw [hget]
    have hfp : pre.filter neB = pre := List.filter_eq_self.2 (fun l hl => hne l (by simp [hl]))
    have hfq : post.filter neB = post := List.filter_eq_self.2 (fun l hl => hne l (by simp [hl]))
    have hone : (mkTurn slack (pre ++ x :: post) t ((pre ++ x :: post).map (fun l => mkM slack l t), told) (pre.length + 1)) = ((pre ++ [x]).map (fun l => mkM slack l (t + 1)) ++ post.map (fun l => mkM slack l t), (mkTurn slack (pre ++ x :: post) t ((pre ++ x :: post).map (fun l => mkM slack l t), told) pre.length).2 ++ (if t < x.length then [minL ((pre.filter neB).map (fun l => mkM slack l (t + 1)) ++ mkM slack x (t + 1) :: (post.filter neB).map (fun l => mkM slack l t))] else [])) := by
      rw [hstep]
      generalize mkTurn slack (pre ++ x :: post) t ((pre ++ x :: post).map (fun l => mkM slack l t), told) pre.length = S at *
      obtain ⟨S1, S2⟩ := S
      simp only at h
      subst h
      by_cases ht : t < x.length
      · have hs : (pre.map (fun l => mkM slack l (t + 1)) ++ (x :: post).map (fun l => mkM slack l t)).set pre.length (mkM slack x (t + 1)) = (pre ++ [x]).map (fun l => mkM slack l (t + 1)) ++ post.map (fun l => mkM slack l t) := by
          rw [List.set_append_right _ _ (by simp)]; simp
        have hg : (pre.map (fun l => mkM slack l (t + 1)) ++ (x :: post).map (fun l => mkM slack l t)).getD pre.length 0 = mkM slack x t := by
          rw [List.getD_eq_getElem?_getD, List.getElem?_append_right (by simp)]; simp
        rw [List.getElem?_eq_getElem ht, if_pos ht]
        simp only [mkStep]
        rw [hg, ← mkM_succ slack x t ht, hs, hfp, hfq]
        simp
      · rw [List.getElem?_eq_none (by omega), if_neg ht]
        simp only [List.append_nil]
        refine Prod.ext ?_ rfl
        simp [mkM_over slack x t (by omega)]
    have ih := mkTurn_out slack t told post (pre ++ [x]) (by rw [← e]; exact hne) (by
      rw [← e]
      have hl : (pre ++ [x]).length = pre.length + 1 := by simp
      rw [hl, hone])
    rw [← e] at ih
    have hl : (pre ++ [x]).length = pre.length + 1 := by simp
    rw [hl] at ih
    rw [ih, hone]
    simp only [turnO, List.append_assoc]
theorem mkAll_out (slack : Int) (ins : List (List Rg)) (hne : ∀ l ∈ ins, neB l = true) : ∀ t, mkAll slack ins t = (ins.map (fun l => mkM slack l t), (List.range t).flatMap (fun k => turnO slack k [] ins))
  | 0 => by
    have : ins.map (fun l => mkM slack l 0) = List.replicate ins.length 0 := by
      have h0 : ∀ l : List Rg, mkM slack l 0 = 0 := fun l => rfl
      simp only [h0]
      exact List.map_const'
    show (List.replicate ins.length 0, []) = _
    rw [this]; rfl
  | t + 1 => by
    have ih := mkAll_out slack ins hne t
    show mkTurn slack ins t (mkAll slack ins t) ins.length = _
    rw [ih]
    have := mkTurn_out slack t ((List.range t).flatMap (fun k => turnO slack k [] ins)) ins [] (by simpa using hne) (by rfl)
    simp only [List.nil_append, List.length_nil] at this
    rw [this, List.range_succ, List.flatMap_append]
    simp [mkTurn]
theorem turnO_none (slack : Int) (t : Nat) : ∀ (post pre : List (List Rg)), (∀ l ∈ post, l.length ≤ t) → turnO slack t pre post = []
  | [], _, _ => rfl
  | x :: post, pre, h => by
    show (if t < x.length then _ else []) ++ turnO slack t (pre ++ [x]) post = []
    have := h x (by simp)
    rw [if_neg (by omega), turnO_none slack t post (pre ++ [x]) (fun l hl => h l (by simp [hl]))]; rfl
theorem longL_ge (ins : List (List Rg)) : ∀ l ∈ ins, l.length ≤ longL ins := by
  have : ∀ (ins : List (List Rg)) (m : Nat), m ≤ ins.foldl (fun m l => max m l.length) m ∧ ∀ l ∈ ins, l.length ≤ ins.foldl (fun m l => max m l.length) m := by
    intro ins
    induction ins with
    | nil => intro m; exact ⟨Nat.le_refl _, by simp⟩
    | cons x ins ih =>
      intro m
      obtain ⟨h1, h2⟩ := ih (max m x.length)
      refine ⟨by simp only [List.foldl_cons]; omega, fun l hl => ?_⟩
      simp only [List.foldl_cons]
      rcases List.mem_cons.1 hl with rfl | hl
      · omega
      · exact h2 l hl
  exact (this ins 0).2
/-- The document's way. -/
def docMk (slack : Int) (ins : List (List Rg)) : List Int := (List.range 400).flatMap (fun k => turnO slack k [] ins)
theorem least_doc (slack : Int) (ins : List (List Rg)) (h : ∀ l ∈ ins, l.length ≤ 400) : leastP slack (ins.filter neB) = docMk slack ins := by
  unfold leastP
  rw [mkAll_out slack _ (fun l hl => (List.mem_filter.1 hl).2)]
  have hle : longL (ins.filter neB) ≤ 400 := longL_le _ 400 (fun l hl => h l (List.mem_filter.1 hl).1)
  unfold docMk
  have e : 400 = longL (ins.filter neB) + (400 - longL (ins.filter neB)) := by omega
  rw [e, List.range_add, List.flatMap_append]
  have h0 : ((List.range (400 - longL (ins.filter neB))).map (longL (ins.filter neB) + ·)).flatMap (fun k => turnO slack k [] ins) = [] := by
    rw [List.flatMap_eq_nil_iff]
    intro k hk
    obtain ⟨j, -, rfl⟩ := List.mem_map.1 hk
    rw [turnO_filter]
    exact turnO_none slack _ _ _ (fun l hl => by have := longL_ge _ l hl; omega)
  rw [h0, List.append_nil]
  simp only
  congr 1
  funext k
  rw [turnO_filter slack k ins []]
  rfl
end Go.Proofs.YtfpfaekbakilpaaDoor
