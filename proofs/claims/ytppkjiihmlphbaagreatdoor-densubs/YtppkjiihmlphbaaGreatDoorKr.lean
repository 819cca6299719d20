import Derived.Test.YtppkjiihmlphbaaGreatDoorPureQ
import Derived.Test.YtppkjiihmlphbaaGreatDoorKm
import Derived.Test.YtppkjiihmlphbaaGreatDoorRp
import Derived.Test.YtppkjiihmlphbaaGreatDoorRows
import Derived.ChangeSame
import Derived.ChangeVars
import Derived.JoinedOf
import Derived.RowKit
import Derived.RowKitTokens
import Derived.LaidLaws
import Derived.LaidHandle
import Derived.Stop.Joined
import Derived.Stop.LaidErr
import Derived.Lib.ItoaNum
import Derived.Test.YtppkjiihmlphbaaGreatDoorRa
import Derived.Deep.OwnRows
import Derived.Laws.Bits64b
import Derived.Laws.BytesArg
import Derived.Test.YtppkjiihmlphbaaGreatDoorPureK
/- Two Sources put together. -/
namespace Go.Proofs.YtppkjiihmlphbaaGreatDoor

def h0 : ByteArray := ⟨#[48, 58]⟩
def h1 : ByteArray := ⟨#[49, 58]⟩
theorem ito0 : itoB 0 ++ (⟨#[58]⟩ : ByteArray) = h0 := by decide +kernel
theorem ito1 : itoB 1 ++ (⟨#[58]⟩ : ByteArray) = h1 := by decide +kernel
theorem ba_inj {h a b : ByteArray} (e : h ++ a = h ++ b) : a = b := by
  have := congrArg (fun x => x.data.toList) e
  simp only [ByteArray.data_append, Array.toList_append] at this
  have := List.append_cancel_left this
  cases a; cases b; simp_all
theorem ba_01 (a b : ByteArray) : h0 ++ a ≠ h1 ++ b := by
  intro e
  have := congrArg (fun x => x.data.toList) e
  simp [ByteArray.data_append, h0, h1] at this
theorem h0_size (a : ByteArray) : (h0 ++ a).size = 2 + a.size := by rw [ByteArray.size_append]; rfl
theorem h1_size (a : ByteArray) : (h1 ++ a).size = 2 + a.size := by rw [ByteArray.size_append]; rfl

def uR (h : ByteArray) (r : Rc) : Rc := ⟨h ++ r.key, r.num, r.time⟩
def few (h : ByteArray) (l : List Rc) : List Rc := (l.map (uR h)).filter fun r => decide (r.key.size ≤ 40)
def uniP (a b : List Rc) : List Rc := few h0 a ++ few h1 b
def jUn : List Nd := [⟨1, [], emp, 2⟩, ⟨1, [], emp, 1⟩, ⟨6, [0, 1], emp, 0⟩, ⟨10, [2], emp, 0⟩, ⟨10, [0], emp, 0⟩, ⟨10, [1], emp, 0⟩]

theorem g_un {i : Int} {h : ByteArray} (hi : itoB i ++ (⟨#[58]⟩ : ByteArray) = h) (fs : List Int) (r : Rc) : gP ⟨6, fs, emp, 0⟩ r i = if (uR h r).key.size ≤ 40 then [uR h r] else [] := by
  unfold gP turnedP
  simp [hi]
  unfold copP uR
  by_cases hc : 40 < (h ++ r.key).size
  · rw [if_pos (.inl hc), if_neg (by simp only; omega)]
  · rw [if_neg (by simp only; omega), if_pos (by simp only; omega)]; rfl
theorem flat_un {i : Int} {h : ByteArray} (hi : itoB i ++ (⟨#[58]⟩ : ByteArray) = h) (fs : List Int) (l : List Rc) : (l.map fun x => (x, i)).flatMap (fun x => gP ⟨6, fs, emp, 0⟩ x.1 x.2) = few h l := by
  unfold few
  induction l with
  | nil => rfl
  | cons x r ih =>
    simp only [List.map_cons, List.flatMap_cons]
    rw [ih, g_un hi, List.filter_cons]
    by_cases hs : (uR h x).key.size ≤ 40 <;> simp [hs]
theorem few_len (h : ByteArray) (l : List Rc) : (few h l).length ≤ l.length := by
  unfold few; exact Nat.le_trans (List.length_filter_le _ _) (by simp)
theorem hand_un {a b : List Rc} (ha : a.length ≤ 300) (hb : b.length ≤ 300) : handP ⟨6, [0, 1], emp, 0⟩ [a, b] = some (uniP a b) := by
  have e : (tagP 0 [a, b]).flatMap (fun x => gP ⟨6, [0, 1], emp, 0⟩ x.1 x.2) = uniP a b := by
    simp only [tagP, List.append_nil, List.flatMap_append]
    rw [show ((0 : Nat) : Int) = 0 from rfl, show ((0 + 1 : Nat) : Int) = 1 from rfl, flat_un ito0, flat_un ito1]; rfl
  rw [hand_plain rfl, e, if_neg]
  have := few_len h0 a; have := few_len h1 b
  simp [uniP]; omega
theorem few_ok {h : ByteArray} {l : List Rc} : ∀ r ∈ few h l, r.key.size ≤ 40 := fun r hr => by
  have := (List.mem_filter.1 hr).2
  simpa using this
theorem job_un : jobP jUn = 0 := by decide +kernel
theorem flow_un {a b : List Rc} (ha : ∀ r ∈ a, RcOk r) (hb : ∀ r ∈ b, RcOk r) (la : a.length ≤ 300) (lb : b.length ≤ 300) : flowP jUn [a, b] [] = some [a, b, uniP a b, uniP a b, a, b] := by
  have lu : (uniP a b).length ≤ 2000 := by
    have := few_len h0 a; have := few_len h1 b
    simp [uniP]; omega
  have ku : ∀ r ∈ uniP a b, r.key.size ≤ 40 := fun r hr => by
    rcases List.mem_append.1 hr with h | h <;> exact few_ok r h
  unfold jUn
  rw [flowS (o := a) (by rw [got_src rfl]; exact hand_id rfl (fun r hr => g_same (.inl rfl) _ _ _ (ha r hr).key) (by omega))]
  rw [flowS (o := b) (by rw [got_src rfl]; exact hand_id rfl (fun r hr => g_same (.inl rfl) _ _ _ (hb r hr).key) (by omega))]
  rw [flowS (o := uniP a b) (by rw [got_oth (show (6 : Int) ≠ 1 by decide)]; exact hand_un la lb)]
  rw [flowS (o := uniP a b) (by rw [got_oth (by decide)]; exact hand_id rfl (fun r hr => g_same (.inr rfl) _ _ _ (ku r hr)) lu)]
  rw [flowS (o := a) (by rw [got_oth (by decide)]; exact hand_id rfl (fun r hr => g_same (.inr rfl) _ _ _ (ha r hr).key) (show a.length ≤ 2000 by omega))]
  rw [flowS (o := b) (by rw [got_oth (by decide)]; exact hand_id rfl (fun r hr => g_same (.inr rfl) _ _ _ (hb r hr).key) (show b.length ≤ 2000 by omega))]
  rfl
theorem unions_pure (a b : List Rc) (ha : ∀ r ∈ a, Rng r.num) (hb : ∀ r ∈ b, Rng r.num) (h : denE jUn [a, b] = 0) : denV jUn [a, b] = [linesP (uniP a b), linesP a, linesP b] := by
  have s : srcs jUn = 2 := rfl
  by_cases h1 : checkP [a, b] 2 = 0
  · have hdp : dataP [a, b] = 0 := by
      unfold checkP at h1
      simpa using h1
    obtain ⟨ok, le⟩ := data_ok hdp (fun l hl => by rcases List.mem_cons.1 hl with rfl | hl; exact ha; rw [List.mem_singleton.1 hl]; exact hb)
    have f := flow_un (ok a (by simp)) (ok b (by simp)) (le a (by simp)) (le b (by simp))
    unfold denV
    rw [f, job_un, s, h1]
    rfl
  · unfold denE at h
    rw [job_un, s] at h
    simp [h1] at h
/-- Two records alone. -/
def ka : ByteArray := ⟨#[97]⟩
def k0a : ByteArray := ⟨#[48, 58, 97]⟩
theorem un_fact : denE jUn [[⟨ka, 2, 0⟩], []] = 0 ∧ denV jUn [[⟨ka, 2, 0⟩], []] = [[(k0a, [2])], [(ka, [2])], []] := by
  have f := flow_un (a := [⟨ka, 2, 0⟩]) (b := []) (fun r hr => by rw [List.mem_singleton.1 hr]; exact ⟨by decide, by unfold Rng; decide, by unfold Rng; decide⟩) (by simp) (by decide) (by decide)
  have s : srcs jUn = 2 := rfl
  have hE : denE jUn [[⟨ka, 2, 0⟩], []] = 0 := by
    unfold denE
    rw [job_un, s, f]
    simp only [show checkP [[⟨ka, 2, 0⟩], []] 2 = 0 by decide]
    rfl
  refine ⟨hE, ?_⟩
  rw [unions_pure _ _ (fun r hr => by rw [List.mem_singleton.1 hr]; unfold Rng; decide) (by simp) hE]
  have e : uniP [⟨ka, 2, 0⟩] [] = [⟨k0a, 2, 0⟩] := by
    have e1 : h0 ++ ka = k0a := by decide +kernel
    simp only [uniP, few, uR, List.map_cons, List.map_nil, List.filter_cons, List.filter_nil, e1]
    rfl
  rw [e, lines_nil]
  simp [linesP, keysP, firstsP, numsP]

open Classical in
theorem firsts_snoc' (l : List Rc) (r : Rc) : firstsP (l ++ [r]) = if r.key ∈ firstsP l then firstsP l else firstsP l ++ [r.key] := by
  have e : firstsP (l ++ [r]) = if ((firstsP l).any fun k => decide (k = r.key)) then firstsP l else firstsP l ++ [r.key] := by
    unfold firstsP
    rw [List.foldl_append]
    simp only [List.foldl_cons, List.foldl_nil]
  rw [e]
  by_cases h : r.key ∈ firstsP l
  · rw [if_pos h, if_pos]
    simp only [List.any_eq_true, decide_eq_true_eq]; exact ⟨_, h, rfl⟩
  · rw [if_neg h, if_neg]
    simp only [List.any_eq_true, decide_eq_true_eq]
    rintro ⟨k, hk, rfl⟩; exact h hk
theorem snoc_ind {α : Type} {P : List α → Prop} (h0 : P []) (hs : ∀ l x, P l → P (l ++ [x])) : ∀ l, P l := by
  intro l
  have : ∀ R : List α, P R.reverse := by
    intro R
    induction R with
    | nil => exact h0
    | cons x R ih => rw [List.reverse_cons]; exact hs _ _ ih
  have := this l.reverse
  rwa [List.reverse_reverse] at this
def ksOf (h : ByteArray) (l : List Rc) : List ByteArray := ((firstsP l).filter fun k => decide (2 + k.size ≤ 40)).map (h ++ ·)
open Classical in
theorem firsts_few {h : ByteArray} (hz : ∀ a : ByteArray, (h ++ a).size = 2 + a.size) (X : List Rc) (hX : ∀ k, h ++ k ∉ firstsP X) (l : List Rc) : firstsP (X ++ few h l) = firstsP X ++ ksOf h l := by
  induction l using snoc_ind with
  | h0 => simp [few, ksOf, firstsP]
  | hs l r ih =>
    have e : few h (l ++ [r]) = few h l ++ (if 2 + r.key.size ≤ 40 then [uR h r] else []) := by
      unfold few
      rw [List.map_append, List.filter_append, List.map_singleton, List.filter_cons]
      have : (uR h r).key.size = 2 + r.key.size := hz _
      by_cases hc : 2 + r.key.size ≤ 40 <;> simp [this, hc]
    rw [e]
    by_cases hc : 2 + r.key.size ≤ 40
    · rw [if_pos hc, ← List.append_assoc, firsts_snoc', ih]
      have hm : (uR h r).key ∈ firstsP X ++ ksOf h l ↔ r.key ∈ firstsP l := by
        constructor
        · intro hh
          rcases List.mem_append.1 hh with h' | h'
          · exact absurd h' (hX _)
          · obtain ⟨k, hk, he⟩ := List.mem_map.1 h'
            rw [ba_inj he] at hk
            exact (List.mem_filter.1 hk).1
        · intro hh
          exact List.mem_append.2 (.inr (List.mem_map.2 ⟨r.key, List.mem_filter.2 ⟨hh, by simpa using hc⟩, rfl⟩))
      by_cases hk : r.key ∈ firstsP l
      · rw [if_pos (hm.2 hk)]
        unfold ksOf; rw [firsts_snoc', if_pos hk]
      · rw [if_neg (fun c => hk (hm.1 c)), List.append_assoc]
        congr 1
        unfold ksOf; rw [firsts_snoc', if_neg hk, List.filter_append, List.map_append, List.filter_cons]
        simp [hc, uR]
    · rw [if_neg hc, List.append_nil, ih]
      congr 1
      unfold ksOf; rw [firsts_snoc']
      by_cases hk : r.key ∈ firstsP l
      · rw [if_pos hk]
      · rw [if_neg hk, List.filter_append, List.filter_cons]; simp [hc]
/-- How many of a list's keys are short. -/
def cntP (L : List Ln) : Nat := (L.filter fun x => decide (2 + x.1.size ≤ 40)).length
theorem cnt_lines (l : List Rc) : cntP (linesP l) = ((firstsP l).filter fun k => decide (2 + k.size ≤ 40)).length := by
  unfold cntP linesP keysP
  rw [List.filter_map, List.length_map]
  exact ((List.mergeSort_perm _ _).filter _).length_eq
theorem uni_len (a b : List Rc) : (linesP (uniP a b)).length = cntP (linesP a) + cntP (linesP b) := by
  have e1 := firsts_few h0_size [] (fun k => by simp [firstsP]) a
  rw [List.nil_append, show firstsP [] = [] from rfl, List.nil_append] at e1
  have e2 := firsts_few h1_size (few h0 a) (fun k hk => by
    rw [e1] at hk
    obtain ⟨x, _, he⟩ := List.mem_map.1 hk
    exact ba_01 _ _ he) b
  rw [lines_len, cnt_lines, cnt_lines, uniP, e2, e1]
  simp [ksOf]
/-- A key's numbers among lines. -/
def lookP (k : ByteArray) : List Ln → List Int
  | [] => []
  | x :: r => if x.1 = k then x.2 else lookP k r
open Classical in
theorem look_map (l : List Rc) (k : ByteArray) : ∀ K : List ByteArray, lookP k (K.map fun q => (q, numsP l q)) = if k ∈ K then numsP l k else []
  | [] => by simp [lookP]
  | q :: K => by
    simp only [List.map_cons, lookP]
    rw [look_map l k K]
    by_cases h : q = k
    · subst h; simp
    · have : ¬ k = q := fun c => h c.symm
      simp [h, this]
theorem look_lines (l : List Rc) (k : ByteArray) : lookP k (linesP l) = numsP l k := by
  unfold linesP
  rw [look_map]
  by_cases h : k ∈ keysP l
  · rw [if_pos h]
  · rw [if_neg h]
    symm
    unfold numsP
    rw [List.map_eq_nil_iff, List.filter_eq_nil_iff]
    intro r hr he
    exact h ((List.mergeSort_perm _ _).mem_iff.2 (firsts_mem.2 ⟨r, hr, by simpa using he⟩))
theorem nums_few {h : ByteArray} (hz : ∀ a : ByteArray, (h ++ a).size = 2 + a.size) (l : List Rc) {k : ByteArray} (hk : 2 + k.size ≤ 40) : numsP (few h l) (h ++ k) = numsP l k := by
  unfold numsP few
  induction l with
  | nil => rfl
  | cons x r ih =>
    simp only [List.map_cons, List.filter_cons]
    have hs : (uR h x).key.size = 2 + x.key.size := hz _
    by_cases hx : x.key = k
    · have h1 : (uR h x).key = h ++ k := by rw [← hx]; rfl
      have h2 : (uR h x).key.size ≤ 40 := by rw [hs, hx]; exact hk
      rw [if_pos (by simpa using h2), if_pos (by simpa using hx), List.filter_cons, if_pos (by simpa using h1), List.map_cons, List.map_cons, ih]; rfl
    · have h1 : (uR h x).key ≠ h ++ k := fun c => hx (ba_inj c)
      by_cases h2 : (uR h x).key.size ≤ 40
      · rw [if_pos (by simpa using h2), if_neg (by simpa using hx), List.filter_cons, if_neg (by simpa using h1)]
        exact ih
      · rw [if_neg (by simpa using h2), if_neg (by simpa using hx)]
        exact ih
theorem nums_out {h : ByteArray} {q : ByteArray} (hq : ∀ a : ByteArray, h ++ a ≠ q) (l : List Rc) : numsP (few h l) q = [] := by
  unfold numsP
  rw [List.map_eq_nil_iff, List.filter_eq_nil_iff]
  intro r hr he
  obtain ⟨x, _, rfl⟩ := List.mem_map.1 (List.mem_filter.1 hr).1
  exact hq _ (of_decide_eq_true he)
theorem nums_app (x y : List Rc) (k : ByteArray) : numsP (x ++ y) k = numsP x k ++ numsP y k := by simp [numsP]
theorem uni_0 (a b : List Rc) {k : ByteArray} (hk : 2 + k.size ≤ 40) : lookP (h0 ++ k) (linesP (uniP a b)) = numsP a k := by
  rw [look_lines, uniP, nums_app, nums_few h0_size a hk, nums_out (fun x => (ba_01 k x).symm) b, List.append_nil]
theorem uni_1 (a b : List Rc) {k : ByteArray} (hk : 2 + k.size ≤ 40) : lookP (h1 ++ k) (linesP (uniP a b)) = numsP b k := by
  rw [look_lines, uniP, nums_app, nums_few h1_size b hk, nums_out (fun x => ba_01 x k) a, List.nil_append]
theorem lines_get (l : List Rc) {i : Nat} (hi : i < (linesP l).length) : (linesP l)[i].2 = numsP l (linesP l)[i].1 := by
  simp [linesP]
end Go.Proofs.YtppkjiihmlphbaaGreatDoor

/- Folds: what each key gets is folded by itself. Jobs of one node. Plain mathematics. -/
namespace Go.Proofs.YtppkjiihmlphbaaGreatDoor

/-- Numbers folded: each, and the last. -/
def foldN (tx : ByteArray) : Int → List Int → List Int
  | _, [] => []
  | s, x :: r => valP tx x s :: foldN tx (valP tx x s) r
def foldE (tx : ByteArray) : Int → List Int → Int
  | s, [] => s
  | s, x :: r => foldE tx (valP tx x s) r
theorem foldN_snoc (tx : ByteArray) : ∀ (l : List Int) (s x : Int), foldN tx s (l ++ [x]) = foldN tx s l ++ [valP tx x (foldE tx s l)]
  | [], _, _ => rfl
  | y :: l, s, x => by simp only [List.cons_append, foldN, foldE, foldN_snoc tx l]
theorem foldE_snoc (tx : ByteArray) : ∀ (l : List Int) (s x : Int), foldE tx s (l ++ [x]) = valP tx x (foldE tx s l)
  | [], _, _ => rfl
  | y :: l, s, x => by simp only [List.cons_append, foldE, foldE_snoc tx l]
theorem foldN_len (tx : ByteArray) : ∀ (l : List Int) (s : Int), (foldN tx s l).length = l.length
  | [], _ => rfl
  | y :: l, s => by simp only [foldN, List.length_cons, foldN_len tx l]
theorem numsR_snoc (l : List Rc) (r : Rc) (k : ByteArray) : numsP (l ++ [r]) k = numsP l k ++ if r.key = k then [r.num] else [] := by
  unfold numsP
  rw [List.filter_append, List.map_append]
  by_cases h : r.key = k <;> simp [h]
/-- What a Fold makes of records, one behind the other. -/
def foldR (tx : ByteArray) (l : List Rc) : List Rc := (runP ⟨7, [0], tx, 0⟩ (l.map fun x => (x, 0))).1
theorem fold_run (tx : ByteArray) : ∀ (R : List Rc), (∀ r ∈ R, r.key.size ≤ 40) →
    let p := runP ⟨7, [0], tx, 0⟩ (R.reverse.map fun x => (x, 0))
    (∀ k, ((p.2 k).getD hd0).a = foldE tx 0 (numsP R.reverse k)) ∧ (∀ k, numsP p.1 k = foldN tx 0 (numsP R.reverse k)) ∧ p.1.map (·.key) = R.reverse.map (·.key) := by
  intro R
  induction R with
  | nil => intro _; exact ⟨fun k => rfl, fun k => rfl, rfl⟩
  | cons r R ih =>
    intro h
    obtain ⟨h1, h2, h3⟩ := ih (fun x hx => h x (by simp [hx]))
    have hk := h r (by simp)
    simp only [List.reverse_cons, List.map_append, List.map_cons, List.map_nil]
    rw [runP_snoc]
    generalize runP ⟨7, [0], tx, 0⟩ (R.reverse.map fun x => (x, (0 : Int))) = p at h1 h2 h3
    have hst : (if (p.2 r.key).isSome then (p.2 r.key).getD hd0 else hd0) = (p.2 r.key).getD hd0 := by
      cases p.2 r.key <;> simp
    have es : stepP ⟨7, [0], tx, 0⟩ p (r, 0) = (p.1 ++ [⟨r.key, valP tx r.num ((p.2 r.key).getD hd0).a, r.time⟩], fun k => if k = r.key then some ⟨0, r.key, valP tx r.num ((p.2 r.key).getD hd0).a, ((p.2 r.key).getD hd0).b⟩ else p.2 k) := by
      unfold stepP appP
      simp only [hasStP, hst]
      simp [countedP]
      exact cop_one hk
    rw [es]
    simp only
    refine ⟨fun k => ?_, fun k => ?_, ?_⟩
    · rw [numsR_snoc]
      by_cases e : k = r.key
      · subst e
        simp only [if_true, Option.getD_some]
        rw [foldE_snoc, h1]
      · have e' : ¬ r.key = k := fun h => e h.symm
        simp only [e, e', if_false, List.append_nil]
        exact h1 k
    · rw [numsR_snoc, numsR_snoc, h2]
      by_cases e : r.key = k
      · subst e
        simp only [if_true]
        rw [foldN_snoc, h1]
      · simp only [e, if_false, List.append_nil]
    · simp [h3]
theorem fold_nums (tx : ByteArray) {l : List Rc} (h : ∀ r ∈ l, r.key.size ≤ 40) : (∀ k, numsP (foldR tx l) k = foldN tx 0 (numsP l k)) ∧ (foldR tx l).map (·.key) = l.map (·.key) := by
  have := fold_run tx l.reverse (fun r hr => h r (by simpa using hr))
  rw [List.reverse_reverse] at this
  exact ⟨this.2.1, this.2.2⟩
theorem firsts_keys {a b : List Rc} (h : a.map (·.key) = b.map (·.key)) : firstsP a = firstsP b := by
  have key : ∀ (l : List Rc), firstsP l = (l.map (·.key)).foldl (fun (ks : List ByteArray) k => if (ks.any fun x => decide (x = k)) then ks else ks ++ [k]) [] := by
    intro l; unfold firstsP; rw [List.foldl_map]
  rw [key, key, h]
/-- The lines of what is folded: as many as before, of the same keys. -/
theorem fold_lines (tx : ByteArray) {l : List Rc} (h : ∀ r ∈ l, r.key.size ≤ 40) : linesP (foldR tx l) = (keysP l).map fun k => (k, foldN tx 0 (numsP l k)) := by
  obtain ⟨h1, h2⟩ := fold_nums tx h
  unfold linesP keysP
  rw [firsts_keys h2]
  exact List.map_congr_left (fun k _ => by rw [h1])

/-- A job of one node. -/
def jLine (nd : Nd) : List Nd := [⟨1, [], emp, 3⟩, nd, ⟨10, [1], emp, 0⟩]
theorem own_src3 : ownP ⟨1, [], emp, 3⟩ = 0 := by unfold ownP; simp [hasNP, hasTP, bdLo, bdHi, emp]; rfl
theorem flow_line {nd : Nd} (hk : nd.k ≠ 1) (hf : nd.fs = [0]) {d o : List Rc} (hd : ∀ r ∈ d, RcOk r) (hl : d.length ≤ 2000) (ho : handP nd [d] = some o) (hok : ∀ r ∈ o, r.key.size ≤ 40) (hol : o.length ≤ 2000) :
    flowP (jLine nd) [d] [] = some [d, o, o] := by
  unfold jLine
  rw [flowS (o := d) (by rw [got_src rfl]; exact hand_id rfl (fun r hr => g_same (.inl rfl) _ _ _ (hd r hr).key) hl)]
  rw [flowS (o := o) (by rw [got_oth hk]; unfold fromsP; rw [hf]; exact ho)]
  rw [flowS (o := o) (by rw [got_oth (by decide)]; exact hand_id rfl (fun r hr => g_same (.inr rfl) _ _ _ (hok r hr)) hol)]
  rw [rest_oth hk]
  rfl
theorem fold_len (tx : ByteArray) {l : List Rc} (h : ∀ r ∈ l, r.key.size ≤ 40) : (foldR tx l).length = l.length := by
  have := congrArg List.length (fold_nums tx h).2
  simpa using this
theorem fold_key (tx : ByteArray) {l : List Rc} (h : ∀ r ∈ l, r.key.size ≤ 40) : ∀ r ∈ foldR tx l, r.key.size ≤ 40 := by
  intro r hr
  have hm : r.key ∈ (foldR tx l).map (·.key) := List.mem_map.2 ⟨r, hr, rfl⟩
  rw [(fold_nums tx h).2] at hm
  obtain ⟨x, hx, he⟩ := List.mem_map.1 hm
  rw [← he]; exact h x hx
theorem hand_fold (tx : ByteArray) {l : List Rc} (h : ∀ r ∈ l, r.key.size ≤ 40) (hl : l.length ≤ 2000) : handP ⟨7, [0], tx, 0⟩ [l] = some (foldR tx l) := by
  unfold handP
  rw [tag_one, if_neg]
  · rfl
  · have := fold_len tx h
    unfold foldR at this
    omega
/-- The two texts of DenSums. -/
def txS : ByteArray := ⟨#[115, 43, 110]⟩
def txM : ByteArray := ⟨#[109, 97, 120, 40, 115, 44, 110, 41]⟩
theorem rd_S : readP [115, 43, 110] = .ok (.two 43 .vs .vn) [] :=
  read_of (by decide) ((Gr.add 43 (by decide) ((Gr.vs 20).down 2 (by omega) (by omega)) ((Gr.vn 20).down 3 (by omega) (by omega))).down 0 (by omega) (by omega))
theorem rd_M : readP [109, 97, 120, 40, 115, 44, 110, 41] = .ok (.two 77 .vs .vn) [] :=
  read_of (by decide) ((Gr.mx (a := [115]) (b := [110]) ((Gr.vs 19).down 0 (by omega) (by omega)) ((Gr.vn 19).down 0 (by omega) (by omega))).down 0 (by omega) (by omega))
theorem val_S (n s : Int) : valP txS n s = wr (s + n) := by unfold valP; rw [show txS.data.toList = [115, 43, 110] from rfl, rd_S]; rfl
theorem val_M (n s : Int) : valP txM n s = if n < s then s else n := by unfold valP; rw [show txM.data.toList = [109, 97, 120, 40, 115, 44, 110, 41] from rfl, rd_M]; rfl
theorem txp_S : txP txS.data.toList = 0 := by unfold txP; rw [show txS.data.toList = [115, 43, 110] from rfl, rd_S]
theorem txp_M : txP txM.data.toList = 0 := by unfold txP; rw [show txM.data.toList = [109, 97, 120, 40, 115, 44, 110, 41] from rfl, rd_M]
end Go.Proofs.YtppkjiihmlphbaaGreatDoor

/- DenSums's plain half. -/
namespace Go.Proofs.YtppkjiihmlphbaaGreatDoor

theorem own_fold (f : Int) (tx : ByteArray) : ownP ⟨7, [f], tx, 0⟩ = txP tx.data.toList := by unfold ownP; simp [hasTP, bdLo, bdHi]
theorem job_fold (tx : ByteArray) (h : txP tx.data.toList = 0) : jobP (jLine ⟨7, [0], tx, 0⟩) = 0 := by
  unfold jobP jLine
  simp [allP, nodeP, inLo, inHi, fromP, fromOne, kindAt, own_src3, own_fold, own_sink, endsP, h]
theorem job_mapn : jobP (jLine ⟨2, [0], txn, 0⟩) = 0 := by
  unfold jobP jLine
  simp [allP, nodeP, inLo, inHi, fromP, fromOne, kindAt, own_src3, own_map, own_sink, endsP, txp_n]
theorem den_line {nd : Nd} {d o : List Rc} (hj : jobP (jLine nd) = 0) (hs : srcs (jLine nd) = 1) (hk : nd.k ≠ 10) (hc : checkP [d] 1 = 0) (hf : flowP (jLine nd) [d] [] = some [d, o, o]) : denE (jLine nd) [d] = 0 ∧ denV (jLine nd) [d] = [linesP o] := by
  unfold denE denV
  rw [hj, hs, hc, hf]
  simp [jLine, sinksP, hk]
theorem den_bad {nd : Nd} {d : List Rc} (hj : jobP (jLine nd) = 0) (hs : srcs (jLine nd) = 1) (hc : ¬ checkP [d] 1 = 0) : ¬ denE (jLine nd) [d] = 0 := by
  unfold denE
  rw [hj, hs]
  simp [hc]
/-- What DenSums leans on. -/
theorem sums_pure (d : List Rc) (hn : ∀ r ∈ d, Rng r.num) : (¬ denE (jLine ⟨2, [0], txn, 0⟩) [d] = 0) ∨ ((denE (jLine ⟨2, [0], txn, 0⟩) [d] = 0 ∧ denV (jLine ⟨2, [0], txn, 0⟩) [d] = [linesP d]) ∧ (∀ tx, txP tx.data.toList = 0 → denE (jLine ⟨7, [0], tx, 0⟩) [d] = 0 ∧ denV (jLine ⟨7, [0], tx, 0⟩) [d] = [linesP (foldR tx d)]) ∧ (∀ r ∈ d, RcOk r) ∧ d.length ≤ 300) := by
  by_cases h1 : checkP [d] 1 = 0
  · right
    have hdp : dataP [d] = 0 := by
      unfold checkP at h1
      simpa using h1
    obtain ⟨ok, le⟩ := data_ok hdp (fun l hl => by rw [List.mem_singleton.1 hl]; exact hn)
    have ok' := ok d (by simp)
    have le' := le d (by simp)
    refine ⟨?_, fun tx ht => ?_, ok', le'⟩
    · have hm := hand_map (nd := ⟨2, [0], txn, 0⟩) rfl (fun r hr => g_map [0] txn 0 (ok' r hr).key) (show d.length ≤ 2000 by omega)
      rw [mapn] at hm
      exact den_line job_mapn rfl (by decide) h1 (flow_line (by decide) rfl ok' (by omega) hm (fun r hr => (ok' r hr).key) (by omega))
    · have hk : ∀ r ∈ d, r.key.size ≤ 40 := fun r hr => (ok' r hr).key
      have hl := fold_len tx hk
      exact den_line (job_fold tx ht) rfl (show (7 : Int) ≠ 10 by decide) h1 (flow_line (show (7 : Int) ≠ 1 by decide) rfl ok' (by omega) (hand_fold tx hk (by omega)) (fold_key tx hk) (by omega))
  · left
    exact den_bad job_mapn rfl h1
theorem look_of (g : ByteArray → List Int) (k : ByteArray) : ∀ (ks : List ByteArray), k ∈ ks → lookP k (ks.map fun x => (x, g x)) = g k
  | [], h => by cases h
  | x :: ks, h => by
    simp only [List.map_cons, lookP]
    by_cases e : x = k
    · subst e; simp
    · have e' : k ∈ ks := by
        rcases List.mem_cons.1 h with h | h
        · exact absurd h.symm e
        · exact h
      simp [e]
      exact look_of g k ks e'
theorem foldN_get (tx : ByteArray) : ∀ (l : List Int) (s : Int) (j : Nat) (h : j < l.length), (foldN tx s l)[j]'(by rw [foldN_len]; exact h) = foldE tx s (l.take (j + 1))
  | [], _, _, h => by simp at h
  | x :: l, s, 0, _ => rfl
  | x :: l, s, j + 1, h => by
    simp only [foldN, List.getElem_cons_succ, List.take_succ_cons, foldE]
    exact foldN_get tx l _ j (by simpa using h)
theorem foldE_take (tx : ByteArray) (l : List Int) (s : Int) (j : Nat) (h : j < l.length) : foldE tx s (l.take (j + 1)) = valP tx l[j] (foldE tx s (l.take j)) := by
  rw [List.take_succ_eq_append_getElem h, foldE_snoc]
def kA : ByteArray := ⟨#[97]⟩
def dFact : List Rc := [⟨kA, 2, 0⟩, ⟨kA, 3, 0⟩]
theorem keys_fact : keysP dFact = [kA] := by
  unfold keysP
  rw [show firstsP dFact = [kA] from by decide]
  simp
theorem sum_fact : linesP (foldR txS dFact) = [(kA, [2, 5])] := by
  rw [fold_lines txS (by decide), keys_fact]
  rw [List.map_cons, List.map_nil]
  rw [show numsP dFact kA = [2, 3] from by decide]
  simp only [foldN, val_S]
  rfl
end Go.Proofs.YtppkjiihmlphbaaGreatDoor

/- weirlaw6.nums. -/
namespace Go.Proofs.YtppkjiihmlphbaaGreatDoor
open Go.RowKit
set_option linter.unusedVariables false

theorem look_pos (k : ByteArray) : ∀ L : List Ln, ∃ p, p ≤ L.length ∧ (∀ i (h : i < L.length), i < p → L[i].1 ≠ k) ∧ (∀ h : p < L.length, L[p].1 = k ∧ lookP k L = L[p].2) ∧ (p = L.length → lookP k L = [])
  | [] => ⟨0, by simp, by simp, by simp, fun _ => rfl⟩
  | x :: r => by
    by_cases h : x.1 = k
    · exact ⟨0, by simp, fun i _ hi => by omega, fun _ => ⟨h, by simp [lookP, h]⟩, fun c => by simp at c⟩
    · obtain ⟨p, h1, h2, h3, h4⟩ := look_pos k r
      refine ⟨p + 1, by simp; omega, fun i hi hp => ?_, fun hp => ?_, fun c => ?_⟩
      · rcases i with _ | i
        · exact h
        · exact h2 i (by simpa using hi) (by omega)
      · have := h3 (by simpa using hp)
        simp [lookP, h]; exact this
      · simp [lookP, h]; exact h4 (by simpa using c)

theorem str_ne {a b : ByteArray} (h : a ≠ b) : (a.toList == b.toList) = false := by
  simp only [beq_eq_false_iff_ne, ne_eq]
  intro c
  rw [ByteArray.toList_eq, ByteArray.toList_eq] at c
  exact h (WideShapes.bytes_inj c)

theorem nums_hit {w : World} {b o : Nat} {L : List Ln} (hL : ∀ (i : Nat) (h : i < L.length), LnAt w b (o + i * 2) L[i]) (ca : Nat) (hl : L.length ≤ 9223372036854775807) {k : ByteArray} {p : Nat} (hp : p < L.length) (h2 : ∀ i (h : i < L.length), i < p → L[i].1 ≠ k) {fa : Option Addr} {z fc : Nat} (p0 : w.cell? ⟨b, o + p * 2, none⟩ = some (.string k)) (p1 : w.cell? ⟨b, o + p * 2 + 1, none⟩ = some (.slice fa z fc)) :
    Calls Tryz.prog 14 #[.slice (some ⟨b, o, none⟩) L.length ca, .string k] w fun e w' => e = .returned (.slice fa z fc) ∧ ∃ n, w' = w.drewN n := by
  have H2 := Lib.hid h2
  clear h2
  go_enter Tryz.func14, Tryz.ntmps14
  go_wp2_with fail
  go_loopw [5] (fun i wr => ∃ j : Nat, j ≤ p ∧ i = .int .i64 j ∧ wr = w) (fun i _ => L.length - (intOf i).toNat)
  case atStart => exact ⟨0, by omega, rfl, rfl⟩
  case round =>
    obtain ⟨j, hj, rfl, rfl⟩ := hrel
    have hi : (j : Int) < L.length := by omega
    by_cases hlt : j < p
    · obtain ⟨c0, _, c5⟩ := hL j (by omega)
      have hne := str_ne (H2.out j (by omega) hlt)
      generalize L[j].1 = x1 at *
      go_wp2
      exact ⟨⟨j + 1, by omega, by go_num, trivial⟩, by simp [intOf]; omega⟩
    · have : j = p := by omega
      subst this
      go_wp2
      go_ret
      exact ⟨rfl, 0, rfl⟩
theorem nums_none {w : World} {la : Option Addr} {L : List Ln} (hL : LnsAt w la L) (ca : Nat) (hl : L.length ≤ 9223372036854775807) {k : ByteArray} (h2 : ∀ i (h : i < L.length), L[i].1 ≠ k) :
    Calls Tryz.prog 14 #[.slice la L.length ca, .string k] w fun e w' => e = .returned (.slice none 0 0) ∧ ∃ n, w' = w.drewN n := by
  have H2 := Lib.hid h2
  clear h2
  go_enter Tryz.func14, Tryz.ntmps14
  go_wp2_with fail
  go_loopw [5] (fun i wr => ∃ j : Nat, j ≤ L.length ∧ i = .int .i64 j ∧ wr = w) (fun i _ => L.length - (intOf i).toNat)
  case atStart => exact ⟨0, by omega, rfl, rfl⟩
  case round =>
    obtain ⟨j, hj, rfl, rfl⟩ := hrel
    by_cases hlt : j < L.length
    · have hi : (j : Int) < L.length := by omega
      rcases hL with hL | ⟨b, o, rfl, hL⟩
      · subst hL; simp at hlt
      obtain ⟨c0, _, c5⟩ := hL j (by omega)
      have hne := str_ne (H2.out j (by omega))
      generalize L[j].1 = x1 at *
      go_wp2
      exact ⟨⟨j + 1, by omega, by go_num, trivial⟩, by simp [intOf]; omega⟩
    · have hi : ¬ (j : Int) < L.length := by omega
      go_wp2
      go_ret
      exact ⟨rfl, 0, rfl⟩
/-- The numbers of a key. -/
theorem nums_any {w : World} {la : Option Addr} {L : List Ln} (hL : LnsAt w la L) (ca : Nat) (hl : L.length ≤ 9223372036854775807) (k : ByteArray) :
    ∃ fa fc, IntsAt w fa (lookP k L) ∧ (lookP k L).length ≤ fc ∧ fc ≤ 9223372036854775807 ∧
      ∀ m, Calls Tryz.prog 14 #[.slice la L.length ca, .string k] (w.drewN m) fun e w' => e = .returned (.slice fa (lookP k L).length fc) ∧ ∃ n, w' = (w.drewN m).drewN n := by
  obtain ⟨p, h1, h2, h3, h4⟩ := look_pos k L
  by_cases hp : p < L.length
  · rcases hL with hL | ⟨b, o, rfl, hL⟩
    · subst hL; simp at hp
    obtain ⟨e1, e2⟩ := h3 hp
    obtain ⟨p0, ⟨fa, fc, p1, p2, p3, p4⟩, p5⟩ := hL p hp
    rw [e1] at p0
    rw [← e2] at p1 p2 p3
    exact ⟨fa, fc, p2, p3, p4, fun m => nums_hit (w := w.drewN m) (fun i hi => (hL i hi).keep (fun _ _ h => h)) ca hl hp h2 p0 p1⟩
  · rw [h4 (by omega)]
    exact ⟨none, 0, .inl rfl, by simp, by omega, fun m => nums_none (w := w.drewN m) (hL.keep (fun _ _ h => h)) ca hl (fun i hi => h2 i hi (by omega))⟩
end Go.Proofs.YtppkjiihmlphbaaGreatDoor

/- weirlaw6.line, whole: a job of one node. -/
namespace Go.Proofs.YtppkjiihmlphbaaGreatDoor
open Go.RowKit
set_option linter.unusedVariables false

set_option maxRecDepth 100000 in
set_option maxHeartbeats 1000000 in
theorem line_any (w : World) (k n : Int) (tx : ByteArray) (hz : tx.size ≤ 9223372036854775807) :
    Calls Tryz.prog 22 #[.agg #[.int .i64 k, .slice none 0 0, .string tx, .int .i64 n]] w fun e w' => ∃ la, e = .returned (.slice la 3 3) ∧ NdsAt w' la (jLine ⟨k, [0], tx, n⟩) ∧ Below w.heap.size w w' := by
  go_enter Tryz.func22, Tryz.ntmps22
  go_wp2_with fail
  go_ret
  have h0 : IntsAt (((w.alloc (.cells #[.int .i64 k, .slice (some ⟨w.heap.size + 1, 0, none⟩) 1 1, .string tx, .int .i64 n] 26)).alloc (.cells #[.int .i64 0] 3)).alloc (.cells #[.int .i64 1] 3)) (some ⟨w.heap.size + 1, 0, none⟩) [0] := by
    have h := ints_new (w.alloc (.cells #[.int .i64 k, .slice (some ⟨w.heap.size + 1, 0, none⟩) 1 1, .string tx, .int .i64 n] 26)) [0] 3
    rw [World.size_alloc] at h
    exact h.keep (Keeps.alloc _ _)
  have h1 : IntsAt (((w.alloc (.cells #[.int .i64 k, .slice (some ⟨w.heap.size + 1, 0, none⟩) 1 1, .string tx, .int .i64 n] 26)).alloc (.cells #[.int .i64 0] 3)).alloc (.cells #[.int .i64 1] 3)) (some ⟨w.heap.size + 1 + 1, 0, none⟩) [1] := by
    have h := ints_new ((w.alloc (.cells #[.int .i64 k, .slice (some ⟨w.heap.size + 1, 0, none⟩) 1 1, .string tx, .int .i64 n] 26)).alloc (.cells #[.int .i64 0] 3)) [1] 3
    rw [World.size_alloc, World.size_alloc] at h
    exact h
  have hn := nodes_new (((w.alloc (.cells #[.int .i64 k, .slice (some ⟨w.heap.size + 1, 0, none⟩) 1 1, .string tx, .int .i64 n] 26)).alloc (.cells #[.int .i64 0] 3)).alloc (.cells #[.int .i64 1] 3)) [((⟨1, [], emp, 3⟩ : Nd), (none : Option Addr), 0), ((⟨k, [0], tx, n⟩ : Nd), some ⟨w.heap.size + 1, 0, none⟩, 1), ((⟨10, [1], emp, 0⟩ : Nd), some ⟨w.heap.size + 1 + 1, 0, none⟩, 1)] 26 (by
    intro x hx
    simp only [List.mem_cons, List.not_mem_nil, or_false] at hx
    rcases hx with rfl | rfl | rfl
    · exact ⟨.inl rfl, (show emp.size ≤ _ by decide), by simp⟩
    · exact ⟨h0, hz, by simp⟩
    · exact ⟨h1, (show emp.size ≤ _ by decide), by simp⟩)
  rw [World.size_alloc, World.size_alloc, World.size_alloc] at hn
  exact ⟨_, rfl, hn, ((((Below.refl _ w).alloc (by simp <;> omega) _).alloc (by simp <;> omega) _).alloc (by simp <;> omega) _).alloc (by simp <;> omega) _⟩

set_option maxRecDepth 100000 in
set_option maxHeartbeats 1000000 in
theorem whole_yes (w : World) (hg : Gd w) (k n : Int) (tx : ByteArray) (hz : tx.size ≤ 9223372036854775807) {aa : Option Addr} {a : List Rc} {ac : Nat} (ha : RcsAt w aa a) (hac : a.length ≤ ac) (ham : ac ≤ 9223372036854775807) (hXa : ∀ r ∈ a, r.key.size ≤ 9223372036854775807 ∧ Rng r.num)
    (L : List Ln) (hE : denE (jLine ⟨k, [0], tx, n⟩) [a] = 0) (hV : denV (jLine ⟨k, [0], tx, n⟩) [a] = [L]) :
    Calls Tryz.prog 13 #[.agg #[.int .i64 k, .slice none 0 0, .string tx, .int .i64 n], .slice aa a.length ac] w fun e w' => ∃ A cap, e = .returned (.tuple #[.slice A L.length cap, .bool true]) ∧ LnsAt w' A L ∧ L.length ≤ cap ∧ Below w.heap.size w w' := by
  have HL := Lib.hid (fun (u : World) => line_any u k n tx hz)
  have HA := Lib.hid (fun (W : World) (hW : Gd W) (la : Option Addr) (h1 : NdsAt W la (jLine ⟨k, [0], tx, n⟩)) (ga : Option Addr) (h2 : RssAt W ga [a]) => all_any hW h1 (Nat.le_refl _) h2 (Nat.le_refl _) (by simp) (fun l hl => by simp at hl; subst hl; omega) (fun l hl r hr => by simp at hl; subst hl; exact (hXa r hr).1) (fun l hl r hr => by simp at hl; subst hl; exact (hXa r hr).2))
  rw [hE, hV] at HA
  have B0 : Below w.heap.size w (w.alloc (.cells #[.int .i64 k, .slice none 0 0, .string tx, .int .i64 n] 26)) := (Below.refl _ w).alloc (Nat.le_refl _) _
  go_enter Tryz.func13, Tryz.ntmps13
  go_wp2_with (go_at_call 22; refine (HL.out _).mono ?_; rintro e w1 ⟨la, rfl, hn, b1⟩; refine Hid.out ?_)
  refine Lib.hid ?_
  have B1 : Below w.heap.size w w1 := B0.trans (b1.mono (by simp))
  have hr := rss_one w1 (ha.keep (Keeps.of B1)) hac 34
  have hn2 := hn.keep (Keeps.alloc w1 (.cells #[.slice aa a.length ac] 34))
  have B2 := B1.alloc B1.size (.cells #[.slice aa a.length ac] 34)
  clear b1 hn HL B0 ha hXa
  go_wp2_with (go_at_call 9; refine (HA.out _ (hg.below B2) _ hn2 _ hr).mono ?_; rintro e w3 he; unfold AllEnd at he; rw [if_neg (by simp)] at he; obtain ⟨Af, cf, rfl, hsf, hcf, b3⟩ := he; refine Hid.out ?_)
  refine Lib.hid ?_
  have B3 : Below w.heap.size w w3 := B2.trans (b3.mono B2.size)
  rcases hsf with hsf | ⟨fb, fo, rfl, hsf⟩
  · simp at hsf
  obtain ⟨f0, d0, q0, r0, s0⟩ := hsf 0 (by simp)
  simp only [List.getElem_cons_zero, Nat.add_zero] at q0 r0 s0
  clear hsf b3 HA hr hn2
  go_wp2_with fail
  go_ret2
  exact ⟨_, _, rfl, r0, s0, B3⟩
set_option maxRecDepth 100000 in
set_option maxHeartbeats 1000000 in
theorem whole_no (w : World) (hg : Gd w) (k n : Int) (tx : ByteArray) (hz : tx.size ≤ 9223372036854775807) {aa : Option Addr} {a : List Rc} {ac : Nat} (ha : RcsAt w aa a) (hac : a.length ≤ ac) (ham : ac ≤ 9223372036854775807) (hXa : ∀ r ∈ a, r.key.size ≤ 9223372036854775807 ∧ Rng r.num)
    (hE : ¬ denE (jLine ⟨k, [0], tx, n⟩) [a] = 0) :
    Calls Tryz.prog 13 #[.agg #[.int .i64 k, .slice none 0 0, .string tx, .int .i64 n], .slice aa a.length ac] w fun e w' => e = .returned (.tuple #[.slice none 0 0, .bool false]) ∧ Below w.heap.size w w' := by
  have HL := Lib.hid (fun (u : World) => line_any u k n tx hz)
  have HA := Lib.hid (fun (W : World) (hW : Gd W) (la : Option Addr) (h1 : NdsAt W la (jLine ⟨k, [0], tx, n⟩)) (ga : Option Addr) (h2 : RssAt W ga [a]) => all_any hW h1 (Nat.le_refl _) h2 (Nat.le_refl _) (by simp) (fun l hl => by simp at hl; subst hl; omega) (fun l hl r hr => by simp at hl; subst hl; exact (hXa r hr).1) (fun l hl r hr => by simp at hl; subst hl; exact (hXa r hr).2))
  have HE := Lib.hid hE
  have B0 : Below w.heap.size w (w.alloc (.cells #[.int .i64 k, .slice none 0 0, .string tx, .int .i64 n] 26)) := (Below.refl _ w).alloc (Nat.le_refl _) _
  clear hE
  generalize denE (jLine ⟨k, [0], tx, n⟩) [a] = E at *
  generalize denV (jLine ⟨k, [0], tx, n⟩) [a] = V at *
  go_enter Tryz.func13, Tryz.ntmps13
  go_wp2_with (go_at_call 22; refine (HL.out _).mono ?_; rintro e w1 ⟨la, rfl, hn, b1⟩; refine Hid.out ?_)
  refine Lib.hid ?_
  have B1 : Below w.heap.size w w1 := B0.trans (b1.mono (by simp))
  have hr := rss_one w1 (ha.keep (Keeps.of B1)) hac 34
  have hn2 := hn.keep (Keeps.alloc w1 (.cells #[.slice aa a.length ac] 34))
  have B2 := B1.alloc B1.size (.cells #[.slice aa a.length ac] 34)
  clear b1 hn HL B0 ha hXa
  go_wp2_with (go_at_call 9; refine (HA.out _ (hg.below B2) _ hn2 _ hr).mono ?_; rintro e w3 he; unfold AllEnd at he; rw [if_pos HE.out, errV_pos HE.out] at he; obtain ⟨rfl, b3⟩ := he; refine Hid.out ?_)
  refine Lib.hid ?_
  have B3 : Below w.heap.size w w3 := B2.trans (b3.mono B2.size)
  clear b3 HA hr hn2
  go_wp2_with fail
  go_ret2
  exact ⟨rfl, B3⟩
end Go.Proofs.YtppkjiihmlphbaaGreatDoor

/- From the rows' condition on the listed variables to the cells that the walks read; a world that meets it. -/
namespace Go.Proofs.YtppkjiihmlphbaaGreatDoor
open Go.ChangeShapes Go.WideShapes Go.RowKit

def laidL : List (String × DataW Unit) := [("math/bits.deBruijn32tab", Rows.laid_math_bits_deBruijn32tab), ("math/bits.deBruijn64tab", Rows.laid_math_bits_deBruijn64tab), ("internal/strconv.uint64pow10", Rows.laid_internal_strconv_uint64pow10), ("strconv.ErrRange", Rows.laid_strconv_ErrRange), ("strconv.ErrSyntax", Rows.laid_strconv_ErrSyntax)]
theorem Tryz.own : ownKnob Tryz.prog.godebug = none := by kernel_rfl
theorem Tryz.cellsES : Tryz.prog.cellsOf 184 = 1 := by kernel_rfl
theorem Tryz.cells9 : Tryz.prog.cellsOf 9 = 1 := by kernel_rfl
theorem Tryz.star : "*" ++ "errors.errorString" = "*errors.errorString" := by decide
theorem Tryz.rowES (u : TypeId) (h : Tryz.prog.typeName? 3 u = some "*errors.errorString") : u = 182 :=
  typeName_ptr_named (nm := "errors.errorString") (by rw [Tryz.star]; kernel_rfl) (by kernel_rfl) (by decide) u (by rw [Tryz.star]; exact h)
theorem Tryz.gES : Tryz.prog.globalNamed "strconv.ErrSyntax" = some 4 := by kernel_rfl
theorem Tryz.gESType : (Tryz.prog.globals[4]?).map (·.type) = some 29 := by kernel_rfl
theorem Tryz.gER : Tryz.prog.globalNamed "strconv.ErrRange" = some 5 := by kernel_rfl
theorem Tryz.gERType : (Tryz.prog.globals[5]?).map (·.type) = some 29 := by kernel_rfl

theorem lt_of_cell {w : World} {p : Addr} {v : Value} (h : w.cell? p = some v) : p.block < w.heap.size := by
  rcases Nat.lt_or_ge p.block w.heap.size with h' | h'
  · exact h'
  · unfold World.cell? at h; rw [Array.getElem?_eq_none h'] at h; cases h

/-- What the condition gives a walk: the two errors' cells. -/
theorem gl_of_laid {W : World} (h : laidMet Tryz.prog laidL W) : Gl W := by
  have h' := h
  obtain ⟨a0, s0, hv0, -, -, -⟩ := laid_sentinel (h'.tail.tail.tail.tail) Tryz.gES Tryz.gESType Tryz.underlying29 Tryz.rowES Tryz.underlying182 Tryz.underlying184 rfl rfl Tryz.underlying9 Tryz.cellsES Tryz.cells9
  obtain ⟨a1, s1, hv1, -, -, -⟩ := laid_sentinel (h'.tail.tail.tail) Tryz.gER Tryz.gERType Tryz.underlying29 Tryz.rowES Tryz.underlying182 Tryz.underlying184 rfl rfl Tryz.underlying9 Tryz.cellsES Tryz.cells9
  have c0 : W.cell? ⟨4, 0, none⟩ = some (.iface 182 (.pointer (some a0))) := by
    have h0 := World.var?_cell Tryz.gES hv0 0; simpa using h0
  have c1 : W.cell? ⟨5, 0, none⟩ = some (.iface 182 (.pointer (some a1))) := by
    have h0 := World.var?_cell Tryz.gER hv1 0; simpa using h0
  have l0 := lt_of_cell c0
  have l1 := lt_of_cell c1
  exact ⟨by simp at l0 l1; omega, ⟨_, c0, .inr ⟨_, _, rfl⟩⟩, ⟨_, c1, .inr ⟨_, _, rfl⟩⟩⟩
def lay2 : Obj → Obj
  | .cells _ t frozen => .cells #[.int .u8 0, .int .u8 1, .int .u8 28, .int .u8 2, .int .u8 29, .int .u8 14, .int .u8 24, .int .u8 3, .int .u8 30, .int .u8 22, .int .u8 20, .int .u8 15, .int .u8 25, .int .u8 17, .int .u8 4, .int .u8 8, .int .u8 31, .int .u8 27, .int .u8 13, .int .u8 23, .int .u8 21, .int .u8 19, .int .u8 16, .int .u8 7, .int .u8 26, .int .u8 12, .int .u8 18, .int .u8 6, .int .u8 11, .int .u8 5, .int .u8 10, .int .u8 9] t frozen
  | o => o
def lay3 : Obj → Obj
  | .cells _ t frozen => .cells #[.int .u8 0, .int .u8 1, .int .u8 56, .int .u8 2, .int .u8 57, .int .u8 49, .int .u8 28, .int .u8 3, .int .u8 61, .int .u8 58, .int .u8 42, .int .u8 50, .int .u8 38, .int .u8 29, .int .u8 17, .int .u8 4, .int .u8 62, .int .u8 47, .int .u8 59, .int .u8 36, .int .u8 45, .int .u8 43, .int .u8 51, .int .u8 22, .int .u8 53, .int .u8 39, .int .u8 33, .int .u8 30, .int .u8 24, .int .u8 18, .int .u8 12, .int .u8 5, .int .u8 63, .int .u8 55, .int .u8 48, .int .u8 27, .int .u8 60, .int .u8 41, .int .u8 37, .int .u8 16, .int .u8 46, .int .u8 35, .int .u8 44, .int .u8 21, .int .u8 52, .int .u8 32, .int .u8 23, .int .u8 11, .int .u8 54, .int .u8 26, .int .u8 40, .int .u8 15, .int .u8 34, .int .u8 20, .int .u8 31, .int .u8 10, .int .u8 25, .int .u8 14, .int .u8 19, .int .u8 9, .int .u8 13, .int .u8 8, .int .u8 7, .int .u8 6] t frozen
  | o => o
def lay1 : Obj → Obj
  | .cells _ t frozen => .cells #[.int .u64 1, .int .u64 10, .int .u64 100, .int .u64 1000, .int .u64 10000, .int .u64 100000, .int .u64 1000000, .int .u64 10000000, .int .u64 100000000, .int .u64 1000000000, .int .u64 10000000000, .int .u64 100000000000, .int .u64 1000000000000, .int .u64 10000000000000, .int .u64 100000000000000, .int .u64 1000000000000000, .int .u64 10000000000000000, .int .u64 100000000000000000, .int .u64 1000000000000000000, .int .u64 10000000000000000000] t frozen
  | o => o
def lay5 (n : Nat) : Obj → Obj
  | .cells _ t frozen => .cells #[.iface 182 (.pointer (some ⟨n + 0, 0, none⟩))] t frozen
  | o => o
def lay4 (n : Nat) : Obj → Obj
  | .cells _ t frozen => .cells #[.iface 182 (.pointer (some ⟨n + 1, 0, none⟩))] t frozen
  | o => o
/-- A world with the listed variables laid; its last blocks are the errors' own. -/
def laidAt (w : World) : World := { w with heap := (((((w.heap).modify 2 (lay2)).modify 3 (lay3)).modify 1 (lay1)).modify 5 (lay5 (w.heap.size - 2))).modify 4 (lay4 (w.heap.size - 2)) }
def ownBlocks : Array Obj := #[.cells #[.string ⟨#[118, 97, 108, 117, 101, 32, 111, 117, 116, 32, 111, 102, 32, 114, 97, 110, 103, 101]⟩] 184, .cells #[.string ⟨#[105, 110, 118, 97, 108, 105, 100, 32, 115, 121, 110, 116, 97, 120]⟩] 184]
theorem laidWorld_met (os : Os) (args : Array Value) : laidMetH Tryz.prog laidL ((laidAt (World.holding Tryz.prog os ⟨ownBlocks, #[], []⟩)).forCall (fun _ _ => 0) ⟨#[], args, []⟩).memory :=
  laidMetH_of_parts (laidMet_of_run' 8 (by kernel_rfl) (by kernel_rfl)) (by kernel_rfl)
end Go.Proofs.YtppkjiihmlphbaaGreatDoor

/- DenSums's walk. -/
namespace Go.Proofs.YtppkjiihmlphbaaGreatDoor
open Go.RowKit
set_option linter.unusedVariables false

theorem ints_at {w : World} {fa : Option Addr} {l : List Int} (h : IntsAt w fa l) (j : Nat) (hj : j < l.length) : ∃ b o, fa = some ⟨b, o, none⟩ ∧ w.cell? ⟨b, o + j, none⟩ = some (.int .i64 l[j]) := by
  rcases h with rfl | ⟨b, o, rfl, hc⟩
  · simp at hj
  · exact ⟨b, o, rfl, hc j hj⟩
end Go.Proofs.YtppkjiihmlphbaaGreatDoor

/- DenCounts's plain half: First, by key. -/
namespace Go.Proofs.YtppkjiihmlphbaaGreatDoor

theorem nums_nil {l : List Rc} {k : ByteArray} : numsP l k = [] ↔ ¬ k ∈ firstsP l := by
  rw [firsts_mem]
  unfold numsP
  rw [List.map_eq_nil_iff, List.filter_eq_nil_iff]
  constructor
  · rintro h ⟨r, hr, e⟩
    exact absurd (by simpa using e) (h r hr)
  · intro h r hr c
    exact h ⟨r, hr, by simpa using c⟩
/-- What First hands on of records. -/
def firR (l : List Rc) : List Rc := (runP ⟨9, [0], emp, 0⟩ (l.map fun x => (x, 0))).1
theorem fir_run : ∀ (R : List Rc), (∀ r ∈ R, r.key.size ≤ 40) →
    let p := runP ⟨9, [0], emp, 0⟩ (R.reverse.map fun x => (x, 0))
    (∀ k, (p.2 k).isSome = true ↔ k ∈ firstsP R.reverse) ∧ (∀ k, numsP p.1 k = (numsP R.reverse k).take 1) ∧ firstsP p.1 = firstsP R.reverse ∧ p.1.length ≤ R.length ∧ ∀ r ∈ p.1, r.key.size ≤ 40 := by
  intro R
  induction R with
  | nil => intro _; exact ⟨fun k => by simp [runP, firstsP], fun k => rfl, rfl, Nat.le_refl _, by simp [runP]⟩
  | cons r R ih =>
    intro h
    obtain ⟨h1, h2, h3, h4, h5⟩ := ih (fun x hx => h x (by simp [hx]))
    have hk := h r (by simp)
    simp only [List.reverse_cons, List.map_append, List.map_cons, List.map_nil]
    rw [runP_snoc]
    generalize runP ⟨9, [0], emp, 0⟩ (R.reverse.map fun x => (x, (0 : Int))) = p at h1 h2 h3 h4 h5
    have es : ∃ s, stepP ⟨9, [0], emp, 0⟩ p (r, 0) = (p.1 ++ (if (p.2 r.key).isSome = true then [] else [r]), fun k => if k = r.key then some s else p.2 k) := by
      refine ⟨(appP ⟨9, [0], emp, 0⟩ ((p.2 r.key).getD hd0) (p.2 r.key).isSome r 0).2.1, ?_⟩
      have e2 : (appP ⟨9, [0], emp, 0⟩ ((p.2 r.key).getD hd0) (p.2 r.key).isSome r 0).2.2 = true := by simp [appP, hasStP]
      have e1 : (appP ⟨9, [0], emp, 0⟩ ((p.2 r.key).getD hd0) (p.2 r.key).isSome r 0).1 = if (p.2 r.key).isSome = true then [] else [r] := by
        by_cases hs : (p.2 r.key).isSome = true
        · simp [appP, hasStP, countedP, hs, cop_zero]
        · simp [appP, hasStP, countedP, hs, cop_one hk]
      unfold stepP
      simp only
      rw [e1, if_pos e2]
    obtain ⟨s, es⟩ := es
    rw [es]
    simp only
    have hin : (p.2 r.key).isSome = true ↔ r.key ∈ firstsP R.reverse := h1 _
    refine ⟨fun k => ?_, fun k => ?_, ?_, ?_, ?_⟩
    · rw [firsts_snoc']
      by_cases e : k = r.key
      · subst e
        by_cases hc : r.key ∈ firstsP R.reverse <;> simp [hc]
      · simp only [e, if_false]
        rw [h1]
        by_cases hc : r.key ∈ firstsP R.reverse <;> simp [hc, e]
    · rw [numsR_snoc]
      by_cases hc : r.key ∈ firstsP R.reverse
      · rw [if_pos (hin.2 hc), List.append_nil, h2]
        by_cases e : r.key = k
        · subst e
          rw [if_pos rfl]
          have hne : numsP R.reverse r.key ≠ [] := fun c => (nums_nil.1 c) hc
          cases hx : numsP R.reverse r.key with
          | nil => exact absurd hx hne
          | cons x l => simp
        · rw [if_neg e, List.append_nil]
      · rw [if_neg (fun c => hc (hin.1 c)), numsR_snoc, h2]
        by_cases e : r.key = k
        · subst e
          rw [if_pos rfl, nums_nil.2 hc]
          rfl
        · rw [if_neg e, List.append_nil, List.append_nil]
    · rw [firsts_snoc']
      by_cases hc : r.key ∈ firstsP R.reverse
      · rw [if_pos (hin.2 hc), if_pos hc, List.append_nil, h3]
      · rw [if_neg (fun c => hc (hin.1 c)), if_neg hc, firsts_snoc', h3, if_neg hc]
    · rw [List.length_append, List.length_cons]
      split <;> simp <;> omega
    · intro x hx
      rcases List.mem_append.1 hx with hx | hx
      · exact h5 x hx
      · split at hx
        · cases hx
        · rw [List.mem_singleton.1 hx]; exact hk
theorem fir_all {l : List Rc} (h : ∀ r ∈ l, r.key.size ≤ 40) : linesP (firR l) = ((keysP l).map fun k => (k, (numsP l k).take 1)) ∧ (firR l).length ≤ l.length ∧ ∀ r ∈ firR l, r.key.size ≤ 40 := by
  have := fir_run l.reverse (fun r hr => h r (by simpa using hr))
  rw [List.reverse_reverse] at this
  obtain ⟨-, h2, h3, h4, h5⟩ := this
  refine ⟨?_, by simpa [firR] using h4, h5⟩
  unfold linesP keysP
  rw [show firstsP (firR l) = firstsP l from h3]
  exact List.map_congr_left (fun k _ => by rw [show numsP (firR l) k = _ from h2 k])

/-- What Copy hands on of records. -/
def copR (n : Nat) (l : List Rc) : List Rc := (runP ⟨5, [0], emp, n⟩ (l.map fun x => (x, 0))).1
theorem cop_run (n : Nat) (hn : n ≤ 3) : ∀ (R : List Rc), (∀ r ∈ R, r.key.size ≤ 40) →
    let p := runP ⟨5, [0], emp, n⟩ (R.reverse.map fun x => (x, 0))
    (∀ k, (numsP p.1 k).length = n * (numsP R.reverse k).length) ∧ p.1.length = n * R.length ∧ ∀ r ∈ p.1, r.key.size ≤ 40 := by
  intro R
  induction R with
  | nil => intro _; exact ⟨fun k => by simp [runP, numsP], by simp [runP], by simp [runP]⟩
  | cons r R ih =>
    intro h
    obtain ⟨h1, h2, h3⟩ := ih (fun x hx => h x (by simp [hx]))
    have hk := h r (by simp)
    simp only [List.reverse_cons, List.map_append, List.map_cons, List.map_nil]
    rw [runP_snoc]
    generalize runP ⟨5, [0], emp, n⟩ (R.reverse.map fun x => (x, (0 : Int))) = p at h1 h2 h3
    have es : (stepP ⟨5, [0], emp, n⟩ p (r, 0)).1 = p.1 ++ List.replicate n r := by
      unfold stepP appP
      simp [hasStP, turnedP, copP]
      intro c
      omega
    rw [es]
    refine ⟨fun k => ?_, ?_, ?_⟩
    · rw [numsR_snoc]
      have e1 : numsP (p.1 ++ List.replicate n r) k = numsP p.1 k ++ if r.key = k then List.replicate n r.num else [] := by
        unfold numsP
        rw [List.filter_append, List.map_append]
        by_cases e : r.key = k <;> simp [e]
      rw [e1, List.length_append, List.length_append, h1, Nat.mul_add]
      by_cases e : r.key = k <;> simp [e]
    · rw [List.length_append, List.length_replicate, h2, List.length_cons, Nat.mul_add, Nat.mul_one]
    · intro x hx
      rcases List.mem_append.1 hx with hx | hx
      · exact h3 x hx
      · rw [List.eq_of_mem_replicate hx]; exact hk
end Go.Proofs.YtppkjiihmlphbaaGreatDoor

/- DenCounts's plain half: Every, by key. -/
namespace Go.Proofs.YtppkjiihmlphbaaGreatDoor

def evA (n : Int) (s : Int × Int) (x : Int) : Int × Int := if fullP s.1 n = true then (0, 0) else (wr (s.1 + 1), wr (s.2 + x))
def evO (n : Int) (s : Int × Int) (x : Int) : List Int := if fullP s.1 n = true then [wr (s.2 + x)] else []
/-- What Every makes of one key's numbers. -/
def evN (n : Int) : Int × Int → List Int → List Int
  | _, [] => []
  | s, x :: r => evO n s x ++ evN n (evA n s x) r
def evE (n : Int) : Int × Int → List Int → Int × Int
  | s, [] => s
  | s, x :: r => evE n (evA n s x) r
theorem evN_snoc (n : Int) : ∀ (l : List Int) (s : Int × Int) (x : Int), evN n s (l ++ [x]) = evN n s l ++ evO n (evE n s l) x
  | [], s, x => by simp [evN, evE]
  | y :: l, s, x => by simp only [List.cons_append, evN, evE, evN_snoc n l, List.append_assoc]
theorem evE_snoc (n : Int) : ∀ (l : List Int) (s : Int × Int) (x : Int), evE n s (l ++ [x]) = evA n (evE n s l) x
  | [], _, _ => rfl
  | y :: l, s, x => by simp only [List.cons_append, evE, evE_snoc n l]
def evR (n : Int) (l : List Rc) : List Rc := (runP ⟨8, [0], emp, n⟩ (l.map fun x => (x, 0))).1
theorem ev_run (n : Int) : ∀ (R : List Rc), (∀ r ∈ R, r.key.size ≤ 40) →
    let p := runP ⟨8, [0], emp, n⟩ (R.reverse.map fun x => (x, 0))
    (∀ k, (((p.2 k).getD hd0).a, ((p.2 k).getD hd0).b) = evE n (0, 0) (numsP R.reverse k)) ∧ (∀ k, numsP p.1 k = evN n (0, 0) (numsP R.reverse k)) ∧ p.1.length ≤ R.length ∧ ∀ r ∈ p.1, r.key.size ≤ 40 := by
  intro R
  induction R with
  | nil => intro _; exact ⟨fun k => rfl, fun k => rfl, Nat.le_refl _, by simp [runP]⟩
  | cons r R ih =>
    intro h
    obtain ⟨h1, h2, h4, h5⟩ := ih (fun x hx => h x (by simp [hx]))
    have hk := h r (by simp)
    simp only [List.reverse_cons, List.map_append, List.map_cons, List.map_nil]
    rw [runP_snoc]
    generalize runP ⟨8, [0], emp, n⟩ (R.reverse.map fun x => (x, (0 : Int))) = p at h1 h2 h4 h5
    have hst : (if (p.2 r.key).isSome then (p.2 r.key).getD hd0 else hd0) = (p.2 r.key).getD hd0 := by
      cases p.2 r.key <;> simp
    have hs := h1 r.key
    generalize hS : (p.2 r.key).getD hd0 = S at hs hst
    have es : stepP ⟨8, [0], emp, n⟩ p (r, 0) = (p.1 ++ (evO n (S.a, S.b) r.num).map (fun v => ⟨r.key, v, r.time⟩), fun k => if k = r.key then some ⟨0, r.key, (evA n (S.a, S.b) r.num).1, (evA n (S.a, S.b) r.num).2⟩ else p.2 k) := by
      unfold stepP appP
      simp only [hasStP, hS, hst]
      by_cases hf : fullP S.a n = true
      · simp [countedP, evO, evA, hf]
        exact cop_one hk
      · simp [countedP, evO, evA, hf, cop_zero]
    rw [es]
    simp only
    refine ⟨fun k => ?_, fun k => ?_, ?_, ?_⟩
    · rw [numsR_snoc]
      by_cases e : k = r.key
      · subst e
        simp only [if_true, Option.getD_some]
        rw [evE_snoc, ← hs]
      · have e' : ¬ r.key = k := fun h => e h.symm
        simp only [e, e', if_false, List.append_nil]
        exact h1 k
    · rw [numsR_snoc]
      have e1 : ∀ L : List Int, numsP (p.1 ++ L.map (fun v => (⟨r.key, v, r.time⟩ : Rc))) k = numsP p.1 k ++ if r.key = k then L else [] := by
        intro L
        unfold numsP
        rw [List.filter_append, List.map_append]
        by_cases e : r.key = k
        · simp [e, List.filter_map, Function.comp_def]
        · simp [e, List.filter_map, Function.comp_def]
      rw [e1, h2]
      by_cases e : r.key = k
      · subst e
        rw [if_pos rfl, if_pos rfl, evN_snoc, ← hs]
      · rw [if_neg e, if_neg e, List.append_nil, List.append_nil]
    · rw [List.length_append, List.length_cons, List.length_map]
      unfold evO
      split <;> simp <;> omega
    · intro x hx
      rcases List.mem_append.1 hx with hx | hx
      · exact h5 x hx
      · obtain ⟨v, -, rfl⟩ := List.mem_map.1 hx
        exact hk
theorem ev_all (n : Int) {l : List Rc} (h : ∀ r ∈ l, r.key.size ≤ 40) : (∀ k, numsP (evR n l) k = evN n (0, 0) (numsP l k)) ∧ (evR n l).length ≤ l.length ∧ ∀ r ∈ evR n l, r.key.size ≤ 40 := by
  have := ev_run n l.reverse (fun r hr => h r (by simpa using hr))
  rw [List.reverse_reverse, List.length_reverse] at this
  exact this.2
/-- Numbers added up, each time wrapped. -/
def sw (l : List Int) : Int := l.foldl (fun s x => wr (s + x)) 0
theorem ev_less {n : Nat} (h1 : 1 ≤ n) (h3 : n ≤ 3) {P : List Int} (h : P.length < n) : evN n (0, 0) P = [] := by
  obtain rfl | rfl | rfl : n = 1 ∨ n = 2 ∨ n = 3 := by omega
  · match P, h with
    | [], _ => rfl
  · match P, h with
    | [], _ => rfl
    | [x], _ => rfl
  · match P, h with
    | [], _ => rfl
    | [x], _ => rfl
    | [x, y], _ => rfl
theorem ev_more {n : Nat} (h1 : 1 ≤ n) (h3 : n ≤ 3) {P : List Int} (h : n ≤ P.length) : evN n (0, 0) P = sw (P.take n) :: evN n (0, 0) (P.drop n) := by
  obtain rfl | rfl | rfl : n = 1 ∨ n = 2 ∨ n = 3 := by omega
  · match P, h with
    | x :: r, _ => rfl
  · match P, h with
    | x :: y :: r, _ => rfl
  · match P, h with
    | x :: y :: z :: r, _ => rfl
theorem ev_len {n : Nat} (h1 : 1 ≤ n) (h3 : n ≤ 3) : ∀ (m : Nat) (P : List Int), P.length ≤ m → (evN n (0, 0) P).length = P.length / n
  | m, P, hm => by
    by_cases h : n ≤ P.length
    · cases m with
      | zero => omega
      | succ m =>
        rw [ev_more h1 h3 h, List.length_cons, ev_len h1 h3 m (P.drop n) (by rw [List.length_drop]; omega), List.length_drop, Nat.div_eq P.length n, if_pos ⟨h1, h⟩]
    · rw [ev_less h1 h3 (by omega), Nat.div_eq_of_lt (by omega)]; rfl
theorem ev_get {n : Nat} (h1 : 1 ≤ n) (h3 : n ≤ 3) : ∀ (k : Nat) (P : List Int), (k + 1) * n ≤ P.length → (evN n (0, 0) P)[k]? = some (sw ((P.drop (k * n)).take n))
  | 0, P, h => by
    rw [ev_more h1 h3 (by omega)]
    simp
  | k + 1, P, h => by
    have e : (k + 1 + 1) * n = (k + 1) * n + n := by rw [Nat.add_mul (k + 1), Nat.one_mul]
    rw [ev_more h1 h3 (by omega), List.getElem?_cons_succ, ev_get h1 h3 k (P.drop n) (by rw [List.length_drop]; omega), List.drop_drop]
    congr 4
    rw [Nat.add_mul, Nat.one_mul, Nat.add_comm]
end Go.Proofs.YtppkjiihmlphbaaGreatDoor

/- DenCounts's plain half, put together. -/
namespace Go.Proofs.YtppkjiihmlphbaaGreatDoor

theorem tag_le {nd : Nd} {l o : List Rc} (ho : (runP nd (l.map fun x => (x, 0))).1 = o) (hl : o.length ≤ 2000) : handP nd [l] = some o := by
  unfold handP
  rw [tag_one, ho, if_neg (by omega)]
theorem cop_all (n : Nat) (hn : n ≤ 3) {l : List Rc} (h : ∀ r ∈ l, r.key.size ≤ 40) : (∀ k, (numsP (copR n l) k).length = n * (numsP l k).length) ∧ (copR n l).length = n * l.length ∧ ∀ r ∈ copR n l, r.key.size ≤ 40 := by
  have := cop_run n hn l.reverse (fun r hr => h r (by simpa using hr))
  rw [List.reverse_reverse, List.length_reverse] at this
  exact this
theorem own_first (f : Int) : ownP ⟨9, [f], emp, 0⟩ = 0 := by unfold ownP; simp [hasNP, hasTP, bdLo, bdHi, emp]; rfl
theorem job_first : jobP (jLine ⟨9, [0], emp, 0⟩) = 0 := by
  unfold jobP jLine
  simp [allP, nodeP, inLo, inHi, fromP, fromOne, kindAt, own_src3, own_first, own_sink, endsP]
theorem job_copy {n : Nat} (h1 : 1 ≤ n) (h3 : n ≤ 3) : jobP (jLine ⟨5, [0], emp, n⟩) = 0 := by
  have : ∀ f : Int, ownP ⟨5, [f], emp, n⟩ = 0 := fun f => by
    obtain rfl | rfl | rfl : n = 1 ∨ n = 2 ∨ n = 3 := by omega
    all_goals (unfold ownP; simp [hasNP, hasTP, bdLo, bdHi, emp]; rfl)
  unfold jobP jLine
  simp [allP, nodeP, inLo, inHi, fromP, fromOne, kindAt, own_src3, this, own_sink, endsP]
theorem job_every {n : Nat} (h1 : 1 ≤ n) (h3 : n ≤ 3) : jobP (jLine ⟨8, [0], emp, n⟩) = 0 := by
  have : ∀ f : Int, ownP ⟨8, [f], emp, n⟩ = 0 := fun f => by
    obtain rfl | rfl | rfl : n = 1 ∨ n = 2 ∨ n = 3 := by omega
    all_goals (unfold ownP; simp [hasNP, hasTP, bdLo, bdHi, emp]; rfl)
  unfold jobP jLine
  simp [allP, nodeP, inLo, inHi, fromP, fromOne, kindAt, own_src3, this, own_sink, endsP]
/-- What DenCounts leans on. -/
theorem counts_pure (d : List Rc) (hn : ∀ r ∈ d, Rng r.num) (hE : denE (jLine ⟨2, [0], txn, 0⟩) [d] = 0) : denV (jLine ⟨2, [0], txn, 0⟩) [d] = [linesP d] ∧
    (denE (jLine ⟨9, [0], emp, 0⟩) [d] = 0 ∧ denV (jLine ⟨9, [0], emp, 0⟩) [d] = [(keysP d).map fun k => (k, (numsP d k).take 1)]) ∧
    (∀ n : Nat, 1 ≤ n → n ≤ 3 → (denE (jLine ⟨5, [0], emp, n⟩) [d] = 0 ∧ denV (jLine ⟨5, [0], emp, n⟩) [d] = [linesP (copR n d)]) ∧ (denE (jLine ⟨8, [0], emp, n⟩) [d] = 0 ∧ denV (jLine ⟨8, [0], emp, n⟩) [d] = [linesP (evR n d)]) ∧
      (copR n d).length ≤ 900 ∧ (evR n d).length ≤ 300 ∧ (∀ k, (numsP (copR n d) k).length = n * (numsP d k).length) ∧ (∀ k, numsP (evR n d) k = evN n (0, 0) (numsP d k))) ∧ d.length ≤ 300 := by
  by_cases h1 : checkP [d] 1 = 0
  · have hdp : dataP [d] = 0 := by
      unfold checkP at h1
      simpa using h1
    obtain ⟨ok, le⟩ := data_ok hdp (fun l hl => by rw [List.mem_singleton.1 hl]; exact hn)
    have ok' := ok d (by simp)
    have le' := le d (by simp)
    have hk : ∀ r ∈ d, r.key.size ≤ 40 := fun r hr => (ok' r hr).key
    have hP : denV (jLine ⟨2, [0], txn, 0⟩) [d] = [linesP d] := by
      rcases sums_pure d hn with h | h
      · exact absurd hE h
      · exact h.1.2
    refine ⟨hP, ?_, fun n n1 n3 => ?_, le'⟩
    · obtain ⟨f1, f2, f3⟩ := fir_all hk
      rw [← f1]
      exact den_line job_first rfl (show (9 : Int) ≠ 10 by decide) h1 (flow_line (show (9 : Int) ≠ 1 by decide) rfl ok' (by omega) (tag_le (o := firR d) rfl (by omega)) f3 (by omega))
    · obtain ⟨c1, c2, c3⟩ := cop_all n n3 hk
      obtain ⟨e1, e2, e3⟩ := ev_all (n : Int) hk
      have hc : (copR n d).length ≤ 900 := by
        rw [c2]
        exact Nat.le_trans (Nat.mul_le_mul n3 le') (by decide)
      exact ⟨den_line (job_copy n1 n3) rfl (show (5 : Int) ≠ 10 by decide) h1 (flow_line (show (5 : Int) ≠ 1 by decide) rfl ok' (by omega) (tag_le (o := copR n d) rfl (by omega)) c3 (by omega)),
        den_line (job_every n1 n3) rfl (show (8 : Int) ≠ 10 by decide) h1 (flow_line (show (8 : Int) ≠ 1 by decide) rfl ok' (by omega) (tag_le (o := evR n d) rfl (by omega)) e3 (by omega)), hc, by omega, c1, e1⟩
  · exact absurd hE (den_bad job_mapn rfl h1)
theorem fir_fact : (keysP dFact).map (fun k => (k, (numsP dFact k).take 1)) = [(kA, [2])] := by
  rw [keys_fact, List.map_cons, List.map_nil]
  rw [show numsP dFact kA = [2, 3] from by decide]
  rfl
end Go.Proofs.YtppkjiihmlphbaaGreatDoor

/- Sub by what a number leaves over m. -/
namespace Go.Proofs.YtppkjiihmlphbaaGreatDoor
open Go.Lib (decDigits itoa)
set_option linter.unusedVariables false

def txR (m : Nat) : ByteArray := ⟨#[110, 37, UInt8.ofNat (48 + m)]⟩
theorem nine {m : Nat} (h1 : 1 ≤ m) (h9 : m ≤ 9) : m = 1 ∨ m = 2 ∨ m = 3 ∨ m = 4 ∨ m = 5 ∨ m = 6 ∨ m = 7 ∨ m = 8 ∨ m = 9 := by omega
theorem val_R {m : Nat} (h1 : 1 ≤ m) (h9 : m ≤ 9) (n : Int) : valP (txR m) n 0 = n.tmod m := by
  rcases nine h1 h9 with rfl | rfl | rfl | rfl | rfl | rfl | rfl | rfl | rfl <;> rfl
theorem job_R {m : Nat} (h1 : 1 ≤ m) (h9 : m ≤ 9) : jobP (jLine ⟨4, [0], txR m, 0⟩) = 0 := by
  rcases nine h1 h9 with rfl | rfl | rfl | rfl | rfl | rfl | rfl | rfl | rfl <;> decide +kernel
def sR (m : Nat) (r : Rc) : Rc := ⟨r.key ++ (⟨#[47]⟩ ++ itoB (r.num.tmod m)), r.num, r.time⟩
def subR (m : Nat) (l : List Rc) : List Rc := (l.map (sR m)).filter fun r => decide (r.key.size ≤ 40)
theorem g_sub {m : Nat} (h1 : 1 ≤ m) (h9 : m ≤ 9) (fs : List Int) (r : Rc) (i : Int) : gP ⟨4, fs, txR m, 0⟩ r i = if (sR m r).key.size ≤ 40 then [sR m r] else [] := by
  unfold gP turnedP
  simp [val_R h1 h9]
  unfold copP sR
  by_cases hc : 40 < (r.key ++ (⟨#[47]⟩ ++ itoB (r.num.tmod m))).size
  · rw [if_pos (.inl hc), if_neg (by simp only; omega)]
  · rw [if_neg (by simp only; omega), if_pos (by simp only; omega)]; rfl
theorem flat_sub {m : Nat} (h1 : 1 ≤ m) (h9 : m ≤ 9) (fs : List Int) (l : List Rc) (i : Int) : (l.map fun x => (x, i)).flatMap (fun x => gP ⟨4, fs, txR m, 0⟩ x.1 x.2) = subR m l := by
  unfold subR
  induction l with
  | nil => rfl
  | cons x r ih =>
    simp only [List.map_cons, List.flatMap_cons]
    rw [ih, g_sub h1 h9, List.filter_cons]
    by_cases hs : (sR m x).key.size ≤ 40 <;> simp [hs]
theorem sub_len (m : Nat) (l : List Rc) : (subR m l).length ≤ l.length := by
  unfold subR; exact Nat.le_trans (List.length_filter_le _ _) (by simp)
theorem sub_ok {m : Nat} {l : List Rc} : ∀ r ∈ subR m l, r.key.size ≤ 40 := fun r hr => by
  have := (List.mem_filter.1 hr).2
  simpa using this
theorem hand_sub {m : Nat} (h1 : 1 ≤ m) (h9 : m ≤ 9) {l : List Rc} (hl : l.length ≤ 300) : handP ⟨4, [0], txR m, 0⟩ [l] = some (subR m l) := by
  have e : (tagP 0 [l]).flatMap (fun x => gP ⟨4, [0], txR m, 0⟩ x.1 x.2) = subR m l := by
    simp only [tagP, List.append_nil]
    exact flat_sub h1 h9 _ _ _
  rw [hand_plain rfl, e, if_neg]
  have := sub_len m l
  omega
theorem subs_pure (d : List Rc) (hn : ∀ r ∈ d, Rng r.num) (hE : denE (jLine ⟨2, [0], txn, 0⟩) [d] = 0) : denV (jLine ⟨2, [0], txn, 0⟩) [d] = [linesP d] ∧
    (∀ m : Nat, 1 ≤ m → m ≤ 9 → denE (jLine ⟨4, [0], txR m, 0⟩) [d] = 0 ∧ denV (jLine ⟨4, [0], txR m, 0⟩) [d] = [linesP (subR m d)]) ∧ d.length ≤ 300 := by
  by_cases h1 : checkP [d] 1 = 0
  · have hdp : dataP [d] = 0 := by
      unfold checkP at h1
      simpa using h1
    obtain ⟨ok, le⟩ := data_ok hdp (fun l hl => by rw [List.mem_singleton.1 hl]; exact hn)
    have ok' := ok d (by simp)
    have le' := le d (by simp)
    have hP : denV (jLine ⟨2, [0], txn, 0⟩) [d] = [linesP d] := by
      rcases sums_pure d hn with h | h
      · exact absurd hE h
      · exact h.1.2
    refine ⟨hP, fun m m1 m9 => ?_, le'⟩
    have := sub_len m d
    exact den_line (job_R m1 m9) rfl (show (4 : Int) ≠ 10 by decide) h1 (flow_line (show (4 : Int) ≠ 1 by decide) rfl ok' (by omega) (hand_sub m1 m9 le') sub_ok (by omega))
  · exact absurd hE (den_bad job_mapn rfl h1)
end Go.Proofs.YtppkjiihmlphbaaGreatDoor

/- Parts of keys: each number lies in its part. -/
namespace Go.Proofs.YtppkjiihmlphbaaGreatDoor
open Go.Lib (decDigits itoa)
set_option linter.unusedVariables false

theorem ito_small {k : Int} (h1 : -9 < k) (h2 : k < 9) : itoa k = (if k < 0 then [45] else []) ++ [UInt8.ofNat (48 + k.natAbs)] := by
  unfold itoa
  by_cases h : k < 0
  · rw [if_pos h, if_pos h, Go.Lib.decDigits_one (by omega)]; rfl
  · rw [if_neg h, if_neg h, Go.Lib.decDigits_one (by omega), show k.toNat = k.natAbs by omega]; rfl
theorem dig_ne {n : Nat} (h : n < 10) : UInt8.ofNat (48 + n) ≠ 47 ∧ UInt8.ofNat (48 + n) ≠ 45 ∧ (UInt8.ofNat (48 + n)).toNat = 48 + n := by
  have e : (UInt8.ofNat (48 + n)).toNat = 48 + n := by rw [UInt8.toNat_ofNat']; omega
  refine ⟨fun c => ?_, fun c => ?_, e⟩
  · rw [c] at e; have : (47 : UInt8).toNat = 47 := rfl; omega
  · rw [c] at e; have : (45 : UInt8).toNat = 45 := rfl; omega
theorem ito_no {k : Int} (h1 : -9 < k) (h2 : k < 9) : (47 : UInt8) ∉ itoa k := by
  rw [ito_small h1 h2]
  obtain ⟨a, -, -⟩ := dig_ne (n := k.natAbs) (by omega)
  intro h
  rcases List.mem_append.1 h with h | h
  · split at h
    · rw [List.mem_singleton] at h; exact absurd h (by decide)
    · simp at h
  · rw [List.mem_singleton] at h; exact a h.symm
theorem ito_inj {k j : Int} (h1 : -9 < k) (h2 : k < 9) (h3 : -9 < j) (h4 : j < 9) (e : itoa k = itoa j) : k = j := by
  rw [ito_small h1 h2, ito_small h3 h4] at e
  obtain ⟨a1, a2, a3⟩ := dig_ne (n := k.natAbs) (by omega)
  obtain ⟨b1, b2, b3⟩ := dig_ne (n := j.natAbs) (by omega)
  generalize UInt8.ofNat (48 + k.natAbs) = x at *
  generalize UInt8.ofNat (48 + j.natAbs) = y at *
  by_cases hk : k < 0 <;> by_cases hj : j < 0 <;> simp [hk, hj] at e
  · rw [e] at a3; omega
  · rw [e] at a3; omega
theorem ito_len {k : Int} (h1 : -9 < k) (h2 : k < 9) : (itoa k).length ≤ 2 := by
  rw [ito_small h1 h2]; split <;> simp
theorem part_inj {x y p q : List UInt8} (hp : (47 : UInt8) ∉ p) (hq : (47 : UInt8) ∉ q) (e : x ++ 47 :: p = y ++ 47 :: q) : x = y ∧ p = q := by
  rcases List.append_eq_append_iff.1 e with ⟨t, h1, h2⟩ | ⟨t, h1, h2⟩
  · cases t with
    | nil => simp at h1 h2; exact ⟨h1.symm, h2⟩
    | cons c t =>
      simp at h2
      exact absurd (by rw [h2.2]; simp) hp
  · cases t with
    | nil => simp at h1 h2; exact ⟨h1, h2.symm⟩
    | cons c t =>
      simp at h2
      exact absurd (by rw [h2.2]; simp) hq
/-- A part's key. -/
def keyS (k : ByteArray) (j : Int) : ByteArray := k ++ (⟨#[47]⟩ ++ itoB j)
theorem keyS_list (k : ByteArray) (j : Int) : (keyS k j).data.toList = k.data.toList ++ 47 :: itoa j := by
  unfold keyS itoB; simp [ByteArray.data_append]
theorem keyS_inj {k k' : ByteArray} {j j' : Int} (h1 : -9 < j) (h2 : j < 9) (h3 : -9 < j') (h4 : j' < 9) (e : keyS k j = keyS k' j') : k = k' ∧ j = j' := by
  have h := congrArg (fun x => x.data.toList) e
  simp only [keyS_list] at h
  obtain ⟨a, b⟩ := part_inj (ito_no h1 h2) (ito_no h3 h4) h
  refine ⟨?_, ito_inj h1 h2 h3 h4 b⟩
  cases k; cases k'
  simpa using a
theorem keyS_size {k : ByteArray} {j : Int} (h1 : -9 < j) (h2 : j < 9) : (keyS k j).size ≤ k.size + 3 := by
  have h := congrArg List.length (keyS_list k j)
  have hl := ito_len h1 h2
  have e1 : (keyS k j).size = (keyS k j).data.toList.length := by rw [Array.length_toList]; rfl
  have e2 : k.size = k.data.toList.length := by rw [Array.length_toList]; rfl
  simp only [List.length_append, List.length_cons] at h
  omega
theorem tmod_small {m : Nat} (h1 : 1 ≤ m) (h9 : m ≤ 9) (n : Int) : -(m : Int) < n.tmod m ∧ n.tmod m < m := by
  have a := Int.tmod_lt_of_pos n (show (0 : Int) < m by omega)
  have b := Int.lt_tmod_of_pos n (show (0 : Int) < m by omega)
  exact ⟨b, a⟩
theorem nums_sub {m : Nat} (h1 : 1 ≤ m) (h9 : m ≤ 9) {k : ByteArray} (hk : k.size ≤ 37) {j : Int} (hj1 : -(m : Int) < j) (hj2 : j < m) (l : List Rc) : numsP (subR m l) (keyS k j) = (numsP l k).filter fun n => decide (n.tmod m = j) := by
  induction l with
  | nil => rfl
  | cons r l ih =>
    obtain ⟨t1, t2⟩ := tmod_small h1 h9 r.num
    have e : subR m (r :: l) = (if (keyS r.key (r.num.tmod m)).size ≤ 40 then [sR m r] else []) ++ subR m l := by
      unfold subR
      rw [List.map_cons, List.filter_cons]
      by_cases hs : (keyS r.key (r.num.tmod m)).size ≤ 40
      · have hs' : (sR m r).key.size ≤ 40 := hs
        rw [if_pos hs]; simp [hs']
      · have hs' : ¬ (sR m r).key.size ≤ 40 := hs
        rw [if_neg hs]; simp [hs']
    rw [e]
    unfold numsP at ih ⊢
    rw [List.filter_append, List.map_append, ih, List.filter_cons]
    have hkey : (sR m r).key = keyS r.key (r.num.tmod m) := rfl
    have hnum : (sR m r).num = r.num := rfl
    by_cases hr : r.key = k
    · subst hr
      have hz := keyS_size (k := r.key) (j := r.num.tmod m) (by omega) (by omega)
      rw [if_pos (by omega)]
      by_cases ht : r.num.tmod m = j
      · subst ht
        simp [hkey, hnum]
      · have hn : ¬ keyS r.key (r.num.tmod m) = keyS r.key j := fun c => ht (keyS_inj (by omega) (by omega) (by omega) (by omega) c).2
        simp [hkey, hn, ht]
    · have hn : ¬ keyS r.key (r.num.tmod m) = keyS k j := fun c => hr (keyS_inj (by omega) (by omega) (by omega) (by omega) c).1
      split
      · simp [hkey, hr, hn]
      · simp [hr]
/-- Parts, from 1 - m on. -/
def parts (m : Nat) : List Int := (List.range (2 * m - 1)).map fun t => 1 - (m : Int) + (t : Nat)
theorem parts_mem {m : Nat} (h1 : 1 ≤ m) {j : Int} : j ∈ parts m ↔ -(m : Int) < j ∧ j < m := by
  unfold parts
  rw [List.mem_map]
  constructor
  · rintro ⟨t, ht, rfl⟩
    have := List.mem_range.1 ht
    omega
  · rintro ⟨a, b⟩
    exact ⟨(j + m - 1).toNat, List.mem_range.2 (by omega), by omega⟩
def wantP (m : Nat) (P : List Int) (j : Int) : List Int := P.filter fun n => decide (n.tmod m = j)
/-- The parts of a key that have a number. -/
def hasP (m : Nat) (P : List Int) : List Int := (parts m).filter fun j => decide (wantP m P j ≠ [])
theorem parts_nodup (m : Nat) : (parts m).Nodup := by
  unfold parts
  rw [List.nodup_iff_pairwise_ne, List.pairwise_map]
  exact List.Pairwise.imp (fun h c => by omega) List.pairwise_lt_range
end Go.Proofs.YtppkjiihmlphbaaGreatDoor

/- How many parts there are. -/
namespace Go.Proofs.YtppkjiihmlphbaaGreatDoor
open Go.Lib (decDigits itoa)
set_option linter.unusedVariables false

def pkeys (m : Nat) (l : List Rc) (ks : List ByteArray) : List ByteArray := ks.flatMap fun k => (hasP m (numsP l k)).map (keyS k)
theorem keys_mem {l : List Rc} {k : ByteArray} : k ∈ keysP l ↔ ∃ r ∈ l, r.key = k := by
  rw [← firsts_mem]; exact (List.mergeSort_perm _ _).mem_iff
theorem keys_nodup (l : List Rc) : (keysP l).Nodup := (List.mergeSort_perm _ _).nodup_iff.2 (firsts_nodup l)
theorem nums_mem {l : List Rc} {k : ByteArray} {n : Int} : n ∈ numsP l k ↔ ∃ r ∈ l, r.key = k ∧ r.num = n := by
  unfold numsP
  rw [List.mem_map]
  constructor
  · rintro ⟨r, hr, rfl⟩
    have := List.mem_filter.1 hr
    exact ⟨r, this.1, by simpa using this.2, rfl⟩
  · rintro ⟨r, hr, h1, rfl⟩
    exact ⟨r, List.mem_filter.2 ⟨hr, by simpa using h1⟩, rfl⟩
theorem has_mem {m : Nat} (h1 : 1 ≤ m) {P : List Int} {j : Int} : j ∈ hasP m P ↔ (-(m : Int) < j ∧ j < m) ∧ ∃ n ∈ P, n.tmod m = j := by
  unfold hasP wantP
  rw [List.mem_filter, parts_mem h1]
  constructor
  · rintro ⟨a, b⟩
    refine ⟨a, ?_⟩
    have b' : ¬ P.filter (fun n => decide (n.tmod m = j)) = [] := of_decide_eq_true b
    obtain ⟨x, hx⟩ := List.exists_mem_of_ne_nil _ b'
    have := List.mem_filter.1 hx
    exact ⟨x, this.1, of_decide_eq_true this.2⟩
  · rintro ⟨a, n, hn, he⟩
    refine ⟨a, decide_eq_true ?_⟩
    intro c
    have : n ∈ P.filter (fun n => decide (n.tmod m = j)) := List.mem_filter.2 ⟨hn, decide_eq_true he⟩
    rw [c] at this
    simp at this
theorem pkeys_nodup {m : Nat} (h1 : 1 ≤ m) (h9 : m ≤ 9) (l : List Rc) (ks : List ByteArray) (hn : ks.Nodup) : (pkeys m l ks).Nodup := by
  unfold pkeys
  rw [List.nodup_iff_pairwise_ne, List.pairwise_flatMap]
  refine ⟨fun k hk => ?_, ?_⟩
  · rw [List.pairwise_map]
    have hd : (hasP m (numsP l k)).Nodup := List.Nodup.sublist List.filter_sublist (parts_nodup m)
    refine List.Pairwise.imp_of_mem ?_ hd
    intro a b ha hb hab c
    have a1 := ((has_mem h1).1 ha).1
    have b1 := ((has_mem h1).1 hb).1
    exact hab (keyS_inj (by omega) (by omega) (by omega) (by omega) c).2
  · refine List.Pairwise.imp_of_mem ?_ hn
    intro a b _ _ hab x hx y hy c
    obtain ⟨j, hj, rfl⟩ := List.mem_map.1 hx
    obtain ⟨j', hj', rfl⟩ := List.mem_map.1 hy
    have a1 := ((has_mem h1).1 hj).1
    have b1 := ((has_mem h1).1 hj').1
    exact hab (keyS_inj (by omega) (by omega) (by omega) (by omega) c).1
theorem subs_count {m : Nat} (h1 : 1 ≤ m) (h9 : m ≤ 9) (l : List Rc) (hk : ∀ k ∈ keysP l, k.size ≤ 37) : (linesP (subR m l)).length = (pkeys m l (keysP l)).length := by
  rw [lines_len]
  refine List.Perm.length_eq ((List.perm_ext_iff_of_nodup (firsts_nodup _) (pkeys_nodup h1 h9 l _ (keys_nodup l))).2 fun q => ?_)
  rw [firsts_mem]
  unfold pkeys
  rw [List.mem_flatMap]
  constructor
  · rintro ⟨r', hr, rfl⟩
    obtain ⟨r, hr1, rfl⟩ := List.mem_map.1 (List.mem_filter.1 hr).1
    refine ⟨r.key, keys_mem.2 ⟨r, hr1, rfl⟩, List.mem_map.2 ⟨r.num.tmod m, (has_mem h1).2 ⟨tmod_small h1 h9 _, r.num, nums_mem.2 ⟨r, hr1, rfl, rfl⟩, rfl⟩, rfl⟩⟩
  · rintro ⟨k, hkk, hq⟩
    obtain ⟨j, hj, rfl⟩ := List.mem_map.1 hq
    obtain ⟨hb, n, hn, rfl⟩ := (has_mem h1).1 hj
    obtain ⟨r, hr, rfl, rfl⟩ := nums_mem.1 hn
    refine ⟨sR m r, List.mem_filter.2 ⟨List.mem_map.2 ⟨r, hr, rfl⟩, ?_⟩, rfl⟩
    have hz := keyS_size (k := r.key) (j := r.num.tmod m) (by omega) (by omega)
    have := hk _ hkk
    have hs : (sR m r).key.size ≤ 40 := by
      show (keyS r.key (r.num.tmod m)).size ≤ 40
      omega
    simpa using hs
theorem pkeys_next (m : Nat) (l : List Rc) {ks : List ByteArray} {i : Nat} (h : i < ks.length) : (pkeys m l (ks.take (i + 1))).length = (pkeys m l (ks.take i)).length + (hasP m (numsP l ks[i])).length := by
  unfold pkeys
  rw [List.take_succ_eq_append_getElem h, List.flatMap_append, List.length_append]
  simp
end Go.Proofs.YtppkjiihmlphbaaGreatDoor

/- Natural numbers as words of 32 bits, the lowest first. -/
namespace Go.Proofs.YtppkjiihmlphbaaGreatDoor

def nv : List Nat → Nat
  | [] => 0
  | a :: l => a + 4294967296 * nv l

theorem nv_cons (a : Nat) (l : List Nat) : nv (a :: l) = a + 4294967296 * nv l := by rw [nv]
theorem nv_nil : nv [] = 0 := by rw [nv]

theorem nv_append (l r : List Nat) : nv (l ++ r) = nv l + 4294967296 ^ l.length * nv r := by
  induction l with
  | nil => simp [nv_nil]
  | cons a l ih =>
    rw [List.cons_append, nv_cons, nv_cons, ih, List.length_cons, Nat.pow_succ, Nat.mul_add, Nat.mul_comm (4294967296 ^ l.length) 4294967296, Nat.mul_assoc]
    omega
theorem nv_snoc (l : List Nat) (x : Nat) : nv (l ++ [x]) = nv l + 4294967296 ^ l.length * x := by
  rw [nv_append, nv_cons, nv_nil]; simp

theorem nv_lt (l : List Nat) (h : ∀ a ∈ l, a < 4294967296) : nv l < 4294967296 ^ l.length := by
  induction l with
  | nil => simp [nv_nil]
  | cons a l ih =>
    have h1 := h a (by simp)
    have h2 := ih (fun x hx => h x (by simp [hx]))
    rw [nv_cons, List.length_cons, Nat.pow_succ]
    generalize 4294967296 ^ l.length = p at h2
    omega

theorem nv_set (l : List Nat) (k x : Nat) (hk : k < l.length) : nv (l.set k x) + 4294967296 ^ k * l[k] = nv l + 4294967296 ^ k * x := by
  induction l generalizing k with
  | nil => simp at hk
  | cons a l ih =>
    cases k with
    | zero => simp only [List.set_cons_zero, nv_cons, List.getElem_cons_zero, Nat.pow_zero, Nat.one_mul]; omega
    | succ k =>
      have := ih k (by simpa using hk)
      simp only [List.set_cons_succ, nv_cons, List.getElem_cons_succ]
      have e : ∀ y, 4294967296 ^ (k + 1) * y = 4294967296 * (4294967296 ^ k * y) := by
        intro y; rw [Nat.pow_succ, Nat.mul_comm (4294967296 ^ k) 4294967296, Nat.mul_assoc]
      rw [e, e]
      omega

theorem nv_zeros (n : Nat) : nv (List.replicate n 0) = 0 := by
  induction n with
  | zero => rfl
  | succ n ih => rw [List.replicate_succ, nv_cons, ih]

theorem nv_take_succ (l : List Nat) (i : Nat) (hi : i < l.length) : nv (l.take (i + 1)) = nv (l.take i) + 4294967296 ^ i * l[i] := by
  rw [List.take_succ_eq_append_getElem hi, nv_snoc, List.length_take, Nat.min_eq_left (by omega)]

/-- The words of a number, no 0 at the end. -/
def wl (n : Nat) : List Nat := if h : n = 0 then [] else n % 4294967296 :: wl (n / 4294967296)
termination_by n
decreasing_by omega

theorem wl_zero : wl 0 = [] := by rw [wl, dif_pos rfl]
theorem wl_pos {n : Nat} (h : n ≠ 0) : wl n = n % 4294967296 :: wl (n / 4294967296) := by rw [wl, dif_neg h]
theorem wl_step (a m : Nat) (ha : a < 4294967296) (h : a ≠ 0 ∨ m ≠ 0) : wl (a + 4294967296 * m) = a :: wl m := by
  have e1 : (a + 4294967296 * m) % 4294967296 = a := by omega
  have e2 : (a + 4294967296 * m) / 4294967296 = m := by omega
  rw [wl_pos (by omega), e1, e2]
theorem nv_wl (n : Nat) : nv (wl n) = n := by
  induction n using Nat.strongRecOn with
  | _ n ih =>
    by_cases h : n = 0
    · subst h; rw [wl_zero, nv_nil]
    · rw [wl_pos h, nv_cons, ih _ (by omega)]; omega
theorem wl_lt (n : Nat) : ∀ a ∈ wl n, a < 4294967296 := by
  induction n using Nat.strongRecOn with
  | _ n ih =>
    by_cases h : n = 0
    · subst h; rw [wl_zero]; simp
    · rw [wl_pos h]
      intro a ha
      rcases List.mem_cons.1 ha with rfl | ha
      · omega
      · exact ih _ (by omega) a ha

def trimL : List Nat → List Nat
  | [] => []
  | a :: l => if trimL l = [] ∧ a = 0 then [] else a :: trimL l

theorem trim_wl (l : List Nat) (h : ∀ a ∈ l, a < 4294967296) : trimL l = wl (nv l) := by
  induction l with
  | nil => rw [nv_nil, wl_zero]; rfl
  | cons a l ih =>
    have h2 := ih (fun x hx => h x (by simp [hx]))
    have ha := h a (by simp)
    rw [nv_cons]
    unfold trimL
    by_cases hz : nv l = 0
    · have e : trimL l = [] := by rw [h2, hz, wl_zero]
      by_cases h0 : a = 0
      · rw [if_pos ⟨e, h0⟩, h0, hz]; exact wl_zero.symm
      · rw [if_neg (fun h => h0 h.2), wl_step a _ ha (.inl h0), h2]
    · have e : trimL l ≠ [] := by rw [h2, wl_pos hz]; simp
      rw [if_neg (fun h => e h.1), wl_step a _ ha (.inr hz), h2]
theorem trim_zero (l : List Nat) : trimL (l ++ [0]) = trimL l := by
  induction l with
  | nil => simp [trimL]
  | cons a l ih => rw [List.cons_append]; unfold trimL; rw [ih]
theorem trim_keep (l : List Nat) (x : Nat) (hx : x ≠ 0) : trimL (l ++ [x]) = l ++ [x] := by
  induction l with
  | nil => simp [trimL, hx]
  | cons a l ih => rw [List.cons_append]; unfold trimL; rw [ih]; simp

end Go.Proofs.YtppkjiihmlphbaaGreatDoor

/- Sums, products and quotients of words of 32 bits, step by step. -/
namespace Go.Proofs.YtppkjiihmlphbaaGreatDoor

def wd (l : List Nat) (i : Nat) : Nat := l.getD i 0
def Wds (l : List Nat) : Prop := ∀ a ∈ l, a < 4294967296

theorem wd_get {l : List Nat} {i : Nat} (h : i < l.length) : wd l i = l[i] := by simp [wd, List.getD, h]
theorem wd_lt {l : List Nat} (h : Wds l) (i : Nat) : wd l i < 4294967296 := by
  by_cases hi : i < l.length
  · rw [wd_get hi]; exact h _ (List.getElem_mem hi)
  · simp [wd, List.getD, List.getElem?_eq_none (Nat.le_of_not_lt hi)]
theorem Wds.set {l : List Nat} (h : Wds l) (i : Nat) {x : Nat} (hx : x < 4294967296) : Wds (l.set i x) := by
  intro a ha
  rcases List.mem_or_eq_of_mem_set ha with h' | h'
  · exact h a h'
  · omega
theorem Wds.zeros (n : Nat) : Wds (List.replicate n 0) := by
  intro a ha; have := (List.mem_replicate.1 ha).2; omega
theorem wd_set_ne {l : List Nat} {i j x : Nat} (h : i ≠ j) : wd (l.set i x) j = wd l j := by
  simp [wd, List.getD, h]
theorem wd_zeros (n i : Nat) : wd (List.replicate n 0) i = 0 := by
  simp only [wd, List.getD, List.getElem?_replicate]; split <;> rfl

theorem nv_take_step (l : List Nat) (i : Nat) : nv (l.take (i + 1)) = nv (l.take i) + 4294967296 ^ i * wd l i := by
  by_cases h : i < l.length
  · rw [nv_take_succ l i h, wd_get h]
  · have e : wd l i = 0 := by simp [wd, List.getD, List.getElem?_eq_none (Nat.le_of_not_lt h)]
    rw [e, List.take_of_length_le (by omega), List.take_of_length_le (by omega)]; rfl

theorem nv_put {l : List Nat} {k : Nat} (x : Nat) (hk : k < l.length) : nv (l.set k x) + 4294967296 ^ k * wd l k = nv l + 4294967296 ^ k * x := by
  rw [wd_get hk]; exact nv_set l k x hk

theorem pow_step (k y : Nat) : 4294967296 ^ (k + 1) * y = 4294967296 ^ k * (4294967296 * y) := by rw [Nat.pow_succ, Nat.mul_assoc]

/-- A sum, so far. -/
structure AddI (a b r : List Nat) (i c : Nat) : Prop where
  len : r.length = a.length + 1
  wds : Wds r
  car : c ≤ 1
  zero : ∀ j, i ≤ j → wd r j = 0
  val : nv r + 4294967296 ^ i * c = nv (a.take i) + nv (b.take i)

theorem AddI.start (a b : List Nat) : AddI a b (List.replicate (a.length + 1) 0) 0 0 :=
  ⟨by simp, Wds.zeros _, by omega, fun j _ => wd_zeros _ j, by rw [nv_zeros]; rfl⟩

theorem AddI.step {a b r : List Nat} {i c : Nat} (h : AddI a b r i c) (ha : Wds a) (hb : Wds b) (hi : i < a.length) :
    AddI a b (r.set i ((c + wd a i + wd b i) % 4294967296)) (i + 1) ((c + wd a i + wd b i) / 4294967296) := by
  have h1 := wd_lt ha i
  have h2 := wd_lt hb i
  have hc := h.car
  have hl := h.len
  refine ⟨by simpa using h.len, h.wds.set i (Nat.mod_lt _ (by omega)), by omega, fun j hj => ?_, ?_⟩
  · rw [wd_set_ne (by omega)]; exact h.zero j (by omega)
  · have hp := nv_put (l := r) ((c + wd a i + wd b i) % 4294967296) (show i < r.length by omega)
    rw [h.zero i (by omega)] at hp
    have hv := h.val
    rw [pow_step, nv_take_step, nv_take_step]
    generalize 4294967296 ^ i = p at *
    generalize hs : c + wd a i + wd b i = s at *
    have e : p * s = p * (4294967296 * (s / 4294967296)) + p * (s % 4294967296) := by rw [← Nat.mul_add, Nat.div_add_mod]
    have e2 : p * s = p * c + p * wd a i + p * wd b i := by rw [← hs, Nat.mul_add, Nat.mul_add]
    rw [Nat.mul_zero] at hp
    omega

theorem AddI.done {a b r : List Nat} {c : Nat} (h : AddI a b r a.length c) (hb : b.length ≤ a.length) : Wds (r.set a.length c) ∧ nv (r.set a.length c) = nv a + nv b := by
  have hc := h.car
  have hl := h.len
  refine ⟨h.wds.set _ (by omega), ?_⟩
  have hp := nv_put (l := r) c (show a.length < r.length by omega)
  have hv := h.val
  rw [h.zero _ (Nat.le_refl _)] at hp
  rw [List.take_of_length_le (Nat.le_refl _), List.take_of_length_le hb] at hv
  omega

/-- A product, so far: rows done, and of this row the words done. -/
structure MulI (a b r : List Nat) (i j c : Nat) : Prop where
  len : r.length = a.length + b.length
  wds : Wds r
  car : c < 4294967296
  zero : ∀ k, i + b.length ≤ k → wd r k = 0
  val : nv r + 4294967296 ^ (i + j) * c = nv (a.take i) * nv b + 4294967296 ^ i * wd a i * nv (b.take j)

theorem MulI.start (a b : List Nat) : MulI a b (List.replicate (a.length + b.length) 0) 0 0 0 :=
  ⟨by simp, Wds.zeros _, by omega, fun j _ => wd_zeros _ j, by rw [nv_zeros]; simp [nv_nil]⟩

theorem MulI.step {a b r : List Nat} {i j c : Nat} (h : MulI a b r i j c) (ha : Wds a) (hb : Wds b) (hi : i < a.length) (hj : j < b.length) :
    MulI a b (r.set (i + j) ((c + (wd a i * wd b j + wd r (i + j))) % 4294967296)) i (j + 1) ((c + (wd a i * wd b j + wd r (i + j))) / 4294967296) := by
  have h1 := wd_lt ha i
  have h2 := wd_lt hb j
  have h3 := wd_lt h.wds (i + j)
  have hc := h.car
  have hl := h.len
  have hm : wd a i * wd b j ≤ 4294967295 * 4294967295 := Nat.mul_le_mul (by omega) (by omega)
  refine ⟨by simpa using h.len, h.wds.set _ (Nat.mod_lt _ (by omega)), by omega, fun k hk => ?_, ?_⟩
  · rw [wd_set_ne (by omega)]; exact h.zero k hk
  · have hp := nv_put (l := r) ((c + (wd a i * wd b j + wd r (i + j))) % 4294967296) (show i + j < r.length by omega)
    have hv := h.val
    rw [show i + (j + 1) = (i + j) + 1 by omega, pow_step, nv_take_step]
    have e3 : 4294967296 ^ i * wd a i * (nv (b.take j) + 4294967296 ^ j * wd b j) = 4294967296 ^ i * wd a i * nv (b.take j) + 4294967296 ^ (i + j) * (wd a i * wd b j) := by
      rw [Nat.mul_add, Nat.pow_add, Nat.mul_assoc, Nat.mul_assoc, Nat.mul_assoc]
      congr 2
      rw [← Nat.mul_assoc, Nat.mul_comm (wd a i) (4294967296 ^ j), Nat.mul_assoc]
    rw [e3]
    generalize 4294967296 ^ (i + j) = p at *
    generalize wd a i * wd b j = m at *
    generalize 4294967296 ^ i * wd a i * nv (b.take j) = y at *
    generalize nv (a.take i) * nv b = z at *
    generalize wd r (i + j) = q at *
    generalize hs : c + (m + q) = s at *
    have e : p * s = p * (4294967296 * (s / 4294967296)) + p * (s % 4294967296) := by rw [← Nat.mul_add, Nat.div_add_mod]
    have e2 : p * s = p * c + (p * m + p * q) := by rw [← hs, Nat.mul_add, Nat.mul_add]
    omega

theorem MulI.row {a b r : List Nat} {i c : Nat} (h : MulI a b r i b.length c) (hi : i < a.length) : MulI a b (r.set (i + b.length) c) (i + 1) 0 0 := by
  have hl := h.len
  refine ⟨by simpa using h.len, h.wds.set _ h.car, by omega, fun k hk => ?_, ?_⟩
  · rw [wd_set_ne (by omega)]; exact h.zero k (by omega)
  · have hp := nv_put (l := r) c (show i + b.length < r.length by omega)
    have hv := h.val
    rw [h.zero _ (Nat.le_refl _), Nat.mul_zero, Nat.add_zero] at hp
    rw [List.take_of_length_le (Nat.le_refl _), ← hp] at hv
    rw [nv_take_step, Nat.add_mul, hv, List.take_zero, nv_nil, Nat.mul_zero, Nat.mul_zero]

theorem MulI.done {a b r : List Nat} (h : MulI a b r a.length 0 0) : nv r = nv a * nv b := by
  have hv := h.val
  rw [List.take_of_length_le (Nat.le_refl _)] at hv
  simpa [nv_nil] using hv

/-- A quotient by one word, so far: from above down to word i. -/
structure SmI (a q : List Nat) (d i r : Nat) : Prop where
  len : q.length = a.length
  wds : Wds q
  rest : r < d
  zero : ∀ k, k < i → wd q k = 0
  val : nv q * d + 4294967296 ^ i * r + nv (a.take i) = nv a

theorem SmI.start (a : List Nat) {d : Nat} (hd : 0 < d) : SmI a (List.replicate a.length 0) d a.length 0 :=
  ⟨by simp, Wds.zeros _, hd, fun j _ => wd_zeros _ j, by rw [nv_zeros, List.take_of_length_le (Nat.le_refl _)]; simp⟩

theorem SmI.step {a q : List Nat} {d i r : Nat} (h : SmI a q d (i + 1) r) (ha : Wds a) (hd : d < 4294967296) (hi : i < a.length) :
    SmI a (q.set i ((r * 4294967296 + wd a i) / d)) d i ((r * 4294967296 + wd a i) % d) := by
  have h1 := wd_lt ha i
  have hr := h.rest
  have hl := h.len
  have hq : (r * 4294967296 + wd a i) / d < 4294967296 := by
    rw [Nat.div_lt_iff_lt_mul (by omega)]
    have : (r + 1) * 4294967296 ≤ d * 4294967296 := Nat.mul_le_mul (by omega) (Nat.le_refl _)
    rw [Nat.mul_comm 4294967296 d]; omega
  refine ⟨by simpa using h.len, h.wds.set _ hq, Nat.mod_lt _ (by omega), fun k hk => ?_, ?_⟩
  · rw [wd_set_ne (by omega)]; exact h.zero k (by omega)
  · have hp := nv_put (l := q) ((r * 4294967296 + wd a i) / d) (show i < q.length by omega)
    rw [h.zero i (by omega), Nat.mul_zero, Nat.add_zero] at hp
    have hv := h.val
    rw [pow_step, nv_take_step] at hv
    rw [hp, Nat.add_mul]
    generalize hs : r * 4294967296 + wd a i = s at *
    have e : 4294967296 ^ i * s = 4294967296 ^ i * (s / d) * d + 4294967296 ^ i * (s % d) := by
      rw [Nat.mul_assoc, ← Nat.mul_add, Nat.mul_comm (s / d) d, Nat.div_add_mod]
    have e2 : 4294967296 ^ i * s = 4294967296 ^ i * (4294967296 * r) + 4294967296 ^ i * wd a i := by rw [← hs, Nat.mul_add, Nat.mul_comm 4294967296 r]
    omega

theorem SmI.done {a q : List Nat} {d r : Nat} (h : SmI a q d 0 r) : nv q = nv a / d ∧ r = nv a % d := by
  have hv := h.val
  have hr := h.rest
  simp only [List.take_zero, nv_nil, Nat.pow_zero, Nat.one_mul, Nat.add_zero] at hv
  have e : nv a = r + d * nv q := by rw [Nat.mul_comm d]; omega
  constructor
  · rw [e, Nat.add_mul_div_left _ _ (by omega), Nat.div_eq_of_lt hr]; omega
  · rw [e, Nat.add_mul_mod_self_left, Nat.mod_eq_of_lt hr]

theorem wl_len_le (n k : Nat) (h : n < 4294967296 ^ k) : (wl n).length ≤ k := by
  induction k generalizing n with
  | zero => simp at h; subst h; rw [wl_zero]; simp
  | succ k ih =>
    by_cases h0 : n = 0
    · subst h0; rw [wl_zero]; simp
    · rw [wl_pos h0, List.length_cons]
      have := ih (n / 4294967296) (by rw [Nat.div_lt_iff_lt_mul (by omega), Nat.mul_comm]; rw [Nat.pow_succ] at h; omega)
      omega
theorem wds_wl (n : Nat) : Wds (wl n) := wl_lt n
end Go.Proofs.YtppkjiihmlphbaaGreatDoor

/- weirgatebig: words of 32 bits in memory; trim, words. -/
namespace Go.Proofs.YtppkjiihmlphbaaGreatDoor
open Go.RowKit

/-- Words in memory, behind a slice. -/
def U32s (w : World) (A : Option Addr) (l : List Nat) : Prop :=
  l = [] ∨ ∃ b o, A = some ⟨b, o, none⟩ ∧ ∀ (j : Nat) (h : j < l.length), w.cell? ⟨b, o + j, none⟩ = some (.int .u32 ((l[j] : Nat) : Int))
def Wv (w : World) (v : Value) (l : List Nat) : Prop := ∃ A cap, v = .slice A l.length cap ∧ l.length ≤ cap ∧ U32s w A l
/-- A block of words, whole. -/
def uv (l : List Nat) : Array Value := (l.map fun (x : Nat) => Value.int .u32 (x : Int)).toArray
def RowU (w : World) (g : Nat) (l : List Nat) : Prop := w.heap[g]? = some (.cells (uv l) 88 (0, 0))

theorem U32s.of {w w' : World} {A : Option Addr} {l : List Nat} (h : U32s w A l) (hb : Below w.heap.size w w') : U32s w' A l := by
  rcases h with h | ⟨b, o, h1, h2⟩
  · exact .inl h
  · refine .inr ⟨b, o, h1, fun j hj => ?_⟩
    have hc := h2 j hj
    have := World.block_lt_of_cell? _ _ hc
    rw [World.cell?_of_block (w := w) (hb.block _ this)]; exact hc
theorem Wv.of {w w' : World} {v : Value} {l : List Nat} (h : Wv w v l) (hb : Below w.heap.size w w') : Wv w' v l := by
  obtain ⟨A, cap, h1, h2, h3⟩ := h
  exact ⟨A, cap, h1, h2, h3.of hb⟩
theorem Wv.nil (w : World) : Wv w (.slice none 0 0) [] := ⟨none, 0, rfl, by simp, .inl rfl⟩
theorem U32s.drewN {w : World} {A : Option Addr} {l : List Nat} (h : U32s w A l) (n : Nat) : U32s (w.drewN n) A l := h

theorem RowU.lt {w : World} {g : Nat} {l : List Nat} (h : RowU w g l) : g < w.heap.size := some_lt h
theorem RowU.cell {w : World} {g : Nat} {l : List Nat} (h : RowU w g l) (j : Nat) (hj : j < l.length) : w.cell? ⟨g, j, none⟩ = some (.int .u32 ((wd l j : Nat) : Int)) := by
  unfold RowU at h
  simp [World.cell?, h, uv, wd_get hj, hj]
theorem RowU.fz {w : World} {g : Nat} {l : List Nat} (h : RowU w g l) (j : Nat) : w.frozen? ⟨g, j, none⟩ = false := by
  unfold RowU at h; simp [World.frozen?, h]
theorem RowU.set {w : World} {g : Nat} {l : List Nat} (h : RowU w g l) (j x : Nat) : RowU (w.setCell ⟨g, j, none⟩ (.int .u32 (x : Int))) g (l.set j x) := by
  unfold RowU at h ⊢
  simp [World.setCell, Array.getElem?_modify, h, uv]
theorem RowU.u {w : World} {g : Nat} {l : List Nat} (h : RowU w g l) : U32s w (some ⟨g, 0, none⟩) l := by
  refine .inr ⟨g, 0, rfl, fun j hj => ?_⟩
  rw [Nat.zero_add, h.cell j hj, wd_get hj]
theorem RowU.of {w w' : World} {g : Nat} {l : List Nat} (h : RowU w g l) (hb : Below w.heap.size w w') : RowU w' g l := by
  have := h.lt; unfold RowU at h ⊢; rw [hb.block _ this]; exact h
theorem RowU.made (w : World) (n : Nat) : RowU (w.alloc (.cells (madeCells #[.int .u32 0] n) 88)) w.heap.size (List.replicate n 0) := by
  unfold RowU
  rw [heap_alloc_new]
  congr 2
  apply Array.ext
  · simp [madeCells, uv]
  · intro i h1 h2
    simp [madeCells, uv, Nat.mod_one]
theorem U32s.at {w : World} {A : Option Addr} {l : List Nat} (h : U32s w A l) (hl : 0 < l.length) : ∃ b o, A = some ⟨b, o, none⟩ ∧ ∀ j, j < l.length → w.cell? ⟨b, o + j, none⟩ = some (.int .u32 ((wd l j : Nat) : Int)) := by
  rcases h with h | ⟨b, o, h1, h2⟩
  · subst h; simp at hl
  · exact ⟨b, o, h1, fun j hj => by rw [wd_get hj]; exact h2 j hj⟩
theorem U32s.take {w : World} {A : Option Addr} {l : List Nat} (h : U32s w A l) (k : Nat) : U32s w A (l.take k) := by
  rcases h with h | ⟨b, o, h1, h2⟩
  · subst h; exact .inl (by simp)
  · refine .inr ⟨b, o, h1, fun j hj => ?_⟩
    have h3 : j < l.length := by simp at hj; omega
    rw [List.getElem_take]; exact h2 j h3

theorem trim_take (l : List Nat) (k : Nat) (h : trimL (l.take k) = trimL l) : k ≤ l.length → (k = 0 → trimL l = []) ∧ (0 < k → wd l (k - 1) = 0 → trimL (l.take (k - 1)) = trimL l) ∧ (0 < k → wd l (k - 1) ≠ 0 → trimL l = l.take k) := by
  intro hk
  refine ⟨fun h0 => by subst h0; rw [← h]; simp [trimL], fun hp h0 => ?_, fun hp h0 => ?_⟩
  · obtain ⟨m, rfl⟩ : ∃ m, k = m + 1 := ⟨k - 1, by omega⟩
    rw [Nat.add_sub_cancel] at h0 ⊢
    rw [← h, List.take_succ_eq_append_getElem (by omega), ← wd_get (by omega), h0, trim_zero]
  · obtain ⟨m, rfl⟩ : ∃ m, k = m + 1 := ⟨k - 1, by omega⟩
    rw [Nat.add_sub_cancel] at h0
    rw [← h, List.take_succ_eq_append_getElem (by omega), ← wd_get (by omega), trim_keep _ _ h0]

set_option maxHeartbeats 1000000 in
theorem trim_any (g cap : Nat) (l : List Nat) (w : World) (h : U32s w (some ⟨g, 0, none⟩) l) (hl : l.length ≤ 1000000) (hc : l.length ≤ cap) :
    Calls Tryz.prog 59 #[.slice (some ⟨g, 0, none⟩) l.length cap] w fun e w' => ∃ v, e = .returned v ∧ Wv w v (trimL l) ∧ w = w' := by
  go_enter Tryz.func59, Tryz.ntmps59
  go_wp2
  go_loopw [3] (fun t wr => ∃ k : Nat, k ≤ l.length ∧ t = .int .i64 k ∧ Hid (trimL (l.take k) = trimL l) ∧ w = wr) (fun t _ => (intOf t).toNat)
  case atStart => exact ⟨l.length, Nat.le_refl _, rfl, by show _ = _; rw [List.take_length], rfl⟩
  case round =>
    obtain ⟨k, hk, rfl, HK, rfl⟩ := hrel
    obtain ⟨t1, t2, t3⟩ := trim_take l k HK.out hk
    have fin : ∀ n, trimL l = l.take n → n ≤ l.length → Wv w (.slice (some ⟨g, 0, none⟩) n cap) (trimL l) := fun n hn hle => by
      rw [hn]; exact ⟨_, cap, by simp; omega, by simp; omega, h.take n⟩
    rcases Nat.eq_zero_or_pos k with rfl | hp
    · have W := fin 0 (by rw [t1 rfl]; simp) (by omega)
      clear t1 t2 t3 HK fin
      go_wp2
      go_ret
      exact ⟨_, rfl, W, rfl⟩
    · obtain ⟨b, o, e, hat⟩ := h.at (by omega)
      simp at e
      obtain ⟨rfl, rfl⟩ := e
      obtain ⟨m, rfl⟩ : ∃ m, k = m + 1 := ⟨k - 1, by omega⟩
      have hcell := hat m (by omega)
      rw [Nat.zero_add] at hcell
      rw [Nat.add_sub_cancel] at t2 t3
      by_cases hz : wd l m = 0
      · have HZ := Lib.hid (t2 hp hz)
        rw [hz] at hcell
        clear t1 t2 t3 HK fin hz hat
        go_wp2
        exact ⟨⟨m, by omega, by go_num, HZ.out, by trivial⟩, by simp [intOf]⟩
      · have W := fin (m + 1) (t3 hp hz) hk
        have hz' : (((wd l m : Nat) : Int) == 0) = false := by simp; omega
        clear t1 t2 t3 HK fin hat
        go_wp2
        go_ret
        exact ⟨_, rfl, W, rfl⟩

theorem words_wl (x : Nat) (h : x < 18446744073709551616) : trimL [x % 4294967296, x / 4294967296] = wl x := by
  rw [trim_wl _ (by intro a ha; simp at ha; omega)]
  congr 1
  simp only [nv_cons, nv_nil]; omega

theorem words_any (x : Nat) (w : World) (h1 : x < 18446744073709551616) :
    Calls Tryz.prog 42 #[.int .u64 x] w fun e w' => ∃ v, e = .returned v ∧ Wv w' v (wl x) ∧ Below w.heap.size w w' := by
  have R : RowU (w.alloc (.cells #[.int .u32 ((x % 4294967296 : Nat) : Int), .int .u32 ((x / 4294967296 : Nat) : Int)] 88)) w.heap.size [x % 4294967296, x / 4294967296] := by
    unfold RowU; rw [heap_alloc_new]; rfl
  have c := trim_any w.heap.size 2 [x % 4294967296, x / 4294967296] _ R.u (by simp) (by simp)
  rw [words_wl x h1] at c
  have B : Below w.heap.size w (w.alloc (.cells #[.int .u32 ((x % 4294967296 : Nat) : Int), .int .u32 ((x / 4294967296 : Nat) : Int)] 88)) := (Below.refl _ _).alloc (Nat.le_refl _) _
  have i0 : (0 : Int) ≤ x := by omega
  have i1 : (x : Int) < 18446744073709551616 := by omega
  simp only [Int.natCast_emod, Int.natCast_ediv, List.length_cons, List.length_nil] at c B
  go_enter Tryz.func42, Tryz.ntmps42
  go_wp2_with (go_at_call 59; refine c.mono ?_; rintro e w' ⟨v, rfl, hW, rfl⟩)
  go_ret
  exact ⟨_, rfl, hW, B⟩
end Go.Proofs.YtppkjiihmlphbaaGreatDoor

/- weirgatebig: sums. -/
namespace Go.Proofs.YtppkjiihmlphbaaGreatDoor
open Go.RowKit

theorem Tryz.infoU : (Tryz.prog.info? 88).map (fun i => (i.zero, i.size, i.bytes)) = some (some (.int .u32 0), 1, 4) := by kernel_rfl

end Go.Proofs.YtppkjiihmlphbaaGreatDoor

/- weirgatebig: products. -/
namespace Go.Proofs.YtppkjiihmlphbaaGreatDoor
open Go.RowKit

theorem bel_dr {B : Nat} {a w : World} (h : Below B a w) (n : Nat) : Below B a (w.drewN n) := ⟨h.os, h.tape, h.output, h.size, h.block⟩

end Go.Proofs.YtppkjiihmlphbaaGreatDoor

/- weirgatebig: a number of decimal digits. -/
namespace Go.Proofs.YtppkjiihmlphbaaGreatDoor
open Go.RowKit

/-- A number in memory: its sign, and its words. -/
def IntV (w : World) (b : Nat) (neg : Bool) (n : Nat) : Prop := ∃ v, w.heap[b]? = some (.cells #[.bool neg, v] 74 (0, 0)) ∧ Wv w v (wl n)

theorem Wv.fr {w w' : World} {v : Value} {l : List Nat} {b : Nat} {c : Array Value} (h : Wv w v l) (f : Fr [b] w w') (hb : w.heap[b]? = some (.cells c 74 (0, 0))) (hc : ∀ (i : Nat) (x : Int), c[i]? ≠ some (.int .u32 x)) : Wv w' v l := by
  obtain ⟨A, cap, h1, h2, h3⟩ := h
  refine ⟨A, cap, h1, h2, ?_⟩
  rcases h3 with h3 | ⟨b2, o, e, h3⟩
  · exact .inl h3
  · refine .inr ⟨b2, o, e, fun j hj => ?_⟩
    have hcell := h3 j hj
    have hne : b2 ≠ b := by
      intro e2; subst e2
      simp only [World.cell?, hb] at hcell
      simp at hcell
      exact hc _ _ hcell
    rw [f.cell (World.block_lt_of_cell? _ _ hcell) (by simpa using hne)]; exact hcell
theorem two_no {f v0 : Value} {neg : Bool} (hf : f = .bool neg) (hv : ∃ A n c, v0 = .slice A n c) : ∀ (i : Nat) (x : Int), (#[f, v0] : Array Value)[i]? ≠ some (.int .u32 x) := by
  intro i x h
  obtain ⟨A, n, c, rfl⟩ := hv
  subst hf
  match i, h with
  | 0, h => simp at h
  | 1, h => simp at h
  | i + 2, h => simp at h

theorem give_any {w : World} {b : Nat} {neg0 : Bool} {v0 v : Value} {n : Nat} (hb : w.heap[b]? = some (.cells #[.bool neg0, v0] 74 (0, 0))) (hv0 : ∃ A n c, v0 = .slice A n c) (hv : Wv w v (wl n)) :
    Calls Tryz.prog 41 #[.pointer (some ⟨b, 0, none⟩), .bool false, v] w fun e w' => e = .returned (.pointer (some ⟨b, 0, none⟩)) ∧ IntV w' b false n ∧ Fr [b] w w' := by
  have hv' := hv
  obtain ⟨A, cap, rfl, -, -⟩ := hv
  have c0 : w.cell? ⟨b, 0, none⟩ = some (.bool neg0) := by simp [World.cell?, hb]
  have c1 : w.cell? ⟨b, 1, none⟩ = some v0 := by simp [World.cell?, hb]
  have f0 : w.frozen? ⟨b, 0, none⟩ = false := by simp [World.frozen?, hb]
  have f1 : w.frozen? ⟨b, 1, none⟩ = false := by simp [World.frozen?, hb]
  have G : Fr [b] w ((w.setCell ⟨b, 1, none⟩ (.slice A (wl n).length cap)).setCell ⟨b, 0, none⟩ (.bool false)) := ((Fr.refl _ _).setCell (.inl (by simp)) _).setCell (.inl (by simp)) _
  have I : IntV ((w.setCell ⟨b, 1, none⟩ (.slice A (wl n).length cap)).setCell ⟨b, 0, none⟩ (.bool false)) b false n := by
    refine ⟨.slice A (wl n).length cap, ?_, hv'.fr G hb (two_no rfl hv0)⟩
    simp [World.setCell, Array.getElem?_modify, hb]
  go_enter Tryz.func41, Tryz.ntmps41
  go_wp2
  go_ret
  exact ⟨rfl, I, G⟩

theorem val_lt (l : List UInt8) : (∀ c ∈ l, isDg c = true) → valFrom 0 l < 10 ^ l.length := by
  intro h
  induction hn : l.length generalizing l with
  | zero => rw [List.length_eq_zero_iff.1 hn, valFrom_nil]; simp
  | succ n ih =>
    have hne : l ≠ [] := by intro e; rw [e] at hn; simp at hn
    obtain ⟨p, c, rfl⟩ : ∃ p c, l = p ++ [c] := ⟨l.dropLast, l.getLast hne, (List.dropLast_concat_getLast hne).symm⟩
    have := ih p (fun x hx => h x (by simp [hx])) (by simp at hn; exact hn)
    have hc : 48 ≤ c.toNat ∧ c.toNat ≤ 57 := by simpa [isDg] using h c (by simp)
    rw [valFrom_snoc, Nat.pow_succ]
    omega
theorem dig_len (l : List UInt8) (h : ∀ c ∈ l, isDg c = true) (hl : l.length ≤ 120) : (wl (valFrom 0 l)).length ≤ 13 := by
  refine wl_len_le _ _ (Nat.lt_of_lt_of_le (val_lt l h) (Nat.le_trans (Nat.pow_le_pow_right (by omega) hl) (by decide)))

end Go.Proofs.YtppkjiihmlphbaaGreatDoor

/- weirgatebig: quotients by one word. -/
namespace Go.Proofs.YtppkjiihmlphbaaGreatDoor
open Go.RowKit
set_option linter.unusedVariables false

theorem or_word (r x : Nat) (hr : r < 4294967296) (hx : x < 4294967296) : bits .or .u64 ((r : Int) * 4294967296) (x : Int) = ((r * 4294967296 + x : Nat) : Int) := by
  have h := bits_or_u64_nat (r * 4294967296) x (by omega) (by omega)
  have e : r * 4294967296 ||| x = r * 4294967296 + x := by
    have := Nat.two_pow_add_eq_or_of_lt (i := 32) (b := x) (by omega) r
    rw [show (2 : Nat) ^ 32 = 4294967296 from by decide, Nat.mul_comm] at this
    exact this.symm
  rw [e] at h
  rw [← h]; simp

set_option maxHeartbeats 1000000 in
theorem trim_at (g cap : Nat) (l : List Nat) (w : World) (h : U32s w (some ⟨g, 0, none⟩) l) (hl : l.length ≤ 1000000) (hc : l.length ≤ cap) :
    Calls Tryz.prog 59 #[.slice (some ⟨g, 0, none⟩) l.length cap] w fun e w' => e = .returned (.slice (some ⟨g, 0, none⟩) (trimL l).length cap) ∧ w = w' := by
  go_enter Tryz.func59, Tryz.ntmps59
  go_wp2
  go_loopw [3] (fun t wr => ∃ k : Nat, k ≤ l.length ∧ t = .int .i64 k ∧ Hid (trimL (l.take k) = trimL l) ∧ w = wr) (fun t _ => (intOf t).toNat)
  case atStart => exact ⟨l.length, Nat.le_refl _, rfl, by show _ = _; rw [List.take_length], rfl⟩
  case round =>
    obtain ⟨k, hk, rfl, HK, rfl⟩ := hrel
    obtain ⟨t1, t2, t3⟩ := trim_take l k HK.out hk
    have fin : ∀ n, trimL l = l.take n → n ≤ l.length → n = (trimL l).length := fun n hn hle => by
      rw [hn]; simp; omega
    rcases Nat.eq_zero_or_pos k with rfl | hp
    · have W := Lib.hid (fin 0 (by rw [t1 rfl]; simp) (by omega))
      clear t1 t2 t3 HK fin
      go_wp2
      go_ret
      exact ⟨by rw [← W.out]; rfl, rfl⟩
    · obtain ⟨b, o, e, hat⟩ := h.at (by omega)
      simp at e
      obtain ⟨rfl, rfl⟩ := e
      obtain ⟨m, rfl⟩ : ∃ m, k = m + 1 := ⟨k - 1, by omega⟩
      have hcell := hat m (by omega)
      rw [Nat.zero_add] at hcell
      rw [Nat.add_sub_cancel] at t2 t3
      by_cases hz : wd l m = 0
      · have HZ := Lib.hid (t2 hp hz)
        rw [hz] at hcell
        clear t1 t2 t3 HK fin hz hat
        go_wp2
        exact ⟨⟨m, by omega, by go_num, HZ.out, by trivial⟩, by simp [intOf]⟩
      · have W := Lib.hid (fin (m + 1) (t3 hp hz) hk)
        have hz' : (((wd l m : Nat) : Int) == 0) = false := by simp; omega
        clear t1 t2 t3 HK fin hat
        go_wp2
        go_ret
        exact ⟨by rw [← W.out]; rfl, rfl⟩

theorem u_trim {w : World} {A : Option Addr} {l : List Nat} (h : U32s w A l) : U32s w A (trimL l) := by
  have : ∃ k, trimL l = l.take k := by
    clear h
    induction l with
    | nil => exact ⟨0, rfl⟩
    | cons a l ih =>
      obtain ⟨k, hk⟩ := ih
      unfold trimL
      split
      · exact ⟨0, by simp⟩
      · exact ⟨k + 1, by rw [List.take_succ_cons, hk]⟩
  obtain ⟨k, hk⟩ := this
  rw [hk]; exact h.take k

set_option maxRecDepth 100000 in
set_option maxHeartbeats 1000000 in
theorem small_any {w : World} {A : Option Addr} {a : List Nat} {ca d : Nat} (ha : U32s w A a) (wa : Wds a) (h1 : 0 < a.length) (hs1 : a.length ≤ 1000) (hd : 0 < d) (hd2 : d < 4294967296) :
    Calls Tryz.prog 44 #[.slice A a.length ca, .int .u32 d] w fun e w' => ∃ g, e = .returned (.tuple #[.slice (some ⟨g, 0, none⟩) (wl (nv a / d)).length a.length, .int .u32 ((nv a % d : Nat) : Int)]) ∧ w.heap.size ≤ g ∧ U32s w' (some ⟨g, 0, none⟩) (wl (nv a / d)) ∧ Below w.heap.size w w' := by
  have hmk : ∀ w : World, (Instr.makeSlice 72 (.int .i64 (a.length : Int)) (.int .i64 (a.length : Int))).run Tryz.prog w = .ok (.slice (some ⟨w.heap.size, 0, none⟩) a.length a.length) (w.alloc (.cells (madeCells #[.int .u32 0] a.length) 88)) :=
    fun w => run_make_row' (P := Tryz.prog) 72 88 (.int .u32 0) 4 Tryz.underlying72 Tryz.infoU rfl .i64 .i64 a.length (by omega) (by omega) w
  have hR : RowU (w.alloc (.cells (madeCells #[.int .u32 0] a.length) 88)) w.heap.size (List.replicate a.length 0) := RowU.made w _
  have hB : Below w.heap.size w (w.alloc (.cells (madeCells #[.int .u32 0] a.length) 88)) := (Below.refl _ _).alloc (Nat.le_refl _) _
  obtain ⟨ba, oa, rfl, cA⟩ := ha.at h1
  have la : ba < w.heap.size := World.block_lt_of_cell? _ _ (cA 0 h1)
  have HA := Lib.hid cA
  have hd0 : ¬ (d : Int) = 0 := by omega
  clear cA ha
  go_enter Tryz.func44, Tryz.ntmps44
  go_wp2_with fail
  generalize w.alloc (.cells (madeCells #[.int .u32 0] a.length) 88) = w1 at *
  obtain ⟨g, hg⟩ : ∃ g, g = w.heap.size := ⟨_, rfl⟩
  have hgB : w.heap.size ≤ g := by omega
  rw [← hg] at hR ⊢
  clear hg hmk
  go_loopw [7, 8] (fun r i wr => ∃ (k rr : Nat) (q : List Nat), k ≤ a.length ∧ i = .int .i64 ((k : Int) - 1) ∧ r = .int .u64 rr ∧ Hid (SmI a q d k rr) ∧ rr < d ∧ q.length = a.length ∧ RowU wr g q ∧ Below w.heap.size w wr) (fun _ i _ => (intOf i + 1).toNat)
  case atStart => exact ⟨a.length, 0, _, Nat.le_refl _, by go_num, rfl, Lib.hid (SmI.start a hd), hd, by simp, hR, hB⟩
  case round =>
    obtain ⟨k, rr, q, hk, rfl, rfl, HI, hrr, hql, hr, hbw⟩ := hrel
    clear hR hB
    by_cases hk0 : k = 0
    · subst hk0
      have HD := HI.out.done
      have hwq : trimL q = wl (nv a / d) := by rw [trim_wl q HI.out.wds, HD.1]
      have HR := Lib.hid HD.2
      have HT := trim_at g a.length q wr hr.u (by omega) (by omega)
      have hU := u_trim hr.u
      rw [hwq] at hU
      rw [hql, hwq] at HT
      generalize hWW : wl (nv a / d) = W at *
      have HWW := Lib.hid hWW
      clear hWW
      clear HD hwq HI
      go_wp2_with (go_at_call 59; refine HT.mono ?_; rintro e w' ⟨rfl, rfl⟩; refine Hid.out ?_)
      refine Lib.hid ?_
      go_wp2_with fail
      go_ret2
      exact ⟨g, by rw [← HR.out, HWW.out]; rfl, hgB, by rw [HWW.out]; exact hU, hbw⟩
    · obtain ⟨m, rfl⟩ : ∃ m, k = m + 1 := ⟨k - 1, by omega⟩
      have ca' : wr.cell? ⟨ba, oa + m, none⟩ = some (.int .u32 ((wd a m : Nat) : Int)) := by rw [World.cell?_of_block (w := w) (hbw.block _ la)]; exact HA.out m (by omega)
      have cq := hr.cell m (by omega)
      have fq := hr.fz m
      have xa := wd_lt wa m
      have HS := Lib.hid (HI.out.step wa hd2 (by omega))
      have hor := or_word rr (wd a m) (by omega) xa
      generalize wd a m = x at *
      have e1 : ((m + 1 : Nat) : Int) - 1 = (m : Int) := by omega
      simp only [e1]
      clear HI
      go_wp2_with fail
      have hq : (rr * 4294967296 + x) / d < 4294967296 := by
        rw [Nat.div_lt_iff_lt_mul (by omega)]
        have : (rr + 1) * 4294967296 ≤ d * 4294967296 := Nat.mul_le_mul (by omega) (Nat.le_refl _)
        rw [Nat.mul_comm 4294967296 d]; omega
      have e0 : (rr : Int) * 4294967296 + (x : Int) = ((rr * 4294967296 + x : Nat) : Int) := by rw [Int.natCast_add, Int.natCast_mul]; rfl
      have e3 : ((rr : Int) * 4294967296 + (x : Int)) / (d : Int) = (((rr * 4294967296 + x) / d : Nat) : Int) := by rw [e0, Int.natCast_ediv]
      have e4 : ((rr : Int) * 4294967296 + (x : Int)) % (d : Int) = (((rr * 4294967296 + x) % d : Nat) : Int) := by rw [e0, Int.natCast_emod]
      have e2 : ((rr : Int) * 4294967296 + (x : Int)) / (d : Int) % 4294967296 = (((rr * 4294967296 + x) / d : Nat) : Int) := by
        rw [e3]
        clear e0 e3 e4 HS
        generalize (rr * 4294967296 + x) / d = X at hq ⊢
        omega
      rw [e2, e4]
      exact ⟨⟨m, _, _, by omega, rfl, rfl, HS, Nat.mod_lt _ hd, by simpa using hql, hr.set m _, hbw.setCell (p := ⟨g, m, none⟩) hgB _⟩, by simp [intOf]⟩
end Go.Proofs.YtppkjiihmlphbaaGreatDoor

/- weirgatebig: a number out of a word. -/
namespace Go.Proofs.YtppkjiihmlphbaaGreatDoor
open Go.RowKit
set_option linter.unusedVariables false

theorem give_neg {w : World} {b : Nat} {neg0 : Bool} {v0 v : Value} {n : Nat} (hb : w.heap[b]? = some (.cells #[.bool neg0, v0] 74 (0, 0))) (hv0 : ∃ A n c, v0 = .slice A n c) (hv : Wv w v (wl n)) (hn : n ≠ 0) :
    Calls Tryz.prog 41 #[.pointer (some ⟨b, 0, none⟩), .bool true, v] w fun e w' => e = .returned (.pointer (some ⟨b, 0, none⟩)) ∧ IntV w' b true n ∧ Fr [b] w w' := by
  have hv' := hv
  have hl : (0 : Int) < ((wl n).length : Int) := by rw [wl_pos hn]; simp
  obtain ⟨A, cap, rfl, -, -⟩ := hv
  have c0 : w.cell? ⟨b, 0, none⟩ = some (.bool neg0) := by simp [World.cell?, hb]
  have c1 : w.cell? ⟨b, 1, none⟩ = some v0 := by simp [World.cell?, hb]
  have f0 : w.frozen? ⟨b, 0, none⟩ = false := by simp [World.frozen?, hb]
  have f1 : w.frozen? ⟨b, 1, none⟩ = false := by simp [World.frozen?, hb]
  have G : Fr [b] w ((w.setCell ⟨b, 1, none⟩ (.slice A (wl n).length cap)).setCell ⟨b, 0, none⟩ (.bool true)) := ((Fr.refl _ _).setCell (.inl (by simp)) _).setCell (.inl (by simp)) _
  have I : IntV ((w.setCell ⟨b, 1, none⟩ (.slice A (wl n).length cap)).setCell ⟨b, 0, none⟩ (.bool true)) b true n := by
    refine ⟨.slice A (wl n).length cap, ?_, hv'.fr G hb (two_no rfl hv0)⟩
    simp [World.setCell, Array.getElem?_modify, hb]
  generalize (wl n).length = k at *
  go_enter Tryz.func41, Tryz.ntmps41
  go_wp2
  go_ret
  rw [show decide (0 < k) = true from by simpa using hl]
  exact ⟨rfl, I, G⟩

set_option maxRecDepth 100000 in
theorem setint_any {w : World} {b : Nat} {neg0 : Bool} {v0 : Value} (hb : w.heap[b]? = some (.cells #[.bool neg0, v0] 74 (0, 0))) (hv0 : ∃ A n c, v0 = .slice A n c) (n : Int) (h0 : -9223372036854775808 ≤ n) (h1 : n ≤ 9223372036854775807) :
    Calls Tryz.prog 33 #[.pointer (some ⟨b, 0, none⟩), .int .i64 n] w fun e w' => e = .returned (.pointer (some ⟨b, 0, none⟩)) ∧ IntV w' b (decide (n < 0)) n.natAbs ∧ Fr [b] w w' := by
  have hbl : b < w.heap.size := some_lt hb
  by_cases hn : n < 0
  · have HW := words_any n.natAbs w (by omega)
    have e1 : ((n.natAbs : Nat) : Int) = -n := by omega
    rw [e1] at HW
    have HG := Lib.hid (fun (u : World) (v : Value) (hu : u.heap[b]? = some (.cells #[.bool neg0, v0] 74 (0, 0))) (hv : Wv u v (wl n.natAbs)) => give_neg hu hv0 hv (by omega))
    have hu1 : IntKind.u64.wrap n = n + 18446744073709551616 := by rw [IntKind.wrap_u64]; omega
    have hu2 : IntKind.u64.wrap (-(n + 18446744073709551616)) = -n := by rw [IntKind.wrap_u64]; omega
    have hd : decide (n < 0) = true := by simpa using hn
    rw [hd]
    generalize n.natAbs = N at *
    clear e1 hd
    go_enter Tryz.func33, Tryz.ntmps33
    go_wp2_with (go_at_call 42; refine HW.mono ?_; rintro e u1 ⟨v, rfl, hv, b1⟩; refine Hid.out ?_)
    refine Lib.hid ?_
    have HGG := HG.out u1 v (by rw [b1.block b hbl]; exact hb) hv
    go_wp2_with (go_at_call 41; refine HGG.mono ?_; rintro e u2 ⟨rfl, hI, f2⟩; refine Hid.out ?_)
    refine Lib.hid ?_
    go_wp2_with fail
    go_ret
    exact ⟨rfl, hI, (Fr.below b1).trans f2⟩
  · have HW := words_any n.toNat w (by omega)
    have e1 : ((n.toNat : Nat) : Int) = n := by omega
    have e2 : n.natAbs = n.toNat := by omega
    rw [e1] at HW
    rw [e2]
    have HG := Lib.hid (fun (u : World) (v : Value) (hu : u.heap[b]? = some (.cells #[.bool neg0, v0] 74 (0, 0))) (hv : Wv u v (wl n.toNat)) => give_any hu hv0 hv)
    have hu1 : IntKind.u64.wrap n = n := by rw [IntKind.wrap_u64]; omega
    have hd : decide (n < 0) = false := by simpa using hn
    rw [hd]
    generalize n.toNat = N at *
    clear e1 e2 hd
    go_enter Tryz.func33, Tryz.ntmps33
    go_wp2_with (go_at_call 42; refine HW.mono ?_; rintro e u1 ⟨v, rfl, hv, b1⟩; refine Hid.out ?_)
    refine Lib.hid ?_
    have HGG := HG.out u1 v (by rw [b1.block b hbl]; exact hb) hv
    go_wp2_with (go_at_call 41; refine HGG.mono ?_; rintro e u2 ⟨rfl, hI, f2⟩; refine Hid.out ?_)
    refine Lib.hid ?_
    go_wp2_with fail
    go_ret
    exact ⟨rfl, hI, (Fr.below b1).trans f2⟩

set_option maxRecDepth 100000 in
theorem newint_any (w : World) (n : Int) (h0 : -9223372036854775808 ≤ n) (h1 : n ≤ 9223372036854775807) :
    Calls Tryz.prog 23 #[.int .i64 n] w fun e w' => e = .returned (.pointer (some ⟨w.heap.size, 0, none⟩)) ∧ IntV w' w.heap.size (decide (n < 0)) n.natAbs ∧ Below w.heap.size w w' := by
  have hb : (w.alloc (.cells #[.bool false, .slice none 0 0] 74)).heap[w.heap.size]? = some (.cells #[.bool false, .slice none 0 0] 74 (0, 0)) := by rw [heap_alloc_new]
  have H := setint_any hb ⟨none, 0, 0, rfl⟩ n h0 h1
  have B1 : Below w.heap.size w (w.alloc (.cells #[.bool false, .slice none 0 0] 74)) := (Below.refl _ _).alloc (Nat.le_refl _) _
  go_enter Tryz.func23, Tryz.ntmps23
  go_wp2_with (go_at_call 33; refine H.mono ?_; rintro e u2 ⟨rfl, hI, f2⟩; refine Hid.out ?_)
  refine Lib.hid ?_
  go_wp2_with fail
  go_ret
  exact ⟨rfl, hI, B1.trans (f2.toBelow (by simp) (by simp))⟩
end Go.Proofs.YtppkjiihmlphbaaGreatDoor

/- weirgatebig: a number's digits. -/
namespace Go.Proofs.YtppkjiihmlphbaaGreatDoor
open Go.RowKit
open Go.Lib (decDigits itoa)
set_option linter.unusedVariables false

/-- Digits, the low ones first. -/
def rdig (m : Nat) : List UInt8 := if h : m = 0 then [] else UInt8.ofNat (48 + m % 10) :: rdig (m / 10)
termination_by m
decreasing_by omega
theorem rdig_zero : rdig 0 = [] := by rw [rdig, dif_pos rfl]
theorem rdig_pos {m : Nat} (h : m ≠ 0) : rdig m = UInt8.ofNat (48 + m % 10) :: rdig (m / 10) := by rw [rdig, dif_neg h]
theorem rdig_dec : ∀ (n m : Nat), m ≤ n → m ≠ 0 → (rdig m).reverse = decDigits m
  | 0, m, h, h0 => absurd (by omega) h0
  | n + 1, m, h, h0 => by
    rw [rdig_pos h0, decDigits, List.reverse_cons]
    by_cases h1 : m < 10
    · rw [dif_pos h1, show m / 10 = 0 by omega, rdig_zero, Nat.mod_eq_of_lt h1]; rfl
    · rw [dif_neg h1, rdig_dec n (m / 10) (by omega) (by omega)]
theorem rdig_len : ∀ (k m : Nat), m < 10 ^ k → (rdig m).length ≤ k
  | 0, m, h => by
    have : m = 0 := by simpa using h
    subst this; rw [rdig_zero]; simp
  | k + 1, m, h => by
    by_cases h0 : m = 0
    · subst h0; rw [rdig_zero]; simp
    · rw [rdig_pos h0, List.length_cons]
      have := rdig_len k (m / 10) (by rw [Nat.div_lt_iff_lt_mul (by omega), ← Nat.pow_succ]; exact h)
      omega
theorem infoB8 : (Tryz.prog.info? 5).map (fun i => (i.zero, i.size, i.bytes)) = some (some (.int .u8 0), 1, 1) := by kernel_rfl
def bys (l : List UInt8) : List Value := l.map fun c => .int .u8 c.toNat
abbrev OwB (B : Nat) (w : World) (v : Value) (l : List UInt8) : Prop := w.ownsRow B 5 1 v l.length (bys l)
theorem owb_snoc {B : Nat} {w : World} {v : Value} {l : List UInt8} {c : UInt8} (h : w.ownsRow B 5 1 v (l.length + 1) (bys l ++ [.int .u8 c.toNat])) : OwB B w v (l ++ [c]) := by
  have e1 : (l ++ [c]).length = l.length + 1 := by simp
  have e2 : bys (l ++ [c]) = bys l ++ [.int .u8 c.toNat] := by simp [bys]
  unfold OwB; rw [e1, e2]; exact h
theorem owb_keep {w w' : World} {B n e m : Nat} {v : Value} {xs : List Value} (h : w.ownsRow B e m v n xs) (hb : Below w.heap.size w w') : w'.ownsRow B e m v n xs := by
  refine ⟨h.1, ?_⟩
  rcases h.2 with h0 | ⟨g, cap, cur, h0, h1, h2, h3⟩
  · exact .inl h0
  · exact .inr ⟨g, cap, cur, h0, h1, by rw [hb.block g (some_lt h2)]; exact h2, h3⟩
theorem owb_slice {w : World} {B n e m : Nat} {v : Value} {xs : List Value} (h : w.ownsRow B e m v n xs) : ∃ A cap, v = .slice A n cap := by
  rcases h.2 with ⟨h0, h1⟩ | ⟨g, cap, cur, h0, -⟩
  · exact ⟨none, 0, by rw [h0, h1]⟩
  · exact ⟨_, _, h0⟩
theorem U32s.blk {w w' : World} {g : Nat} {l : List Nat} (h : U32s w (some ⟨g, 0, none⟩) l) (he : g < w.heap.size → w'.heap[g]? = w.heap[g]?) : U32s w' (some ⟨g, 0, none⟩) l := by
  rcases h with h | ⟨b, o, e, h⟩
  · exact .inl h
  · by_cases h0 : l = []
    · exact .inl h0
    have hl : 0 < l.length := List.length_pos_iff.2 h0
    injection e with e
    injection e with e1 e2
    subst e1 e2
    have hlt := World.block_lt_of_cell? _ _ (h 0 hl)
    refine .inr ⟨g, 0, rfl, fun j hj => ?_⟩
    rw [World.cell?_of_block (w := w) (he hlt)]; exact h j hj
theorem dig_byte (r : Nat) (h : r < 10) : (48 + (r : Int)) = (((UInt8.ofNat (48 + r)).toNat : Nat) : Int) := by
  rw [UInt8.toNat_ofNat']; omega
/-- twin: the words, once more. -/
theorem twin_any {w : World} {A : Option Addr} {l : List Nat} {c : Nat} (h : U32s w A l) (hl : 0 < l.length) (hl2 : l.length ≤ 1000) :
    Calls Tryz.prog 43 #[.slice A l.length c] w fun e w' => ∃ A' c', e = .returned (.slice A' l.length c') ∧ U32s w' A' l ∧ Below w.heap.size w w' := by
  obtain ⟨i0, hi, hz0, hz1, hz2⟩ := info_parts Tryz.infoU
  obtain ⟨b, o, rfl, hat⟩ := h.at hl
  have hcs : ∀ (j : Nat) (u : Value), (l.map fun (x : Nat) => Value.int .u32 (x : Int))[j]? = some u → w.cell? ((⟨b, o, none⟩ : Addr).add j) = some u := by
    intro j u hj
    have hj' : j < l.length := by have := (List.getElem?_eq_some_iff.1 hj).1; simpa using this
    have h2 := hat j hj'
    rw [show (⟨b, o, none⟩ : Addr).add j = ⟨b, o + j, none⟩ from by unfold Addr.add; split <;> simp_all, h2]
    rw [List.getElem?_map, List.getElem?_eq_getElem hj'] at hj
    rw [wd_get hj']; simpa using hj
  go_enter Tryz.func43, Tryz.ntmps43
  go_wp2_with (at_builtin; refine wpList_append_own _ rfl _ _ 72 rfl w.heap.size 88 i0 (.int .u32 0) 1 4 Tryz.underlying72 hi hz0 hz1 hz2 rfl (by decide) (.slice none 0 0) 0 [] rfl (World.ownsRow_nil _ _ _ _) ⟨b, o, none⟩ l.length c (l.map fun (x : Nat) => Value.int .u32 (x : Int)) rfl (by simp) hcs (by intro u hu; obtain ⟨x, -, rfl⟩ := List.mem_map.1 hu; rfl) (by unfold maxLen; omega) (by omega) (Nat.le_refl _) ?_)
  intro v1 w1 o1 g1 _
  have B1 : Below w.heap.size w w1 := (Below.refl _ _).grown g1 (Nat.le_refl _) (fun j hj => by simp [Value.ownBlock] at hj)
  have o1' := o1
  rcases o1.2 with ⟨-, h0⟩ | ⟨g, cap, cur, h0, -⟩
  · omega
  subst h0
  go_wp2_with fail
  go_ret
  refine ⟨some ⟨g, 0, none⟩, cap, rfl, .inr ⟨g, 0, rfl, fun j hj => ?_⟩, B1⟩
  rw [Nat.zero_add, o1'.cellAt j (by omega), List.getElem?_map, List.getElem?_eq_getElem hj]
  rfl
/-- A list turned round as far as i. -/
def Rv (L R : List UInt8) (i : Nat) : Prop := R.length = L.length ∧ ∀ t, t < L.length → R.getD t 0 = if t < i ∨ L.length < t + i + 1 then L.getD (L.length - 1 - t) 0 else L.getD t 0
theorem Rv.start (L : List UInt8) : Rv L L 0 := ⟨rfl, fun t ht => by rw [if_neg (by omega)]⟩
theorem getD_set {R : List UInt8} {a t : Nat} {x : UInt8} (h : t < R.length) : (R.set a x).getD t 0 = if a = t then x else R.getD t 0 := by
  rw [List.getD_eq_getElem?_getD, List.getD_eq_getElem?_getD, List.getElem?_set]
  by_cases e : a = t
  · subst e; simp [h]
  · simp [e]
theorem Rv.step {L R : List UInt8} {i : Nat} (h : Rv L R i) (hi : 2 * i + 1 < L.length) : Rv L ((R.set i (R.getD (L.length - 1 - i) 0)).set (L.length - 1 - i) (R.getD i 0)) (i + 1) := by
  obtain ⟨h1, h2⟩ := h
  refine ⟨by simpa using h1, fun t ht => ?_⟩
  rw [getD_set (by simp; omega), getD_set (by omega)]
  have a1 := h2 i (by omega)
  have a2 := h2 (L.length - 1 - i) (by omega)
  rw [if_neg (by omega)] at a1 a2
  by_cases e1 : L.length - 1 - i = t
  · rw [if_pos e1, if_pos (by omega), a1, show L.length - 1 - t = i by omega]
  · rw [if_neg e1]
    by_cases e2 : i = t
    · rw [if_pos e2, if_pos (by omega), a2, show L.length - 1 - i = L.length - 1 - t by omega]
    · rw [if_neg e2, h2 t ht]
      by_cases e3 : t < i ∨ L.length < t + i + 1
      · rw [if_pos e3, if_pos (by omega)]
      · rw [if_neg e3, if_neg (by omega)]
theorem Rv.done {L R : List UInt8} {i : Nat} (h : Rv L R i) (hi : ¬ 2 * i + 1 < L.length) (hj : 2 * i ≤ L.length) : R = L.reverse := by
  obtain ⟨h1, h2⟩ := h
  refine List.ext_getElem (by simp [h1]) fun t a b => ?_
  have h3 := h2 t (by omega)
  rw [List.getElem_reverse]
  rw [List.getD_eq_getElem?_getD, List.getElem?_eq_getElem a] at h3
  simp only [Option.getD_some] at h3
  rw [h3]
  by_cases e : t < i ∨ L.length < t + i + 1
  · rw [if_pos e, List.getD_eq_getElem?_getD, List.getElem?_eq_getElem (by omega)]; rfl
  · rw [if_neg e, List.getD_eq_getElem?_getD, List.getElem?_eq_getElem (by omega)]
    simp only [Option.getD_some]
    congr 1
    omega
theorem bys_at {R : List UInt8} {t : Nat} (h : t < R.length) : (bys R)[t]? = some (.int .u8 ((R.getD t 0).toNat : Int)) := by
  unfold bys
  rw [List.getElem?_map, List.getElem?_eq_getElem h, List.getD_eq_getElem?_getD, List.getElem?_eq_getElem h]; rfl
theorem bys_set (R : List UInt8) (t : Nat) (x : UInt8) : (bys R).set t (.int .u8 (x.toNat : Int)) = bys (R.set t x) := by
  unfold bys; rw [List.map_set]
theorem bytes_conv {w : World} {g B n c : Nat} {R : List UInt8} (h : w.ownsRow B 5 1 (.slice (some ⟨g, 0, none⟩) n c) n (bys R)) (hn : n = R.length) : (convert 86 9 (.slice (some ⟨g, 0, none⟩) n c)).run Tryz.prog w = .ok (.string ⟨R.toArray⟩) w := by
  subst hn
  exact run_convert_bytes_back (P := Tryz.prog) w 86 9 5 ⟨g, 0, none⟩ c R Tryz.underlying86 Tryz.underlying5 Tryz.underlying9 (fun j hj => by
    rw [show (⟨g, 0, none⟩ : Addr).add j = ⟨g, j, none⟩ from by simp [Addr.add]; intro h; omega, h.cellAt j (by omega), bys_at hj, List.getD_eq_getElem?_getD, List.getElem?_eq_getElem hj]; rfl)
set_option maxRecDepth 100000 in
set_option maxHeartbeats 1000000 in
theorem text_any {w : World} {b : Nat} {neg : Bool} {m : Nat} (hI : IntV w b neg m) (hm : m ≠ 0) (hm2 : m < 18446744073709551616) :
    Calls Tryz.prog 34 #[.pointer (some ⟨b, 0, none⟩), .int .i64 10] w fun e w' => e = .returned (.string ⟨((if neg = true then [45] else []) ++ decDigits m).toArray⟩) ∧ Below w.heap.size w w' := by
  obtain ⟨i0, hi, hz0, hz1, hz2⟩ := info_parts infoB8
  obtain ⟨v, hb, A, cap, rfl, hcap, hU⟩ := hI
  have hbl : b < w.heap.size := some_lt hb
  have hwl : ∀ k, k ≤ m → (wl k).length ≤ 2 := fun k hk => wl_len_le k 2 (by omega)
  have hwp : ∀ k, k ≠ 0 → 0 < (wl k).length := fun k hk => by rw [wl_pos hk]; simp
  have hlen := rdig_len 20 m (by omega)
  have c0 : w.cell? ⟨b, 0, none⟩ = some (.bool neg) := by simp [World.cell?, hb]
  have c1 : w.cell? ⟨b, 1, none⟩ = some (.slice A (wl m).length cap) := by simp [World.cell?, hb]
  have HTw := twin_any (c := cap) hU (hwp m hm) (by have := hwl m (Nat.le_refl _); omega)
  have hp := hwp m hm
  have hpI : (0 : Int) < ((wl m).length : Int) := by omega
  have hp0 : (((wl m).length : Int) == 0) = false := beq_eq_false_iff_ne.2 (by omega)
  have HL := Lib.hid hwl
  have HPo := Lib.hid hwp
  clear hwl hwp hb hU
  go_enter Tryz.func34, Tryz.ntmps34
  go_wp2_with (go_at_call 43; refine HTw.mono ?_; rintro e u1 ⟨A1, cp1, rfl, hU1, b1⟩; refine Hid.out ?_)
  refine Lib.hid ?_
  have hc0 := Lib.hid (fun (u : World) (hu : Below w.heap.size w u) => (hu.cell (p := ⟨b, 0, none⟩) hbl).trans c0)
  clear HTw c0 c1 hpI hp0 hp
  go_wp2_with fail
  go_loopw [5, 6] (fun vb va wr => ∃ (k : Nat) (l : List UInt8) (A : Option Addr) (c : Nat) (pb : Option Addr) (cb : Nat), vb = .slice pb l.length cb ∧ va = .slice A (wl k).length c ∧ U32s wr A (wl k) ∧ OwB w.heap.size wr (.slice pb l.length cb) l ∧ Hid (l ++ rdig k = rdig m) ∧ k ≤ m ∧ l.length + (rdig k).length ≤ 20 ∧ Below w.heap.size w wr) (fun vb _ _ => match vb with | .slice _ n _ => 20 - n | _ => 0)
  case atStart => exact ⟨m, [], A1, cp1, none, 0, rfl, rfl, hU1, World.ownsRow_nil _ _ _ _, Lib.hid rfl, Nat.le_refl _, by simpa using hlen, b1⟩
  case round =>
    obtain ⟨k, l, A2, cp2, pb, cb, rfl, rfl, hU2, own, HX, hkm, hl20, hbw⟩ := hrel
    by_cases hk : k = 0
    · subst hk
      have hl0 : l = rdig m := by have := HX.out; rw [rdig_zero, List.append_nil] at this; exact this
      have hc := hc0.out wr hbw
      have hrp : 1 ≤ l.length := by rw [hl0, rdig_pos hm]; simp
      have hw0 : ((wl 0).length : Int) = 0 := by rw [wl_zero]; rfl
      have hll : l.length ≤ 20 := by omega
      cases neg with
      | false =>
        have HAns : Hid (l.reverse = decDigits m) := Lib.hid (by rw [hl0, rdig_dec m m (Nat.le_refl _) hm])
        obtain ⟨g, cg, e⟩ : ∃ g cg, Value.slice pb l.length cb = .slice (some ⟨g, 0, none⟩) l.length cg := by
          rcases own.2 with ⟨-, h0⟩ | ⟨g, cg, cur, h0, -⟩
          · omega
          · exact ⟨g, cg, h0⟩
        injection e with e1 _ e2
        subst e1 e2
        obtain ⟨L, hL⟩ : ∃ L, L = l := ⟨_, rfl⟩
        subst hL
        have ownL := own
        have BL := hbw
        clear hl0 HX own hbw hU2 hl20
        generalize hw1 : (wl 0).length = w0 at *
        clear hw1
        go_wp2_with fail
        go_loopw [8, 9] (fun iv jv wr => ∃ (i : Nat) (R : List UInt8), 2 * i ≤ L.length ∧ iv = .int .i64 i ∧ jv = .int .i64 ((L.length : Int) - 1 - i) ∧ Hid (Rv L R i) ∧ R.length = L.length ∧ wr.ownsRow w.heap.size 5 1 (.slice (some ⟨g, 0, none⟩) L.length cb) L.length (bys R) ∧ Below w.heap.size w wr) (fun iv _ _ => L.length - (intOf iv).toNat)
        case atStart => exact ⟨0, L, by omega, rfl, by go_num, Lib.hid (Rv.start L), rfl, ownL, BL⟩
        case round =>
          obtain ⟨i, R, hi2, rfl, rfl, HV, hRl, oR, hbR⟩ := hrel
          clear ownL BL
          by_cases hlt : 2 * i + 1 < L.length
          · obtain ⟨j, hj⟩ : ∃ j, j = L.length - 1 - i := ⟨_, rfl⟩
            have ej : (L.length : Int) - 1 - (i : Int) = (j : Int) := by omega
            have hijI : (i : Int) < (j : Int) := by omega
            have hjL : (j : Int) < (L.length : Int) := by omega
            have hiL : (i : Int) < (L.length : Int) := by omega
            have hne1 : ¬ i = j := by omega
            have hne2 : ¬ j = i := by omega
            have HV2 := Lib.hid (HV.out.step hlt)
            rw [← hj] at HV2
            have ci := (oR.cellAt i (by omega)).trans (bys_at (R := R) (t := i) (by omega))
            have cj := (oR.cellAt j (by omega)).trans (bys_at (R := R) (t := j) (by omega))
            have f0 := oR.frozenAt
            have hgw := (oR.lt g rfl).1
            obtain ⟨oR1, -⟩ := oR.stored i (.int .u8 ((R.getD j 0).toNat : Int))
            rw [bys_set] at oR1
            have f1 := oR1.frozenAt
            obtain ⟨oR2, -⟩ := oR1.stored j (.int .u8 ((R.getD i 0).toNat : Int))
            rw [bys_set] at oR2
            have cj1 := (oR1.cellAt j (by omega)).trans (bys_at (R := R.set i (R.getD j 0)) (t := j) (by simp; omega))
            have B2 : Below w.heap.size w ((wr.setCell ⟨g, i, none⟩ (.int .u8 ((R.getD j 0).toNat : Int))).setCell ⟨g, j, none⟩ (.int .u8 ((R.getD i 0).toNat : Int))) := (hbR.setCell (p := ⟨g, i, none⟩) hgw _).setCell (p := ⟨g, j, none⟩) hgw _
            simp only [ej]
            have HJ := Lib.hid hj
            have HEJ := Lib.hid ej
            clear HV hj ej
            generalize hx : (R.getD i 0) = x at *
            generalize hy : (R.getD j 0) = y at *
            clear hx hy
            go_wp2_with fail
            go_roundw
            case rel => exact ⟨i + 1, _, by omega, by go_num, by have := HEJ.out; simp; omega, HV2, by simpa using hRl, oR2, B2⟩
            case measure => simp [intOf]; omega
          · have hijI : ¬ (i : Int) < (L.length : Int) - 1 - i := by omega
            have hcv := bytes_conv oR hRl.symm
            have HE := Lib.hid (HV.out.done hlt hi2)
            go_wp2_with fail
            go_ret
            have hE := HE.out.trans HAns.out
            subst hE
            exact ⟨rfl, hbR⟩
      | true =>
        have HAns0 : Hid ((l ++ [45]).reverse = 45 :: decDigits m) := Lib.hid (by rw [List.reverse_append, hl0, rdig_dec m m (Nat.le_refl _) hm]; rfl)
        have hs2 : w.heap.size ≤ wr.heap.size := hbw.size
        clear hl0 HX hU2 hl20
        generalize hw1 : (wl 0).length = w0 at *
        clear hw1
        go_wp2_with (at_builtin; refine wpList_append_own _ rfl _ _ 86 rfl w.heap.size 5 i0 (.int .u8 0) 1 1 Tryz.underlying86 hi hz0 hz1 hz2 rfl (by decide) _ _ _ rfl (own.alloc _) ⟨wr.heap.size, 0, none⟩ 1 1 [.int .u8 45] rfl rfl (by intro j u' hj; match j, hj with | 0, hj => simp at hj; subst hj; simp [Addr.add]) (by intro u' hu'; simp at hu'; subst hu'; rfl) (by unfold maxLen; omega) (by omega) (by simp; omega) ?_)
        intro v3 u3 o3 g3 _
        refine Hid.out ?_
        refine Lib.hid ?_
        have own3 : OwB w.heap.size u3 v3 (l ++ [45]) := owb_snoc (c := 45) o3
        have BL : Below w.heap.size w u3 := (hbw.alloc hs2 _).grown g3 (by simp; omega) (fun j hj => by have := (own.lt j hj).1; omega)
        obtain ⟨L, hL⟩ : ∃ L, L = l ++ [45] := ⟨_, rfl⟩
        rw [← hL] at own3
        have HAns : Hid (L.reverse = 45 :: decDigits m) := Lib.hid (by rw [hL]; exact HAns0.out)
        have hL1 : L.length = l.length + 1 := by rw [hL]; simp
        have hLa : 1 ≤ L.length := by omega
        have hLb : L.length ≤ 21 := by omega
        obtain ⟨g, cg, rfl⟩ : ∃ g cg, v3 = .slice (some ⟨g, 0, none⟩) L.length cg := by
          rcases own3.2 with ⟨-, h0⟩ | ⟨g, cg, cur, h0, -⟩
          · omega
          · exact ⟨g, cg, h0⟩
        have ownL := own3
        clear o3 g3 own own3 hL hL1 HAns0 hbw hs2
        go_wp2_with fail
        go_loopw [8, 9] (fun iv jv wr => ∃ (i : Nat) (R : List UInt8), 2 * i ≤ L.length ∧ iv = .int .i64 i ∧ jv = .int .i64 ((L.length : Int) - 1 - i) ∧ Hid (Rv L R i) ∧ R.length = L.length ∧ wr.ownsRow w.heap.size 5 1 (.slice (some ⟨g, 0, none⟩) L.length cg) L.length (bys R) ∧ Below w.heap.size w wr) (fun iv _ _ => L.length - (intOf iv).toNat)
        case atStart => exact ⟨0, L, by omega, rfl, by go_num, Lib.hid (Rv.start L), rfl, ownL, BL⟩
        case round =>
          obtain ⟨i, R, hi2, rfl, rfl, HV, hRl, oR, hbR⟩ := hrel
          clear ownL BL
          by_cases hlt : 2 * i + 1 < L.length
          · obtain ⟨j, hj⟩ : ∃ j, j = L.length - 1 - i := ⟨_, rfl⟩
            have ej : (L.length : Int) - 1 - (i : Int) = (j : Int) := by omega
            have hijI : (i : Int) < (j : Int) := by omega
            have hjL : (j : Int) < (L.length : Int) := by omega
            have hiL : (i : Int) < (L.length : Int) := by omega
            have hne1 : ¬ i = j := by omega
            have hne2 : ¬ j = i := by omega
            have HV2 := Lib.hid (HV.out.step hlt)
            rw [← hj] at HV2
            have ci := (oR.cellAt i (by omega)).trans (bys_at (R := R) (t := i) (by omega))
            have cj := (oR.cellAt j (by omega)).trans (bys_at (R := R) (t := j) (by omega))
            have f0 := oR.frozenAt
            have hgw := (oR.lt g rfl).1
            obtain ⟨oR1, -⟩ := oR.stored i (.int .u8 ((R.getD j 0).toNat : Int))
            rw [bys_set] at oR1
            have f1 := oR1.frozenAt
            obtain ⟨oR2, -⟩ := oR1.stored j (.int .u8 ((R.getD i 0).toNat : Int))
            rw [bys_set] at oR2
            have cj1 := (oR1.cellAt j (by omega)).trans (bys_at (R := R.set i (R.getD j 0)) (t := j) (by simp; omega))
            have B2 : Below w.heap.size w ((wr.setCell ⟨g, i, none⟩ (.int .u8 ((R.getD j 0).toNat : Int))).setCell ⟨g, j, none⟩ (.int .u8 ((R.getD i 0).toNat : Int))) := (hbR.setCell (p := ⟨g, i, none⟩) hgw _).setCell (p := ⟨g, j, none⟩) hgw _
            simp only [ej]
            have HJ := Lib.hid hj
            have HEJ := Lib.hid ej
            clear HV hj ej
            generalize hx : (R.getD i 0) = x at *
            generalize hy : (R.getD j 0) = y at *
            clear hx hy
            go_wp2_with fail
            go_roundw
            case rel => exact ⟨i + 1, _, by omega, by go_num, by have := HEJ.out; simp; omega, HV2, by simpa using hRl, oR2, B2⟩
            case measure => simp [intOf]; omega
          · have hijI : ¬ (i : Int) < (L.length : Int) - 1 - i := by omega
            have hcv := bytes_conv oR hRl.symm
            have HE := Lib.hid (HV.out.done hlt hi2)
            go_wp2_with fail
            go_ret
            have hE := HE.out.trans HAns.out
            subst hE
            exact ⟨rfl, hbR⟩
    · have hp := HPo.out k hk
      have hpI : (0 : Int) < ((wl k).length : Int) := by omega
      have h2 := HL.out k hkm
      have HSm := small_any (ca := cp2) (d := 10) hU2 (wds_wl k) hp (by omega) (by omega) (by omega)
      rw [nv_wl] at HSm
      have hr : k % 10 < 10 := Nat.mod_lt _ (by omega)
      have HX2 : Hid ((l ++ [UInt8.ofNat (48 + k % 10)]) ++ rdig (k / 10) = rdig m) := Lib.hid (by rw [← HX.out, rdig_pos hk]; simp)
      have hl2 : l.length + 1 + (rdig (k / 10)).length ≤ 20 := by rw [rdig_pos hk, List.length_cons] at hl20; omega
      have hk2 : k / 10 ≤ m := by omega
      generalize k % 10 = r at *
      generalize k / 10 = k2 at *
      have hrI : (r : Int) < 10 := by omega
      generalize hW1 : (wl k).length = W1 at *
      clear hW1 HX hl20
      go_wp2_with (go_at_call 44; refine HSm.mono ?_; rintro e u2 ⟨g2, rfl, hg2, hU3, b2⟩; refine Hid.out ?_)
      refine Lib.hid ?_
      have own2 := owb_keep own b2
      have B2 := hbw.trans (b2.mono hbw.size)
      have hs2 : w.heap.size ≤ u2.heap.size := B2.size
      have hcr := Lib.hid (dig_byte r hr)
      have hne : ∀ j, (Value.slice pb l.length cb).ownBlock = some j → j ≠ g2 := fun j hj => by have := (own.lt j hj).2; omega
      clear HSm own b2
      go_wp2_with (at_builtin; refine wpList_append_own _ rfl _ _ 86 rfl w.heap.size 5 i0 (.int .u8 0) 1 1 Tryz.underlying86 hi hz0 hz1 hz2 rfl (by decide) _ _ _ rfl (own2.alloc _) ⟨u2.heap.size, 0, none⟩ 1 1 [.int .u8 (48 + (r : Int))] rfl rfl (by intro j u' hj; match j, hj with | 0, hj => simp at hj; subst hj; simp [Addr.add]) (by intro u' hu'; simp at hu'; subst hu'; rfl) (by unfold maxLen; omega) (by omega) (by simp; omega) ?_)
      intro v3 u3 o3 g3 _
      refine Hid.out ?_
      refine Lib.hid ?_
      rw [hcr.out] at o3
      have own3 := owb_snoc o3
      have hU4 : U32s u3 (some ⟨g2, 0, none⟩) (wl k2) := hU3.blk (fun hlt => by
        rw [g3.block g2 (by simp; omega) (fun e => hne g2 e.symm rfl), Below.heap_alloc _ _ _ hlt])
      have B3 : Below w.heap.size w u3 := (B2.alloc hs2 _).grown g3 (by simp; omega) (fun j hj => by have := (own2.lt j hj).1; omega)
      obtain ⟨p3, c3, rfl⟩ := owb_slice own3
      have hl3 : (l ++ [UInt8.ofNat (48 + r)]).length = l.length + 1 := by simp
      generalize l ++ [UInt8.ofNat (48 + r)] = l3 at *
      clear o3 g3 own2 hU3 B2 hne hcr
      go_wp2_with fail
      go_roundw
      case rel => exact ⟨k2, l3, _, _, p3, c3, rfl, rfl, hU4, own3, HX2, hk2, by omega, B3⟩
      case measure => simp; omega
end Go.Proofs.YtppkjiihmlphbaaGreatDoor

/- The document's Digits. -/
namespace Go.Proofs.YtppkjiihmlphbaaGreatDoor
open Go.RowKit
open Go.Lib (decDigits itoa)
set_option linter.unusedVariables false

theorem text_zero {w : World} {b : Nat} {neg : Bool} (hI : IntV w b neg 0) :
    Calls Tryz.prog 34 #[.pointer (some ⟨b, 0, none⟩), .int .i64 10] w fun e w' => e = .returned (.string ⟨(decDigits 0).toArray⟩) ∧ w = w' := by
  obtain ⟨v, hb, A, cap, rfl, -, -⟩ := hI
  have c1 : w.cell? ⟨b, 1, none⟩ = some (.slice A (wl 0).length cap) := by simp [World.cell?, hb]
  rw [wl_zero] at c1
  have hd : decDigits 0 = [48] := by rw [decDigits]; rfl
  rw [hd]
  simp only [List.length_nil] at c1
  clear hb
  go_enter Tryz.func34, Tryz.ntmps34
  go_wp2_with fail
  go_ret
  exact ⟨rfl, rfl⟩
theorem ito_eq (n : Int) : (if decide (n < 0) = true then [45] else []) ++ decDigits n.natAbs = itoa n := by
  unfold itoa
  by_cases h : n < 0
  · rw [if_pos h, if_pos (by simpa using h)]; rfl
  · rw [if_neg h, if_neg (by simpa using h), show n.natAbs = n.toNat by omega]; rfl
theorem text_of {w : World} {b : Nat} {n : Int} (h0 : -9223372036854775808 ≤ n) (h1 : n ≤ 9223372036854775807) (hI : IntV w b (decide (n < 0)) n.natAbs) :
    Calls Tryz.prog 34 #[.pointer (some ⟨b, 0, none⟩), .int .i64 10] w fun e w' => e = .returned (.string (itoB n)) ∧ Below w.heap.size w w' := by
  by_cases hz : n = 0
  · subst hz
    refine (text_zero hI).mono ?_
    rintro e w' ⟨rfl, rfl⟩
    exact ⟨by unfold itoB; rw [← ito_eq]; rfl, Below.refl _ _⟩
  · refine (text_any hI (by omega) (by omega)).mono ?_
    rintro e w' ⟨rfl, hb⟩
    exact ⟨by unfold itoB; rw [← ito_eq], hb⟩
theorem string_of {w : World} {b : Nat} {n : Int} (h0 : -9223372036854775808 ≤ n) (h1 : n ≤ 9223372036854775807) (hI : IntV w b (decide (n < 0)) n.natAbs) :
    Calls Tryz.prog 24 #[.pointer (some ⟨b, 0, none⟩)] w fun e w' => e = .returned (.string (itoB n)) ∧ Below w.heap.size w w' := by
  have H := text_of h0 h1 hI
  clear hI
  go_enter Tryz.func24, Tryz.ntmps24
  go_wp2_with (go_at_call 34; refine H.mono ?_; rintro e u1 ⟨rfl, b1⟩; refine Hid.out ?_)
  refine Lib.hid ?_
  go_wp2_with fail
  go_ret
  exact ⟨rfl, b1⟩
theorem digs_any (w : World) (n : Int) (h0 : -9223372036854775808 ≤ n) (h1 : n ≤ 9223372036854775807) :
    Calls Tryz.prog 16 #[.int .i64 n] w fun e w' => e = .returned (.string (itoB n)) ∧ Below w.heap.size w w' := by
  have H1 := newint_any w n h0 h1
  have H2 := Lib.hid (fun (u : World) (hI : IntV u w.heap.size (decide (n < 0)) n.natAbs) => string_of h0 h1 hI)
  go_enter Tryz.func16, Tryz.ntmps16
  go_wp2_with (go_at_call 23; refine H1.mono ?_; rintro e u1 ⟨rfl, hI, b1⟩; refine Hid.out ?_)
  refine Lib.hid ?_
  have H3 := H2.out u1 hI
  clear H1 H2 hI
  go_wp2_with (go_at_call 24; refine H3.mono ?_; rintro e u2 ⟨rfl, b2⟩; refine Hid.out ?_)
  refine Lib.hid ?_
  go_wp2_with fail
  go_ret
  exact ⟨rfl, b1.trans (b2.mono b1.size)⟩
end Go.Proofs.YtppkjiihmlphbaaGreatDoor

/- DenSubs's walk. -/
namespace Go.Proofs.YtppkjiihmlphbaaGreatDoor
open Go.RowKit
open Go.Lib (decDigits itoa)
set_option linter.unusedVariables false

theorem infoInt8 : (Tryz.prog.info? 3).map (fun i => (i.zero, i.size, i.bytes)) = some (some (.int .i64 0), 1, 8) := by kernel_rfl
theorem ito_pos {u : Nat} (h : u < 10) : itoB (u : Int) = ⟨#[UInt8.ofNat (48 + u)]⟩ := by
  unfold itoB itoa
  rw [if_neg (by omega), show ((u : Int)).toNat = u by omega, Go.Lib.decDigits_one h]
theorem txt_R {u : Nat} (h : u < 10) : (⟨#[110, 37]⟩ : ByteArray) ++ itoB (u : Int) = txR u := by
  rw [ito_pos h]; rfl
theorem keyS_cat (k : ByteArray) (j : Int) : (k ++ (⟨#[47]⟩ : ByteArray)) ++ itoB j = keyS k j := by
  unfold keyS; rw [ByteArray.append_assoc]
def dS : List Rc := [⟨kA, 3, 0⟩]
def kA1 : ByteArray := ⟨#[97, 47, 49]⟩
theorem lines_one (k : ByteArray) (n t : Int) : linesP [⟨k, n, t⟩] = [(k, [n])] := by
  have h1 : firstsP [⟨k, n, t⟩] = [k] := by simp [firstsP]
  have h2 : keysP [⟨k, n, t⟩] = [k] := by unfold keysP; rw [h1]; simp
  unfold linesP
  rw [h2]
  simp [numsP]
theorem sub_fact : denE (jLine ⟨4, [0], txR 2, 0⟩) [dS] = 0 ∧ denV (jLine ⟨4, [0], txR 2, 0⟩) [dS] = [[(kA1, [3])]] := by
  have h := (subs_pure dS (by intro r hr; simp [dS] at hr; subst hr; unfold Rng; decide) (by decide +kernel)).2.1 2 (by omega) (by omega)
  have e : subR 2 dS = [⟨kA1, 3, 0⟩] := by
    have e1 : sR 2 ⟨kA, 3, 0⟩ = ⟨kA1, 3, 0⟩ := by
      unfold sR
      simp only
      rw [show ((3 : Int).tmod (2 : Nat)) = ((1 : Nat) : Int) from rfl, ito_pos (by omega)]; rfl
    unfold subR dS
    rw [List.map_cons, List.map_nil, e1]
    rfl
  rw [e, lines_one] at h
  exact h
theorem want_snoc (m : Nat) (P : List Int) (j : Int) (z : Nat) (h : z < P.length) : wantP m (P.take (z + 1)) j = wantP m (P.take z) j ++ if P[z].tmod m = j then [P[z]] else [] := by
  unfold wantP
  rw [List.take_succ_eq_append_getElem h, List.filter_append]
  by_cases e : P[z].tmod m = j <;> simp [e]
theorem has_snoc (m : Nat) (P : List Int) (q : Nat) (h : q < (parts m).length) : (((parts m).take (q + 1)).filter fun j => decide (wantP m P j ≠ [])).length = (((parts m).take q).filter fun j => decide (wantP m P j ≠ [])).length + if wantP m P (parts m)[q] ≠ [] then 1 else 0 := by
  rw [List.take_succ_eq_append_getElem h, List.filter_append, List.length_append]
  by_cases e : wantP m P (parts m)[q] = [] <;> simp [e]
theorem parts_at (m q : Nat) (h : q < (parts m).length) : (parts m)[q] = 1 - (m : Int) + (q : Nat) := by
  simp only [parts, List.getElem_map, List.getElem_range]
theorem parts_len (m : Nat) : (parts m).length = 2 * m - 1 := by unfold parts; simp

theorem own_intsS {w : World} {B n c : Nat} {A : Option Addr} {z : List Int} (h : w.ownsRow B 3 1 (.slice A n c) n (iv z)) (hn : n = z.length) : IntsAt w A z := by
  rcases h.2 with ⟨h0, h1⟩ | ⟨g, cap', cur, h0, -⟩
  · exact .inl (List.eq_nil_of_length_eq_zero (by omega))
  · simp at h0
    obtain ⟨rfl, rfl⟩ := h0
    refine .inr ⟨g, 0, rfl, fun j hj => ?_⟩
    rw [Nat.zero_add, h.cellAt j (by omega)]
    simp [iv, hj]
set_option maxRecDepth 100000 in
set_option maxHeartbeats 2000000 in
theorem subs_walk (w : World) (hg : Gd w) {aa : Option Addr} {a : List Rc} {ac : Nat} (ha : RcsAt w aa a) (hac : a.length ≤ ac) (ham : ac ≤ 9223372036854775807) (hXa : ∀ r ∈ a, r.key.size ≤ 9223372036854775807 ∧ Rng r.num) (n : Int) :
    Calls Tryz.prog 8 #[.slice aa a.length ac, .int .i64 n] w fun e w' => e = .returned (.bool true) ∧ Below w.heap.size w w' := by
  obtain ⟨i0, hi, hz0, hz1, hz2⟩ := info_parts infoInt8
  have ra : ∀ W, Below w.heap.size w W → RcsAt W aa a := fun W hw => ha.keep (Keeps.of hw)
  have hp := subs_pure a (fun r hr => (hXa r hr).2)
  have hff := sub_fact
  have rf : RcsAt (w.alloc (.cells #[.string ⟨#[97]⟩, .int .i64 3, .int .i64 0] 33)) (some ⟨w.heap.size, 0, none⟩) dS :=
    .inr ⟨_, 0, rfl, fun j u hu => by rw [Nat.zero_add]; exact cell_new _ _ _ (by simpa [rcells, dS, kA] using hu)⟩
  have B0 : Below w.heap.size w (w.alloc (.cells #[.string ⟨#[97]⟩, .int .i64 3, .int .i64 0] 33)) := (Below.refl _ w).alloc (Nat.le_refl _) _
  have HF := Lib.hid (whole_yes _ (hg.below B0) 4 0 (txR 2) (by decide) rf (Nat.le_refl _) (by decide) (by intro r hr; simp [dS] at hr; subst hr; exact ⟨by decide, by unfold Rng; decide⟩) _ hff.1 hff.2)
  have HP := Lib.hid hp
  have HX := Lib.hid hXa
  clear hp hff rf ha hXa
  go_enter Tryz.func8, Tryz.ntmps8
  go_wp2_with (go_at_call 13; refine HF.out.mono ?_; rintro e w1 ⟨A1, c1, rfl, hl1, hc1, b1⟩; refine Hid.out ?_)
  refine Lib.hid ?_
  have B1 : Below w.heap.size w w1 := B0.trans (b1.mono (by simp))
  obtain ⟨fb, fo, rfl, hl2⟩ : ∃ b o, A1 = some ⟨b, o, none⟩ ∧ ∀ (i : Nat) (h : i < [(kA1, ([3] : List Int))].length), LnAt w1 b (o + i * 2) [(kA1, ([3] : List Int))][i] := by
    rcases hl1 with h | h
    · simp at h
    · exact h
  obtain ⟨q0, -, -⟩ := hl2 0 (by simp)
  simp only [List.getElem_cons_zero, Nat.zero_mul, Nat.add_zero, kA1] at q0
  clear HF b1 hl1 hl2 B0
  by_cases hE : denE (jLine ⟨2, [0], txn, 0⟩) [a] = 0
  · obtain ⟨hV, hN, hle⟩ := HP.out hE
    have hkl : (keysP a).length ≤ 300 := by
      have h1 := lines_len a
      have h2 := firsts_len a
      rw [show linesP a = (keysP a).map fun k => (k, numsP a k) from rfl, List.length_map] at h1
      omega
    have hpl : ∀ k, (numsP a k).length ≤ 300 := fun k => by
      unfold numsP
      rw [List.length_map]
      exact Nat.le_trans (List.length_filter_le _ _) hle
    rw [show linesP a = (keysP a).map fun k => (k, numsP a k) from rfl] at hV
    have HW1 := Lib.hid (fun W (hW : Below w.heap.size w W) => whole_yes W (hg.below hW) 2 0 txn (by decide) (ra _ hW) hac ham HX.out _ hE hV)
    by_cases hr : 1 ≤ n ∧ n ≤ 9
    · obtain ⟨u, rfl⟩ : ∃ u : Nat, n = u := ⟨n.toNat, by omega⟩
      have u1 : 1 ≤ u := by omega
      have u9 : u ≤ 9 := by omega
      obtain ⟨hS1, hS2⟩ := hN u u1 u9
      have HW3 := Lib.hid (fun W (hW : Below w.heap.size w W) => whole_yes W (hg.below hW) 4 0 (txR u) (Nat.le_trans (show (txR u).size ≤ 3 from Nat.le_refl _) (by decide)) (ra _ hW) hac ham HX.out _ hS1 hS2)
      have htx := txt_R (u := u) (by omega)
      have his : (itoB (u : Int)).size ≤ 21 := itoB_size (by omega) (by omega)
      have HCo := Lib.hid (subs_count u1 u9 a)
      have HLk := Lib.hid (fun (k : ByteArray) (hk : k.size ≤ 37) (j : Int) (j1 : -(u : Int) < j) (j2 : j < u) => (look_lines (subR u a) (keyS k j)).trans (nums_sub u1 u9 hk j1 j2 a))
      have hxl : (linesP (subR u a)).length ≤ 300 := by
        rw [lines_len]; exact Nat.le_trans (firsts_len _) (Nat.le_trans (sub_len u a) hle)
      have HPL := Lib.hid hpl
      have HD := Lib.hid (fun (W : World) (j : Int) (j1 : -(100 : Int) < j) (j2 : j < 100) => digs_any W j (by omega) (by omega))
      clear HP hE hV hN hle HX ra hpl hS1 hS2
      generalize linesP (subR u a) = X at *
      generalize keysP a = ks at *
      generalize hNm : numsP a = Nm at *
      simp only [List.length_map] at HW1
      have r1 : ¬ (u : Int) < 1 := by omega
      have r2 : ¬ (9 : Int) < u := by omega
      go_wp2_with (go_at_call 13; refine (HW1.out w1 B1).mono ?_; rintro e w2 ⟨A2, c2, rfl, n2, m2, b2⟩; refine Hid.out ?_)
      refine Lib.hid ?_
      have B2 : Below w.heap.size w w2 := B1.trans (b2.mono B1.size)
      clear HW1 b2 q0
      go_wp2_with (go_at_call 16; refine (HD.out w2 u (by omega) (by omega)).mono ?_; rintro e w3 ⟨rfl, b3⟩; refine Hid.out ?_)
      refine Lib.hid ?_
      have B3 : Below w.heap.size w w3 := B2.trans (b3.mono B2.size)
      go_wp2_with (go_at_call 13; refine (HW3.out w3 B3).mono ?_; rintro e w4 ⟨A4, c4, rfl, n4, m4, b4⟩; refine Hid.out ?_)
      refine Lib.hid ?_
      have B4 : Below w.heap.size w w4 := B3.trans (b4.mono B3.size)
      have k2 := (n2.keep (Keeps.of b3)).keep (Keeps.of b4)
      clear HW3 n2 b3 b4 B1 B2 B3
      have K2 := Lib.hid k2
      have K4 := Lib.hid (fun (x : World) (hx : Below w4.heap.size w4 x) => n4.keep (Keeps.of hx))
      have hu0 : ¬ (u : Int) = 0 := by omega
      have hpn := parts_len u
      have HPN := Lib.hid hpn
      clear k2 n4 htx his hpn
      go_wp2_with fail
      go_loopw [11, 12] (fun nv iv wr => ∃ (t c : Nat), t ≤ ks.length ∧ iv = .int .i64 t ∧ nv = .int .i64 c ∧ Hid (c = (pkeys u a (ks.take t)).length) ∧ c ≤ 17 * t ∧ Hid (∀ k ∈ ks.take t, k.size ≤ 37) ∧ Below w4.heap.size w4 wr) (fun _ iv _ => ks.length - (intOf iv).toNat)
      case atStart => exact ⟨0, 0, by omega, rfl, rfl, Lib.hid rfl, by omega, Lib.hid (by simp), Below.refl _ _⟩
      case round =>
        obtain ⟨t, c, ht, rfl, rfl, HC, hc17, H37, hbw⟩ := hrel
        by_cases hlt : t < ks.length
        · have htI : (t : Int) < (ks.length : Int) := by omega
          obtain ⟨b1, o1, rfl, hln⟩ : ∃ b o, A2 = some ⟨b, o, none⟩ ∧ LnAt w4 b (o + t * 2) (ks[t], Nm ks[t]) := by
            rcases K2.out with h | ⟨b, o, e, h⟩
            · have := congrArg List.length h
              rw [List.length_map, List.length_nil] at this
              omega
            · have := h t (by simpa using hlt)
              simp only [List.getElem_map] at this
              exact ⟨b, o, e, this⟩
          obtain ⟨x0, ⟨fa2, fc2, x1, x2, x3, x4⟩, x5⟩ := hln
          simp only at x0 x1 x2
          have HCl := Lib.hid (fun (x : World) (hx : Below w4.heap.size w4 x) => (⟨(Keeps.of hx) _ _ x0, (Keeps.of hx) _ _ x1, x2.keep (Keeps.of hx)⟩ : x.cell? ⟨b1, o1 + t * 2, none⟩ = some (.string ks[t]) ∧ x.cell? ⟨b1, o1 + t * 2 + 1, none⟩ = some (.slice fa2 (Nm ks[t]).length fc2) ∧ IntsAt x fa2 (Nm ks[t])))
          have HNx := Lib.hid (show (pkeys u a (ks.take (t + 1))).length = (pkeys u a (ks.take t)).length + (hasP u (Nm ks[t])).length from by rw [pkeys_next u a hlt, hNm])
          have HTk := Lib.hid (List.take_succ_eq_append_getElem hlt)
          have HLt := Lib.hid (fun (h37 : ks[t].size ≤ 37) (j : Int) (j1 : -(u : Int) < j) (j2 : j < u) => HLk.out ks[t] h37 j j1 j2)
          have hpl := HPL.out ks[t]
          obtain ⟨y0, y1, y2⟩ := HCl.out wr hbw
          clear x0 x1 x2 x3 x4 x5
          generalize hkey : ks[t] = key at *
          generalize Nm key = P at *
          clear hkey
          by_cases h37 : key.size ≤ 37
          · have h37I : ¬ (37 : Int) < (key.size : Int) := by omega
            have H37b := Lib.hid (show ∀ k ∈ ks.take (t + 1), k.size ≤ 37 from by
              rw [HTk.out]
              intro k hk
              rcases List.mem_append.1 hk with h | h
              · exact H37.out k h
              · rw [List.mem_singleton] at h; rw [h]; exact h37)
            clear HTk H37 y2
            go_wp2_with fail
            go_loopw [11, 13] (fun nv kv wr => ∃ (q c2 : Nat), q ≤ 2 * u - 1 ∧ kv = .int .i64 (1 - (u : Int) + q) ∧ nv = .int .i64 c2 ∧ Hid (c2 = c + (((parts u).take q).filter fun j => decide (wantP u P j ≠ [])).length) ∧ c2 ≤ c + q ∧ Below w4.heap.size w4 wr) (fun _ kv _ => ((u : Int) - intOf kv).toNat)
            case atStart => exact ⟨0, c, by omega, by go_num, rfl, Lib.hid (by simp), by omega, hbw⟩
            case round =>
              obtain ⟨q, c2, hq, rfl, rfl, HC2, hc2, hbw2⟩ := hrel
              clear y0 y1
              by_cases hql : q < 2 * u - 1
              · obtain ⟨J, hJ⟩ : ∃ J, J = 1 - (u : Int) + (q : Int) := ⟨_, rfl⟩
                have J1 : -(u : Int) < J := by omega
                have J2 : J < (u : Int) := by omega
                have hJp := parts_at u q (by rw [HPN.out]; exact hql)
                have HSn := Lib.hid (has_snoc u P q (by rw [HPN.out]; exact hql))
                rw [hJp, ← hJ] at HSn
                have HJ := Lib.hid hJ
                rw [← hJ]
                have HDJ := Lib.hid (fun (W : World) => HD.out W J (by omega) (by omega))
                have HLJ := Lib.hid (HLt.out h37 J J1 J2)
                have hjs : (itoB J).size ≤ 21 := itoB_size (by omega) (by omega)
                have hcat := keyS_cat key J
                clear hJp hJ
                go_wp2_with fail
                go_loopw [14, 15] (fun wv jv wr => ∃ (z : Nat), z ≤ P.length ∧ jv = .int .i64 z ∧ wr.ownsRow w4.heap.size 3 1 wv (wantP u (P.take z) J).length (iv (wantP u (P.take z) J)) ∧ Below w4.heap.size w4 wr) (fun _ jv _ => P.length - (intOf jv).toNat)
                case atStart => exact ⟨0, by omega, rfl, World.ownsRow_nil _ _ _ _, hbw2⟩
                case round =>
                  obtain ⟨z, hz, rfl, own, hb3⟩ := hrel
                  obtain ⟨y0, y1, y2⟩ := HCl.out wr hb3
                  have hs3 : w4.heap.size ≤ wr.heap.size := hb3.size
                  by_cases hzl : z < P.length
                  · have hzI : (z : Int) < (P.length : Int) := by omega
                    obtain ⟨pb, po, rfl, pc⟩ := ints_at y2 z hzl
                    have hws := want_snoc u P J z hzl
                    have hwl : (wantP u (P.take z) J).length ≤ 300 := by
                      unfold wantP
                      exact Nat.le_trans (List.length_filter_le _ _) (by rw [List.length_take]; omega)
                    generalize wantP u (P.take z) J = Q at *
                    generalize P[z] = pz at *
                    by_cases hp : pz.tmod u = J
                    · rw [if_pos hp] at hws
                      have HWs := Lib.hid hws
                      clear hws y2
                      go_wp2_with (at_builtin; refine wpList_append_own _ rfl _ _ 24 rfl w4.heap.size 3 i0 (.int .i64 0) 1 8 Tryz.underlying24 hi hz0 hz1 hz2 rfl (by decide) _ _ _ rfl (own.alloc _) ⟨wr.heap.size, 0, none⟩ 1 1 [.int .i64 pz] rfl rfl (by intro j u' hj; match j, hj with | 0, hj => simp at hj; subst hj; simp [Addr.add]) (by intro u' hu'; simp at hu'; subst hu'; rfl) (by unfold maxLen; omega) (by omega) (by simp; omega) ?_)
                      intro v3 u3 o3 g3 _
                      refine Hid.out ?_
                      refine Lib.hid ?_
                      have o3' : u3.ownsRow w4.heap.size 3 1 v3 (Q ++ [pz]).length (iv (Q ++ [pz])) := by
                        rw [List.length_append, show iv (Q ++ [pz]) = iv Q ++ [.int .i64 pz] from by simp [iv]]; exact o3
                      have B5 : Below w4.heap.size w4 u3 := (hb3.alloc hs3 _).grown g3 (by simp; omega) (fun j hj => by have := (own.lt j hj).1; omega)
                      clear o3 g3 own hb3
                      go_wp2_with fail
                      go_roundw
                      case rel => exact ⟨z + 1, by omega, by go_num, by rw [HWs.out]; exact o3', B5⟩
                      case measure => simp [intOf]; omega
                    · rw [if_neg hp, List.append_nil] at hws
                      have HWs := Lib.hid hws
                      clear hws y2
                      go_wp2_with fail
                      go_roundw
                      case rel => exact ⟨z + 1, by omega, by go_num, by rw [HWs.out]; exact own, hb3⟩
                      case measure => simp [intOf]; omega
                  · have hzI : ¬ (z : Int) < (P.length : Int) := by omega
                    have e : P.take z = P := List.take_of_length_le (by omega)
                    rw [e] at own
                    have hLJ := HLJ.out
                    rw [show (List.filter (fun n => decide (n.tmod (u : Int) = J)) P) = wantP u P J from rfl] at hLJ
                    have hwl : (wantP u P J).length ≤ 300 := by
                      unfold wantP
                      exact Nat.le_trans (List.length_filter_le _ _) hpl
                    generalize wantP u P J = Q at *
                    clear e y2
                    obtain ⟨pv, cv, rfl⟩ := owb_slice own
                    go_wp2_with (go_at_call 16; refine (HDJ.out wr).mono ?_; rintro e w5 ⟨rfl, b5⟩; refine Hid.out ?_)
                    refine Lib.hid ?_
                    clear y0 y1
                    have B5 : Below w4.heap.size w4 w5 := hb3.trans (b5.mono hs3)
                    have own5 := owb_keep own b5
                    obtain ⟨y0, y1, -⟩ := HCl.out w5 B5
                    obtain ⟨fa, fc, g1, g2, g3, g4⟩ := nums_any (K4.out w5 B5) c4 (by omega) (keyS key J)
                    rw [hLJ] at g1 g2 g4
                    have HN : Calls Tryz.prog 14 #[.slice A4 X.length c4, .string (keyS key J)] w5 fun e w' => e = .returned (.slice fa Q.length fc) ∧ ∃ n, w' = w5.drewN n := (g4 0).mono (fun e w' ⟨q1, n, q2⟩ => ⟨q1, n, q2⟩)
                    have HI := Lib.hid (fun (n6 : Nat) => ints_same (w := w5.drewN n6) (g1.keep (fun _ _ h => h)) ((own_intsS own5 rfl).keep (fun _ _ h => h)) fc cv (by omega))
                    clear g1 g2 g3 g4 own b5 hb3 hs3 own5
                    go_wp2_with (go_at_call 14; refine HN.mono ?_; rintro e v6 ⟨rfl, n6, rfl⟩; refine Hid.out ?_)
                    refine Lib.hid ?_
                    go_wp2_with (go_at_call 15; refine (HI.out n6).mono ?_; rintro e v7 ⟨rfl, n7, rfl⟩; refine Hid.out ?_)
                    refine Lib.hid ?_
                    have B7 : Below w4.heap.size w4 (w5.drewN (n6 + n7)) := below_drewN B5 _
                    clear HN HI B5 y0 y1
                    by_cases hQ : Q = []
                    · subst hQ
                      have hcn : Hid (c2 = c + (((parts u).take (q + 1)).filter fun j => decide (wantP u P j ≠ [])).length) := Lib.hid (by have h8 := HSn.out; have h7 := HC2.out; rw [if_neg (by simp)] at h8; omega)
                      go_wp2_with fail
                      go_roundw
                      case rel => exact ⟨q + 1, c2, by omega, by have h9 := HJ.out; go_num, rfl, hcn, by omega, B7⟩
                      case measure => simp [intOf]; omega
                    · have hQl : 0 < Q.length := List.length_pos_iff.2 hQ
                      have hQI : (0 : Int) < (Q.length : Int) := by omega
                      have hcn : Hid (c2 + 1 = c + (((parts u).take (q + 1)).filter fun j => decide (wantP u P j ≠ [])).length) := Lib.hid (by have h8 := HSn.out; have h7 := HC2.out; rw [if_pos hQ] at h8; omega)
                      go_wp2_with fail
                      go_roundw
                      case rel => exact ⟨q + 1, c2 + 1, by omega, by have h9 := HJ.out; go_num, by go_num, hcn, by omega, B7⟩
                      case measure => simp [intOf]; omega
              · have hJI : ¬ (1 - (u : Int) + (q : Int)) < (u : Int) := by omega
                have hcc : Hid (c2 = (pkeys u a (ks.take (t + 1))).length) := Lib.hid (by
                  rw [HNx.out, ← HC.out, HC2.out]
                  unfold hasP
                  rw [List.take_of_length_le (by rw [HPN.out]; omega)])
                go_wp2_with fail
                go_roundw
                case rel => exact ⟨t + 1, c2, by omega, by go_num, rfl, hcc, by omega, H37b, hbw2⟩
                case measure => simp [intOf]; omega
          · have h37I : (37 : Int) < (key.size : Int) := by omega
            go_wp2_with fail
            go_ret
            exact ⟨rfl, B4.trans (hbw.mono B4.size)⟩
        · have htI : ¬ (t : Int) < (ks.length : Int) := by omega
          have e : ks.take t = ks := List.take_of_length_le (by omega)
          have hfin : c = X.length := by
            rw [HC.out, e]
            exact (HCo.out (by have := H37.out; rw [e] at this; exact this)).symm
          subst hfin
          clear HC e
          go_wp2_with fail
          go_ret
          exact ⟨by simp, B4.trans (hbw.mono B4.size)⟩
    · have HR : n < 1 ∨ 9 < n := by omega
      clear HP hN
      go_wp2_with (go_at_call 13; refine (HW1.out w1 B1).mono ?_; rintro e w2 ⟨A2, c2, rfl, n2, m2, b2⟩; refine Hid.out ?_)
      refine Lib.hid ?_
      have B2 : Below w.heap.size w w2 := B1.trans (b2.mono B1.size)
      rcases HR with hr1 | hr1
      · go_wp2_with fail
        go_ret
        exact ⟨rfl, B2⟩
      · have hr2 : ¬ n < 1 := by omega
        go_wp2_with fail
        go_ret
        exact ⟨rfl, B2⟩
  · have HW := whole_no w1 (hg.below B1) 2 0 txn (by decide) (ra _ B1) hac ham HX.out hE
    clear HP
    go_wp2_with (go_at_call 13; refine HW.mono ?_; rintro e w2 ⟨rfl, b2⟩)
    go_ret
    exact ⟨rfl, B1.trans (b2.mono B1.size)⟩
end Go.Proofs.YtppkjiihmlphbaaGreatDoor

