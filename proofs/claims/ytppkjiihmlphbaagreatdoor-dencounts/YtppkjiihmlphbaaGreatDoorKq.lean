import Derived.Test.YtppkjiihmlphbaaGreatDoorPureQ
import Derived.Test.YtppkjiihmlphbaaGreatDoorKm
import Derived.Test.YtppkjiihmlphbaaGreatDoorRp
import Derived.Test.YtppkjiihmlphbaaGreatDoorRows
import Derived.ChangeSame
import Derived.ChangeVars
import Derived.JoinedOf
import Derived.RowKit
import Derived.RowKitTokens
import Derived.LaidLaws
import Derived.LaidHandle
import Derived.Stop.Joined
import Derived.Stop.LaidErr
/- Two Sources put together. -/
namespace Go.Proofs.YtppkjiihmlphbaaGreatDoor

def h0 : ByteArray := ⟨#[48, 58]⟩
def h1 : ByteArray := ⟨#[49, 58]⟩
theorem ito0 : itoB 0 ++ (⟨#[58]⟩ : ByteArray) = h0 := by decide +kernel
theorem ito1 : itoB 1 ++ (⟨#[58]⟩ : ByteArray) = h1 := by decide +kernel
theorem ba_inj {h a b : ByteArray} (e : h ++ a = h ++ b) : a = b := by
  have := congrArg (fun x => x.data.toList) e
  simp only [ByteArray.data_append, Array.toList_append] at this
  have := List.append_cancel_left this
  cases a; cases b; simp_all
theorem ba_01 (a b : ByteArray) : h0 ++ a ≠ h1 ++ b := by
  intro e
  have := congrArg (fun x => x.data.toList) e
  simp [ByteArray.data_append, h0, h1] at this
theorem h0_size (a : ByteArray) : (h0 ++ a).size = 2 + a.size := by rw [ByteArray.size_append]; rfl
theorem h1_size (a : ByteArray) : (h1 ++ a).size = 2 + a.size := by rw [ByteArray.size_append]; rfl

def uR (h : ByteArray) (r : Rc) : Rc := ⟨h ++ r.key, r.num, r.time⟩
def few (h : ByteArray) (l : List Rc) : List Rc := (l.map (uR h)).filter fun r => decide (r.key.size ≤ 40)
def uniP (a b : List Rc) : List Rc := few h0 a ++ few h1 b
def jUn : List Nd := [⟨1, [], emp, 2⟩, ⟨1, [], emp, 1⟩, ⟨6, [0, 1], emp, 0⟩, ⟨10, [2], emp, 0⟩, ⟨10, [0], emp, 0⟩, ⟨10, [1], emp, 0⟩]

theorem g_un {i : Int} {h : ByteArray} (hi : itoB i ++ (⟨#[58]⟩ : ByteArray) = h) (fs : List Int) (r : Rc) : gP ⟨6, fs, emp, 0⟩ r i = if (uR h r).key.size ≤ 40 then [uR h r] else [] := by
  unfold gP turnedP
  simp [hi]
  unfold copP uR
  by_cases hc : 40 < (h ++ r.key).size
  · rw [if_pos (.inl hc), if_neg (by simp only; omega)]
  · rw [if_neg (by simp only; omega), if_pos (by simp only; omega)]; rfl
theorem flat_un {i : Int} {h : ByteArray} (hi : itoB i ++ (⟨#[58]⟩ : ByteArray) = h) (fs : List Int) (l : List Rc) : (l.map fun x => (x, i)).flatMap (fun x => gP ⟨6, fs, emp, 0⟩ x.1 x.2) = few h l := by
  unfold few
  induction l with
  | nil => rfl
  | cons x r ih =>
    simp only [List.map_cons, List.flatMap_cons]
    rw [ih, g_un hi, List.filter_cons]
    by_cases hs : (uR h x).key.size ≤ 40 <;> simp [hs]
theorem few_len (h : ByteArray) (l : List Rc) : (few h l).length ≤ l.length := by
  unfold few; exact Nat.le_trans (List.length_filter_le _ _) (by simp)
theorem hand_un {a b : List Rc} (ha : a.length ≤ 300) (hb : b.length ≤ 300) : handP ⟨6, [0, 1], emp, 0⟩ [a, b] = some (uniP a b) := by
  have e : (tagP 0 [a, b]).flatMap (fun x => gP ⟨6, [0, 1], emp, 0⟩ x.1 x.2) = uniP a b := by
    simp only [tagP, List.append_nil, List.flatMap_append]
    rw [show ((0 : Nat) : Int) = 0 from rfl, show ((0 + 1 : Nat) : Int) = 1 from rfl, flat_un ito0, flat_un ito1]; rfl
  rw [hand_plain rfl, e, if_neg]
  have := few_len h0 a; have := few_len h1 b
  simp [uniP]; omega
theorem few_ok {h : ByteArray} {l : List Rc} : ∀ r ∈ few h l, r.key.size ≤ 40 := fun r hr => by
  have := (List.mem_filter.1 hr).2
  simpa using this
theorem job_un : jobP jUn = 0 := by decide +kernel
theorem flow_un {a b : List Rc} (ha : ∀ r ∈ a, RcOk r) (hb : ∀ r ∈ b, RcOk r) (la : a.length ≤ 300) (lb : b.length ≤ 300) : flowP jUn [a, b] [] = some [a, b, uniP a b, uniP a b, a, b] := by
  have lu : (uniP a b).length ≤ 2000 := by
    have := few_len h0 a; have := few_len h1 b
    simp [uniP]; omega
  have ku : ∀ r ∈ uniP a b, r.key.size ≤ 40 := fun r hr => by
    rcases List.mem_append.1 hr with h | h <;> exact few_ok r h
  unfold jUn
  rw [flowS (o := a) (by rw [got_src rfl]; exact hand_id rfl (fun r hr => g_same (.inl rfl) _ _ _ (ha r hr).key) (by omega))]
  rw [flowS (o := b) (by rw [got_src rfl]; exact hand_id rfl (fun r hr => g_same (.inl rfl) _ _ _ (hb r hr).key) (by omega))]
  rw [flowS (o := uniP a b) (by rw [got_oth (show (6 : Int) ≠ 1 by decide)]; exact hand_un la lb)]
  rw [flowS (o := uniP a b) (by rw [got_oth (by decide)]; exact hand_id rfl (fun r hr => g_same (.inr rfl) _ _ _ (ku r hr)) lu)]
  rw [flowS (o := a) (by rw [got_oth (by decide)]; exact hand_id rfl (fun r hr => g_same (.inr rfl) _ _ _ (ha r hr).key) (show a.length ≤ 2000 by omega))]
  rw [flowS (o := b) (by rw [got_oth (by decide)]; exact hand_id rfl (fun r hr => g_same (.inr rfl) _ _ _ (hb r hr).key) (show b.length ≤ 2000 by omega))]
  rfl
theorem unions_pure (a b : List Rc) (ha : ∀ r ∈ a, Rng r.num) (hb : ∀ r ∈ b, Rng r.num) (h : denE jUn [a, b] = 0) : denV jUn [a, b] = [linesP (uniP a b), linesP a, linesP b] := by
  have s : srcs jUn = 2 := rfl
  by_cases h1 : checkP [a, b] 2 = 0
  · have hdp : dataP [a, b] = 0 := by
      unfold checkP at h1
      simpa using h1
    obtain ⟨ok, le⟩ := data_ok hdp (fun l hl => by rcases List.mem_cons.1 hl with rfl | hl; exact ha; rw [List.mem_singleton.1 hl]; exact hb)
    have f := flow_un (ok a (by simp)) (ok b (by simp)) (le a (by simp)) (le b (by simp))
    unfold denV
    rw [f, job_un, s, h1]
    rfl
  · unfold denE at h
    rw [job_un, s] at h
    simp [h1] at h
/-- Two records alone. -/
def ka : ByteArray := ⟨#[97]⟩
def k0a : ByteArray := ⟨#[48, 58, 97]⟩
theorem un_fact : denE jUn [[⟨ka, 2, 0⟩], []] = 0 ∧ denV jUn [[⟨ka, 2, 0⟩], []] = [[(k0a, [2])], [(ka, [2])], []] := by
  have f := flow_un (a := [⟨ka, 2, 0⟩]) (b := []) (fun r hr => by rw [List.mem_singleton.1 hr]; exact ⟨by decide, by unfold Rng; decide, by unfold Rng; decide⟩) (by simp) (by decide) (by decide)
  have s : srcs jUn = 2 := rfl
  have hE : denE jUn [[⟨ka, 2, 0⟩], []] = 0 := by
    unfold denE
    rw [job_un, s, f]
    simp only [show checkP [[⟨ka, 2, 0⟩], []] 2 = 0 by decide]
    rfl
  refine ⟨hE, ?_⟩
  rw [unions_pure _ _ (fun r hr => by rw [List.mem_singleton.1 hr]; unfold Rng; decide) (by simp) hE]
  have e : uniP [⟨ka, 2, 0⟩] [] = [⟨k0a, 2, 0⟩] := by
    have e1 : h0 ++ ka = k0a := by decide +kernel
    simp only [uniP, few, uR, List.map_cons, List.map_nil, List.filter_cons, List.filter_nil, e1]
    rfl
  rw [e, lines_nil]
  simp [linesP, keysP, firstsP, numsP]

open Classical in
theorem firsts_snoc' (l : List Rc) (r : Rc) : firstsP (l ++ [r]) = if r.key ∈ firstsP l then firstsP l else firstsP l ++ [r.key] := by
  have e : firstsP (l ++ [r]) = if ((firstsP l).any fun k => decide (k = r.key)) then firstsP l else firstsP l ++ [r.key] := by
    unfold firstsP
    rw [List.foldl_append]
    simp only [List.foldl_cons, List.foldl_nil]
  rw [e]
  by_cases h : r.key ∈ firstsP l
  · rw [if_pos h, if_pos]
    simp only [List.any_eq_true, decide_eq_true_eq]; exact ⟨_, h, rfl⟩
  · rw [if_neg h, if_neg]
    simp only [List.any_eq_true, decide_eq_true_eq]
    rintro ⟨k, hk, rfl⟩; exact h hk
theorem snoc_ind {α : Type} {P : List α → Prop} (h0 : P []) (hs : ∀ l x, P l → P (l ++ [x])) : ∀ l, P l := by
  intro l
  have : ∀ R : List α, P R.reverse := by
    intro R
    induction R with
    | nil => exact h0
    | cons x R ih => rw [List.reverse_cons]; exact hs _ _ ih
  have := this l.reverse
  rwa [List.reverse_reverse] at this
def ksOf (h : ByteArray) (l : List Rc) : List ByteArray := ((firstsP l).filter fun k => decide (2 + k.size ≤ 40)).map (h ++ ·)
open Classical in
theorem firsts_few {h : ByteArray} (hz : ∀ a : ByteArray, (h ++ a).size = 2 + a.size) (X : List Rc) (hX : ∀ k, h ++ k ∉ firstsP X) (l : List Rc) : firstsP (X ++ few h l) = firstsP X ++ ksOf h l := by
  induction l using snoc_ind with
  | h0 => simp [few, ksOf, firstsP]
  | hs l r ih =>
    have e : few h (l ++ [r]) = few h l ++ (if 2 + r.key.size ≤ 40 then [uR h r] else []) := by
      unfold few
      rw [List.map_append, List.filter_append, List.map_singleton, List.filter_cons]
      have : (uR h r).key.size = 2 + r.key.size := hz _
      by_cases hc : 2 + r.key.size ≤ 40 <;> simp [this, hc]
    rw [e]
    by_cases hc : 2 + r.key.size ≤ 40
    · rw [if_pos hc, ← List.append_assoc, firsts_snoc', ih]
      have hm : (uR h r).key ∈ firstsP X ++ ksOf h l ↔ r.key ∈ firstsP l := by
        constructor
        · intro hh
          rcases List.mem_append.1 hh with h' | h'
          · exact absurd h' (hX _)
          · obtain ⟨k, hk, he⟩ := List.mem_map.1 h'
            rw [ba_inj he] at hk
            exact (List.mem_filter.1 hk).1
        · intro hh
          exact List.mem_append.2 (.inr (List.mem_map.2 ⟨r.key, List.mem_filter.2 ⟨hh, by simpa using hc⟩, rfl⟩))
      by_cases hk : r.key ∈ firstsP l
      · rw [if_pos (hm.2 hk)]
        unfold ksOf; rw [firsts_snoc', if_pos hk]
      · rw [if_neg (fun c => hk (hm.1 c)), List.append_assoc]
        congr 1
        unfold ksOf; rw [firsts_snoc', if_neg hk, List.filter_append, List.map_append, List.filter_cons]
        simp [hc, uR]
    · rw [if_neg hc, List.append_nil, ih]
      congr 1
      unfold ksOf; rw [firsts_snoc']
      by_cases hk : r.key ∈ firstsP l
      · rw [if_pos hk]
      · rw [if_neg hk, List.filter_append, List.filter_cons]; simp [hc]
/-- How many of a list's keys are short. -/
def cntP (L : List Ln) : Nat := (L.filter fun x => decide (2 + x.1.size ≤ 40)).length
theorem cnt_lines (l : List Rc) : cntP (linesP l) = ((firstsP l).filter fun k => decide (2 + k.size ≤ 40)).length := by
  unfold cntP linesP keysP
  rw [List.filter_map, List.length_map]
  exact ((List.mergeSort_perm _ _).filter _).length_eq
theorem uni_len (a b : List Rc) : (linesP (uniP a b)).length = cntP (linesP a) + cntP (linesP b) := by
  have e1 := firsts_few h0_size [] (fun k => by simp [firstsP]) a
  rw [List.nil_append, show firstsP [] = [] from rfl, List.nil_append] at e1
  have e2 := firsts_few h1_size (few h0 a) (fun k hk => by
    rw [e1] at hk
    obtain ⟨x, _, he⟩ := List.mem_map.1 hk
    exact ba_01 _ _ he) b
  rw [lines_len, cnt_lines, cnt_lines, uniP, e2, e1]
  simp [ksOf]
/-- A key's numbers among lines. -/
def lookP (k : ByteArray) : List Ln → List Int
  | [] => []
  | x :: r => if x.1 = k then x.2 else lookP k r
open Classical in
theorem look_map (l : List Rc) (k : ByteArray) : ∀ K : List ByteArray, lookP k (K.map fun q => (q, numsP l q)) = if k ∈ K then numsP l k else []
  | [] => by simp [lookP]
  | q :: K => by
    simp only [List.map_cons, lookP]
    rw [look_map l k K]
    by_cases h : q = k
    · subst h; simp
    · have : ¬ k = q := fun c => h c.symm
      simp [h, this]
theorem look_lines (l : List Rc) (k : ByteArray) : lookP k (linesP l) = numsP l k := by
  unfold linesP
  rw [look_map]
  by_cases h : k ∈ keysP l
  · rw [if_pos h]
  · rw [if_neg h]
    symm
    unfold numsP
    rw [List.map_eq_nil_iff, List.filter_eq_nil_iff]
    intro r hr he
    exact h ((List.mergeSort_perm _ _).mem_iff.2 (firsts_mem.2 ⟨r, hr, by simpa using he⟩))
theorem nums_few {h : ByteArray} (hz : ∀ a : ByteArray, (h ++ a).size = 2 + a.size) (l : List Rc) {k : ByteArray} (hk : 2 + k.size ≤ 40) : numsP (few h l) (h ++ k) = numsP l k := by
  unfold numsP few
  induction l with
  | nil => rfl
  | cons x r ih =>
    simp only [List.map_cons, List.filter_cons]
    have hs : (uR h x).key.size = 2 + x.key.size := hz _
    by_cases hx : x.key = k
    · have h1 : (uR h x).key = h ++ k := by rw [← hx]; rfl
      have h2 : (uR h x).key.size ≤ 40 := by rw [hs, hx]; exact hk
      rw [if_pos (by simpa using h2), if_pos (by simpa using hx), List.filter_cons, if_pos (by simpa using h1), List.map_cons, List.map_cons, ih]; rfl
    · have h1 : (uR h x).key ≠ h ++ k := fun c => hx (ba_inj c)
      by_cases h2 : (uR h x).key.size ≤ 40
      · rw [if_pos (by simpa using h2), if_neg (by simpa using hx), List.filter_cons, if_neg (by simpa using h1)]
        exact ih
      · rw [if_neg (by simpa using h2), if_neg (by simpa using hx)]
        exact ih
theorem nums_out {h : ByteArray} {q : ByteArray} (hq : ∀ a : ByteArray, h ++ a ≠ q) (l : List Rc) : numsP (few h l) q = [] := by
  unfold numsP
  rw [List.map_eq_nil_iff, List.filter_eq_nil_iff]
  intro r hr he
  obtain ⟨x, _, rfl⟩ := List.mem_map.1 (List.mem_filter.1 hr).1
  exact hq _ (of_decide_eq_true he)
theorem nums_app (x y : List Rc) (k : ByteArray) : numsP (x ++ y) k = numsP x k ++ numsP y k := by simp [numsP]
theorem uni_0 (a b : List Rc) {k : ByteArray} (hk : 2 + k.size ≤ 40) : lookP (h0 ++ k) (linesP (uniP a b)) = numsP a k := by
  rw [look_lines, uniP, nums_app, nums_few h0_size a hk, nums_out (fun x => (ba_01 k x).symm) b, List.append_nil]
theorem uni_1 (a b : List Rc) {k : ByteArray} (hk : 2 + k.size ≤ 40) : lookP (h1 ++ k) (linesP (uniP a b)) = numsP b k := by
  rw [look_lines, uniP, nums_app, nums_few h1_size b hk, nums_out (fun x => ba_01 x k) a, List.nil_append]
theorem lines_get (l : List Rc) {i : Nat} (hi : i < (linesP l).length) : (linesP l)[i].2 = numsP l (linesP l)[i].1 := by
  simp [linesP]
end Go.Proofs.YtppkjiihmlphbaaGreatDoor

/- Folds: what each key gets is folded by itself. Jobs of one node. Plain mathematics. -/
namespace Go.Proofs.YtppkjiihmlphbaaGreatDoor

/-- Numbers folded: each, and the last. -/
def foldN (tx : ByteArray) : Int → List Int → List Int
  | _, [] => []
  | s, x :: r => valP tx x s :: foldN tx (valP tx x s) r
def foldE (tx : ByteArray) : Int → List Int → Int
  | s, [] => s
  | s, x :: r => foldE tx (valP tx x s) r
theorem foldN_snoc (tx : ByteArray) : ∀ (l : List Int) (s x : Int), foldN tx s (l ++ [x]) = foldN tx s l ++ [valP tx x (foldE tx s l)]
  | [], _, _ => rfl
  | y :: l, s, x => by simp only [List.cons_append, foldN, foldE, foldN_snoc tx l]
theorem foldE_snoc (tx : ByteArray) : ∀ (l : List Int) (s x : Int), foldE tx s (l ++ [x]) = valP tx x (foldE tx s l)
  | [], _, _ => rfl
  | y :: l, s, x => by simp only [List.cons_append, foldE, foldE_snoc tx l]
theorem foldN_len (tx : ByteArray) : ∀ (l : List Int) (s : Int), (foldN tx s l).length = l.length
  | [], _ => rfl
  | y :: l, s => by simp only [foldN, List.length_cons, foldN_len tx l]
theorem numsR_snoc (l : List Rc) (r : Rc) (k : ByteArray) : numsP (l ++ [r]) k = numsP l k ++ if r.key = k then [r.num] else [] := by
  unfold numsP
  rw [List.filter_append, List.map_append]
  by_cases h : r.key = k <;> simp [h]
/-- What a Fold makes of records, one behind the other. -/
def foldR (tx : ByteArray) (l : List Rc) : List Rc := (runP ⟨7, [0], tx, 0⟩ (l.map fun x => (x, 0))).1
theorem fold_run (tx : ByteArray) : ∀ (R : List Rc), (∀ r ∈ R, r.key.size ≤ 40) →
    let p := runP ⟨7, [0], tx, 0⟩ (R.reverse.map fun x => (x, 0))
    (∀ k, ((p.2 k).getD hd0).a = foldE tx 0 (numsP R.reverse k)) ∧ (∀ k, numsP p.1 k = foldN tx 0 (numsP R.reverse k)) ∧ p.1.map (·.key) = R.reverse.map (·.key) := by
  intro R
  induction R with
  | nil => intro _; exact ⟨fun k => rfl, fun k => rfl, rfl⟩
  | cons r R ih =>
    intro h
    obtain ⟨h1, h2, h3⟩ := ih (fun x hx => h x (by simp [hx]))
    have hk := h r (by simp)
    simp only [List.reverse_cons, List.map_append, List.map_cons, List.map_nil]
    rw [runP_snoc]
    generalize runP ⟨7, [0], tx, 0⟩ (R.reverse.map fun x => (x, (0 : Int))) = p at h1 h2 h3
    have hst : (if (p.2 r.key).isSome then (p.2 r.key).getD hd0 else hd0) = (p.2 r.key).getD hd0 := by
      cases p.2 r.key <;> simp
    have es : stepP ⟨7, [0], tx, 0⟩ p (r, 0) = (p.1 ++ [⟨r.key, valP tx r.num ((p.2 r.key).getD hd0).a, r.time⟩], fun k => if k = r.key then some ⟨0, r.key, valP tx r.num ((p.2 r.key).getD hd0).a, ((p.2 r.key).getD hd0).b⟩ else p.2 k) := by
      unfold stepP appP
      simp only [hasStP, hst]
      simp [countedP]
      exact cop_one hk
    rw [es]
    simp only
    refine ⟨fun k => ?_, fun k => ?_, ?_⟩
    · rw [numsR_snoc]
      by_cases e : k = r.key
      · subst e
        simp only [if_true, Option.getD_some]
        rw [foldE_snoc, h1]
      · have e' : ¬ r.key = k := fun h => e h.symm
        simp only [e, e', if_false, List.append_nil]
        exact h1 k
    · rw [numsR_snoc, numsR_snoc, h2]
      by_cases e : r.key = k
      · subst e
        simp only [if_true]
        rw [foldN_snoc, h1]
      · simp only [e, if_false, List.append_nil]
    · simp [h3]
theorem fold_nums (tx : ByteArray) {l : List Rc} (h : ∀ r ∈ l, r.key.size ≤ 40) : (∀ k, numsP (foldR tx l) k = foldN tx 0 (numsP l k)) ∧ (foldR tx l).map (·.key) = l.map (·.key) := by
  have := fold_run tx l.reverse (fun r hr => h r (by simpa using hr))
  rw [List.reverse_reverse] at this
  exact ⟨this.2.1, this.2.2⟩
theorem firsts_keys {a b : List Rc} (h : a.map (·.key) = b.map (·.key)) : firstsP a = firstsP b := by
  have key : ∀ (l : List Rc), firstsP l = (l.map (·.key)).foldl (fun (ks : List ByteArray) k => if (ks.any fun x => decide (x = k)) then ks else ks ++ [k]) [] := by
    intro l; unfold firstsP; rw [List.foldl_map]
  rw [key, key, h]
/-- The lines of what is folded: as many as before, of the same keys. -/
theorem fold_lines (tx : ByteArray) {l : List Rc} (h : ∀ r ∈ l, r.key.size ≤ 40) : linesP (foldR tx l) = (keysP l).map fun k => (k, foldN tx 0 (numsP l k)) := by
  obtain ⟨h1, h2⟩ := fold_nums tx h
  unfold linesP keysP
  rw [firsts_keys h2]
  exact List.map_congr_left (fun k _ => by rw [h1])

/-- A job of one node. -/
def jLine (nd : Nd) : List Nd := [⟨1, [], emp, 3⟩, nd, ⟨10, [1], emp, 0⟩]
theorem own_src3 : ownP ⟨1, [], emp, 3⟩ = 0 := by unfold ownP; simp [hasNP, hasTP, bdLo, bdHi, emp]; rfl
theorem flow_line {nd : Nd} (hk : nd.k ≠ 1) (hf : nd.fs = [0]) {d o : List Rc} (hd : ∀ r ∈ d, RcOk r) (hl : d.length ≤ 2000) (ho : handP nd [d] = some o) (hok : ∀ r ∈ o, r.key.size ≤ 40) (hol : o.length ≤ 2000) :
    flowP (jLine nd) [d] [] = some [d, o, o] := by
  unfold jLine
  rw [flowS (o := d) (by rw [got_src rfl]; exact hand_id rfl (fun r hr => g_same (.inl rfl) _ _ _ (hd r hr).key) hl)]
  rw [flowS (o := o) (by rw [got_oth hk]; unfold fromsP; rw [hf]; exact ho)]
  rw [flowS (o := o) (by rw [got_oth (by decide)]; exact hand_id rfl (fun r hr => g_same (.inr rfl) _ _ _ (hok r hr)) hol)]
  rw [rest_oth hk]
  rfl
theorem fold_len (tx : ByteArray) {l : List Rc} (h : ∀ r ∈ l, r.key.size ≤ 40) : (foldR tx l).length = l.length := by
  have := congrArg List.length (fold_nums tx h).2
  simpa using this
theorem fold_key (tx : ByteArray) {l : List Rc} (h : ∀ r ∈ l, r.key.size ≤ 40) : ∀ r ∈ foldR tx l, r.key.size ≤ 40 := by
  intro r hr
  have hm : r.key ∈ (foldR tx l).map (·.key) := List.mem_map.2 ⟨r, hr, rfl⟩
  rw [(fold_nums tx h).2] at hm
  obtain ⟨x, hx, he⟩ := List.mem_map.1 hm
  rw [← he]; exact h x hx
theorem hand_fold (tx : ByteArray) {l : List Rc} (h : ∀ r ∈ l, r.key.size ≤ 40) (hl : l.length ≤ 2000) : handP ⟨7, [0], tx, 0⟩ [l] = some (foldR tx l) := by
  unfold handP
  rw [tag_one, if_neg]
  · rfl
  · have := fold_len tx h
    unfold foldR at this
    omega
/-- The two texts of DenSums. -/
def txS : ByteArray := ⟨#[115, 43, 110]⟩
def txM : ByteArray := ⟨#[109, 97, 120, 40, 115, 44, 110, 41]⟩
theorem rd_S : readP [115, 43, 110] = .ok (.two 43 .vs .vn) [] :=
  read_of (by decide) ((Gr.add 43 (by decide) ((Gr.vs 20).down 2 (by omega) (by omega)) ((Gr.vn 20).down 3 (by omega) (by omega))).down 0 (by omega) (by omega))
theorem rd_M : readP [109, 97, 120, 40, 115, 44, 110, 41] = .ok (.two 77 .vs .vn) [] :=
  read_of (by decide) ((Gr.mx (a := [115]) (b := [110]) ((Gr.vs 19).down 0 (by omega) (by omega)) ((Gr.vn 19).down 0 (by omega) (by omega))).down 0 (by omega) (by omega))
theorem val_S (n s : Int) : valP txS n s = wr (s + n) := by unfold valP; rw [show txS.data.toList = [115, 43, 110] from rfl, rd_S]; rfl
theorem val_M (n s : Int) : valP txM n s = if n < s then s else n := by unfold valP; rw [show txM.data.toList = [109, 97, 120, 40, 115, 44, 110, 41] from rfl, rd_M]; rfl
theorem txp_S : txP txS.data.toList = 0 := by unfold txP; rw [show txS.data.toList = [115, 43, 110] from rfl, rd_S]
theorem txp_M : txP txM.data.toList = 0 := by unfold txP; rw [show txM.data.toList = [109, 97, 120, 40, 115, 44, 110, 41] from rfl, rd_M]
end Go.Proofs.YtppkjiihmlphbaaGreatDoor

/- DenSums's plain half. -/
namespace Go.Proofs.YtppkjiihmlphbaaGreatDoor

theorem own_fold (f : Int) (tx : ByteArray) : ownP ⟨7, [f], tx, 0⟩ = txP tx.data.toList := by unfold ownP; simp [hasTP, bdLo, bdHi]
theorem job_fold (tx : ByteArray) (h : txP tx.data.toList = 0) : jobP (jLine ⟨7, [0], tx, 0⟩) = 0 := by
  unfold jobP jLine
  simp [allP, nodeP, inLo, inHi, fromP, fromOne, kindAt, own_src3, own_fold, own_sink, endsP, h]
theorem job_mapn : jobP (jLine ⟨2, [0], txn, 0⟩) = 0 := by
  unfold jobP jLine
  simp [allP, nodeP, inLo, inHi, fromP, fromOne, kindAt, own_src3, own_map, own_sink, endsP, txp_n]
theorem den_line {nd : Nd} {d o : List Rc} (hj : jobP (jLine nd) = 0) (hs : srcs (jLine nd) = 1) (hk : nd.k ≠ 10) (hc : checkP [d] 1 = 0) (hf : flowP (jLine nd) [d] [] = some [d, o, o]) : denE (jLine nd) [d] = 0 ∧ denV (jLine nd) [d] = [linesP o] := by
  unfold denE denV
  rw [hj, hs, hc, hf]
  simp [jLine, sinksP, hk]
theorem den_bad {nd : Nd} {d : List Rc} (hj : jobP (jLine nd) = 0) (hs : srcs (jLine nd) = 1) (hc : ¬ checkP [d] 1 = 0) : ¬ denE (jLine nd) [d] = 0 := by
  unfold denE
  rw [hj, hs]
  simp [hc]
/-- What DenSums leans on. -/
theorem sums_pure (d : List Rc) (hn : ∀ r ∈ d, Rng r.num) : (¬ denE (jLine ⟨2, [0], txn, 0⟩) [d] = 0) ∨ ((denE (jLine ⟨2, [0], txn, 0⟩) [d] = 0 ∧ denV (jLine ⟨2, [0], txn, 0⟩) [d] = [linesP d]) ∧ (∀ tx, txP tx.data.toList = 0 → denE (jLine ⟨7, [0], tx, 0⟩) [d] = 0 ∧ denV (jLine ⟨7, [0], tx, 0⟩) [d] = [linesP (foldR tx d)]) ∧ (∀ r ∈ d, RcOk r) ∧ d.length ≤ 300) := by
  by_cases h1 : checkP [d] 1 = 0
  · right
    have hdp : dataP [d] = 0 := by
      unfold checkP at h1
      simpa using h1
    obtain ⟨ok, le⟩ := data_ok hdp (fun l hl => by rw [List.mem_singleton.1 hl]; exact hn)
    have ok' := ok d (by simp)
    have le' := le d (by simp)
    refine ⟨?_, fun tx ht => ?_, ok', le'⟩
    · have hm := hand_map (nd := ⟨2, [0], txn, 0⟩) rfl (fun r hr => g_map [0] txn 0 (ok' r hr).key) (show d.length ≤ 2000 by omega)
      rw [mapn] at hm
      exact den_line job_mapn rfl (by decide) h1 (flow_line (by decide) rfl ok' (by omega) hm (fun r hr => (ok' r hr).key) (by omega))
    · have hk : ∀ r ∈ d, r.key.size ≤ 40 := fun r hr => (ok' r hr).key
      have hl := fold_len tx hk
      exact den_line (job_fold tx ht) rfl (show (7 : Int) ≠ 10 by decide) h1 (flow_line (show (7 : Int) ≠ 1 by decide) rfl ok' (by omega) (hand_fold tx hk (by omega)) (fold_key tx hk) (by omega))
  · left
    exact den_bad job_mapn rfl h1
theorem look_of (g : ByteArray → List Int) (k : ByteArray) : ∀ (ks : List ByteArray), k ∈ ks → lookP k (ks.map fun x => (x, g x)) = g k
  | [], h => by cases h
  | x :: ks, h => by
    simp only [List.map_cons, lookP]
    by_cases e : x = k
    · subst e; simp
    · have e' : k ∈ ks := by
        rcases List.mem_cons.1 h with h | h
        · exact absurd h.symm e
        · exact h
      simp [e]
      exact look_of g k ks e'
theorem foldN_get (tx : ByteArray) : ∀ (l : List Int) (s : Int) (j : Nat) (h : j < l.length), (foldN tx s l)[j]'(by rw [foldN_len]; exact h) = foldE tx s (l.take (j + 1))
  | [], _, _, h => by simp at h
  | x :: l, s, 0, _ => rfl
  | x :: l, s, j + 1, h => by
    simp only [foldN, List.getElem_cons_succ, List.take_succ_cons, foldE]
    exact foldN_get tx l _ j (by simpa using h)
theorem foldE_take (tx : ByteArray) (l : List Int) (s : Int) (j : Nat) (h : j < l.length) : foldE tx s (l.take (j + 1)) = valP tx l[j] (foldE tx s (l.take j)) := by
  rw [List.take_succ_eq_append_getElem h, foldE_snoc]
def kA : ByteArray := ⟨#[97]⟩
def dFact : List Rc := [⟨kA, 2, 0⟩, ⟨kA, 3, 0⟩]
theorem keys_fact : keysP dFact = [kA] := by
  unfold keysP
  rw [show firstsP dFact = [kA] from by decide]
  simp
theorem sum_fact : linesP (foldR txS dFact) = [(kA, [2, 5])] := by
  rw [fold_lines txS (by decide), keys_fact]
  rw [List.map_cons, List.map_nil]
  rw [show numsP dFact kA = [2, 3] from by decide]
  simp only [foldN, val_S]
  rfl
end Go.Proofs.YtppkjiihmlphbaaGreatDoor

/- weirlaw6.nums. -/
namespace Go.Proofs.YtppkjiihmlphbaaGreatDoor
open Go.RowKit
set_option linter.unusedVariables false

theorem look_pos (k : ByteArray) : ∀ L : List Ln, ∃ p, p ≤ L.length ∧ (∀ i (h : i < L.length), i < p → L[i].1 ≠ k) ∧ (∀ h : p < L.length, L[p].1 = k ∧ lookP k L = L[p].2) ∧ (p = L.length → lookP k L = [])
  | [] => ⟨0, by simp, by simp, by simp, fun _ => rfl⟩
  | x :: r => by
    by_cases h : x.1 = k
    · exact ⟨0, by simp, fun i _ hi => by omega, fun _ => ⟨h, by simp [lookP, h]⟩, fun c => by simp at c⟩
    · obtain ⟨p, h1, h2, h3, h4⟩ := look_pos k r
      refine ⟨p + 1, by simp; omega, fun i hi hp => ?_, fun hp => ?_, fun c => ?_⟩
      · rcases i with _ | i
        · exact h
        · exact h2 i (by simpa using hi) (by omega)
      · have := h3 (by simpa using hp)
        simp [lookP, h]; exact this
      · simp [lookP, h]; exact h4 (by simpa using c)

theorem str_ne {a b : ByteArray} (h : a ≠ b) : (a.toList == b.toList) = false := by
  simp only [beq_eq_false_iff_ne, ne_eq]
  intro c
  rw [ByteArray.toList_eq, ByteArray.toList_eq] at c
  exact h (WideShapes.bytes_inj c)

theorem nums_hit {w : World} {b o : Nat} {L : List Ln} (hL : ∀ (i : Nat) (h : i < L.length), LnAt w b (o + i * 2) L[i]) (ca : Nat) (hl : L.length ≤ 9223372036854775807) {k : ByteArray} {p : Nat} (hp : p < L.length) (h2 : ∀ i (h : i < L.length), i < p → L[i].1 ≠ k) {fa : Option Addr} {z fc : Nat} (p0 : w.cell? ⟨b, o + p * 2, none⟩ = some (.string k)) (p1 : w.cell? ⟨b, o + p * 2 + 1, none⟩ = some (.slice fa z fc)) :
    Calls Tryz.prog 14 #[.slice (some ⟨b, o, none⟩) L.length ca, .string k] w fun e w' => e = .returned (.slice fa z fc) ∧ ∃ n, w' = w.drewN n := by
  have H2 := Lib.hid h2
  clear h2
  go_enter Tryz.func14, Tryz.ntmps14
  go_wp2_with fail
  go_loopw [5] (fun i wr => ∃ j : Nat, j ≤ p ∧ i = .int .i64 j ∧ wr = w) (fun i _ => L.length - (intOf i).toNat)
  case atStart => exact ⟨0, by omega, rfl, rfl⟩
  case round =>
    obtain ⟨j, hj, rfl, rfl⟩ := hrel
    have hi : (j : Int) < L.length := by omega
    by_cases hlt : j < p
    · obtain ⟨c0, _, c5⟩ := hL j (by omega)
      have hne := str_ne (H2.out j (by omega) hlt)
      generalize L[j].1 = x1 at *
      go_wp2
      exact ⟨⟨j + 1, by omega, by go_num, trivial⟩, by simp [intOf]; omega⟩
    · have : j = p := by omega
      subst this
      go_wp2
      go_ret
      exact ⟨rfl, 0, rfl⟩
theorem nums_none {w : World} {la : Option Addr} {L : List Ln} (hL : LnsAt w la L) (ca : Nat) (hl : L.length ≤ 9223372036854775807) {k : ByteArray} (h2 : ∀ i (h : i < L.length), L[i].1 ≠ k) :
    Calls Tryz.prog 14 #[.slice la L.length ca, .string k] w fun e w' => e = .returned (.slice none 0 0) ∧ ∃ n, w' = w.drewN n := by
  have H2 := Lib.hid h2
  clear h2
  go_enter Tryz.func14, Tryz.ntmps14
  go_wp2_with fail
  go_loopw [5] (fun i wr => ∃ j : Nat, j ≤ L.length ∧ i = .int .i64 j ∧ wr = w) (fun i _ => L.length - (intOf i).toNat)
  case atStart => exact ⟨0, by omega, rfl, rfl⟩
  case round =>
    obtain ⟨j, hj, rfl, rfl⟩ := hrel
    by_cases hlt : j < L.length
    · have hi : (j : Int) < L.length := by omega
      rcases hL with hL | ⟨b, o, rfl, hL⟩
      · subst hL; simp at hlt
      obtain ⟨c0, _, c5⟩ := hL j (by omega)
      have hne := str_ne (H2.out j (by omega))
      generalize L[j].1 = x1 at *
      go_wp2
      exact ⟨⟨j + 1, by omega, by go_num, trivial⟩, by simp [intOf]; omega⟩
    · have hi : ¬ (j : Int) < L.length := by omega
      go_wp2
      go_ret
      exact ⟨rfl, 0, rfl⟩
/-- The numbers of a key. -/
theorem nums_any {w : World} {la : Option Addr} {L : List Ln} (hL : LnsAt w la L) (ca : Nat) (hl : L.length ≤ 9223372036854775807) (k : ByteArray) :
    ∃ fa fc, IntsAt w fa (lookP k L) ∧ (lookP k L).length ≤ fc ∧ fc ≤ 9223372036854775807 ∧
      ∀ m, Calls Tryz.prog 14 #[.slice la L.length ca, .string k] (w.drewN m) fun e w' => e = .returned (.slice fa (lookP k L).length fc) ∧ ∃ n, w' = (w.drewN m).drewN n := by
  obtain ⟨p, h1, h2, h3, h4⟩ := look_pos k L
  by_cases hp : p < L.length
  · rcases hL with hL | ⟨b, o, rfl, hL⟩
    · subst hL; simp at hp
    obtain ⟨e1, e2⟩ := h3 hp
    obtain ⟨p0, ⟨fa, fc, p1, p2, p3, p4⟩, p5⟩ := hL p hp
    rw [e1] at p0
    rw [← e2] at p1 p2 p3
    exact ⟨fa, fc, p2, p3, p4, fun m => nums_hit (w := w.drewN m) (fun i hi => (hL i hi).keep (fun _ _ h => h)) ca hl hp h2 p0 p1⟩
  · rw [h4 (by omega)]
    exact ⟨none, 0, .inl rfl, by simp, by omega, fun m => nums_none (w := w.drewN m) (hL.keep (fun _ _ h => h)) ca hl (fun i hi => h2 i hi (by omega))⟩
end Go.Proofs.YtppkjiihmlphbaaGreatDoor

/- weirlaw6.line, whole: a job of one node. -/
namespace Go.Proofs.YtppkjiihmlphbaaGreatDoor
open Go.RowKit
set_option linter.unusedVariables false

set_option maxRecDepth 100000 in
set_option maxHeartbeats 1000000 in
theorem line_any (w : World) (k n : Int) (tx : ByteArray) (hz : tx.size ≤ 9223372036854775807) :
    Calls Tryz.prog 22 #[.agg #[.int .i64 k, .slice none 0 0, .string tx, .int .i64 n]] w fun e w' => ∃ la, e = .returned (.slice la 3 3) ∧ NdsAt w' la (jLine ⟨k, [0], tx, n⟩) ∧ Below w.heap.size w w' := by
  go_enter Tryz.func22, Tryz.ntmps22
  go_wp2_with fail
  go_ret
  have h0 : IntsAt (((w.alloc (.cells #[.int .i64 k, .slice (some ⟨w.heap.size + 1, 0, none⟩) 1 1, .string tx, .int .i64 n] 26)).alloc (.cells #[.int .i64 0] 3)).alloc (.cells #[.int .i64 1] 3)) (some ⟨w.heap.size + 1, 0, none⟩) [0] := by
    have h := ints_new (w.alloc (.cells #[.int .i64 k, .slice (some ⟨w.heap.size + 1, 0, none⟩) 1 1, .string tx, .int .i64 n] 26)) [0] 3
    rw [World.size_alloc] at h
    exact h.keep (Keeps.alloc _ _)
  have h1 : IntsAt (((w.alloc (.cells #[.int .i64 k, .slice (some ⟨w.heap.size + 1, 0, none⟩) 1 1, .string tx, .int .i64 n] 26)).alloc (.cells #[.int .i64 0] 3)).alloc (.cells #[.int .i64 1] 3)) (some ⟨w.heap.size + 1 + 1, 0, none⟩) [1] := by
    have h := ints_new ((w.alloc (.cells #[.int .i64 k, .slice (some ⟨w.heap.size + 1, 0, none⟩) 1 1, .string tx, .int .i64 n] 26)).alloc (.cells #[.int .i64 0] 3)) [1] 3
    rw [World.size_alloc, World.size_alloc] at h
    exact h
  have hn := nodes_new (((w.alloc (.cells #[.int .i64 k, .slice (some ⟨w.heap.size + 1, 0, none⟩) 1 1, .string tx, .int .i64 n] 26)).alloc (.cells #[.int .i64 0] 3)).alloc (.cells #[.int .i64 1] 3)) [((⟨1, [], emp, 3⟩ : Nd), (none : Option Addr), 0), ((⟨k, [0], tx, n⟩ : Nd), some ⟨w.heap.size + 1, 0, none⟩, 1), ((⟨10, [1], emp, 0⟩ : Nd), some ⟨w.heap.size + 1 + 1, 0, none⟩, 1)] 26 (by
    intro x hx
    simp only [List.mem_cons, List.not_mem_nil, or_false] at hx
    rcases hx with rfl | rfl | rfl
    · exact ⟨.inl rfl, (show emp.size ≤ _ by decide), by simp⟩
    · exact ⟨h0, hz, by simp⟩
    · exact ⟨h1, (show emp.size ≤ _ by decide), by simp⟩)
  rw [World.size_alloc, World.size_alloc, World.size_alloc] at hn
  exact ⟨_, rfl, hn, ((((Below.refl _ w).alloc (by simp <;> omega) _).alloc (by simp <;> omega) _).alloc (by simp <;> omega) _).alloc (by simp <;> omega) _⟩

set_option maxRecDepth 100000 in
set_option maxHeartbeats 1000000 in
theorem whole_yes (w : World) (hg : Gd w) (k n : Int) (tx : ByteArray) (hz : tx.size ≤ 9223372036854775807) {aa : Option Addr} {a : List Rc} {ac : Nat} (ha : RcsAt w aa a) (hac : a.length ≤ ac) (ham : ac ≤ 9223372036854775807) (hXa : ∀ r ∈ a, r.key.size ≤ 9223372036854775807 ∧ Rng r.num)
    (L : List Ln) (hE : denE (jLine ⟨k, [0], tx, n⟩) [a] = 0) (hV : denV (jLine ⟨k, [0], tx, n⟩) [a] = [L]) :
    Calls Tryz.prog 13 #[.agg #[.int .i64 k, .slice none 0 0, .string tx, .int .i64 n], .slice aa a.length ac] w fun e w' => ∃ A cap, e = .returned (.tuple #[.slice A L.length cap, .bool true]) ∧ LnsAt w' A L ∧ L.length ≤ cap ∧ Below w.heap.size w w' := by
  have HL := Lib.hid (fun (u : World) => line_any u k n tx hz)
  have HA := Lib.hid (fun (W : World) (hW : Gd W) (la : Option Addr) (h1 : NdsAt W la (jLine ⟨k, [0], tx, n⟩)) (ga : Option Addr) (h2 : RssAt W ga [a]) => all_any hW h1 (Nat.le_refl _) h2 (Nat.le_refl _) (by simp) (fun l hl => by simp at hl; subst hl; omega) (fun l hl r hr => by simp at hl; subst hl; exact (hXa r hr).1) (fun l hl r hr => by simp at hl; subst hl; exact (hXa r hr).2))
  rw [hE, hV] at HA
  have B0 : Below w.heap.size w (w.alloc (.cells #[.int .i64 k, .slice none 0 0, .string tx, .int .i64 n] 26)) := (Below.refl _ w).alloc (Nat.le_refl _) _
  go_enter Tryz.func13, Tryz.ntmps13
  go_wp2_with (go_at_call 22; refine (HL.out _).mono ?_; rintro e w1 ⟨la, rfl, hn, b1⟩; refine Hid.out ?_)
  refine Lib.hid ?_
  have B1 : Below w.heap.size w w1 := B0.trans (b1.mono (by simp))
  have hr := rss_one w1 (ha.keep (Keeps.of B1)) hac 34
  have hn2 := hn.keep (Keeps.alloc w1 (.cells #[.slice aa a.length ac] 34))
  have B2 := B1.alloc B1.size (.cells #[.slice aa a.length ac] 34)
  clear b1 hn HL B0 ha hXa
  go_wp2_with (go_at_call 9; refine (HA.out _ (hg.below B2) _ hn2 _ hr).mono ?_; rintro e w3 he; unfold AllEnd at he; rw [if_neg (by simp)] at he; obtain ⟨Af, cf, rfl, hsf, hcf, b3⟩ := he; refine Hid.out ?_)
  refine Lib.hid ?_
  have B3 : Below w.heap.size w w3 := B2.trans (b3.mono B2.size)
  rcases hsf with hsf | ⟨fb, fo, rfl, hsf⟩
  · simp at hsf
  obtain ⟨f0, d0, q0, r0, s0⟩ := hsf 0 (by simp)
  simp only [List.getElem_cons_zero, Nat.add_zero] at q0 r0 s0
  clear hsf b3 HA hr hn2
  go_wp2_with fail
  go_ret2
  exact ⟨_, _, rfl, r0, s0, B3⟩
set_option maxRecDepth 100000 in
set_option maxHeartbeats 1000000 in
theorem whole_no (w : World) (hg : Gd w) (k n : Int) (tx : ByteArray) (hz : tx.size ≤ 9223372036854775807) {aa : Option Addr} {a : List Rc} {ac : Nat} (ha : RcsAt w aa a) (hac : a.length ≤ ac) (ham : ac ≤ 9223372036854775807) (hXa : ∀ r ∈ a, r.key.size ≤ 9223372036854775807 ∧ Rng r.num)
    (hE : ¬ denE (jLine ⟨k, [0], tx, n⟩) [a] = 0) :
    Calls Tryz.prog 13 #[.agg #[.int .i64 k, .slice none 0 0, .string tx, .int .i64 n], .slice aa a.length ac] w fun e w' => e = .returned (.tuple #[.slice none 0 0, .bool false]) ∧ Below w.heap.size w w' := by
  have HL := Lib.hid (fun (u : World) => line_any u k n tx hz)
  have HA := Lib.hid (fun (W : World) (hW : Gd W) (la : Option Addr) (h1 : NdsAt W la (jLine ⟨k, [0], tx, n⟩)) (ga : Option Addr) (h2 : RssAt W ga [a]) => all_any hW h1 (Nat.le_refl _) h2 (Nat.le_refl _) (by simp) (fun l hl => by simp at hl; subst hl; omega) (fun l hl r hr => by simp at hl; subst hl; exact (hXa r hr).1) (fun l hl r hr => by simp at hl; subst hl; exact (hXa r hr).2))
  have HE := Lib.hid hE
  have B0 : Below w.heap.size w (w.alloc (.cells #[.int .i64 k, .slice none 0 0, .string tx, .int .i64 n] 26)) := (Below.refl _ w).alloc (Nat.le_refl _) _
  clear hE
  generalize denE (jLine ⟨k, [0], tx, n⟩) [a] = E at *
  generalize denV (jLine ⟨k, [0], tx, n⟩) [a] = V at *
  go_enter Tryz.func13, Tryz.ntmps13
  go_wp2_with (go_at_call 22; refine (HL.out _).mono ?_; rintro e w1 ⟨la, rfl, hn, b1⟩; refine Hid.out ?_)
  refine Lib.hid ?_
  have B1 : Below w.heap.size w w1 := B0.trans (b1.mono (by simp))
  have hr := rss_one w1 (ha.keep (Keeps.of B1)) hac 34
  have hn2 := hn.keep (Keeps.alloc w1 (.cells #[.slice aa a.length ac] 34))
  have B2 := B1.alloc B1.size (.cells #[.slice aa a.length ac] 34)
  clear b1 hn HL B0 ha hXa
  go_wp2_with (go_at_call 9; refine (HA.out _ (hg.below B2) _ hn2 _ hr).mono ?_; rintro e w3 he; unfold AllEnd at he; rw [if_pos HE.out, errV_pos HE.out] at he; obtain ⟨rfl, b3⟩ := he; refine Hid.out ?_)
  refine Lib.hid ?_
  have B3 : Below w.heap.size w w3 := B2.trans (b3.mono B2.size)
  clear b3 HA hr hn2
  go_wp2_with fail
  go_ret2
  exact ⟨rfl, B3⟩
end Go.Proofs.YtppkjiihmlphbaaGreatDoor

/- From the rows' condition on the listed variables to the cells that the walks read; a world that meets it. -/
namespace Go.Proofs.YtppkjiihmlphbaaGreatDoor
open Go.ChangeShapes Go.WideShapes Go.RowKit

def laidL : List (String × DataW Unit) := [("math/bits.deBruijn32tab", Rows.laid_math_bits_deBruijn32tab), ("math/bits.deBruijn64tab", Rows.laid_math_bits_deBruijn64tab), ("internal/strconv.uint64pow10", Rows.laid_internal_strconv_uint64pow10), ("strconv.ErrRange", Rows.laid_strconv_ErrRange), ("strconv.ErrSyntax", Rows.laid_strconv_ErrSyntax)]
theorem Tryz.own : ownKnob Tryz.prog.godebug = none := by kernel_rfl
theorem Tryz.cellsES : Tryz.prog.cellsOf 184 = 1 := by kernel_rfl
theorem Tryz.cells9 : Tryz.prog.cellsOf 9 = 1 := by kernel_rfl
theorem Tryz.star : "*" ++ "errors.errorString" = "*errors.errorString" := by decide
theorem Tryz.rowES (u : TypeId) (h : Tryz.prog.typeName? 3 u = some "*errors.errorString") : u = 182 :=
  typeName_ptr_named (nm := "errors.errorString") (by rw [Tryz.star]; kernel_rfl) (by kernel_rfl) (by decide) u (by rw [Tryz.star]; exact h)
theorem Tryz.gES : Tryz.prog.globalNamed "strconv.ErrSyntax" = some 4 := by kernel_rfl
theorem Tryz.gESType : (Tryz.prog.globals[4]?).map (·.type) = some 29 := by kernel_rfl
theorem Tryz.gER : Tryz.prog.globalNamed "strconv.ErrRange" = some 5 := by kernel_rfl
theorem Tryz.gERType : (Tryz.prog.globals[5]?).map (·.type) = some 29 := by kernel_rfl

theorem lt_of_cell {w : World} {p : Addr} {v : Value} (h : w.cell? p = some v) : p.block < w.heap.size := by
  rcases Nat.lt_or_ge p.block w.heap.size with h' | h'
  · exact h'
  · unfold World.cell? at h; rw [Array.getElem?_eq_none h'] at h; cases h

/-- What the condition gives a walk: the two errors' cells. -/
theorem gl_of_laid {W : World} (h : laidMet Tryz.prog laidL W) : Gl W := by
  have h' := h
  obtain ⟨a0, s0, hv0, -, -, -⟩ := laid_sentinel (h'.tail.tail.tail.tail) Tryz.gES Tryz.gESType Tryz.underlying29 Tryz.rowES Tryz.underlying182 Tryz.underlying184 rfl rfl Tryz.underlying9 Tryz.cellsES Tryz.cells9
  obtain ⟨a1, s1, hv1, -, -, -⟩ := laid_sentinel (h'.tail.tail.tail) Tryz.gER Tryz.gERType Tryz.underlying29 Tryz.rowES Tryz.underlying182 Tryz.underlying184 rfl rfl Tryz.underlying9 Tryz.cellsES Tryz.cells9
  have c0 : W.cell? ⟨4, 0, none⟩ = some (.iface 182 (.pointer (some a0))) := by
    have h0 := World.var?_cell Tryz.gES hv0 0; simpa using h0
  have c1 : W.cell? ⟨5, 0, none⟩ = some (.iface 182 (.pointer (some a1))) := by
    have h0 := World.var?_cell Tryz.gER hv1 0; simpa using h0
  have l0 := lt_of_cell c0
  have l1 := lt_of_cell c1
  exact ⟨by simp at l0 l1; omega, ⟨_, c0, .inr ⟨_, _, rfl⟩⟩, ⟨_, c1, .inr ⟨_, _, rfl⟩⟩⟩
def lay2 : Obj → Obj
  | .cells _ t frozen => .cells #[.int .u8 0, .int .u8 1, .int .u8 28, .int .u8 2, .int .u8 29, .int .u8 14, .int .u8 24, .int .u8 3, .int .u8 30, .int .u8 22, .int .u8 20, .int .u8 15, .int .u8 25, .int .u8 17, .int .u8 4, .int .u8 8, .int .u8 31, .int .u8 27, .int .u8 13, .int .u8 23, .int .u8 21, .int .u8 19, .int .u8 16, .int .u8 7, .int .u8 26, .int .u8 12, .int .u8 18, .int .u8 6, .int .u8 11, .int .u8 5, .int .u8 10, .int .u8 9] t frozen
  | o => o
def lay3 : Obj → Obj
  | .cells _ t frozen => .cells #[.int .u8 0, .int .u8 1, .int .u8 56, .int .u8 2, .int .u8 57, .int .u8 49, .int .u8 28, .int .u8 3, .int .u8 61, .int .u8 58, .int .u8 42, .int .u8 50, .int .u8 38, .int .u8 29, .int .u8 17, .int .u8 4, .int .u8 62, .int .u8 47, .int .u8 59, .int .u8 36, .int .u8 45, .int .u8 43, .int .u8 51, .int .u8 22, .int .u8 53, .int .u8 39, .int .u8 33, .int .u8 30, .int .u8 24, .int .u8 18, .int .u8 12, .int .u8 5, .int .u8 63, .int .u8 55, .int .u8 48, .int .u8 27, .int .u8 60, .int .u8 41, .int .u8 37, .int .u8 16, .int .u8 46, .int .u8 35, .int .u8 44, .int .u8 21, .int .u8 52, .int .u8 32, .int .u8 23, .int .u8 11, .int .u8 54, .int .u8 26, .int .u8 40, .int .u8 15, .int .u8 34, .int .u8 20, .int .u8 31, .int .u8 10, .int .u8 25, .int .u8 14, .int .u8 19, .int .u8 9, .int .u8 13, .int .u8 8, .int .u8 7, .int .u8 6] t frozen
  | o => o
def lay1 : Obj → Obj
  | .cells _ t frozen => .cells #[.int .u64 1, .int .u64 10, .int .u64 100, .int .u64 1000, .int .u64 10000, .int .u64 100000, .int .u64 1000000, .int .u64 10000000, .int .u64 100000000, .int .u64 1000000000, .int .u64 10000000000, .int .u64 100000000000, .int .u64 1000000000000, .int .u64 10000000000000, .int .u64 100000000000000, .int .u64 1000000000000000, .int .u64 10000000000000000, .int .u64 100000000000000000, .int .u64 1000000000000000000, .int .u64 10000000000000000000] t frozen
  | o => o
def lay5 (n : Nat) : Obj → Obj
  | .cells _ t frozen => .cells #[.iface 182 (.pointer (some ⟨n + 0, 0, none⟩))] t frozen
  | o => o
def lay4 (n : Nat) : Obj → Obj
  | .cells _ t frozen => .cells #[.iface 182 (.pointer (some ⟨n + 1, 0, none⟩))] t frozen
  | o => o
/-- A world with the listed variables laid; its last blocks are the errors' own. -/
def laidAt (w : World) : World := { w with heap := (((((w.heap).modify 2 (lay2)).modify 3 (lay3)).modify 1 (lay1)).modify 5 (lay5 (w.heap.size - 2))).modify 4 (lay4 (w.heap.size - 2)) }
def ownBlocks : Array Obj := #[.cells #[.string ⟨#[118, 97, 108, 117, 101, 32, 111, 117, 116, 32, 111, 102, 32, 114, 97, 110, 103, 101]⟩] 184, .cells #[.string ⟨#[105, 110, 118, 97, 108, 105, 100, 32, 115, 121, 110, 116, 97, 120]⟩] 184]
theorem laidWorld_met (os : Os) (args : Array Value) : laidMetH Tryz.prog laidL ((laidAt (World.holding Tryz.prog os ⟨ownBlocks, #[], []⟩)).forCall (fun _ _ => 0) ⟨#[], args, []⟩).memory :=
  laidMetH_of_parts (laidMet_of_run' 8 (by kernel_rfl) (by kernel_rfl)) (by kernel_rfl)
end Go.Proofs.YtppkjiihmlphbaaGreatDoor

/- DenSums's walk. -/
namespace Go.Proofs.YtppkjiihmlphbaaGreatDoor
open Go.RowKit
set_option linter.unusedVariables false

theorem ints_at {w : World} {fa : Option Addr} {l : List Int} (h : IntsAt w fa l) (j : Nat) (hj : j < l.length) : ∃ b o, fa = some ⟨b, o, none⟩ ∧ w.cell? ⟨b, o + j, none⟩ = some (.int .i64 l[j]) := by
  rcases h with rfl | ⟨b, o, rfl, hc⟩
  · simp at hj
  · exact ⟨b, o, rfl, hc j hj⟩
end Go.Proofs.YtppkjiihmlphbaaGreatDoor

/- DenCounts's plain half: First, by key. -/
namespace Go.Proofs.YtppkjiihmlphbaaGreatDoor

theorem nums_nil {l : List Rc} {k : ByteArray} : numsP l k = [] ↔ ¬ k ∈ firstsP l := by
  rw [firsts_mem]
  unfold numsP
  rw [List.map_eq_nil_iff, List.filter_eq_nil_iff]
  constructor
  · rintro h ⟨r, hr, e⟩
    exact absurd (by simpa using e) (h r hr)
  · intro h r hr c
    exact h ⟨r, hr, by simpa using c⟩
/-- What First hands on of records. -/
def firR (l : List Rc) : List Rc := (runP ⟨9, [0], emp, 0⟩ (l.map fun x => (x, 0))).1
theorem fir_run : ∀ (R : List Rc), (∀ r ∈ R, r.key.size ≤ 40) →
    let p := runP ⟨9, [0], emp, 0⟩ (R.reverse.map fun x => (x, 0))
    (∀ k, (p.2 k).isSome = true ↔ k ∈ firstsP R.reverse) ∧ (∀ k, numsP p.1 k = (numsP R.reverse k).take 1) ∧ firstsP p.1 = firstsP R.reverse ∧ p.1.length ≤ R.length ∧ ∀ r ∈ p.1, r.key.size ≤ 40 := by
  intro R
  induction R with
  | nil => intro _; exact ⟨fun k => by simp [runP, firstsP], fun k => rfl, rfl, Nat.le_refl _, by simp [runP]⟩
  | cons r R ih =>
    intro h
    obtain ⟨h1, h2, h3, h4, h5⟩ := ih (fun x hx => h x (by simp [hx]))
    have hk := h r (by simp)
    simp only [List.reverse_cons, List.map_append, List.map_cons, List.map_nil]
    rw [runP_snoc]
    generalize runP ⟨9, [0], emp, 0⟩ (R.reverse.map fun x => (x, (0 : Int))) = p at h1 h2 h3 h4 h5
    have es : ∃ s, stepP ⟨9, [0], emp, 0⟩ p (r, 0) = (p.1 ++ (if (p.2 r.key).isSome = true then [] else [r]), fun k => if k = r.key then some s else p.2 k) := by
      refine ⟨(appP ⟨9, [0], emp, 0⟩ ((p.2 r.key).getD hd0) (p.2 r.key).isSome r 0).2.1, ?_⟩
      have e2 : (appP ⟨9, [0], emp, 0⟩ ((p.2 r.key).getD hd0) (p.2 r.key).isSome r 0).2.2 = true := by simp [appP, hasStP]
      have e1 : (appP ⟨9, [0], emp, 0⟩ ((p.2 r.key).getD hd0) (p.2 r.key).isSome r 0).1 = if (p.2 r.key).isSome = true then [] else [r] := by
        by_cases hs : (p.2 r.key).isSome = true
        · simp [appP, hasStP, countedP, hs, cop_zero]
        · simp [appP, hasStP, countedP, hs, cop_one hk]
      unfold stepP
      simp only
      rw [e1, if_pos e2]
    obtain ⟨s, es⟩ := es
    rw [es]
    simp only
    have hin : (p.2 r.key).isSome = true ↔ r.key ∈ firstsP R.reverse := h1 _
    refine ⟨fun k => ?_, fun k => ?_, ?_, ?_, ?_⟩
    · rw [firsts_snoc']
      by_cases e : k = r.key
      · subst e
        by_cases hc : r.key ∈ firstsP R.reverse <;> simp [hc]
      · simp only [e, if_false]
        rw [h1]
        by_cases hc : r.key ∈ firstsP R.reverse <;> simp [hc, e]
    · rw [numsR_snoc]
      by_cases hc : r.key ∈ firstsP R.reverse
      · rw [if_pos (hin.2 hc), List.append_nil, h2]
        by_cases e : r.key = k
        · subst e
          rw [if_pos rfl]
          have hne : numsP R.reverse r.key ≠ [] := fun c => (nums_nil.1 c) hc
          cases hx : numsP R.reverse r.key with
          | nil => exact absurd hx hne
          | cons x l => simp
        · rw [if_neg e, List.append_nil]
      · rw [if_neg (fun c => hc (hin.1 c)), numsR_snoc, h2]
        by_cases e : r.key = k
        · subst e
          rw [if_pos rfl, nums_nil.2 hc]
          rfl
        · rw [if_neg e, List.append_nil, List.append_nil]
    · rw [firsts_snoc']
      by_cases hc : r.key ∈ firstsP R.reverse
      · rw [if_pos (hin.2 hc), if_pos hc, List.append_nil, h3]
      · rw [if_neg (fun c => hc (hin.1 c)), if_neg hc, firsts_snoc', h3, if_neg hc]
    · rw [List.length_append, List.length_cons]
      split <;> simp <;> omega
    · intro x hx
      rcases List.mem_append.1 hx with hx | hx
      · exact h5 x hx
      · split at hx
        · cases hx
        · rw [List.mem_singleton.1 hx]; exact hk
theorem fir_all {l : List Rc} (h : ∀ r ∈ l, r.key.size ≤ 40) : linesP (firR l) = ((keysP l).map fun k => (k, (numsP l k).take 1)) ∧ (firR l).length ≤ l.length ∧ ∀ r ∈ firR l, r.key.size ≤ 40 := by
  have := fir_run l.reverse (fun r hr => h r (by simpa using hr))
  rw [List.reverse_reverse] at this
  obtain ⟨-, h2, h3, h4, h5⟩ := this
  refine ⟨?_, by simpa [firR] using h4, h5⟩
  unfold linesP keysP
  rw [show firstsP (firR l) = firstsP l from h3]
  exact List.map_congr_left (fun k _ => by rw [show numsP (firR l) k = _ from h2 k])

/-- What Copy hands on of records. -/
def copR (n : Nat) (l : List Rc) : List Rc := (runP ⟨5, [0], emp, n⟩ (l.map fun x => (x, 0))).1
theorem cop_run (n : Nat) (hn : n ≤ 3) : ∀ (R : List Rc), (∀ r ∈ R, r.key.size ≤ 40) →
    let p := runP ⟨5, [0], emp, n⟩ (R.reverse.map fun x => (x, 0))
    (∀ k, (numsP p.1 k).length = n * (numsP R.reverse k).length) ∧ p.1.length = n * R.length ∧ ∀ r ∈ p.1, r.key.size ≤ 40 := by
  intro R
  induction R with
  | nil => intro _; exact ⟨fun k => by simp [runP, numsP], by simp [runP], by simp [runP]⟩
  | cons r R ih =>
    intro h
    obtain ⟨h1, h2, h3⟩ := ih (fun x hx => h x (by simp [hx]))
    have hk := h r (by simp)
    simp only [List.reverse_cons, List.map_append, List.map_cons, List.map_nil]
    rw [runP_snoc]
    generalize runP ⟨5, [0], emp, n⟩ (R.reverse.map fun x => (x, (0 : Int))) = p at h1 h2 h3
    have es : (stepP ⟨5, [0], emp, n⟩ p (r, 0)).1 = p.1 ++ List.replicate n r := by
      unfold stepP appP
      simp [hasStP, turnedP, copP]
      intro c
      omega
    rw [es]
    refine ⟨fun k => ?_, ?_, ?_⟩
    · rw [numsR_snoc]
      have e1 : numsP (p.1 ++ List.replicate n r) k = numsP p.1 k ++ if r.key = k then List.replicate n r.num else [] := by
        unfold numsP
        rw [List.filter_append, List.map_append]
        by_cases e : r.key = k <;> simp [e]
      rw [e1, List.length_append, List.length_append, h1, Nat.mul_add]
      by_cases e : r.key = k <;> simp [e]
    · rw [List.length_append, List.length_replicate, h2, List.length_cons, Nat.mul_add, Nat.mul_one]
    · intro x hx
      rcases List.mem_append.1 hx with hx | hx
      · exact h3 x hx
      · rw [List.eq_of_mem_replicate hx]; exact hk
end Go.Proofs.YtppkjiihmlphbaaGreatDoor

/- DenCounts's plain half: Every, by key. -/
namespace Go.Proofs.YtppkjiihmlphbaaGreatDoor

def evA (n : Int) (s : Int × Int) (x : Int) : Int × Int := if fullP s.1 n = true then (0, 0) else (wr (s.1 + 1), wr (s.2 + x))
def evO (n : Int) (s : Int × Int) (x : Int) : List Int := if fullP s.1 n = true then [wr (s.2 + x)] else []
/-- What Every makes of one key's numbers. -/
def evN (n : Int) : Int × Int → List Int → List Int
  | _, [] => []
  | s, x :: r => evO n s x ++ evN n (evA n s x) r
def evE (n : Int) : Int × Int → List Int → Int × Int
  | s, [] => s
  | s, x :: r => evE n (evA n s x) r
theorem evN_snoc (n : Int) : ∀ (l : List Int) (s : Int × Int) (x : Int), evN n s (l ++ [x]) = evN n s l ++ evO n (evE n s l) x
  | [], s, x => by simp [evN, evE]
  | y :: l, s, x => by simp only [List.cons_append, evN, evE, evN_snoc n l, List.append_assoc]
theorem evE_snoc (n : Int) : ∀ (l : List Int) (s : Int × Int) (x : Int), evE n s (l ++ [x]) = evA n (evE n s l) x
  | [], _, _ => rfl
  | y :: l, s, x => by simp only [List.cons_append, evE, evE_snoc n l]
def evR (n : Int) (l : List Rc) : List Rc := (runP ⟨8, [0], emp, n⟩ (l.map fun x => (x, 0))).1
theorem ev_run (n : Int) : ∀ (R : List Rc), (∀ r ∈ R, r.key.size ≤ 40) →
    let p := runP ⟨8, [0], emp, n⟩ (R.reverse.map fun x => (x, 0))
    (∀ k, (((p.2 k).getD hd0).a, ((p.2 k).getD hd0).b) = evE n (0, 0) (numsP R.reverse k)) ∧ (∀ k, numsP p.1 k = evN n (0, 0) (numsP R.reverse k)) ∧ p.1.length ≤ R.length ∧ ∀ r ∈ p.1, r.key.size ≤ 40 := by
  intro R
  induction R with
  | nil => intro _; exact ⟨fun k => rfl, fun k => rfl, Nat.le_refl _, by simp [runP]⟩
  | cons r R ih =>
    intro h
    obtain ⟨h1, h2, h4, h5⟩ := ih (fun x hx => h x (by simp [hx]))
    have hk := h r (by simp)
    simp only [List.reverse_cons, List.map_append, List.map_cons, List.map_nil]
    rw [runP_snoc]
    generalize runP ⟨8, [0], emp, n⟩ (R.reverse.map fun x => (x, (0 : Int))) = p at h1 h2 h4 h5
    have hst : (if (p.2 r.key).isSome then (p.2 r.key).getD hd0 else hd0) = (p.2 r.key).getD hd0 := by
      cases p.2 r.key <;> simp
    have hs := h1 r.key
    generalize hS : (p.2 r.key).getD hd0 = S at hs hst
    have es : stepP ⟨8, [0], emp, n⟩ p (r, 0) = (p.1 ++ (evO n (S.a, S.b) r.num).map (fun v => ⟨r.key, v, r.time⟩), fun k => if k = r.key then some ⟨0, r.key, (evA n (S.a, S.b) r.num).1, (evA n (S.a, S.b) r.num).2⟩ else p.2 k) := by
      unfold stepP appP
      simp only [hasStP, hS, hst]
      by_cases hf : fullP S.a n = true
      · simp [countedP, evO, evA, hf]
        exact cop_one hk
      · simp [countedP, evO, evA, hf, cop_zero]
    rw [es]
    simp only
    refine ⟨fun k => ?_, fun k => ?_, ?_, ?_⟩
    · rw [numsR_snoc]
      by_cases e : k = r.key
      · subst e
        simp only [if_true, Option.getD_some]
        rw [evE_snoc, ← hs]
      · have e' : ¬ r.key = k := fun h => e h.symm
        simp only [e, e', if_false, List.append_nil]
        exact h1 k
    · rw [numsR_snoc]
      have e1 : ∀ L : List Int, numsP (p.1 ++ L.map (fun v => (⟨r.key, v, r.time⟩ : Rc))) k = numsP p.1 k ++ if r.key = k then L else [] := by
        intro L
        unfold numsP
        rw [List.filter_append, List.map_append]
        by_cases e : r.key = k
        · simp [e, List.filter_map, Function.comp_def]
        · simp [e, List.filter_map, Function.comp_def]
      rw [e1, h2]
      by_cases e : r.key = k
      · subst e
        rw [if_pos rfl, if_pos rfl, evN_snoc, ← hs]
      · rw [if_neg e, if_neg e, List.append_nil, List.append_nil]
    · rw [List.length_append, List.length_cons, List.length_map]
      unfold evO
      split <;> simp <;> omega
    · intro x hx
      rcases List.mem_append.1 hx with hx | hx
      · exact h5 x hx
      · obtain ⟨v, -, rfl⟩ := List.mem_map.1 hx
        exact hk
theorem ev_all (n : Int) {l : List Rc} (h : ∀ r ∈ l, r.key.size ≤ 40) : (∀ k, numsP (evR n l) k = evN n (0, 0) (numsP l k)) ∧ (evR n l).length ≤ l.length ∧ ∀ r ∈ evR n l, r.key.size ≤ 40 := by
  have := ev_run n l.reverse (fun r hr => h r (by simpa using hr))
  rw [List.reverse_reverse, List.length_reverse] at this
  exact this.2
/-- Numbers added up, each time wrapped. -/
def sw (l : List Int) : Int := l.foldl (fun s x => wr (s + x)) 0
theorem ev_less {n : Nat} (h1 : 1 ≤ n) (h3 : n ≤ 3) {P : List Int} (h : P.length < n) : evN n (0, 0) P = [] := by
  obtain rfl | rfl | rfl : n = 1 ∨ n = 2 ∨ n = 3 := by omega
  · match P, h with
    | [], _ => rfl
  · match P, h with
    | [], _ => rfl
    | [x], _ => rfl
  · match P, h with
    | [], _ => rfl
    | [x], _ => rfl
    | [x, y], _ => rfl
theorem ev_more {n : Nat} (h1 : 1 ≤ n) (h3 : n ≤ 3) {P : List Int} (h : n ≤ P.length) : evN n (0, 0) P = sw (P.take n) :: evN n (0, 0) (P.drop n) := by
  obtain rfl | rfl | rfl : n = 1 ∨ n = 2 ∨ n = 3 := by omega
  · match P, h with
    | x :: r, _ => rfl
  · match P, h with
    | x :: y :: r, _ => rfl
  · match P, h with
    | x :: y :: z :: r, _ => rfl
theorem ev_len {n : Nat} (h1 : 1 ≤ n) (h3 : n ≤ 3) : ∀ (m : Nat) (P : List Int), P.length ≤ m → (evN n (0, 0) P).length = P.length / n
  | m, P, hm => by
    by_cases h : n ≤ P.length
    · cases m with
      | zero => omega
      | succ m =>
        rw [ev_more h1 h3 h, List.length_cons, ev_len h1 h3 m (P.drop n) (by rw [List.length_drop]; omega), List.length_drop, Nat.div_eq P.length n, if_pos ⟨h1, h⟩]
    · rw [ev_less h1 h3 (by omega), Nat.div_eq_of_lt (by omega)]; rfl
theorem ev_get {n : Nat} (h1 : 1 ≤ n) (h3 : n ≤ 3) : ∀ (k : Nat) (P : List Int), (k + 1) * n ≤ P.length → (evN n (0, 0) P)[k]? = some (sw ((P.drop (k * n)).take n))
  | 0, P, h => by
    rw [ev_more h1 h3 (by omega)]
    simp
  | k + 1, P, h => by
    have e : (k + 1 + 1) * n = (k + 1) * n + n := by rw [Nat.add_mul (k + 1), Nat.one_mul]
    rw [ev_more h1 h3 (by omega), List.getElem?_cons_succ, ev_get h1 h3 k (P.drop n) (by rw [List.length_drop]; omega), List.drop_drop]
    congr 4
    rw [Nat.add_mul, Nat.one_mul, Nat.add_comm]
end Go.Proofs.YtppkjiihmlphbaaGreatDoor

/- DenCounts's plain half, put together. -/
namespace Go.Proofs.YtppkjiihmlphbaaGreatDoor

theorem tag_le {nd : Nd} {l o : List Rc} (ho : (runP nd (l.map fun x => (x, 0))).1 = o) (hl : o.length ≤ 2000) : handP nd [l] = some o := by
  unfold handP
  rw [tag_one, ho, if_neg (by omega)]
theorem cop_all (n : Nat) (hn : n ≤ 3) {l : List Rc} (h : ∀ r ∈ l, r.key.size ≤ 40) : (∀ k, (numsP (copR n l) k).length = n * (numsP l k).length) ∧ (copR n l).length = n * l.length ∧ ∀ r ∈ copR n l, r.key.size ≤ 40 := by
  have := cop_run n hn l.reverse (fun r hr => h r (by simpa using hr))
  rw [List.reverse_reverse, List.length_reverse] at this
  exact this
theorem own_first (f : Int) : ownP ⟨9, [f], emp, 0⟩ = 0 := by unfold ownP; simp [hasNP, hasTP, bdLo, bdHi, emp]; rfl
theorem job_first : jobP (jLine ⟨9, [0], emp, 0⟩) = 0 := by
  unfold jobP jLine
  simp [allP, nodeP, inLo, inHi, fromP, fromOne, kindAt, own_src3, own_first, own_sink, endsP]
theorem job_copy {n : Nat} (h1 : 1 ≤ n) (h3 : n ≤ 3) : jobP (jLine ⟨5, [0], emp, n⟩) = 0 := by
  have : ∀ f : Int, ownP ⟨5, [f], emp, n⟩ = 0 := fun f => by
    obtain rfl | rfl | rfl : n = 1 ∨ n = 2 ∨ n = 3 := by omega
    all_goals (unfold ownP; simp [hasNP, hasTP, bdLo, bdHi, emp]; rfl)
  unfold jobP jLine
  simp [allP, nodeP, inLo, inHi, fromP, fromOne, kindAt, own_src3, this, own_sink, endsP]
theorem job_every {n : Nat} (h1 : 1 ≤ n) (h3 : n ≤ 3) : jobP (jLine ⟨8, [0], emp, n⟩) = 0 := by
  have : ∀ f : Int, ownP ⟨8, [f], emp, n⟩ = 0 := fun f => by
    obtain rfl | rfl | rfl : n = 1 ∨ n = 2 ∨ n = 3 := by omega
    all_goals (unfold ownP; simp [hasNP, hasTP, bdLo, bdHi, emp]; rfl)
  unfold jobP jLine
  simp [allP, nodeP, inLo, inHi, fromP, fromOne, kindAt, own_src3, this, own_sink, endsP]
/-- What DenCounts leans on. -/
theorem counts_pure (d : List Rc) (hn : ∀ r ∈ d, Rng r.num) (hE : denE (jLine ⟨2, [0], txn, 0⟩) [d] = 0) : denV (jLine ⟨2, [0], txn, 0⟩) [d] = [linesP d] ∧
    (denE (jLine ⟨9, [0], emp, 0⟩) [d] = 0 ∧ denV (jLine ⟨9, [0], emp, 0⟩) [d] = [(keysP d).map fun k => (k, (numsP d k).take 1)]) ∧
    (∀ n : Nat, 1 ≤ n → n ≤ 3 → (denE (jLine ⟨5, [0], emp, n⟩) [d] = 0 ∧ denV (jLine ⟨5, [0], emp, n⟩) [d] = [linesP (copR n d)]) ∧ (denE (jLine ⟨8, [0], emp, n⟩) [d] = 0 ∧ denV (jLine ⟨8, [0], emp, n⟩) [d] = [linesP (evR n d)]) ∧
      (copR n d).length ≤ 900 ∧ (evR n d).length ≤ 300 ∧ (∀ k, (numsP (copR n d) k).length = n * (numsP d k).length) ∧ (∀ k, numsP (evR n d) k = evN n (0, 0) (numsP d k))) ∧ d.length ≤ 300 := by
  by_cases h1 : checkP [d] 1 = 0
  · have hdp : dataP [d] = 0 := by
      unfold checkP at h1
      simpa using h1
    obtain ⟨ok, le⟩ := data_ok hdp (fun l hl => by rw [List.mem_singleton.1 hl]; exact hn)
    have ok' := ok d (by simp)
    have le' := le d (by simp)
    have hk : ∀ r ∈ d, r.key.size ≤ 40 := fun r hr => (ok' r hr).key
    have hP : denV (jLine ⟨2, [0], txn, 0⟩) [d] = [linesP d] := by
      rcases sums_pure d hn with h | h
      · exact absurd hE h
      · exact h.1.2
    refine ⟨hP, ?_, fun n n1 n3 => ?_, le'⟩
    · obtain ⟨f1, f2, f3⟩ := fir_all hk
      rw [← f1]
      exact den_line job_first rfl (show (9 : Int) ≠ 10 by decide) h1 (flow_line (show (9 : Int) ≠ 1 by decide) rfl ok' (by omega) (tag_le (o := firR d) rfl (by omega)) f3 (by omega))
    · obtain ⟨c1, c2, c3⟩ := cop_all n n3 hk
      obtain ⟨e1, e2, e3⟩ := ev_all (n : Int) hk
      have hc : (copR n d).length ≤ 900 := by
        rw [c2]
        exact Nat.le_trans (Nat.mul_le_mul n3 le') (by decide)
      exact ⟨den_line (job_copy n1 n3) rfl (show (5 : Int) ≠ 10 by decide) h1 (flow_line (show (5 : Int) ≠ 1 by decide) rfl ok' (by omega) (tag_le (o := copR n d) rfl (by omega)) c3 (by omega)),
        den_line (job_every n1 n3) rfl (show (8 : Int) ≠ 10 by decide) h1 (flow_line (show (8 : Int) ≠ 1 by decide) rfl ok' (by omega) (tag_le (o := evR n d) rfl (by omega)) e3 (by omega)), hc, by omega, c1, e1⟩
  · exact absurd hE (den_bad job_mapn rfl h1)
theorem fir_fact : (keysP dFact).map (fun k => (k, (numsP dFact k).take 1)) = [(kA, [2])] := by
  rw [keys_fact, List.map_cons, List.map_nil]
  rw [show numsP dFact kA = [2, 3] from by decide]
  rfl
end Go.Proofs.YtppkjiihmlphbaaGreatDoor

/- DenCounts's walk. -/
namespace Go.Proofs.YtppkjiihmlphbaaGreatDoor
open Go.RowKit
set_option linter.unusedVariables false

theorem sw_next (P : List Int) (lo e : Nat) (h1 : lo ≤ e) (h2 : e < P.length) : sw ((P.drop lo).take (e + 1 - lo)) = wr (sw ((P.drop lo).take (e - lo)) + P[e]) := by
  have h3 : e - lo < (P.drop lo).length := by simp; omega
  have h4 : e + 1 - lo = (e - lo) + 1 := by omega
  rw [h4, List.take_succ_eq_append_getElem h3]
  unfold sw
  rw [List.foldl_append]
  simp [show lo + (e - lo) = e by omega]

set_option maxRecDepth 100000 in
set_option maxHeartbeats 4000000 in
theorem counts_walk (w : World) (hg : Gd w) {aa : Option Addr} {a : List Rc} {ac : Nat} (ha : RcsAt w aa a) (hac : a.length ≤ ac) (ham : ac ≤ 9223372036854775807) (hXa : ∀ r ∈ a, r.key.size ≤ 9223372036854775807 ∧ Rng r.num) (n : Int) :
    Calls Tryz.prog 6 #[.slice aa a.length ac, .int .i64 n] w fun e w' => e = .returned (.bool true) ∧ Below w.heap.size w w' := by
  have ra : ∀ W, Below w.heap.size w W → RcsAt W aa a := fun W hw => ha.keep (Keeps.of hw)
  have hp := counts_pure a (fun r hr => (hXa r hr).2)
  have hff : denE (jLine ⟨9, [0], emp, 0⟩) [dFact] = 0 ∧ denV (jLine ⟨9, [0], emp, 0⟩) [dFact] = [[(kA, [2])]] := by
    have h := counts_pure dFact (by intro r hr; simp [dFact] at hr; rcases hr with rfl | rfl <;> (unfold Rng; decide)) (by decide +kernel)
    have := h.2.1
    rw [fir_fact] at this
    exact this
  have rf : RcsAt (w.alloc (.cells #[.string ⟨#[97]⟩, .int .i64 2, .int .i64 0, .string ⟨#[97]⟩, .int .i64 3, .int .i64 0] 33)) (some ⟨w.heap.size, 0, none⟩) dFact :=
    .inr ⟨_, 0, rfl, fun j u hu => by rw [Nat.zero_add]; exact cell_new _ _ _ (by simpa [rcells, dFact, kA] using hu)⟩
  have B0 : Below w.heap.size w (w.alloc (.cells #[.string ⟨#[97]⟩, .int .i64 2, .int .i64 0, .string ⟨#[97]⟩, .int .i64 3, .int .i64 0] 33)) := (Below.refl _ w).alloc (Nat.le_refl _) _
  have HF := Lib.hid (whole_yes _ (hg.below B0) 9 0 emp (by decide) rf (Nat.le_refl _) (by decide) (by intro r hr; simp [dFact] at hr; rcases hr with rfl | rfl <;> (unfold Rng; decide)) _ hff.1 hff.2)
  have HP := Lib.hid hp
  have HX := Lib.hid hXa
  clear hp hff rf ha hXa
  go_enter Tryz.func6, Tryz.ntmps6
  go_wp2_with (go_at_call 13; refine HF.out.mono ?_; rintro e w1 ⟨A1, c1, rfl, hl1, hc1, b1⟩; refine Hid.out ?_)
  refine Lib.hid ?_
  have B1 : Below w.heap.size w w1 := B0.trans (b1.mono (by simp))
  obtain ⟨fb, fo, rfl, hl2⟩ : ∃ b o, A1 = some ⟨b, o, none⟩ ∧ ∀ (i : Nat) (h : i < [(kA, ([2] : List Int))].length), LnAt w1 b (o + i * 2) [(kA, ([2] : List Int))][i] := by
    rcases hl1 with h | h
    · simp at h
    · exact h
  obtain ⟨q0, ⟨fa, fc, q1, q2, q3, q4⟩, -⟩ := hl2 0 (by simp)
  simp only [List.getElem_cons_zero, Nat.zero_mul, Nat.add_zero, List.length_cons, List.length_nil, Nat.zero_add] at q0 q1 q2 q3
  obtain ⟨gb, go, rfl, q5⟩ := ints_at q2 0 (by simp)
  simp only [List.getElem_cons_zero, Nat.add_zero] at q5
  clear HF b1 hl1 hl2 q2 B0
  by_cases hE : denE (jLine ⟨2, [0], txn, 0⟩) [a] = 0
  · obtain ⟨hV, hF, hN, hle⟩ := HP.out hE
    have hkl : (keysP a).length ≤ 300 := by
      have h1 := lines_len a
      have h2 := firsts_len a
      rw [show linesP a = (keysP a).map fun k => (k, numsP a k) from rfl, List.length_map] at h1
      omega
    have hkn : ∀ k ∈ keysP a, numsP a k ≠ [] := fun k hk c => nums_nil.1 c (List.mem_mergeSort.1 (show k ∈ (firstsP a).mergeSort _ from hk))
    have hpl : ∀ k, (numsP a k).length ≤ 300 := fun k => by
      unfold numsP
      rw [List.length_map]
      exact Nat.le_trans (List.length_filter_le _ _) hle
    rw [show linesP a = (keysP a).map fun k => (k, numsP a k) from rfl] at hV
    have HW1 := Lib.hid (fun W (hW : Below w.heap.size w W) => whole_yes W (hg.below hW) 2 0 txn (by decide) (ra _ hW) hac ham HX.out _ hE hV)
    have HW2 := Lib.hid (fun W (hW : Below w.heap.size w W) => whole_yes W (hg.below hW) 9 0 emp (by decide) (ra _ hW) hac ham HX.out _ hF.1 hF.2)
    by_cases hr : 1 ≤ n ∧ n ≤ 3
    · as_aux_lemma =>
        obtain ⟨u, rfl⟩ : ∃ u : Nat, n = u := ⟨n.toNat, by omega⟩
        have u1 : 1 ≤ u := by omega
        have u3 : u ≤ 3 := by omega
        obtain ⟨hC, hV2, hcl, hel, hcn, hen⟩ := hN u u1 u3
        have HW3 := Lib.hid (fun W (hW : Below w.heap.size w W) => whole_yes W (hg.below hW) 5 u emp (by decide) (ra _ hW) hac ham HX.out _ hC.1 hC.2)
        have HW4 := Lib.hid (fun W (hW : Below w.heap.size w W) => whole_yes W (hg.below hW) 8 u emp (by decide) (ra _ hW) hac ham HX.out _ hV2.1 hV2.2)
        have hll : (linesP (copR u a)).length ≤ 900 ∧ (linesP (evR u a)).length ≤ 300 := by
          rw [lines_len, lines_len]
          exact ⟨Nat.le_trans (firsts_len _) hcl, Nat.le_trans (firsts_len _) hel⟩
        have HLC := Lib.hid (fun k => (look_lines (copR u a) k))
        have HLE := Lib.hid (fun k => (look_lines (evR u a) k).trans (hen k))
        have HCN := Lib.hid hcn
        obtain ⟨hlc, hle'⟩ := hll
        have HKN := Lib.hid hkn
        have HPL := Lib.hid hpl
        clear HP hE hV hF hN hle hC hV2 hcl hel hcn hen HX ra hkn hpl
        generalize keysP a = ks at *
        simp only [List.length_map] at HW1 HW2
        have r1 : ¬ (u : Int) < 1 := by omega
        have r2 : ¬ (3 : Int) < u := by omega
        go_wp2_with (go_at_call 13; refine (HW1.out w1 B1).mono ?_; rintro e w2 ⟨A2, c2, rfl, n2, m2, b2⟩; refine Hid.out ?_)
        refine Lib.hid ?_
        have B2 : Below w.heap.size w w2 := B1.trans (b2.mono B1.size)
        go_wp2_with (go_at_call 13; refine (HW2.out w2 B2).mono ?_; rintro e w3 ⟨A3, c3, rfl, n3, m3, b3⟩; refine Hid.out ?_)
        refine Lib.hid ?_
        have B3 : Below w.heap.size w w3 := B2.trans (b3.mono B2.size)
        go_wp2_with (go_at_call 13; refine (HW3.out w3 B3).mono ?_; rintro e w4 ⟨A4, c4, rfl, n4, m4, b4⟩; refine Hid.out ?_)
        refine Lib.hid ?_
        have B4 : Below w.heap.size w w4 := B3.trans (b4.mono B3.size)
        go_wp2_with (go_at_call 13; refine (HW4.out w4 B4).mono ?_; rintro e w5 ⟨A5, c5, rfl, n5, m5, b5⟩; refine Hid.out ?_)
        refine Lib.hid ?_
        have B5 : Below w.heap.size w w5 := B4.trans (b5.mono B4.size)
        have k2 := ((n2.keep (Keeps.of b3)).keep (Keeps.of b4)).keep (Keeps.of b5)
        have k3 := (n3.keep (Keeps.of b4)).keep (Keeps.of b5)
        have k4 := n4.keep (Keeps.of b5)
        clear HW1 HW2 HW3 HW4 n2 n3 n4 b2 b3 b4 b5 q0 q1 q5
        go_wp2_with fail
        go_loopw [14] (fun i wr => ∃ j : Nat, j ≤ ks.length ∧ i = .int .i64 j ∧ ∃ m, wr = w5.drewN m) (fun i _ => ks.length - (intOf i).toNat)
        case atStart => exact ⟨0, by omega, rfl, 0, rfl⟩
        case round =>
          obtain ⟨j, hj, rfl, m, rfl⟩ := hrel
          by_cases hlt : j < ks.length
          · as_aux_lemma =>
              have hjI : (j : Int) < (ks.length : Int) := by omega
              have hkm : ks[j] ∈ ks := List.getElem_mem hlt
              obtain ⟨b1, o1, rfl, hln⟩ : ∃ b o, A2 = some ⟨b, o, none⟩ ∧ LnAt w5 b (o + j * 2) (ks[j], numsP a ks[j]) := by
                rcases k2 with h | ⟨b, o, e, h⟩
                · have := congrArg List.length h
                  rw [List.length_map, List.length_nil] at this
                  omega
                · have := h j (by simpa using hlt)
                  simp only [List.getElem_map] at this
                  exact ⟨b, o, e, this⟩
              obtain ⟨x0, ⟨fa2, fc2, x1, x2, x3, x4⟩, x5⟩ := hln
              obtain ⟨ga, gc, g1, g2, g3, g4⟩ := nums_any k3 c3 (by simp; omega) ks[j]
              obtain ⟨ha2, hc2, h1, h2, h3, h4⟩ := nums_any k4 c4 (by omega) ks[j]
              obtain ⟨sa, sc, s1, s2, s3, s4⟩ := nums_any n5 c5 (by omega) ks[j]
              rw [look_of (fun k => (numsP a k).take 1) ks[j] ks hkm] at g1 g2 g4
              rw [HLC.out] at h1 h2 h4
              rw [HCN.out] at h2 h4
              rw [HLE.out] at s1 s2 s4
              have hne := HKN.out _ hkm
              have hpl := HPL.out ks[j]
              simp only [List.length_map] at g4
              simp only at x0 x1 x2 x3 x5
              have hS := ev_len u1 u3 _ (numsP a ks[j]) (Nat.le_refl _)
              have hG := fun k => ev_get u1 u3 k (numsP a ks[j])
              rw [hS] at s2 s4
              have HN3 := Lib.hid (fun mm => (g4 mm).mono (fun e w' ⟨he, n, hn⟩ => (⟨he, mm + n, by rw [hn, World.drewN_drewN]⟩ : e = _ ∧ ∃ n, w' = w5.drewN n)))
              have HN4 := Lib.hid (fun mm => (h4 mm).mono (fun e w' ⟨he, n, hn⟩ => (⟨he, mm + n, by rw [hn, World.drewN_drewN]⟩ : e = _ ∧ ∃ n, w' = w5.drewN n)))
              have HN5 := Lib.hid (fun mm => (s4 mm).mono (fun e w' ⟨he, n, hn⟩ => (⟨he, mm + n, by rw [hn, World.drewN_drewN]⟩ : e = _ ∧ ∃ n, w' = w5.drewN n)))
              clear g4 h4 s4 k2 k3 k4 n5 HLC HCN HLE HKN HPL h1
              generalize ks[j] = key at *
              generalize numsP a key = P at *
              generalize evN u (0, 0) P = S at *
              obtain ⟨p0, P', rfl⟩ : ∃ p0 P', P = p0 :: P' := by
                cases P with
                | nil => exact absurd rfl hne
                | cons x l => exact ⟨x, l, rfl⟩
              rw [show (p0 :: P').take 1 = [p0] from rfl] at HN3 g1 g2
              obtain ⟨pb, po, rfl, pc⟩ := ints_at x2 0 (by simp)
              obtain ⟨qb, qo, rfl, qc⟩ := ints_at g1 0 (by simp)
              simp only [List.getElem_cons_zero, Nat.add_zero] at pc qc
              simp only [List.length_singleton] at HN3 g2
              generalize hP : p0 :: P' = P at *
              have hP1 : 1 ≤ P.length := by rw [← hP]; simp
              have HPP := Lib.hid hP
              clear hP hne g1
              have y0 : (w5.drewN m).cell? ⟨b1, o1 + j * 2, none⟩ = some (.string key) := x0
              have y1 : (w5.drewN m).cell? ⟨b1, o1 + j * 2 + 1, none⟩ = some (.slice (some ⟨pb, po, none⟩) P.length fc2) := x1
              go_wp2_with (go_at_call 14; refine (HN3.out m).mono ?_; rintro e v1 ⟨rfl, m1, rfl⟩; refine Hid.out ?_)
              refine Lib.hid ?_
              have z0 : (w5.drewN m1).cell? ⟨b1, o1 + j * 2, none⟩ = some (.string key) := x0
              go_wp2_with (go_at_call 14; refine (HN4.out m1).mono ?_; rintro e v2 ⟨rfl, m6, rfl⟩; refine Hid.out ?_)
              refine Lib.hid ?_
              have z1 : (w5.drewN m6).cell? ⟨b1, o1 + j * 2, none⟩ = some (.string key) := x0
              go_wp2_with (go_at_call 14; refine (HN5.out m6).mono ?_; rintro e v3 ⟨rfl, m7, rfl⟩; refine Hid.out ?_)
              refine Lib.hid ?_
              have HB := Lib.hid (show ∃ mm, w5.drewN m7 = w5.drewN mm from ⟨m7, rfl⟩)
              have i2 : IntsAt (w5.drewN m7) (some ⟨pb, po, none⟩) P := x2.keep (fun _ _ h => h)
              have is : IntsAt (w5.drewN m7) sa S := s1.keep (fun _ _ h => h)
              have pc' : (w5.drewN m7).cell? ⟨pb, po, none⟩ = some (.int .i64 p0) := pc
              have qc' : (w5.drewN m7).cell? ⟨qb, qo, none⟩ = some (.int .i64 p0) := qc
              clear y0 y1 z0 z1 x0 x1 x2 s1 HN3 HN4 HN5 pc qc
              generalize w5.drewN m7 = wq at *
              have hp0 : (0 : Int) < (P.length : Int) := by omega
              have hu0 : ¬ (u : Int) = 0 := by omega
              have hmul : wrap64 ((u : Int) * (P.length : Int)) = ((u * P.length : Nat) : Int) := by
                obtain rfl | rfl | rfl : u = 1 ∨ u = 2 ∨ u = 3 := by omega
                all_goals (unfold wrap64; simp; omega)
              have hdiv : Int.tdiv (P.length : Int) (u : Int) = ((P.length / u : Nat) : Int) := by
                rw [Int.tdiv_eq_ediv_of_nonneg (by omega)]
                simp
              have hwd : wrap64 ((P.length : Int) / (u : Int)) = (P.length : Int) / (u : Int) := by
                have h9 := Nat.div_le_self P.length u
                have h8 : (P.length : Int) / (u : Int) = ((P.length / u : Nat) : Int) := by simp
                rw [h8]; unfold wrap64; omega
              have HI2 := Lib.hid i2
              have HIS := Lib.hid is
              have HS0 := Lib.hid hS
              have HG0 := Lib.hid hG
              clear i2 is hS hG hlt hkm hj g2 h2 s2 g3 h3 s3 x3 x4 x5 hlc hle' m2 m3 m4 m5 hac ham B1 q4 q3 hc1 B2 B3 B4
              go_wp2_with fail
              go_quiet (fail)
              have HB2 := Lib.hid (show ∃ mm, wq.drewN nq = w5.drewN mm by obtain ⟨mm, h⟩ := HB.out; exact ⟨mm + nq, by rw [h, World.drewN_drewN]⟩)
              have i2 := HI2.out
              have is := HIS.out
              have hS := HS0.out
              have hG := HG0.out
              have i3 : IntsAt (wq.drewN nq) (some ⟨pb, po, none⟩) P := i2.keep (fun _ _ h => h)
              have is3 : IntsAt (wq.drewN nq) sa S := is.keep (fun _ _ h => h)
              have hVd : ∀ t, t < P.length / u → (t + 1) * u ≤ P.length := fun t ht => (Nat.le_div_iff_mul_le (by omega)).1 ht
              have hVl : P.length / u ≤ 300 := Nat.le_trans (Nat.div_le_self _ _) hpl
              have HSL := Lib.hid hS
              have HVD := Lib.hid hVd
              have HGG := Lib.hid hG
              clear i2 is pc' qc' HB hS hVd hG HI2 HIS HS0 HG0 hp0 hu0 hmul hdiv hwd
              generalize wq.drewN nq = wv at *
              generalize P.length / u = V at *
              go_wp2_with fail
              go_loop [19] (fun k => ∃ t : Nat, t ≤ V ∧ k = .int .i64 t) (fun k => V - (intOf k).toNat)
              case atStart => exact ⟨0, by omega, rfl⟩
              case round =>
                obtain ⟨t, ht, rfl⟩ := hrel
                by_cases htl : t < V
                · as_aux_lemma =>
                    have htI : (t : Int) < (V : Int) := by omega
                    have htu := HVD.out t htl
                    have hst := HGG.out t htu
                    obtain ⟨lo, hlo⟩ : ∃ lo, lo = t * u := ⟨_, rfl⟩
                    obtain ⟨hi, hhi⟩ : ∃ hi, hi = lo + u := ⟨_, rfl⟩
                    have hmm : (t + 1) * u = hi := by rw [hhi, hlo, Nat.add_mul, Nat.one_mul]
                    have hui : u = hi - lo := by omega
                    rw [← hlo] at hst
                    have hst2 : S[t]? = some (sw ((P.drop lo).take (hi - lo))) := by rw [← hui]; exact hst
                    rw [hmm] at htu
                    have e1 : (t : Int) * (u : Int) = (lo : Int) := by rw [hlo]; simp
                    have e2 : ((t : Int) + 1) * (u : Int) = (hi : Int) := by rw [← hmm]; simp
                    have hm1 : wrap64 ((t : Int) * (u : Int)) = (lo : Int) := by rw [e1]; unfold wrap64; omega
                    have hm2 : wrap64 (((t : Int) + 1) * (u : Int)) = (hi : Int) := by rw [e2]; unfold wrap64; omega
                    have hlh : lo ≤ hi := hhi ▸ Nat.le_add_right lo u
                    have HST := Lib.hid hst2
                    clear hst hst2 hlo hhi hmm hui e1 e2
                    go_wp2_with fail
                    go_loop [20, 21] (fun s jj => ∃ e : Nat, lo ≤ e ∧ e ≤ hi ∧ jj = .int .i64 e ∧ s = .int .i64 (sw ((P.drop lo).take (e - lo)))) (fun _ jj => hi - (intOf jj).toNat)
                    case atStart => exact ⟨lo, Nat.le_refl _, hlh, rfl, by rw [Nat.sub_self]; rfl⟩
                    case round =>
                      obtain ⟨e, he1, he2, rfl, rfl⟩ := hrel
                      by_cases hel : e < hi
                      · as_aux_lemma =>
                          have eI : (e : Int) < (hi : Int) := by omega
                          have eL : (e : Int) < (P.length : Int) := by omega
                          obtain ⟨pb', po', hpe, pc⟩ := ints_at i3 e (by omega)
                          cases hpe
                          have HS := Lib.hid (sw_next P lo e he1 (by omega))
                          generalize sw ((P.drop lo).take (e - lo)) = s0 at *
                          generalize P[e] = pe at *
                          go_wp2_with fail
                          go_round
                          case rel => exact ⟨e + 1, by omega, by omega, by go_num, by rw [HS.out, ← wr_eq]⟩
                          case measure => simp [intOf]; omega
                      · as_aux_lemma =>
                          have eI : ¬ (e : Int) < (hi : Int) := by omega
                          obtain rfl : hi = e := by omega
                          obtain ⟨sb, so, rfl, sc'⟩ := ints_at is3 t (by rw [HSL.out]; exact htl)
                          have hsv : S[t]'(by rw [HSL.out]; exact htl) = sw ((P.drop lo).take (hi - lo)) := by
                            have := HST.out
                            rw [List.getElem?_eq_getElem (by rw [HSL.out]; exact htl)] at this
                            injection this
                          rw [hsv] at sc'
                          clear hsv HST
                          generalize sw ((P.drop lo).take (hi - lo)) = z at *
                          go_wp2_with fail
                          go_round
                          case rel => exact ⟨t + 1, by omega, by go_num⟩
                          case measure => simp [intOf]; omega
                · as_aux_lemma =>
                    have htI : ¬ (t : Int) < (V : Int) := by omega
                    go_wp2_with fail
                    go_roundw
                    case rel => exact ⟨j + 1, by omega, by go_num, HB2.out⟩
                    case measure => simp [intOf]; omega
          · have hjI : ¬ (j : Int) < (ks.length : Int) := by omega
            go_wp2_with fail
            go_ret
            exact ⟨rfl, below_drewN B5 _⟩
    · as_aux_lemma =>
        have HR : n < 1 ∨ 3 < n := by omega
        clear HP hF hN
        go_wp2_with (go_at_call 13; refine (HW1.out w1 B1).mono ?_; rintro e w2 ⟨A2, c2, rfl, n2, m2, b2⟩; refine Hid.out ?_)
        refine Lib.hid ?_
        have B2 : Below w.heap.size w w2 := B1.trans (b2.mono B1.size)
        rcases HR with hr1 | hr1
        · go_wp2_with fail
          go_ret
          exact ⟨rfl, B2⟩
        · have hr2 : ¬ n < 1 := by omega
          go_wp2_with fail
          go_ret
          exact ⟨rfl, B2⟩
  · as_aux_lemma =>
      have HW := whole_no w1 (hg.below B1) 2 0 txn (by decide) (ra _ B1) hac ham HX.out hE
      clear HP
      go_wp2_with (go_at_call 13; refine HW.mono ?_; rintro e w2 ⟨rfl, b2⟩)
      go_ret
      exact ⟨rfl, B1.trans (b2.mono B1.size)⟩
end Go.Proofs.YtppkjiihmlphbaaGreatDoor

