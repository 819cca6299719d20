/- A store of keys. Plain mathematics. -/
import Derived.Test.YtckjcjoheeobgaaGreatDoorPureTb
namespace Go.Proofs.YtckjcjoheeobgaaGreatDoor

/-- The entry of a key. -/
def atK (l : List En) (k : List UInt8) : Option En := l.find? (fun e => decide (kl e = k))
theorem atK_mem {l : List En} {k : List UInt8} {e : En} (h : atK l k = some e) : e ∈ l ∧ kl e = k :=
  ⟨List.mem_of_find?_eq_some h, by simpa using List.find?_some h⟩
theorem atK_none {l : List En} {k : List UInt8} : atK l k = none ↔ ∀ e ∈ l, kl e ≠ k := by
  unfold atK; simp
theorem mem_at {l : List En} (h : Ris l) (e : En) : e ∈ l ↔ atK l (kl e) = some e := (find_ris h e).symm
theorem atK_ris {l : List En} (h : Ris l) {k : List UInt8} {e : En} : atK l k = some e ↔ e ∈ l ∧ kl e = k := by
  constructor
  · exact atK_mem
  · rintro ⟨h1, rfl⟩; exact (mem_at h e).1 h1
theorem ris_at {a b : List En} (ha : Ris a) (hb : Ris b) (h : ∀ k, atK a k = atK b k) : a = b :=
  ris_ext ha hb (fun e => by rw [mem_at ha, mem_at hb, h])
theorem atK_app (a b : List En) (k : List UInt8) : atK (a ++ b) k = (atK a k).or (atK b k) := by
  unfold atK; rw [List.find?_append]
theorem atK_cons (x : En) (l : List En) (k : List UInt8) : atK (x :: l) k = if kl x = k then some x else atK l k := by
  unfold atK; rw [List.find?_cons]
  by_cases h : kl x = k <;> simp [h]
theorem atK_ext {a : Option En} {l : List En} (h : Ris l) {k : List UInt8} (h1 : ∀ e, a = some e ↔ e ∈ l ∧ kl e = k) : a = atK l k := by
  cases ha : a with
  | none =>
    cases hb : atK l k with
    | none => rfl
    | some e => have := (h1 e).2 (atK_mem hb); rw [ha] at this; cases this
  | some e => exact ((atK_ris h).2 ((h1 e).1 ha)).symm
theorem atK_filter {l : List En} (h : Ris l) (p : En → Bool) (k : List UInt8) : atK (l.filter p) k = (atK l k).filter p := by
  symm
  apply atK_ext (ris_filter h p)
  intro e
  rw [List.mem_filter, Option.filter_eq_some_iff, atK_ris h]
  constructor
  · rintro ⟨⟨h1, h2⟩, h3⟩; exact ⟨⟨h1, h3⟩, h2⟩
  · rintro ⟨⟨h1, h3⟩, h2⟩; exact ⟨⟨h1, h2⟩, h3⟩

/-- An entry among some that rise, in the place of one with its key. -/
def setE : List En → En → List En
  | [], e => [e]
  | x :: l, e => if kl x < kl e then x :: setE l e else if kl e < kl x then e :: x :: l else e :: l
theorem setE_mem {x e : En} : ∀ {l : List En}, Ris l → (x ∈ setE l e ↔ x = e ∨ (x ∈ l ∧ kl x ≠ kl e))
  | [], _ => by simp [setE]
  | y :: l, h => by
    have hr := List.pairwise_cons.1 h
    have ih := setE_mem (x := x) (e := e) hr.2
    unfold setE
    split
    · rename_i h1
      rw [List.mem_cons, ih, List.mem_cons]
      constructor
      · rintro (h2 | h2 | ⟨h2, h3⟩)
        · exact .inr ⟨.inl h2, by rw [h2]; intro h3; rw [h3] at h1; exact kl_irrefl _ h1⟩
        · exact .inl h2
        · exact .inr ⟨.inr h2, h3⟩
      · rintro (h2 | ⟨h2 | h2, h3⟩)
        · exact .inr (.inl h2)
        · exact .inl h2
        · exact .inr (.inr ⟨h2, h3⟩)
    · rename_i h1
      have hl : ∀ z ∈ l, ¬ kl z < kl e → kl e ≤ kl z := fun z _ h => List.not_lt.1 h
      split
      · rename_i h2
        rw [List.mem_cons, List.mem_cons]
        constructor
        · rintro (h3 | h3 | h3)
          · exact .inl h3
          · exact .inr ⟨.inl h3, by rw [h3]; intro h4; rw [h4] at h2; exact kl_irrefl _ h2⟩
          · refine .inr ⟨.inr h3, fun h4 => ?_⟩
            have := kl_trans h2 (hr.1 x h3)
            rw [h4] at this; exact kl_irrefl _ this
        · rintro (h3 | ⟨h3 | h3, -⟩)
          · exact .inl h3
          · exact .inr (.inl h3)
          · exact .inr (.inr h3)
      · rename_i h2
        have hye : kl y = kl e := by
          rcases kl_tri (kl y) (kl e) with h | h | h
          · exact absurd h h1
          · exact h
          · exact absurd h h2
        rw [List.mem_cons, List.mem_cons]
        constructor
        · rintro (h3 | h3)
          · exact .inl h3
          · refine .inr ⟨.inr h3, fun h4 => ?_⟩
            have := hr.1 x h3
            rw [hye, h4] at this; exact kl_irrefl _ this
        · rintro (h3 | ⟨h3 | h3, h4⟩)
          · exact .inl h3
          · rw [h3] at h4; exact absurd hye h4
          · exact .inr h3
theorem setE_ris {e : En} : ∀ {l : List En}, Ris l → Ris (setE l e)
  | [], _ => by simp [setE, Ris]
  | y :: l, h => by
    have hr := List.pairwise_cons.1 h
    have ih := setE_ris (e := e) hr.2
    unfold setE
    split
    · rename_i h1
      refine List.pairwise_cons.2 ⟨fun z hz => ?_, ih⟩
      rcases (setE_mem hr.2).1 hz with h2 | ⟨h2, -⟩
      · rw [h2]; exact h1
      · exact hr.1 z h2
    · rename_i h1
      split
      · rename_i h2
        refine List.pairwise_cons.2 ⟨fun z hz => ?_, h⟩
        rcases List.mem_cons.1 hz with rfl | hz
        · exact h2
        · exact kl_trans h2 (hr.1 z hz)
      · rename_i h2
        have hye : kl y = kl e := by
          rcases kl_tri (kl y) (kl e) with h | h | h
          · exact absurd h h1
          · exact h
          · exact absurd h h2
        refine List.pairwise_cons.2 ⟨fun z hz => ?_, hr.2⟩
        rw [← hye]; exact hr.1 z hz
theorem setE_at {l : List En} (h : Ris l) (e : En) (k : List UInt8) : atK (setE l e) k = if k = kl e then some e else atK l k := by
  symm
  apply atK_ext (setE_ris h)
  intro x
  rw [setE_mem h]
  by_cases hk : k = kl e
  · rw [if_pos hk]
    constructor
    · intro h1; injection h1 with h1; subst h1; exact ⟨.inl rfl, hk.symm⟩
    · rintro ⟨h1 | ⟨h1, h2⟩, h3⟩
      · rw [h1]
      · rw [h3, hk] at h2; exact absurd rfl h2
  · rw [if_neg hk, atK_ris h]
    constructor
    · rintro ⟨h1, h2⟩; exact ⟨.inr ⟨h1, by rw [h2]; exact hk⟩, h2⟩
    · rintro ⟨h1 | ⟨h1, -⟩, h3⟩
      · rw [h1] at h3; exact absurd h3.symm hk
      · exact ⟨h1, h3⟩
theorem setE_len : ∀ {l : List En} (_ : Ris l) (e : En), (setE l e).length = if (atK l (kl e)).isSome = true then l.length else l.length + 1
  | [], _, e => by simp [setE, atK]
  | y :: l, h, e => by
    have hr := List.pairwise_cons.1 h
    have ih := setE_len hr.2 e
    rw [atK_cons]
    unfold setE
    split
    · rename_i h1
      rw [if_neg (show ¬ kl y = kl e from fun h2 => by rw [h2] at h1; exact kl_irrefl _ h1), List.length_cons, ih, List.length_cons]
      split <;> rfl
    · rename_i h1
      split
      · rename_i h2
        rw [if_neg (show ¬ kl y = kl e from fun h3 => by rw [h3] at h2; exact kl_irrefl _ h2)]
        have : atK l (kl e) = none := atK_none.2 (fun z hz h3 => by
          have := kl_trans h2 (hr.1 z hz)
          rw [h3] at this; exact kl_irrefl _ this)
        rw [this]; simp
      · rename_i h2
        have hye : kl y = kl e := by
          rcases kl_tri (kl y) (kl e) with h | h | h
          · exact absurd h h1
          · exact h
          · exact absurd h h2
        rw [if_pos hye]; simp

/-- A store: its limit, the last entry of each key, the fresh keys, its tables, the oldest first. -/
structure Sto where
  lim : Nat
  all : List En
  fr : List (List UInt8)
  tabs : List (List En)
def hasK (l : List En) (k : List UInt8) : Bool := (atK l k).isSome
def frE (s : Sto) : List En := s.all.filter (fun e => decide (kl e ∈ s.fr))
def flushS (s : Sto) : Sto := if s.fr = [] then s else ⟨s.lim, s.all, [], s.tabs ++ [frE s]⟩
def addF (fr : List (List UInt8)) (k : List UInt8) : List (List UInt8) := if k ∈ fr then fr else fr ++ [k]
def setR (s : Sto) (e : En) : Sto := ⟨s.lim, setE s.all e, addF s.fr (kl e), s.tabs⟩
def setS (s : Sto) (e : En) : Sto := if (setR s e).fr.length < s.lim then setR s e else flushS (setR s e)
def setErr (s : Sto) (e : En) : Nat := if badEn e = true then 1 else if hasK s.all (kl e) = false ∧ 400 ≤ s.all.length then 4 else 0
def putS (s : Sto) (e : En) : Sto := if setErr s e = 0 then setS s e else s
def livE (l : List En) : List En := l.filter fun e => !e.dead
def compS (s : Sto) : Sto := ⟨s.lim, livE s.all, [], if livE s.all = [] then [] else [livE s.all]⟩
def newS (lim : Nat) : Sto := ⟨lim, [], [], []⟩
structure SOk (s : Sto) : Prop where
  lo : 1 ≤ s.lim
  hi : s.lim ≤ 400
  ris : Ris s.all
  len : s.all.length ≤ 400
  fine : ∀ e ∈ s.all, Fine e
  nd : s.fr.Nodup
  has : ∀ k ∈ s.fr, hasK s.all k = true
  tab : ∀ t ∈ s.tabs, entsE t = 0
/-- What is not fresh is as the newest table has it. -/
def Cov (s : Sto) : Prop := ∀ k, k ∉ s.fr → atK s.tabs.reverse.flatten k = atK s.all k
theorem new_ok {n : Nat} (h1 : 1 ≤ n) (h2 : n ≤ 400) : SOk (newS n) := ⟨h1, h2, List.Pairwise.nil, by simp [newS], by simp [newS], by simp [newS], by simp [newS], by simp [newS]⟩
theorem new_cov (n : Nat) : Cov (newS n) := fun _ _ => rfl
theorem fr_ents {s : Sto} (h : SOk s) (p : En → Bool) : entsE (s.all.filter p) = 0 :=
  ents_ok (Nat.le_trans (List.length_filter_le _ _) h.len) (fun e he => h.fine e (List.mem_filter.1 he).1) (ris_filter h.ris _)
theorem flush_ok {s : Sto} (h : SOk s) : SOk (flushS s) := by
  unfold flushS
  split
  · exact h
  · refine ⟨h.lo, h.hi, h.ris, h.len, h.fine, by simp, by simp, fun t ht => ?_⟩
    rcases List.mem_append.1 ht with h1 | h1
    · exact h.tab t h1
    · simp at h1; subst h1; exact fr_ents h _
theorem flush_fr (s : Sto) : (flushS s).fr = [] := by
  unfold flushS; split
  · assumption
  · rfl
theorem flush_all (s : Sto) : (flushS s).all = s.all := by unfold flushS; split <;> rfl
theorem flush_lim (s : Sto) : (flushS s).lim = s.lim := by unfold flushS; split <;> rfl
theorem flush_tabs (s : Sto) : (flushS s).tabs.length = if s.fr = [] then s.tabs.length else s.tabs.length + 1 := by
  unfold flushS; split <;> simp
theorem flush_cov {s : Sto} (h : SOk s) (c : Cov s) : Cov (flushS s) := by
  unfold flushS
  split
  · exact c
  · intro k _
    show atK (s.tabs ++ [frE s]).reverse.flatten k = atK s.all k
    rw [List.reverse_append, List.reverse_singleton, List.singleton_append, List.flatten_cons, atK_app]
    unfold frE
    rw [atK_filter h.ris]
    by_cases hk : k ∈ s.fr
    · have h1 := h.has k hk
      unfold hasK at h1
      obtain ⟨e, he⟩ := Option.isSome_iff_exists.1 h1
      rw [he]
      have := (atK_mem he).2
      simp [Option.filter, this, hk]
    · have h1 : (atK s.all k).filter (fun e => decide (kl e ∈ s.fr)) = none := by
        cases he : atK s.all k with
        | none => rfl
        | some e =>
          have := (atK_mem he).2
          simp [Option.filter, this, hk]
      rw [h1, Option.none_or]
      exact c k hk
theorem addF_mem {fr : List (List UInt8)} {k x : List UInt8} : x ∈ addF fr k ↔ x = k ∨ x ∈ fr := by
  unfold addF; split
  · rename_i h; constructor
    · exact .inr
    · rintro (rfl | h1)
      · exact h
      · exact h1
  · simp [or_comm]
theorem addF_nd {fr : List (List UInt8)} {k : List UInt8} (h : fr.Nodup) : (addF fr k).Nodup := by
  unfold addF; split
  · exact h
  · rename_i hk
    rw [List.nodup_append]
    exact ⟨h, by simp, fun a ha b hb e => by simp at hb; subst hb; subst e; exact hk ha⟩
theorem addF_ne (fr : List (List UInt8)) (k : List UInt8) : addF fr k ≠ [] := fun h => by
  have := (addF_mem (fr := fr) (k := k) (x := k)).2 (.inl rfl)
  rw [h] at this; cases this
theorem setErr_0 {s : Sto} {e : En} (h : setErr s e = 0) : badEn e = false ∧ (hasK s.all (kl e) = true ∨ s.all.length < 400) := by
  unfold setErr at h
  split at h
  · cases h
  · rename_i h1
    split at h
    · cases h
    · rename_i h2
      refine ⟨by simpa using h1, ?_⟩
      cases hk : hasK s.all (kl e) with
      | true => exact .inl rfl
      | false => exact .inr (by by_cases h3 : s.all.length < 400; exact h3; exact absurd ⟨hk, by omega⟩ h2)
theorem setR_ok {s : Sto} (h : SOk s) {e : En} (he : setErr s e = 0) (hs : shapeE e = false) : SOk (setR s e) := by
  obtain ⟨h1, h2⟩ := setErr_0 he
  refine ⟨h.lo, h.hi, setE_ris h.ris, ?_, fun x hx => ?_, addF_nd h.nd, fun k hk => ?_, h.tab⟩
  · show (setE s.all e).length ≤ 400
    rw [setE_len h.ris]
    have := h.len
    unfold hasK at h2
    split
    · exact this
    · rename_i h3
      rcases h2 with h2 | h2
      · exact absurd h2 h3
      · omega
  · rcases (setE_mem h.ris).1 hx with rfl | ⟨h3, -⟩
    · exact ⟨h1, hs⟩
    · exact h.fine x h3
  · show hasK (setE s.all e) k = true
    unfold hasK
    rw [setE_at h.ris]
    rcases addF_mem.1 hk with rfl | h3
    · simp
    · split
      · rfl
      · exact h.has k h3
theorem setR_cov {s : Sto} (h : SOk s) (c : Cov s) (e : En) : Cov (setR s e) := fun k hk => by
  have h1 : k ≠ kl e ∧ k ∉ s.fr := ⟨fun h => hk (addF_mem.2 (.inl h)), fun h => hk (addF_mem.2 (.inr h))⟩
  show atK s.tabs.reverse.flatten k = atK (setE s.all e) k
  rw [setE_at h.ris, if_neg h1.1]
  exact c k h1.2
theorem set_ok {s : Sto} (h : SOk s) {e : En} (he : setErr s e = 0) (hs : shapeE e = false) : SOk (setS s e) := by
  unfold setS; split
  · exact setR_ok h he hs
  · exact flush_ok (setR_ok h he hs)
theorem set_cov {s : Sto} (h : SOk s) (c : Cov s) {e : En} (he : setErr s e = 0) (hs : shapeE e = false) : Cov (setS s e) := by
  unfold setS; split
  · exact setR_cov h c e
  · exact flush_cov (setR_ok h he hs) (setR_cov h c e)
theorem set_all (s : Sto) (e : En) : (setS s e).all = setE s.all e := by
  unfold setS; split
  · rfl
  · rw [flush_all]; rfl
theorem set_lim (s : Sto) (e : En) : (setS s e).lim = s.lim := by
  unfold setS; split
  · rfl
  · rw [flush_lim]; rfl
theorem set_tabs (s : Sto) (e : En) : (setS s e).tabs.length ≤ s.tabs.length + 1 := by
  unfold setS; split
  · show s.tabs.length ≤ _; omega
  · rw [flush_tabs]
    have e : (setR s e).tabs = s.tabs := rfl
    rw [e]; split <;> omega
theorem put_ok {s : Sto} (h : SOk s) {e : En} (hs : shapeE e = false) : SOk (putS s e) := by
  unfold putS; split
  · rename_i he; exact set_ok h he hs
  · exact h
theorem put_cov {s : Sto} (h : SOk s) (c : Cov s) {e : En} (hs : shapeE e = false) : Cov (putS s e) := by
  unfold putS; split
  · rename_i he; exact set_cov h c he hs
  · exact c
theorem put_tabs (s : Sto) (e : En) : (putS s e).tabs.length ≤ s.tabs.length + 1 := by
  unfold putS; split
  · exact set_tabs s e
  · omega
theorem put_lim (s : Sto) (e : En) : (putS s e).lim = s.lim := by
  unfold putS; split
  · exact set_lim s e
  · rfl
theorem liv_ents {s : Sto} (h : SOk s) : entsE (livE s.all) = 0 := fr_ents h _
theorem comp_ok {s : Sto} (h : SOk s) : SOk (compS s) := by
  refine ⟨h.lo, h.hi, ris_filter h.ris _, Nat.le_trans (List.length_filter_le _ _) h.len, fun e he => h.fine e (List.mem_filter.1 he).1, by simp [compS], by simp [compS], fun t ht => ?_⟩
  simp only [compS] at ht
  split at ht
  · cases ht
  · simp at ht; subst ht; exact liv_ents h
theorem comp_cov {s : Sto} (_ : SOk s) : Cov (compS s) := fun k _ => by
  show atK (if livE s.all = [] then [] else [livE s.all]).reverse.flatten k = atK (livE s.all) k
  split
  · rename_i h; rw [h]; rfl
  · simp
theorem comp_tabs (s : Sto) : (compS s).tabs.length ≤ 1 := by
  show (if livE s.all = [] then [] else [livE s.all]).length ≤ 1
  split <;> simp

/-- What tables make, the oldest first. -/
def addA (a t : List En) : List En := t.foldl setE a
def openA (ts : List (List En)) : List En := ts.foldl addA []
theorem addA_ris : ∀ {t a : List En}, Ris a → Ris (addA a t)
  | [], _, h => h
  | _ :: t, _, h => addA_ris (t := t) (setE_ris h)
theorem addA_at : ∀ {t : List En} {a : List En}, Ris a → Ris t → ∀ k, atK (addA a t) k = (atK t k).or (atK a k)
  | [], a, _, _, k => by simp [addA, atK]
  | x :: t, a, ha, ht, k => by
    have hr := List.pairwise_cons.1 ht
    have := addA_at (setE_ris (e := x) ha) hr.2 k
    show atK (addA (setE a x) t) k = _
    rw [this, setE_at ha, atK_cons]
    by_cases hk : k = kl x
    · subst hk
      have h1 : atK t (kl x) = none := atK_none.2 (fun z hz h2 => by
        have := hr.1 z hz
        rw [h2] at this; exact kl_irrefl _ this)
      rw [h1]; simp
    · rw [if_neg hk, if_neg (fun h => hk h.symm)]
theorem openA_gen : ∀ (ts : List (List En)) (a : List En), Ris a → (∀ t ∈ ts, Ris t) → Ris (ts.foldl addA a) ∧ ∀ k, atK (ts.foldl addA a) k = (atK ts.reverse.flatten k).or (atK a k)
  | [], a, ha, _ => ⟨ha, fun k => by simp [atK]⟩
  | t :: ts, a, ha, ht => by
    obtain ⟨h1, h2⟩ := openA_gen ts (addA a t) (addA_ris ha) (fun x hx => ht x (by simp [hx]))
    refine ⟨h1, fun k => ?_⟩
    rw [List.foldl_cons, h2, addA_at ha (ht t (by simp)), List.reverse_cons, List.flatten_append, atK_app]
    simp [Option.or_assoc]
theorem openA_eq {s : Sto} (h : SOk s) (c : Cov s) (hf : s.fr = []) : openA s.tabs = s.all := by
  obtain ⟨h1, h2⟩ := openA_gen s.tabs [] List.Pairwise.nil (fun t ht => (ents_zero (h.tab t ht)).2.2)
  refine ris_at h1 h.ris (fun k => ?_)
  unfold openA
  rw [h2 k, c k (by rw [hf]; simp)]
  simp [atK]
def openS (lim : Nat) (ts : List (List En)) : Sto := ⟨lim, openA ts, [], ts⟩
theorem openA_fine : ∀ (ts : List (List En)) (a : List En), Ris a → (∀ e ∈ a, Fine e) → (∀ t ∈ ts, entsE t = 0) → ∀ e ∈ ts.foldl addA a, Fine e
  | [], _, _, h, _ => h
  | t :: ts, a, hr, h, ht => by
    have key : ∀ (l a : List En), Ris a → (∀ e ∈ a, Fine e) → (∀ e ∈ l, Fine e) → ∀ e ∈ addA a l, Fine e := by
      intro l
      induction l with
      | nil => intro a _ h _; exact h
      | cons x l ih =>
        intro a hr h hx
        refine ih (setE a x) (setE_ris hr) (fun e he => ?_) (fun e he => hx e (by simp [he]))
        rcases (setE_mem hr).1 he with rfl | ⟨h1, -⟩
        · exact hx _ (by simp)
        · exact h e h1
    exact openA_fine ts (addA a t) (addA_ris hr) (key t a hr h (ents_zero (ht t (by simp))).2.1) (fun x hx => ht x (by simp [hx]))
theorem open_ok {lim : Nat} {ts : List (List En)} (h1 : 1 ≤ lim) (h2 : lim ≤ 400) (ht : ∀ t ∈ ts, entsE t = 0) (hl : (openA ts).length ≤ 400) : SOk (openS lim ts) :=
  ⟨h1, h2, (openA_gen ts [] List.Pairwise.nil (fun t h => (ents_zero (ht t h)).2.2)).1, hl, openA_fine ts [] List.Pairwise.nil (by simp) ht, by simp [openS], by simp [openS], ht⟩

/-- What Get says. -/
def getE (s : Sto) (k : List UInt8) : Nat := match atK s.all k with
  | none => 6
  | some e => if e.dead = true then 6 else 0
def getV (s : Sto) (k : List UInt8) : ByteArray := match atK s.all k with
  | none => ⟨#[]⟩
  | some e => if e.dead = true then ⟨#[]⟩ else e.val
def scanS (s : Sto) (low high : List UInt8) : List En := partE (livE s.all) low high
theorem part_all (l : List En) : partE l [] [] = l := by
  unfold partE
  rw [List.filter_eq_self]
  intro e _; simp
theorem scan_all (s : Sto) : scanS s [] [] = livE s.all := part_all _
end Go.Proofs.YtckjcjoheeobgaaGreatDoor
