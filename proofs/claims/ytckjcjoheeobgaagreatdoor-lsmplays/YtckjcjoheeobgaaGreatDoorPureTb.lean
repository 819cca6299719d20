/- Tables put together, and their parts. Plain mathematics. -/
import Derived.Test.YtckjcjoheeobgaaGreatDoorPureTa
namespace Go.Proofs.YtckjcjoheeobgaaGreatDoor

/-- An entry among some that rise, unless its key is there. -/
def putE : List En → En → List En
  | [], e => [e]
  | x :: l, e => if kl x < kl e then x :: putE l e else if kl e < kl x then e :: x :: l else x :: l
/-- Of each key the first. -/
def firE (l : List En) : List En := l.foldl putE []
def mergeP (ls : List (List En)) (dead : Bool) : List En := if dead = true then firE ls.flatten else (firE ls.flatten).filter fun e => !e.dead
def partE (l : List En) (low high : List UInt8) : List En := l.filter fun e => !decide (kl e < low) && (high.isEmpty || decide (kl e < high))

theorem putE_mem {x e : En} : ∀ {l : List En}, Ris l → (x ∈ putE l e ↔ x ∈ l ∨ (x = e ∧ ∀ y ∈ l, kl y ≠ kl e))
  | [], _ => by simp [putE]
  | y :: l, h => by
    have hr := List.pairwise_cons.1 h
    have ih := putE_mem (x := x) (e := e) hr.2
    unfold putE
    split
    · rename_i h1
      rw [List.mem_cons, ih, List.mem_cons]
      constructor
      · rintro (h2 | h2 | ⟨h2, h3⟩)
        · exact .inl (.inl h2)
        · exact .inl (.inr h2)
        · refine .inr ⟨h2, fun z hz => ?_⟩
          rcases List.mem_cons.1 hz with rfl | hz
          · intro e'; rw [e'] at h1; exact kl_irrefl _ h1
          · exact h3 z hz
      · rintro ((h2 | h2) | ⟨h2, h3⟩)
        · exact .inl h2
        · exact .inr (.inl h2)
        · exact .inr (.inr ⟨h2, fun z hz => h3 z (List.mem_cons_of_mem _ hz)⟩)
    · rename_i h1
      split
      · rename_i h2
        rw [List.mem_cons]
        constructor
        · rintro (h3 | h3)
          · refine .inr ⟨h3, fun z hz => ?_⟩
            rcases List.mem_cons.1 hz with rfl | hz
            · intro e'; rw [e'] at h2; exact kl_irrefl _ h2
            · intro e'
              have := kl_trans h2 (hr.1 z hz)
              rw [e'] at this; exact kl_irrefl _ this
          · exact .inl h3
        · rintro (h3 | ⟨h3, -⟩)
          · exact .inr h3
          · exact .inl h3
      · rename_i h2
        constructor
        · exact fun h3 => .inl h3
        · rintro (h3 | ⟨-, h3⟩)
          · exact h3
          · have := h3 y (by simp)
            rcases kl_tri (kl y) (kl e) with h4 | h4 | h4
            · exact absurd h4 h1
            · exact absurd h4 this
            · exact absurd h4 h2
theorem putE_ris {e : En} : ∀ {l : List En}, Ris l → Ris (putE l e)
  | [], _ => by simp [putE, Ris]
  | y :: l, h => by
    have hr := List.pairwise_cons.1 h
    have ih := putE_ris (e := e) hr.2
    unfold putE
    split
    · rename_i h1
      refine List.pairwise_cons.2 ⟨fun z hz => ?_, ih⟩
      rcases (putE_mem hr.2).1 hz with h2 | ⟨rfl, -⟩
      · exact hr.1 z h2
      · exact h1
    · split
      · rename_i h2
        refine List.pairwise_cons.2 ⟨fun z hz => ?_, h⟩
        rcases List.mem_cons.1 hz with rfl | hz
        · exact h2
        · exact kl_trans h2 (hr.1 z hz)
      · exact h
/-- Two lists that rise and have the same are the same. -/
theorem ris_ext : ∀ {a b : List En}, Ris a → Ris b → (∀ e, e ∈ a ↔ e ∈ b) → a = b
  | [], [], _, _, _ => rfl
  | [], y :: b, _, _, h => absurd ((h y).2 (by simp)) (by simp)
  | x :: a, [], _, _, h => absurd ((h x).1 (by simp)) (by simp)
  | x :: a, y :: b, ha, hb, h => by
    have ra := List.pairwise_cons.1 ha
    have rb := List.pairwise_cons.1 hb
    have hxy : x = y := by
      rcases List.mem_cons.1 ((h x).1 (by simp)) with h1 | h1
      · exact h1
      · rcases List.mem_cons.1 ((h y).2 (by simp)) with h2 | h2
        · exact h2.symm
        · exact absurd (kl_trans (rb.1 x h1) (ra.1 y h2)) (kl_irrefl _)
    subst hxy
    rw [ris_ext ra.2 rb.2 (fun e => ?_)]
    constructor
    · intro he
      rcases List.mem_cons.1 ((h e).1 (List.mem_cons_of_mem _ he)) with rfl | h1
      · exact absurd (ra.1 _ he) (kl_irrefl _)
      · exact h1
    · intro he
      rcases List.mem_cons.1 ((h e).2 (List.mem_cons_of_mem _ he)) with rfl | h1
      · exact absurd (rb.1 _ he) (kl_irrefl _)
      · exact h1
theorem ris_filter {l : List En} (h : Ris l) (p : En → Bool) : Ris (l.filter p) := List.Pairwise.filter p h
theorem ris_key {l : List En} (h : Ris l) {a b : En} (ha : a ∈ l) (hb : b ∈ l) (hk : kl a = kl b) : a = b := by
  induction l with
  | nil => cases ha
  | cons x l ih =>
    have hr := List.pairwise_cons.1 h
    rcases List.mem_cons.1 ha with h1 | h1
    · rcases List.mem_cons.1 hb with h2 | h2
      · rw [h1, h2]
      · have := hr.1 b h2; rw [← hk, h1] at this; exact absurd this (kl_irrefl _)
    · rcases List.mem_cons.1 hb with h2 | h2
      · have := hr.1 a h1; rw [hk, h2] at this; exact absurd this (kl_irrefl _)
      · exact ih hr.2 h1 h2
/-- Of each key the first one is there. -/
theorem firE_mem : ∀ (l : List En) (acc : List En) (x : En), Ris acc → Ris (l.foldl putE acc) ∧ (x ∈ l.foldl putE acc ↔ x ∈ acc ∨ ((∀ y ∈ acc, kl y ≠ kl x) ∧ l.find? (fun y => decide (kl y = kl x)) = some x))
  | [], acc, x, h => ⟨h, by simp⟩
  | y :: l, acc, x, h => by
    obtain ⟨h1, h2⟩ := firE_mem l (putE acc y) x (putE_ris h)
    refine ⟨h1, ?_⟩
    rw [List.foldl_cons, h2, putE_mem h, List.find?_cons]
    by_cases hk : kl y = kl x
    · rw [show decide (kl y = kl x) = true from by simp [hk]]
      simp only
      constructor
      · rintro ((h3 | ⟨rfl, h4⟩) | ⟨h3, h4⟩)
        · exact .inl h3
        · exact .inr ⟨h4, rfl⟩
        · refine absurd hk ?_
          by_cases hc : ∀ z ∈ acc, kl z ≠ kl y
          · exact h3 y ((putE_mem h).2 (.inr ⟨rfl, hc⟩))
          · intro e'
            apply hc
            intro z hz
            have := h3 z ((putE_mem h).2 (.inl hz))
            rw [e']; exact this
      · rintro (h3 | ⟨h3, h4⟩)
        · exact .inl (.inl h3)
        · injection h4 with h4
          subst h4
          exact .inl (.inr ⟨rfl, h3⟩)
    · rw [show decide (kl y = kl x) = false from by simp [hk]]
      simp only
      constructor
      · rintro ((h3 | ⟨rfl, h4⟩) | ⟨h3, h4⟩)
        · exact .inl h3
        · exact absurd rfl hk
        · exact .inr ⟨fun z hz => h3 z ((putE_mem h).2 (.inl hz)), h4⟩
      · rintro (h3 | ⟨h3, h4⟩)
        · exact .inl (.inl h3)
        · refine .inr ⟨fun z hz => ?_, h4⟩
          rcases (putE_mem h).1 hz with h5 | ⟨rfl, -⟩
          · exact h3 z h5
          · exact hk
theorem firE_ris (l : List En) : Ris (firE l) := by
  cases l with
  | nil => exact List.Pairwise.nil
  | cons x l => exact (firE_mem (x :: l) [] x List.Pairwise.nil).1
theorem firE_iff (l : List En) (x : En) : x ∈ firE l ↔ l.find? (fun y => decide (kl y = kl x)) = some x := by
  have := (firE_mem l [] x List.Pairwise.nil).2
  simpa [firE] using this
/-- What rises already. -/
theorem find_ris {l : List En} (h : Ris l) (x : En) : l.find? (fun y => decide (kl y = kl x)) = some x ↔ x ∈ l := by
  constructor
  · intro h1; exact List.mem_of_find?_eq_some h1
  · intro h1
    cases hf : l.find? (fun y => decide (kl y = kl x)) with
    | none => have := List.find?_eq_none.1 hf x h1; simp at this
    | some z =>
      have h2 := List.mem_of_find?_eq_some hf
      have h3 := List.find?_some hf
      rw [ris_key h h2 h1 (by simpa using h3)]
theorem firE_self {l : List En} (h : Ris l) : firE l = l := ris_ext (firE_ris l) h (fun e => by rw [firE_iff, find_ris h])
/-- One table by itself, and twice. -/
theorem merge_one {l : List En} (h : Ris l) : mergeP [l] true = l := by simp [mergeP, firE_self h]
theorem merge_twice {l : List En} (h : Ris l) : mergeP [l, l] true = l := by
  have : firE (l ++ l) = l := ris_ext (firE_ris _) h (fun e => by
    rw [firE_iff, List.find?_append]
    cases hf : l.find? (fun y => decide (kl y = kl e)) with
    | none =>
      simp only [Option.none_or]
      constructor
      · intro h1; cases h1
      · intro h1; rw [(find_ris h e).2 h1] at hf; cases hf
    | some z =>
      simp only [Option.some_or]
      constructor
      · intro h1; rw [h1] at hf; exact (find_ris h e).1 hf
      · intro h1; rw [← hf]; exact (find_ris h e).2 h1)
  simpa [mergeP] using this
/-- Two parts, the later one first. -/
theorem merge_parts {a b : List En} (h : Ris (a ++ b)) : mergeP [b, a] true = a ++ b := by
  have hr := List.pairwise_append.1 h
  have : firE (b ++ a) = a ++ b := ris_ext (firE_ris _) h (fun e => by
    rw [firE_iff, List.find?_append, List.mem_append]
    cases hf : b.find? (fun y => decide (kl y = kl e)) with
    | none =>
      simp only [Option.none_or]
      rw [find_ris hr.1]
      constructor
      · exact fun h1 => .inl h1
      · rintro (h1 | h1)
        · exact h1
        · rw [(find_ris hr.2.1 e).2 h1] at hf; cases hf
    | some z =>
      simp only [Option.some_or]
      constructor
      · intro h1; rw [h1] at hf; exact .inr ((find_ris hr.2.1 e).1 hf)
      · rintro (h1 | h1)
        · have h2 := List.find?_some hf
          have h3 := List.mem_of_find?_eq_some hf
          have h4 := hr.2.2 e h1 z h3
          simp at h2
          rw [h2] at h4
          exact absurd h4 (kl_irrefl _)
        · rw [← hf]; exact (find_ris hr.2.1 e).2 h1)
  simpa [mergeP] using this
/-- A list that rises is its parts. -/
theorem parts_all {l : List En} (h : Ris l) (k : List UInt8) (hk : k ≠ []) : partE l [] k ++ partE l k [] = l := by
  induction l with
  | nil => rfl
  | cons x l ih =>
    have hr := List.pairwise_cons.1 h
    have ih := ih hr.2
    have hn : ∀ z : En, ¬ kl z < [] := fun z => by simp
    have hke : k.isEmpty = false := by cases k with | nil => exact absurd rfl hk | cons c k => rfl
    unfold partE at ih ⊢
    by_cases hx : kl x < k
    · rw [List.filter_cons_of_pos (by simp [hx]), List.filter_cons_of_neg (by simp [hx]), List.cons_append, ih]
    · have h0 : ∀ z ∈ l, ¬ kl z < k := fun z hz hzk => hx (kl_trans (hr.1 z hz) hzk)
      have h1 : l.filter (fun e => !decide (kl e < []) && (k.isEmpty || decide (kl e < k))) = [] := by
        rw [List.filter_eq_nil_iff]; intro z hz; simp [h0 z hz, hke]
      rw [List.filter_cons_of_neg (by simp [hx, hke]), List.filter_cons_of_pos (by simp [hx]), h1]
      rw [h1, List.nil_append] at ih
      rw [List.nil_append, ih]
end Go.Proofs.YtckjcjoheeobgaaGreatDoor
