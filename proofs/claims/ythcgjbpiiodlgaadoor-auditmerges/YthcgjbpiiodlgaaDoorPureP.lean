/- Lines, and whether some are the beginning of others: plain functions on lists. -/
namespace Go.Proofs.YthcgjbpiiodlgaaDoor

abbrev Ln := ByteArray × List Int

/-- The first line of a key. -/
def fstP (k : ByteArray) : List Ln → Option Ln
  | [] => none
  | m :: r => if m.1 = k then some m else fstP k r
def oneP (b : List Ln) (l : Ln) : Bool :=
  match fstP l.1 b with
  | none => false
  | some m => decide (l.2 <+: m.2)
def prefP (a b : List Ln) : Bool := a.all (oneP b)

/-- The place of the first line of a key. -/
def fstAt (k : ByteArray) : Nat → List Ln → Option Nat
  | _, [] => none
  | i, m :: r => if m.1 = k then some i else fstAt k (i + 1) r

theorem fstAt_ge (k : ByteArray) : ∀ (b : List Ln) (i j : Nat), fstAt k i b = some j → i ≤ j ∧ j < i + b.length
  | [], i, j, h => by simp [fstAt] at h
  | m :: r, i, j, h => by
    unfold fstAt at h
    split at h
    · simp at h; subst h; simp
    · have := fstAt_ge k r (i + 1) j h; simp; omega
theorem fstAt_none (k : ByteArray) : ∀ (b : List Ln) (i : Nat), fstAt k i b = none ↔ fstP k b = none
  | [], i => by simp [fstAt, fstP]
  | m :: r, i => by
    unfold fstAt fstP
    split
    · simp
    · exact fstAt_none k r (i + 1)
theorem fstAt_some (k : ByteArray) : ∀ (b : List Ln) (i j : Nat), fstAt k i b = some j → ∃ m, b[j - i]? = some m ∧ fstP k b = some m
  | [], i, j, h => by simp [fstAt] at h
  | m :: r, i, j, h => by
    unfold fstAt at h
    unfold fstP
    split at h
    · rename_i hk
      simp at h; subst h
      exact ⟨m, by simp, by rw [if_pos hk]⟩
    · rename_i hk
      have hge := (fstAt_ge k r (i + 1) j h).1
      obtain ⟨m', h1, h2⟩ := fstAt_some k r (i + 1) j h
      refine ⟨m', ?_, by rw [if_neg hk]; exact h2⟩
      rw [show j - i = (j - (i + 1)) + 1 from by omega]
      simpa using h1
/-- What stands at the first place of a key. -/
theorem fst_place (k : ByteArray) (b : List Ln) {j : Nat} (h : fstAt k 0 b = some j) : ∃ (hj : j < b.length), fstP k b = some b[j] ∧ b[j].1 = k ∧ ∀ (i : Nat) (hi : i < j), (b[i]'(by omega)).1 ≠ k := by
  have hg := fstAt_ge k b 0 j h
  obtain ⟨m, h1, h2⟩ := fstAt_some k b 0 j h
  have hj : j < b.length := by omega
  rw [Nat.sub_zero, List.getElem?_eq_getElem hj] at h1
  injection h1 with h1
  refine ⟨hj, by rw [h1]; exact h2, ?_, ?_⟩
  · have : ∀ (b : List Ln) m, fstP k b = some m → m.1 = k := by
      intro b
      induction b with
      | nil => intro m h; simp [fstP] at h
      | cons x r ih =>
        intro m h
        unfold fstP at h
        split at h
        · rename_i hx; simp at h; subst h; exact hx
        · exact ih m h
    rw [h1]; exact this b m h2
  · have : ∀ (b : List Ln) (i0 j i : Nat) (hb : i < b.length), fstAt k i0 b = some j → i0 + i < j → (b[i]).1 ≠ k := by
      intro b
      induction b with
      | nil => intro i0 j i hb; simp at hb
      | cons x r ih =>
        intro i0 j i hb h hi
        unfold fstAt at h
        split at h
        · simp at h; omega
        · rename_i hx
          cases i with
          | zero => simpa using hx
          | succ i =>
            simp
            exact ih (i0 + 1) j i (by simpa using hb) h (by omega)
    intro i hi
    exact this b 0 j i (by omega) h (by omega)

/-- No line of a key: none before any place. -/
theorem fst_no (k : ByteArray) (b : List Ln) (h : fstP k b = none) : ∀ m ∈ b, m.1 ≠ k := by
  induction b with
  | nil => simp
  | cons x r ih =>
    unfold fstP at h
    split at h
    · simp at h
    · rename_i hx
      intro m hm
      rcases List.mem_cons.1 hm with rfl | hm
      · exact hx
      · exact ih h m hm
theorem fst_first (k : ByteArray) : ∀ (b : List Ln) (j : Nat) (hj : j < b.length), b[j].1 = k → (∀ (i : Nat) (hi : i < j), (b[i]'(by omega)).1 ≠ k) → fstP k b = some b[j] := by
  intro b
  induction b with
  | nil => intro j hj; simp at hj
  | cons x r ih =>
    intro j hj h0 h1
    unfold fstP
    cases j with
    | zero => rw [if_pos (by simpa using h0)]; simp
    | succ j =>
      rw [if_neg (by simpa using h1 0 (by omega))]
      have := ih j (by simpa using hj) (by simpa using h0) (fun i hi => by simpa using h1 (i + 1) (by omega))
      simpa using this

theorem pref_snoc (a b : List Ln) (l : Ln) : prefP (a ++ [l]) b = (prefP a b && oneP b l) := by simp [prefP]
theorem pref_take {a b : List Ln} {i : Nat} (h : i < a.length) : prefP (a.take (i + 1)) b = (prefP (a.take i) b && oneP b a[i]) := by
  rw [List.take_succ_eq_append_getElem h, pref_snoc]
theorem pref_false {a b : List Ln} {i : Nat} (h : i < a.length) (hf : oneP b a[i] = false) : prefP a b = false := by
  unfold prefP
  rw [List.all_eq_false]
  exact ⟨a[i], List.getElem_mem h, by simp [hf]⟩
end Go.Proofs.YthcgjbpiiodlgaaDoor
