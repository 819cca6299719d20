/- A stable sort in place: what each of its parts does to a row. Plain. -/
import Derived.Below
namespace Go.Proofs.YtfkeokeedljomaaDoor
set_option linter.unusedVariables false

/-- Two places of a row change what they hold. -/
def swp (D : List Nat) (p q : Nat) : List Nat := (D.set p (D.getD q 0)).set q (D.getD p 0)
theorem swp_len (D : List Nat) (p q : Nat) : (swp D p q).length = D.length := by unfold swp; simp
theorem set_at (P S : List Nat) (x y : Nat) : (P ++ x :: S).set P.length y = P ++ y :: S := by simp
theorem getD_at (P S : List Nat) (x : Nat) : (P ++ x :: S).getD P.length 0 = x := by simp [List.getD]
theorem swp_mid (P M S : List Nat) (x y : Nat) (p q : Nat) (hp : p = P.length) (hq : q = P.length + 1 + M.length) :
    swp (P ++ x :: (M ++ y :: S)) p q = P ++ y :: (M ++ x :: S) := by
  subst hp
  have e : q = (P ++ x :: M).length := by simp; omega
  have e2 : q = (P ++ y :: M).length := by simp; omega
  unfold swp
  rw [getD_at, set_at]
  have g : (P ++ x :: (M ++ y :: S)).getD q 0 = y := by
    rw [e, show P ++ x :: (M ++ y :: S) = (P ++ x :: M) ++ y :: S from by simp, getD_at]
  rw [g, e2, show P ++ y :: (M ++ y :: S) = (P ++ y :: M) ++ y :: S from by simp, set_at]
  simp
theorem swp_comm (D : List Nat) (p q : Nat) (h : p ≠ q) : swp D p q = swp D q p := by
  unfold swp
  rw [List.set_comm _ _ h]
theorem swp_midR (P M S : List Nat) (x y : Nat) (p q : Nat) (hp : p = P.length) (hq : q = P.length + 1 + M.length) :
    swp (P ++ x :: (M ++ y :: S)) q p = P ++ y :: (M ++ x :: S) := by
  rw [swp_comm _ _ _ (by omega), swp_mid P M S x y p q hp hq]

/-- Two rows of one length change places, one by one. -/
def swr (P X M Y S : List Nat) (i : Nat) : List Nat := P ++ ((Y.take i ++ X.drop i) ++ (M ++ ((X.take i ++ Y.drop i) ++ S)))
theorem swr_0 (P X M Y S : List Nat) : swr P X M Y S 0 = P ++ (X ++ (M ++ (Y ++ S))) := by simp [swr]
theorem swr_end (P X M Y S : List Nat) (n : Nat) (hx : X.length = n) (hy : Y.length = n) : swr P X M Y S n = P ++ (Y ++ (M ++ (X ++ S))) := by
  unfold swr
  rw [List.take_of_length_le (by omega), List.take_of_length_le (by omega), List.drop_of_length_le (by omega), List.drop_of_length_le (by omega)]
  simp
theorem swr_len (P X M Y S : List Nat) (n i : Nat) (hx : X.length = n) (hy : Y.length = n) (hi : i ≤ n) : (swr P X M Y S i).length = P.length + n + M.length + n + S.length := by
  unfold swr; simp; omega
theorem swr_form (P X M Y S : List Nat) (n i : Nat) (hx : X.length = n) (hy : Y.length = n) (hi : i < n) :
    ∃ x y, swr P X M Y S i = (P ++ Y.take i) ++ x :: ((X.drop (i + 1) ++ (M ++ X.take i)) ++ y :: (Y.drop (i + 1) ++ S)) ∧
      swr P X M Y S (i + 1) = (P ++ Y.take i) ++ y :: ((X.drop (i + 1) ++ (M ++ X.take i)) ++ x :: (Y.drop (i + 1) ++ S)) := by
  refine ⟨X[i], Y[i], ?_, ?_⟩
  · unfold swr
    rw [List.drop_eq_getElem_cons (l := X) (i := i) (by omega), List.drop_eq_getElem_cons (l := Y) (i := i) (by omega)]
    generalize X[i] = x
    generalize Y[i] = y
    generalize X.drop (i + 1) = X2
    generalize Y.drop (i + 1) = Y2
    generalize X.take i = X1
    generalize Y.take i = Y1
    simp
  · unfold swr
    rw [List.take_succ_eq_append_getElem (l := X) (i := i) (by omega), List.take_succ_eq_append_getElem (l := Y) (i := i) (by omega)]
    generalize X[i] = x
    generalize Y[i] = y
    generalize X.drop (i + 1) = X2
    generalize Y.drop (i + 1) = Y2
    generalize X.take i = X1
    generalize Y.take i = Y1
    simp
theorem swr_step (P X M Y S : List Nat) (n i : Nat) (hx : X.length = n) (hy : Y.length = n) (hi : i < n) (p q : Nat) (hp : p = P.length + i) (hq : q = P.length + n + M.length + i) :
    swp (swr P X M Y S i) p q = swr P X M Y S (i + 1) := by
  obtain ⟨x, y, h1, h2⟩ := swr_form P X M Y S n i hx hy hi
  rw [h1, h2]
  exact swp_mid _ _ _ _ _ _ _ (by simp; omega) (by simp; omega)

section
variable (ld : Nat → Int)
/-- The greater load ahead; of equal ones the first. -/
def ah (x y : Nat) : Prop := ld y < ld x ∨ (ld x = ld y ∧ x < y)
def cb (x y : Nat) : Bool := decide (ld y < ld x)
variable {ld}
theorem ah_trans {x y z : Nat} (h : ah ld x y) (k : ah ld y z) : ah ld x z := by unfold ah at *; omega
theorem ah_asymm {x y : Nat} (h : ah ld x y) : ¬ ah ld y x := by unfold ah at *; omega
theorem cb_yes {x y : Nat} (h : cb ld x y = true) : ah ld x y := by unfold cb at h; unfold ah; simp at h; omega
theorem cb_no {x y : Nat} (h : cb ld x y = false) (hxy : y < x) : ah ld y x := by unfold cb at h; unfold ah; simp at h; omega

theorem all_ahead {B : List Nat} (hB : B.Pairwise (ah ld)) {h : Nat} (hh : h < B.length) {x : Nat} (k : ah ld B[h] x) : ∀ y ∈ B.take (h + 1), ah ld y x := by
  intro y hy
  rw [List.take_succ_eq_append_getElem hh] at hy
  rcases List.mem_append.1 hy with hy | hy
  · have e : B = B.take h ++ B[h] :: B.drop (h + 1) := by rw [← List.drop_eq_getElem_cons hh, List.take_append_drop]
    rw [e] at hB
    exact ah_trans ((List.pairwise_append.1 hB).2.2 y hy _ (List.mem_cons_self)) k
  · simp at hy; subst hy; exact k
theorem all_behind {B : List Nat} (hB : B.Pairwise (ah ld)) {h : Nat} (hh : h < B.length) {x : Nat} (k : ah ld x B[h]) : ∀ y ∈ B.drop h, ah ld x y := by
  intro y hy
  have e : B = B.take h ++ B[h] :: B.drop (h + 1) := by rw [← List.drop_eq_getElem_cons hh, List.take_append_drop]
  rw [List.drop_eq_getElem_cons hh] at hy
  rcases List.mem_cons.1 hy with hy | hy
  · subst hy; exact k
  · rw [e] at hB
    exact ah_trans k ((List.pairwise_cons.1 (List.pairwise_append.1 hB).2.1).1 y hy)
/-- One put where it belongs. -/
def put1 (B : List Nat) (x k : Nat) : List Nat := B.take k ++ x :: B.drop k
theorem put1_perm (B : List Nat) (x k : Nat) : (put1 B x k).Perm (x :: B) := by
  unfold put1
  refine List.perm_middle.trans ?_
  rw [List.take_append_drop]
theorem put1_len (B : List Nat) (x k : Nat) : (put1 B x k).length = B.length + 1 := by rw [(put1_perm B x k).length_eq]; rfl
theorem put1_sorted {B : List Nat} {x k : Nat} (hB : B.Pairwise (ah ld)) (h1 : ∀ y ∈ B.take k, ah ld y x) (h2 : ∀ y ∈ B.drop k, ah ld x y) : (put1 B x k).Pairwise (ah ld) := by
  unfold put1
  have hB' := hB
  rw [← List.take_append_drop k B] at hB'
  obtain ⟨a, b, c⟩ := List.pairwise_append.1 hB'
  refine List.pairwise_append.2 ⟨a, List.pairwise_cons.2 ⟨h2, b⟩, fun y hy z hz => ?_⟩
  rcases List.mem_cons.1 hz with rfl | hz
  · exact h1 y hy
  · exact c y hy z hz
theorem at_next (P S : List Nat) (x y : Nat) : (P ++ x :: ([] ++ y :: S))[P.length + 1]? = some y := by
  rw [List.getElem?_append_right (by omega), show P.length + 1 - P.length = 1 from by omega]; rfl
theorem put1_up (P B S : List Nat) (x k : Nat) (hk : k < B.length) (p q : Nat) (hp : p = P.length + k) (hq : q = p + 1) :
    swp (P ++ (put1 B x k ++ S)) p q = P ++ (put1 B x (k + 1) ++ S) ∧ (P ++ (put1 B x k ++ S))[p]? = some x ∧ (P ++ (put1 B x k ++ S))[q]? = some B[k] := by
  have e1 : P ++ (put1 B x k ++ S) = (P ++ B.take k) ++ x :: ([] ++ B[k] :: (B.drop (k + 1) ++ S)) := by
    unfold put1; rw [List.drop_eq_getElem_cons hk]; generalize B[k] = b; generalize B.drop (k + 1) = B2; generalize B.take k = B1; simp
  have e2 : P ++ (put1 B x (k + 1) ++ S) = (P ++ B.take k) ++ B[k] :: ([] ++ x :: (B.drop (k + 1) ++ S)) := by
    unfold put1; rw [List.take_succ_eq_append_getElem hk]; generalize B[k] = b; generalize B.drop (k + 1) = B2; generalize B.take k = B1; simp
  have hl : (P ++ B.take k).length = p := by simp; omega
  refine ⟨?_, ?_, ?_⟩
  · rw [e1, e2]
    exact swp_mid _ _ _ _ _ _ _ hl.symm (by rw [hl]; simpa using hq)
  · rw [e1, ← hl]; simp
  · rw [e1, hq, ← hl]; exact at_next _ _ _ _
theorem put1_dn (P B S : List Nat) (x k : Nat) (hk : k < B.length) (p q : Nat) (hp : p = P.length + k) (hq : q = p + 1) :
    swp (P ++ (put1 B x (k + 1) ++ S)) q p = P ++ (put1 B x k ++ S) ∧ (P ++ (put1 B x (k + 1) ++ S))[p]? = some B[k] ∧ (P ++ (put1 B x (k + 1) ++ S))[q]? = some x := by
  have e1 : P ++ (put1 B x k ++ S) = (P ++ B.take k) ++ x :: ([] ++ B[k] :: (B.drop (k + 1) ++ S)) := by
    unfold put1; rw [List.drop_eq_getElem_cons hk]; generalize B[k] = b; generalize B.drop (k + 1) = B2; generalize B.take k = B1; simp
  have e2 : P ++ (put1 B x (k + 1) ++ S) = (P ++ B.take k) ++ B[k] :: ([] ++ x :: (B.drop (k + 1) ++ S)) := by
    unfold put1; rw [List.take_succ_eq_append_getElem hk]; generalize B[k] = b; generalize B.drop (k + 1) = B2; generalize B.take k = B1; simp
  have hl : (P ++ B.take k).length = p := by simp; omega
  refine ⟨?_, ?_, ?_⟩
  · rw [e1, e2]
    exact swp_midR _ _ _ _ _ _ _ hl.symm (by rw [hl]; simpa using hq)
  · rw [e2, ← hl]; simp
  · rw [e2, hq, ← hl]; exact at_next _ _ _ _

/-- A piece of the row that holds its own numbers, sorted. -/
def Bk (ld : Nat → Int) (lo : Nat) (C : List Nat) : Prop := C.Perm (List.range' lo C.length) ∧ C.Pairwise (ah ld)
theorem Bk.nil (lo : Nat) : Bk ld lo [] := ⟨by simp, List.Pairwise.nil⟩
theorem Bk.mem {lo : Nat} {C : List Nat} (h : Bk ld lo C) {x : Nat} (hx : x ∈ C) : lo ≤ x ∧ x < lo + C.length := by
  have := h.1.mem_iff.1 hx
  simpa [List.mem_range'_1] using this
theorem Bk.cross {lo : Nat} {A B : List Nat} (ha : Bk ld lo A) (hb : Bk ld (lo + A.length) B) : ∀ x ∈ A, ∀ y ∈ B, x < y := fun x hx y hy => by
  have := ha.mem hx; have := hb.mem hy; omega
theorem Bk.join {lo : Nat} {A B C : List Nat} (ha : Bk ld lo A) (hb : Bk ld (lo + A.length) B) (hp : C.Perm (A ++ B)) (hs : C.Pairwise (ah ld)) : Bk ld lo C := by
  refine ⟨hp.trans ?_, hs⟩
  rw [hp.length_eq, List.length_append, ← List.range'_append_1]
  exact ha.1.append hb.1

/-- A row in pieces of s (the last may be shorter). -/
inductive Ch (ld : Nat → Int) (s : Nat) : Nat → List Nat → Prop
  | one (lo : Nat) (C : List Nat) : C.length ≤ s → Bk ld lo C → Ch ld s lo C
  | more (lo : Nat) (C R : List Nat) : C.length = s → Bk ld lo C → Ch ld s (lo + s) R → Ch ld s lo (C ++ R)
theorem Ch.whole {s lo : Nat} {R : List Nat} (h : Ch ld s lo R) (hl : R.length ≤ s) : Bk ld lo R := by
  cases h with
  | one _ _ h1 h2 => exact h2
  | more _ C R' h1 h2 h3 =>
    have : R' = [] := List.eq_nil_of_length_eq_zero (by rw [List.length_append] at hl; omega)
    subst this
    rw [List.append_nil]; exact h2
theorem Ch.first {s lo : Nat} {R : List Nat} (h : Ch ld s lo R) (hl : s < R.length) : ∃ C R', R = C ++ R' ∧ C.length = s ∧ Bk ld lo C ∧ Ch ld s (lo + s) R' := by
  cases h with
  | one _ _ h1 h2 => omega
  | more _ C R' h1 h2 h3 => exact ⟨C, R', rfl, h1, h2, h3⟩
theorem Ch.two {s lo : Nat} {R : List Nat} (h : Ch ld s lo R) (hl : 2 * s ≤ R.length) (hs : 0 < s) : ∃ C D R', R = C ++ (D ++ R') ∧ C.length = s ∧ D.length = s ∧ Bk ld lo C ∧ Bk ld (lo + s) D ∧ Ch ld s (lo + 2 * s) R' := by
  obtain ⟨C, R', rfl, h1, h2, h3⟩ := h.first (by omega)
  rw [List.length_append] at hl
  by_cases he : R'.length = s
  · refine ⟨C, R', [], by simp, h1, he, h2, h3.whole (by omega), .one _ _ (by simp) (Bk.nil _)⟩
  · obtain ⟨D, R2, rfl, k1, k2, k3⟩ := h3.first (by omega)
    exact ⟨C, D, R2, rfl, h1, k1, h2, k2, by rw [show lo + 2 * s = lo + s + s from by omega]; exact k3⟩
/-- What is done so far: whatever pieces come behind. -/
def Dn (ld : Nat → Int) (s : Nat) (Q : List Nat) : Prop := ∀ R, Ch ld s Q.length R → Ch ld s 0 (Q ++ R)
theorem Dn.nil (s : Nat) : Dn ld s [] := fun R h => by simpa using h
theorem Dn.add {s : Nat} {Q C : List Nat} (h : Dn ld s Q) (hl : C.length = s) (hb : Bk ld Q.length C) : Dn ld s (Q ++ C) := fun R hR => by
  rw [List.append_assoc]
  refine h _ (.more _ _ _ hl hb ?_)
  rw [List.length_append, hl] at hR
  exact hR
theorem Dn.last {s : Nat} {Q C : List Nat} (h : Dn ld s Q) (hl : C.length ≤ s) (hb : Bk ld Q.length C) : Ch ld s 0 (Q ++ C) := h _ (.one _ _ hl hb)

/-- Where two sorted rows are parted so that they meet in the midst. -/
theorem meet_sorted {A B C1 C2 : List Nat} {i j : Nat} (hA : A.Pairwise (ah ld)) (hB : B.Pairwise (ah ld))
    (h1 : ∀ x ∈ A.take i, ∀ y ∈ B.drop j, ah ld x y) (h2 : ∀ x ∈ A.drop i, ∀ y ∈ B.take j, ah ld y x)
    (p1 : C1.Perm (A.take i ++ B.take j)) (s1 : C1.Pairwise (ah ld)) (p2 : C2.Perm (A.drop i ++ B.drop j)) (s2 : C2.Pairwise (ah ld)) :
    (C1 ++ C2).Perm (A ++ B) ∧ (C1 ++ C2).Pairwise (ah ld) := by
  constructor
  · refine (p1.append p2).trans ?_
    have e : A ++ B = A.take i ++ (A.drop i ++ (B.take j ++ B.drop j)) := by rw [List.take_append_drop, ← List.append_assoc, List.take_append_drop]
    rw [e, List.append_assoc]
    refine List.Perm.append_left _ ?_
    rw [← List.append_assoc, ← List.append_assoc]
    exact List.perm_append_comm.append_right _
  · refine List.pairwise_append.2 ⟨s1, s2, fun x hx y hy => ?_⟩
    have hx := p1.mem_iff.1 hx
    have hy := p2.mem_iff.1 hy
    have hA' := hA
    rw [← List.take_append_drop i A] at hA'
    have hB' := hB
    rw [← List.take_append_drop j B] at hB'
    rcases List.mem_append.1 hx with hx | hx <;> rcases List.mem_append.1 hy with hy | hy
    · exact (List.pairwise_append.1 hA').2.2 x hx y hy
    · exact h1 x hx y hy
    · exact h2 y hy x hx
    · exact (List.pairwise_append.1 hB').2.2 x hx y hy
/-- The last of a sorted row's beginning, the first of a sorted row's rest. -/
theorem cut_first {A B : List Nat} {i j : Nat} (hA : A.Pairwise (ah ld)) (hB : B.Pairwise (ah ld)) (hi : 0 < i → ∀ (h : j < B.length), ∃ h' : i - 1 < A.length, ah ld A[i - 1] B[j]) :
    ∀ x ∈ A.take i, ∀ y ∈ B.drop j, ah ld x y := by
  intro x hx y hy
  by_cases h0 : i = 0
  · subst h0; simp at hx
  · by_cases hj : j < B.length
    · obtain ⟨h', k⟩ := hi (by omega) hj
      have a := all_ahead hA h' k
      rw [show i - 1 + 1 = i from by omega] at a
      have := all_behind hB hj (a x hx)
      exact this y hy
    · rw [List.drop_of_length_le (by omega)] at hy; simp at hy
theorem cut_second {A B : List Nat} {i j : Nat} (hA : A.Pairwise (ah ld)) (hB : B.Pairwise (ah ld)) (hi : 0 < j → ∀ (h : i < A.length), ∃ h' : j - 1 < B.length, ah ld B[j - 1] A[i]) :
    ∀ x ∈ A.drop i, ∀ y ∈ B.take j, ah ld y x := fun x hx y hy => cut_first hB hA hi y hy x hx

/-- Two sorted pieces, the first with the lesser numbers. -/
structure Mg (ld : Nat → Int) (N : Nat) (A B : List Nat) : Prop where
  a : ∀ x ∈ A, x < N
  b : ∀ x ∈ B, x < N
  c : ∀ x ∈ A, ∀ y ∈ B, x < y
  sa : A.Pairwise (ah ld)
  sb : B.Pairwise (ah ld)
theorem Mg.sub {N : Nat} {A B A' B' : List Nat} (h : Mg ld N A B) (ha : A'.Sublist A) (hb : B'.Sublist B) : Mg ld N A' B' :=
  ⟨fun x hx => h.a x (ha.subset hx), fun x hx => h.b x (hb.subset hx), fun x hx y hy => h.c x (ha.subset hx) y (hb.subset hy), h.sa.sublist ha, h.sb.sublist hb⟩
/-- How far a search has come that parts two pieces. -/
def SLo (ld : Nat → Int) (A B : List Nat) (a m p s0 s : Nat) : Prop := s = s0 ∨ ∃ x y, a + 1 ≤ s ∧ A[s - 1 - a]? = some x ∧ B[p + 1 - s - m]? = some y ∧ ah ld x y
def SHi (ld : Nat → Int) (A B : List Nat) (a m p r0 r : Nat) : Prop := r = r0 ∨ ∃ x y, A[r - a]? = some x ∧ B[p - r - m]? = some y ∧ ah ld y x
structure Cuts (A B : List Nat) (a m b mid n s0 r0 : Nat) : Prop where
  ea : m = a + A.length
  eb : b = m + B.length
  la : 1 < A.length
  lb : 1 < B.length
  emid : mid = (a + b) / 2
  en : n = mid + m
  es : (mid < m → s0 + b = n) ∧ (m ≤ mid → s0 = a)
  er : (mid < m → r0 = mid) ∧ (m ≤ mid → r0 = m)
theorem Cuts.bounds {A B : List Nat} {a m b mid n s0 r0 : Nat} (h : Cuts A B a m b mid n s0 r0) : a ≤ s0 ∧ s0 ≤ r0 ∧ r0 ≤ m ∧ r0 ≤ mid ∧ a < mid ∧ mid < b ∧ ∀ c, s0 ≤ c → c < r0 → a ≤ c ∧ c < m ∧ m + c + 1 ≤ n ∧ n ≤ b + c := by
  obtain ⟨h1, h2, h3, h4, h5, h6, ⟨h7, h8⟩, ⟨h9, h10⟩⟩ := h
  rcases Nat.lt_or_ge mid m with hlt | hge
  · have := h7 hlt; have := h9 hlt
    refine ⟨by omega, by omega, by omega, by omega, by omega, by omega, fun c hc1 hc2 => ⟨by omega, by omega, by omega, by omega⟩⟩
  · have := h8 hge; have := h10 hge
    refine ⟨by omega, by omega, by omega, by omega, by omega, by omega, fun c hc1 hc2 => ⟨by omega, by omega, by omega, by omega⟩⟩
theorem Cuts.fine {A B : List Nat} {a m b mid n s0 r0 s N : Nat} (h : Cuts A B a m b mid n s0 r0) (g : Mg ld N A B) (h1 : s0 ≤ s) (h2 : s ≤ r0) (hlo : SLo ld A B a m (n - 1) s0 s) (hhi : SHi ld A B a m (n - 1) r0 s) :
    ∃ i j, s = a + i ∧ n = s + m + j ∧ mid = s + j ∧ i ≤ A.length ∧ j ≤ B.length ∧ (∀ x ∈ A.take i, ∀ y ∈ B.drop j, ah ld x y) ∧ ∀ x ∈ A.drop i, ∀ y ∈ B.take j, ah ld y x := by
  obtain ⟨b1, b2, b3, b4, b5, b6, b7⟩ := h.bounds
  obtain ⟨k1, k2, k3, k4, k5, k6, ⟨k7, k8⟩, ⟨k9, k10⟩⟩ := h
  refine ⟨s - a, n - m - s, by omega, by omega, by omega, by omega, by
    rcases Nat.lt_or_ge mid m with hlt | hge
    · have := k7 hlt; omega
    · have := k8 hge; omega, cut_first g.sa g.sb fun hi hj => ?_, cut_second g.sa g.sb fun hj hi => ?_⟩
  · rcases hlo with rfl | ⟨x, y, q1, q2, q3, q4⟩
    · rcases Nat.lt_or_ge mid m with hlt | hge
      · have := k7 hlt; omega
      · have := k8 hge; omega
    · rw [show s - 1 - a = s - a - 1 from by omega] at q2
      rw [show n - 1 + 1 - s - m = n - m - s from by omega] at q3
      obtain ⟨l1, rfl⟩ := List.getElem?_eq_some_iff.1 q2
      obtain ⟨l2, rfl⟩ := List.getElem?_eq_some_iff.1 q3
      exact ⟨l1, q4⟩
  · rcases hhi with rfl | ⟨x, y, q2, q3, q4⟩
    · rcases Nat.lt_or_ge mid m with hlt | hge
      · have := k9 hlt; omega
      · have := k10 hge; omega
    · rw [show n - 1 - s - m = n - m - s - 1 from by omega] at q3
      obtain ⟨l1, rfl⟩ := List.getElem?_eq_some_iff.1 q2
      obtain ⟨l2, rfl⟩ := List.getElem?_eq_some_iff.1 q3
      exact ⟨l2, q4⟩
end
end Go.Proofs.YtfkeokeedljomaaDoor
