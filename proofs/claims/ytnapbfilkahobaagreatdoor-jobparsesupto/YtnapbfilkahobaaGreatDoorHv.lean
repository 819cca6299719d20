import Derived.Test.YtnapbfilkahobaaGreatDoorPureBd
import Derived.Test.YtnapbfilkahobaaGreatDoorHp
/- A text cut at each of a byte: how far one has come. -/
namespace Go.Proofs.YtnapbfilkahobaaGreatDoor
set_option linter.unusedVariables false

def cutC (c : UInt8) : List UInt8 → List (List UInt8)
  | [] => [[]]
  | x :: r => if x = c then [] :: cutC c r else
    match cutC c r with
    | [] => [[x]]
    | w :: ws => (x :: w) :: ws
theorem cutC_32 : ∀ l : List UInt8, cutC 32 l = splitW l
  | [] => rfl
  | x :: r => by
    rw [cutC, splitW, cutC_32 r]
    split
    · rfl
    · cases splitW r <;> rfl
theorem cutC_10 : ∀ l : List UInt8, cutC 10 l = cutN l
  | [] => rfl
  | x :: r => by
    rw [cutC, cutN, cutC_10 r]
    split
    · rfl
    · cases cutN r <;> rfl
theorem cutC_some (c : UInt8) (l : List UInt8) : ∃ w ws, cutC c l = w :: ws := by
  cases l with
  | nil => exact ⟨[], [], rfl⟩
  | cons x r =>
    rw [cutC]
    split
    · exact ⟨_, _, rfl⟩
    · split <;> exact ⟨_, _, rfl⟩
theorem cutC_len (c : UInt8) : ∀ l : List UInt8, (cutC c l).length ≤ l.length + 1
  | [] => by simp [cutC]
  | x :: r => by
    have ih := cutC_len c r
    rw [cutC]
    split
    · simp; omega
    · obtain ⟨w, ws, e⟩ := cutC_some c r
      rw [e] at ih ⊢
      simp at ih ⊢; omega
theorem cutC_sub (c : UInt8) : ∀ (l : List UInt8), ∀ x ∈ cutC c l, x.length ≤ l.length
  | [], x, hx => by simp [cutC] at hx; subst hx; simp
  | a :: r, x, hx => by
    have ih := cutC_sub c r
    rw [cutC] at hx
    split at hx
    · rcases List.mem_cons.1 hx with rfl | hx
      · simp
      · have := ih x hx; simp; omega
    · obtain ⟨w, ws, e⟩ := cutC_some c r
      rw [e] at hx ih
      simp only at hx
      rcases List.mem_cons.1 hx with rfl | hx
      · have := ih w (by simp); simp; omega
      · have := ih x (by simp [hx]); simp; omega
def CutI (c : UInt8) (l : List UInt8) (out : List (List UInt8)) (f i : Nat) : Prop :=
  f ≤ i ∧ i ≤ l.length ∧ ∃ w ws, cutC c (l.drop i) = w :: ws ∧ cutC c l = out ++ (((l.take i).drop f ++ w) :: ws)
theorem CutI.start (c : UInt8) (l : List UInt8) : CutI c l [] 0 0 := by
  obtain ⟨w, ws, e⟩ := cutC_some c l
  exact ⟨Nat.le_refl _, Nat.zero_le _, w, ws, by simpa using e, by simpa using e⟩
theorem CutI.hit {c : UInt8} {l : List UInt8} {out : List (List UInt8)} {f i : Nat} (h : CutI c l out f i) (hi : i < l.length) (hx : l[i] = c) : CutI c l (out ++ [(l.take i).drop f]) (i + 1) (i + 1) := by
  obtain ⟨h1, h2, w, ws, h3, h4⟩ := h
  rw [List.drop_eq_getElem_cons hi, cutC, if_pos hx] at h3
  injection h3 with h3 h5
  obtain ⟨w', ws', e⟩ := cutC_some c (l.drop (i + 1))
  refine ⟨Nat.le_refl _, by omega, w', ws', e, ?_⟩
  rw [h4, ← h3, ← h5, e]
  simp
theorem CutI.miss {c : UInt8} {l : List UInt8} {out : List (List UInt8)} {f i : Nat} (h : CutI c l out f i) (hi : i < l.length) (hx : l[i] ≠ c) : CutI c l out f (i + 1) := by
  obtain ⟨h1, h2, w, ws, h3, h4⟩ := h
  obtain ⟨w', ws', e⟩ := cutC_some c (l.drop (i + 1))
  rw [List.drop_eq_getElem_cons hi, cutC, if_neg hx, e] at h3
  injection h3 with h3 h5
  refine ⟨by omega, by omega, w', ws', e, ?_⟩
  rw [h4, ← h3, ← h5, List.take_succ_eq_append_getElem hi, List.drop_append_of_le_length (by simp; omega)]
  simp
theorem CutI.done {c : UInt8} {l : List UInt8} {out : List (List UInt8)} {f : Nat} (h : CutI c l out f l.length) : cutC c l = out ++ [l.drop f] := by
  obtain ⟨h1, h2, w, ws, h3, h4⟩ := h
  rw [List.drop_length, cutC] at h3
  injection h3 with h3 h5
  rw [h4, ← h3, ← h5, List.take_length]
  simp
/-- Digits read so far. -/
def dgI (l : List UInt8) (i : Nat) : Prop := ∀ c ∈ l.take i, isDg c = true
theorem dgI_step {l : List UInt8} {i : Nat} (h : dgI l i) (hi : i < l.length) (hd : isDg l[i] = true) : dgI l (i + 1) := by
  intro c hc
  rw [List.take_succ_eq_append_getElem hi] at hc
  rcases List.mem_append.1 hc with hc | hc
  · exact h c hc
  · simp at hc; subst hc; exact hd
theorem small_bad {l : List UInt8} {i : Nat} (hi : i < l.length) (hd : isDg l[i] = false) : docSmall l = none := by
  unfold docSmall
  split
  · rfl
  · rw [if_neg]
    intro h
    have := List.all_eq_true.1 h l[i] (List.getElem_mem hi)
    rw [hd] at this; cases this
theorem small_good {l : List UInt8} (h0 : ¬ (l = [] ∨ 3 < l.length ∨ (l.head? = some 48 ∧ 1 < l.length))) (h : dgI l l.length) : docSmall l = some ((valFrom 0 l : Nat) : Int) := by
  unfold docSmall
  rw [if_neg h0, if_pos]
  rw [List.all_eq_true]
  intro c hc
  exact h c (by rw [List.take_length]; exact hc)
def smV (l : List UInt8) : Int := match docSmall l with
  | none => -1
  | some n => n
/-- The kind found among the first names. -/
def kqP (w : List UInt8) (t : Nat) : Int := if kindP w ≤ (t : Int) then kindP w else 0
theorem kq_zero (w : List UInt8) : kqP w 0 = 0 := by
  unfold kqP
  split
  · by_cases h : kindP w = 0
    · exact h
    · have := (kind_name h).2.1; omega
  · rfl
theorem kq_ten (w : List UInt8) : kqP w 10 = kindP w := by
  unfold kqP
  rw [if_pos]
  by_cases h : kindP w = 0
  · omega
  · exact (kind_name h).2.2
theorem kq_hit {w : List UInt8} {t : Nat} (h1 : 1 ≤ t) (h2 : t ≤ 10) (h : nameP (t : Int) = w) : kqP w t = (t : Int) := by
  have := (name_kind (k := (t : Int)) (by omega) (by omega)).1
  rw [h] at this
  unfold kqP; rw [this, if_pos (Int.le_refl _)]
theorem kq_miss {w : List UInt8} {t : Nat} (h1 : 1 ≤ t) (h2 : t ≤ 10) (h : nameP (t : Int) ≠ w) : kqP w t = kqP w (t - 1) := by
  have hk : kindP w ≠ (t : Int) := fun e => by
    have := (kind_name (w := w) (by rw [e]; omega)).1
    rw [e] at this; exact h this
  unfold kqP
  by_cases h3 : kindP w ≤ (t : Int)
  · rw [if_pos h3, if_pos (by omega)]
  · rw [if_neg h3, if_neg (by omega)]
end Go.Proofs.YtnapbfilkahobaaGreatDoor

/- The document's way through a line: which way ends how. -/
namespace Go.Proofs.YtnapbfilkahobaaGreatDoor
set_option linter.unusedVariables false

theorem dr_nokind {line w0 : List UInt8} {ws : List (List UInt8)} (hs : splitW line = w0 :: ws) (hk : kindP w0 = 0) : docRead line = none := by
  unfold docRead; rw [hs]; simp only; rw [if_pos hk]
theorem dr_notext {line w0 : List UInt8} {ws : List (List UInt8)} (hs : splitW line = w0 :: ws) (hk : kindP w0 ≠ 0) (ht : hasTP (kindP w0) = true) (hw : ws = []) : docRead line = none := by
  unfold docRead; rw [hs]; simp only; rw [if_neg hk, if_pos ⟨ht, hw⟩]
def usD (k : Int) (ws : List (List UInt8)) : List (List UInt8) := if hasTP k then ws.dropLast else ws
def txD (k : Int) (ws : List (List UInt8)) : List UInt8 := if hasTP k then ws.getLast?.getD [] else []
def nD (k : Int) (ns : List Int) : Int := if hasNP k then ns.getLast?.getD 0 else 0
def fsD (k : Int) (ns : List Int) : List Int := if hasNP k then ns.dropLast else ns
theorem dr_nonum {line w0 : List UInt8} {ws : List (List UInt8)} (hs : splitW line = w0 :: ws) (hk : kindP w0 ≠ 0) (ht : ¬ (hasTP (kindP w0) = true ∧ ws = [])) (hn : numsR (usD (kindP w0) ws) = none) : docRead line = none := by
  unfold docRead; rw [hs]; simp only; rw [if_neg hk, if_neg ht]
  unfold usD at hn; rw [hn]
theorem dr_nocount {line w0 : List UInt8} {ws : List (List UInt8)} {ns : List Int} (hs : splitW line = w0 :: ws) (hk : kindP w0 ≠ 0) (ht : ¬ (hasTP (kindP w0) = true ∧ ws = [])) (hn : numsR (usD (kindP w0) ws) = some ns) (hc : hasNP (kindP w0) = true) (h0 : ns = []) : docRead line = none := by
  unfold docRead; rw [hs]; simp only; rw [if_neg hk, if_neg ht]
  unfold usD at hn; rw [hn]; simp only; rw [if_pos ⟨hc, h0⟩]
theorem dr_shape {line w0 : List UInt8} {ws : List (List UInt8)} {ns : List Int} (hs : splitW line = w0 :: ws) (hk : kindP w0 ≠ 0) (ht : ¬ (hasTP (kindP w0) = true ∧ ws = [])) (hn : numsR (usD (kindP w0) ws) = some ns) (hc : ¬ (hasNP (kindP w0) = true ∧ ns = []))
    (hsh : (kindP w0 = 1 ∧ 0 < (fsD (kindP w0) ns).length) ∨ (kindP w0 ≠ 1 ∧ kindP w0 ≠ 6 ∧ (fsD (kindP w0) ns).length ≠ 1)) : docRead line = none := by
  unfold docRead; rw [hs]; simp only; rw [if_neg hk, if_neg ht]
  unfold usD at hn; rw [hn]; simp only; rw [if_neg hc]
  unfold fsD at hsh; rw [if_pos hsh]
theorem dr_ok {line w0 : List UInt8} {ws : List (List UInt8)} {ns : List Int} (hs : splitW line = w0 :: ws) (hk : kindP w0 ≠ 0) (ht : ¬ (hasTP (kindP w0) = true ∧ ws = [])) (hn : numsR (usD (kindP w0) ws) = some ns) (hc : ¬ (hasNP (kindP w0) = true ∧ ns = []))
    (hsh : ¬ ((kindP w0 = 1 ∧ 0 < (fsD (kindP w0) ns).length) ∨ (kindP w0 ≠ 1 ∧ kindP w0 ≠ 6 ∧ (fsD (kindP w0) ns).length ≠ 1))) : docRead line = some ⟨kindP w0, fsD (kindP w0) ns, ⟨(txD (kindP w0) ws).toArray⟩, nD (kindP w0) ns⟩ := by
  unfold docRead; rw [hs]; simp only; rw [if_neg hk, if_neg ht]
  unfold usD at hn; rw [hn]; simp only; rw [if_neg hc]
  unfold fsD at hsh; rw [if_neg hsh]; rfl
/-- The loop over lines, so far. -/
noncomputable def endD (l : List Nd) : Job := if endsP l = 0 then .ok l else .bad l.length (endsP l)
theorem dl_skip {l : List Nd} : docLoop l [[]] = endD l := by rw [docLoop, if_pos rfl, if_pos rfl]; rfl
theorem dl_open {l : List Nd} {line : List UInt8} (h : line ≠ []) : docLoop l [line] = .bad l.length 2 := by rw [docLoop, if_pos rfl, if_neg h]
theorem dl_none {l : List Nd} {line : List UInt8} {rest : List (List UInt8)} (hr : rest ≠ []) (h : docRead line = none) : docLoop l (line :: rest) = .bad l.length 2 := by rw [docLoop, if_neg hr, h]
theorem dl_full {l : List Nd} {line : List UInt8} {rest : List (List UInt8)} {nd : Nd} (hr : rest ≠ []) (h : docRead line = some nd) (hl : l.length = 12) : docLoop l (line :: rest) = .bad l.length 4 := by rw [docLoop, if_neg hr, h]; simp only; rw [if_pos hl]
theorem dl_wrong {l : List Nd} {line : List UInt8} {rest : List (List UInt8)} {nd : Nd} (hr : rest ≠ []) (h : docRead line = some nd) (hl : l.length ≠ 12) (hn : nodeP l nd ≠ 0) : docLoop l (line :: rest) = .bad l.length (nodeP l nd) := by rw [docLoop, if_neg hr, h]; simp only; rw [if_neg hl, if_neg hn]
theorem dl_right {l : List Nd} {line : List UInt8} {rest : List (List UInt8)} {nd : Nd} (hr : rest ≠ []) (h : docRead line = some nd) (hl : l.length ≠ 12) (hn : nodeP l nd = 0) : docLoop l (line :: rest) = docLoop (l ++ [nd]) rest := by rw [docLoop, if_neg hr, h]; simp only; rw [if_neg hl, if_pos hn]
theorem dl_parse (s : List UInt8) : docLoop [] (cutC 10 s) = parseP false s := by
  rw [cutC_10, doc_parse (s.length + 1) [] s (by omega)]; rfl
end Go.Proofs.YtnapbfilkahobaaGreatDoor
