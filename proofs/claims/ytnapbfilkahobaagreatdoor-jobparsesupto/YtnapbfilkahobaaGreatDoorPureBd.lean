/- The document's way to read a job: the plain half of JobParses. -/
import Derived.Test.YtnapbfilkahobaaGreatDoorHp
namespace Go.Proofs.YtnapbfilkahobaaGreatDoor
open Go.Lib (decDigits itoa)
set_option linter.unusedVariables false

/-- A number of at most three digits. -/
def docSmall (w : List UInt8) : Option Int :=
  if w = [] ∨ 3 < w.length ∨ (w.head? = some 48 ∧ 1 < w.length) then none else if w.all isDg then some (valFrom 0 w : Nat) else none
theorem dg_bd {c : UInt8} (h : isDg c = true) : 48 ≤ c.toNat ∧ c.toNat ≤ 57 := by
  unfold isDg at h; simpa using h
theorem val_three {w : List UInt8} (h : w.length ≤ 3) (hd : ∀ c ∈ w, isDg c = true) : valFrom 0 w ≤ 999 := by
  match w, h, hd with
  | [], _, _ => simp [valFrom]
  | [a], _, hd =>
    have := dg_bd (hd a (by simp))
    simp [valFrom, stepV]; omega
  | [a, b], _, hd =>
    have := dg_bd (hd a (by simp))
    have := dg_bd (hd b (by simp))
    simp [valFrom, stepV]; omega
  | [a, b, c], _, hd =>
    have := dg_bd (hd a (by simp))
    have := dg_bd (hd b (by simp))
    have := dg_bd (hd c (by simp))
    simp [valFrom, stepV]; omega
  | _ :: _ :: _ :: _ :: _, h, _ => simp at h
theorem dec_form {m : Nat} (h : m ≤ 999) : decDigits m ≠ [] ∧ (decDigits m).length ≤ 3 ∧ (∀ c ∈ decDigits m, isDg c = true) ∧ ((decDigits m).head? = some 48 → (decDigits m).length ≤ 1) := by
  have t8 : ∀ x : Nat, x < 10 → (UInt8.ofNat (48 + x)).toNat = 48 + x := fun x hx => by rw [UInt8.toNat_ofNat']; omega
  have d8 : ∀ x : Nat, x < 10 → isDg (UInt8.ofNat (48 + x)) = true := fun x hx => by unfold isDg; rw [t8 x hx]; simp; omega
  have n8 : ∀ x : Nat, x < 10 → x ≠ 0 → UInt8.ofNat (48 + x) ≠ 48 := fun x hx h0 e => by
    have := congrArg UInt8.toNat e
    rw [t8 x hx] at this
    have e2 : (48 : UInt8).toNat = 48 := rfl
    omega
  by_cases h1 : m < 10
  · rw [Go.Lib.decDigits_one h1]
    exact ⟨by simp, by simp, by simpa using d8 m h1, by simp⟩
  · by_cases h2 : m < 100
    · rw [Go.Lib.decDigits_two h1 h2]
      refine ⟨by simp, by simp, ?_, ?_⟩
      · intro c hc
        rcases List.mem_cons.1 hc with rfl | hc
        · exact d8 _ (by omega)
        · rw [List.mem_singleton] at hc
          subst hc
          exact d8 _ (by omega)
      · intro e
        rw [List.head?_cons] at e
        injection e with e
        exact absurd e (n8 _ (by omega) (by omega))
    · rw [decDigits, dif_neg h1, Go.Lib.decDigits_two (by omega) (by omega), List.cons_append, List.cons_append, List.nil_append]
      refine ⟨by simp, by simp, ?_, ?_⟩
      · intro c hc
        rcases List.mem_cons.1 hc with rfl | hc
        · exact d8 _ (by omega)
        · rcases List.mem_cons.1 hc with rfl | hc
          · exact d8 _ (by omega)
          · rw [List.mem_singleton] at hc
            subst hc
            exact d8 _ (by omega)
      · intro e
        rw [List.head?_cons] at e
        injection e with e
        exact absurd e (n8 _ (by omega) (by omega))
theorem small_num (w : List UInt8) : docSmall w = numR w := by
  unfold docSmall
  split
  · rename_i h
    cases hn : numR w with
    | none => rfl
    | some n =>
      obtain ⟨h1, h2, h3⟩ := numR_some hn
      obtain ⟨m, rfl⟩ : ∃ m : Nat, n = m := ⟨n.toNat, by omega⟩
      rw [ito_nat] at h1
      obtain ⟨f1, f2, f3, f4⟩ := dec_form (m := m) (by omega)
      rw [h1] at f1 f2 f3 f4
      rcases h with h | h | ⟨h, h'⟩
      · exact absurd h f1
      · omega
      · have := f4 h; omega
  · rename_i h
    have hw : w ≠ [] := fun e => h (.inl e)
    have hl : w.length ≤ 3 := by
      by_cases hl : 3 < w.length
      · exact absurd (.inr (.inl hl)) h
      · omega
    have h0 : w.head? = some 48 → w = [48] := fun e => by
      by_cases h1 : 1 < w.length
      · exact absurd (.inr (.inr ⟨e, h1⟩)) h
      · match w, e, h1 with
        | [c], e, _ => simp at e; rw [e]
        | [], e, _ => simp at e
        | _ :: _ :: _, _, h1 => simp at h1
    split
    · rename_i ha
      have hd : ∀ c ∈ w, isDg c = true := List.all_eq_true.1 ha
      have hv := val_three hl hd
      have hb := dg_back w hw hd h0
      have := numR_of (n := ((valFrom 0 w : Nat) : Int)) (by omega) (by omega)
      rw [ito_nat, hb] at this
      exact this.symm
    · rename_i ha
      cases hn : numR w with
      | none => rfl
      | some n =>
        obtain ⟨h1, h2, h3⟩ := numR_some hn
        obtain ⟨m, rfl⟩ : ∃ m : Nat, n = m := ⟨n.toNat, by omega⟩
        rw [ito_nat] at h1
        obtain ⟨f1, f2, f3, f4⟩ := dec_form (m := m) (by omega)
        rw [h1] at f3
        exact absurd (List.all_eq_true.2 f3) ha
/-- A line, as the document reads it. -/
noncomputable def docRead (line : List UInt8) : Option Nd :=
  match splitW line with
  | [] => none
  | w :: ws =>
    let k := kindP w
    if k = 0 then none else
    if hasTP k = true ∧ ws = [] then none else
    let tx := if hasTP k then ws.getLast?.getD [] else []
    let us := if hasTP k then ws.dropLast else ws
    match numsR us with
    | none => none
    | some ns =>
      if hasNP k = true ∧ ns = [] then none else
      let n := if hasNP k then ns.getLast?.getD 0 else 0
      let fs := if hasNP k then ns.dropLast else ns
      if (k = 1 ∧ 0 < fs.length) ∨ (k ≠ 1 ∧ k ≠ 6 ∧ fs.length ≠ 1) then none else some ⟨k, fs, ⟨tx.toArray⟩, n⟩
theorem numsR_app : ∀ (a b : List (List UInt8)), numsR (a ++ b) = (match numsR a, numsR b with | some x, some y => some (x ++ y) | _, _ => none)
  | [], b => by
    rw [List.nil_append, numsR]
    cases numsR b <;> rfl
  | w :: a, b => by
    rw [List.cons_append, numsR, numsR, numsR_app a b]
    cases numR w with
    | none => rfl
    | some n =>
      cases numsR a with
      | none => rfl
      | some x => cases numsR b <;> rfl
theorem numsR_one (w : List UInt8) : numsR [w] = (numR w).map fun n => [n] := by
  rw [numsR, numsR]
  cases numR w <;> rfl
theorem numsR_len {ws : List (List UInt8)} {ns : List Int} (h : numsR ws = some ns) : ns.length = ws.length := by
  rw [← numsR_some h]; simp
theorem doc_read (line : List UInt8) : docRead line = readNd false line := by
  unfold docRead readNd
  cases hs : splitW line with
  | nil => rfl
  | cons w ws =>
    simp only []
    by_cases hk : kindP w = 0
    · rw [if_pos hk, if_pos hk]
    · rw [if_neg hk, if_neg hk]
      generalize kindP w = k at *
      unfold partP
      cases hN : hasNP k with
      | true =>
        have hT := nt_not hN
        have h6 : k ≠ 6 := fun e => by subst e; exact absurd hN (by decide)
        simp only [hT, Bool.false_eq_true, false_and, if_false, Bool.true_or, if_true, true_and]
        cases hg : ws.getLast? with
        | none =>
          rw [List.getLast?_eq_none_iff] at hg
          subst hg
          simp [numsR]
        | some own =>
          have hw := last_drop hg
          rw [← hw, numsR_app, numsR_one]
          simp only [List.dropLast_concat]
          by_cases hc : (k = 1 ∧ ws.dropLast = []) ∨ (k ≠ 1 ∧ ws.dropLast.length = 1)
          · simp only [if_pos hc]
            cases hm : numsR ws.dropLast with
            | none => rfl
            | some fs =>
              have hl := numsR_len hm
              cases hn : numR own with
              | none => rfl
              | some n =>
                simp only [Option.map_some, List.getLast?_concat, List.dropLast_concat, Option.getD_some]
                rw [if_neg (by simp), if_neg ?_]
                · rfl
                · rintro (⟨h1, h2⟩ | ⟨h1, h2, h3⟩)
                  · rcases hc with ⟨-, hc⟩ | ⟨hc, -⟩
                    · rw [hc] at hl; simp at hl; rw [hl] at h2; simp at h2
                    · exact hc h1
                  · rcases hc with ⟨hc, -⟩ | ⟨-, hc⟩
                    · exact h1 hc
                    · omega
          · simp only [if_neg hc]
            cases hm : numsR ws.dropLast with
            | none => rfl
            | some fs =>
              have hl := numsR_len hm
              cases hn : numR own with
              | none => rfl
              | some n =>
                simp only [Option.map_some, List.getLast?_concat, List.dropLast_concat, Option.getD_some]
                rw [if_neg (by simp), if_pos ?_]
                by_cases h1 : k = 1
                · left
                  refine ⟨h1, ?_⟩
                  rcases Nat.eq_zero_or_pos fs.length with h0 | h0
                  · exact absurd (.inl ⟨h1, List.eq_nil_of_length_eq_zero (by omega)⟩) hc
                  · exact h0
                · exact .inr ⟨h1, h6, fun h => hc (.inr ⟨h1, by omega⟩)⟩
      | false =>
        cases hT : hasTP k with
        | true =>
          have h6 : k ≠ 6 := fun e => by subst e; exact absurd hT (by decide)
          have h1 : k ≠ 1 := fun e => by subst e; exact absurd hT (by decide)
          simp only [true_and, Bool.false_eq_true, false_and, if_false, Bool.or_true, if_true]
          cases hg : ws.getLast? with
          | none =>
            rw [List.getLast?_eq_none_iff] at hg
            rw [if_pos hg]
          | some own =>
            rw [if_neg (fun e => by rw [e] at hg; cases hg)]
            by_cases hc : (k = 1 ∧ ws.dropLast = []) ∨ (k ≠ 1 ∧ ws.dropLast.length = 1)
            · simp only [if_pos hc]
              cases hm : numsR ws.dropLast with
              | none => rfl
              | some fs =>
                have hl := numsR_len hm
                simp only [Option.getD_some]
                rw [if_neg ?_]
                rintro (⟨h, -⟩ | ⟨-, -, h3⟩)
                · exact h1 h
                · rcases hc with ⟨hc, -⟩ | ⟨-, hc⟩
                  · exact h1 hc
                  · omega
            · simp only [if_neg hc]
              cases hm : numsR ws.dropLast with
              | none => rfl
              | some fs =>
                have hl := numsR_len hm
                simp only []
                rw [if_pos (.inr ⟨h1, h6, fun h => hc (.inr ⟨h1, by omega⟩)⟩)]
        | false =>
          have h1 : k ≠ 1 := fun e => by subst e; exact absurd hN (by decide)
          simp only [Bool.false_eq_true, false_and, if_false, Bool.or_self]
          by_cases hc : k = 6 ∨ ws.length = 1
          · simp only [if_pos hc]
            cases hm : numsR ws with
            | none => rfl
            | some fs =>
              have hl := numsR_len hm
              simp only []
              rw [if_neg ?_]
              · rfl
              · rintro (⟨h, -⟩ | ⟨-, h6, h3⟩)
                · exact h1 h
                · rcases hc with hc | hc
                  · exact h6 hc
                  · omega
          · simp only [if_neg hc]
            cases hm : numsR ws with
            | none => rfl
            | some fs =>
              have hl := numsR_len hm
              simp only []
              rw [if_pos (.inr ⟨h1, fun h => hc (.inl h), fun h => hc (.inr (by omega))⟩)]

/-- A text, cut at each byte 10. -/
def cutN : List UInt8 → List (List UInt8)
  | [] => [[]]
  | c :: r => if c = 10 then [] :: cutN r else
    match cutN r with
    | [] => [[c]]
    | w :: ws => (c :: w) :: ws
theorem cutN_some (l : List UInt8) : ∃ w ws, cutN l = w :: ws := by
  cases l with
  | nil => exact ⟨[], [], rfl⟩
  | cons c r =>
    rw [cutN]
    split
    · exact ⟨_, _, rfl⟩
    · split <;> exact ⟨_, _, rfl⟩
theorem cutN_cut : ∀ (l : List UInt8), ((cutB l).2.2 = true → cutN l = (cutB l).1 :: cutN (cutB l).2.1) ∧ ((cutB l).2.2 = false → cutN l = [l])
  | [] => ⟨(fun h => absurd h (by decide)), (fun _ => rfl)⟩
  | c :: r => by
    obtain ⟨i1, i2⟩ := cutN_cut r
    by_cases hc : c = 10
    · refine ⟨fun _ => ?_, fun h => ?_⟩
      · rw [cutN, if_pos hc, cutB, if_pos hc]
      · rw [cutB, if_pos hc] at h; cases h
    · refine ⟨fun h => ?_, fun h => ?_⟩
      · rw [cutB, if_neg hc] at h
        rw [cutN, if_neg hc, cutB, if_neg hc, i1 h]
      · rw [cutB, if_neg hc] at h
        rw [cutN, if_neg hc, i2 h]
noncomputable def docLoop : List Nd → List (List UInt8) → Job
  | l, [] => if endsP l = 0 then .ok l else .bad l.length (endsP l)
  | l, line :: rest =>
    if rest = [] then (if line = [] then (if endsP l = 0 then .ok l else .bad l.length (endsP l)) else .bad l.length 2) else
    match docRead line with
    | none => .bad l.length 2
    | some nd => if l.length = 12 then .bad l.length 4 else if nodeP l nd = 0 then docLoop (l ++ [nd]) rest else .bad l.length (nodeP l nd)
/-- The document reads as a program does that takes an empty Text for a word. -/
theorem doc_parse : ∀ (f : Nat) (l : List Nd) (s : List UInt8), s.length < f → docLoop l (cutN s) = parseF false f l s
  | 0, l, s, h => by omega
  | f + 1, l, s, h => by
    rw [parseF]
    by_cases hs : s = []
    · subst hs
      rw [if_pos rfl, show cutN [] = [[]] from rfl, docLoop, if_pos rfl, if_pos rfl]
    · rw [if_neg hs]
      obtain ⟨c1, c2⟩ := cutN_cut s
      cases he : (cutB s).2.2 with
      | true =>
        have hl := cut_less s hs
        rw [c1 he, docLoop, if_neg (by obtain ⟨w, ws, e⟩ := cutN_some (cutB s).2.1; rw [e]; simp), doc_read]
        cases readNd false (cutB s).1 with
        | none => rfl
        | some nd =>
          simp only [Bool.true_eq_false, if_false]
          rw [doc_parse f (l ++ [nd]) _ (by omega)]
      | false =>
        rw [c2 he, docLoop, if_pos rfl, if_neg hs]
        cases readNd false (cutB s).1 with
        | none => rfl
        | some nd => simp only [if_true]
end Go.Proofs.YtnapbfilkahobaaGreatDoor
