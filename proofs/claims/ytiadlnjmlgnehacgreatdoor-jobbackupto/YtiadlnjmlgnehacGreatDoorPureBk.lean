/- Jobs as texts: what is printed is read as it was, and what is read is printed as it was: the plain half of JobBack. -/
import Derived.Test.YtiadlnjmlgnehacGreatDoorPureJ
import Derived.Test.YtiadlnjmlgnehacGreatDoorPureI
import Derived.Lib.ItoaNum
namespace Go.Proofs.YtiadlnjmlgnehacGreatDoor
open Go.Lib (decDigits itoa)
set_option linter.unusedVariables false

/-- The kinds' names. -/
def nameP (k : Int) : List UInt8 :=
  if k = 1 then [115, 111, 117, 114, 99, 101] else if k = 2 then [109, 97, 112] else if k = 3 then [102, 105, 108, 116, 101, 114]
  else if k = 4 then [115, 117, 98] else if k = 5 then [99, 111, 112, 121] else if k = 6 then [117, 110, 105, 111, 110]
  else if k = 7 then [102, 111, 108, 100] else if k = 8 then [101, 118, 101, 114, 121] else if k = 9 then [102, 105, 114, 115, 116]
  else if k = 10 then [115, 105, 110, 107] else []
def kindP (w : List UInt8) : Int :=
  if w = nameP 1 then 1 else if w = nameP 2 then 2 else if w = nameP 3 then 3 else if w = nameP 4 then 4 else if w = nameP 5 then 5
  else if w = nameP 6 then 6 else if w = nameP 7 then 7 else if w = nameP 8 then 8 else if w = nameP 9 then 9 else if w = nameP 10 then 10 else 0
theorem kind_name {w : List UInt8} (h : kindP w ≠ 0) : nameP (kindP w) = w ∧ 1 ≤ kindP w ∧ kindP w ≤ 10 := by
  unfold kindP at h ⊢
  repeat' split
  all_goals first
    | (rename_i e; exact ⟨e.symm, by decide, by decide⟩)
    | (exfalso; apply h; repeat rw [if_neg (by assumption)])
theorem kinds {k : Int} (h1 : 1 ≤ k) (h2 : k ≤ 10) : k = 1 ∨ k = 2 ∨ k = 3 ∨ k = 4 ∨ k = 5 ∨ k = 6 ∨ k = 7 ∨ k = 8 ∨ k = 9 ∨ k = 10 := by omega
theorem name_kind {k : Int} (h1 : 1 ≤ k) (h2 : k ≤ 10) : kindP (nameP k) = k ∧ (32 : UInt8) ∉ nameP k ∧ (10 : UInt8) ∉ nameP k := by
  rcases kinds h1 h2 with rfl | rfl | rfl | rfl | rfl | rfl | rfl | rfl | rfl | rfl
  all_goals decide

/-- The words of a line. -/
def splitW : List UInt8 → List (List UInt8)
  | [] => [[]]
  | c :: r => if c = 32 then [] :: splitW r else
    match splitW r with
    | [] => [[c]]
    | w :: ws => (c :: w) :: ws
def joinB (ws : List (List UInt8)) : List UInt8 := ws.flatMap fun w => 32 :: w
theorem split_some (l : List UInt8) : ∃ w ws, splitW l = w :: ws := by
  cases l with
  | nil => exact ⟨[], [], rfl⟩
  | cons c r =>
    rw [splitW]
    split
    · exact ⟨_, _, rfl⟩
    · split <;> exact ⟨_, _, rfl⟩
theorem split_join : ∀ (l : List UInt8) (w : List UInt8) (ws : List (List UInt8)), splitW l = w :: ws → l = w ++ joinB ws
  | [], w, ws, h => by
    rw [splitW] at h
    injection h with h1 h2
    subst h1; subst h2; rfl
  | c :: r, w, ws, h => by
    obtain ⟨w', ws', e⟩ := split_some r
    have ih := split_join r w' ws' e
    rw [splitW, e] at h
    split at h
    · rename_i hc
      injection h with h1 h2
      subst h1; subst h2; subst hc
      rw [ih]; simp [joinB]
    · injection h with h1 h2
      subst h1; subst h2
      rw [ih]; rfl
theorem split_app : ∀ (w : List UInt8) (l : List UInt8) (w' : List UInt8) (ws : List (List UInt8)), (32 : UInt8) ∉ w → splitW l = w' :: ws → splitW (w ++ l) = (w ++ w') :: ws
  | [], l, w', ws, _, h => h
  | c :: w, l, w', ws, hn, h => by
    have hc : c ≠ 32 := fun e => hn (by rw [e]; exact List.mem_cons_self)
    have ih := split_app w l w' ws (fun hm => hn (List.mem_cons_of_mem _ hm)) h
    rw [List.cons_append, splitW, if_neg hc, ih]; rfl
theorem split_of : ∀ (ws : List (List UInt8)) (w : List UInt8), (32 : UInt8) ∉ w → (∀ x ∈ ws, (32 : UInt8) ∉ x) → splitW (w ++ joinB ws) = w :: ws
  | [], w, hw, _ => by
    have := split_app w [] [] [] hw rfl
    simpa [joinB] using this
  | x :: ws, w, hw, h => by
    have ih := split_of ws x (h x List.mem_cons_self) (fun y hy => h y (List.mem_cons_of_mem _ hy))
    have e : splitW (joinB (x :: ws)) = [] :: x :: ws := by
      show splitW (32 :: (x ++ joinB ws)) = _
      rw [splitW, if_pos rfl, ih]
    have := split_app w _ _ _ hw e
    simpa using this

open Classical in
/-- A number of a line. -/
noncomputable def numR (w : List UInt8) : Option Int := if h : ∃ n : Int, (0 ≤ n ∧ n ≤ 999) ∧ itoa n = w then some h.choose else none
theorem numR_some {w : List UInt8} {n : Int} (h : numR w = some n) : itoa n = w ∧ 0 ≤ n ∧ n ≤ 999 := by
  unfold numR at h
  split at h
  · rename_i hx
    injection h with h
    subst h
    exact ⟨hx.choose_spec.2, hx.choose_spec.1⟩
  · cases h
theorem dec_inj : ∀ (u v : Nat), decDigits u = decDigits v → u = v := by
  intro u
  induction u using Nat.strongRecOn with
  | ind u ih =>
    intro v h
    have l1 : ∀ x : Nat, decDigits x ≠ [] := fun x => by rw [decDigits]; split <;> simp
    rw [decDigits, decDigits.eq_def v] at h
    have t8 : ∀ x : Nat, x < 10 → (UInt8.ofNat (48 + x)).toNat = 48 + x := fun x hx => by rw [UInt8.toNat_ofNat']; omega
    split at h
    · split at h
      · have h3 := congrArg UInt8.toNat (List.cons.inj h).1
        rw [t8 _ (by assumption), t8 _ (by assumption)] at h3
        omega
      · have := congrArg List.length h
        have h4 := List.length_pos_iff.2 (l1 (v / 10))
        rw [List.length_append] at this
        simp only [List.length_cons, List.length_nil] at this
        omega
    · split at h
      · have := congrArg List.length h
        have h4 := List.length_pos_iff.2 (l1 (u / 10))
        rw [List.length_append] at this
        simp only [List.length_cons, List.length_nil] at this
        omega
      · obtain ⟨h5, h6⟩ := List.append_inj' h (by simp)
        have h7 := ih (u / 10) (by omega) (v / 10) h5
        have h3 := congrArg UInt8.toNat (List.cons.inj h6).1
        rw [t8 _ (by omega), t8 _ (by omega)] at h3
        omega
theorem ito_nat (n : Nat) : itoa (n : Int) = decDigits n := by
  unfold itoa
  rw [if_neg (by omega)]; rfl
theorem numR_of {n : Int} (h0 : 0 ≤ n) (h9 : n ≤ 999) : numR (itoa n) = some n := by
  have hx : ∃ m : Int, (0 ≤ m ∧ m ≤ 999) ∧ itoa m = itoa n := ⟨n, ⟨h0, h9⟩, rfl⟩
  unfold numR
  rw [dif_pos hx]
  obtain ⟨⟨a, b⟩, e⟩ := hx.choose_spec
  generalize hx.choose = x at *
  obtain ⟨m, rfl⟩ : ∃ m : Nat, n = m := ⟨n.toNat, by omega⟩
  obtain ⟨y, rfl⟩ : ∃ m : Nat, x = m := ⟨x.toNat, by omega⟩
  rw [ito_nat, ito_nat] at e
  rw [dec_inj _ _ e]
noncomputable def numsR : List (List UInt8) → Option (List Int)
  | [] => some []
  | w :: ws => match numR w with
    | none => none
    | some n => match numsR ws with
      | none => none
      | some ns => some (n :: ns)
theorem numsR_some : ∀ {ws : List (List UInt8)} {ns : List Int}, numsR ws = some ns → ns.map itoa = ws
  | [], ns, h => by rw [numsR] at h; injection h with h; subst h; rfl
  | w :: ws, ns, h => by
    rw [numsR] at h
    split at h
    · cases h
    · rename_i n hn
      split at h
      · cases h
      · rename_i ms hm
        injection h with h
        subst h
        rw [List.map_cons, (numR_some hn).1, numsR_some hm]
theorem numsR_of : ∀ {ns : List Int}, (∀ n ∈ ns, 0 ≤ n ∧ n ≤ 999) → numsR (ns.map itoa) = some ns
  | [], _ => rfl
  | n :: ns, h => by
    rw [List.map_cons, numsR, numR_of (h n List.mem_cons_self).1 (h n List.mem_cons_self).2, numsR_of (fun m hm => h m (List.mem_cons_of_mem _ hm))]

/-- The words behind a kind's name: those of From, and its own. -/
def partP (k : Int) (ws : List (List UInt8)) : Option (List (List UInt8) × List UInt8) :=
  if hasNP k || hasTP k then
    match ws.getLast? with
    | none => none
    | some own => if (k = 1 ∧ ws.dropLast = []) ∨ (k ≠ 1 ∧ ws.dropLast.length = 1) then some (ws.dropLast, own) else none
  else if k = 6 ∨ ws.length = 1 then some (ws, []) else none
/-- A line as a node (e: an empty Text makes it none). -/
noncomputable def readNd (e : Bool) (line : List UInt8) : Option Nd :=
  match splitW line with
  | [] => none
  | w :: ws =>
    if kindP w = 0 then none else
    match partP (kindP w) ws with
    | none => none
    | some (fr, own) =>
      match numsR fr with
      | none => none
      | some fs =>
        if hasNP (kindP w) then (numR own).map fun n => ⟨kindP w, fs, ByteArray.empty, n⟩
        else if hasTP (kindP w) then (if e = true ∧ own = [] then none else some ⟨kindP w, fs, ⟨own.toArray⟩, 0⟩)
        else some ⟨kindP w, fs, ByteArray.empty, 0⟩
def wordsB (nd : Nd) : List (List UInt8) := nd.fs.map itoa ++ (if hasNP nd.k then [itoa nd.n] else []) ++ (if hasTP nd.k then [nd.tx.data.toList] else [])
def lineB (nd : Nd) : List UInt8 := nameP nd.k ++ joinB (wordsB nd)
def printB (l : List Nd) : List UInt8 := l.flatMap fun nd => lineB nd ++ [10]
theorem nt_not {k : Int} (h : hasNP k = true) : hasTP k = false := by
  unfold hasNP at h
  unfold hasTP
  simp at h ⊢
  omega
theorem last_drop {ws : List (List UInt8)} {own : List UInt8} (h : ws.getLast? = some own) : ws.dropLast ++ [own] = ws := by
  obtain ⟨hn, e⟩ := List.getLast?_eq_some_iff.1 h |>.elim (fun p e => (⟨by rw [e]; simp, by rw [e]; simp⟩ : ws ≠ [] ∧ ws.dropLast ++ [own] = ws))
  exact e
theorem read_line {e : Bool} {line : List UInt8} {nd : Nd} (h : readNd e line = some nd) : lineB nd = line := by
  unfold readNd at h
  split at h
  · cases h
  · rename_i w ws hs
    have hl := split_join _ _ _ hs
    split at h
    · cases h
    · rename_i hk
      obtain ⟨hn, -, -⟩ := kind_name hk
      split at h
      · cases h
      · rename_i fr own hp
        split at h
        · cases h
        · rename_i fs hfs
          have hm := numsR_some hfs
          unfold partP at hp
          cases hN : hasNP (kindP w) with
          | true =>
            have hT := nt_not hN
            rw [hN] at h hp
            simp only [Bool.true_or, if_true] at h hp
            split at hp
            · cases hp
            · rename_i own' hg
              split at hp
              · injection hp with hp
                injection hp with p1 p2
                subst p1; subst p2
                cases hnum : numR own' with
                | none => rw [hnum] at h; cases h
                | some n =>
                  rw [hnum] at h
                  injection h with h
                  subst h
                  unfold lineB wordsB
                  simp only [hN, hT, if_true, Bool.false_eq_true, if_false, List.append_nil]
                  rw [hn, hm, (numR_some hnum).1, last_drop hg, hl]
              · cases hp
          | false =>
            rw [hN] at h hp
            simp only [Bool.false_or, Bool.false_eq_true, if_false] at h hp
            cases hT : hasTP (kindP w) with
            | true =>
              rw [hT] at h hp
              simp only [if_true] at h hp
              split at hp
              · cases hp
              · rename_i own' hg
                split at hp
                · injection hp with hp
                  injection hp with p1 p2
                  subst p1; subst p2
                  split at h
                  · cases h
                  · injection h with h
                    subst h
                    unfold lineB wordsB
                    simp only [hN, hT, if_true, Bool.false_eq_true, if_false, List.append_nil]
                    rw [hn, hm, last_drop hg, hl]
                · cases hp
            | false =>
              rw [hT] at h hp
              simp only [Bool.false_eq_true, if_false] at h hp
              split at hp
              · injection hp with hp
                injection hp with p1 p2
                subst p1; subst p2
                injection h with h
                subst h
                unfold lineB wordsB
                simp only [hN, hT, Bool.false_eq_true, if_false, List.append_nil]
                rw [hn, hm, hl]
              · cases hp

/-- What a text of an expression holds: neither a blank nor a line's end. -/
def Tight (s : List UInt8) : Prop := s ≠ [] ∧ (32 : UInt8) ∉ s ∧ (10 : UInt8) ∉ s
theorem gr_tight {d l : Nat} {s : List UInt8} {t : Tm} (h : Gr d l s t) : Tight s := by
  unfold Tight
  induction h with
  | num d s h hd h0 hv => exact ⟨h, fun hm => absurd (hd _ hm) (by decide), fun hm => absurd (hd _ hm) (by decide)⟩
  | vn => decide
  | vs => decide
  | brk h ih => exact ⟨by simp, by simp [ih.2.1], by simp [ih.2.2]⟩
  | mn ha hb iha ihb => exact ⟨by simp, by simp [iha.2.1, ihb.2.1], by simp [iha.2.2, ihb.2.2]⟩
  | mx ha hb iha ihb => exact ⟨by simp, by simp [iha.2.1, ihb.2.1], by simp [iha.2.2, ihb.2.2]⟩
  | neg h ih => exact ⟨by simp, by simp [ih.2.1], by simp [ih.2.2]⟩
  | mul op ho ha hb iha ihb =>
    have n1 : ¬ (32 : UInt8) = op := fun e => by subst e; exact absurd ho (by decide)
    have n2 : ¬ (10 : UInt8) = op := fun e => by subst e; exact absurd ho (by decide)
    exact ⟨by simp, by simp [iha.2.1, ihb.2.1, n1], by simp [iha.2.2, ihb.2.2, n2]⟩
  | add op ho ha hb iha ihb =>
    have n1 : ¬ (32 : UInt8) = op := fun e => by subst e; exact absurd ho (by decide)
    have n2 : ¬ (10 : UInt8) = op := fun e => by subst e; exact absurd ho (by decide)
    exact ⟨by simp, by simp [iha.2.1, ihb.2.1, n1], by simp [iha.2.2, ihb.2.2, n2]⟩
  | cmp op ho ha hb iha ihb =>
    have n1 : ¬ (32 : UInt8) = op := fun e => by subst e; exact absurd ho (by decide)
    have n2 : ¬ (10 : UInt8) = op := fun e => by subst e; exact absurd ho (by decide)
    exact ⟨by simp, by simp [iha.2.1, ihb.2.1, n1], by simp [iha.2.2, ihb.2.2, n2]⟩
  | cond ha hb hc iha ihb ihc => exact ⟨by simp, by simp [iha.2.1, ihb.2.1, ihc.2.1], by simp [iha.2.2, ihb.2.2, ihc.2.2]⟩
  | up hl h ih => exact ih
theorem tx_tight {l : List UInt8} (h : txP l = 0) : Tight l := by
  unfold txP at h
  cases hr : readP l with
  | ok t v => exact gr_tight (read_ok hr).2.2
  | bad p e => rw [hr] at h; exact absurd h (read_bad_pos hr)
theorem dec_tight (u : Nat) : ∀ c ∈ decDigits u, 48 ≤ c.toNat := by
  induction u using Nat.strongRecOn with
  | ind u ih =>
    intro c hc
    rw [decDigits] at hc
    split at hc
    · rw [List.mem_singleton] at hc; subst hc; rw [UInt8.toNat_ofNat']; omega
    · rcases List.mem_append.1 hc with h | h
      · exact ih (u / 10) (by omega) c h
      · rw [List.mem_singleton] at h; subst h; rw [UInt8.toNat_ofNat']; omega
theorem ito_tight {n : Int} (h : 0 ≤ n) : (32 : UInt8) ∉ itoa n ∧ (10 : UInt8) ∉ itoa n := by
  obtain ⟨m, rfl⟩ : ∃ m : Nat, n = m := ⟨n.toNat, by omega⟩
  rw [ito_nat]
  exact ⟨fun hm => absurd (dec_tight m _ hm) (by decide), fun hm => absurd (dec_tight m _ hm) (by decide)⟩
theorem from_ok {ah : List Nd} : ∀ {fs : List Int}, fromP ah fs = 0 → ∀ f ∈ fs, 0 ≤ f ∧ f < ah.length
  | [], _, f, hf => absurd hf (by simp)
  | g :: fs, h, f, hf => by
    rw [fromP] at h
    split at h
    · rename_i hg
      rcases List.mem_cons.1 hf with rfl | hf
      · unfold fromOne at hg
        split at hg
        · cases hg
        · rename_i hn
          omega
      · exact from_ok h f hf
    · rename_i hg
      exact absurd h hg
/-- What a right node has. -/
theorem node_ok {ah : List Nd} {nd : Nd} (ha : ah.length ≤ 12) (h : nodeP ah nd = 0) : (1 ≤ nd.k ∧ nd.k ≤ 10) ∧ (∀ f ∈ nd.fs, 0 ≤ f ∧ f ≤ 999) ∧ (inLo nd.k ≤ nd.fs.length ∧ nd.fs.length ≤ inHi nd.k) ∧ (0 ≤ nd.n ∧ nd.n ≤ 999) ∧ (hasNP nd.k = false → nd.n = 0) ∧ (hasTP nd.k = false → nd.tx = ByteArray.empty) ∧ (hasTP nd.k = true → Tight nd.tx.data.toList) := by
  unfold nodeP at h
  split at h
  · cases h
  · rename_i h1
    split at h
    · cases h
    · rename_i h2
      split at h
      · rename_i h3
        unfold ownP at h
        split at h
        · cases h
        · rename_i h4
          split at h
          · cases h
          · rename_i h5
            refine ⟨by omega, fun f hf => ?_, by omega, ?_, fun hN => ?_, fun hT => ?_, fun hT => ?_⟩
            · have := from_ok h3 f hf
              omega
            · unfold bdLo bdHi at h5
              constructor
              · have : 0 ≤ (if nd.k = 1 then (1 : Int) else if nd.k = 8 then 1 else 0) := by split <;> (try split) <;> omega
                omega
              · have : (if nd.k = 1 then (8 : Int) else if nd.k = 5 then 3 else if nd.k = 8 then 400 else 0) ≤ 999 := by repeat' split
                                                                                                                         all_goals omega
                omega
            · exact Classical.byContradiction fun hne => h4 (.inr ⟨hne, hN⟩)
            · exact Classical.byContradiction fun hne => h4 (.inl ⟨hne, hT⟩)
            · rw [if_neg (by rw [hT]; decide)] at h
              exact tx_tight h
      · rename_i h3
        exact absurd h h3
theorem words_tight {ah : List Nd} {nd : Nd} (ha : ah.length ≤ 12) (h : nodeP ah nd = 0) : ∀ x ∈ wordsB nd, (32 : UInt8) ∉ x ∧ (10 : UInt8) ∉ x := by
  obtain ⟨hk, hf, hl, hn, hN, hT, ht⟩ := node_ok ha h
  intro x hx
  unfold wordsB at hx
  rcases List.mem_append.1 hx with hx | hx
  · rcases List.mem_append.1 hx with hx | hx
    · obtain ⟨f, hm, rfl⟩ := List.mem_map.1 hx
      exact ito_tight (hf f hm).1
    · split at hx
      · rw [List.mem_singleton] at hx; subst hx; exact ito_tight hn.1
      · simp at hx
  · split at hx
    · rename_i ht'
      rw [List.mem_singleton] at hx; subst hx; exact (ht ht').2
    · simp at hx
theorem ba_back (b : ByteArray) : (⟨b.data.toList.toArray⟩ : ByteArray) = b := by cases b; simp
theorem line_read (e : Bool) {ah : List Nd} {nd : Nd} (ha : ah.length ≤ 12) (h : nodeP ah nd = 0) : readNd e (lineB nd) = some nd := by
  have hw := words_tight ha h
  obtain ⟨hk, hf, hl, hn, hN, hT, ht⟩ := node_ok ha h
  obtain ⟨e1, e2, e3⟩ := name_kind hk.1 hk.2
  have hs : splitW (lineB nd) = nameP nd.k :: wordsB nd := split_of _ _ e2 (fun x hx => (hw x hx).1)
  have hfs := numsR_of hf
  have hnn := numR_of hn.1 hn.2
  unfold readNd
  rw [hs]
  simp only []
  rw [e1, if_neg (by omega)]
  unfold partP wordsB
  cases hN' : hasNP nd.k with
  | true =>
    have hT' := nt_not hN'
    have hc : (nd.k = 1 ∧ nd.fs.map itoa = []) ∨ (nd.k ≠ 1 ∧ (nd.fs.map itoa).length = 1) := by
      unfold hasNP at hN'
      unfold inLo inHi at hl
      by_cases h1 : nd.k = 1
      · rw [if_pos h1, if_pos h1] at hl
        exact .inl ⟨h1, by rw [List.map_eq_nil_iff]; exact List.eq_nil_of_length_eq_zero (by omega)⟩
      · have h6 : nd.k ≠ 6 := by simp at hN'; omega
        rw [if_neg h1, if_neg h1, if_neg h6] at hl
        exact .inr ⟨h1, by rw [List.length_map]; omega⟩
    simp only [hT', Bool.true_or, if_true, Bool.false_eq_true, if_false, List.append_nil, List.getLast?_concat, List.dropLast_concat]
    rw [if_pos hc]
    simp only [hfs, hnn, Option.map_some]
    have := hT hT'
    cases nd
    simp_all
  | false =>
    cases hT' : hasTP nd.k with
    | true =>
      have hc : (nd.k = 1 ∧ nd.fs.map itoa = []) ∨ (nd.k ≠ 1 ∧ (nd.fs.map itoa).length = 1) := by
        unfold hasTP at hT'
        unfold inLo inHi at hl
        have h1 : nd.k ≠ 1 := by simp at hT'; omega
        have h6 : nd.k ≠ 6 := by simp at hT'; omega
        rw [if_neg h1, if_neg h1, if_neg h6] at hl
        exact .inr ⟨h1, by rw [List.length_map]; omega⟩
      simp only [Bool.or_true, if_true, Bool.false_eq_true, if_false, List.append_nil, List.getLast?_concat, List.dropLast_concat]
      rw [if_pos hc]
      simp only [hfs]
      rw [if_neg (fun h => (ht hT').1 h.2), ba_back]
      have := hN hN'
      cases nd
      simp_all
    | false =>
      have hc : nd.k = 6 ∨ (nd.fs.map itoa).length = 1 := by
        unfold hasNP at hN'
        unfold inLo inHi at hl
        have h1 : nd.k ≠ 1 := by simp at hN'; omega
        by_cases h6 : nd.k = 6
        · exact .inl h6
        · rw [if_neg h1, if_neg h1, if_neg h6] at hl
          exact .inr (by rw [List.length_map]; omega)
      simp only [Bool.or_self, Bool.false_eq_true, if_false, List.append_nil]
      rw [if_pos hc]
      simp only [hfs]
      have := hN hN'
      have := hT hT'
      cases nd
      simp_all
theorem line_tight {ah : List Nd} {nd : Nd} (ha : ah.length ≤ 12) (h : nodeP ah nd = 0) : (10 : UInt8) ∉ lineB nd := by
  have hw := words_tight ha h
  obtain ⟨hk, -⟩ := node_ok ha h
  intro hm
  unfold lineB at hm
  rcases List.mem_append.1 hm with hm | hm
  · exact (name_kind hk.1 hk.2).2.2 hm
  · unfold joinB at hm
    obtain ⟨x, hx, hm⟩ := List.mem_flatMap.1 hm
    rcases List.mem_cons.1 hm with hm | hm
    · exact absurd hm (by decide)
    · exact (hw x hx).2 hm

/-- A text up to its first line's end; what stands behind it; whether it is there. -/
def cutB : List UInt8 → List UInt8 × List UInt8 × Bool
  | [] => ([], [], false)
  | c :: r => if c = 10 then ([], r, true) else ((c :: (cutB r).1), (cutB r).2.1, (cutB r).2.2)
theorem cut_line : ∀ (w r : List UInt8), (10 : UInt8) ∉ w → cutB (w ++ 10 :: r) = (w, r, true)
  | [], r, _ => by rw [List.nil_append, cutB, if_pos rfl]
  | c :: w, r, h => by
    have ih := cut_line w r (fun hm => h (List.mem_cons_of_mem _ hm))
    rw [List.cons_append, cutB, if_neg (fun e => h (by rw [e]; exact List.mem_cons_self)), ih]
theorem cut_back : ∀ (l : List UInt8), (cutB l).2.2 = true → l = (cutB l).1 ++ 10 :: (cutB l).2.1
  | [], h => by cases h
  | c :: r, h => by
    rw [cutB] at h ⊢
    by_cases hc : c = 10
    · rw [if_pos hc]; subst hc; rfl
    · rw [if_neg hc] at h ⊢
      have ih := cut_back r h
      simp only [List.cons_append]
      rw [← ih]
theorem cut_less : ∀ (l : List UInt8), l ≠ [] → (cutB l).2.1.length < l.length
  | [], h => absurd rfl h
  | c :: r, _ => by
    rw [cutB]
    by_cases hc : c = 10
    · rw [if_pos hc]; simp
    · rw [if_neg hc]
      by_cases hr : r = []
      · subst hr; simp [cutB]
      · have := cut_less r hr
        simp; omega
/-- A job that was read; or the line, and what is wrong there. -/
inductive Job where
  | ok (l : List Nd)
  | bad (at_ e : Nat)
noncomputable def parseF (e : Bool) : Nat → List Nd → List UInt8 → Job
  | 0, _, _ => .bad 0 0
  | f + 1, ah, l =>
    if l = [] then (if endsP ah = 0 then .ok ah else .bad ah.length (endsP ah)) else
    match readNd e (cutB l).1 with
    | none => .bad ah.length 2
    | some nd =>
      if (cutB l).2.2 = false then .bad ah.length 2 else if ah.length = 12 then .bad ah.length 4
      else if nodeP ah nd = 0 then parseF e f (ah ++ [nd]) (cutB l).2.1 else .bad ah.length (nodeP ah nd)
noncomputable def parseP (e : Bool) (l : List UInt8) : Job := parseF e (l.length + 1) [] l
theorem all_app : ∀ (a b c : List Nd), allP c (a ++ b) = 0 ↔ allP c a = 0 ∧ allP (c ++ a) b = 0
  | [], b, c => by simp [allP]
  | x :: a, b, c => by
    rw [List.cons_append, allP, allP]
    by_cases h : nodeP c x = 0
    · rw [if_pos h, if_pos h, all_app a b (c ++ [x])]; simp
    · rw [if_neg h, if_neg h]
      constructor
      · intro h'; exact absurd h' h
      · rintro ⟨h', -⟩; exact absurd h' h
theorem parse_back {e : Bool} : ∀ (f : Nat) (ah : List Nd) (l : List UInt8) (m : List Nd), ah.length ≤ 12 → parseF e f ah l = .ok m → ∃ ns, m = ah ++ ns ∧ l = printB ns ∧ allP ah ns = 0 ∧ m.length ≤ 12 ∧ endsP m = 0
  | 0, ah, l, m, _, h => by cases h
  | f + 1, ah, l, m, ha, h => by
    rw [parseF] at h
    split at h
    · rename_i hl
      split at h
      · rename_i he
        injection h with h
        subst h
        exact ⟨[], by simp, by rw [hl]; rfl, rfl, ha, he⟩
      · cases h
    · split at h
      · cases h
      · rename_i nd hr
        split at h
        · cases h
        · rename_i hc
          split at h
          · cases h
          · rename_i h12
            split at h
            · rename_i hn
              obtain ⟨ns, e1, e2, e3, e4, e5⟩ := parse_back f (ah ++ [nd]) _ m (by simp; omega) h
              refine ⟨nd :: ns, by rw [e1]; simp, ?_, ?_, e4, e5⟩
              · rw [cut_back l (by simpa using hc), e2, ← read_line hr]; simp [printB]
              · rw [allP, if_pos hn]; exact e3
            · cases h
theorem parse_of (e : Bool) : ∀ (ns : List Nd) (f : Nat) (ah : List Nd), (printB ns).length < f → (ah ++ ns).length ≤ 12 → allP ah ns = 0 → endsP (ah ++ ns) = 0 → parseF e f ah (printB ns) = .ok (ah ++ ns)
  | [], f, ah, hf, _, _, he => by
    cases f with
    | zero => omega
    | succ f =>
      rw [List.append_nil] at he
      rw [parseF, if_pos (by rfl), if_pos he, List.append_nil]
  | nd :: ns, f, ah, hf, hl, ha, he => by
    cases f with
    | zero => omega
    | succ f =>
      rw [allP] at ha
      split at ha
      · rename_i hn
        have hl' : ah.length < 12 := by simp at hl; omega
        have ep : printB (nd :: ns) = lineB nd ++ 10 :: printB ns := by simp [printB]
        rw [ep] at hf ⊢
        rw [parseF, if_neg (by simp), cut_line _ _ (line_tight (by omega) hn)]
        simp only [line_read e (by omega : ah.length ≤ 12) hn]
        rw [if_neg (by decide), if_neg (by omega), if_pos hn, parse_of e ns f (ah ++ [nd]) (by simp at hf; omega) (by simpa using hl) ha (by simpa using he)]
        simp
      · rename_i hn
        exact absurd ha hn
/-- What is printed is read as it was. -/
theorem back_job (e : Bool) {l : List Nd} (h : jobP l = 0) : parseP e (printB l) = .ok l := by
  unfold jobP at h
  split at h
  · cases h
  · rename_i h1
    split at h
    · rename_i h2
      have := parse_of e l ((printB l).length + 1) [] (by omega) (by simpa using h1) h2 (by simpa using h)
      simpa [parseP] using this
    · rename_i h2
      exact absurd h h2
/-- What is read is printed as it was. -/
theorem back_text {e : Bool} {l : List UInt8} {m : List Nd} (h : parseP e l = .ok m) : jobP m = 0 ∧ printB m = l := by
  obtain ⟨ns, e1, e2, e3, e4, e5⟩ := parse_back _ [] l m (by simp) h
  rw [List.nil_append] at e1
  subst e1
  refine ⟨?_, e2.symm⟩
  unfold jobP
  rw [if_neg (by omega), if_pos e3, e5]
end Go.Proofs.YtiadlnjmlgnehacGreatDoor
