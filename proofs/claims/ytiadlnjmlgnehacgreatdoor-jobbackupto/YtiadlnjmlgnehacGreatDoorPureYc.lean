/- A line read: its ways, one by one. -/
import Derived.Test.YtiadlnjmlgnehacGreatDoorPureYb
namespace Go.Proofs.YtiadlnjmlgnehacGreatDoor
set_option linter.unusedVariables false
theorem nums_snoc : ∀ {ws : List (List UInt8)} {ns : List Int} {x : List UInt8} {n : Int}, numsR ws = some ns → numR x = some n → numsR (ws ++ [x]) = some (ns ++ [n])
  | [], ns, x, n, h, hx => by
    rw [numsR] at h; injection h with h; subst h
    simp [numsR, hx]
  | w :: ws, ns, x, n, h, hx => by
    rw [numsR] at h
    split at h
    · cases h
    · rename_i m hm
      split at h
      · cases h
      · rename_i ms hms
        injection h with h
        subst h
        rw [List.cons_append, numsR, hm]
        simp only
        rw [nums_snoc hms hx]
        rfl
theorem nums_take {ws : List (List UInt8)} {ns : List Int} {j : Nat} {n : Int} (hj : j < ws.length) (h : numsR (ws.take j) = some ns) (hx : numR ws[j] = some n) : numsR (ws.take (j + 1)) = some (ns ++ [n]) := by
  rw [List.take_succ_eq_append_getElem hj]
  exact nums_snoc h hx
theorem nums_none : ∀ {ws : List (List UInt8)} {j : Nat} (hj : j < ws.length), numR ws[j] = none → numsR ws = none
  | [], j, hj, h => by simp at hj
  | w :: ws, 0, hj, h => by
    rw [numsR]
    rw [List.getElem_cons_zero] at h
    rw [h]
  | w :: ws, j + 1, hj, h => by
    rw [numsR]
    rw [List.getElem_cons_succ] at h
    rw [nums_none (by simpa using hj) h]
    cases numR w <;> rfl
theorem nums_len : ∀ {ws : List (List UInt8)} {ns : List Int}, numsR ws = some ns → ns.length = ws.length := fun h => by
  rw [← numsR_some h, List.length_map]
theorem rd_nokind {l w0 : List UInt8} {ws : List (List UInt8)} (hs : splitW l = w0 :: ws) (hk : kindP w0 = 0) : readNd false l = none := by
  unfold readNd; rw [hs]; simp only; rw [if_pos hk]
theorem rd_nopart {l w0 : List UInt8} {ws : List (List UInt8)} {k : Int} (hs : splitW l = w0 :: ws) (hk : kindP w0 = k) (h0 : k ≠ 0) (hp : partP k ws = none) : readNd false l = none := by
  unfold readNd; rw [hs]; simp only; rw [hk, if_neg h0, hp]
theorem rd_nonum {l w0 own : List UInt8} {ws fr : List (List UInt8)} {k : Int} (hs : splitW l = w0 :: ws) (hk : kindP w0 = k) (h0 : k ≠ 0) (hp : partP k ws = some (fr, own)) (hn : numsR fr = none) : readNd false l = none := by
  unfold readNd; rw [hs]; simp only; rw [hk, if_neg h0, hp]; simp only; rw [hn]
theorem rd_N {l w0 own : List UInt8} {ws fr : List (List UInt8)} {k : Int} {fs : List Int} (hs : splitW l = w0 :: ws) (hk : kindP w0 = k) (h0 : k ≠ 0) (hp : partP k ws = some (fr, own)) (hn : numsR fr = some fs) (hN : hasNP k = true) : readNd false l = (numR own).map fun n => ⟨k, fs, ByteArray.empty, n⟩ := by
  unfold readNd; rw [hs]; simp only; rw [hk, if_neg h0, hp]; simp only; rw [hn]; simp only; rw [if_pos hN]
theorem rd_T {l w0 own : List UInt8} {ws fr : List (List UInt8)} {k : Int} {fs : List Int} (hs : splitW l = w0 :: ws) (hk : kindP w0 = k) (h0 : k ≠ 0) (hp : partP k ws = some (fr, own)) (hn : numsR fr = some fs) (hN : hasNP k = false) (hT : hasTP k = true) : readNd false l = some ⟨k, fs, ⟨own.toArray⟩, 0⟩ := by
  unfold readNd; rw [hs]; simp only; rw [hk, if_neg h0, hp]; simp only; rw [hn]; simp [hN, hT]
theorem rd_O {l w0 own : List UInt8} {ws fr : List (List UInt8)} {k : Int} {fs : List Int} (hs : splitW l = w0 :: ws) (hk : kindP w0 = k) (h0 : k ≠ 0) (hp : partP k ws = some (fr, own)) (hn : numsR fr = some fs) (hN : hasNP k = false) (hT : hasTP k = false) : readNd false l = some ⟨k, fs, ByteArray.empty, 0⟩ := by
  unfold readNd; rw [hs]; simp only; rw [hk, if_neg h0, hp]; simp only; rw [hn]; simp [hN, hT]
theorem join_len (ws : List (List UInt8)) : ∀ x ∈ ws, x.length + 1 ≤ (joinB ws).length := by
  intro x hx
  induction ws with
  | nil => simp at hx
  | cons a ws ih =>
    have e : joinB (a :: ws) = 32 :: a ++ joinB ws := rfl
    rw [e, List.length_append, List.length_cons]
    rcases List.mem_cons.1 hx with rfl | h
    · omega
    · have := ih h; omega
theorem join_many (ws : List (List UInt8)) : ws.length ≤ (joinB ws).length := by
  induction ws with
  | nil => simp
  | cons a ws ih =>
    have e : joinB (a :: ws) = 32 :: a ++ joinB ws := rfl
    rw [e, List.length_append, List.length_cons, List.length_cons]
    omega
theorem split_lens {l w0 : List UInt8} {ws : List (List UInt8)} (hs : splitW l = w0 :: ws) : ws.length ≤ l.length ∧ w0.length ≤ l.length ∧ ∀ x ∈ ws, x.length ≤ l.length := by
  have e := split_join _ _ _ hs
  have h1 := join_many ws
  have h2 := join_len ws
  have e2 : l.length = w0.length + (joinB ws).length := by rw [e, List.length_append]
  refine ⟨by omega, by omega, fun x hx => ?_⟩
  have := h2 x hx; omega
theorem part_sizes {k : Int} {ws fr : List (List UInt8)} {own : List UInt8} (h : partP k ws = some (fr, own)) : (∀ x ∈ fr, x ∈ ws) := by
  unfold partP at h
  split at h
  · split at h
    · cases h
    · split at h
      · injection h with h; injection h with h1 h2; subst h1
        exact fun x hx => List.dropLast_subset _ hx
      · cases h
  · split at h
    · injection h with h; injection h with h1 h2; subst h1
      exact fun x hx => hx
    · cases h
/-- The lines of a text, with whether each is ended. -/
def linesF : Nat → List UInt8 → List (List UInt8 × Bool)
  | 0, _ => []
  | f + 1, l => match l with
    | [] => []
    | b :: r => ((cutB (b :: r)).1, (cutB (b :: r)).2.2) :: linesF f (cutB (b :: r)).2.1
theorem linesF_more : ∀ (f g : Nat) (l : List UInt8), l.length < f → l.length < g → linesF f l = linesF g l
  | 0, g, l, h, _ => by omega
  | f + 1, 0, l, _, h => by omega
  | f + 1, g + 1, [], _, _ => rfl
  | f + 1, g + 1, b :: r, h1, h2 => by
    have hc := cut_less (b :: r) (by simp)
    rw [linesF, linesF]
    rw [linesF_more f g _ (by omega) (by omega)]
def linesP (l : List UInt8) : List (List UInt8 × Bool) := linesF (l.length + 1) l
theorem lines_nil : linesP [] = [] := rfl
theorem lines_cons {l : List UInt8} (h : l ≠ []) : linesP l = ((cutB l).1, (cutB l).2.2) :: linesP (cutB l).2.1 := by
  cases l with
  | nil => exact absurd rfl h
  | cons b r =>
    have hc := cut_less (b :: r) (by simp)
    rw [linesP, linesF]
    rw [linesP, linesF_more _ ((cutB (b :: r)).2.1.length + 1) _ (by omega) (by omega)]
theorem cut_len (l : List UInt8) : (cutB l).1.length ≤ l.length ∧ (cutB l).2.1.length ≤ l.length := by
  by_cases h : (cutB l).2.2 = true
  · have e := congrArg List.length (cut_back l h)
    rw [List.length_append, List.length_cons] at e
    omega
  · rcases idx_ways l 10 with hi | ⟨m, hi, hm⟩
    · rw [cut_none hi]; simp
    · rw [cut_at hi] at h; simp at h
theorem lines_many : ∀ (n : Nat) (l : List UInt8), l.length ≤ n → (linesP l).length ≤ l.length
  | n, [], _ => by simp [lines_nil]
  | 0, b :: r, h => by simp at h
  | n + 1, b :: r, h => by
    have hc := cut_less (b :: r) (by simp)
    rw [lines_cons (by simp), List.length_cons]
    have := lines_many n _ (by omega : (cutB (b :: r)).2.1.length ≤ n)
    omega
theorem rd_sizes {l : List UInt8} {nd : Nd} (h : readNd false l = some nd) : nd.fs.length ≤ l.length ∧ nd.tx.size ≤ l.length := by
  have e := read_line h
  have e2 := congrArg List.length e
  unfold lineB at e2
  rw [List.length_append] at e2
  have h1 := join_many (wordsB nd)
  have h2 : nd.fs.length ≤ (wordsB nd).length := by unfold wordsB; simp
  refine ⟨by omega, ?_⟩
  by_cases hT : hasTP nd.k = true
  · have h3 := join_len (wordsB nd) nd.tx.data.toList (by unfold wordsB; simp [hT])
    have h4 : nd.tx.data.toList.length = nd.tx.size := Array.length_toList
    omega
  · have : nd.tx = ByteArray.empty := by
      unfold readNd at h
      split at h
      · cases h
      · split at h
        · cases h
        · split at h
          · cases h
          · split at h
            · cases h
            · split at h
              · cases hn : numR _ with
                | none => rw [hn] at h; cases h
                | some n => rw [hn] at h; injection h with h; subst h; rfl
              · split at h
                · rename_i hT2
                  exfalso
                  simp at h
                  subst h
                  exact hT hT2
                · injection h with h; subst h; rfl
    rw [this]; exact Nat.zero_le _
/-- One line more, behind right ones. -/
noncomputable def stepL (ah : List Nd) (x : List UInt8 × Bool) : Job :=
  match readNd false x.1 with
  | none => .bad ah.length 2
  | some nd => if x.2 = false then .bad ah.length 2 else if ah.length = 12 then .bad ah.length 4 else if nodeP ah nd = 0 then .ok (ah ++ [nd]) else .bad ah.length (nodeP ah nd)
noncomputable def runL : Job → List (List UInt8 × Bool) → Job
  | .bad a e, _ => .bad a e
  | .ok ah, [] => .ok ah
  | .ok ah, x :: xs => runL (stepL ah x) xs
theorem runL_bad (a e : Nat) : ∀ xs, runL (.bad a e) xs = .bad a e
  | [] => rfl
  | _ :: _ => rfl
theorem runL_app : ∀ (xs : List (List UInt8 × Bool)) (j : Job) (ys : List (List UInt8 × Bool)), runL j (xs ++ ys) = runL (runL j xs) ys
  | xs, .bad a e, ys => by rw [runL_bad, runL_bad, runL_bad]
  | [], .ok ah, ys => rfl
  | x :: xs, .ok ah, ys => by rw [List.cons_append, runL, runL, runL_app xs]
def endL : Job → Job
  | .ok ah => if endsP ah = 0 then .ok ah else .bad ah.length (endsP ah)
  | .bad a e => .bad a e
theorem parse_lines : ∀ (f : Nat) (ah : List Nd) (l : List UInt8), l.length < f → parseF false f ah l = endL (runL (.ok ah) (linesP l))
  | 0, _, _, h => by omega
  | f + 1, ah, l, h => by
    rw [parseF]
    by_cases hl : l = []
    · subst hl
      rw [if_pos rfl, lines_nil]; rfl
    · rw [if_neg hl, lines_cons hl, runL]
      have hc := cut_less l hl
      unfold stepL
      simp only
      cases hr : readNd false (cutB l).1 with
      | none => simp only; rw [runL_bad]; rfl
      | some nd =>
        simp only
        split
        · rw [runL_bad]; rfl
        · split
          · rw [runL_bad]; rfl
          · split
            · exact parse_lines f _ _ (by omega)
            · rw [runL_bad]; rfl
/-- Where one is behind some lines. -/
noncomputable def stL (pre : List (List UInt8 × Bool)) : Job := runL (.ok []) pre
theorem stL_nil : stL [] = .ok [] := rfl
theorem stL_snoc {pre : List (List UInt8 × Bool)} {ah : List Nd} (h : stL pre = .ok ah) (x : List UInt8 × Bool) : stL (pre ++ [x]) = stepL ah x := by
  unfold stL at *
  rw [runL_app, h]
  rw [runL]
  cases stepL ah x with
  | ok l => rfl
  | bad a e => rfl
theorem parse_done {l : List UInt8} {ah : List Nd} (h : stL (linesP l) = .ok ah) : parseP false l = endL (.ok ah) := by
  rw [parseP, parse_lines _ _ _ (by omega)]
  unfold stL at h
  rw [h]
theorem parse_stop {l : List UInt8} {pre suf : List (List UInt8 × Bool)} {a e : Nat} (hl : linesP l = pre ++ suf) (h : stL pre = .bad a e) : parseP false l = .bad a e := by
  rw [parseP, parse_lines _ _ _ (by omega), hl, runL_app]
  unfold stL at h
  rw [h, runL_bad]; rfl
theorem stL_le : ∀ {xs : List (List UInt8 × Bool)} {ah bh : List Nd}, ah.length ≤ 12 → runL (.ok ah) xs = .ok bh → bh.length ≤ 12
  | [], ah, bh, h, e => by rw [runL] at e; injection e with e; subst e; exact h
  | x :: xs, ah, bh, h, e => by
    rw [runL] at e
    cases hs : stepL ah x with
    | bad a b => rw [hs, runL_bad] at e; cases e
    | ok ch =>
      rw [hs] at e
      refine stL_le ?_ e
      unfold stepL at hs
      split at hs
      · cases hs
      · split at hs
        · cases hs
        · split at hs
          · cases hs
          · split at hs
            · injection hs with hs; subst hs; simp; omega
            · cases hs
theorem st_none {ah : List Nd} {x : List UInt8 × Bool} (h : readNd false x.1 = none) : stepL ah x = .bad ah.length 2 := by unfold stepL; rw [h]
theorem st_open {ah : List Nd} {x : List UInt8 × Bool} (h : x.2 = false) : stepL ah x = .bad ah.length 2 := by
  unfold stepL; cases readNd false x.1 <;> simp [h]
theorem st_full {ah : List Nd} {x : List UInt8 × Bool} {nd : Nd} (h : readNd false x.1 = some nd) (h2 : x.2 = true) (h3 : ah.length = 12) : stepL ah x = .bad ah.length 4 := by
  unfold stepL; rw [h]; simp [h2, h3]
theorem st_wrong {ah : List Nd} {x : List UInt8 × Bool} {nd : Nd} (h : readNd false x.1 = some nd) (h2 : x.2 = true) (h3 : ah.length ≠ 12) (h4 : nodeP ah nd ≠ 0) : stepL ah x = .bad ah.length (nodeP ah nd) := by
  unfold stepL; rw [h]; simp [h2, h3, h4]
theorem st_right {ah : List Nd} {x : List UInt8 × Bool} {nd : Nd} (h : readNd false x.1 = some nd) (h2 : x.2 = true) (h3 : ah.length ≠ 12) (h4 : nodeP ah nd = 0) : stepL ah x = .ok (ah ++ [nd]) := by
  unfold stepL; rw [h]; simp [h2, h3, h4]
end Go.Proofs.YtiadlnjmlgnehacGreatDoor
