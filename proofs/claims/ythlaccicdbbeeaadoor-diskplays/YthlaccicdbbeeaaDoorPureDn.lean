/- The document's disk, plain, and what it has to do with ours. -/
import Derived.Test.YthlaccicdbbeeaaDoorPureDk
namespace Go.Proofs.YthlaccicdbbeeaaDoor

/-- Files in a row, by their names. -/
abbrev Fl := List (ByteArray × List UInt8)
def look : Fl → Fs
  | [], _ => none
  | x :: l, k => if x.1 = k then some x.2 else look l k
/-- The place of a name, from i on. -/
def findP (k : ByteArray) : Nat → Fl → Int
  | _, [] => -1
  | i, x :: l => if x.1 = k then i else findP k (i + 1) l
def ltN (a b : ByteArray) : Bool := decide (a.data.toList < b.data.toList)
/-- One round of with. -/
def wstep (k : ByteArray) (bs : List UInt8) (s : Fl × Bool) (x : ByteArray × List UInt8) : Fl × Bool :=
  if x.1 = k then s else if s.2 = false ∧ ltN k x.1 = true then (s.1 ++ [(k, bs)] ++ [x], true) else (s.1 ++ [x], s.2)
def withP (l : Fl) (k : ByteArray) (bs : List UInt8) (gone : Bool) : Fl :=
  let r := l.foldl (wstep k bs) ([], gone)
  if r.2 = false then r.1 ++ [(k, bs)] else r.1
/-- Names rise. -/
def Rises (l : Fl) : Prop := l.Pairwise fun a b => a.1.data.toList < b.1.data.toList
def FlIs (σ : Fs) (l : Fl) : Prop := Rises l ∧ ∀ k, look l k = σ k

theorem bytes_eq {a b : ByteArray} (h : a.data.toList = b.data.toList) : a = b := bytes_ext h
theorem lt_irr (a : List UInt8) : ¬ a < a := List.lt_irrefl a
theorem lt_tri {a b : ByteArray} (h : a ≠ b) (h' : ¬ a.data.toList < b.data.toList) : b.data.toList < a.data.toList := by
  have h1 : b.data.toList ≤ a.data.toList := List.not_lt.1 h'
  by_cases h2 : b.data.toList < a.data.toList
  · exact h2
  · exact absurd (bytes_ext (List.le_antisymm (List.not_lt.1 h2) h1)) h
theorem look_none {l : Fl} {k : ByteArray} (h : ∀ x ∈ l, x.1 ≠ k) : look l k = none := by
  induction l with
  | nil => rfl
  | cons x l ih => rw [look, if_neg (h x (by simp)), ih (fun y hy => h y (by simp [hy]))]
theorem look_append (l l' : Fl) (k : ByteArray) : look (l ++ l') k = (look l k).or (look l' k) := by
  induction l with
  | nil => simp [look]
  | cons x l ih =>
    rw [List.cons_append, look, look]
    split
    · rfl
    · exact ih

/-- What the rounds of with leave, when it stands in or is struck out. -/
theorem with_true (k : ByteArray) (bs : List UInt8) : ∀ (l : Fl) (o : Fl), l.foldl (wstep k bs) (o, true) = (o ++ l.filter (fun x => decide (x.1 ≠ k)), true)
  | [], o => by simp
  | x :: l, o => by
    rw [List.foldl_cons]
    by_cases e : x.1 = k
    · rw [show wstep k bs (o, true) x = (o, true) from by unfold wstep; rw [if_pos e], with_true k bs l o]
      simp [e]
    · rw [show wstep k bs (o, true) x = (o ++ [x], true) from by unfold wstep; rw [if_neg e, if_neg (by simp)], with_true k bs l (o ++ [x])]
      simp [e]
/-- Put in where it belongs. -/
def putP (k : ByteArray) (bs : List UInt8) : Fl → Fl
  | [] => [(k, bs)]
  | x :: l => if ltN k x.1 = true then (k, bs) :: x :: l else x :: putP k bs l
def delP (l : Fl) (k : ByteArray) : Fl := l.filter (fun x => decide (x.1 ≠ k))
theorem del_eq {k : ByteArray} {x : ByteArray × List UInt8} (l : Fl) (e : x.1 = k) : delP (x :: l) k = delP l k := by unfold delP; rw [List.filter_cons_of_neg (by simp [e])]
theorem del_ne {k : ByteArray} {x : ByteArray × List UInt8} (l : Fl) (e : x.1 ≠ k) : delP (x :: l) k = x :: delP l k := by unfold delP; rw [List.filter_cons_of_pos (by simp [e])]
/-- How with ends. -/
def wfin (k : ByteArray) (bs : List UInt8) (r : Fl × Bool) : Fl := if r.2 = false then r.1 ++ [(k, bs)] else r.1
theorem withP_eq (l : Fl) (k : ByteArray) (bs : List UInt8) (gone : Bool) : withP l k bs gone = wfin k bs (l.foldl (wstep k bs) ([], gone)) := rfl
theorem with_false (k : ByteArray) (bs : List UInt8) : ∀ (l : Fl) (o : Fl), wfin k bs (l.foldl (wstep k bs) (o, false)) = o ++ putP k bs (delP l k)
  | [], o => by simp [wfin, putP, delP]
  | x :: l, o => by
    rw [List.foldl_cons]
    by_cases e : x.1 = k
    · rw [show wstep k bs (o, false) x = (o, false) from by unfold wstep; rw [if_pos e], with_false k bs l o, del_eq l e]
    · rw [del_ne l e, putP]
      by_cases h : ltN k x.1 = true
      · rw [show wstep k bs (o, false) x = (o ++ [(k, bs)] ++ [x], true) from by unfold wstep; rw [if_neg e, if_pos ⟨rfl, h⟩], with_true, if_pos h]
        simp [wfin, delP]
      · rw [show wstep k bs (o, false) x = (o ++ [x], false) from by unfold wstep; rw [if_neg e, if_neg (fun h' => h h'.2)], with_false k bs l (o ++ [x]), if_neg h]
        simp
theorem withP_gone (l : Fl) (k : ByteArray) (bs : List UInt8) : withP l k bs true = delP l k := by
  rw [withP_eq, with_true]; simp [wfin, delP]
theorem withP_put (l : Fl) (k : ByteArray) (bs : List UInt8) : withP l k bs false = putP k bs (delP l k) := by
  rw [withP_eq, with_false]; simp

theorem look_del (l : Fl) (k x : ByteArray) : look (delP l k) x = if x = k then none else look l x := by
  induction l with
  | nil => simp [delP, look]
  | cons y l ih =>
    by_cases e : y.1 = k
    · rw [del_eq l e, ih, look]
      by_cases e2 : x = k
      · rw [if_pos e2, if_pos e2]
      · rw [if_neg e2, if_neg e2, if_neg (fun h => e2 (h.symm.trans e))]
    · rw [del_ne l e, look, look, ih]
      by_cases e2 : y.1 = x
      · rw [if_pos e2, if_pos e2, if_neg (fun h => e (e2.trans h))]
      · rw [if_neg e2, if_neg e2]
theorem FlIs.del {σ : Fs} {l : Fl} (h : FlIs σ l) (k : ByteArray) : FlIs (upd σ k none) (delP l k) := by
  refine ⟨List.Pairwise.filter _ h.1, fun x => ?_⟩
  rw [look_del, h.2 x]; rfl
theorem mem_put (k : ByteArray) (bs : List UInt8) : ∀ (l : Fl) (y : ByteArray × List UInt8), y ∈ putP k bs l → y = (k, bs) ∨ y ∈ l
  | [], y, h => by simp [putP] at h; exact .inl h
  | x :: l, y, h => by
    rw [putP] at h
    split at h
    · rcases List.mem_cons.1 h with h | h
      · exact .inl h
      · exact .inr h
    · rcases List.mem_cons.1 h with h | h
      · exact .inr (by simp [h])
      · rcases mem_put k bs l y h with h | h
        · exact .inl h
        · exact .inr (by simp [h])
theorem put_rises (k : ByteArray) (bs : List UInt8) : ∀ (l : Fl), Rises l → (∀ x ∈ l, x.1 ≠ k) → Rises (putP k bs l)
  | [], _, _ => by simp [putP, Rises]
  | x :: l, h, hne => by
    obtain ⟨h1, h2⟩ := List.pairwise_cons.1 h
    rw [putP]
    split
    · rename_i hlt
      have hlt' : k.data.toList < x.1.data.toList := by simpa [ltN] using hlt
      refine List.pairwise_cons.2 ⟨fun y hy => ?_, h⟩
      rcases List.mem_cons.1 hy with rfl | hy
      · exact hlt'
      · exact List.lt_trans hlt' (h1 y hy)
    · rename_i hlt
      have hx : x.1.data.toList < k.data.toList := lt_tri (fun e => hne x (by simp) e.symm) (by simpa [ltN] using hlt)
      refine List.pairwise_cons.2 ⟨fun y hy => ?_, put_rises k bs l h2 (fun y hy => hne y (by simp [hy]))⟩
      rcases mem_put k bs l y hy with rfl | hy
      · exact hx
      · exact h1 y hy
theorem look_put (k : ByteArray) (bs : List UInt8) : ∀ (l : Fl) (y : ByteArray), (∀ x ∈ l, x.1 ≠ k) → look (putP k bs l) y = if y = k then some bs else look l y
  | [], y, _ => by
    by_cases e : y = k
    · subst e; simp [putP, look]
    · simp [putP, look, e, Ne.symm e]
  | x :: l, y, hne => by
    rw [putP]
    split
    · rw [look]
      by_cases e : y = k
      · rw [if_pos e.symm, if_pos e]
      · rw [if_neg (fun h => e h.symm), if_neg e]
    · rw [look, look, look_put k bs l y (fun z hz => hne z (by simp [hz]))]
      by_cases e : x.1 = y
      · rw [if_pos e, if_pos e, if_neg (fun h => hne x (by simp) (e.trans h))]
      · rw [if_neg e, if_neg e]
theorem FlIs.put {σ : Fs} {l : Fl} (h : FlIs σ l) (k : ByteArray) (bs : List UInt8) : FlIs (upd σ k (some bs)) (putP k bs (delP l k)) := by
  have hne : ∀ x ∈ delP l k, x.1 ≠ k := fun x hx => by unfold delP at hx; simpa using (List.mem_filter.1 hx).2
  refine ⟨put_rises k bs _ (h.del k).1 hne, fun x => ?_⟩
  rw [look_put k bs _ x hne, look_del, h.2 x]
  by_cases e : x = k
  · subst e; rw [if_pos rfl, upd_same]
  · rw [if_neg e, if_neg e, upd_other σ _ e]
theorem FlIs.nil : FlIs (fun _ => none) [] := ⟨by simp [Rises], fun _ => rfl⟩
theorem look_mem {l : Fl} (h : Rises l) {x : ByteArray × List UInt8} (hx : x ∈ l) : look l x.1 = some x.2 := by
  induction l with
  | nil => cases hx
  | cons y l ih =>
    obtain ⟨h1, h2⟩ := List.pairwise_cons.1 h
    rw [look]
    rcases List.mem_cons.1 hx with rfl | hx
    · rw [if_pos rfl]
    · have := h1 x hx
      rw [if_neg (fun e => by rw [e] at this; exact lt_irr _ this), ih h2 hx]
theorem look_some {l : Fl} {k : ByteArray} {b : List UInt8} (h : look l k = some b) : (k, b) ∈ l := by
  induction l with
  | nil => cases h
  | cons y l ih =>
    rw [look] at h
    split at h
    · rename_i e
      injection h with h
      subst e; subst h
      simp
    · exact List.mem_cons_of_mem _ (ih h)
/-- The names of all, as Names has them. -/
theorem FlIs.names {σ : Fs} {l : Fl} (h : FlIs σ l) : NmsIs σ (l.map (·.1)) := by
  refine ⟨?_, ?_, fun k => ?_⟩
  · rw [List.pairwise_map]; exact h.1.imp (fun hab => List.le_of_lt hab)
  · rw [List.Nodup, List.pairwise_map]
    exact h.1.imp (fun {a b} hab e => by rw [e] at hab; exact lt_irr _ hab)
  · rw [List.mem_map, ← h.2 k]
    constructor
    · rintro ⟨x, hx, rfl⟩
      rw [look_mem h.1 hx]; rfl
    · intro hs
      obtain ⟨b, hb⟩ := Option.isSome_iff_exists.1 hs
      exact ⟨(k, b), look_some hb, rfl⟩
/-- Where find finds it. -/
theorem find_none (k : ByteArray) : ∀ (l : Fl) (i : Nat), look l k = none → findP k i l = -1
  | [], _, _ => rfl
  | x :: l, i, h => by
    rw [look] at h
    split at h
    · cases h
    · rename_i e
      rw [findP, if_neg e]; exact find_none k l (i + 1) h
theorem find_some (k : ByteArray) : ∀ (l : Fl) (i : Nat) (b : List UInt8), look l k = some b → ∃ j, ∃ h : j < l.length, findP k i l = ((i + j : Nat) : Int) ∧ l[j] = (k, b)
  | [], _, _, h => by cases h
  | x :: l, i, b, h => by
    rw [look] at h
    split at h
    · rename_i e
      injection h with h
      exact ⟨0, by simp, by rw [findP, if_pos e]; simp, by simp [← e, ← h]⟩
    · rename_i e
      obtain ⟨j, hj, h1, h2⟩ := find_some k l (i + 1) b h
      refine ⟨j + 1, by simp; omega, ?_, by simpa using h2⟩
      rw [findP, if_neg e, h1]; congr 1; omega

/-- A thing that is done. -/
structure Wk where
  kind : Int
  name : ByteArray
  to : ByteArray
  bytes : List UInt8
  n : Int
def doingP (l : Fl) (w : Wk) : Fl :=
  if w.kind = 1 then withP l w.name w.bytes false
  else if w.kind = 2 then (if findP w.name 0 l < 0 then l else withP (withP l w.name [] true) w.to ((look l w.name).getD []) false)
  else if w.kind = 3 then withP l w.name [] true
  else l
structure Kd where
  N : Fl
  S : Fl
  T : List Wk
  st : Int
  sp : Int
def newK : Kd := ⟨[], [], [], 0, -1⟩
/-- How many of those that were done are kept. -/
def keepK (T : List Wk) (n : Int) : Nat := (min (max n 0) T.length).toNat
def doP (k : Kd) (w : Wk) : Int × Kd :=
  if w.kind = 5 then (0, ⟨(k.T.take (keepK k.T w.n)).foldl doingP k.S, (k.T.take (keepK k.T w.n)).foldl doingP k.S, [], 0, -1⟩)
  else if w.kind = 6 then (0, { k with sp := if w.n < 0 then -1 else w.n })
  else if 0 ≤ k.sp ∧ k.sp ≤ k.st then (7, k)
  else if w.kind ≠ 4 ∧ (isNm w.name && (w.kind ≠ 2 || isNm w.to)) = false then (2, k)
  else if w.kind = 1 ∧ 60000 < w.bytes.length then (4, k)
  else if (w.kind = 2 ∨ w.kind = 3) ∧ findP w.name 0 k.N < 0 then (6, k)
  else if w.kind = 4 then (0, ⟨k.N, k.N, [], k.st + 1, k.sp⟩)
  else (0, ⟨doingP k.N w, k.S, k.T ++ [w], k.st + 1, k.sp⟩)

/-- Ours and the document's. -/
structure Tie (d : Ds) (k : Kd) : Prop where
  now : FlIs d.σ k.N
  st : d.s = k.st
  sp : (0 ≤ d.bd ∧ k.sp = d.bd) ∨ (d.bd < 0 ∧ k.sp = -1)
  len : d.U.length = k.T.length
  all : k.N = k.T.foldl doingP k.S
  und : ∀ j, j ≤ d.U.length → FlIs (backs (d.U.drop j) d.σ) ((k.T.take j).foldl doingP k.S)
theorem Tie.new : Tie newD newK := ⟨FlIs.nil, rfl, .inr ⟨by simp [newD], rfl⟩, rfl, rfl, fun j hj => by simp [newD, newK, backs]; exact FlIs.nil⟩
theorem Tie.bars {d : Ds} {k : Kd} (h : Tie d k) : (0 ≤ d.bd ∧ d.bd ≤ d.s) ↔ (0 ≤ k.sp ∧ k.sp ≤ k.st) := by
  have := h.st
  rcases h.sp with ⟨h1, h2⟩ | ⟨h1, h2⟩ <;> omega
/-- One thing more. -/
theorem Tie.more {d : Ds} {k : Kd} (h : Tie d k) (w : Wk) {σ' : Fs} {u : Bk} (hu : u.run σ' = d.σ) (hn : FlIs σ' (doingP k.N w)) : Tie ⟨σ', d.U ++ [u], d.s + 1, d.bd⟩ ⟨doingP k.N w, k.S, k.T ++ [w], k.st + 1, k.sp⟩ := by
  refine ⟨hn, by simp [h.st], h.sp, by simp [h.len], by simp [h.all], fun j hj => ?_⟩
  simp only [List.length_append, List.length_cons, List.length_nil] at hj
  by_cases e : j ≤ d.U.length
  · simp only
    rw [List.drop_append_of_le_length e, backs_snoc, hu, List.take_append_of_le_length (by have := h.len; omega)]
    exact h.und j e
  · have hj' : j = d.U.length + 1 := by omega
    subst hj'
    simp only
    rw [List.drop_of_length_le (by simp), List.take_of_length_le (by simp [h.len]), List.foldl_append, ← h.all]
    exact hn
theorem doing_1 (l : Fl) (w : Wk) (h : w.kind = 1) : doingP l w = putP w.name w.bytes (delP l w.name) := by unfold doingP; rw [if_pos h, withP_put]
theorem doing_3 (l : Fl) (w : Wk) (h : w.kind = 3) : doingP l w = delP l w.name := by unfold doingP; rw [if_neg (by omega), if_neg (by omega), if_pos h, withP_gone]
theorem doing_2 (l : Fl) (w : Wk) (h : w.kind = 2) {b : List UInt8} (hb : look l w.name = some b) : doingP l w = putP w.to b (delP (delP l w.name) w.to) := by
  obtain ⟨j, hj, h1, _⟩ := find_some w.name l 0 b hb
  unfold doingP; rw [if_neg (by omega), if_pos h, if_neg (by rw [h1]; omega), hb, withP_put, withP_gone]; rfl
theorem find_neg {σ : Fs} {l : Fl} (h : FlIs σ l) (k : ByteArray) : findP k 0 l < 0 ↔ (σ k).isSome = false := by
  rw [← h.2 k]
  cases e : look l k with
  | none => rw [find_none k l 0 e]; simp
  | some b => obtain ⟨j, hj, h1, _⟩ := find_some k l 0 b e; rw [h1]; simp
theorem chk_of {d : Ds} {k : Kd} (h : Tie d k) (l : List ByteArray) : chkP d.s d.bd l = if 0 ≤ k.sp ∧ k.sp ≤ k.st then 7 else if l.all isNm then 0 else 2 := by
  unfold chkP
  by_cases hb : 0 ≤ d.bd ∧ d.bd ≤ d.s
  · rw [if_pos hb, if_pos (h.bars.1 hb)]
  · rw [if_neg hb, if_neg (fun e => hb (h.bars.2 e))]

theorem doP_k (k : Kd) (w : Wk) (h5 : w.kind ≠ 5) (h6 : w.kind ≠ 6) : doP k w = if 0 ≤ k.sp ∧ k.sp ≤ k.st then (7, k)
  else if w.kind ≠ 4 ∧ (isNm w.name && (w.kind ≠ 2 || isNm w.to)) = false then (2, k)
  else if w.kind = 1 ∧ 60000 < w.bytes.length then (4, k)
  else if (w.kind = 2 ∨ w.kind = 3) ∧ findP w.name 0 k.N < 0 then (6, k)
  else if w.kind = 4 then (0, ⟨k.N, k.N, [], k.st + 1, k.sp⟩)
  else (0, ⟨doingP k.N w, k.S, k.T ++ [w], k.st + 1, k.sp⟩) := by unfold doP; rw [if_neg h5, if_neg h6]
theorem tie_write {d : Ds} {k : Kd} (h : Tie d k) (w : Wk) (hk : w.kind = 1) : (wrD d w.name w.bytes).1 = (doP k w).1 ∧ Tie (wrD d w.name w.bytes).2 (doP k w).2 := by
  rw [doP_k k w (by omega) (by omega)]
  unfold wrD
  rw [chk_of h]
  by_cases hb : 0 ≤ k.sp ∧ k.sp ≤ k.st
  · simp only [if_pos hb]; exact ⟨rfl, h⟩
  simp only [if_neg hb]
  cases hn : isNm w.name with
  | false => simp [hn, hk, h]
  | true =>
    by_cases hbig : 60000 < w.bytes.length
    · simp [hn, hk, hbig, h]
    · simp [hn, hk, hbig]
      refine h.more w ?_ ?_
      · funext x; simp only [Bk.run]
        by_cases e : x = w.name
        · subst e; rw [upd_same]
        · rw [upd_other _ _ e, upd_other _ _ e]
      · rw [doing_1 _ _ hk]; exact h.now.put _ _
theorem tie_remove {d : Ds} {k : Kd} (h : Tie d k) (w : Wk) (hk : w.kind = 3) : (rmD d w.name).1 = (doP k w).1 ∧ Tie (rmD d w.name).2 (doP k w).2 := by
  rw [doP_k k w (by omega) (by omega)]
  unfold rmD
  rw [chk_of h]
  by_cases hb : 0 ≤ k.sp ∧ k.sp ≤ k.st
  · simp only [if_pos hb]; exact ⟨rfl, h⟩
  simp only [if_neg hb]
  cases hn : isNm w.name with
  | false => simp [hn, hk, h]
  | true =>
    cases hs : (d.σ w.name).isSome with
    | false =>
      have := (find_neg h.now w.name).2 hs
      simp [hn, hk, this, h]
    | true =>
      have hf : ¬ findP w.name 0 k.N < 0 := fun e => by rw [(find_neg h.now w.name).1 e] at hs; cases hs
      simp [hn, hk, hf]
      refine h.more w ?_ ?_
      · funext x; simp only [Bk.run]
        by_cases e : x = w.name
        · subst e; rw [upd_same]
        · rw [upd_other _ _ e, upd_other _ _ e]
      · rw [doing_3 _ _ hk]; exact h.now.del _
theorem tie_rename {d : Ds} {k : Kd} (h : Tie d k) (w : Wk) (hk : w.kind = 2) : (rnD d w.name w.to).1 = (doP k w).1 ∧ Tie (rnD d w.name w.to).2 (doP k w).2 := by
  rw [doP_k k w (by omega) (by omega)]
  unfold rnD
  rw [chk_of h]
  by_cases hb : 0 ≤ k.sp ∧ k.sp ≤ k.st
  · simp only [if_pos hb]; exact ⟨rfl, h⟩
  simp only [if_neg hb]
  by_cases hn : isNm w.name = true ∧ isNm w.to = true
  · obtain ⟨n1, n2⟩ := hn
    cases hs : (d.σ w.name).isSome with
    | false =>
      have := (find_neg h.now w.name).2 hs
      simp [n1, n2, hk, this, h]
    | true =>
      have hf : ¬ findP w.name 0 k.N < 0 := fun e => by rw [(find_neg h.now w.name).1 e] at hs; cases hs
      obtain ⟨b, hb2⟩ := Option.isSome_iff_exists.1 hs
      simp [n1, n2, hk, hf]
      refine h.more w ?_ ?_
      · funext x; simp only [Bk.run]
        by_cases e : x = w.name
        · subst e; rw [upd_same]
        · rw [upd_other _ _ e]
          by_cases e2 : x = w.to
          · subst e2; rw [upd_same]
          · rw [upd_other _ _ e2, upd_other _ _ e2, upd_other _ _ e]
      · rw [doing_2 _ _ hk (show look k.N w.name = some b by rw [h.now.2]; exact hb2), hb2]
        exact (h.now.del _).put _ _
  · have : (isNm w.name && isNm w.to) = false := by
      cases h1 : isNm w.name <;> cases h2 : isNm w.to <;> simp_all
    simp [hk, this, h]
theorem tie_sync {d : Ds} {k : Kd} (h : Tie d k) (w : Wk) (hk : w.kind = 4) : (syD d).1 = (doP k w).1 ∧ Tie (syD d).2 (doP k w).2 := by
  rw [doP_k k w (by omega) (by omega)]
  unfold syD
  rw [chk_of h]
  by_cases hb : 0 ≤ k.sp ∧ k.sp ≤ k.st
  · simp only [if_pos hb]; exact ⟨rfl, h⟩
  simp only [if_neg hb]
  simp [hk]
  exact ⟨h.now, by simp [h.st], h.sp, rfl, rfl, fun j hj => by simp [backs]; exact h.now⟩
theorem tie_crash {d : Ds} {k : Kd} (h : Tie d k) (w : Wk) (hk : w.kind = 5) : 0 = (doP k w).1 ∧ Tie (crD d w.n) (doP k w).2 := by
  unfold crD doP
  rw [if_pos hk]
  have e : keepN d.U w.n = keepK k.T w.n := by unfold keepN keepK; rw [h.len]
  have hu := h.und (keepN d.U w.n) (by unfold keepN; omega)
  rw [e] at hu ⊢
  exact ⟨rfl, hu, rfl, .inr ⟨by simp, rfl⟩, rfl, rfl, fun j hj => by simp [backs]; exact hu⟩
theorem tie_fail {d : Ds} {k : Kd} (h : Tie d k) (w : Wk) (hk : w.kind = 6) : 0 = (doP k w).1 ∧ Tie { d with bd := w.n } (doP k w).2 := by
  unfold doP
  rw [if_neg (by omega), if_pos hk]
  refine ⟨rfl, h.now, h.st, ?_, h.len, h.all, h.und⟩
  simp only
  by_cases e : w.n < 0
  · rw [if_pos e]; exact .inr ⟨e, rfl⟩
  · rw [if_neg e]; exact .inl ⟨by omega, rfl⟩
end Go.Proofs.YthlaccicdbbeeaaDoor
