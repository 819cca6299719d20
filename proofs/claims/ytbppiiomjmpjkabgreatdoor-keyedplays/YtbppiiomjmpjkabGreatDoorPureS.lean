/- The document's reader: its bounds while it reads. Plain mathematics. -/
import Derived.Test.YtbppiiomjmpjkabGreatDoorPureV
namespace Go.Proofs.YtbppiiomjmpjkabGreatDoor

/-- A number up to a greatest one; a text of at most so many bytes. -/
def nU (m : Int) (st : St) : Int × St := match nI st with
  | (_, none) => (0, none)
  | (n, some r) => if n < 0 ∨ m < n then (0, none) else (n, some r)
def nX (m : Int) (st : St) : ByteArray × St := match nU m st with
  | (_, none) => (⟨#[]⟩, none)
  | (n, some r) => if (r.length : Int) < n then (⟨#[]⟩, none) else (⟨(r.take n.toNat).toArray⟩, some (r.drop n.toNat))
theorem nU_bd (m : Int) (st : St) (hm : 0 ≤ m) : 0 ≤ (nU m st).1 ∧ (nU m st).1 ≤ m := by
  unfold nU
  split
  · exact ⟨by simp, by simpa using hm⟩
  · split
    · exact ⟨by simp, by simpa using hm⟩
    · rename_i h; exact ⟨by simp only; omega, by simp only; omega⟩
theorem nU_zero {m : Int} {st : St} (h : (nU m st).2 = none) : (nU m st).1 = 0 := by
  unfold nU at h ⊢
  split
  · rfl
  · rename_i n r e
    rw [e] at h
    simp only at h ⊢
    split
    · rfl
    · rename_i hn; rw [if_neg hn] at h; cases h
def nRcS (st : St) : Rc × St := (⟨(nX 40 st).1, (nI (nX 40 st).2).1, (nU 1000000 (nI (nX 40 st).2).2).1⟩, (nU 1000000 (nI (nX 40 st).2).2).2)
def nHdS (st : St) : Hd × St := (⟨(nU 11 st).1, (nX 40 (nU 11 st).2).1, (nI (nX 40 (nU 11 st).2).2).1, (nI (nI (nX 40 (nU 11 st).2).2).2).1⟩, (nI (nI (nX 40 (nU 11 st).2).2).2).2)

theorem nX_some (l : List UInt8) : nX 40 (some l) = match rdT l with
    | none => (⟨#[]⟩, none)
    | some (k, r) => if 40 < k.size then (⟨#[]⟩, none) else (k, some r) := by
  unfold nX nU nI rdT
  cases h : rdI l with
  | none => simp [h]
  | some p =>
    obtain ⟨n, r⟩ := p
    simp only [h]
    by_cases h1 : n < 0
    · simp [h1]
    · by_cases h2 : (r.length : Int) < n
      · by_cases h3 : (40 : Int) < n
        · simp [h1, h2, h3]
        · simp [h1, h2, h3]
      · have hsz : (⟨(r.take n.toNat).toArray⟩ : ByteArray).size = n.toNat := by
          show (r.take n.toNat).toArray.size = _
          rw [List.size_toArray, List.length_take]; omega
        by_cases h3 : (40 : Int) < n
        · have h4 : 40 < n.toNat := by omega
          simp [h1, h2, h3, hsz, h4]
        · have h4 : ¬ 40 < n.toNat := by omega
          simp [h1, h2, h3, hsz, h4]
theorem nRcS_yes (l : List UInt8) (r : Rc) (q : List UInt8) (h : rdRc l = some (r, q)) (hb : badRc r = false) : nRcS (some l) = (r, some q) := by
  unfold rdRc at h
  cases h1 : rdT l with
  | none => rw [h1] at h; cases h
  | some p1 =>
    obtain ⟨k, l1⟩ := p1
    rw [h1] at h
    simp only at h
    cases h2 : rdI l1 with
    | none => rw [h2] at h; cases h
    | some p2 =>
      obtain ⟨n, l2⟩ := p2
      rw [h2] at h
      simp only at h
      cases h3 : rdI l2 with
      | none => rw [h3] at h; cases h
      | some p3 =>
        obtain ⟨t, l3⟩ := p3
        rw [h3] at h
        injection h with h
        injection h with ha hb'
        subst ha hb'
        simp [badRc] at hb
        have hx : nX 40 (some l) = (k, some l1) := by rw [nX_some, h1]; simp only; rw [if_neg (by omega)]
        have hi : nI (some l1) = (n, some l2) := by simp [nI, h2]
        have hu : nU 1000000 (some l2) = (t, some l3) := by
          unfold nU nI; simp only [h3]; rw [if_neg (by omega)]
        unfold nRcS
        rw [hx]; simp only; rw [hi]; simp only; rw [hu]
theorem nU_none (m : Int) : nU m none = (0, none) := rfl
theorem nX_none (m : Int) : nX m none = (⟨#[]⟩, none) := rfl
theorem nI_none : nI none = (0, none) := rfl
theorem nRcS_no (l : List UInt8) (h : ∀ r q, rdRc l = some (r, q) → badRc r = true) : (nRcS (some l)).2 = none := by
  unfold nRcS
  cases h1 : rdT l with
  | none =>
    have hx : nX 40 (some l) = (⟨#[]⟩, none) := by rw [nX_some, h1]
    rw [hx]; simp only; rw [nI_none]; simp only; rw [nU_none]
  | some p1 =>
    obtain ⟨k, l1⟩ := p1
    by_cases hk : 40 < k.size
    · have hx : nX 40 (some l) = (⟨#[]⟩, none) := by rw [nX_some, h1]; simp only; rw [if_pos hk]
      rw [hx]; simp only; rw [nI_none]; simp only; rw [nU_none]
    · have hx : nX 40 (some l) = (k, some l1) := by rw [nX_some, h1]; simp only; rw [if_neg hk]
      rw [hx]; simp only
      cases h2 : rdI l1 with
      | none =>
        have hi : nI (some l1) = (0, none) := by simp [nI, h2]
        rw [hi]; simp only; rw [nU_none]
      | some p2 =>
        obtain ⟨n, l2⟩ := p2
        have hi : nI (some l1) = (n, some l2) := by simp [nI, h2]
        rw [hi]; simp only
        cases h3 : rdI l2 with
        | none => unfold nU nI; simp only [h3]
        | some p3 =>
          obtain ⟨t, l3⟩ := p3
          have hr : rdRc l = some (⟨k, n, t⟩, l3) := by unfold rdRc; simp only [h1, h2, h3]
          have := h _ _ hr
          simp [badRc] at this
          unfold nU nI; simp only [h3]; rw [if_pos (by omega)]
theorem nHdS_yes (l : List UInt8) (r : Hd) (q : List UInt8) (h : rdHd l = some (r, q)) (hb : badHd r = false) : nHdS (some l) = (r, some q) := by
  unfold rdHd at h
  cases h0 : rdI l with
  | none => rw [h0] at h; cases h
  | some p0 =>
    obtain ⟨nd, l0⟩ := p0
    rw [h0] at h
    simp only at h
    cases h1 : rdT l0 with
    | none => rw [h1] at h; cases h
    | some p1 =>
      obtain ⟨k, l1⟩ := p1
      rw [h1] at h
      simp only at h
      cases h2 : rdI l1 with
      | none => rw [h2] at h; cases h
      | some p2 =>
        obtain ⟨n, l2⟩ := p2
        rw [h2] at h
        simp only at h
        cases h3 : rdI l2 with
        | none => rw [h3] at h; cases h
        | some p3 =>
          obtain ⟨t, l3⟩ := p3
          rw [h3] at h
          injection h with h
          injection h with ha hb'
          subst ha hb'
          simp [badHd] at hb
          have hu : nU 11 (some l) = (nd, some l0) := by
            unfold nU nI; simp only [h0]; rw [if_neg (by omega)]
          have hx : nX 40 (some l0) = (k, some l1) := by rw [nX_some, h1]; simp only; rw [if_neg (by omega)]
          have hi : nI (some l1) = (n, some l2) := by simp [nI, h2]
          have hj : nI (some l2) = (t, some l3) := by simp [nI, h3]
          unfold nHdS
          rw [hu]; simp only; rw [hx]; simp only; rw [hi]; simp only; rw [hj]
theorem nHdS_no (l : List UInt8) (h : ∀ r q, rdHd l = some (r, q) → badHd r = true) : (nHdS (some l)).2 = none := by
  unfold nHdS
  cases h0 : rdI l with
  | none =>
    have hu : nU 11 (some l) = (0, none) := by unfold nU nI; simp only [h0]
    rw [hu]; simp only; rw [nX_none]; simp only; rw [nI_none]; rfl
  | some p0 =>
    obtain ⟨nd, l0⟩ := p0
    by_cases hnd : nd < 0 ∨ 11 < nd
    · have hu : nU 11 (some l) = (0, none) := by unfold nU nI; simp only [h0]; rw [if_pos hnd]
      rw [hu]; simp only; rw [nX_none]; simp only; rw [nI_none]; rfl
    · have hu : nU 11 (some l) = (nd, some l0) := by unfold nU nI; simp only [h0]; rw [if_neg hnd]
      rw [hu]; simp only
      cases h1 : rdT l0 with
      | none =>
        have hx : nX 40 (some l0) = (⟨#[]⟩, none) := by rw [nX_some, h1]
        rw [hx]; simp only; rw [nI_none]; rfl
      | some p1 =>
        obtain ⟨k, l1⟩ := p1
        by_cases hk : 40 < k.size
        · have hx : nX 40 (some l0) = (⟨#[]⟩, none) := by rw [nX_some, h1]; simp only; rw [if_pos hk]
          rw [hx]; simp only; rw [nI_none]; rfl
        · have hx : nX 40 (some l0) = (k, some l1) := by rw [nX_some, h1]; simp only; rw [if_neg hk]
          rw [hx]; simp only
          cases h2 : rdI l1 with
          | none =>
            have hi : nI (some l1) = (0, none) := by simp [nI, h2]
            rw [hi]; simp only; rw [nI_none]
          | some p2 =>
            obtain ⟨n, l2⟩ := p2
            have hi : nI (some l1) = (n, some l2) := by simp [nI, h2]
            rw [hi]; simp only
            cases h3 : rdI l2 with
            | none => simp [nI, h3]
            | some p3 =>
              obtain ⟨t, l3⟩ := p3
              have hr : rdHd l = some (⟨nd, k, n, t⟩, l3) := by unfold rdHd; simp only [h0, h1, h2, h3]
              have := h _ _ hr
              simp [badHd] at this
              omega

/-- How far a reading has come, where what was read must be good. -/
def CameG {α : Type} (good : List α → Prop) (f : List UInt8 → Option (α × List UInt8)) (l : St) (i : Nat) (st : St) (xs : List α) : Prop := match st with
  | some q => ∃ r, l = some r ∧ rdMany f i r = some (xs, q) ∧ good xs
  | none => ∀ r, l = some r → ∀ ys q, rdMany f i r = some (ys, q) → ¬ good ys
theorem CameG.zero {α : Type} {good : List α → Prop} (f : List UInt8 → Option (α × List UInt8)) (l : St) (hg : good []) : CameG good f l 0 l [] := by
  cases l with
  | none => intro r h; cases h
  | some r => exact ⟨r, rfl, rfl, hg⟩
theorem CameG.more {α : Type} {good : List α → Prop} {f : List UInt8 → Option (α × List UInt8)} (hp : ∀ xs x, good (xs ++ [x]) → good xs) {l : St} {i : Nat} {xs ys : List α} (h : CameG good f l i none xs) : CameG good f l (i + 1) none ys := by
  intro r hr zs q hz hgood
  rw [rdMany_snoc] at hz
  cases h1 : rdMany f i r with
  | none => rw [h1] at hz; cases hz
  | some p =>
    obtain ⟨xs', r'⟩ := p
    rw [h1] at hz
    simp only at hz
    cases h2 : f r' with
    | none => rw [h2] at hz; cases hz
    | some p2 =>
      obtain ⟨x, r2⟩ := p2
      rw [h2] at hz
      injection hz with hz
      injection hz with hz1 hz2
      subst hz1
      exact h r hr xs' r' h1 (hp _ _ hgood)
theorem CameG.next {α : Type} {good : List α → Prop} {f : List UInt8 → Option (α × List UInt8)} {l : St} {i : Nat} {q : List UInt8} {xs : List α} (h : CameG good f l i (some q) xs) (x : α) (st : St)
    (hyes : ∀ q', st = some q' → f q = some (x, q') ∧ good (xs ++ [x])) (hno : st = none → ∀ y q', f q = some (y, q') → ¬ good (xs ++ [y])) : CameG good f l (i + 1) st (xs ++ [x]) := by
  obtain ⟨r, rfl, h1, h2⟩ := h
  cases st with
  | some q' =>
    obtain ⟨h3, h4⟩ := hyes q' rfl
    exact ⟨r, rfl, by rw [rdMany_snoc, h1]; simp only [h3], h4⟩
  | none =>
    intro r' hr' zs q2 hz hgood
    injection hr' with hr'
    subst hr'
    rw [rdMany_snoc, h1] at hz
    simp only at hz
    cases h3 : f q with
    | none => rw [h3] at hz; cases hz
    | some p =>
      obtain ⟨y, q3⟩ := p
      rw [h3] at hz
      injection hz with hz
      injection hz with hz1 hz2
      subst hz1
      exact hno rfl y q3 h3 hgood
theorem CameG.far {α : Type} {good : List α → Prop} {f : List UInt8 → Option (α × List UInt8)} (hp : ∀ xs x, good (xs ++ [x]) → good xs) {l : St} {xs ys : List α} : ∀ (m i : Nat), CameG good f l i none xs → CameG good f l (i + m) none ys
  | 0, i, h => h
  | m + 1, i, h => by
    have := CameG.far hp (ys := ys) m i h
    rw [← Nat.add_assoc]
    exact this.more hp
theorem nM_nU (st : St) : nM st = nU 400 st := rfl
theorem CameG.all {α : Type} {good : List α → Prop} {f : List UInt8 → Option (α × List UInt8)} {b : List UInt8} {st : St} {xs : List α} (h : CameG good f (nU 400 (some b)).2 (nU 400 (some b)).1.toNat st xs) :
    (st = some [] → rdAll f b = some xs ∧ good xs) ∧ (st ≠ some [] → ∀ ys, rdAll f b = some ys → ¬ good ys) := by
  unfold rdAll
  have e : nU 400 (some b) = match rdI b with
    | none => (0, none)
    | some (n, r) => if n < 0 ∨ 400 < n then (0, none) else (n, some r) := by
    cases hb : rdI b <;> simp [nU, nI, hb]
  rw [e] at h
  cases hr : rdI b with
  | none =>
    rw [hr] at h
    refine ⟨fun hs => ?_, fun _ ys hy => by cases hy⟩
    subst hs
    obtain ⟨r, h1, -⟩ := h
    cases h1
  | some p =>
    obtain ⟨n, r⟩ := p
    rw [hr] at h
    simp only at h ⊢
    by_cases hn : n < 0 ∨ 400 < n
    · rw [if_pos hn] at h
      rw [if_pos hn]
      refine ⟨fun hs => ?_, fun _ ys hy => by cases hy⟩
      subst hs
      obtain ⟨r, h1, -⟩ := h
      cases h1
    · rw [if_neg hn] at h
      rw [if_neg hn]
      cases st with
      | none =>
        refine ⟨(by intro hs; cases hs), fun _ ys hy => ?_⟩
        cases hm : rdMany f n.toNat r with
        | none => rw [hm] at hy; cases hy
        | some p2 =>
          obtain ⟨zs, q⟩ := p2
          rw [hm] at hy
          cases q with
          | nil => injection hy with hy; subst hy; exact h r rfl _ _ hm
          | cons c q => cases hy
      | some q =>
        obtain ⟨r', h1, h2, h3⟩ := h
        injection h1 with h1
        subst h1
        rw [h2]
        cases q with
        | nil => exact ⟨fun _ => ⟨rfl, h3⟩, fun hs => absurd rfl hs⟩
        | cons c q => exact ⟨(by intro hs; cases hs), fun _ ys hy => by cases hy⟩

/-- What is sealed is what Open looks for. -/
theorem open_by_seal {b : List UInt8} {n k : Nat} (h : fstN b = some ((n : Int), k)) (hle : k + n + 4 ≤ b.length) :
    openB b = if sealB ((b.drop k).take n) = b.take (k + n + 4) then some ((b.drop k).take n, k + n + 4) else none := by
  obtain ⟨h1, h2, h3, h4, h5, h6⟩ := fstN_some h
  unfold openB
  rw [h]
  simp only [Int.toNat_natCast]
  rw [if_neg (by omega)]
  have hlen : ((b.drop k).take n).length = n := by rw [List.length_take, List.length_drop]; omega
  have e : b.take (k + n + 4) = b.take k ++ ((b.drop k).take n ++ (b.drop (k + n)).take 4) := by
    rw [List.take_add, List.take_add, List.append_assoc]
  have e2 : sealB ((b.drop k).take n) = b.take k ++ ((b.drop k).take n ++ sumB ((b.drop k).take n)) := by
    unfold sealB; rw [hlen, h1]
  rw [e, e2]
  by_cases hs : (b.drop (k + n)).take 4 = sumB ((b.drop k).take n)
  · rw [if_pos hs, hs, if_pos rfl]
  · rw [if_neg hs, if_neg]
    intro he
    have := List.append_cancel_left (List.append_cancel_left he)
    exact hs this.symm
end Go.Proofs.YtbppiiomjmpjkabGreatDoor
