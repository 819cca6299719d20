/- Records, states and pieces as bytes, and read again. Plain mathematics. -/
import Derived.Test.YtiofpimchbhfcabPureY
namespace Go.Proofs.Ytiofpimchbhfcab

structure Rc where
  key : ByteArray
  num : Int
  time : Int

structure Hd where
  nd : Int
  key : ByteArray
  a : Int
  b : Int

def I64 (n : Int) : Prop := -9223372036854775808 ≤ n ∧ n < 9223372036854775808

/-- Pieces one behind the other. -/
def rowsB : List (List UInt8) → List UInt8
  | [] => []
  | x :: l => sealB x ++ rowsB l
theorem rowsB_append : ∀ (a b : List (List UInt8)), rowsB (a ++ b) = rowsB a ++ rowsB b
  | [], _ => rfl
  | x :: a, b => by simp [rowsB, rowsB_append a b]
theorem rowsB_snoc (l : List (List UInt8)) (k : Nat) (h : k < l.length) : rowsB (l.take (k + 1)) = rowsB (l.take k) ++ sealB l[k] := by
  rw [List.take_succ_eq_append_getElem h, rowsB_append]; simp [rowsB]

/-- A step of reading pieces one behind the other, the bytes cut off somewhere. -/
theorem row_step (ls : List (List UInt8)) (c k : Nat) (hl : ∀ x ∈ ls, x.length < 9223372036854775808)
    (hat : (rowsB (ls.take k)).length < ((rowsB ls).take c).length) :
    ∃ h : k < ls.length, (openB (((rowsB ls).take c).drop (rowsB (ls.take k)).length) = some (ls[k], (sealB ls[k]).length) ∧ (rowsB (ls.take (k + 1))).length = (rowsB (ls.take k)).length + (sealB ls[k]).length ∧ (rowsB (ls.take (k + 1))).length ≤ ((rowsB ls).take c).length) ∨
      (openB (((rowsB ls).take c).drop (rowsB (ls.take k)).length) = none ∧ ((rowsB ls).take c).length < (rowsB (ls.take k)).length + (sealB ls[k]).length) := by
  have hklt : k < ls.length := by
    rcases Nat.lt_or_ge k ls.length with h | h
    · exact h
    · rw [List.take_of_length_le h] at hat
      simp at hat; omega
  refine ⟨hklt, ?_⟩
  have hs := rowsB_snoc ls k hklt
  have hsl : (rowsB (ls.take (k + 1))).length = (rowsB (ls.take k)).length + (sealB ls[k]).length := by rw [hs]; simp
  have hd : rowsB ls = rowsB (ls.take k) ++ (sealB ls[k] ++ rowsB (ls.drop (k + 1))) := by
    have : ls = ls.take k ++ (ls[k] :: ls.drop (k + 1)) := by rw [List.getElem_cons_drop, List.take_append_drop]
    calc rowsB ls = rowsB (ls.take k ++ (ls[k] :: ls.drop (k + 1))) := by rw [← this]
      _ = _ := by rw [rowsB_append]; rfl
  have hx := hl ls[k] (List.getElem_mem hklt)
  generalize ls[k] = x at *
  generalize rowsB (ls.take k) = p at *
  generalize rowsB (ls.drop (k + 1)) = q at *
  have hb : ((rowsB ls).take c).drop p.length = (sealB x ++ q).take (c - p.length) := by
    rw [hd, List.drop_take, List.drop_left]
  have hlen : ((rowsB ls).take c).length = min c (p.length + ((sealB x).length + q.length)) := by
    rw [hd]; simp
  rw [hb]
  by_cases h : (sealB x).length ≤ c - p.length
  · left
    have e : (sealB x ++ q).take (c - p.length) = sealB x ++ q.take (c - p.length - (sealB x).length) := by
      rw [List.take_append, List.take_of_length_le h]
    rw [e, open_seal x _ hx]
    exact ⟨rfl, hsl, by rw [hsl, hlen]; omega⟩
  · right
    have e : (sealB x ++ q).take (c - p.length) = (sealB x).take (c - p.length) := List.take_append_of_le_length (by omega)
    rw [e]
    exact ⟨open_cut x hx _ (by omega), by rw [hlen]; omega⟩
theorem row_end (ls : List (List UInt8)) (c k : Nat) (hat : (rowsB (ls.take k)).length = ((rowsB ls).take c).length) (hlt : k < ls.length) :
    ((rowsB ls).take c).length < (rowsB (ls.take k)).length + (sealB ls[k]).length := by
  have := seal_len ls[k]; omega

/-- Records and states as bytes. -/
def kB (k : ByteArray) : List UInt8 := textB k.data.toList
def rcB (r : Rc) : List UInt8 := kB r.key ++ (numB r.num ++ numB r.time)
def hdB (h : Hd) : List UInt8 := numB h.nd ++ (kB h.key ++ (numB h.a ++ numB h.b))
def allB {α : Type} (f : α → List UInt8) : List α → List UInt8
  | [] => []
  | x :: l => f x ++ allB f l
def lstB {α : Type} (f : α → List UInt8) (l : List α) : List UInt8 := numB l.length ++ allB f l
theorem allB_append {α : Type} (f : α → List UInt8) : ∀ (a b : List α), allB f (a ++ b) = allB f a ++ allB f b
  | [], _ => rfl
  | x :: a, b => by simp [allB, allB_append f a b]

/-- Reading. -/
def rdI (l : List UInt8) : Option (Int × List UInt8) := match fstN l with
  | none => none
  | some (n, k) => some (n, l.drop k)
def rdT (l : List UInt8) : Option (ByteArray × List UInt8) := match rdI l with
  | none => none
  | some (n, r) => if n < 0 ∨ (r.length : Int) < n then none else some (⟨(r.take n.toNat).toArray⟩, r.drop n.toNat)
def rdRc (l : List UInt8) : Option (Rc × List UInt8) := match rdT l with
  | none => none
  | some (k, l1) => match rdI l1 with
    | none => none
    | some (n, l2) => match rdI l2 with
      | none => none
      | some (t, l3) => some (⟨k, n, t⟩, l3)
def rdHd (l : List UInt8) : Option (Hd × List UInt8) := match rdI l with
  | none => none
  | some (nd, l0) => match rdT l0 with
    | none => none
    | some (k, l1) => match rdI l1 with
      | none => none
      | some (a, l2) => match rdI l2 with
        | none => none
        | some (b, l3) => some (⟨nd, k, a, b⟩, l3)
def rdMany {α : Type} (f : List UInt8 → Option (α × List UInt8)) : Nat → List UInt8 → Option (List α × List UInt8)
  | 0, l => some ([], l)
  | n + 1, l => match f l with
    | none => none
    | some (x, r) => match rdMany f n r with
      | none => none
      | some (xs, r') => some (x :: xs, r')
def rdAll {α : Type} (f : List UInt8 → Option (α × List UInt8)) (l : List UInt8) : Option (List α) := match rdI l with
  | none => none
  | some (n, r) => if n < 0 ∨ 400 < n then none else match rdMany f n.toNat r with
    | some (xs, []) => some xs
    | _ => none

theorem rdI_num {n : Int} (h : I64 n) (more : List UInt8) : rdI (numB n ++ more) = some (n, more) := by
  unfold rdI; rw [fstN_num h.1 h.2]; simp
theorem rdI_some {l r : List UInt8} {n : Int} (h : rdI l = some (n, r)) : I64 n ∧ l = numB n ++ r ∧ r.length < l.length := by
  unfold rdI at h
  cases hf : fstN l with
  | none => rw [hf] at h; cases h
  | some p =>
    obtain ⟨m, k⟩ := p
    rw [hf] at h
    injection h with h; injection h with h1 h2
    subst h1; subst h2
    obtain ⟨a, b, c, d, e, f⟩ := fstN_some hf
    exact ⟨⟨b, c⟩, by rw [a, List.take_append_drop], by simp; omega⟩
theorem rdT_key (k : ByteArray) (hk : k.size < 9223372036854775808) (more : List UInt8) : rdT (kB k ++ more) = some (k, more) := by
  have hl : k.data.toList.length = k.size := rfl
  unfold rdT kB textB
  rw [List.append_assoc, rdI_num ⟨by omega, by omega⟩]
  simp only [Int.toNat_natCast]
  rw [if_neg (by simp; omega)]
  simp
theorem rdT_some {l r : List UInt8} {k : ByteArray} (h : rdT l = some (k, r)) : k.size < 9223372036854775808 ∧ l = kB k ++ r ∧ r.length < l.length := by
  unfold rdT at h
  cases hf : rdI l with
  | none => rw [hf] at h; cases h
  | some p =>
    obtain ⟨n, q⟩ := p
    obtain ⟨h1, h2, h3⟩ := rdI_some hf
    rw [hf] at h
    simp only at h
    split at h
    · cases h
    · rename_i hn
      injection h with h; injection h with h4 h5
      have hlen : (q.take n.toNat).length = n.toNat := by rw [List.length_take]; omega
      have hks : k.size = n.toNat := by rw [← h4]; show (q.take n.toNat).toArray.size = _; rw [List.size_toArray, hlen]
      have hn' : ((q.take n.toNat).length : Int) = n := by rw [hlen]; omega
      refine ⟨by rw [hks]; have := h1.2; omega, ?_, by rw [← h5]; simp; omega⟩
      rw [← h4]
      unfold kB textB
      rw [show ((⟨(q.take n.toNat).toArray⟩ : ByteArray).data.toList) = q.take n.toNat from by simp, hn', ← h5, List.append_assoc, List.take_append_drop]
      exact h2
def OkRc (r : Rc) : Prop := r.key.size < 9223372036854775808 ∧ I64 r.num ∧ I64 r.time
def OkHd (h : Hd) : Prop := I64 h.nd ∧ h.key.size < 9223372036854775808 ∧ I64 h.a ∧ I64 h.b
theorem rdRc_rec (r : Rc) (h : OkRc r) (more : List UInt8) : rdRc (rcB r ++ more) = some (r, more) := by
  obtain ⟨h1, h2, h3⟩ := h
  unfold rdRc rcB
  rw [List.append_assoc, rdT_key _ h1]
  simp only
  rw [List.append_assoc, rdI_num h2]
  simp only
  rw [rdI_num h3]
theorem rdHd_held (r : Hd) (h : OkHd r) (more : List UInt8) : rdHd (hdB r ++ more) = some (r, more) := by
  obtain ⟨h0, h1, h2, h3⟩ := h
  unfold rdHd hdB
  rw [List.append_assoc, rdI_num h0]
  simp only
  rw [List.append_assoc, rdT_key _ h1]
  simp only
  rw [List.append_assoc, rdI_num h2]
  simp only
  rw [rdI_num h3]
theorem rdRc_some {l q : List UInt8} {r : Rc} (h : rdRc l = some (r, q)) : OkRc r ∧ l = rcB r ++ q := by
  unfold rdRc at h
  split at h
  · cases h
  · rename_i k l1 e1
    split at h
    · cases h
    · rename_i n l2 e2
      split at h
      · cases h
      · rename_i t l3 e3
        injection h with h; injection h with h4 h5
        subst h4; subst h5
        obtain ⟨a1, a2, -⟩ := rdT_some e1
        obtain ⟨b1, b2, -⟩ := rdI_some e2
        obtain ⟨c1, c2, -⟩ := rdI_some e3
        exact ⟨⟨a1, b1, c1⟩, by rw [a2, b2, c2]; simp [rcB]⟩
theorem rdHd_some {l q : List UInt8} {r : Hd} (h : rdHd l = some (r, q)) : OkHd r ∧ l = hdB r ++ q := by
  unfold rdHd at h
  split at h
  · cases h
  · rename_i nd l0 e0
    split at h
    · cases h
    · rename_i k l1 e1
      split at h
      · cases h
      · rename_i n l2 e2
        split at h
        · cases h
        · rename_i t l3 e3
          injection h with h; injection h with h4 h5
          subst h4; subst h5
          obtain ⟨z1, z2, -⟩ := rdI_some e0
          obtain ⟨a1, a2, -⟩ := rdT_some e1
          obtain ⟨b1, b2, -⟩ := rdI_some e2
          obtain ⟨c1, c2, -⟩ := rdI_some e3
          exact ⟨⟨z1, a1, b1, c1⟩, by rw [z2, a2, b2, c2]; simp [hdB]⟩

theorem rdMany_all {α : Type} {f : List UInt8 → Option (α × List UInt8)} {g : α → List UInt8} {Ok : α → Prop} (hf : ∀ x more, Ok x → f (g x ++ more) = some (x, more)) :
    ∀ (l : List α) (more : List UInt8), (∀ x ∈ l, Ok x) → rdMany f l.length (allB g l ++ more) = some (l, more)
  | [], _, _ => rfl
  | x :: l, more, h => by
    rw [List.length_cons, rdMany, allB, List.append_assoc, hf x _ (h x (by simp))]
    simp only
    rw [rdMany_all hf l more (fun y hy => h y (by simp [hy]))]
theorem rdAll_all {α : Type} {f : List UInt8 → Option (α × List UInt8)} {g : α → List UInt8} {Ok : α → Prop} (hf : ∀ x more, Ok x → f (g x ++ more) = some (x, more))
    (l : List α) (h : ∀ x ∈ l, Ok x) (hl : l.length ≤ 400) : rdAll f (lstB g l) = some l := by
  unfold rdAll lstB
  rw [rdI_num ⟨by omega, by omega⟩]
  simp only [Int.toNat_natCast]
  rw [if_neg (by omega)]
  have := rdMany_all hf l [] h
  rw [List.append_nil] at this
  rw [this]
theorem rdMany_some {α : Type} {f : List UInt8 → Option (α × List UInt8)} {g : α → List UInt8} {Ok : α → Prop} (hf : ∀ x l q, f l = some (x, q) → Ok x ∧ l = g x ++ q) :
    ∀ (n : Nat) (l q : List UInt8) (xs : List α), rdMany f n l = some (xs, q) → (∀ x ∈ xs, Ok x) ∧ l = allB g xs ++ q ∧ xs.length = n
  | 0, l, q, xs, h => by simp [rdMany] at h; obtain ⟨rfl, rfl⟩ := h; simp [allB]
  | n + 1, l, q, xs, h => by
    unfold rdMany at h
    split at h
    · cases h
    · rename_i x r e1
      split at h
      · cases h
      · rename_i ys r' e2
        injection h with h; injection h with h4 h5
        subst h4; subst h5
        obtain ⟨a, b⟩ := hf _ _ _ e1
        obtain ⟨c, d, e⟩ := rdMany_some hf n _ _ _ e2
        refine ⟨by intro y hy; rcases List.mem_cons.1 hy with rfl | hy; exact a; exact c y hy, by rw [b, d]; simp [allB], by simp [e]⟩
theorem rdAll_some {α : Type} {f : List UInt8 → Option (α × List UInt8)} {g : α → List UInt8} {Ok : α → Prop} (hf : ∀ x l q, f l = some (x, q) → Ok x ∧ l = g x ++ q)
    {l : List UInt8} {xs : List α} (h : rdAll f l = some xs) : (∀ x ∈ xs, Ok x) ∧ l = lstB g xs ∧ xs.length ≤ 400 := by
  unfold rdAll at h
  split at h
  · cases h
  · rename_i n r e1
    split at h
    · cases h
    · rename_i hn
      split at h
      · rename_i ys e2
        injection h with h
        subst h
        obtain ⟨a1, a2, -⟩ := rdI_some e1
        obtain ⟨b1, b2, b3⟩ := rdMany_some hf _ _ _ _ e2
        exact ⟨b1, by rw [a2, b2]; unfold lstB; rw [b3, show ((n.toNat : Nat) : Int) = n from by omega]; simp, by omega⟩
      · cases h

/-- What is wrong with records, with states. -/
def badRc (r : Rc) : Bool := decide (40 < r.key.size) || decide (r.time < 0) || decide (1000000 < r.time)
def recsE (l : List Rc) : Nat := if 400 < l.length then 4 else if l.any badRc then 1 else 0
def badHd (h : Hd) : Bool := decide (h.nd < 0) || decide (12 ≤ h.nd) || decide (40 < h.key.size)
def hdsE (lt : Hd → Hd → Bool) : Option Hd → List Hd → Nat
  | _, [] => 0
  | p, h :: l => if badHd h then 1 else if (match p with | none => false | some q => !lt q h) then 5 else hdsE lt (some h) l
def heldsE (lt : Hd → Hd → Bool) (l : List Hd) : Nat := if 400 < l.length then 4 else hdsE lt none l
def readRcs (l : List UInt8) : Option (List Rc) := match rdAll rdRc l with
  | none => none
  | some xs => if recsE xs = 0 then some xs else none
def readHds (lt : Hd → Hd → Bool) (l : List UInt8) : Option (List Hd) := match rdAll rdHd l with
  | none => none
  | some xs => if heldsE lt xs = 0 then some xs else none
theorem readRcs_all (l : List Rc) (h : ∀ r ∈ l, OkRc r) (he : recsE l = 0) : readRcs (lstB rcB l) = some l := by
  have hl : l.length ≤ 400 := by unfold recsE at he; split at he; cases he; omega
  unfold readRcs; rw [rdAll_all (fun x more hx => rdRc_rec x hx more) l h hl]; simp [he]
theorem readHds_all (lt : Hd → Hd → Bool) (l : List Hd) (h : ∀ r ∈ l, OkHd r) (he : heldsE lt l = 0) : readHds lt (lstB hdB l) = some l := by
  have hl : l.length ≤ 400 := by unfold heldsE at he; split at he; cases he; omega
  unfold readHds; rw [rdAll_all (fun x more hx => rdHd_held x hx more) l h hl]; simp [he]
theorem readRcs_some {l : List UInt8} {xs : List Rc} (h : readRcs l = some xs) : (∀ r ∈ xs, OkRc r) ∧ recsE xs = 0 ∧ l = lstB rcB xs := by
  unfold readRcs at h
  split at h
  · cases h
  · rename_i ys e
    split at h
    · rename_i he
      injection h with h; subst h
      obtain ⟨a, b, c⟩ := rdAll_some (Ok := OkRc) (g := rcB) (fun x l q h => rdRc_some h) e
      exact ⟨a, he, b⟩
    · cases h
end Go.Proofs.Ytiofpimchbhfcab
