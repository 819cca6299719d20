/- Tables, plain: entries as bytes and back, what is wrong with them. Plain mathematics. -/
import Derived.Test.YtckjcjoheeobgaaGreatDoorPureV
namespace Go.Proofs.YtckjcjoheeobgaaGreatDoor

structure En where
  key : ByteArray
  val : ByteArray
  dead : Bool
def kl (e : En) : List UInt8 := e.key.data.toList
def deadI (d : Bool) : Int := if d = true then 1 else 0
def enB (e : En) : List UInt8 := kB e.key ++ (numB (deadI e.dead) ++ kB e.val)
def OkEn (e : En) : Prop := e.key.size < 9223372036854775808 ∧ e.val.size < 9223372036854775808
def rdEn (l : List UInt8) : Option (En × List UInt8) := match rdT l with
  | none => none
  | some (k, r) => match rdI r with
    | none => none
    | some (d, r2) => match rdT r2 with
      | none => none
      | some (v, r3) => if d = 0 ∨ d = 1 then some (⟨k, v, decide (d = 1)⟩, r3) else none
def nEn (st : St) : En × St :=
  (⟨(nT st).1, (nT (nI (nT st).2).2).1, decide ((nI (nT st).2).1 = 1)⟩, if (nI (nT st).2).1 = 0 ∨ (nI (nT st).2).1 = 1 then (nT (nI (nT st).2).2).2 else none)
theorem nEn_none : (nEn none).2 = none := by simp [nEn, nT, nI]
theorem nEn_ok (l : List UInt8) : match rdEn l with
    | none => (nEn (some l)).2 = none
    | some (r, q) => nEn (some l) = (r, some q) := by
  cases h1 : rdT l with
  | none => simp [rdEn, nEn, nT, nI, h1]
  | some p1 =>
    obtain ⟨k, l1⟩ := p1
    cases h2 : rdI l1 with
    | none => simp [rdEn, nEn, nT, nI, h1, h2]
    | some p2 =>
      obtain ⟨n, l2⟩ := p2
      cases h3 : rdT l2 with
      | none => simp [rdEn, nEn, nT, nI, h1, h2, h3]
      | some p3 =>
        obtain ⟨v, l3⟩ := p3
        by_cases hn : n = 0 ∨ n = 1
        · simp [rdEn, nEn, nT, nI, h1, h2, h3, hn]
        · simp [rdEn, nEn, nT, nI, h1, h2, h3, hn]
theorem nEn_no (l : List UInt8) (h : rdEn l = none) : (nEn (some l)).2 = none := by have := nEn_ok l; rw [h] at this; exact this
theorem nEn_yes (l : List UInt8) (r : En) (q : List UInt8) (h : rdEn l = some (r, q)) : nEn (some l) = (r, some q) := by have := nEn_ok l; rw [h] at this; exact this
theorem deadI_bd (d : Bool) : I64 (deadI d) ∧ (deadI d = 0 ∨ deadI d = 1) ∧ decide (deadI d = 1) = d := by
  cases d
  · exact ⟨⟨by decide, by decide⟩, by decide, by decide⟩
  · exact ⟨⟨by decide, by decide⟩, by decide, by decide⟩
theorem deadI_of {n : Int} (h : n = 0 ∨ n = 1) : deadI (decide (n = 1)) = n := by
  rcases h with rfl | rfl <;> decide
theorem rdEn_en (e : En) (h : OkEn e) (more : List UInt8) : rdEn (enB e ++ more) = some (e, more) := by
  obtain ⟨k, v, d⟩ := e
  obtain ⟨h1, h2⟩ := h
  obtain ⟨d1, d2, d3⟩ := deadI_bd d
  unfold rdEn enB
  simp only at h1 h2 ⊢
  rw [List.append_assoc, rdT_key k h1]
  simp only
  rw [List.append_assoc, rdI_num d1]
  simp only
  rw [rdT_key v h2]
  simp only
  rw [if_pos d2, d3]
theorem rdEn_some {l q : List UInt8} {e : En} (h : rdEn l = some (e, q)) : OkEn e ∧ l = enB e ++ q := by
  unfold rdEn at h
  split at h
  · cases h
  · rename_i k r e1
    split at h
    · cases h
    · rename_i d r2 e2
      split at h
      · cases h
      · rename_i v r3 e3
        split at h
        · rename_i hd
          injection h with h; injection h with h4 h5
          subst h4; subst h5
          obtain ⟨a1, a2, -⟩ := rdT_some e1
          obtain ⟨b1, b2, -⟩ := rdI_some e2
          obtain ⟨c1, c2, -⟩ := rdT_some e3
          refine ⟨⟨a1, c1⟩, ?_⟩
          unfold enB
          simp only
          rw [deadI_of hd, a2, b2, c2]
          simp
        · cases h

/-- What is wrong with entries. -/
def badEn (e : En) : Bool := decide (120 < e.key.size) || decide (120 < e.val.size)
def shapeE (e : En) : Bool := e.dead && decide (e.val.size ≠ 0)
def lowK (p : Option (List UInt8)) (e : En) : Bool := match p with
  | none => false
  | some q => !decide (q < kl e)
def entsG : Option (List UInt8) → List En → Nat
  | _, [] => 0
  | p, e :: l => if badEn e = true then 1 else if shapeE e = true then 3 else if lowK p e = true then 5 else entsG (some (kl e)) l
def entsE (l : List En) : Nat := if 400 < l.length then 4 else entsG none l
def Ris (l : List En) : Prop := l.Pairwise (fun a b => kl a < kl b)
def Fine (e : En) : Prop := badEn e = false ∧ shapeE e = false
theorem kl_trans {a b c : List UInt8} (h : a < b) (k : b < c) : a < c := List.lt_trans h k
theorem kl_irrefl (a : List UInt8) : ¬ a < a := List.lt_irrefl a
theorem kl_tri (a b : List UInt8) : a < b ∨ a = b ∨ b < a := by
  by_cases h1 : a < b
  · exact .inl h1
  · by_cases h2 : b < a
    · exact .inr (.inr h2)
    · exact .inr (.inl (List.le_antisymm (List.not_lt.1 h2) (List.not_lt.1 h1)))
theorem entsG_zero : ∀ (l : List En) (p : Option (List UInt8)), entsG p l = 0 → (∀ e ∈ l, Fine e) ∧ Ris l ∧ (∀ q, p = some q → ∀ e ∈ l, q < kl e)
  | [], p, _ => ⟨(fun e he => by cases he), List.Pairwise.nil, (fun q _ e he => by cases he)⟩
  | x :: l, p, h => by
    unfold entsG at h
    split at h
    · cases h
    · rename_i hb
      split at h
      · cases h
      · rename_i hs
        split at h
        · cases h
        · rename_i hl
          obtain ⟨h1, h2, h3⟩ := entsG_zero l _ h
          have hx := h3 _ rfl
          refine ⟨?_, List.Pairwise.cons (fun e he => hx e he) h2, ?_⟩
          · intro e he
            rcases List.mem_cons.1 he with rfl | he
            · exact ⟨by simpa using hb, by simpa using hs⟩
            · exact h1 e he
          · intro q hq e he
            have hqx : q < kl x := by
              subst hq
              simpa [lowK] using hl
            rcases List.mem_cons.1 he with rfl | he
            · exact hqx
            · exact kl_trans hqx (hx e he)
theorem entsG_ok : ∀ (l : List En) (p : Option (List UInt8)), (∀ e ∈ l, Fine e) → Ris l → (∀ q, p = some q → ∀ e ∈ l, q < kl e) → entsG p l = 0
  | [], p, _, _, _ => rfl
  | x :: l, p, h1, h2, h3 => by
    obtain ⟨g1, g2⟩ := h1 x (by simp)
    have hr := List.pairwise_cons.1 h2
    have hl : lowK p x = false := by
      cases p with
      | none => rfl
      | some q => simp [lowK]; exact h3 q rfl x (by simp)
    unfold entsG
    rw [if_neg (by simp [g1]), if_neg (by simp [g2]), if_neg (by simp [hl])]
    exact entsG_ok l _ (fun e he => h1 e (by simp [he])) hr.2 (fun q hq e he => by injection hq with hq; subst hq; exact hr.1 e he)
theorem ents_zero {l : List En} (h : entsE l = 0) : l.length ≤ 400 ∧ (∀ e ∈ l, Fine e) ∧ Ris l := by
  unfold entsE at h
  split at h
  · cases h
  · obtain ⟨h1, h2, -⟩ := entsG_zero l none h
    exact ⟨by omega, h1, h2⟩
theorem ents_ok {l : List En} (h : l.length ≤ 400) (h1 : ∀ e ∈ l, Fine e) (h2 : Ris l) : entsE l = 0 := by
  unfold entsE
  rw [if_neg (by omega)]
  exact entsG_ok l none h1 h2 (fun q hq => by cases hq)

/-- A table's bytes, and what they are read as. -/
def buildB (l : List En) : List UInt8 := sealB (lstB enB l)
def readTb (b : List UInt8) : Option (List En) := match openB b with
  | none => none
  | some (pc, k) => if k ≠ b.length then none else match rdAll rdEn pc with
    | none => none
    | some xs => if entsE xs = 0 then some xs else none
theorem open_whole {b l : List UInt8} {k : Nat} (h : openB b = some (l, k)) (hk : k = b.length) : b = sealB l := by
  unfold openB at h
  split at h
  · cases h
  · rename_i n j hf
    obtain ⟨f1, f2, f3, f4, f5, f6⟩ := fstN_some hf
    split at h
    · cases h
    · rename_i hn
      split at h
      · rename_i hs
        injection h with h; injection h with h1 h2
        have hll : l.length = n.toNat := by rw [← h1]; simp; omega
        have e1 : b = b.take j ++ b.drop j := (List.take_append_drop j b).symm
        have e2 : b.drop j = (b.drop j).take n.toNat ++ b.drop (j + n.toNat) := by
          rw [← List.drop_drop]; exact (List.take_append_drop n.toNat (b.drop j)).symm
        have e3 : b.drop (j + n.toNat) = sumB l := by
          rw [← h1, ← hs, List.take_of_length_le]
          simp; omega
        unfold sealB
        rw [hll, show ((n.toNat : Nat) : Int) = n from by omega, f1, ← e3]
        conv => lhs; rw [e1, e2, h1]
      · cases h
theorem en_len {e : En} (h : badEn e = false) : (enB e).length ≤ 270 ∧ e.key.size ≤ 120 ∧ e.val.size ≤ 120 := by
  simp [badEn] at h
  have h1 := num_ten (n := (e.key.size : Int)) (by omega) (by omega)
  have h2 := num_ten (n := (e.val.size : Int)) (by omega) (by omega)
  have h3 := num_ten (deadI_bd e.dead).1.1 (deadI_bd e.dead).1.2
  have k1 : e.key.data.toList.length = e.key.size := rfl
  have k2 : e.val.data.toList.length = e.val.size := rfl
  refine ⟨?_, h.1, h.2⟩
  unfold enB kB textB
  simp only [List.length_append, k1, k2]
  omega
theorem all_len {l : List En} (h : ∀ e ∈ l, Fine e) : (allB enB l).length ≤ 270 * l.length := by
  induction l with
  | nil => simp [allB]
  | cons x l ih =>
    have h1 := (en_len (h x (by simp)).1).1
    have h2 := ih (fun e he => h e (by simp [he]))
    simp only [allB, List.length_append, List.length_cons]
    omega
theorem lst_len {l : List En} (h : entsE l = 0) : (lstB enB l).length ≤ 108010 := by
  obtain ⟨h1, h2, -⟩ := ents_zero h
  have h3 := num_ten (n := (l.length : Int)) (by omega) (by omega)
  have h4 := all_len h2
  unfold lstB
  simp only [List.length_append]
  omega
theorem ents_oks {l : List En} (h : entsE l = 0) : ∀ e ∈ l, OkEn e := fun e he => by
  have := en_len ((ents_zero h).2.1 e he).1
  exact ⟨by omega, by omega⟩
theorem read_build {l : List En} (h : entsE l = 0) : readTb (buildB l) = some l := by
  have hl := lst_len h
  have ho := open_seal (lstB enB l) [] (by omega)
  rw [List.append_nil] at ho
  unfold readTb buildB
  rw [ho]
  simp only
  rw [if_neg (by simp), rdAll_all (Ok := OkEn) (fun x more hx => rdEn_en x hx more) l (ents_oks h) (ents_zero h).1]
  simp [h]
theorem readTb_some {b : List UInt8} {xs : List En} (h : readTb b = some xs) : entsE xs = 0 ∧ b = buildB xs := by
  unfold readTb at h
  split at h
  · cases h
  · rename_i pc k ho
    split at h
    · cases h
    · rename_i hk
      split at h
      · cases h
      · rename_i ys hr
        split at h
        · rename_i he
          injection h with h; subst h
          obtain ⟨-, h2, -⟩ := rdAll_some (Ok := OkEn) (g := enB) (fun x l q h => rdEn_some h) hr
          refine ⟨he, ?_⟩
          rw [open_whole ho (by omega), h2]; rfl
        · cases h
end Go.Proofs.YtckjcjoheeobgaaGreatDoor
