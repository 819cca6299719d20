/- Who wrote last. Plain mathematics. -/
import Derived.Test.YtckjcjoheeobgaaDoorPureLb
namespace Go.Proofs.YtckjcjoheeobgaaDoor
/-- What a store says of a key. -/
def lookS (s : Sto) (k : List UInt8) : Option ByteArray := match atK s.all k with
  | none => none
  | some e => if e.dead = true then none else some e.val
theorem look_get (s : Sto) (k : List UInt8) : (lookS s k = none → getE s k = 6) ∧ (∀ x, lookS s k = some x → getE s k = 0 ∧ getV s k = x) := by
  unfold lookS getE getV
  cases h : atK s.all k with
  | none => simp
  | some e =>
    cases hd : e.dead with
    | true => simp [hd]
    | false => simp [hd]
theorem look_set {s : Sto} (ok : SOk s) {e : En} (he : setErr s e = 0) (k : List UInt8) : lookS (putS s e) k = if k = kl e then (if e.dead = true then none else some e.val) else lookS s k := by
  unfold putS
  rw [if_pos he]
  unfold lookS
  rw [set_all, setE_at ok.ris]
  by_cases hk : k = kl e
  · rw [if_pos hk, if_pos hk]
  · rw [if_neg hk, if_neg hk]
theorem look_flush (s : Sto) (k : List UInt8) : lookS (flushS s) k = lookS s k := by unfold lookS; rw [flush_all]
theorem look_comp {s : Sto} (ok : SOk s) (k : List UInt8) : lookS (compS s) k = lookS s k := by
  unfold lookS
  show (match atK (livE s.all) k with
    | none => none
    | some e => if e.dead = true then none else some e.val) = _
  unfold livE
  rw [atK_filter ok.ris]
  cases h : atK s.all k with
  | none => rfl
  | some e =>
    cases hd : e.dead with
    | true => simp [Option.filter, hd]
    | false => simp [Option.filter, hd]
theorem look_new (n : Nat) (k : List UInt8) : lookS (newS n) k = none := rfl
/-- The last one's value. -/
def lastV (l : List (List UInt8 × ByteArray)) (k : List UInt8) : Option ByteArray := (l.reverse.find? (fun p => decide (p.1 = k))).map (·.2)
theorem lastV_snoc (l : List (List UInt8 × ByteArray)) (x : List UInt8 × ByteArray) (k : List UInt8) : lastV (l ++ [x]) k = if k = x.1 then some x.2 else lastV l k := by
  unfold lastV
  rw [List.reverse_append, List.reverse_singleton, List.singleton_append, List.find?_cons]
  by_cases h : x.1 = k
  · simp [h]
  · have h2 : ¬ k = x.1 := fun e => h e.symm
    simp [h, h2]
theorem lastV_at : ∀ (n : Nat) (l : List (List UInt8 × ByteArray)) (k : List UInt8) (t : Nat) (ht : t < l.length), l.length - t = n → l[t].1 = k → (∀ j (hj : j < l.length), t < j → l[j].1 ≠ k) → lastV l k = some l[t].2
  | 0, l, k, t, ht, hn, _, _ => by omega
  | n + 1, l, k, t, ht, hn, h1, h2 => by
    obtain ⟨p, x, rfl⟩ : ∃ p x, l = p ++ [x] := ⟨l.dropLast, l.getLast (fun e => by rw [e] at ht; simp at ht), (List.dropLast_concat_getLast _).symm⟩
    rw [lastV_snoc]
    by_cases htl : t = p.length
    · subst htl
      simp at h1
      rw [if_pos h1.symm]
      simp
    · have htp : t < p.length := by simp at ht; omega
      have h3 := h2 p.length (by simp) (by omega)
      simp at h3
      rw [if_neg (fun e => h3 e.symm)]
      rw [List.getElem_append_left htp] at h1 ⊢
      exact lastV_at n p k t htp (by simp at hn; omega) h1 (fun j hj hj2 => by
        have := h2 j (by simp; omega) hj2
        rwa [List.getElem_append_left hj] at this)
/-- Keys and values side by side. -/
def kvs (ks vs : List ByteArray) : List (List UInt8 × ByteArray) := List.zipWith (fun k v => (k.data.toList, v)) ks vs
theorem kvs_len (ks vs : List ByteArray) : (kvs ks vs).length = min ks.length vs.length := by simp [kvs]
theorem kvs_at (ks vs : List ByteArray) (j : Nat) (h1 : j < ks.length) (h2 : j < vs.length) : (kvs ks vs)[j]? = some (ks[j].data.toList, vs[j]) := by
  unfold kvs
  rw [List.getElem?_zipWith]
  simp [h1, h2]
theorem kvs_next (ks vs : List ByteArray) (j : Nat) (h1 : j < ks.length) (h2 : j < vs.length) : (kvs ks vs).take (j + 1) = (kvs ks vs).take j ++ [(ks[j].data.toList, vs[j])] := by
  have h : j < (kvs ks vs).length := by rw [kvs_len]; omega
  rw [List.take_succ_eq_append_getElem h]
  have := kvs_at ks vs j h1 h2
  rw [List.getElem?_eq_getElem h] at this
  injection this with this
  rw [this]
theorem kvs_last (ks vs : List ByteArray) (m t : Nat) (hm1 : m ≤ ks.length) (hm2 : m ≤ vs.length) (ht : t < m) (k : ByteArray) (h1 : (ks[t]'(by omega)).data.toList = k.data.toList) (h2 : ∀ j (hj : j < m), t < j → (ks[j]'(by omega)).data.toList ≠ k.data.toList) : lastV ((kvs ks vs).take m) k.data.toList = some (vs[t]'(by omega)) := by
  have hl : ((kvs ks vs).take m).length = m := by rw [List.length_take, kvs_len]; omega
  have at_ : ∀ j (hj : j < ((kvs ks vs).take m).length) (hj1 : j < m), ((kvs ks vs).take m)[j] = ((ks[j]'(by omega)).data.toList, vs[j]'(by omega)) := fun j hj hj1 => by
    have := kvs_at ks vs j (by omega) (by omega)
    rw [List.getElem_take]
    rw [List.getElem?_eq_getElem (by rw [kvs_len]; omega)] at this
    injection this
  rw [lastV_at _ _ _ t (by omega) rfl (by rw [at_ t (by omega) ht]; exact h1) (fun j hj hj2 => by rw [at_ j hj (by omega)]; exact h2 j (by omega) hj2), at_ t (by omega) ht]
end Go.Proofs.YtckjcjoheeobgaaDoor
