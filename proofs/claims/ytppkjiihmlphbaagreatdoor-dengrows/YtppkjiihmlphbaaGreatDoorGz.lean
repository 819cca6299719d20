import Derived.Test.YtppkjiihmlphbaaGreatDoorPureQ
import Derived.Lib.ItoaNum
import Derived.Test.YtppkjiihmlphbaaGreatDoorKm
import Derived.RangeFuncNested
import Derived.RangeFuncBound
import Derived.RangeFuncCalls
import Derived.RangeFuncLeaves
import Derived.Shelf.Abstract
import Derived.Shelf.RegionOpen
import Derived.OwnWalkIn
import Derived.TacticsInMore
import Derived.LoopNIn
import Derived.LoopIn
import Derived.Maps.OwnIn
import Derived.Sort.QuietIn
import Derived.Laws.AppendOwnNone
import Derived.Laws.Cover1
import Derived.Sort.Walk0
import Derived.Deep.Slices
import Derived.WideKeyArgs
import Derived.Test.YtppkjiihmlphbaaGreatDoorRa
import Derived.Test.YtppkjiihmlphbaaGreatDoorRows
import Derived.ChangeSame
import Derived.ChangeVars
import Derived.JoinedOf
import Derived.RowKit
import Derived.RowKitTokens
import Derived.LaidLaws
import Derived.LaidHandle
import Derived.Stop.Joined
import Derived.Stop.LaidErr
import Derived.Deep.DeepCutAuto
/- More data make more of the same, and the order of keys does not matter: the plain half of DenGrows. -/
namespace Go.Proofs.YtppkjiihmlphbaaGreatDoor
open Go.Lib (decDigits itoa)
set_option linter.unusedVariables false

theorem dec_bytes (u : Nat) : ∀ c ∈ decDigits u, 48 ≤ c.toNat ∧ c.toNat ≤ 57 := by
  induction u using Nat.strongRecOn with
  | ind u ih =>
    intro c hc
    rw [decDigits] at hc
    split at hc
    · rw [List.mem_singleton] at hc; subst hc; rw [UInt8.toNat_ofNat']; omega
    · rcases List.mem_append.1 hc with h | h
      · exact ih (u / 10) (by omega) c h
      · rw [List.mem_singleton] at h; subst h; rw [UInt8.toNat_ofNat']; omega
theorem ito_bytes (x : Int) : ∀ c ∈ itoa x, c = 45 ∨ (48 ≤ c.toNat ∧ c.toNat ≤ 57) := by
  intro c hc
  unfold itoa at hc
  split at hc
  · rcases List.mem_cons.1 hc with h | h
    · exact .inl h
    · exact .inr (dec_bytes _ c h)
  · exact .inr (dec_bytes _ c hc)
theorem ito_47 (x : Int) : (47 : UInt8) ∉ itoa x := fun h => by
  rcases ito_bytes x _ h with h | ⟨h, -⟩
  · exact absurd h (by decide)
  · exact absurd h (by decide)
theorem ito_58 (x : Int) : (58 : UInt8) ∉ itoa x := fun h => by
  rcases ito_bytes x _ h with h | ⟨-, h⟩
  · exact absurd h (by decide)
  · exact absurd h (by decide)
theorem last_inj {c : UInt8} {x y p q : List UInt8} (hp : c ∉ p) (hq : c ∉ q) (e : x ++ c :: p = y ++ c :: q) : x = y := by
  rcases List.append_eq_append_iff.1 e with ⟨t, h1, h2⟩ | ⟨t, h1, h2⟩
  · cases t with
    | nil => simp at h1; exact h1.symm
    | cons d t =>
      simp at h2
      exact absurd (by rw [h2.2]; simp) hp
  · cases t with
    | nil => simp at h1; exact h1
    | cons d t =>
      simp at h2
      exact absurd (by rw [h2.2]; simp) hq
theorem first_inj {c : UInt8} {x y p q : List UInt8} (hp : c ∉ p) (hq : c ∉ q) (e : p ++ c :: x = q ++ c :: y) : p = q ∧ x = y := by
  rcases List.append_eq_append_iff.1 e with ⟨t, h1, h2⟩ | ⟨t, h1, h2⟩
  · cases t with
    | nil => simp at h1 h2; exact ⟨h1.symm, h2⟩
    | cons d t =>
      simp at h2
      exact absurd (by rw [h1, h2.1]; simp) hq
  · cases t with
    | nil => simp at h1 h2; exact ⟨h1, h2.symm⟩
    | cons d t =>
      simp at h2
      exact absurd (by rw [h1, h2.1]; simp) hp
theorem ba_ext {a b : ByteArray} (h : a.data.toList = b.data.toList) : a = b := by
  cases a; cases b; simpa using h
theorem sub_key {k k' : ByteArray} {v v' : Int} (e : k ++ (⟨#[47]⟩ ++ itoB v) = k' ++ (⟨#[47]⟩ ++ itoB v')) : k = k' := by
  have h := congrArg (fun x => x.data.toList) e
  simp only [itoB, ByteArray.data_append, Array.toList_append, List.cons_append, List.nil_append] at h
  exact ba_ext (last_inj (ito_47 v) (ito_47 v') h)
theorem ito_four {i : Int} (h0 : 0 ≤ i) (h4 : i < 4) : itoa i = [UInt8.ofNat (48 + i.toNat)] := by
  unfold itoa
  rw [if_neg (by omega), Go.Lib.decDigits_one (by omega)]
theorem un_key {k k' : ByteArray} {i j : Int} (h0 : 0 ≤ i) (h4 : i < 4) (g0 : 0 ≤ j) (g4 : j < 4) (e : itoB i ++ ⟨#[58]⟩ ++ k = itoB j ++ ⟨#[58]⟩ ++ k') : i = j ∧ k = k' := by
  have h := congrArg (fun x => x.data.toList) e
  simp only [itoB, ByteArray.data_append, Array.toList_append, List.append_assoc, List.cons_append, List.nil_append] at h
  obtain ⟨h1, h2⟩ := first_inj (ito_58 i) (ito_58 j) h
  refine ⟨?_, ba_ext h2⟩
  rw [ito_four h0 h4, ito_four g0 g4] at h1
  have h3 := congrArg UInt8.toNat (List.cons.inj h1).1
  rw [UInt8.toNat_ofNat', UInt8.toNat_ofNat'] at h3
  omega

/-- The records of a key. -/
def byK (l : List Rc) (k : ByteArray) : List Rc := l.filter fun r => decide (r.key = k)
def Pre (a b : List Rc) : Prop := ∀ k, byK a k <+: byK b k
theorem byK_app (a b : List Rc) (k : ByteArray) : byK (a ++ b) k = byK a k ++ byK b k := by simp [byK]
theorem byK_cons (x : Rc) (a : List Rc) (k : ByteArray) : byK (x :: a) k = (if x.key = k then [x] else []) ++ byK a k := by
  unfold byK
  rw [List.filter_cons]
  by_cases h : x.key = k <;> simp [h]
theorem Pre.refl (a : List Rc) : Pre a a := fun k => List.prefix_refl _
theorem pre_take (l : List Rc) (n : Nat) : Pre (l.take n) l := fun k => by
  refine ⟨byK (l.drop n) k, ?_⟩
  rw [← byK_app, List.take_append_drop]
theorem preK_mem {a b : List Rc} (h : Pre a b) {x : Rc} (hx : x ∈ a) : x ∈ b := by
  have h1 : x ∈ byK a x.key := by unfold byK; rw [List.mem_filter]; exact ⟨hx, by simp⟩
  have h2 := (h x.key).subset h1
  unfold byK at h2
  exact (List.mem_filter.1 h2).1
theorem pre_len : ∀ (a b : List Rc), Pre a b → a.length ≤ b.length
  | [], b, _ => by simp
  | x :: a, b, h => by
    have hx := h x.key
    rw [byK_cons, if_pos rfl] at hx
    obtain ⟨t, ht⟩ := hx
    have ht' : b.filter (fun r => decide (r.key = x.key)) = x :: (byK a x.key ++ t) := by rw [show b.filter _ = byK b x.key from rfl, ← ht]; simp
    obtain ⟨b1, b2, rfl, h1, h2, h3⟩ := List.filter_eq_cons_iff.1 ht'
    have e1 : byK b1 x.key = [] := by
      unfold byK; rw [List.filter_eq_nil_iff]; exact h1
    have ih := pre_len a (b1 ++ b2) (fun k => by
      have hk := h k
      rw [byK_cons, byK_app, byK_cons] at hk
      rw [byK_app]
      by_cases e : x.key = k
      · subst e
        rw [e1] at hk ⊢
        simpa using hk
      · rw [if_neg e] at hk
        simpa using hk)
    simp at ih ⊢; omega
/-- The records of a key and an input. -/
def byT (xs : List (Rc × Int)) (k : ByteArray) (i : Int) : List (Rc × Int) := xs.filter fun x => decide (x.1.key = k) && decide (x.2 = i)
def PreT (xs ys : List (Rc × Int)) : Prop := ∀ k i, byT xs k i <+: byT ys k i
theorem preT_mem {a b : List (Rc × Int)} (h : PreT a b) {x : Rc × Int} (hx : x ∈ a) : x ∈ b := by
  have h1 : x ∈ byT a x.1.key x.2 := by unfold byT; rw [List.mem_filter]; exact ⟨hx, by simp⟩
  have h2 := (h x.1.key x.2).subset h1
  unfold byT at h2
  exact (List.mem_filter.1 h2).1
theorem gsnoc {α : Type} {P : List α → Prop} (h0 : P []) (hs : ∀ l x, P l → P (l ++ [x])) : ∀ l, P l := by
  intro l
  have h : ∀ r : List α, P r.reverse := by
    intro r
    induction r with
    | nil => exact h0
    | cons x r ih => rw [List.reverse_cons]; exact hs _ _ ih
  have := h l.reverse
  rwa [List.reverse_reverse] at this
theorem run_pre (nd : Nd) (xs ys : List (Rc × Int)) : (runP nd xs).1 <+: (runP nd (xs ++ ys)).1 := by
  have h : ∀ (ys : List (Rc × Int)) (acc : List Rc × Sts), acc.1 <+: (ys.foldl (stepP nd) acc).1 := by
    intro ys
    induction ys with
    | nil => intro acc; exact List.prefix_refl _
    | cons y r ih => intro acc; exact List.IsPrefix.trans (by simp [stepP]) (ih _)
  unfold runP
  rw [List.foldl_append]
  exact h ys _
theorem cop_key {r : Rc} {m : Int} {y : Rc} (h : y ∈ copP r m) : y = r := by
  unfold copP at h
  split at h
  · simp at h
  · exact (List.mem_replicate.1 h).2
theorem app_key {nd : Nd} (h : hasStP nd.k = true) (st : Hd) (has : Bool) (r : Rc) (i : Int) : (∀ y ∈ (appP nd st has r i).1, y.key = r.key) ∧ (appP nd st has r i).2.2 = true := by
  unfold appP
  simp only [h, if_true]
  refine ⟨fun y hy => ?_, trivial⟩
  rw [cop_key hy]
  unfold countedP
  repeat' split
  all_goals rfl
def selK (xs : List (Rc × Int)) (k : ByteArray) : List (Rc × Int) := xs.filter fun x => decide (x.1.key = k)
theorem run_st {nd : Nd} (h : hasStP nd.k = true) (k : ByteArray) (xs : List (Rc × Int)) :
    byK (runP nd xs).1 k = (runP nd (selK xs k)).1 ∧ (runP nd xs).2 k = (runP nd (selK xs k)).2 k := by
  induction xs using gsnoc with
  | h0 => exact ⟨rfl, rfl⟩
  | hs l x ih =>
    obtain ⟨i1, i2⟩ := ih
    have es : selK (l ++ [x]) k = selK l k ++ (if x.1.key = k then [x] else []) := by
      unfold selK; rw [List.filter_append, List.filter_cons]; by_cases e : x.1.key = k <;> simp [e]
    rw [es, runP_snoc]
    by_cases e : x.1.key = k
    · rw [if_pos e, runP_snoc]
      subst e
      simp only [stepP]
      rw [← i2]
      obtain ⟨k1, k2⟩ := app_key h (((runP nd l).2 x.1.key).getD hd0) ((runP nd l).2 x.1.key).isSome x.1 x.2
      generalize appP nd (((runP nd l).2 x.1.key).getD hd0) ((runP nd l).2 x.1.key).isSome x.1 x.2 = p at *
      rw [byK_app, i1, k2]
      refine ⟨?_, by simp⟩
      congr 1
      unfold byK
      rw [List.filter_eq_self]
      intro y hy
      simpa using k1 y hy
    · rw [if_neg e, List.append_nil]
      simp only [stepP]
      obtain ⟨k1, k2⟩ := app_key h (((runP nd l).2 x.1.key).getD hd0) ((runP nd l).2 x.1.key).isSome x.1 x.2
      generalize appP nd (((runP nd l).2 x.1.key).getD hd0) ((runP nd l).2 x.1.key).isSome x.1 x.2 = p at *
      have e1 : byK p.1 k = [] := by
        unfold byK; rw [List.filter_eq_nil_iff]; intro y hy; rw [k1 y hy]; simpa using e
      rw [byK_app, e1, List.append_nil, k2]
      refine ⟨i1, ?_⟩
      simp only [if_true]
      rw [if_neg (fun h => e h.symm)]
      exact i2
theorem flat_group {α β : Type} (g : α → List β) (p : β → Bool) (q : α → Bool) : ∀ (xs : List α), (∀ x ∈ xs, q x = false → ∀ y ∈ g x, p y = false) → (xs.flatMap g).filter p = ((xs.filter q).flatMap g).filter p
  | [], _ => rfl
  | x :: xs, h => by
    have ih := flat_group g p q xs (fun y hy => h y (List.mem_cons_of_mem _ hy))
    rw [List.flatMap_cons, List.filter_append, ih, List.filter_cons]
    cases hq : q x with
    | true => rw [if_pos rfl, List.flatMap_cons, List.filter_append]
    | false =>
      have e : (g x).filter p = [] := by
        rw [List.filter_eq_nil_iff]; intro y hy; rw [h x List.mem_cons_self hq y hy]; decide
      rw [e]; rfl
theorem g_key {nd : Nd} {r : Rc} {i : Int} {y : Rc} (h : y ∈ gP nd r i) : y.key = (turnedP nd r i).1.key := by
  unfold gP at h; rw [cop_key h]
theorem turn_inj {nd : Nd} {r r' : Rc} {i j : Int} (ht : (nd.k = 6 ∧ 0 ≤ i ∧ i < 4 ∧ 0 ≤ j ∧ j < 4) ∨ (nd.k ≠ 6 ∧ i = 0 ∧ j = 0)) (e : (turnedP nd r i).1.key = (turnedP nd r' j).1.key) : r.key = r'.key ∧ i = j := by
  rcases ht with ⟨h6, a, b, c, d⟩ | ⟨h6, rfl, rfl⟩
  · unfold turnedP at e
    rw [if_neg (by omega), if_neg (by omega), if_neg (by omega), if_neg (by omega), if_neg (by omega), if_pos h6, if_neg (by omega), if_neg (by omega), if_neg (by omega), if_neg (by omega), if_neg (by omega), if_pos h6] at e
    obtain ⟨h1, h2⟩ := un_key a b c d e
    exact ⟨h2, h1⟩
  · refine ⟨?_, rfl⟩
    unfold turnedP at e
    by_cases h1 : nd.k = 1 ∨ nd.k = 10
    · rw [if_pos h1, if_pos h1] at e; exact e
    rw [if_neg h1, if_neg h1] at e
    by_cases h2 : nd.k = 2
    · rw [if_pos h2, if_pos h2] at e; exact e
    rw [if_neg h2, if_neg h2] at e
    by_cases h3 : nd.k = 3
    · rw [if_pos h3, if_pos h3] at e; exact e
    rw [if_neg h3, if_neg h3] at e
    by_cases h4 : nd.k = 4
    · rw [if_pos h4, if_pos h4] at e; exact sub_key e
    rw [if_neg h4, if_neg h4] at e
    by_cases h5 : nd.k = 5
    · rw [if_pos h5, if_pos h5] at e; exact e
    rw [if_neg h5, if_neg h5, if_neg h6, if_neg h6] at e
    exact e
/-- The inputs' numbers, as a node may have them. -/
def TagOk (nd : Nd) (xs : List (Rc × Int)) : Prop := (nd.k = 6 ∧ ∀ x ∈ xs, 0 ≤ x.2 ∧ x.2 < 4) ∨ (nd.k ≠ 6 ∧ ∀ x ∈ xs, x.2 = 0)
theorem flat_pre {α β : Type} (g : α → List β) {p q : List α} (h : p <+: q) : p.flatMap g <+: q.flatMap g := by
  obtain ⟨t, rfl⟩ := h
  rw [List.flatMap_append]
  exact List.prefix_append _ _
theorem filt_pre {α : Type} (f : α → Bool) {p q : List α} (h : p <+: q) : p.filter f <+: q.filter f := by
  obtain ⟨t, rfl⟩ := h
  rw [List.filter_append]
  exact List.prefix_append _ _
theorem run_mono {nd : Nd} {xs ys : List (Rc × Int)} (h : PreT xs ys) (hy : TagOk nd ys) : Pre (runP nd xs).1 (runP nd ys).1 := by
  intro k
  cases hs : hasStP nd.k with
  | true =>
    rw [(run_st hs k xs).1, (run_st hs k ys).1]
    have h0 : ∀ x ∈ ys, x.2 = 0 := by
      rcases hy with ⟨h6, -⟩ | ⟨-, h0⟩
      · rw [h6] at hs; exact absurd hs (by decide)
      · exact h0
    have e : ∀ zs : List (Rc × Int), (∀ x ∈ zs, x.2 = 0) → selK zs k = byT zs k 0 := fun zs hz => by
      unfold selK byT
      refine List.filter_congr (fun x hx => ?_)
      rw [hz x hx]; simp
    have hp := h k 0
    rw [← e xs (fun x hx => h0 x (preT_mem h hx)), ← e ys h0] at hp
    obtain ⟨t, ht⟩ := hp
    rw [← ht]
    exact run_pre nd _ _
  | false =>
    rw [run_plain hs, run_plain hs]
    show byK (xs.flatMap _) k <+: byK (ys.flatMap _) k
    by_cases hex : ∃ x ∈ ys, (turnedP nd x.1 x.2).1.key = k
    · obtain ⟨x0, hx0, hk0⟩ := hex
      have hq : ∀ x ∈ ys, (decide (x.1.key = x0.1.key) && decide (x.2 = x0.2)) = false → ∀ y ∈ gP nd x.1 x.2, decide (y.key = k) = false := fun x hx hf y hy' => by
        rw [decide_eq_false_iff_not]
        intro hyk
        have e1 : (turnedP nd x.1 x.2).1.key = (turnedP nd x0.1 x0.2).1.key := by rw [hk0, ← hyk, g_key hy']
        obtain ⟨e2, e3⟩ := turn_inj (by
          rcases hy with ⟨h6, ha⟩ | ⟨h6, ha⟩
          · exact .inl ⟨h6, (ha x hx).1, (ha x hx).2, (ha x0 hx0).1, (ha x0 hx0).2⟩
          · exact .inr ⟨h6, ha x hx, ha x0 hx0⟩) e1
        rw [e2, e3] at hf
        simp at hf
      unfold byK
      rw [flat_group _ _ (fun x => decide (x.1.key = x0.1.key) && decide (x.2 = x0.2)) ys hq, flat_group _ _ (fun x => decide (x.1.key = x0.1.key) && decide (x.2 = x0.2)) xs (fun x hx => hq x (preT_mem h hx))]
      exact filt_pre _ (flat_pre _ (h x0.1.key x0.2))
    · have e : byK (xs.flatMap fun x => gP nd x.1 x.2) k = [] := by
        unfold byK
        rw [List.filter_eq_nil_iff]
        intro y hy'
        obtain ⟨x, hx, hyx⟩ := List.mem_flatMap.1 hy'
        rw [decide_eq_true_eq]
        intro hyk
        exact hex ⟨x, preT_mem h hx, by rw [← hyk, g_key hyx]⟩
      rw [e]
      exact List.nil_prefix

/-- Lists of records, side by side. -/
def PreL : List (List Rc) → List (List Rc) → Prop
  | [], [] => True
  | a :: A, b :: B => Pre a b ∧ PreL A B
  | _, _ => False
theorem PreL.len : ∀ {A B : List (List Rc)}, PreL A B → A.length = B.length
  | [], [], _ => rfl
  | a :: A, b :: B, h => by simp [PreL.len h.2]
  | [], _ :: _, h => h.elim
  | _ :: _, [], h => h.elim
theorem PreL.getD : ∀ {A B : List (List Rc)}, PreL A B → ∀ j, Pre (A.getD j []) (B.getD j [])
  | [], [], _, j => Pre.refl _
  | a :: A, b :: B, h, 0 => h.1
  | a :: A, b :: B, h, j + 1 => by simpa using PreL.getD h.2 j
  | [], _ :: _, h, _ => h.elim
  | _ :: _, [], h, _ => h.elim
theorem PreL.snoc : ∀ {A B : List (List Rc)} {a b : List Rc}, PreL A B → Pre a b → PreL (A ++ [a]) (B ++ [b])
  | [], [], a, b, _, h => ⟨h, trivial⟩
  | x :: A, y :: B, a, b, h, h' => ⟨h.1, PreL.snoc h.2 h'⟩
  | [], _ :: _, _, _, h, _ => h.elim
  | _ :: _, [], _, _, h, _ => h.elim
theorem PreL.take1 : ∀ {A B : List (List Rc)}, PreL A B → PreL (A.take 1) (B.take 1)
  | [], [], _ => trivial
  | x :: A, y :: B, h => by simpa [PreL] using h.1
  | [], _ :: _, h => h.elim
  | _ :: _, [], h => h.elim
theorem PreL.drop1 : ∀ {A B : List (List Rc)}, PreL A B → PreL (A.drop 1) (B.drop 1)
  | [], [], _ => trivial
  | x :: A, y :: B, h => by simpa using h.2
  | [], _ :: _, h => h.elim
  | _ :: _, [], h => h.elim
theorem PreL.map {A B : List (List Rc)} (h : PreL A B) : ∀ fs : List Int, PreL (fs.map fun f => A.getD f.toNat []) (fs.map fun f => B.getD f.toNat [])
  | [] => trivial
  | f :: fs => ⟨h.getD _, PreL.map h fs⟩
theorem tag_ge : ∀ (A : List (List Rc)) (n : Nat) (x : Rc × Int), x ∈ tagP n A → (n : Int) ≤ x.2 ∧ x.2 < n + A.length
  | [], n, x, h => by simp [tagP] at h
  | a :: A, n, x, h => by
    rw [tagP] at h
    rcases List.mem_append.1 h with h | h
    · obtain ⟨r, -, rfl⟩ := List.mem_map.1 h
      simp; omega
    · have := tag_ge A (n + 1) x h
      simp at this ⊢; omega
theorem byT_map (a : List Rc) (n : Nat) (k : ByteArray) (i : Int) : byT (a.map fun x => (x, (n : Int))) k i = if i = n then (byK a k).map fun x => (x, (n : Int)) else [] := by
  unfold byT byK
  rw [List.filter_map]
  by_cases e : i = n
  · subst e
    rw [if_pos rfl]
    congr 1
    refine List.filter_congr (fun x _ => ?_)
    simp
  · rw [if_neg e, List.map_eq_nil_iff, List.filter_eq_nil_iff]
    intro x _
    simp only [Function.comp, Bool.and_eq_true, decide_eq_true_eq, not_and]
    intro _ h
    exact e h.symm
theorem tag_pre : ∀ {A B : List (List Rc)} (n : Nat), PreL A B → PreT (tagP n A) (tagP n B)
  | [], [], n, _ => fun k i => List.prefix_refl _
  | a :: A, b :: B, n, h => fun k i => by
    have e : ∀ (c : List Rc) (C : List (List Rc)), byT (tagP n (c :: C)) k i = byT (c.map fun x => (x, (n : Int))) k i ++ byT (tagP (n + 1) C) k i := fun c C => by
      rw [tagP]; unfold byT; rw [List.filter_append]
    rw [e, e, byT_map, byT_map]
    by_cases hi : i = n
    · rw [if_pos hi, if_pos hi]
      have z : ∀ C : List (List Rc), byT (tagP (n + 1) C) k i = [] := fun C => by
        unfold byT
        rw [List.filter_eq_nil_iff]
        intro x hx
        have := (tag_ge C (n + 1) x hx).1
        simp only [Bool.and_eq_true, decide_eq_true_eq, not_and]
        intro _ h
        omega
      rw [z, z, List.append_nil, List.append_nil]
      obtain ⟨t, ht⟩ := h.1 k
      rw [← ht, List.map_append]
      exact List.prefix_append _ _
    · rw [if_neg hi, if_neg hi]
      exact tag_pre (n + 1) h.2 k i
  | [], _ :: _, _, h => h.elim
  | _ :: _, [], _, h => h.elim
theorem got_pre (nd : Nd) {DA DB HA HB : List (List Rc)} (h1 : PreL DA DB) (h2 : PreL HA HB) : PreL (gotP nd DA HA) (gotP nd DB HB) := by
  unfold gotP
  split
  · exact h1.take1
  · exact h2.map _
theorem node_tag {ah : List Nd} {nd : Nd} (h : nodeP ah nd = 0) (D H : List (List Rc)) : TagOk nd (tagP 0 (gotP nd D H)) := by
  unfold nodeP at h
  split at h
  · exact absurd h (by decide)
  split at h
  · exact absurd h (by decide)
  rename_i h1 h2
  by_cases h6 : nd.k = 6
  · refine .inl ⟨h6, fun x hx => ?_⟩
    have := tag_ge _ _ _ hx
    rw [got_oth (by omega)] at this
    unfold fromsP at this
    rw [List.length_map] at this
    unfold inHi at h2
    rw [h6] at h2
    simp at h2 this
    omega
  · refine .inr ⟨h6, fun x hx => ?_⟩
    have := tag_ge _ _ _ hx
    by_cases hk : nd.k = 1
    · rw [got_src hk, List.length_take] at this
      omega
    · rw [got_oth hk] at this
      unfold fromsP at this
      rw [List.length_map] at this
      unfold inHi at h2
      rw [if_neg hk, if_neg h6] at h2
      omega
theorem hand_pre {ah : List Nd} {nd : Nd} (hn : nodeP ah nd = 0) {DA DB HA HB : List (List Rc)} (h1 : PreL DA DB) (h2 : PreL HA HB) {o : List Rc} (h : handP nd (gotP nd DB HB) = some o) : ∃ o', handP nd (gotP nd DA HA) = some o' ∧ Pre o' o := by
  unfold handP at h
  split at h
  · cases h
  · rename_i hl
    injection h with h
    subst h
    have hp := run_mono (tag_pre 0 (got_pre nd h1 h2)) (node_tag hn DB HB)
    refine ⟨_, ?_, hp⟩
    unfold handP
    rw [if_neg (by have := pre_len _ _ hp; omega)]
theorem flow_pre : ∀ (L ah : List Nd) (DA DB HA HB : List (List Rc)), allP ah L = 0 → PreL DA DB → PreL HA HB → ∀ oB, flowP L DB HB = some oB → ∃ oA, flowP L DA HA = some oA ∧ PreL oA oB
  | [], ah, DA, DB, HA, HB, _, h1, h2, oB, h => by
    rw [flowP] at h
    injection h with h
    subst h
    exact ⟨HA, rfl, h2⟩
  | nd :: L, ah, DA, DB, HA, HB, ha, h1, h2, oB, h => by
    rw [allP] at ha
    split at ha
    · rename_i hn
      rw [flowP] at h
      split at h
      · cases h
      · rename_i o ho
        obtain ⟨o', e, hp⟩ := hand_pre hn h1 h2 ho
        rw [flowP, e]
        refine flow_pre L (ah ++ [nd]) _ _ _ _ ha ?_ (h2.snoc hp) oB h
        unfold restP
        split
        · exact h1.drop1
        · exact h1
    · rename_i hn
      exact absurd ha hn

theorem data_pre : ∀ {A B : List (List Rc)}, PreL A B → dataP B = 0 → dataP A = 0
  | [], [], _, _ => rfl
  | a :: A, b :: B, h, hd => by
    rw [dataP] at hd ⊢
    split at hd
    · cases hd
    · split at hd
      · cases hd
      · rename_i h1 h2
        rw [if_neg (by have := pre_len _ _ h.1; omega), if_neg ?_]
        · exact data_pre h.2 hd
        · intro hb
          apply h2
          rw [List.any_eq_true] at hb ⊢
          obtain ⟨x, hx, e⟩ := hb
          exact ⟨x, preK_mem h.1 hx, e⟩
  | [], _ :: _, h, _ => h.elim
  | _ :: _, [], h, _ => h.elim
theorem check_pre {A B : List (List Rc)} (h : PreL A B) {n : Nat} (hc : checkP B n = 0) : checkP A n = 0 := by
  unfold checkP at hc ⊢
  split at hc
  · cases hc
  · rename_i hl
    rw [if_neg (by rw [h.len]; exact hl)]
    exact data_pre h hc
/-- Lines that are the beginning of others. -/
def LnPre (a b : List Ln) : Prop := ∀ ln ∈ a, ∃ ns, (ln.1, ns) ∈ b ∧ ln.2 <+: ns
theorem keysP_mem {l : List Rc} {k : ByteArray} : k ∈ keysP l ↔ ∃ r ∈ l, r.key = k := by
  rw [← firsts_mem]; exact (List.mergeSort_perm _ _).mem_iff
theorem nums_by (l : List Rc) (k : ByteArray) : numsP l k = (byK l k).map (fun r => r.num) := rfl
theorem lines_pre {a b : List Rc} (h : Pre a b) : LnPre (linesP a) (linesP b) := by
  intro ln hl
  unfold linesP at hl
  obtain ⟨k, hk, rfl⟩ := List.mem_map.1 hl
  obtain ⟨r, hr, rfl⟩ := keysP_mem.1 hk
  refine ⟨numsP b r.key, List.mem_map.2 ⟨r.key, keysP_mem.2 ⟨r, preK_mem h hr, rfl⟩, rfl⟩, ?_⟩
  obtain ⟨t, ht⟩ := h r.key
  show numsP a r.key <+: numsP b r.key
  rw [nums_by, nums_by, ← ht, List.map_append]
  exact List.prefix_append _ _
/-- One key, one line. -/
theorem lines_one {l : List Rc} {k : ByteArray} {ns : List Int} (h : (k, ns) ∈ linesP l) : ns = numsP l k := by
  unfold linesP at h
  obtain ⟨q, -, e⟩ := List.mem_map.1 h
  injection e with e1 e2
  rw [← e2, e1]
theorem by_same {a b : List Rc} (h : Pre a b) (h' : Pre b a) (k : ByteArray) : byK a k = byK b k :=
  (h k).eq_of_length (Nat.le_antisymm (h k).length_le (h' k).length_le)
theorem lines_eqP {a b : List Rc} (h : Pre a b) (h' : Pre b a) : linesP a = linesP b := by
  have hk : keysP a = keysP b := by
    refine keys_eq ((List.mergeSort_perm _ _).trans ((List.perm_ext_iff_of_nodup (firsts_nodup a) (firsts_nodup b)).2 fun q => ?_)) (List.pairwise_mergeSort kle_trans kle_total _)
    rw [firsts_mem, firsts_mem]
    exact ⟨fun ⟨r, hr, e⟩ => ⟨r, preK_mem h hr, e⟩, fun ⟨r, hr, e⟩ => ⟨r, preK_mem h' hr, e⟩⟩
  unfold linesP
  rw [hk]
  refine List.map_congr_left (fun k _ => ?_)
  rw [nums_by, nums_by, by_same h h' k]
def LnL : List (List Ln) → List (List Ln) → Prop
  | [], [] => True
  | a :: A, b :: B => LnPre a b ∧ LnL A B
  | _, _ => False
theorem LnL.len : ∀ {A B : List (List Ln)}, LnL A B → A.length = B.length
  | [], [], _ => rfl
  | a :: A, b :: B, h => by simp [LnL.len h.2]
  | [], _ :: _, h => h.elim
  | _ :: _, [], h => h.elim
theorem LnL.at : ∀ {A B : List (List Ln)}, LnL A B → ∀ i (ha : i < A.length) (hb : i < B.length), LnPre A[i] B[i]
  | a :: A, b :: B, h, 0, _, _ => h.1
  | a :: A, b :: B, h, i + 1, ha, hb => by simpa using LnL.at h.2 i (by simpa using ha) (by simpa using hb)
  | [], _, _, i, ha, _ => absurd ha (by simp)
  | _ :: _, [], h, _, _, _ => h.elim
theorem sinks_pre : ∀ (L : List Nd) {A B : List (List Rc)}, PreL A B → LnL (sinksP L A) (sinksP L B)
  | [], A, B, h => by simp [sinksP, LnL]
  | nd :: L, [], [], h => by simp [sinksP, LnL]
  | nd :: L, a :: A, b :: B, h => by
    simp only [sinksP]
    split
    · exact ⟨lines_pre h.1, sinks_pre L h.2⟩
    · exact sinks_pre L h.2
  | _ :: _, [], _ :: _, h => h.elim
  | _ :: _, _ :: _, [], h => h.elim
theorem sinks_same : ∀ (L : List Nd) {A B : List (List Rc)}, PreL A B → PreL B A → sinksP L A = sinksP L B
  | [], A, B, _, _ => by simp [sinksP]
  | nd :: L, [], [], _, _ => rfl
  | nd :: L, a :: A, b :: B, h, h' => by
    simp only [sinksP]
    rw [lines_eqP h.1 h'.1, sinks_same L h.2 h'.2]
  | _ :: _, [], _ :: _, h, _ => h.elim
  | _ :: _, _ :: _, [], h, _ => h.elim
theorem job_all {L : List Nd} (h : jobP L = 0) : allP [] L = 0 := by
  unfold jobP at h
  split at h
  · cases h
  · split at h
    · assumption
    · rename_i h1
      exact absurd h h1
/-- More data make more of the same; and in whatever order keys come, it is the same. -/
theorem grows_pure {L : List Nd} {D D' : List (List Rc)} (h : denE L D = 0) (hp : PreL D' D) : denE L D' = 0 ∧ LnL (denV L D') (denV L D) ∧ (PreL D D' → denV L D' = denV L D) := by
  unfold denE at h
  by_cases hj : jobP L = 0
  · rw [if_neg (by simpa using hj)] at h
    by_cases hc : checkP D (srcs L) = 0
    · rw [if_neg (by simpa using hc)] at h
      have hc' := check_pre hp hc
      cases hf : flowP L D [] with
      | none => rw [hf] at h; cases h
      | some o =>
        obtain ⟨o', ho', hpo⟩ := flow_pre L [] D' D [] [] (job_all hj) hp trivial o hf
        unfold denE denV
        rw [if_neg (by simpa using hj), if_neg (by simpa using hc'), ho', if_neg (by simpa using hj), if_neg (by simpa using hc'), if_neg (by simpa using hj), if_neg (by simpa using hc), hf]
        refine ⟨rfl, sinks_pre L hpo, fun hb => ?_⟩
        obtain ⟨o2, ho2, hpo2⟩ := flow_pre L [] D D' [] [] (job_all hj) hb trivial o' ho'
        rw [hf] at ho2
        injection ho2 with ho2
        subst ho2
        exact sinks_same L hpo hpo2
    · rw [if_pos (by simpa using hc)] at h
      exact absurd h hc
  · rw [if_pos (by simpa using hj)] at h
    exact absurd h hj
/-- One record more among those that are sorted. -/
theorem ins_by (s : List Rc) (x : Rc) (m : Nat) (h : ∀ y ∈ s.drop m, y.key ≠ x.key) (k : ByteArray) : byK (s.take m ++ [x] ++ s.drop m) k = byK (s ++ [x]) k := by
  have e : byK s k = byK (s.take m) k ++ byK (s.drop m) k := by rw [← byK_app, List.take_append_drop]
  rw [byK_app, byK_app, byK_app, e]
  by_cases hk : x.key = k
  · have z : byK (s.drop m) k = [] := by
      unfold byK
      rw [List.filter_eq_nil_iff]
      intro y hy
      rw [decide_eq_true_eq, ← hk]
      exact h y hy
    rw [z]; simp
  · have z : byK [x] k = [] := by rw [byK_cons, if_neg hk]; rfl
    rw [z]; simp
theorem ins_next {l s : List Rc} {j : Nat} (hj : j < l.length) (hs : ∀ k, byK s k = byK (l.take j) k) (m : Nat) (h : ∀ y ∈ s.drop m, y.key ≠ l[j].key) : ∀ k, byK (s.take m ++ [l[j]] ++ s.drop m) k = byK (l.take (j + 1)) k := fun k => by
  rw [ins_by s l[j] m h k, List.take_succ_eq_append_getElem hj, byK_app, byK_app, hs k]
theorem pre_of_by {a b : List Rc} (h : ∀ k, byK a k = byK b k) : Pre a b ∧ Pre b a := ⟨fun k => by rw [h k]; exact List.prefix_refl _, fun k => by rw [h k]; exact List.prefix_refl _⟩
end Go.Proofs.YtppkjiihmlphbaaGreatDoor

/- Lines, and whether some are the beginning of others: plain functions on lists. -/
namespace Go.Proofs.YtppkjiihmlphbaaGreatDoor


/-- The first line of a key. -/
def fstP (k : ByteArray) : List Ln → Option Ln
  | [] => none
  | m :: r => if m.1 = k then some m else fstP k r
def oneP (b : List Ln) (l : Ln) : Bool :=
  match fstP l.1 b with
  | none => false
  | some m => decide (l.2 <+: m.2)
def prefP (a b : List Ln) : Bool := a.all (oneP b)

/-- The place of the first line of a key. -/
def fstAt (k : ByteArray) : Nat → List Ln → Option Nat
  | _, [] => none
  | i, m :: r => if m.1 = k then some i else fstAt k (i + 1) r

theorem fstAt_ge (k : ByteArray) : ∀ (b : List Ln) (i j : Nat), fstAt k i b = some j → i ≤ j ∧ j < i + b.length
  | [], i, j, h => by simp [fstAt] at h
  | m :: r, i, j, h => by
    unfold fstAt at h
    split at h
    · simp at h; subst h; simp
    · have := fstAt_ge k r (i + 1) j h; simp; omega
theorem fstAt_none (k : ByteArray) : ∀ (b : List Ln) (i : Nat), fstAt k i b = none ↔ fstP k b = none
  | [], i => by simp [fstAt, fstP]
  | m :: r, i => by
    unfold fstAt fstP
    split
    · simp
    · exact fstAt_none k r (i + 1)
theorem fstAt_some (k : ByteArray) : ∀ (b : List Ln) (i j : Nat), fstAt k i b = some j → ∃ m, b[j - i]? = some m ∧ fstP k b = some m
  | [], i, j, h => by simp [fstAt] at h
  | m :: r, i, j, h => by
    unfold fstAt at h
    unfold fstP
    split at h
    · rename_i hk
      simp at h; subst h
      exact ⟨m, by simp, by rw [if_pos hk]⟩
    · rename_i hk
      have hge := (fstAt_ge k r (i + 1) j h).1
      obtain ⟨m', h1, h2⟩ := fstAt_some k r (i + 1) j h
      refine ⟨m', ?_, by rw [if_neg hk]; exact h2⟩
      rw [show j - i = (j - (i + 1)) + 1 from by omega]
      simpa using h1
/-- What stands at the first place of a key. -/
theorem fst_place (k : ByteArray) (b : List Ln) {j : Nat} (h : fstAt k 0 b = some j) : ∃ (hj : j < b.length), fstP k b = some b[j] ∧ b[j].1 = k ∧ ∀ (i : Nat) (hi : i < j), (b[i]'(by omega)).1 ≠ k := by
  have hg := fstAt_ge k b 0 j h
  obtain ⟨m, h1, h2⟩ := fstAt_some k b 0 j h
  have hj : j < b.length := by omega
  rw [Nat.sub_zero, List.getElem?_eq_getElem hj] at h1
  injection h1 with h1
  refine ⟨hj, by rw [h1]; exact h2, ?_, ?_⟩
  · have : ∀ (b : List Ln) m, fstP k b = some m → m.1 = k := by
      intro b
      induction b with
      | nil => intro m h; simp [fstP] at h
      | cons x r ih =>
        intro m h
        unfold fstP at h
        split at h
        · rename_i hx; simp at h; subst h; exact hx
        · exact ih m h
    rw [h1]; exact this b m h2
  · have : ∀ (b : List Ln) (i0 j i : Nat) (hb : i < b.length), fstAt k i0 b = some j → i0 + i < j → (b[i]).1 ≠ k := by
      intro b
      induction b with
      | nil => intro i0 j i hb; simp at hb
      | cons x r ih =>
        intro i0 j i hb h hi
        unfold fstAt at h
        split at h
        · simp at h; omega
        · rename_i hx
          cases i with
          | zero => simpa using hx
          | succ i =>
            simp
            exact ih (i0 + 1) j i (by simpa using hb) h (by omega)
    intro i hi
    exact this b 0 j i (by omega) h (by omega)

/-- No line of a key: none before any place. -/
theorem fst_no (k : ByteArray) (b : List Ln) (h : fstP k b = none) : ∀ m ∈ b, m.1 ≠ k := by
  induction b with
  | nil => simp
  | cons x r ih =>
    unfold fstP at h
    split at h
    · simp at h
    · rename_i hx
      intro m hm
      rcases List.mem_cons.1 hm with rfl | hm
      · exact hx
      · exact ih h m hm
theorem fst_first (k : ByteArray) : ∀ (b : List Ln) (j : Nat) (hj : j < b.length), b[j].1 = k → (∀ (i : Nat) (hi : i < j), (b[i]'(by omega)).1 ≠ k) → fstP k b = some b[j] := by
  intro b
  induction b with
  | nil => intro j hj; simp at hj
  | cons x r ih =>
    intro j hj h0 h1
    unfold fstP
    cases j with
    | zero => rw [if_pos (by simpa using h0)]; simp
    | succ j =>
      rw [if_neg (by simpa using h1 0 (by omega))]
      have := ih j (by simpa using hj) (by simpa using h0) (fun i hi => by simpa using h1 (i + 1) (by omega))
      simpa using this

theorem pref_snoc (a b : List Ln) (l : Ln) : prefP (a ++ [l]) b = (prefP a b && oneP b l) := by simp [prefP]
theorem pref_take {a b : List Ln} {i : Nat} (h : i < a.length) : prefP (a.take (i + 1)) b = (prefP (a.take i) b && oneP b a[i]) := by
  rw [List.take_succ_eq_append_getElem h, pref_snoc]
theorem pref_false {a b : List Ln} {i : Nat} (h : i < a.length) (hf : oneP b a[i] = false) : prefP a b = false := by
  unfold prefP
  rw [List.all_eq_false]
  exact ⟨a[i], List.getElem_mem h, by simp [hf]⟩
end Go.Proofs.YtppkjiihmlphbaaGreatDoor

/- More data make more of the same: what the law's own loops ask. -/
namespace Go.Proofs.YtppkjiihmlphbaaGreatDoor
set_option linter.unusedVariables false

theorem fst_mem {k : ByteArray} : ∀ {b : List Ln} {m : Ln}, fstP k b = some m → m ∈ b ∧ m.1 = k
  | [], m, h => by simp [fstP] at h
  | x :: r, m, h => by
    unfold fstP at h
    split at h
    · rename_i hx; injection h with h; subst h; exact ⟨List.mem_cons_self, hx⟩
    · obtain ⟨h1, h2⟩ := fst_mem h; exact ⟨List.mem_cons_of_mem _ h1, h2⟩
theorem pref_of {a : List Ln} {l : List Rc} (h : LnPre a (linesP l)) : prefP a (linesP l) = true := by
  unfold prefP
  rw [List.all_eq_true]
  intro ln hl
  obtain ⟨ns, h1, h2⟩ := h ln hl
  unfold oneP
  cases hf : fstP ln.1 (linesP l) with
  | none => exact absurd rfl (fst_no ln.1 (linesP l) hf (ln.1, ns) h1)
  | some m =>
    obtain ⟨h3, h4⟩ := fst_mem hf
    obtain ⟨m1, m2⟩ := m
    simp only at h4
    subst h4
    have e1 := lines_one h1
    have e2 := lines_one h3
    simp only [decide_eq_true_eq]
    rw [e2, ← e1]; exact h2
theorem sinks_lines : ∀ (L : List Nd) (H : List (List Rc)), ∀ b ∈ sinksP L H, ∃ l, b = linesP l
  | [], H, b, hb => by simp [sinksP] at hb
  | nd :: L, [], b, hb => by simp [sinksP] at hb
  | nd :: L, o :: H, b, hb => by
    rw [sinksP] at hb
    split at hb
    · rcases List.mem_cons.1 hb with rfl | hb
      · exact ⟨o, rfl⟩
      · exact sinks_lines L H b hb
    · exact sinks_lines L H b hb
theorem den_lines (L : List Nd) (D : List (List Rc)) : ∀ b ∈ denV L D, ∃ l, b = linesP l := by
  intro b hb
  unfold denV at hb
  split at hb
  · simp at hb
  · split at hb
    · simp at hb
    · split at hb
      · simp at hb
      · exact sinks_lines _ _ b hb
theorem pref_all {L : List Nd} {D D' : List (List Rc)} (h : LnL (denV L D') (denV L D)) (i : Nat) (ha : i < (denV L D').length) (hb : i < (denV L D).length) : prefP (denV L D')[i] (denV L D)[i] = true := by
  have h1 := h.at i ha hb
  obtain ⟨l, hl⟩ := den_lines L D _ (List.getElem_mem hb)
  rw [hl] at h1 ⊢
  exact pref_of h1
/-- The first so many. -/
def cutL (c : Int) (l : List Rc) : List Rc := if 0 ≤ c ∧ c < l.length then l.take c.toNat else l
theorem cut_pre (c : Int) (l : List Rc) : Pre (cutL c l) l := by
  unfold cutL; split
  · exact pre_take _ _
  · exact Pre.refl _
theorem den_small {L : List Nd} {D : List (List Rc)} (h : denE L D = 0) (hn : ∀ l ∈ D, ∀ r ∈ l, Rng r.num) : (∀ l ∈ D, ∀ r ∈ l, RcOk r) ∧ (∀ l ∈ D, l.length ≤ 300) ∧ D.length ≤ 12 := by
  unfold denE at h
  by_cases hj : jobP L = 0
  · rw [if_neg (by simpa using hj)] at h
    by_cases hc : checkP D (srcs L) = 0
    · have hc' := hc
      unfold checkP at hc
      split at hc
      · cases hc
      · rename_i hl
        obtain ⟨h1, h2⟩ := data_ok hc hn
        refine ⟨h1, h2, ?_⟩
        have e : D.length = srcs L := by simpa using hl
        rw [e]
        have h3 : L.length ≤ 12 := by
          unfold jobP at hj
          split at hj
          · cases hj
          · omega
        exact Nat.le_trans (List.length_filter_le _ _) h3
    · rw [if_pos (by simpa using hc)] at h
      exact absurd h hc
  · rw [if_pos (by simpa using hj)] at h
    exact absurd h hj
theorem PreL.mem : ∀ {A B : List (List Rc)}, PreL A B → ∀ l ∈ A, ∃ m ∈ B, Pre l m
  | [], _, _, l, hl => by simp at hl
  | a :: A, b :: B, h, l, hl => by
    rcases List.mem_cons.1 hl with rfl | hl
    · exact ⟨b, List.mem_cons_self, h.1⟩
    · obtain ⟨m, h1, h2⟩ := PreL.mem h.2 l hl
      exact ⟨m, List.mem_cons_of_mem _ h1, h2⟩
  | _ :: _, [], h, _, _ => h.elim
theorem preL_ok {A B : List (List Rc)} (h : PreL A B) (hk : ∀ l ∈ B, ∀ r ∈ l, RcOk r) (hl : ∀ l ∈ B, l.length ≤ 300) : (∀ l ∈ A, ∀ r ∈ l, RcOk r) ∧ ∀ l ∈ A, l.length ≤ 300 := by
  refine ⟨fun l hm r hr => ?_, fun l hm => ?_⟩
  · obtain ⟨m, h1, h2⟩ := h.mem l hm
    exact hk m h1 r (preK_mem h2 hr)
  · obtain ⟨m, h1, h2⟩ := h.mem l hm
    exact Nat.le_trans (pre_len l m h2) (hl m h1)
/-- The job of one Source and one Sink. -/
def jGrow : List Nd := [⟨1, [], emp, 1⟩, ⟨10, [0], emp, 0⟩]
def dGrow : List (List Rc) := [[⟨⟨#[97]⟩, 5, 0⟩]]
theorem grow_fact : denE jGrow dGrow = 0 ∧ denV jGrow dGrow = [[(⟨#[97]⟩, [5])]] := by
  constructor <;> decide +kernel
end Go.Proofs.YtppkjiihmlphbaaGreatDoor

/- Lines in memory; slices.Equal; begins. -/
namespace Go.Proofs.YtppkjiihmlphbaaGreatDoor
open Go.RowKit

theorem keeps_drewN (w : World) (n : Nat) : Keeps w (w.drewN n) := fun _ _ h => h

theorem drewN_two (w : World) (n m : Nat) : (w.drewN n).drewN m = w.drewN (n + m) := by simp [World.drewN, Nat.add_assoc]
theorem take_ne {z y : List Int} {j : Nat} (h1 : j < z.length) (h2 : j < y.length) (hne : z[j] ≠ y[j]) : z ≠ y := fun e => by subst e; exact hne rfl
theorem take_step {z y : List Int} {j : Nat} (h1 : j < z.length) (h2 : j < y.length) (h : z.take j = y.take j) (he : z[j] = y[j]) : z.take (j + 1) = y.take (j + 1) := by
  rw [List.take_succ_eq_append_getElem h1, List.take_succ_eq_append_getElem h2, h, he]

set_option maxHeartbeats 1000000 in
theorem equal_any {w : World} {la lb : Option Addr} {z y : List Int} (ha : IntsAt w la z) (hb : IntsAt w lb y) (ca cb : Nat) (hz : z.length ≤ 9223372036854775807) (hy : y.length ≤ 9223372036854775807) :
    Calls Tryz.prog 32 #[.slice la z.length ca, .slice lb y.length cb] w fun e w' => e = .returned (.bool (decide (z = y))) ∧ ∃ n, w' = w.drewN n := by
  by_cases hl : z.length = y.length
  · have hne : ((z.length : Int) != (y.length : Int)) = false := by simp [hl]
    have Hl : Hid (z.length = y.length) := hl
    clear hl
    go_enter Tryz.func32, Tryz.ntmps32
    go_wp2_with fail
    go_loopw [13] (fun i wr => ∃ j : Nat, j ≤ z.length ∧ i = .int .i64 j ∧ z.take j = y.take j ∧ ∃ n, wr = w.drewN n) (fun i _ => z.length - (intOf i).toNat)
    case atStart => exact ⟨0, by omega, rfl, rfl, 0, rfl⟩
    case round =>
      obtain ⟨j, hj, rfl, ht, n, rfl⟩ := hrel
      have Ht : Hid (z.take j = y.take j) := ht
      clear ht
      by_cases hlt : j < z.length
      · have hi : (j : Int) < z.length := by omega
        have hlt2 : j < y.length := by have := Hl.out; omega
        have hi2 : (j : Int) < y.length := by omega
        rcases ha with ha | ⟨b1, o1, rfl, ha⟩
        · subst ha; simp at hlt
        rcases hb with hb | ⟨b2, o2, rfl, hb⟩
        · subst hb; simp at hlt2
        have c1 := ha j hlt
        have c2 := hb j hlt2
        clear ha hb
        by_cases he : z[j] = y[j]
        · have Hs : Hid (z.take (j + 1) = y.take (j + 1)) := take_step hlt hlt2 Ht.out he
          rw [← he] at c2
          clear he
          generalize z[j] = x at *
          go_wp2_with fail
          go_quiet (fail)
          go_wp2_with fail
          exact ⟨⟨j + 1, by omega, by go_num, Hs.out, n + nq, rfl⟩, by simp [intOf]; omega⟩
        · have Hs : Hid (z ≠ y) := take_ne hlt hlt2 he
          have hb1 : (z[j] != y[j]) = true := by simp [he]
          clear he
          generalize z[j] = x at *
          generalize y[j] = x2 at *
          go_wp2_with fail
          go_quiet (fail)
          go_wp2_with fail
          go_ret
          exact ⟨by rw [decide_eq_false Hs.out]; rfl, n + nq, (drewN_two w n nq)⟩
      · have hi : ¬ (j : Int) < z.length := by omega
        have Hs : Hid (z = y) := by
          have e : j = z.length := by omega
          have h1 := Ht.out
          rw [e, List.take_of_length_le (Nat.le_refl _), List.take_of_length_le (by have := Hl.out; omega)] at h1
          exact h1
        go_wp2
        go_ret
        exact ⟨by rw [decide_eq_true Hs.out]; rfl, n, rfl⟩
  · have hne : ((z.length : Int) != (y.length : Int)) = true := by simp; omega
    have Hs : Hid (z ≠ y) := fun e => hl (by rw [e])
    clear hl
    go_enter Tryz.func32, Tryz.ntmps32
    go_wp2_with fail
    go_ret
    exact ⟨by rw [decide_eq_false Hs.out]; rfl, 0, rfl⟩

theorem IntsAt.take {w : World} {la : Option Addr} {z : List Int} (h : IntsAt w la z) (k : Nat) : IntsAt w la (z.take k) := by
  rcases h with h | ⟨b, o, h1, h2⟩
  · exact .inl (by simp [h])
  · refine .inr ⟨b, o, h1, fun j hj => ?_⟩
    have hj' : j < z.length := by simp at hj; omega
    rw [h2 j hj']; simp

set_option maxHeartbeats 1000000 in
theorem begins_any {w : World} {la lb : Option Addr} {z y : List Int} (ha : IntsAt w la z) (hb : IntsAt w lb y) (ca cb : Nat) (hz : z.length ≤ 9223372036854775807) (hy : y.length ≤ cb) :
    Calls Tryz.prog 21 #[.slice la z.length ca, .slice lb y.length cb] w fun e w' => e = .returned (.bool (decide (z <+: y))) ∧ ∃ n, w' = w.drewN n := by
  by_cases hl : z.length ≤ y.length
  · have ce := equal_any ha (hb.take z.length) ca cb hz (by simp; omega)
    have hd : (y.take z.length).length = z.length := by simp; omega
    rw [hd] at ce
    have hi : (z.length : Int) ≤ y.length := by omega
    have Hs : Hid (decide (z = y.take z.length) = decide (z <+: y)) := by
      show _ = _
      congr 1
      rw [List.prefix_iff_eq_take]
    have hi2 : (z.length : Int) ≤ cb := by omega
    generalize decide (z = y.take z.length) = r at *
    clear ha hb hd
    go_enter Tryz.func21, Tryz.ntmps21
    go_wp2_with (go_at_call 32; refine ce.mono ?_; rintro e w' ⟨rfl, n, rfl⟩)
    go_ret
    exact ⟨by rw [← Hs.out]; rfl, n, rfl⟩
  · have hi : ¬ (z.length : Int) ≤ y.length := by omega
    have Hs : Hid (¬ z <+: y) := fun h => hl h.length_le
    clear hl
    go_enter Tryz.func21, Tryz.ntmps21
    go_wp2_with fail
    go_ret
    exact ⟨by rw [decide_eq_false Hs.out]; rfl, 0, rfl⟩
end Go.Proofs.YtppkjiihmlphbaaGreatDoor

/- slices.Backward over lines: all of them, from the last on. -/
namespace Go.Proofs.YtppkjiihmlphbaaGreatDoor
open Go.RowKit Go.Shelf

attribute [local go_sem] Oper.semAt_some

/-- A line as a round gets it: its place, its key, and where its numbers lie. -/
structure Lv where
  i : Nat
  key : ByteArray
  fa : Option Addr
  n : Nat
  c : Nat
  hi : i ≤ 9223372036854775807
  hk : key.size ≤ 9223372036854775807
def encLv (x : Lv) : Array Value := #[.int .i64 (x.i : Int), .agg #[.string x.key, .slice x.fa x.n x.c]]

/-- What a round keeps: all below n₀, and the block Bs. -/
def Kpb (n₀ Bs : Nat) (W W' : World) : Prop := ∀ k, k < n₀ ∨ k = Bs → W'.heap[k]? = W.heap[k]?
theorem Kpb.refl (n₀ Bs : Nat) (W : World) : Kpb n₀ Bs W W := fun _ _ => rfl
theorem Kpb.trans {n₀ Bs : Nat} {A B C : World} (h : Kpb n₀ Bs A B) (k : Kpb n₀ Bs B C) : Kpb n₀ Bs A C := fun i hi => (k i hi).trans (h i hi)
theorem Kpb.cell {n₀ Bs : Nat} {A B : World} (h : Kpb n₀ Bs A B) {p : Addr} (hp : p.block < n₀ ∨ p.block = Bs) : B.cell? p = A.cell? p := World.cell?_of_block (w := A) (h p.block hp)

/-- The lines xs lie in block b from off on. -/
def LvsAt (W : World) (b off : Nat) (xs : List Lv) : Prop :=
  ∀ (j : Nat) (h : j < xs.length), xs[j].i = j ∧ W.cell? ⟨b, off + j * 2, none⟩ = some (.string xs[j].key) ∧ W.cell? ⟨b, off + j * 2 + 1, none⟩ = some (.slice xs[j].fa xs[j].n xs[j].c)

theorem drop_cons {xs : List Lv} {k : Nat} (h : k < xs.length) : (xs.drop k).reverse = (xs.drop (k + 1)).reverse ++ [xs[k]] := by
  rw [List.drop_eq_getElem_cons h, List.reverse_cons]

set_option maxRecDepth 100000 in
set_option maxHeartbeats 2000000 in
theorem back1_in (F : Fence) (n : Nat) (h8 : F.fn 31) (hro : F.round = none) (hn : 1 ≤ n) (l Bs n₀ b off cap : Nat) (xs : List Lv) (hreach : xs.length ≤ 9223372036854775807) (hb : b < n₀) (J Jx : List Lv → World → Prop)
    (hY : ∀ pre x W, J pre W → pre.length < xs.length → YieldAt F (n - 1) Tryz.prog l (encLv x) W fun e W' =>
      (e = .returned (.bool true) ∧ J (pre ++ [x]) W' ∧ Kpb n₀ Bs W W') ∨ (e = .returned (.bool false) ∧ Jx (pre ++ [x]) W'))
    (W : World) (hBs : W.cell? ⟨Bs, 0, none⟩ = some (.slice (some ⟨b, off, none⟩) xs.length cap)) (hc : LvsAt W b off xs) (h0 : J [] W) :
    CallsIn F n Tryz.prog 31 #[.func (.yield l) #[] #[], .pointer (some ⟨Bs, 0, none⟩)] W fun e W' => (∃ v, e = .returned v) ∧
      ((∃ ys, ys = xs.reverse ∧ J ys W') ∨ (∃ pre, (∃ k, pre = (xs.drop k).reverse) ∧ Jx pre W')) := by
  refine callsIn_of_wp Tryz.func31 rfl h8 ?_ hro
  simp only [Tryz.ntmps31, List.size_toArray, List.length_cons, List.length_nil, Nat.reduceAdd, Nat.reduceSub, Array.replicate_succ, Array.replicate_zero, List.push_toArray, List.append_toArray, List.nil_append, List.cons_append]
  gi_wp2
  gi_loopw [3] (fun i wr => ∃ k : Nat, k ≤ xs.length ∧ i = .int .i64 ((k : Int) - 1) ∧ J (xs.drop k).reverse wr ∧ Kpb n₀ Bs W wr)
    (fun i _ => (intOf i + 1).toNat)
  case atStart => exact ⟨xs.length, Nat.le_refl _, by first | rfl | simp, by simpa using h0, Kpb.refl _ _ _⟩
  case round =>
    obtain ⟨k, hk, rfl, hJs, hnx⟩ := hrel
    cases k with
    | zero =>
      have hneg : ¬ (0 : Int) ≤ ((0 : Nat) : Int) - 1 := by omega
      gi_wp2
      go_end0
      exact ⟨⟨_, rfl⟩, .inl (by simpa using hJs)⟩
    | succ k =>
      have hlt : k < xs.length := by omega
      obtain ⟨e1, e2, e3⟩ := hc k hlt
      have c1 : wr.cell? ⟨b, off + k * 2, none⟩ = some (.string xs[k].key) := (hnx.cell (p := ⟨b, off + k * 2, none⟩) (.inl hb)).trans e2
      have c2 : wr.cell? ⟨b, off + k * 2 + 1, none⟩ = some (.slice xs[k].fa xs[k].n xs[k].c) := (hnx.cell (p := ⟨b, off + k * 2 + 1, none⟩) (.inl hb)).trans e3
      have c0 : wr.cell? ⟨Bs, 0, none⟩ = some (.slice (some ⟨b, off, none⟩) xs.length cap) := (hnx.cell (p := ⟨Bs, 0, none⟩) (.inr rfl)).trans hBs
      obtain ⟨fn, tmps, assign, body, hy, hR⟩ := hY _ xs[k] wr hJs (by simp; omega)
      unfold encLv at hy
      rw [e1] at hy
      have Hd : Hid ((xs.drop k).reverse = (xs.drop (k + 1)).reverse ++ [xs[k]]) := drop_cons hlt
      clear e1 e2 e3
      generalize xs[k] = x at *
      rw [show (((k + 1 : Nat) : Int) - 1) = (k : Int) from by omega]
      have hi : (k : Int) < xs.length := by omega
      gi_wp2
      refine hR.mono ?_
      rintro e W3 (⟨rfl, hJ3, hk3⟩ | ⟨rfl, hJx3⟩)
      · gi_wp2
        go_roundw
        case rel => exact ⟨k, by omega, rfl, by rw [Hd.out]; exact hJ3, hnx.trans hk3⟩
        case measure => simp [intOf]
      · gi_wp2
        refine bodyPost_ret (results_none rfl _ _ _) rfl ?_
        exact ⟨⟨_, rfl⟩, .inr ⟨_, ⟨k, Hd.out.symm⟩, hJx3⟩⟩

set_option maxRecDepth 100000 in
set_option maxHeartbeats 1000000 in
theorem back1_nil_in (F : Fence) (n : Nat) (h8 : F.fn 31) (hro : F.round = none) (l Bs cap : Nat) (la : Option Addr) (J : List Lv → World → Prop) (W : World) (hBs : W.cell? ⟨Bs, 0, none⟩ = some (.slice la 0 cap)) (h0 : J [] W) :
    CallsIn F n Tryz.prog 31 #[.func (.yield l) #[] #[], .pointer (some ⟨Bs, 0, none⟩)] W fun e W' => (∃ v, e = .returned v) ∧ J [] W' := by
  refine callsIn_of_wp Tryz.func31 rfl h8 ?_ hro
  simp only [Tryz.ntmps31, List.size_toArray, List.length_cons, List.length_nil, Nat.reduceAdd, Nat.reduceSub, Array.replicate_succ, Array.replicate_zero, List.push_toArray, List.append_toArray, List.nil_append, List.cons_append]
  gi_wp2
  gi_loopw [3] (fun i wr => i = .int .i64 (-1) ∧ J [] wr) (fun _ _ => 0)
  case atStart => exact ⟨rfl, h0⟩
  case round =>
    obtain ⟨rfl, hJs⟩ := hrel
    gi_wp2
    go_end0
    exact ⟨⟨_, rfl⟩, hJs⟩

set_option maxHeartbeats 1000000 in
theorem back_in (F : Fence) (n : Nat) (h6 : F.fn 20) (hro : F.round = none) (a : Option Addr) (len cap : Nat) (w : World) :
    CallsIn F n Tryz.prog 20 #[.slice a len cap] w fun e w' => e = .returned (.func (.func 31) #[] #[.pointer (some ⟨w.heap.size, 0, none⟩)]) ∧ w' = w.alloc (.cells #[.slice a len cap] 35) := by
  refine callsIn_of_wp Tryz.func20 rfl h6 ?_ hro
  simp only [Tryz.ntmps20, List.size_toArray, List.length_cons, List.length_nil, Nat.reduceAdd, Nat.reduceSub, Array.replicate_succ, Array.replicate_zero, List.push_toArray, List.append_toArray, List.nil_append, List.cons_append]
  gi_wp2
  go_ret
  exact ⟨rfl, rfl⟩

/-- Lines xs behind a slice, in a block below n₀. -/
def LvSl (n₀ : Nat) (W : World) (la : Option Addr) (xs : List Lv) : Prop := xs = [] ∨ ∃ b off, la = some ⟨b, off, none⟩ ∧ b < n₀ ∧ LvsAt W b off xs
theorem LvSl.below {n₀ : Nat} {A B : World} (h : Below n₀ A B) {la : Option Addr} {xs : List Lv} : LvSl n₀ A la xs → LvSl n₀ B la xs
  | .inl e => .inl e
  | .inr ⟨b, off, e, hb, hc⟩ => .inr ⟨b, off, e, hb, fun j hj => by
      obtain ⟨h1, h2, h3⟩ := hc j hj
      exact ⟨h1, (h.cell (p := ⟨b, off + j * 2, none⟩) hb).trans h2, (h.cell (p := ⟨b, off + j * 2 + 1, none⟩) hb).trans h3⟩⟩

theorem back_stops (F : Fence) (n : Nat) (h8 : F.fn 31) (hro : F.round = none) (hn : 1 ≤ n) (Bs n₀ cap : Nat) (la : Option Addr) (xs : List Lv) (hreach : xs.length ≤ 9223372036854775807) (w : World) (hBs : Bs < w.heap.size) (hn₀ : n₀ ≤ w.heap.size)
    (hc : w.cell? ⟨Bs, 0, none⟩ = some (.slice la xs.length cap)) (hI : LvSl n₀ w la xs) :
    SeqStopsK F n Tryz.prog 31 #[.pointer (some ⟨Bs, 0, none⟩)] encLv (Kpb n₀ Bs) (fun ys => ys = xs.reverse) (fun pre => ∃ k, pre = (xs.drop k).reverse) xs.length w := fun l J Jx W hW _ _ hY h0 => by
  have hc' := (hW.cell (p := ⟨Bs, 0, none⟩) hBs).trans hc
  rcases hI.below (hW.mono hn₀) with rfl | ⟨b, off, rfl, hb, hcs⟩
  · exact (back1_nil_in F n h8 hro l Bs cap la J W hc' h0).mono fun e W' ⟨he, hj⟩ => ⟨he, .inl ⟨_, rfl, hj⟩⟩
  · exact back1_in F n h8 hro hn l Bs n₀ b off cap xs hreach hb J Jx hY W hc' hcs h0
end Go.Proofs.YtppkjiihmlphbaaGreatDoor

/- den.Prefix. -/
namespace Go.Proofs.YtppkjiihmlphbaaGreatDoor
open Go.RowKit Go.Shelf
open Go.Maps (string_keyed)

attribute [local go_sem] Oper.semAt_some

/-- The places, when these lines have come. -/
def datL (pre : List Lv) : DataW Unit := pre.foldl (fun D x => D.put (.string x.key.data.toList) (.lit (.int .i64 (x.i : Int)))) (.map [])
theorem datL_snoc (pre : List Lv) (x : Lv) : datL (pre ++ [x]) = (datL pre).put (.string x.key.data.toList) (.lit (.int .i64 (x.i : Int))) := by simp [datL]

theorem kpb_alloc {n₀ Bs : Nat} {W : World} (h1 : n₀ ≤ W.heap.size) (h2 : Bs < W.heap.size) (o : Obj) : Kpb n₀ Bs W (W.alloc o) := fun k hk => by
  refine Below.heap_alloc _ _ _ ?_
  rcases hk with hk | hk <;> omega
theorem kpb_grown {n₀ Bs r : Nat} {W W' : World} (h1 : n₀ ≤ W.heap.size) (h2 : Bs < W.heap.size) (hg : W.grownBy W' (some r)) (hr : n₀ ≤ r) (hb : r ≠ Bs) : Kpb n₀ Bs W W' := fun k hk => by
  refine hg.block k ?_ ?_
  · rcases hk with hk | hk <;> omega
  · rcases hk with hk | hk
    · intro e; injection e with e; omega
    · intro e; injection e with e; omega


theorem hideP {p : Prop} (h : p) : Hid p := h
theorem datL_isMap (pre : List Lv) : Maps.IsMap (datL pre) := by
  have h : ∀ (pre : List Lv) (D : DataW Unit), Maps.IsMap D → Maps.IsMap (pre.foldl (fun D x => D.put (.string x.key.data.toList) (.lit (.int .i64 (x.i : Int)))) D) := by
    intro pre
    induction pre with
    | nil => intro D hD; exact hD
    | cons x r ih => intro D hD; exact ih _ (hD.put _ _)
  exact h pre _ Maps.isMap_empty

theorem key_inj {k k' : ByteArray} (h : Lit.string k.data.toList = Lit.string k'.data.toList) : k = k' := by
  injection h with h
  cases k; cases k'
  congr 1
  exact Array.toList_inj.1 h

/-- What the map of places says, when all lines have come from the last on. -/
theorem datL_all (k : ByteArray) : ∀ (xs : List Lv) (b : List Ln) (i0 : Nat), xs.length = b.length → (∀ (j : Nat) (h : j < xs.length) (h2 : j < b.length), xs[j].key = b[j].1 ∧ xs[j].i = i0 + j) →
    Maps.has (datL xs.reverse) (.string k.data.toList) = (fstAt k i0 b).isSome ∧ (datL xs.reverse).atKey (.string k.data.toList) (.lit (.int .i64 0)) = .lit (.int .i64 (((fstAt k i0 b).getD 0 : Nat) : Int))
  | [], b, i0, hl, _ => by
    have hb : b = [] := List.length_eq_zero_iff.1 (by simpa using hl.symm)
    subst hb
    exact ⟨rfl, rfl⟩
  | x :: xs, [], i0, hl, _ => by simp at hl
  | x :: xs, l :: b, i0, hl, h => by
    have ih := datL_all k xs b (i0 + 1) (by simpa using hl) (fun j h1 h2 => by
      have := h (j + 1) (by simpa using h1) (by simpa using h2)
      simp at this
      exact ⟨this.1, by omega⟩)
    have h0 := h 0 (by simp) (by simp)
    simp at h0
    rw [List.reverse_cons, datL_snoc, h0.1, h0.2]
    unfold fstAt
    by_cases hk : l.1 = k
    · rw [if_pos hk, hk]
      exact ⟨Maps.has_put_same (datL_isMap _) (show WideAt.IsKeyLit (.string _) from trivial) _, Maps.atKey_put_same (datL_isMap _) (show WideAt.IsKeyLit (.string _) from trivial) _ _⟩
    · rw [if_neg hk]
      have hne : Lit.string k.data.toList ≠ Lit.string l.1.data.toList := fun e => hk (key_inj e).symm
      exact ⟨by rw [Maps.has_put_other hne]; exact ih.1, by rw [Maps.atKey_put_other hne]; exact ih.2⟩

theorem lines_lv {w : World} {lb : Option Addr} {b : List Ln} (hb : LnsAt w lb b) (hlb : b.length ≤ 9223372036854775807) :
    ∃ xs : List Lv, xs.length = b.length ∧ LvSl w.heap.size w lb xs ∧ ∀ (j : Nat) (h : j < xs.length) (h2 : j < b.length), xs[j].key = b[j].1 ∧ xs[j].i = 0 + j := by
  rcases hb with rfl | ⟨blk, o, rfl, hb⟩
  · exact ⟨[], rfl, .inl rfl, fun j h => by simp at h⟩
  · have hx : ∀ j, j < b.length → ∃ x : Lv, ∃ (h2 : j < b.length), x.key = b[j].1 ∧ x.i = j ∧ w.cell? ⟨blk, o + j * 2, none⟩ = some (.string x.key) ∧ w.cell? ⟨blk, o + j * 2 + 1, none⟩ = some (.slice x.fa x.n x.c) := by
      intro j hj
      obtain ⟨h0, ⟨fa, fc, h1, -, -⟩, h4⟩ := hb j hj
      exact ⟨⟨j, b[j].1, fa, b[j].2.length, fc, by omega, h4⟩, hj, rfl, rfl, h0, h1⟩
    by_cases hn : b = []
    · subst hn; exact ⟨[], rfl, .inl rfl, fun j h => by simp at h⟩
    · have hpos : 0 < b.length := List.length_pos_iff.2 hn
      have hlt : blk < w.heap.size := by
        obtain ⟨x, _, _, _, h3, _⟩ := hx 0 hpos
        exact cell_lt h3
      refine ⟨(List.range b.length).attach.map fun i => (hx i.1 (by simpa using i.2)).choose, by simp, .inr ⟨blk, o, rfl, hlt, fun j hj => ?_⟩, fun j h h2 => ?_⟩
      · have hj' : j < b.length := by simpa using hj
        obtain ⟨h2, e1, e2, e3, e4⟩ := (hx j hj').choose_spec
        simp only [List.getElem_map, List.getElem_attach, List.getElem_range]
        exact ⟨e2, e3, e4⟩
      · obtain ⟨_, e1, e2, e3, e4⟩ := (hx j h2).choose_spec
        simp only [List.getElem_map, List.getElem_attach, List.getElem_range]
        exact ⟨e1, by omega⟩

set_option maxRecDepth 100000 in
set_option maxHeartbeats 4000000 in
theorem prefix_any {w : World} {la lb : Option Addr} {a b : List Ln} (ca cb : Nat) (ha : LnsAt w la a) (hla : a.length ≤ 9223372036854775807) (hlb : b.length ≤ 9223372036854775807) (hb : LnsAt w lb b) :
    Calls Tryz.prog 11 #[.slice la a.length ca, .slice lb b.length cb] w fun e w' => e = .returned (.bool (prefP a b)) ∧ Below w.heap.size w w' := by
  obtain ⟨xs, hxl, hxs, hget⟩ := lines_lv hb hlb
  have HA : Hid (∀ k : ByteArray, Maps.has (datL xs.reverse) (.string k.data.toList) = (fstAt k 0 b).isSome ∧ (datL xs.reverse).atKey (.string k.data.toList) (.lit (.int .i64 0)) = .lit (.int .i64 (((fstAt k 0 b).getD 0 : Nat) : Int))) := fun k => datL_all k xs b 0 hxl hget
  clear hget
  refine (callsIn_wide (n := 4)).1 ?_
  have hmm := @run_makeMap Tryz.prog
  have f6 : Fence.wide.fn 20 := trivial
  have f7 : Fence.wide.fn 21 := trivial
  have hK := string_keyed (P := Tryz.prog) (k := 9) Tryz.underlying9
  refine callsIn_of_wp_marks Tryz.func11 rfl trivial ?_ rfl
  simp only [Tryz.ntmps11, List.size_toArray, List.length_cons, List.length_nil, Nat.reduceAdd, Nat.reduceSub, Array.replicate_succ, Array.replicate_zero, List.push_toArray, List.append_toArray, List.nil_append, List.cons_append]
  gi_wp2_with (gi_at_call 20; refine (back_in Fence.wide 3 trivial rfl _ _ _ _).mono ?_; rintro e w' ⟨rfl, rfl⟩)
  have hB0 : Below w.heap.size w (((w.alloc (.map #[] 0)).alloc (.cells #[.map (some w.heap.size)] 54)).alloc (.cells #[.slice lb b.length cb] 35)) := (((Below.refl _ w).alloc (Nat.le_refl _) _).alloc (by simp) _).alloc (by simp; omega) _
  have bP := Boxed.new (w.alloc (.map #[] 0)) 54 (.map (some w.heap.size))
  have bN := Boxed.new ((w.alloc (.map #[] 0)).alloc (.cells #[.map (some w.heap.size)] 54)) 35 (.slice lb b.length cb)
  simp only [World.size_alloc] at bP bN
  have oM := ((World.ownsMap_made w Tryz.prog 9 (plainElem (H := Unit) Tryz.prog 3)).alloc (.cells #[.map (some w.heap.size)] 54)).alloc (.cells #[.slice lb b.length cb] 35)
  have h1 : 1 ≤ 4 := by omega
  refine wpIn_rangeFunc_ownH (F := Fence.wide) (n := 4) (encs := encLv) rfl h1 (gf := 31) (lb := #[.pointer (some ⟨w.heap.size + 1 + 1, 0, none⟩)]) rfl trivial (enters_of Tryz.func31 (by kernel_rfl) rfl)
    (back_stops Fence.wide 3 trivial rfl (by omega) (w.heap.size + 1 + 1) w.heap.size cb lb xs (by omega) _ (by simp) (by simp; omega) (by rw [hxl]; exact bN.cell) (hxs.below hB0)) (fun h k => Kpb.trans h k) ?hKb (Below.refl _ _) (fun _ => rfl)
    (fun pre W => (W.ownsMap Tryz.prog 9 (plainElem (H := Unit) Tryz.prog 3) w.heap.size pre.length (datL pre) ∧ W.cell? ⟨w.heap.size + 1, 0, none⟩ = some (.map (some w.heap.size))) ∧ Below w.heap.size w W ∧ w.heap.size + 3 ≤ W.heap.size)
    (fun _ _ _ => False) ?hI (fun _ _ _ _ _ hs _ _ => hs) ?h0
    (fun x a' W => ∃ Bx, w.heap.size + 3 ≤ Bx ∧ (W.cell? ⟨Bx, 0, none⟩ = some (.string x.key) ∧ W.cell? ⟨Bx, 1, none⟩ = some (.slice x.fa x.n x.c)) ∧ a' = { tmps := #[.slice la a.length ca, .slice lb b.length cb, undef, undef, .bool false, .pointer (some ⟨w.heap.size + 1, 0, none⟩), .int .i64 (x.i : Int), .pointer (some ⟨Bx, 0, none⟩), undef, undef, undef, undef, .map (some w.heap.size), .slice lb b.length cb, .func (.func 31) #[] #[.pointer (some ⟨w.heap.size + 1 + 1, 0, none⟩)], .int .i64 (x.i : Int), .agg #[.string x.key, .slice x.fa x.n x.c], undef, undef, undef, undef, undef, undef, undef, undef, undef, undef, undef, undef, undef, undef, undef, undef, undef, undef, undef, undef, undef, undef, undef, undef, undef, undef, undef, undef, undef, undef, undef], defers := [] }) ?hAx ?assign ?body ?done ?stop
  case hKb => exact fun W l o o' hl _ _ _ k hk => World.putObj_heap_other (by simp at hl; rcases hk with hk | hk <;> omega)
  case hI =>
    intro s A B row hs hg hr
    exact ⟨⟨hs.1.1.kept hg (fun e => by have := (hr _ e.symm).1; simp at this; omega), cell_kept hs.1.2 hg (fun r e => (hr r e).2)⟩, hs.2.1.grown hg (by have := hs.2.2; omega) (fun k e => by have := (hr k e).1; simp at this; omega), Nat.le_trans hs.2.2 hg.size⟩
  case h0 => exact ⟨⟨oM, (bP.alloc _).cell⟩, hB0, by simp⟩
  case hAx =>
    rintro x a' s A B row ⟨Bx, h1, ⟨h2, h3⟩, h4⟩ hg hr
    exact ⟨Bx, h1, ⟨cell_kept h2 hg (fun r e => (hr r e).2), cell_kept h3 hg (fun r e => (hr r e).2)⟩, h4⟩
  case assign =>
    intro l pre x W K hi hK
    unfold encLv
    gi_wp2
    obtain ⟨⟨o1, o2⟩, o3, o4⟩ := hi
    refine hK _ _ ((KeepsOthers.alloc _ _).from _) (kpb_alloc (by omega) (by omega) _) ⟨⟨o1.alloc _, ?_⟩, o3.alloc (by omega) _, by simp; omega⟩ ⟨W.heap.size, o4, ⟨?_, ?_⟩, rfl⟩
    · exact Keeps.alloc W _ _ _ o2
    · simp
    · simp
  case body =>
    rintro l pre x a' W hl ⟨r, hr⟩ ⟨⟨hown, hcm⟩, hB, hsz⟩ ⟨Bx, hBx, ⟨h2, h3⟩, rfl⟩ hlt
    have hkey : keyOf Tryz.prog 9 (.string x.key) = some (.string x.key.data.toList) := WideMaps.keyOf_string_mk Tryz.underlying9 (by have := x.hk; unfold maxLen; omega)
    have hwf : (Lit.int .i64 (x.i : Int)).wf = true := WalkArith.wf_i64 (by have := x.hi; omega)
    have hmx : pre.length < maxLen := by unfold maxLen; omega
    gi_wp2_with (gi_at_mapUpdate; refine wpListIn_mapUpdate_own _ rfl _ _ _ 54 rfl 9 3 hK Tryz.underlying54 _ w.heap.size pre.length _ rfl hown hmx _ _ _ rfl rfl hkey _ [] (plainElem_int Tryz.underlying3 hwf) ?_; intro w1 hown1 hgrow1)
    refine ⟨KeepsFrom.of_grownBy hgrow1 (fun j e => by cases e; simp; omega), kpb_grown (by omega) (by omega) hgrow1 (Nat.le_refl _) (by omega), ⟨⟨?_, ?_⟩, hB.grown hgrow1 (by omega) (fun k e => by cases e; exact Nat.le_refl _), Nat.le_trans hsz hgrow1.size⟩⟩
    · rw [datL_snoc, List.length_append]; exact hown1
    · rw [World.cell?_of_block (w := W) (hgrow1.block _ (by show _ < _; simp; omega) (by simp))]; exact hcm
  case done =>
    rintro D ys W hD rfl ⟨⟨hown, hcm⟩, hB, hsz⟩ hKD
    gi_wp2
    refine wpIn_wide.2 ?_
    go_loopw [23] (fun i wr => ∃ j : Nat, j ≤ a.length ∧ i = .int .i64 j ∧ prefP (a.take j) b = true ∧ (wr.ownsMap Tryz.prog 9 (plainElem (H := Unit) Tryz.prog 3) w.heap.size xs.length (datL xs.reverse) ∧ wr.cell? ⟨w.heap.size + 1, 0, none⟩ = some (.map (some w.heap.size))) ∧ Below w.heap.size w wr ∧ wr.heap[D]? = some (.deferred (some [])) ∧ w.heap.size + 3 ≤ wr.heap.size) (fun i _ => a.length - (intOf i).toNat)
    case atStart => exact ⟨0, by omega, rfl, by simp [prefP], ⟨by simpa using hown, hcm⟩, hB, hKD, hsz⟩
    case round =>
      clear hown hcm hB hKD hsz
      obtain ⟨j, hj, rfl, hp, ⟨hown, hcm⟩, hB, hKD, hsz⟩ := hrel
      have Hp : Hid (prefP (a.take j) b = true) := hp
      clear hp
      by_cases hlt : j < a.length
      · have hi : (j : Int) < a.length := by omega
        rcases ha with ha | ⟨ba, oa, rfl, ha⟩
        · subst ha; simp at hlt
        obtain ⟨k0, ⟨fa, fc, k1, k2, k3, k4⟩, k5⟩ := ha j hlt
        have c0 : wr.cell? ⟨ba, oa + j * 2, none⟩ = some (.string a[j].1) := (hB.cell (p := ⟨ba, oa + j * 2, none⟩) (cell_lt k0)).trans k0
        have c1 : wr.cell? ⟨ba, oa + j * 2 + 1, none⟩ = some (.slice fa a[j].2.length fc) := (hB.cell (p := ⟨ba, oa + j * 2 + 1, none⟩) (cell_lt k1)).trans k1
        have hkey : keyOf Tryz.prog 9 (.string a[j].1) = some (.string a[j].1.data.toList) := WideMaps.keyOf_string_mk Tryz.underlying9 (by unfold maxLen; omega)
        obtain ⟨hh, hat⟩ := HA.out a[j].1
        have ht : prefP (a.take (j + 1)) b = (prefP (a.take j) b && oneP b a[j]) := pref_take hlt
        have hone : oneP b a[j] = false → prefP a b = false := fun h => pref_false hlt h
        have Hp1 : Hid (oneP b a[j] = true → prefP (a.take (j + 1)) b = true) := fun h => by rw [ht, Hp.out, h]; rfl
        have Hone := hideP hone
        clear ht hone
        have howA := hown.alloc (.cells #[.string a[j].1, .slice fa a[j].2.length fc] 37)
        have hcmA : (wr.alloc (.cells #[.string a[j].1, .slice fa a[j].2.length fc] 37)).cell? ⟨w.heap.size + 1, 0, none⟩ = some (.map (some w.heap.size)) := Keeps.alloc wr _ _ _ hcm
        have hBA : Below w.heap.size w (wr.alloc (.cells #[.string a[j].1, .slice fa a[j].2.length fc] 37)) := hB.alloc (by omega) _
        have hDA : (wr.alloc (.cells #[.string a[j].1, .slice fa a[j].2.length fc] 37)).heap[D]? = some (.deferred (some [])) := (Below.heap_alloc _ _ _ (some_lt hKD)).trans hKD
        cases hf : fstAt a[j].1 0 b with
        | none =>
          rw [hf] at hh hat
          have HF : Hid (oneP b a[j] = false) := by
            show oneP b a[j] = false
            unfold oneP
            rw [(fstAt_none _ _ _).1 hf]
          simp only [Option.isSome_none, Option.getD_none] at hh hat
          have Hf : Hid (prefP a b = false) := Hone.out HF.out
          clear hf
          have HH := hideP hh
          have HT := hideP hat
          clear hh hat k0 k1 hown hcm
          generalize a[j] = x at *
          go_wp2_with (at_lookup; refine wpList_lookup_known _ rfl _ _ 54 rfl 9 3 .i64 hK Tryz.underlying54 Tryz.underlying3 (Tryz.zeroValue3 _) w.heap.size xs.length _ rfl howA _ _ rfl hkey 0 false HT.out HH.out ?_)
          generalize wr.alloc (.cells #[.string x.1, .slice fa x.2.length fc] 37) = wq at *
          go_quiet (fail)
          go_wp2
          gi_wp2
          have hK2 : (wq.drewN nq).heap[D]? = some (.deferred (some [])) := hDA
          have hB2 : Below w.heap.size w (wq.drewN nq) := below_drewN hBA nq
          refine ⟨by simp, .inl ⟨_, _, rfl, run_takeDeferred hK2, ?_⟩⟩
          exact ⟨_, results_tmp rfl _ _ _, by rw [Hf.out]; rfl, hB2.trans (belowK_b (w := w) (Nat.le_refl _) _ D _ _ (by simp at hD; omega) hK2 rfl rfl)⟩
        | some p =>
          obtain ⟨hpl, hp1, -, -⟩ := fst_place _ _ hf
          rw [hf] at hh hat
          simp only [Option.isSome_some, Option.getD_some] at hh hat
          rcases hb with hb | ⟨bb, ob, rfl, hb⟩
          · subst hb; simp at hpl
          obtain ⟨-, ⟨ga, gc, l1, l2, l3, l4⟩, -⟩ := hb p hpl
          have hone : oneP b a[j] = decide (a[j].2 <+: b[p].2) := by unfold oneP; rw [hp1]
          have hip : (p : Int) < b.length := by omega
          have HH := hideP hh
          have HT := hideP hat
          have cl1 : (wr.alloc (.cells #[.string a[j].1, .slice fa a[j].2.length fc] 37)).cell? ⟨bb, ob + p * 2 + 1, none⟩ = some (.slice ga b[p].2.length gc) := (hBA.cell (p := ⟨bb, ob + p * 2 + 1, none⟩) (cell_lt l1)).trans l1
          have kA : IntsAt (wr.alloc (.cells #[.string a[j].1, .slice fa a[j].2.length fc] 37)) fa a[j].2 := k2.keep (Keeps.of hBA)
          have kB : IntsAt (wr.alloc (.cells #[.string a[j].1, .slice fa a[j].2.length fc] 37)) ga b[p].2 := l2.keep (Keeps.of hBA)
          have hc2 : (wr.alloc (.cells #[.string a[j].1, .slice fa a[j].2.length fc] 37)).cell? ⟨wr.heap.size, 1, none⟩ = some (.slice fa a[j].2.length fc) := by simp
          have hza : a[j].2.length ≤ 9223372036854775807 := by omega
          have hp2 : wr.heap.size + 1 ≤ (wr.alloc (.cells #[.string a[j].1, .slice fa a[j].2.length fc] 37)).heap.size := by simp
          clear hf hh hat k0 k1 k2 l1 l2 hown hcm hp1
          by_cases hq : a[j].2 <+: b[p].2
          · have Hx : Hid (prefP (a.take (j + 1)) b = true) := Hp1.out (by rw [hone]; exact decide_eq_true hq)
            have hqd : decide (a[j].2 <+: b[p].2) = true := decide_eq_true hq
            have cbg := fun n => begins_any (w := (wr.alloc (.cells #[.string a[j].1, .slice fa a[j].2.length fc] 37)).drewN n) (kA.keep (keeps_drewN _ n)) (kB.keep (keeps_drewN _ n)) fc gc hza l3
            rw [hqd] at cbg
            have HQ := hideP cbg
            clear hq hqd hone cbg
            generalize a[j] = x at *
            generalize b[p] = y at *
            go_wp2_with (at_lookup; refine wpList_lookup_known _ rfl _ _ 54 rfl 9 3 .i64 hK Tryz.underlying54 Tryz.underlying3 (Tryz.zeroValue3 _) w.heap.size xs.length _ rfl howA _ _ rfl hkey p true HT.out HH.out ?_)
            generalize wr.alloc (.cells #[.string x.1, .slice fa x.2.length fc] 37) = wq at *
            go_quiet ((go_at_call 21; exact Calls.quiet_of (HQ.out _)))
            go_wp2
            go_roundw
            case rel => exact ⟨j + 1, by omega, by go_num, Hx.out, ⟨howA, hcmA⟩, below_drewN hBA nq, hDA, by show _ ≤ wq.heap.size; omega⟩
            case measure => simp [intOf]; omega
          · have Hf : Hid (prefP a b = false) := Hone.out (by rw [hone]; exact decide_eq_false hq)
            have hqd : decide (a[j].2 <+: b[p].2) = false := decide_eq_false hq
            have cbg := fun n => begins_any (w := (wr.alloc (.cells #[.string a[j].1, .slice fa a[j].2.length fc] 37)).drewN n) (kA.keep (keeps_drewN _ n)) (kB.keep (keeps_drewN _ n)) fc gc hza l3
            rw [hqd] at cbg
            have HQ := hideP cbg
            clear hq hqd hone cbg
            generalize a[j] = x at *
            generalize b[p] = y at *
            go_wp2_with (at_lookup; refine wpList_lookup_known _ rfl _ _ 54 rfl 9 3 .i64 hK Tryz.underlying54 Tryz.underlying3 (Tryz.zeroValue3 _) w.heap.size xs.length _ rfl howA _ _ rfl hkey p true HT.out HH.out ?_)
            generalize wr.alloc (.cells #[.string x.1, .slice fa x.2.length fc] 37) = wq at *
            go_quiet ((go_at_call 21; exact Calls.quiet_of (HQ.out _)))
            go_wp2
            gi_wp2
            have hK2 : (wq.drewN nq).heap[D]? = some (.deferred (some [])) := hDA
            have hB2 : Below w.heap.size w (wq.drewN nq) := below_drewN hBA nq
            refine ⟨by simp, .inl ⟨_, _, rfl, run_takeDeferred hK2, ?_⟩⟩
            exact ⟨_, results_tmp rfl _ _ _, by rw [Hf.out]; rfl, hB2.trans (belowK_b (w := w) (Nat.le_refl _) _ D _ _ (by simp at hD; omega) hK2 rfl rfl)⟩
      · have hi : ¬ (j : Int) < a.length := by omega
        have Hf : Hid (prefP a b = true) := by
          have h1 := Hp.out
          rw [List.take_of_length_le (by omega)] at h1
          exact h1
        go_wp2
        gi_wp2
        refine ⟨by simp, .inl ⟨_, _, rfl, run_takeDeferred hKD, ?_⟩⟩
        exact ⟨_, results_tmp rfl _ _ _, by rw [Hf.out]; rfl, hB.trans (belowK_b (w := w) (Nat.le_refl _) wr D _ _ (by simp at hD; omega) hKD rfl rfl)⟩
  case stop =>
    rintro D c pre W _ _ h _
    exact h.elim
end Go.Proofs.YtppkjiihmlphbaaGreatDoor

/- DenGrows: rows of records, what stays beside them, lists of lines that are the same, data that came in. -/
namespace Go.Proofs.YtppkjiihmlphbaaGreatDoor
open Go.RowKit Go.Deep
set_option linter.unusedVariables false

theorem append_rs {w : World} {ops : Array Oper} {rest : List Oper} {o : Oper} {a : Act} {Q : Exit → Act → World → Prop} (hgd : o.guard = none) (s x : Operand)
    (ho : o.op = .call { callee := .builtin .append, args := #[s, x], argTypes := #[34, 34] })
    (B : Nat) (v : Value) (l : List Rc) (hs : a.eval s = v) (hown : w.ownsRow B 33 3 v l.length (rcells l)) (ao : Option Addr) (m c : Nat) (r : List Rc) (hx : a.eval x = .slice ao m c) (hm : m = r.length) (hr : RcsAt w ao r) (hc : ao = none → c = 0)
    (hlim : l.length + r.length ≤ 100000) (hB : B ≤ w.heap.size)
    (hK : ∀ v' w', w'.ownsRow B 33 3 v' (l ++ r).length (rcells (l ++ r)) → Below B w w' → wpList Tryz.prog ops Q rest (a.put o.dst v') w') : wpList Tryz.prog ops Q (o :: rest) a w := by
  obtain ⟨i0, hi0, hz0, hz1, hz2⟩ := info_parts Tryz.infoRc
  subst hm
  cases ao with
  | none =>
    have hc0 := hc rfl
    subst hc0
    have hr0 : r = [] := by
      rcases hr with h | ⟨b, o, h, -⟩
      · exact h
      · cases h
    subst hr0
    refine wpList_append_own_none hgd s x 34 ho B 33 i0 3 Tryz.underlying34 hi0 v _ _ hs hown hx ?_
    exact hK v w (by simpa using hown) (Below.refl _ _)
  | some ad =>
    refine wpList_append_own w hgd s x 34 ho B 33 i0 (.agg #[.string ⟨#[]⟩, .int .i64 0, .int .i64 0]) 3 32 Tryz.underlying34 hi0 hz0 hz1 hz2 rfl (by decide) v l.length (rcells l) hs hown ad r.length c (rcells r) hx (rcells_len r) ?_ (rcells_one r) (by unfold maxLen; omega) (by omega) hB ?_
    · intro j u hj
      rcases hr with rfl | ⟨b, o, h, hcell⟩
      · simp [rcells] at hj
      · simp only [Option.some.injEq] at h
        subst h
        rw [add_pl]
        exact hcell j u hj
    · intro v' w' own' grow _
      exact hK v' w' (by rw [rcells_append, List.length_append]; exact own') ((Below.refl _ _).grown grow hB (fun k hk => (hown.lt k hk).1))
theorem RcsAt.take {w : World} {la : Option Addr} {L : List Rc} (h : RcsAt w la L) (k : Nat) : RcsAt w la (L.take k) := by
  rcases h with h | ⟨b, o, h1, h2⟩
  · exact .inl (by simp [h])
  · refine .inr ⟨b, o, h1, fun j u hu => h2 j u ?_⟩
    have e : L = L.take k ++ L.drop k := (List.take_append_drop k L).symm
    rw [e, rcells_append, List.getElem?_append_left (List.getElem?_eq_some_iff.1 hu).1]
    exact hu
theorem RcsAt.drop {w : World} {b o : Nat} {L : List Rc} (h : RcsAt w (some ⟨b, o, none⟩) L) {k : Nat} (hk : k ≤ L.length) : RcsAt w (some ⟨b, o + k * 3, none⟩) (L.drop k) := by
  rcases h with h | ⟨b', o', h1, h2⟩
  · exact .inl (by simp [h])
  · simp only [Option.some.injEq, Addr.mk.injEq, and_true] at h1
    obtain ⟨rfl, rfl⟩ := h1
    refine .inr ⟨b, o + k * 3, rfl, fun j u hu => ?_⟩
    have e : L = L.take k ++ L.drop k := (List.take_append_drop k L).symm
    have hl : (rcells (L.take k)).length = k * 3 := by rw [rcells_len, List.length_take]; congr 1; omega
    have := h2 (k * 3 + j) u (by
      rw [e, rcells_append, List.getElem?_append_right (by omega), hl]
      rw [show k * 3 + j - k * 3 = j from by omega]; exact hu)
    rw [show o + k * 3 + j = o + (k * 3 + j) from by omega]; exact this
theorem RcsAt.at {w : World} {la : Option Addr} {L : List Rc} (h : RcsAt w la L) {i : Nat} (hi : i < L.length) : ∃ b o, la = some ⟨b, o, none⟩ ∧ w.cell? ⟨b, o + i * 3, none⟩ = some (.string L[i].key) ∧ w.cell? ⟨b, o + i * 3 + 1, none⟩ = some (.int .i64 L[i].num) ∧ w.cell? ⟨b, o + i * 3 + 2, none⟩ = some (.int .i64 L[i].time) := by
  rcases h with h | ⟨b, o, h1, h2⟩
  · subst h; simp at hi
  · obtain ⟨e0, e1, e2⟩ := rcells_at L i hi
    exact ⟨b, o, h1, h2 _ _ e0, h2 _ _ e1, h2 _ _ e2⟩
/-- Where a row of records lies. -/
def LyR (w : World) (p : Option Addr) : Prop := p = none ∨ ∃ (g : Nat) (cur : Array Value), p = some ⟨g, 0, none⟩ ∧ w.heap[g]? = some (.cells cur 33 (0, 0))
theorem LyR.of {w : World} {B n m cap : Nat} {p : Option Addr} {cs : List Value} (h : w.ownsRow B 33 m (.slice p n cap) n cs) : LyR w p := by
  rcases h.2 with ⟨h0, -⟩ | ⟨g, cap, cur, h0, hb, hg, -⟩
  · simp at h0; exact .inl h0.1
  · simp at h0; exact .inr ⟨g, cur, h0.1, hg⟩
/-- What is no row of slices of records stays. -/
def KpR (w w' : World) : Prop := ∀ (k : Nat) (o : Obj), w.heap[k]? = some o → (∀ cur, o ≠ .cells cur 34 (0, 0)) → w'.heap[k]? = some o
theorem KpR.below {w w' : World} (hb : Below w.heap.size w w') : KpR w w' := fun k o hk _ => by rw [hb.block k (some_lt hk)]; exact hk
theorem KpR.trans {a b c : World} (h : KpR a b) (k : KpR b c) : KpR a c := fun i o hi ho => k i o (h i o hi ho) ho
theorem KpR.grown {w w1 w' : World} {B n : Nat} {v : Value} {xs : List Value} (h : Below w.heap.size w w1) (hg : w1.grownBy w' v.ownBlock) (ho : w1.ownsRow B 34 1 v n xs) : KpR w w' := fun k o hk hx => by
  have hk1 : w1.heap[k]? = some o := by rw [h.block k (some_lt hk)]; exact hk
  rw [hg.block k (some_lt hk1) ?_]; exact hk1
  intro e
  rcases ho.2 with ⟨h0, -⟩ | ⟨g, cap, cur, h0, -, hc, -⟩
  · rw [h0] at e; simp [Value.ownBlock] at e
  · rw [h0] at e
    simp [Value.ownBlock] at e
    subst e
    rw [hk1] at hc
    injection hc with hc
    exact hx _ hc
theorem LyR.kp {w w' : World} {p : Option Addr} (h : LyR w p) (hk : KpR w w') : LyR w' p := by
  rcases h with h | ⟨g, cur, h1, h2⟩
  · exact .inl h
  · exact .inr ⟨g, cur, h1, hk g _ h2 (fun c hc => by injection hc with _ hc; revert hc; decide)⟩
theorem RcsAt.kp {w w' : World} {p : Option Addr} {L : List Rc} (h : RcsAt w p L) (ha : LyR w p) (hk : KpR w w') : RcsAt w' p L := by
  rcases h with h | ⟨b, o, rfl, hc⟩
  · exact .inl h
  · rcases ha with ha | ⟨g, cur, h1, h2⟩
    · cases ha
    · simp only [Option.some.injEq, Addr.mk.injEq, and_true] at h1
      obtain ⟨rfl, rfl⟩ := h1
      have hs : w'.heap[b]? = w.heap[b]? := by rw [h2]; exact hk b _ h2 (fun c hc => by injection hc with _ hc; revert hc; decide)
      exact .inr ⟨b, 0, rfl, fun j u hu => by rw [World.cell?_of_block (w := w) (a := ⟨b, 0 + j, none⟩) hs]; exact hc j u hu⟩
abbrev Sl := Option Addr × Nat × Nat
/-- A slice of records of one's own. -/
def SrOk (w : World) (x : Sl) (l : List Rc) : Prop := x.2.1 = l.length ∧ RcsAt w x.1 l ∧ l.length ≤ x.2.2 ∧ LyR w x.1
theorem SrOk.kp {w w' : World} {x : Sl} {l : List Rc} (h : SrOk w x l) (hk : KpR w w') : SrOk w' x l := ⟨h.1, h.2.1.kp h.2.2.2 hk, h.2.2.1, h.2.2.2.kp hk⟩
theorem own_rows {w : World} {B : Nat} {v : Value} {X : List Sl} {G : List (List Rc)} (h : w.ownsRow B 34 1 v X.length (svs X)) (hl : X.length = G.length) (hx : ∀ (i : Nat) (h1 : i < X.length) (h2 : i < G.length), X[i].2.1 = G[i].length ∧ RcsAt w X[i].1 G[i] ∧ G[i].length ≤ X[i].2.2) :
    ∃ A cap, v = .slice A G.length cap ∧ RssAt w A G ∧ G.length ≤ cap ∧ cap ≤ 9223372036854775807 := by
  have hml : maxLen = 9223372036854775807 := rfl
  rcases h.2 with ⟨h0, h1⟩ | ⟨g, cap, cur, h0, hb, hg, hle, hm, -⟩
  · exact ⟨none, 0, by rw [← hl, h0, h1], .inl (List.length_eq_zero_iff.1 (by omega)), by omega, by omega⟩
  · refine ⟨some ⟨g, 0, none⟩, cap, by rw [← hl, h0], .inr ⟨g, 0, rfl, fun i hi => ?_⟩, by omega, by omega⟩
    have hi' : i < X.length := by omega
    obtain ⟨e1, e2, e3⟩ := hx i hi' hi
    refine ⟨X[i].1, X[i].2.2, ?_, e2, e3⟩
    subst h0
    rw [Nat.zero_add, h.cellAt i (by omega)]
    simp [svs, hi', e1]
theorem less_ne {a b : ByteArray} (h : Op.bytesLess a.toList b.toList = true) : b ≠ a := fun e => by
  subst e
  rw [bytesLess_eq, decide_eq_true_eq] at h; exact List.lt_irrefl _ h

set_option maxRecDepth 100000 in
set_option maxHeartbeats 2000000 in
theorem sinks_like {w : World} {la lb : Option Addr} {LL : List (List Ln)} (ha : SksAt w la LL) (hb : SksAt w lb LL) (ca cb : Nat) (hl : LL.length ≤ 1000) (hll : ∀ l ∈ LL, l.length ≤ 9223372036854775807) :
    Calls Tryz.prog 10 #[.slice la LL.length ca, .slice lb LL.length cb] w fun e w' => e = .returned (.bool true) ∧ ∃ n, w' = w.drewN n := by
  go_enter Tryz.func10, Tryz.ntmps10
  go_wp2_with fail
  go_loopw [5] (fun i wr => ∃ j : Nat, j ≤ LL.length ∧ i = .int .i64 j ∧ ∃ n, wr = w.drewN n) (fun i _ => LL.length - (intOf i).toNat)
  case atStart => exact ⟨0, by omega, rfl, 0, rfl⟩
  case round =>
    obtain ⟨j, hj, rfl, n, rfl⟩ := hrel
    by_cases hlt : j < LL.length
    · have hi : (j : Int) < LL.length := by omega
      rcases ha with ha | ⟨b1, o1, rfl, ha⟩
      · subst ha; simp at hlt
      rcases hb with hb | ⟨b2, o2, rfl, hb⟩
      · subst hb; simp at hlt
      obtain ⟨l1, c1, k0, k1, -⟩ := ha j hlt
      obtain ⟨l2, c2, d0, d1, -⟩ := hb j hlt
      have hjl := hll _ (List.getElem_mem hlt)
      obtain ⟨x, hx⟩ : ∃ x, LL[j] = x := ⟨_, rfl⟩
      rw [hx] at k0 k1 d0 d1 hjl
      have e0 : (w.drewN n).cell? ⟨b1, o1 + j, none⟩ = some (.slice l1 x.length c1) := k0
      have e1 : (w.drewN n).cell? ⟨b2, o2 + j, none⟩ = some (.slice l2 x.length c2) := d0
      have i1 : LnsAt (w.drewN n) l1 x := k1.keep (fun _ _ h => h)
      have i2 : LnsAt (w.drewN n) l2 x := d1.keep (fun _ _ h => h)
      have HB : Hid (∀ m, ∃ n', (w.drewN n).drewN m = w.drewN n') := fun m => ⟨n + m, by simp⟩
      clear ha hb k0 k1 d0 d1 hx hll
      generalize w.drewN n = wq at *
      have HI : Hid (∀ m, Calls Tryz.prog 12 #[.slice l1 x.length c1, .slice l2 x.length c2] (wq.drewN m) fun e w' => e = .returned (.bool true) ∧ ∃ n, w' = (wq.drewN m).drewN n) := fun m => lines_same (w := wq.drewN m) (i1.keep (fun _ _ h => h)) (i2.keep (fun _ _ h => h)) c1 c2 hjl
      clear i1 i2
      go_wp2_with fail
      go_quiet ((go_at_call 12; exact Calls.quiet_of (HI.out _)))
      go_wp2_with fail
      exact ⟨⟨j + 1, by omega, by go_num, by simpa using HB.out _⟩, by simp [intOf]; omega⟩
    · have hi : ¬ (j : Int) < LL.length := by omega
      go_wp2
      go_ret
      exact ⟨rfl, n, rfl⟩
section
variable {H : Type} {enc : TypeId × Value → H}
set_option maxRecDepth 100000 in
theorem open_rss {W : World} {a0 : Option Addr} {len cap : Nat} {d0 : DataW H} {p : List MemPlace} (h0 : DataW.Trod enc Tryz.prog W 0 (fun _ => true) true 23 (.slice a0 len cap) d0 p) :
    ∃ S : List (List Rc), len = S.length ∧ RssAt W a0 S ∧ S.length ≤ cap ∧ cap ≤ 9223372036854775807 ∧ (∀ l ∈ S, l.length ≤ 9223372036854775807) ∧ ∀ l ∈ S, ∀ r ∈ l, r.key.size ≤ 9223372036854775807 ∧ Rng r.num := by
  obtain ⟨fuel, hf⟩ := h0
  have hml : maxLen = 9223372036854775807 := rfl
  rcases open_slice1 Tryz.underlying23 (by kernel_rfl) hf with ⟨h0, -⟩ | ⟨a, len', cap', m, n, V, D, Pl, h0, hb, hl, hm, hmm, hx0, hx⟩
  · simp [Value.cells] at h0
    exact ⟨[], h0.2.1, .inl rfl, by simp, by omega, by simp, by simp⟩
  · simp [Value.cells] at h0
    obtain ⟨rfl, rfl, rfl⟩ := h0
    simp only [if_true] at hmm
    obtain ⟨f, hf⟩ := choose_lt (α := List Rc) (n := len) (p := fun i l => ∃ q c, W.cell? (a.add i) = some (.slice q l.length c) ∧ RcsAt W q l ∧ l.length ≤ c ∧ c ≤ 9223372036854775807 ∧ ∀ r ∈ l, r.key.size ≤ 9223372036854775807 ∧ Rng r.num) (fun i hi => by
      obtain ⟨h1, h2⟩ := hx i (by omega)
      obtain ⟨q, l, c, hz, h3, h4, h5, h6⟩ := open_recs h2
      exact ⟨l, q, c, by rw [h1, hz], h5, h3, by omega, h6⟩)
    refine ⟨(List.range len).map f, by simp, ?_, by simp; omega, by omega, fun x hx => ?_, fun x hx => ?_⟩
    · by_cases h00 : len = 0
      · left; simp [h00]
      · right
        obtain ⟨b, o, spot⟩ := a
        have hspot : spot = none := by
          obtain ⟨q, c, h1, -⟩ := hf 0 (by omega)
          simpa [Addr.add] using World.cell?_spot h1
        subst hspot
        refine ⟨b, o, rfl, fun j hj => ?_⟩
        have hj' : j < len := by simpa using hj
        obtain ⟨q, c, h1, h2, h3, -⟩ := hf j hj'
        rw [add_pl] at h1
        exact ⟨q, c, by simpa using h1, by simpa using h2, by simpa using h3⟩
    · obtain ⟨i, hi, rfl⟩ := List.mem_map.1 hx
      obtain ⟨q, c, -, -, h3, h4, -⟩ := hf i (by simpa using hi)
      omega
    · obtain ⟨i, hi, rfl⟩ := List.mem_map.1 hx
      obtain ⟨q, c, -, -, -, -, h3⟩ := hf i (by simpa using hi)
      exact h3
end
end Go.Proofs.YtppkjiihmlphbaaGreatDoor

/- A job that came in: its nodes in memory. -/
namespace Go.Proofs.YtppkjiihmlphbaaGreatDoor
open Go.RowKit Go.Deep

theorem Tryz.cellsNode : Tryz.prog.cellsOf 26 = 4 := by kernel_rfl
theorem Tryz.cellsL : Tryz.prog.cellsOf 24 = 1 := by kernel_rfl
instance : Inhabited Nd := ⟨sink 0⟩

section
variable {H : Type} {enc : TypeId × Value → H}

theorem open_ints {W : World} {sp : Nat → Bool} {fuel : Nat} {v : Value} {x : DataW H × List MemPlace} (h : DataW.trod enc Tryz.prog W 0 sp true fuel 24 [v] = some x) :
    ∃ fa zs fc, v = .slice fa zs.length fc ∧ zs.length ≤ maxLen ∧ IntsAt W fa zs := by
  rcases open_slice1 Tryz.underlying24 Tryz.cellsI h with ⟨h0, -⟩ | ⟨a, len, cap, m, n, V, D, Pl, h0, hb, hl, hm, hmm, -, hx⟩
  · exact ⟨none, [], 0, by simpa using h0, by simp, .inl rfl⟩
  · have hlm : len ≤ m := by rw [hmm]; split <;> omega
    obtain ⟨f, hf⟩ := choose_lt (α := Int) (n := len) (p := fun i z => W.cell? (a.add i) = some (.int .i64 z)) (fun i hi => by
      obtain ⟨h1, h2⟩ := hx i (by omega)
      obtain ⟨z, hz, -⟩ := DataW.trod_int Tryz.underlying3 h2
      simp at hz
      exact ⟨z, by rw [h1, hz]⟩)
    refine ⟨some a, (List.range len).map f, cap, by simpa using h0, by simp; omega, ?_⟩
    by_cases h00 : len = 0
    · left; simp [h00]
    · right
      obtain ⟨b, o, spot⟩ := a
      have hspot : spot = none := by simpa [Addr.add] using World.cell?_spot (hf 0 (by omega))
      subst hspot
      refine ⟨b, o, rfl, fun j hj => ?_⟩
      have hj' : j < len := by simpa using hj
      have := hf j hj'
      rw [add_pl] at this
      simpa using this

set_option maxRecDepth 100000 in
theorem open_nodes {W : World} {sp : Nat → Bool} {fuel : Nat} {v : Value} {x : DataW H × List MemPlace} (h : DataW.trod enc Tryz.prog W 0 sp true fuel 22 [v] = some x) :
    ∃ la L c, v = .slice la L.length c ∧ L.length ≤ c ∧ c ≤ maxLen ∧ NdsAt W la L := by
  rcases open_slice Tryz.underlying22 h with ⟨h0, -⟩ | ⟨a, len, cap, m, n, D, Pl, h0, hb, hl, hm, hmm, -, hx⟩
  · exact ⟨none, [], 0, by simpa using h0, by simp, by simp, .inl rfl⟩
  · have hlm : len ≤ m := by rw [hmm]; split <;> omega
    obtain ⟨b, o, spot⟩ := a
    by_cases h00 : len = 0
    · subst h00
      exact ⟨_, [], cap, by simpa using h0, by simp, hm, .inl rfl⟩
    have hspot : spot = none := by
      obtain ⟨cs', h1, h2⟩ := hx 0 (by omega)
      rw [Tryz.cellsNode] at h1
      obtain ⟨_, hlen, hcell⟩ := World.cells?_some h1
      have hc := hcell 0 (by omega)
      rw [List.getElem?_eq_getElem (by omega)] at hc
      simpa [Addr.add] using World.cell?_spot hc
    subst hspot
    obtain ⟨f, hf⟩ := choose_lt (α := Nd) (n := len) (p := fun i nd => NdAt W b (o + i * 4) nd) (fun i hi => by
      obtain ⟨cs', h1, h2⟩ := hx i (by omega)
      rw [Tryz.cellsNode] at h1
      obtain ⟨_, hlen, hcell⟩ := World.cells?_some h1
      obtain ⟨xs, k, -, -, -, hxl, hfs⟩ := DataW.trod_struct Tryz.underlying26 h2
      match cs', hlen with
      | [v0, v1, v2, v3], _ =>
        have f0 : DataW.trod enc Tryz.prog W 0 sp true k 3 (([v0, v1, v2, v3].drop 0).take (Tryz.prog.cellsOf 3)) = xs[0]? := hfs 0 _ rfl
        have f1 : DataW.trod enc Tryz.prog W 0 sp true k 24 (([v0, v1, v2, v3].drop 1).take (Tryz.prog.cellsOf 24)) = xs[1]? := hfs 1 _ rfl
        have f2 : DataW.trod enc Tryz.prog W 0 sp true k 9 (([v0, v1, v2, v3].drop 2).take (Tryz.prog.cellsOf 9)) = xs[2]? := hfs 2 _ rfl
        have f3 : DataW.trod enc Tryz.prog W 0 sp true k 3 (([v0, v1, v2, v3].drop 3).take (Tryz.prog.cellsOf 3)) = xs[3]? := hfs 3 _ rfl
        simp only [Tryz.cellsI, Tryz.cellsL, Tryz.cellsS, List.drop, List.take] at f0 f1 f2 f3
        have hxl4 : xs.length = 4 := hxl
        rw [List.getElem?_eq_getElem (by omega)] at f0 f1 f2 f3
        obtain ⟨k0, e0, -, -⟩ := DataW.trod_int Tryz.underlying3 f0
        obtain ⟨fa, zs, fc, e1, hzm, hI⟩ := open_ints f1
        obtain ⟨s, e2, -, hs⟩ := DataW.trod_string Tryz.underlying9 f2
        obtain ⟨n0, e3, -, -⟩ := DataW.trod_int Tryz.underlying3 f3
        simp only [List.cons.injEq, and_true] at e0 e2 e3
        subst e0 e1 e2 e3
        have c0 := hcell 0 (by omega)
        have c1 := hcell 1 (by omega)
        have c2 := hcell 2 (by omega)
        have c3 := hcell 3 (by omega)
        simp only [add_pl] at c0 c1 c2 c3
        have hml : maxLen = 9223372036854775807 := rfl
        exact ⟨⟨k0, zs, s, n0⟩, by simpa using c0, ⟨fa, fc, by simpa using c1, hI⟩, by simpa using c2, by simpa using c3, by simpa [hml] using hs, by simpa [hml] using hzm⟩)
    refine ⟨_, (List.range len).map f, cap, by simpa using h0, by simpa using hl, hm, .inr ⟨b, o, rfl, fun i hi => ?_⟩⟩
    have hi' : i < len := by simpa using hi
    simpa using hf i hi'
end
end Go.Proofs.YtppkjiihmlphbaaGreatDoor

/- From the rows' condition on the listed variables to the cells that the walks read; a world that meets it. -/
namespace Go.Proofs.YtppkjiihmlphbaaGreatDoor
open Go.ChangeShapes Go.WideShapes Go.RowKit

def laidL : List (String × DataW Unit) := [("math/bits.deBruijn32tab", Rows.laid_math_bits_deBruijn32tab), ("math/bits.deBruijn64tab", Rows.laid_math_bits_deBruijn64tab), ("internal/strconv.uint64pow10", Rows.laid_internal_strconv_uint64pow10), ("strconv.ErrRange", Rows.laid_strconv_ErrRange), ("strconv.ErrSyntax", Rows.laid_strconv_ErrSyntax)]
theorem Tryz.own : ownKnob Tryz.prog.godebug = none := by kernel_rfl
theorem Tryz.cellsES : Tryz.prog.cellsOf 184 = 1 := by kernel_rfl
theorem Tryz.cells9 : Tryz.prog.cellsOf 9 = 1 := by kernel_rfl
theorem Tryz.star : "*" ++ "errors.errorString" = "*errors.errorString" := by decide
theorem Tryz.rowES (u : TypeId) (h : Tryz.prog.typeName? 3 u = some "*errors.errorString") : u = 182 :=
  typeName_ptr_named (nm := "errors.errorString") (by rw [Tryz.star]; kernel_rfl) (by kernel_rfl) (by decide) u (by rw [Tryz.star]; exact h)
theorem Tryz.gES : Tryz.prog.globalNamed "strconv.ErrSyntax" = some 4 := by kernel_rfl
theorem Tryz.gESType : (Tryz.prog.globals[4]?).map (·.type) = some 29 := by kernel_rfl
theorem Tryz.gER : Tryz.prog.globalNamed "strconv.ErrRange" = some 5 := by kernel_rfl
theorem Tryz.gERType : (Tryz.prog.globals[5]?).map (·.type) = some 29 := by kernel_rfl

theorem lt_of_cell {w : World} {p : Addr} {v : Value} (h : w.cell? p = some v) : p.block < w.heap.size := by
  rcases Nat.lt_or_ge p.block w.heap.size with h' | h'
  · exact h'
  · unfold World.cell? at h; rw [Array.getElem?_eq_none h'] at h; cases h

theorem lt_of_var {P : Program} {W : World} {name : String} {g : Nat} {cs : Array Value} (hg : P.globalNamed name = some g) (h : W.var? P name = some cs) : g < W.heap.size := by
  unfold World.var? at h
  rw [hg] at h
  rcases Nat.lt_or_ge g W.heap.size with h' | h'
  · exact h'
  · simp [Array.getElem?_eq_none h'] at h
theorem Tryz.gLast : Tryz.prog.globalNamed "strconv.ErrRange" = some 5 := by kernel_rfl

/-- What the condition gives a walk: the two errors' cells. -/
theorem gl_of_laid {W : World} (h : laidMet Tryz.prog laidL W) : Gl W := by
  have h' := h
  obtain ⟨a0, s0, hv0, -, -, -⟩ := laid_sentinel (h'.tail.tail.tail.tail) Tryz.gES Tryz.gESType Tryz.underlying29 Tryz.rowES Tryz.underlying182 Tryz.underlying184 rfl rfl Tryz.underlying9 Tryz.cellsES Tryz.cells9
  obtain ⟨a1, s1, hv1, -, -, -⟩ := laid_sentinel (h'.tail.tail.tail) Tryz.gER Tryz.gERType Tryz.underlying29 Tryz.rowES Tryz.underlying182 Tryz.underlying184 rfl rfl Tryz.underlying9 Tryz.cellsES Tryz.cells9
  have c0 : W.cell? ⟨4, 0, none⟩ = some (.iface 182 (.pointer (some a0))) := by
    have h0 := World.var?_cell Tryz.gES hv0 0; simpa using h0
  have c1 : W.cell? ⟨5, 0, none⟩ = some (.iface 182 (.pointer (some a1))) := by
    have h0 := World.var?_cell Tryz.gER hv1 0; simpa using h0
  have l0 := lt_of_cell c0
  have l1 := lt_of_cell c1
  have l2 : 5 < W.heap.size := by
    obtain ⟨ps, ⟨g', t', cs, fuel, p, q, hg', ht', hvar, hd, _, _⟩, _⟩ := h'.tail.tail.tail
    exact lt_of_var Tryz.gLast hvar
  exact ⟨by simp at l0 l1; omega, ⟨_, c0, .inr ⟨_, _, rfl⟩⟩, ⟨_, c1, .inr ⟨_, _, rfl⟩⟩⟩
def lay2 : Obj → Obj
  | .cells _ t frozen => .cells #[.int .u8 0, .int .u8 1, .int .u8 28, .int .u8 2, .int .u8 29, .int .u8 14, .int .u8 24, .int .u8 3, .int .u8 30, .int .u8 22, .int .u8 20, .int .u8 15, .int .u8 25, .int .u8 17, .int .u8 4, .int .u8 8, .int .u8 31, .int .u8 27, .int .u8 13, .int .u8 23, .int .u8 21, .int .u8 19, .int .u8 16, .int .u8 7, .int .u8 26, .int .u8 12, .int .u8 18, .int .u8 6, .int .u8 11, .int .u8 5, .int .u8 10, .int .u8 9] t frozen
  | o => o
def lay3 : Obj → Obj
  | .cells _ t frozen => .cells #[.int .u8 0, .int .u8 1, .int .u8 56, .int .u8 2, .int .u8 57, .int .u8 49, .int .u8 28, .int .u8 3, .int .u8 61, .int .u8 58, .int .u8 42, .int .u8 50, .int .u8 38, .int .u8 29, .int .u8 17, .int .u8 4, .int .u8 62, .int .u8 47, .int .u8 59, .int .u8 36, .int .u8 45, .int .u8 43, .int .u8 51, .int .u8 22, .int .u8 53, .int .u8 39, .int .u8 33, .int .u8 30, .int .u8 24, .int .u8 18, .int .u8 12, .int .u8 5, .int .u8 63, .int .u8 55, .int .u8 48, .int .u8 27, .int .u8 60, .int .u8 41, .int .u8 37, .int .u8 16, .int .u8 46, .int .u8 35, .int .u8 44, .int .u8 21, .int .u8 52, .int .u8 32, .int .u8 23, .int .u8 11, .int .u8 54, .int .u8 26, .int .u8 40, .int .u8 15, .int .u8 34, .int .u8 20, .int .u8 31, .int .u8 10, .int .u8 25, .int .u8 14, .int .u8 19, .int .u8 9, .int .u8 13, .int .u8 8, .int .u8 7, .int .u8 6] t frozen
  | o => o
def lay1 : Obj → Obj
  | .cells _ t frozen => .cells #[.int .u64 1, .int .u64 10, .int .u64 100, .int .u64 1000, .int .u64 10000, .int .u64 100000, .int .u64 1000000, .int .u64 10000000, .int .u64 100000000, .int .u64 1000000000, .int .u64 10000000000, .int .u64 100000000000, .int .u64 1000000000000, .int .u64 10000000000000, .int .u64 100000000000000, .int .u64 1000000000000000, .int .u64 10000000000000000, .int .u64 100000000000000000, .int .u64 1000000000000000000, .int .u64 10000000000000000000] t frozen
  | o => o
def lay5 (n : Nat) : Obj → Obj
  | .cells _ t frozen => .cells #[.iface 182 (.pointer (some ⟨n + 0, 0, none⟩))] t frozen
  | o => o
def lay4 (n : Nat) : Obj → Obj
  | .cells _ t frozen => .cells #[.iface 182 (.pointer (some ⟨n + 1, 0, none⟩))] t frozen
  | o => o
/-- A world with the listed variables laid; its last blocks are the errors' own. -/
def laidAt (w : World) : World := { w with heap := (((((w.heap).modify 2 (lay2)).modify 3 (lay3)).modify 1 (lay1)).modify 5 (lay5 (w.heap.size - 2))).modify 4 (lay4 (w.heap.size - 2)) }
def ownBlocks : Array Obj := #[.cells #[.string ⟨#[118, 97, 108, 117, 101, 32, 111, 117, 116, 32, 111, 102, 32, 114, 97, 110, 103, 101]⟩] 184, .cells #[.string ⟨#[105, 110, 118, 97, 108, 105, 100, 32, 115, 121, 110, 116, 97, 120]⟩] 184]
theorem laidWorld_met (os : Os) (args : Array Value) : laidMetH Tryz.prog laidL ((laidAt (World.holding Tryz.prog os ⟨ownBlocks, #[], []⟩)).forCall (fun _ _ => 0) ⟨#[], args, []⟩).memory :=
  laidMetH_of_parts (laidMet_of_run' 8 (by kernel_rfl) (by kernel_rfl)) (by kernel_rfl)
end Go.Proofs.YtppkjiihmlphbaaGreatDoor

/- The walk of DenGrows. -/
namespace Go.Proofs.YtppkjiihmlphbaaGreatDoor
open Go.RowKit
set_option linter.unusedVariables false

set_option maxRecDepth 100000 in
theorem lit_grow (w : World) : NdsAt ((w.alloc (.cells #[.int .i64 0] 3)).alloc (.cells #[.int .i64 1, .slice none 0 0, .string ⟨#[]⟩, .int .i64 1, .int .i64 10, .slice (some ⟨w.heap.size, 0, none⟩) 1 1, .string ⟨#[]⟩, .int .i64 0] 26)) (some ⟨w.heap.size + 1, 0, none⟩) jGrow ∧
    Below w.heap.size w ((w.alloc (.cells #[.int .i64 0] 3)).alloc (.cells #[.int .i64 1, .slice none 0 0, .string ⟨#[]⟩, .int .i64 1, .int .i64 10, .slice (some ⟨w.heap.size, 0, none⟩) 1 1, .string ⟨#[]⟩, .int .i64 0] 26)) := by
  have i0 : IntsAt (w.alloc (.cells #[.int .i64 0] 3)) (some ⟨w.heap.size, 0, none⟩) [0] := int_new w 0 3
  have hn := nodes_new (w.alloc (.cells #[.int .i64 0] 3)) [((⟨1, [], emp, 1⟩ : Nd), (none : Option Addr), 0), ((⟨10, [0], emp, 0⟩ : Nd), some ⟨w.heap.size, 0, none⟩, 1)] 26 (by
    intro x hx
    simp only [List.mem_cons, List.not_mem_nil, or_false] at hx
    rcases hx with rfl | rfl
    · exact ⟨.inl rfl, (show emp.size ≤ _ by decide), by simp⟩
    · exact ⟨i0, (show emp.size ≤ _ by decide), by simp⟩)
  rw [World.size_alloc] at hn
  exact ⟨hn, ((Below.refl _ w).alloc (Nat.le_refl _) _).alloc (by simp) _⟩
theorem rc_one (w : World) (r : Rc) : RcsAt (w.alloc (.cells #[.string r.key, .int .i64 r.num, .int .i64 r.time] 33)) (some ⟨w.heap.size, 0, none⟩) [r] :=
  .inr ⟨_, 0, rfl, fun j u hu => by rw [Nat.zero_add]; exact cell_new _ _ _ (by simpa [rcells] using hu)⟩
theorem all_yes {w : World} {L : List Nd} {D : List (List Rc)} {e : Ending} {w' : World} (hE : denE L D = 0) (h : AllEnd w (denE L D) (denV L D) e w') : ∃ A cap, e = .returned (.tuple #[.slice A (denV L D).length cap, .nilIface]) ∧ SksAt w' A (denV L D) ∧ (denV L D).length ≤ cap ∧ Below w.heap.size w w' := by
  unfold AllEnd at h
  rw [if_neg (by rw [hE]; decide)] at h
  exact h
theorem all_no {w : World} {L : List Nd} {D : List (List Rc)} {e : Ending} {w' : World} (hE : denE L D ≠ 0) (h : AllEnd w (denE L D) (denV L D) e w') : (∃ z : Int, e = .returned (.tuple #[.slice none 0 0, .iface 76 (.int .i64 z)])) ∧ Below w.heap.size w w' := by
  unfold AllEnd at h
  rw [if_pos hE] at h
  exact ⟨⟨_, by rw [h.1, errV_pos hE]⟩, h.2⟩
theorem den_len (L : List Nd) (D : List (List Rc)) : (denV L D).length ≤ 12 := by
  unfold denV
  split
  · simp
  · rename_i hj
    split
    · simp
    · split
      · simp
      · refine Nat.le_trans (sinks_len _ _) ?_
        have hj' : jobP L = 0 := by simpa using hj
        unfold jobP at hj'
        split at hj'
        · cases hj'
        · omega
theorem preL_take {D : List (List Rc)} {A : List (List Rc)} {q : Nat} (hq : q < D.length) {a : List Rc} (h : PreL A (D.take q)) (ha : Pre a D[q]) : PreL (A ++ [a]) (D.take (q + 1)) := by
  rw [List.take_succ_eq_append_getElem hq]; exact h.snoc ha
theorem preL_take' {D : List (List Rc)} {A : List (List Rc)} {q : Nat} (hq : q < D.length) {a : List Rc} (h : PreL (D.take q) A) (ha : Pre D[q] a) : PreL (D.take (q + 1)) (A ++ [a]) := by
  rw [List.take_succ_eq_append_getElem hq]; exact h.snoc ha
theorem get_snoc {α : Type} {A : List α} {a : α} {P : α → Prop} {q : Nat} (hq : A.length = q) (t : Nat) (h : t < (A ++ [a]).length) (h1 : ∀ (h : t < A.length), P A[t]) (h2 : P a) : P (A ++ [a])[t] := by
  by_cases ht : t < A.length
  · rw [List.getElem_append_left ht]; exact h1 ht
  · have : t = A.length := by simp at h; omega
    subst this
    simpa using h2
theorem cmp_ways (x y : ByteArray) : (Op.bytesLess y.toList x.toList = false ∧ (y.toList == x.toList) = false) ∨ (Op.bytesLess y.toList x.toList = true ∧ (y.toList == x.toList) = false) ∨ (Op.bytesLess y.toList x.toList = false ∧ (y.toList == x.toList) = true) := by
  cases h1 : Op.bytesLess y.toList x.toList with
  | false => cases h2 : (y.toList == x.toList) <;> simp
  | true =>
    cases h2 : (y.toList == x.toList) with
    | false => simp
    | true =>
      have e : y.toList = x.toList := by simpa using h2
      rw [e, bytesLess_eq, decide_eq_true_eq] at h1
      exact absurd h1 (List.lt_irrefl _)
theorem own_below {w w' : World} {B n e sz : Nat} {v : Value} {xs : List Value} (h : w.ownsRow B e sz v n xs) (hb : Below w.heap.size w w') : w'.ownsRow B e sz v n xs :=
  h.kept (row := none) ⟨hb.os, hb.tape, hb.output, hb.size, fun k hk _ => hb.block k hk⟩ (by cases v.ownBlock <;> simp)
theorem sinks_mem : ∀ (L : List Nd) (H : List (List Rc)), ∀ b ∈ sinksP L H, ∃ l ∈ H, b = linesP l
  | [], H, b, hb => by simp [sinksP] at hb
  | nd :: L, [], b, hb => by simp [sinksP] at hb
  | nd :: L, o :: H, b, hb => by
    rw [sinksP] at hb
    split at hb
    · rcases List.mem_cons.1 hb with rfl | hb
      · exact ⟨o, List.mem_cons_self, rfl⟩
      · obtain ⟨l, h1, h2⟩ := sinks_mem L H b hb; exact ⟨l, List.mem_cons_of_mem _ h1, h2⟩
    · obtain ⟨l, h1, h2⟩ := sinks_mem L H b hb; exact ⟨l, List.mem_cons_of_mem _ h1, h2⟩
theorem den_lens {L : List Nd} {D : List (List Rc)} (hE : denE L D = 0) (hok : ∀ l ∈ D, ∀ r ∈ l, RcOk r) (h300 : ∀ l ∈ D, l.length ≤ 300) : ∀ b ∈ denV L D, b.length ≤ 2000 := by
  intro b hb
  unfold denV at hb
  split at hb
  · simp at hb
  · split at hb
    · simp at hb
    · split at hb
      · simp at hb
      · rename_i hs hf
        obtain ⟨l, h1, rfl⟩ := sinks_mem _ _ b hb
        have h2 := (flow_ok L D [] (fun l hl' => ⟨hok l hl', Nat.le_trans (h300 l hl') (by omega)⟩) (by simp) hf l h1).2
        unfold linesP keysP
        rw [List.length_map, List.length_mergeSort]
        exact Nat.le_trans (firsts_len _) h2
set_option maxRecDepth 100000 in
set_option maxHeartbeats 4000000 in
theorem grows_walk (w : World) (hg : Gd w) {la : Option Addr} {L : List Nd} {lc : Nat} (hL : NdsAt w la L) (hlc : L.length ≤ lc) {da : Option Addr} {D : List (List Rc)} {dc : Nat} (hD : RssAt w da D) (hdc : D.length ≤ dc) (hdm : dc ≤ 9223372036854775807)
    (hll : ∀ l ∈ D, l.length ≤ 9223372036854775807) (hX : ∀ l ∈ D, ∀ r ∈ l, r.key.size ≤ 9223372036854775807 ∧ Rng r.num) (cut : Int) (hcut : -9223372036854775808 ≤ cut ∧ cut ≤ 9223372036854775807) :
    Calls Tryz.prog 3 #[.slice la L.length lc, .slice da D.length dc, .int .i64 cut] w fun e w' => e = .returned (.bool true) ∧ Below w.heap.size w w' := by
  obtain ⟨i0, hi0, hz0, hz1, hz2⟩ := info_parts (show (Tryz.prog.info? 34).map (fun i => (i.zero, i.size, i.bytes)) = some (some (.slice none 0 0), 1, 24) from by kernel_rfl)
  obtain ⟨lg, lb⟩ := lit_grow w
  have hr1 := rc_one ((w.alloc (.cells #[.int .i64 0] 3)).alloc (.cells #[.int .i64 1, .slice none 0 0, .string ⟨#[]⟩, .int .i64 1, .int .i64 10, .slice (some ⟨w.heap.size, 0, none⟩) 1 1, .string ⟨#[]⟩, .int .i64 0] 26)) ⟨⟨#[97]⟩, 5, 0⟩
  simp only [World.size_alloc] at hr1
  have hr2 := rss_one _ hr1 (c := 1) (by simp) 34
  simp only [World.size_alloc] at hr2
  have lg2 := (lg.keep (Keeps.alloc _ (.cells #[.string ⟨#[97]⟩, .int .i64 5, .int .i64 0] 33))).keep (Keeps.alloc _ (.cells #[.slice (some ⟨w.heap.size + 1 + 1, 0, none⟩) 1 1] 34))
  have lb2 := (lb.alloc (by simp; omega) (.cells #[.string ⟨#[97]⟩, .int .i64 5, .int .i64 0] 33)).alloc (by simp; omega) (.cells #[.slice (some ⟨w.heap.size + 1 + 1, 0, none⟩) 1 1] 34)
  have HF0 := all_any (hg.below lb2) lg2 (c := 2) (by decide) (D := dGrow) (dc := 1) hr2 (by decide) (by decide) (by decide) (by decide) (by
    intro l hl r hr
    simp [dGrow] at hl
    subst hl
    simp at hr
    subst hr
    unfold Rng; decide)
  have HF := Lib.hid (HF0.mono (fun e w' h => all_yes grow_fact.1 h))
  clear HF0
  rw [grow_fact.2] at HF
  have HAll := Lib.hid (fun (W : World) (hW : Below w.heap.size w W) (G : List (List Rc)) (ga : Option Addr) (gc : Nat) (hG : RssAt W ga G) (h1 : G.length ≤ gc) (h2 : gc ≤ 9223372036854775807) (h3 : ∀ l ∈ G, l.length ≤ 9223372036854775807) (h4 : ∀ l ∈ G, ∀ r ∈ l, r.key.size ≤ 9223372036854775807) (h5 : ∀ l ∈ G, ∀ r ∈ l, Rng r.num) => all_any (hg.below hW) (hL.keep (Keeps.of hW)) hlc hG h1 h2 h3 h4 h5)
  have HD := Lib.hid hD
  have HX := Lib.hid hX
  have HLl := Lib.hid hll
  clear hr1 hr2 lg lg2 hL hD hX hll lb
  go_enter Tryz.func3, Tryz.ntmps3
  go_wp2_with (go_at_call 9; refine Hid.out ?_)
  refine Lib.hid ?_
  refine HF.out.mono ?_
  rintro e w1 ⟨A1, c1, rfl, hs1, hc1, b1⟩
  have B1 : Below w.heap.size w w1 := lb2.trans (b1.mono (by simp; omega))
  obtain ⟨fb, fo, rfl, hs1'⟩ : ∃ b o, A1 = some ⟨b, o, none⟩ ∧ ∃ la cap, w1.cell? ⟨b, o, none⟩ = some (.slice la 1 cap) ∧ LnsAt w1 la [(⟨#[97]⟩, [5])] := by
    rcases hs1 with h | ⟨b, o, h1, h2⟩
    · simp at h
    · obtain ⟨la, cap, e1, e2, e3⟩ := h2 0 (by simp)
      exact ⟨b, o, h1, la, cap, by simpa using e1, by simpa using e2⟩
  obtain ⟨la1, cap1, q0, hln⟩ := hs1'
  obtain ⟨gb, go, rfl, hln'⟩ : ∃ b o, la1 = some ⟨b, o, none⟩ ∧ LnAt w1 b o (⟨#[97]⟩, [5]) := by
    rcases hln with h | ⟨b, o, h1, h2⟩
    · simp at h
    · exact ⟨b, o, h1, by simpa using h2 0 (by simp)⟩
  obtain ⟨-, ⟨fa, fc, q1, q2, -, -⟩, -⟩ := hln'
  obtain ⟨ib, io, rfl, q3⟩ : ∃ b o, fa = some ⟨b, o, none⟩ ∧ w1.cell? ⟨b, o, none⟩ = some (.int .i64 5) := by
    rcases q2 with h | ⟨b, o, h1, h2⟩
    · simp at h
    · exact ⟨b, o, h1, by simpa using h2 0 (by simp)⟩
  simp only [List.length_cons, List.length_nil, Nat.zero_add] at q1
  have HA2 := HAll.out w1 B1 D da dc (HD.out.keep (Keeps.of B1)) hdc hdm HLl.out (fun l hl r hr => (HX.out l hl r hr).1) (fun l hl r hr => (HX.out l hl r hr).2)
  clear HF b1 hc1 q2 lb2 hs1 hln
  simp only [List.length_cons, List.length_nil, Nat.zero_add]
  by_cases hE : denE L D = 0
  · have HA2 := Lib.hid (HA2.mono (fun e w' h => all_yes hE h))
    go_wp2_with (go_at_call 9; refine Hid.out ?_)
    refine Lib.hid ?_
    refine HA2.out.mono ?_
    rintro e w2 ⟨A2, c2, rfl, hs2, hc2, b2⟩
    have B2 : Below w.heap.size w w2 := B1.trans (b2.mono B1.size)
    obtain ⟨hok, h300, h12⟩ := den_small hE (fun l hl r hr => (HX.out l hl r hr).2)
    have HOk := Lib.hid hok
    have H300 := Lib.hid h300
    have HS2 := Lib.hid hs2
    have HE := Lib.hid hE
    clear HA2 hok h300 hs2 hE q0 q1 q3 b2 B1
    go_wp2_with fail
    go_loopw [12, 13, 14] (fun v12 v13 i wr => ∃ (q : Nat) (X Y : List Sl) (XD SD : List (List Rc)), q ≤ D.length ∧ i = .int .i64 q ∧ (X.length = q ∧ XD.length = q ∧ Y.length = q ∧ SD.length = q) ∧ wr.ownsRow w2.heap.size 34 1 v12 q (svs X) ∧ wr.ownsRow w2.heap.size 34 1 v13 q (svs Y) ∧ (∀ g, v12.ownBlock = some g → v13.ownBlock ≠ some g) ∧
        (∀ t (h1 : t < X.length) (h2 : t < XD.length), X[t].2.1 = XD[t].length ∧ RcsAt w X[t].1 XD[t] ∧ XD[t].length ≤ X[t].2.2) ∧ (∀ t (h1 : t < Y.length) (h2 : t < SD.length), SrOk wr Y[t] SD[t]) ∧ PreL XD (D.take q) ∧ PreL SD (D.take q) ∧ PreL (D.take q) SD ∧ Below w2.heap.size w2 wr) (fun _ _ i _ => D.length - (intOf i).toNat)
    case atStart => exact ⟨0, [], [], [], [], by omega, rfl, ⟨rfl, rfl, rfl, rfl⟩, World.ownsRow_nil _ _ _ _, World.ownsRow_nil _ _ _ _, (by intro g h; simp [Value.ownBlock] at h), (by intro t h; simp at h), (by intro t h; simp at h), trivial, trivial, trivial, Below.refl _ _⟩
    case round =>
      obtain ⟨q, X, Y, XD, SD, hq, rfl, ⟨x1, x2, x3, x4⟩, hoX, hoY, hdis, hXs, hYs, p1, p2, p3, hB⟩ := hrel
      have hBw : Below w.heap.size w wr := B2.trans (hB.mono B2.size)
      have HXs := Lib.hid hXs
      have HYs := Lib.hid hYs
      have HP := Lib.hid (And.intro p1 (And.intro p2 p3))
      have HDis := Lib.hid hdis
      have HLen := Lib.hid (And.intro x1 (And.intro x2 (And.intro x3 x4)))
      clear hXs hYs p1 p2 p3 hdis x1 x2 x3 x4
      obtain ⟨A12, c12, rfl⟩ := own_fm hoX
      obtain ⟨A13, c13, rfl⟩ := own_fm hoY
      by_cases hlt : q < D.length
      · have hi : (q : Int) < D.length := by omega
        obtain ⟨bd, od, rfl, hd0⟩ : ∃ b o, da = some ⟨b, o, none⟩ ∧ ∃ la cap, w.cell? ⟨b, o + q, none⟩ = some (.slice la D[q].length cap) ∧ RcsAt w la D[q] ∧ D[q].length ≤ cap := by
          rcases HD.out with h | ⟨b, o, h1, h2⟩
          · subst h; simp at hlt
          · exact ⟨b, o, h1, h2 q hlt⟩
        obtain ⟨l0, c0, k0, r0, hlc0⟩ := hd0
        have hl3 := H300.out _ (List.getElem_mem hlt)
        have hmm := List.getElem_mem hlt
        have HPq := Lib.hid (fun (a : List Rc) (ha : Pre a D[q]) => preL_take hlt HP.out.1 ha)
        have HSq := Lib.hid (fun (a : List Rc) (ha : Pre a D[q]) => preL_take hlt HP.out.2.1 ha)
        have HTq := Lib.hid (fun (a : List Rc) (ha : Pre D[q] a) => preL_take' hlt HP.out.2.2 ha)
        obtain ⟨l, hl⟩ : ∃ l, D[q] = l := ⟨_, rfl⟩
        rw [hl] at k0 r0 hlc0 hl3 HPq HSq HTq
        clear hl hmm
        have k1 := Keeps.of hBw _ _ k0
        obtain ⟨cn, hcn, hcn1⟩ : ∃ cn : Nat, cutL cut l = l.take cn ∧ cn ≤ l.length := by
          unfold cutL
          split
          · exact ⟨cut.toNat, rfl, by omega⟩
          · exact ⟨l.length, by simp, Nat.le_refl _⟩
        have hcv : (0 ≤ cut ∧ cut < l.length ∧ (cn : Int) = cut) ∨ (¬ (0 ≤ cut ∧ cut < l.length) ∧ (cn : Int) = l.length) := by
          have hlen := congrArg List.length hcn
          rw [List.length_take] at hlen
          unfold cutL at hlen
          split at hlen
          · rename_i h; rw [List.length_take] at hlen; left; exact ⟨h.1, h.2, by omega⟩
          · rename_i h; right; exact ⟨h, by omega⟩
        have HCn := Lib.hid hcn
        have HPre := Lib.hid (cut_pre cut l)
        clear hcn
        go_upto_region 12 with fail
        go_cut [15] (fun t wc => wr = wc ∧ t = .int .i64 l.length)
        case first =>
          go_wp2_with fail
          go_meet
          case rel => exact ⟨rfl, rfl⟩
        case rest =>
        obtain ⟨rfl, rfl⟩ := hcut
        apply_assumption
        refine wp_seq_k (fun K hK => ?_)
        go_cut [15] (fun t wc => wr = wc ∧ t = .int .i64 cn)
        case first =>
          rcases hcv with ⟨g1, g2, g3⟩ | ⟨g1, g3⟩
          · have G3 := Lib.hid g3
            clear g3
            go_wp2_with fail
            go_meet
            case rel => exact ⟨rfl, by rw [G3.out]⟩
          · have G3 := Lib.hid g3
            clear g3
            by_cases g0 : 0 ≤ cut
            · have g2 : ¬ cut < l.length := fun h => g1 ⟨g0, h⟩
              clear g1
              go_wp2_with fail
              go_meet
              case rel => exact ⟨rfl, by rw [G3.out]⟩
            · clear g1
              go_wp2_with fail
              go_meet
              case rel => exact ⟨rfl, by rw [G3.out]⟩
        case rest =>
        obtain ⟨rfl, rfl⟩ := hcut
        apply_assumption
        clear hcv
        have hcc : (cn : Int) ≤ c0 := by omega
        have hsz2 := hB.size
        go_wp2_with (at_builtin; refine Hid.out ?_)
        refine Lib.hid ?_
        refine wpList_append_own_at _ rfl _ _ 23 rfl w2.heap.size 34 i0 (.slice none 0 0) 1 24 Tryz.underlying23 hi0 hz0 hz1 hz2 rfl (by decide) (.slice A12 q c12) q (svs X) rfl (hoX.alloc _) ⟨wr.heap.size, 0, none⟩ 1 1 [.slice l0 cn c0] rfl rfl (cell_one_new _ _ _) (by intro u hu; simp at hu; subst hu; rfl) (by unfold maxLen; omega) (by omega) (by simp; omega) ?_
        intro v12 w3 own3 gr3 a3 hat3
        have bAl : Below wr.heap.size wr (wr.alloc (.cells #[.slice l0 cn c0] 34)) := (Below.refl _ _).alloc (Nat.le_refl _) _
        have hB3 : Below w2.heap.size w2 w3 := (hB.alloc hsz2 _).grown gr3 (by simp; omega) (fun k hk => (hoX.lt k hk).1)
        have hKp3 : KpR wr w3 := KpR.grown bAl gr3 (hoX.alloc _)
        have hoY3 : w3.ownsRow w2.heap.size 34 1 (.slice A13 q c13) q (svs Y) := (hoY.alloc _).kept gr3 (by
          cases h : (Value.slice A13 q c13).ownBlock with
          | none => exact .inl rfl
          | some g => exact .inr (fun e => HDis.out g e.symm h))
        have hDis3 : ∀ g, v12.ownBlock = some g → (Value.slice A13 q c13).ownBlock ≠ some g := fun g hg h => by
          rcases hat3 with e | e
          · exact HDis.out g (by rw [← e]; exact hg) h
          · rw [e] at hg
            injection hg with hg
            have := (hoY.lt g h).2
            simp at hg; omega
        have HY3 := Lib.hid (fun t (h1 : t < Y.length) (h2 : t < SD.length) => (HYs.out t h1 h2).kp hKp3)
        obtain ⟨A12', c12', hv12⟩ := own_fm own3
        subst hv12
        have HO3 := Lib.hid own3
        have HDis3 := Lib.hid hDis3
        have hBw3 : Below w.heap.size w w3 := B2.trans (hB3.mono B2.size)
        have k3 := Keeps.of hBw3 _ _ k0
        clear own3 gr3 a3 hat3 bAl hKp3 hDis3 hoX hoY HYs HDis k1 hBw hsz2
        go_wp2_with fail
        go_loopw [16, 17] (fun v16 j wr2 => ∃ (jj : Nat) (s : List Rc), jj ≤ l.length ∧ j = .int .i64 jj ∧ s.length = jj ∧ wr2.ownsRow w3.heap.size 33 3 v16 jj (rcells s) ∧ (∀ k, byK s k = byK (l.take jj) k) ∧ Below w3.heap.size w3 wr2) (fun _ j _ => l.length - (intOf j).toNat)
        case atStart => exact ⟨0, [], by omega, rfl, rfl, World.ownsRow_nil _ _ _ _, (fun k => by simp), Below.refl _ _⟩
        case round =>
          rename World => wr2
          obtain ⟨jj, s, hjj, rfl, hsl, ho16, hby, hb2⟩ := hrel
          have HBy := Lib.hid hby
          clear hby
          obtain ⟨A16, c16, rfl⟩ := own_fm ho16
          have kq := Keeps.of (hBw3.trans (hb2.mono hBw3.size)) _ _ k0
          have hs2 := hb2.size
          by_cases hjl : jj < l.length
          · have hji : (jj : Int) < l.length := by omega
            obtain ⟨bl, ol, hl0, d0, d1, d2⟩ := r0.at hjl
            subst hl0
            have e0 := Keeps.of (hBw3.trans (hb2.mono hBw3.size)) _ _ d0
            have e1 := Keeps.of (hBw3.trans (hb2.mono hBw3.size)) _ _ d1
            have e2 := Keeps.of (hBw3.trans (hb2.mono hBw3.size)) _ _ d2
            have HIn := Lib.hid (fun m h => ins_next hjl HBy.out m h)
            obtain ⟨x, hx⟩ : ∃ x, l[jj] = x := ⟨_, rfl⟩
            rw [hx] at e0 e1 e2 HIn
            clear hx d0 d1 d2
            obtain ⟨hs16, hc16⟩ := own_rcs ho16 hsl.symm
            have HSl := Lib.hid hsl
            have hnone : A16 = none → c16 = 0 := fun h => by
              rcases ho16.2 with ⟨h0, h1⟩ | ⟨g, cap', cur, h0, -⟩
              · simp at h0; exact h0.2.2
              · subst h; simp at h0
            have HNone := Lib.hid hnone
            have HS16 := Lib.hid hs16
            have HO16 := Lib.hid ho16
            have hcI : (jj : Int) ≤ c16 := by omega
            clear hsl hs16 hnone ho16
            go_wp2_with fail
            go_loopw [18] (fun m wr3 => ∃ mm n : Nat, mm ≤ jj ∧ m = .int .i64 mm ∧ (∀ y ∈ s.drop mm, y.key ≠ x.key) ∧ wr3 = wr2.drewN n) (fun m _ => (intOf m).toNat)
            case atStart => exact ⟨jj, 0, Nat.le_refl _, rfl, by rw [List.drop_of_length_le (by have := HSl.out; omega)]; simp, rfl⟩
            case round =>
              obtain ⟨mm, n, hmm, rfl, hne, rfl⟩ := hrel
              have HNe := Lib.hid hne
              clear hne
              cases mm with
              | zero =>
                have hgz : decide ((0 : Int) < ((0 : Nat) : Int)) = false := by decide
                have hzz : (0 : Int) ≤ jj := by omega
                cases hA : A16 with
                | none =>
                  subst hA
                  have hq0 : Hid (c16 = 0) := HNone.out rfl
                  have hj0 : Hid (jj = 0) := by
                    rcases HO16.out.2 with ⟨-, h1⟩ | ⟨g, cap', cur, h0, -⟩
                    · exact h1
                    · simp at h0
                  go_wp2_with fail
                  go_quiet (fail)
                  go_wp2_with (at_builtin; refine Hid.out ?_)
                  refine Lib.hid ?_
                  refine append_rs rfl _ _ rfl wr2.heap.size (.slice none 0 0) [] rfl (World.ownsRow_nil _ _ _ _) none 0 c16 (s.take 0) rfl (by have := HSl.out; simp <;> omega) ((HS16.out.keep (fun _ _ h => h)).take 0) (fun _ => hq0.out) (by simp <;> omega) (Nat.le_refl _) ?_
                  intro v19 u1 o19 b19
                  have b19' : Below wr2.heap.size wr2 u1 := (below_drewN (Below.refl _ _) _).trans b19
                  rw [List.nil_append] at o19
                  have hl19 : (s.take 0).length = 0 := by have := HSl.out; rw [List.length_take]; omega
                  rw [hl19] at o19
                  obtain ⟨A19, c19, hv19⟩ := own_fm o19
                  subst hv19
                  have kq1 := Keeps.of b19' _ _ kq
                  have e01 := Keeps.of b19' _ _ e0
                  have e11 := Keeps.of b19' _ _ e1
                  have e21 := Keeps.of b19' _ _ e2
                  have z1 := b19'.size
                  have HL19 := Lib.hid hl19
                  clear b19 hl19
                  go_wp2_with (at_builtin; refine Hid.out ?_)
                  refine Lib.hid ?_
                  refine append_rs rfl _ _ rfl wr2.heap.size (.slice A19 0 c19) (s.take 0) rfl (by rw [HL19.out]; exact o19.alloc _) (some ⟨u1.heap.size, 0, none⟩) 1 1 [x] rfl rfl (rc_one u1 x) (by intro h; cases h) (by simp <;> omega) (by simp <;> omega) ?_
                  intro v20 u2 o20 b20
                  have b20' : Below wr2.heap.size wr2 u2 := (b19'.alloc z1 _).trans b20
                  have hl20 : (s.take 0 ++ [x]).length = 0 + 1 := by rw [List.length_append, HL19.out]; rfl
                  rw [hl20] at o20
                  obtain ⟨A20, c20, hv20⟩ := own_fm o20
                  subst hv20
                  have z2 := b20'.size
                  clear b20 o19 kq1 e01 e11 e21
                  have hq : c16 = 0 := hq0.out
                  go_wp2_with (at_builtin; refine Hid.out ?_)
                  refine Lib.hid ?_
                  refine append_rs rfl _ _ rfl wr2.heap.size (.slice A20 (0 + 1) c20) (s.take 0 ++ [x]) rfl (by rw [hl20]; exact o20) none (jj - 0) 0 (s.drop 0) rfl (by have := HSl.out; simp <;> omega) (.inl (List.drop_of_length_le (by have := HSl.out; have := hj0.out; omega))) (by intro h; first | rfl | cases h) (by have := HSl.out; simp <;> omega) z2 ?_
                  intro v21 u3 o21 b21
                  have b21' : Below wr2.heap.size wr2 u3 := b20'.trans b21
                  have hln : (s.take 0 ++ [x] ++ s.drop 0).length = jj + 1 := by have := HSl.out; simp <;> omega
                  rw [hln] at o21
                  have o22 := o21.mono (base' := w3.heap.size) hs2
                  obtain ⟨A21, c21, hv21⟩ := own_fm o22
                  subst hv21
                  have HO22 := Lib.hid o22
                  have HB21 := Lib.hid (hb2.trans (b21'.mono hs2))
                  clear b21 o20 o21 o22 b19' b20' b21' hln z1 z2
                  go_wp2_with fail
                  go_roundw
                  case rel => exact ⟨jj + 1, s.take 0 ++ [x] ++ s.drop 0, by omega, by go_num, by have := HSl.out; simp <;> omega, HO22.out, HIn.out 0 HNe.out, HB21.out⟩
                  case measure => simp [intOf]; omega
                | some a16 =>
                  subst hA
                  obtain ⟨bs, os, rfl⟩ : ∃ b o, a16 = ⟨b, o, none⟩ := by
                    rcases HO16.out.2 with ⟨h0, -⟩ | ⟨g, cap', cur, h0, -⟩
                    · simp at h0
                    · simp at h0; exact ⟨g, 0, h0.1⟩
                  go_wp2_with fail
                  go_quiet (fail)
                  go_wp2_with (at_builtin; refine Hid.out ?_)
                  refine Lib.hid ?_
                  refine append_rs rfl _ _ rfl wr2.heap.size (.slice none 0 0) [] rfl (World.ownsRow_nil _ _ _ _) (some ⟨bs, os, none⟩) 0 c16 (s.take 0) rfl (by have := HSl.out; simp <;> omega) ((HS16.out.keep (fun _ _ h => h)).take 0) (by intro h; cases h) (by simp <;> omega) (Nat.le_refl _) ?_
                  intro v19 u1 o19 b19
                  have b19' : Below wr2.heap.size wr2 u1 := (below_drewN (Below.refl _ _) _).trans b19
                  rw [List.nil_append] at o19
                  have hl19 : (s.take 0).length = 0 := by have := HSl.out; rw [List.length_take]; omega
                  rw [hl19] at o19
                  obtain ⟨A19, c19, hv19⟩ := own_fm o19
                  subst hv19
                  have kq1 := Keeps.of b19' _ _ kq
                  have e01 := Keeps.of b19' _ _ e0
                  have e11 := Keeps.of b19' _ _ e1
                  have e21 := Keeps.of b19' _ _ e2
                  have z1 := b19'.size
                  have HL19 := Lib.hid hl19
                  clear b19 hl19
                  go_wp2_with (at_builtin; refine Hid.out ?_)
                  refine Lib.hid ?_
                  refine append_rs rfl _ _ rfl wr2.heap.size (.slice A19 0 c19) (s.take 0) rfl (by rw [HL19.out]; exact o19.alloc _) (some ⟨u1.heap.size, 0, none⟩) 1 1 [x] rfl rfl (rc_one u1 x) (by intro h; cases h) (by simp <;> omega) (by simp <;> omega) ?_
                  intro v20 u2 o20 b20
                  have b20' : Below wr2.heap.size wr2 u2 := (b19'.alloc z1 _).trans b20
                  have hl20 : (s.take 0 ++ [x]).length = 0 + 1 := by rw [List.length_append, HL19.out]; rfl
                  rw [hl20] at o20
                  obtain ⟨A20, c20, hv20⟩ := own_fm o20
                  subst hv20
                  have z2 := b20'.size
                  clear b20 o19 kq1 e01 e11 e21
                  by_cases hq : c16 = 0
                  · go_wp2_with (at_builtin; refine Hid.out ?_)
                    refine Lib.hid ?_
                    refine append_rs rfl _ _ rfl wr2.heap.size (.slice A20 (0 + 1) c20) (s.take 0 ++ [x]) rfl (by rw [hl20]; exact o20) (some ⟨bs, os, none⟩) (jj - 0) 0 (s.drop 0) rfl (by have := HSl.out; simp <;> omega) (.inl (List.drop_of_length_le (by have := HSl.out; omega))) (by intro h; first | rfl | cases h) (by have := HSl.out; simp <;> omega) z2 ?_
                    intro v21 u3 o21 b21
                    have b21' : Below wr2.heap.size wr2 u3 := b20'.trans b21
                    have hln : (s.take 0 ++ [x] ++ s.drop 0).length = jj + 1 := by have := HSl.out; simp <;> omega
                    rw [hln] at o21
                    have o22 := o21.mono (base' := w3.heap.size) hs2
                    obtain ⟨A21, c21, hv21⟩ := own_fm o22
                    subst hv21
                    have HO22 := Lib.hid o22
                    have HB21 := Lib.hid (hb2.trans (b21'.mono hs2))
                    clear b21 o20 o21 o22 b19' b20' b21' hln z1 z2
                    go_wp2_with fail
                    go_roundw
                    case rel => exact ⟨jj + 1, s.take 0 ++ [x] ++ s.drop 0, by omega, by go_num, by have := HSl.out; simp <;> omega, HO22.out, HIn.out 0 HNe.out, HB21.out⟩
                    case measure => simp [intOf]; omega
                  · go_wp2_with (at_builtin; refine Hid.out ?_)
                    refine Lib.hid ?_
                    refine append_rs rfl _ _ rfl wr2.heap.size (.slice A20 (0 + 1) c20) (s.take 0 ++ [x]) rfl (by rw [hl20]; exact o20) (some ⟨bs, os, none⟩) (jj - 0) (c16 - 0) (s.drop 0) rfl (by have := HSl.out; simp <;> omega) (by have h := (HS16.out.keep (Keeps.of b20')).drop (k := 0) (by omega); simpa using h) (by intro h; first | rfl | cases h) (by have := HSl.out; simp <;> omega) z2 ?_
                    intro v21 u3 o21 b21
                    have b21' : Below wr2.heap.size wr2 u3 := b20'.trans b21
                    have hln : (s.take 0 ++ [x] ++ s.drop 0).length = jj + 1 := by have := HSl.out; simp <;> omega
                    rw [hln] at o21
                    have o22 := o21.mono (base' := w3.heap.size) hs2
                    obtain ⟨A21, c21, hv21⟩ := own_fm o22
                    subst hv21
                    have HO22 := Lib.hid o22
                    have HB21 := Lib.hid (hb2.trans (b21'.mono hs2))
                    clear b21 o20 o21 o22 b19' b20' b21' hln z1 z2
                    go_wp2_with fail
                    go_roundw
                    case rel => exact ⟨jj + 1, s.take 0 ++ [x] ++ s.drop 0, by omega, by go_num, by have := HSl.out; simp <;> omega, HO22.out, HIn.out 0 HNe.out, HB21.out⟩
                    case measure => simp [intOf]; omega
              | succ mp =>
                have hsl := HSl.out
                have hmp : mp < s.length := by omega
                obtain ⟨bs, os, hA16, f0, -, -⟩ := HS16.out.at hmp
                have HNx : Hid (∀ (h : (s[mp].key.toList == x.key.toList) = false), ∀ y ∈ s.drop mp, y.key ≠ x.key) := fun h y hy => by
                  rw [List.drop_eq_getElem_cons hmp] at hy
                  rcases List.mem_cons.1 hy with rfl | hy
                  · exact fun e => by rw [e] at h; simp at h
                  · exact HNe.out y hy
                have hA16' := hA16
                subst hA16
                obtain ⟨y, hy⟩ : ∃ y, s[mp].key = y := ⟨_, rfl⟩
                rw [hy] at f0 HNx
                clear hy hsl hA16'
                rw [show ((mp + 1 : Nat) : Int) = (mp : Int) + 1 from by omega]
                have hg1 : decide ((0 : Int) < (mp : Int) + 1) = true := decide_eq_true (by omega)
                have hpi : (mp : Int) < jj := by omega
                rcases cmp_ways x.key y with ⟨t1, t2⟩ | ⟨t1, t2⟩ | ⟨t1, t2⟩
                · have T2 := Lib.hid t2
                  go_wp2_with fail
                  go_quiet (fail)
                  go_wp2_with fail
                  go_roundw
                  case rel => exact ⟨mp, _, by omega, by go_num, HNx.out T2.out, rfl⟩
                  case measure => simp [intOf]
                · go_wp2_with fail
                  go_quiet (fail)
                  go_wp2_with (at_builtin; refine Hid.out ?_)
                  refine Lib.hid ?_
                  refine append_rs rfl _ _ rfl wr2.heap.size (.slice none 0 0) [] rfl (World.ownsRow_nil _ _ _ _) (some ⟨bs, os, none⟩) (mp + 1) c16 (s.take (mp + 1)) rfl (by have := HSl.out; simp <;> omega) ((HS16.out.keep (fun _ _ h => h)).take (mp + 1)) (by intro h; cases h) (by simp <;> omega) (Nat.le_refl _) ?_
                  intro v19 u1 o19 b19
                  have b19' : Below wr2.heap.size wr2 u1 := (below_drewN (Below.refl _ _) _).trans b19
                  rw [List.nil_append] at o19
                  have hl19 : (s.take (mp + 1)).length = (mp + 1) := by have := HSl.out; rw [List.length_take]; omega
                  rw [hl19] at o19
                  obtain ⟨A19, c19, hv19⟩ := own_fm o19
                  subst hv19
                  have kq1 := Keeps.of b19' _ _ kq
                  have e01 := Keeps.of b19' _ _ e0
                  have e11 := Keeps.of b19' _ _ e1
                  have e21 := Keeps.of b19' _ _ e2
                  have z1 := b19'.size
                  have HL19 := Lib.hid hl19
                  clear b19 hl19
                  go_wp2_with (at_builtin; refine Hid.out ?_)
                  refine Lib.hid ?_
                  refine append_rs rfl _ _ rfl wr2.heap.size (.slice A19 (mp + 1) c19) (s.take (mp + 1)) rfl (by rw [HL19.out]; exact o19.alloc _) (some ⟨u1.heap.size, 0, none⟩) 1 1 [x] rfl rfl (rc_one u1 x) (by intro h; cases h) (by simp <;> omega) (by simp <;> omega) ?_
                  intro v20 u2 o20 b20
                  have b20' : Below wr2.heap.size wr2 u2 := (b19'.alloc z1 _).trans b20
                  have hl20 : (s.take (mp + 1) ++ [x]).length = (mp + 1) + 1 := by rw [List.length_append, HL19.out]; rfl
                  rw [hl20] at o20
                  obtain ⟨A20, c20, hv20⟩ := own_fm o20
                  subst hv20
                  have z2 := b20'.size
                  clear b20 o19 kq1 e01 e11 e21
                  by_cases hq : c16 = mp + 1
                  · go_wp2_with (at_builtin; refine Hid.out ?_)
                    refine Lib.hid ?_
                    refine append_rs rfl _ _ rfl wr2.heap.size (.slice A20 ((mp + 1) + 1) c20) (s.take (mp + 1) ++ [x]) rfl (by rw [hl20]; exact o20) (some ⟨bs, os, none⟩) (jj - (mp + 1)) 0 (s.drop (mp + 1)) rfl (by have := HSl.out; simp <;> omega) (.inl (List.drop_of_length_le (by have := HSl.out; omega))) (by intro h; first | rfl | cases h) (by have := HSl.out; simp <;> omega) z2 ?_
                    intro v21 u3 o21 b21
                    have b21' : Below wr2.heap.size wr2 u3 := b20'.trans b21
                    have hln : (s.take (mp + 1) ++ [x] ++ s.drop (mp + 1)).length = jj + 1 := by have := HSl.out; simp <;> omega
                    rw [hln] at o21
                    have o22 := o21.mono (base' := w3.heap.size) hs2
                    obtain ⟨A21, c21, hv21⟩ := own_fm o22
                    subst hv21
                    have HO22 := Lib.hid o22
                    have HB21 := Lib.hid (hb2.trans (b21'.mono hs2))
                    clear b21 o20 o21 o22 b19' b20' b21' hln z1 z2
                    go_wp2_with fail
                    go_roundw
                    case rel => exact ⟨jj + 1, s.take (mp + 1) ++ [x] ++ s.drop (mp + 1), by omega, by go_num, by have := HSl.out; simp <;> omega, HO22.out, HIn.out (mp + 1) HNe.out, HB21.out⟩
                    case measure => simp [intOf]; omega
                  · go_wp2_with (at_builtin; refine Hid.out ?_)
                    refine Lib.hid ?_
                    refine append_rs rfl _ _ rfl wr2.heap.size (.slice A20 ((mp + 1) + 1) c20) (s.take (mp + 1) ++ [x]) rfl (by rw [hl20]; exact o20) (some ⟨bs, os + (mp + 1) * 3, none⟩) (jj - (mp + 1)) (c16 - (mp + 1)) (s.drop (mp + 1)) rfl (by have := HSl.out; simp <;> omega) ((HS16.out.keep (Keeps.of b20')).drop (by omega)) (by intro h; first | rfl | cases h) (by have := HSl.out; simp <;> omega) z2 ?_
                    intro v21 u3 o21 b21
                    have b21' : Below wr2.heap.size wr2 u3 := b20'.trans b21
                    have hln : (s.take (mp + 1) ++ [x] ++ s.drop (mp + 1)).length = jj + 1 := by have := HSl.out; simp <;> omega
                    rw [hln] at o21
                    have o22 := o21.mono (base' := w3.heap.size) hs2
                    obtain ⟨A21, c21, hv21⟩ := own_fm o22
                    subst hv21
                    have HO22 := Lib.hid o22
                    have HB21 := Lib.hid (hb2.trans (b21'.mono hs2))
                    clear b21 o20 o21 o22 b19' b20' b21' hln z1 z2
                    go_wp2_with fail
                    go_roundw
                    case rel => exact ⟨jj + 1, s.take (mp + 1) ++ [x] ++ s.drop (mp + 1), by omega, by go_num, by have := HSl.out; simp <;> omega, HO22.out, HIn.out (mp + 1) HNe.out, HB21.out⟩
                    case measure => simp [intOf]; omega
                · go_wp2_with fail
                  go_quiet (fail)
                  go_wp2_with (at_builtin; refine Hid.out ?_)
                  refine Lib.hid ?_
                  refine append_rs rfl _ _ rfl wr2.heap.size (.slice none 0 0) [] rfl (World.ownsRow_nil _ _ _ _) (some ⟨bs, os, none⟩) (mp + 1) c16 (s.take (mp + 1)) rfl (by have := HSl.out; simp <;> omega) ((HS16.out.keep (fun _ _ h => h)).take (mp + 1)) (by intro h; cases h) (by simp <;> omega) (Nat.le_refl _) ?_
                  intro v19 u1 o19 b19
                  have b19' : Below wr2.heap.size wr2 u1 := (below_drewN (Below.refl _ _) _).trans b19
                  rw [List.nil_append] at o19
                  have hl19 : (s.take (mp + 1)).length = (mp + 1) := by have := HSl.out; rw [List.length_take]; omega
                  rw [hl19] at o19
                  obtain ⟨A19, c19, hv19⟩ := own_fm o19
                  subst hv19
                  have kq1 := Keeps.of b19' _ _ kq
                  have e01 := Keeps.of b19' _ _ e0
                  have e11 := Keeps.of b19' _ _ e1
                  have e21 := Keeps.of b19' _ _ e2
                  have z1 := b19'.size
                  have HL19 := Lib.hid hl19
                  clear b19 hl19
                  go_wp2_with (at_builtin; refine Hid.out ?_)
                  refine Lib.hid ?_
                  refine append_rs rfl _ _ rfl wr2.heap.size (.slice A19 (mp + 1) c19) (s.take (mp + 1)) rfl (by rw [HL19.out]; exact o19.alloc _) (some ⟨u1.heap.size, 0, none⟩) 1 1 [x] rfl rfl (rc_one u1 x) (by intro h; cases h) (by simp <;> omega) (by simp <;> omega) ?_
                  intro v20 u2 o20 b20
                  have b20' : Below wr2.heap.size wr2 u2 := (b19'.alloc z1 _).trans b20
                  have hl20 : (s.take (mp + 1) ++ [x]).length = (mp + 1) + 1 := by rw [List.length_append, HL19.out]; rfl
                  rw [hl20] at o20
                  obtain ⟨A20, c20, hv20⟩ := own_fm o20
                  subst hv20
                  have z2 := b20'.size
                  clear b20 o19 kq1 e01 e11 e21
                  by_cases hq : c16 = mp + 1
                  · go_wp2_with (at_builtin; refine Hid.out ?_)
                    refine Lib.hid ?_
                    refine append_rs rfl _ _ rfl wr2.heap.size (.slice A20 ((mp + 1) + 1) c20) (s.take (mp + 1) ++ [x]) rfl (by rw [hl20]; exact o20) (some ⟨bs, os, none⟩) (jj - (mp + 1)) 0 (s.drop (mp + 1)) rfl (by have := HSl.out; simp <;> omega) (.inl (List.drop_of_length_le (by have := HSl.out; omega))) (by intro h; first | rfl | cases h) (by have := HSl.out; simp <;> omega) z2 ?_
                    intro v21 u3 o21 b21
                    have b21' : Below wr2.heap.size wr2 u3 := b20'.trans b21
                    have hln : (s.take (mp + 1) ++ [x] ++ s.drop (mp + 1)).length = jj + 1 := by have := HSl.out; simp <;> omega
                    rw [hln] at o21
                    have o22 := o21.mono (base' := w3.heap.size) hs2
                    obtain ⟨A21, c21, hv21⟩ := own_fm o22
                    subst hv21
                    have HO22 := Lib.hid o22
                    have HB21 := Lib.hid (hb2.trans (b21'.mono hs2))
                    clear b21 o20 o21 o22 b19' b20' b21' hln z1 z2
                    go_wp2_with fail
                    go_roundw
                    case rel => exact ⟨jj + 1, s.take (mp + 1) ++ [x] ++ s.drop (mp + 1), by omega, by go_num, by have := HSl.out; simp <;> omega, HO22.out, HIn.out (mp + 1) HNe.out, HB21.out⟩
                    case measure => simp [intOf]; omega
                  · go_wp2_with (at_builtin; refine Hid.out ?_)
                    refine Lib.hid ?_
                    refine append_rs rfl _ _ rfl wr2.heap.size (.slice A20 ((mp + 1) + 1) c20) (s.take (mp + 1) ++ [x]) rfl (by rw [hl20]; exact o20) (some ⟨bs, os + (mp + 1) * 3, none⟩) (jj - (mp + 1)) (c16 - (mp + 1)) (s.drop (mp + 1)) rfl (by have := HSl.out; simp <;> omega) ((HS16.out.keep (Keeps.of b20')).drop (by omega)) (by intro h; first | rfl | cases h) (by have := HSl.out; simp <;> omega) z2 ?_
                    intro v21 u3 o21 b21
                    have b21' : Below wr2.heap.size wr2 u3 := b20'.trans b21
                    have hln : (s.take (mp + 1) ++ [x] ++ s.drop (mp + 1)).length = jj + 1 := by have := HSl.out; simp <;> omega
                    rw [hln] at o21
                    have o22 := o21.mono (base' := w3.heap.size) hs2
                    obtain ⟨A21, c21, hv21⟩ := own_fm o22
                    subst hv21
                    have HO22 := Lib.hid o22
                    have HB21 := Lib.hid (hb2.trans (b21'.mono hs2))
                    clear b21 o20 o21 o22 b19' b20' b21' hln z1 z2
                    go_wp2_with fail
                    go_roundw
                    case rel => exact ⟨jj + 1, s.take (mp + 1) ++ [x] ++ s.drop (mp + 1), by omega, by go_num, by have := HSl.out; simp <;> omega, HO22.out, HIn.out (mp + 1) HNe.out, HB21.out⟩
                    case measure => simp [intOf]; omega
          · obtain rfl : jj = l.length := by omega
            have hji : ¬ ((l.length : Nat) : Int) < l.length := by omega
            obtain ⟨hs16, hc16⟩ := own_rcs ho16 hsl.symm
            have hly := LyR.of ho16
            have hbyl : ∀ k, byK s k = byK l k := fun k => by have := HBy.out k; rwa [List.take_length] at this
            have hsz3 := hB3.size
            have hoY4 := own_below hoY3 hb2
            have hoX4 := own_below HO3.out hb2
            have HBy4 := Lib.hid hbyl
            have HSl := Lib.hid hsl
            clear hbyl hsl HBy
            go_wp2_with (at_builtin; refine Hid.out ?_)
            refine Lib.hid ?_
            refine wpList_append_own_at _ rfl _ _ 23 rfl w2.heap.size 34 i0 (.slice none 0 0) 1 24 Tryz.underlying23 hi0 hz0 hz1 hz2 rfl (by decide) (.slice A13 q c13) q (svs Y) rfl (hoY4.alloc _) ⟨wr2.heap.size, 0, none⟩ 1 1 [.slice A16 l.length c16] rfl rfl (cell_one_new _ _ _) (by intro u hu; simp at hu; subst hu; rfl) (by unfold maxLen; omega) (by omega) (by simp; omega) ?_
            intro v13 w4 own4 gr4 a4 hat4
            have bAl : Below wr2.heap.size wr2 (wr2.alloc (.cells #[.slice A16 l.length c16] 34)) := (Below.refl _ _).alloc (Nat.le_refl _) _
            have hB4 : Below w2.heap.size w2 w4 := ((hB3.trans (hb2.mono hsz3)).alloc (by omega) _).grown gr4 (by simp; omega) (fun k hk => (hoY4.lt k hk).1)
            have hKp4 : KpR wr2 w4 := KpR.grown bAl gr4 (hoY4.alloc _)
            have hKp34 : KpR w3 w4 := (KpR.below hb2).trans hKp4
            have hoX5 : w4.ownsRow w2.heap.size 34 1 (.slice A12' (q + 1) c12') (q + 1) (svs X ++ [.slice l0 cn c0]) := (hoX4.alloc _).kept gr4 (by
              cases h : (Value.slice A12' (q + 1) c12').ownBlock with
              | none => exact .inl rfl
              | some g => exact .inr (fun e => HDis3.out g h e.symm))
            have hDis4 : ∀ g, (Value.slice A12' (q + 1) c12').ownBlock = some g → v13.ownBlock ≠ some g := fun g hg h => by
              rcases hat4 with e | e
              · exact HDis3.out g hg (by rw [← e]; exact h)
              · rw [e] at h
                injection h with h
                have := (hoX4.lt g hg).2
                simp at h; omega
            have hlcn : (l.take cn).length = cn := by rw [List.length_take]; omega
            obtain ⟨lx1, lx2, lx3, lx4⟩ := HLen.out
            have hX5 : ∀ t (h1 : t < (X ++ [(l0, cn, c0)]).length) (h2 : t < (XD ++ [cutL cut l]).length), (X ++ [(l0, cn, c0)])[t].2.1 = (XD ++ [cutL cut l])[t].length ∧ RcsAt w (X ++ [(l0, cn, c0)])[t].1 (XD ++ [cutL cut l])[t] ∧ (XD ++ [cutL cut l])[t].length ≤ (X ++ [(l0, cn, c0)])[t].2.2 := fun t h1 h2 => by
              by_cases ht : t < q
              · rw [List.getElem_append_left (by omega), List.getElem_append_left (by omega)]; exact HXs.out t (by omega) (by omega)
              · have : t = q := by simp at h1; omega
                subst this
                rw [List.getElem_append_right (by omega), List.getElem_append_right (by omega)]
                simp only [lx1, lx2, Nat.sub_self, List.getElem_cons_zero]
                rw [HCn.out, hlcn]
                exact ⟨rfl, r0.take cn, by omega⟩
            have hY5 : ∀ t (h1 : t < (Y ++ [(A16, l.length, c16)]).length) (h2 : t < (SD ++ [s]).length), SrOk w4 (Y ++ [(A16, l.length, c16)])[t] (SD ++ [s])[t] := fun t h1 h2 => by
              by_cases ht : t < q
              · rw [List.getElem_append_left (by omega), List.getElem_append_left (by omega)]; exact (HY3.out t (by omega) (by omega)).kp hKp34
              · have : t = q := by simp at h1; omega
                subst this
                rw [List.getElem_append_right (by omega), List.getElem_append_right (by omega)]
                simp only [lx3, lx4, Nat.sub_self, List.getElem_cons_zero]
                have hh : SrOk wr2 (A16, l.length, c16) s := ⟨HSl.out.symm, hs16, show s.length ≤ c16 by have := HSl.out; omega, hly⟩
                exact hh.kp hKp4
            have HFin := Lib.hid (And.intro hoX5 (And.intro own4 (And.intro hDis4 (And.intro hX5 (And.intro hY5 hB4)))))
            obtain ⟨A13', c13', hv13⟩ := own_fm own4
            subst hv13
            clear hoX5 own4 hDis4 hX5 hY5 hB4 gr4 a4 hat4 bAl hKp4 hKp34 hlcn hoX4 hoY4 hs16 hly ho16
            go_wp2_with fail
            go_roundw
            case rel =>
              obtain ⟨f1, f2, f3, f4, f5, f6⟩ := HFin.out
              exact ⟨q + 1, X ++ [(l0, cn, c0)], Y ++ [(A16, l.length, c16)], XD ++ [cutL cut l], SD ++ [s], by omega, by go_num, ⟨by simp [lx1], by simp [lx2], by simp [lx3], by simp [lx4]⟩, by simpa [svs] using f1, by simpa [svs] using f2, f3, f4, f5, HPq.out _ HPre.out, HSq.out _ (pre_of_by HBy4.out).1, HTq.out _ (pre_of_by HBy4.out).2, f6⟩
            case measure => simp [intOf]; omega
      · obtain rfl : q = D.length := by omega
        have hi : ¬ ((D.length : Nat) : Int) < D.length := by omega
        obtain ⟨p1, p2, p3⟩ := HP.out
        rw [List.take_length] at p1 p2 p3
        obtain ⟨lx1, lx2, lx3, lx4⟩ := HLen.out
        obtain ⟨gE, gL, -⟩ := grows_pure HE.out p1
        obtain ⟨sE, -, sV⟩ := grows_pure HE.out p2
        have sV := sV p3
        obtain ⟨xk, xl⟩ := preL_ok p1 HOk.out H300.out
        obtain ⟨sk, sl⟩ := preL_ok p2 HOk.out H300.out
        rw [← lx1] at hoX
        rw [← lx3] at hoY
        obtain ⟨AX, cX, ex, rX, cX1, cX2⟩ := own_rows hoX (lx1.trans lx2.symm) (fun i h1 h2 => by
          obtain ⟨q1, q2, q3⟩ := HXs.out i h1 h2
          exact ⟨q1, q2.keep (Keeps.of hBw), q3⟩)
        obtain ⟨AY, cY, ey, rY, cY1, cY2⟩ := own_rows hoY (lx3.trans lx4.symm) (fun i h1 h2 => by
          obtain ⟨q1, q2, q3, -⟩ := HYs.out i h1 h2
          exact ⟨q1, q2, q3⟩)
        rw [lx1, lx2] at ex
        rw [lx3, lx4] at ey
        injection ex with ex1 _ ex2
        injection ey with ey1 _ ey2
        subst ex1; subst ex2; subst ey1; subst ey2
        have HA3 := HAll.out wr hBw XD A12 c12 rX cX1 cX2 (fun l hl => by have := xl l hl; omega) (fun l hl r hr => by have := (xk l hl r hr).key; omega) (fun l hl r hr => (xk l hl r hr).num)
        rw [lx2] at HA3
        have HA3 := Lib.hid (HA3.mono (fun e w' h => all_yes gE h))
        have HA4 := Lib.hid (fun (W : World) (hW : Below wr.heap.size wr W) => (HAll.out W (hBw.trans (hW.mono hBw.size)) SD A13 c13 (rY.keep (Keeps.of hW)) cY1 cY2 (fun l hl => by have := sl l hl; omega) (fun l hl r hr => by have := (sk l hl r hr).key; omega) (fun l hl r hr => (sk l hl r hr).num)).mono (fun e w' h => all_yes sE h))
        rw [lx4, sV] at HA4
        have hl12 := den_len L D
        have hlxI : Hid ((denV L XD).length = (denV L D).length) := gL.len
        have hneq : (((denV L XD).length : Int) != ((denV L D).length : Int)) = false := by rw [hlxI.out]; simp
        have hlens := den_lens HE.out HOk.out H300.out
        have HPf := Lib.hid (fun i ha hb => pref_all gL i ha hb)
        have HLens := Lib.hid hlens
        have HLensX := Lib.hid (den_lens gE xk xl)
        clear p1 p2 p3 gE gL sE sV xk xl sk sl hoX hoY rX rY HXs HYs HP HDis HLen lx1 lx2 lx3 lx4 cX1 cX2 cY1 cY2 hlens
        go_wp2_with (go_at_call 9; refine Hid.out ?_)
        refine Lib.hid ?_
        refine HA3.out.mono ?_
        rintro e w5 ⟨A5, c5, rfl, hs5, hc5, b5⟩
        go_wp2_with (go_at_call 9; refine Hid.out ?_)
        refine Lib.hid ?_
        refine (HA4.out w5 b5).mono ?_
        rintro e w6 ⟨A6, c6, rfl, hs6, hc6, b6⟩
        have B6 : Below w2.heap.size w2 w6 := (hB.trans (b5.mono hB.size)).trans (b6.mono (Nat.le_trans hB.size b5.size))
        have hs26 := HS2.out.keep (Keeps.of B6)
        have hs56 := hs5.keep (Keeps.of b6)
        have HSk := Lib.hid (sinks_like hs6 hs26 c6 c2 (by omega) (fun l hl => by have := HLens.out l hl; omega))
        have BW6 : Below w.heap.size w w6 := B2.trans (B6.mono B2.size)
        clear HA3 HA4 hs5 hs6 b5 b6 B6
        go_wp2_with (go_at_call 10; refine Hid.out ?_)
        refine Lib.hid ?_
        refine HSk.out.mono ?_
        rintro e w7 ⟨rfl, n7, rfl⟩
        have s5 : SksAt (w6.drewN n7) A5 (denV L XD) := hs56.keep (fun _ _ h => h)
        have s2 : SksAt (w6.drewN n7) A2 (denV L D) := hs26.keep (fun _ _ h => h)
        have BW7 : Below w.heap.size w (w6.drewN n7) := below_drewN BW6 n7
        clear hs56 hs26 HSk BW6
        generalize w6.drewN n7 = w7 at *
        go_wp2_with fail
        go_loopw [25] (fun i wr5 => ∃ t : Nat, t ≤ (denV L XD).length ∧ i = .int .i64 t ∧ Below w7.heap.size w7 wr5) (fun i _ => (denV L XD).length - (intOf i).toNat)
        case atStart => exact ⟨0, by omega, rfl, Below.refl _ _⟩
        case round =>
          rename World => wr5
          obtain ⟨t, ht, rfl, b7⟩ := hrel
          by_cases htl : t < (denV L XD).length
          · have hti : (t : Int) < (denV L XD).length := by omega
            have htl2 : t < (denV L D).length := by rw [← hlxI.out]; exact htl
            have hti2 : (t : Int) < (denV L D).length := by omega
            have hpf := HPf.out t htl htl2
            have l1 := HLensX.out _ (List.getElem_mem htl)
            have l2 := HLens.out _ (List.getElem_mem htl2)
            rcases s5 with s5 | ⟨b5, o5, rfl, s5⟩
            · rw [s5] at htl; simp at htl
            rcases s2 with s2 | ⟨b2, o2, rfl, s2⟩
            · rw [s2] at htl2; simp at htl2
            obtain ⟨la5, ca5, k5, n5, -⟩ := s5 t htl
            obtain ⟨la2, ca2, k2, n2, -⟩ := s2 t htl2
            obtain ⟨x5, hx5⟩ : ∃ x, (denV L XD)[t] = x := ⟨_, rfl⟩
            obtain ⟨x2, hx2⟩ : ∃ x, (denV L D)[t] = x := ⟨_, rfl⟩
            rw [hx5] at k5 n5 hpf l1
            rw [hx2] at k2 n2 hpf l2
            have j5 := Keeps.of b7 _ _ k5
            have j2 := Keeps.of b7 _ _ k2
            have HPx := fun (W : World) (hW : Below w7.heap.size w7 W) => prefix_any (w := W) ca5 ca2 (n5.keep (Keeps.of hW)) (by omega) (by omega) (n2.keep (Keeps.of hW))
            rw [hpf] at HPx
            have HPx := Lib.hid HPx
            clear hx5 hx2 hpf s5 s2 n5 n2 k5 k2 l1 l2 htl2
            have hz7 := b7.size
            have hold : Hid (∀ (u : World) (w8 : World), u.heap = wr5.heap → Below u.heap.size u w8 → w8.cell? ⟨b5, o5 + t, none⟩ = some (.slice la5 x5.length ca5) ∧ w8.cell? ⟨b2, o2 + t, none⟩ = some (.slice la2 x2.length ca2)) := fun u w8 hu hb => by
              have e5 : u.cell? ⟨b5, o5 + t, none⟩ = some (.slice la5 x5.length ca5) := by rw [World.cell?_of_block (w := wr5) (by rw [hu])]; exact j5
              have e2 : u.cell? ⟨b2, o2 + t, none⟩ = some (.slice la2 x2.length ca2) := by rw [World.cell?_of_block (w := wr5) (by rw [hu])]; exact j2
              exact ⟨Keeps.of hb _ _ e5, Keeps.of hb _ _ e2⟩
            have HPy := Lib.hid (HPx.out wr5.drew (b7.trans ⟨rfl, rfl, rfl, Nat.le_refl _, fun _ _ => rfl⟩))
            go_wp2_with fail
            go_region_held3 (fun u => u.cell? ⟨b5, o5 + t, none⟩ = some (.slice la5 x5.length ca5) ∧ u.cell? ⟨b2, o2 + t, none⟩ = some (.slice la2 x2.length ca2)) (first | go_keep | exact hold.out wr5.drew w8 rfl b8) ((go_at_call 11; refine HPy.out.mono ?_; rintro e w8 ⟨rfl, b8⟩))
            go_wp2_with fail
            go_roundw
            case rel => exact ⟨t + 1, by omega, by go_num, b7.trans ((show Below w7.heap.size wr5 wr5.drew from ⟨rfl, rfl, rfl, Nat.le_refl _, fun _ _ => rfl⟩).trans (b8.mono hz7))⟩
            case measure => simp [intOf]; omega
          · have hti : ¬ (t : Int) < (denV L XD).length := by omega
            go_wp2_with fail
            go_ret
            exact ⟨rfl, BW7.trans (b7.mono BW7.size)⟩
  · have HA2 := Lib.hid (HA2.mono (fun e w' h => all_no hE h))
    go_wp2_with (go_at_call 9; refine Hid.out ?_)
    refine Lib.hid ?_
    refine HA2.out.mono ?_
    rintro e w2 ⟨⟨z, rfl⟩, b2⟩
    go_wp2_with fail
    go_ret
    exact ⟨rfl, B1.trans (b2.mono B1.size)⟩
end Go.Proofs.YtppkjiihmlphbaaGreatDoor

