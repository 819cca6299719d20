/- The document's Lines: records by key. -/
import Derived.Test.YthcgjbpiiodlgaaDoorAr
import Derived.Sort.Walk0
import Derived.Laws.Cover1
import Derived.Deep.RegionLaw
namespace Go.Proofs.YthcgjbpiiodlgaaDoor.Dn
open Go.RowKit
set_option linter.unusedVariables false
structure Rc where
  key : ByteArray
  num : Int
  time : Int
def kle (a b : ByteArray) : Bool := decide (a.data.toList ≤ b.data.toList)
theorem kle_total (a b : ByteArray) : (kle a b || kle b a) = true := by
  simp only [kle, Bool.or_eq_true, decide_eq_true_eq]; exact List.le_total _ _
def klt (a b : ByteArray) : Bool := !kle b a
theorem kle_self (a : ByteArray) : kle a a = true := by have := kle_total a a; simpa using this
theorem klt_irrefl (a : ByteArray) : klt a a = false := by unfold klt; rw [kle_self]; rfl
/-- One record more, among lines that rise. -/
def lnAdd (r : Rc) : List Ln → List Ln
  | [] => [(r.key, [r.num])]
  | (q, ns) :: t => if klt q r.key then (q, ns) :: lnAdd r t else if q = r.key then (q, ns ++ [r.num]) :: t else (r.key, [r.num]) :: (q, ns) :: t
def docLines (l : List Rc) : List Ln := l.foldl (fun o r => lnAdd r o) []
def rcells : List Rc → List Value
  | [] => []
  | r :: l => .string r.key :: .int .i64 r.num :: .int .i64 r.time :: rcells l
theorem rcells_at : ∀ (l : List Rc) (i : Nat) (h : i < l.length), (rcells l)[i * 3]? = some (.string l[i].key) ∧ (rcells l)[i * 3 + 1]? = some (.int .i64 l[i].num) ∧ (rcells l)[i * 3 + 2]? = some (.int .i64 l[i].time)
  | [], i, h => by simp at h
  | r :: l, 0, _ => by simp [rcells]
  | r :: l, i + 1, h => by
    have := rcells_at l i (by simpa using h)
    rw [show (i + 1) * 3 = i * 3 + 3 from by omega]
    simpa [rcells] using this
/-- Records behind a slice. -/
def RcsAt (w : World) (la : Option Addr) (L : List Rc) : Prop :=
  L = [] ∨ ∃ b o, la = some ⟨b, o, none⟩ ∧ ∀ j u, (rcells L)[j]? = some u → w.cell? ⟨b, o + j, none⟩ = some u
theorem RcsAt.keep {w w' : World} {la : Option Addr} {L : List Rc} (h : RcsAt w la L) (k : Keeps w w') : RcsAt w' la L := by
  rcases h with h | ⟨b, o, h1, h2⟩
  · exact .inl h
  · exact .inr ⟨b, o, h1, fun j u hu => k _ _ (h2 j u hu)⟩
theorem wpList_append_run {P : Program} {ops : Array Oper} {rest : List Oper} {o : Oper} {a : Act} {w : World} {Q : Exit → Act → World → Prop} (hg : o.guard = none) (s x : Operand) (t : TypeId)
    (hop : o.op = .call { callee := .builtin .append, args := #[s, x], argTypes := #[t, t] }) (v1 v2 r : Value) (w' : World) (hs : a.eval s = v1) (hx : a.eval x = v2) (hrun : (Builtin.append_ #[t, t] o.type #[v1, v2]).run P w = .ok r w') (h : wpList P ops Q rest (a.put o.dst r) w') :
    wpList P ops Q (o :: rest) a w :=
  wpList_plain hg fun _ hK => by
    unfold Oper.wp execOp
    simp only [hop, resolve, invoke, builtin, Sem.run_bind, Sem.run_pure, Result.andThen_ok, List.map_toArray, List.map_cons, List.map_nil, hs, hx, hrun]
    exact hK _ _ h
theorem Tryd.infoInt : (Tryd.prog.info? 3).map (fun i => (i.zero, i.size, i.bytes)) = some (some (.int .i64 0), 1, 8) := by kernel_rfl
def iv (l : List Int) : List Value := l.map fun z => .int .i64 z
theorem iv_snoc' (l : List Int) (z : Int) : iv (l ++ [z]) = iv l ++ [.int .i64 z] := by simp [iv]
theorem Tryd.infoLn : (Tryd.prog.info? 39).map (fun i => (i.zero, i.size, i.bytes)) = some (some (.agg #[.string ⟨#[]⟩, .slice none 0 0]), 2, 40) := by kernel_rfl
theorem rc_at {w : World} {la : Option Addr} {L : List Rc} (h : RcsAt w la L) (k : Nat) (hk : k < L.length) : ∃ b o, la = some ⟨b, o, none⟩ ∧ w.cell? ⟨b, o + k * 3, none⟩ = some (.string L[k].key) ∧ w.cell? ⟨b, o + k * 3 + 1, none⟩ = some (.int .i64 L[k].num) ∧ w.cell? ⟨b, o + k * 3 + 2, none⟩ = some (.int .i64 L[k].time) := by
  rcases h with rfl | ⟨b, o, rfl, hc⟩
  · simp at hk
  · obtain ⟨h0, h1, h2⟩ := rcells_at L k hk
    exact ⟨b, o, rfl, hc _ _ h0, by rw [Nat.add_assoc]; exact hc _ _ h1, by rw [Nat.add_assoc]; exact hc _ _ h2⟩
inductive Fa2 {α β : Type} (R : α → β → Prop) : List α → List β → Prop where
  | nil : Fa2 R [] []
  | cons {a : α} {b : β} {l : List α} {m : List β} (h : R a b) (t : Fa2 R l m) : Fa2 R (a :: l) (b :: m)
theorem fa_map {α β : Type} {R S : α → β → Prop} {a : List α} {b : List β} (h : Fa2 R a b) (hs : ∀ x y, x ∈ a → R x y → S x y) : Fa2 S a b := by
  induction h with
  | nil => exact .nil
  | cons h1 _ ih => exact .cons (hs _ _ (by simp) h1) (ih (fun x y hx => hs x y (by simp [hx])))
theorem fa_len {α β : Type} {R : α → β → Prop} {a : List α} {b : List β} (h : Fa2 R a b) : a.length = b.length := by
  induction h with
  | nil => rfl
  | cons _ _ ih => simp [ih]
theorem fa_append {α β : Type} {R : α → β → Prop} {a c : List α} {b d : List β} (h : Fa2 R a b) (h' : Fa2 R c d) : Fa2 R (a ++ c) (b ++ d) := by
  induction h with
  | nil => exact h'
  | cons h1 _ ih => exact .cons h1 ih
theorem fa_get {α β : Type} {R : α → β → Prop} : ∀ {a : List α} {b : List β}, Fa2 R a b → ∀ (i : Nat) (h : i < a.length) (h' : i < b.length), R a[i] b[i]
  | _, _, .nil, i, h, _ => by simp at h
  | _, _, .cons h1 _, 0, _, _ => h1
  | _, _, .cons _ t, i + 1, h, h' => fa_get t i (by simpa using h) (by simpa using h')
/-- How many lines ahead have lesser keys. -/
def ltC (key : ByteArray) : List Ln → Nat
  | [] => 0
  | l :: t => if klt l.1 key then ltC key t + 1 else 0
theorem ltC_le (key : ByteArray) : ∀ ls : List Ln, ltC key ls ≤ ls.length
  | [] => Nat.le_refl _
  | l :: t => by
    rw [ltC]
    split
    · have := ltC_le key t; simp; omega
    · simp
theorem ltC_lt {key : ByteArray} : ∀ {ls : List Ln} {k : Nat}, k < ltC key ls → ∃ h : k < ls.length, klt ls[k].1 key = true
  | [], k, h => by simp [ltC] at h
  | l :: t, k, h => by
    rw [ltC] at h
    split at h
    · rename_i hl
      cases k with
      | zero => exact ⟨by simp, hl⟩
      | succ k =>
        obtain ⟨h1, h2⟩ := ltC_lt (key := key) (ls := t) (k := k) (by omega)
        exact ⟨by simpa using h1, by simpa using h2⟩
    · omega
theorem ltC_at {key : ByteArray} : ∀ {ls : List Ln} (h : ltC key ls < ls.length), klt ls[ltC key ls].1 key = false
  | [], h => by simp at h
  | l :: t, h => by
    by_cases hl : klt l.1 key = true
    · have e : ltC key (l :: t) = ltC key t + 1 := by rw [ltC, if_pos hl]
      have h' : ltC key t < t.length := by rw [e] at h; simpa using h
      have := ltC_at (key := key) (ls := t) h'
      simp only [e, List.getElem_cons_succ]
      exact this
    · have e : ltC key (l :: t) = 0 := by rw [ltC, if_neg hl]
      simp only [e, List.getElem_cons_zero]
      simpa using hl
def insL (p : Nat) (key : ByteArray) (ls : List Ln) : List Ln := ls.take p ++ (key, []) :: ls.drop p
theorem lnAdd_new (r : Rc) : ∀ (ls : List Ln), (∀ h : ltC r.key ls < ls.length, ls[ltC r.key ls].1 ≠ r.key) → lnAdd r ls = (insL (ltC r.key ls) r.key ls).set (ltC r.key ls) (r.key, [r.num])
  | [], _ => by simp [lnAdd, insL, ltC]
  | l :: t, hn => by
    by_cases hl : klt l.1 r.key = true
    · have e : ltC r.key (l :: t) = ltC r.key t + 1 := by rw [ltC, if_pos hl]
      have ih := lnAdd_new r t (fun h => by
        have := hn (by rw [e]; simpa using h)
        simpa only [e, List.getElem_cons_succ] using this)
      obtain ⟨q, ns⟩ := l
      rw [lnAdd, if_pos hl, ih, e]
      simp [insL]
    · have e : ltC r.key (l :: t) = 0 := by rw [ltC, if_neg hl]
      have hne := hn (by rw [e]; simp)
      simp only [e, List.getElem_cons_zero] at hne
      obtain ⟨q, ns⟩ := l
      rw [lnAdd, if_neg hl, if_neg hne, e]
      simp [insL]
theorem lnAdd_old (r : Rc) : ∀ (ls : List Ln) (h : ltC r.key ls < ls.length), ls[ltC r.key ls].1 = r.key → lnAdd r ls = ls.set (ltC r.key ls) (r.key, ls[ltC r.key ls].2 ++ [r.num])
  | [], h, _ => by simp at h
  | l :: t, h, hk => by
    by_cases hl : klt l.1 r.key = true
    · have e : ltC r.key (l :: t) = ltC r.key t + 1 := by rw [ltC, if_pos hl]
      have h' : ltC r.key t < t.length := by rw [e] at h; simpa using h
      have hk' : t[ltC r.key t].1 = r.key := by simpa only [e, List.getElem_cons_succ] using hk
      have ih := lnAdd_old r t h' hk'
      obtain ⟨q, ns⟩ := l
      rw [lnAdd, if_pos hl, ih]
      simp only [e, List.set_cons_succ, List.getElem_cons_succ]
    · have e : ltC r.key (l :: t) = 0 := by rw [ltC, if_neg hl]
      simp only [e, List.getElem_cons_zero] at hk
      obtain ⟨q, ns⟩ := l
      simp only at hk
      rw [lnAdd, if_neg hl, if_pos hk]
      simp only [e, List.set_cons_zero, List.getElem_cons_zero]
      rw [hk]
theorem insL_at (p : Nat) (key : ByteArray) (ls : List Ln) (hp : p ≤ ls.length) : ∃ h : p < (insL p key ls).length, (insL p key ls)[p] = (key, []) := by
  have hl : (ls.take p).length = p := by rw [List.length_take]; omega
  refine ⟨by simp [insL]; omega, ?_⟩
  unfold insL
  rw [List.getElem_append_right (by omega)]
  simp [hl]
theorem docLines_snoc (l : List Rc) (r : Rc) : docLines (l ++ [r]) = lnAdd r (docLines l) := by simp [docLines]
def NeB (u v : Value) : Prop := ∀ b, u.ownBlock = some b → v.ownBlock ≠ some b
theorem NeB.symm {u v : Value} (h : NeB u v) : NeB v u := fun b h1 h2 => h b h2 h1
theorem neb_nil (v : Value) : NeB v (.slice none 0 0) := fun b _ h => by simp [Value.ownBlock] at h
theorem nil_neb (v : Value) : NeB (.slice none 0 0) v := fun b h => by simp [Value.ownBlock] at h
abbrev NsAt (w : World) (v : Value) (l : List Int) : Prop := RwAt w 3 1 v l.length (iv l)
def lcells : List (ByteArray × Value) → List Value
  | [] => []
  | t :: l => .string t.1 :: t.2 :: lcells l
theorem lcells_len : ∀ l : List (ByteArray × Value), (lcells l).length = l.length * 2
  | [] => rfl
  | r :: l => by rw [lcells, List.length_cons, List.length_cons, lcells_len l, List.length_cons]; omega
theorem lcells_append : ∀ a b : List (ByteArray × Value), lcells (a ++ b) = lcells a ++ lcells b
  | [], b => rfl
  | x :: a, b => by rw [List.cons_append, lcells, lcells, lcells_append a b]; rfl
theorem lcells_at : ∀ (l : List (ByteArray × Value)) (i : Nat) (h : i < l.length), (lcells l)[i * 2]? = some (.string l[i].1) ∧ (lcells l)[i * 2 + 1]? = some l[i].2
  | [], i, h => by simp at h
  | r :: l, 0, _ => by simp [lcells]
  | r :: l, i + 1, h => by
    have := lcells_at l i (by simpa using h)
    rw [show (i + 1) * 2 = i * 2 + 2 from by omega]
    simpa [lcells] using this
theorem lcells_set : ∀ (l : List (ByteArray × Value)) (i : Nat) (v : Value) (h : i < l.length), lcells (l.set i (l[i].1, v)) = (lcells l).set (i * 2 + 1) v
  | [], i, v, h => by simp at h
  | r :: l, 0, v, _ => by simp [lcells]
  | r :: l, i + 1, v, h => by
    simp only [List.set_cons_succ, List.getElem_cons_succ, lcells]
    rw [lcells_set l i v (by simpa using h), show (i + 1) * 2 = (i * 2 + 1) + 1 from by omega]
    simp
structure LnO (w : World) (base : Nat) (v : Value) (tv : List (ByteArray × Value)) (ls : List Ln) : Prop where
  row : RwAt w 39 2 v tv.length (lcells tv)
  tr : Fa2 (fun t l => t.1 = l.1 ∧ NsAt w t.2 l.2) tv ls
  ne : (tv.map Prod.snd).Pairwise NeB
  bs : ∀ x ∈ v :: tv.map Prod.snd, ∀ b, x.ownBlock = some b → base ≤ b
theorem fa_memD {α β : Type} {R : α → β → Prop} {a : List α} {b : List β} (h : Fa2 R a b) : ∀ x ∈ a, ∃ y ∈ b, R x y := by
  induction h with
  | nil => intro x hx; cases hx
  | cons h1 _ ih =>
    intro x hx
    rcases List.mem_cons.1 hx with rfl | hx
    · exact ⟨_, by simp, h1⟩
    · obtain ⟨y, hy, h⟩ := ih x hx
      exact ⟨y, by simp [hy], h⟩
theorem LnO.one {w : World} {base : Nat} {v : Value} {tv : List (ByteArray × Value)} {ls : List Ln} (h : LnO w base v tv ls) : ∀ u ∈ lcells tv, u.oneCell' = true := by
  have H : ∀ l : List (ByteArray × Value), (∀ t ∈ l, ∃ A n c, t.2 = .slice A n c) → ∀ u ∈ lcells l, u.oneCell' = true := by
    intro l
    induction l with
    | nil => intro _ u hu; simp [lcells] at hu
    | cons t l ih =>
      intro ht u hu
      simp only [lcells, List.mem_cons] at hu
      rcases hu with rfl | rfl | hu
      · rfl
      · obtain ⟨A, n, c, e⟩ := ht t (by simp)
        rw [e]; rfl
      · exact ih (fun x hx => ht x (by simp [hx])) u hu
  refine H tv (fun t ht => ?_)
  obtain ⟨l, -, -, h2⟩ := fa_memD h.tr t ht
  obtain ⟨A, c, e, -, -⟩ := h2.slice
  exact ⟨A, _, c, e⟩
theorem ln_nil (w : World) (base : Nat) : LnO w base (.slice none 0 0) [] [] := ⟨RwAt.nil _ _ _, .nil, by simp, fun x hx b hb => by simp at hx; subst hx; simp [Value.ownBlock] at hb⟩
theorem LnO.keep {w w' : World} {base : Nat} {v : Value} {tv : List (ByteArray × Value)} {ls : List Ln} (h : LnO w base v tv ls) (hb : Below w.heap.size w w') : LnO w' base v tv ls :=
  ⟨h.row.keep hb, fa_map h.tr (fun t l _ hp => ⟨hp.1, hp.2.keep hb⟩), h.ne, h.bs⟩
theorem ln_app {u : World} {v x : Value} {tv : List (ByteArray × Value)} {n : Nat} {news : List (ByteArray × Value)} (h : RwAt u 39 2 v tv.length (lcells tv)) (hs : Src Tryd.prog 2 22 x news.length (lcells news) u) (hl : tv.length + news.length ≤ 1000000) :
    ∃ A c w1, (Builtin.append_ #[22, 22] 22 #[v, x]).run Tryd.prog u = .ok (.slice A (tv.length + news.length) c) w1 ∧ RwAt w1 39 2 (.slice A (tv.length + news.length) c) (tv ++ news).length (lcells (tv ++ news)) ∧ u.grownBy w1 v.ownBlock ∧ (∀ b, Value.ownBlock (.slice A (tv.length + news.length) c) = some b → v.ownBlock = some b ∨ u.heap.size ≤ b) := by
  obtain ⟨i0, hi, hz0, hz1, hz2⟩ := info_parts Tryd.infoLn
  obtain ⟨A, c, w1, hrun, hown, hgr, hat⟩ := rw_append h 22 22 22 i0 _ 40 Tryd.underlying22 hi hz0 hz1 hz2 rfl x news.length (lcells news) hs (by unfold maxLen; omega) (by omega)
  refine ⟨A, c, w1, hrun, ?_, hgr, hat⟩
  rw [← lcells_append] at hown
  rw [List.length_append]
  exact hown
/-- The first p lines, and those behind. -/
theorem ln_take {w : World} {A : Option Addr} {n c : Nat} {tv : List (ByteArray × Value)} (h : RwAt w 39 2 (.slice A n c) tv.length (lcells tv)) (h1 : ∀ u ∈ lcells tv, u.oneCell' = true) {p : Nat} (hp : p ≤ tv.length) (c' : Nat) : Src Tryd.prog 2 22 (.slice A p c') (tv.take p).length (lcells (tv.take p)) w := by
  have hl : (tv.take p).length = p := by rw [List.length_take]; omega
  have hsp : lcells tv = lcells (tv.take p) ++ lcells (tv.drop p) := by rw [← lcells_append, List.take_append_drop]
  have ho : ∀ u ∈ lcells (tv.take p), u.oneCell' = true := fun u hu => h1 u (by rw [hsp]; exact List.mem_append_left _ hu)
  obtain ⟨A', c'', e, -, -⟩ := h.slice
  injection e with e1 e2 e3
  subst e1 e2 e3
  rw [hl]
  cases A with
  | none =>
    rcases h.2 with ⟨-, h0⟩ | ⟨g, o, cap, cur, hv, _⟩
    · have : p = 0 := by omega
      subst this
      exact Src.ofNil w Tryd.underlying22 c'
    · cases hv
  | some a =>
    refine Src.ofSlice w Tryd.underlying22 a p c' (lcells (tv.take p)) (by rw [lcells_len, hl]) (fun j x hx => ?_) ho
    rcases h.cells with h0 | ⟨b, o, e, hc⟩
    · rw [h0] at hsp
      have : lcells (tv.take p) = [] := (List.append_eq_nil_iff.1 hsp.symm).1
      rw [this] at hx; cases hx
    · injection e with e
      subst e
      rw [add_off]
      exact hc j x (by rw [hsp, List.getElem?_append_left (List.getElem?_eq_some_iff.1 hx).1]; exact hx)
theorem ln_drop {w : World} {g o n c : Nat} {tv : List (ByteArray × Value)} (h : RwAt w 39 2 (.slice (some ⟨g, o, none⟩) n c) tv.length (lcells tv)) (h1 : ∀ u ∈ lcells tv, u.oneCell' = true) {p : Nat} (hp : p ≤ tv.length) : Src Tryd.prog 2 22 (.slice (some (if c = p then ⟨g, o, none⟩ else ⟨g, o + p * 2, none⟩)) (n - p) (c - p)) (tv.drop p).length (lcells (tv.drop p)) w := by
  have hl : (tv.take p).length = p := by rw [List.length_take]; omega
  have hsp : lcells tv = lcells (tv.take p) ++ lcells (tv.drop p) := by rw [← lcells_append, List.take_append_drop]
  have ho : ∀ u ∈ lcells (tv.drop p), u.oneCell' = true := fun u hu => h1 u (by rw [hsp]; exact List.mem_append_right _ hu)
  obtain ⟨A', c'', e, hle, -⟩ := h.slice
  injection e with e1 e2 e3
  subst e2 e3
  have hd : (tv.drop p).length = tv.length - p := List.length_drop
  rw [hd]
  refine Src.ofSlice w Tryd.underlying22 _ _ _ (lcells (tv.drop p)) (by rw [lcells_len, hd]) (fun j x hx => ?_) ho
  have hj := (List.getElem?_eq_some_iff.1 hx).1
  rw [lcells_len, hd] at hj
  rw [if_neg (by omega), add_off]
  rcases h.cells with h0 | ⟨b, o', e, hc⟩
  · have := lcells_len tv; rw [h0] at this; simp at this; omega
  · injection e with e
    injection e with e1 e2 e3
    subst e1 e2
    have hll : (lcells (tv.take p)).length = p * 2 := by rw [lcells_len, hl]
    have := hc (p * 2 + j) x (by rw [hsp, List.getElem?_append_right (by omega), hll, Nat.add_sub_cancel_left]; exact hx)
    rw [Nat.add_assoc]; exact this
theorem fa_take {α β : Type} {R : α → β → Prop} : ∀ {a : List α} {b : List β}, Fa2 R a b → ∀ p, Fa2 R (a.take p) (b.take p)
  | _, _, .nil, p => by simp; exact .nil
  | _, _, .cons h t, 0 => .nil
  | _, _, .cons h t, p + 1 => .cons h (fa_take t p)
theorem fa_drop {α β : Type} {R : α → β → Prop} : ∀ {a : List α} {b : List β}, Fa2 R a b → ∀ p, Fa2 R (a.drop p) (b.drop p)
  | _, _, .nil, p => by simp; exact .nil
  | _, _, .cons h t, 0 => .cons h t
  | _, _, .cons h t, p + 1 => fa_drop t p
/-- A line more, without numbers. -/
theorem ln_ins {u : World} {base : Nat} {A : Option Addr} {c : Nat} {tv : List (ByteArray × Value)} {ls : List Ln} (h : LnO u base (.slice A tv.length c) tv ls) (hb : base ≤ u.heap.size) (key : ByteArray) {p : Nat} (hp : p ≤ tv.length) (hl : tv.length ≤ 500000) {x3 : Value} (hx3 : ∀ u', Below u.heap.size u u' → Src Tryd.prog 2 22 x3 (tv.drop p).length (lcells (tv.drop p)) u') :
    ∃ A1 c1 w1 A2 c2 w2 A3 c3 w3, (Builtin.append_ #[22, 22] 22 #[.slice none 0 0, .slice A p c]).run Tryd.prog u = .ok (.slice A1 p c1) w1 ∧
      (Builtin.append_ #[22, 22] 22 #[.slice A1 p c1, .slice (some ⟨w1.heap.size, 0, none⟩) 1 1]).run Tryd.prog (w1.alloc (.cells #[.string key, .slice none 0 0] 39)) = .ok (.slice A2 (p + 1) c2) w2 ∧
      (Builtin.append_ #[22, 22] 22 #[.slice A2 (p + 1) c2, x3]).run Tryd.prog w2 = .ok (.slice A3 (tv.length + 1) c3) w3 ∧
      LnO w3 base (.slice A3 (tv.length + 1) c3) (tv.take p ++ (key, .slice none 0 0) :: tv.drop p) (insL p key ls) ∧ Below u.heap.size u w1 ∧ Below u.heap.size u w2 ∧ Below u.heap.size u w3 := by
  have htl : (tv.take p).length = p := by rw [List.length_take]; omega
  have hdl : (tv.drop p).length = tv.length - p := List.length_drop
  obtain ⟨A1, c1, w1, hr1, ho1, hg1, ha1⟩ := ln_app (tv := []) (n := 0) (RwAt.nil u _ _) (ln_take h.row h.one hp c) (by simp only [List.length_nil]; omega)
  simp only [List.length_nil, Nat.zero_add, List.nil_append, htl] at hr1 ho1 ha1
  have hb1 : Below u.heap.size u w1 := ⟨hg1.os, hg1.tape, hg1.output, hg1.size, fun k hk => hg1.block k hk (fun e => by simp [Value.ownBlock] at e)⟩
  have hbA : Below w1.heap.size w1 (w1.alloc (.cells #[.string key, .slice none 0 0] 39)) := (Below.refl _ _).alloc (Nat.le_refl _) _
  have hs2 : Src Tryd.prog 2 22 (.slice (some ⟨w1.heap.size, 0, none⟩) 1 1) [(key, Value.slice none 0 0)].length (lcells [(key, .slice none 0 0)]) (w1.alloc (.cells #[.string key, .slice none 0 0] 39)) :=
    Src.ofSlice _ Tryd.underlying22 _ 1 1 (lcells [(key, .slice none 0 0)]) rfl (World.news_of_block (cs := #[.string key, .slice none 0 0]) (heap_alloc_new w1 _)) (fun x hx => by simp [lcells] at hx; rcases hx with rfl | rfl <;> rfl)
  have ho1' : RwAt w1 39 2 (.slice A1 p c1) (tv.take p).length (lcells (tv.take p)) := by rw [htl]; exact ho1
  obtain ⟨A2, c2, w2, hr2, ho2, hg2, ha2⟩ := ln_app (n := 0) (ho1'.keep hbA) hs2 (by rw [htl]; simp; omega)
  simp only [htl, List.length_singleton] at hr2 ho2 ha2
  have hw1 : u.heap.size ≤ w1.heap.size := hb1.size
  have hb2 : Below u.heap.size u w2 := (hb1.trans (hbA.mono hw1)).trans ⟨hg2.os, hg2.tape, hg2.output, hg2.size, fun k hk => hg2.block k (by simp; omega) (fun e => by
    rcases ha1 k e.symm with h' | h'
    · simp [Value.ownBlock] at h'
    · omega)⟩
  have ha2' : ∀ b, Value.ownBlock (.slice A2 (p + 1) c2) = some b → u.heap.size ≤ b := fun b hb' => by
    rcases ha2 b hb' with e | e
    · rcases ha1 b e with h' | h'
      · simp [Value.ownBlock] at h'
      · exact h'
    · simp at e; omega
  have hl2 : (tv.take p ++ [(key, Value.slice none 0 0)]).length = p + 1 := by rw [List.length_append, htl]; rfl
  have ho2' : RwAt w2 39 2 (.slice A2 (p + 1) c2) (tv.take p ++ [(key, Value.slice none 0 0)]).length (lcells (tv.take p ++ [(key, .slice none 0 0)])) := by rw [hl2] at ho2 ⊢; exact ho2
  obtain ⟨A3, c3, w3, hr3, ho3, hg3, ha3⟩ := ln_app (n := 0) ho2' (hx3 w2 hb2) (by rw [hl2, hdl]; omega)
  have hl3 : p + 1 + (tv.length - p) = tv.length + 1 := by omega
  rw [hl2, hdl, hl3] at hr3 ho3 ha3
  have hb3 : Below u.heap.size u w3 := hb2.trans ⟨hg3.os, hg3.tape, hg3.output, hg3.size, fun k hk => hg3.block k (by have := hb2.size; omega) (fun e => by have := ha2' k e.symm; omega)⟩
  have hls : tv.take p ++ [(key, Value.slice none 0 0)] ++ tv.drop p = tv.take p ++ (key, .slice none 0 0) :: tv.drop p := by simp
  rw [hls] at ho3
  have hl4 : (tv.take p ++ (key, Value.slice none 0 0) :: tv.drop p).length = tv.length + 1 := by rw [List.length_append, htl, List.length_cons, hdl]; omega
  have hnum : ∀ t ∈ tv, ∀ l, NsAt u t.2 l → NsAt w3 t.2 l := fun t ht l hp => hp.keep hb3
  refine ⟨A1, c1, w1, A2, c2, w2, A3, c3, w3, hr1, hr2, hr3, ⟨ho3, ?_, ?_, ?_⟩, hb1, hb2, hb3⟩
  · refine fa_append (fa_take (fa_map h.tr (fun t l ht hp => ⟨hp.1, hnum t ht _ hp.2⟩)) p) (.cons ⟨rfl, RwAt.nil _ _ _⟩ (fa_drop (fa_map h.tr (fun t l ht hp => ⟨hp.1, hnum t ht _ hp.2⟩)) p))
  · have hpw := h.ne
    have hsp : tv.map Prod.snd = (tv.take p).map Prod.snd ++ (tv.drop p).map Prod.snd := by rw [← List.map_append, List.take_append_drop]
    rw [hsp] at hpw
    obtain ⟨p1, p2, p3⟩ := List.pairwise_append.1 hpw
    rw [List.map_append, List.map_cons]
    refine List.pairwise_append.2 ⟨p1, List.pairwise_cons.2 ⟨fun v _ => nil_neb v, p2⟩, fun a ha b hb' => ?_⟩
    rcases List.mem_cons.1 hb' with rfl | hb'
    · exact neb_nil a
    · exact p3 a ha b hb'
  · intro x hx b hb'
    rcases List.mem_cons.1 hx with rfl | hx
    · rcases ha3 b hb' with e | e
      · have := ha2' b e; omega
      · have := hb2.size; omega
    · rw [List.map_append, List.map_cons] at hx
      rcases List.mem_append.1 hx with hx | hx
      · obtain ⟨t, ht, rfl⟩ := List.mem_map.1 hx
        exact h.bs t.2 (List.mem_cons_of_mem _ (List.mem_map_of_mem (List.mem_of_mem_take ht))) b hb'
      · rcases List.mem_cons.1 hx with rfl | hx
        · simp [Value.ownBlock] at hb'
        · obtain ⟨t, ht, rfl⟩ := List.mem_map.1 hx
          exact h.bs t.2 (List.mem_cons_of_mem _ (List.mem_map_of_mem (List.mem_of_mem_drop ht))) b hb'
theorem pw_setD {α : Type} {R : α → α → Prop} (hs : ∀ a b, R a b → R b a) : ∀ {l : List α} (p : Nat) (x : α) (h : p < l.length), l.Pairwise R → (∀ (i : Nat) (hi : i < l.length), i ≠ p → R x l[i]) → (l.set p x).Pairwise R := by
  intro l p x h hp hx
  refine List.pairwise_iff_getElem.2 fun i j hi hj hij => ?_
  rw [List.length_set] at hi hj
  rw [List.getElem_set, List.getElem_set]
  by_cases e1 : p = i
  · rw [if_pos e1, if_neg (by omega)]; exact hx j hj (by omega)
  · rw [if_neg e1]
    by_cases e2 : p = j
    · rw [if_pos e2]; exact hs _ _ (hx i hi (by omega))
    · rw [if_neg e2]; exact List.pairwise_iff_getElem.1 hp i j hi hj hij
/-- Where a line lies. -/
theorem LnO.at {w : World} {base n : Nat} {A : Option Addr} {c : Nat} {tv : List (ByteArray × Value)} {ls : List Ln} (h : LnO w base (.slice A n c) tv ls) {p : Nat} (hp : p < ls.length) : ∃ g o An cn cur, A = some ⟨g, o, none⟩ ∧ w.heap[g]? = some (.cells cur 39 (0, 0)) ∧ w.cell? ⟨g, o + p * 2, none⟩ = some (.string ls[p].1) ∧ w.cell? ⟨g, o + p * 2 + 1, none⟩ = some (.slice An ls[p].2.length cn) ∧ ∃ hp' : p < tv.length, tv[p] = (ls[p].1, .slice An ls[p].2.length cn) ∧ NsAt w (.slice An ls[p].2.length cn) ls[p].2 := by
  have htl := fa_len h.tr
  have hp' : p < tv.length := by omega
  obtain ⟨e1, e2⟩ := fa_get h.tr p hp' hp
  obtain ⟨An, cn, e3, -, -⟩ := e2.slice
  obtain ⟨a0, a1⟩ := lcells_at tv p hp'
  have hrow := h.row
  rcases hrow.2 with ⟨-, h0⟩ | ⟨g, o, cap, cur, hv, h2, _⟩
  · omega
  injection hv with f1 f2 f3
  subst f1
  obtain ⟨A', c', e', -, -⟩ := hrow.slice
  injection e' with g1 g2 g3
  subst g2 g3
  rcases hrow.cells with h0 | ⟨b, o', hA, hc⟩
  · have := lcells_len tv; rw [h0] at this; simp at this; omega
  · injection hA with hA
    injection hA with k1 k2 k3
    subst k1 k2
    refine ⟨g, o, An, cn, cur, rfl, h2, by rw [← e1]; exact hc _ _ a0, by rw [← e3, Nat.add_assoc]; exact hc _ _ a1, hp', ?_, by rw [← e3]; exact e2⟩
    rw [← e1, ← e3]
theorem ln_num {u : World} {base : Nat} {g o c : Nat} {tv : List (ByteArray × Value)} {ls : List Ln} (h : LnO u base (.slice (some ⟨g, o, none⟩) tv.length c) tv ls) (hb : base ≤ u.heap.size) {p : Nat} (hp : p < ls.length) (hl : ls[p].2.length ≤ 1000000) (num : Int) {An : Option Addr} {cn : Nat} (he : u.cell? ⟨g, o + p * 2 + 1, none⟩ = some (.slice An ls[p].2.length cn)) :
    ∃ A1 c1 w1, (Builtin.append_ #[37, 37] 37 #[.slice An ls[p].2.length cn, .slice (some ⟨u.heap.size, 0, none⟩) 1 1]).run Tryd.prog ((u.alloc (.cells #[.int .i64 num] 3)).drew) = .ok (.slice A1 (ls[p].2.length + 1) c1) w1 ∧
      w1.heap[g]? = u.heap[g]? ∧ (∃ tv', tv'.length = tv.length ∧ LnO (w1.setCell ⟨g, o + p * 2 + 1, none⟩ (.slice A1 (ls[p].2.length + 1) c1)) base (.slice (some ⟨g, o, none⟩) tv.length c) tv' (ls.set p (ls[p].1, ls[p].2 ++ [num]))) ∧ Below base u (w1.setCell ⟨g, o + p * 2 + 1, none⟩ (.slice A1 (ls[p].2.length + 1) c1)) := by
  obtain ⟨g', o', An', cn', cur, hA, hblk, k0, k1, hp', htp, hns⟩ := h.at hp
  injection hA with hA
  injection hA with e1 e2 e3
  subst e1 e2
  rw [he] at k1
  injection k1 with k1
  injection k1 with f1 f2 f3
  subst f1 f3
  have hbA : Below u.heap.size u ((u.alloc (.cells #[.int .i64 num] 3)).drew) := ((Below.refl _ _).alloc (Nat.le_refl _) _).drew
  obtain ⟨i0, hi, hz0, hz1, hz2⟩ := info_parts Tryd.infoInt
  have hsrc : Src Tryd.prog 1 37 (.slice (some ⟨u.heap.size, 0, none⟩) 1 1) 1 [.int .i64 num] ((u.alloc (.cells #[.int .i64 num] 3)).drew) :=
    Src.ofSlice _ Tryd.underlying37 _ 1 1 [.int .i64 num] rfl (World.news_of_block (B := u.heap.size) (cs := #[.int .i64 num]) (t := 3) (fr := (0, 0)) (heap_alloc_new u _)) (fun x hx => by simp at hx; subst hx; rfl)
  obtain ⟨A1, c1, w1, hrun, hown, hgr, hat⟩ := rw_append (hns.keep hbA) 37 37 37 i0 _ 8 Tryd.underlying37 hi hz0 hz1 hz2 rfl _ 1 _ hsrc (by unfold maxLen; omega) (by omega)
  have hltg : g < u.heap.size := (Array.getElem?_eq_some_iff.1 hblk).1
  have hgne : some g ≠ Value.ownBlock (.slice An ls[p].2.length cn) := fun e => by
    obtain ⟨-, cur', hc'⟩ := hns.lt e.symm
    rw [hblk] at hc'; simp at hc'
  have hg1 : w1.heap[g]? = u.heap[g]? := (hgr.block g (by have := hbA.size; omega) hgne).trans (hbA.block g hltg)
  have hg2 := hg1.trans hblk
  have htl := fa_len h.tr
  have hnw : NsAt w1 (.slice A1 (ls[p].2.length + 1) c1) (ls[p].2 ++ [num]) := by
    have e4 : (ls[p].2 ++ [num]).length = ls[p].2.length + 1 := by simp
    show RwAt w1 3 1 (.slice A1 (ls[p].2.length + 1) c1) (ls[p].2 ++ [num]).length (iv (ls[p].2 ++ [num]))
    rw [e4, iv_snoc']; exact hown
  have hkeep : ∀ b, b ≠ g → b < u.heap.size → Value.ownBlock (.slice An ls[p].2.length cn) ≠ some b → (w1.setCell ⟨g, o + p * 2 + 1, none⟩ (.slice A1 (ls[p].2.length + 1) c1)).heap[b]? = u.heap[b]? := fun b h1 h2 h3 => by
    rw [Below.heap_setCell _ _ _ _ h1]
    exact (hgr.block b (by have := hbA.size; omega) (fun e => h3 e.symm)).trans (hbA.block b h2)
  have hnumne : ∀ (i : Nat) (hi : i < tv.length), i ≠ p → NeB (.slice An ls[p].2.length cn) tv[i].2 := fun i hi hne => by
    have hpw := List.pairwise_iff_getElem.1 h.ne
    rcases Nat.lt_or_gt_of_ne hne with hlt | hlt
    · have := hpw i p (by simpa using hi) (by simpa using hp') hlt
      simp only [List.getElem_map, htp] at this
      exact this.symm
    · have := hpw p i (by simpa using hp') (by simpa using hi) hlt
      simp only [List.getElem_map, htp] at this
      exact this
  have hbs := h.bs
  have hob : ∀ b, Value.ownBlock (.slice An ls[p].2.length cn) = some b → base ≤ b := fun b hb' => hbs (tv[p].2) (List.mem_cons_of_mem _ (List.mem_map_of_mem (List.getElem_mem hp'))) b (by rw [htp]; exact hb')
  have hBg : base ≤ g := hbs _ List.mem_cons_self g rfl
  refine ⟨A1, c1, w1, hrun, hg1, ⟨tv.set p (tv[p].1, .slice A1 (ls[p].2.length + 1) c1), List.length_set, ?_, ?_, ?_, ?_⟩, ?_⟩
  · have hrow := h.row
    rcases hrow.2 with ⟨hv, _⟩ | ⟨g', o', cap, cur2, hv, h2, h3, h4, h5, h6⟩
    · cases hv
    injection hv with f1 f2 f3
    injection f1 with f1
    injection f1 with f1 f4 f5
    subst f1 f3 f4
    rw [hblk] at h2
    injection h2 with h2
    injection h2 with h2
    subst h2
    refine ⟨by rw [lcells_len], .inr ⟨g, o, c, cur.setIfInBounds (o + p * 2 + 1) (.slice A1 (ls[p].2.length + 1) c1), by rw [List.length_set], heap_setCell_same w1 g _ _ _ _ hg2, by rw [List.length_set]; exact h3, h4, by simpa using h5, ?_⟩⟩
    rw [List.length_set, lcells_set tv p _ hp', ← h6]
    simp only [Array.toList_setIfInBounds, List.drop_set]
    rw [if_neg (by omega), show o + p * 2 + 1 - o = p * 2 + 1 by omega, List.take_set]
  · have hfar : ∀ (i : Nat) (hi : i < tv.length) (hi2 : i < ls.length), i ≠ p → NsAt (w1.setCell ⟨g, o + p * 2 + 1, none⟩ (.slice A1 (ls[p].2.length + 1) c1)) tv[i].2 ls[i].2 := fun i hi hi2 hne => by
      have hn := (fa_get h.tr i hi hi2).2
      refine hn.block (fun b hb' => hkeep b (fun e => ?_) (hn.lt hb').1 (fun e => hnumne i hi hne b e hb'))
      obtain ⟨-, cur', hc'⟩ := hn.lt hb'
      rw [e, hblk] at hc'; simp at hc'
    have hnew : NsAt (w1.setCell ⟨g, o + p * 2 + 1, none⟩ (.slice A1 (ls[p].2.length + 1) c1)) (.slice A1 (ls[p].2.length + 1) c1) (ls[p].2 ++ [num]) := hnw.block (fun b hb' => Below.heap_setCell _ _ _ _ (fun e => by
      obtain ⟨-, cur', hc'⟩ := hnw.lt hb'
      rw [e, hg2] at hc'; simp at hc'))
    have hmk : ∀ {a : List (ByteArray × Value)} {b : List Ln}, a.length = b.length → (∀ (i : Nat) (h1 : i < a.length) (h2 : i < b.length), a[i].1 = b[i].1 ∧ NsAt (w1.setCell ⟨g, o + p * 2 + 1, none⟩ (.slice A1 (ls[p].2.length + 1) c1)) a[i].2 b[i].2) → Fa2 (fun t l => t.1 = l.1 ∧ NsAt (w1.setCell ⟨g, o + p * 2 + 1, none⟩ (.slice A1 (ls[p].2.length + 1) c1)) t.2 l.2) a b := by
      intro a
      induction a with
      | nil => intro b hl _; cases b with
        | nil => exact .nil
        | cons _ _ => simp at hl
      | cons x a ih => intro b hl hx; cases b with
        | nil => simp at hl
        | cons y b => exact .cons (hx 0 (by simp) (by simp)) (ih (by simpa using hl) (fun i h1 h2 => hx (i + 1) (by simpa using h1) (by simpa using h2)))
    refine hmk (by rw [List.length_set, List.length_set]; exact htl) (fun i h1 h2 => ?_)
    rw [List.length_set] at h1 h2
    rw [List.getElem_set, List.getElem_set]
    by_cases e : p = i
    · subst e
      rw [if_pos rfl, if_pos rfl]
      exact ⟨by rw [htp], hnew⟩
    · rw [if_neg e, if_neg e]
      exact ⟨(fa_get h.tr i h1 h2).1, hfar i h1 h2 (fun e' => e e'.symm)⟩
  · rw [List.map_set]
    refine pw_setD (fun a b h => h.symm) p _ (by simpa using hp') h.ne (fun i hi hne => ?_)
    rw [List.length_map] at hi
    rw [List.getElem_map]
    intro b hb' hb2
    rcases hat b hb' with e | e
    · exact hnumne i hi hne b e hb2
    · have hn := (fa_get h.tr i hi (by omega)).2
      have := (hn.lt hb2).1
      have := hbA.size
      omega
  · intro x hx b hb'
    rcases List.mem_cons.1 hx with rfl | hx
    · exact hbs _ List.mem_cons_self b hb'
    · rw [List.map_set] at hx
      rcases List.mem_or_eq_of_mem_set hx with hx | rfl
      · exact hbs x (List.mem_cons_of_mem _ hx) b hb'
      · rcases hat b hb' with e | e
        · exact hob b e
        · have := hbA.size; omega
  · have hb1 : Below base u w1 := ⟨hgr.os.trans hbA.os, hgr.tape.trans hbA.tape, hgr.output.trans hbA.output, Nat.le_trans hbA.size hgr.size, fun k hk => (hgr.block k (by have := hbA.size; omega) (fun e => by have := hob k e.symm; omega)).trans (hbA.block k (by omega))⟩
    exact hb1.setCell (p := ⟨g, o + p * 2 + 1, none⟩) hBg _
theorem step_append_runD {P : Program} {ops : Array Oper} {o : Oper} {a : Act} {w : World} {K : Act → World → Prop} {Q : Exit → Act → World → Prop} {E : Prop} (hg : o.guard = none) (s x : Operand) (t : TypeId)
    (hop : o.op = .call { callee := .builtin .append, args := #[s, x], argTypes := #[t, t] }) (T : TypeId) (hT : o.type = T) (v1 v2 r : Value) (w0 w' : World) (hw0 : w = w0) (hs : a.eval s = v1) (hx : a.eval x = v2) (hrun : (Builtin.append_ #[t, t] T #[v1, v2]).run P w0 = .ok r w') (h : K (a.put o.dst r) w') :
    if Region.wanted o (yielded ops a.tmps) = true then Oper.wp P o a w K Q else E := by
  subst hT hw0
  have hw : Region.wanted o (yielded ops a.tmps) = true := by simp [Region.wanted, hg]
  rw [if_pos hw]
  unfold Oper.wp execOp
  simp only [hop, resolve, invoke, builtin, Sem.run_bind, Sem.run_pure, Result.andThen_ok, List.map_toArray, List.map_cons, List.map_nil, hs, hx, hrun]
  exact h
theorem less_klt (a b : ByteArray) : Op.bytesLess a.toList b.toList = klt a b := by
  rw [bytesLess_eq, Lib.toList_data, Lib.toList_data]
  unfold klt kle
  by_cases h : a.data.toList < b.data.toList
  · have : ¬ b.data.toList ≤ a.data.toList := fun h' => absurd h (List.not_lt.2 h')
    simp [h, this]
  · have : b.data.toList ≤ a.data.toList := List.not_lt.1 h
    simp [h, this]
theorem str_neL {a b : ByteArray} (h : a ≠ b) : (a.toList == b.toList) = false := by
  rw [beq_eq_false_iff_ne]
  intro e
  rw [ByteArray.toList_eq, ByteArray.toList_eq] at e
  exact h (Go.WideShapes.bytes_inj e)
theorem str_eqL (a : ByteArray) : (a.toList == a.toList) = true := by simp
end Go.Proofs.YthcgjbpiiodlgaaDoor.Dn
