/- Panes compared, sorted. -/
import Derived.Test.YtfpfaekbakilpaaDoorWf
import Derived.Test.YtfpfaekbakilpaaDoorShelf
import Derived.Sort.Grow
namespace Go.Proofs.YtfpfaekbakilpaaDoor
open Go.RowKit Go.Shelf
open Go.Sort (grow alloc_eq_grow grow_grow putRowK HoldsK size_flatK get_flatK flatK)
open Go.Lib (compareBytes)
set_option linter.unusedVariables false

def cmpI (a b : Int) : Int := if a < b then -1 else if b < a then 1 else 0
set_option maxHeartbeats 1000000 in
theorem nan_any (a : Int) (w : World) : Calls Tryd.prog 48 #[.int .i64 a] w fun e w' => e = .returned (.bool false) ∧ w = w' := by
  go_enter Tryd.func48, Tryd.ntmps48
  go_wp2_with fail
  go_ret
  exact ⟨ret_bool (by simp), rfl⟩
set_option maxRecDepth 100000 in
set_option maxHeartbeats 1000000 in
theorem cmpInt_any (a b : Int) (w : World) : Calls Tryd.prog 37 #[.int .i64 a, .int .i64 b] w fun e w' => e = .returned (.int .i64 (cmpI a b)) ∧ w = w' := by
  have HA := fun w' => nan_any a w'
  have HB := fun w' => nan_any b w'
  by_cases h1 : a < b
  · have e : cmpI a b = -1 := by unfold cmpI; rw [if_pos h1]
    rw [e]
    clear e
    go_enter Tryd.func37, Tryd.ntmps37
    go_wp2_with (first | (go_at_call 48; refine (HA _).mono ?_; rintro e w' ⟨rfl, rfl⟩; refine Hid.out ?_) | (refine Lib.hid ?_; go_at_call 48; refine (HB _).mono ?_; rintro e w' ⟨rfl, rfl⟩))
    refine Lib.hid ?_
    go_wp2_with (go_at_call 48; refine (HB _).mono ?_; rintro e w' ⟨rfl, rfl⟩)
    go_ret
    exact ⟨rfl, rfl⟩
  · by_cases h2 : b < a
    · have e : cmpI a b = 1 := by unfold cmpI; rw [if_neg h1, if_pos h2]
      rw [e]
      clear e
      go_enter Tryd.func37, Tryd.ntmps37
      go_wp2_with (go_at_call 48; refine (HA _).mono ?_; rintro e w' ⟨rfl, rfl⟩; refine Hid.out ?_)
      refine Lib.hid ?_
      go_wp2_with (go_at_call 48; refine (HB _).mono ?_; rintro e w' ⟨rfl, rfl⟩)
      go_ret
      exact ⟨rfl, rfl⟩
    · have e : cmpI a b = 0 := by unfold cmpI; rw [if_neg h1, if_neg h2]
      rw [e]
      clear e
      go_enter Tryd.func37, Tryd.ntmps37
      go_wp2_with (go_at_call 48; refine (HA _).mono ?_; rintro e w' ⟨rfl, rfl⟩; refine Hid.out ?_)
      refine Lib.hid ?_
      go_wp2_with (go_at_call 48; refine (HB _).mono ?_; rintro e w' ⟨rfl, rfl⟩)
      go_ret
      exact ⟨rfl, rfl⟩
def orI (x y : Int) : Int := if x = 0 then y else x
set_option maxRecDepth 100000 in
set_option maxHeartbeats 1000000 in
theorem or_any (w : World) (q : Nat) (x y : Int) (c0 : w.cell? ⟨q, 0, none⟩ = some (.int .i64 x)) (c1 : w.cell? ⟨q, 1, none⟩ = some (.int .i64 y)) :
    Calls Tryd.prog 35 #[.slice (some ⟨q, 0, none⟩) 2 2] w fun e w' => e = .returned (.int .i64 (orI x y)) ∧ w = w' := by
  obtain ⟨z, hz⟩ : ∃ z, z = orI x y := ⟨_, rfl⟩
  rw [← hz]
  have HZ := Lib.hid (show (x ≠ 0 → z = x) ∧ (x = 0 → z = y) from ⟨fun h => by rw [hz]; unfold orI; rw [if_neg h], fun h => by rw [hz]; unfold orI; rw [if_pos h]⟩)
  clear hz
  go_enter Tryd.func35, Tryd.ntmps35
  go_wp2_with fail
  go_loop [8] (fun i => i = .int .i64 0 ∨ (i = .int .i64 1 ∧ x = 0) ∨ (i = .int .i64 2 ∧ x = 0 ∧ y = 0)) (fun i => 2 - (intOf i).toNat)
  case atStart => exact .inl rfl
  case round =>
    rcases hrel with rfl | ⟨rfl, hx⟩ | ⟨rfl, hx, hy⟩
    · by_cases hx : x = 0
      · subst hx
        go_wp2_with fail
        go_round
        case rel => exact .inr (.inl ⟨rfl, trivial⟩)
        case measure => simp [intOf]
      · have hzx := HZ.out.1 hx
        subst hzx
        go_wp2_with fail
        go_ret
        exact ⟨rfl, rfl⟩
    · have hzy := HZ.out.2 hx
      subst hx
      by_cases hy : y = 0
      · subst hy
        go_wp2_with fail
        go_round
        case rel => exact .inr (.inr ⟨rfl, trivial, trivial⟩)
        case measure => simp [intOf]
      · subst hzy
        go_wp2_with fail
        go_ret
        exact ⟨rfl, rfl⟩
    · have hzy := HZ.out.2 hx
      subst hx hy
      have HZY := Lib.hid hzy
      clear HZ hzy
      go_wp2_with fail
      go_ret
      exact ⟨by show Ending.returned (Value.int .i64 0) = _; rw [HZY.out], rfl⟩

theorem cell_new2 (u : World) (q : Nat) (hq : q = u.heap.size) (a b : Value) (t : TypeId) : (u.alloc (.cells #[a, b] t)).cell? ⟨q, 0, none⟩ = some a ∧ (u.alloc (.cells #[a, b] t)).cell? ⟨q, 1, none⟩ = some b := by
  subst hq; exact ⟨by simp, by simp⟩
theorem cmp_ltb : ∀ (a b : List UInt8), compareBytes a b < 0 ↔ a < b
  | [], [] => by simp [compareBytes]
  | [], y :: b => by simp [compareBytes]
  | x :: a, [] => by simp [compareBytes]
  | x :: a, y :: b => by
    unfold compareBytes
    rw [List.cons_lt_cons_iff]
    by_cases h1 : x < y
    · simp [h1]
    · by_cases h2 : y < x
      · have hne : x ≠ y := fun e => by subst e; exact h1 h2
        simp [h1, h2, hne]
      · have he : x = y := by
          have a1 : ¬ x.toNat < y.toNat := h1
          have a2 : ¬ y.toNat < x.toNat := h2
          exact UInt8.toNat_inj.1 (by omega)
        simp [he, cmp_ltb a b]
def cmpK (k : ByteArray) (n : Int) (k' : ByteArray) (n' : Int) : Int := orI (compareBytes k.data.toList k'.data.toList) (cmpI n n')
theorem compareBytes_zero : ∀ (a b : List UInt8), compareBytes a b = 0 → a = b
  | [], [], _ => rfl
  | [], y :: b, h => by simp [compareBytes] at h
  | x :: a, [], h => by simp [compareBytes] at h
  | x :: a, y :: b, h => by
    unfold compareBytes at h
    by_cases h1 : x < y
    · simp [h1] at h
    · by_cases h2 : y < x
      · simp [h1, h2] at h
      · have he : x = y := by
          have a1 : ¬ x.toNat < y.toNat := h1
          have a2 : ¬ y.toNat < x.toNat := h2
          exact UInt8.toNat_inj.1 (by omega)
        simp [h1, h2] at h
        rw [he, compareBytes_zero a b h]
theorem compareBytes_self : ∀ (a : List UInt8), compareBytes a a = 0
  | [] => by simp [compareBytes]
  | x :: a => by
    have h1 : ¬ x < x := fun h => by have : x.toNat < x.toNat := h; omega
    unfold compareBytes
    simp [h1, compareBytes_self a]
theorem cmpK_lt (k : ByteArray) (n : Int) (k' : ByteArray) (n' : Int) : cmpK k n k' n' < 0 ↔ AhK k n k' n' := by
  unfold cmpK orI AhK kb
  by_cases h : compareBytes k.data.toList k'.data.toList = 0
  · have e : k = k' := kb_inj (compareBytes_zero _ _ h)
    subst e
    rw [if_pos h]
    unfold cmpI
    constructor
    · intro h1
      refine .inr ⟨rfl, ?_⟩
      split at h1
      · assumption
      · split at h1 <;> omega
    · rintro (h1 | ⟨-, h1⟩)
      · exact absurd h1 (List.lt_irrefl _)
      · rw [if_pos h1]; decide
  · rw [if_neg h, cmp_ltb]
    constructor
    · exact .inl
    · rintro (h1 | ⟨rfl, -⟩)
      · exact h1
      · exact absurd (compareBytes_self _) h
set_option maxRecDepth 100000 in
set_option maxHeartbeats 1000000 in
theorem cmpP_full (a b : Pn) (w : World) : Calls Tryd.prog 34 #[pV a, pV b] w fun e w' => e = .returned (.int .i64 (cmpK a.key a.fr b.key b.fr)) ∧ Below w.heap.size w w' ∧ ∃ q os', w' = Sort.grow (w.drewN q) os' := by
  obtain ⟨a0, a1, a2, a3, a4, a5⟩ := a
  obtain ⟨b0, b1, b2, b3, b4, b5⟩ := b
  simp only [pV, cmpK]
  have HC := fun w' => cmpInt_any a1 b1 w'
  have HS := fun w' => Tryd.strings_Compare a0 b0 w'
  generalize cmpI a1 b1 = y at *
  generalize Lib.compareBytes a0.data.toList b0.data.toList = x at *
  have hcc := cell_new2 ((w.alloc (.cells #[.string a0, .int .i64 a1, .int .i64 a2, .int .i64 a3, .int .i64 a4, .int .i64 a5] 49)).alloc (.cells #[.string b0, .int .i64 b1, .int .i64 b2, .int .i64 b3, .int .i64 b4, .int .i64 b5] 49)) (w.heap.size + 1 + 1) (by simp) (.int .i64 x) (.int .i64 y) 3
  have HO2 := or_any (((w.alloc (.cells #[.string a0, .int .i64 a1, .int .i64 a2, .int .i64 a3, .int .i64 a4, .int .i64 a5] 49)).alloc (.cells #[.string b0, .int .i64 b1, .int .i64 b2, .int .i64 b3, .int .i64 b4, .int .i64 b5] 49)).alloc (.cells #[.int .i64 x, .int .i64 y] 3)).drew (w.heap.size + 1 + 1) x y hcc.1 hcc.2
  clear hcc
  generalize orI x y = z at *
  go_enter Tryd.func34, Tryd.ntmps34
  go_wp2_with fail
  have s0 : ((w.alloc (.cells #[.string a0, .int .i64 a1, .int .i64 a2, .int .i64 a3, .int .i64 a4, .int .i64 a5] 49)).alloc (.cells #[.string b0, .int .i64 b1, .int .i64 b2, .int .i64 b3, .int .i64 b4, .int .i64 b5] 49)).cell? ⟨w.heap.size, 0, none⟩ = some (.string a0) := by simp
  have s1 : ((w.alloc (.cells #[.string a0, .int .i64 a1, .int .i64 a2, .int .i64 a3, .int .i64 a4, .int .i64 a5] 49)).alloc (.cells #[.string b0, .int .i64 b1, .int .i64 b2, .int .i64 b3, .int .i64 b4, .int .i64 b5] 49)).cell? ⟨w.heap.size, 1, none⟩ = some (.int .i64 a1) := by simp
  have s2 : ((w.alloc (.cells #[.string a0, .int .i64 a1, .int .i64 a2, .int .i64 a3, .int .i64 a4, .int .i64 a5] 49)).alloc (.cells #[.string b0, .int .i64 b1, .int .i64 b2, .int .i64 b3, .int .i64 b4, .int .i64 b5] 49)).cell? ⟨w.heap.size + 1, 0, none⟩ = some (.string b0) := by simp
  have s3 : ((w.alloc (.cells #[.string a0, .int .i64 a1, .int .i64 a2, .int .i64 a3, .int .i64 a4, .int .i64 a5] 49)).alloc (.cells #[.string b0, .int .i64 b1, .int .i64 b2, .int .i64 b3, .int .i64 b4, .int .i64 b5] 49)).cell? ⟨w.heap.size + 1, 1, none⟩ = some (.int .i64 b1) := by simp
  go_region_held3 (fun w' => w'.cell? ⟨w.heap.size, 0, none⟩ = some (.string a0) ∧ w'.cell? ⟨w.heap.size, 1, none⟩ = some (.int .i64 a1) ∧ w'.cell? ⟨w.heap.size + 1, 0, none⟩ = some (.string b0) ∧ w'.cell? ⟨w.heap.size + 1, 1, none⟩ = some (.int .i64 b1)) (first | go_keep | (refine ⟨?_, ?_, ?_, ?_⟩ <;> (simp [go_sem, s0, s1, s2, s3]; done))) (first | (go_at_call 37; refine (HC _).mono ?_; rintro e w' ⟨rfl, rfl⟩) | (go_at_call 36; refine (HS _).mono ?_; rintro e w' ⟨rfl, rfl⟩) | (go_at_call 35; refine HO2.mono ?_; rintro e w' ⟨rfl, rfl⟩))
  go_wp2_with fail
  go_ret
  refine ⟨rfl, ?_, 1, ?_⟩
  · exact (((((Below.refl _ _).alloc (Nat.le_refl _) _).alloc (by simp) _).alloc (by simp; omega) _).drew)
  · refine ⟨#[.cells #[.string a0, .int .i64 a1, .int .i64 a2, .int .i64 a3, .int .i64 a4, .int .i64 a5] 49] ++ #[.cells #[.string b0, .int .i64 b1, .int .i64 b2, .int .i64 b3, .int .i64 b4, .int .i64 b5] 49] ++ #[.cells #[.int .i64 x, .int .i64 y] 3], ?_⟩
    rw [Sort.alloc_eq_grow, Sort.alloc_eq_grow, Sort.alloc_eq_grow, Sort.grow_grow, Sort.grow_grow]
    rfl
def cmpH (a b : Pn) : Int := cmpK a.key a.fr b.key b.fr
theorem cmpH_lt (a b : Pn) : cmpH a b < 0 ↔ Ah a b := cmpK_lt _ _ _ _
instance : Inhabited Pn := ⟨pn0⟩
def encN (x : Pn) : List Value := [.string x.key, .int .i64 x.fr, .int .i64 x.to, .int .i64 x.mn, .int .i64 x.sm, .int .i64 x.lt]
theorem ltN (x y : Pn) : ltOf cmpH x y = decide (Ah x y) := by
  unfold ltOf
  exact decide_eq_decide.2 (cmpH_lt x y)
theorem swoN : Sort.SWO (ltOf cmpH) where
  irrefl x := by rw [ltN]; exact decide_eq_false (Ah.irr x)
  trans x y z h1 h2 := by
    rw [ltN, decide_eq_true_eq] at *
    exact h1.trans h2
  ntrans x y z h1 h2 := by
    rw [ltN, decide_eq_false_iff_not] at *
    intro h
    rcases Ah.tri x y with k | k | k
    · exact h1 k
    · exact h2 (h.left k)
    · exact h2 (k.trans h)
theorem below_sort {α : Type} [Inhabited α] (enc : α → List Value) (k : Nat) (w : World) (blk off m : Nat) (dk : Array α) (os : Array Obj) {B : Nat} (hB : B ≤ blk) (hw : B ≤ w.heap.size) : Below B w (sortWorldK enc k w blk off m dk os) := by
  refine ⟨rfl, rfl, rfl, ?_, fun b hb => ?_⟩
  · exact size_sortWorldK_c enc k w blk off m dk os
  · unfold sortWorldK
    rw [Sort.heap_grow_old _ _ (by show b < (putRowK enc k (Sort.ahead w m) blk off dk).heap.size; unfold putRowK; rw [Sort.size_putRow]; show b < w.heap.size; omega)]
    unfold putRowK Sort.putRow
    show (Sort.mapBlock (Sort.ahead w m) blk _).heap[b]? = w.heap[b]?
    simp only [Sort.mapBlock, Sort.ahead]
    rw [Array.getElem?_modify]
    rw [if_neg (by omega)]
theorem holds_hds {w : World} {B g cap : Nat} {xs : List Pn} (h : w.ownsRow B 49 6 (.slice (some ⟨g, 0, none⟩) xs.length cap) xs.length (pcells xs)) : HoldsK encN 6 w g 0 xs.toArray := by
  intro t ht
  simp only [size_flatK, List.size_toArray] at ht
  rw [get_flatK _ _ _ _ (by simpa using ht)]
  have h3 : t / 6 < xs.length := by omega
  refine ⟨?_, by rw [Nat.zero_add]; exact h.frozenAt t⟩
  rw [Nat.zero_add, h.cellAt t ht]
  have e1 : (xs.toArray)[t / 6]! = xs[t / 6] := by simp [h3]
  rw [e1]
  obtain ⟨l0, l1, l2, l3, l4, l5⟩ := pcells_at xs (t / 6) h3
  have hm : t % 6 = 0 ∨ t % 6 = 1 ∨ t % 6 = 2 ∨ t % 6 = 3 ∨ t % 6 = 4 ∨ t % 6 = 5 := by omega
  rcases hm with hm | hm | hm | hm | hm | hm
  · rw [hm]
    have et : t = t / 6 * 6 := by omega
    rw [show (pcells xs)[t]? = (pcells xs)[t / 6 * 6]? from by rw [← et], l0]; simp [encN]
  · rw [hm]
    have et : t = t / 6 * 6 + 1 := by omega
    rw [show (pcells xs)[t]? = (pcells xs)[t / 6 * 6 + 1]? from by rw [← et], l1]; simp [encN]
  · rw [hm]
    have et : t = t / 6 * 6 + 2 := by omega
    rw [show (pcells xs)[t]? = (pcells xs)[t / 6 * 6 + 2]? from by rw [← et], l2]; simp [encN]
  · rw [hm]
    have et : t = t / 6 * 6 + 3 := by omega
    rw [show (pcells xs)[t]? = (pcells xs)[t / 6 * 6 + 3]? from by rw [← et], l3]; simp [encN]
  · rw [hm]
    have et : t = t / 6 * 6 + 4 := by omega
    rw [show (pcells xs)[t]? = (pcells xs)[t / 6 * 6 + 4]? from by rw [← et], l4]; simp [encN]
  · rw [hm]
    have et : t = t / 6 * 6 + 5 := by omega
    rw [show (pcells xs)[t]? = (pcells xs)[t / 6 * 6 + 5]? from by rw [← et], l5]; simp [encN]

set_option maxHeartbeats 2000000 in
theorem sort_any (w : World) (B : Nat) (A : Option Addr) (cap : Nat) (xs : List Pn) (hrow : w.ownsRow B 49 6 (.slice A xs.length cap) xs.length (pcells xs)) (hB : B ≤ w.heap.size) (hlen : xs.length ≤ 1000000000) :
    Calls Tryd.prog 45 #[.slice A xs.length cap, .func (.func 34) #[] #[]] w fun e w' => e = .returned (.tuple #[]) ∧ (∃ ys : List Pn, ys.Perm xs ∧ ys.Pairwise (fun a b => ¬ Ah b a) ∧ CsAt w' A (pcells ys) ∧ (∀ a, A = some a → a.off = 0 ∧ ∀ i, i < xs.length * 6 → w'.frozen? ⟨a.block, i, none⟩ = false)) ∧ Below B w w' := by
  rcases hrow.2 with ⟨e0, e1⟩ | ⟨g, cap', cur, e0, hgb, hgc, hle, hm, hs, htk⟩
  · have hA : A = none ∧ cap = 0 := by simp only [Value.slice.injEq] at e0; exact ⟨e0.1, e0.2.2⟩
    obtain ⟨rfl, rfl⟩ := hA
    have h0 : xs = [] := List.length_eq_zero_iff.1 e1
    subst h0
    have hc := AnyF.slices_SortFunc_none Tryd.sortPn none 0 (.func (.func 34) #[] #[]) w
    change Calls Tryd.prog 45 _ _ _ at hc
    refine hc.mono ?_
    rintro e w' ⟨rfl, rfl⟩
    exact ⟨rfl, ⟨[], List.Perm.refl _, List.Pairwise.nil, .inl rfl, by intro a h; cases h⟩, Below.refl _ _⟩
  · simp only [Value.slice.injEq, true_and] at e0
    obtain ⟨rfl, rfl⟩ := e0
    have hH := holds_hds hrow
    have hgl : g < w.heap.size := (hrow.lt g rfl).2
    have eg : ∀ args w, (callFunc 34 args).run Tryd.prog w = .ok (.enter 34 args) w := enters_of Tryd.func34 (by kernel_rfl) rfl
    have hcmp : CmpLays Tryd.prog 34 #[] encN 6 cmpH g 0 xs.toArray.size w := fun m os dk _ x y => (cmpP_full x y _).mono fun e w' h => ⟨h.1, h.2.2⟩
    have hc := AnyQ.slices_SortFunc Tryd.sortPn 6 Tryd.isAgg49 Tryd.sizeOf49 encN (fun _ => rfl) (fun x v hv => by
      simp [encN] at hv
      rcases hv with rfl | rfl | rfl | rfl | rfl | rfl <;> rfl) cmpH swoN 34 #[] g 0 cap xs.toArray w eg hcmp hH hgl (by simp; omega)
    change Calls Tryd.prog 45 _ _ _ at hc
    simp only [List.size_toArray] at hc
    refine hc.mono ?_
    rintro e w' ⟨rfl, d', m, os, hp, hso, rfl⟩
    obtain ⟨hp1, -, hp3⟩ := hp
    simp only [List.size_toArray] at hp1
    have hperm : d'.toList.Perm xs := by
      have e1 : d'.extract 0 xs.length = d' := by rw [← hp1]; simp
      have e2 : xs.toArray.extract 0 xs.length = xs.toArray := by simp
      rw [e1, e2] at hp3
      simpa using hp3
    have hHq := holdsK_sortWorldK_c encN 6 w g 0 xs.toArray d' m os hH hgl (by simpa using hp1)
    refine ⟨rfl, ⟨d'.toList, hperm, ?_, ?_, ?_⟩, below_sort _ _ w g 0 m d' os hgb hB⟩
    · rw [List.pairwise_iff_getElem]
      intro i j hi hj hij
      have hi' : i < d'.size := by simpa using hi
      have hj' : j < d'.size := by simpa using hj
      have := hso i j (Nat.zero_le _) hij (by omega)
      rw [ltN, decide_eq_false_iff_not] at this
      simp only [getElem!_pos d' i hi', getElem!_pos d' j hj'] at this
      simpa using this
    · refine pns_of (fun i hi => ?_)
      have hi' : i < d'.size := by simpa using hi
      have c0 := (hHq.cell hi' (show 0 < 6 by omega)).1
      have c1 := (hHq.cell hi' (show 1 < 6 by omega)).1
      have c2 := (hHq.cell hi' (show 2 < 6 by omega)).1
      have c3 := (hHq.cell hi' (show 3 < 6 by omega)).1
      have c4 := (hHq.cell hi' (show 4 < 6 by omega)).1
      have c5 := (hHq.cell hi' (show 5 < 6 by omega)).1
      simp only [encN, getElem!_pos d' i hi', Nat.zero_add, Nat.add_zero, List.getElem!_cons_zero, List.getElem!_cons_succ] at c0 c1 c2 c3 c4 c5
      simp only [Array.getElem_toList, Nat.zero_add]
      exact ⟨c0, c1, c2, c3, c4, c5⟩
    · intro a ha
      injection ha with ha
      subst ha
      refine ⟨rfl, fun i hi => ?_⟩
      have hi4 : i / 6 < d'.size := by omega
      have := (hHq.cell hi4 (show i % 6 < 6 by omega)).2
      have e : 0 + i / 6 * 6 + i % 6 = i := by omega
      simpa [e, Nat.div_add_mod'] using this

theorem sorted_pure {D0 : DataW Unit} {L : List Pn} {ps : List (List UInt8 × Pn)} {ys : List Pn} (hall : AllOf D0 ps) (hD : MapH D0 L) (hp : ys.Perm (ps.map (·.2))) (hs : ys.Pairwise (fun a b => ¬ Ah b a)) : ys = L := by
  have hone : ∀ p ∈ ps, p.2 ∈ L ∧ plB p.2.fr p.2.key = p.1 := by
    intro p hpm
    have h1 := (hall.2.1 p.1).1 (List.mem_map.2 ⟨p, hpm, rfl⟩)
    obtain ⟨h, hh, e⟩ := (hD.has _).1 h1
    have h2 := hall.2.2.1 p hpm (hdD pn0)
    rw [← e, hD.at_ h hh] at h2
    have e2 := hdD_inj h2
    subst e2
    exact ⟨hh, e⟩
  have hmem : ∀ x, x ∈ ps.map (·.2) ↔ x ∈ L := by
    intro x
    constructor
    · intro hx
      obtain ⟨p, hpm, rfl⟩ := List.mem_map.1 hx
      exact (hone p hpm).1
    · intro hx
      have h1 := (hD.has _).2 ⟨x, hx, rfl⟩
      obtain ⟨p, hpm, hp1⟩ := List.mem_map.1 ((hall.2.1 _).2 h1)
      have h2 := hall.2.2.1 p hpm (hdD pn0)
      rw [hp1, hD.at_ x hx] at h2
      exact List.mem_map.2 ⟨p, hpm, (hdD_inj h2).symm⟩
  have hnd : (ps.map (·.2)).Pairwise (fun a b => ¬ Sm a b) := by
    rw [List.pairwise_map]
    have h1 := List.pairwise_map.1 hall.1
    refine h1.imp_of_mem ?_
    intro p q hpm hqm hne hsm
    apply hne
    rw [← (hone p hpm).2, ← (hone q hqm).2, hsm.1, hsm.2]
  have hys : ys.Pairwise (fun a b => ¬ Sm a b) := (hp.pairwise_iff (fun {a b} h k => h k.symm)).2 hnd
  have hris : RisH ys := by
    refine (hs.and hys).imp ?_
    rintro a b ⟨h3, h4⟩
    rcases Ah.tri a b with h | h | h
    · exact h
    · exact absurd h h4
    · exact absurd h h3
  exact ris_ext hris hD.ris (fun x => by rw [hp.mem_iff, hmem])
theorem collect_pure (Bm b nn : Nat) (D0 : DataW Unit) (L : List Pn) (w : World) (hBm : Bm < w.heap.size) (hm : w.cell? ⟨Bm, 0, none⟩ = some (.map (some b))) (hown : w.ownsMap Tryd.prog 68 hdR b nn D0) (hn : nn ≤ 1000000000) (hD : MapH D0 L) :
    Calls Tryd.prog 44 #[.func (.func 46) #[] #[.pointer (some ⟨Bm, 0, none⟩)]] w fun e w' => (∃ (xs : List Pn) (A : Option Addr) (cap : Nat), e = .returned (.slice A xs.length cap) ∧ (∀ ys : List Pn, ys.Perm xs → ys.Pairwise (fun a b => ¬ Ah b a) → ys = L) ∧ xs.length ≤ 1000000000 ∧ w'.ownsRow w.heap.size 49 6 (.slice A xs.length cap) xs.length (pcells xs)) ∧ Below w.heap.size w w' := by
  have hsz := hown.size_le
  refine (collect_any Bm b nn D0 w hBm hm hown (by omega)).mono ?_
  rintro e w' ⟨⟨v, ps, rfl, h1, h2⟩, hb⟩
  obtain ⟨A, cap, rfl⟩ := row_slice h2
  have hk := h1.2.2.2
  exact ⟨⟨_, A, cap, rfl, fun ys hp hs => sorted_pure h1 hD hp hs, by rw [List.length_map]; omega, h2⟩, hb⟩
/-- States behind a slice of their own: nobody else's, and they may be written. -/
structure HsAt (w : World) (B : Nat) (A : Option Addr) (xs : List Pn) : Prop where
  cs : CsAt w A (pcells xs)
  off : ∀ a, A = some a → a.off = 0 ∧ B ≤ a.block ∧ ∀ i, i < xs.length * 6 → w.frozen? ⟨a.block, i, none⟩ = false
set_option maxRecDepth 100000 in
set_option maxHeartbeats 1000000 in
theorem sorted_any (Bm b nn : Nat) (D0 : DataW Unit) (L : List Pn) (w : World) (hBm : Bm < w.heap.size) (hm : w.cell? ⟨Bm, 0, none⟩ = some (.map (some b))) (hown : w.ownsMap Tryd.prog 68 hdR b nn D0) (hn : nn ≤ 1000000000) (hD : MapH D0 L) :
    Calls Tryd.prog 32 #[.func (.func 46) #[] #[.pointer (some ⟨Bm, 0, none⟩)], .func (.func 34) #[] #[]] w fun e w' => ∃ A cap, e = .returned (.slice A L.length cap) ∧ HsAt w' w.heap.size A L ∧ L.length ≤ cap ∧ Below w.heap.size w w' := by
  have H := collect_pure Bm b nn D0 L w hBm hm hown hn hD
  clear hm hD hown
  go_enter Tryd.func32, Tryd.ntmps32
  go_wp2_with (go_at_call 44; refine H.mono ?_; rintro e w1 ⟨⟨xs, A, cap, rfl, hF, hlen, h2⟩, hb⟩; refine Hid.out ?_)
  refine Lib.hid ?_
  have HS := sort_any w1 w.heap.size A cap xs h2 hb.size hlen
  have HF := Lib.hid hF
  have hcap := (own_cs h2 (pcells_len xs)).2
  have hAb : ∀ a, A = some a → w.heap.size ≤ a.block := fun a ha => by
    subst ha
    rcases h2.2 with ⟨e0, -⟩ | ⟨g, cap', cur, e0, hg, -⟩
    · simp at e0
    · simp only [Value.slice.injEq, Option.some.injEq] at e0
      rw [e0.1]; exact hg
  have HAb := Lib.hid hAb
  clear H h2 hF hAb
  go_wp2_with (go_at_call 45; refine HS.mono ?_; rintro e w2 ⟨rfl, ⟨ys, hp, hs, hc, hz⟩, hb2⟩; refine Hid.out ?_)
  refine Lib.hid ?_
  have ey := HF.out ys hp hs
  have el : xs.length = L.length := by rw [← ey]; exact hp.length_eq.symm
  rw [ey] at hc
  have hH : HsAt w2 w.heap.size A L := ⟨hc, fun a ha => ⟨(hz a ha).1, HAb.out a ha, by rw [← el]; exact (hz a ha).2⟩⟩
  have B2 := hb.trans hb2
  have HEl := Lib.hid el
  have HH := Lib.hid hH
  clear HS HF hp hs el ey hz hH hc HAb
  go_wp2_with fail
  go_ret
  exact ⟨A, cap, by rw [HEl.out]; rfl, HH.out, by rw [← HEl.out]; exact hcap, B2⟩
set_option maxHeartbeats 1000000 in
theorem stsorted_any (w : World) (M : Nat) (L : List Pn) (h : MpAt w M L) (hL : L.length ≤ 1000000) :
    Calls Tryd.prog 22 #[.map (some M)] w fun e w' => ∃ A cap, e = .returned (.slice A L.length cap) ∧ HsAt w' w.heap.size A L ∧ L.length ≤ cap ∧ Below w.heap.size w w' := by
  obtain ⟨D, h1, h2⟩ := h
  have HV := vals_any M w
  have HS := sorted_any w.heap.size M L.length D L (w.alloc (.cells #[.map (some M)] 54)) (by simp) (by simp) (h1.alloc _) (by omega) h2
  have B1 : Below w.heap.size w (w.alloc (.cells #[.map (some M)] 54)) := (Below.refl _ _).alloc (Nat.le_refl _) _
  clear h1 h2
  go_enter Tryd.func22, Tryd.ntmps22
  go_wp2_with (first | (go_at_call 33; refine HV.mono ?_; rintro e u1 ⟨rfl, rfl⟩) | (go_at_call 32; refine HS.mono ?_; rintro e u2 ⟨A2, c2, rfl, hC2, hcap, b2⟩; refine Hid.out ?_))
  refine Lib.hid ?_
  have B2 := below_after b2 B1
  have hH : HsAt u2 w.heap.size A2 L := ⟨hC2.cs, fun a ha => ⟨(hC2.off a ha).1, Nat.le_trans B1.size (hC2.off a ha).2.1, (hC2.off a ha).2.2⟩⟩
  have HH := Lib.hid hH
  clear hH hC2 HV HS b2
  go_wp2_with fail
  go_ret
  exact ⟨A2, c2, rfl, HH.out, hcap, B2⟩
end Go.Proofs.YtfpfaekbakilpaaDoor
