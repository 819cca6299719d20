/- The values of a map, sorted by key. -/
import Derived.Test.YtpjjjelibpoohabDoorTq
import Derived.Test.YtpjjjelibpoohabDoorTf
import Derived.Test.YtpjjjelibpoohabDoorSort
import Derived.Test.YtpjjjelibpoohabDoorShelf
namespace Go.Proofs.YtpjjjelibpoohabDoor
open Go.RowKit Go.Shelf
open Go.Sort (grow alloc_eq_grow grow_grow putRowK HoldsK size_flatK get_flatK flatK)
open Go.Lib (compareBytes)
set_option linter.unusedVariables false

theorem cmp_lts : ∀ (a b : List UInt8), compareBytes a b < 0 ↔ a < b
  | [], [] => by simp [compareBytes]
  | [], y :: b => by simp [compareBytes]
  | x :: a, [] => by simp [compareBytes]
  | x :: a, y :: b => by
    unfold compareBytes
    rw [List.cons_lt_cons_iff]
    by_cases h1 : x < y
    · simp [h1]
    · by_cases h2 : y < x
      · have hne : x ≠ y := fun e => by subst e; exact h1 h2
        simp [h1, h2, hne]
      · have he : x = y := by
          have a1 : ¬ x.toNat < y.toNat := h1
          have a2 : ¬ y.toNat < x.toNat := h2
          exact UInt8.toNat_inj.1 (by omega)
        simp [he, cmp_lts a b]
instance : Inhabited En := ⟨en0⟩
def encN (x : En) : List Value := [.string x.key, .string x.val, .bool x.dead]
def cfN (x y : En) : Int := compareBytes (kl x) (kl y)
theorem ltN (x y : En) : ltOf cfN x y = decide (kl x < kl y) := by
  unfold ltOf cfN
  exact decide_eq_decide.2 (cmp_lts _ _)
theorem swoN : Sort.SWO (ltOf cfN) where
  irrefl x := by rw [ltN]; exact decide_eq_false (List.lt_irrefl _)
  trans x y z h1 h2 := by
    rw [ltN, decide_eq_true_eq] at *
    exact List.lt_trans h1 h2
  ntrans x y z h1 h2 := by
    rw [ltN, decide_eq_false_iff_not, List.not_lt] at *
    exact List.le_trans h2 h1
set_option maxHeartbeats 1000000 in
theorem cmpN_any (x y : En) (W : World) :
    Calls Tryd.prog 34 #[enV x, enV y] W fun e w' => e = .returned (.int .i64 (cfN x y)) ∧ ∃ q os', w' = grow (W.drewN q) os' := by
  obtain ⟨a, u, d⟩ := x
  obtain ⟨b, v, d'⟩ := y
  unfold cfN
  simp only [enV, kl]
  have hcon := fun W' => Tryd.strings_Compare a b W'
  generalize compareBytes a.data.toList b.data.toList = r at hcon ⊢
  go_enter Tryd.func34, Tryd.ntmps34
  go_wp2_with (go_at_call 35; refine (hcon _).mono ?_; rintro e w' ⟨rfl, rfl⟩)
  go_ret
  exact ⟨rfl, 0, _, by rw [alloc_eq_grow, alloc_eq_grow, grow_grow]; rfl⟩
theorem below_sort {α : Type} [Inhabited α] (enc : α → List Value) (k : Nat) (w : World) (blk off m : Nat) (dk : Array α) (os : Array Obj) {B : Nat} (hB : B ≤ blk) (hw : B ≤ w.heap.size) : Below B w (sortWorldK enc k w blk off m dk os) := by
  refine ⟨rfl, rfl, rfl, ?_, fun b hb => ?_⟩
  · exact size_sortWorldK_c enc k w blk off m dk os
  · unfold sortWorldK
    rw [Sort.heap_grow_old _ _ (by show b < (putRowK enc k (Sort.ahead w m) blk off dk).heap.size; unfold putRowK; rw [Sort.size_putRow]; show b < w.heap.size; omega)]
    unfold putRowK Sort.putRow
    show (Sort.mapBlock (Sort.ahead w m) blk _).heap[b]? = w.heap[b]?
    simp only [Sort.mapBlock, Sort.ahead]
    rw [Array.getElem?_modify]
    rw [if_neg (by omega)]
theorem holds_ens {w : World} {B g cap : Nat} {xs : List En} (h : w.ownsRow B 34 3 (.slice (some ⟨g, 0, none⟩) xs.length cap) xs.length (ecells xs)) : HoldsK encN 3 w g 0 xs.toArray := by
  intro t ht
  simp only [size_flatK, List.size_toArray] at ht
  rw [get_flatK _ _ _ _ (by simpa using ht)]
  have h3 : t / 3 < xs.length := by omega
  refine ⟨?_, by rw [Nat.zero_add]; exact h.frozenAt t⟩
  rw [Nat.zero_add, h.cellAt t ht]
  have e1 : (xs.toArray)[t / 3]! = xs[t / 3] := by simp [h3]
  rw [e1]
  obtain ⟨l0, l1, l2⟩ := ecells_at xs (t / 3) h3
  have hm : t % 3 = 0 ∨ t % 3 = 1 ∨ t % 3 = 2 := by omega
  rcases hm with hm | hm | hm
  · rw [hm]
    have et : t = t / 3 * 3 := by omega
    rw [show (ecells xs)[t]? = (ecells xs)[t / 3 * 3]? from by rw [← et], l0]; simp [encN]
  · rw [hm]
    have et : t = t / 3 * 3 + 1 := by omega
    rw [show (ecells xs)[t]? = (ecells xs)[t / 3 * 3 + 1]? from by rw [← et], l1]; simp [encN]
  · rw [hm]
    have et : t = t / 3 * 3 + 2 := by omega
    rw [show (ecells xs)[t]? = (ecells xs)[t / 3 * 3 + 2]? from by rw [← et], l2]; simp [encN]

set_option maxHeartbeats 2000000 in
theorem sort_any (w : World) (B : Nat) (A : Option Addr) (cap : Nat) (xs : List En) (hrow : w.ownsRow B 34 3 (.slice A xs.length cap) xs.length (ecells xs)) (hB : B ≤ w.heap.size) (hlen : xs.length ≤ 1000000000) :
    Calls Tryd.prog 48 #[.slice A xs.length cap, .func (.func 34) #[] #[]] w fun e w' => e = .returned (.tuple #[]) ∧ (∃ ys : List En, ys.Perm xs ∧ ys.Pairwise (fun a b => ¬ kl b < kl a) ∧ CsAt w' A (ecells ys)) ∧ Below B w w' := by
  rcases hrow.2 with ⟨e0, e1⟩ | ⟨g, cap', cur, e0, hgb, hgc, hle, hm, hs, htk⟩
  · have hA : A = none ∧ cap = 0 := by simp only [Value.slice.injEq] at e0; exact ⟨e0.1, e0.2.2⟩
    obtain ⟨rfl, rfl⟩ := hA
    have h0 : xs = [] := List.length_eq_zero_iff.1 e1
    subst h0
    have hc := AnyF.slices_SortFunc_none Tryd.sortEn none 0 (.func (.func 34) #[] #[]) w
    change Calls Tryd.prog 48 _ _ _ at hc
    refine hc.mono ?_
    rintro e w' ⟨rfl, rfl⟩
    exact ⟨rfl, ⟨[], List.Perm.refl _, List.Pairwise.nil, .inl rfl⟩, Below.refl _ _⟩
  · simp only [Value.slice.injEq, true_and] at e0
    obtain ⟨rfl, rfl⟩ := e0
    have hH := holds_ens hrow
    have hgl : g < w.heap.size := (hrow.lt g rfl).2
    have eg : ∀ args w, (callFunc 34 args).run Tryd.prog w = .ok (.enter 34 args) w := enters_of Tryd.func34 (by kernel_rfl) rfl
    have hcmp : CmpLays Tryd.prog 34 #[] encN 3 cfN g 0 xs.toArray.size w := fun m os dk _ x y => cmpN_any x y _
    have hc := AnyQ.slices_SortFunc Tryd.sortEn 3 Tryd.isAgg34 Tryd.sizeOf34 encN (fun _ => rfl) (fun x v hv => by
      simp [encN] at hv
      rcases hv with rfl | rfl | rfl <;> rfl) cfN swoN 34 #[] g 0 cap xs.toArray w eg hcmp hH hgl (by simp; omega)
    change Calls Tryd.prog 48 _ _ _ at hc
    simp only [List.size_toArray] at hc
    refine hc.mono ?_
    rintro e w' ⟨rfl, d', m, os, hp, hso, rfl⟩
    obtain ⟨hp1, -, hp3⟩ := hp
    simp only [List.size_toArray] at hp1
    have hperm : d'.toList.Perm xs := by
      have e1 : d'.extract 0 xs.length = d' := by rw [← hp1]; simp
      have e2 : xs.toArray.extract 0 xs.length = xs.toArray := by simp
      rw [e1, e2] at hp3
      simpa using hp3
    have hHd := holdsK_sortWorldK_c encN 3 w g 0 xs.toArray d' m os hH hgl (by simpa using hp1)
    refine ⟨rfl, ⟨d'.toList, hperm, ?_, ?_⟩, below_sort _ _ w g 0 m d' os hgb hB⟩
    · rw [List.pairwise_iff_getElem]
      intro i j hi hj hij
      have hi' : i < d'.size := by simpa using hi
      have hj' : j < d'.size := by simpa using hj
      have := hso i j (Nat.zero_le _) hij (by omega)
      rw [ltN, decide_eq_false_iff_not] at this
      simp only [getElem!_pos d' i hi', getElem!_pos d' j hj'] at this
      simpa using this
    · refine ens_of (fun i hi => ?_)
      have hi' : i < d'.size := by simpa using hi
      have c0 := (hHd.cell hi' (show 0 < 3 by omega)).1
      have c1 := (hHd.cell hi' (show 1 < 3 by omega)).1
      have c2 := (hHd.cell hi' (show 2 < 3 by omega)).1
      simp only [encN, getElem!_pos d' i hi', Nat.zero_add, Nat.add_zero, List.getElem!_cons_zero, List.getElem!_cons_succ] at c0 c1 c2
      simp only [Array.getElem_toList, Nat.zero_add]
      exact ⟨c0, c1, c2⟩
end Go.Proofs.YtpjjjelibpoohabDoor
