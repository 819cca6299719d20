/- slices.IndexFunc, slices.DeleteFunc over lists. -/
import Derived.Test.YtfpfaekbakilpaaDoorMa
namespace Go.Proofs.YtfpfaekbakilpaaDoor
open Go.RowKit
set_option linter.unusedVariables false

/-- Where the first one lies that is not so. -/
def idxP (p : Li → Bool) : List Li → Option Nat
  | [] => none
  | x :: l => if p x then (idxP p l).map (· + 1) else some 0
theorem idxP_none {p : Li → Bool} : ∀ {l : List Li}, (∀ x ∈ l, p x = true) → idxP p l = none
  | [], _ => rfl
  | x :: l, h => by
    unfold idxP
    rw [if_pos (h x (by simp)), idxP_none (fun y hy => h y (List.mem_cons_of_mem _ hy))]; rfl
theorem idxP_some {p : Li → Bool} : ∀ {l : List Li} {k : Nat} (hk : k < l.length), (∀ x ∈ l.take k, p x = true) → p l[k] = false → idxP p l = some k
  | [], k, hk, _, _ => by simp at hk
  | x :: l, 0, hk, _, h => by
    unfold idxP
    simp only [List.getElem_cons_zero] at h
    rw [h]; rfl
  | x :: l, k + 1, hk, h1, h2 => by
    unfold idxP
    rw [if_pos (h1 x (by simp)), idxP_some (l := l) (k := k) (by simpa using hk) (fun y hy => h1 y (by simp [hy])) (by simpa using h2)]; rfl
theorem idxP_all {p : Li → Bool} : ∀ {l : List Li}, idxP p l = none → l.filter p = l
  | [], _ => rfl
  | x :: l, h => by
    unfold idxP at h
    split at h
    · rename_i hx
      rw [List.filter_cons, if_pos hx, idxP_all (by simpa using h)]
    · cases h
theorem idxP_at {p : Li → Bool} : ∀ {l : List Li} {k : Nat}, idxP p l = some k → ∃ hk : k < l.length, (∀ x ∈ l.take k, p x = true) ∧ p l[k] = false
  | [], k, h => by cases h
  | x :: l, k, h => by
    unfold idxP at h
    split at h
    · rename_i hx
      cases hi : idxP p l with
      | none => rw [hi] at h; cases h
      | some j =>
        rw [hi] at h
        simp at h
        subst h
        obtain ⟨hk, h1, h2⟩ := idxP_at hi
        refine ⟨by simpa using hk, fun y hy => ?_, by simpa using h2⟩
        simp at hy
        rcases hy with rfl | hy
        · exact hx
        · exact h1 y hy
    · rename_i hx
      injection h with h
      subst h
      exact ⟨by simp, by simp, by simpa using hx⟩
theorem below_cells {B g : Nat} {a w : World} (h : Below B a w) (hg : B ≤ g) : ∀ (vs : List Value) (o : Nat), Below B a (w.setCells g o vs)
  | [], o => h
  | v :: vs, o => by
    unfold World.setCells
    exact below_cells (h.setCell (p := ⟨g, o, none⟩) hg v) hg vs (o + 1)
def idxV (o : Option Nat) : Value := match o with | none => .int .i64 (-1) | some k => .int .i64 k
set_option maxRecDepth 100000 in
set_option maxHeartbeats 1000000 in
theorem idx_any (w : World) (A : Option Addr) (cap : Nat) (xs : List Li) (hs : CsAt w A (xs.map liV)) (hks : ∀ x ∈ xs, x.l.length ≤ 9223372036854775807) (hlen : xs.length ≤ 1000000) :
    Calls Tryd.prog 42 #[.slice A xs.length cap, .func (.func 28) #[] #[]] w fun e w' => e = .returned (idxV (idxP neL xs)) ∧ w = w' := by
  generalize hR : idxV (idxP neL xs) = RV
  have HR := Lib.hid hR
  clear hR
  go_enter Tryd.func42, Tryd.ntmps42
  go_wp2_with fail
  go_loopw [8] (fun i wr => ∃ k : Nat, k ≤ xs.length ∧ i = .int .i64 k ∧ (∀ x ∈ xs.take k, neL x = true) ∧ w = wr) (fun i _ => xs.length - (intOf i).toNat)
  case atStart => exact ⟨0, by omega, rfl, by simp, rfl⟩
  case round =>
    obtain ⟨k, hk, rfl, hno, rfl⟩ := hrel
    by_cases hlt : k < xs.length
    · obtain ⟨b, o, rfl, c0⟩ := lis_at hs k hlt
      have HW := fun u => empty_any xs[k] u (hks _ (List.getElem_mem hlt))
      cases hp : neL xs[k] with
      | true =>
        rw [hp] at HW
        have hno2 : ∀ x ∈ xs.take (k + 1), neL x = true := fun x hx => by
          rw [List.take_succ_eq_append_getElem hlt] at hx
          rcases List.mem_append.1 hx with hx | hx
          · exact hno x hx
          · simp at hx; rw [hx]; exact hp
        have HN := Lib.hid hno2
        clear hno hno2 hp hs
        generalize xs[k] = r at *
        simp only [liV, Bool.not_true] at c0 HW
        go_wp2_with (go_at_call 28; refine (HW _).mono ?_; rintro e u ⟨rfl, rfl⟩)
        go_roundw
        case rel => exact ⟨k + 1, by omega, by go_num, HN.out, trivial⟩
        case measure => simp [intOf]; omega
      | false =>
        have hfin : RV = .int .i64 k := by rw [← HR.out, idxP_some hlt hno hp]; rfl
        rw [hp] at HW
        have HFI := Lib.hid hfin
        clear hno hp hs hfin HR
        generalize xs[k] = r at *
        simp only [liV, Bool.not_false] at c0 HW
        go_wp2_with (go_at_call 28; refine (HW _).mono ?_; rintro e u ⟨rfl, rfl⟩)
        go_ret
        exact ⟨by rw [HFI.out]; rfl, rfl⟩
    · have hfin : RV = .int .i64 (-1) := by
        rw [List.take_of_length_le (by omega)] at hno
        rw [← HR.out, idxP_none hno]; rfl
      have HFI := Lib.hid hfin
      clear hno hs hfin HR
      go_wp2_with fail
      go_ret
      exact ⟨by rw [HFI.out]; rfl, rfl⟩
set_option maxRecDepth 100000 in
set_option maxHeartbeats 2000000 in
theorem delf_any (w : World) (B : Nat) (v : Value) (xs : List Li) (hown : w.ownsRow B 22 1 v xs.length (xs.map liV)) (hB : B ≤ w.heap.size) (hks : ∀ x ∈ xs, x.l.length ≤ 9223372036854775807) (hlen : xs.length ≤ 1000000) :
    Calls Tryd.prog 26 #[v, .func (.func 28) #[] #[]] w fun e w' => ∃ A cap, e = .returned (.slice A (xs.filter neL).length cap) ∧ CsAt w' A ((xs.filter neL).map liV) ∧ Below B w w' := by
  obtain ⟨A, cap, rfl⟩ := row_slice hown
  have hcs := (own_cs hown (by simp)).1
  have HI := idx_any w A cap xs hcs hks hlen
  cases hI : idxP neL xs with
  | none =>
    rw [hI] at HI
    simp only [idxV] at HI
    have hf := idxP_all hI
    rw [hf]
    have HCS := Lib.hid hcs
    clear hown hcs hI hf
    go_enter Tryd.func26, Tryd.ntmps26
    go_wp2_with (go_at_call 42; refine HI.mono ?_; rintro e u ⟨rfl, rfl⟩)
    go_ret
    exact ⟨A, cap, rfl, HCS.out, Below.refl _ _⟩
  | some k =>
    rw [hI] at HI
    simp only [idxV] at HI
    obtain ⟨hk, hpre, hat⟩ := idxP_at hI
    obtain ⟨g, hA, hBg, hgw, hnc⟩ : ∃ g, A = some ⟨g, 0, none⟩ ∧ B ≤ g ∧ g < w.heap.size ∧ xs.length ≤ cap := by
      rcases hown.2 with ⟨h0, h1⟩ | ⟨g, cap', cur, h0, h1, h2, h3, _⟩
      · omega
      · simp only [Value.slice.injEq, true_and] at h0
        obtain ⟨rfl, rfl⟩ := h0
        exact ⟨g, rfl, h1, some_lt h2, h3⟩
    subst hA
    have hf0 : (xs.take (k + 1)).filter neL = xs.take k := by
      rw [List.take_succ_eq_append_getElem hk, List.filter_append, List.filter_eq_self.2 hpre]
      simp [hat]
    have hkt : (xs.take k).length = k := by rw [List.length_take]; omega
    have H0 : Hid (∃ (ys : List Li) (rs : List Value), ys = (xs.take (k + 1)).filter neL ∧ ys.length = k ∧ rs.take k = ys.map liV ∧ rs.drop (k + 1) = (xs.drop (k + 1)).map liV ∧ w.ownsRow B 22 1 (.slice (some ⟨g, 0, none⟩) xs.length cap) xs.length rs) := Lib.hid ⟨xs.take k, xs.map liV, hf0.symm, hkt, by rw [List.map_take], by rw [List.map_drop], hown⟩
    have hkm : ((k : Int) == -1) = false := by simp
    clear hown hcs hI hpre hat hf0 hkt
    go_enter Tryd.func26, Tryd.ntmps26
    go_wp2_with (go_at_call 42; refine HI.mono ?_; rintro e u ⟨rfl, rfl⟩; refine Hid.out ?_)
    refine Lib.hid ?_
    clear HI
    go_wp2_with fail
    go_loopw [5, 6] (fun i j wr => ∃ (jj : Nat) (ys : List Li) (rs : List Value), jj ≤ xs.length ∧ ys.length < jj ∧ i = .int .i64 ys.length ∧ j = .int .i64 jj ∧ ys = (xs.take jj).filter neL ∧ rs.take ys.length = ys.map liV ∧ rs.drop jj = (xs.drop jj).map liV ∧ wr.ownsRow B 22 1 (.slice (some ⟨g, 0, none⟩) xs.length cap) xs.length rs ∧ Below B w wr) (fun _ j _ => xs.length - (intOf j).toNat)
    case atStart =>
      obtain ⟨ys, rs, h1, h2, h3, h4, h5⟩ := H0.out
      exact ⟨k + 1, ys, rs, by omega, by omega, by rw [h2], by go_num, h1, by rw [h2]; exact h3, h4, h5, Below.refl _ _⟩
    case round =>
      clear H0
      obtain ⟨jj, ys, rs, hj, hy, rfl, rfl, hys, hr1, hr2, hown, hb⟩ := hrel
      have hyl : ((ys.length : Nat) : Int) < (xs.length : Int) := by omega
      have hrl : rs.length = xs.length := by have := hown.1; omega
      by_cases hlt : jj < xs.length
      · have hlt' : (jj : Int) < xs.length := by omega
        have hg0 : rs[jj]? = some (liV xs[jj]) := by
          have : (rs.drop jj)[0]? = ((xs.drop jj).map liV)[0]? := by rw [hr2]
          rw [List.getElem?_drop, List.getElem?_map, List.getElem?_drop] at this
          simpa [hlt] using this
        have c0 : wr.cell? ⟨g, jj, none⟩ = some (liV xs[jj]) := by rw [hown.cellAt jj (by omega)]; exact hg0
        have hkk := hks _ (List.getElem_mem hlt)
        have hfl : (xs.take (jj + 1)).filter neL = if neL xs[jj] then ys ++ [xs[jj]] else ys := by
          rw [List.take_succ_eq_append_getElem hlt, List.filter_append, ← hys]
          cases hq : neL xs[jj] <;> simp [hq]
        have hr3 : rs.drop (jj + 1) = (xs.drop (jj + 1)).map liV := by
          have := congrArg (List.drop 1) hr2
          simpa [List.drop_drop, ← List.map_drop] using this
        have HW := fun u => empty_any xs[jj] u hkk
        cases hp : neL xs[jj] with
        | false =>
          rw [hp] at hfl HW
          have HF := Lib.hid hfl
          have HR3 := Lib.hid hr3
          have HR1 := Lib.hid hr1
          have HO := Lib.hid hown
          clear hr1 hr2 hr3 hown hys hfl hp hg0
          generalize xs[jj] = r at *
          simp only [liV, Bool.not_false] at c0 HW
          go_wp2_with (go_at_call 28; refine (HW _).mono ?_; rintro e u1 ⟨rfl, rfl⟩)
          go_roundw
          case rel => exact ⟨jj + 1, ys, rs, by omega, by omega, rfl, by go_num, by rw [HF.out]; rfl, HR1.out, HR3.out, HO.out, hb⟩
          case measure => simp [intOf]; omega
        | true =>
          rw [hp] at hfl HW
          obtain ⟨hst1, hst2⟩ := hown.stored ys.length (liV xs[jj])
          have f0 := hown.frozenAt ys.length
          obtain ⟨o0, e0⟩ : ∃ o0, wr.cell? ⟨g, ys.length, none⟩ = some o0 := by
            rw [hown.cellAt ys.length (by omega), List.getElem?_eq_getElem (by omega)]; exact ⟨_, rfl⟩
          have hs1 : (rs.set ys.length (liV xs[jj])).take (ys.length + 1) = (ys ++ [xs[jj]]).map liV := by
            rw [List.take_succ_eq_append_getElem (by simp; omega), List.take_set_of_le (Nat.le_refl _), hr1]
            simp
          have hs2 : (rs.set ys.length (liV xs[jj])).drop (jj + 1) = (xs.drop (jj + 1)).map liV := by
            rw [List.drop_set_of_lt (by omega), hr3]
          have hb3 : Below B w (wr.setCell ⟨g, ys.length, none⟩ (liV xs[jj])) := hb.setCell (by simpa using hBg) _
          have HF := Lib.hid hfl
          have HS1 := Lib.hid hs1
          have HS2 := Lib.hid hs2
          have HO := Lib.hid hst1
          clear hr1 hr2 hr3 hown hys hfl hp hg0 hst1 hst2 hs1 hs2
          generalize xs[jj] = r at *
          have hy0 : (0 : Int) ≤ (ys.length : Int) := by omega
          simp only [liV, Bool.not_true] at c0 HW HO HS1 HS2 hb3
          have hgwr := cell_lt c0
          go_wp2_with (go_at_call 28; refine (HW _).mono ?_; rintro e u1 ⟨rfl, rfl⟩)
          go_roundw
          case rel => exact ⟨jj + 1, ys ++ [r], _, by omega, by simp; omega, by simp, by go_num, by rw [HF.out]; rfl, by simpa using HS1.out, HS2.out, HO.out, hb3⟩
          case measure => simp [intOf]; omega
      · have ex : xs.take jj = xs := List.take_of_length_le (by omega)
        rw [ex] at hys
        have HY := Lib.hid hys
        have hcl := Lib.run_clear_slice (P := Tryd.prog) wr 37 22 0 (.slice none 0 0) Tryd.underlying37 (fun u => Tryd.zeroValue22 u) rfl rfl g ys.length (xs.length - ys.length) (cap - ys.length) (by omega) (fun j hj => by rw [hown.cellAt _ (by omega), List.getElem?_eq_getElem (by omega)]; rfl) (fun j hj => hown.frozenAt _)
        have hcs : CsAt (wr.setCells g ys.length (List.replicate (xs.length - ys.length) (.slice none 0 0))) (some ⟨g, 0, none⟩) (ys.map liV) := by
          refine .inr ⟨g, 0, rfl, fun t x hx => ?_⟩
          have ht : t < ys.length := by have := (List.getElem?_eq_some_iff.1 hx).1; simpa using this
          rw [World.cell?_setCells_out g _ _ wr ⟨g, 0 + t, none⟩ (fun _ _ => .inl (by simpa using ht)), Nat.zero_add, hown.cellAt t (by omega)]
          rw [← hr1, List.getElem?_take, if_pos ht] at hx
          exact hx
        have hbb := below_cells (g := g) hb hBg (List.replicate (xs.length - ys.length) (.slice none 0 0)) ys.length
        have HCS := Lib.hid hcs
        have HBB := Lib.hid hbb
        have hjn : ¬ (jj : Int) < xs.length := by omega
        have hyc : ((ys.length : Nat) : Int) ≤ (cap : Int) := by omega
        have hyx : ((ys.length : Nat) : Int) ≤ (xs.length : Int) := by omega
        have hxc : ((xs.length : Nat) : Int) ≤ (cap : Int) := by omega
        have hyn : ys.length < cap := by omega
        clear hcs hbb hys ex hb hown hr1 hr2
        go_wp2_with fail
        go_ret
        exact ⟨some ⟨g, 0, none⟩, ⟨cap, by rw [← HY.out]; rfl⟩, by rw [← HY.out]; exact HCS.out, HBB.out⟩
end Go.Proofs.YtfpfaekbakilpaaDoor
