/- slices.DeleteFunc, within. -/
import Derived.Test.YtiofpimchbhfcabQj
namespace Go.Proofs.Ytiofpimchbhfcab
open Go.RowKit
set_option linter.unusedVariables false

theorem fr_cells {xs : List Nat} {g : Nat} {a w : World} (h : Fr xs a w) (hg : g ∈ xs ∨ a.heap.size ≤ g) : ∀ (vs : List Value) (o : Nat), Fr xs a (w.setCells g o vs)
  | [], o => h
  | v :: vs, o => by
    unfold World.setCells
    exact fr_cells (h.setCell (p := ⟨g, o, none⟩) hg v) hg vs (o + 1)
set_option maxRecDepth 100000 in
set_option maxHeartbeats 1000000 in
theorem delf_none (low high : Int) (bl bh : Nat) (w : World) (A : Option Addr) (cap : Nat) (xs : List Hd) (hs : CsAt w A (hcells xs)) (hks : ∀ r ∈ xs, r.key.size ≤ maxLen) (hlen : xs.length ≤ 1000000) (hl : w.cell? ⟨bl, 0, none⟩ = some (.int .i64 low)) (hh : w.cell? ⟨bh, 0, none⟩ = some (.int .i64 high)) (hI : idxP (inR low high) xs = none) :
    Calls Try.prog 36 #[.slice A xs.length cap, .func (.func 37) #[] #[.pointer (some ⟨bl, 0, none⟩), .pointer (some ⟨bh, 0, none⟩)]] w fun e w' => e = .returned (.slice A xs.length cap) ∧ Below w.heap.size w w' := by
  have HI := idx_any low high bl bh w A cap xs hs hks hlen hl hh
  rw [hI] at HI
  simp only [idxV] at HI
  clear hs hI hl hh
  go_enter Try.func36, Try.ntmps36
  go_wp2_with (go_at_call 46; refine HI.mono ?_; rintro e u ⟨rfl, b1⟩)
  go_ret
  exact ⟨rfl, b1⟩
set_option maxRecDepth 100000 in
set_option maxHeartbeats 1000000 in
theorem delf_some (low high : Int) (bl bh : Nat) (w : World) (g : Nat) (cap : Nat) (xs : List Hd) (hs : CsAt w (some ⟨g, 0, none⟩) (hcells xs)) (hfz : ∀ i, i < xs.length * 4 → w.frozen? ⟨g, i, none⟩ = false) (hks : ∀ r ∈ xs, r.key.size ≤ maxLen) (hlen : xs.length ≤ 1000000) (hcap : xs.length ≤ cap) (hgl : g ≠ bl) (hgh : g ≠ bh)
    (hl : w.cell? ⟨bl, 0, none⟩ = some (.int .i64 low)) (hh : w.cell? ⟨bh, 0, none⟩ = some (.int .i64 high)) (k : Nat) (hI : idxP (inR low high) xs = some k) :
    Calls Try.prog 36 #[.slice (some ⟨g, 0, none⟩) xs.length cap, .func (.func 37) #[] #[.pointer (some ⟨bl, 0, none⟩), .pointer (some ⟨bh, 0, none⟩)]] w fun e w' => e = .returned (.slice (some ⟨g, 0, none⟩) (xs.filter (inR low high)).length cap) ∧ CsAt w' (some ⟨g, 0, none⟩) (hcells (xs.filter (inR low high))) ∧ Fr [g] w w' := by
  have HI := idx_any low high bl bh w (some ⟨g, 0, none⟩) cap xs hs hks hlen hl hh
  rw [hI] at HI
  simp only [idxV] at HI
  obtain ⟨hk, hpre, hat⟩ := idxP_at hI
  have hbl := cell_lt hl
  have hbh := cell_lt hh
  have hne : hcells xs ≠ [] := fun e => by have := hcells_len xs; rw [e] at this; simp at this; omega
  obtain ⟨b', o', eb, hc⟩ := hs.at hne
  simp only [Option.some.injEq, Addr.mk.injEq, and_true] at eb
  obtain ⟨rfl, rfl⟩ := eb
  have hgw : g < w.heap.size := by
    have := hc 0 _ (List.getElem?_eq_getElem (by rw [hcells_len]; omega))
    exact cell_lt this
  have hM0 : Mid w g xs.length (xs.take k) (k + 1) (xs.drop (k + 1)) := by
    refine ⟨.inr ⟨g, 0, rfl, fun t x hx => hc t x ?_⟩, .inr ⟨g, (k + 1) * 4, rfl, fun t x hx => ?_⟩, fun i hi => ?_, hfz⟩
    · have e : hcells xs = hcells (xs.take k) ++ hcells (xs.drop k) := by rw [← hcells_append, List.take_append_drop]
      rw [e, List.getElem?_append_left (List.getElem?_eq_some_iff.1 hx).1]; exact hx
    · have e : hcells xs = hcells (xs.take (k + 1)) ++ hcells (xs.drop (k + 1)) := by rw [← hcells_append, List.take_append_drop]
      have hl2 : (hcells (xs.take (k + 1))).length = (k + 1) * 4 := by rw [hcells_len, List.length_take]; congr 1; omega
      have := hc ((k + 1) * 4 + t) x (by rw [e, List.getElem?_append_right (by omega), hl2, Nat.add_sub_cancel_left]; exact hx)
      rwa [Nat.zero_add] at this
    · have := hc i _ (List.getElem?_eq_getElem (by rw [hcells_len]; exact hi))
      rw [Nat.zero_add] at this
      rw [this]; rfl
  have hf0 : (xs.take (k + 1)).filter (inR low high) = xs.take k := by
    rw [List.take_succ_eq_append_getElem hk, List.filter_append, List.filter_eq_self.2 hpre]
    simp [hat]
  have hkt : (xs.take k).length = k := by rw [List.length_take]; omega
  have H0 : Hid (∃ ys, ys = (xs.take (k + 1)).filter (inR low high) ∧ ys.length = k ∧ Mid w g xs.length ys (k + 1) (xs.drop (k + 1))) := Lib.hid ⟨xs.take k, hf0.symm, hkt, hM0⟩
  have hkm : ((k : Int) == -1) = false := by simp
  clear hs hfz hI hpre hat hne hc hM0 hf0 hkt
  go_enter Try.func36, Try.ntmps36
  go_wp2_with (go_at_call 46; refine HI.mono ?_; rintro e u ⟨rfl, b1⟩; refine Hid.out ?_)
  refine Lib.hid ?_
  clear HI
  go_wp2_with fail
  go_loopw [5, 6] (fun i j wr => ∃ (jj : Nat) (ys : List Hd), jj ≤ xs.length ∧ ys.length < jj ∧ i = .int .i64 ys.length ∧ j = .int .i64 jj ∧ ys = (xs.take jj).filter (inR low high) ∧ Mid wr g xs.length ys jj (xs.drop jj) ∧ Fr [g] w wr ∧ wr.cell? ⟨bl, 0, none⟩ = some (.int .i64 low) ∧ wr.cell? ⟨bh, 0, none⟩ = some (.int .i64 high) ∧ w.heap.size ≤ wr.heap.size) (fun _ j _ => xs.length - (intOf j).toNat)
  case atStart =>
    obtain ⟨ys, h1, h2, h3⟩ := H0.out
    exact ⟨k + 1, ys, by omega, by omega, by rw [h2], by go_num, h1, h3.below hgw b1, Fr.below b1, (b1.cell (p := ⟨bl, 0, none⟩) hbl).trans hl, (b1.cell (p := ⟨bh, 0, none⟩) hbh).trans hh, b1.size⟩
  case round =>
    clear H0 b1 hl hh
    obtain ⟨jj, ys, hj, hy, rfl, rfl, hys, hM, hb, hl, hh, hz⟩ := hrel
    have hyl : ((ys.length : Nat) : Int) < (xs.length : Int) := by omega
    by_cases hlt : jj < xs.length
    · have hlt' : (jj : Int) < xs.length := by omega
      have hdr : xs.drop jj = xs[jj] :: xs.drop (jj + 1) := (List.getElem_cons_drop (h := hlt)).symm
      rw [hdr] at hM
      have hM1 := hM.next
      obtain ⟨b0, o0, e0, hc0⟩ := hM.rst.at (by simp [hcells])
      simp only [Option.some.injEq, Addr.mk.injEq, and_true] at e0
      obtain ⟨rfl, rfl⟩ := e0
      have c0 := hc0 0 (.int .i64 xs[jj].nd) (by simp [hcells])
      have c1 := hc0 1 (.string xs[jj].key) (by simp [hcells])
      have c2 := hc0 2 (.int .i64 xs[jj].a) (by simp [hcells])
      have c3 := hc0 3 (.int .i64 xs[jj].b) (by simp [hcells])
      simp only [Nat.add_zero] at c0
      have hkk := hks _ (List.getElem_mem hlt)
      have hfl : (xs.take (jj + 1)).filter (inR low high) = if inR low high xs[jj] then ys ++ [xs[jj]] else ys := by
        rw [List.take_succ_eq_append_getElem hlt, List.filter_append, ← hys]
        cases hq : inR low high xs[jj] <;> simp [hq]
      have HW := fun u h1 h2 => wi1_any low high xs[jj] bl bh u h1 h2 hkk
      cases hp : inR low high xs[jj] with
      | false =>
        rw [hp] at hfl HW
        have HF := Lib.hid hfl
        have HM := Lib.hid hM1
        clear hM hM1 hc0 hdr hys hfl hp
        generalize xs[jj] = r at *
        obtain ⟨nd, key, a, bv⟩ := r
        simp only [hdV, Bool.not_false] at c0 c1 c2 c3 HW
        have HW1 := HW (wr.alloc (.cells #[.int .i64 nd, .string key, .int .i64 a, .int .i64 bv] 29)) (Lib.cell?_alloc_some _ hl) (Lib.cell?_alloc_some _ hh)
        clear HW
        go_wp2_with (go_at_call 37; refine HW1.mono ?_; rintro e u1 ⟨rfl, b1⟩; refine Hid.out ?_)
        refine Lib.hid ?_
        have bW : Below wr.heap.size wr u1 := below_after b1 ((Below.refl _ _).alloc (Nat.le_refl _) _)
        have hl1 := (bW.cell (p := ⟨bl, 0, none⟩) (cell_lt hl)).trans hl
        have hh1 := (bW.cell (p := ⟨bh, 0, none⟩) (cell_lt hh)).trans hh
        have hM2 := HM.out.below (by omega) bW
        have hb2 := hb.trans (Fr.below (xs := [g]) bW)
        have HM2 := Lib.hid hM2
        clear HW1 b1 c0 c1 c2 c3 hl hh HM hM2
        go_wp2_with fail
        go_roundw
        case rel => exact ⟨jj + 1, ys, by omega, by omega, rfl, by go_num, by rw [HF.out]; rfl, HM2.out, hb2, hl1, hh1, Nat.le_trans hz bW.size⟩
        case measure => simp [intOf]; omega
      | true =>
        rw [hp] at hfl HW
        have HF := Lib.hid hfl
        have HM := Lib.hid hM1
        clear hM hM1 hc0 hdr hys hfl hp
        generalize xs[jj] = r at *
        have hset := fun (u : World) (h : Mid u g xs.length ys (jj + 1) (xs.drop (jj + 1))) => h.store r (by omega) (by omega)
        obtain ⟨nd, key, a, bv⟩ := r
        simp only [hdV, Bool.not_true, set4] at c0 c1 c2 c3 HW hset
        have HW1 := HW (wr.alloc (.cells #[.int .i64 nd, .string key, .int .i64 a, .int .i64 bv] 29)) (Lib.cell?_alloc_some _ hl) (Lib.cell?_alloc_some _ hh)
        have HSE := Lib.hid hset
        clear HW hset
        go_wp2_with (go_at_call 37; refine HW1.mono ?_; rintro e u1 ⟨rfl, b1⟩; refine Hid.out ?_)
        refine Lib.hid ?_
        have bW : Below wr.heap.size wr u1 := below_after b1 ((Below.refl _ _).alloc (Nat.le_refl _) _)
        have hl1 := (bW.cell (p := ⟨bl, 0, none⟩) (cell_lt hl)).trans hl
        have hh1 := (bW.cell (p := ⟨bh, 0, none⟩) (cell_lt hh)).trans hh
        have hM2 := HM.out.below (by omega) bW
        have hb2 := hb.trans (Fr.below (xs := [g]) bW)
        have hzW : wr.heap.size < (wr.alloc (.cells #[.int .i64 nd, .string key, .int .i64 a, .int .i64 bv] 29)).heap.size := by simp
        have q0 : u1.cell? ⟨wr.heap.size, 0, none⟩ = some (.int .i64 nd) := by rw [b1.cell (p := ⟨wr.heap.size, 0, none⟩) hzW]; simp
        have q1 : u1.cell? ⟨wr.heap.size, 1, none⟩ = some (.string key) := by rw [b1.cell (p := ⟨wr.heap.size, 1, none⟩) hzW]; simp
        have q2 : u1.cell? ⟨wr.heap.size, 2, none⟩ = some (.int .i64 a) := by rw [b1.cell (p := ⟨wr.heap.size, 2, none⟩) hzW]; simp
        have q3 : u1.cell? ⟨wr.heap.size, 3, none⟩ = some (.int .i64 bv) := by rw [b1.cell (p := ⟨wr.heap.size, 3, none⟩) hzW]; simp
        obtain ⟨p0, e0⟩ := Option.isSome_iff_exists.1 (hM2.som (ys.length * 4) (by omega))
        obtain ⟨p1, e1⟩ := Option.isSome_iff_exists.1 (hM2.som (ys.length * 4 + 1) (by omega))
        obtain ⟨p2, e2⟩ := Option.isSome_iff_exists.1 (hM2.som (ys.length * 4 + 2) (by omega))
        obtain ⟨p3, e3⟩ := Option.isSome_iff_exists.1 (hM2.som (ys.length * 4 + 3) (by omega))
        have z0 := hM2.fz (ys.length * 4) (by omega)
        have z1 := hM2.fz (ys.length * 4 + 1) (by omega)
        have z2 := hM2.fz (ys.length * 4 + 2) (by omega)
        have z3 := hM2.fz (ys.length * 4 + 3) (by omega)
        have hM3 := HSE.out u1 hM2
        have HM3 := Lib.hid hM3
        have hgg : g ∈ [g] ∨ w.heap.size ≤ g := .inl (by simp)
        have hb3 := (((hb2.setCell (p := ⟨g, ys.length * 4, none⟩) hgg (.int .i64 nd)).setCell (p := ⟨g, ys.length * 4 + 1, none⟩) hgg (.string key)).setCell (p := ⟨g, ys.length * 4 + 2, none⟩) hgg (.int .i64 a)).setCell (p := ⟨g, ys.length * 4 + 3, none⟩) hgg (.int .i64 bv)
        have HB3 := Lib.hid hb3
        have hll : ((((u1.setCell ⟨g, ys.length * 4, none⟩ (.int .i64 nd)).setCell ⟨g, ys.length * 4 + 1, none⟩ (.string key)).setCell ⟨g, ys.length * 4 + 2, none⟩ (.int .i64 a)).setCell ⟨g, ys.length * 4 + 3, none⟩ (.int .i64 bv)).cell? ⟨bl, 0, none⟩ = some (.int .i64 low) := by
          rw [World.cell?_setCell_far _ _ _ _ hgl, World.cell?_setCell_far _ _ _ _ hgl, World.cell?_setCell_far _ _ _ _ hgl, World.cell?_setCell_far _ _ _ _ hgl]; exact hl1
        have hhh : ((((u1.setCell ⟨g, ys.length * 4, none⟩ (.int .i64 nd)).setCell ⟨g, ys.length * 4 + 1, none⟩ (.string key)).setCell ⟨g, ys.length * 4 + 2, none⟩ (.int .i64 a)).setCell ⟨g, ys.length * 4 + 3, none⟩ (.int .i64 bv)).cell? ⟨bh, 0, none⟩ = some (.int .i64 high) := by
          rw [World.cell?_setCell_far _ _ _ _ hgh, World.cell?_setCell_far _ _ _ _ hgh, World.cell?_setCell_far _ _ _ _ hgh, World.cell?_setCell_far _ _ _ _ hgh]; exact hh1
        have HLL := Lib.hid hll
        have HHH := Lib.hid hhh
        have hy0 : (0 : Int) ≤ (ys.length : Int) := by omega
        clear HW1 b1 c0 c1 c2 c3 hl hh HM hM2 hM3 hb3 hll hhh hl1 hh1 HSE
        go_wp2_with fail
        go_roundw
        case rel => exact ⟨jj + 1, ys ++ [⟨nd, key, a, bv⟩], by omega, by simp; omega, by simp, by go_num, by rw [HF.out]; rfl, HM3.out, HB3.out, HLL.out, HHH.out, by have := bW.size; simp; omega⟩
        case measure => simp [intOf]; omega
    · have ej : jj = xs.length := by omega
      have ex : xs.take jj = xs := List.take_of_length_le (by omega)
      rw [ex] at hys
      have HY := Lib.hid hys
      obtain ⟨vs, hvl, hcl⟩ := clear_hds wr 0 g (ys.length * 4) (xs.length - ys.length) (cap - ys.length) (by omega) (fun j hj => hM.som _ (by omega)) (fun j hj => hM.fz _ (by omega))
      have hcs := hM.clear vs
      have hbb := fr_cells (g := g) hb (.inl (by simp)) vs (ys.length * 4)
      have HCS := Lib.hid hcs
      have HBB := Lib.hid hbb
      have hjn : ¬ (jj : Int) < xs.length := by omega
      have hyc : ((ys.length : Nat) : Int) ≤ (cap : Int) := by omega
      have hyx : ((ys.length : Nat) : Int) ≤ (xs.length : Int) := by omega
      have hxc : ((xs.length : Nat) : Int) ≤ (cap : Int) := by omega
      have hyn : ys.length < cap := by omega
      clear hM hcs hbb hys ex hl hh hb
      go_wp2_with fail
      go_ret
      exact ⟨by rw [← HY.out]; rfl, by rw [← HY.out]; exact HCS.out, HBB.out⟩
end Go.Proofs.Ytiofpimchbhfcab
