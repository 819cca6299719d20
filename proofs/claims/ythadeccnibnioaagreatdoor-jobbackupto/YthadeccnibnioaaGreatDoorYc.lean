/- strings.Split at a blank. -/
import Derived.Test.YthadeccnibnioaaGreatDoorYb
import Derived.Deep.OwnRows
namespace Go.Proofs.YthadeccnibnioaaGreatDoor
open Go.RowKit
set_option linter.unusedVariables false
theorem Tryz.infoStr : (Tryz.prog.info? 9).map (fun i => (i.zero, i.size, i.bytes)) = some (some (.string ⟨#[]⟩), 1, 16) := by kernel_rfl
/-- A row of strings, of which the first are known. -/
def SpAt (w : World) (g n k : Nat) (W : List (List UInt8)) : Prop := ∃ cur, w.heap[g]? = some (.cells cur 9 (0, 0)) ∧ cur.size = n ∧ ∀ j, j < n → ∃ x, cur[j]? = some (.string x) ∧ (j < k → ∀ (h : j < W.length), x = ⟨W[j].toArray⟩)
theorem SpAt.made (w : World) (n : Nat) (W : List (List UInt8)) : SpAt (w.alloc (.cells (madeCells #[.string ⟨#[]⟩] n) 9)) w.heap.size n 0 W := by
  refine ⟨_, Array.getElem?_push_size, by simp [madeCells], fun j hj => ⟨⟨#[]⟩, ?_, fun h => by omega⟩⟩
  simp [madeCells, hj, Nat.mod_one]
theorem SpAt.put {w : World} {g n k : Nat} {W : List (List UInt8)} (h : SpAt w g n k W) (hk : k < n) : (∃ x, w.cell? ⟨g, k, none⟩ = some (.string x)) ∧ w.frozen? ⟨g, k, none⟩ = false ∧ g < w.heap.size ∧
    ∀ y : ByteArray, (∀ (h : k < W.length), y = ⟨W[k].toArray⟩) → SpAt (w.setCell ⟨g, k, none⟩ (.string y)) g n (k + 1) W := by
  obtain ⟨cur, hg, hs, hc⟩ := h
  obtain ⟨x, hx, -⟩ := hc k hk
  refine ⟨⟨x, by simp [World.cell?, hg, hx]⟩, by simp [World.frozen?, hg], (Array.getElem?_eq_some_iff.1 hg).1, fun y hy => ⟨cur.set! k (.string y), by simp [World.setCell, Array.getElem?_modify, hg], by simp [hs], fun j hj => ?_⟩⟩
  by_cases e : j = k
  · subst e
    exact ⟨y, by simp [hs, hj], fun _ h => hy h⟩
  · obtain ⟨z, h1, h2⟩ := hc j hj
    refine ⟨z, ?_, fun h => h2 (by omega)⟩
    simp only [Array.set!_eq_setIfInBounds]
    rw [Array.getElem?_setIfInBounds_ne (by omega)]; exact h1
theorem SpAt.all {w : World} {g n : Nat} {W : List (List UInt8)} (h : SpAt w g n n W) (hn : n = W.length) : ∀ j (h : j < W.length), w.cell? ⟨g, j, none⟩ = some (.string ⟨W[j].toArray⟩) := fun j hj => by
  obtain ⟨cur, hg, hs, hc⟩ := h
  obtain ⟨x, h1, h2⟩ := hc j (by omega)
  rw [← h2 (by omega) hj]
  simp [World.cell?, hg, h1]
def SpEnd (w : World) (l : List UInt8) (e : Ending) (w' : World) : Prop := ∃ c, e = .returned (.slice (some ⟨w.heap.size, 0, none⟩) (splitW l).length c) ∧ (splitW l).length ≤ c ∧ (∀ j (h : j < (splitW l).length), w'.cell? ⟨w.heap.size, j, none⟩ = some (.string ⟨(splitW l)[j].toArray⟩)) ∧ Below w.heap.size w w'
set_option maxRecDepth 100000 in
set_option maxHeartbeats 4000000 in
theorem gensplit_any (s : ByteArray) (w : World) (hs : s.size ≤ 100000000) : Calls Tryz.prog 129 #[.string s, .string ⟨#[32]⟩, .int .i64 0, .int .i64 (-1)] w (SpEnd w s.data.toList) := by
  have hl : s.data.toList.length = s.size := Array.length_toList
  have hcl : s.data.toList.count 32 ≤ s.data.toList.length := List.count_le_length
  have hsc := split_count s.data.toList
  have HC := Tryz.strings_Count_one s 32 w
  unfold Lib.countByte at HC
  have HEnd : Hid (∀ (n c : Nat) (w' : World) (hn : (splitW s.data.toList).length = n) (h1 : n ≤ c) (h2 : ∀ j (h : j < (splitW s.data.toList).length), w'.cell? ⟨w.heap.size, j, none⟩ = some (.string ⟨(splitW s.data.toList)[j].toArray⟩)) (h3 : Below w.heap.size w w'), SpEnd w s.data.toList (.returned (.slice (some ⟨w.heap.size, 0, none⟩) n c)) w') := fun n c w' hn h1 h2 h3 => ⟨c, by rw [hn], by rw [hn]; exact h1, h2, h3⟩
  generalize SpEnd w s.data.toList = R at *
  obtain ⟨c, hc⟩ : ∃ c, s.data.toList.count 32 = c := ⟨_, rfl⟩
  rw [hc] at HC hcl hsc
  have hcs : (c : Int) ≤ s.size := by omega
  have hmk : ∀ w : World, (Instr.makeSlice 95 (.int .i64 ((c : Int) + 1)) (.int .i64 ((c : Int) + 1))).run Tryz.prog w = .ok (.slice (some ⟨w.heap.size, 0, none⟩) (c + 1) (c + 1)) (w.alloc (.cells (madeCells #[.string ⟨#[]⟩] (c + 1)) 9)) := by
    have := run_make_row' (P := Tryz.prog) 95 9 (.string ⟨#[]⟩) 16 Tryz.underlying95 Tryz.infoStr rfl .i64 .i64 (c + 1) (by omega) (by omega)
    simpa using this
  have HSc := Lib.hid hsc
  have HCn := Lib.hid hc
  have HL := Lib.hid hl
  clear hsc hc hcl
  have hmin : min ((c : Int) + 1) ((s.size : Int) + 1) = (c : Int) + 1 := by omega
  go_enter Tryz.func129, Tryz.ntmps129
  go_wp2_with (go_at_call 156; refine HC.mono ?_; rintro e w' ⟨rfl, rfl⟩)
  obtain ⟨W, hW⟩ : ∃ W, splitW s.data.toList = W := ⟨_, rfl⟩
  rw [hW] at HSc HEnd
  have HW := Lib.hid hW
  clear hW
  have hbz : Below w'.heap.size w' (w'.alloc (.cells (madeCells #[.string ⟨#[]⟩] (c + 1)) 9)) := (Below.refl _ _).alloc (Nat.le_refl _) _
  go_loopw [0, 10] (fun x i wr => ∃ (k : Nat) (l : ByteArray), k ≤ c ∧ x = .string l ∧ i = .int .i64 k ∧ SpAt wr w'.heap.size (c + 1) k W ∧ W.drop k = splitW l.data.toList ∧ l.size ≤ 100000000 ∧ l.data.toList.count 32 + k = c ∧ Below w'.heap.size w' wr) (fun _ i _ => c - (intOf i).toNat)
  case atStart => exact ⟨0, s, by omega, rfl, rfl, SpAt.made _ _ _, HW.out.symm, hs, HCn.out, hbz⟩
  case round =>
    obtain ⟨k, l, hk, rfl, rfl, hrow, hdr, hls, hcnt, hb⟩ := hrel
    clear hbz
    have hll : l.data.toList.length = l.size := Array.length_toList
    have hS := hb.size
    have hlenW := HSc.out
    rename World => wr2
    obtain ⟨⟨x, hx⟩, hfz, hgs, hput⟩ := hrow.put (by omega)
    have hkw : k < W.length := by omega
    have hWk : W.drop k = W[k] :: W.drop (k + 1) := List.drop_eq_getElem_cons hkw
    rw [hWk] at hdr
    have hno : (wr2.frozen? ⟨w'.heap.size, k, none⟩) = false := hfz
    rcases idx_ways l.data.toList 32 with hi | ⟨m, hi, hm⟩
    · obtain ⟨e1, e2⟩ := split_none hi
      have hkc : k = c := by omega
      rw [e1] at hdr
      have hv : W[k] = l.data.toList := (List.cons.inj hdr).1
      have hp2 := hput l (fun _ => by rw [hv])
      have HP := Lib.hid hp2
      have HB := Lib.hid (hb.setCell (p := ⟨w'.heap.size, k, none⟩) (Nat.le_refl _) (.string l))
      clear hp2 hput hdr hWk hv e1 e2 hi hcnt
      subst hkc
      go_wp2_with fail
      exact HEnd.out (k + 1) (k + 1) _ HSc.out (Nat.le_refl _) (HP.out.all HSc.out.symm) HB.out
    · obtain ⟨e1, e2⟩ := split_at hi
      have hkc : k < c := by omega
      rw [e1] at hdr
      have hv := (List.cons.inj hdr).1
      have hrest := (List.cons.inj hdr).2
      have e3 := ext_takeY l m
      have e4 := ext_drop l (m + 1)
      have HI := Tryz.strings_Index_one l 32 wr2
      rw [hi] at HI
      have hp2 := hput (l.extract 0 m) (fun _ => by rw [e3, hv])
      have HP := Lib.hid hp2
      have HB := Lib.hid (hb.setCell (p := ⟨w'.heap.size, k, none⟩) (Nat.le_refl _) (.string (l.extract 0 m)))
      have HRest := Lib.hid hrest
      have HCt := Lib.hid hcnt
      have HE2 := Lib.hid e2
      have HE4 := Lib.hid e4
      have hm1 : (m : Int) ≤ l.size := by omega
      have hm2 : (m : Int) + 1 ≤ l.size := by omega
      clear hp2 hput hdr hWk hv e1 e2 hi hcnt hrest e3 e4
      have hkI : (k : Int) < c := by omega
      go_wp2_with (go_at_call 157; refine HI.mono ?_; rintro e w2 ⟨rfl, rfl⟩)
      exact ⟨⟨k + 1, l.extract (m + 1) l.size, by omega, rfl, by go_num, HP.out, by rw [HE4.out]; simpa using HRest.out, by rw [ByteArray.size_extract]; omega, by rw [HE4.out]; have := HE2.out; have := HCt.out; show List.count 32 (List.drop (m + 1) l.data.toList) + (k + 1) = c; omega, HB.out⟩, by simp [intOf]; omega⟩
theorem split_any (s : ByteArray) (w : World) (hs : s.size ≤ 100000000) : Calls Tryz.prog 92 #[.string s, .string ⟨#[32]⟩] w (SpEnd w s.data.toList) := by
  have H := gensplit_any s w hs
  have HEnd : Hid (∀ (c : Nat) (w' : World) (h1 : (splitW s.data.toList).length ≤ c) (h2 : ∀ j (h : j < (splitW s.data.toList).length), w'.cell? ⟨w.heap.size, j, none⟩ = some (.string ⟨(splitW s.data.toList)[j].toArray⟩)) (h3 : Below w.heap.size w w'), SpEnd w s.data.toList (.returned (.slice (some ⟨w.heap.size, 0, none⟩) (splitW s.data.toList).length c)) w') := fun c w' h1 h2 h3 => ⟨c, rfl, h1, h2, h3⟩
  unfold SpEnd at H
  generalize SpEnd w s.data.toList = R at *
  generalize splitW s.data.toList = W at *
  go_enter Tryz.func92, Tryz.ntmps92
  go_wp2_with (go_at_call 129; refine H.mono ?_; rintro e w' ⟨c, rfl, h1, h2, h3⟩)
  exact HEnd.out c w' h1 h2 h3
end Go.Proofs.YthadeccnibnioaaGreatDoor
