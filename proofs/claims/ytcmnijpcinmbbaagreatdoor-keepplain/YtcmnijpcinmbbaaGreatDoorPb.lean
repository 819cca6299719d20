/- The numbers of all pictures. -/
import Derived.Test.YtcmnijpcinmbbaaGreatDoorPa
import Derived.Sort.OwnSortedInts
namespace Go.Proofs.YtcmnijpcinmbbaaGreatDoor
open Go.RowKit
open Go.Sort (grow putRow Holds)
set_option linter.unusedVariables false
theorem infoInt8 : (Tryz.prog.info? 3).map (fun i => (i.zero, i.size, i.bytes)) = some (some (.int .i64 0), 1, 8) := by kernel_rfl
/-- Numbers that are owned. -/
abbrev OwnI (B : Nat) (w : World) (v : Value) (l : List Int) : Prop := w.ownsRow B 3 1 v l.length (l.map (Value.int .i64))
theorem ownI_slice {w : World} {B : Nat} {v : Value} {l : List Int} (h : OwnI B w v l) : ∃ A cap, v = .slice A l.length cap ∧ l.length ≤ cap ∧ cap ≤ maxLen ∧ (l ≠ [] → ∃ g, A = some ⟨g, 0, none⟩ ∧ B ≤ g ∧ g < w.heap.size) := by
  rcases h.2 with ⟨h0, h1⟩ | ⟨g, cap, cur, h0, hb, hg, hle, hm, hs, ht⟩
  · exact ⟨none, 0, by rw [h0, h1], by omega, Nat.zero_le _, fun h => absurd (List.length_eq_zero_iff.1 h1) h⟩
  · exact ⟨_, cap, h0, hle, hm, fun _ => ⟨g, rfl, hb, (Array.getElem?_eq_some_iff.1 hg).1⟩⟩
theorem ownI_cell {w : World} {B n cap g : Nat} {l : List Int} (h : w.ownsRow B 3 1 (.slice (some ⟨g, 0, none⟩) n cap) l.length (l.map (Value.int .i64))) (i : Nat) (hi : i < l.length) : w.cell? ⟨g, i, none⟩ = some (.int .i64 l[i]) := by
  rcases h.2 with ⟨h0, _⟩ | ⟨g', cap', cur, h0, _⟩
  · cases h0
  · simp at h0
    obtain ⟨rfl, rfl, rfl⟩ := h0
    rw [h.cellAt i (by omega)]
    simp [hi]
theorem ownI_mono {w : World} {B B' : Nat} {v : Value} {l : List Int} (h : OwnI B w v l) (hb : B' ≤ B) : OwnI B' w v l :=
  ⟨h.1, h.2.imp id fun ⟨g, cap, cur, h0, h1, h2⟩ => ⟨g, cap, cur, h0, Nat.le_trans hb h1, h2⟩⟩
theorem ownI_keep {w w' : World} {B : Nat} {v : Value} {l : List Int} (h : OwnI B w v l) (hb : Below w.heap.size w w') : OwnI B w' v l :=
  h.kept (row := none) ⟨hb.os, hb.tape, hb.output, hb.size, fun k hk _ => hb.block k hk⟩ (by cases v.ownBlock <;> simp)
/-- Sorted where it lies. -/
theorem sortI_any {w : World} {B : Nat} {v : Value} {l : List Int} (h : OwnI B w v l) (hl : l.length ≤ 1000000000) (hB : B ≤ w.heap.size) :
    Calls Tryz.prog 45 #[v] w fun e w' => (∃ u, e = .returned u) ∧ OwnI B w' v (l.mergeSort fun x y => decide (x ≤ y)) ∧ Below B w w' := by
  rcases h.2 with ⟨h0, h1⟩ | ⟨g, cap, cur, h0, hb, hg, hle, hm, hs, ht⟩
  · subst h0
    have hl0 := List.length_eq_zero_iff.1 h1
    subst hl0
    refine (Tryz.slices_Sort_int_none none 0 w).mono ?_
    rintro e w' ⟨rfl, rfl⟩
    exact ⟨⟨_, rfl⟩, by simpa using h, Below.refl _ _⟩
  · subst h0
    have hH : Holds (Value.int .i64) w g 0 l.toArray := holds_of_blockI hg (by simpa using ht)
    have hlt : g < w.heap.size := (Array.getElem?_eq_some_iff.1 hg).1
    refine (Tryz.slices_Sort_int g 0 cap l w hH hlt (by omega)).mono ?_
    rintro e w' ⟨rfl, n, os, rfl⟩
    refine ⟨⟨_, rfl⟩, ?_, ?_⟩
    · have := ownsRow_sortedI (w := w) (base := B) (g := g) (cap := cap) (n := n) (os := os) (ss := l) (ts := l.mergeSort fun x y => decide (x ≤ y)) (by simp) hb hg hle hm hs
      unfold OwnI
      rw [List.length_mergeSort]
      exact this
    · have hgr := grownBy_sortedI (w := w) (g := g) (n := n) (os := os) (l.mergeSort fun x y => decide (x ≤ y)).toArray
      exact (Below.refl _ _).grown hgr hB (fun k hk => by injection hk with hk; subst hk; exact hb)
/-- How the numbers are told. -/
def IdsEnd (w : World) (P : Pc) (n : Nat) (e : Ending) (w' : World) : Prop := ∃ v l, e = .returned v ∧ IdsIs P l ∧ OwnI w.heap.size w' v l ∧ l.length ≤ n ∧ Below w.heap.size w w'
section
variable {lo : Nat} {w : World} {B M : Nat} {uv : Value} {d : Ds} {n : Nat} {P : Pc}
set_option maxRecDepth 100000 in
set_option maxHeartbeats 4000000 in
theorem ids_any (h : DkS lo w B M uv d n) (hk : KpIs d.σ P) (hT : KT lo w) (hn : n ≤ 1000000) :
    Calls Tryz.prog 25 #[.pointer (some ⟨B, 0, none⟩)] w (IdsEnd w P n) := by
  obtain ⟨i0, hi, hz0, hz1, hz2⟩ := info_parts infoInt8
  have HN := names_any h (by omega)
  have hlo := h.lole
  have HI := Lib.hid (fun (w1 : World) (hb : Below w.heap.size w w1) (id : Int) (hid : IdOk id) => idOf_any (hT.on (hb.mono hlo)) (Nat.le_trans hlo hb.size) hid)
  obtain ⟨R, hR⟩ : ∃ R, R = IdsEnd w P n := ⟨_, rfl⟩
  rw [← hR]
  have HE := Lib.hid hR
  clear hR
  go_enter Tryz.func25, Tryz.ntmps25
  go_wp2_with (go_at_call 43; refine HN.mono ?_; rintro e w1 ⟨A1, c1, ns, rfl, hss, hnm, hlen, hfr, hb1⟩)
  obtain ⟨ids, rfl, hok, hnd, hmem⟩ := ids_of hk hnm
  have hll : ids.length ≤ n := by simpa using hlen
  have HM := Lib.hid (And.intro hnd hmem)
  clear hnm hlen HN hnd hmem
  go_loopw [3, 11] (fun v i wr => ∃ k : Nat, k ≤ ids.length ∧ i = .int .i64 k ∧ wr.ownsRow w1.heap.size 3 1 v k ((ids.take k).map (Value.int .i64)) ∧ Below w1.heap.size w1 wr) (fun _ i _ => ids.length - (intOf i).toNat)
  case atStart => exact ⟨0, Nat.zero_le _, rfl, World.ownsRow_nil _ _ _ _, Below.refl _ _⟩
  case round =>
    obtain ⟨k, hkl, rfl, hown, hbr⟩ := hrel
    have hbw : Below w.heap.size w wr := hb1.trans (hbr.mono hb1.size)
    have hs1 := hbr.size
    by_cases hlt : k < ids.length
    · have hi1 : (k : Int) < ((ids.map nmK).length : Nat) := by simp; omega
      rcases hss with hss | ⟨bb, bo, rfl, hss⟩
      · simp at hss; subst hss; simp at hlt
      have ck0 := hss k (by simp; exact hlt)
      have ck : wr.cell? ⟨bb, bo + k, none⟩ = some (.string (nmK ids[k])) := (hbr.cell (p := ⟨bb, bo + k, none⟩) (block_lt_of_cell ck0)).trans (ck0.trans (by simp))
      have hid := hok _ (List.getElem_mem hlt)
      have HI1 := HI.out wr hbw ids[k] hid
      have HT := Lib.hid (show (ids.take (k + 1)).map (Value.int .i64) = (ids.take k).map (Value.int .i64) ++ [.int .i64 ids[k]] by rw [List.take_succ_eq_append_getElem hlt, List.map_append]; rfl)
      clear hss ck0
      generalize nmK ids[k] = nm at *
      generalize ids[k] = id at *
      generalize (ids.take k).map (Value.int .i64) = vs at *
      generalize (ids.map nmK).length = nl at *
      go_wp2_with (go_at_call 44; refine HI1.mono ?_; rintro e u1 ⟨rfl, bu1⟩; refine Hid.out ?_)
      refine Lib.hid ?_
      have own1 : u1.ownsRow w1.heap.size 3 1 _ k vs := own_keep hown bu1
      have hbu : Below w1.heap.size w1 u1 := hbr.trans (bu1.mono hs1)
      have hsu := hbu.size
      clear hown ck
      go_wp2_with (at_builtin; refine wpList_append_own _ rfl _ _ 22 rfl w1.heap.size 3 i0 (.int .i64 0) 1 8 Tryz.underlying22 hi hz0 hz1 hz2 rfl (by decide) _ _ _ rfl (own1.alloc _) ⟨u1.heap.size, 0, none⟩ 1 1 [.int .i64 id] rfl rfl (by intro j u' hj; match j, hj with | 0, hj => simp at hj; subst hj; simp [Addr.add]) (by intro u' hu'; simp at hu'; subst hu'; rfl) (by unfold maxLen; omega) (by omega) (by simp; omega) ?_)
      intro v3 u3 o3 g3 _
      refine Hid.out ?_
      refine Lib.hid ?_
      have B5 : Below w1.heap.size w1 u3 := (hbu.alloc hsu _).grown g3 (by simp; omega) (fun j hj => by have := (own1.lt j hj).1; omega)
      clear g3 own1
      go_wp2_with fail
      go_roundw
      case rel => exact ⟨k + 1, by omega, by go_num, by rw [HT.out]; exact o3, B5⟩
      case measure => simp [intOf]; omega
    · have hke : k = ids.length := by omega
      subst hke
      have hi1 : ¬ (ids.length : Int) < ((ids.map nmK).length : Nat) := by simp
      rw [List.take_length] at hown
      obtain ⟨A2, c2, hv2, -⟩ := ownI_slice hown
      have HS := sortI_any hown (by omega) hs1
      subst hv2
      have hlm : (ids.mergeSort fun x y => decide (x ≤ y)).length = ids.length := List.length_mergeSort _
      go_wp2_with (go_at_call 45; refine HS.mono ?_; rintro e u1 ⟨⟨r1, rfl⟩, o1, b1⟩)
      rw [HE.out]
      have hbf : Below w.heap.size w u1 := hbw.trans (b1.mono hb1.size)
      exact ⟨_, _, rfl, ids_sorted HM.out.1 HM.out.2 (List.mergeSort_perm _ _).symm ((List.pairwise_mergeSort (le := fun x y : Int => decide (x ≤ y)) (fun a b c h1 h2 => by simp at h1 h2 ⊢; omega) (fun a b => by simp; omega) ids).imp (fun h => by simpa using h)), ownI_mono o1 hb1.size, by rw [hlm]; exact hll, hbf⟩
end
end Go.Proofs.YtcmnijpcinmbbaaGreatDoor
