/- List. -/
import Derived.Test.YtcmnijpcinmbbaaGreatDoorPc
namespace Go.Proofs.YtcmnijpcinmbbaaGreatDoor
open Go.RowKit
set_option linter.unusedVariables false
section
variable {lo : Nat} {w : World} {B M : Nat} {uv : Value} {d : Ds} {n : Nat} {P : Pc}
set_option maxHeartbeats 1000000 in
theorem list1_any (h : DkS lo w B M uv d n) (hk : KpIs d.σ P) (hT : KT lo w) {id : Int} (hP : (P id).isSome = true) (bx : Nat) (hbx : w.cell? ⟨bx, 0, none⟩ = some (.pointer (some ⟨B, 0, none⟩))) :
    Calls Tryz.prog 28 #[.int .i64 id, .pointer (some ⟨bx, 0, none⟩)] w fun e w' => e = .returned (.bool false) ∧ Below w.heap.size w w' := by
  have HW := whole_any h hk hT (hk.ok id hP)
  rw [hP] at HW
  go_enter Tryz.func28, Tryz.ntmps28
  go_wp2_with (go_at_call 19; refine HW.mono ?_; rintro e w1 ⟨rfl, hb1⟩)
  go_ret
  exact ⟨rfl, hb1⟩
set_option maxRecDepth 100000 in
set_option maxHeartbeats 2000000 in
theorem index_none (h : DkS lo w B M uv d n) (hk : KpIs d.σ P) (hT : KT lo w) (bx : Nat) (hbx : w.cell? ⟨bx, 0, none⟩ = some (.pointer (some ⟨B, 0, none⟩))) (v : Value) (l : List Int) (ho : OwnI lo w v l) (hl : ∀ id ∈ l, (P id).isSome = true) (hlen : l.length ≤ 1000000) :
    Calls Tryz.prog 48 #[v, .func (.func 28) #[] #[.pointer (some ⟨bx, 0, none⟩)]] w fun e w' => e = .returned (.int .i64 (-1)) ∧ Below w.heap.size w w' := by
  obtain ⟨A, cap, rfl, hc1, hc2, hg⟩ := ownI_slice ho
  go_enter Tryz.func48, Tryz.ntmps48
  go_wp2
  go_loopw [8] (fun i wr => ∃ k : Nat, k ≤ l.length ∧ i = .int .i64 k ∧ Below w.heap.size w wr) (fun i _ => l.length - (intOf i).toNat)
  case atStart => exact ⟨0, Nat.zero_le _, rfl, Below.refl _ _⟩
  case round =>
    obtain ⟨k, hkl, rfl, hbr⟩ := hrel
    by_cases hlt : k < l.length
    · have hi1 : (k : Int) < (l.length : Int) := by omega
      obtain ⟨g, rfl, hg1, hg2⟩ := hg (by intro e; subst e; simp at hlt)
      have ck : wr.cell? ⟨g, k, none⟩ = some (.int .i64 l[k]) := (hbr.cell (p := ⟨g, k, none⟩) hg2).trans (ownI_cell ho k hlt)
      have ck' : wr.cell? ⟨g, 0 + k, none⟩ = some (.int .i64 l[k]) := by rw [Nat.zero_add]; exact ck
      have HL := list1_any (h.keep hbr) hk (hT.on (hbr.mono h.lole)) (hl _ (List.getElem_mem hlt)) bx ((hbr.cell (p := ⟨bx, 0, none⟩) (block_lt_of_cell hbx)).trans hbx)
      generalize l[k] = x at *
      go_wp2_with (go_at_call 28; refine HL.mono ?_; rintro e u1 ⟨rfl, b1⟩; refine Hid.out ?_)
      refine Lib.hid ?_
      go_wp2_with fail
      go_roundw
      case rel => exact ⟨k + 1, by omega, by go_num, hbr.trans (b1.mono hbr.size)⟩
      case measure => simp [intOf]; omega
    · have hi1 : ¬ (k : Int) < (l.length : Int) := by omega
      go_wp2
      go_ret
      exact ⟨rfl, hbr⟩
set_option maxHeartbeats 2000000 in
theorem delete_none (h : DkS lo w B M uv d n) (hk : KpIs d.σ P) (hT : KT lo w) (bx : Nat) (hbx : w.cell? ⟨bx, 0, none⟩ = some (.pointer (some ⟨B, 0, none⟩))) (v : Value) (l : List Int) (ho : OwnI lo w v l) (hl : ∀ id ∈ l, (P id).isSome = true) (hlen : l.length ≤ 1000000) :
    Calls Tryz.prog 27 #[v, .func (.func 28) #[] #[.pointer (some ⟨bx, 0, none⟩)]] w fun e w' => e = .returned v ∧ Below w.heap.size w w' := by
  have HI := index_none h hk hT bx hbx v l ho hl hlen
  obtain ⟨A, cap, rfl, hc1, hc2, hg⟩ := ownI_slice ho
  go_enter Tryz.func27, Tryz.ntmps27
  go_wp2_with (go_at_call 48; refine HI.mono ?_; rintro e u ⟨rfl, b1⟩)
  go_ret
  exact ⟨rfl, b1⟩
set_option maxHeartbeats 2000000 in
theorem list_any (h : DkS lo w B M uv d n) (hk : KpIs d.σ P) (hT : KT lo w) (hn : n ≤ 1000000) :
    Calls Tryz.prog 11 #[.pointer (some ⟨B, 0, none⟩)] w (IdsEnd w P n) := by
  have hal : Below w.heap.size w (w.alloc (.cells #[.pointer (some ⟨B, 0, none⟩)] 24)) := (Below.refl _ _).alloc (Nat.le_refl _) _
  have hlo := h.lole
  have HI := ids_any (h.keep hal) hk (hT.on (hal.mono hlo)) hn
  have hbx0 : (w.alloc (.cells #[.pointer (some ⟨B, 0, none⟩)] 24)).cell? ⟨w.heap.size, 0, none⟩ = some (.pointer (some ⟨B, 0, none⟩)) := by simp
  have hsz : (w.alloc (.cells #[.pointer (some ⟨B, 0, none⟩)] 24)).heap.size = w.heap.size + 1 := by simp
  have HD := Lib.hid (fun (w1 : World) (hb : Below w.heap.size w w1) (hx : w1.cell? ⟨w.heap.size, 0, none⟩ = some (.pointer (some ⟨B, 0, none⟩))) (v : Value) (l : List Int) (hO : OwnI w.heap.size w1 v l) (hl : ∀ id ∈ l, (P id).isSome = true) (hlen : l.length ≤ 1000000) => delete_none (h.keep hb) hk (hT.on (hb.mono hlo)) w.heap.size hx v l (ownI_mono hO hlo) hl hlen)
  go_enter Tryz.func11, Tryz.ntmps11
  go_wp2_with (go_at_call 25; refine HI.mono ?_; rintro e w1 ⟨v, l, rfl, hl, ho, hln, hb1⟩; refine Hid.out ?_)
  refine Lib.hid ?_
  have hb01 : Below w.heap.size w w1 := hal.trans (hb1.mono (by omega))
  have hx1 : w1.cell? ⟨w.heap.size, 0, none⟩ = some (.pointer (some ⟨B, 0, none⟩)) := (hb1.cell (p := ⟨w.heap.size, 0, none⟩) (by simp)).trans hbx0
  have ho' := ownI_mono ho (show w.heap.size ≤ _ by omega)
  have HD1 := HD.out w1 hb01 hx1 v l ho' (fun id hid => (hl.2 id).1 hid) (by omega)
  clear HD
  go_wp2_with (go_at_call 27; refine HD1.mono ?_; rintro e w2 ⟨rfl, hb2⟩)
  go_ret
  exact ⟨v, l, rfl, hl, ownI_keep ho' hb2, hln, hb01.trans (hb2.mono hb01.size)⟩
end
end Go.Proofs.YtcmnijpcinmbbaaGreatDoor
