/- What a tree comes to; what a text comes to. -/
import Derived.Test.YtppkjiihmlphbaaGreatDoorRn
namespace Go.Proofs.YtppkjiihmlphbaaGreatDoor
open Go.RowKit

def OkT : Tm → Prop
  | .num _ => True
  | .vn => True
  | .vs => True
  | .neg a => OkT a
  | .two op a b => op ∈ okOps ∧ OkT a ∧ OkT b
  | .cond a b c => OkT a ∧ OkT b ∧ OkT c

theorem gr_ok {d l : Nat} {s : List UInt8} {t : Tm} (h : Gr d l s t) : OkT t := by
  induction h with
  | num => trivial
  | vn => trivial
  | vs => trivial
  | brk _ ih => exact ih
  | mn _ _ iha ihb => exact ⟨by decide, iha, ihb⟩
  | mx _ _ iha ihb => exact ⟨by decide, iha, ihb⟩
  | neg _ ih => exact ih
  | mul op ho _ _ iha ihb => exact ⟨by simp at ho; rcases ho with rfl | rfl | rfl <;> decide, iha, ihb⟩
  | add op ho _ _ iha ihb => exact ⟨by simp at ho; rcases ho with rfl | rfl <;> decide, iha, ihb⟩
  | cmp op ho _ _ iha ihb => exact ⟨by simp at ho; rcases ho with rfl | rfl | rfl <;> decide, iha, ihb⟩
  | cond _ _ _ iha ihb ihc => exact ⟨iha, ihb, ihc⟩
  | up _ _ ih => exact ih

theorem cellN {w : World} {b i : Nat} {c : Array Value} {t : TypeId} (h : w.heap[b]? = some (.cells c t)) : w.cell? ⟨b, i, none⟩ = c[i]? := by simp [World.cell?, h]

theorem ofTwo_same (op : UInt8) (ho : op ∈ okOps) (a b : Int) (w : World) : Calls Tryz.prog 92 #[.int .u8 op.toNat, .int .i64 a, .int .i64 b] w fun e w' => e = .returned (.int .i64 (of2 op a b)) ∧ w' = w :=
  (ofTwo_any op ho a b w).mono fun _ _ ⟨h1, h2⟩ => ⟨h1, h2.symm⟩

theorem op_facts {op : UInt8} (ho : op ∈ okOps) : ¬ (op.toNat : Int) = 48 ∧ ¬ (op.toNat : Int) = 110 ∧ ¬ (op.toNat : Int) = 115 ∧ ¬ (op.toNat : Int) = 126 ∧ ¬ (op.toNat : Int) = 63 := by
  simp only [okOps, List.mem_cons, List.not_mem_nil, or_false] at ho
  rcases ho with rfl | rfl | rfl | rfl | rfl | rfl | rfl | rfl | rfl | rfl <;> decide

set_option maxHeartbeats 2000000 in
theorem value_any (n s : Int) : ∀ (t : Tm) (p lo : Nat) (w : World), Tr lo w t p → OkT t →
    Calls Tryz.prog 87 #[.pointer (some ⟨p, 0, none⟩), .int .i64 n, .int .i64 s] w fun e w' => e = .returned (.int .i64 (ev n s t)) ∧ ∃ m, w' = w.drewN m := by
  intro t
  induction t with
  | num v =>
    intro p lo w ht _
    obtain ⟨_, hv, h1⟩ := ht
    have c0 : w.cell? ⟨p, 0, none⟩ = some (.int .u8 48) := cellN h1
    have c1 : w.cell? ⟨p, 1, none⟩ = some (.int .i64 v) := cellN h1
    go_enter Tryz.func87, Tryz.ntmps87
    go_wp2_with fail
    go_ret
    exact ⟨rfl, 0, rfl⟩
  | vn =>
    intro p lo w ht _
    obtain ⟨_, h1⟩ := ht
    have c0 : w.cell? ⟨p, 0, none⟩ = some (.int .u8 110) := cellN h1
    go_enter Tryz.func87, Tryz.ntmps87
    go_wp2_with fail
    go_ret
    exact ⟨rfl, 0, rfl⟩
  | vs =>
    intro p lo w ht _
    obtain ⟨_, h1⟩ := ht
    have c0 : w.cell? ⟨p, 0, none⟩ = some (.int .u8 115) := cellN h1
    go_enter Tryz.func87, Tryz.ntmps87
    go_wp2_with fail
    go_ret
    exact ⟨rfl, 0, rfl⟩
  | neg a ih =>
    intro p lo w ht ho
    obtain ⟨_, q, pa, _, h1, h2, h3⟩ := ht
    have c0 : w.cell? ⟨p, 0, none⟩ = some (.int .u8 126) := cellN h1
    have c2 : w.cell? ⟨p, 2, none⟩ = some (.slice (some ⟨q, 0, none⟩) 1 1) := cellN h1
    have d0 : w.cell? ⟨q, 0, none⟩ = some (.pointer (some ⟨pa, 0, none⟩)) := cellN h2
    go_enter Tryz.func87, Tryz.ntmps87
    go_wp2_with (go_at_call 87; refine (ih pa lo w h3 ho).mono ?_; rintro e w' ⟨rfl, m, rfl⟩)
    go_ret
    exact ⟨ret_int (by simp [ev, wr_eq]), m, rfl⟩
  | two op a b iha ihb =>
    intro p lo w ht ho
    obtain ⟨_, q, pa, pb, _, h1, h2, h3, h4⟩ := ht
    obtain ⟨ho1, ho2, ho3⟩ := ho
    obtain ⟨g1, g2, g3, g4, g5⟩ := op_facts ho1
    have c0 : w.cell? ⟨p, 0, none⟩ = some (.int .u8 op.toNat) := cellN h1
    have c2 : w.cell? ⟨p, 2, none⟩ = some (.slice (some ⟨q, 0, none⟩) 2 2) := cellN h1
    have d0 : w.cell? ⟨q, 0, none⟩ = some (.pointer (some ⟨pa, 0, none⟩)) := cellN h2
    have d1 : w.cell? ⟨q, 1, none⟩ = some (.pointer (some ⟨pb, 0, none⟩)) := cellN h2
    have va := iha pa lo
    have vb := ihb pb lo
    have hfr : ∀ m, Fr [] w (w.drewN m) := fun m => (Fr.refl _ _).drewN m
    go_enter Tryz.func87, Tryz.ntmps87
    go_wp2_with fail
    go_quiet (first | (go_at_call_of 87 (Value.pointer (some ⟨pa, 0, none⟩)); refine Calls.quiet_of (va _ ?_ ho2); exact Tr.fr (hfr _) (by simp) _ _ h3) | (go_at_call_of 87 (Value.pointer (some ⟨pb, 0, none⟩)); refine Calls.quiet_of (vb _ ?_ ho3); exact Tr.fr (hfr _) (by simp) _ _ h4) | (go_at_call 92; exact Calls.quiet_of_same (ofTwo_same op ho1 _ _ _)))
    go_wp2_with fail
    go_ret
    exact ⟨rfl, nq, rfl⟩
  | cond a b c iha ihb ihc =>
    intro p lo w ht ho
    obtain ⟨_, q, pa, pb, pc, _, h1, h2, h3, h4, h5⟩ := ht
    obtain ⟨ho1, ho2, ho3⟩ := ho
    have c0 : w.cell? ⟨p, 0, none⟩ = some (.int .u8 63) := cellN h1
    have c2 : w.cell? ⟨p, 2, none⟩ = some (.slice (some ⟨q, 0, none⟩) 3 3) := cellN h1
    have d0 : w.cell? ⟨q, 0, none⟩ = some (.pointer (some ⟨pa, 0, none⟩)) := cellN h2
    have d1 : w.cell? ⟨q, 1, none⟩ = some (.pointer (some ⟨pb, 0, none⟩)) := cellN h2
    have d2 : w.cell? ⟨q, 2, none⟩ = some (.pointer (some ⟨pc, 0, none⟩)) := cellN h2
    have hfr : ∀ m, Fr [] w (w.drewN m) := fun m => (Fr.refl _ _).drewN m
    by_cases hz : ev n s a = 0
    · go_enter Tryz.func87, Tryz.ntmps87
      go_wp2_with (go_at_call 87; refine (iha pa lo w h3 ho1).mono ?_; rintro e w' ⟨rfl, m, rfl⟩; refine Hid.out ?_)
      refine Lib.hid ?_
      go_wp2_with (go_at_call 87; refine (ihc pc lo _ (Tr.fr (hfr _) (by simp) _ _ h5) ho3).mono ?_; rintro e w' ⟨rfl, m2, rfl⟩)
      go_ret
      exact ⟨ret_int (by simp [ev, hz]), m + m2, rfl⟩
    · go_enter Tryz.func87, Tryz.ntmps87
      go_wp2_with (go_at_call 87; refine (iha pa lo w h3 ho1).mono ?_; rintro e w' ⟨rfl, m, rfl⟩; refine Hid.out ?_)
      refine Lib.hid ?_
      go_wp2_with (go_at_call 87; refine (ihb pb lo _ (Tr.fr (hfr _) (by simp) _ _ h4) ho2).mono ?_; rintro e w' ⟨rfl, m2, rfl⟩)
      go_ret
      exact ⟨ret_int (by simp [ev, hz]), m + m2, rfl⟩
end Go.Proofs.YtppkjiihmlphbaaGreatDoor
