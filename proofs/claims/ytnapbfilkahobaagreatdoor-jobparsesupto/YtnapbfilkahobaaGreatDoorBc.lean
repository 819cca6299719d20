/- weirgatebig: products. -/
import Derived.Test.YtnapbfilkahobaaGreatDoorBb
namespace Go.Proofs.YtnapbfilkahobaaGreatDoor
open Go.RowKit

theorem bel_dr {B : Nat} {a w : World} (h : Below B a w) (n : Nat) : Below B a (w.drewN n) := ⟨h.os, h.tape, h.output, h.size, h.block⟩

theorem mul_zero {w : World} {x y : Value} {a b : List Nat} (ha : Wv w x a) (hb : Wv w y b) (h : a = [] ∨ b = []) :
    Calls Tryz.prog 216 #[x, y] w fun e w' => e = .returned (.slice none 0 0) ∧ w = w' := by
  obtain ⟨A, ca, rfl, -, -⟩ := ha
  obtain ⟨B, cb, rfl, -, -⟩ := hb
  by_cases h0 : a = []
  · subst h0
    go_enter Tryz.func216, Tryz.ntmps216
    go_wp2_with fail
    go_ret
    exact ⟨rfl, rfl⟩
  · have hb0 : b = [] := by rcases h with h | h; exact absurd h h0; exact h
    subst hb0
    have hp : 0 < a.length := List.length_pos_iff.2 h0
    have hpI : ((a.length : Int) == 0) = false := beq_eq_false_iff_ne.2 (by omega)
    go_enter Tryz.func216, Tryz.ntmps216
    go_wp2_with fail
    go_ret
    exact ⟨rfl, rfl⟩

set_option maxHeartbeats 8000000 in
set_option maxRecDepth 100000 in
theorem mul_pos {w : World} {A B : Option Addr} {a b : List Nat} {ca cb : Nat} (ha : U32s w A a) (hb : U32s w B b) (wa : Wds a) (wb : Wds b) (h1 : 0 < a.length) (h2 : 0 < b.length) (hs1 : a.length ≤ 1000) (hs2 : b.length ≤ 1000) :
    Calls Tryz.prog 216 #[.slice A a.length ca, .slice B b.length cb] w fun e w' => ∃ v, e = .returned v ∧ Wv w' v (wl (nv a * nv b)) ∧ Below w.heap.size w w' := by
  have hmk : ∀ w : World, (Instr.makeSlice 83 (.int .i64 ((a.length : Int) + (b.length : Int))) (.int .i64 ((a.length : Int) + (b.length : Int)))).run Tryz.prog w = .ok (.slice (some ⟨w.heap.size, 0, none⟩) (a.length + b.length) (a.length + b.length)) (w.alloc (.cells (madeCells #[.int .u32 0] (a.length + b.length)) 194)) := by
    have := run_make_row' (P := Tryz.prog) 83 194 (.int .u32 0) 4 Tryz.underlying83 Tryz.infoU rfl .i64 .i64 (a.length + b.length) (by omega) (by omega)
    intro w; have h := this w; push_cast at h; exact h
  have q1 : ((a.length : Int) == 0) = false := beq_eq_false_iff_ne.2 (by omega)
  have q2 : ((b.length : Int) == 0) = false := beq_eq_false_iff_ne.2 (by omega)
  have hR : RowU (w.alloc (.cells (madeCells #[.int .u32 0] (a.length + b.length)) 194)) w.heap.size (List.replicate (a.length + b.length) 0) := RowU.made w _
  have hB : Below w.heap.size w (w.alloc (.cells (madeCells #[.int .u32 0] (a.length + b.length)) 194)) := (Below.refl _ _).alloc (Nat.le_refl _) _
  obtain ⟨ba, oa, rfl, cA⟩ := ha.at h1
  obtain ⟨bb, ob, rfl, cB⟩ := hb.at h2
  have la : ba < w.heap.size := World.block_lt_of_cell? _ _ (cA 0 h1)
  have lb : bb < w.heap.size := World.block_lt_of_cell? _ _ (cB 0 h2)
  have HA := Lib.hid cA
  have HB := Lib.hid cB
  clear cA cB ha hb
  go_enter Tryz.func216, Tryz.ntmps216
  go_wp2_with fail
  generalize w.alloc (.cells (madeCells #[.int .u32 0] (a.length + b.length)) 194) = w1 at *
  obtain ⟨g, hg⟩ : ∃ g, g = w.heap.size := ⟨_, rfl⟩
  have hgB : w.heap.size ≤ g := by omega
  rw [← hg] at hR ⊢
  clear hg hmk
  go_loopw [6] (fun i wr => ∃ (k : Nat) (r : List Nat), k ≤ a.length ∧ i = .int .i64 k ∧ Hid (MulI a b r k 0 0) ∧ RowU wr g r ∧ Below w.heap.size w wr) (fun i _ => a.length - (intOf i).toNat)
  case atStart => exact ⟨0, _, by omega, rfl, MulI.start a b, hR, hB⟩
  case round =>
    obtain ⟨k, r, hk, rfl, HI, hr, hbw⟩ := hrel
    clear hR hB
    by_cases hlt : k < a.length
    · have hkI : (k : Int) < a.length := by omega
      go_wp2_with fail
      go_loopw [7, 8] (fun c j wr => ∃ (p cc : Nat) (r : List Nat), p ≤ b.length ∧ j = .int .i64 p ∧ c = .int .u64 cc ∧ Hid (MulI a b r k p cc) ∧ cc < 4294967296 ∧ RowU wr g r ∧ Below w.heap.size w wr) (fun _ j _ => b.length - (intOf j).toNat)
      case atStart => exact ⟨0, 0, r, by omega, rfl, rfl, HI, by omega, hr, hbw⟩
      case round =>
        obtain ⟨p, cc, r, hp, rfl, rfl, HI, hcc, hr, hbw⟩ := hrel
        have hrl := HI.out.len
        by_cases hpl : p < b.length
        · have hpI : (p : Int) < b.length := by omega
          have ca' : wr.cell? ⟨ba, oa + k, none⟩ = some (.int .u32 ((wd a k : Nat) : Int)) := by rw [World.cell?_of_block (w := w) (hbw.block _ la)]; exact HA.out k hlt
          have cb' : wr.cell? ⟨bb, ob + p, none⟩ = some (.int .u32 ((wd b p : Nat) : Int)) := by rw [World.cell?_of_block (w := w) (hbw.block _ lb)]; exact HB.out p hpl
          have cr := hr.cell (k + p) (by omega)
          have fr := hr.fz (k + p)
          have xa := wd_lt wa k
          have xb := wd_lt wb p
          have xr := wd_lt HI.out.wds (k + p)
          have HS := Lib.hid (HI.out.step wa wb hlt hpl)
          generalize wd a k = x at *
          generalize wd b p = y at *
          generalize wd r (k + p) = z at *
          have hm : x * y ≤ 18446744065119617025 := Nat.le_trans (Nat.mul_le_mul (show x ≤ 4294967295 by omega) (show y ≤ 4294967295 by omega)) (by omega)
          obtain ⟨m, hm2⟩ : ∃ m, m = x * y := ⟨_, rfl⟩
          rw [← hm2] at hm HS
          have hxy : (x : Int) * (y : Int) = (m : Int) := by rw [hm2]; push_cast; rfl
          have b3 : ((k : Int) + (p : Int)).toNat = k + p := by omega
          have b4 : (0 : Int) ≤ (k : Int) + (p : Int) := by omega
          have b5 : (k : Int) + (p : Int) < (a.length : Int) + (b.length : Int) := by omega
          have hw1 : IntKind.i64.wrap ((k : Int) + (p : Int)) = (k : Int) + (p : Int) := by rw [IntKind.wrap_i64]; omega
          have hwm : IntKind.u64.wrap ((x : Int) * (y : Int)) = (m : Int) := by rw [hxy, IntKind.wrap_u64]; omega
          have hw2 : IntKind.u64.wrap ((m : Int) + (z : Int)) = (m : Int) + z := by rw [IntKind.wrap_u64]; omega
          have hw3 : IntKind.u64.wrap ((cc : Int) + ((m : Int) + (z : Int))) = (cc : Int) + (m + z) := by rw [IntKind.wrap_u64]; omega
          have hcast : ((cc : Int) + ((m : Int) + z)) % 4294967296 = (((cc + (m + z)) % 4294967296 : Nat) : Int) := by omega
          have hcast2 : ((cc : Int) + ((m : Int) + z)) / 4294967296 = (((cc + (m + z)) / 4294967296 : Nat) : Int) := by omega
          have HC := Lib.hid hcast
          have HC2 := Lib.hid hcast2
          clear hm2 hcast hcast2
          go_wp2_with fail
          go_quiet (fail)
          go_wp2_with fail
          rw [HC.out, HC2.out]
          exact ⟨⟨p + 1, _, _, by omega, by go_num, rfl, HS.out, HS.out.car, (show RowU (wr.drewN nq) g r from hr).set (k + p) _, (bel_dr hbw nq).setCell hgB _⟩, by simp [intOf]; omega⟩
        · have hp' : p = b.length := by omega
          subst hp'
          have hpI : ¬ (b.length : Int) < b.length := by omega
          have HS := Lib.hid (HI.out.row hlt)
          have cr := hr.cell (k + b.length) (by omega)
          have fr := hr.fz (k + b.length)
          generalize wd r (k + b.length) = z at *
          have hw1 : IntKind.i64.wrap ((k : Int) + (b.length : Int)) = (k : Int) + (b.length : Int) := by rw [IntKind.wrap_i64]; omega
          have b3 : ((k : Int) + (b.length : Int)).toNat = k + b.length := by omega
          have b4 : (0 : Int) ≤ (k : Int) + (b.length : Int) := by omega
          have b5 : (k : Int) + (b.length : Int) < (a.length : Int) + (b.length : Int) := by omega
          have hr2 := hr.set (k + b.length) cc
          have hb2 : Below w.heap.size w (wr.setCell ⟨g, k + b.length, none⟩ (.int .u32 (cc : Int))) := hbw.setCell hgB _
          clear HI hr
          go_wp2_with fail
          exact ⟨⟨k + 1, _, by omega, by go_num, HS.out, hr2, hb2⟩, by simp [intOf]; omega⟩
    · have hk' : k = a.length := by omega
      subst hk'
      have hkI : ¬ (a.length : Int) < a.length := by omega
      have hd := HI.out.done
      have hrl := HI.out.len
      have ct := trim_any g (a.length + b.length) r wr hr.u (by omega) (by omega)
      rw [trim_wl _ HI.out.wds, hd, hrl] at ct
      clear HI hd hrl
      go_wp2_with (go_at_call 150; refine ct.mono ?_; rintro e w' ⟨v, rfl, hW, rfl⟩)
      go_ret
      exact ⟨_, rfl, hW, hbw⟩

theorem mul_any {w : World} {x y : Value} {a b : List Nat} (ha : Wv w x a) (hb : Wv w y b) (wa : Wds a) (wb : Wds b) (h1 : a.length ≤ 1000) (h2 : b.length ≤ 1000) :
    Calls Tryz.prog 216 #[x, y] w fun e w' => ∃ v, e = .returned v ∧ Wv w' v (wl (nv a * nv b)) ∧ Below w.heap.size w w' := by
  by_cases h : a = [] ∨ b = []
  · refine (mul_zero ha hb h).mono ?_
    rintro e w' ⟨rfl, rfl⟩
    refine ⟨_, rfl, ?_, Below.refl _ _⟩
    have e0 : nv a * nv b = 0 := by rcases h with h | h <;> simp [h, nv_nil]
    rw [e0, wl_zero]; exact Wv.nil w
  · obtain ⟨A, ca, rfl, -, ua⟩ := ha
    obtain ⟨B, cb, rfl, -, ub⟩ := hb
    have p1 : 0 < a.length := List.length_pos_iff.2 (fun e => h (.inl e))
    have p2 : 0 < b.length := List.length_pos_iff.2 (fun e => h (.inr e))
    exact mul_pos ua ub wa wb p1 p2 h1 h2
end Go.Proofs.YtnapbfilkahobaaGreatDoor
