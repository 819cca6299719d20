/- weirgatebig: sums. -/
import Derived.Test.YtnapbfilkahobaaGreatDoorBa
namespace Go.Proofs.YtnapbfilkahobaaGreatDoor
open Go.RowKit

theorem Tryz.infoU : (Tryz.prog.info? 194).map (fun i => (i.zero, i.size, i.bytes)) = some (some (.int .u32 0), 1, 4) := by kernel_rfl

set_option maxHeartbeats 4000000 in
set_option maxRecDepth 100000 in
/-- The sum where the first has at least as many words. -/
theorem add_ge {w : World} {A B : Option Addr} {a b : List Nat} {ca cb : Nat} (ha : U32s w A a) (hb : U32s w B b) (wa : Wds a) (wb : Wds b) (hl : b.length ≤ a.length) (hs : a.length ≤ 1000) :
    Calls Tryz.prog 215 #[.slice A a.length ca, .slice B b.length cb] w fun e w' => ∃ v, e = .returned v ∧ Wv w' v (wl (nv a + nv b)) ∧ Below w.heap.size w w' := by
  have hmk : ∀ w : World, (Instr.makeSlice 83 (.int .i64 ((a.length : Int) + 1)) (.int .i64 ((a.length : Int) + 1))).run Tryz.prog w = .ok (.slice (some ⟨w.heap.size, 0, none⟩) (a.length + 1) (a.length + 1)) (w.alloc (.cells (madeCells #[.int .u32 0] (a.length + 1)) 194)) := by
    have := run_make_row' (P := Tryz.prog) 83 194 (.int .u32 0) 4 Tryz.underlying83 Tryz.infoU rfl .i64 .i64 (a.length + 1) (by omega) (by omega)
    intro w; have h := this w; push_cast at h; exact h
  have hlI : ¬ (a.length : Int) < b.length := by omega
  have hR : RowU (w.alloc (.cells (madeCells #[.int .u32 0] (a.length + 1)) 194)) w.heap.size (List.replicate (a.length + 1) 0) := RowU.made w _
  have hB : Below w.heap.size w (w.alloc (.cells (madeCells #[.int .u32 0] (a.length + 1)) 194)) := (Below.refl _ _).alloc (Nat.le_refl _) _
  go_enter Tryz.func215, Tryz.ntmps215
  go_wp2_with fail
  generalize w.alloc (.cells (madeCells #[.int .u32 0] (a.length + 1)) 194) = w1 at *
  obtain ⟨g, hg⟩ : ∃ g, g = w.heap.size := ⟨_, rfl⟩
  have hgB : w.heap.size ≤ g := by omega
  rw [← hg] at hR ⊢
  clear hg hmk
  go_loopw [6, 7] (fun c i wr => ∃ (k cc : Nat) (r : List Nat), k ≤ a.length ∧ i = .int .i64 k ∧ c = .int .u64 cc ∧ Hid (AddI a b r k cc) ∧ cc ≤ 1 ∧ RowU wr g r ∧ Below w.heap.size w wr) (fun _ i _ => a.length - (intOf i).toNat)
  case atStart => exact ⟨0, 0, _, by omega, rfl, rfl, AddI.start a b, by omega, hR, hB⟩
  case round =>
    obtain ⟨k, cc, r, hk, rfl, rfl, HI, hcc, hr, hbw⟩ := hrel
    clear hR hB
    have hrl := HI.out.len
    by_cases hlt : k < a.length
    · have hkI : (k : Int) < a.length := by omega
      obtain ⟨ba, oa, rfl, ca'⟩ := (ha.of hbw).at (by omega)
      have cak := ca' k hlt
      have cr := hr.cell k (by omega)
      have fr := hr.fz k
      have xa := wd_lt wa k
      have xb := wd_lt wb k
      have HS := Lib.hid (HI.out.step wa wb hlt)
      by_cases hlb : k < b.length
      · have hbI : (k : Int) < b.length := by omega
        obtain ⟨bb, ob, rfl, cb'⟩ := (hb.of hbw).at (by omega)
        have cbk := cb' k hlb
        generalize wd a k = x at *
        generalize wd b k = y at *
        generalize wd r k = z at *
        have hcast : ((cc : Int) + x + y) % 4294967296 = (((cc + x + y) % 4294967296 : Nat) : Int) := by omega
        have hcast2 : ((cc : Int) + x + y) / 4294967296 = (((cc + x + y) / 4294967296 : Nat) : Int) := by omega
        have HC := Lib.hid hcast
        have HC2 := Lib.hid hcast2
        clear ca' cb' hcast hcast2 HI
        go_wp2_with fail
        rw [HC.out, HC2.out]
        exact ⟨⟨k + 1, _, _, by omega, by go_num, rfl, HS.out, HS.out.car, hr.set k _, hbw.setCell hgB _⟩, by simp [intOf]; omega⟩
      · have hbI : ¬ (k : Int) < b.length := by omega
        have hy : wd b k = 0 := by simp [wd, List.getD, List.getElem?_eq_none (Nat.le_of_not_lt hlb)]
        rw [hy] at HS
        generalize wd a k = x at *
        generalize wd r k = z at *
        have hcast : ((cc : Int) + x) % 4294967296 = (((cc + x + 0) % 4294967296 : Nat) : Int) := by omega
        have hcast2 : ((cc : Int) + x) / 4294967296 = (((cc + x + 0) / 4294967296 : Nat) : Int) := by omega
        have HC := Lib.hid hcast
        have HC2 := Lib.hid hcast2
        clear ca' hcast hcast2 HI
        go_wp2_with fail
        rw [HC.out, HC2.out]
        exact ⟨⟨k + 1, _, _, by omega, by go_num, rfl, HS.out, HS.out.car, hr.set k _, hbw.setCell hgB _⟩, by simp [intOf]; omega⟩
    · have hk' : k = a.length := by omega
      subst hk'
      obtain ⟨d1, d2⟩ := HI.out.done hl
      have cr := hr.cell a.length (by omega)
      have fr := hr.fz a.length
      have hr2 := hr.set a.length cc
      have hb2 : Below w.heap.size w (wr.setCell ⟨g, a.length, none⟩ (.int .u32 (cc : Int))) := hbw.setCell hgB _
      have ct := trim_any g (a.length + 1) (r.set a.length cc) _ hr2.u (by simp; omega) (by simp; omega)
      rw [trim_wl _ d1, d2] at ct
      have e1 : (r.set a.length cc).length = a.length + 1 := by simp; omega
      rw [e1] at ct
      have hcm : (cc : Int) % 4294967296 = cc := by omega
      clear HI d1 d2 hr2 e1
      go_wp2_with (go_at_call 150; refine ct.mono ?_; rintro e w' ⟨v, rfl, hW, rfl⟩)
      go_ret
      exact ⟨_, rfl, hW, hb2⟩

set_option maxHeartbeats 4000000 in
set_option maxRecDepth 100000 in
/-- The sum where the first has fewer words. -/
theorem add_lt {w : World} {A B : Option Addr} {a b : List Nat} {ca cb : Nat} (ha : U32s w A a) (hb : U32s w B b) (wa : Wds a) (wb : Wds b) (hl' : b.length < a.length) (hs : a.length ≤ 1000) :
    Calls Tryz.prog 215 #[.slice B b.length cb, .slice A a.length ca] w fun e w' => ∃ v, e = .returned v ∧ Wv w' v (wl (nv b + nv a)) ∧ Below w.heap.size w w' := by
  have hmk : ∀ w : World, (Instr.makeSlice 83 (.int .i64 ((a.length : Int) + 1)) (.int .i64 ((a.length : Int) + 1))).run Tryz.prog w = .ok (.slice (some ⟨w.heap.size, 0, none⟩) (a.length + 1) (a.length + 1)) (w.alloc (.cells (madeCells #[.int .u32 0] (a.length + 1)) 194)) := by
    have := run_make_row' (P := Tryz.prog) 83 194 (.int .u32 0) 4 Tryz.underlying83 Tryz.infoU rfl .i64 .i64 (a.length + 1) (by omega) (by omega)
    intro w; have h := this w; push_cast at h; exact h
  have hlI : (b.length : Int) < a.length := by omega
  have hl : b.length ≤ a.length := by omega
  have hR : RowU (w.alloc (.cells (madeCells #[.int .u32 0] (a.length + 1)) 194)) w.heap.size (List.replicate (a.length + 1) 0) := RowU.made w _
  have hB : Below w.heap.size w (w.alloc (.cells (madeCells #[.int .u32 0] (a.length + 1)) 194)) := (Below.refl _ _).alloc (Nat.le_refl _) _
  go_enter Tryz.func215, Tryz.ntmps215
  go_wp2_with fail
  generalize w.alloc (.cells (madeCells #[.int .u32 0] (a.length + 1)) 194) = w1 at *
  obtain ⟨g, hg⟩ : ∃ g, g = w.heap.size := ⟨_, rfl⟩
  have hgB : w.heap.size ≤ g := by omega
  rw [← hg] at hR ⊢
  clear hg hmk
  go_loopw [6, 7] (fun c i wr => ∃ (k cc : Nat) (r : List Nat), k ≤ a.length ∧ i = .int .i64 k ∧ c = .int .u64 cc ∧ Hid (AddI a b r k cc) ∧ cc ≤ 1 ∧ RowU wr g r ∧ Below w.heap.size w wr) (fun _ i _ => a.length - (intOf i).toNat)
  case atStart => exact ⟨0, 0, _, by omega, rfl, rfl, AddI.start a b, by omega, hR, hB⟩
  case round =>
    obtain ⟨k, cc, r, hk, rfl, rfl, HI, hcc, hr, hbw⟩ := hrel
    clear hR hB
    have hrl := HI.out.len
    by_cases hlt : k < a.length
    · have hkI : (k : Int) < a.length := by omega
      obtain ⟨ba, oa, rfl, ca'⟩ := (ha.of hbw).at (by omega)
      have cak := ca' k hlt
      have cr := hr.cell k (by omega)
      have fr := hr.fz k
      have xa := wd_lt wa k
      have xb := wd_lt wb k
      have HS := Lib.hid (HI.out.step wa wb hlt)
      by_cases hlb : k < b.length
      · have hbI : (k : Int) < b.length := by omega
        obtain ⟨bb, ob, rfl, cb'⟩ := (hb.of hbw).at (by omega)
        have cbk := cb' k hlb
        generalize wd a k = x at *
        generalize wd b k = y at *
        generalize wd r k = z at *
        have hcast : ((cc : Int) + x + y) % 4294967296 = (((cc + x + y) % 4294967296 : Nat) : Int) := by omega
        have hcast2 : ((cc : Int) + x + y) / 4294967296 = (((cc + x + y) / 4294967296 : Nat) : Int) := by omega
        have HC := Lib.hid hcast
        have HC2 := Lib.hid hcast2
        clear ca' cb' hcast hcast2 HI
        go_wp2_with fail
        rw [HC.out, HC2.out]
        exact ⟨⟨k + 1, _, _, by omega, by go_num, rfl, HS.out, HS.out.car, hr.set k _, hbw.setCell hgB _⟩, by simp [intOf]; omega⟩
      · have hbI : ¬ (k : Int) < b.length := by omega
        have hy : wd b k = 0 := by simp [wd, List.getD, List.getElem?_eq_none (Nat.le_of_not_lt hlb)]
        rw [hy] at HS
        generalize wd a k = x at *
        generalize wd r k = z at *
        have hcast : ((cc : Int) + x) % 4294967296 = (((cc + x + 0) % 4294967296 : Nat) : Int) := by omega
        have hcast2 : ((cc : Int) + x) / 4294967296 = (((cc + x + 0) / 4294967296 : Nat) : Int) := by omega
        have HC := Lib.hid hcast
        have HC2 := Lib.hid hcast2
        clear ca' hcast hcast2 HI
        go_wp2_with fail
        rw [HC.out, HC2.out]
        exact ⟨⟨k + 1, _, _, by omega, by go_num, rfl, HS.out, HS.out.car, hr.set k _, hbw.setCell hgB _⟩, by simp [intOf]; omega⟩
    · have hk' : k = a.length := by omega
      subst hk'
      obtain ⟨d1, d2⟩ := HI.out.done hl
      have cr := hr.cell a.length (by omega)
      have fr := hr.fz a.length
      have hr2 := hr.set a.length cc
      have hb2 : Below w.heap.size w (wr.setCell ⟨g, a.length, none⟩ (.int .u32 (cc : Int))) := hbw.setCell hgB _
      have ct := trim_any g (a.length + 1) (r.set a.length cc) _ hr2.u (by simp; omega) (by simp; omega)
      rw [trim_wl _ d1, d2, Nat.add_comm (nv a) (nv b)] at ct
      have e1 : (r.set a.length cc).length = a.length + 1 := by simp; omega
      rw [e1] at ct
      have hcm : (cc : Int) % 4294967296 = cc := by omega
      clear HI d1 d2 hr2 e1
      go_wp2_with (go_at_call 150; refine ct.mono ?_; rintro e w' ⟨v, rfl, hW, rfl⟩)
      go_ret
      exact ⟨_, rfl, hW, hb2⟩

theorem add_any {w : World} {x y : Value} {a b : List Nat} (ha : Wv w x a) (hb : Wv w y b) (wa : Wds a) (wb : Wds b) (h1 : a.length ≤ 1000) (h2 : b.length ≤ 1000) :
    Calls Tryz.prog 215 #[x, y] w fun e w' => ∃ v, e = .returned v ∧ Wv w' v (wl (nv a + nv b)) ∧ Below w.heap.size w w' := by
  obtain ⟨A, ca, rfl, -, ua⟩ := ha
  obtain ⟨B, cb, rfl, -, ub⟩ := hb
  by_cases h : b.length ≤ a.length
  · exact add_ge ua ub wa wb h h1
  · exact add_lt ub ua wb wa (by omega) h2
end Go.Proofs.YtnapbfilkahobaaGreatDoor
