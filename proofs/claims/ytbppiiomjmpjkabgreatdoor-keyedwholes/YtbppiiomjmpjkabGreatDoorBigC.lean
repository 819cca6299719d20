/- Exclusive-or of two whole numbers of at most one word: low, of, Xor. -/
import Derived.Test.YtbppiiomjmpjkabGreatDoorBigB
import Derived.Laws.IdiomCopy
import Derived.Handy
import Derived.RegionTactic
import Derived.BigRegion
namespace Go.Proofs.YtbppiiomjmpjkabGreatDoor
open Go.RowKit

theorem Tryz.size39 : (Tryz.prog.info? 94).map (·.size) = some 1 := by kernel_rfl

theorem Wds.some {w : World} {A : Option Addr} {n cap : Nat} {l : List Int} (h : Wds w (.slice A n cap) l) (hl : 0 < l.length) : ∃ g, A = some ⟨g, 0, none⟩ ∧ n = l.length ∧ g < w.heap.size := by
  rcases h.2 with ⟨h0, h0'⟩ | ⟨g, cap', cur, h0, _, hc, _⟩
  · omega
  · simp at h0; exact ⟨g, h0.1, h0.2.1, (Array.getElem?_eq_some_iff.1 hc).1⟩

theorem low2_any (b : Nat) (l : List Int) (w : World) (h : IntAt w b l) (hl : l.length ≤ 1) :
    Calls Tryz.prog 48 #[.pointer (some ⟨b, 0, none⟩), .int .i64 2] w fun e w' => e = .returned (.slice (some ⟨w.heap.size, 0, none⟩) 2 2) ∧ w' = w.alloc (.cells #[.int .u32 (l.getD 0 0), .int .u32 0] 94) := by
  have hlt := h.lt
  obtain ⟨v, hb, hW⟩ := h
  have c0 : w.cell? ⟨b, 0, none⟩ = some (.bool false) := by simp [World.cell?, hb]
  have hmk : ∀ w, (Instr.makeSlice 90 (.int .i64 2) (.int .i64 2)).run Tryz.prog w = .ok (.slice (some ⟨w.heap.size, 0, none⟩) 2 2) (w.alloc (.cells #[.int .u32 0, .int .u32 0] 94)) := fun _ => by kernel_rfl
  match l, hl, hW with
  | [], _, hW =>
    obtain ⟨A, cap, rfl⟩ := hW.form
    have c1 : w.cell? ⟨b, 1, none⟩ = some (.slice A 0 cap) := by simp [World.cell?, hb]
    have hcp := fun (w : World) (d : Option Addr) (dLen dCap ty : Nat) => run_copy_none (P := Tryz.prog) w 90 90 ty 94 d A dLen dCap 0 cap Tryz.underlying90 Tryz.size39 (by simp)
    go_enter Tryz.func48, Tryz.ntmps48
    go_wp2
    go_ret
    exact ⟨rfl, rfl⟩
  | [a], _, hW =>
    obtain ⟨A, cap, rfl⟩ := hW.form
    obtain ⟨g, rfl, -, hgl⟩ := hW.some (by simp)
    have c1 : w.cell? ⟨b, 1, none⟩ = some (.slice (some ⟨g, 0, none⟩) 1 cap) := by simp [World.cell?, hb]
    have cg : w.cell? ⟨g, 0, none⟩ = some (.int .u32 a) := hW.at rfl 0 (by simp)
    have hcp : ∀ ty, (Builtin.copy_ #[90, 90] ty #[.slice (some ⟨w.heap.size, 0, none⟩) 2 2, .slice (some ⟨g, 0, none⟩) 1 cap]).run Tryz.prog (w.alloc (.cells #[.int .u32 0, .int .u32 0] 94)) = .ok (goInt 1) (w.alloc (.cells #[.int .u32 a, .int .u32 0] 94)) := by
      intro ty
      rw [run_copy_cells (P := Tryz.prog) (w.alloc (.cells #[.int .u32 0, .int .u32 0] 94)) 90 90 ty 94 w.heap.size 0 2 2 ⟨g, 0, none⟩ 1 cap [.int .u32 a] Tryz.underlying90 Tryz.size39 (by simp)
        (by intro j v hj; match j, hj with | 0, hj => simp at hj; subst hj; simp [Addr.add]; rw [World.cell?_alloc_lt _ _ ⟨g, 0, none⟩ hgl]; exact cg)
        (by intro j hj; match j, hj with | 0, hj => simp)
        (by intro j hj; match j, hj with | 0, hj => simp)
        (by intro v hv; simp at hv; subst hv; rfl)]
      simp [World.setCells, World.setCell_alloc_at]
    go_enter Tryz.func48, Tryz.ntmps48
    go_wp2
    go_ret
    exact ⟨rfl, rfl⟩

theorem low1_any (b : Nat) (w : World) (h : IntAt w b []) :
    Calls Tryz.prog 48 #[.pointer (some ⟨b, 0, none⟩), .int .i64 1] w fun e w' => e = .returned (.slice (some ⟨w.heap.size, 0, none⟩) 1 1) ∧ w' = w.alloc (.cells #[.int .u32 0] 94) := by
  have hlt := h.lt
  obtain ⟨v, hb, hW⟩ := h
  have c0 : w.cell? ⟨b, 0, none⟩ = some (.bool false) := by simp [World.cell?, hb]
  have hmk : ∀ w, (Instr.makeSlice 90 (.int .i64 1) (.int .i64 1)).run Tryz.prog w = .ok (.slice (some ⟨w.heap.size, 0, none⟩) 1 1) (w.alloc (.cells #[.int .u32 0] 94)) := fun _ => by kernel_rfl
  obtain ⟨A, cap, rfl⟩ := hW.form
  have c1 : w.cell? ⟨b, 1, none⟩ = some (.slice A 0 cap) := by simp [World.cell?, hb]
  have hcp := fun (w : World) (d : Option Addr) (dLen dCap ty : Nat) => run_copy_none (P := Tryz.prog) w 90 90 ty 94 d A dLen dCap 0 cap Tryz.underlying90 Tryz.size39 (by simp)
  go_enter Tryz.func48, Tryz.ntmps48
  go_wp2
  go_ret
  exact ⟨rfl, rfl⟩

/-- of: two words whose last one is 0. -/
theorem of2_any (b g cap : Nat) (f v0 : Value) (x : Int) (w : World) (hb : w.heap[b]? = some (.cells #[f, v0] 92 (0, 0))) (hW : Wds w (.slice (some ⟨g, 0, none⟩) 2 cap) [x, 0]) (hc : 2 ≤ cap) :
    Calls Tryz.prog 49 #[.pointer (some ⟨b, 0, none⟩), .slice (some ⟨g, 0, none⟩) 2 cap] w fun e w' => e = .returned (.pointer (some ⟨b, 0, none⟩)) ∧ IntAt w' b (trm [x, 0]) ∧ w.grownBy w' (some b) := by
  have cl : w.cell? ⟨g, 1, none⟩ = some (.int .u32 0) := hW.at rfl 1 (by simp)
  go_enter Tryz.func49, Tryz.ntmps49
  go_wp2_with fail
  refine (trim_any g cap [x, 0] w hW (by simp) (by simpa using hc)).mono ?_
  rintro e w' ⟨rfl, rfl, hT⟩
  go_wp2_with fail
  refine (give_any b f v0 _ _ w hb hT).mono ?_
  rintro e w2 ⟨rfl, hI, hG⟩
  go_wp2
  go_ret
  exact ⟨rfl, hI, hG⟩
theorem of1_any (b g cap : Nat) (f v0 : Value) (w : World) (hb : w.heap[b]? = some (.cells #[f, v0] 92 (0, 0))) (hW : Wds w (.slice (some ⟨g, 0, none⟩) 1 cap) [0]) (hc : 1 ≤ cap) :
    Calls Tryz.prog 49 #[.pointer (some ⟨b, 0, none⟩), .slice (some ⟨g, 0, none⟩) 1 cap] w fun e w' => e = .returned (.pointer (some ⟨b, 0, none⟩)) ∧ IntAt w' b [] ∧ w.grownBy w' (some b) := by
  have cl : w.cell? ⟨g, 0, none⟩ = some (.int .u32 0) := hW.at rfl 0 (by simp)
  go_enter Tryz.func49, Tryz.ntmps49
  go_wp2_with fail
  refine (trim_any g cap [0] w hW (by simp) (by simpa using hc)).mono ?_
  rintro e w' ⟨rfl, rfl, hT⟩
  go_wp2_with fail
  refine (give_any b f v0 _ _ w hb hT).mono ?_
  rintro e w2 ⟨rfl, hI, hG⟩
  go_wp2
  go_ret
  exact ⟨rfl, hI, hG⟩

theorem low2_of (b : Nat) (l : List Int) (a : Int) (w : World) (h : IntAt w b l) (hl : l.length ≤ 1) (ha : l.getD 0 0 = a) :
    Calls Tryz.prog 48 #[.pointer (some ⟨b, 0, none⟩), .int .i64 2] w fun e w' => e = .returned (.slice (some ⟨w.heap.size, 0, none⟩) 2 2) ∧ w' = w.alloc (.cells #[.int .u32 a, .int .u32 0] 94) := by
  subst ha; exact low2_any b l w h hl
theorem xor00 : bits .xor .u32 0 0 = 0 := by decide

set_option maxRecDepth 100000 in
set_option maxHeartbeats 1000000 in
/-- Xor of two numbers of at most one word, one of them not 0. -/
theorem Xor2_any (bz bx bB : Nat) (f v0 : Value) (lx ly : List Int) (a b : Int) (w : World) (hz : w.heap[bz]? = some (.cells #[f, v0] 92 (0, 0))) (hx : IntAt w bx lx) (hy : IntAt w bB ly) (h1 : lx.length ≤ 1) (h2 : ly.length ≤ 1) (h3 : 1 ≤ lx.length ∨ 1 ≤ ly.length)
    (HA : Hid (lx.getD 0 0 = a)) (HB : Hid (ly.getD 0 0 = b)) :
    Calls Tryz.prog 28 #[.pointer (some ⟨bz, 0, none⟩), .pointer (some ⟨bx, 0, none⟩), .pointer (some ⟨bB, 0, none⟩)] w fun e w' => e = .returned (.pointer (some ⟨bz, 0, none⟩)) ∧ IntAt w' bz (trm [bits .xor .u32 a b, 0]) ∧ w.grownBy w' (some bz) := by
  have hx' := hx
  have hy' := hy
  have lt1 := hx.lt
  have lt2 := hy.lt
  have ltz : bz < w.heap.size := (Array.getElem?_eq_some_iff.1 hz).1
  obtain ⟨vx, kx, Wx⟩ := hx
  obtain ⟨vy, ky, Wy⟩ := hy
  obtain ⟨A, cap, rfl⟩ := Wx.form
  obtain ⟨A2, cap2, rfl⟩ := Wy.form
  have x1 : w.cell? ⟨bx, 1, none⟩ = some (.slice A lx.length cap) := by simp [World.cell?, kx]
  have y1 : w.cell? ⟨bB, 1, none⟩ = some (.slice A2 ly.length cap2) := by simp [World.cell?, ky]
  have hm : (if lx.length < ly.length then (ly.length : Int) else (lx.length : Int)) = 1 := by split <;> omega
  go_enter Tryz.func28, Tryz.ntmps28
  go_wp2_with fail
  go_quiet (fail)
  have hxd : IntAt (w.drewN nq) bx lx := hx'
  have hyd : IntAt (w.drewN nq) bB ly := hy'
  have hzd : (w.drewN nq).heap[bz]? = some (.cells #[f, v0] 92 (0, 0)) := hz
  have hb0 : Below w.heap.size w (w.drewN nq) := ⟨rfl, rfl, rfl, Nat.le_refl _, fun _ _ => rfl⟩
  clear kx ky Wx Wy x1 y1 hm hx' hy'
  generalize w.drewN nq = w1 at hxd hyd hzd hb0 ⊢
  have hs1 := hb0.size
  go_wp2_with fail
  refine (low2_of bx lx a _ hxd h1 HA.out).mono ?_; rintro e w2 ⟨rfl, rfl⟩
  go_wp2_with fail
  refine (low2_of bB ly b _ (hyd.below ((Below.refl _ _).alloc (Nat.le_refl _) _)) h2 HB.out).mono ?_; rintro e w2 ⟨rfl, rfl⟩
  clear hyd hxd
  have x00 := xor00
  go_wp2_with fail
  refine wp_loop_rounds 3 ?_
  rw [rounds_succ]
  go_wp2_with fail
  go_region
  go_wp2_with fail
  rw [rounds_succ]
  go_wp2_with fail
  go_region
  go_wp2_with fail
  rw [rounds_succ]
  have W2 : Wds (((w1.alloc (.cells #[.int .u32 (bits .xor .u32 a b), .int .u32 0] 94)).alloc (.cells #[.int .u32 b, .int .u32 0] 94)).drew.drew) (.slice (some ⟨w1.heap.size, 0, none⟩) 2 2) [bits .xor .u32 a b, 0] :=
    World.ownsRow.alloc (World.ownsRow_lit w1 #[.int .u32 (bits .xor .u32 a b), .int .u32 0] 2 (Nat.zero_le _) (by unfold maxLen; omega) rfl) _
  have B2 : Below w1.heap.size w1 (((w1.alloc (.cells #[.int .u32 (bits .xor .u32 a b), .int .u32 0] 94)).alloc (.cells #[.int .u32 b, .int .u32 0] 94)).drew.drew) := (((Below.refl _ _).alloc (Nat.le_refl _) _).alloc (by simp) _).drew.drew
  go_wp2_with fail
  refine (of2_any bz w1.heap.size 2 f v0 _ _ (by rw [B2.block bz (by omega)]; exact hzd) W2 (by omega)).mono ?_
  rintro e w3 ⟨rfl, hI, hG⟩
  go_wp2
  go_ret
  exact ⟨rfl, hI, grown_trans (grown_of_below hb0) (grown_trans (grown_of_below B2) hG)⟩

set_option maxRecDepth 100000 in
set_option maxHeartbeats 1000000 in
/-- Xor of two numbers that are 0. -/
theorem Xor1_any (bz bx bB : Nat) (f v0 : Value) (w : World) (hz : w.heap[bz]? = some (.cells #[f, v0] 92 (0, 0))) (hx : IntAt w bx []) (hy : IntAt w bB []) :
    Calls Tryz.prog 28 #[.pointer (some ⟨bz, 0, none⟩), .pointer (some ⟨bx, 0, none⟩), .pointer (some ⟨bB, 0, none⟩)] w fun e w' => e = .returned (.pointer (some ⟨bz, 0, none⟩)) ∧ IntAt w' bz [] ∧ w.grownBy w' (some bz) := by
  have hx' := hx
  have hy' := hy
  have lt1 := hx.lt
  have lt2 := hy.lt
  have ltz : bz < w.heap.size := (Array.getElem?_eq_some_iff.1 hz).1
  obtain ⟨vx, kx, Wx⟩ := hx
  obtain ⟨vy, ky, Wy⟩ := hy
  obtain ⟨A, cap, rfl⟩ := Wx.form
  obtain ⟨A2, cap2, rfl⟩ := Wy.form
  have x1 : w.cell? ⟨bx, 1, none⟩ = some (.slice A 0 cap) := by simp [World.cell?, kx]
  have y1 : w.cell? ⟨bB, 1, none⟩ = some (.slice A2 0 cap2) := by simp [World.cell?, ky]
  go_enter Tryz.func28, Tryz.ntmps28
  go_wp2_with fail
  go_quiet (fail)
  have hxd : IntAt (w.drewN nq) bx [] := hx'
  have hyd : IntAt (w.drewN nq) bB [] := hy'
  have hzd : (w.drewN nq).heap[bz]? = some (.cells #[f, v0] 92 (0, 0)) := hz
  have hb0 : Below w.heap.size w (w.drewN nq) := ⟨rfl, rfl, rfl, Nat.le_refl _, fun _ _ => rfl⟩
  clear kx ky Wx Wy x1 y1 hx' hy'
  generalize w.drewN nq = w1 at hxd hyd hzd hb0 ⊢
  have hs1 := hb0.size
  go_wp2_with fail
  refine (low1_any bx _ hxd).mono ?_; rintro e w2 ⟨rfl, rfl⟩
  go_wp2_with fail
  refine (low1_any bB _ (hyd.below ((Below.refl _ _).alloc (Nat.le_refl _) _))).mono ?_; rintro e w2 ⟨rfl, rfl⟩
  clear hyd hxd
  have x00 := xor00
  go_wp2_with fail
  refine wp_loop_rounds 2 ?_
  rw [rounds_succ]
  go_wp2_with fail
  go_region
  go_wp2_with fail
  rw [rounds_succ]
  have W2 : Wds (((w1.alloc (.cells #[.int .u32 0] 94)).alloc (.cells #[.int .u32 0] 94)).drew) (.slice (some ⟨w1.heap.size, 0, none⟩) 1 1) [0] :=
    World.ownsRow.alloc (World.ownsRow_lit w1 #[.int .u32 0] 1 (Nat.zero_le _) (by unfold maxLen; omega) rfl) _
  have B2 : Below w1.heap.size w1 (((w1.alloc (.cells #[.int .u32 0] 94)).alloc (.cells #[.int .u32 0] 94)).drew) := (((Below.refl _ _).alloc (Nat.le_refl _) _).alloc (by simp) _).drew
  go_wp2_with fail
  refine (of1_any bz w1.heap.size 1 f v0 _ (by rw [B2.block bz (by omega)]; exact hzd) W2 (by omega)).mono ?_
  rintro e w3 ⟨rfl, hI, hG⟩
  go_wp2
  go_ret
  exact ⟨rfl, hI, grown_trans (grown_of_below hb0) (grown_trans (grown_of_below B2) hG)⟩

/-- Xor of two numbers of at most one word. -/
theorem Xor_any (bz bx bB : Nat) (f v0 : Value) (lx ly : List Int) (a b : Int) (w : World) (hz : w.heap[bz]? = some (.cells #[f, v0] 92 (0, 0))) (hx : IntAt w bx lx) (hy : IntAt w bB ly) (h1 : lx.length ≤ 1) (h2 : ly.length ≤ 1)
    (ha : lx.getD 0 0 = a) (hb : ly.getD 0 0 = b) :
    Calls Tryz.prog 28 #[.pointer (some ⟨bz, 0, none⟩), .pointer (some ⟨bx, 0, none⟩), .pointer (some ⟨bB, 0, none⟩)] w fun e w' => e = .returned (.pointer (some ⟨bz, 0, none⟩)) ∧ IntAt w' bz (trm [bits .xor .u32 a b, 0]) ∧ w.grownBy w' (some bz) := by
  by_cases h3 : 1 ≤ lx.length ∨ 1 ≤ ly.length
  · exact Xor2_any bz bx bB f v0 lx ly a b w hz hx hy h1 h2 h3 ha hb
  · obtain rfl : lx = [] := List.eq_nil_of_length_eq_zero (by omega)
    obtain rfl : ly = [] := List.eq_nil_of_length_eq_zero (by omega)
    obtain rfl : 0 = a := ha
    obtain rfl : 0 = b := hb
    have e : trm [bits .xor .u32 0 0, 0] = [] := by decide
    rw [e]
    exact Xor1_any bz bx bB f v0 w hz hx hy
end Go.Proofs.YtbppiiomjmpjkabGreatDoor
