import Derived.Test.YthadeccnibnioaaGreatDoorRa
import Derived.Test.YthadeccnibnioaaGreatDoorHq
import Derived.Deep.OwnRows
import Derived.Laws.Bits64b
/- weirgatebig: words of 32 bits in memory; trim, words. -/
namespace Go.Proofs.YthadeccnibnioaaGreatDoor
open Go.RowKit

/-- Words in memory, behind a slice. -/
def U32s (w : World) (A : Option Addr) (l : List Nat) : Prop :=
  l = [] ∨ ∃ b o, A = some ⟨b, o, none⟩ ∧ ∀ (j : Nat) (h : j < l.length), w.cell? ⟨b, o + j, none⟩ = some (.int .u32 ((l[j] : Nat) : Int))
def Wv (w : World) (v : Value) (l : List Nat) : Prop := ∃ A cap, v = .slice A l.length cap ∧ l.length ≤ cap ∧ U32s w A l
/-- A block of words, whole. -/
def uv (l : List Nat) : Array Value := (l.map fun (x : Nat) => Value.int .u32 (x : Int)).toArray
def RowU (w : World) (g : Nat) (l : List Nat) : Prop := w.heap[g]? = some (.cells (uv l) 194 (0, 0))

theorem U32s.of {w w' : World} {A : Option Addr} {l : List Nat} (h : U32s w A l) (hb : Below w.heap.size w w') : U32s w' A l := by
  rcases h with h | ⟨b, o, h1, h2⟩
  · exact .inl h
  · refine .inr ⟨b, o, h1, fun j hj => ?_⟩
    have hc := h2 j hj
    have := World.block_lt_of_cell? _ _ hc
    rw [World.cell?_of_block (w := w) (hb.block _ this)]; exact hc
theorem Wv.of {w w' : World} {v : Value} {l : List Nat} (h : Wv w v l) (hb : Below w.heap.size w w') : Wv w' v l := by
  obtain ⟨A, cap, h1, h2, h3⟩ := h
  exact ⟨A, cap, h1, h2, h3.of hb⟩
theorem Wv.nil (w : World) : Wv w (.slice none 0 0) [] := ⟨none, 0, rfl, by simp, .inl rfl⟩
theorem U32s.drewN {w : World} {A : Option Addr} {l : List Nat} (h : U32s w A l) (n : Nat) : U32s (w.drewN n) A l := h

theorem RowU.lt {w : World} {g : Nat} {l : List Nat} (h : RowU w g l) : g < w.heap.size := some_lt h
theorem RowU.cell {w : World} {g : Nat} {l : List Nat} (h : RowU w g l) (j : Nat) (hj : j < l.length) : w.cell? ⟨g, j, none⟩ = some (.int .u32 ((wd l j : Nat) : Int)) := by
  unfold RowU at h
  simp [World.cell?, h, uv, wd_get hj, hj]
theorem RowU.fz {w : World} {g : Nat} {l : List Nat} (h : RowU w g l) (j : Nat) : w.frozen? ⟨g, j, none⟩ = false := by
  unfold RowU at h; simp [World.frozen?, h]
theorem RowU.set {w : World} {g : Nat} {l : List Nat} (h : RowU w g l) (j x : Nat) : RowU (w.setCell ⟨g, j, none⟩ (.int .u32 (x : Int))) g (l.set j x) := by
  unfold RowU at h ⊢
  simp [World.setCell, Array.getElem?_modify, h, uv]
theorem RowU.u {w : World} {g : Nat} {l : List Nat} (h : RowU w g l) : U32s w (some ⟨g, 0, none⟩) l := by
  refine .inr ⟨g, 0, rfl, fun j hj => ?_⟩
  rw [Nat.zero_add, h.cell j hj, wd_get hj]
theorem RowU.of {w w' : World} {g : Nat} {l : List Nat} (h : RowU w g l) (hb : Below w.heap.size w w') : RowU w' g l := by
  have := h.lt; unfold RowU at h ⊢; rw [hb.block _ this]; exact h
theorem RowU.made (w : World) (n : Nat) : RowU (w.alloc (.cells (madeCells #[.int .u32 0] n) 194)) w.heap.size (List.replicate n 0) := by
  unfold RowU
  rw [heap_alloc_new]
  congr 2
  apply Array.ext
  · simp [madeCells, uv]
  · intro i h1 h2
    simp [madeCells, uv, Nat.mod_one]
theorem U32s.at {w : World} {A : Option Addr} {l : List Nat} (h : U32s w A l) (hl : 0 < l.length) : ∃ b o, A = some ⟨b, o, none⟩ ∧ ∀ j, j < l.length → w.cell? ⟨b, o + j, none⟩ = some (.int .u32 ((wd l j : Nat) : Int)) := by
  rcases h with h | ⟨b, o, h1, h2⟩
  · subst h; simp at hl
  · exact ⟨b, o, h1, fun j hj => by rw [wd_get hj]; exact h2 j hj⟩
theorem U32s.take {w : World} {A : Option Addr} {l : List Nat} (h : U32s w A l) (k : Nat) : U32s w A (l.take k) := by
  rcases h with h | ⟨b, o, h1, h2⟩
  · subst h; exact .inl (by simp)
  · refine .inr ⟨b, o, h1, fun j hj => ?_⟩
    have h3 : j < l.length := by simp at hj; omega
    rw [List.getElem_take]; exact h2 j h3

theorem trim_take (l : List Nat) (k : Nat) (h : trimL (l.take k) = trimL l) : k ≤ l.length → (k = 0 → trimL l = []) ∧ (0 < k → wd l (k - 1) = 0 → trimL (l.take (k - 1)) = trimL l) ∧ (0 < k → wd l (k - 1) ≠ 0 → trimL l = l.take k) := by
  intro hk
  refine ⟨fun h0 => by subst h0; rw [← h]; simp [trimL], fun hp h0 => ?_, fun hp h0 => ?_⟩
  · obtain ⟨m, rfl⟩ : ∃ m, k = m + 1 := ⟨k - 1, by omega⟩
    rw [Nat.add_sub_cancel] at h0 ⊢
    rw [← h, List.take_succ_eq_append_getElem (by omega), ← wd_get (by omega), h0, trim_zero]
  · obtain ⟨m, rfl⟩ : ∃ m, k = m + 1 := ⟨k - 1, by omega⟩
    rw [Nat.add_sub_cancel] at h0
    rw [← h, List.take_succ_eq_append_getElem (by omega), ← wd_get (by omega), trim_keep _ _ h0]

set_option maxHeartbeats 1000000 in
theorem trim_any (g cap : Nat) (l : List Nat) (w : World) (h : U32s w (some ⟨g, 0, none⟩) l) (hl : l.length ≤ 1000000) (hc : l.length ≤ cap) :
    Calls Tryz.prog 150 #[.slice (some ⟨g, 0, none⟩) l.length cap] w fun e w' => ∃ v, e = .returned v ∧ Wv w v (trimL l) ∧ w = w' := by
  go_enter Tryz.func150, Tryz.ntmps150
  go_wp2
  go_loopw [3] (fun t wr => ∃ k : Nat, k ≤ l.length ∧ t = .int .i64 k ∧ Hid (trimL (l.take k) = trimL l) ∧ w = wr) (fun t _ => (intOf t).toNat)
  case atStart => exact ⟨l.length, Nat.le_refl _, rfl, by show _ = _; rw [List.take_length], rfl⟩
  case round =>
    obtain ⟨k, hk, rfl, HK, rfl⟩ := hrel
    obtain ⟨t1, t2, t3⟩ := trim_take l k HK.out hk
    have fin : ∀ n, trimL l = l.take n → n ≤ l.length → Wv w (.slice (some ⟨g, 0, none⟩) n cap) (trimL l) := fun n hn hle => by
      rw [hn]; exact ⟨_, cap, by simp; omega, by simp; omega, h.take n⟩
    rcases Nat.eq_zero_or_pos k with rfl | hp
    · have W := fin 0 (by rw [t1 rfl]; simp) (by omega)
      clear t1 t2 t3 HK fin
      go_wp2
      go_ret
      exact ⟨_, rfl, W, rfl⟩
    · obtain ⟨b, o, e, hat⟩ := h.at (by omega)
      simp at e
      obtain ⟨rfl, rfl⟩ := e
      obtain ⟨m, rfl⟩ : ∃ m, k = m + 1 := ⟨k - 1, by omega⟩
      have hcell := hat m (by omega)
      rw [Nat.zero_add] at hcell
      rw [Nat.add_sub_cancel] at t2 t3
      by_cases hz : wd l m = 0
      · have HZ := Lib.hid (t2 hp hz)
        rw [hz] at hcell
        clear t1 t2 t3 HK fin hz hat
        go_wp2
        exact ⟨⟨m, by omega, by go_num, HZ.out, by trivial⟩, by simp [intOf]⟩
      · have W := fin (m + 1) (t3 hp hz) hk
        have hz' : (((wd l m : Nat) : Int) == 0) = false := by simp; omega
        clear t1 t2 t3 HK fin hat
        go_wp2
        go_ret
        exact ⟨_, rfl, W, rfl⟩

theorem words_wl (x : Nat) (h : x < 18446744073709551616) : trimL [x % 4294967296, x / 4294967296] = wl x := by
  rw [trim_wl _ (by intro a ha; simp at ha; omega)]
  congr 1
  simp only [nv_cons, nv_nil]; omega

theorem words_any (x : Nat) (w : World) (h1 : x < 18446744073709551616) :
    Calls Tryz.prog 119 #[.int .u64 x] w fun e w' => ∃ v, e = .returned v ∧ Wv w' v (wl x) ∧ Below w.heap.size w w' := by
  have R : RowU (w.alloc (.cells #[.int .u32 ((x % 4294967296 : Nat) : Int), .int .u32 ((x / 4294967296 : Nat) : Int)] 194)) w.heap.size [x % 4294967296, x / 4294967296] := by
    unfold RowU; rw [heap_alloc_new]; rfl
  have c := trim_any w.heap.size 2 [x % 4294967296, x / 4294967296] _ R.u (by simp) (by simp)
  rw [words_wl x h1] at c
  have B : Below w.heap.size w (w.alloc (.cells #[.int .u32 ((x % 4294967296 : Nat) : Int), .int .u32 ((x / 4294967296 : Nat) : Int)] 194)) := (Below.refl _ _).alloc (Nat.le_refl _) _
  have i0 : (0 : Int) ≤ x := by omega
  have i1 : (x : Int) < 18446744073709551616 := by omega
  simp only [Int.natCast_emod, Int.natCast_ediv, List.length_cons, List.length_nil] at c B
  go_enter Tryz.func119, Tryz.ntmps119
  go_wp2_with (go_at_call 150; refine c.mono ?_; rintro e w' ⟨v, rfl, hW, rfl⟩)
  go_ret
  exact ⟨_, rfl, hW, B⟩
end Go.Proofs.YthadeccnibnioaaGreatDoor

/- weirgatebig: sums. -/
namespace Go.Proofs.YthadeccnibnioaaGreatDoor
open Go.RowKit

theorem Tryz.infoU : (Tryz.prog.info? 194).map (fun i => (i.zero, i.size, i.bytes)) = some (some (.int .u32 0), 1, 4) := by kernel_rfl

set_option maxHeartbeats 4000000 in
set_option maxRecDepth 100000 in
/-- The sum where the first has at least as many words. -/
theorem add_ge {w : World} {A B : Option Addr} {a b : List Nat} {ca cb : Nat} (ha : U32s w A a) (hb : U32s w B b) (wa : Wds a) (wb : Wds b) (hl : b.length ≤ a.length) (hs : a.length ≤ 1000) :
    Calls Tryz.prog 215 #[.slice A a.length ca, .slice B b.length cb] w fun e w' => ∃ v, e = .returned v ∧ Wv w' v (wl (nv a + nv b)) ∧ Below w.heap.size w w' := by
  have hmk : ∀ w : World, (Instr.makeSlice 84 (.int .i64 ((a.length : Int) + 1)) (.int .i64 ((a.length : Int) + 1))).run Tryz.prog w = .ok (.slice (some ⟨w.heap.size, 0, none⟩) (a.length + 1) (a.length + 1)) (w.alloc (.cells (madeCells #[.int .u32 0] (a.length + 1)) 194)) := by
    have := run_make_row' (P := Tryz.prog) 84 194 (.int .u32 0) 4 Tryz.underlying84 Tryz.infoU rfl .i64 .i64 (a.length + 1) (by omega) (by omega)
    intro w; have h := this w; push_cast at h; exact h
  have hlI : ¬ (a.length : Int) < b.length := by omega
  have hR : RowU (w.alloc (.cells (madeCells #[.int .u32 0] (a.length + 1)) 194)) w.heap.size (List.replicate (a.length + 1) 0) := RowU.made w _
  have hB : Below w.heap.size w (w.alloc (.cells (madeCells #[.int .u32 0] (a.length + 1)) 194)) := (Below.refl _ _).alloc (Nat.le_refl _) _
  go_enter Tryz.func215, Tryz.ntmps215
  go_wp2_with fail
  generalize w.alloc (.cells (madeCells #[.int .u32 0] (a.length + 1)) 194) = w1 at *
  obtain ⟨g, hg⟩ : ∃ g, g = w.heap.size := ⟨_, rfl⟩
  have hgB : w.heap.size ≤ g := by omega
  rw [← hg] at hR ⊢
  clear hg hmk
  go_loopw [6, 7] (fun c i wr => ∃ (k cc : Nat) (r : List Nat), k ≤ a.length ∧ i = .int .i64 k ∧ c = .int .u64 cc ∧ Hid (AddI a b r k cc) ∧ cc ≤ 1 ∧ RowU wr g r ∧ Below w.heap.size w wr) (fun _ i _ => a.length - (intOf i).toNat)
  case atStart => exact ⟨0, 0, _, by omega, rfl, rfl, AddI.start a b, by omega, hR, hB⟩
  case round =>
    obtain ⟨k, cc, r, hk, rfl, rfl, HI, hcc, hr, hbw⟩ := hrel
    clear hR hB
    have hrl := HI.out.len
    by_cases hlt : k < a.length
    · have hkI : (k : Int) < a.length := by omega
      obtain ⟨ba, oa, rfl, ca'⟩ := (ha.of hbw).at (by omega)
      have cak := ca' k hlt
      have cr := hr.cell k (by omega)
      have fr := hr.fz k
      have xa := wd_lt wa k
      have xb := wd_lt wb k
      have HS := Lib.hid (HI.out.step wa wb hlt)
      by_cases hlb : k < b.length
      · have hbI : (k : Int) < b.length := by omega
        obtain ⟨bb, ob, rfl, cb'⟩ := (hb.of hbw).at (by omega)
        have cbk := cb' k hlb
        generalize wd a k = x at *
        generalize wd b k = y at *
        generalize wd r k = z at *
        have hcast : ((cc : Int) + x + y) % 4294967296 = (((cc + x + y) % 4294967296 : Nat) : Int) := by omega
        have hcast2 : ((cc : Int) + x + y) / 4294967296 = (((cc + x + y) / 4294967296 : Nat) : Int) := by omega
        have HC := Lib.hid hcast
        have HC2 := Lib.hid hcast2
        clear ca' cb' hcast hcast2 HI
        go_wp2_with fail
        rw [HC.out, HC2.out]
        exact ⟨⟨k + 1, _, _, by omega, by go_num, rfl, HS.out, HS.out.car, hr.set k _, hbw.setCell hgB _⟩, by simp [intOf]; omega⟩
      · have hbI : ¬ (k : Int) < b.length := by omega
        have hy : wd b k = 0 := by simp [wd, List.getD, List.getElem?_eq_none (Nat.le_of_not_lt hlb)]
        rw [hy] at HS
        generalize wd a k = x at *
        generalize wd r k = z at *
        have hcast : ((cc : Int) + x) % 4294967296 = (((cc + x + 0) % 4294967296 : Nat) : Int) := by omega
        have hcast2 : ((cc : Int) + x) / 4294967296 = (((cc + x + 0) / 4294967296 : Nat) : Int) := by omega
        have HC := Lib.hid hcast
        have HC2 := Lib.hid hcast2
        clear ca' hcast hcast2 HI
        go_wp2_with fail
        rw [HC.out, HC2.out]
        exact ⟨⟨k + 1, _, _, by omega, by go_num, rfl, HS.out, HS.out.car, hr.set k _, hbw.setCell hgB _⟩, by simp [intOf]; omega⟩
    · have hk' : k = a.length := by omega
      subst hk'
      obtain ⟨d1, d2⟩ := HI.out.done hl
      have cr := hr.cell a.length (by omega)
      have fr := hr.fz a.length
      have hr2 := hr.set a.length cc
      have hb2 : Below w.heap.size w (wr.setCell ⟨g, a.length, none⟩ (.int .u32 (cc : Int))) := hbw.setCell hgB _
      have ct := trim_any g (a.length + 1) (r.set a.length cc) _ hr2.u (by simp; omega) (by simp; omega)
      rw [trim_wl _ d1, d2] at ct
      have e1 : (r.set a.length cc).length = a.length + 1 := by simp; omega
      rw [e1] at ct
      have hcm : (cc : Int) % 4294967296 = cc := by omega
      clear HI d1 d2 hr2 e1
      go_wp2_with (go_at_call 150; refine ct.mono ?_; rintro e w' ⟨v, rfl, hW, rfl⟩)
      go_ret
      exact ⟨_, rfl, hW, hb2⟩

set_option maxHeartbeats 4000000 in
set_option maxRecDepth 100000 in
/-- The sum where the first has fewer words. -/
theorem add_lt {w : World} {A B : Option Addr} {a b : List Nat} {ca cb : Nat} (ha : U32s w A a) (hb : U32s w B b) (wa : Wds a) (wb : Wds b) (hl' : b.length < a.length) (hs : a.length ≤ 1000) :
    Calls Tryz.prog 215 #[.slice B b.length cb, .slice A a.length ca] w fun e w' => ∃ v, e = .returned v ∧ Wv w' v (wl (nv b + nv a)) ∧ Below w.heap.size w w' := by
  have hmk : ∀ w : World, (Instr.makeSlice 84 (.int .i64 ((a.length : Int) + 1)) (.int .i64 ((a.length : Int) + 1))).run Tryz.prog w = .ok (.slice (some ⟨w.heap.size, 0, none⟩) (a.length + 1) (a.length + 1)) (w.alloc (.cells (madeCells #[.int .u32 0] (a.length + 1)) 194)) := by
    have := run_make_row' (P := Tryz.prog) 84 194 (.int .u32 0) 4 Tryz.underlying84 Tryz.infoU rfl .i64 .i64 (a.length + 1) (by omega) (by omega)
    intro w; have h := this w; push_cast at h; exact h
  have hlI : (b.length : Int) < a.length := by omega
  have hl : b.length ≤ a.length := by omega
  have hR : RowU (w.alloc (.cells (madeCells #[.int .u32 0] (a.length + 1)) 194)) w.heap.size (List.replicate (a.length + 1) 0) := RowU.made w _
  have hB : Below w.heap.size w (w.alloc (.cells (madeCells #[.int .u32 0] (a.length + 1)) 194)) := (Below.refl _ _).alloc (Nat.le_refl _) _
  go_enter Tryz.func215, Tryz.ntmps215
  go_wp2_with fail
  generalize w.alloc (.cells (madeCells #[.int .u32 0] (a.length + 1)) 194) = w1 at *
  obtain ⟨g, hg⟩ : ∃ g, g = w.heap.size := ⟨_, rfl⟩
  have hgB : w.heap.size ≤ g := by omega
  rw [← hg] at hR ⊢
  clear hg hmk
  go_loopw [6, 7] (fun c i wr => ∃ (k cc : Nat) (r : List Nat), k ≤ a.length ∧ i = .int .i64 k ∧ c = .int .u64 cc ∧ Hid (AddI a b r k cc) ∧ cc ≤ 1 ∧ RowU wr g r ∧ Below w.heap.size w wr) (fun _ i _ => a.length - (intOf i).toNat)
  case atStart => exact ⟨0, 0, _, by omega, rfl, rfl, AddI.start a b, by omega, hR, hB⟩
  case round =>
    obtain ⟨k, cc, r, hk, rfl, rfl, HI, hcc, hr, hbw⟩ := hrel
    clear hR hB
    have hrl := HI.out.len
    by_cases hlt : k < a.length
    · have hkI : (k : Int) < a.length := by omega
      obtain ⟨ba, oa, rfl, ca'⟩ := (ha.of hbw).at (by omega)
      have cak := ca' k hlt
      have cr := hr.cell k (by omega)
      have fr := hr.fz k
      have xa := wd_lt wa k
      have xb := wd_lt wb k
      have HS := Lib.hid (HI.out.step wa wb hlt)
      by_cases hlb : k < b.length
      · have hbI : (k : Int) < b.length := by omega
        obtain ⟨bb, ob, rfl, cb'⟩ := (hb.of hbw).at (by omega)
        have cbk := cb' k hlb
        generalize wd a k = x at *
        generalize wd b k = y at *
        generalize wd r k = z at *
        have hcast : ((cc : Int) + x + y) % 4294967296 = (((cc + x + y) % 4294967296 : Nat) : Int) := by omega
        have hcast2 : ((cc : Int) + x + y) / 4294967296 = (((cc + x + y) / 4294967296 : Nat) : Int) := by omega
        have HC := Lib.hid hcast
        have HC2 := Lib.hid hcast2
        clear ca' cb' hcast hcast2 HI
        go_wp2_with fail
        rw [HC.out, HC2.out]
        exact ⟨⟨k + 1, _, _, by omega, by go_num, rfl, HS.out, HS.out.car, hr.set k _, hbw.setCell hgB _⟩, by simp [intOf]; omega⟩
      · have hbI : ¬ (k : Int) < b.length := by omega
        have hy : wd b k = 0 := by simp [wd, List.getD, List.getElem?_eq_none (Nat.le_of_not_lt hlb)]
        rw [hy] at HS
        generalize wd a k = x at *
        generalize wd r k = z at *
        have hcast : ((cc : Int) + x) % 4294967296 = (((cc + x + 0) % 4294967296 : Nat) : Int) := by omega
        have hcast2 : ((cc : Int) + x) / 4294967296 = (((cc + x + 0) / 4294967296 : Nat) : Int) := by omega
        have HC := Lib.hid hcast
        have HC2 := Lib.hid hcast2
        clear ca' hcast hcast2 HI
        go_wp2_with fail
        rw [HC.out, HC2.out]
        exact ⟨⟨k + 1, _, _, by omega, by go_num, rfl, HS.out, HS.out.car, hr.set k _, hbw.setCell hgB _⟩, by simp [intOf]; omega⟩
    · have hk' : k = a.length := by omega
      subst hk'
      obtain ⟨d1, d2⟩ := HI.out.done hl
      have cr := hr.cell a.length (by omega)
      have fr := hr.fz a.length
      have hr2 := hr.set a.length cc
      have hb2 : Below w.heap.size w (wr.setCell ⟨g, a.length, none⟩ (.int .u32 (cc : Int))) := hbw.setCell hgB _
      have ct := trim_any g (a.length + 1) (r.set a.length cc) _ hr2.u (by simp; omega) (by simp; omega)
      rw [trim_wl _ d1, d2, Nat.add_comm (nv a) (nv b)] at ct
      have e1 : (r.set a.length cc).length = a.length + 1 := by simp; omega
      rw [e1] at ct
      have hcm : (cc : Int) % 4294967296 = cc := by omega
      clear HI d1 d2 hr2 e1
      go_wp2_with (go_at_call 150; refine ct.mono ?_; rintro e w' ⟨v, rfl, hW, rfl⟩)
      go_ret
      exact ⟨_, rfl, hW, hb2⟩

theorem add_any {w : World} {x y : Value} {a b : List Nat} (ha : Wv w x a) (hb : Wv w y b) (wa : Wds a) (wb : Wds b) (h1 : a.length ≤ 1000) (h2 : b.length ≤ 1000) :
    Calls Tryz.prog 215 #[x, y] w fun e w' => ∃ v, e = .returned v ∧ Wv w' v (wl (nv a + nv b)) ∧ Below w.heap.size w w' := by
  obtain ⟨A, ca, rfl, -, ua⟩ := ha
  obtain ⟨B, cb, rfl, -, ub⟩ := hb
  by_cases h : b.length ≤ a.length
  · exact add_ge ua ub wa wb h h1
  · exact add_lt ub ua wb wa (by omega) h2
end Go.Proofs.YthadeccnibnioaaGreatDoor

/- weirgatebig: products. -/
namespace Go.Proofs.YthadeccnibnioaaGreatDoor
open Go.RowKit

theorem bel_dr {B : Nat} {a w : World} (h : Below B a w) (n : Nat) : Below B a (w.drewN n) := ⟨h.os, h.tape, h.output, h.size, h.block⟩

theorem mul_zero {w : World} {x y : Value} {a b : List Nat} (ha : Wv w x a) (hb : Wv w y b) (h : a = [] ∨ b = []) :
    Calls Tryz.prog 216 #[x, y] w fun e w' => e = .returned (.slice none 0 0) ∧ w = w' := by
  obtain ⟨A, ca, rfl, -, -⟩ := ha
  obtain ⟨B, cb, rfl, -, -⟩ := hb
  by_cases h0 : a = []
  · subst h0
    go_enter Tryz.func216, Tryz.ntmps216
    go_wp2_with fail
    go_ret
    exact ⟨rfl, rfl⟩
  · have hb0 : b = [] := by rcases h with h | h; exact absurd h h0; exact h
    subst hb0
    have hp : 0 < a.length := List.length_pos_iff.2 h0
    have hpI : ((a.length : Int) == 0) = false := beq_eq_false_iff_ne.2 (by omega)
    go_enter Tryz.func216, Tryz.ntmps216
    go_wp2_with fail
    go_ret
    exact ⟨rfl, rfl⟩

set_option maxHeartbeats 8000000 in
set_option maxRecDepth 100000 in
theorem mul_pos {w : World} {A B : Option Addr} {a b : List Nat} {ca cb : Nat} (ha : U32s w A a) (hb : U32s w B b) (wa : Wds a) (wb : Wds b) (h1 : 0 < a.length) (h2 : 0 < b.length) (hs1 : a.length ≤ 1000) (hs2 : b.length ≤ 1000) :
    Calls Tryz.prog 216 #[.slice A a.length ca, .slice B b.length cb] w fun e w' => ∃ v, e = .returned v ∧ Wv w' v (wl (nv a * nv b)) ∧ Below w.heap.size w w' := by
  have hmk : ∀ w : World, (Instr.makeSlice 84 (.int .i64 ((a.length : Int) + (b.length : Int))) (.int .i64 ((a.length : Int) + (b.length : Int)))).run Tryz.prog w = .ok (.slice (some ⟨w.heap.size, 0, none⟩) (a.length + b.length) (a.length + b.length)) (w.alloc (.cells (madeCells #[.int .u32 0] (a.length + b.length)) 194)) := by
    have := run_make_row' (P := Tryz.prog) 84 194 (.int .u32 0) 4 Tryz.underlying84 Tryz.infoU rfl .i64 .i64 (a.length + b.length) (by omega) (by omega)
    intro w; have h := this w; push_cast at h; exact h
  have q1 : ((a.length : Int) == 0) = false := beq_eq_false_iff_ne.2 (by omega)
  have q2 : ((b.length : Int) == 0) = false := beq_eq_false_iff_ne.2 (by omega)
  have hR : RowU (w.alloc (.cells (madeCells #[.int .u32 0] (a.length + b.length)) 194)) w.heap.size (List.replicate (a.length + b.length) 0) := RowU.made w _
  have hB : Below w.heap.size w (w.alloc (.cells (madeCells #[.int .u32 0] (a.length + b.length)) 194)) := (Below.refl _ _).alloc (Nat.le_refl _) _
  obtain ⟨ba, oa, rfl, cA⟩ := ha.at h1
  obtain ⟨bb, ob, rfl, cB⟩ := hb.at h2
  have la : ba < w.heap.size := World.block_lt_of_cell? _ _ (cA 0 h1)
  have lb : bb < w.heap.size := World.block_lt_of_cell? _ _ (cB 0 h2)
  have HA := Lib.hid cA
  have HB := Lib.hid cB
  clear cA cB ha hb
  go_enter Tryz.func216, Tryz.ntmps216
  go_wp2_with fail
  generalize w.alloc (.cells (madeCells #[.int .u32 0] (a.length + b.length)) 194) = w1 at *
  obtain ⟨g, hg⟩ : ∃ g, g = w.heap.size := ⟨_, rfl⟩
  have hgB : w.heap.size ≤ g := by omega
  rw [← hg] at hR ⊢
  clear hg hmk
  go_loopw [6] (fun i wr => ∃ (k : Nat) (r : List Nat), k ≤ a.length ∧ i = .int .i64 k ∧ Hid (MulI a b r k 0 0) ∧ RowU wr g r ∧ Below w.heap.size w wr) (fun i _ => a.length - (intOf i).toNat)
  case atStart => exact ⟨0, _, by omega, rfl, MulI.start a b, hR, hB⟩
  case round =>
    obtain ⟨k, r, hk, rfl, HI, hr, hbw⟩ := hrel
    clear hR hB
    by_cases hlt : k < a.length
    · have hkI : (k : Int) < a.length := by omega
      go_wp2_with fail
      go_loopw [7, 8] (fun c j wr => ∃ (p cc : Nat) (r : List Nat), p ≤ b.length ∧ j = .int .i64 p ∧ c = .int .u64 cc ∧ Hid (MulI a b r k p cc) ∧ cc < 4294967296 ∧ RowU wr g r ∧ Below w.heap.size w wr) (fun _ j _ => b.length - (intOf j).toNat)
      case atStart => exact ⟨0, 0, r, by omega, rfl, rfl, HI, by omega, hr, hbw⟩
      case round =>
        obtain ⟨p, cc, r, hp, rfl, rfl, HI, hcc, hr, hbw⟩ := hrel
        have hrl := HI.out.len
        by_cases hpl : p < b.length
        · have hpI : (p : Int) < b.length := by omega
          have ca' : wr.cell? ⟨ba, oa + k, none⟩ = some (.int .u32 ((wd a k : Nat) : Int)) := by rw [World.cell?_of_block (w := w) (hbw.block _ la)]; exact HA.out k hlt
          have cb' : wr.cell? ⟨bb, ob + p, none⟩ = some (.int .u32 ((wd b p : Nat) : Int)) := by rw [World.cell?_of_block (w := w) (hbw.block _ lb)]; exact HB.out p hpl
          have cr := hr.cell (k + p) (by omega)
          have fr := hr.fz (k + p)
          have xa := wd_lt wa k
          have xb := wd_lt wb p
          have xr := wd_lt HI.out.wds (k + p)
          have HS := Lib.hid (HI.out.step wa wb hlt hpl)
          generalize wd a k = x at *
          generalize wd b p = y at *
          generalize wd r (k + p) = z at *
          have hm : x * y ≤ 18446744065119617025 := Nat.le_trans (Nat.mul_le_mul (show x ≤ 4294967295 by omega) (show y ≤ 4294967295 by omega)) (by omega)
          obtain ⟨m, hm2⟩ : ∃ m, m = x * y := ⟨_, rfl⟩
          rw [← hm2] at hm HS
          have hxy : (x : Int) * (y : Int) = (m : Int) := by rw [hm2]; push_cast; rfl
          have b3 : ((k : Int) + (p : Int)).toNat = k + p := by omega
          have b4 : (0 : Int) ≤ (k : Int) + (p : Int) := by omega
          have b5 : (k : Int) + (p : Int) < (a.length : Int) + (b.length : Int) := by omega
          have hw1 : IntKind.i64.wrap ((k : Int) + (p : Int)) = (k : Int) + (p : Int) := by rw [IntKind.wrap_i64]; omega
          have hwm : IntKind.u64.wrap ((x : Int) * (y : Int)) = (m : Int) := by rw [hxy, IntKind.wrap_u64]; omega
          have hw2 : IntKind.u64.wrap ((m : Int) + (z : Int)) = (m : Int) + z := by rw [IntKind.wrap_u64]; omega
          have hw3 : IntKind.u64.wrap ((cc : Int) + ((m : Int) + (z : Int))) = (cc : Int) + (m + z) := by rw [IntKind.wrap_u64]; omega
          have hcast : ((cc : Int) + ((m : Int) + z)) % 4294967296 = (((cc + (m + z)) % 4294967296 : Nat) : Int) := by omega
          have hcast2 : ((cc : Int) + ((m : Int) + z)) / 4294967296 = (((cc + (m + z)) / 4294967296 : Nat) : Int) := by omega
          have HC := Lib.hid hcast
          have HC2 := Lib.hid hcast2
          clear hm2 hcast hcast2
          go_wp2_with fail
          go_quiet (fail)
          go_wp2_with fail
          rw [HC.out, HC2.out]
          exact ⟨⟨p + 1, _, _, by omega, by go_num, rfl, HS.out, HS.out.car, (show RowU (wr.drewN nq) g r from hr).set (k + p) _, (bel_dr hbw nq).setCell hgB _⟩, by simp [intOf]; omega⟩
        · have hp' : p = b.length := by omega
          subst hp'
          have hpI : ¬ (b.length : Int) < b.length := by omega
          have HS := Lib.hid (HI.out.row hlt)
          have cr := hr.cell (k + b.length) (by omega)
          have fr := hr.fz (k + b.length)
          generalize wd r (k + b.length) = z at *
          have hw1 : IntKind.i64.wrap ((k : Int) + (b.length : Int)) = (k : Int) + (b.length : Int) := by rw [IntKind.wrap_i64]; omega
          have b3 : ((k : Int) + (b.length : Int)).toNat = k + b.length := by omega
          have b4 : (0 : Int) ≤ (k : Int) + (b.length : Int) := by omega
          have b5 : (k : Int) + (b.length : Int) < (a.length : Int) + (b.length : Int) := by omega
          have hr2 := hr.set (k + b.length) cc
          have hb2 : Below w.heap.size w (wr.setCell ⟨g, k + b.length, none⟩ (.int .u32 (cc : Int))) := hbw.setCell hgB _
          clear HI hr
          go_wp2_with fail
          exact ⟨⟨k + 1, _, by omega, by go_num, HS.out, hr2, hb2⟩, by simp [intOf]; omega⟩
    · have hk' : k = a.length := by omega
      subst hk'
      have hkI : ¬ (a.length : Int) < a.length := by omega
      have hd := HI.out.done
      have hrl := HI.out.len
      have ct := trim_any g (a.length + b.length) r wr hr.u (by omega) (by omega)
      rw [trim_wl _ HI.out.wds, hd, hrl] at ct
      clear HI hd hrl
      go_wp2_with (go_at_call 150; refine ct.mono ?_; rintro e w' ⟨v, rfl, hW, rfl⟩)
      go_ret
      exact ⟨_, rfl, hW, hbw⟩

theorem mul_any {w : World} {x y : Value} {a b : List Nat} (ha : Wv w x a) (hb : Wv w y b) (wa : Wds a) (wb : Wds b) (h1 : a.length ≤ 1000) (h2 : b.length ≤ 1000) :
    Calls Tryz.prog 216 #[x, y] w fun e w' => ∃ v, e = .returned v ∧ Wv w' v (wl (nv a * nv b)) ∧ Below w.heap.size w w' := by
  by_cases h : a = [] ∨ b = []
  · refine (mul_zero ha hb h).mono ?_
    rintro e w' ⟨rfl, rfl⟩
    refine ⟨_, rfl, ?_, Below.refl _ _⟩
    have e0 : nv a * nv b = 0 := by rcases h with h | h <;> simp [h, nv_nil]
    rw [e0, wl_zero]; exact Wv.nil w
  · obtain ⟨A, ca, rfl, -, ua⟩ := ha
    obtain ⟨B, cb, rfl, -, ub⟩ := hb
    have p1 : 0 < a.length := List.length_pos_iff.2 (fun e => h (.inl e))
    have p2 : 0 < b.length := List.length_pos_iff.2 (fun e => h (.inr e))
    exact mul_pos ua ub wa wb p1 p2 h1 h2
end Go.Proofs.YthadeccnibnioaaGreatDoor

/- weirgatebig: a number of decimal digits. -/
namespace Go.Proofs.YthadeccnibnioaaGreatDoor
open Go.RowKit

/-- A number in memory: its sign, and its words. -/
def IntV (w : World) (b : Nat) (neg : Bool) (n : Nat) : Prop := ∃ v, w.heap[b]? = some (.cells #[.bool neg, v] 86 (0, 0)) ∧ Wv w v (wl n)

theorem Wv.fr {w w' : World} {v : Value} {l : List Nat} {b : Nat} {c : Array Value} (h : Wv w v l) (f : Fr [b] w w') (hb : w.heap[b]? = some (.cells c 86 (0, 0))) (hc : ∀ (i : Nat) (x : Int), c[i]? ≠ some (.int .u32 x)) : Wv w' v l := by
  obtain ⟨A, cap, h1, h2, h3⟩ := h
  refine ⟨A, cap, h1, h2, ?_⟩
  rcases h3 with h3 | ⟨b2, o, e, h3⟩
  · exact .inl h3
  · refine .inr ⟨b2, o, e, fun j hj => ?_⟩
    have hcell := h3 j hj
    have hne : b2 ≠ b := by
      intro e2; subst e2
      simp only [World.cell?, hb] at hcell
      simp at hcell
      exact hc _ _ hcell
    rw [f.cell (World.block_lt_of_cell? _ _ hcell) (by simpa using hne)]; exact hcell
theorem two_no {f v0 : Value} {neg : Bool} (hf : f = .bool neg) (hv : ∃ A n c, v0 = .slice A n c) : ∀ (i : Nat) (x : Int), (#[f, v0] : Array Value)[i]? ≠ some (.int .u32 x) := by
  intro i x h
  obtain ⟨A, n, c, rfl⟩ := hv
  subst hf
  match i, h with
  | 0, h => simp at h
  | 1, h => simp at h
  | i + 2, h => simp at h

theorem give_any {w : World} {b : Nat} {neg0 : Bool} {v0 v : Value} {n : Nat} (hb : w.heap[b]? = some (.cells #[.bool neg0, v0] 86 (0, 0))) (hv0 : ∃ A n c, v0 = .slice A n c) (hv : Wv w v (wl n)) :
    Calls Tryz.prog 118 #[.pointer (some ⟨b, 0, none⟩), .bool false, v] w fun e w' => e = .returned (.pointer (some ⟨b, 0, none⟩)) ∧ IntV w' b false n ∧ Fr [b] w w' := by
  have hv' := hv
  obtain ⟨A, cap, rfl, -, -⟩ := hv
  have c0 : w.cell? ⟨b, 0, none⟩ = some (.bool neg0) := by simp [World.cell?, hb]
  have c1 : w.cell? ⟨b, 1, none⟩ = some v0 := by simp [World.cell?, hb]
  have f0 : w.frozen? ⟨b, 0, none⟩ = false := by simp [World.frozen?, hb]
  have f1 : w.frozen? ⟨b, 1, none⟩ = false := by simp [World.frozen?, hb]
  have G : Fr [b] w ((w.setCell ⟨b, 1, none⟩ (.slice A (wl n).length cap)).setCell ⟨b, 0, none⟩ (.bool false)) := ((Fr.refl _ _).setCell (.inl (by simp)) _).setCell (.inl (by simp)) _
  have I : IntV ((w.setCell ⟨b, 1, none⟩ (.slice A (wl n).length cap)).setCell ⟨b, 0, none⟩ (.bool false)) b false n := by
    refine ⟨.slice A (wl n).length cap, ?_, hv'.fr G hb (two_no rfl hv0)⟩
    simp [World.setCell, Array.getElem?_modify, hb]
  go_enter Tryz.func118, Tryz.ntmps118
  go_wp2
  go_ret
  exact ⟨rfl, I, G⟩

theorem val_lt (l : List UInt8) : (∀ c ∈ l, isDg c = true) → valFrom 0 l < 10 ^ l.length := by
  intro h
  induction hn : l.length generalizing l with
  | zero => rw [List.length_eq_zero_iff.1 hn, valFrom_nil]; simp
  | succ n ih =>
    have hne : l ≠ [] := by intro e; rw [e] at hn; simp at hn
    obtain ⟨p, c, rfl⟩ : ∃ p c, l = p ++ [c] := ⟨l.dropLast, l.getLast hne, (List.dropLast_concat_getLast hne).symm⟩
    have := ih p (fun x hx => h x (by simp [hx])) (by simp at hn; exact hn)
    have hc : 48 ≤ c.toNat ∧ c.toNat ≤ 57 := by simpa [isDg] using h c (by simp)
    rw [valFrom_snoc, Nat.pow_succ]
    omega
theorem dig_len (l : List UInt8) (h : ∀ c ∈ l, isDg c = true) (hl : l.length ≤ 120) : (wl (valFrom 0 l)).length ≤ 13 := by
  refine wl_len_le _ _ (Nat.lt_of_lt_of_le (val_lt l h) (Nat.le_trans (Nat.pow_le_pow_right (by omega) hl) (by decide)))

set_option maxHeartbeats 4000000 in
set_option maxRecDepth 100000 in
theorem setstr_none {w : World} (z : Value) (hz : ∃ a, z = .pointer a) : Calls Tryz.prog 202 #[z, .string ⟨#[]⟩, .int .i64 10] w fun e w' => e = .returned (.tuple #[.pointer none, .bool false]) ∧ w = w' := by
  obtain ⟨a, rfl⟩ := hz
  go_enter Tryz.func202, Tryz.ntmps202
  go_wp2_with fail
  go_ret2
  exact ⟨rfl, rfl⟩

set_option maxHeartbeats 8000000 in
set_option maxRecDepth 100000 in
theorem setstr_any {w : World} {b : Nat} {neg0 : Bool} {v0 : Value} (hb : w.heap[b]? = some (.cells #[.bool neg0, v0] 86 (0, 0))) (hv0 : ∃ A n c, v0 = .slice A n c) (s : ByteArray) (hd : ∀ c ∈ s.data.toList, isDg c = true) (hp : 0 < s.size) (hs : s.size ≤ 120) :
    Calls Tryz.prog 202 #[.pointer (some ⟨b, 0, none⟩), .string s, .int .i64 10] w fun e w' => e = .returned (.tuple #[.pointer (some ⟨b, 0, none⟩), .bool true]) ∧ IntV w' b false (valFrom 0 s.data.toList) ∧ Fr [b] w w' := by
  have hlen : s.data.toList.length = s.size := by simp
  have hat : ∀ k (hk : k < s.size), 48 ≤ s[k].toNat ∧ s[k].toNat ≤ 57 := fun k hk => by
    have : s[k] ∈ s.data.toList := by
      have : s[k] = s.data.toList[k]'(by omega) := rfl
      rw [this]; exact List.getElem_mem _
    simpa [isDg] using hd _ this
  have h0 := hat 0 hp
  have hpI : (0 : Int) < s.size := by omega
  have hz0 : ((s.size : Int) == 0) = false := beq_eq_false_iff_ne.2 (by omega)
  have n45 : ((s[0].toNat : Int) == 45) = false := beq_eq_false_iff_ne.2 (by omega)
  have n43 : ((s[0].toNat : Int) == 43) = false := beq_eq_false_iff_ne.2 (by omega)
  have HD := Lib.hid hd
  have HAT := Lib.hid hat
  clear hd hat
  go_enter Tryz.func202, Tryz.ntmps202
  go_wp2_with fail
  go_loopw [9, 10] (fun v i wr => ∃ k : Nat, k ≤ s.size ∧ i = .int .i64 k ∧ Wv wr v (wl (valFrom 0 (s.data.toList.take k))) ∧ Below w.heap.size w wr) (fun _ i _ => s.size - (intOf i).toNat)
  case atStart => exact ⟨0, by omega, rfl, by rw [List.take_zero, valFrom_nil, wl_zero]; exact Wv.nil w, Below.refl _ _⟩
  case round =>
    obtain ⟨k, hk, rfl, hv, hbw⟩ := hrel
    have hsz := hbw.size
    by_cases hlt : k < s.size
    · have hkI : (k : Int) < s.size := by omega
      obtain ⟨c1, c2⟩ := HAT.out k hlt
      have hval : valFrom 0 (s.data.toList.take (k + 1)) = valFrom 0 (s.data.toList.take k) * 10 + (s[k].toNat - 48) := by
        rw [List.take_succ_eq_append_getElem (by omega), valFrom_snoc]; rfl
      have hl1 := dig_len (s.data.toList.take k) (fun c hc => HD.out c (List.mem_of_mem_take hc)) (by simp; omega)
      have c10 : ∀ w1 : World, Calls Tryz.prog 119 #[.int .u64 10] w1 fun e w' => ∃ v, e = .returned v ∧ Wv w' v (wl 10) ∧ Below w1.heap.size w1 w' := fun w1 => words_any 10 w1 (by omega)
      have cd : ∀ w1 : World, Calls Tryz.prog 119 #[.int .u64 ((s[k].toNat : Int) - 48)] w1 fun e w' => ∃ v, e = .returned v ∧ Wv w' v (wl (s[k].toNat - 48)) ∧ Below w1.heap.size w1 w' := fun w1 => by
        have e : ((s[k].toNat : Int) - 48) = ((s[k].toNat - 48 : Nat) : Int) := by omega
        rw [e]; exact words_any _ w1 (by omega)
      have hx := val_lt (s.data.toList.take k) (fun c hc => HD.out c (List.mem_of_mem_take hc))
      have hl2 : (wl (valFrom 0 (s.data.toList.take k) * 10)).length ≤ 1000 := by
        have h1 : valFrom 0 (s.data.toList.take k) * 10 < 10 ^ ((s.data.toList.take k).length + 1) := by rw [Nat.pow_succ]; omega
        have h2 : 10 ^ ((s.data.toList.take k).length + 1) ≤ 10 ^ 120 := Nat.pow_le_pow_right (by omega) (by simp; omega)
        exact Nat.le_trans (wl_len_le _ 13 (Nat.lt_of_lt_of_le (Nat.lt_of_lt_of_le h1 h2) (by decide))) (by omega)
      clear hx
      have w10 : (wl 10).length ≤ 13 := wl_len_le _ _ (by decide)
      have wdl : (wl (s[k].toNat - 48)).length ≤ 13 := wl_len_le _ _ (Nat.lt_of_lt_of_le (show s[k].toNat - 48 < 10 by omega) (by decide))
      have i1 : (48 : Int) ≤ (s[k].toNat : Int) := by omega
      have i2 : (s[k].toNat : Int) ≤ 57 := by omega
      have i3 : ¬ (10 : Int) ≤ (s[k].toNat : Int) - 48 := by omega
      have HV := Lib.hid hval
      have HC10 := Lib.hid c10
      have HCD := Lib.hid cd
      clear hval c10 cd h0 hb
      generalize valFrom 0 (s.data.toList.take k) = x at *
      go_wp2_with (go_at_call 119; refine (HC10.out _).mono ?_; rintro e w1 ⟨v1, rfl, W1, b1⟩; have B1 := hbw.trans (b1.mono hsz); have s1 := B1.size; refine Hid.out ?_)
      refine Lib.hid ?_
      go_wp2_with (go_at_call 216; refine (mul_any (hv.of b1) W1 (wds_wl _) (wds_wl _) (by omega) (by omega)).mono ?_; rw [nv_wl, nv_wl]; rintro e w2 ⟨v2, rfl, W2, b2⟩; have B2 := B1.trans (b2.mono s1); have s2 := B2.size; refine Hid.out ?_)
      refine Lib.hid ?_
      go_wp2_with (go_at_call 119; refine (HCD.out _).mono ?_; rintro e w3 ⟨v3, rfl, W3, b3⟩; have B3 := B2.trans (b3.mono s2); have s3 := B3.size; refine Hid.out ?_)
      refine Lib.hid ?_
      go_wp2_with (go_at_call 215; refine (add_any (W2.of b3) W3 (wds_wl _) (wds_wl _) hl2 (by omega)).mono ?_; rw [nv_wl, nv_wl]; rintro e w4 ⟨v4, rfl, W4, b4⟩; have B4 := B3.trans (b4.mono s3); refine Hid.out ?_)
      refine Lib.hid ?_
      go_wp2_with fail
      exact ⟨⟨k + 1, by omega, by go_num, by rw [HV.out]; exact W4, B4⟩, by simp [intOf]; omega⟩
    · have hk' : k = s.size := by omega
      subst hk'
      have hkI : ¬ (s.size : Int) < s.size := by omega
      have hbk : wr.heap[b]? = some (.cells #[.bool neg0, v0] 86 (0, 0)) := by rw [hbw.block b (some_lt hb)]; exact hb
      rw [List.take_of_length_le (by omega)] at hv
      have cg := give_any hbk hv0 hv
      clear hv hbk hb HD HAT
      go_wp2_with (go_at_call 118; refine cg.mono ?_; rintro e w1 ⟨rfl, I1, f1⟩)
      go_ret2
      exact ⟨rfl, I1, (Fr.below hbw).trans f1⟩
end Go.Proofs.YthadeccnibnioaaGreatDoor

/- weirgatebig: how long a number is; whether it fits; its low bits. -/

namespace Go.Proofs.YthadeccnibnioaaGreatDoor
open Go.RowKit

def bl (t : Nat) : Nat := if h : t = 0 then 0 else bl (t / 2) + 1
termination_by t
decreasing_by omega
theorem bl_zero : bl 0 = 0 := by rw [bl, dif_pos rfl]
theorem bl_pos {t : Nat} (h : t ≠ 0) : bl t = bl (t / 2) + 1 := by rw [bl, dif_neg h]
theorem bl_le (k : Nat) : ∀ t, bl t ≤ k ↔ t < 2 ^ k := by
  induction k with
  | zero =>
    intro t
    by_cases h : t = 0
    · subst h; simp [bl_zero]
    · rw [bl_pos h]; simp; omega
  | succ k ih =>
    intro t
    by_cases h : t = 0
    · subst h; simp [bl_zero]; exact Nat.pow_pos (by omega)
    · rw [bl_pos h, Nat.add_le_add_iff_right, ih, Nat.pow_succ]; omega

def lenW (l : List Nat) : Nat := if l = [] then 0 else (l.length - 1) * 32 + bl (wd l (l.length - 1))

theorem lenW_lt (n : Nat) : lenW (wl n) < 64 ↔ n < 9223372036854775808 := by
  by_cases h0 : n = 0
  · subst h0; rw [wl_zero]; simp [lenW]
  · have e1 := wl_pos h0
    by_cases h1 : n / 4294967296 = 0
    · rw [h1, wl_zero] at e1
      rw [e1]
      have : bl (n % 4294967296) ≤ 32 := (bl_le 32 _).2 (by omega)
      simp [lenW, wd, List.getD]; omega
    · have e2 := wl_pos h1
      by_cases h2 : n / 4294967296 / 4294967296 = 0
      · rw [h2, wl_zero] at e2
        rw [e1, e2]
        have := bl_le 31 (n / 4294967296 % 4294967296)
        simp [lenW, wd, List.getD]; omega
      · have e3 := wl_pos h2
        rw [e1, e2, e3]
        simp [lenW]; omega

set_option maxHeartbeats 1000000 in
theorem length_any {w : World} {v : Value} {l : List Nat} (h : Wv w v l) (wl' : Wds l) (hl : l.length ≤ 1000) :
    Calls Tryz.prog 75 #[v] w fun e w' => e = .returned (.int .i64 (lenW l : Nat)) ∧ w = w' := by
  obtain ⟨A, cap, rfl, -, hu⟩ := h
  by_cases h0 : l = []
  · subst h0
    simp only [lenW, if_true]
    go_enter Tryz.func75, Tryz.ntmps75
    go_wp2_with fail
    go_ret
    exact ⟨rfl, rfl⟩
  · have hp : 0 < l.length := List.length_pos_iff.2 h0
    obtain ⟨b, o, rfl, hc⟩ := hu.at hp
    have cl := hc (l.length - 1) (by omega)
    have ht := wd_lt wl' (l.length - 1)
    have e : lenW l = (l.length - 1) * 32 + bl (wd l (l.length - 1)) := by rw [lenW, if_neg h0]
    have hb32 : bl (wd l (l.length - 1)) ≤ 32 := (bl_le 32 _).2 (by omega)
    rw [e]
    generalize wd l (l.length - 1) = t at *
    have q1 : ((l.length : Int) == 0) = false := beq_eq_false_iff_ne.2 (by omega)
    obtain ⟨m, hm⟩ : ∃ m, l.length = m + 1 := ⟨l.length - 1, by omega⟩
    rw [hm, Nat.add_sub_cancel] at cl ⊢
    rw [hm] at q1
    have hm1 : m ≤ 1000 := by omega
    obtain ⟨T, hT⟩ : ∃ T, T = bl t := ⟨_, rfl⟩
    rw [← hT] at hb32 ⊢
    have HT := Lib.hid hT
    clear hc e hu h0 hp hT hm hl
    go_enter Tryz.func75, Tryz.ntmps75
    go_wp2_with fail
    go_loopw [3, 4] (fun n x wr => ∃ (p y : Nat), n = .int .i64 p ∧ x = .int .u32 y ∧ y < 4294967296 ∧ p ≤ 32 ∧ Hid (p + bl y = T) ∧ w = wr) (fun _ x _ => (intOf x).toNat)
    case atStart => exact ⟨0, t, rfl, rfl, ht, by omega, by show _ = _; rw [HT.out, Nat.zero_add], rfl⟩
    case round =>
      obtain ⟨p, y, rfl, rfl, hy, hp, HY, rfl⟩ := hrel
      by_cases hz : y = 0
      · subst hz
        have hpT : p = T := by have := HY.out; rw [bl_zero] at this; omega
        subst hpT
        go_wp2_with fail
        go_ret
        exact ⟨by simp, rfl⟩
      · have hz' : ((y : Int) != 0) = true := by simp; omega
        have hp2 : p + 1 ≤ 32 := by have := HY.out; rw [bl_pos hz] at this; omega
        have HN : Hid (p + 1 + bl (y / 2) = T) := by show _ = _; have := HY.out; rw [bl_pos hz] at this; omega
        clear HY
        go_wp2_with fail
        exact ⟨⟨p + 1, y / 2, by go_num, by simp, by omega, hp2, HN, trivial⟩, by simp [intOf]; omega⟩

theorem or_words (lo hi : Int) (l0 : 0 ≤ lo) (l1 : lo < 4294967296) (h0 : 0 ≤ hi) (h1 : hi < 4294967296) : bits .or .u64 lo (hi * 4294967296) = hi * 4294967296 + lo := by
  obtain ⟨a, rfl⟩ := Int.eq_ofNat_of_zero_le l0
  obtain ⟨b, rfl⟩ := Int.eq_ofNat_of_zero_le h0
  have e : ((b : Int) * 4294967296) = ((b * 4294967296 : Nat) : Int) := by omega
  rw [e, bits_or_u64_nat a (b * 4294967296) (by omega) (by omega)]
  have h := Nat.two_pow_add_eq_or_of_lt (i := 32) (b := a) (by omega) b
  have h' : a ||| (b * 4294967296) = b * 4294967296 + a := by
    rw [Nat.or_comm, show b * 4294967296 = 2 ^ 32 * b from by omega, ← h]
  rw [h']
  omega

theorem IntV.cells {w : World} {b n : Nat} {neg : Bool} (h : IntV w b neg n) : w.cell? ⟨b, 0, none⟩ = some (.bool neg) ∧ ∃ A cap, w.cell? ⟨b, 1, none⟩ = some (.slice A (wl n).length cap) ∧ U32s w A (wl n) := by
  obtain ⟨v, hb, A, cap, rfl, -, hu⟩ := h
  exact ⟨by simp [World.cell?, hb], A, cap, by simp [World.cell?, hb], hu⟩

set_option maxHeartbeats 1000000 in
/-- Uint64 of what is below 2^64. -/
theorem uint64_any {w : World} {b n : Nat} {neg : Bool} (h : IntV w b neg n) (hn : n < 18446744073709551616) :
    Calls Tryz.prog 77 #[.pointer (some ⟨b, 0, none⟩)] w fun e w' => e = .returned (.int .u64 n) ∧ ∃ m, w' = w.drewN m := by
  obtain ⟨-, A, cap, c1, hu⟩ := h.cells
  by_cases h0 : n = 0
  · subst h0
    rw [wl_zero] at c1
    simp only [List.length_nil] at c1
    go_enter Tryz.func77, Tryz.ntmps77
    go_wp2_with fail
    go_ret
    exact ⟨rfl, 0, rfl⟩
  · have e1 := wl_pos h0
    by_cases h1 : n / 4294967296 = 0
    · rw [h1, wl_zero] at e1
      rw [e1] at c1 hu
      obtain ⟨b2, o2, rfl, hc⟩ := hu.at (by simp)
      have d0 := hc 0 (by simp)
      have ex : wd [n % 4294967296] 0 = n := by simp [wd, List.getD]; omega
      rw [ex] at d0
      simp only [List.length_cons, List.length_nil, Nat.zero_add, Nat.add_zero] at c1 d0
      clear hc hu e1 ex
      go_enter Tryz.func77, Tryz.ntmps77
      go_wp2_with fail
      go_ret
      exact ⟨rfl, 0, rfl⟩
    · have e2 := wl_pos h1
      have h2 : n / 4294967296 / 4294967296 = 0 := by omega
      rw [h2, wl_zero] at e2
      rw [e1, e2] at c1 hu
      obtain ⟨b2, o2, rfl, hc⟩ := hu.at (by simp)
      have d0 := hc 0 (by simp)
      have d1 := hc 1 (by simp)
      have ex0 : wd [n % 4294967296, n / 4294967296 % 4294967296] 0 = n % 4294967296 := by simp [wd, List.getD]
      have ex1 : wd [n % 4294967296, n / 4294967296 % 4294967296] 1 = n / 4294967296 := by simp [wd, List.getD]; omega
      rw [ex0] at d0
      rw [ex1] at d1
      simp only [List.length_cons, List.length_nil, Nat.zero_add, Nat.add_zero] at c1 d0
      obtain ⟨lo, hlo⟩ : ∃ lo, lo = n % 4294967296 := ⟨_, rfl⟩
      obtain ⟨hi, hhi⟩ : ∃ hi, hi = n / 4294967296 := ⟨_, rfl⟩
      rw [← hlo] at d0
      rw [← hhi] at d1
      have l1 : lo < 4294967296 := by omega
      have l2 : hi < 4294967296 := by omega
      have HO : Hid (bits .or .u64 (lo : Int) ((hi : Int) * 4294967296) = (n : Int)) := by
        show _ = _; rw [or_words lo hi (by omega) (by omega) (by omega) (by omega)]; omega
      clear hc hu e1 e2 ex0 ex1 hlo hhi h0 h1 h2
      go_enter Tryz.func77, Tryz.ntmps77
      go_wp2_with fail
      go_ret
      exact ⟨by rw [← HO.out]; rfl, 0, rfl⟩

set_option maxHeartbeats 1000000 in
theorem isint_any {w : World} {b n : Nat} (h : IntV w b false n) (hl : (wl n).length ≤ 1000) :
    Calls Tryz.prog 40 #[.pointer (some ⟨b, 0, none⟩)] w fun e w' => e = .returned (.bool (decide (n < 9223372036854775808))) ∧ w = w' := by
  have hlw := lenW_lt n
  obtain ⟨c0, A, cap, c1, hu⟩ := h.cells
  obtain ⟨v, hb, hv⟩ := h
  have hv2 : Wv w (.slice A (wl n).length cap) (wl n) := by
    obtain ⟨A', cap', rfl, h1, h2⟩ := hv
    have : w.cell? ⟨b, 1, none⟩ = some (.slice A' (wl n).length cap') := by simp [World.cell?, hb]
    rw [c1] at this; simp at this
    obtain ⟨rfl, rfl⟩ := this
    exact ⟨A, cap, rfl, h1, h2⟩
  have cl := length_any hv2 (wds_wl n) hl
  have e : decide (n < 9223372036854775808) = decide (lenW (wl n) < 64) := by rw [decide_eq_decide]; exact hlw.symm
  rw [e]
  generalize lenW (wl n) = T at *
  clear hlw e hu hv hv2 hb
  by_cases h64 : T < 64
  · have hI : (T : Int) < 64 := by omega
    have e : decide (T < 64) = true := by simpa using h64
    rw [e]
    go_enter Tryz.func40, Tryz.ntmps40
    go_wp2_with (go_at_call 75; refine cl.mono ?_; rintro e w' ⟨rfl, rfl⟩)
    go_ret
    exact ⟨rfl, rfl⟩
  · have hI : ¬ (T : Int) < 64 := by omega
    have e : decide (T < 64) = false := by simpa using h64
    rw [e]
    by_cases h642 : T = 64
    · subst h642
      go_enter Tryz.func40, Tryz.ntmps40
      go_wp2_with (go_at_call 75; refine cl.mono ?_; rintro e w' ⟨rfl, rfl⟩)
      go_ret
      exact ⟨rfl, rfl⟩
    · have hq : ((T : Int) == 64) = false := beq_eq_false_iff_ne.2 (by omega)
      go_enter Tryz.func40, Tryz.ntmps40
      go_wp2_with (go_at_call 75; refine cl.mono ?_; rintro e w' ⟨rfl, rfl⟩)
      go_ret
      exact ⟨by show Ending.returned (.bool (decide ((T : Int) < 64))) = _; rw [decide_eq_false (by omega)], rfl⟩

set_option maxHeartbeats 1000000 in
theorem int64_any {w : World} {b n : Nat} (h : IntV w b false n) (hn : n < 9223372036854775808) :
    Calls Tryz.prog 41 #[.pointer (some ⟨b, 0, none⟩)] w fun e w' => e = .returned (.int .i64 n) ∧ ∃ m, w' = w.drewN m := by
  have c0 := h.cells.1
  have cu := uint64_any h (by omega)
  clear h
  go_enter Tryz.func41, Tryz.ntmps41
  go_wp2_with (go_at_call 77; refine cu.mono ?_; rintro e w' ⟨rfl, m, rfl⟩)
  go_ret
  exact ⟨rfl, m, rfl⟩
end Go.Proofs.YthadeccnibnioaaGreatDoor
