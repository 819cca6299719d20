/- weirgatebig: words of 32 bits in memory; trim, words. -/
import Derived.Test.YtnapbfilkahobaaGreatDoorRa
import Derived.Test.YtnapbfilkahobaaGreatDoorHq
import Derived.Deep.OwnRows
namespace Go.Proofs.YtnapbfilkahobaaGreatDoor
open Go.RowKit

/-- Words in memory, behind a slice. -/
def U32s (w : World) (A : Option Addr) (l : List Nat) : Prop :=
  l = [] ∨ ∃ b o, A = some ⟨b, o, none⟩ ∧ ∀ (j : Nat) (h : j < l.length), w.cell? ⟨b, o + j, none⟩ = some (.int .u32 ((l[j] : Nat) : Int))
def Wv (w : World) (v : Value) (l : List Nat) : Prop := ∃ A cap, v = .slice A l.length cap ∧ l.length ≤ cap ∧ U32s w A l
/-- A block of words, whole. -/
def uv (l : List Nat) : Array Value := (l.map fun (x : Nat) => Value.int .u32 (x : Int)).toArray
def RowU (w : World) (g : Nat) (l : List Nat) : Prop := w.heap[g]? = some (.cells (uv l) 194 (0, 0))

theorem U32s.of {w w' : World} {A : Option Addr} {l : List Nat} (h : U32s w A l) (hb : Below w.heap.size w w') : U32s w' A l := by
  rcases h with h | ⟨b, o, h1, h2⟩
  · exact .inl h
  · refine .inr ⟨b, o, h1, fun j hj => ?_⟩
    have hc := h2 j hj
    have := World.block_lt_of_cell? _ _ hc
    rw [World.cell?_of_block (w := w) (hb.block _ this)]; exact hc
theorem Wv.of {w w' : World} {v : Value} {l : List Nat} (h : Wv w v l) (hb : Below w.heap.size w w') : Wv w' v l := by
  obtain ⟨A, cap, h1, h2, h3⟩ := h
  exact ⟨A, cap, h1, h2, h3.of hb⟩
theorem Wv.nil (w : World) : Wv w (.slice none 0 0) [] := ⟨none, 0, rfl, by simp, .inl rfl⟩
theorem U32s.drewN {w : World} {A : Option Addr} {l : List Nat} (h : U32s w A l) (n : Nat) : U32s (w.drewN n) A l := h

theorem RowU.lt {w : World} {g : Nat} {l : List Nat} (h : RowU w g l) : g < w.heap.size := some_lt h
theorem RowU.cell {w : World} {g : Nat} {l : List Nat} (h : RowU w g l) (j : Nat) (hj : j < l.length) : w.cell? ⟨g, j, none⟩ = some (.int .u32 ((wd l j : Nat) : Int)) := by
  unfold RowU at h
  simp [World.cell?, h, uv, wd_get hj, hj]
theorem RowU.fz {w : World} {g : Nat} {l : List Nat} (h : RowU w g l) (j : Nat) : w.frozen? ⟨g, j, none⟩ = false := by
  unfold RowU at h; simp [World.frozen?, h]
theorem RowU.set {w : World} {g : Nat} {l : List Nat} (h : RowU w g l) (j x : Nat) : RowU (w.setCell ⟨g, j, none⟩ (.int .u32 (x : Int))) g (l.set j x) := by
  unfold RowU at h ⊢
  simp [World.setCell, Array.getElem?_modify, h, uv]
theorem RowU.u {w : World} {g : Nat} {l : List Nat} (h : RowU w g l) : U32s w (some ⟨g, 0, none⟩) l := by
  refine .inr ⟨g, 0, rfl, fun j hj => ?_⟩
  rw [Nat.zero_add, h.cell j hj, wd_get hj]
theorem RowU.of {w w' : World} {g : Nat} {l : List Nat} (h : RowU w g l) (hb : Below w.heap.size w w') : RowU w' g l := by
  have := h.lt; unfold RowU at h ⊢; rw [hb.block _ this]; exact h
theorem RowU.made (w : World) (n : Nat) : RowU (w.alloc (.cells (madeCells #[.int .u32 0] n) 194)) w.heap.size (List.replicate n 0) := by
  unfold RowU
  rw [heap_alloc_new]
  congr 2
  apply Array.ext
  · simp [madeCells, uv]
  · intro i h1 h2
    simp [madeCells, uv, Nat.mod_one]
theorem U32s.at {w : World} {A : Option Addr} {l : List Nat} (h : U32s w A l) (hl : 0 < l.length) : ∃ b o, A = some ⟨b, o, none⟩ ∧ ∀ j, j < l.length → w.cell? ⟨b, o + j, none⟩ = some (.int .u32 ((wd l j : Nat) : Int)) := by
  rcases h with h | ⟨b, o, h1, h2⟩
  · subst h; simp at hl
  · exact ⟨b, o, h1, fun j hj => by rw [wd_get hj]; exact h2 j hj⟩
theorem U32s.take {w : World} {A : Option Addr} {l : List Nat} (h : U32s w A l) (k : Nat) : U32s w A (l.take k) := by
  rcases h with h | ⟨b, o, h1, h2⟩
  · subst h; exact .inl (by simp)
  · refine .inr ⟨b, o, h1, fun j hj => ?_⟩
    have h3 : j < l.length := by simp at hj; omega
    rw [List.getElem_take]; exact h2 j h3

theorem trim_take (l : List Nat) (k : Nat) (h : trimL (l.take k) = trimL l) : k ≤ l.length → (k = 0 → trimL l = []) ∧ (0 < k → wd l (k - 1) = 0 → trimL (l.take (k - 1)) = trimL l) ∧ (0 < k → wd l (k - 1) ≠ 0 → trimL l = l.take k) := by
  intro hk
  refine ⟨fun h0 => by subst h0; rw [← h]; simp [trimL], fun hp h0 => ?_, fun hp h0 => ?_⟩
  · obtain ⟨m, rfl⟩ : ∃ m, k = m + 1 := ⟨k - 1, by omega⟩
    rw [Nat.add_sub_cancel] at h0 ⊢
    rw [← h, List.take_succ_eq_append_getElem (by omega), ← wd_get (by omega), h0, trim_zero]
  · obtain ⟨m, rfl⟩ : ∃ m, k = m + 1 := ⟨k - 1, by omega⟩
    rw [Nat.add_sub_cancel] at h0
    rw [← h, List.take_succ_eq_append_getElem (by omega), ← wd_get (by omega), trim_keep _ _ h0]

set_option maxHeartbeats 1000000 in
theorem trim_any (g cap : Nat) (l : List Nat) (w : World) (h : U32s w (some ⟨g, 0, none⟩) l) (hl : l.length ≤ 1000000) (hc : l.length ≤ cap) :
    Calls Tryz.prog 150 #[.slice (some ⟨g, 0, none⟩) l.length cap] w fun e w' => ∃ v, e = .returned v ∧ Wv w v (trimL l) ∧ w = w' := by
  go_enter Tryz.func150, Tryz.ntmps150
  go_wp2
  go_loopw [3] (fun t wr => ∃ k : Nat, k ≤ l.length ∧ t = .int .i64 k ∧ Hid (trimL (l.take k) = trimL l) ∧ w = wr) (fun t _ => (intOf t).toNat)
  case atStart => exact ⟨l.length, Nat.le_refl _, rfl, by show _ = _; rw [List.take_length], rfl⟩
  case round =>
    obtain ⟨k, hk, rfl, HK, rfl⟩ := hrel
    obtain ⟨t1, t2, t3⟩ := trim_take l k HK.out hk
    have fin : ∀ n, trimL l = l.take n → n ≤ l.length → Wv w (.slice (some ⟨g, 0, none⟩) n cap) (trimL l) := fun n hn hle => by
      rw [hn]; exact ⟨_, cap, by simp; omega, by simp; omega, h.take n⟩
    rcases Nat.eq_zero_or_pos k with rfl | hp
    · have W := fin 0 (by rw [t1 rfl]; simp) (by omega)
      clear t1 t2 t3 HK fin
      go_wp2
      go_ret
      exact ⟨_, rfl, W, rfl⟩
    · obtain ⟨b, o, e, hat⟩ := h.at (by omega)
      simp at e
      obtain ⟨rfl, rfl⟩ := e
      obtain ⟨m, rfl⟩ : ∃ m, k = m + 1 := ⟨k - 1, by omega⟩
      have hcell := hat m (by omega)
      rw [Nat.zero_add] at hcell
      rw [Nat.add_sub_cancel] at t2 t3
      by_cases hz : wd l m = 0
      · have HZ := Lib.hid (t2 hp hz)
        rw [hz] at hcell
        clear t1 t2 t3 HK fin hz hat
        go_wp2
        exact ⟨⟨m, by omega, by go_num, HZ.out, by trivial⟩, by simp [intOf]⟩
      · have W := fin (m + 1) (t3 hp hz) hk
        have hz' : (((wd l m : Nat) : Int) == 0) = false := by simp; omega
        clear t1 t2 t3 HK fin hat
        go_wp2
        go_ret
        exact ⟨_, rfl, W, rfl⟩

theorem words_wl (x : Nat) (h : x < 18446744073709551616) : trimL [x % 4294967296, x / 4294967296] = wl x := by
  rw [trim_wl _ (by intro a ha; simp at ha; omega)]
  congr 1
  simp only [nv_cons, nv_nil]; omega

theorem words_any (x : Nat) (w : World) (h1 : x < 18446744073709551616) :
    Calls Tryz.prog 119 #[.int .u64 x] w fun e w' => ∃ v, e = .returned v ∧ Wv w' v (wl x) ∧ Below w.heap.size w w' := by
  have R : RowU (w.alloc (.cells #[.int .u32 ((x % 4294967296 : Nat) : Int), .int .u32 ((x / 4294967296 : Nat) : Int)] 194)) w.heap.size [x % 4294967296, x / 4294967296] := by
    unfold RowU; rw [heap_alloc_new]; rfl
  have c := trim_any w.heap.size 2 [x % 4294967296, x / 4294967296] _ R.u (by simp) (by simp)
  rw [words_wl x h1] at c
  have B : Below w.heap.size w (w.alloc (.cells #[.int .u32 ((x % 4294967296 : Nat) : Int), .int .u32 ((x / 4294967296 : Nat) : Int)] 194)) := (Below.refl _ _).alloc (Nat.le_refl _) _
  have i0 : (0 : Int) ≤ x := by omega
  have i1 : (x : Int) < 18446744073709551616 := by omega
  simp only [Int.natCast_emod, Int.natCast_ediv, List.length_cons, List.length_nil] at c B
  go_enter Tryz.func119, Tryz.ntmps119
  go_wp2_with (go_at_call 150; refine c.mono ?_; rintro e w' ⟨v, rfl, hW, rfl⟩)
  go_ret
  exact ⟨_, rfl, hW, B⟩
end Go.Proofs.YtnapbfilkahobaaGreatDoor
