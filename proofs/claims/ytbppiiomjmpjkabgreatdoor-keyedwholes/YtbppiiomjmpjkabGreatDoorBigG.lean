/- What is left over 2^32, to the end: DivMod, Mod; a number as int64: Uint64, Int64. -/
import Derived.Test.YtbppiiomjmpjkabGreatDoorBigF
namespace Go.Proofs.YtbppiiomjmpjkabGreatDoor
open Go.RowKit

/-- All that was there is as it was, but for two blocks. -/
def But2 (w w' : World) (z x : Nat) : Prop := w'.os = w.os ∧ w'.tape = w.tape ∧ w'.output = w.output ∧ w.heap.size ≤ w'.heap.size ∧ ∀ k, k < w.heap.size → k ≠ z → k ≠ x → w'.heap[k]? = w.heap[k]?

set_option maxRecDepth 100000 in
set_option maxHeartbeats 4000000 in
theorem DivMod_any (bz bx bB : Nat) (f v0 : Value) (p : Int) (w : World) (hz : w.heap[bz]? = some (.cells #[f, v0] 92 (0, 0))) (hx : IntAt w bx (wd p)) (hy : IntAt w bB [0, 1]) (hne : bx ≠ bz) (p0 : 0 ≤ p) (p1 : p < 18446744073709551616) :
    Calls Tryz.prog 52 #[.pointer (some ⟨bz, 0, none⟩), .pointer (some ⟨bx, 0, none⟩), .pointer (some ⟨bB, 0, none⟩), .pointer (some ⟨bx, 0, none⟩)] w fun e w' => e = .returned (.tuple #[.pointer (some ⟨bz, 0, none⟩), .pointer (some ⟨bx, 0, none⟩)]) ∧ IntAt w' bx (wd (p % 4294967296)) ∧ But2 w w' bz bx := by
  have lt1 := hx.lt
  have lt2 := hy.lt
  have ltz : bz < w.heap.size := (Array.getElem?_eq_some_iff.1 hz).1
  have hb0 : Below w.heap.size w (w.alloc (.cells #[.bool false, .slice none 0 0] 92)) := (Below.refl _ _).alloc (Nat.le_refl _) _
  have hD : (w.alloc (.cells #[.bool false, .slice none 0 0] 92)).heap[w.heap.size]? = some (.cells #[.bool false, .slice none 0 0] 92 (0, 0)) := heap_alloc_new w _
  have hz1 : (w.alloc (.cells #[.bool false, .slice none 0 0] 92)).heap[bz]? = some (.cells #[f, v0] 92 (0, 0)) := (hb0.block bz ltz).trans hz
  have hx1 := hx.below hb0
  have hy1 := hy.below hb0
  have sz : (w.alloc (.cells #[.bool false, .slice none 0 0] 92)).heap.size = w.heap.size + 1 := by simp
  have HZ : Hid ((w.alloc (.cells #[.bool false, .slice none 0 0] 92)).heap[bz]? = some (.cells #[f, v0] 92 (0, 0))) := hz1
  have HS : Hid ((w.alloc (.cells #[.bool false, .slice none 0 0] 92)).heap.size = w.heap.size + 1) := sz
  have HD : Hid ((w.alloc (.cells #[.bool false, .slice none 0 0] 92)).heap[w.heap.size]? = some (.cells #[.bool false, .slice none 0 0] 92 (0, 0))) := hD
  clear hz hx hy hz1 sz hD
  go_enter Tryz.func52, Tryz.ntmps52
  go_wp2_with fail
  refine (Set_any w.heap.size bB _ _ [0, 1] _ HD.out hy1 (by simp)).mono ?_; rintro e w2 ⟨rfl, hI, hG⟩
  have hx2 := hx1.grown hG HD.out (by omega)
  have hy2 := hy1.grown hG HD.out (by omega)
  have HZ2 : Hid (w2.heap[bz]? = some (.cells #[f, v0] 92 (0, 0))) := show _ = _ from (hG.block bz (by have := HS.out; omega) (by simp; omega)).trans HZ.out
  clear hx1 hy1 hI
  go_wp2_with fail
  refine (QuoRem_any bz bx bB f v0 p w2 HZ2.out hx2 hy2 hne p0 p1).mono ?_; rintro e w3 ⟨rfl, hI3, u, hG1, hG2⟩
  have hI4 := hI3
  obtain ⟨vm, hm, hWm⟩ := hI3
  have c0 : w3.cell? ⟨bx, 0, none⟩ = some (.bool false) := by simp [World.cell?, hm]
  have HB : Hid (But2 w w3 bz bx) := by
    refine ⟨?_, ?_, ?_, ?_, ?_⟩
    · rw [hG2.os, hG1.os, hG.os, hb0.os]
    · rw [hG2.tape, hG1.tape, hG.tape, hb0.tape]
    · rw [hG2.output, hG1.output, hG.output, hb0.output]
    · exact Nat.le_trans hb0.size (Nat.le_trans hG.size (Nat.le_trans hG1.size hG2.size))
    · intro k hk k1 k2
      have s1 := hG.size
      have s2 := hG1.size
      have s3 := HS.out
      rw [hG2.block k (by omega) (by simpa using k2), hG1.block k (by omega) (by simpa using k1), hG.block k (by omega) (by simp; omega), hb0.block k hk]
  clear hm hWm hG hG1 hG2 hb0 hx2 hy2
  go_wp2
  go_ret2
  exact ⟨rfl, hI4, HB.out⟩

set_option maxRecDepth 100000 in
set_option maxHeartbeats 4000000 in
/-- Mod 2^32, put into the number itself. -/
theorem Mod_any (bx bB : Nat) (p : Int) (w : World) (hx : IntAt w bx (wd p)) (hy : IntAt w bB [0, 1]) (p0 : 0 ≤ p) (p1 : p < 18446744073709551616) :
    Calls Tryz.prog 30 #[.pointer (some ⟨bx, 0, none⟩), .pointer (some ⟨bx, 0, none⟩), .pointer (some ⟨bB, 0, none⟩)] w fun e w' => e = .returned (.pointer (some ⟨bx, 0, none⟩)) ∧ IntAt w' bx (wd (p % 4294967296)) ∧ w.grownBy w' (some bx) := by
  have lt1 := hx.lt
  have hb0 : Below w.heap.size w (w.alloc (.cells #[.bool false, .slice none 0 0] 92)) := (Below.refl _ _).alloc (Nat.le_refl _) _
  have HD : Hid ((w.alloc (.cells #[.bool false, .slice none 0 0] 92)).heap[w.heap.size]? = some (.cells #[.bool false, .slice none 0 0] 92 (0, 0))) := show _ = _ from heap_alloc_new w _
  have hx1 := hx.below hb0
  have hy1 := hy.below hb0
  have HS : Hid ((w.alloc (.cells #[.bool false, .slice none 0 0] 92)).heap.size = w.heap.size + 1) := show _ = _ by simp
  clear hx hy
  go_enter Tryz.func30, Tryz.ntmps30
  go_wp2_with fail
  refine (DivMod_any w.heap.size bx bB _ _ p _ HD.out hx1 hy1 (by omega) p0 p1).mono ?_; rintro e w2 ⟨rfl, hI, hB⟩
  clear hx1 hy1
  go_wp2
  go_ret
  obtain ⟨b1, b2, b3, b4, b5⟩ := hB
  refine ⟨rfl, hI, ⟨b1.trans hb0.os, b2.trans hb0.tape, b3.trans hb0.output, Nat.le_trans hb0.size b4, fun k hk hne => ?_⟩⟩
  rw [b5 k (by have := HS.out; omega) (by omega) (by simpa using hne), hb0.block k hk]

/-- Uint64 of a number of at most one word. -/
theorem Uint64_any (b : Nat) (x : Int) (w : World) (h : IntAt w b (wd x)) (h0 : 0 ≤ x) (h1 : x < 4294967296) :
    Calls Tryz.prog 53 #[.pointer (some ⟨b, 0, none⟩)] w fun e w' => e = .returned (.int .u64 x) ∧ w = w' := by
  obtain ⟨v, hb, hW⟩ := h
  by_cases hx : x = 0
  · subst hx
    rw [wd_none] at hW
    obtain ⟨A, cap, rfl⟩ := hW.form
    have c1 : w.cell? ⟨b, 1, none⟩ = some (.slice A 0 cap) := by simp [World.cell?, hb]
    go_enter Tryz.func53, Tryz.ntmps53
    go_wp2
    go_ret
    exact ⟨rfl, rfl⟩
  · rw [wd_small x (by omega) h1] at hW
    obtain ⟨A, cap, rfl⟩ := hW.form
    obtain ⟨g, rfl, -, hgl⟩ := hW.some (by simp)
    have c1 : w.cell? ⟨b, 1, none⟩ = some (.slice (some ⟨g, 0, none⟩) 1 cap) := by simp [World.cell?, hb]
    have cg : w.cell? ⟨g, 0, none⟩ = some (.int .u32 x) := hW.at rfl 0 (by simp)
    go_enter Tryz.func53, Tryz.ntmps53
    go_wp2
    go_ret
    exact ⟨rfl, rfl⟩
theorem Int64_any (b : Nat) (x : Int) (w : World) (h : IntAt w b (wd x)) (h0 : 0 ≤ x) (h1 : x < 4294967296) :
    Calls Tryz.prog 31 #[.pointer (some ⟨b, 0, none⟩)] w fun e w' => e = .returned (.int .i64 x) ∧ w = w' := by
  have h' := h
  obtain ⟨v, hb, hW⟩ := h
  have c0 : w.cell? ⟨b, 0, none⟩ = some (.bool false) := by simp [World.cell?, hb]
  clear hb hW
  go_enter Tryz.func31, Tryz.ntmps31
  go_wp2_with fail
  refine (Uint64_any b x w h' h0 h1).mono ?_; rintro e w' ⟨rfl, rfl⟩
  go_wp2
  go_ret
  exact ⟨rfl, rfl⟩
end Go.Proofs.YtbppiiomjmpjkabGreatDoor
