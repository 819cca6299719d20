/- A bag of numbers; how two rows differ. -/
import Derived.Test.YthcgjbpiiodlgaaDoorAb
namespace Go.Proofs.YthcgjbpiiodlgaaDoor
open Go.RowKit
set_option linter.unusedVariables false

/-- A bag in memory: the variable that holds its map, and the map. -/
structure BaAt (w : World) (B M k : Nat) (g : Int → Int) : Prop where
  c : w.cell? ⟨B, 0, none⟩ = some (.map (some M))
  m : BgIs w M k g
  ne : B ≠ M
theorem BaAt.drewN {w : World} {B M k : Nat} {g : Int → Int} (h : BaAt w B M k g) (n : Nat) : BaAt (w.drewN n) B M k g := ⟨h.c, h.m, h.ne⟩
theorem BaAt.step {w w' : World} {B M k : Nat} {g g' : Int → Int} (h : BaAt w B M k g) (f : Fr [M] w w') (hm : BgIs w' M (k + 1) g') : BaAt w' B M (k + 1) g' :=
  ⟨by rw [f.cell (p := ⟨B, 0, none⟩) (World.block_lt_of_cell? w _ h.c) (by simp; exact h.ne)]; exact h.c, hm, h.ne⟩
theorem ints_fr {w w' : World} {la : Option Addr} {z : List Int} (h : IntsAt w la z) {M k : Nat} {g : Int → Int} (hm : BgIs w M k g) (f : Fr [M] w w') : IntsAt w' la z :=
  h.keep fun p v hp => by
    obtain ⟨D, hD, _⟩ := hm
    obtain ⟨es, cl, hmap⟩ := own_map hD
    rw [f.cell (World.block_lt_of_cell? w _ hp) (fun hh => by simp at hh; simp [World.cell?, hh, hmap] at hp)]; exact hp
theorem bag_up (l : List Int) (k : Nat) (h : k < l.length) : up (bagN l k) l[k] (bagN l k l[k] + 1) = bagN l (k + 1) := by
  funext x
  unfold up bagN
  rw [count_snoc l k h x]
  by_cases e : x = l[k]
  · rw [if_pos e, if_pos e.symm, e]; simp
  · rw [if_neg e, if_neg (fun h => e h.symm)]; simp
theorem bag_dn (w g : List Int) (k : Nat) (h : k < g.length) : up (bagT w g k) g[k] (bagT w g k g[k] - 1) = bagT w g (k + 1) := by
  funext x
  unfold up bagT
  rw [count_snoc g k h x]
  by_cases e : x = g[k]
  · rw [if_pos e, if_pos e.symm, e]; simp; omega
  · rw [if_neg e, if_neg (fun h => e h.symm)]; simp
theorem bag_bd (l : List Int) (k : Nat) (x : Int) (h : l.length ≤ 400) : 0 ≤ bagN l k x ∧ bagN l k x ≤ 400 := by
  unfold bagN
  have := count_take_le l k x
  have := List.count_le_length (a := x) (l := l)
  omega
theorem bag_bd2 (w g : List Int) (k : Nat) (x : Int) (h : w.length ≤ 400) (h2 : g.length ≤ 400) : -400 ≤ bagT w g k x ∧ bagT w g k x ≤ 400 := by
  unfold bagT
  have := count_take_le g k x
  have := List.count_le_length (a := x) (l := w)
  have := List.count_le_length (a := x) (l := g)
  omega

set_option maxRecDepth 100000 in
set_option maxHeartbeats 1000000 in
theorem bag_any (w : World) (la : Option Addr) (c n : Nat) (z : List Int) (ha : IntsAt w la z) (hn : n = z.length) (hl : n ≤ 400) (hz : ∀ x ∈ z, I64 x) :
    Calls Tryd.prog 60 #[.slice la n c] w fun e w' => ∃ B M, e = .returned (.func (.func 67) #[] #[.pointer (some ⟨B, 0, none⟩)]) ∧ BaAt w' B M n (bagN z n) ∧ w.heap.size ≤ M ∧ Below w.heap.size w w' := by
  have HA := Lib.hid ha
  have HN := Lib.hid hn
  have HZ := Lib.hid hz
  clear ha hn hz
  have hmm := @run_makeMap Tryd.prog
  have hm0 := (BgIs.made w).block (w' := (w.alloc (.map #[] 0)).alloc (.cells #[.map (some w.heap.size)] 127)) (Below.heap_alloc _ _ _ (by simp))
  have hb0 : Below w.heap.size w ((w.alloc (.map #[] 0)).alloc (.cells #[.map (some w.heap.size)] 127)) := ((Below.refl _ _).alloc (Nat.le_refl _) _).alloc (by simp) _
  have H0 : Hid (BaAt ((w.alloc (.map #[] 0)).alloc (.cells #[.map (some w.heap.size)] 127)) (w.heap.size + 1) w.heap.size 0 (bagN z 0) ∧ Below w.heap.size w ((w.alloc (.map #[] 0)).alloc (.cells #[.map (some w.heap.size)] 127))) := by
    refine ⟨⟨?_, ?_, by omega⟩, hb0⟩
    · simp [go_sem]
    · have e : (fun _ => 0 : Int → Int) = bagN z 0 := by funext x; simp [bagN]
      rw [← e]; exact hm0
  clear hm0 hb0
  go_enter Tryd.func60, Tryd.ntmps60
  go_wp2_with fail
  go_loopw [5, 9] (fun _ vi wr => ∃ k : Nat, vi = .int .i64 (k : Int) ∧ k ≤ n ∧ Hid (BaAt wr (w.heap.size + 1) w.heap.size k (bagN z k) ∧ Below w.heap.size w wr)) (fun _ vi _ => n - (intOf vi).toNat)
  case atStart => exact ⟨0, rfl, by omega, H0⟩
  case round =>
    obtain ⟨k, rfl, hk, hB⟩ := hrel
    by_cases hlt : k < n
    · have hi : (k : Int) < (n : Int) := by omega
      have k1 : k < z.length := by have := HN.out; omega
      obtain ⟨b, o, rfl, c1⟩ := ints_at (ints_b HA.out hB.out.2) k k1
      have c2 := hB.out.1.c
      have hx : I64 z[k] := HZ.out _ (List.getElem_mem k1)
      have hlk := hB.out.1.m.look z[k] hx
      obtain ⟨w2, hrun, hm2, hf⟩ := hB.out.1.m.put (by omega) z[k] hx (bagN z k z[k] + 1)
      rw [bag_up z k k1] at hm2
      have HB2 : Hid (BaAt w2 (w.heap.size + 1) w.heap.size (k + 1) (bagN z (k + 1)) ∧ Below w.heap.size w w2) := ⟨hB.out.1.step hf hm2, Fr.onto hB.out.2 hf (by simp)⟩
      obtain ⟨d1, d2⟩ := bag_bd z k z[k] (by have := HN.out; omega)
      clear hm2 hf hB hx
      generalize z[k] = x at *
      generalize bagN z k x = y at *
      go_wp2_with fail
      exact ⟨⟨k + 1, by go_num, by omega, HB2⟩, by simp [intOf]; omega⟩
    · have hi : ¬ (k : Int) < (n : Int) := by omega
      have hk' : k = n := by omega
      subst hk'
      go_wp2_with fail
      go_ret
      exact ⟨_, rfl, _, hB.out.1, Nat.le_refl _, hB.out.2⟩

set_option maxHeartbeats 1000000 in
theorem take_any (w : World) (B M k : Nat) (g : Int → Int) (h : BaAt w B M k g) (hk : k ≤ 1000) (x : Int) (hx : I64 x) (h1 : -1000 ≤ g x) (h2 : g x ≤ 1000) :
    Calls Tryd.prog 67 #[.int .i64 x, .pointer (some ⟨B, 0, none⟩)] w fun e w' => e = .returned (.bool (decide (1 ≤ g x))) ∧ BaAt w' B M (k + 1) (up g x (g x - 1)) ∧ Fr [M] w w' := by
  have c := h.c
  have hlk := h.m.look x hx
  obtain ⟨w2, hrun, hm2, hf⟩ := h.m.put (by omega) x hx (g x - 1)
  have h' := h.step hf hm2
  have c2 := h'.c
  have hlk2 := h'.m.look x hx
  rw [up_same] at hlk2
  have HE : Hid (BaAt w2 B M (k + 1) (up g x (g x - 1)) ∧ Fr [M] w w2) := ⟨h', hf⟩
  clear hm2 hf h h'
  generalize up g x (g x - 1) = g' at *
  generalize g x = y at *
  go_enter Tryd.func67, Tryd.ntmps67
  go_wp2_with fail
  go_ret
  exact ⟨rfl, HE.out⟩
end Go.Proofs.YthcgjbpiiodlgaaDoor
