/- A whole number's words copied; two numbers compared, and divided by 2^32: twin, cmp, plain, div. -/
import Derived.Test.YtbppiiomjmpjkabGreatDoorBigC
import Derived.Deep.RegionWith
import Derived.Laws.AppendOwnNone
import Derived.Laws.Bits64b
namespace Go.Proofs.YtbppiiomjmpjkabGreatDoor
open Go.RowKit

theorem Tryz.info39 : (Tryz.prog.info? 94).map (fun i => (i.zero, i.size, i.bytes)) = some (some (.int .u32 0), 1, 4) := by kernel_rfl
theorem bown_mono {w : World} {base base' : Nat} {e : TypeId} {size : Nat} {v : Value} {n : Nat} {xs : List Value} (h : w.ownsRow base e size v n xs) (hb : base' ≤ base) : w.ownsRow base' e size v n xs := by
  refine ⟨h.1, ?_⟩
  rcases h.2 with h0 | ⟨g, cap, cur, h0, h1, h2⟩
  · exact .inl h0
  · exact .inr ⟨g, cap, cur, h0, by omega, h2⟩
theorem wcells_one (l : List Int) : ∀ u ∈ wcells l, u.oneCell' = true := by
  intro u hu; unfold wcells at hu; obtain ⟨x, _, rfl⟩ := List.mem_map.1 hu; rfl

theorem twin_any (x : Value) (l : List Int) (w : World) (hx : Wds w x l) (hl : l.length ≤ 1000000) :
    Calls Tryz.prog 95 #[x] w fun e w' => ∃ v, e = .returned v ∧ Wds w' v l ∧ Below w.heap.size w w' := by
  obtain ⟨i0, hi, hz0, hz1, hz2⟩ := info_parts Tryz.info39
  rcases hx.2 with ⟨rfl, h0⟩ | ⟨g, cap, cur, rfl, _, hc, _⟩
  · obtain rfl : l = [] := List.eq_nil_of_length_eq_zero h0
    go_enter Tryz.func95, Tryz.ntmps95
    go_wp2
    go_ret
    exact ⟨_, rfl, World.ownsRow_nil _ _ _ _, Below.refl _ _⟩
  · have hcells := World.ownsRow.cells hx (g := g) rfl
    go_enter Tryz.func95, Tryz.ntmps95
    go_wp2_with (at_builtin; refine wpList_append_own _ rfl _ _ 90 rfl w.heap.size 94 i0 (.int .u32 0) 1 4 Tryz.underlying90 hi hz0 hz1 hz2 rfl (by decide) (.slice none 0 0) 0 [] rfl (World.ownsRow_nil _ _ _ _) ⟨g, 0, none⟩ l.length cap (wcells l) rfl (by simp [wcells]) hcells (wcells_one l) (by unfold maxLen; omega) (by omega) (Nat.le_refl _) ?_)
    intro v' w1 hown' hgrow _
    have hW : Wds w1 v' l := by
      have h' : w1.ownsRow 0 94 1 v' l.length (wcells l) := by simpa using bown_mono hown' (Nat.zero_le _)
      exact h'
    have hB : Below w.heap.size w w1 := (Below.refl _ _).grown hgrow (Nat.le_refl _) (fun k hk => by cases hk)
    clear hown' hgrow hcells
    go_wp2
    go_ret
    exact ⟨_, rfl, hW, hB⟩

theorem bcmp_lt (A A2 : Option Addr) (n cap cap2 : Nat) (w : World) (hn : n < 2) :
    Calls Tryz.prog 110 #[.slice A n cap, .slice A2 2 cap2] w fun e w' => e = .returned (.int .i64 (-1)) ∧ w = w' := by
  have h1 : ((n : Int) != 2) = true := by rw [bne_iff_ne]; omega
  have h2 : (n : Int) < 2 := by omega
  go_enter Tryz.func110, Tryz.ntmps110
  go_wp2
  go_ret
  exact ⟨rfl, rfl⟩

set_option maxRecDepth 100000 in
set_option maxHeartbeats 1000000 in
theorem cmp_ge (g g2 cap cap2 : Nat) (lo hi : Int) (w : World) (c0 : w.cell? ⟨g, 0, none⟩ = some (.int .u32 lo)) (c1 : w.cell? ⟨g, 1, none⟩ = some (.int .u32 hi)) (d0 : w.cell? ⟨g2, 0, none⟩ = some (.int .u32 0)) (d1 : w.cell? ⟨g2, 1, none⟩ = some (.int .u32 1)) (h1 : 1 ≤ hi) (h0 : 0 ≤ lo) :
    Calls Tryz.prog 110 #[.slice (some ⟨g, 0, none⟩) 2 cap, .slice (some ⟨g2, 0, none⟩) 2 cap2] w fun e w' => ∃ c, 0 ≤ c ∧ e = .returned (.int .i64 c) ∧ Below w.heap.size w w' := by
  by_cases a1 : hi = 1
  · subst a1
    by_cases a0 : lo = 0
    · subst a0
      go_enter Tryz.func110, Tryz.ntmps110
      go_wp2_with fail
      refine wp_loop_rounds 3 ?_
      rw [rounds_succ]
      go_wp2_with fail
      go_quiet (fail)
      go_wp2_with fail
      rw [rounds_succ]
      go_wp2_with fail
      go_quiet (fail)
      go_wp2_with fail
      rw [rounds_succ]
      go_wp2
      go_ret
      exact ⟨0, by omega, rfl, ⟨rfl, rfl, rfl, Nat.le_refl _, fun _ _ => rfl⟩⟩
    · have b0 : (lo != 0) = true := by rw [bne_iff_ne]; exact a0
      have b1 : ¬ lo < 0 := by omega
      go_enter Tryz.func110, Tryz.ntmps110
      go_wp2_with fail
      refine wp_loop_rounds 3 ?_
      rw [rounds_succ]
      go_wp2_with fail
      go_quiet (fail)
      go_wp2_with fail
      rw [rounds_succ]
      go_wp2_with fail
      go_quiet (fail)
      go_wp2_with fail
      go_quiet (fail)
      go_wp2
      go_ret
      exact ⟨1, by omega, rfl, ⟨rfl, rfl, rfl, Nat.le_refl _, fun _ _ => rfl⟩⟩
  · have b0 : (hi != 1) = true := by rw [bne_iff_ne]; exact a1
    have b1 : ¬ hi < 1 := by omega
    go_enter Tryz.func110, Tryz.ntmps110
    go_wp2_with fail
    refine wp_loop_rounds 3 ?_
    rw [rounds_succ]
    go_wp2_with fail
    go_quiet (fail)
    go_wp2_with fail
    go_quiet (fail)
    go_wp2
    go_ret
    exact ⟨1, by omega, rfl, ⟨rfl, rfl, rfl, Nat.le_refl _, fun _ _ => rfl⟩⟩

theorem or_words (lo hi : Int) (l0 : 0 ≤ lo) (l1 : lo < 4294967296) (h0 : 0 ≤ hi) (h1 : hi < 4294967296) : bits .or .u64 lo (hi * 4294967296) = hi * 4294967296 + lo := by
  obtain ⟨a, rfl⟩ := Int.eq_ofNat_of_zero_le l0
  obtain ⟨b, rfl⟩ := Int.eq_ofNat_of_zero_le h0
  have e : ((b : Int) * 4294967296) = ((b * 4294967296 : Nat) : Int) := by omega
  rw [e, bits_or_u64_nat a (b * 4294967296) (by omega) (by omega)]
  have h := Nat.two_pow_add_eq_or_of_lt (i := 32) (b := a) (by omega) b
  have h' : a ||| (b * 4294967296) = b * 4294967296 + a := by
    rw [Nat.or_comm, show b * 4294967296 = 2 ^ 32 * b from by omega, ← h]
  rw [h']
  omega
/-- plain: two words as one number. -/
theorem plain_any (g cap : Nat) (lo hi : Int) (w : World) (c0 : w.cell? ⟨g, 0, none⟩ = some (.int .u32 lo)) (c1 : w.cell? ⟨g, 1, none⟩ = some (.int .u32 hi)) (l0 : 0 ≤ lo) (l1 : lo < 4294967296) (h0 : 0 ≤ hi) (h1 : hi < 4294967296) :
    Calls Tryz.prog 111 #[.slice (some ⟨g, 0, none⟩) 2 cap] w fun e w' => e = .returned (.int .u64 (hi * 4294967296 + lo)) ∧ w = w' := by
  have HO : Hid (bits .or .u64 lo (hi * 4294967296) = hi * 4294967296 + lo) := or_words lo hi l0 l1 h0 h1
  go_enter Tryz.func111, Tryz.ntmps111
  go_wp2
  go_ret
  exact ⟨by rw [← HO.out]; rfl, rfl⟩

set_option maxRecDepth 100000 in
set_option maxHeartbeats 1000000 in
/-- div by 2^32 of what is less. -/
theorem div_lt (x : Value) (l : List Int) (g2 cap2 : Nat) (w : World) (hx : Wds w x l) (hl : l.length < 2) :
    Calls Tryz.prog 96 #[x, .slice (some ⟨g2, 0, none⟩) 2 cap2] w fun e w' => ∃ v, e = .returned (.tuple #[.slice none 0 0, v]) ∧ Wds w' v l ∧ Below w.heap.size w w' := by
  have C := fun w' => twin_any x l w'
  have HT : Hid (∀ w', Below w.heap.size w w' → Calls Tryz.prog 95 #[x] w' fun e w'' => ∃ v, e = .returned v ∧ Wds w'' v l ∧ Below w'.heap.size w' w'') := fun w' hb => C w' (hx.below hb) (by omega)
  clear C
  obtain ⟨A, cap, rfl⟩ := hx.form
  go_enter Tryz.func96, Tryz.ntmps96
  go_wp2_with fail
  refine (bcmp_lt _ _ _ _ _ _ hl).mono ?_; rintro e w' ⟨rfl, rfl⟩
  go_wp2_with fail
  refine (HT.out _ (Below.refl _ _)).mono ?_; rintro e w1 ⟨v, rfl, hv, hb1⟩
  go_wp2
  go_ret2
  exact ⟨_, rfl, hv, hb1⟩

set_option maxRecDepth 100000 in
set_option maxHeartbeats 2000000 in
/-- div by 2^32 of what is not less, of two words. -/
theorem div_ge (g g2 cap cap2 : Nat) (p lo hi : Int) (w : World) (c0 : w.cell? ⟨g, 0, none⟩ = some (.int .u32 lo)) (c1 : w.cell? ⟨g, 1, none⟩ = some (.int .u32 hi)) (d0 : w.cell? ⟨g2, 0, none⟩ = some (.int .u32 0)) (d1 : w.cell? ⟨g2, 1, none⟩ = some (.int .u32 1))
    (k1 : g < w.heap.size) (k2 : g2 < w.heap.size) (l0 : 0 ≤ lo) (l1 : lo < 4294967296) (h0 : 1 ≤ hi) (h1 : hi < 4294967296) (HP : Hid (hi * 4294967296 + lo = p)) (p0 : 0 ≤ p) (p1 : p < 18446744073709551616) :
    Calls Tryz.prog 96 #[.slice (some ⟨g, 0, none⟩) 2 cap, .slice (some ⟨g2, 0, none⟩) 2 cap2] w fun e w' => ∃ q v, e = .returned (.tuple #[q, v]) ∧ Wds w' q (wd (p / 4294967296)) ∧ Wds w' v (wd (p % 4294967296)) ∧ Below w.heap.size w w' := by
  go_enter Tryz.func96, Tryz.ntmps96
  go_wp2_with fail
  refine (cmp_ge g g2 cap cap2 lo hi _ c0 c1 d0 d1 h0 l0).mono ?_; rintro e w1 ⟨c, hc0, rfl, hb1⟩
  have hc : ¬ c < 0 := by omega
  have c0' : w1.cell? ⟨g, 0, none⟩ = some (.int .u32 lo) := (hb1.cell (p := ⟨g, 0, none⟩) k1).trans c0
  have c1' : w1.cell? ⟨g, 1, none⟩ = some (.int .u32 hi) := (hb1.cell (p := ⟨g, 1, none⟩) k1).trans c1
  have d0' : w1.cell? ⟨g2, 0, none⟩ = some (.int .u32 0) := (hb1.cell (p := ⟨g2, 0, none⟩) k2).trans d0
  have d1' : w1.cell? ⟨g2, 1, none⟩ = some (.int .u32 1) := (hb1.cell (p := ⟨g2, 1, none⟩) k2).trans d1
  clear c0 c1 d0 d1
  go_wp2_with fail
  refine (plain_any g cap lo hi _ c0' c1' l0 l1 (by omega) h1).mono ?_; rintro e w' ⟨rfl, rfl⟩
  rw [HP.out]
  go_wp2_with fail
  refine (plain_any g2 cap2 0 1 _ d0' d1' (by omega) (by omega) (by omega) (by omega)).mono ?_; rintro e w' ⟨rfl, rfl⟩
  obtain ⟨m, hm⟩ : ∃ m : Int, m = 1 * 4294967296 + 0 := ⟨_, rfl⟩
  rw [← hm]
  have HM : Hid (m = 4294967296) := hm
  have m0 : (m == 0) = false := by rw [hm]; rfl
  have m1 : 0 < m := by rw [hm]; omega
  clear hm
  go_wp2_with fail
  have q0 : 0 ≤ p / 4294967296 := by omega
  have q1 : p / 4294967296 < 18446744073709551616 := by omega
  have r0 : 0 ≤ p % 4294967296 := by omega
  have r1 : p % 4294967296 < 18446744073709551616 := by omega
  have HQ : Hid (∀ u : World, Calls Tryz.prog 76 #[.int .u64 (p / m)] u fun e w' => ∃ v, e = .returned v ∧ Wds w' v (wd (p / 4294967296)) ∧ Below u.heap.size u w') := fun u => by
    rw [HM.out]; exact words_any _ u q0 q1
  have HR : Hid (∀ u : World, Calls Tryz.prog 76 #[.int .u64 (p % m)] u fun e w' => ∃ v, e = .returned v ∧ Wds w' v (wd (p % 4294967296)) ∧ Below u.heap.size u w') := fun u => by
    rw [HM.out]; exact words_any _ u r0 r1
  have HR2 : Hid (∀ u : World, Calls Tryz.prog 76 #[.int .u64 (p.tmod m)] u fun e w' => ∃ v, e = .returned v ∧ Wds w' v (wd (p % 4294967296)) ∧ Below u.heap.size u w') := fun u => by
    rw [HM.out, Int.tmod_eq_emod_of_nonneg p0]; exact words_any _ u r0 r1
  have HQ2 : Hid (∀ u : World, Calls Tryz.prog 76 #[.int .u64 (IntKind.u64.wrap (p.tdiv m))] u fun e w' => ∃ v, e = .returned v ∧ Wds w' v (wd (p / 4294967296)) ∧ Below u.heap.size u w') := fun u => by
    rw [HM.out, Int.tdiv_eq_ediv_of_nonneg p0, IntKind.wrap_u64, Int.emod_eq_of_lt q0 q1]; exact words_any _ u q0 q1
  clear c0' c1' d0' d1' q0 q1 r0 r1
  go_region_with (first
    | (go_at_call_of 76 (Value.int IntKind.u64 (p / m)); refine (HQ.out _).mono ?_; rintro e wq ⟨vq, rfl, hq, hbq⟩)
    | (go_at_call_of 76 (Value.int IntKind.u64 (p % m)); refine (HR.out _).mono ?_; rintro e wv ⟨vr, rfl, hr, hbr⟩)
    | (go_at_call_of 76 (Value.int IntKind.u64 (p.tmod m)); refine (HR2.out _).mono ?_; rintro e wv ⟨vr, rfl, hr, hbr⟩)
    | (go_at_call_of 76 (Value.int IntKind.u64 (IntKind.u64.wrap (p.tdiv m))); refine (HQ2.out _).mono ?_; rintro e wq ⟨vq, rfl, hq, hbq⟩))
  all_goals go_wp2
  all_goals go_ret2
  all_goals first
    | exact ⟨_, _, rfl, hq.below hbr, hr, (hb1.trans (Below.mono ⟨hbq.os, hbq.tape, hbq.output, hbq.size, hbq.block⟩ hb1.size)).trans (hbr.mono (Nat.le_trans hb1.size hbq.size))⟩
    | exact ⟨_, _, rfl, hq, hr.below hbq, (hb1.trans (Below.mono ⟨hbr.os, hbr.tape, hbr.output, hbr.size, hbr.block⟩ hb1.size)).trans (hbq.mono (Nat.le_trans hb1.size hbr.size))⟩
end Go.Proofs.YtbppiiomjmpjkabGreatDoor
