import Derived.Test.YtoooninneccfcaaGreatDoorGu
import Derived.Test.YtoooninneccfcaaGreatDoorBe
import Derived.Deep.RegionWith
import Derived.Deep.QuietTactic
import Derived.Test.YtoooninneccfcaaGreatDoorNb
import Derived.Test.YtoooninneccfcaaGreatDoorGs
import Derived.Test.YtoooninneccfcaaGreatDoorGp
/- weirgatebig: quotients and rests of two numbers below 2^64. -/
namespace Go.Proofs.YtoooninneccfcaaGreatDoor
open Go.RowKit
set_option linter.unusedVariables false

theorem wl_cls (n : Nat) (h : n < 18446744073709551616) : (n = 0 ∧ wl n = []) ∨ (0 < n ∧ n < 4294967296 ∧ wl n = [n]) ∨ (4294967296 ≤ n ∧ wl n = [n % 4294967296, n / 4294967296]) := by
  by_cases h0 : n = 0
  · subst h0; exact .inl ⟨rfl, wl_zero⟩
  · have e1 := wl_pos h0
    by_cases h1 : n / 4294967296 = 0
    · rw [h1, wl_zero, Nat.mod_eq_of_lt (by omega)] at e1
      exact .inr (.inl ⟨by omega, by omega, e1⟩)
    · have e2 := wl_pos h1
      rw [show n / 4294967296 / 4294967296 = 0 by omega, wl_zero, Nat.mod_eq_of_lt (by omega)] at e2
      rw [e2] at e1
      exact .inr (.inr ⟨by omega, e1⟩)

set_option maxHeartbeats 1000000 in
theorem plain_wl {w : World} {A : Option Addr} {n cap : Nat} (hu : U32s w A (wl n)) (hn : n < 18446744073709551616) :
    Calls Tryz.prog 149 #[.slice A (wl n).length cap] w fun e w' => e = .returned (.int .u64 n) ∧ w = w' := by
  rcases wl_cls n hn with ⟨h0, e⟩ | ⟨h0, h1, e⟩ | ⟨h0, e⟩
  · subst h0
    rw [e]
    go_enter Tryz.func149, Tryz.ntmps149
    go_wp2_with fail
    go_ret
    exact ⟨rfl, rfl⟩
  · rw [e] at hu ⊢
    obtain ⟨b2, o2, rfl, hc⟩ := hu.at (by simp)
    have d0 := hc 0 (by simp)
    have ex : wd [n] 0 = n := by simp [wd, List.getD]
    rw [ex] at d0
    simp only [List.length_cons, List.length_nil, Nat.zero_add, Nat.add_zero] at d0 ⊢
    clear hc hu e ex
    go_enter Tryz.func149, Tryz.ntmps149
    go_wp2_with fail
    go_ret
    exact ⟨rfl, rfl⟩
  · rw [e] at hu ⊢
    obtain ⟨b2, o2, rfl, hc⟩ := hu.at (by simp)
    have d0 := hc 0 (by simp)
    have d1 := hc 1 (by simp)
    rw [show wd [n % 4294967296, n / 4294967296] 0 = n % 4294967296 from by simp [wd, List.getD]] at d0
    rw [show wd [n % 4294967296, n / 4294967296] 1 = n / 4294967296 from by simp [wd, List.getD]] at d1
    simp only [List.length_cons, List.length_nil, Nat.zero_add, Nat.add_zero] at d0 ⊢
    obtain ⟨lo, hlo⟩ : ∃ lo, lo = n % 4294967296 := ⟨_, rfl⟩
    obtain ⟨hi, hhi⟩ : ∃ hi, hi = n / 4294967296 := ⟨_, rfl⟩
    rw [← hlo] at d0
    rw [← hhi] at d1
    have l1 : lo < 4294967296 := by omega
    have l2 : hi < 4294967296 := by omega
    have HO : Hid (bits .or .u64 (lo : Int) ((hi : Int) * 4294967296) = (n : Int)) := by
      show _ = _; rw [or_words lo hi (by omega) (by omega) (by omega) (by omega)]; omega
    clear hc hu e hlo hhi h0
    go_enter Tryz.func149, Tryz.ntmps149
    go_wp2_with fail
    go_ret
    exact ⟨by rw [← HO.out]; rfl, rfl⟩

theorem cmp_sh (A B : Option Addr) (n m ca cb : Nat) (w : World) (h : n < m) (hm : m ≤ 2) :
    Calls Tryz.prog 148 #[.slice A n ca, .slice B m cb] w fun e w' => e = .returned (.int .i64 (-1)) ∧ w = w' := by
  have h1 : ((n : Int) != m) = true := by rw [bne_iff_ne]; omega
  have h2 : (n : Int) < m := by omega
  go_enter Tryz.func148, Tryz.ntmps148
  go_wp2
  go_ret
  exact ⟨rfl, rfl⟩
theorem cmp_lo (A B : Option Addr) (n m ca cb : Nat) (w : World) (h : m < n) (hm : n ≤ 2) :
    Calls Tryz.prog 148 #[.slice A n ca, .slice B m cb] w fun e w' => e = .returned (.int .i64 1) ∧ w = w' := by
  have h1 : ((n : Int) != m) = true := by rw [bne_iff_ne]; omega
  have h2 : ¬ (n : Int) < m := by omega
  go_enter Tryz.func148, Tryz.ntmps148
  go_wp2
  go_ret
  exact ⟨rfl, rfl⟩

def CmE (a b : Nat) (w : World) (e : Ending) (w' : World) : Prop := ∃ c : Int, e = .returned (.int .i64 c) ∧ (c < 0 ↔ a < b) ∧ Below w.heap.size w w'

set_option maxRecDepth 100000 in
set_option maxHeartbeats 2000000 in
theorem cmp_one (g o g2 o2 ca cb : Nat) (a b : Nat) (w : World) (c0 : w.cell? ⟨g, o, none⟩ = some (.int .u32 (a : Int))) (d0 : w.cell? ⟨g2, o2, none⟩ = some (.int .u32 (b : Int))) :
    Calls Tryz.prog 148 #[.slice (some ⟨g, o, none⟩) 1 ca, .slice (some ⟨g2, o2, none⟩) 1 cb] w (CmE a b w) := by
  by_cases q : a = b
  · subst q
    go_enter Tryz.func148, Tryz.ntmps148
    go_wp2_with fail
    refine wp_loop_rounds 3 ?_
    rw [rounds_succ]
    go_wp2_with fail
    go_quiet (fail)
    go_wp2_with fail
    rw [rounds_succ]
    go_wp2
    go_ret
    exact ⟨0, rfl, by omega, ⟨rfl, rfl, rfl, Nat.le_refl _, fun _ _ => rfl⟩⟩
  · have b0 : ((a : Int) != b) = true := by rw [bne_iff_ne]; omega
    by_cases q2 : a < b
    · have b1 : (a : Int) < b := by omega
      go_enter Tryz.func148, Tryz.ntmps148
      go_wp2_with fail
      refine wp_loop_rounds 3 ?_
      rw [rounds_succ]
      go_wp2_with fail
      go_quiet (fail)
      go_wp2_with fail
      go_quiet (fail)
      go_wp2
      go_ret
      exact ⟨-1, rfl, by omega, ⟨rfl, rfl, rfl, Nat.le_refl _, fun _ _ => rfl⟩⟩
    · have b1 : ¬ (a : Int) < b := by omega
      go_enter Tryz.func148, Tryz.ntmps148
      go_wp2_with fail
      refine wp_loop_rounds 3 ?_
      rw [rounds_succ]
      go_wp2_with fail
      go_quiet (fail)
      go_wp2_with fail
      go_quiet (fail)
      go_wp2
      go_ret
      exact ⟨1, rfl, by omega, ⟨rfl, rfl, rfl, Nat.le_refl _, fun _ _ => rfl⟩⟩

set_option maxRecDepth 100000 in
set_option maxHeartbeats 4000000 in
theorem cmp_two (g o g2 o2 ca cb : Nat) (a0 a1 b0 b1 : Nat) (w : World) (l1 : a0 < 4294967296) (l2 : b0 < 4294967296) (c0 : w.cell? ⟨g, o, none⟩ = some (.int .u32 (a0 : Int))) (c1 : w.cell? ⟨g, o + 1, none⟩ = some (.int .u32 (a1 : Int))) (d0 : w.cell? ⟨g2, o2, none⟩ = some (.int .u32 (b0 : Int))) (d1 : w.cell? ⟨g2, o2 + 1, none⟩ = some (.int .u32 (b1 : Int))) :
    Calls Tryz.prog 148 #[.slice (some ⟨g, o, none⟩) 2 ca, .slice (some ⟨g2, o2, none⟩) 2 cb] w (CmE (a1 * 4294967296 + a0) (b1 * 4294967296 + b0) w) := by
  by_cases q : a1 = b1
  · subst q
    by_cases q : a0 = b0
    · subst q
      go_enter Tryz.func148, Tryz.ntmps148
      go_wp2_with fail
      refine wp_loop_rounds 3 ?_
      rw [rounds_succ]
      go_wp2_with fail
      go_quiet (fail)
      go_wp2_with fail
      rw [rounds_succ]
      go_wp2_with fail
      go_quiet (fail)
      go_wp2_with fail
      rw [rounds_succ]
      go_wp2
      go_ret
      exact ⟨0, rfl, by omega, ⟨rfl, rfl, rfl, Nat.le_refl _, fun _ _ => rfl⟩⟩
    · have z0 : ((a0 : Int) != b0) = true := by rw [bne_iff_ne]; omega
      by_cases q2 : a0 < b0
      · have z1 : (a0 : Int) < b0 := by omega
        go_enter Tryz.func148, Tryz.ntmps148
        go_wp2_with fail
        refine wp_loop_rounds 3 ?_
        rw [rounds_succ]
        go_wp2_with fail
        go_quiet (fail)
        go_wp2_with fail
        rw [rounds_succ]
        go_wp2_with fail
        go_quiet (fail)
        go_wp2_with fail
        go_quiet (fail)
        go_wp2
        go_ret
        exact ⟨-1, rfl, by omega, ⟨rfl, rfl, rfl, Nat.le_refl _, fun _ _ => rfl⟩⟩
      · have z1 : ¬ (a0 : Int) < b0 := by omega
        go_enter Tryz.func148, Tryz.ntmps148
        go_wp2_with fail
        refine wp_loop_rounds 3 ?_
        rw [rounds_succ]
        go_wp2_with fail
        go_quiet (fail)
        go_wp2_with fail
        rw [rounds_succ]
        go_wp2_with fail
        go_quiet (fail)
        go_wp2_with fail
        go_quiet (fail)
        go_wp2
        go_ret
        exact ⟨1, rfl, by omega, ⟨rfl, rfl, rfl, Nat.le_refl _, fun _ _ => rfl⟩⟩
  · have z0 : ((a1 : Int) != b1) = true := by rw [bne_iff_ne]; omega
    by_cases q2 : a1 < b1
    · have z1 : (a1 : Int) < b1 := by omega
      go_enter Tryz.func148, Tryz.ntmps148
      go_wp2_with fail
      refine wp_loop_rounds 3 ?_
      rw [rounds_succ]
      go_wp2_with fail
      go_quiet (fail)
      go_wp2_with fail
      go_quiet (fail)
      go_wp2
      go_ret
      exact ⟨-1, rfl, by omega, ⟨rfl, rfl, rfl, Nat.le_refl _, fun _ _ => rfl⟩⟩
    · have z1 : ¬ (a1 : Int) < b1 := by omega
      go_enter Tryz.func148, Tryz.ntmps148
      go_wp2_with fail
      refine wp_loop_rounds 3 ?_
      rw [rounds_succ]
      go_wp2_with fail
      go_quiet (fail)
      go_wp2_with fail
      go_quiet (fail)
      go_wp2
      go_ret
      exact ⟨1, rfl, by omega, ⟨rfl, rfl, rfl, Nat.le_refl _, fun _ _ => rfl⟩⟩

theorem cmp_wl {w : World} {A B : Option Addr} {a b ca cb : Nat} (ha : U32s w A (wl a)) (hb : U32s w B (wl b)) (la : a < 18446744073709551616) (lb : b < 18446744073709551616) (h0 : b ≠ 0) :
    Calls Tryz.prog 148 #[.slice A (wl a).length ca, .slice B (wl b).length cb] w (CmE a b w) := by
  have sh : ∀ n m : Nat, n < m → m ≤ 2 → a < b → Calls Tryz.prog 148 #[.slice A n ca, .slice B m cb] w (CmE a b w) := fun n m h1 h2 h3 =>
    (cmp_sh A B n m ca cb w h1 h2).mono fun e w' ⟨h4, h5⟩ => ⟨-1, h4, by omega, by subst h5; exact Below.refl _ _⟩
  have lo : ∀ n m : Nat, m < n → n ≤ 2 → ¬ a < b → Calls Tryz.prog 148 #[.slice A n ca, .slice B m cb] w (CmE a b w) := fun n m h1 h2 h3 =>
    (cmp_lo A B n m ca cb w h1 h2).mono fun e w' ⟨h4, h5⟩ => ⟨1, h4, by omega, by subst h5; exact Below.refl _ _⟩
  rcases wl_cls b lb with ⟨e1, -⟩ | ⟨k0, k1, eb⟩ | ⟨k0, eb⟩
  · exact absurd e1 h0
  · rcases wl_cls a la with ⟨e1, ea⟩ | ⟨j0, j1, ea⟩ | ⟨j0, ea⟩
    · rw [ea, eb]; exact sh 0 1 (by omega) (by omega) (by omega)
    · rw [ea] at ha ⊢
      rw [eb] at hb ⊢
      obtain ⟨g, o, rfl, hc⟩ := ha.at (by simp)
      obtain ⟨g2, o2, rfl, hd⟩ := hb.at (by simp)
      have c0 := hc 0 (by simp)
      have d0 := hd 0 (by simp)
      exact cmp_one g o g2 o2 ca cb a b w c0 d0
    · rw [ea, eb]; exact lo 2 1 (by omega) (by omega) (by omega)
  · rcases wl_cls a la with ⟨e1, ea⟩ | ⟨j0, j1, ea⟩ | ⟨j0, ea⟩
    · rw [ea, eb]; exact sh 0 2 (by omega) (by omega) (by omega)
    · rw [ea, eb]; exact sh 1 2 (by omega) (by omega) (by omega)
    · rw [ea] at ha ⊢
      rw [eb] at hb ⊢
      obtain ⟨g, o, rfl, hc⟩ := ha.at (by simp)
      obtain ⟨g2, o2, rfl, hd⟩ := hb.at (by simp)
      have c0 := hc 0 (by simp)
      have d0 := hd 0 (by simp)
      have c1 := hc 1 (by simp)
      have d1 := hd 1 (by simp)
      have H := cmp_two g o g2 o2 ca cb (a % 4294967296) (a / 4294967296) (b % 4294967296) (b / 4294967296) w (by omega) (by omega) c0 c1 d0 d1
      rw [show a / 4294967296 * 4294967296 + a % 4294967296 = a by omega, show b / 4294967296 * 4294967296 + b % 4294967296 = b by omega] at H
      exact H

/-- twin: the words, once more. -/
theorem twin_all {w : World} {v : Value} {l : List Nat} (h : Wv w v l) (hl2 : l.length ≤ 1000) :
    Calls Tryz.prog 146 #[v] w fun e w' => ∃ v', e = .returned v' ∧ Wv w' v' l ∧ Below w.heap.size w w' := by
  obtain ⟨i0, hi, hz0, hz1, hz2⟩ := info_parts Tryz.infoU
  obtain ⟨A, c, rfl, hc, h⟩ := h
  cases A with
  | none =>
    have h0 : l = [] := by
      rcases h with h | ⟨b, o, h, -⟩
      · exact h
      · cases h
    subst h0
    go_enter Tryz.func146, Tryz.ntmps146
    go_wp2
    go_ret
    exact ⟨_, rfl, Wv.nil _, Below.refl _ _⟩
  | some p =>
    have hcs : ∀ (j : Nat) (u : Value), (l.map fun (x : Nat) => Value.int .u32 (x : Int))[j]? = some u → w.cell? (p.add j) = some u := by
      intro j u hj
      have hj' : j < l.length := by have := (List.getElem?_eq_some_iff.1 hj).1; simpa using this
      obtain ⟨b, o, e, hat⟩ := h.at (by omega)
      obtain rfl := Option.some.inj e
      have h2 := hat j hj'
      rw [show (⟨b, o, none⟩ : Addr).add j = ⟨b, o + j, none⟩ from by unfold Addr.add; split <;> simp_all, h2]
      rw [List.getElem?_map, List.getElem?_eq_getElem hj'] at hj
      rw [wd_get hj']; simpa using hj
    go_enter Tryz.func146, Tryz.ntmps146
    go_wp2_with (at_builtin; refine wpList_append_own _ rfl _ _ 83 rfl w.heap.size 194 i0 (.int .u32 0) 1 4 Tryz.underlying83 hi hz0 hz1 hz2 rfl (by decide) (.slice none 0 0) 0 [] rfl (World.ownsRow_nil _ _ _ _) p l.length c (l.map fun (x : Nat) => Value.int .u32 (x : Int)) rfl (by simp) hcs (by intro u hu; obtain ⟨x, -, rfl⟩ := List.mem_map.1 hu; rfl) (by unfold maxLen; omega) (by omega) (Nat.le_refl _) ?_)
    intro v1 w1 o1 g1 _
    have B1 : Below w.heap.size w w1 := (Below.refl _ _).grown g1 (Nat.le_refl _) (fun j hj => by simp [Value.ownBlock] at hj)
    have W1 : Wv w1 v1 l := by
      try rw [Nat.zero_add] at o1
      have o1' := o1
      rcases o1.2 with ⟨h0, h00⟩ | ⟨g, cap, cur, h0, -, -, h02, -⟩
      · have hn : l = [] := List.eq_nil_of_length_eq_zero h00
        subst hn; subst h0
        exact Wv.nil _
      · subst h0
        refine ⟨some ⟨g, 0, none⟩, cap, rfl, h02, .inr ⟨g, 0, rfl, fun j hj => ?_⟩⟩
        rw [Nat.zero_add, o1'.cellAt j (by omega), List.getElem?_map, List.getElem?_eq_getElem hj]
        rfl
    clear o1 g1 hcs
    go_wp2_with fail
    go_ret
    exact ⟨_, rfl, W1, B1⟩

set_option maxRecDepth 100000 in
set_option maxHeartbeats 4000000 in
theorem div_wl {w : World} {v u : Value} {a b : Nat} (ha : Wv w v (wl a)) (hb : Wv w u (wl b)) (la : a < 18446744073709551616) (lb : b < 18446744073709551616) (h0 : b ≠ 0) :
    Calls Tryz.prog 117 #[v, u] w fun e w' => ∃ q r, e = .returned (.tuple #[q, r]) ∧ Wv w' q (wl (a / b)) ∧ Wv w' r (wl (a % b)) ∧ Below w.heap.size w w' := by
  have len2 : ∀ n, n < 18446744073709551616 → (wl n).length ≤ 2 := fun n hn => by rcases wl_cls n hn with ⟨-, e⟩ | ⟨-, -, e⟩ | ⟨-, e⟩ <;> rw [e] <;> simp
  have hla := len2 a la
  have hlb := len2 b lb
  have hbp : ((wl b).length : Int) ≠ 0 := by rw [wl_pos h0]; simp; omega
  have hb1 : (((wl b).length : Int) == 0) = false := by simpa using hbp
  have HT := Lib.hid (fun (w' : World) (hw : Below w.heap.size w w') => twin_all (ha.of hw) (by omega))
  obtain ⟨A, ca, rfl, hca, hua⟩ := ha
  obtain ⟨B, cb, rfl, hcb, hub⟩ := hb
  have HC := cmp_wl (ca := ca) (cb := cb) hua hub la lb h0
  have HPa := Lib.hid (fun (w' : World) (hw : Below w.heap.size w w') => plain_wl (cap := ca) (hua.of hw) la)
  have HPb := Lib.hid (fun (w' : World) (hw : Below w.heap.size w w') => plain_wl (cap := cb) (hub.of hw) lb)
  have hlaI : ((wl a).length : Int) ≤ 2 := by omega
  clear hua hub len2
  by_cases hlt : a < b
  · have eq0 : wl (a / b) = [] := by rw [Nat.div_eq_of_lt hlt, wl_zero]
    have eq1 : a % b = a := Nat.mod_eq_of_lt hlt
    rw [eq0, eq1]
    generalize wl a = L at *
    generalize wl b = M at *
    go_enter Tryz.func117, Tryz.ntmps117
    go_wp2_with (go_at_call 148; refine HC.mono ?_; rintro e w1 ⟨c, rfl, hc, b1⟩; refine Hid.out ?_)
    refine Lib.hid ?_
    have hc0 : c < 0 := hc.2 hlt
    have HT1 := HT.out w1 b1
    clear hc
    go_wp2_with (go_at_call 146; refine HT1.mono ?_; rintro e w2 ⟨v', rfl, hv, b2⟩; refine Hid.out ?_)
    refine Lib.hid ?_
    go_wp2_with fail
    go_ret2
    exact ⟨_, _, rfl, Wv.nil _, hv, b1.trans (b2.mono b1.size)⟩
  · have q1 : a / b < 18446744073709551616 := Nat.lt_of_le_of_lt (Nat.div_le_self a b) la
    have q2 : ((a / b : Nat) : Int) < 18446744073709551616 := by generalize a / b = X at q1 ⊢; omega
    have r1 : a % b < 18446744073709551616 := Nat.lt_of_le_of_lt (Nat.mod_le a b) la
    have eQ : ((a / b : Nat) : Int) = (a : Int) / (b : Int) := Int.natCast_ediv a b
    have eR : ((a % b : Nat) : Int) = (a : Int) % (b : Int) := Int.natCast_emod a b
    have HQ : Hid (∀ x : World, Calls Tryz.prog 119 #[.int .u64 ((a : Int) / (b : Int))] x fun e w' => ∃ v, e = .returned v ∧ Wv w' v (wl (a / b)) ∧ Below x.heap.size x w') := fun x => by
      rw [← eQ]; exact words_any _ x q1
    have HR : Hid (∀ x : World, Calls Tryz.prog 119 #[.int .u64 ((a : Int) % (b : Int))] x fun e w' => ∃ v, e = .returned v ∧ Wv w' v (wl (a % b)) ∧ Below x.heap.size x w') := fun x => by
      rw [← eR]; exact words_any _ x r1
    have HR2 : Hid (∀ x : World, Calls Tryz.prog 119 #[.int .u64 ((a : Int).tmod (b : Int))] x fun e w' => ∃ v, e = .returned v ∧ Wv w' v (wl (a % b)) ∧ Below x.heap.size x w') := fun x => by
      rw [Int.tmod_eq_emod_of_nonneg (by omega), ← eR]; exact words_any _ x r1
    have HQ2 : Hid (∀ x : World, Calls Tryz.prog 119 #[.int .u64 (IntKind.u64.wrap ((a : Int).tdiv (b : Int)))] x fun e w' => ∃ v, e = .returned v ∧ Wv w' v (wl (a / b)) ∧ Below x.heap.size x w') := fun x => by
      rw [Int.tdiv_eq_ediv_of_nonneg (by omega), ← eQ, IntKind.wrap_u64, Int.emod_eq_of_lt (Int.natCast_nonneg _) q2]; exact words_any _ x q1
    have HQ3 : Hid (∀ x : World, Calls Tryz.prog 119 #[.int .u64 (IntKind.u64.wrap ((a : Int) / (b : Int)))] x fun e w' => ∃ v, e = .returned v ∧ Wv w' v (wl (a / b)) ∧ Below x.heap.size x w') := fun x => by
      rw [← eQ, IntKind.wrap_u64, Int.emod_eq_of_lt (Int.natCast_nonneg _) q2]; exact words_any _ x q1
    clear eQ eR q1 q2 r1
    generalize wl (a / b) = Q at *
    generalize wl (a % b) = R at *
    generalize wl a = L at *
    generalize wl b = M at *
    have b0I : ((b : Int) == 0) = false := by simpa using h0
    have b0J : (0 : Int) < b := by omega
    have a0J : (0 : Int) ≤ a := by omega
    have a1J : (a : Int) < 18446744073709551616 := by omega
    go_enter Tryz.func117, Tryz.ntmps117
    go_wp2_with (go_at_call 148; refine HC.mono ?_; rintro e w1 ⟨c, rfl, hc, b1⟩; refine Hid.out ?_)
    refine Lib.hid ?_
    have hc0 : ¬ c < 0 := fun h => hlt (hc.1 h)
    have HP1 := HPa.out w1 b1
    have HP2 := HPb.out w1 b1
    clear hc HC
    go_wp2_with (go_at_call 149; refine HP1.mono ?_; rintro e w' ⟨rfl, rfl⟩; refine Hid.out ?_)
    refine Lib.hid ?_
    go_wp2_with (go_at_call 149; refine HP2.mono ?_; rintro e w' ⟨rfl, rfl⟩; refine Hid.out ?_)
    refine Lib.hid ?_
    clear HP1 HP2 HPa HPb HT
    go_wp2_with fail
    go_region_with (first
      | (go_at_call_of 119 (Value.int IntKind.u64 ((a : Int) / (b : Int))); refine (HQ.out _).mono ?_; rintro e wq ⟨vq, rfl, hq, hbq⟩)
      | (go_at_call_of 119 (Value.int IntKind.u64 ((a : Int) % (b : Int))); refine (HR.out _).mono ?_; rintro e wv ⟨vr, rfl, hr, hbr⟩)
      | (go_at_call_of 119 (Value.int IntKind.u64 ((a : Int).tmod (b : Int))); refine (HR2.out _).mono ?_; rintro e wv ⟨vr, rfl, hr, hbr⟩)
      | (go_at_call_of 119 (Value.int IntKind.u64 (IntKind.u64.wrap ((a : Int).tdiv (b : Int)))); refine (HQ2.out _).mono ?_; rintro e wq ⟨vq, rfl, hq, hbq⟩)
      | (go_at_call_of 119 (Value.int IntKind.u64 (IntKind.u64.wrap ((a : Int) / (b : Int)))); refine (HQ3.out _).mono ?_; rintro e wq ⟨vq, rfl, hq, hbq⟩))
    all_goals go_wp2
    all_goals go_ret2
    all_goals first
      | exact ⟨_, _, rfl, hq.of hbr, hr, (b1.trans (Below.mono ⟨hbq.os, hbq.tape, hbq.output, hbq.size, hbq.block⟩ b1.size)).trans (hbr.mono (Nat.le_trans b1.size hbq.size))⟩
      | exact ⟨_, _, rfl, hq, hr.of hbq, (b1.trans (Below.mono ⟨hbr.os, hbr.tape, hbr.output, hbr.size, hbr.block⟩ b1.size)).trans (hbq.mono (Nat.le_trans b1.size hbr.size))⟩
end Go.Proofs.YtoooninneccfcaaGreatDoor

/- weirgatebig: Quo, Rem, whether a number fits, its low bits with a sign. -/
namespace Go.Proofs.YtoooninneccfcaaGreatDoor
open Go.RowKit
set_option linter.unusedVariables false

theorem give_sg {w : World} {b : Nat} {neg0 : Bool} {v0 v : Value} {n : Nat} (hb : w.heap[b]? = some (.cells #[.bool neg0, v0] 85 (0, 0))) (hv0 : ∃ A n c, v0 = .slice A n c) (hv : Wv w v (wl n)) (s : Bool) :
    Calls Tryz.prog 118 #[.pointer (some ⟨b, 0, none⟩), .bool s, v] w fun e w' => e = .returned (.pointer (some ⟨b, 0, none⟩)) ∧ IntV w' b (s && decide (n ≠ 0)) n ∧ Fr [b] w w' := by
  cases s with
  | false => simpa using give_any hb hv0 hv
  | true =>
    by_cases hn : n = 0
    · subst hn
      have hv' := hv
      rw [wl_zero] at hv
      obtain ⟨A, cap, rfl, -, -⟩ := hv
      have c0 : w.cell? ⟨b, 0, none⟩ = some (.bool neg0) := by simp [World.cell?, hb]
      have c1 : w.cell? ⟨b, 1, none⟩ = some v0 := by simp [World.cell?, hb]
      have f0 : w.frozen? ⟨b, 0, none⟩ = false := by simp [World.frozen?, hb]
      have f1 : w.frozen? ⟨b, 1, none⟩ = false := by simp [World.frozen?, hb]
      have G : Fr [b] w ((w.setCell ⟨b, 1, none⟩ (.slice A 0 cap)).setCell ⟨b, 0, none⟩ (.bool false)) := ((Fr.refl _ _).setCell (.inl (by simp)) _).setCell (.inl (by simp)) _
      have I : IntV ((w.setCell ⟨b, 1, none⟩ (.slice A 0 cap)).setCell ⟨b, 0, none⟩ (.bool false)) b false 0 := by
        refine ⟨.slice A 0 cap, ?_, hv'.fr G hb (two_no rfl hv0)⟩
        simp [World.setCell, Array.getElem?_modify, hb]
      simp only [List.length_nil]
      go_enter Tryz.func118, Tryz.ntmps118
      go_wp2
      go_ret
      exact ⟨rfl, I, G⟩
    · simpa [hn] using give_neg hb hv0 hv hn

theorem IntV.lt {w : World} {b n : Nat} {neg : Bool} (h : IntV w b neg n) : b < w.heap.size := by obtain ⟨v, hb, -⟩ := h; exact some_lt hb
theorem IntV.bel {w w' : World} {b n : Nat} {neg : Bool} (h : IntV w b neg n) (k : Below w.heap.size w w') : IntV w' b neg n := by
  obtain ⟨v, hb, hv⟩ := h
  exact ⟨v, (k.block b (some_lt hb)).trans hb, hv.of k⟩
theorem IntV.fr {w w' : World} {b n z : Nat} {neg : Bool} {c : Array Value} (h : IntV w b neg n) (f : Fr [z] w w') (hz : w.heap[z]? = some (.cells c 85 (0, 0))) (hc : ∀ (i : Nat) (x : Int), c[i]? ≠ some (.int .u32 x)) (hne : b ≠ z) : IntV w' b neg n := by
  obtain ⟨v, hb, hv⟩ := h
  exact ⟨v, (f.block b (some_lt hb) (by simpa using hne)).trans hb, hv.fr f hz hc⟩

set_option maxRecDepth 100000 in
set_option maxHeartbeats 4000000 in
theorem quorem_any {w : World} {z r x y : Nat} {xn yn nz nr : Bool} {vz vr : Value} {a b : Nat} (hz : w.heap[z]? = some (.cells #[.bool nz, vz] 85 (0, 0))) (hvz : ∃ A n c, vz = .slice A n c) (hr : w.heap[r]? = some (.cells #[.bool nr, vr] 85 (0, 0))) (hvr : ∃ A n c, vr = .slice A n c)
    (hx : IntV w x xn a) (hy : IntV w y yn b) (hzr : z ≠ r) (la : a < 18446744073709551616) (lb : b < 18446744073709551616) (h0 : b ≠ 0) :
    Calls Tryz.prog 72 #[.pointer (some ⟨z, 0, none⟩), .pointer (some ⟨x, 0, none⟩), .pointer (some ⟨y, 0, none⟩), .pointer (some ⟨r, 0, none⟩)] w fun e w' =>
      e = .returned (.tuple #[.pointer (some ⟨z, 0, none⟩), .pointer (some ⟨r, 0, none⟩)]) ∧ IntV w' z ((xn != yn) && decide (a / b ≠ 0)) (a / b) ∧ IntV w' r (xn && decide (a % b ≠ 0)) (a % b) ∧ Fr [z, r] w w' := by
  have ltz : z < w.heap.size := some_lt hz
  have ltr : r < w.heap.size := some_lt hr
  obtain ⟨vx, kx, Wx⟩ := hx
  obtain ⟨vy, ky, Wy⟩ := hy
  have x0 : w.cell? ⟨x, 0, none⟩ = some (.bool xn) := by simp [World.cell?, kx]
  have y0 : w.cell? ⟨y, 0, none⟩ = some (.bool yn) := by simp [World.cell?, ky]
  have x1 : w.cell? ⟨x, 1, none⟩ = some vx := by simp [World.cell?, kx]
  have y1 : w.cell? ⟨y, 1, none⟩ = some vy := by simp [World.cell?, ky]
  have HCt : Hid (∀ w', Below w.heap.size w w' → Calls Tryz.prog 117 #[vx, vy] w' fun e w'' => ∃ q v, e = .returned (.tuple #[q, v]) ∧ Wv w'' q (wl (a / b)) ∧ Wv w'' v (wl (a % b)) ∧ Below w'.heap.size w' w'') := fun w' hb => div_wl (Wx.of hb) (Wy.of hb) la lb h0
  have HK : Hid (w.heap[z]? = some (.cells #[.bool nz, vz] 85 (0, 0)) ∧ w.heap[r]? = some (.cells #[.bool nr, vr] 85 (0, 0))) := ⟨hz, hr⟩
  obtain ⟨Ax, nx, cx, rfl⟩ : ∃ A n c, vx = .slice A n c := by obtain ⟨A, c, rfl, -⟩ := Wx; exact ⟨_, _, _, rfl⟩
  obtain ⟨Ay, ny, cy, rfl⟩ : ∃ A n c, vy = .slice A n c := by obtain ⟨A, c, rfl, -⟩ := Wy; exact ⟨_, _, _, rfl⟩
  clear hz hr kx ky Wx Wy
  generalize a / b = Q at *
  generalize a % b = R at *
  go_enter Tryz.func72, Tryz.ntmps72
  go_wp2_with fail
  go_quiet (fail)
  go_wp2_with fail
  go_region_with (first
    | (go_at_call 117; refine (HCt.out _ ?_).mono ?_; exact ⟨rfl, rfl, rfl, Nat.le_refl _, fun _ _ => rfl⟩; rintro e w1 ⟨q, v, rfl, hq, hv, hb1⟩; have HV : Hid (Wv w1 q (wl Q) ∧ Wv w1 v (wl R) ∧ Below w.heap.size w w1) := ⟨hq, hv, ⟨hb1.os, hb1.tape, hb1.output, hb1.size, hb1.block⟩⟩; clear hq hv hb1))
  all_goals
    have kz1 := (HV.out.2.2.block z ltz).trans HK.out.1
    have G1 := give_sg kz1 hvz HV.out.1 (xn != yn)
    go_wp2_with (go_at_call 118; refine G1.mono ?_; rintro e w2 ⟨rfl, hI, hG⟩; refine Hid.out ?_)
    refine Lib.hid ?_
    have kr2 := (hG.block r (Nat.lt_of_lt_of_le ltr HV.out.2.2.size) (by simpa using Ne.symm hzr)).trans ((HV.out.2.2.block r ltr).trans HK.out.2)
    have G2 := give_sg kr2 hvr (HV.out.2.1.fr hG kz1 (two_no rfl hvz)) xn
    clear G1
    go_wp2_with (go_at_call 118; refine G2.mono ?_; rintro e w3 ⟨rfl, hI3, hG3⟩; refine Hid.out ?_)
    refine Lib.hid ?_
    clear G2
    go_wp2
    go_ret2
    exact ⟨rfl, hI.fr hG3 kr2 (two_no rfl hvr) hzr, hI3, ((Fr.below HV.out.2.2).trans (hG.more fun k _ hk => by simp at hk; simp [hk])).trans (hG3.more fun k _ hk => by simp at hk; simp [hk])⟩

theorem int_new (w : World) : (w.alloc (.cells #[.bool false, .slice none 0 0] 85)).heap[w.heap.size]? = some (.cells #[.bool false, .slice none 0 0] 85 (0, 0)) := by rw [heap_alloc_new]
theorem int_keep {w : World} {z : Nat} {o p : Obj} (h : w.heap[z]? = some o) : (w.alloc p).heap[z]? = some o := by
  rw [((Below.refl w.heap.size w).alloc (Nat.le_refl _) p).block z (some_lt h)]; exact h
set_option maxRecDepth 100000 in
set_option maxHeartbeats 2000000 in
theorem quo_any {w : World} {z x y : Nat} {xn yn nz : Bool} {vz : Value} {a b : Nat} (hz : w.heap[z]? = some (.cells #[.bool nz, vz] 85 (0, 0))) (hvz : ∃ A n c, vz = .slice A n c)
    (hx : IntV w x xn a) (hy : IntV w y yn b) (la : a < 18446744073709551616) (lb : b < 18446744073709551616) (h0 : b ≠ 0) :
    Calls Tryz.prog 36 #[.pointer (some ⟨z, 0, none⟩), .pointer (some ⟨x, 0, none⟩), .pointer (some ⟨y, 0, none⟩)] w fun e w' =>
      e = .returned (.pointer (some ⟨z, 0, none⟩)) ∧ IntV w' z ((xn != yn) && decide (a / b ≠ 0)) (a / b) ∧ Fr [z] w w' := by
  have B1 : Below w.heap.size w (w.alloc (.cells #[.bool false, .slice none 0 0] 85)) := (Below.refl _ _).alloc (Nat.le_refl _) _
  have H := quorem_any (int_keep hz) hvz (int_new w) ⟨none, 0, 0, rfl⟩ (hx.bel B1) (hy.bel B1) (Nat.ne_of_lt (some_lt hz)) la lb h0
  have F1 : Fr [z, w.heap.size] w (w.alloc (.cells #[.bool false, .slice none 0 0] 85)) := (Fr.refl _ _).alloc _
  go_enter Tryz.func36, Tryz.ntmps36
  go_wp2_with (go_at_call 72; refine H.mono ?_; rintro e u2 ⟨rfl, hI, hJ, f2⟩; refine Hid.out ?_)
  refine Lib.hid ?_
  go_wp2_with fail
  go_ret
  exact ⟨rfl, hI, (F1.trans f2).more fun k hk hm => by simp at hm ⊢; rcases hm with h | h <;> omega⟩
set_option maxRecDepth 100000 in
set_option maxHeartbeats 2000000 in
theorem rem_any {w : World} {z x y : Nat} {xn yn nz : Bool} {vz : Value} {a b : Nat} (hz : w.heap[z]? = some (.cells #[.bool nz, vz] 85 (0, 0))) (hvz : ∃ A n c, vz = .slice A n c)
    (hx : IntV w x xn a) (hy : IntV w y yn b) (la : a < 18446744073709551616) (lb : b < 18446744073709551616) (h0 : b ≠ 0) :
    Calls Tryz.prog 38 #[.pointer (some ⟨z, 0, none⟩), .pointer (some ⟨x, 0, none⟩), .pointer (some ⟨y, 0, none⟩)] w fun e w' =>
      e = .returned (.pointer (some ⟨z, 0, none⟩)) ∧ IntV w' z (xn && decide (a % b ≠ 0)) (a % b) ∧ Fr [z] w w' := by
  have B1 : Below w.heap.size w (w.alloc (.cells #[.bool false, .slice none 0 0] 85)) := (Below.refl _ _).alloc (Nat.le_refl _) _
  have H := quorem_any (int_new w) ⟨none, 0, 0, rfl⟩ (int_keep hz) hvz (hx.bel B1) (hy.bel B1) (Nat.ne_of_gt (some_lt hz)) la lb h0
  have F1 : Fr [w.heap.size, z] w (w.alloc (.cells #[.bool false, .slice none 0 0] 85)) := (Fr.refl _ _).alloc _
  go_enter Tryz.func38, Tryz.ntmps38
  go_wp2_with (go_at_call 72; refine H.mono ?_; rintro e u2 ⟨rfl, hI, hJ, f2⟩; refine Hid.out ?_)
  refine Lib.hid ?_
  go_wp2_with fail
  go_ret
  exact ⟨rfl, hJ, (F1.trans f2).more fun k hk hm => by simp at hm ⊢; rcases hm with h | h <;> omega⟩

/-- Int64 of any sign. -/
theorem int64_sg {w : World} {b n : Nat} {neg : Bool} (h : IntV w b neg n) (hn : n ≤ 9223372036854775808) (hp : neg = false → n < 9223372036854775808) :
    Calls Tryz.prog 40 #[.pointer (some ⟨b, 0, none⟩)] w fun e w' => e = .returned (.int .i64 (if neg then -(n : Int) else n)) ∧ ∃ m, w' = w.drewN m := by
  cases neg with
  | false => simpa using int64_any h (hp rfl)
  | true =>
    have c0 := h.cells.1
    have cu := uint64_any h (by omega)
    simp only [if_true]
    clear h hp
    by_cases h1 : n = 9223372036854775808
    · subst h1
      go_enter Tryz.func40, Tryz.ntmps40
      go_wp2_with (go_at_call 76; refine cu.mono ?_; rintro e w' ⟨rfl, m, rfl⟩; refine Hid.out ?_)
      refine Lib.hid ?_
      have d0 : (w.drewN m).cell? ⟨b, 0, none⟩ = some (.bool true) := c0
      go_wp2_with fail
      go_ret
      exact ⟨ret_int (by unfold wrap64; omega), m, rfl⟩
    · have i1 : IntKind.i64.wrap (n : Int) = n := by rw [IntKind.wrap_i64]; omega
      go_enter Tryz.func40, Tryz.ntmps40
      go_wp2_with (go_at_call 76; refine cu.mono ?_; rintro e w' ⟨rfl, m, rfl⟩; refine Hid.out ?_)
      refine Lib.hid ?_
      have d0 : (w.drewN m).cell? ⟨b, 0, none⟩ = some (.bool true) := c0
      go_wp2_with fail
      go_ret
      exact ⟨rfl, m, rfl⟩
end Go.Proofs.YtoooninneccfcaaGreatDoor

/- weirgatebig: whether a number of any sign fits. -/
namespace Go.Proofs.YtoooninneccfcaaGreatDoor
open Go.RowKit
set_option linter.unusedVariables false

set_option maxHeartbeats 1000000 in
theorem isint_lt {w : World} {b n : Nat} {neg : Bool} (h : IntV w b neg n) (hn : n < 9223372036854775808) :
    Calls Tryz.prog 39 #[.pointer (some ⟨b, 0, none⟩)] w fun e w' => e = .returned (.bool true) ∧ w = w' := by
  have hlw := (lenW_lt n).2 hn
  obtain ⟨c0, A, cap, c1, hu⟩ := h.cells
  obtain ⟨v, hb, hv⟩ := h
  have hv2 : Wv w (.slice A (wl n).length cap) (wl n) := by
    obtain ⟨A', cap', rfl, h1, h2⟩ := hv
    have : w.cell? ⟨b, 1, none⟩ = some (.slice A' (wl n).length cap') := by simp [World.cell?, hb]
    rw [c1] at this; simp at this
    obtain ⟨rfl, rfl⟩ := this
    exact ⟨A, cap, rfl, h1, h2⟩
  have cl := length_any hv2 (wds_wl n) (by rcases wl_cls n (by omega) with ⟨-, e⟩ | ⟨-, -, e⟩ | ⟨-, e⟩ <;> rw [e] <;> simp)
  generalize lenW (wl n) = T at *
  clear hu hv hv2 hb
  have hI : (T : Int) < 64 := by omega
  go_enter Tryz.func39, Tryz.ntmps39
  go_wp2_with (go_at_call 74; refine cl.mono ?_; rintro e w' ⟨rfl, rfl⟩)
  go_ret
  exact ⟨rfl, rfl⟩

theorem bit_lo {w : World} {g o c : Nat} (c0 : w.cell? ⟨g, o, none⟩ = some (.int .u32 0)) (i : Nat) (hi : i < 32) :
    Calls Tryz.prog 120 #[.slice (some ⟨g, o, none⟩) 2 c, .int .i64 i] w fun e w' => e = .returned (.int .u64 0) ∧ w = w' := by
  have e1 : (i : Int) / 32 = 0 := by omega
  have e2 : (i : Int).tdiv 32 = 0 := by rw [Int.tdiv_eq_ediv_of_nonneg (by omega)]; exact e1
  go_enter Tryz.func120, Tryz.ntmps120
  go_wp2_with fail
  go_ret
  exact ⟨rfl, rfl⟩
def bt (k : Nat) : Int := bits .and .u64 (IntKind.u64.wrap ((2147483648 : Int) / 2 ^ k)) 1
theorem bt_31 : bt 31 = 1 := by decide
theorem bt_lt (k : Nat) (h : k < 31) : bt k = 0 := by
  have H : ∀ j : Fin 31, bt j.val = 0 := by decide
  exact H ⟨k, h⟩
theorem bit_hi {w : World} {g o c : Nat} (c1 : w.cell? ⟨g, o + 1, none⟩ = some (.int .u32 2147483648)) (i : Nat) (hi : 32 ≤ i) (h2 : i ≤ 63) :
    Calls Tryz.prog 120 #[.slice (some ⟨g, o, none⟩) 2 c, .int .i64 i] w fun e w' => e = .returned (.int .u64 (bt (i - 32))) ∧ w = w' := by
  have e1 : (i : Int) / 32 = 1 := by omega
  have e2 : (i : Int).tdiv 32 = 1 := by rw [Int.tdiv_eq_ediv_of_nonneg (by omega)]; exact e1
  obtain ⟨k, hk⟩ : ∃ k : Nat, k = i - 32 := ⟨_, rfl⟩
  have e3 : (i : Int) % 32 = k := by omega
  go_enter Tryz.func120, Tryz.ntmps120
  go_wp2_with fail
  go_ret
  exact ⟨by subst hk; rfl, rfl⟩
theorem bit_any {w : World} {g o c : Nat} (c0 : w.cell? ⟨g, o, none⟩ = some (.int .u32 0)) (c1 : w.cell? ⟨g, o + 1, none⟩ = some (.int .u32 2147483648)) (i : Nat) (h2 : i ≤ 63) :
    Calls Tryz.prog 120 #[.slice (some ⟨g, o, none⟩) 2 c, .int .i64 i] w fun e w' => e = .returned (.int .u64 (if i = 63 then 1 else 0)) ∧ w = w' := by
  by_cases h : i < 32
  · rw [if_neg (by omega)]; exact bit_lo c0 i h
  · have H := bit_hi (c := c) c1 i (by omega) h2
    by_cases h3 : i = 63
    · subst h3; rw [show bt (63 - 32) = 1 from bt_31] at H; rw [if_pos rfl]; exact H
    · rw [bt_lt _ (by omega)] at H; rw [if_neg h3]; exact H
set_option maxHeartbeats 1000000 in
theorem trail_any {w : World} {b g o c : Nat} (hb : w.cell? ⟨b, 1, none⟩ = some (.slice (some ⟨g, o, none⟩) 2 c)) (c0 : w.cell? ⟨g, o, none⟩ = some (.int .u32 0)) (c1 : w.cell? ⟨g, o + 1, none⟩ = some (.int .u32 2147483648)) :
    Calls Tryz.prog 75 #[.pointer (some ⟨b, 0, none⟩)] w fun e w' => e = .returned (.int .u64 63) ∧ w = w' := by
  have HB := Lib.hid (fun i h => bit_any (c := c) c0 c1 i h)
  clear c0 c1
  go_enter Tryz.func75, Tryz.ntmps75
  go_wp2_with fail
  go_loopw [3] (fun t wr => ∃ k : Nat, k ≤ 63 ∧ t = .int .u64 k ∧ w = wr) (fun t _ => 63 - (intOf t).toNat)
  case atStart => exact ⟨0, by omega, rfl, rfl⟩
  case round =>
    obtain ⟨k, hk, rfl, rfl⟩ := hrel
    have HK := HB.out k hk
    clear HB
    by_cases h : k = 63
    · subst h
      rw [if_pos rfl] at HK
      go_wp2_with (go_at_call 120; refine HK.mono ?_; rintro e w' ⟨rfl, rfl⟩; refine Hid.out ?_)
      refine Lib.hid ?_
      go_wp2_with fail
      go_ret
      exact ⟨rfl, rfl⟩
    · rw [if_neg h] at HK
      have i1 : IntKind.i64.wrap (k : Int) = k := by rw [IntKind.wrap_i64]; omega
      go_wp2_with (go_at_call 120; refine HK.mono ?_; rintro e w' ⟨rfl, rfl⟩; refine Hid.out ?_)
      refine Lib.hid ?_
      go_wp2_with fail
      exact ⟨⟨k + 1, by omega, by go_num, by trivial⟩, by simp [intOf]; omega⟩
theorem wl_63 : wl 9223372036854775808 = [0, 2147483648] := by
  rcases wl_cls 9223372036854775808 (by decide) with ⟨h, -⟩ | ⟨-, h, -⟩ | ⟨-, h⟩
  · omega
  · omega
  · simpa using h
set_option maxHeartbeats 1000000 in
theorem isint_top {w : World} {b : Nat} (h : IntV w b true 9223372036854775808) :
    Calls Tryz.prog 39 #[.pointer (some ⟨b, 0, none⟩)] w fun e w' => e = .returned (.bool true) ∧ w = w' := by
  obtain ⟨c0, A, cap, c1, hu⟩ := h.cells
  obtain ⟨v, hb, hv⟩ := h
  have hv2 : Wv w (.slice A (wl 9223372036854775808).length cap) (wl 9223372036854775808) := by
    obtain ⟨A', cap', rfl, h1, h2⟩ := hv
    have : w.cell? ⟨b, 1, none⟩ = some (.slice A' (wl 9223372036854775808).length cap') := by simp [World.cell?, hb]
    rw [c1] at this; simp at this
    obtain ⟨rfl, rfl⟩ := this
    exact ⟨A, cap, rfl, h1, h2⟩
  have cl := length_any hv2 (wds_wl _) (by rw [wl_63]; simp)
  have e64 : lenW (wl 9223372036854775808) = 64 := by
    have h1 := lenW_lt 9223372036854775808
    rw [wl_63] at h1 ⊢
    have := bl_le 32 2147483648
    have h2 : bl 2147483648 ≤ 32 := this.2 (by decide)
    simp [lenW, wd, List.getD] at h1 ⊢
    omega
  rw [e64] at cl
  rw [wl_63] at c1 cl hu
  obtain ⟨g, o, rfl, hc⟩ := hu.at (by simp)
  have d0 := hc 0 (by simp)
  have d1 := hc 1 (by simp)
  have HT := trail_any (c := cap) c1 d0 d1
  clear hu hv hv2 hb hc
  simp only [List.length_cons, List.length_nil] at c1 cl
  go_enter Tryz.func39, Tryz.ntmps39
  go_wp2_with (go_at_call 74; refine cl.mono ?_; rintro e w' ⟨rfl, rfl⟩; refine Hid.out ?_)
  refine Lib.hid ?_
  go_wp2_with (go_at_call 75; refine HT.mono ?_; rintro e w' ⟨rfl, rfl⟩; refine Hid.out ?_)
  refine Lib.hid ?_
  go_wp2_with fail
  go_ret
  exact ⟨rfl, rfl⟩
end Go.Proofs.YtoooninneccfcaaGreatDoor

/- The document's Value of a tree, but for quotients and rests. -/
namespace Go.Proofs.YtoooninneccfcaaGreatDoor
open Go.RowKit
set_option linter.unusedVariables false
def VlOK (n s : Int) (t : Tm) : Prop := ∀ (S : Nat → Prop) (w : World) (v : Tv), TrV S w t v → Calls Tryz.prog 11 #[tvV v, .int .i64 n, .int .i64 s] w fun e w' => e = .returned (.int .i64 (ev n s t)) ∧ Below w.heap.size w w'
theorem vl_num (n s : Int) (k : Nat) : VlOK n s (.num k) := by
  intro S w x hT
  obtain ⟨rfl, hv⟩ := hT
  have b1 := boxed w 0 k none 0 0
  show Calls Tryz.prog 11 #[.agg #[.int .i64 0, .int .i64 k, .slice none 0 0], .int .i64 n, .int .i64 s] w _
  go_enter Tryz.func11, Tryz.ntmps11
  go_wp2_with fail
  go_ret
  exact ⟨rfl, b1⟩
theorem vl_vn (n s : Int) : VlOK n s .vn := by
  intro S w x hT
  obtain rfl : x = _ := hT
  have b1 := boxed w 110 0 none 0 0
  show Calls Tryz.prog 11 #[.agg #[.int .i64 110, .int .i64 0, .slice none 0 0], .int .i64 n, .int .i64 s] w _
  go_enter Tryz.func11, Tryz.ntmps11
  go_wp2_with fail
  go_ret
  exact ⟨rfl, b1⟩
theorem vl_vs (n s : Int) : VlOK n s .vs := by
  intro S w x hT
  obtain rfl : x = _ := hT
  have b1 := boxed w 115 0 none 0 0
  show Calls Tryz.prog 11 #[.agg #[.int .i64 115, .int .i64 0, .slice none 0 0], .int .i64 n, .int .i64 s] w _
  go_enter Tryz.func11, Tryz.ntmps11
  go_wp2_with fail
  go_ret
  exact ⟨rfl, b1⟩
set_option maxHeartbeats 2000000 in
theorem vl_neg {n s : Int} {a : Tm} (h : VlOK n s a) : VlOK n s (.neg a) := by
  intro S w x hT
  obtain ⟨q, y, hq, rfl, hc, hTa⟩ := hT
  have b1 := boxed w 126 0 (some ⟨q, 0, none⟩) 1 1
  have hc1 := (b1.block _ (some_lt hc)).trans hc
  have HI := h S _ y (hTa.bel b1)
  have hbox : (w.alloc (.cells #[.int .i64 126, .int .i64 0, .slice (some ⟨q, 0, none⟩) 1 1] 24)).heap[w.heap.size]? = some (.cells #[.int .i64 126, .int .i64 0, .slice (some ⟨q, 0, none⟩) 1 1] 24 (0, 0)) := heap_alloc_new w _
  have hql := some_lt hc1
  obtain ⟨z0, z1, z2⟩ := kid (k := 0) (x := y) hc1 rfl rfl rfl
  have he : ev n s (.neg a) = wr (-(ev n s a)) := rfl
  rw [he]
  obtain ⟨ya, yb, yA, yn, yc⟩ := y
  simp only [tvV] at *
  generalize ev n s a = va at *
  clear hTa hc hc1 h he
  go_enter Tryz.func11, Tryz.ntmps11
  go_wp2_with (go_at_call 11; refine HI.mono ?_; rintro e u ⟨rfl, b2⟩; refine Hid.out ?_)
  refine Lib.hid ?_
  have hbx := (b2.block _ (some_lt hbox)).trans hbox
  have g0 : u.cell? ⟨w.heap.size, 0, none⟩ = some (.int .i64 126) := by simp [World.cell?, hbx]
  have HB := Lib.hid (b1.trans (b2.mono b1.size))
  clear b2 HI hbx
  go_wp2_with fail
  go_ret
  exact ⟨ret_int (by rw [← wr_eq]), HB.out⟩
set_option maxHeartbeats 4000000 in
set_option maxRecDepth 100000 in
theorem vl_cond {n s : Int} {a b c : Tm} (ha : VlOK n s a) (hb : VlOK n s b) (hc : VlOK n s c) : VlOK n s (.cond a b c) := by
  intro S w v hT
  obtain ⟨q, x, y, z, hq, rfl, hr, hTa, hTb, hTc⟩ := hT
  have b1 := boxed w 63 0 (some ⟨q, 0, none⟩) 3 3
  have hbox : (w.alloc (.cells #[.int .i64 63, .int .i64 0, .slice (some ⟨q, 0, none⟩) 3 3] 24)).heap[w.heap.size]? = some (.cells #[.int .i64 63, .int .i64 0, .slice (some ⟨q, 0, none⟩) 3 3] 24 (0, 0)) := heap_alloc_new w _
  have HA1 := ha S _ x (hTa.bel b1)
  have HB := Lib.hid (fun (u : World) (hu : Below w.heap.size w u) => hb S u y (hTb.bel hu))
  have HC := Lib.hid (fun (u : World) (hu : Below w.heap.size w u) => hc S u z (hTc.bel hu))
  have HK := Lib.hid (fun (u : World) (hu : Below w.heap.size w u) => (hu.block _ (some_lt hr)).trans hr)
  have he : ev n s (.cond a b c) = if ev n s a ≠ 0 then ev n s b else ev n s c := rfl
  rw [he]
  generalize ev n s a = va at *
  generalize ev n s b = vb at *
  generalize ev n s c = vc at *
  have hql := some_lt hr
  clear he hTa hTb hTc hr ha hb hc
  obtain ⟨xa, xb, xA, xn, xc⟩ := x
  obtain ⟨ya, yb, yA, yn, yc⟩ := y
  obtain ⟨za, zb, zA, zn, zc⟩ := z
  simp only [tvV] at *
  have k1 := HK.out _ b1
  obtain ⟨x0, x1, x2⟩ := kid (k := 0) (x := ⟨xa, xb, xA, xn, xc⟩) k1 rfl rfl rfl
  go_enter Tryz.func11, Tryz.ntmps11
  go_wp2_with (go_at_call 11; refine HA1.mono ?_; rintro e u ⟨rfl, b2⟩; refine Hid.out ?_)
  refine Lib.hid ?_
  have c2 : Below w.heap.size w u := b1.trans (b2.mono b1.size)
  have k2 := HK.out _ c2
  obtain ⟨y0, y1, y2⟩ := kid (k := 3) (x := ⟨ya, yb, yA, yn, yc⟩) k2 rfl rfl rfl
  obtain ⟨z0, z1, z2⟩ := kid (k := 6) (x := ⟨za, zb, zA, zn, zc⟩) k2 rfl rfl rfl
  have hbx := (b2.block _ (some_lt hbox)).trans hbox
  have g0 : u.cell? ⟨w.heap.size, 2, none⟩ = some (.slice (some ⟨q, 0, none⟩) 3 3) := by simp [World.cell?, hbx]
  have g1 : u.cell? ⟨w.heap.size, 0, none⟩ = some (.int .i64 63) := by simp [World.cell?, hbx]
  have HB1 := HB.out _ c2
  have HC1 := HC.out _ c2
  clear HB HC HA1 b2 x0 x1 x2 k1 hbx
  by_cases hv : va = 0
  · subst hv
    go_wp2_with (go_at_call 11; refine HC1.mono ?_; rintro e u3 ⟨rfl, b3⟩)
    go_ret
    exact ⟨ret_int (by simp), c2.trans (b3.mono c2.size)⟩
  · have hv' : (va != 0) = true := by simpa using hv
    go_wp2_with (go_at_call 11; refine HB1.mono ?_; rintro e u3 ⟨rfl, b3⟩)
    go_ret
    exact ⟨ret_int (by first | rfl | rw [if_pos hv]), c2.trans (b3.mono c2.size)⟩
set_option maxHeartbeats 8000000 in
set_option maxRecDepth 100000 in
theorem vl_two {n s : Int} {op : UInt8} {a b : Tm} {o : Int} (hoo : ((op.toNat : Nat) : Int) = o) (ho : op = 43 ∧ o = 43 ∨ op = 45 ∧ o = 45 ∨ op = 42 ∧ o = 42 ∨ op = 109 ∧ o = 109 ∨ op = 77 ∧ o = 77 ∨ op = 60 ∧ o = 60 ∨ op = 61 ∧ o = 61 ∨ op = 62 ∧ o = 62) (ha : VlOK n s a) (hb : VlOK n s b) : VlOK n s (.two op a b) := by
  intro S w v hT
  obtain ⟨q, x, y, hq, rfl, hr, hTa, hTb⟩ := hT
  rw [hoo]
  have b1 := boxed w o 0 (some ⟨q, 0, none⟩) 2 2
  have hbox : (w.alloc (.cells #[.int .i64 o, .int .i64 0, .slice (some ⟨q, 0, none⟩) 2 2] 24)).heap[w.heap.size]? = some (.cells #[.int .i64 o, .int .i64 0, .slice (some ⟨q, 0, none⟩) 2 2] 24 (0, 0)) := heap_alloc_new w _
  have HA1 := ha S _ x (hTa.bel b1)
  have HB := Lib.hid (fun (u : World) (hu : Below w.heap.size w u) => hb S u y (hTb.bel hu))
  have HK := Lib.hid (fun (u : World) (hu : Below w.heap.size w u) => (hu.block _ (some_lt hr)).trans hr)
  have he : ev n s (.two op a b) = of2 op (ev n s a) (ev n s b) := rfl
  rw [he]
  generalize ev n s a = va at *
  generalize ev n s b = vb at *
  have hql := some_lt hr
  clear he hTa hTb hr ha hb
  obtain ⟨xa, xb, xA, xn, xc⟩ := x
  obtain ⟨ya, yb, yA, yn, yc⟩ := y
  simp only [tvV] at *
  have k1 := HK.out _ b1
  obtain ⟨x0, x1, x2⟩ := kid (k := 0) (x := ⟨xa, xb, xA, xn, xc⟩) k1 rfl rfl rfl
  clear hoo
  rcases ho with ⟨rfl, rfl⟩ | ⟨rfl, rfl⟩ | ⟨rfl, rfl⟩ | ⟨rfl, rfl⟩ | ⟨rfl, rfl⟩ | ⟨rfl, rfl⟩ | ⟨rfl, rfl⟩ | ⟨rfl, rfl⟩
  all_goals
    go_enter Tryz.func11, Tryz.ntmps11
    go_wp2_with (go_at_call 11; refine HA1.mono ?_; rintro e u ⟨rfl, b2⟩; refine Hid.out ?_)
    refine Lib.hid ?_
    have c2 : Below w.heap.size w u := b1.trans (b2.mono b1.size)
    have k2 := HK.out _ c2
    obtain ⟨y0, y1, y2⟩ := kid (k := 3) (x := ⟨ya, yb, yA, yn, yc⟩) k2 rfl rfl rfl
    have hbx := (b2.block _ (some_lt hbox)).trans hbox
    have g0 : u.cell? ⟨w.heap.size, 2, none⟩ = some (.slice (some ⟨q, 0, none⟩) 2 2) := by simp [World.cell?, hbx]
    have g1 := (show u.cell? ⟨w.heap.size, 0, none⟩ = _ from by simp only [World.cell?, hbx]; rfl)
    have HB1 := HB.out _ c2
    clear HB HA1 b2 x0 x1 x2 k1
    go_wp2_with (go_at_call 11; refine HB1.mono ?_; rintro e u3 ⟨rfl, b3⟩; refine Hid.out ?_)
    refine Lib.hid ?_
    have c3 : Below w.heap.size w u3 := c2.trans (b3.mono c2.size)
    have hbx3 := (b3.block _ (some_lt hbx)).trans hbx
    have g3 := (show u3.cell? ⟨w.heap.size, 0, none⟩ = _ from by simp only [World.cell?, hbx3]; rfl)
    clear HB1 b3 y0 y1 y2 k2 g0 g1 hbx hbx3
    by_cases q1 : va < vb
    all_goals by_cases q2 : vb < va
    all_goals by_cases q3 : va = vb
    all_goals first
      | omega
      | (first | (have q4 : (va == vb) = false := by simpa using q3) | (have q4 : (va == vb) = true := by simpa using q3))
    all_goals
      go_wp2_with fail
      go_ret
      refine ⟨ret_int ?_, c3⟩
      first
        | (simp [of2, wr_eq, *]; done)
        | (simp [of2]; omega)
        | (simp [of2, *]; decide)
end Go.Proofs.YtoooninneccfcaaGreatDoor

/- The document's Value of a quotient and of a rest; of every tree. -/
namespace Go.Proofs.YtoooninneccfcaaGreatDoor
open Go.RowKit
set_option linter.unusedVariables false
set_option linter.unusedSimpArgs false

def Bdi (x : Int) : Prop := -9223372036854775808 ≤ x ∧ x ≤ 9223372036854775807
theorem fits_any {w : World} {b n : Nat} {neg : Bool} (h : IntV w b neg n) (hn : n ≤ 9223372036854775808) :
    Calls Tryz.prog 39 #[.pointer (some ⟨b, 0, none⟩)] w fun e w' => e = .returned (.bool (decide (n < 9223372036854775808) || neg)) ∧ w = w' := by
  by_cases h1 : n < 9223372036854775808
  · simpa [h1] using isint_lt h h1
  · obtain rfl : n = 9223372036854775808 := by omega
    cases neg with
    | true => simpa using isint_top h
    | false => simpa using isint_any h (by rw [wl_63]; simp)
theorem newint_ex (w : World) (n : Int) (hn : Bdi n) :
    Calls Tryz.prog 37 #[.int .i64 n] w fun e w' => ∃ p, e = .returned (.pointer (some ⟨p, 0, none⟩)) ∧ w.heap.size ≤ p ∧ IntV w' p (decide (n < 0)) n.natAbs ∧ Below w.heap.size w w' :=
  (newint_any w n hn.1 hn.2).mono fun e w' ⟨h1, h2, h3⟩ => ⟨_, h1, Nat.le_refl _, h2, h3⟩

def sgQ (a b : Int) : Bool := (decide (a < 0) != decide (b < 0)) && decide (a.natAbs / b.natAbs ≠ 0)
def sgR (a b : Int) : Bool := decide (a < 0) && decide (a.natAbs % b.natAbs ≠ 0)
theorem quo_abs (a b : Int) : (if sgQ a b then -((a.natAbs / b.natAbs : Nat) : Int) else ((a.natAbs / b.natAbs : Nat) : Int)) = a.tdiv b := by
  rcases Int.natAbs_eq a with ha | ha <;> rcases Int.natAbs_eq b with hb | hb
  all_goals
    generalize a.natAbs = m at *
    generalize b.natAbs = k at *
    subst ha hb
    simp only [sgQ, Int.natAbs_neg, Int.natAbs_natCast, Int.neg_tdiv, Int.tdiv_neg, Int.neg_neg, ← Int.ofNat_tdiv]
    by_cases h0 : m / k = 0
    · simp [h0]
    · have hm : 0 < m := by
        rcases Nat.eq_zero_or_pos m with h | h
        · subst h; simp at h0
        · exact h
      have hk : 0 < k := by
        rcases Nat.eq_zero_or_pos k with h | h
        · subst h; simp at h0
        · exact h
      have e1 : decide ((m : Int) < 0) = false := by simp
      have e2 : decide (-(m : Int) < 0) = true := by simp; omega
      have e3 : decide ((k : Int) < 0) = false := by simp
      have e4 : decide (-(k : Int) < 0) = true := by simp; omega
      rw [show decide (m / k ≠ 0) = true from by simp only [ne_eq, h0, not_false_eq_true, decide_true]]
      simp only [e1, e2, e3, e4]
      simp
theorem rem_abs (a b : Int) : (if sgR a b then -((a.natAbs % b.natAbs : Nat) : Int) else ((a.natAbs % b.natAbs : Nat) : Int)) = a.tmod b := by
  rcases Int.natAbs_eq a with ha | ha <;> rcases Int.natAbs_eq b with hb | hb
  all_goals
    generalize a.natAbs = m at *
    generalize b.natAbs = k at *
    subst ha hb
    simp only [sgR, Int.natAbs_neg, Int.natAbs_natCast, Int.neg_tmod, Int.tmod_neg, ← Int.ofNat_tmod]
    by_cases h0 : m % k = 0
    · simp [h0]
    · have hm : 0 < m := by
        rcases Nat.eq_zero_or_pos m with h | h
        · subst h; simp at h0
        · exact h
      have e1 : decide ((m : Int) < 0) = false := by simp
      have e2 : decide (-(m : Int) < 0) = true := by simp; omega
      rw [show decide (m % k ≠ 0) = true from by simp only [ne_eq, h0, not_false_eq_true, decide_true]]
      simp only [e1, e2]
      simp
theorem quo_le {a b : Int} (ha : Bdi a) (hb : b ≠ 0) : a.natAbs / b.natAbs ≤ 9223372036854775808 := by
  have := Nat.div_le_self a.natAbs b.natAbs
  have := ha.1; have := ha.2
  omega
theorem rem_lt {a b : Int} (hb : Bdi b) (h0 : b ≠ 0) : a.natAbs % b.natAbs < 9223372036854775808 := by
  have := Nat.mod_lt a.natAbs (show 0 < b.natAbs by omega)
  have := hb.1; have := hb.2
  omega
/-- What a quotient is, where it fits; where it does not. -/
theorem quo_fit {a b : Int} (ha : Bdi a) (hb : b ≠ 0) (hf : (decide (a.natAbs / b.natAbs < 9223372036854775808) || sgQ a b) = true) : a.tdiv b = wr (a.tdiv b) := by
  have h := quo_abs a b
  have hl := quo_le ha hb
  generalize a.tdiv b = x at *
  generalize a.natAbs / b.natAbs = q at *
  have : -9223372036854775808 ≤ x ∧ x ≤ 9223372036854775807 := by
    cases hs : sgQ a b with
    | true => rw [hs] at h; simp at h; omega
    | false => rw [hs] at h hf; simp at h hf; omega
  unfold wr; omega
theorem quo_not {a b : Int} (ha : Bdi a) (hb : b ≠ 0) (hf : (decide (a.natAbs / b.natAbs < 9223372036854775808) || sgQ a b) = false) : a = wr (a.tdiv b) := by
  have h := quo_abs a b
  have hl := quo_le ha hb
  have h1 := Nat.div_le_self a.natAbs b.natAbs
  generalize a.tdiv b = x at *
  generalize a.natAbs / b.natAbs = q at *
  simp at hf
  rw [hf.2] at h
  simp at h
  obtain ⟨h2, h3⟩ := ha
  have h4 : a = -9223372036854775808 := by omega
  have h5 : q = 9223372036854775808 := by omega
  rw [← h, h5, h4]; decide
end Go.Proofs.YtoooninneccfcaaGreatDoor

/- The document's Value of a quotient and of a rest: the walk; of every tree. -/
namespace Go.Proofs.YtoooninneccfcaaGreatDoor
open Go.RowKit
set_option linter.unusedVariables false
set_option linter.unusedSimpArgs false

set_option maxHeartbeats 8000000 in
set_option maxRecDepth 100000 in
theorem vl_div {n s : Int} {op : UInt8} {a b : Tm} {o : Int} (hoo : ((op.toNat : Nat) : Int) = o) (ho : op = 47 ∧ o = 47 ∨ op = 37 ∧ o = 37) (ha : VlOK n s a) (hb : VlOK n s b) (hA : Bdi (ev n s a)) (hB : Bdi (ev n s b)) : VlOK n s (.two op a b) := by
  intro S w v hT
  obtain ⟨q, x, y, hq, rfl, hr, hTa, hTb⟩ := hT
  rw [hoo]
  have b1 := boxed w o 0 (some ⟨q, 0, none⟩) 2 2
  have hbox : (w.alloc (.cells #[.int .i64 o, .int .i64 0, .slice (some ⟨q, 0, none⟩) 2 2] 24)).heap[w.heap.size]? = some (.cells #[.int .i64 o, .int .i64 0, .slice (some ⟨q, 0, none⟩) 2 2] 24 (0, 0)) := heap_alloc_new w _
  have HA1 := ha S _ x (hTa.bel b1)
  have HB := Lib.hid (fun (u : World) (hu : Below w.heap.size w u) => hb S u y (hTb.bel hu))
  have HK := Lib.hid (fun (u : World) (hu : Below w.heap.size w u) => (hu.block _ (some_lt hr)).trans hr)
  have he : ev n s (.two op a b) = of2 op (ev n s a) (ev n s b) := rfl
  rw [he]
  generalize ev n s a = va at *
  generalize ev n s b = vb at *
  have hql := some_lt hr
  clear he hTa hTb hr ha hb
  obtain ⟨xa, xb, xA, xn, xc⟩ := x
  obtain ⟨ya, yb, yA, yn, yc⟩ := y
  simp only [tvV] at *
  have k1 := HK.out _ b1
  obtain ⟨x0, x1, x2⟩ := kid (k := 0) (x := ⟨xa, xb, xA, xn, xc⟩) k1 rfl rfl rfl
  have HE47 := Lib.hid (show of2 47 va vb = if vb = 0 then 0 else wr (va.tdiv vb) from rfl)
  have HE37 := Lib.hid (show of2 37 va vb = if vb = 0 then 0 else va.tmod vb from rfl)
  have HNa := Lib.hid (fun (u : World) => newint_ex u va hA)
  have HNb := Lib.hid (fun (u : World) => newint_ex u vb hB)
  have HQ := Lib.hid (fun (u : World) (z x y : Nat) (hz : u.heap[z]? = some (.cells #[.bool false, .slice none 0 0] 85 (0, 0))) (hx : IntV u x (decide (va < 0)) va.natAbs) (hy : IntV u y (decide (vb < 0)) vb.natAbs) (h0 : vb ≠ 0) => quo_any hz ⟨none, 0, 0, rfl⟩ hx hy (by have := hA.1; have := hA.2; omega) (by have := hB.1; have := hB.2; omega) (by omega))
  have HR := Lib.hid (fun (u : World) (z x y : Nat) (hz : u.heap[z]? = some (.cells #[.bool false, .slice none 0 0] 85 (0, 0))) (hx : IntV u x (decide (va < 0)) va.natAbs) (hy : IntV u y (decide (vb < 0)) vb.natAbs) (h0 : vb ≠ 0) => rem_any hz ⟨none, 0, 0, rfl⟩ hx hy (by have := hA.1; have := hA.2; omega) (by have := hB.1; have := hB.2; omega) (by omega))
  have HZ := Lib.hid (fun (u : World) => int_new u)
  have HAB := Lib.hid (And.intro hA hB)
  clear hoo hA hB
  rcases ho with ⟨rfl, rfl⟩ | ⟨rfl, rfl⟩
  · go_enter Tryz.func11, Tryz.ntmps11
    go_wp2_with (go_at_call 11; refine HA1.mono ?_; rintro e u ⟨rfl, b2⟩; refine Hid.out ?_)
    refine Lib.hid ?_
    have c2 : Below w.heap.size w u := b1.trans (b2.mono b1.size)
    have k2 := HK.out _ c2
    obtain ⟨y0, y1, y2⟩ := kid (k := 3) (x := ⟨ya, yb, yA, yn, yc⟩) k2 rfl rfl rfl
    have hbx := (b2.block _ (some_lt hbox)).trans hbox
    have g0 : u.cell? ⟨w.heap.size, 2, none⟩ = some (.slice (some ⟨q, 0, none⟩) 2 2) := by simp [World.cell?, hbx]
    have g1 := (show u.cell? ⟨w.heap.size, 0, none⟩ = _ from by simp only [World.cell?, hbx]; rfl)
    have HB1 := HB.out _ c2
    clear HB HA1 b2 x0 x1 x2 k1
    go_wp2_with (go_at_call 11; refine HB1.mono ?_; rintro e u3 ⟨rfl, b3⟩; refine Hid.out ?_)
    refine Lib.hid ?_
    have c3 : Below w.heap.size w u3 := c2.trans (b3.mono c2.size)
    have hbx3 := (b3.block _ (some_lt hbx)).trans hbx
    have g3 := (show u3.cell? ⟨w.heap.size, 0, none⟩ = _ from by simp only [World.cell?, hbx3]; rfl)
    clear HB1 b3 y0 y1 y2 k2 g0 g1 hbx
    by_cases h0 : vb = 0
    · subst h0
      go_wp2_with fail
      go_ret
      exact ⟨ret_int (by rw [HE47.out]; simp), c3⟩
    have q0 : (vb == 0) = false := by simpa using h0
    have hz4 := HZ.out u3
    have b4 : Below u3.heap.size u3 (u3.alloc (.cells #[.bool false, .slice none 0 0] 85)) := (Below.refl _ _).alloc (Nat.le_refl _) _
    go_wp2_with (go_at_call 37; refine (HNa.out _).mono ?_; rintro e u5 ⟨p, rfl, hp, I5, b5⟩; refine Hid.out ?_)
    refine Lib.hid ?_
    have hz5 := (b5.block _ (some_lt hz4)).trans hz4
    have c5 : Below w.heap.size w u5 := c3.trans ((b4.trans (b5.mono b4.size)).mono c3.size)
    have hbx5 := (b5.block _ (by have := some_lt hbx3; have := b4.size; omega)).trans ((b4.block _ (some_lt hbx3)).trans hbx3)
    obtain ⟨z, hz⟩ : ∃ z, z = u3.heap.size := ⟨_, rfl⟩
    rw [← hz] at hz5 ⊢
    have hzw : w.heap.size ≤ z := by have := c3.size; omega
    clear hz b4 b5 hz4 hp g3 hbx3 HNa
    go_wp2_with (go_at_call 37; refine (HNb.out _).mono ?_; rintro e u6 ⟨p2, rfl, hp2, I6, b6⟩; refine Hid.out ?_)
    refine Lib.hid ?_
    have hz6 := (b6.block _ (some_lt hz5)).trans hz5
    have c6 : Below w.heap.size w u6 := c5.trans (b6.mono c5.size)
    have hbx6 := (b6.block _ (some_lt hbx5)).trans hbx5
    have HQ1 := HQ.out u6 z p p2 hz6 (I5.bel b6) I6 h0
    clear hp2 hbx5 hz5 b6 I5 I6
    go_wp2_with (go_at_call 36; refine HQ1.mono ?_; rintro e u7 ⟨rfl, I7, f7⟩; refine Hid.out ?_)
    refine Lib.hid ?_
    have c7 : Below w.heap.size w u7 := c6.trans (f7.toBelow c6.size (by simpa using hzw))
    have hwz : w.heap.size ≠ z := by
      intro e; rw [← e] at hz6; rw [hbx6] at hz6; simp at hz6
    have hbx7 := (f7.block _ (some_lt hbx6) (by simpa using hwz)).trans hbx6
    have g7 := (show u7.cell? ⟨w.heap.size, 0, none⟩ = _ from by simp only [World.cell?, hbx7]; rfl)
    have HF := fits_any I7 (quo_le HAB.out.1 h0)
    clear HQ1 HQ HR HNb hbx6 hz6 f7 hbx7
    have HI7 := Lib.hid I7
    clear I7
    cases hf : (decide (va.natAbs / vb.natAbs < 9223372036854775808) || sgQ va vb) with
    | false =>
      have HV := Lib.hid (quo_not HAB.out.1 h0 hf)
      rw [show (decide (va.natAbs / vb.natAbs < 9223372036854775808) || ((decide (va < 0) != decide (vb < 0)) && decide (va.natAbs / vb.natAbs ≠ 0))) = false from hf] at HF
      clear hf
      go_wp2_with (go_at_call 39; refine HF.mono ?_; rintro e w' ⟨rfl, rfl⟩; refine Hid.out ?_)
      refine Lib.hid ?_
      go_wp2_with fail
      go_ret
      exact ⟨ret_int (by rw [HE47.out, if_neg h0]; exact HV.out), c7⟩
    | true =>
      have HV := Lib.hid (quo_fit HAB.out.1 h0 hf)
      have H64 := int64_sg HI7.out (quo_le HAB.out.1 h0) (fun hs => by
        have h1 : sgQ va vb = false := hs
        rw [h1] at hf; simpa using hf)
      rw [show (if (decide (va < 0) != decide (vb < 0) && decide (va.natAbs / vb.natAbs ≠ 0)) = true then -((va.natAbs / vb.natAbs : Nat) : Int) else ((va.natAbs / vb.natAbs : Nat) : Int)) = va.tdiv vb from quo_abs va vb] at H64
      rw [show (decide (va.natAbs / vb.natAbs < 9223372036854775808) || ((decide (va < 0) != decide (vb < 0)) && decide (va.natAbs / vb.natAbs ≠ 0))) = true from hf] at HF
      clear hf HI7
      generalize va.tdiv vb = tq at *
      go_wp2_with (go_at_call 39; refine HF.mono ?_; rintro e w' ⟨rfl, rfl⟩; refine Hid.out ?_)
      refine Lib.hid ?_
      go_wp2_with (go_at_call 40; refine H64.mono ?_; rintro e w' ⟨rfl, m, rfl⟩; refine Hid.out ?_)
      refine Lib.hid ?_
      go_wp2_with fail
      go_ret
      exact ⟨ret_int (by rw [HE47.out, if_neg h0]; exact HV.out), ⟨c7.os, c7.tape, c7.output, c7.size, c7.block⟩⟩
  · go_enter Tryz.func11, Tryz.ntmps11
    go_wp2_with (go_at_call 11; refine HA1.mono ?_; rintro e u ⟨rfl, b2⟩; refine Hid.out ?_)
    refine Lib.hid ?_
    have c2 : Below w.heap.size w u := b1.trans (b2.mono b1.size)
    have k2 := HK.out _ c2
    obtain ⟨y0, y1, y2⟩ := kid (k := 3) (x := ⟨ya, yb, yA, yn, yc⟩) k2 rfl rfl rfl
    have hbx := (b2.block _ (some_lt hbox)).trans hbox
    have g0 : u.cell? ⟨w.heap.size, 2, none⟩ = some (.slice (some ⟨q, 0, none⟩) 2 2) := by simp [World.cell?, hbx]
    have g1 := (show u.cell? ⟨w.heap.size, 0, none⟩ = _ from by simp only [World.cell?, hbx]; rfl)
    have HB1 := HB.out _ c2
    clear HB HA1 b2 x0 x1 x2 k1
    go_wp2_with (go_at_call 11; refine HB1.mono ?_; rintro e u3 ⟨rfl, b3⟩; refine Hid.out ?_)
    refine Lib.hid ?_
    have c3 : Below w.heap.size w u3 := c2.trans (b3.mono c2.size)
    have hbx3 := (b3.block _ (some_lt hbx)).trans hbx
    have g3 := (show u3.cell? ⟨w.heap.size, 0, none⟩ = _ from by simp only [World.cell?, hbx3]; rfl)
    clear HB1 b3 y0 y1 y2 k2 g0 g1 hbx
    by_cases h0 : vb = 0
    · subst h0
      go_wp2_with fail
      go_ret
      exact ⟨ret_int (by rw [HE37.out]; simp), c3⟩
    have q0 : (vb == 0) = false := by simpa using h0
    have hz4 := HZ.out u3
    have b4 : Below u3.heap.size u3 (u3.alloc (.cells #[.bool false, .slice none 0 0] 85)) := (Below.refl _ _).alloc (Nat.le_refl _) _
    go_wp2_with (go_at_call 37; refine (HNa.out _).mono ?_; rintro e u5 ⟨p, rfl, hp, I5, b5⟩; refine Hid.out ?_)
    refine Lib.hid ?_
    have hz5 := (b5.block _ (some_lt hz4)).trans hz4
    have c5 : Below w.heap.size w u5 := c3.trans ((b4.trans (b5.mono b4.size)).mono c3.size)
    have hbx5 := (b5.block _ (by have := some_lt hbx3; have := b4.size; omega)).trans ((b4.block _ (some_lt hbx3)).trans hbx3)
    obtain ⟨z, hz⟩ : ∃ z, z = u3.heap.size := ⟨_, rfl⟩
    rw [← hz] at hz5 ⊢
    have hzw : w.heap.size ≤ z := by have := c3.size; omega
    clear hz b4 b5 hz4 hp g3 hbx3
    go_wp2_with (go_at_call 37; refine (HNb.out _).mono ?_; rintro e u6 ⟨p2, rfl, hp2, I6, b6⟩; refine Hid.out ?_)
    refine Lib.hid ?_
    have hz6 := (b6.block _ (some_lt hz5)).trans hz5
    have c6 : Below w.heap.size w u6 := c5.trans (b6.mono c5.size)
    have hbx6 := (b6.block _ (some_lt hbx5)).trans hbx5
    have HQ1 := HQ.out u6 z p p2 hz6 (I5.bel b6) I6 h0
    clear hp2 hbx5 hz5 b6 I5 I6
    go_wp2_with (go_at_call 36; refine HQ1.mono ?_; rintro e u7 ⟨rfl, I7, f7⟩; refine Hid.out ?_)
    refine Lib.hid ?_
    have c7 : Below w.heap.size w u7 := c6.trans (f7.toBelow c6.size (by simpa using hzw))
    have hwz : w.heap.size ≠ z := by
      intro e; rw [← e] at hz6; rw [hbx6] at hz6; simp at hz6
    have hbx7 := (f7.block _ (some_lt hbx6) (by simpa using hwz)).trans hbx6
    have g7 := (show u7.cell? ⟨w.heap.size, 0, none⟩ = _ from by simp only [World.cell?, hbx7]; rfl)
    clear HQ1 HQ hbx6 hz6 f7 I7
    have hz8 := HZ.out u7
    have b8 : Below u7.heap.size u7 (u7.alloc (.cells #[.bool false, .slice none 0 0] 85)) := (Below.refl _ _).alloc (Nat.le_refl _) _
    go_wp2_with (go_at_call 37; refine (HNa.out _).mono ?_; rintro e u9 ⟨p3, rfl, hp3, I9, b9⟩; refine Hid.out ?_)
    refine Lib.hid ?_
    have hz9 := (b9.block _ (some_lt hz8)).trans hz8
    have c9 : Below w.heap.size w u9 := c7.trans ((b8.trans (b9.mono b8.size)).mono c7.size)
    obtain ⟨z2, hz2⟩ : ∃ z, z = u7.heap.size := ⟨_, rfl⟩
    rw [← hz2] at hz9 ⊢
    have hzw2 : w.heap.size ≤ z2 := by have := c7.size; omega
    clear hz2 b8 b9 hz8 hp3 g7 hbx7
    go_wp2_with (go_at_call 37; refine (HNb.out _).mono ?_; rintro e u10 ⟨p4, rfl, hp4, I10, b10⟩; refine Hid.out ?_)
    refine Lib.hid ?_
    have hz10 := (b10.block _ (some_lt hz9)).trans hz9
    have c10 : Below w.heap.size w u10 := c9.trans (b10.mono c9.size)
    have HR1 := HR.out u10 z2 p3 p4 hz10 (I9.bel b10) I10 h0
    clear hp4 hz9 b10 I9 I10 HR HNb
    go_wp2_with (go_at_call 38; refine HR1.mono ?_; rintro e u11 ⟨rfl, I11, f11⟩; refine Hid.out ?_)
    refine Lib.hid ?_
    have c11 : Below w.heap.size w u11 := c10.trans (f11.toBelow c10.size (by simpa using hzw2))
    have hrl := rem_lt (a := va) HAB.out.2 h0
    have HF := isint_lt I11 hrl
    have H64 := int64_sg I11 (Nat.le_of_lt hrl) (fun _ => hrl)
    rw [show (if (decide (va < 0) && decide (va.natAbs % vb.natAbs ≠ 0)) = true then -((va.natAbs % vb.natAbs : Nat) : Int) else ((va.natAbs % vb.natAbs : Nat) : Int)) = va.tmod vb from rem_abs va vb] at H64
    clear HR1 hz10 f11 I11 hrl
    generalize va.tmod vb = tq at *
    go_wp2_with (go_at_call 39; refine HF.mono ?_; rintro e w' ⟨rfl, rfl⟩; refine Hid.out ?_)
    refine Lib.hid ?_
    go_wp2_with (go_at_call 40; refine H64.mono ?_; rintro e w' ⟨rfl, m, rfl⟩; refine Hid.out ?_)
    refine Lib.hid ?_
    go_wp2_with fail
    go_ret
    exact ⟨ret_int (by rw [HE37.out, if_neg h0]), ⟨c11.os, c11.tape, c11.output, c11.size, c11.block⟩⟩

def OkV : Tm → Prop
  | .num v => v < 9223372036854775808
  | .vn | .vs => True
  | .neg a => OkV a
  | .two op a b => opOk op ∧ OkV a ∧ OkV b
  | .cond a b c => OkV a ∧ OkV b ∧ OkV c
theorem okv_okt : ∀ t : Tm, OkV t → okT t := by
  intro t
  induction t with
  | num v => intro _; trivial
  | vn => intro _; trivial
  | vs => intro _; trivial
  | neg a ih => intro h; exact ih h
  | two op a b iha ihb => intro h; exact ⟨h.1, iha h.2.1, ihb h.2.2⟩
  | cond a b c iha ihb ihc => intro h; exact ⟨iha h.1, ihb h.2.1, ihc h.2.2⟩
theorem gr_okv {d l : Nat} {s : List UInt8} {t : Tm} (h : Gr d l s t) : OkV t := by
  induction h with
  | num d s h hd h0 hv => exact hv
  | vn => trivial
  | vs => trivial
  | brk _ ih => exact ih
  | mn _ _ iha ihb => exact ⟨by simp [opOk], iha, ihb⟩
  | mx _ _ iha ihb => exact ⟨by simp [opOk], iha, ihb⟩
  | neg _ ih => exact ih
  | mul op ho _ _ iha ihb => exact ⟨by simp at ho; rcases ho with rfl | rfl | rfl <;> simp [opOk], iha, ihb⟩
  | add op ho _ _ iha ihb => exact ⟨by simp at ho; rcases ho with rfl | rfl <;> simp [opOk], iha, ihb⟩
  | cmp op ho _ _ iha ihb => exact ⟨by simp at ho; rcases ho with rfl | rfl | rfl <;> simp [opOk], iha, ihb⟩
  | cond _ _ _ iha ihb ihc => exact ⟨iha, ihb, ihc⟩
  | up _ _ ih => exact ih
theorem wr_bd (x : Int) : Bdi (wr x) := by unfold Bdi wr; omega
theorem of2_bd (op : UInt8) {a b : Int} (ha : Bdi a) (hb : Bdi b) : Bdi (of2 op a b) := by
  have h0 : Bdi 0 := by unfold Bdi; omega
  have h1 : Bdi 1 := by unfold Bdi; omega
  unfold of2
  repeat' split
  all_goals first
    | exact h0
    | exact h1
    | exact wr_bd _
    | exact ha
    | exact hb
    | skip
  rename_i hb0
  have h2 := rem_lt (a := a) hb hb0
  have h3 := rem_abs a b
  unfold Bdi
  generalize a.tmod b = x at *
  generalize a.natAbs % b.natAbs = r at *
  split at h3 <;> omega
theorem ev_bd {n s : Int} (hn : Bdi n) (hs : Bdi s) : ∀ t : Tm, OkV t → Bdi (ev n s t) := by
  intro t
  induction t with
  | num v => intro h; have h : v < 9223372036854775808 := h; show Bdi ((v : Nat) : Int); unfold Bdi; omega
  | vn => intro _; exact hn
  | vs => intro _; exact hs
  | neg a ih => intro h; exact wr_bd _
  | two op a b iha ihb => intro h; exact of2_bd op (iha h.2.1) (ihb h.2.2)
  | cond a b c iha ihb ihc =>
    intro h
    show Bdi (if ev n s a ≠ 0 then ev n s b else ev n s c)
    split
    · exact ihb h.2.1
    · exact ihc h.2.2
/-- Every tree. -/
theorem val_any {n s : Int} (hn : Bdi n) (hs : Bdi s) : ∀ t : Tm, OkV t → VlOK n s t := by
  intro t
  induction t with
  | num v => intro _; exact vl_num n s v
  | vn => intro _; exact vl_vn n s
  | vs => intro _; exact vl_vs n s
  | neg a ih => intro ho; exact vl_neg (ih ho)
  | cond a b c iha ihb ihc => intro ho; exact vl_cond (iha ho.1) (ihb ho.2.1) (ihc ho.2.2)
  | two op a b iha ihb =>
    intro ho
    obtain ⟨h0, h1, h2⟩ := ho
    have hm : op = 61 ∨ op = 60 ∨ op = 62 ∨ op = 43 ∨ op = 45 ∨ op = 42 ∨ op = 47 ∨ op = 37 ∨ op = 109 ∨ op = 77 := by simpa [opOk] using h0
    rcases hm with rfl | rfl | rfl | rfl | rfl | rfl | rfl | rfl | rfl | rfl
    all_goals first
      | exact vl_div (o := 47) rfl (by decide) (iha h1) (ihb h2) (ev_bd hn hs a h1) (ev_bd hn hs b h2)
      | exact vl_div (o := 37) rfl (by decide) (iha h1) (ihb h2) (ev_bd hn hs a h1) (ev_bd hn hs b h2)
      | exact vl_two (o := 61) rfl (by decide) (iha h1) (ihb h2)
      | exact vl_two (o := 60) rfl (by decide) (iha h1) (ihb h2)
      | exact vl_two (o := 62) rfl (by decide) (iha h1) (ihb h2)
      | exact vl_two (o := 43) rfl (by decide) (iha h1) (ihb h2)
      | exact vl_two (o := 45) rfl (by decide) (iha h1) (ihb h2)
      | exact vl_two (o := 42) rfl (by decide) (iha h1) (ihb h2)
      | exact vl_two (o := 109) rfl (by decide) (iha h1) (ihb h2)
      | exact vl_two (o := 77) rfl (by decide) (iha h1) (ihb h2)
end Go.Proofs.YtoooninneccfcaaGreatDoor
