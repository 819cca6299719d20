import Derived.Test.YthadeccnibnioaaGreatDoorHn
import Derived.Test.YthadeccnibnioaaGreatDoorBz
import Derived.Deep.RegionWith
import Derived.Deep.QuietTactic
import Derived.Test.YthadeccnibnioaaGreatDoorRz5
/- weirgatebig: quotients and rests of two numbers below 2^64. -/
namespace Go.Proofs.YthadeccnibnioaaGreatDoor
open Go.RowKit
set_option linter.unusedVariables false

theorem wl_cls (n : Nat) (h : n < 18446744073709551616) : (n = 0 ∧ wl n = []) ∨ (0 < n ∧ n < 4294967296 ∧ wl n = [n]) ∨ (4294967296 ≤ n ∧ wl n = [n % 4294967296, n / 4294967296]) := by
  by_cases h0 : n = 0
  · subst h0; exact .inl ⟨rfl, wl_zero⟩
  · have e1 := wl_pos h0
    by_cases h1 : n / 4294967296 = 0
    · rw [h1, wl_zero, Nat.mod_eq_of_lt (by omega)] at e1
      exact .inr (.inl ⟨by omega, by omega, e1⟩)
    · have e2 := wl_pos h1
      rw [show n / 4294967296 / 4294967296 = 0 by omega, wl_zero, Nat.mod_eq_of_lt (by omega)] at e2
      rw [e2] at e1
      exact .inr (.inr ⟨by omega, e1⟩)

set_option maxHeartbeats 1000000 in
theorem plain_wl {w : World} {A : Option Addr} {n cap : Nat} (hu : U32s w A (wl n)) (hn : n < 18446744073709551616) :
    Calls Tryz.prog 149 #[.slice A (wl n).length cap] w fun e w' => e = .returned (.int .u64 n) ∧ w = w' := by
  rcases wl_cls n hn with ⟨h0, e⟩ | ⟨h0, h1, e⟩ | ⟨h0, e⟩
  · subst h0
    rw [e]
    go_enter Tryz.func149, Tryz.ntmps149
    go_wp2_with fail
    go_ret
    exact ⟨rfl, rfl⟩
  · rw [e] at hu ⊢
    obtain ⟨b2, o2, rfl, hc⟩ := hu.at (by simp)
    have d0 := hc 0 (by simp)
    have ex : wd [n] 0 = n := by simp [wd, List.getD]
    rw [ex] at d0
    simp only [List.length_cons, List.length_nil, Nat.zero_add, Nat.add_zero] at d0 ⊢
    clear hc hu e ex
    go_enter Tryz.func149, Tryz.ntmps149
    go_wp2_with fail
    go_ret
    exact ⟨rfl, rfl⟩
  · rw [e] at hu ⊢
    obtain ⟨b2, o2, rfl, hc⟩ := hu.at (by simp)
    have d0 := hc 0 (by simp)
    have d1 := hc 1 (by simp)
    rw [show wd [n % 4294967296, n / 4294967296] 0 = n % 4294967296 from by simp [wd, List.getD]] at d0
    rw [show wd [n % 4294967296, n / 4294967296] 1 = n / 4294967296 from by simp [wd, List.getD]] at d1
    simp only [List.length_cons, List.length_nil, Nat.zero_add, Nat.add_zero] at d0 ⊢
    obtain ⟨lo, hlo⟩ : ∃ lo, lo = n % 4294967296 := ⟨_, rfl⟩
    obtain ⟨hi, hhi⟩ : ∃ hi, hi = n / 4294967296 := ⟨_, rfl⟩
    rw [← hlo] at d0
    rw [← hhi] at d1
    have l1 : lo < 4294967296 := by omega
    have l2 : hi < 4294967296 := by omega
    have HO : Hid (bits .or .u64 (lo : Int) ((hi : Int) * 4294967296) = (n : Int)) := by
      show _ = _; rw [or_words lo hi (by omega) (by omega) (by omega) (by omega)]; omega
    clear hc hu e hlo hhi h0
    go_enter Tryz.func149, Tryz.ntmps149
    go_wp2_with fail
    go_ret
    exact ⟨by rw [← HO.out]; rfl, rfl⟩

theorem cmp_sh (A B : Option Addr) (n m ca cb : Nat) (w : World) (h : n < m) (hm : m ≤ 2) :
    Calls Tryz.prog 148 #[.slice A n ca, .slice B m cb] w fun e w' => e = .returned (.int .i64 (-1)) ∧ w = w' := by
  have h1 : ((n : Int) != m) = true := by rw [bne_iff_ne]; omega
  have h2 : (n : Int) < m := by omega
  go_enter Tryz.func148, Tryz.ntmps148
  go_wp2
  go_ret
  exact ⟨rfl, rfl⟩
theorem cmp_lo (A B : Option Addr) (n m ca cb : Nat) (w : World) (h : m < n) (hm : n ≤ 2) :
    Calls Tryz.prog 148 #[.slice A n ca, .slice B m cb] w fun e w' => e = .returned (.int .i64 1) ∧ w = w' := by
  have h1 : ((n : Int) != m) = true := by rw [bne_iff_ne]; omega
  have h2 : ¬ (n : Int) < m := by omega
  go_enter Tryz.func148, Tryz.ntmps148
  go_wp2
  go_ret
  exact ⟨rfl, rfl⟩

def CmE (a b : Nat) (w : World) (e : Ending) (w' : World) : Prop := ∃ c : Int, e = .returned (.int .i64 c) ∧ (c < 0 ↔ a < b) ∧ Below w.heap.size w w'

set_option maxRecDepth 100000 in
set_option maxHeartbeats 2000000 in
theorem cmp_one (g o g2 o2 ca cb : Nat) (a b : Nat) (w : World) (c0 : w.cell? ⟨g, o, none⟩ = some (.int .u32 (a : Int))) (d0 : w.cell? ⟨g2, o2, none⟩ = some (.int .u32 (b : Int))) :
    Calls Tryz.prog 148 #[.slice (some ⟨g, o, none⟩) 1 ca, .slice (some ⟨g2, o2, none⟩) 1 cb] w (CmE a b w) := by
  by_cases q : a = b
  · subst q
    go_enter Tryz.func148, Tryz.ntmps148
    go_wp2_with fail
    refine wp_loop_rounds 3 ?_
    rw [rounds_succ]
    go_wp2_with fail
    go_quiet (fail)
    go_wp2_with fail
    rw [rounds_succ]
    go_wp2
    go_ret
    exact ⟨0, rfl, by omega, ⟨rfl, rfl, rfl, Nat.le_refl _, fun _ _ => rfl⟩⟩
  · have b0 : ((a : Int) != b) = true := by rw [bne_iff_ne]; omega
    by_cases q2 : a < b
    · have b1 : (a : Int) < b := by omega
      go_enter Tryz.func148, Tryz.ntmps148
      go_wp2_with fail
      refine wp_loop_rounds 3 ?_
      rw [rounds_succ]
      go_wp2_with fail
      go_quiet (fail)
      go_wp2_with fail
      go_quiet (fail)
      go_wp2
      go_ret
      exact ⟨-1, rfl, by omega, ⟨rfl, rfl, rfl, Nat.le_refl _, fun _ _ => rfl⟩⟩
    · have b1 : ¬ (a : Int) < b := by omega
      go_enter Tryz.func148, Tryz.ntmps148
      go_wp2_with fail
      refine wp_loop_rounds 3 ?_
      rw [rounds_succ]
      go_wp2_with fail
      go_quiet (fail)
      go_wp2_with fail
      go_quiet (fail)
      go_wp2
      go_ret
      exact ⟨1, rfl, by omega, ⟨rfl, rfl, rfl, Nat.le_refl _, fun _ _ => rfl⟩⟩

set_option maxRecDepth 100000 in
set_option maxHeartbeats 4000000 in
theorem cmp_two (g o g2 o2 ca cb : Nat) (a0 a1 b0 b1 : Nat) (w : World) (l1 : a0 < 4294967296) (l2 : b0 < 4294967296) (c0 : w.cell? ⟨g, o, none⟩ = some (.int .u32 (a0 : Int))) (c1 : w.cell? ⟨g, o + 1, none⟩ = some (.int .u32 (a1 : Int))) (d0 : w.cell? ⟨g2, o2, none⟩ = some (.int .u32 (b0 : Int))) (d1 : w.cell? ⟨g2, o2 + 1, none⟩ = some (.int .u32 (b1 : Int))) :
    Calls Tryz.prog 148 #[.slice (some ⟨g, o, none⟩) 2 ca, .slice (some ⟨g2, o2, none⟩) 2 cb] w (CmE (a1 * 4294967296 + a0) (b1 * 4294967296 + b0) w) := by
  by_cases q : a1 = b1
  · subst q
    by_cases q : a0 = b0
    · subst q
      go_enter Tryz.func148, Tryz.ntmps148
      go_wp2_with fail
      refine wp_loop_rounds 3 ?_
      rw [rounds_succ]
      go_wp2_with fail
      go_quiet (fail)
      go_wp2_with fail
      rw [rounds_succ]
      go_wp2_with fail
      go_quiet (fail)
      go_wp2_with fail
      rw [rounds_succ]
      go_wp2
      go_ret
      exact ⟨0, rfl, by omega, ⟨rfl, rfl, rfl, Nat.le_refl _, fun _ _ => rfl⟩⟩
    · have z0 : ((a0 : Int) != b0) = true := by rw [bne_iff_ne]; omega
      by_cases q2 : a0 < b0
      · have z1 : (a0 : Int) < b0 := by omega
        go_enter Tryz.func148, Tryz.ntmps148
        go_wp2_with fail
        refine wp_loop_rounds 3 ?_
        rw [rounds_succ]
        go_wp2_with fail
        go_quiet (fail)
        go_wp2_with fail
        rw [rounds_succ]
        go_wp2_with fail
        go_quiet (fail)
        go_wp2_with fail
        go_quiet (fail)
        go_wp2
        go_ret
        exact ⟨-1, rfl, by omega, ⟨rfl, rfl, rfl, Nat.le_refl _, fun _ _ => rfl⟩⟩
      · have z1 : ¬ (a0 : Int) < b0 := by omega
        go_enter Tryz.func148, Tryz.ntmps148
        go_wp2_with fail
        refine wp_loop_rounds 3 ?_
        rw [rounds_succ]
        go_wp2_with fail
        go_quiet (fail)
        go_wp2_with fail
        rw [rounds_succ]
        go_wp2_with fail
        go_quiet (fail)
        go_wp2_with fail
        go_quiet (fail)
        go_wp2
        go_ret
        exact ⟨1, rfl, by omega, ⟨rfl, rfl, rfl, Nat.le_refl _, fun _ _ => rfl⟩⟩
  · have z0 : ((a1 : Int) != b1) = true := by rw [bne_iff_ne]; omega
    by_cases q2 : a1 < b1
    · have z1 : (a1 : Int) < b1 := by omega
      go_enter Tryz.func148, Tryz.ntmps148
      go_wp2_with fail
      refine wp_loop_rounds 3 ?_
      rw [rounds_succ]
      go_wp2_with fail
      go_quiet (fail)
      go_wp2_with fail
      go_quiet (fail)
      go_wp2
      go_ret
      exact ⟨-1, rfl, by omega, ⟨rfl, rfl, rfl, Nat.le_refl _, fun _ _ => rfl⟩⟩
    · have z1 : ¬ (a1 : Int) < b1 := by omega
      go_enter Tryz.func148, Tryz.ntmps148
      go_wp2_with fail
      refine wp_loop_rounds 3 ?_
      rw [rounds_succ]
      go_wp2_with fail
      go_quiet (fail)
      go_wp2_with fail
      go_quiet (fail)
      go_wp2
      go_ret
      exact ⟨1, rfl, by omega, ⟨rfl, rfl, rfl, Nat.le_refl _, fun _ _ => rfl⟩⟩

theorem cmp_wl {w : World} {A B : Option Addr} {a b ca cb : Nat} (ha : U32s w A (wl a)) (hb : U32s w B (wl b)) (la : a < 18446744073709551616) (lb : b < 18446744073709551616) (h0 : b ≠ 0) :
    Calls Tryz.prog 148 #[.slice A (wl a).length ca, .slice B (wl b).length cb] w (CmE a b w) := by
  have sh : ∀ n m : Nat, n < m → m ≤ 2 → a < b → Calls Tryz.prog 148 #[.slice A n ca, .slice B m cb] w (CmE a b w) := fun n m h1 h2 h3 =>
    (cmp_sh A B n m ca cb w h1 h2).mono fun e w' ⟨h4, h5⟩ => ⟨-1, h4, by omega, by subst h5; exact Below.refl _ _⟩
  have lo : ∀ n m : Nat, m < n → n ≤ 2 → ¬ a < b → Calls Tryz.prog 148 #[.slice A n ca, .slice B m cb] w (CmE a b w) := fun n m h1 h2 h3 =>
    (cmp_lo A B n m ca cb w h1 h2).mono fun e w' ⟨h4, h5⟩ => ⟨1, h4, by omega, by subst h5; exact Below.refl _ _⟩
  rcases wl_cls b lb with ⟨e1, -⟩ | ⟨k0, k1, eb⟩ | ⟨k0, eb⟩
  · exact absurd e1 h0
  · rcases wl_cls a la with ⟨e1, ea⟩ | ⟨j0, j1, ea⟩ | ⟨j0, ea⟩
    · rw [ea, eb]; exact sh 0 1 (by omega) (by omega) (by omega)
    · rw [ea] at ha ⊢
      rw [eb] at hb ⊢
      obtain ⟨g, o, rfl, hc⟩ := ha.at (by simp)
      obtain ⟨g2, o2, rfl, hd⟩ := hb.at (by simp)
      have c0 := hc 0 (by simp)
      have d0 := hd 0 (by simp)
      exact cmp_one g o g2 o2 ca cb a b w c0 d0
    · rw [ea, eb]; exact lo 2 1 (by omega) (by omega) (by omega)
  · rcases wl_cls a la with ⟨e1, ea⟩ | ⟨j0, j1, ea⟩ | ⟨j0, ea⟩
    · rw [ea, eb]; exact sh 0 2 (by omega) (by omega) (by omega)
    · rw [ea, eb]; exact sh 1 2 (by omega) (by omega) (by omega)
    · rw [ea] at ha ⊢
      rw [eb] at hb ⊢
      obtain ⟨g, o, rfl, hc⟩ := ha.at (by simp)
      obtain ⟨g2, o2, rfl, hd⟩ := hb.at (by simp)
      have c0 := hc 0 (by simp)
      have d0 := hd 0 (by simp)
      have c1 := hc 1 (by simp)
      have d1 := hd 1 (by simp)
      have H := cmp_two g o g2 o2 ca cb (a % 4294967296) (a / 4294967296) (b % 4294967296) (b / 4294967296) w (by omega) (by omega) c0 c1 d0 d1
      rw [show a / 4294967296 * 4294967296 + a % 4294967296 = a by omega, show b / 4294967296 * 4294967296 + b % 4294967296 = b by omega] at H
      exact H

/-- twin: the words, once more. -/
theorem twin_all {w : World} {v : Value} {l : List Nat} (h : Wv w v l) (hl2 : l.length ≤ 1000) :
    Calls Tryz.prog 146 #[v] w fun e w' => ∃ v', e = .returned v' ∧ Wv w' v' l ∧ Below w.heap.size w w' := by
  obtain ⟨i0, hi, hz0, hz1, hz2⟩ := info_parts Tryz.infoU
  obtain ⟨A, c, rfl, hc, h⟩ := h
  cases A with
  | none =>
    have h0 : l = [] := by
      rcases h with h | ⟨b, o, h, -⟩
      · exact h
      · cases h
    subst h0
    go_enter Tryz.func146, Tryz.ntmps146
    go_wp2
    go_ret
    exact ⟨_, rfl, Wv.nil _, Below.refl _ _⟩
  | some p =>
    have hcs : ∀ (j : Nat) (u : Value), (l.map fun (x : Nat) => Value.int .u32 (x : Int))[j]? = some u → w.cell? (p.add j) = some u := by
      intro j u hj
      have hj' : j < l.length := by have := (List.getElem?_eq_some_iff.1 hj).1; simpa using this
      obtain ⟨b, o, e, hat⟩ := h.at (by omega)
      obtain rfl := Option.some.inj e
      have h2 := hat j hj'
      rw [show (⟨b, o, none⟩ : Addr).add j = ⟨b, o + j, none⟩ from by unfold Addr.add; split <;> simp_all, h2]
      rw [List.getElem?_map, List.getElem?_eq_getElem hj'] at hj
      rw [wd_get hj']; simpa using hj
    go_enter Tryz.func146, Tryz.ntmps146
    go_wp2_with (at_builtin; refine wpList_append_own _ rfl _ _ 84 rfl w.heap.size 194 i0 (.int .u32 0) 1 4 Tryz.underlying84 hi hz0 hz1 hz2 rfl (by decide) (.slice none 0 0) 0 [] rfl (World.ownsRow_nil _ _ _ _) p l.length c (l.map fun (x : Nat) => Value.int .u32 (x : Int)) rfl (by simp) hcs (by intro u hu; obtain ⟨x, -, rfl⟩ := List.mem_map.1 hu; rfl) (by unfold maxLen; omega) (by omega) (Nat.le_refl _) ?_)
    intro v1 w1 o1 g1 _
    have B1 : Below w.heap.size w w1 := (Below.refl _ _).grown g1 (Nat.le_refl _) (fun j hj => by simp [Value.ownBlock] at hj)
    have W1 : Wv w1 v1 l := by
      try rw [Nat.zero_add] at o1
      have o1' := o1
      rcases o1.2 with ⟨h0, h00⟩ | ⟨g, cap, cur, h0, -, -, h02, -⟩
      · have hn : l = [] := List.eq_nil_of_length_eq_zero h00
        subst hn; subst h0
        exact Wv.nil _
      · subst h0
        refine ⟨some ⟨g, 0, none⟩, cap, rfl, h02, .inr ⟨g, 0, rfl, fun j hj => ?_⟩⟩
        rw [Nat.zero_add, o1'.cellAt j (by omega), List.getElem?_map, List.getElem?_eq_getElem hj]
        rfl
    clear o1 g1 hcs
    go_wp2_with fail
    go_ret
    exact ⟨_, rfl, W1, B1⟩

set_option maxRecDepth 100000 in
set_option maxHeartbeats 4000000 in
theorem div_wl {w : World} {v u : Value} {a b : Nat} (ha : Wv w v (wl a)) (hb : Wv w u (wl b)) (la : a < 18446744073709551616) (lb : b < 18446744073709551616) (h0 : b ≠ 0) :
    Calls Tryz.prog 117 #[v, u] w fun e w' => ∃ q r, e = .returned (.tuple #[q, r]) ∧ Wv w' q (wl (a / b)) ∧ Wv w' r (wl (a % b)) ∧ Below w.heap.size w w' := by
  have len2 : ∀ n, n < 18446744073709551616 → (wl n).length ≤ 2 := fun n hn => by rcases wl_cls n hn with ⟨-, e⟩ | ⟨-, -, e⟩ | ⟨-, e⟩ <;> rw [e] <;> simp
  have hla := len2 a la
  have hlb := len2 b lb
  have hbp : ((wl b).length : Int) ≠ 0 := by rw [wl_pos h0]; simp; omega
  have hb1 : (((wl b).length : Int) == 0) = false := by simpa using hbp
  have HT := Lib.hid (fun (w' : World) (hw : Below w.heap.size w w') => twin_all (ha.of hw) (by omega))
  obtain ⟨A, ca, rfl, hca, hua⟩ := ha
  obtain ⟨B, cb, rfl, hcb, hub⟩ := hb
  have HC := cmp_wl (ca := ca) (cb := cb) hua hub la lb h0
  have HPa := Lib.hid (fun (w' : World) (hw : Below w.heap.size w w') => plain_wl (cap := ca) (hua.of hw) la)
  have HPb := Lib.hid (fun (w' : World) (hw : Below w.heap.size w w') => plain_wl (cap := cb) (hub.of hw) lb)
  have hlaI : ((wl a).length : Int) ≤ 2 := by omega
  clear hua hub len2
  by_cases hlt : a < b
  · have eq0 : wl (a / b) = [] := by rw [Nat.div_eq_of_lt hlt, wl_zero]
    have eq1 : a % b = a := Nat.mod_eq_of_lt hlt
    rw [eq0, eq1]
    generalize wl a = L at *
    generalize wl b = M at *
    go_enter Tryz.func117, Tryz.ntmps117
    go_wp2_with (go_at_call 148; refine HC.mono ?_; rintro e w1 ⟨c, rfl, hc, b1⟩; refine Hid.out ?_)
    refine Lib.hid ?_
    have hc0 : c < 0 := hc.2 hlt
    have HT1 := HT.out w1 b1
    clear hc
    go_wp2_with (go_at_call 146; refine HT1.mono ?_; rintro e w2 ⟨v', rfl, hv, b2⟩; refine Hid.out ?_)
    refine Lib.hid ?_
    go_wp2_with fail
    go_ret2
    exact ⟨_, _, rfl, Wv.nil _, hv, b1.trans (b2.mono b1.size)⟩
  · have q1 : a / b < 18446744073709551616 := Nat.lt_of_le_of_lt (Nat.div_le_self a b) la
    have q2 : ((a / b : Nat) : Int) < 18446744073709551616 := by generalize a / b = X at q1 ⊢; omega
    have r1 : a % b < 18446744073709551616 := Nat.lt_of_le_of_lt (Nat.mod_le a b) la
    have eQ : ((a / b : Nat) : Int) = (a : Int) / (b : Int) := Int.natCast_ediv a b
    have eR : ((a % b : Nat) : Int) = (a : Int) % (b : Int) := Int.natCast_emod a b
    have HQ : Hid (∀ x : World, Calls Tryz.prog 119 #[.int .u64 ((a : Int) / (b : Int))] x fun e w' => ∃ v, e = .returned v ∧ Wv w' v (wl (a / b)) ∧ Below x.heap.size x w') := fun x => by
      rw [← eQ]; exact words_any _ x q1
    have HR : Hid (∀ x : World, Calls Tryz.prog 119 #[.int .u64 ((a : Int) % (b : Int))] x fun e w' => ∃ v, e = .returned v ∧ Wv w' v (wl (a % b)) ∧ Below x.heap.size x w') := fun x => by
      rw [← eR]; exact words_any _ x r1
    have HR2 : Hid (∀ x : World, Calls Tryz.prog 119 #[.int .u64 ((a : Int).tmod (b : Int))] x fun e w' => ∃ v, e = .returned v ∧ Wv w' v (wl (a % b)) ∧ Below x.heap.size x w') := fun x => by
      rw [Int.tmod_eq_emod_of_nonneg (by omega), ← eR]; exact words_any _ x r1
    have HQ2 : Hid (∀ x : World, Calls Tryz.prog 119 #[.int .u64 (IntKind.u64.wrap ((a : Int).tdiv (b : Int)))] x fun e w' => ∃ v, e = .returned v ∧ Wv w' v (wl (a / b)) ∧ Below x.heap.size x w') := fun x => by
      rw [Int.tdiv_eq_ediv_of_nonneg (by omega), ← eQ, IntKind.wrap_u64, Int.emod_eq_of_lt (Int.natCast_nonneg _) q2]; exact words_any _ x q1
    have HQ3 : Hid (∀ x : World, Calls Tryz.prog 119 #[.int .u64 (IntKind.u64.wrap ((a : Int) / (b : Int)))] x fun e w' => ∃ v, e = .returned v ∧ Wv w' v (wl (a / b)) ∧ Below x.heap.size x w') := fun x => by
      rw [← eQ, IntKind.wrap_u64, Int.emod_eq_of_lt (Int.natCast_nonneg _) q2]; exact words_any _ x q1
    clear eQ eR q1 q2 r1
    generalize wl (a / b) = Q at *
    generalize wl (a % b) = R at *
    generalize wl a = L at *
    generalize wl b = M at *
    have b0I : ((b : Int) == 0) = false := by simpa using h0
    have b0J : (0 : Int) < b := by omega
    have a0J : (0 : Int) ≤ a := by omega
    have a1J : (a : Int) < 18446744073709551616 := by omega
    go_enter Tryz.func117, Tryz.ntmps117
    go_wp2_with (go_at_call 148; refine HC.mono ?_; rintro e w1 ⟨c, rfl, hc, b1⟩; refine Hid.out ?_)
    refine Lib.hid ?_
    have hc0 : ¬ c < 0 := fun h => hlt (hc.1 h)
    have HP1 := HPa.out w1 b1
    have HP2 := HPb.out w1 b1
    clear hc HC
    go_wp2_with (go_at_call 149; refine HP1.mono ?_; rintro e w' ⟨rfl, rfl⟩; refine Hid.out ?_)
    refine Lib.hid ?_
    go_wp2_with (go_at_call 149; refine HP2.mono ?_; rintro e w' ⟨rfl, rfl⟩; refine Hid.out ?_)
    refine Lib.hid ?_
    clear HP1 HP2 HPa HPb HT
    go_wp2_with fail
    go_region_with (first
      | (go_at_call_of 119 (Value.int IntKind.u64 ((a : Int) / (b : Int))); refine (HQ.out _).mono ?_; rintro e wq ⟨vq, rfl, hq, hbq⟩)
      | (go_at_call_of 119 (Value.int IntKind.u64 ((a : Int) % (b : Int))); refine (HR.out _).mono ?_; rintro e wv ⟨vr, rfl, hr, hbr⟩)
      | (go_at_call_of 119 (Value.int IntKind.u64 ((a : Int).tmod (b : Int))); refine (HR2.out _).mono ?_; rintro e wv ⟨vr, rfl, hr, hbr⟩)
      | (go_at_call_of 119 (Value.int IntKind.u64 (IntKind.u64.wrap ((a : Int).tdiv (b : Int)))); refine (HQ2.out _).mono ?_; rintro e wq ⟨vq, rfl, hq, hbq⟩)
      | (go_at_call_of 119 (Value.int IntKind.u64 (IntKind.u64.wrap ((a : Int) / (b : Int)))); refine (HQ3.out _).mono ?_; rintro e wq ⟨vq, rfl, hq, hbq⟩))
    all_goals go_wp2
    all_goals go_ret2
    all_goals first
      | exact ⟨_, _, rfl, hq.of hbr, hr, (b1.trans (Below.mono ⟨hbq.os, hbq.tape, hbq.output, hbq.size, hbq.block⟩ b1.size)).trans (hbr.mono (Nat.le_trans b1.size hbq.size))⟩
      | exact ⟨_, _, rfl, hq, hr.of hbq, (b1.trans (Below.mono ⟨hbr.os, hbr.tape, hbr.output, hbr.size, hbr.block⟩ b1.size)).trans (hbq.mono (Nat.le_trans b1.size hbr.size))⟩
end Go.Proofs.YthadeccnibnioaaGreatDoor

/- weirgatebig: Quo, Rem, whether a number fits, its low bits with a sign. -/
namespace Go.Proofs.YthadeccnibnioaaGreatDoor
open Go.RowKit
set_option linter.unusedVariables false

theorem give_sg {w : World} {b : Nat} {neg0 : Bool} {v0 v : Value} {n : Nat} (hb : w.heap[b]? = some (.cells #[.bool neg0, v0] 86 (0, 0))) (hv0 : ∃ A n c, v0 = .slice A n c) (hv : Wv w v (wl n)) (s : Bool) :
    Calls Tryz.prog 118 #[.pointer (some ⟨b, 0, none⟩), .bool s, v] w fun e w' => e = .returned (.pointer (some ⟨b, 0, none⟩)) ∧ IntV w' b (s && decide (n ≠ 0)) n ∧ Fr [b] w w' := by
  cases s with
  | false => simpa using give_any hb hv0 hv
  | true =>
    by_cases hn : n = 0
    · subst hn
      have hv' := hv
      rw [wl_zero] at hv
      obtain ⟨A, cap, rfl, -, -⟩ := hv
      have c0 : w.cell? ⟨b, 0, none⟩ = some (.bool neg0) := by simp [World.cell?, hb]
      have c1 : w.cell? ⟨b, 1, none⟩ = some v0 := by simp [World.cell?, hb]
      have f0 : w.frozen? ⟨b, 0, none⟩ = false := by simp [World.frozen?, hb]
      have f1 : w.frozen? ⟨b, 1, none⟩ = false := by simp [World.frozen?, hb]
      have G : Fr [b] w ((w.setCell ⟨b, 1, none⟩ (.slice A 0 cap)).setCell ⟨b, 0, none⟩ (.bool false)) := ((Fr.refl _ _).setCell (.inl (by simp)) _).setCell (.inl (by simp)) _
      have I : IntV ((w.setCell ⟨b, 1, none⟩ (.slice A 0 cap)).setCell ⟨b, 0, none⟩ (.bool false)) b false 0 := by
        refine ⟨.slice A 0 cap, ?_, hv'.fr G hb (two_no rfl hv0)⟩
        simp [World.setCell, Array.getElem?_modify, hb]
      simp only [List.length_nil]
      go_enter Tryz.func118, Tryz.ntmps118
      go_wp2
      go_ret
      exact ⟨rfl, I, G⟩
    · simpa [hn] using give_neg hb hv0 hv hn

theorem IntV.lt {w : World} {b n : Nat} {neg : Bool} (h : IntV w b neg n) : b < w.heap.size := by obtain ⟨v, hb, -⟩ := h; exact some_lt hb
theorem IntV.bel {w w' : World} {b n : Nat} {neg : Bool} (h : IntV w b neg n) (k : Below w.heap.size w w') : IntV w' b neg n := by
  obtain ⟨v, hb, hv⟩ := h
  exact ⟨v, (k.block b (some_lt hb)).trans hb, hv.of k⟩
theorem IntV.fr {w w' : World} {b n z : Nat} {neg : Bool} {c : Array Value} (h : IntV w b neg n) (f : Fr [z] w w') (hz : w.heap[z]? = some (.cells c 86 (0, 0))) (hc : ∀ (i : Nat) (x : Int), c[i]? ≠ some (.int .u32 x)) (hne : b ≠ z) : IntV w' b neg n := by
  obtain ⟨v, hb, hv⟩ := h
  exact ⟨v, (f.block b (some_lt hb) (by simpa using hne)).trans hb, hv.fr f hz hc⟩

set_option maxRecDepth 100000 in
set_option maxHeartbeats 4000000 in
theorem quorem_any {w : World} {z r x y : Nat} {xn yn nz nr : Bool} {vz vr : Value} {a b : Nat} (hz : w.heap[z]? = some (.cells #[.bool nz, vz] 86 (0, 0))) (hvz : ∃ A n c, vz = .slice A n c) (hr : w.heap[r]? = some (.cells #[.bool nr, vr] 86 (0, 0))) (hvr : ∃ A n c, vr = .slice A n c)
    (hx : IntV w x xn a) (hy : IntV w y yn b) (hzr : z ≠ r) (la : a < 18446744073709551616) (lb : b < 18446744073709551616) (h0 : b ≠ 0) :
    Calls Tryz.prog 73 #[.pointer (some ⟨z, 0, none⟩), .pointer (some ⟨x, 0, none⟩), .pointer (some ⟨y, 0, none⟩), .pointer (some ⟨r, 0, none⟩)] w fun e w' =>
      e = .returned (.tuple #[.pointer (some ⟨z, 0, none⟩), .pointer (some ⟨r, 0, none⟩)]) ∧ IntV w' z ((xn != yn) && decide (a / b ≠ 0)) (a / b) ∧ IntV w' r (xn && decide (a % b ≠ 0)) (a % b) ∧ Fr [z, r] w w' := by
  have ltz : z < w.heap.size := some_lt hz
  have ltr : r < w.heap.size := some_lt hr
  obtain ⟨vx, kx, Wx⟩ := hx
  obtain ⟨vy, ky, Wy⟩ := hy
  have x0 : w.cell? ⟨x, 0, none⟩ = some (.bool xn) := by simp [World.cell?, kx]
  have y0 : w.cell? ⟨y, 0, none⟩ = some (.bool yn) := by simp [World.cell?, ky]
  have x1 : w.cell? ⟨x, 1, none⟩ = some vx := by simp [World.cell?, kx]
  have y1 : w.cell? ⟨y, 1, none⟩ = some vy := by simp [World.cell?, ky]
  have HCt : Hid (∀ w', Below w.heap.size w w' → Calls Tryz.prog 117 #[vx, vy] w' fun e w'' => ∃ q v, e = .returned (.tuple #[q, v]) ∧ Wv w'' q (wl (a / b)) ∧ Wv w'' v (wl (a % b)) ∧ Below w'.heap.size w' w'') := fun w' hb => div_wl (Wx.of hb) (Wy.of hb) la lb h0
  have HK : Hid (w.heap[z]? = some (.cells #[.bool nz, vz] 86 (0, 0)) ∧ w.heap[r]? = some (.cells #[.bool nr, vr] 86 (0, 0))) := ⟨hz, hr⟩
  obtain ⟨Ax, nx, cx, rfl⟩ : ∃ A n c, vx = .slice A n c := by obtain ⟨A, c, rfl, -⟩ := Wx; exact ⟨_, _, _, rfl⟩
  obtain ⟨Ay, ny, cy, rfl⟩ : ∃ A n c, vy = .slice A n c := by obtain ⟨A, c, rfl, -⟩ := Wy; exact ⟨_, _, _, rfl⟩
  clear hz hr kx ky Wx Wy
  generalize a / b = Q at *
  generalize a % b = R at *
  go_enter Tryz.func73, Tryz.ntmps73
  go_wp2_with fail
  go_quiet (fail)
  go_wp2_with fail
  go_region_with (first
    | (go_at_call 117; refine (HCt.out _ ?_).mono ?_; exact ⟨rfl, rfl, rfl, Nat.le_refl _, fun _ _ => rfl⟩; rintro e w1 ⟨q, v, rfl, hq, hv, hb1⟩; have HV : Hid (Wv w1 q (wl Q) ∧ Wv w1 v (wl R) ∧ Below w.heap.size w w1) := ⟨hq, hv, ⟨hb1.os, hb1.tape, hb1.output, hb1.size, hb1.block⟩⟩; clear hq hv hb1))
  all_goals
    have kz1 := (HV.out.2.2.block z ltz).trans HK.out.1
    have G1 := give_sg kz1 hvz HV.out.1 (xn != yn)
    go_wp2_with (go_at_call 118; refine G1.mono ?_; rintro e w2 ⟨rfl, hI, hG⟩; refine Hid.out ?_)
    refine Lib.hid ?_
    have kr2 := (hG.block r (Nat.lt_of_lt_of_le ltr HV.out.2.2.size) (by simpa using Ne.symm hzr)).trans ((HV.out.2.2.block r ltr).trans HK.out.2)
    have G2 := give_sg kr2 hvr (HV.out.2.1.fr hG kz1 (two_no rfl hvz)) xn
    clear G1
    go_wp2_with (go_at_call 118; refine G2.mono ?_; rintro e w3 ⟨rfl, hI3, hG3⟩; refine Hid.out ?_)
    refine Lib.hid ?_
    clear G2
    go_wp2
    go_ret2
    exact ⟨rfl, hI.fr hG3 kr2 (two_no rfl hvr) hzr, hI3, ((Fr.below HV.out.2.2).trans (hG.more fun k _ hk => by simp at hk; simp [hk])).trans (hG3.more fun k _ hk => by simp at hk; simp [hk])⟩

theorem int_new (w : World) : (w.alloc (.cells #[.bool false, .slice none 0 0] 86)).heap[w.heap.size]? = some (.cells #[.bool false, .slice none 0 0] 86 (0, 0)) := by rw [heap_alloc_new]
theorem int_keep {w : World} {z : Nat} {o p : Obj} (h : w.heap[z]? = some o) : (w.alloc p).heap[z]? = some o := by
  rw [((Below.refl w.heap.size w).alloc (Nat.le_refl _) p).block z (some_lt h)]; exact h
set_option maxRecDepth 100000 in
set_option maxHeartbeats 2000000 in
theorem quo_any {w : World} {z x y : Nat} {xn yn nz : Bool} {vz : Value} {a b : Nat} (hz : w.heap[z]? = some (.cells #[.bool nz, vz] 86 (0, 0))) (hvz : ∃ A n c, vz = .slice A n c)
    (hx : IntV w x xn a) (hy : IntV w y yn b) (la : a < 18446744073709551616) (lb : b < 18446744073709551616) (h0 : b ≠ 0) :
    Calls Tryz.prog 37 #[.pointer (some ⟨z, 0, none⟩), .pointer (some ⟨x, 0, none⟩), .pointer (some ⟨y, 0, none⟩)] w fun e w' =>
      e = .returned (.pointer (some ⟨z, 0, none⟩)) ∧ IntV w' z ((xn != yn) && decide (a / b ≠ 0)) (a / b) ∧ Fr [z] w w' := by
  have B1 : Below w.heap.size w (w.alloc (.cells #[.bool false, .slice none 0 0] 86)) := (Below.refl _ _).alloc (Nat.le_refl _) _
  have H := quorem_any (int_keep hz) hvz (int_new w) ⟨none, 0, 0, rfl⟩ (hx.bel B1) (hy.bel B1) (Nat.ne_of_lt (some_lt hz)) la lb h0
  have F1 : Fr [z, w.heap.size] w (w.alloc (.cells #[.bool false, .slice none 0 0] 86)) := (Fr.refl _ _).alloc _
  go_enter Tryz.func37, Tryz.ntmps37
  go_wp2_with (go_at_call 73; refine H.mono ?_; rintro e u2 ⟨rfl, hI, hJ, f2⟩; refine Hid.out ?_)
  refine Lib.hid ?_
  go_wp2_with fail
  go_ret
  exact ⟨rfl, hI, (F1.trans f2).more fun k hk hm => by simp at hm ⊢; rcases hm with h | h <;> omega⟩
set_option maxRecDepth 100000 in
set_option maxHeartbeats 2000000 in
theorem rem_any {w : World} {z x y : Nat} {xn yn nz : Bool} {vz : Value} {a b : Nat} (hz : w.heap[z]? = some (.cells #[.bool nz, vz] 86 (0, 0))) (hvz : ∃ A n c, vz = .slice A n c)
    (hx : IntV w x xn a) (hy : IntV w y yn b) (la : a < 18446744073709551616) (lb : b < 18446744073709551616) (h0 : b ≠ 0) :
    Calls Tryz.prog 39 #[.pointer (some ⟨z, 0, none⟩), .pointer (some ⟨x, 0, none⟩), .pointer (some ⟨y, 0, none⟩)] w fun e w' =>
      e = .returned (.pointer (some ⟨z, 0, none⟩)) ∧ IntV w' z (xn && decide (a % b ≠ 0)) (a % b) ∧ Fr [z] w w' := by
  have B1 : Below w.heap.size w (w.alloc (.cells #[.bool false, .slice none 0 0] 86)) := (Below.refl _ _).alloc (Nat.le_refl _) _
  have H := quorem_any (int_new w) ⟨none, 0, 0, rfl⟩ (int_keep hz) hvz (hx.bel B1) (hy.bel B1) (Nat.ne_of_gt (some_lt hz)) la lb h0
  have F1 : Fr [w.heap.size, z] w (w.alloc (.cells #[.bool false, .slice none 0 0] 86)) := (Fr.refl _ _).alloc _
  go_enter Tryz.func39, Tryz.ntmps39
  go_wp2_with (go_at_call 73; refine H.mono ?_; rintro e u2 ⟨rfl, hI, hJ, f2⟩; refine Hid.out ?_)
  refine Lib.hid ?_
  go_wp2_with fail
  go_ret
  exact ⟨rfl, hJ, (F1.trans f2).more fun k hk hm => by simp at hm ⊢; rcases hm with h | h <;> omega⟩

/-- Int64 of any sign. -/
theorem int64_sg {w : World} {b n : Nat} {neg : Bool} (h : IntV w b neg n) (hn : n ≤ 9223372036854775808) (hp : neg = false → n < 9223372036854775808) :
    Calls Tryz.prog 41 #[.pointer (some ⟨b, 0, none⟩)] w fun e w' => e = .returned (.int .i64 (if neg then -(n : Int) else n)) ∧ ∃ m, w' = w.drewN m := by
  cases neg with
  | false => simpa using int64_any h (hp rfl)
  | true =>
    have c0 := h.cells.1
    have cu := uint64_any h (by omega)
    simp only [if_true]
    clear h hp
    by_cases h1 : n = 9223372036854775808
    · subst h1
      go_enter Tryz.func41, Tryz.ntmps41
      go_wp2_with (go_at_call 77; refine cu.mono ?_; rintro e w' ⟨rfl, m, rfl⟩; refine Hid.out ?_)
      refine Lib.hid ?_
      have d0 : (w.drewN m).cell? ⟨b, 0, none⟩ = some (.bool true) := c0
      go_wp2_with fail
      go_ret
      exact ⟨ret_int (by unfold wrap64; omega), m, rfl⟩
    · have i1 : IntKind.i64.wrap (n : Int) = n := by rw [IntKind.wrap_i64]; omega
      go_enter Tryz.func41, Tryz.ntmps41
      go_wp2_with (go_at_call 77; refine cu.mono ?_; rintro e w' ⟨rfl, m, rfl⟩; refine Hid.out ?_)
      refine Lib.hid ?_
      have d0 : (w.drewN m).cell? ⟨b, 0, none⟩ = some (.bool true) := c0
      go_wp2_with fail
      go_ret
      exact ⟨rfl, m, rfl⟩
end Go.Proofs.YthadeccnibnioaaGreatDoor

/- weirgatebig: whether a number of any sign fits. -/
namespace Go.Proofs.YthadeccnibnioaaGreatDoor
open Go.RowKit
set_option linter.unusedVariables false

set_option maxHeartbeats 1000000 in
theorem isint_lt {w : World} {b n : Nat} {neg : Bool} (h : IntV w b neg n) (hn : n < 9223372036854775808) :
    Calls Tryz.prog 40 #[.pointer (some ⟨b, 0, none⟩)] w fun e w' => e = .returned (.bool true) ∧ w = w' := by
  have hlw := (lenW_lt n).2 hn
  obtain ⟨c0, A, cap, c1, hu⟩ := h.cells
  obtain ⟨v, hb, hv⟩ := h
  have hv2 : Wv w (.slice A (wl n).length cap) (wl n) := by
    obtain ⟨A', cap', rfl, h1, h2⟩ := hv
    have : w.cell? ⟨b, 1, none⟩ = some (.slice A' (wl n).length cap') := by simp [World.cell?, hb]
    rw [c1] at this; simp at this
    obtain ⟨rfl, rfl⟩ := this
    exact ⟨A, cap, rfl, h1, h2⟩
  have cl := length_any hv2 (wds_wl n) (by rcases wl_cls n (by omega) with ⟨-, e⟩ | ⟨-, -, e⟩ | ⟨-, e⟩ <;> rw [e] <;> simp)
  generalize lenW (wl n) = T at *
  clear hu hv hv2 hb
  have hI : (T : Int) < 64 := by omega
  go_enter Tryz.func40, Tryz.ntmps40
  go_wp2_with (go_at_call 75; refine cl.mono ?_; rintro e w' ⟨rfl, rfl⟩)
  go_ret
  exact ⟨rfl, rfl⟩

theorem bit_lo {w : World} {g o c : Nat} (c0 : w.cell? ⟨g, o, none⟩ = some (.int .u32 0)) (i : Nat) (hi : i < 32) :
    Calls Tryz.prog 120 #[.slice (some ⟨g, o, none⟩) 2 c, .int .i64 i] w fun e w' => e = .returned (.int .u64 0) ∧ w = w' := by
  have e1 : (i : Int) / 32 = 0 := by omega
  have e2 : (i : Int).tdiv 32 = 0 := by rw [Int.tdiv_eq_ediv_of_nonneg (by omega)]; exact e1
  go_enter Tryz.func120, Tryz.ntmps120
  go_wp2_with fail
  go_ret
  exact ⟨rfl, rfl⟩
def bt (k : Nat) : Int := bits .and .u64 (IntKind.u64.wrap ((2147483648 : Int) / 2 ^ k)) 1
theorem bt_31 : bt 31 = 1 := by decide
theorem bt_lt (k : Nat) (h : k < 31) : bt k = 0 := by
  have H : ∀ j : Fin 31, bt j.val = 0 := by decide
  exact H ⟨k, h⟩
theorem bit_hi {w : World} {g o c : Nat} (c1 : w.cell? ⟨g, o + 1, none⟩ = some (.int .u32 2147483648)) (i : Nat) (hi : 32 ≤ i) (h2 : i ≤ 63) :
    Calls Tryz.prog 120 #[.slice (some ⟨g, o, none⟩) 2 c, .int .i64 i] w fun e w' => e = .returned (.int .u64 (bt (i - 32))) ∧ w = w' := by
  have e1 : (i : Int) / 32 = 1 := by omega
  have e2 : (i : Int).tdiv 32 = 1 := by rw [Int.tdiv_eq_ediv_of_nonneg (by omega)]; exact e1
  obtain ⟨k, hk⟩ : ∃ k : Nat, k = i - 32 := ⟨_, rfl⟩
  have e3 : (i : Int) % 32 = k := by omega
  go_enter Tryz.func120, Tryz.ntmps120
  go_wp2_with fail
  go_ret
  exact ⟨by subst hk; rfl, rfl⟩
theorem bit_any {w : World} {g o c : Nat} (c0 : w.cell? ⟨g, o, none⟩ = some (.int .u32 0)) (c1 : w.cell? ⟨g, o + 1, none⟩ = some (.int .u32 2147483648)) (i : Nat) (h2 : i ≤ 63) :
    Calls Tryz.prog 120 #[.slice (some ⟨g, o, none⟩) 2 c, .int .i64 i] w fun e w' => e = .returned (.int .u64 (if i = 63 then 1 else 0)) ∧ w = w' := by
  by_cases h : i < 32
  · rw [if_neg (by omega)]; exact bit_lo c0 i h
  · have H := bit_hi (c := c) c1 i (by omega) h2
    by_cases h3 : i = 63
    · subst h3; rw [show bt (63 - 32) = 1 from bt_31] at H; rw [if_pos rfl]; exact H
    · rw [bt_lt _ (by omega)] at H; rw [if_neg h3]; exact H
set_option maxHeartbeats 1000000 in
theorem trail_any {w : World} {b g o c : Nat} (hb : w.cell? ⟨b, 1, none⟩ = some (.slice (some ⟨g, o, none⟩) 2 c)) (c0 : w.cell? ⟨g, o, none⟩ = some (.int .u32 0)) (c1 : w.cell? ⟨g, o + 1, none⟩ = some (.int .u32 2147483648)) :
    Calls Tryz.prog 76 #[.pointer (some ⟨b, 0, none⟩)] w fun e w' => e = .returned (.int .u64 63) ∧ w = w' := by
  have HB := Lib.hid (fun i h => bit_any (c := c) c0 c1 i h)
  clear c0 c1
  go_enter Tryz.func76, Tryz.ntmps76
  go_wp2_with fail
  go_loopw [3] (fun t wr => ∃ k : Nat, k ≤ 63 ∧ t = .int .u64 k ∧ w = wr) (fun t _ => 63 - (intOf t).toNat)
  case atStart => exact ⟨0, by omega, rfl, rfl⟩
  case round =>
    obtain ⟨k, hk, rfl, rfl⟩ := hrel
    have HK := HB.out k hk
    clear HB
    by_cases h : k = 63
    · subst h
      rw [if_pos rfl] at HK
      go_wp2_with (go_at_call 120; refine HK.mono ?_; rintro e w' ⟨rfl, rfl⟩; refine Hid.out ?_)
      refine Lib.hid ?_
      go_wp2_with fail
      go_ret
      exact ⟨rfl, rfl⟩
    · rw [if_neg h] at HK
      have i1 : IntKind.i64.wrap (k : Int) = k := by rw [IntKind.wrap_i64]; omega
      go_wp2_with (go_at_call 120; refine HK.mono ?_; rintro e w' ⟨rfl, rfl⟩; refine Hid.out ?_)
      refine Lib.hid ?_
      go_wp2_with fail
      exact ⟨⟨k + 1, by omega, by go_num, by trivial⟩, by simp [intOf]; omega⟩
theorem wl_63 : wl 9223372036854775808 = [0, 2147483648] := by
  rcases wl_cls 9223372036854775808 (by decide) with ⟨h, -⟩ | ⟨-, h, -⟩ | ⟨-, h⟩
  · omega
  · omega
  · simpa using h
set_option maxHeartbeats 1000000 in
theorem isint_top {w : World} {b : Nat} (h : IntV w b true 9223372036854775808) :
    Calls Tryz.prog 40 #[.pointer (some ⟨b, 0, none⟩)] w fun e w' => e = .returned (.bool true) ∧ w = w' := by
  obtain ⟨c0, A, cap, c1, hu⟩ := h.cells
  obtain ⟨v, hb, hv⟩ := h
  have hv2 : Wv w (.slice A (wl 9223372036854775808).length cap) (wl 9223372036854775808) := by
    obtain ⟨A', cap', rfl, h1, h2⟩ := hv
    have : w.cell? ⟨b, 1, none⟩ = some (.slice A' (wl 9223372036854775808).length cap') := by simp [World.cell?, hb]
    rw [c1] at this; simp at this
    obtain ⟨rfl, rfl⟩ := this
    exact ⟨A, cap, rfl, h1, h2⟩
  have cl := length_any hv2 (wds_wl _) (by rw [wl_63]; simp)
  have e64 : lenW (wl 9223372036854775808) = 64 := by
    have h1 := lenW_lt 9223372036854775808
    rw [wl_63] at h1 ⊢
    have := bl_le 32 2147483648
    have h2 : bl 2147483648 ≤ 32 := this.2 (by decide)
    simp [lenW, wd, List.getD] at h1 ⊢
    omega
  rw [e64] at cl
  rw [wl_63] at c1 cl hu
  obtain ⟨g, o, rfl, hc⟩ := hu.at (by simp)
  have d0 := hc 0 (by simp)
  have d1 := hc 1 (by simp)
  have HT := trail_any (c := cap) c1 d0 d1
  clear hu hv hv2 hb hc
  simp only [List.length_cons, List.length_nil] at c1 cl
  go_enter Tryz.func40, Tryz.ntmps40
  go_wp2_with (go_at_call 75; refine cl.mono ?_; rintro e w' ⟨rfl, rfl⟩; refine Hid.out ?_)
  refine Lib.hid ?_
  go_wp2_with (go_at_call 76; refine HT.mono ?_; rintro e w' ⟨rfl, rfl⟩; refine Hid.out ?_)
  refine Lib.hid ?_
  go_wp2_with fail
  go_ret
  exact ⟨rfl, rfl⟩
end Go.Proofs.YthadeccnibnioaaGreatDoor
