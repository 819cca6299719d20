/- The groups of states; those of some groups, left of a row. -/
import Derived.Test.YtiofpimchbhfcabQf
import Derived.Test.YtiofpimchbhfcabFu
import Derived.WalkKit
import Derived.ProofKit
import Derived.OpenShut
namespace Go.Proofs.Ytiofpimchbhfcab
open Go.RowKit
set_option linter.unusedVariables false

theorem ret_vq {a b : Value} (h : a = b) : Ending.returned a = .returned b := by rw [h]
/-- The first group of worker i of p: i times 16, by p, rounded up. -/
def bgn (p i : Int) : Int := (i * 16 + p - 1) / p
/-- Who has group g among p. -/
def who (p g : Int) : Int := g * p / 16

theorem sixteen {p : Int} (h1 : 1 ≤ p) (h2 : p ≤ 16) : p = 1 ∨ p = 2 ∨ p = 3 ∨ p = 4 ∨ p = 5 ∨ p = 6 ∨ p = 7 ∨ p = 8 ∨ p = 9 ∨ p = 10 ∨ p = 11 ∨ p = 12 ∨ p = 13 ∨ p = 14 ∨ p = 15 ∨ p = 16 := by omega

theorem mul_lo (g p : Int) (h1 : 0 ≤ g) (h2 : 0 ≤ p) : 0 ≤ g * p := Int.mul_nonneg h1 h2
theorem mul_hi (g p : Int) (h2 : g ≤ 16) (h3 : 0 ≤ p) (h4 : p ≤ 16) : g * p ≤ 256 := by
  have := Int.mul_le_mul h2 h4 h3 (by omega : (0 : Int) ≤ 16)
  omega

theorem bgn_zero {p : Int} (h1 : 1 ≤ p) (h2 : p ≤ 16) : bgn p 0 = 0 := by
  unfold bgn; rcases sixteen h1 h2 with rfl | rfl | rfl | rfl | rfl | rfl | rfl | rfl | rfl | rfl | rfl | rfl | rfl | rfl | rfl | rfl <;> rfl
theorem bgn_end {p : Int} (h1 : 1 ≤ p) (h2 : p ≤ 16) : bgn p p = 16 := by
  unfold bgn; rcases sixteen h1 h2 with rfl | rfl | rfl | rfl | rfl | rfl | rfl | rfl | rfl | rfl | rfl | rfl | rfl | rfl | rfl | rfl <;> rfl
theorem bgn_step {p i : Int} (h1 : 1 ≤ p) (h2 : p ≤ 16) (h3 : 0 ≤ i) (h4 : i < p) :
    0 ≤ bgn p i ∧ bgn p (i + 1) ≤ 16 ∧ bgn p i < bgn p (i + 1) ∧ 16 / p ≤ bgn p (i + 1) - bgn p i ∧ bgn p (i + 1) - bgn p i ≤ 16 / p + 1 := by
  unfold bgn; rcases sixteen h1 h2 with rfl | rfl | rfl | rfl | rfl | rfl | rfl | rfl | rfl | rfl | rfl | rfl | rfl | rfl | rfl | rfl <;> omega
theorem who_of {p i g : Int} (h1 : 1 ≤ p) (h2 : p ≤ 16) (h3 : 0 ≤ i) (h4 : i < p) (h5 : bgn p i ≤ g) (h6 : g < bgn p (i + 1)) : who p g = i := by
  revert h5 h6; unfold bgn who; rcases sixteen h1 h2 with rfl | rfl | rfl | rfl | rfl | rfl | rfl | rfl | rfl | rfl | rfl | rfl | rfl | rfl | rfl | rfl <;> omega
theorem part_bd {p : Int} (h1 : 1 ≤ p) (h2 : p ≤ 16) : 1 ≤ 16 / p ∧ 16 / p ≤ 16 := by
  rcases sixteen h1 h2 with rfl | rfl | rfl | rfl | rfl | rfl | rfl | rfl | rfl | rfl | rfl | rfl | rfl | rfl | rfl | rfl <;> omega
theorem who_bd {p g : Int} (h1 : 1 ≤ p) (h2 : p ≤ 16) (h3 : 0 ≤ g) (h4 : g < 16) : 0 ≤ who p g ∧ who p g < p := by
  unfold who; rcases sixteen h1 h2 with rfl | rfl | rfl | rfl | rfl | rfl | rfl | rfl | rfl | rfl | rfl | rfl | rfl | rfl | rfl | rfl <;> omega
theorem ret_int {k : IntKind} {a b : Int} (h : a = b) : Ending.returned (.int k a) = .returned (.int k b) := by rw [h]

theorem isWorkers_yes (p : Int) (w : World) (h1 : 1 ≤ p) (h2 : p ≤ 16) :
    Calls Try.prog 22 #[.int .i64 p] w fun e w' => e = .returned (.bool true) ∧ w = w' := by
  go_enter Try.func22, Try.ntmps22
  go_wp2
  go_ret
  exact ⟨rfl, rfl⟩

theorem isWorkers_no (p : Int) (w : World) (h : p < 1 ∨ 16 < p) :
    Calls Try.prog 22 #[.int .i64 p] w fun e w' => e = .returned (.bool false) ∧ w = w' := by
  rcases h with h | h
  · have h' : ¬ 1 ≤ p := by omega
    go_enter Try.func22, Try.ntmps22
    go_wp2
    go_ret
    exact ⟨rfl, rfl⟩
  · have h' : 1 ≤ p := by omega
    have h'' : ¬ p ≤ 16 := by omega
    go_enter Try.func22, Try.ntmps22
    go_wp2
    go_ret
    exact ⟨rfl, rfl⟩

theorem owner_any (p g : Int) (w : World) (h1 : 0 ≤ g * p) (h2 : g * p ≤ 256) :
    Calls Try.prog 30 #[.int .i64 p, .int .i64 g] w fun e w' => e = .returned (.int .i64 (who p g)) ∧ w = w' := by
  go_enter Try.func30, Try.ntmps30
  go_wp2
  go_ret
  exact ⟨rfl, rfl⟩

theorem begin_any (p i : Int) (w : World) (h1 : 1 ≤ p) (h2 : p ≤ 16) (h3 : 0 ≤ i) (h4 : i ≤ 16) :
    Calls Try.prog 23 #[.int .i64 p, .int .i64 i] w fun e w' => e = .returned (.int .i64 (bgn p i)) ∧ w = w' := by
  go_enter Try.func23, Try.ntmps23
  go_wp2
  go_ret
  exact ⟨rfl, rfl⟩

/-- 'Owner' where both numbers are in range. -/
theorem Owner_yes (p g : Int) (w : World) (h1 : 1 ≤ p) (h2 : p ≤ 16) (h3 : 0 ≤ g) (h4 : g < 16) :
    Calls Try.prog 13 #[.int .i64 p, .int .i64 g] w fun e w' => e = .returned (.tuple #[.int .i64 (who p g), .nilIface]) ∧ w = w' := by
  have m1 := mul_lo g p h3 (by omega)
  have m2 := mul_hi g p (by omega) (by omega) h2
  have n1 : ¬ g < 0 := by omega
  have n2 : ¬ 16 ≤ g := by omega
  go_enter Try.func13, Try.ntmps13
  go_wp2_with (first | (go_at_call 22; refine (isWorkers_yes _ _ (by omega) (by omega)).mono ?_; rintro e w' ⟨rfl, rfl⟩) | (go_at_call 30; refine (owner_any _ _ _ m1 m2).mono ?_; rintro e w' ⟨rfl, rfl⟩))
  go_ret2
  exact ⟨rfl, rfl⟩

/-- 'Range' where both numbers are in range. -/
theorem Range_yes (p i : Int) (w : World) (h1 : 1 ≤ p) (h2 : p ≤ 16) (h3 : 0 ≤ i) (h4 : i < p) :
    Calls Try.prog 8 #[.int .i64 p, .int .i64 i] w fun e w' => e = .returned (.tuple #[.int .i64 (bgn p i), .int .i64 (bgn p (i + 1)), .nilIface]) ∧ w = w' := by
  have n1 : ¬ i < 0 := by omega
  have n2 : ¬ p ≤ i := by omega
  go_enter Try.func8, Try.ntmps8
  go_wp2_with (first | (go_at_call 22; refine (isWorkers_yes _ _ (by omega) (by omega)).mono ?_; rintro e w' ⟨rfl, rfl⟩) | (go_at_call 23; refine (begin_any _ _ _ (by omega) (by omega) (by omega) (by omega)).mono ?_; rintro e w' ⟨rfl, rfl⟩))
  go_ret3
  exact ⟨rfl, rfl⟩

/-- One byte more. -/
def stp (x : Int) (b : UInt8) : Int := bits .xor .u32 x (b.toNat : Int) * 16777619 % 4294967296
/-- The sum of bytes. -/
def hsh (l : List UInt8) : Int := l.foldl stp 2166136261
/-- The group of a sum. -/
def grp (x : Int) : Int := bits .xor .u32 (x / 65536) x % 16
theorem hsh_bd (l : List UInt8) : 0 ≤ hsh l ∧ hsh l < 4294967296 := by
  suffices h : ∀ (l : List UInt8) (x : Int), 0 ≤ x ∧ x < 4294967296 → 0 ≤ l.foldl stp x ∧ l.foldl stp x < 4294967296 from h l _ (by omega)
  intro l
  induction l with
  | nil => intro x hx; exact hx
  | cons c l ih => intro x _; exact ih _ (by unfold stp; omega)
theorem hsh_snoc (l : List UInt8) (c : UInt8) : hsh (l ++ [c]) = stp (hsh l) c := by simp [hsh]
theorem take_snoc (s : ByteArray) (k : Nat) (h : k < s.size) : s.data.toList.take (k + 1) = s.data.toList.take k ++ [s[k]] := by
  rw [List.take_succ_eq_append_getElem (by simpa using h)]; rfl
theorem grp_bd (x : Int) : 0 ≤ grp x ∧ grp x < 16 := by unfold grp; omega
theorem of_end (y : Int) (h : 0 ≤ y) : wrap64 (y.tmod 16) = y % 16 := by
  rw [Int.tmod_eq_emod_of_nonneg h]; unfold wrap64; omega

theorem xor_u32 (a b : Nat) (ha : a < 4294967296) (hb : b < 4294967296) : bits .xor .u32 (a : Int) (b : Int) = ((a ^^^ b : Nat) : Int) := by
  have hx : a ^^^ b < 2 ^ 32 := Nat.xor_lt_two_pow (by omega) (by omega)
  have h1 : (BitVec.ofInt 32 (a : Int)).toNat = a := by
    rw [BitVec.ofInt_natCast, BitVec.toNat_ofNat]; exact Nat.mod_eq_of_lt (by omega)
  have h2 : (BitVec.ofInt 32 (b : Int)).toNat = b := by
    rw [BitVec.ofInt_natCast, BitVec.toNat_ofNat]; exact Nat.mod_eq_of_lt (by omega)
  show IntKind.u32.wrap ((BitVec.ofInt 32 (a : Int) ^^^ BitVec.ofInt 32 (b : Int)).toNat : Int) = _
  rw [BitVec.toNat_xor, h1, h2, IntKind.wrap_u32]
  omega
theorem xor_i64 (a b : Nat) (ha : a < 4294967296) (hb : b < 4294967296) : bits .xor .i64 (a : Int) (b : Int) = ((a ^^^ b : Nat) : Int) := by
  have hx : a ^^^ b < 2 ^ 32 := Nat.xor_lt_two_pow (by omega) (by omega)
  have h1 : (BitVec.ofInt 64 (a : Int)).toNat = a := by
    rw [BitVec.ofInt_natCast, BitVec.toNat_ofNat]; exact Nat.mod_eq_of_lt (by omega)
  have h2 : (BitVec.ofInt 64 (b : Int)).toNat = b := by
    rw [BitVec.ofInt_natCast, BitVec.toNat_ofNat]; exact Nat.mod_eq_of_lt (by omega)
  show IntKind.i64.wrap ((BitVec.ofInt 64 (a : Int) ^^^ BitVec.ofInt 64 (b : Int)).toNat : Int) = _
  rw [BitVec.toNat_xor, h1, h2, IntKind.wrap_i64]
  omega
/-- The same bits, whether of 32 or of 64. -/
theorem xor_same (x y : Int) (x0 : 0 ≤ x) (x1 : x < 4294967296) (y0 : 0 ≤ y) (y1 : y < 4294967296) : bits .xor .i64 x y = bits .xor .u32 x y := by
  obtain ⟨a, rfl⟩ := Int.eq_ofNat_of_zero_le x0
  obtain ⟨b, rfl⟩ := Int.eq_ofNat_of_zero_le y0
  exact (xor_i64 a b (by omega) (by omega)).trans (xor_u32 a b (by omega) (by omega)).symm

set_option maxHeartbeats 400000 in
/-- 'Of': the sum's group. -/
theorem Of_any (s : ByteArray) (w : World) (hs : s.size ≤ maxLen) :
    Calls Try.prog 14 #[.string s] w fun e w' => e = .returned (.int .i64 (grp (hsh s.data.toList))) ∧ w = w' := by
  unfold maxLen at hs
  go_enter Try.func14, Try.ntmps14
  go_wp2
  go_loop [3, 7] (fun t i => ∃ k : Nat, k ≤ s.size ∧ i = .int .i64 k ∧ t = .int .u32 (hsh (s.data.toList.take k))) (fun _ i => s.size - (intOf i).toNat)
  case atStart => exact ⟨0, Nat.zero_le _, rfl, rfl⟩
  case round =>
    obtain ⟨k, hk, rfl, rfl⟩ := hrel
    obtain ⟨x0, x1⟩ := hsh_bd (s.data.toList.take k)
    by_cases hlt : k < s.size
    · have hb : s[k].toNat < 256 := s[k].toNat_lt
      have HS : Hid (hsh (s.data.toList.take (k + 1)) = stp (hsh (s.data.toList.take k)) s[k]) := by
        show _ = _
        rw [take_snoc s k hlt]; exact hsh_snoc _ _
      go_wp2
      exact ⟨⟨k + 1, by omega, by go_num, by rw [HS.out]; rfl⟩, by simp [intOf]; omega⟩
    · have HE : Hid (s.data.toList.take k = s.data.toList) := List.take_of_length_le (by simp; omega)
      go_wp2
      go_ret
      exact ⟨ret_vq (by rw [HE.out]; exact congrArg (Value.int .i64) (of_end _ (bits_lo_u32 _ _ _))), rfl⟩
/-- The group of a state; whether it is of some groups. -/
def gH (r : Hd) : Int := grp (hsh (kH r))
def inR (low high : Int) (r : Hd) : Bool := decide (low ≤ gH r) && decide (gH r < high)
theorem gH_bd (r : Hd) : 0 ≤ gH r ∧ gH r < 16 := grp_bd _
set_option maxRecDepth 100000 in
set_option maxHeartbeats 1000000 in
theorem wi1_any (low high : Int) (r : Hd) (bl bh : Nat) (w : World) (hl : w.cell? ⟨bl, 0, none⟩ = some (.int .i64 low)) (hh : w.cell? ⟨bh, 0, none⟩ = some (.int .i64 high)) (hk : r.key.size ≤ maxLen) :
    Calls Try.prog 37 #[hdV r, .pointer (some ⟨bl, 0, none⟩), .pointer (some ⟨bh, 0, none⟩)] w fun e w' => e = .returned (.bool (!inR low high r)) ∧ Below w.heap.size w w' := by
  have HO := fun u => Of_any r.key u hk
  have e1 : inR low high r = (decide (low ≤ grp (hsh r.key.data.toList)) && decide (grp (hsh r.key.data.toList) < high)) := rfl
  rw [e1]
  clear e1
  have hl' := Lib.cell?_alloc_some (.cells #[.int .i64 r.nd, .string r.key, .int .i64 r.a, .int .i64 r.b] 29) hl
  have hh' := Lib.cell?_alloc_some (.cells #[.int .i64 r.nd, .string r.key, .int .i64 r.a, .int .i64 r.b] 29) hh
  obtain ⟨nd, key, a, b⟩ := r
  simp only [hdV] at *
  generalize grp (hsh key.data.toList) = g at *
  clear hl hh
  by_cases h1 : g < low
  · have e : (!(decide (low ≤ g) && decide (g < high))) = true := by simp; omega
    rw [e]
    clear e
    go_enter Try.func37, Try.ntmps37
    go_wp2_with (go_at_call 14; refine (HO _).mono ?_; rintro e w' ⟨rfl, rfl⟩)
    go_ret
    exact ⟨rfl, (Below.refl _ _).alloc (Nat.le_refl _) _⟩
  · by_cases h2 : high ≤ g
    · have e : (!(decide (low ≤ g) && decide (g < high))) = true := by simp; omega
      rw [e]
      clear e
      go_enter Try.func37, Try.ntmps37
      go_wp2_with (go_at_call 14; refine (HO _).mono ?_; rintro e w' ⟨rfl, rfl⟩)
      go_ret
      exact ⟨rfl, (Below.refl _ _).alloc (Nat.le_refl _) _⟩
    · have e : (!(decide (low ≤ g) && decide (g < high))) = false := by simp; omega
      rw [e]
      clear e
      go_enter Try.func37, Try.ntmps37
      go_wp2_with (go_at_call 14; refine (HO _).mono ?_; rintro e w' ⟨rfl, rfl⟩)
      go_ret
      exact ⟨ret_bool (by simp; omega), (Below.refl _ _).alloc (Nat.le_refl _) _⟩
/-- Where the first one lies that is of no such group. -/
def idxP (p : Hd → Bool) : List Hd → Option Nat
  | [] => none
  | x :: l => if p x then (idxP p l).map (· + 1) else some 0
theorem idxP_none {p : Hd → Bool} : ∀ {l : List Hd}, (∀ x ∈ l, p x = true) → idxP p l = none
  | [], _ => rfl
  | x :: l, h => by
    unfold idxP
    rw [if_pos (h x (by simp)), idxP_none (fun y hy => h y (List.mem_cons_of_mem _ hy))]; rfl
theorem idxP_some {p : Hd → Bool} : ∀ {l : List Hd} {k : Nat} (hk : k < l.length), (∀ x ∈ l.take k, p x = true) → p l[k] = false → idxP p l = some k
  | [], k, hk, _, _ => by simp at hk
  | x :: l, 0, hk, _, h => by
    unfold idxP
    simp only [List.getElem_cons_zero] at h
    rw [h]; rfl
  | x :: l, k + 1, hk, h1, h2 => by
    unfold idxP
    rw [if_pos (h1 x (by simp)), idxP_some (l := l) (k := k) (by simpa using hk) (fun y hy => h1 y (by simp [hy])) (by simpa using h2)]; rfl
def idxV (o : Option Nat) : Value := match o with | none => .int .i64 (-1) | some k => .int .i64 k
set_option maxRecDepth 100000 in
set_option maxHeartbeats 1000000 in
theorem idx_any (low high : Int) (bl bh : Nat) (w : World) (A : Option Addr) (cap : Nat) (xs : List Hd) (hs : CsAt w A (hcells xs)) (hks : ∀ r ∈ xs, r.key.size ≤ maxLen) (hlen : xs.length ≤ 1000000) (hl : w.cell? ⟨bl, 0, none⟩ = some (.int .i64 low)) (hh : w.cell? ⟨bh, 0, none⟩ = some (.int .i64 high)) :
    Calls Try.prog 46 #[.slice A xs.length cap, .func (.func 37) #[] #[.pointer (some ⟨bl, 0, none⟩), .pointer (some ⟨bh, 0, none⟩)]] w fun e w' => e = .returned (idxV (idxP (inR low high) xs)) ∧ Below w.heap.size w w' := by
  have hbl := cell_lt hl
  have hbh := cell_lt hh
  generalize hR : idxV (idxP (inR low high) xs) = RV
  have HR := Lib.hid hR
  clear hR
  go_enter Try.func46, Try.ntmps46
  go_wp2_with fail
  go_loopw [8] (fun i wr => ∃ k : Nat, k ≤ xs.length ∧ i = .int .i64 k ∧ (∀ x ∈ xs.take k, inR low high x = true) ∧ Below w.heap.size w wr) (fun i _ => xs.length - (intOf i).toNat)
  case atStart => exact ⟨0, by omega, rfl, by simp, Below.refl _ _⟩
  case round =>
    obtain ⟨k, hk, rfl, hno, hb⟩ := hrel
    by_cases hlt : k < xs.length
    · obtain ⟨b, o, rfl, c0, c1, c2, c3⟩ := hds_at (hs.keep hb) k hlt
      have HW := wi1_any low high xs[k] bl bh wr ((hb.cell (p := ⟨bl, 0, none⟩) hbl).trans hl) ((hb.cell (p := ⟨bh, 0, none⟩) hbh).trans hh) (hks _ (List.getElem_mem hlt))
      cases hp : inR low high xs[k] with
      | true =>
        rw [hp] at HW
        have hno2 : ∀ x ∈ xs.take (k + 1), inR low high x = true := fun x hx => by
          rw [List.take_succ_eq_append_getElem hlt] at hx
          rcases List.mem_append.1 hx with hx | hx
          · exact hno x hx
          · simp at hx; rw [hx]; exact hp
        have HN := Lib.hid hno2
        clear hno hno2 hp hs
        generalize xs[k] = r at *
        obtain ⟨nd, key, a, bv⟩ := r
        simp only [hdV, Bool.not_true] at c0 c1 c2 c3 HW
        go_wp2_with (go_at_call 37; refine HW.mono ?_; rintro e u ⟨rfl, b1⟩)
        have B1 := hb.trans (b1.mono hb.size)
        go_roundw
        case rel => exact ⟨k + 1, by omega, by go_num, HN.out, B1⟩
        case measure => simp [intOf]; omega
      | false =>
        rw [hp] at HW
        have hE := idxP_some hlt hno hp
        have HE : Hid (RV = .int .i64 k) := Lib.hid (by rw [← HR.out, hE]; rfl)
        clear hno hp hs hE HR
        generalize xs[k] = r at *
        obtain ⟨nd, key, a, bv⟩ := r
        simp only [hdV, Bool.not_false] at c0 c1 c2 c3 HW
        go_wp2_with (go_at_call 37; refine HW.mono ?_; rintro e u ⟨rfl, b1⟩)
        have B1 := hb.trans (b1.mono hb.size)
        go_ret
        exact ⟨by rw [HE.out]; rfl, B1⟩
    · have hE : idxP (inR low high) xs = none := idxP_none (fun x hx => hno x (by rw [List.take_of_length_le (by omega)]; exact hx))
      have HE : Hid (RV = .int .i64 (-1)) := Lib.hid (by rw [← HR.out, hE]; rfl)
      clear hno hE HR hs
      go_wp2_with fail
      go_ret
      exact ⟨by rw [HE.out]; rfl, hb⟩
end Go.Proofs.Ytiofpimchbhfcab
