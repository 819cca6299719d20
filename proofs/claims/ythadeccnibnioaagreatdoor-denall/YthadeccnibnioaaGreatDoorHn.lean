import Derived.Test.YthadeccnibnioaaGreatDoorBz
import Derived.Laws.Bits64b
import Derived.Lib.ItoaNum
import Derived.Laws.BytesArg
/- weirgatebig: quotients by one word. -/
namespace Go.Proofs.YthadeccnibnioaaGreatDoor
open Go.RowKit
set_option linter.unusedVariables false

theorem or_word (r x : Nat) (hr : r < 4294967296) (hx : x < 4294967296) : bits .or .u64 ((r : Int) * 4294967296) (x : Int) = ((r * 4294967296 + x : Nat) : Int) := by
  have h := bits_or_u64_nat (r * 4294967296) x (by omega) (by omega)
  have e : r * 4294967296 ||| x = r * 4294967296 + x := by
    have := Nat.two_pow_add_eq_or_of_lt (i := 32) (b := x) (by omega) r
    rw [show (2 : Nat) ^ 32 = 4294967296 from by decide, Nat.mul_comm] at this
    exact this.symm
  rw [e] at h
  rw [← h]; simp

set_option maxHeartbeats 1000000 in
theorem trim_at (g cap : Nat) (l : List Nat) (w : World) (h : U32s w (some ⟨g, 0, none⟩) l) (hl : l.length ≤ 1000000) (hc : l.length ≤ cap) :
    Calls Tryz.prog 150 #[.slice (some ⟨g, 0, none⟩) l.length cap] w fun e w' => e = .returned (.slice (some ⟨g, 0, none⟩) (trimL l).length cap) ∧ w = w' := by
  go_enter Tryz.func150, Tryz.ntmps150
  go_wp2
  go_loopw [3] (fun t wr => ∃ k : Nat, k ≤ l.length ∧ t = .int .i64 k ∧ Hid (trimL (l.take k) = trimL l) ∧ w = wr) (fun t _ => (intOf t).toNat)
  case atStart => exact ⟨l.length, Nat.le_refl _, rfl, by show _ = _; rw [List.take_length], rfl⟩
  case round =>
    obtain ⟨k, hk, rfl, HK, rfl⟩ := hrel
    obtain ⟨t1, t2, t3⟩ := trim_take l k HK.out hk
    have fin : ∀ n, trimL l = l.take n → n ≤ l.length → n = (trimL l).length := fun n hn hle => by
      rw [hn]; simp; omega
    rcases Nat.eq_zero_or_pos k with rfl | hp
    · have W := Lib.hid (fin 0 (by rw [t1 rfl]; simp) (by omega))
      clear t1 t2 t3 HK fin
      go_wp2
      go_ret
      exact ⟨by rw [← W.out]; rfl, rfl⟩
    · obtain ⟨b, o, e, hat⟩ := h.at (by omega)
      simp at e
      obtain ⟨rfl, rfl⟩ := e
      obtain ⟨m, rfl⟩ : ∃ m, k = m + 1 := ⟨k - 1, by omega⟩
      have hcell := hat m (by omega)
      rw [Nat.zero_add] at hcell
      rw [Nat.add_sub_cancel] at t2 t3
      by_cases hz : wd l m = 0
      · have HZ := Lib.hid (t2 hp hz)
        rw [hz] at hcell
        clear t1 t2 t3 HK fin hz hat
        go_wp2
        exact ⟨⟨m, by omega, by go_num, HZ.out, by trivial⟩, by simp [intOf]⟩
      · have W := Lib.hid (fin (m + 1) (t3 hp hz) hk)
        have hz' : (((wd l m : Nat) : Int) == 0) = false := by simp; omega
        clear t1 t2 t3 HK fin hat
        go_wp2
        go_ret
        exact ⟨by rw [← W.out]; rfl, rfl⟩

theorem u_trim {w : World} {A : Option Addr} {l : List Nat} (h : U32s w A l) : U32s w A (trimL l) := by
  have : ∃ k, trimL l = l.take k := by
    clear h
    induction l with
    | nil => exact ⟨0, rfl⟩
    | cons a l ih =>
      obtain ⟨k, hk⟩ := ih
      unfold trimL
      split
      · exact ⟨0, by simp⟩
      · exact ⟨k + 1, by rw [List.take_succ_cons, hk]⟩
  obtain ⟨k, hk⟩ := this
  rw [hk]; exact h.take k

set_option maxRecDepth 100000 in
set_option maxHeartbeats 1000000 in
theorem small_any {w : World} {A : Option Addr} {a : List Nat} {ca d : Nat} (ha : U32s w A a) (wa : Wds a) (h1 : 0 < a.length) (hs1 : a.length ≤ 1000) (hd : 0 < d) (hd2 : d < 4294967296) :
    Calls Tryz.prog 147 #[.slice A a.length ca, .int .u32 d] w fun e w' => ∃ g, e = .returned (.tuple #[.slice (some ⟨g, 0, none⟩) (wl (nv a / d)).length a.length, .int .u32 ((nv a % d : Nat) : Int)]) ∧ w.heap.size ≤ g ∧ U32s w' (some ⟨g, 0, none⟩) (wl (nv a / d)) ∧ Below w.heap.size w w' := by
  have hmk : ∀ w : World, (Instr.makeSlice 84 (.int .i64 (a.length : Int)) (.int .i64 (a.length : Int))).run Tryz.prog w = .ok (.slice (some ⟨w.heap.size, 0, none⟩) a.length a.length) (w.alloc (.cells (madeCells #[.int .u32 0] a.length) 194)) :=
    fun w => run_make_row' (P := Tryz.prog) 84 194 (.int .u32 0) 4 Tryz.underlying84 Tryz.infoU rfl .i64 .i64 a.length (by omega) (by omega) w
  have hR : RowU (w.alloc (.cells (madeCells #[.int .u32 0] a.length) 194)) w.heap.size (List.replicate a.length 0) := RowU.made w _
  have hB : Below w.heap.size w (w.alloc (.cells (madeCells #[.int .u32 0] a.length) 194)) := (Below.refl _ _).alloc (Nat.le_refl _) _
  obtain ⟨ba, oa, rfl, cA⟩ := ha.at h1
  have la : ba < w.heap.size := World.block_lt_of_cell? _ _ (cA 0 h1)
  have HA := Lib.hid cA
  have hd0 : ¬ (d : Int) = 0 := by omega
  clear cA ha
  go_enter Tryz.func147, Tryz.ntmps147
  go_wp2_with fail
  generalize w.alloc (.cells (madeCells #[.int .u32 0] a.length) 194) = w1 at *
  obtain ⟨g, hg⟩ : ∃ g, g = w.heap.size := ⟨_, rfl⟩
  have hgB : w.heap.size ≤ g := by omega
  rw [← hg] at hR ⊢
  clear hg hmk
  go_loopw [7, 8] (fun r i wr => ∃ (k rr : Nat) (q : List Nat), k ≤ a.length ∧ i = .int .i64 ((k : Int) - 1) ∧ r = .int .u64 rr ∧ Hid (SmI a q d k rr) ∧ rr < d ∧ q.length = a.length ∧ RowU wr g q ∧ Below w.heap.size w wr) (fun _ i _ => (intOf i + 1).toNat)
  case atStart => exact ⟨a.length, 0, _, Nat.le_refl _, by go_num, rfl, Lib.hid (SmI.start a hd), hd, by simp, hR, hB⟩
  case round =>
    obtain ⟨k, rr, q, hk, rfl, rfl, HI, hrr, hql, hr, hbw⟩ := hrel
    clear hR hB
    by_cases hk0 : k = 0
    · subst hk0
      have HD := HI.out.done
      have hwq : trimL q = wl (nv a / d) := by rw [trim_wl q HI.out.wds, HD.1]
      have HR := Lib.hid HD.2
      have HT := trim_at g a.length q wr hr.u (by omega) (by omega)
      have hU := u_trim hr.u
      rw [hwq] at hU
      rw [hql, hwq] at HT
      generalize hWW : wl (nv a / d) = W at *
      have HWW := Lib.hid hWW
      clear hWW
      clear HD hwq HI
      go_wp2_with (go_at_call 150; refine HT.mono ?_; rintro e w' ⟨rfl, rfl⟩; refine Hid.out ?_)
      refine Lib.hid ?_
      go_wp2_with fail
      go_ret2
      exact ⟨g, by rw [← HR.out, HWW.out]; rfl, hgB, by rw [HWW.out]; exact hU, hbw⟩
    · obtain ⟨m, rfl⟩ : ∃ m, k = m + 1 := ⟨k - 1, by omega⟩
      have ca' : wr.cell? ⟨ba, oa + m, none⟩ = some (.int .u32 ((wd a m : Nat) : Int)) := by rw [World.cell?_of_block (w := w) (hbw.block _ la)]; exact HA.out m (by omega)
      have cq := hr.cell m (by omega)
      have fq := hr.fz m
      have xa := wd_lt wa m
      have HS := Lib.hid (HI.out.step wa hd2 (by omega))
      have hor := or_word rr (wd a m) (by omega) xa
      generalize wd a m = x at *
      have e1 : ((m + 1 : Nat) : Int) - 1 = (m : Int) := by omega
      simp only [e1]
      clear HI
      go_wp2_with fail
      have hq : (rr * 4294967296 + x) / d < 4294967296 := by
        rw [Nat.div_lt_iff_lt_mul (by omega)]
        have : (rr + 1) * 4294967296 ≤ d * 4294967296 := Nat.mul_le_mul (by omega) (Nat.le_refl _)
        rw [Nat.mul_comm 4294967296 d]; omega
      have e0 : (rr : Int) * 4294967296 + (x : Int) = ((rr * 4294967296 + x : Nat) : Int) := by rw [Int.natCast_add, Int.natCast_mul]; rfl
      have e3 : ((rr : Int) * 4294967296 + (x : Int)) / (d : Int) = (((rr * 4294967296 + x) / d : Nat) : Int) := by rw [e0, Int.natCast_ediv]
      have e4 : ((rr : Int) * 4294967296 + (x : Int)) % (d : Int) = (((rr * 4294967296 + x) % d : Nat) : Int) := by rw [e0, Int.natCast_emod]
      have e2 : ((rr : Int) * 4294967296 + (x : Int)) / (d : Int) % 4294967296 = (((rr * 4294967296 + x) / d : Nat) : Int) := by
        rw [e3]
        clear e0 e3 e4 HS
        generalize (rr * 4294967296 + x) / d = X at hq ⊢
        omega
      rw [e2, e4]
      exact ⟨⟨m, _, _, by omega, rfl, rfl, HS, Nat.mod_lt _ hd, by simpa using hql, hr.set m _, hbw.setCell (p := ⟨g, m, none⟩) hgB _⟩, by simp [intOf]⟩
end Go.Proofs.YthadeccnibnioaaGreatDoor

/- weirgatebig: a number out of a word. -/
namespace Go.Proofs.YthadeccnibnioaaGreatDoor
open Go.RowKit
set_option linter.unusedVariables false

theorem give_neg {w : World} {b : Nat} {neg0 : Bool} {v0 v : Value} {n : Nat} (hb : w.heap[b]? = some (.cells #[.bool neg0, v0] 86 (0, 0))) (hv0 : ∃ A n c, v0 = .slice A n c) (hv : Wv w v (wl n)) (hn : n ≠ 0) :
    Calls Tryz.prog 118 #[.pointer (some ⟨b, 0, none⟩), .bool true, v] w fun e w' => e = .returned (.pointer (some ⟨b, 0, none⟩)) ∧ IntV w' b true n ∧ Fr [b] w w' := by
  have hv' := hv
  have hl : (0 : Int) < ((wl n).length : Int) := by rw [wl_pos hn]; simp
  obtain ⟨A, cap, rfl, -, -⟩ := hv
  have c0 : w.cell? ⟨b, 0, none⟩ = some (.bool neg0) := by simp [World.cell?, hb]
  have c1 : w.cell? ⟨b, 1, none⟩ = some v0 := by simp [World.cell?, hb]
  have f0 : w.frozen? ⟨b, 0, none⟩ = false := by simp [World.frozen?, hb]
  have f1 : w.frozen? ⟨b, 1, none⟩ = false := by simp [World.frozen?, hb]
  have G : Fr [b] w ((w.setCell ⟨b, 1, none⟩ (.slice A (wl n).length cap)).setCell ⟨b, 0, none⟩ (.bool true)) := ((Fr.refl _ _).setCell (.inl (by simp)) _).setCell (.inl (by simp)) _
  have I : IntV ((w.setCell ⟨b, 1, none⟩ (.slice A (wl n).length cap)).setCell ⟨b, 0, none⟩ (.bool true)) b true n := by
    refine ⟨.slice A (wl n).length cap, ?_, hv'.fr G hb (two_no rfl hv0)⟩
    simp [World.setCell, Array.getElem?_modify, hb]
  generalize (wl n).length = k at *
  go_enter Tryz.func118, Tryz.ntmps118
  go_wp2
  go_ret
  rw [show decide (0 < k) = true from by simpa using hl]
  exact ⟨rfl, I, G⟩

set_option maxRecDepth 100000 in
theorem setint_any {w : World} {b : Nat} {neg0 : Bool} {v0 : Value} (hb : w.heap[b]? = some (.cells #[.bool neg0, v0] 86 (0, 0))) (hv0 : ∃ A n c, v0 = .slice A n c) (n : Int) (h0 : -9223372036854775808 ≤ n) (h1 : n ≤ 9223372036854775807) :
    Calls Tryz.prog 74 #[.pointer (some ⟨b, 0, none⟩), .int .i64 n] w fun e w' => e = .returned (.pointer (some ⟨b, 0, none⟩)) ∧ IntV w' b (decide (n < 0)) n.natAbs ∧ Fr [b] w w' := by
  have hbl : b < w.heap.size := some_lt hb
  by_cases hn : n < 0
  · have HW := words_any n.natAbs w (by omega)
    have e1 : ((n.natAbs : Nat) : Int) = -n := by omega
    rw [e1] at HW
    have HG := Lib.hid (fun (u : World) (v : Value) (hu : u.heap[b]? = some (.cells #[.bool neg0, v0] 86 (0, 0))) (hv : Wv u v (wl n.natAbs)) => give_neg hu hv0 hv (by omega))
    have hu1 : IntKind.u64.wrap n = n + 18446744073709551616 := by rw [IntKind.wrap_u64]; omega
    have hu2 : IntKind.u64.wrap (-(n + 18446744073709551616)) = -n := by rw [IntKind.wrap_u64]; omega
    have hd : decide (n < 0) = true := by simpa using hn
    rw [hd]
    generalize n.natAbs = N at *
    clear e1 hd
    go_enter Tryz.func74, Tryz.ntmps74
    go_wp2_with (go_at_call 119; refine HW.mono ?_; rintro e u1 ⟨v, rfl, hv, b1⟩; refine Hid.out ?_)
    refine Lib.hid ?_
    have HGG := HG.out u1 v (by rw [b1.block b hbl]; exact hb) hv
    go_wp2_with (go_at_call 118; refine HGG.mono ?_; rintro e u2 ⟨rfl, hI, f2⟩; refine Hid.out ?_)
    refine Lib.hid ?_
    go_wp2_with fail
    go_ret
    exact ⟨rfl, hI, (Fr.below b1).trans f2⟩
  · have HW := words_any n.toNat w (by omega)
    have e1 : ((n.toNat : Nat) : Int) = n := by omega
    have e2 : n.natAbs = n.toNat := by omega
    rw [e1] at HW
    rw [e2]
    have HG := Lib.hid (fun (u : World) (v : Value) (hu : u.heap[b]? = some (.cells #[.bool neg0, v0] 86 (0, 0))) (hv : Wv u v (wl n.toNat)) => give_any hu hv0 hv)
    have hu1 : IntKind.u64.wrap n = n := by rw [IntKind.wrap_u64]; omega
    have hd : decide (n < 0) = false := by simpa using hn
    rw [hd]
    generalize n.toNat = N at *
    clear e1 e2 hd
    go_enter Tryz.func74, Tryz.ntmps74
    go_wp2_with (go_at_call 119; refine HW.mono ?_; rintro e u1 ⟨v, rfl, hv, b1⟩; refine Hid.out ?_)
    refine Lib.hid ?_
    have HGG := HG.out u1 v (by rw [b1.block b hbl]; exact hb) hv
    go_wp2_with (go_at_call 118; refine HGG.mono ?_; rintro e u2 ⟨rfl, hI, f2⟩; refine Hid.out ?_)
    refine Lib.hid ?_
    go_wp2_with fail
    go_ret
    exact ⟨rfl, hI, (Fr.below b1).trans f2⟩

set_option maxRecDepth 100000 in
theorem newint_any (w : World) (n : Int) (h0 : -9223372036854775808 ≤ n) (h1 : n ≤ 9223372036854775807) :
    Calls Tryz.prog 38 #[.int .i64 n] w fun e w' => e = .returned (.pointer (some ⟨w.heap.size, 0, none⟩)) ∧ IntV w' w.heap.size (decide (n < 0)) n.natAbs ∧ Below w.heap.size w w' := by
  have hb : (w.alloc (.cells #[.bool false, .slice none 0 0] 86)).heap[w.heap.size]? = some (.cells #[.bool false, .slice none 0 0] 86 (0, 0)) := by rw [heap_alloc_new]
  have H := setint_any hb ⟨none, 0, 0, rfl⟩ n h0 h1
  have B1 : Below w.heap.size w (w.alloc (.cells #[.bool false, .slice none 0 0] 86)) := (Below.refl _ _).alloc (Nat.le_refl _) _
  go_enter Tryz.func38, Tryz.ntmps38
  go_wp2_with (go_at_call 74; refine H.mono ?_; rintro e u2 ⟨rfl, hI, f2⟩; refine Hid.out ?_)
  refine Lib.hid ?_
  go_wp2_with fail
  go_ret
  exact ⟨rfl, hI, B1.trans (f2.toBelow (by simp) (by simp))⟩
end Go.Proofs.YthadeccnibnioaaGreatDoor

/- weirgatebig: a number's digits. -/
namespace Go.Proofs.YthadeccnibnioaaGreatDoor
open Go.RowKit
open Go.Lib (decDigits itoa)
set_option linter.unusedVariables false

/-- Digits, the low ones first. -/
def rdig (m : Nat) : List UInt8 := if h : m = 0 then [] else UInt8.ofNat (48 + m % 10) :: rdig (m / 10)
termination_by m
decreasing_by omega
theorem rdig_zero : rdig 0 = [] := by rw [rdig, dif_pos rfl]
theorem rdig_pos {m : Nat} (h : m ≠ 0) : rdig m = UInt8.ofNat (48 + m % 10) :: rdig (m / 10) := by rw [rdig, dif_neg h]
theorem rdig_dec : ∀ (n m : Nat), m ≤ n → m ≠ 0 → (rdig m).reverse = decDigits m
  | 0, m, h, h0 => absurd (by omega) h0
  | n + 1, m, h, h0 => by
    rw [rdig_pos h0, decDigits, List.reverse_cons]
    by_cases h1 : m < 10
    · rw [dif_pos h1, show m / 10 = 0 by omega, rdig_zero, Nat.mod_eq_of_lt h1]; rfl
    · rw [dif_neg h1, rdig_dec n (m / 10) (by omega) (by omega)]
theorem rdig_len : ∀ (k m : Nat), m < 10 ^ k → (rdig m).length ≤ k
  | 0, m, h => by
    have : m = 0 := by simpa using h
    subst this; rw [rdig_zero]; simp
  | k + 1, m, h => by
    by_cases h0 : m = 0
    · subst h0; rw [rdig_zero]; simp
    · rw [rdig_pos h0, List.length_cons]
      have := rdig_len k (m / 10) (by rw [Nat.div_lt_iff_lt_mul (by omega), ← Nat.pow_succ]; exact h)
      omega
theorem infoB8 : (Tryz.prog.info? 5).map (fun i => (i.zero, i.size, i.bytes)) = some (some (.int .u8 0), 1, 1) := by kernel_rfl
def bys (l : List UInt8) : List Value := l.map fun c => .int .u8 c.toNat
abbrev OwB (B : Nat) (w : World) (v : Value) (l : List UInt8) : Prop := w.ownsRow B 5 1 v l.length (bys l)
theorem owb_snoc {B : Nat} {w : World} {v : Value} {l : List UInt8} {c : UInt8} (h : w.ownsRow B 5 1 v (l.length + 1) (bys l ++ [.int .u8 c.toNat])) : OwB B w v (l ++ [c]) := by
  have e1 : (l ++ [c]).length = l.length + 1 := by simp
  have e2 : bys (l ++ [c]) = bys l ++ [.int .u8 c.toNat] := by simp [bys]
  unfold OwB; rw [e1, e2]; exact h
theorem owb_keep {w w' : World} {B n e m : Nat} {v : Value} {xs : List Value} (h : w.ownsRow B e m v n xs) (hb : Below w.heap.size w w') : w'.ownsRow B e m v n xs := by
  refine ⟨h.1, ?_⟩
  rcases h.2 with h0 | ⟨g, cap, cur, h0, h1, h2, h3⟩
  · exact .inl h0
  · exact .inr ⟨g, cap, cur, h0, h1, by rw [hb.block g (some_lt h2)]; exact h2, h3⟩
theorem owb_slice {w : World} {B n e m : Nat} {v : Value} {xs : List Value} (h : w.ownsRow B e m v n xs) : ∃ A cap, v = .slice A n cap := by
  rcases h.2 with ⟨h0, h1⟩ | ⟨g, cap, cur, h0, -⟩
  · exact ⟨none, 0, by rw [h0, h1]⟩
  · exact ⟨_, _, h0⟩
theorem U32s.blk {w w' : World} {g : Nat} {l : List Nat} (h : U32s w (some ⟨g, 0, none⟩) l) (he : g < w.heap.size → w'.heap[g]? = w.heap[g]?) : U32s w' (some ⟨g, 0, none⟩) l := by
  rcases h with h | ⟨b, o, e, h⟩
  · exact .inl h
  · by_cases h0 : l = []
    · exact .inl h0
    have hl : 0 < l.length := List.length_pos_iff.2 h0
    injection e with e
    injection e with e1 e2
    subst e1 e2
    have hlt := World.block_lt_of_cell? _ _ (h 0 hl)
    refine .inr ⟨g, 0, rfl, fun j hj => ?_⟩
    rw [World.cell?_of_block (w := w) (he hlt)]; exact h j hj
theorem dig_byte (r : Nat) (h : r < 10) : (48 + (r : Int)) = (((UInt8.ofNat (48 + r)).toNat : Nat) : Int) := by
  rw [UInt8.toNat_ofNat']; omega
/-- twin: the words, once more. -/
theorem twin_any {w : World} {A : Option Addr} {l : List Nat} {c : Nat} (h : U32s w A l) (hl : 0 < l.length) (hl2 : l.length ≤ 1000) :
    Calls Tryz.prog 146 #[.slice A l.length c] w fun e w' => ∃ A' c', e = .returned (.slice A' l.length c') ∧ U32s w' A' l ∧ Below w.heap.size w w' := by
  obtain ⟨i0, hi, hz0, hz1, hz2⟩ := info_parts Tryz.infoU
  obtain ⟨b, o, rfl, hat⟩ := h.at hl
  have hcs : ∀ (j : Nat) (u : Value), (l.map fun (x : Nat) => Value.int .u32 (x : Int))[j]? = some u → w.cell? ((⟨b, o, none⟩ : Addr).add j) = some u := by
    intro j u hj
    have hj' : j < l.length := by have := (List.getElem?_eq_some_iff.1 hj).1; simpa using this
    have h2 := hat j hj'
    rw [show (⟨b, o, none⟩ : Addr).add j = ⟨b, o + j, none⟩ from by unfold Addr.add; split <;> simp_all, h2]
    rw [List.getElem?_map, List.getElem?_eq_getElem hj'] at hj
    rw [wd_get hj']; simpa using hj
  go_enter Tryz.func146, Tryz.ntmps146
  go_wp2_with (at_builtin; refine wpList_append_own _ rfl _ _ 84 rfl w.heap.size 194 i0 (.int .u32 0) 1 4 Tryz.underlying84 hi hz0 hz1 hz2 rfl (by decide) (.slice none 0 0) 0 [] rfl (World.ownsRow_nil _ _ _ _) ⟨b, o, none⟩ l.length c (l.map fun (x : Nat) => Value.int .u32 (x : Int)) rfl (by simp) hcs (by intro u hu; obtain ⟨x, -, rfl⟩ := List.mem_map.1 hu; rfl) (by unfold maxLen; omega) (by omega) (Nat.le_refl _) ?_)
  intro v1 w1 o1 g1 _
  have B1 : Below w.heap.size w w1 := (Below.refl _ _).grown g1 (Nat.le_refl _) (fun j hj => by simp [Value.ownBlock] at hj)
  have o1' := o1
  rcases o1.2 with ⟨-, h0⟩ | ⟨g, cap, cur, h0, -⟩
  · omega
  subst h0
  go_wp2_with fail
  go_ret
  refine ⟨some ⟨g, 0, none⟩, cap, rfl, .inr ⟨g, 0, rfl, fun j hj => ?_⟩, B1⟩
  rw [Nat.zero_add, o1'.cellAt j (by omega), List.getElem?_map, List.getElem?_eq_getElem hj]
  rfl
/-- A list turned round as far as i. -/
def Rv (L R : List UInt8) (i : Nat) : Prop := R.length = L.length ∧ ∀ t, t < L.length → R.getD t 0 = if t < i ∨ L.length < t + i + 1 then L.getD (L.length - 1 - t) 0 else L.getD t 0
theorem Rv.start (L : List UInt8) : Rv L L 0 := ⟨rfl, fun t ht => by rw [if_neg (by omega)]⟩
theorem getD_set {R : List UInt8} {a t : Nat} {x : UInt8} (h : t < R.length) : (R.set a x).getD t 0 = if a = t then x else R.getD t 0 := by
  rw [List.getD_eq_getElem?_getD, List.getD_eq_getElem?_getD, List.getElem?_set]
  by_cases e : a = t
  · subst e; simp [h]
  · simp [e]
theorem Rv.step {L R : List UInt8} {i : Nat} (h : Rv L R i) (hi : 2 * i + 1 < L.length) : Rv L ((R.set i (R.getD (L.length - 1 - i) 0)).set (L.length - 1 - i) (R.getD i 0)) (i + 1) := by
  obtain ⟨h1, h2⟩ := h
  refine ⟨by simpa using h1, fun t ht => ?_⟩
  rw [getD_set (by simp; omega), getD_set (by omega)]
  have a1 := h2 i (by omega)
  have a2 := h2 (L.length - 1 - i) (by omega)
  rw [if_neg (by omega)] at a1 a2
  by_cases e1 : L.length - 1 - i = t
  · rw [if_pos e1, if_pos (by omega), a1, show L.length - 1 - t = i by omega]
  · rw [if_neg e1]
    by_cases e2 : i = t
    · rw [if_pos e2, if_pos (by omega), a2, show L.length - 1 - i = L.length - 1 - t by omega]
    · rw [if_neg e2, h2 t ht]
      by_cases e3 : t < i ∨ L.length < t + i + 1
      · rw [if_pos e3, if_pos (by omega)]
      · rw [if_neg e3, if_neg (by omega)]
theorem Rv.done {L R : List UInt8} {i : Nat} (h : Rv L R i) (hi : ¬ 2 * i + 1 < L.length) (hj : 2 * i ≤ L.length) : R = L.reverse := by
  obtain ⟨h1, h2⟩ := h
  refine List.ext_getElem (by simp [h1]) fun t a b => ?_
  have h3 := h2 t (by omega)
  rw [List.getElem_reverse]
  rw [List.getD_eq_getElem?_getD, List.getElem?_eq_getElem a] at h3
  simp only [Option.getD_some] at h3
  rw [h3]
  by_cases e : t < i ∨ L.length < t + i + 1
  · rw [if_pos e, List.getD_eq_getElem?_getD, List.getElem?_eq_getElem (by omega)]; rfl
  · rw [if_neg e, List.getD_eq_getElem?_getD, List.getElem?_eq_getElem (by omega)]
    simp only [Option.getD_some]
    congr 1
    omega
theorem bys_at {R : List UInt8} {t : Nat} (h : t < R.length) : (bys R)[t]? = some (.int .u8 ((R.getD t 0).toNat : Int)) := by
  unfold bys
  rw [List.getElem?_map, List.getElem?_eq_getElem h, List.getD_eq_getElem?_getD, List.getElem?_eq_getElem h]; rfl
theorem bys_set (R : List UInt8) (t : Nat) (x : UInt8) : (bys R).set t (.int .u8 (x.toNat : Int)) = bys (R.set t x) := by
  unfold bys; rw [List.map_set]
theorem bytes_conv {w : World} {g B n c : Nat} {R : List UInt8} (h : w.ownsRow B 5 1 (.slice (some ⟨g, 0, none⟩) n c) n (bys R)) (hn : n = R.length) : (convert 82 9 (.slice (some ⟨g, 0, none⟩) n c)).run Tryz.prog w = .ok (.string ⟨R.toArray⟩) w := by
  subst hn
  exact run_convert_bytes_back (P := Tryz.prog) w 82 9 5 ⟨g, 0, none⟩ c R Tryz.underlying82 Tryz.underlying5 Tryz.underlying9 (fun j hj => by
    rw [show (⟨g, 0, none⟩ : Addr).add j = ⟨g, j, none⟩ from by simp [Addr.add]; intro h; omega, h.cellAt j (by omega), bys_at hj, List.getD_eq_getElem?_getD, List.getElem?_eq_getElem hj]; rfl)
set_option maxRecDepth 100000 in
set_option maxHeartbeats 1000000 in
theorem text_any {w : World} {b : Nat} {neg : Bool} {m : Nat} (hI : IntV w b neg m) (hm : m ≠ 0) (hm2 : m < 18446744073709551616) :
    Calls Tryz.prog 116 #[.pointer (some ⟨b, 0, none⟩), .int .i64 10] w fun e w' => e = .returned (.string ⟨((if neg = true then [45] else []) ++ decDigits m).toArray⟩) ∧ Below w.heap.size w w' := by
  obtain ⟨i0, hi, hz0, hz1, hz2⟩ := info_parts infoB8
  obtain ⟨v, hb, A, cap, rfl, hcap, hU⟩ := hI
  have hbl : b < w.heap.size := some_lt hb
  have hwl : ∀ k, k ≤ m → (wl k).length ≤ 2 := fun k hk => wl_len_le k 2 (by omega)
  have hwp : ∀ k, k ≠ 0 → 0 < (wl k).length := fun k hk => by rw [wl_pos hk]; simp
  have hlen := rdig_len 20 m (by omega)
  have c0 : w.cell? ⟨b, 0, none⟩ = some (.bool neg) := by simp [World.cell?, hb]
  have c1 : w.cell? ⟨b, 1, none⟩ = some (.slice A (wl m).length cap) := by simp [World.cell?, hb]
  have HTw := twin_any (c := cap) hU (hwp m hm) (by have := hwl m (Nat.le_refl _); omega)
  have hp := hwp m hm
  have hpI : (0 : Int) < ((wl m).length : Int) := by omega
  have hp0 : (((wl m).length : Int) == 0) = false := beq_eq_false_iff_ne.2 (by omega)
  have HL := Lib.hid hwl
  have HPo := Lib.hid hwp
  clear hwl hwp hb hU
  go_enter Tryz.func116, Tryz.ntmps116
  go_wp2_with (go_at_call 146; refine HTw.mono ?_; rintro e u1 ⟨A1, cp1, rfl, hU1, b1⟩; refine Hid.out ?_)
  refine Lib.hid ?_
  have hc0 := Lib.hid (fun (u : World) (hu : Below w.heap.size w u) => (hu.cell (p := ⟨b, 0, none⟩) hbl).trans c0)
  clear HTw c0 c1 hpI hp0 hp
  go_wp2_with fail
  go_loopw [5, 6] (fun vb va wr => ∃ (k : Nat) (l : List UInt8) (A : Option Addr) (c : Nat) (pb : Option Addr) (cb : Nat), vb = .slice pb l.length cb ∧ va = .slice A (wl k).length c ∧ U32s wr A (wl k) ∧ OwB w.heap.size wr (.slice pb l.length cb) l ∧ Hid (l ++ rdig k = rdig m) ∧ k ≤ m ∧ l.length + (rdig k).length ≤ 20 ∧ Below w.heap.size w wr) (fun vb _ _ => match vb with | .slice _ n _ => 20 - n | _ => 0)
  case atStart => exact ⟨m, [], A1, cp1, none, 0, rfl, rfl, hU1, World.ownsRow_nil _ _ _ _, Lib.hid rfl, Nat.le_refl _, by simpa using hlen, b1⟩
  case round =>
    obtain ⟨k, l, A2, cp2, pb, cb, rfl, rfl, hU2, own, HX, hkm, hl20, hbw⟩ := hrel
    by_cases hk : k = 0
    · subst hk
      have hl0 : l = rdig m := by have := HX.out; rw [rdig_zero, List.append_nil] at this; exact this
      have hc := hc0.out wr hbw
      have hrp : 1 ≤ l.length := by rw [hl0, rdig_pos hm]; simp
      have hw0 : ((wl 0).length : Int) = 0 := by rw [wl_zero]; rfl
      have hll : l.length ≤ 20 := by omega
      cases neg with
      | false =>
        have HAns : Hid (l.reverse = decDigits m) := Lib.hid (by rw [hl0, rdig_dec m m (Nat.le_refl _) hm])
        obtain ⟨g, cg, e⟩ : ∃ g cg, Value.slice pb l.length cb = .slice (some ⟨g, 0, none⟩) l.length cg := by
          rcases own.2 with ⟨-, h0⟩ | ⟨g, cg, cur, h0, -⟩
          · omega
          · exact ⟨g, cg, h0⟩
        injection e with e1 _ e2
        subst e1 e2
        obtain ⟨L, hL⟩ : ∃ L, L = l := ⟨_, rfl⟩
        subst hL
        have ownL := own
        have BL := hbw
        clear hl0 HX own hbw hU2 hl20
        generalize hw1 : (wl 0).length = w0 at *
        clear hw1
        go_wp2_with fail
        go_loopw [8, 9] (fun iv jv wr => ∃ (i : Nat) (R : List UInt8), 2 * i ≤ L.length ∧ iv = .int .i64 i ∧ jv = .int .i64 ((L.length : Int) - 1 - i) ∧ Hid (Rv L R i) ∧ R.length = L.length ∧ wr.ownsRow w.heap.size 5 1 (.slice (some ⟨g, 0, none⟩) L.length cb) L.length (bys R) ∧ Below w.heap.size w wr) (fun iv _ _ => L.length - (intOf iv).toNat)
        case atStart => exact ⟨0, L, by omega, rfl, by go_num, Lib.hid (Rv.start L), rfl, ownL, BL⟩
        case round =>
          obtain ⟨i, R, hi2, rfl, rfl, HV, hRl, oR, hbR⟩ := hrel
          clear ownL BL
          by_cases hlt : 2 * i + 1 < L.length
          · obtain ⟨j, hj⟩ : ∃ j, j = L.length - 1 - i := ⟨_, rfl⟩
            have ej : (L.length : Int) - 1 - (i : Int) = (j : Int) := by omega
            have hijI : (i : Int) < (j : Int) := by omega
            have hjL : (j : Int) < (L.length : Int) := by omega
            have hiL : (i : Int) < (L.length : Int) := by omega
            have hne1 : ¬ i = j := by omega
            have hne2 : ¬ j = i := by omega
            have HV2 := Lib.hid (HV.out.step hlt)
            rw [← hj] at HV2
            have ci := (oR.cellAt i (by omega)).trans (bys_at (R := R) (t := i) (by omega))
            have cj := (oR.cellAt j (by omega)).trans (bys_at (R := R) (t := j) (by omega))
            have f0 := oR.frozenAt
            have hgw := (oR.lt g rfl).1
            obtain ⟨oR1, -⟩ := oR.stored i (.int .u8 ((R.getD j 0).toNat : Int))
            rw [bys_set] at oR1
            have f1 := oR1.frozenAt
            obtain ⟨oR2, -⟩ := oR1.stored j (.int .u8 ((R.getD i 0).toNat : Int))
            rw [bys_set] at oR2
            have cj1 := (oR1.cellAt j (by omega)).trans (bys_at (R := R.set i (R.getD j 0)) (t := j) (by simp; omega))
            have B2 : Below w.heap.size w ((wr.setCell ⟨g, i, none⟩ (.int .u8 ((R.getD j 0).toNat : Int))).setCell ⟨g, j, none⟩ (.int .u8 ((R.getD i 0).toNat : Int))) := (hbR.setCell (p := ⟨g, i, none⟩) hgw _).setCell (p := ⟨g, j, none⟩) hgw _
            simp only [ej]
            have HJ := Lib.hid hj
            have HEJ := Lib.hid ej
            clear HV hj ej
            generalize hx : (R.getD i 0) = x at *
            generalize hy : (R.getD j 0) = y at *
            clear hx hy
            go_wp2_with fail
            go_roundw
            case rel => exact ⟨i + 1, _, by omega, by go_num, by have := HEJ.out; simp; omega, HV2, by simpa using hRl, oR2, B2⟩
            case measure => simp [intOf]; omega
          · have hijI : ¬ (i : Int) < (L.length : Int) - 1 - i := by omega
            have hcv := bytes_conv oR hRl.symm
            have HE := Lib.hid (HV.out.done hlt hi2)
            go_wp2_with fail
            go_ret
            have hE := HE.out.trans HAns.out
            subst hE
            exact ⟨rfl, hbR⟩
      | true =>
        have HAns0 : Hid ((l ++ [45]).reverse = 45 :: decDigits m) := Lib.hid (by rw [List.reverse_append, hl0, rdig_dec m m (Nat.le_refl _) hm]; rfl)
        have hs2 : w.heap.size ≤ wr.heap.size := hbw.size
        clear hl0 HX hU2 hl20
        generalize hw1 : (wl 0).length = w0 at *
        clear hw1
        go_wp2_with (at_builtin; refine wpList_append_own _ rfl _ _ 82 rfl w.heap.size 5 i0 (.int .u8 0) 1 1 Tryz.underlying82 hi hz0 hz1 hz2 rfl (by decide) _ _ _ rfl (own.alloc _) ⟨wr.heap.size, 0, none⟩ 1 1 [.int .u8 45] rfl rfl (by intro j u' hj; match j, hj with | 0, hj => simp at hj; subst hj; simp [Addr.add]) (by intro u' hu'; simp at hu'; subst hu'; rfl) (by unfold maxLen; omega) (by omega) (by simp; omega) ?_)
        intro v3 u3 o3 g3 _
        refine Hid.out ?_
        refine Lib.hid ?_
        have own3 : OwB w.heap.size u3 v3 (l ++ [45]) := owb_snoc (c := 45) o3
        have BL : Below w.heap.size w u3 := (hbw.alloc hs2 _).grown g3 (by simp; omega) (fun j hj => by have := (own.lt j hj).1; omega)
        obtain ⟨L, hL⟩ : ∃ L, L = l ++ [45] := ⟨_, rfl⟩
        rw [← hL] at own3
        have HAns : Hid (L.reverse = 45 :: decDigits m) := Lib.hid (by rw [hL]; exact HAns0.out)
        have hL1 : L.length = l.length + 1 := by rw [hL]; simp
        have hLa : 1 ≤ L.length := by omega
        have hLb : L.length ≤ 21 := by omega
        obtain ⟨g, cg, rfl⟩ : ∃ g cg, v3 = .slice (some ⟨g, 0, none⟩) L.length cg := by
          rcases own3.2 with ⟨-, h0⟩ | ⟨g, cg, cur, h0, -⟩
          · omega
          · exact ⟨g, cg, h0⟩
        have ownL := own3
        clear o3 g3 own own3 hL hL1 HAns0 hbw hs2
        go_wp2_with fail
        go_loopw [8, 9] (fun iv jv wr => ∃ (i : Nat) (R : List UInt8), 2 * i ≤ L.length ∧ iv = .int .i64 i ∧ jv = .int .i64 ((L.length : Int) - 1 - i) ∧ Hid (Rv L R i) ∧ R.length = L.length ∧ wr.ownsRow w.heap.size 5 1 (.slice (some ⟨g, 0, none⟩) L.length cg) L.length (bys R) ∧ Below w.heap.size w wr) (fun iv _ _ => L.length - (intOf iv).toNat)
        case atStart => exact ⟨0, L, by omega, rfl, by go_num, Lib.hid (Rv.start L), rfl, ownL, BL⟩
        case round =>
          obtain ⟨i, R, hi2, rfl, rfl, HV, hRl, oR, hbR⟩ := hrel
          clear ownL BL
          by_cases hlt : 2 * i + 1 < L.length
          · obtain ⟨j, hj⟩ : ∃ j, j = L.length - 1 - i := ⟨_, rfl⟩
            have ej : (L.length : Int) - 1 - (i : Int) = (j : Int) := by omega
            have hijI : (i : Int) < (j : Int) := by omega
            have hjL : (j : Int) < (L.length : Int) := by omega
            have hiL : (i : Int) < (L.length : Int) := by omega
            have hne1 : ¬ i = j := by omega
            have hne2 : ¬ j = i := by omega
            have HV2 := Lib.hid (HV.out.step hlt)
            rw [← hj] at HV2
            have ci := (oR.cellAt i (by omega)).trans (bys_at (R := R) (t := i) (by omega))
            have cj := (oR.cellAt j (by omega)).trans (bys_at (R := R) (t := j) (by omega))
            have f0 := oR.frozenAt
            have hgw := (oR.lt g rfl).1
            obtain ⟨oR1, -⟩ := oR.stored i (.int .u8 ((R.getD j 0).toNat : Int))
            rw [bys_set] at oR1
            have f1 := oR1.frozenAt
            obtain ⟨oR2, -⟩ := oR1.stored j (.int .u8 ((R.getD i 0).toNat : Int))
            rw [bys_set] at oR2
            have cj1 := (oR1.cellAt j (by omega)).trans (bys_at (R := R.set i (R.getD j 0)) (t := j) (by simp; omega))
            have B2 : Below w.heap.size w ((wr.setCell ⟨g, i, none⟩ (.int .u8 ((R.getD j 0).toNat : Int))).setCell ⟨g, j, none⟩ (.int .u8 ((R.getD i 0).toNat : Int))) := (hbR.setCell (p := ⟨g, i, none⟩) hgw _).setCell (p := ⟨g, j, none⟩) hgw _
            simp only [ej]
            have HJ := Lib.hid hj
            have HEJ := Lib.hid ej
            clear HV hj ej
            generalize hx : (R.getD i 0) = x at *
            generalize hy : (R.getD j 0) = y at *
            clear hx hy
            go_wp2_with fail
            go_roundw
            case rel => exact ⟨i + 1, _, by omega, by go_num, by have := HEJ.out; simp; omega, HV2, by simpa using hRl, oR2, B2⟩
            case measure => simp [intOf]; omega
          · have hijI : ¬ (i : Int) < (L.length : Int) - 1 - i := by omega
            have hcv := bytes_conv oR hRl.symm
            have HE := Lib.hid (HV.out.done hlt hi2)
            go_wp2_with fail
            go_ret
            have hE := HE.out.trans HAns.out
            subst hE
            exact ⟨rfl, hbR⟩
    · have hp := HPo.out k hk
      have hpI : (0 : Int) < ((wl k).length : Int) := by omega
      have h2 := HL.out k hkm
      have HSm := small_any (ca := cp2) (d := 10) hU2 (wds_wl k) hp (by omega) (by omega) (by omega)
      rw [nv_wl] at HSm
      have hr : k % 10 < 10 := Nat.mod_lt _ (by omega)
      have HX2 : Hid ((l ++ [UInt8.ofNat (48 + k % 10)]) ++ rdig (k / 10) = rdig m) := Lib.hid (by rw [← HX.out, rdig_pos hk]; simp)
      have hl2 : l.length + 1 + (rdig (k / 10)).length ≤ 20 := by rw [rdig_pos hk, List.length_cons] at hl20; omega
      have hk2 : k / 10 ≤ m := by omega
      generalize k % 10 = r at *
      generalize k / 10 = k2 at *
      have hrI : (r : Int) < 10 := by omega
      generalize hW1 : (wl k).length = W1 at *
      clear hW1 HX hl20
      go_wp2_with (go_at_call 147; refine HSm.mono ?_; rintro e u2 ⟨g2, rfl, hg2, hU3, b2⟩; refine Hid.out ?_)
      refine Lib.hid ?_
      have own2 := owb_keep own b2
      have B2 := hbw.trans (b2.mono hbw.size)
      have hs2 : w.heap.size ≤ u2.heap.size := B2.size
      have hcr := Lib.hid (dig_byte r hr)
      have hne : ∀ j, (Value.slice pb l.length cb).ownBlock = some j → j ≠ g2 := fun j hj => by have := (own.lt j hj).2; omega
      clear HSm own b2
      go_wp2_with (at_builtin; refine wpList_append_own _ rfl _ _ 82 rfl w.heap.size 5 i0 (.int .u8 0) 1 1 Tryz.underlying82 hi hz0 hz1 hz2 rfl (by decide) _ _ _ rfl (own2.alloc _) ⟨u2.heap.size, 0, none⟩ 1 1 [.int .u8 (48 + (r : Int))] rfl rfl (by intro j u' hj; match j, hj with | 0, hj => simp at hj; subst hj; simp [Addr.add]) (by intro u' hu'; simp at hu'; subst hu'; rfl) (by unfold maxLen; omega) (by omega) (by simp; omega) ?_)
      intro v3 u3 o3 g3 _
      refine Hid.out ?_
      refine Lib.hid ?_
      rw [hcr.out] at o3
      have own3 := owb_snoc o3
      have hU4 : U32s u3 (some ⟨g2, 0, none⟩) (wl k2) := hU3.blk (fun hlt => by
        rw [g3.block g2 (by simp; omega) (fun e => hne g2 e.symm rfl), Below.heap_alloc _ _ _ hlt])
      have B3 : Below w.heap.size w u3 := (B2.alloc hs2 _).grown g3 (by simp; omega) (fun j hj => by have := (own2.lt j hj).1; omega)
      obtain ⟨p3, c3, rfl⟩ := owb_slice own3
      have hl3 : (l ++ [UInt8.ofNat (48 + r)]).length = l.length + 1 := by simp
      generalize l ++ [UInt8.ofNat (48 + r)] = l3 at *
      clear o3 g3 own2 hU3 B2 hne hcr
      go_wp2_with fail
      go_roundw
      case rel => exact ⟨k2, l3, _, _, p3, c3, rfl, rfl, hU4, own3, HX2, hk2, by omega, B3⟩
      case measure => simp; omega
end Go.Proofs.YthadeccnibnioaaGreatDoor
