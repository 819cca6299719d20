/- weirgatebig: quotients by one word. -/
import Derived.Test.YtoooninneccfcaaGreatDoorBd
import Derived.Laws.Bits64b
namespace Go.Proofs.YtoooninneccfcaaGreatDoor
open Go.RowKit
set_option linter.unusedVariables false

theorem or_word (r x : Nat) (hr : r < 4294967296) (hx : x < 4294967296) : bits .or .u64 ((r : Int) * 4294967296) (x : Int) = ((r * 4294967296 + x : Nat) : Int) := by
  have h := bits_or_u64_nat (r * 4294967296) x (by omega) (by omega)
  have e : r * 4294967296 ||| x = r * 4294967296 + x := by
    have := Nat.two_pow_add_eq_or_of_lt (i := 32) (b := x) (by omega) r
    rw [show (2 : Nat) ^ 32 = 4294967296 from by decide, Nat.mul_comm] at this
    exact this.symm
  rw [e] at h
  rw [← h]; simp

set_option maxHeartbeats 1000000 in
theorem trim_at (g cap : Nat) (l : List Nat) (w : World) (h : U32s w (some ⟨g, 0, none⟩) l) (hl : l.length ≤ 1000000) (hc : l.length ≤ cap) :
    Calls Tryz.prog 150 #[.slice (some ⟨g, 0, none⟩) l.length cap] w fun e w' => e = .returned (.slice (some ⟨g, 0, none⟩) (trimL l).length cap) ∧ w = w' := by
  go_enter Tryz.func150, Tryz.ntmps150
  go_wp2
  go_loopw [3] (fun t wr => ∃ k : Nat, k ≤ l.length ∧ t = .int .i64 k ∧ Hid (trimL (l.take k) = trimL l) ∧ w = wr) (fun t _ => (intOf t).toNat)
  case atStart => exact ⟨l.length, Nat.le_refl _, rfl, by show _ = _; rw [List.take_length], rfl⟩
  case round =>
    obtain ⟨k, hk, rfl, HK, rfl⟩ := hrel
    obtain ⟨t1, t2, t3⟩ := trim_take l k HK.out hk
    have fin : ∀ n, trimL l = l.take n → n ≤ l.length → n = (trimL l).length := fun n hn hle => by
      rw [hn]; simp; omega
    rcases Nat.eq_zero_or_pos k with rfl | hp
    · have W := Lib.hid (fin 0 (by rw [t1 rfl]; simp) (by omega))
      clear t1 t2 t3 HK fin
      go_wp2
      go_ret
      exact ⟨by rw [← W.out]; rfl, rfl⟩
    · obtain ⟨b, o, e, hat⟩ := h.at (by omega)
      simp at e
      obtain ⟨rfl, rfl⟩ := e
      obtain ⟨m, rfl⟩ : ∃ m, k = m + 1 := ⟨k - 1, by omega⟩
      have hcell := hat m (by omega)
      rw [Nat.zero_add] at hcell
      rw [Nat.add_sub_cancel] at t2 t3
      by_cases hz : wd l m = 0
      · have HZ := Lib.hid (t2 hp hz)
        rw [hz] at hcell
        clear t1 t2 t3 HK fin hz hat
        go_wp2
        exact ⟨⟨m, by omega, by go_num, HZ.out, by trivial⟩, by simp [intOf]⟩
      · have W := Lib.hid (fin (m + 1) (t3 hp hz) hk)
        have hz' : (((wd l m : Nat) : Int) == 0) = false := by simp; omega
        clear t1 t2 t3 HK fin hat
        go_wp2
        go_ret
        exact ⟨by rw [← W.out]; rfl, rfl⟩

theorem u_trim {w : World} {A : Option Addr} {l : List Nat} (h : U32s w A l) : U32s w A (trimL l) := by
  have : ∃ k, trimL l = l.take k := by
    clear h
    induction l with
    | nil => exact ⟨0, rfl⟩
    | cons a l ih =>
      obtain ⟨k, hk⟩ := ih
      unfold trimL
      split
      · exact ⟨0, by simp⟩
      · exact ⟨k + 1, by rw [List.take_succ_cons, hk]⟩
  obtain ⟨k, hk⟩ := this
  rw [hk]; exact h.take k

set_option maxRecDepth 100000 in
set_option maxHeartbeats 1000000 in
theorem small_any {w : World} {A : Option Addr} {a : List Nat} {ca d : Nat} (ha : U32s w A a) (wa : Wds a) (h1 : 0 < a.length) (hs1 : a.length ≤ 1000) (hd : 0 < d) (hd2 : d < 4294967296) :
    Calls Tryz.prog 147 #[.slice A a.length ca, .int .u32 d] w fun e w' => ∃ g, e = .returned (.tuple #[.slice (some ⟨g, 0, none⟩) (wl (nv a / d)).length a.length, .int .u32 ((nv a % d : Nat) : Int)]) ∧ w.heap.size ≤ g ∧ U32s w' (some ⟨g, 0, none⟩) (wl (nv a / d)) ∧ Below w.heap.size w w' := by
  have hmk : ∀ w : World, (Instr.makeSlice 83 (.int .i64 (a.length : Int)) (.int .i64 (a.length : Int))).run Tryz.prog w = .ok (.slice (some ⟨w.heap.size, 0, none⟩) a.length a.length) (w.alloc (.cells (madeCells #[.int .u32 0] a.length) 194)) :=
    fun w => run_make_row' (P := Tryz.prog) 83 194 (.int .u32 0) 4 Tryz.underlying83 Tryz.infoU rfl .i64 .i64 a.length (by omega) (by omega) w
  have hR : RowU (w.alloc (.cells (madeCells #[.int .u32 0] a.length) 194)) w.heap.size (List.replicate a.length 0) := RowU.made w _
  have hB : Below w.heap.size w (w.alloc (.cells (madeCells #[.int .u32 0] a.length) 194)) := (Below.refl _ _).alloc (Nat.le_refl _) _
  obtain ⟨ba, oa, rfl, cA⟩ := ha.at h1
  have la : ba < w.heap.size := World.block_lt_of_cell? _ _ (cA 0 h1)
  have HA := Lib.hid cA
  have hd0 : ¬ (d : Int) = 0 := by omega
  clear cA ha
  go_enter Tryz.func147, Tryz.ntmps147
  go_wp2_with fail
  generalize w.alloc (.cells (madeCells #[.int .u32 0] a.length) 194) = w1 at *
  obtain ⟨g, hg⟩ : ∃ g, g = w.heap.size := ⟨_, rfl⟩
  have hgB : w.heap.size ≤ g := by omega
  rw [← hg] at hR ⊢
  clear hg hmk
  go_loopw [7, 8] (fun r i wr => ∃ (k rr : Nat) (q : List Nat), k ≤ a.length ∧ i = .int .i64 ((k : Int) - 1) ∧ r = .int .u64 rr ∧ Hid (SmI a q d k rr) ∧ rr < d ∧ q.length = a.length ∧ RowU wr g q ∧ Below w.heap.size w wr) (fun _ i _ => (intOf i + 1).toNat)
  case atStart => exact ⟨a.length, 0, _, Nat.le_refl _, by go_num, rfl, Lib.hid (SmI.start a hd), hd, by simp, hR, hB⟩
  case round =>
    obtain ⟨k, rr, q, hk, rfl, rfl, HI, hrr, hql, hr, hbw⟩ := hrel
    clear hR hB
    by_cases hk0 : k = 0
    · subst hk0
      have HD := HI.out.done
      have hwq : trimL q = wl (nv a / d) := by rw [trim_wl q HI.out.wds, HD.1]
      have HR := Lib.hid HD.2
      have HT := trim_at g a.length q wr hr.u (by omega) (by omega)
      have hU := u_trim hr.u
      rw [hwq] at hU
      rw [hql, hwq] at HT
      generalize hWW : wl (nv a / d) = W at *
      have HWW := Lib.hid hWW
      clear hWW
      clear HD hwq HI
      go_wp2_with (go_at_call 150; refine HT.mono ?_; rintro e w' ⟨rfl, rfl⟩; refine Hid.out ?_)
      refine Lib.hid ?_
      go_wp2_with fail
      go_ret2
      exact ⟨g, by rw [← HR.out, HWW.out]; rfl, hgB, by rw [HWW.out]; exact hU, hbw⟩
    · obtain ⟨m, rfl⟩ : ∃ m, k = m + 1 := ⟨k - 1, by omega⟩
      have ca' : wr.cell? ⟨ba, oa + m, none⟩ = some (.int .u32 ((wd a m : Nat) : Int)) := by rw [World.cell?_of_block (w := w) (hbw.block _ la)]; exact HA.out m (by omega)
      have cq := hr.cell m (by omega)
      have fq := hr.fz m
      have xa := wd_lt wa m
      have HS := Lib.hid (HI.out.step wa hd2 (by omega))
      have hor := or_word rr (wd a m) (by omega) xa
      generalize wd a m = x at *
      have e1 : ((m + 1 : Nat) : Int) - 1 = (m : Int) := by omega
      simp only [e1]
      clear HI
      go_wp2_with fail
      have hq : (rr * 4294967296 + x) / d < 4294967296 := by
        rw [Nat.div_lt_iff_lt_mul (by omega)]
        have : (rr + 1) * 4294967296 ≤ d * 4294967296 := Nat.mul_le_mul (by omega) (Nat.le_refl _)
        rw [Nat.mul_comm 4294967296 d]; omega
      have e0 : (rr : Int) * 4294967296 + (x : Int) = ((rr * 4294967296 + x : Nat) : Int) := by rw [Int.natCast_add, Int.natCast_mul]; rfl
      have e3 : ((rr : Int) * 4294967296 + (x : Int)) / (d : Int) = (((rr * 4294967296 + x) / d : Nat) : Int) := by rw [e0, Int.natCast_ediv]
      have e4 : ((rr : Int) * 4294967296 + (x : Int)) % (d : Int) = (((rr * 4294967296 + x) % d : Nat) : Int) := by rw [e0, Int.natCast_emod]
      have e2 : ((rr : Int) * 4294967296 + (x : Int)) / (d : Int) % 4294967296 = (((rr * 4294967296 + x) / d : Nat) : Int) := by
        rw [e3]
        clear e0 e3 e4 HS
        generalize (rr * 4294967296 + x) / d = X at hq ⊢
        omega
      rw [e2, e4]
      exact ⟨⟨m, _, _, by omega, rfl, rfl, HS, Nat.mod_lt _ hd, by simpa using hql, hr.set m _, hbw.setCell (p := ⟨g, m, none⟩) hgB _⟩, by simp [intOf]⟩
end Go.Proofs.YtoooninneccfcaaGreatDoor
