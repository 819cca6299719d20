/- Numbers and texts written into a list, with all other blocks as they were. -/
import Derived.Test.YtiofpimchbhfcabFj
namespace Go.Proofs.Ytiofpimchbhfcab
open Go.RowKit

/-- Blocks that hold no bytes stay. -/
def KpB (w w' : World) : Prop := ∀ (k : Nat) (o : Obj), w.heap[k]? = some o → (∀ cur, o ≠ .cells cur 5 (0, 0)) → w'.heap[k]? = some o
theorem KpB.refl (w : World) : KpB w w := fun _ _ h _ => h
theorem KpB.trans {a b c : World} (h : KpB a b) (k : KpB b c) : KpB a c := fun i o hi ho => k i o (h i o hi ho) ho
theorem KpB.alloc {a w : World} (h : KpB a w) (o : Obj) : KpB a (w.alloc o) := h.trans fun k x hk _ => by rw [Below.heap_alloc _ _ _ (some_lt hk)]; exact hk
theorem KpB.of_below {w w' : World} (h : Below w.heap.size w w') : KpB w w' := fun k o hk _ => by rw [h.block k (some_lt hk)]; exact hk
theorem KpB.grown {a w w' : World} {B n : Nat} {v : Value} {xs : List Value} (h : KpB a w) (hg : w.grownBy w' v.ownBlock) (ho : w.ownsRow B 5 1 v n xs) : KpB a w' := h.trans fun k o hk hx => by
  rw [hg.block k (some_lt hk) ?_]; exact hk
  intro e
  rcases ho.2 with ⟨h0, -⟩ | ⟨g, cap, cur, h0, -, hc, -⟩
  · rw [h0] at e; simp [Value.ownBlock] at e
  · rw [h0] at e
    simp [Value.ownBlock] at e
    subst e
    rw [hc] at hk
    injection hk with hk
    exact hx cur hk.symm

set_option maxRecDepth 100000 in
set_option maxHeartbeats 1000000 in
theorem withNum_kp (B : Nat) (w : World) (v : Value) (l : List UInt8) (n : Int) (hn : I64 n) (ho : Own B w v l) (hB : B ≤ w.heap.size) (hlim : l.length + 10 ≤ 140737488355328) :
    Calls Try.prog 34 #[v, .int .i64 n] w fun e w' => ∃ v', e = .returned v' ∧ Own B w' v' (l ++ numB n) ∧ Below B w w' ∧ KpB w w' := by
  obtain ⟨i0, hi, hz0, hz1, hz2⟩ := info_parts infoByte
  obtain ⟨hn1, hn2⟩ := hn
  have hz := zig_lt hn1 hn2
  have hlen := vb_ten hz
  by_cases h0 : n < 0
  all_goals
    first
      | have hx := Lib.hid (wrap_neg h0 hn1)
      | have hx := Lib.hid (wrap_pos h0 hn2)
    go_enter Try.func34, Try.ntmps34
    go_wp2_with fail
    rw [hx.out]
    go_loopw [0, 5] (fun u x wr => ∃ (d : List UInt8) (y : Nat), Own B wr u (l ++ d) ∧ x = .int .u64 y ∧ vb (zig n) = d ++ vb y ∧ y < 18446744073709551616 ∧ Below B w wr ∧ KpB w wr) (fun _ x _ => (intOf x).toNat)
    case atStart => exact ⟨[], zig n, by simpa using ho, rfl, rfl, hz, Below.refl _ _, KpB.refl _⟩
    case round =>
      obtain ⟨d, y, hown, rfl, hd, hy, hb, hkp⟩ := hrel
      clear hx hlen
      have hdl : d.length + (vb y).length ≤ 10 := by rw [← List.length_append, ← hd]; exact vb_ten hz
      have hp := vb_pos y
      by_cases hlt : 128 ≤ y
      · have hlt' : (128 : Int) ≤ y := by omega
        have ho8 := Lib.hid (or128' y)
        generalize hc : UInt8.ofNat (y % 128 + 128) = c at ho8
        have hc' := Lib.hid hc
        clear hc
        go_wp2_with (at_builtin; refine wpList_append_own _ rfl _ _ 35 rfl B 5 i0 (.int .u8 0) 1 1 Try.underlying35 hi hz0 hz1 hz2 rfl (by decide) _ _ _ rfl (hown.alloc _) ⟨_, 0, none⟩ 1 1 [Value.int .u8 c.toNat] rfl rfl (by intro j u' hj; match j, hj with | 0, hj => simp at hj; subst hj; simp [Addr.add, ho8.out]) (by intro u' hu'; simp at hu'; subst hu'; rfl) (by unfold maxLen; simp; omega) (by simp; omega) (by have := hb.size; simp; omega) ?_)
        intro v2 w2 own' grow _
        have hb2 : Below B w w2 := (hb.alloc (by have := hb.size; omega) _).grown grow (by have := hb.size; simp; omega) (fun k hk => (hown.lt k hk).1)
        have hown2 : Own B w2 v2 (l ++ d ++ [c]) := own_snoc (by simpa using own')
        have hk2 : KpB w w2 := (hkp.alloc _).grown grow (hown.alloc _)
        clear own' grow
        go_wp2_with fail
        go_roundw
        case rel => exact ⟨d ++ [c], y / 128, by simpa using hown2, by go_num, by rw [hd, vb_ge hlt, hc'.out]; simp, by omega, hb2, hk2⟩
        case measure => simp [intOf]; omega
      · have hlt' : ¬ (128 : Int) ≤ y := by omega
        have hw8 := Lib.hid (u8_wrap y (by omega))
        generalize hc : UInt8.ofNat y = c at hw8
        have hc' := Lib.hid hc
        clear hc
        go_wp2_with (at_builtin; refine wpList_append_own _ rfl _ _ 35 rfl B 5 i0 (.int .u8 0) 1 1 Try.underlying35 hi hz0 hz1 hz2 rfl (by decide) _ _ _ rfl (hown.alloc _) ⟨_, 0, none⟩ 1 1 [Value.int .u8 c.toNat] rfl rfl (by intro j u' hj; match j, hj with | 0, hj => simp at hj; subst hj; simp [Addr.add, ← hw8.out, IntKind.wrap, IntKind.bits, IntKind.signed]; omega) (by intro u' hu'; simp at hu'; subst hu'; rfl) (by unfold maxLen; simp; omega) (by simp; omega) (by have := hb.size; simp; omega) ?_)
        intro v2 w2 own' grow _
        have hb2 : Below B w w2 := (hb.alloc (by have := hb.size; omega) _).grown grow (by have := hb.size; simp; omega) (fun k hk => (hown.lt k hk).1)
        have hown2 : Own B w2 v2 (l ++ d ++ [c]) := own_snoc (by simpa using own')
        have hk2 : KpB w w2 := (hkp.alloc _).grown grow (hown.alloc _)
        clear own' grow
        go_wp2_with fail
        go_ret
        refine ⟨v2, rfl, ?_, hb2, hk2⟩
        have e : l ++ numB n = l ++ d ++ [c] := by unfold numB; rw [hd, vb_lt (by omega), hc'.out]; simp
        rw [e]; exact hown2

set_option maxHeartbeats 1000000 in
theorem withText_kp (B : Nat) (w : World) (v : Value) (l : List UInt8) (s : ByteArray) (ho : Own B w v l) (hB : B ≤ w.heap.size) (hlim : l.length + 10 + s.size ≤ 140737488355328) :
    Calls Try.prog 35 #[v, .string s] w fun e w' => ∃ v', e = .returned v' ∧ Own B w' v' (l ++ kB s) ∧ Below B w w' ∧ KpB w w' := by
  obtain ⟨i0, hi, hz0, hz1, hz2⟩ := info_parts infoByte
  have H := withNum_kp B w v l s.size ⟨by omega, by omega⟩ ho hB (by omega)
  have hten := num_ten (n := (s.size : Int)) (by omega) (by omega)
  go_enter Try.func35, Try.ntmps35
  go_wp2_with (first | (go_at_call 34; refine H.mono ?_; rintro e w1 ⟨v1, rfl, ho1, hb1, hk1⟩) | (at_builtin; refine Lib.wpList_append_own_string _ rfl _ _ 35 9 rfl B 5 i0 Try.underlying35 Try.underlying9 hi hz0 hz1 hz2 _ _ _ rfl ho1 s rfl (by unfold maxLen; simp; omega) (by simp; omega) (by have := hb1.size; omega) ?_))
  intro v2 w2 own' grow _
  have hb2 : Below B w w2 := hb1.grown grow (by have := hb1.size; omega) (fun k hk => (ho1.lt k hk).1)
  have hown2 : Own B w2 v2 (l ++ numB s.size ++ s.data.toList) := own_app (n := s.size) (by rw [← strCells_bcs]; simpa using own') rfl
  have hk2 : KpB w w2 := hk1.grown grow ho1
  clear own' grow
  go_wp2_with fail
  go_ret
  exact ⟨v2, rfl, by simpa [kB, textB] using hown2, hb2, hk2⟩
end Go.Proofs.Ytiofpimchbhfcab
