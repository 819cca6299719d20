/- What package frame writes: numbers, texts, sums, pieces. -/
import Derived.Test.YtiofpimchbhfcabChecked
import Derived.Test.YtiofpimchbhfcabPureZ
import Derived.WalkKit
import Derived.ProofKit
import Derived.OpenShut
import Derived.Deep.QuietTactic
import Derived.BigQuiet
import Derived.Lib.AppendStr
import Derived.Lib.Slices
import Derived.Lib.Hide
import Derived.Laws.IdiomStrings
import Derived.OwnWalk
import Derived.BigCall

namespace Go.Proofs.Ytiofpimchbhfcab
open Go.RowKit

theorem infoByte : (Try.prog.info? 5).map (fun i => (i.zero, i.size, i.bytes)) = some (some (.int .u8 0), 1, 1) := by kernel_rfl
def bcs (l : List UInt8) : List Value := l.map fun c => .int .u8 c.toNat
abbrev Own (B : Nat) (w : World) (v : Value) (l : List UInt8) : Prop := w.ownsRow B 5 1 v l.length (bcs l)
theorem own_snoc {B : Nat} {w : World} {v : Value} {l : List UInt8} {c : UInt8} (h : w.ownsRow B 5 1 v (l.length + 1) (bcs l ++ [.int .u8 c.toNat])) : Own B w v (l ++ [c]) := by
  have e1 : (l ++ [c]).length = l.length + 1 := by simp
  have e2 : bcs (l ++ [c]) = bcs l ++ [.int .u8 c.toNat] := by simp [bcs]
  unfold Own; rw [e1, e2]; exact h
theorem own_app {B : Nat} {w : World} {v : Value} {l r : List UInt8} {n : Nat} (h : w.ownsRow B 5 1 v (l.length + n) (bcs l ++ bcs r)) (hn : n = r.length) : Own B w v (l ++ r) := by
  have e1 : (l ++ r).length = l.length + n := by simp [hn]
  have e2 : bcs (l ++ r) = bcs l ++ bcs r := by simp [bcs]
  unfold Own; rw [e1, e2]; exact h

/-- Bytes behind a slice. -/
def BsAt (w : World) (p : Option Addr) (l : List UInt8) : Prop :=
  l = [] ∨ ∃ b o, p = some ⟨b, o, none⟩ ∧ ∀ i (h : i < l.length), w.cell? ⟨b, o + i, none⟩ = some (.int .u8 l[i].toNat)
/-- append of bytes to what is owned. -/
theorem append_bs {w : World} {ops : Array Oper} {rest : List Oper} {o : Oper} {a : Act} {Q : Exit → Act → World → Prop} (hgd : o.guard = none) (s x : Operand)
    (ho : o.op = .call { callee := .builtin .append, args := #[s, x], argTypes := #[35, 35] })
    (B : Nat) (v : Value) (l : List UInt8) (hs : a.eval s = v) (hown : Own B w v l) (ao : Option Addr) (m c : Nat) (r : List UInt8) (hx : a.eval x = .slice ao m c) (hm : m = r.length) (hr : BsAt w ao r) (hc : ao = none → c = 0)
    (hlim : l.length + r.length ≤ 140737488355328) (hB : B ≤ w.heap.size)
    (hK : ∀ v' w', Own B w' v' (l ++ r) → Below B w w' → wpList Try.prog ops Q rest (a.put o.dst v') w') : wpList Try.prog ops Q (o :: rest) a w := by
  obtain ⟨i0, hi, hz0, hz1, hz2⟩ := info_parts infoByte
  subst hm
  cases ao with
  | none =>
    have hc0 := hc rfl
    subst hc0
    have hr0 : r = [] := by
      rcases hr with h | ⟨b, o, h, -⟩
      · exact h
      · cases h
    subst hr0
    refine wpList_plain hgd fun K hK' => ?_
    have hrun := run_append_owned_none (P := Try.prog) w B 35 o.type 5 i0 1 Try.underlying35 hi v _ _ hown
    have hx' : a.eval x = .slice none 0 0 := hx
    unfold Oper.wp
    simp [execOp, ho, resolve, invoke, builtin, hs, hx', hrun, Result.andThen]
    exact hK' _ _ (by simpa using hK v w (by simpa using hown) (Below.refl _ _))
  | some ad =>
    refine wpList_append_own w hgd s x 35 ho B 5 i0 (.int .u8 0) 1 1 Try.underlying35 hi hz0 hz1 hz2 rfl (by decide) v l.length (bcs l) hs hown ad r.length c (bcs r) hx (by simp [bcs]) ?_ (by intro u hu; simp only [bcs, List.mem_map] at hu; obtain ⟨c8, -, rfl⟩ := hu; rfl) (by unfold maxLen; omega) (by omega) hB ?_
    · intro j u hj
      rcases hr with rfl | ⟨b, o, h, hcell⟩
      · simp [bcs] at hj
      · simp only [Option.some.injEq] at h
        subst h
        simp only [bcs, List.getElem?_map, Option.map_eq_some_iff] at hj
        obtain ⟨c8, h1, rfl⟩ := hj
        obtain ⟨hlt, rfl⟩ := List.getElem?_eq_some_iff.1 h1
        rw [show (⟨b, o, none⟩ : Addr).add j = ⟨b, o + j, none⟩ from by simp [Addr.add]]
        exact hcell j hlt
    · intro v' w' own' grow _
      exact hK v' w' (own_app own' rfl) ((Below.refl _ _).grown grow hB (fun k hk => (hown.lt k hk).1))
/-- One byte of a new block. -/
theorem bs_one (w : World) (c : UInt8) (t : TypeId) (z : Int) (h : z = c.toNat) : BsAt (w.alloc (.cells #[.int .u8 z] t)) (some ⟨w.heap.size, 0, none⟩) [c] := by
  subst h
  exact .inr ⟨_, _, rfl, fun i hi => by simp at hi; subst hi; simp⟩
theorem BsAt.below {w w' : World} {B : Nat} {p : Option Addr} {l : List UInt8} (h : BsAt w p l) (hb : Below B w w') (hp : ∀ a, p = some a → a.block < B) : BsAt w' p l := by
  rcases h with h | ⟨b, o, rfl, hc⟩
  · exact .inl h
  · exact .inr ⟨b, o, rfl, fun i hi => by rw [hb.cell (p := ⟨b, o + i, none⟩) (hp ⟨b, o, none⟩ rfl)]; exact hc i hi⟩
theorem BsAt.lt {w : World} {p : Option Addr} {l : List UInt8} (h : BsAt w p l) (hne : l ≠ []) : ∃ b o, p = some ⟨b, o, none⟩ ∧ b < w.heap.size := by
  rcases h with h | ⟨b, o, rfl, hc⟩
  · exact absurd h hne
  · refine ⟨b, o, rfl, ?_⟩
    have h0 := hc 0 (by cases l with | nil => exact absurd rfl hne | cons => simp)
    rcases Nat.lt_or_ge b w.heap.size with h' | h'
    · exact h'
    · simp [World.cell?, Array.getElem?_eq_none h'] at h0
/-- Bytes stay where nothing old turns. -/
theorem BsAt.keep {w w' : World} {p : Option Addr} {l : List UInt8} (h : BsAt w p l) (hb : Below w.heap.size w w') : BsAt w' p l := by
  by_cases hne : l = []
  · exact .inl hne
  · obtain ⟨b, o, rfl, hlt⟩ := h.lt hne
    exact h.below hb (by intro a ha; simp at ha; subst ha; exact hlt)
/-- What is owned lies behind its slice. -/
theorem own_bs {w : World} {B n cap : Nat} {A : Option Addr} {l : List UInt8} (h : w.ownsRow B 5 1 (.slice A n cap) n (bcs l)) (hn : n = l.length) : BsAt w A l ∧ n ≤ cap ∧ (A = none → cap = 0) ∧ (∀ a, A = some a → B ≤ a.block) := by
  subst hn
  rcases h.2 with ⟨h0, h1⟩ | ⟨g, cap', cur, h0, hb, hg, hle, hm, hs, ht⟩
  · simp at h0
    exact ⟨.inl (List.length_eq_zero_iff.1 h1), by omega, fun _ => by omega, by intro a ha; rw [h0.1] at ha; cases ha⟩
  · simp at h0
    obtain ⟨rfl, rfl⟩ := h0
    refine ⟨.inr ⟨g, 0, rfl, fun j hj => ?_⟩, hle, (by intro h; cases h), (by intro a ha; simp at ha; subst ha; exact hb)⟩
    rw [Nat.zero_add, h.cellAt j (by simpa using hj)]
    simp [bcs, hj]
theorem own_keep {w w' : World} {B n e sz : Nat} {v : Value} {xs : List Value} (h : w.ownsRow B e sz v n xs) (hb : Below w.heap.size w w') : w'.ownsRow B e sz v n xs :=
  h.kept (row := none) ⟨hb.os, hb.tape, hb.output, hb.size, fun k hk _ => hb.block k hk⟩ (by cases v.ownBlock <;> simp)
theorem own_slice {w : World} {B n : Nat} {v : Value} {xs : List Value} (h : w.ownsRow B 5 1 v n xs) : ∃ A cap, v = .slice A n cap := by
  rcases h.2 with ⟨h0, h1⟩ | ⟨g, cap', cur, h0, -⟩
  · exact ⟨none, 0, by rw [h0, h1]⟩
  · exact ⟨_, _, h0⟩

theorem or128 : ∀ c : Fin 256, bits .or .u8 ((c.val : Nat) : Int) 128 = ((c.val % 128 + 128 : Nat) : Int) := by decide +kernel
theorem or128' (x : Nat) : bits .or .u8 ((x : Int) % 256) 128 = ((UInt8.ofNat (x % 128 + 128)).toNat : Int) := by
  have h := or128 ⟨x % 256, by omega⟩
  have e : (x : Int) % 256 = ((x % 256 : Nat) : Int) := by omega
  rw [e, b_toNat (by omega)]
  simp only at h
  rw [h]; congr 2; omega

theorem wrap_pos {n : Int} (h0 : ¬ n < 0) (h2 : n < 9223372036854775808) : IntKind.u64.wrap (wrap64 (2 * n)) = ((zig n : Nat) : Int) := by
  unfold zig wrap64; rw [if_neg h0]; simp [IntKind.wrap, IntKind.bits, IntKind.signed]; omega
theorem wrap_neg {n : Int} (h0 : n < 0) (h1 : -9223372036854775808 ≤ n) : IntKind.u64.wrap (wrap64 (wrap64 (-2 * n) - 1)) = ((zig n : Nat) : Int) := by
  unfold zig wrap64; rw [if_pos h0]; simp [IntKind.wrap, IntKind.bits, IntKind.signed]; omega
theorem u8_wrap (x : Nat) (h : x < 128) : IntKind.u8.wrap (x : Int) = ((UInt8.ofNat x).toNat : Int) := by
  rw [b_toNat (by omega)]; simp [IntKind.wrap, IntKind.bits, IntKind.signed]; omega

set_option maxRecDepth 100000 in
set_option maxHeartbeats 1000000 in
theorem withNum_any (B : Nat) (w : World) (v : Value) (l : List UInt8) (n : Int) (hn : I64 n) (ho : Own B w v l) (hB : B ≤ w.heap.size) (hlim : l.length + 10 ≤ 140737488355328) :
    Calls Try.prog 34 #[v, .int .i64 n] w fun e w' => ∃ v', e = .returned v' ∧ Own B w' v' (l ++ numB n) ∧ Below B w w' := by
  obtain ⟨i0, hi, hz0, hz1, hz2⟩ := info_parts infoByte
  obtain ⟨hn1, hn2⟩ := hn
  have hz := zig_lt hn1 hn2
  have hlen := vb_ten hz
  by_cases h0 : n < 0
  all_goals
    first
      | have hx := Lib.hid (wrap_neg h0 hn1)
      | have hx := Lib.hid (wrap_pos h0 hn2)
    go_enter Try.func34, Try.ntmps34
    go_wp2_with fail
    rw [hx.out]
    go_loopw [0, 5] (fun u x wr => ∃ (d : List UInt8) (y : Nat), Own B wr u (l ++ d) ∧ x = .int .u64 y ∧ vb (zig n) = d ++ vb y ∧ y < 18446744073709551616 ∧ Below B w wr) (fun _ x _ => (intOf x).toNat)
    case atStart => exact ⟨[], zig n, by simpa using ho, rfl, rfl, hz, Below.refl _ _⟩
    case round =>
      obtain ⟨d, y, hown, rfl, hd, hy, hb⟩ := hrel
      clear hx hlen
      have hdl : d.length + (vb y).length ≤ 10 := by rw [← List.length_append, ← hd]; exact vb_ten hz
      have hp := vb_pos y
      by_cases hlt : 128 ≤ y
      · have hlt' : (128 : Int) ≤ y := by omega
        have ho8 := Lib.hid (or128' y)
        generalize hc : UInt8.ofNat (y % 128 + 128) = c at ho8
        have hc' := Lib.hid hc
        clear hc
        go_wp2_with (at_builtin; refine wpList_append_own _ rfl _ _ 35 rfl B 5 i0 (.int .u8 0) 1 1 Try.underlying35 hi hz0 hz1 hz2 rfl (by decide) _ _ _ rfl (hown.alloc _) ⟨_, 0, none⟩ 1 1 [Value.int .u8 c.toNat] rfl rfl (by intro j u' hj; match j, hj with | 0, hj => simp at hj; subst hj; simp [Addr.add, ho8.out]) (by intro u' hu'; simp at hu'; subst hu'; rfl) (by unfold maxLen; simp; omega) (by simp; omega) (by have := hb.size; simp; omega) ?_)
        intro v2 w2 own' grow _
        have hb2 : Below B w w2 := (hb.alloc (by have := hb.size; omega) _).grown grow (by have := hb.size; simp; omega) (fun k hk => (hown.lt k hk).1)
        have hown2 : Own B w2 v2 (l ++ d ++ [c]) := own_snoc (by simpa using own')
        clear own' grow
        go_wp2_with fail
        go_roundw
        case rel => exact ⟨d ++ [c], y / 128, by simpa using hown2, by go_num, by rw [hd, vb_ge hlt, hc'.out]; simp, by omega, hb2⟩
        case measure => simp [intOf]; omega
      · have hlt' : ¬ (128 : Int) ≤ y := by omega
        have hw8 := Lib.hid (u8_wrap y (by omega))
        generalize hc : UInt8.ofNat y = c at hw8
        have hc' := Lib.hid hc
        clear hc
        go_wp2_with (at_builtin; refine wpList_append_own _ rfl _ _ 35 rfl B 5 i0 (.int .u8 0) 1 1 Try.underlying35 hi hz0 hz1 hz2 rfl (by decide) _ _ _ rfl (hown.alloc _) ⟨_, 0, none⟩ 1 1 [Value.int .u8 c.toNat] rfl rfl (by intro j u' hj; match j, hj with | 0, hj => simp at hj; subst hj; simp [Addr.add, ← hw8.out, IntKind.wrap, IntKind.bits, IntKind.signed]; omega) (by intro u' hu'; simp at hu'; subst hu'; rfl) (by unfold maxLen; simp; omega) (by simp; omega) (by have := hb.size; simp; omega) ?_)
        intro v2 w2 own' grow _
        have hb2 : Below B w w2 := (hb.alloc (by have := hb.size; omega) _).grown grow (by have := hb.size; simp; omega) (fun k hk => (hown.lt k hk).1)
        have hown2 : Own B w2 v2 (l ++ d ++ [c]) := own_snoc (by simpa using own')
        clear own' grow
        go_wp2_with fail
        go_ret
        refine ⟨v2, rfl, ?_, hb2⟩
        have e : l ++ numB n = l ++ d ++ [c] := by unfold numB; rw [hd, vb_lt (by omega), hc'.out]; simp
        rw [e]; exact hown2

theorem num_any (w : World) (n : Int) (hn : I64 n) :
    Calls Try.prog 33 #[.int .i64 n] w fun e w' => ∃ v', e = .returned v' ∧ Own w.heap.size w' v' (numB n) ∧ Below w.heap.size w w' := by
  have H := withNum_any w.heap.size w (.slice none 0 0) [] n hn (World.ownsRow_nil _ _ _ _) (Nat.le_refl _) (by simp)
  go_enter Try.func33, Try.ntmps33
  go_wp2_with (go_at_call 34; refine H.mono ?_; rintro e w1 ⟨v1, rfl, ho, hb⟩)
  go_ret
  exact ⟨v1, rfl, by simpa using ho, hb⟩

theorem strCells_bcs (s : ByteArray) : Lib.strCells s = bcs s.data.toList := rfl
set_option maxHeartbeats 1000000 in
theorem withText_any (B : Nat) (w : World) (v : Value) (l : List UInt8) (s : ByteArray) (ho : Own B w v l) (hB : B ≤ w.heap.size) (hlim : l.length + 10 + s.size ≤ 140737488355328) :
    Calls Try.prog 35 #[v, .string s] w fun e w' => ∃ v', e = .returned v' ∧ Own B w' v' (l ++ kB s) ∧ Below B w w' := by
  obtain ⟨i0, hi, hz0, hz1, hz2⟩ := info_parts infoByte
  have H := withNum_any B w v l s.size ⟨by omega, by omega⟩ ho hB (by omega)
  have hten := num_ten (n := (s.size : Int)) (by omega) (by omega)
  go_enter Try.func35, Try.ntmps35
  go_wp2_with (first | (go_at_call 34; refine H.mono ?_; rintro e w1 ⟨v1, rfl, ho1, hb1⟩) | (at_builtin; refine Lib.wpList_append_own_string _ rfl _ _ 35 9 rfl B 5 i0 Try.underlying35 Try.underlying9 hi hz0 hz1 hz2 _ _ _ rfl ho1 s rfl (by unfold maxLen; simp; omega) (by simp; omega) (by have := hb1.size; omega) ?_))
  intro v2 w2 own' grow _
  have hb2 : Below B w w2 := hb1.grown grow (by have := hb1.size; omega) (fun k hk => (ho1.lt k hk).1)
  have hown2 : Own B w2 v2 (l ++ numB s.size ++ s.data.toList) := own_app (n := s.size) (by rw [← strCells_bcs]; simpa using own') rfl
  clear own' grow
  go_wp2_with fail
  go_ret
  exact ⟨v2, rfl, by simpa [kB, textB] using hown2, hb2⟩
theorem sum_step (l : List UInt8) (k : Nat) (h : k < l.length) : sumP 1 (l.take (k + 1)) = (sumP 1 (l.take k) * 31 + l[k].toNat) % 4294967296 := by
  rw [List.take_succ_eq_append_getElem h, sumP_snoc]

end Go.Proofs.Ytiofpimchbhfcab
