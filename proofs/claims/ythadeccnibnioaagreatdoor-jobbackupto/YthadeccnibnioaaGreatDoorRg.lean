/- Brackets, min and max. -/
import Derived.Test.YthadeccnibnioaaGreatDoorRf
namespace Go.Proofs.YthadeccnibnioaaGreatDoor
open Go.RowKit

theorem Cx.alloc {w : World} {rb k dp : Nat} {s : ByteArray} (h : Cx w rb s k dp) (o : Obj) : Cx (w.alloc o) rb s k dp := h.fr ((Fr.refl _ _).alloc o) (h.rd.alloc o) h.le
theorem Out.ofBad {rb : Nat} {s : ByteArray} {dp pl er : Nat} {w w' : World} {e : Ending} (he : e = .panicked (flt (s.size - pl) er)) (hf : Fr [rb] w w') : Out rb s dp w (.bad pl er) e w' := ⟨he, hf⟩

theorem Fr.over {xs ys : List Nat} {a b c : World} (h : Fr ys a b) (g : Fr xs b c) (hx : ∀ k ∈ xs, k ∈ ys ∨ a.heap.size ≤ k) : Fr ys a c :=
  ⟨g.os.trans h.os, g.tape.trans h.tape, g.output.trans h.output, Nat.le_trans h.size g.size, fun i hi hy => by
    have := h.size
    rw [g.block i (by omega) (fun hm => by rcases hx i hm with h' | h'; exact hy h'; omega)]; exact h.block i hi hy⟩
theorem Fr.al1 (xs : List Nat) (w : World) (o : Obj) : Fr xs w (w.alloc o) := (Fr.refl _ _).alloc o
theorem Fr.al2 (xs : List Nat) (w : World) (o o' : Obj) : Fr xs w ((w.alloc o).alloc o') := ((Fr.refl _ _).alloc o).alloc o'
theorem Fr.al3 (xs : List Nat) (w : World) (o o' o'' : Obj) : Fr xs w (((w.alloc o).alloc o').alloc o'') := (((Fr.refl _ _).alloc o).alloc o').alloc o''

theorem Tr.mkNeg {lo : Nat} {w : World} {a : Tm} {p : Nat} (ha : Tr lo w a p) (hlo : lo ≤ w.heap.size) :
    Tr lo ((w.alloc (.cells #[.pointer (some ⟨p, 0, none⟩)] 74)).alloc (.cells #[.int .u8 126, .int .i64 0, .slice (some ⟨w.heap.size, 0, none⟩) 1 1] 138)) (.neg a) (w.heap.size + 1) :=
  ⟨by omega, w.heap.size, p, hlo, alloc_at (by simp), by rw [Below.heap_alloc _ _ _ (by simp)]; exact alloc_at rfl, (ha.alloc _).alloc _⟩
theorem Tr.mkTwo {lo : Nat} {w : World} {op : UInt8} {a b : Tm} {p q : Nat} (ha : Tr lo w a p) (hb : Tr lo w b q) (hlo : lo ≤ w.heap.size) :
    Tr lo ((w.alloc (.cells #[.pointer (some ⟨p, 0, none⟩), .pointer (some ⟨q, 0, none⟩)] 74)).alloc (.cells #[.int .u8 op.toNat, .int .i64 0, .slice (some ⟨w.heap.size, 0, none⟩) 2 2] 138)) (.two op a b) (w.heap.size + 1) :=
  ⟨by omega, w.heap.size, p, q, hlo, alloc_at (by simp), by rw [Below.heap_alloc _ _ _ (by simp)]; exact alloc_at rfl, (ha.alloc _).alloc _, (hb.alloc _).alloc _⟩
theorem Tr.mkCond {lo : Nat} {w : World} {a b c : Tm} {p q r : Nat} (ha : Tr lo w a p) (hb : Tr lo w b q) (hc : Tr lo w c r) (hlo : lo ≤ w.heap.size) :
    Tr lo ((w.alloc (.cells #[.pointer (some ⟨p, 0, none⟩), .pointer (some ⟨q, 0, none⟩), .pointer (some ⟨r, 0, none⟩)] 74)).alloc (.cells #[.int .u8 63, .int .i64 0, .slice (some ⟨w.heap.size, 0, none⟩) 3 3] 138)) (.cond a b c) (w.heap.size + 1) :=
  ⟨by omega, w.heap.size, p, q, r, hlo, alloc_at (by simp), by rw [Below.heap_alloc _ _ _ (by simp)]; exact alloc_at rfl, (ha.alloc _).alloc _, (hb.alloc _).alloc _, (hc.alloc _).alloc _⟩

set_option maxHeartbeats 1000000 in
theorem bracket_any {d : Nat} (hin : ∀ e, d = e + 1 → ChOK e) {w : World} {rb k dp pl : Nat} {s : ByteArray} (h : Cx w rb s k dp) (hd : dp + d = 20) (hpl : pl ≤ s.size) :
    Calls Tryz.prog 225 #[.pointer (some ⟨rb, 0, none⟩), .int .i64 pl] w (Out rb s dp w (brkF (inCh d) (s.size - pl) (s.data.toList.drop k))) := by
  have hmf : ∀ (fn : Fn) (first cap : Array Value) (w : World), (Instr.makeFunc fn first cap).run Tryz.prog w = .ok (.func fn first cap) w := fun _ _ _ _ => rfl
  have hlo := h.lo
  have hlt := h.rd.lt
  have hz := h.gl.1
  have hbrk : brkF (inCh d) (s.size - pl) (s.data.toList.drop k) = brkF (inCh d) (s.size - pl) (s.data.toList.drop k) := rfl
  conv at hbrk => rhs; unfold brkF
  generalize brkF (inCh d) (s.size - pl) (s.data.toList.drop k) = pr at hbrk ⊢
  have hdeep := deep_bracket1 hin (w := (w.alloc (.cells #[.pointer (some ⟨rb, 0, none⟩)] 121)).alloc (.cells #[.pointer none] 74)) (bx := w.heap.size) (cv := w.heap.size + 1) (v0 := .pointer none) ((h.alloc _).alloc _) hd hpl
    (by rw [Below.heap_alloc _ _ _ (by simp)]; exact alloc_at rfl) (alloc_at (by simp)) (by omega) (by omega)
  generalize inCh d (s.size - pl) (s.data.toList.drop k) = r at hdeep hbrk
  cases r with
  | bad p0 er =>
    simp only at hbrk
    subst hbrk
    go_enter Tryz.func225, Tryz.ntmps225
    go_wp2_with (go_at_call 108; refine hdeep.mono ?_; rintro e w' ⟨rfl, hf⟩)
    exact ⟨rfl, rfl, (Fr.al2 _ _ _ _).over hf (by simp)⟩
  | ok t u =>
    simp only at hbrk
    have HP := Lib.hid hbrk
    clear hbrk
    go_enter Tryz.func225, Tryz.ntmps225
    go_wp2_with (go_at_call 108; refine hdeep.mono ?_; rintro e wa ⟨p, ka, rfl, ht, hcv, hr, hk', hu, hf⟩; have hbx : wa.heap[w.heap.size]? = some (.cells #[.pointer (some ⟨rb, 0, none⟩)] 121) := (by rw [hf.block _ (by simp; omega) (by simp; omega), Below.heap_alloc _ _ _ (by simp)]; exact alloc_at rfl); have a1 := (cell1 hbx).1; have a2 := (cell1 hcv).1)
    have hfa : Fr [rb] w wa := (Fr.al2 _ _ _ _).over hf (by simp)
    have hcx := h.fr hfa hr hk'
    subst hu
    by_cases hm : (s.data.toList.drop ka).head? = some 41
    · have hka := head_lt hm
      have hp := HP.out
      rw [if_pos hm, drop_drop1] at hp
      subst hp
      clear HP
      go_wp2_with (go_at_call 110; refine (hcx.mustOut (p := ⟨#[41]⟩) ((pre_one pre41 _).2 hm)).mono ?_; rintro e wc ⟨rfl, hrc, hfc⟩; have hcc : wc.heap[w.heap.size + 1]? = some (.cells #[.pointer (some ⟨p, 0, none⟩)] 74) := (by rw [hfc.block _ (some_lt hcv) (by simp; omega)]; exact hcv); have c1 := (cell1 hcc).1)
      go_ret
      refine ⟨p, ka + 1, rfl, ?_, hrc, hka, rfl, hfa.trans hfc⟩
      exact Tr.mono (by simp; omega) _ _ (Tr.fr hfc (by simp; omega) _ _ ht)
    · have hp := HP.out
      rw [if_neg hm] at hp
      subst hp
      clear HP
      go_wp2_with (go_at_call 110; refine (hcx.mustNot (p := ⟨#[41]⟩) (fun hp => hm ((pre_one pre41 _).1 hp))).mono ?_; rintro e wc ⟨rfl, hfc⟩)
      exact ⟨rfl, by first | rw [at_of hk'] | rw [Nat.sub_sub_self hk'], hfa.trans hfc⟩

set_option maxHeartbeats 1000000 in
theorem pair_any {d : Nat} (hin : ∀ e, d = e + 1 → ChOK e) {w : World} {rb k dp pl : Nat} {s : ByteArray} (op : UInt8) (h : Cx w rb s k dp) (hd : dp + d = 20) (hpl : pl ≤ s.size) :
    Calls Tryz.prog 226 #[.pointer (some ⟨rb, 0, none⟩), .int .i64 pl, .int .u8 op.toNat] w (Out rb s dp w (pairF (inCh d) op (s.size - pl) (s.data.toList.drop k))) := by
  have hmf : ∀ (fn : Fn) (first cap : Array Value) (w : World), (Instr.makeFunc fn first cap).run Tryz.prog w = .ok (.func fn first cap) w := fun _ _ _ _ => rfl
  have hlo := h.lo
  have hlt := h.rd.lt
  have hz := h.gl.1
  have hbrk := pairF_eq d op (s.size - pl) (s.data.toList.drop k)
  generalize pairF (inCh d) op (s.size - pl) (s.data.toList.drop k) = pr at hbrk ⊢
  have hdeep := deep_pair hin (w := ((w.alloc (.cells #[.pointer (some ⟨rb, 0, none⟩)] 121)).alloc (.cells #[.pointer none] 74)).alloc (.cells #[.pointer none] 74)) (bx := w.heap.size) (c1 := w.heap.size + 1) (c2 := w.heap.size + 2) (v0 := .pointer none) (v1 := .pointer none) (((h.alloc _).alloc _).alloc _) hd hpl
    (by rw [Below.heap_alloc _ _ _ (by simp; omega), Below.heap_alloc _ _ _ (by simp)]; exact alloc_at rfl) (by rw [Below.heap_alloc _ _ _ (by simp)]; exact alloc_at (by simp)) (alloc_at (by simp)) (by omega) (by omega) (by omega) (by omega) (by omega) (by omega) (by omega)
  generalize inPr d (s.size - pl) (s.data.toList.drop k) = r at hdeep hbrk
  cases r with
  | bad p0 er =>
    simp only at hbrk
    subst hbrk
    go_enter Tryz.func226, Tryz.ntmps226
    go_wp2_with (go_at_call 108; refine hdeep.mono ?_; rintro e w' ⟨rfl, hf⟩)
    exact ⟨rfl, rfl, (Fr.al3 _ _ _ _ _).over hf (by simp)⟩
  | ok a b u =>
    simp only at hbrk
    have HP := Lib.hid hbrk
    clear hbrk
    go_enter Tryz.func226, Tryz.ntmps226
    go_wp2_with (go_at_call 108; refine hdeep.mono ?_; rintro e wa ⟨p, q, ka, rfl, ht, htq, hcv, hcq, hr, hk', hu, hf⟩; have hbx : wa.heap[w.heap.size]? = some (.cells #[.pointer (some ⟨rb, 0, none⟩)] 121) := (by rw [hf.block _ (by simp; omega) (by simp; omega), Below.heap_alloc _ _ _ (by simp; omega), Below.heap_alloc _ _ _ (by simp)]; exact alloc_at rfl); have a1 := (cell1 hbx).1)
    have hfa : Fr [rb] w wa := (Fr.al3 _ _ _ _ _).over hf (by simp)
    have hcx := h.fr hfa hr hk'
    subst hu
    by_cases hm : (s.data.toList.drop ka).head? = some 41
    · have hka := head_lt hm
      have hp := HP.out
      rw [if_pos hm, drop_drop1] at hp
      subst hp
      clear HP
      go_wp2_with (go_at_call 110; refine (hcx.mustOut (p := ⟨#[41]⟩) ((pre_one pre41 _).2 hm)).mono ?_; rintro e wc ⟨rfl, hrc, hfc⟩; have hcc : wc.heap[w.heap.size + 1]? = some (.cells #[.pointer (some ⟨p, 0, none⟩)] 74) := (by rw [hfc.block _ (some_lt hcv) (by simp; omega)]; exact hcv); have hcd : wc.heap[w.heap.size + 2]? = some (.cells #[.pointer (some ⟨q, 0, none⟩)] 74) := (by rw [hfc.block _ (some_lt hcq) (by simp; omega)]; exact hcq); have c1 := (cell1 hcc).1; have c2 := (cell1 hcd).1)
      go_ret
      have hsz := hfa.size
      have hsc := hfc.size
      refine ⟨wc.heap.size + 1, ka + 1, rfl, ?_, (hrc.alloc _).alloc _, hka, rfl, ((hfa.trans hfc).alloc _).alloc _⟩
      exact Tr.mkTwo (Tr.mono (by simp; omega) _ _ (Tr.fr hfc (by simp; omega) _ _ ht)) (Tr.mono (by simp; omega) _ _ (Tr.fr hfc (by simp; omega) _ _ htq)) (by omega)
    · have hp := HP.out
      rw [if_neg hm] at hp
      subst hp
      clear HP
      go_wp2_with (go_at_call 110; refine (hcx.mustNot (p := ⟨#[41]⟩) (fun hp => hm ((pre_one pre41 _).1 hp))).mono ?_; rintro e wc ⟨rfl, hfc⟩)
      exact ⟨rfl, by first | rw [at_of hk'] | rw [Nat.sub_sub_self hk'], hfa.trans hfc⟩
end Go.Proofs.YthadeccnibnioaaGreatDoor
