/- The reader of package frame: its block, and what each of its calls takes. -/
import Derived.Test.YtiofpimchbhfcabFd
import Derived.Test.YtiofpimchbhfcabPureV
import Derived.Lib.SliceRun
namespace Go.Proofs.Ytiofpimchbhfcab
open Go.RowKit

/-- Of the blocks that were there only those of xs may have turned. -/
structure Fr (xs : List Nat) (w w' : World) : Prop where
  os : w'.os = w.os
  tape : w'.tape = w.tape
  output : w'.output = w.output
  size : w.heap.size ≤ w'.heap.size
  block : ∀ k, k < w.heap.size → k ∉ xs → w'.heap[k]? = w.heap[k]?
theorem Fr.refl (xs : List Nat) (w : World) : Fr xs w w := ⟨rfl, rfl, rfl, Nat.le_refl _, fun _ _ _ => rfl⟩
theorem Fr.trans {xs : List Nat} {a b c : World} (h : Fr xs a b) (k : Fr xs b c) : Fr xs a c :=
  ⟨k.os.trans h.os, k.tape.trans h.tape, k.output.trans h.output, Nat.le_trans h.size k.size, fun i hi hx => (k.block i (Nat.lt_of_lt_of_le hi h.size) hx).trans (h.block i hi hx)⟩
theorem Fr.more {xs ys : List Nat} {a b : World} (h : Fr xs a b) (hy : ∀ k, k < a.heap.size → k ∈ xs → k ∈ ys) : Fr ys a b :=
  ⟨h.os, h.tape, h.output, h.size, fun i hi hx => h.block i hi (fun hm => hx (hy i hi hm))⟩
theorem Fr.alloc {xs : List Nat} {a w : World} (h : Fr xs a w) (o : Obj) : Fr xs a (w.alloc o) :=
  h.trans ⟨rfl, rfl, rfl, by simp, fun k hk _ => Below.heap_alloc _ _ _ hk⟩
theorem Fr.setCell {xs : List Nat} {a w : World} (h : Fr xs a w) {p : Addr} (hp : p.block ∈ xs ∨ a.heap.size ≤ p.block) (u : Value) : Fr xs a (w.setCell p u) :=
  ⟨h.os, h.tape, h.output, by simpa using h.size, fun k hk hx => by
    rw [Below.heap_setCell _ _ _ _ (by rcases hp with hp | hp; exact fun e => hx (e ▸ hp); omega)]; exact h.block k hk hx⟩
theorem Fr.drewN {xs : List Nat} {a w : World} (h : Fr xs a w) (n : Nat) : Fr xs a (w.drewN n) := ⟨h.os, h.tape, h.output, h.size, h.block⟩
theorem Fr.below {xs : List Nat} {a b : World} (h : Below a.heap.size a b) : Fr xs a b := ⟨h.os, h.tape, h.output, h.size, fun k hk _ => h.block k hk⟩
theorem Fr.toBelow {xs : List Nat} {a b : World} {B : Nat} (h : Fr xs a b) (hB : B ≤ a.heap.size) (hx : ∀ k ∈ xs, B ≤ k) : Below B a b :=
  ⟨h.os, h.tape, h.output, h.size, fun k hk => h.block k (by omega) (fun hm => by have := hx k hm; omega)⟩
theorem Fr.cell {xs : List Nat} {a b : World} (h : Fr xs a b) {p : Addr} (hp : p.block < a.heap.size) (hx : p.block ∉ xs) : b.cell? p = a.cell? p := World.cell?_of_block (w := a) (h.block p.block hp hx)
theorem Fr.frozen {xs : List Nat} {a b : World} (h : Fr xs a b) {p : Addr} (hp : p.block < a.heap.size) (hx : p.block ∉ xs) : b.frozen? p = a.frozen? p := World.frozen?_of_block (w := a) (h.block p.block hp hx)
theorem some_lt {w : World} {p : Nat} {o : Obj} (h : w.heap[p]? = some o) : p < w.heap.size := by
  rcases Nat.lt_or_ge p w.heap.size with h' | h'
  · exact h'
  · rw [Array.getElem?_eq_none h'] at h; cases h

/-- The reader's block. -/
def Rb (w : World) (R : Nat) (v : Value) (bad : Bool) : Prop := w.heap[R]? = some (.cells #[v, .bool bad] 91)
theorem Rb.c0 {w : World} {R : Nat} {v : Value} {b : Bool} (h : Rb w R v b) : w.cell? ⟨R, 0, none⟩ = some v := by unfold Rb at h; simp [World.cell?, h]
theorem Rb.c1 {w : World} {R : Nat} {v : Value} {b : Bool} (h : Rb w R v b) : w.cell? ⟨R, 1, none⟩ = some (.bool b) := by unfold Rb at h; simp [World.cell?, h]
theorem Rb.fz {w : World} {R : Nat} {v : Value} {b : Bool} (h : Rb w R v b) (o : Nat) : w.frozen? ⟨R, o, none⟩ = false := by unfold Rb at h; simp [World.frozen?, h]
theorem Rb.set0 {w : World} {R : Nat} {v : Value} {b : Bool} (h : Rb w R v b) (u : Value) : Rb (w.setCell ⟨R, 0, none⟩ u) R u b := by
  unfold Rb at h ⊢; simp [World.setCell, Array.getElem?_modify, h]
theorem Rb.set1 {w : World} {R : Nat} {v : Value} {b : Bool} (h : Rb w R v b) (c : Bool) : Rb (w.setCell ⟨R, 1, none⟩ (.bool c)) R v c := by
  unfold Rb at h ⊢; simp [World.setCell, Array.getElem?_modify, h]

/-- Bytes stay where their block does. -/
theorem BsAt.blocks {w w' : World} {p : Option Addr} {l : List UInt8} (h : BsAt w p l) (k : ∀ a, p = some a → l ≠ [] → w'.heap[a.block]? = w.heap[a.block]?) : BsAt w' p l := by
  rcases h with h | ⟨b, o, rfl, hc⟩
  · exact .inl h
  · exact .inr ⟨b, o, rfl, fun i hi => by rw [World.cell?_of_block (w := w) (a := ⟨b, o + i, none⟩) (k ⟨b, o, none⟩ rfl (by intro e; subst e; simp at hi))]; exact hc i hi⟩

/-- The reader: what is left of the bytes, which lie in blocks below N; or none. -/
def RdB (N : Nat) (w : World) (R : Nat) : St → Prop
  | none => Rb w R (.slice none 0 0) true
  | some l => ∃ p c, Rb w R (.slice p l.length c) false ∧ BsAt w p l ∧ (∀ a, p = some a → l ≠ [] → a.block < N) ∧ l.length ≤ c ∧ c ≤ 9223372036854775807 ∧ l.length ≤ 140737488355328
theorem RdB.lt {N : Nat} {w : World} {R : Nat} {st : St} (h : RdB N w R st) : R < w.heap.size := by
  cases st with
  | none => exact some_lt h
  | some l => obtain ⟨p, c, h, -⟩ := h; exact some_lt h
theorem RdB.keep {N : Nat} {w w' : World} {R : Nat} {st : St} (h : RdB N w R st) (hR : w'.heap[R]? = w.heap[R]?) (hN : ∀ k, k < N → w'.heap[k]? = w.heap[k]?) : RdB N w' R st := by
  cases st with
  | none => show Rb _ _ _ _; unfold Rb; rw [hR]; exact h
  | some l =>
    obtain ⟨p, c, h1, h2, h3, h4⟩ := h
    exact ⟨p, c, by unfold Rb; rw [hR]; exact h1, h2.blocks (fun a ha hne => hN _ (h3 a ha hne)), h3, h4⟩

theorem spoil_any (N R : Nat) (w : World) (v : Value) (b : Bool) (h : Rb w R v b) :
    Calls Try.prog 49 #[.pointer (some ⟨R, 0, none⟩)] w fun e w' => e = .returned (.tuple #[]) ∧ RdB N w' R none ∧ Fr [R] w w' := by
  have h0 := h.c0
  have h1 := h.c1
  have hf := h.fz
  have HR := Lib.hid ((h.set0 (.slice none 0 0)).set1 true)
  have HF := Lib.hid (((Fr.refl [R] w).setCell (p := ⟨R, 0, none⟩) (by simp) (.slice none 0 0)).setCell (p := ⟨R, 1, none⟩) (by simp) (.bool true))
  clear h
  go_enter Try.func49, Try.ntmps49
  go_wp2_with fail
  go_end0
  exact ⟨rfl, HR.out, HF.out⟩

/-- What is left behind the first k bytes. -/
theorem bs_drop {w : World} {b o : Nat} {l : List UInt8} (hc : ∀ i (h : i < l.length), w.cell? ⟨b, o + i, none⟩ = some (.int .u8 l[i].toNat)) (k : Nat) (h : k ≤ l.length) : BsAt w (some ⟨b, o + k, none⟩) (l.drop k) := by
  refine .inr ⟨b, o + k, rfl, fun i hi => ?_⟩
  have hi' : k + i < l.length := by simp at hi; omega
  rw [Nat.add_assoc, hc (k + i) hi']
  simp
theorem fst_rdI {l : List UInt8} : (fstN l = none → rdI l = none) ∧ (∀ n k, fstN l = some (n, k) → rdI l = some (n, l.drop k)) := by
  unfold rdI; exact ⟨fun h => by rw [h], fun n k h => by rw [h]⟩

set_option maxRecDepth 100000 in
set_option maxHeartbeats 1000000 in
theorem rnum_any (N R : Nat) (w : World) (st : St) (h : RdB N w R st) (hNR : N ≤ R) :
    Calls Try.prog 48 #[.pointer (some ⟨R, 0, none⟩)] w fun e w' => e = .returned (.int .i64 (nI st).1) ∧ RdB N w' R (nI st).2 ∧ Fr [R] w w' := by
  cases st with
  | none =>
    have hb : Rb w R (.slice none 0 0) true := h
    have h0 := hb.c0
    have HF := first_any w none 0 [] (.inl rfl) (by simp)
    rw [show fstN [] = none from rfl] at HF
    have HS := spoil_any N R w _ _ hb
    clear h
    simp only [nI]
    go_enter Try.func48, Try.ntmps48
    go_wp2_with (first | (go_at_call 57; refine HF.mono ?_; rintro e w' ⟨rfl, rfl⟩; simp only [fstV]) | (go_at_call 49; refine HS.mono ?_; rintro e w1 ⟨rfl, r1, f1⟩; have r1' : Rb w1 R (.slice none 0 0) true := r1; have g0 := r1'.c0; have gz := r1'.fz))
    go_ret
    exact ⟨rfl, r1'.set0 _, f1.setCell (by simp) _⟩
  | some l =>
    obtain ⟨p, c, hb, hl, hN, hlc, hcm, hlen⟩ := h
    have h0 := hb.c0
    have HF := first_any w p c l hl hlen
    cases hf : fstN l with
    | none =>
      rw [hf] at HF
      have HS := spoil_any N R w _ _ hb
      simp only [nI, fst_rdI.1 hf]
      clear hl hf
      go_enter Try.func48, Try.ntmps48
      go_wp2_with (first | (go_at_call 57; refine HF.mono ?_; rintro e w' ⟨rfl, rfl⟩; simp only [fstV]) | (go_at_call 49; refine HS.mono ?_; rintro e w1 ⟨rfl, r1, f1⟩; have r1' : Rb w1 R (.slice none 0 0) true := r1; have g0 := r1'.c0; have gz := r1'.fz))
      go_ret
      exact ⟨rfl, r1'.set0 _, f1.setCell (by simp) _⟩
    | some pr =>
      obtain ⟨n, k⟩ := pr
      rw [hf] at HF
      obtain ⟨-, f2, f3, f4, f5, f6⟩ := fstN_some hf
      simp only [nI, fst_rdI.2 n k hf]
      have hz := hb.fz
      obtain ⟨b, o, rfl, hcc⟩ : ∃ b o, p = some ⟨b, o, none⟩ ∧ ∀ i (h : i < l.length), w.cell? ⟨b, o + i, none⟩ = some (.int .u8 l[i].toNat) := by
        rcases hl with rfl | h
        · simp at f5; omega
        · exact h
      have hbN := hN _ rfl (by intro e; subst e; simp at f5; omega)
      simp only at hbN
      have hdl : (l.drop k).length = l.length - k := List.length_drop
      have HB := Lib.hid (fun (p' : Option Addr) (c' : Nat) (hp : (c' = 0 ∧ l.length = k ∧ p' = some ⟨b, o, none⟩) ∨ (c' = c - k ∧ p' = some ⟨b, o + k, none⟩)) => show RdB N (w.setCell ⟨R, 0, none⟩ (.slice p' (l.length - k) c')) R (some (l.drop k)) from by
        have hst : ∀ (b' o' : Nat), b' < N → (w.setCell ⟨R, 0, none⟩ (.slice p' (l.length - k) c')).heap[b']? = w.heap[b']? := fun b' o' hb' => Below.heap_setCell _ _ _ _ (by simp; omega)
        refine ⟨p', c', by rw [hdl]; exact hb.set0 _, ?_, ?_, ?_, ?_, by omega⟩
        · rcases hp with ⟨-, hk, rfl⟩ | ⟨-, rfl⟩
          · exact .inl (List.drop_of_length_le (by omega))
          · exact (bs_drop hcc k f5).blocks (fun a ha _ => by simp at ha; subst ha; exact hst b 0 hbN)
        · intro a ha _
          rcases hp with ⟨-, -, rfl⟩ | ⟨-, rfl⟩ <;> (simp at ha; subst ha; exact hbN)
        · rcases hp with ⟨rfl, hk, -⟩ | ⟨rfl, -⟩ <;> omega
        · rcases hp with ⟨rfl, hk, -⟩ | ⟨rfl, -⟩ <;> omega)
      clear hl hf hcc
      have hk0 : ¬ (k : Int) = 0 := by omega
      have hkl : (k : Int) ≤ l.length := by omega
      by_cases hck : c = k
      · subst hck
        go_enter Try.func48, Try.ntmps48
        go_wp2_with (go_at_call 57; refine HF.mono ?_; rintro e w' ⟨rfl, rfl⟩; simp only [fstV])
        go_ret
        have hlk : l.length = c := by omega
        have hr := HB.out (some ⟨b, o, none⟩) 0 (.inl ⟨rfl, hlk, rfl⟩)
        rw [show l.length - c = 0 from by omega] at hr
        exact ⟨rfl, hr, (Fr.refl _ _).setCell (by simp) _⟩
      · go_enter Try.func48, Try.ntmps48
        go_wp2_with (go_at_call 57; refine HF.mono ?_; rintro e w' ⟨rfl, rfl⟩; simp only [fstV])
        go_ret
        exact ⟨rfl, HB.out _ _ (.inr ⟨rfl, rfl⟩), (Fr.refl _ _).setCell (by simp) _⟩
end Go.Proofs.Ytiofpimchbhfcab
