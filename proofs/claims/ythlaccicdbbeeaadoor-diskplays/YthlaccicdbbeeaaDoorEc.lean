/- The document's doing. -/
import Derived.Test.YthlaccicdbbeeaaDoorEb
namespace Go.Proofs.YthlaccicdbbeeaaDoor
open Go.RowKit
set_option linter.unusedVariables false

theorem del_len (l : Fl) (k : ByteArray) : (delP l k).length ≤ l.length := List.length_filter_le _ _
theorem put_len (k : ByteArray) (bs : List UInt8) : ∀ l : Fl, (putP k bs l).length = l.length + 1
  | [] => rfl
  | x :: l => by
    rw [putP]; split
    · simp
    · simp [put_len k bs l]
theorem doing_len (l : Fl) (w : Wk) : (doingP l w).length ≤ l.length + 1 := by
  unfold doingP
  split
  · rw [withP_put, put_len]; have := del_len l w.name; omega
  split
  · split
    · omega
    · rw [withP_put, put_len, withP_gone]; have := del_len l w.name; have := del_len (delP l w.name) w.to; omega
  split
  · rw [withP_gone]; have := del_len l w.name; omega
  · omega
theorem map_len {L L' : List En} {w : Wk} (h : L'.map En.pr = doingP (L.map En.pr) w) : L'.length ≤ L.length + 1 := by
  have h1 := doing_len (L.map En.pr) w
  rw [← h, List.length_map, List.length_map] at h1
  exact h1
/-- A thing as a value; its bytes lie where O says. -/
def wkV (k : Wk) (q : Option Addr) (c : Nat) : Value := .agg #[.int .i64 k.kind, .string k.name, .string k.to, .slice q k.bytes.length c, .int .i64 k.n]
def DoEnd (w : World) (O : Nat → Prop) (L : List En) (k : Wk) (e : Ending) (w' : World) : Prop :=
  ∃ A c' L', e = .returned (.slice A L'.length c') ∧ FlAt w' O A L' ∧ L'.map En.pr = doingP (L.map En.pr) k ∧ L'.length ≤ L.length + 1 ∧ Below w.heap.size w w'

theorem find_at {L : List En} {k : ByteArray} (h : ¬ findP k 0 (L.map En.pr) < 0) : ∃ j, ∃ hj : j < L.length, findP k 0 (L.map En.pr) = (j : Int) ∧ look (L.map En.pr) k = some L[j].bs := by
  cases e : look (L.map En.pr) k with
  | none => rw [find_none k _ 0 e] at h; omega
  | some b =>
    obtain ⟨j, hj, h1, h2⟩ := find_some k _ 0 b e
    refine ⟨j, by simpa using hj, by rw [h1]; simp, ?_⟩
    simp [En.pr] at h2
    rw [h2.2]

set_option maxRecDepth 100000 in
set_option maxHeartbeats 4000000 in
theorem doing_any (w : World) (O : Nat → Prop) (hO : ∀ b, w.heap.size ≤ b → O b) (p : Option Addr) (c : Nat) (L : List En) (hL : FlAt w O p L) (hl : L.length ≤ 100000) (m : Nat) (hm : m = L.length) (k : Wk) (q : Option Addr) (qc : Nat) (hq : BsO w O q k.bytes) :
    Calls Tryd.prog 36 #[.slice p m c, wkV k q qc] w (DoEnd w O L k) := by
  subst hm
  obtain ⟨kind, name, to, bs, n⟩ := k
  unfold wkV
  simp only at hq ⊢
  have hB0 : Below w.heap.size w (w.alloc (.cells #[.int .i64 kind, .string name, .string to, .slice q bs.length qc, .int .i64 n] 35)) := (Below.refl _ _).alloc (Nat.le_refl _) _
  have hO1 : ∀ b, (w.alloc (.cells #[.int .i64 kind, .string name, .string to, .slice q bs.length qc, .int .i64 n] 35)).heap.size ≤ b → O b := fun b hb => hO b (by simp at hb; omega)
  have hL1 := hL.below hB0
  have hq1 := hq.below hB0
  have hsz : w.heap.size ≤ (w.alloc (.cells #[.int .i64 kind, .string name, .string to, .slice q bs.length qc, .int .i64 n] 35)).heap.size := hB0.size
  generalize hR : DoEnd w O L ⟨kind, name, to, bs, n⟩ = R
  have HR := Lib.hid hR
  clear hR
  by_cases k1 : kind = 1
  · subst k1
    have HC := with_any _ O hO1 p c L hL1 (by omega) L.length rfl name q qc bs hq1 bs.length rfl false
    go_enter Tryd.func36, Tryd.ntmps36
    go_wp2_with (go_at_call 51; refine HC.mono ?_; rintro e w' ⟨A, c', L', rfl, h1, h2, h3, h4⟩)
    rw [← HR.out]
    exact ⟨A, c', L', rfl, h1, h2, h3, hB0.trans (h4.mono hsz)⟩
  by_cases k2 : kind = 2
  · subst k2
    have HF := find_any _ O p c L hL1 (by omega) L.length rfl name
    by_cases hf : findP name 0 (L.map En.pr) < 0
    · go_enter Tryd.func36, Tryd.ntmps36
      go_wp2_with (go_at_call 38; refine HF.mono ?_; rintro e w' ⟨rfl, rfl⟩)
      rw [← HR.out]
      exact ⟨p, c, L, rfl, hL1, by unfold doingP; simp [hf], by omega, hB0⟩
    · obtain ⟨j, hj, f1, f2⟩ := find_at hf
      have HC := with_any _ O hO1 p c L hL1 (by omega) L.length rfl name none 0 [] (BsO.nil _ _ _) 0 rfl true
      rcases hL1 with hL0 | ⟨b, o, rfl, hb, hL0⟩
      · subst hL0; simp at hj
      obtain ⟨c1, c2, c3⟩ := hL0 j hj
      rw [f1] at HF
      have hji : (j : Int) < L.length := by omega
      have HD : Hid (∀ w1 : World, Below (w.alloc (.cells #[.int .i64 2, .string name, .string to, .slice q bs.length qc, .int .i64 n] 35)).heap.size (w.alloc (.cells #[.int .i64 2, .string name, .string to, .slice q bs.length qc, .int .i64 n] 35)) w1 → ∀ A c' L', FlAt w1 O A L' → L'.length ≤ L.length + 1 → Calls Tryd.prog 51 #[.slice A L'.length c', .string to, .slice L[j].q L[j].bs.length L[j].c, .bool false] w1 fun e w' => ∃ A c' L'', e = .returned (.slice A L''.length c') ∧ FlAt w' O A L'' ∧ L''.map En.pr = withP (L'.map En.pr) to L[j].bs false ∧ L''.length ≤ L'.length + 1 ∧ Below w1.heap.size w1 w') := fun w1 hb1 A c' L' hA hlen =>
        with_any w1 O (fun b hb => hO1 b (Nat.le_trans hb1.size hb)) A c' L' hA (by omega) L'.length rfl to L[j].q L[j].c L[j].bs (c3.below hb1) L[j].bs.length rfl false
      have T2 : Hid (∀ w1 : World, Below (w.alloc (.cells #[.int .i64 2, .string name, .string to, .slice q bs.length qc, .int .i64 n] 35)).heap.size (w.alloc (.cells #[.int .i64 2, .string name, .string to, .slice q bs.length qc, .int .i64 n] 35)) w1 → w1.cell? ⟨w.heap.size, 2, none⟩ = some (.string to)) := fun w1 h => (h.cell (p := ⟨w.heap.size, 2, none⟩) (by simp)).trans (by simp)
      have HL := Lib.hid f2
      have HN := Lib.hid hf
      clear f1 f2 hf c1 c3 hL0
      go_enter Tryd.func36, Tryd.ntmps36
      go_wp2_with (first | (go_at_call 38; refine HF.mono ?_; rintro e w' ⟨rfl, rfl⟩) | (go_at_call 51; refine HC.mono ?_; clear HC; rintro e w1 ⟨A, c', L', rfl, h1, h2, h3, h4⟩; have t2 := T2.out w1 h4; have HC2 := Lib.hid (HD.out w1 h4 A c' L' h1 h3); clear HD T2; refine Hid.out ?_))
      refine Lib.hid ?_
      go_wp2_with fail
      refine HC2.out.mono ?_
      rintro e w2 ⟨A2, c2', L2, rfl, g1, g2, g3, g4⟩
      go_wp2
      rw [← HR.out]
      have hw : L2.map En.pr = doingP (L.map En.pr) ⟨2, name, to, bs, n⟩ := by
        unfold doingP
        rw [if_neg (show ¬ (2 : Int) = 1 by decide), if_pos rfl, if_neg (by have := HN.out; show ¬ findP name 0 (L.map En.pr) < 0; omega), g2, h2, HL.out]; rfl
      exact ⟨A2, c2', L2, rfl, g1, hw, map_len hw, hB0.trans ((h4.mono hsz).trans (g4.mono (Nat.le_trans hsz h4.size)))⟩
  by_cases k3 : kind = 3
  · subst k3
    have HC := with_any _ O hO1 p c L hL1 (by omega) L.length rfl name none 0 [] (BsO.nil _ _ _) 0 rfl true
    go_enter Tryd.func36, Tryd.ntmps36
    go_wp2_with (go_at_call 51; refine HC.mono ?_; rintro e w' ⟨A, c', L', rfl, h1, h2, h3, h4⟩)
    rw [← HR.out]
    exact ⟨A, c', L', rfl, h1, h2, h3, hB0.trans (h4.mono hsz)⟩
  · go_enter Tryd.func36, Tryd.ntmps36
    go_wp2
    rw [← HR.out]
    exact ⟨p, c, L, rfl, hL1, by unfold doingP; simp [k1, k2, k3], by omega, hB0⟩
end Go.Proofs.YthlaccicdbbeeaaDoor
