/- Whole numbers by lists of words: what the functions of weirgatebig do that the document's group of a key comes to. -/
import Derived.Test.YtbppiiomjmpjkabGreatDoorErr
import Derived.Laws.OwnMore
import Derived.Laws.Closers25b
import Derived.Deep.QuietTactic
import Derived.BigQuiet
namespace Go.Proofs.YtbppiiomjmpjkabGreatDoor
open Go.RowKit

/-- Words as cells. -/
def wcells (l : List Int) : List Value := l.map (Value.int .u32)
/-- How many of the first k words are left where noughts at the end are taken away. -/
def tl (l : List Int) : Nat → Nat
  | 0 => 0
  | k + 1 => if l.getD k 0 = 0 then tl l k else k + 1
def trm (l : List Int) : List Int := l.take (tl l l.length)
theorem tl_le (l : List Int) : ∀ k, tl l k ≤ k
  | 0 => Nat.le_refl _
  | k + 1 => by have := tl_le l k; unfold tl; split <;> omega
theorem tl_zero {l : List Int} {k : Nat} (h : l.getD k 0 = 0) : tl l (k + 1) = tl l k := by
  show (if l.getD k 0 = 0 then tl l k else k + 1) = _; rw [if_pos h]
theorem tl_stop {l : List Int} {k : Nat} (h : l.getD k 0 ≠ 0) : tl l (k + 1) = k + 1 := by
  show (if l.getD k 0 = 0 then tl l k else k + 1) = _; rw [if_neg h]

/-- The value v is a slice that owns just these words. -/
def Wds (w : World) (v : Value) (l : List Int) : Prop := w.ownsRow 0 94 1 v l.length (wcells l)

theorem Wds.at {w : World} {g n cap : Nat} {l : List Int} (h : Wds w (.slice (some ⟨g, 0, none⟩) n cap) l) (hn : n = l.length) (j : Nat) (hj : j < l.length) : w.cell? ⟨g, j, none⟩ = some (.int .u32 (l.getD j 0)) := by
  subst hn
  have h' : w.ownsRow 0 94 1 (.slice (some ⟨g, 0, none⟩) l.length cap) l.length (wcells l) := h
  rw [h'.cellAt j (by omega)]
  simp [wcells, List.getElem?_map, List.getElem?_eq_getElem hj, List.getD_eq_getElem?_getD]
theorem Wds.take {w : World} {g n cap : Nat} {l : List Int} (h : Wds w (.slice (some ⟨g, 0, none⟩) n cap) l) (k : Nat) (hk : k ≤ l.length) : Wds w (.slice (some ⟨g, 0, none⟩) k cap) (l.take k) := by
  obtain ⟨h1, h2⟩ := h
  rcases h2 with ⟨h0, _⟩ | ⟨g', cap', cur, h0, hb, hc, hn, hm, hs, ht⟩
  · simp at h0
  · simp at h0
    obtain ⟨rfl, rfl, rfl⟩ := h0
    have e : (l.take k).length = k := by simp; omega
    refine ⟨by simp [wcells], .inr ⟨g, cap, cur, by rw [e], hb, hc, by omega, hm, hs, ?_⟩⟩
    rw [e]
    simp only [Nat.mul_one] at ht ⊢
    rw [show cur.toList.take k = (cur.toList.take l.length).take k from by rw [List.take_take]; congr 1; omega, ht]
    simp [wcells, List.map_take]

theorem trm_of {l : List Int} {k : Nat} (hk : k ≤ l.length) (h : tl l l.length = k) : trm l = l.take k ∧ (trm l).length = k := by
  unfold trm; rw [h]; simp; omega
theorem ret_val {a b : Value} (h : a = b) : Ending.returned a = .returned b := by rw [h]

set_option maxHeartbeats 400000 in
/-- trim: the words without noughts at their end, in the same memory. -/
theorem trim_any (g cap : Nat) (l : List Int) (w : World) (h : Wds w (.slice (some ⟨g, 0, none⟩) l.length cap) l) (hl : l.length ≤ 1000000) (hc : l.length ≤ cap) :
    Calls Tryz.prog 77 #[.slice (some ⟨g, 0, none⟩) l.length cap] w fun e w' => e = .returned (.slice (some ⟨g, 0, none⟩) (trm l).length cap) ∧ w = w' ∧ Wds w (.slice (some ⟨g, 0, none⟩) (trm l).length cap) (trm l) := by
  go_enter Tryz.func77, Tryz.ntmps77
  go_wp2
  go_loop [3] (fun t => ∃ k : Nat, k ≤ l.length ∧ t = .int .i64 k ∧ Hid (tl l k = tl l l.length)) (fun t => (intOf t).toNat)
  case atStart => exact ⟨l.length, Nat.le_refl _, rfl, rfl⟩
  case round =>
    obtain ⟨k, hk, rfl, HK⟩ := hrel
    rcases k with _ | k
    · obtain ⟨e1, e2⟩ := trm_of (l := l) (k := 0) hk HK.out.symm
      have W := h.take 0 hk
      have HE : Hid ((trm l).length = 0) := e2
      rw [← e1] at W
      clear e1 e2
      go_wp2
      go_ret
      exact ⟨ret_val (by rw [HE.out]; rfl), rfl, by rw [HE.out]; exact W⟩
    · have hcell := h.at rfl k (by omega)
      by_cases hz : l.getD k 0 = 0
      · rw [hz] at hcell
        have HZ : Hid (l.getD k 0 = 0) := hz
        clear hz
        go_wp2
        exact ⟨⟨k, by omega, by go_num, (tl_zero HZ.out).symm.trans HK.out⟩, by simp [intOf]⟩
      · obtain ⟨e1, e2⟩ := trm_of (l := l) (k := k + 1) hk ((tl_stop hz).symm.trans HK.out).symm
        have W := h.take (k + 1) hk
        have HE : Hid ((trm l).length = k + 1) := e2
        rw [← e1] at W
        clear e1 e2
        obtain ⟨x, hx⟩ : ∃ x, x = l.getD k 0 := ⟨_, rfl⟩
        rw [← hx] at hcell hz
        clear hx
        have hz' : (x == 0) = false := by simpa using hz
        go_wp2
        go_ret
        exact ⟨ret_val (by rw [HE.out]; rfl), rfl, by rw [HE.out]; exact W⟩
end Go.Proofs.YtbppiiomjmpjkabGreatDoor
