/- Whole numbers made: words, give, SetInt64, NewInt. -/
import Derived.Test.YtbppiiomjmpjkabGreatDoorBig
namespace Go.Proofs.YtbppiiomjmpjkabGreatDoor
open Go.RowKit

/-- The words of a number. -/
def wd (x : Int) : List Int := trm [x % 4294967296, x / 4294967296]
/-- At block b lies the whole number of these words, not below 0. -/
def IntAt (w : World) (b : Nat) (l : List Int) : Prop := ∃ v, w.heap[b]? = some (.cells #[.bool false, v] 92 (0, 0)) ∧ Wds w v l

theorem bown_form {w : World} {B e size n : Nat} {v : Value} {xs : List Value} (h : w.ownsRow B e size v n xs) : ∃ A cap, v = .slice A n cap := by
  rcases h.2 with ⟨rfl, rfl⟩ | ⟨g, cap, cur, rfl, _⟩
  · exact ⟨_, _, rfl⟩
  · exact ⟨_, _, rfl⟩
theorem own_below {w w' : World} {B e size n : Nat} {v : Value} {xs : List Value} (h : w.ownsRow B e size v n xs) (hb : Below w.heap.size w w') : w'.ownsRow B e size v n xs := by
  refine ⟨h.1, ?_⟩
  rcases h.2 with h0 | ⟨g, cap, cur, rfl, h1, h2, h3⟩
  · exact .inl h0
  · exact .inr ⟨g, cap, cur, rfl, h1, by rw [hb.block g (Array.getElem?_eq_some_iff.1 h2).1]; exact h2, h3⟩
theorem Wds.below {w w' : World} {v : Value} {l : List Int} (h : Wds w v l) (hb : Below w.heap.size w w') : Wds w' v l := own_below h hb
theorem Wds.form {w : World} {v : Value} {l : List Int} (h : Wds w v l) : ∃ A cap, v = .slice A l.length cap := bown_form h
/-- A row of words is no block of a number: it stays where that block alone is written. -/
theorem Wds.grown {w w' : World} {v : Value} {l : List Int} {b : Nat} {c : Array Value} (h : Wds w v l) (hg : w.grownBy w' (some b)) (hb : w.heap[b]? = some (.cells c 92 (0, 0))) : Wds w' v l := by
  refine World.ownsRow.kept h hg ?_
  rcases h.2 with ⟨rfl, _⟩ | ⟨g, cap, cur, rfl, _, h2, _⟩
  · exact .inl rfl
  · refine .inr ?_
    intro e
    simp [Value.ownBlock] at e
    subst e
    rw [h2] at hb
    simp at hb
theorem IntAt.below {w w' : World} {b : Nat} {l : List Int} (h : IntAt w b l) (hb : Below w.heap.size w w') : IntAt w' b l := by
  obtain ⟨v, h1, h2⟩ := h
  exact ⟨v, by rw [hb.block b (Array.getElem?_eq_some_iff.1 h1).1]; exact h1, h2.below hb⟩
/-- Another number stays where one is written. -/
theorem IntAt.grown {w w' : World} {b z : Nat} {l : List Int} {c : Array Value} (h : IntAt w b l) (hg : w.grownBy w' (some z)) (hz : w.heap[z]? = some (.cells c 92 (0, 0))) (hne : b ≠ z) : IntAt w' b l := by
  obtain ⟨v, h1, h2⟩ := h
  exact ⟨v, by rw [hg.block b (Array.getElem?_eq_some_iff.1 h1).1 (by simpa using hne)]; exact h1, h2.grown hg hz⟩
theorem IntAt.lt {w : World} {b : Nat} {l : List Int} (h : IntAt w b l) : b < w.heap.size := by
  obtain ⟨v, h1, _⟩ := h
  exact (Array.getElem?_eq_some_iff.1 h1).1
theorem grown_trans {a b c : World} {z : Nat} (h : a.grownBy b (some z)) (k : b.grownBy c (some z)) : a.grownBy c (some z) :=
  ⟨k.os.trans h.os, k.tape.trans h.tape, k.output.trans h.output, Nat.le_trans h.size k.size, fun i hi hne => (k.block i (Nat.lt_of_lt_of_le hi h.size) hne).trans (h.block i hi hne)⟩
theorem grown_of_below {a b : World} {z : Option Nat} (h : Below a.heap.size a b) : a.grownBy b z := ⟨h.os, h.tape, h.output, h.size, fun i hi _ => h.block i hi⟩

theorem grown_setCell (w : World) (b i : Nat) (v : Value) : w.grownBy (w.setCell ⟨b, i, none⟩ v) (some b) :=
  ⟨rfl, rfl, rfl, by simp, fun k _ hne => heap_setCell_other w ⟨b, i, none⟩ k v (by simpa using hne)⟩

theorem words_any (x : Int) (w : World) (h0 : 0 ≤ x) (h1 : x < 18446744073709551616) :
    Calls Tryz.prog 76 #[.int .u64 x] w fun e w' => ∃ v, e = .returned v ∧ Wds w' v (wd x) ∧ Below w.heap.size w w' := by
  have W : Wds (w.alloc (.cells #[.int .u32 (x % 4294967296), .int .u32 (x / 4294967296)] 94)) (.slice (some ⟨w.heap.size, 0, none⟩) 2 2) [x % 4294967296, x / 4294967296] :=
    World.ownsRow_lit w #[.int .u32 (x % 4294967296), .int .u32 (x / 4294967296)] 2 (Nat.zero_le _) (by unfold maxLen; omega) rfl
  go_enter Tryz.func76, Tryz.ntmps76
  go_wp2_with fail
  refine (trim_any w.heap.size 2 [x % 4294967296, x / 4294967296] _ W (by simp) (by simp)).mono ?_
  rintro e w' ⟨rfl, rfl, hW⟩
  go_wp2
  go_ret
  exact ⟨_, rfl, hW, (Below.refl _ _).alloc (Nat.le_refl _) _⟩

theorem give_any (b : Nat) (f v0 v : Value) (l : List Int) (w : World) (hb : w.heap[b]? = some (.cells #[f, v0] 92 (0, 0))) (hv : Wds w v l) :
    Calls Tryz.prog 50 #[.pointer (some ⟨b, 0, none⟩), .bool false, v] w fun e w' => e = .returned (.pointer (some ⟨b, 0, none⟩)) ∧ IntAt w' b l ∧ w.grownBy w' (some b) := by
  obtain ⟨A, cap, rfl⟩ := hv.form
  have c0 : w.cell? ⟨b, 0, none⟩ = some f := by simp [World.cell?, hb]
  have c1 : w.cell? ⟨b, 1, none⟩ = some v0 := by simp [World.cell?, hb]
  have f0 : w.frozen? ⟨b, 0, none⟩ = false := by simp [World.frozen?, hb]
  have f1 : w.frozen? ⟨b, 1, none⟩ = false := by simp [World.frozen?, hb]
  have G : w.grownBy ((w.setCell ⟨b, 1, none⟩ (.slice A l.length cap)).setCell ⟨b, 0, none⟩ (.bool false)) (some b) := grown_trans (grown_setCell _ _ _ _) (grown_setCell _ _ _ _)
  have I : IntAt ((w.setCell ⟨b, 1, none⟩ (.slice A l.length cap)).setCell ⟨b, 0, none⟩ (.bool false)) b l := by
    refine ⟨.slice A l.length cap, ?_, hv.grown G hb⟩
    rw [heap_setCell_same _ _ _ _ _ _ (heap_setCell_same _ _ _ _ _ _ hb)]
    simp
  go_enter Tryz.func50, Tryz.ntmps50
  go_wp2
  go_ret
  exact ⟨rfl, I, G⟩

theorem SetInt64_any (b : Nat) (f v0 : Value) (x : Int) (w : World) (hb : w.heap[b]? = some (.cells #[f, v0] 92 (0, 0))) (h0 : 0 ≤ x) (h1 : x ≤ 9223372036854775807) :
    Calls Tryz.prog 47 #[.pointer (some ⟨b, 0, none⟩), .int .i64 x] w fun e w' => e = .returned (.pointer (some ⟨b, 0, none⟩)) ∧ IntAt w' b (wd x) ∧ w.grownBy w' (some b) := by
  have n0 : ¬ x < 0 := by omega
  go_enter Tryz.func47, Tryz.ntmps47
  go_wp2_with fail
  refine (words_any _ _ h0 (by omega)).mono ?_
  rintro e w1 ⟨v, rfl, hW, hb1⟩
  have hb' : w1.heap[b]? = some (.cells #[f, v0] 92 (0, 0)) := by rw [hb1.block b (Array.getElem?_eq_some_iff.1 hb).1]; exact hb
  go_wp2_with fail
  refine (give_any b f v0 v _ _ hb' hW).mono ?_
  rintro e w2 ⟨rfl, hI, hG⟩
  go_wp2
  go_ret
  exact ⟨rfl, hI, grown_trans (grown_of_below hb1) hG⟩

/-- NewInt: a new number. -/
theorem NewInt_any (x : Int) (w : World) (h0 : 0 ≤ x) (h1 : x ≤ 9223372036854775807) :
    Calls Tryz.prog 27 #[.int .i64 x] w fun e w' => e = .returned (.pointer (some ⟨w.heap.size, 0, none⟩)) ∧ IntAt w' w.heap.size (wd x) ∧ Below w.heap.size w w' := by
  have hb : (w.alloc (.cells #[.bool false, .slice none 0 0] 92)).heap[w.heap.size]? = some (.cells #[.bool false, .slice none 0 0] 92 (0, 0)) := heap_alloc_new w _
  go_enter Tryz.func27, Tryz.ntmps27
  go_wp2_with fail
  refine (SetInt64_any w.heap.size _ _ x _ hb h0 h1).mono ?_
  rintro e w2 ⟨rfl, hI, hG⟩
  go_wp2
  go_ret
  exact ⟨rfl, hI, ((Below.refl _ _).alloc (Nat.le_refl _) _).grown hG (by simp) (fun k hk => by simp at hk; omega)⟩
end Go.Proofs.YtbppiiomjmpjkabGreatDoor
