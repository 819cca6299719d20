import Derived.Test.YthadeccnibnioaaGreatDoorHn
import Derived.Test.YthadeccnibnioaaGreatDoorHp
import Derived.Test.YthadeccnibnioaaGreatDoorSz1
import Derived.Laws.BytesArg
/- The document's Digits. -/
namespace Go.Proofs.YthadeccnibnioaaGreatDoor
open Go.RowKit
open Go.Lib (decDigits itoa)
set_option linter.unusedVariables false

theorem text_zero {w : World} {b : Nat} {neg : Bool} (hI : IntV w b neg 0) :
    Calls Tryz.prog 116 #[.pointer (some ⟨b, 0, none⟩), .int .i64 10] w fun e w' => e = .returned (.string ⟨(decDigits 0).toArray⟩) ∧ w = w' := by
  obtain ⟨v, hb, A, cap, rfl, -, -⟩ := hI
  have c1 : w.cell? ⟨b, 1, none⟩ = some (.slice A (wl 0).length cap) := by simp [World.cell?, hb]
  rw [wl_zero] at c1
  have hd : decDigits 0 = [48] := by rw [decDigits]; rfl
  rw [hd]
  simp only [List.length_nil] at c1
  clear hb
  go_enter Tryz.func116, Tryz.ntmps116
  go_wp2_with fail
  go_ret
  exact ⟨rfl, rfl⟩
theorem ito_eq (n : Int) : (if decide (n < 0) = true then [45] else []) ++ decDigits n.natAbs = itoa n := by
  unfold itoa
  by_cases h : n < 0
  · rw [if_pos h, if_pos (by simpa using h)]; rfl
  · rw [if_neg h, if_neg (by simpa using h), show n.natAbs = n.toNat by omega]; rfl
theorem text_of {w : World} {b : Nat} {n : Int} (h0 : -9223372036854775808 ≤ n) (h1 : n ≤ 9223372036854775807) (hI : IntV w b (decide (n < 0)) n.natAbs) :
    Calls Tryz.prog 116 #[.pointer (some ⟨b, 0, none⟩), .int .i64 10] w fun e w' => e = .returned (.string (itoB n)) ∧ Below w.heap.size w w' := by
  by_cases hz : n = 0
  · subst hz
    refine (text_zero hI).mono ?_
    rintro e w' ⟨rfl, rfl⟩
    exact ⟨by unfold itoB; rw [← ito_eq]; rfl, Below.refl _ _⟩
  · refine (text_any hI (by omega) (by omega)).mono ?_
    rintro e w' ⟨rfl, hb⟩
    exact ⟨by unfold itoB; rw [← ito_eq], hb⟩
theorem string_of {w : World} {b : Nat} {n : Int} (h0 : -9223372036854775808 ≤ n) (h1 : n ≤ 9223372036854775807) (hI : IntV w b (decide (n < 0)) n.natAbs) :
    Calls Tryz.prog 72 #[.pointer (some ⟨b, 0, none⟩)] w fun e w' => e = .returned (.string (itoB n)) ∧ Below w.heap.size w w' := by
  have H := text_of h0 h1 hI
  clear hI
  go_enter Tryz.func72, Tryz.ntmps72
  go_wp2_with (go_at_call 116; refine H.mono ?_; rintro e u1 ⟨rfl, b1⟩; refine Hid.out ?_)
  refine Lib.hid ?_
  go_wp2_with fail
  go_ret
  exact ⟨rfl, b1⟩
theorem digs_any (w : World) (n : Int) (h0 : -9223372036854775808 ≤ n) (h1 : n ≤ 9223372036854775807) :
    Calls Tryz.prog 34 #[.int .i64 n] w fun e w' => e = .returned (.string (itoB n)) ∧ Below w.heap.size w w' := by
  have H1 := newint_any w n h0 h1
  have H2 := Lib.hid (fun (u : World) (hI : IntV u w.heap.size (decide (n < 0)) n.natAbs) => string_of h0 h1 hI)
  go_enter Tryz.func34, Tryz.ntmps34
  go_wp2_with (go_at_call 38; refine H1.mono ?_; rintro e u1 ⟨rfl, hI, b1⟩; refine Hid.out ?_)
  refine Lib.hid ?_
  have H3 := H2.out u1 hI
  clear H1 H2 hI
  go_wp2_with (go_at_call 72; refine H3.mono ?_; rintro e u2 ⟨rfl, b2⟩; refine Hid.out ?_)
  refine Lib.hid ?_
  go_wp2_with fail
  go_ret
  exact ⟨rfl, b1.trans (b2.mono b1.size)⟩
end Go.Proofs.YthadeccnibnioaaGreatDoor

/- The document's Text of a tree. -/
namespace Go.Proofs.YthadeccnibnioaaGreatDoor
open Go.RowKit
open Go.Lib (decDigits itoa)
set_option linter.unusedVariables false
def bb (l : List UInt8) : ByteArray := ⟨l.toArray⟩
def opOk (op : UInt8) : Prop := op ∈ [61, 60, 62, 43, 45, 42, 47, 37, 109, 77]
theorem TrV.bel {S : Nat → Prop} {w w' : World} {t : Tm} {v : Tv} (h : TrV S w t v) (hb : Below w.heap.size w w') : TrV S w' t v := TrV.keep (fun p o _ ho => by rw [hb.block p (some_lt ho)]; exact ho) t v h
abbrev tvV (v : Tv) : Value := .agg #[.int .i64 v.a, .int .i64 v.b, .slice v.A v.n v.c]
end Go.Proofs.YthadeccnibnioaaGreatDoor

/- The document's Text, of every tree. -/
namespace Go.Proofs.YthadeccnibnioaaGreatDoor
open Go.RowKit
open Go.Lib (decDigits itoa)
set_option linter.unusedVariables false
theorem boxed (w : World) (a b : Int) (A : Option Addr) (n c : Nat) : Below w.heap.size w (w.alloc (.cells #[.int .i64 a, .int .i64 b, .slice A n c] 24)) := (Below.refl _ _).alloc (Nat.le_refl _) _
/-- A kid's three cells, in a world that keeps the row. -/
theorem kid {u : World} {q k : Nat} {cs : Array Value} {ty : TypeId} {x : Tv} (h : u.heap[q]? = some (.cells cs ty (0, 0))) (h0 : cs[k]? = some (.int .i64 x.a)) (h1 : cs[k + 1]? = some (.int .i64 x.b)) (h2 : cs[k + 2]? = some (.slice x.A x.n x.c)) :
    u.cell? ⟨q, k, none⟩ = some (.int .i64 x.a) ∧ u.cell? ⟨q, k + 1, none⟩ = some (.int .i64 x.b) ∧ u.cell? ⟨q, k + 2, none⟩ = some (.slice x.A x.n x.c) := by
  simp only [World.cell?, h]; exact ⟨h0, h1, h2⟩
end Go.Proofs.YthadeccnibnioaaGreatDoor

/- The document's Text: two kids; every tree. -/
namespace Go.Proofs.YthadeccnibnioaaGreatDoor
open Go.RowKit
open Go.Lib (decDigits itoa)
set_option linter.unusedVariables false
end Go.Proofs.YthadeccnibnioaaGreatDoor
