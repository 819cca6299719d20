/- The calls on a store: Get, Fresh; what fits. -/
import Derived.Test.YtckjcjoheeobgaaGreatDoorLb
import Derived.Laws.Cover1
namespace Go.Proofs.YtckjcjoheeobgaaGreatDoor
open Go.RowKit
open Go.Maps (string_keyed)
open Go.Shelf Go.Sort
set_option linter.unusedVariables false

theorem cloneStr_any (x : ByteArray) (w : World) (hx : x.size ≤ 281474976710656) : Calls Tryz.prog 44 #[.string x] w fun e w' => e = .returned (.string x) ∧ Below w.heap.size w w' := by
  have H := Tryz.stringslite_Clone x w hx
  go_enter Tryz.func44, Tryz.ntmps44
  go_wp2_with (go_at_call 66; refine H.mono ?_; rintro e w' ⟨rfl, hb⟩)
  go_ret
  exact ⟨rfl, hb⟩
/-- A table, copied. -/
theorem bclone_any (w : World) (t : Tab) (h : TabOk w t) :
    Calls Tryz.prog 38 #[tabV t] w fun e w' => ∃ u : Tab, e = .returned (tabV u) ∧ u.2.2 = t.2.2 ∧ TabOk w' u ∧ LyAt w' u.1 5 ∧ Below w.heap.size w w' := by
  obtain ⟨p, c, x⟩ := t
  obtain ⟨hx, hlen, hcap, hcm⟩ := h
  simp only at hx hlen hcap hcm
  cases p with
  | some a =>
    refine (clone_any w a x.length c x hx rfl hlen).mono ?_
    rintro e w' ⟨v', rfl, ho, hb⟩
    obtain ⟨A, cap, rfl, hz⟩ := own_bz ho
    exact ⟨(A, cap, x), rfl, rfl, ⟨hz.1, hlen, hz.2.1, hz.2.2⟩, LyAt.of ho, hb⟩
  | none =>
    have hx0 : x = [] := by
      rcases hx with h | ⟨b, o, h, -⟩
      · exact h
      · cases h
    subst hx0
    have q22 : ∀ (w : World) (a : Option Addr) (n c n' c' : Nat), (binOp .eql 56 (.slice a n c) (.slice none n' c')).run Tryz.prog w = .ok (.bool a.isNone) w := fun w a n c n' c' => Lib.run_eql_slice_nil w _ _ a n c n' c' Tryz.underlying56
    unfold tabV
    go_enter Tryz.func38, Tryz.ntmps38
    go_wp2_with fail
    go_ret
    exact ⟨(none, 0, []), rfl, rfl, ⟨.inl rfl, by simp, by simp, by simp⟩, .inl rfl, Below.refl _ _⟩

/-- A look-up, wherever the map's block lies as it lay. -/
theorem LastIs.look {w : World} {M : Nat} {l : List En} (h : LastIs w M l) (k : ByteArray) (hk : k.size ≤ maxLen) (u : World) (hu : u.heap[M]? = w.heap[M]?) :
    (Instr.lookup 63 (.map (some M)) (.string k) true).run Tryz.prog u = .ok (.tuple #[enV ((atK l k.data.toList).getD en0), .bool (atK l k.data.toList).isSome]) u := by
  obtain ⟨D, h1, h2⟩ := h.block hu
  obtain ⟨v, ps, hrun, hv⟩ := h1.look_ok (e := 40) (t := 63) hKs Tryz.underlying63 (Tryz.zeroValue40 u) (enR_mk en0) (key_of k hk)
  rw [h2.at_] at hv
  rw [hrun, enR_inv hv, h2.has]; rfl
theorem LastIs.look1 {w : World} {M : Nat} {l : List En} (h : LastIs w M l) (k : ByteArray) (hk : k.size ≤ maxLen) (u : World) (hu : u.heap[M]? = w.heap[M]?) :
    (Instr.lookup 63 (.map (some M)) (.string k) false).run Tryz.prog u = .ok (enV ((atK l k.data.toList).getD en0)) u := by
  obtain ⟨D, h1, h2⟩ := h.block hu
  obtain ⟨v, ps, hrun, hv⟩ := h1.lookup (e := 40) (t := 63) hKs Tryz.underlying63 (Tryz.zeroValue40 u) (enR_mk en0) (key_of k hk)
  rw [h2.at_] at hv
  rw [hrun, enR_inv hv]; rfl
theorem LastIs.len {w : World} {M : Nat} {l : List En} (h : LastIs w M l) (hr : Ris l) (u : World) (hu : u.heap[M]? = w.heap[M]?) (ty : TypeId) :
    (Builtin.len_ #[63] ty #[.map (some M)]).run Tryz.prog u = .ok (.int .i64 l.length) u := by
  obtain ⟨D, h1, h2⟩ := h.block hu
  rw [h1.len Tryz.underlying63 ty, last_len h1 h2 hr]
theorem FrIs.len {w : World} {M : Nat} {l : List (List UInt8)} (h : FrIs w M l) (hr : l.Nodup) (u : World) (hu : u.heap[M]? = w.heap[M]?) (ty : TypeId) :
    (Builtin.len_ #[64] ty #[.map (some M)]).run Tryz.prog u = .ok (.int .i64 l.length) u := by
  obtain ⟨D, h1, h2⟩ := h.block hu
  rw [h1.len Tryz.underlying64 ty, fr_len h1 h2 hr]
section
variable {lo : Nat} {w w' : World} {S Ml Mf : Nat} {v : Value} {s : Sto}

theorem get_ways (s : Sto) (k : List UInt8) : (atK s.all k = none ∧ getE s k = 6 ∧ getV s k = ⟨#[]⟩) ∨ (∃ e, atK s.all k = some e ∧ e.dead = true ∧ getE s k = 6 ∧ getV s k = ⟨#[]⟩) ∨ ∃ e, atK s.all k = some e ∧ e.dead = false ∧ getE s k = 0 ∧ getV s k = e.val := by
  unfold getE getV
  cases h : atK s.all k with
  | none => left; simp
  | some e =>
    cases hd : e.dead with
    | true => right; left; exact ⟨e, rfl, hd, by simp [hd], by simp [hd]⟩
    | false => right; right; exact ⟨e, rfl, hd, by simp [hd], by simp [hd]⟩
set_option maxHeartbeats 1000000 in
theorem get_any (h : StAt lo w S Ml Mf v s) (k : ByteArray) (hk : k.size ≤ maxLen) : Calls Tryz.prog 16 #[.pointer (some ⟨S, 0, none⟩), .string k] w fun e w' => e = .returned (.tuple #[.string (getV s k.data.toList), errV (getE s k.data.toList)]) ∧ Below w.heap.size w w' := by
  obtain ⟨c0, c1, c2, c3⟩ := h.cell
  have hl := h.last.look k hk w rfl
  rcases get_ways s k.data.toList with ⟨h1, h2, h3⟩ | ⟨e, h1, hd, h2, h3⟩ | ⟨e, h1, hd, h2, h3⟩
  · rw [h1] at hl
    rw [h2, h3]
    simp only [Option.getD_none, Option.isSome_none, enV, en0] at hl
    clear h h1 h2 h3
    go_enter Tryz.func16, Tryz.ntmps16
    go_wp2_with fail
    go_ret2
    exact ⟨rfl, (Below.refl _ _).alloc (Nat.le_refl _) _⟩
  · rw [h1] at hl
    rw [h2, h3]
    obtain ⟨ek, ev, ed⟩ := e
    simp only [Option.getD_some, Option.isSome_some, enV] at hl hd
    subst hd
    clear h h1 h2 h3
    go_enter Tryz.func16, Tryz.ntmps16
    go_wp2_with fail
    go_ret2
    exact ⟨rfl, (Below.refl _ _).alloc (Nat.le_refl _) _⟩
  · rw [h1] at hl
    rw [h2, h3]
    obtain ⟨ek, ev, ed⟩ := e
    simp only [Option.getD_some, Option.isSome_some, enV] at hl hd ⊢
    subst hd
    clear h h1 h2 h3
    go_enter Tryz.func16, Tryz.ntmps16
    go_wp2_with fail
    go_ret2
    exact ⟨rfl, (Below.refl _ _).alloc (Nat.le_refl _) _⟩
end
/-- Does an entry lie there, and is it not dead? -/
def fitE (low high : ByteArray) (e : En) : Bool := !e.dead && inE low high e
set_option maxHeartbeats 1000000 in
theorem scan1_any (w : World) (e : En) (low high : ByteArray) (bl bh : Nat) (h1 : w.cell? ⟨bl, 0, none⟩ = some (.string low)) (h2 : w.cell? ⟨bh, 0, none⟩ = some (.string high)) :
    Calls Tryz.prog 36 #[.agg #[.string e.key, .string e.val, .bool e.dead], .pointer (some ⟨bl, 0, none⟩), .pointer (some ⟨bh, 0, none⟩)] w fun r w' => r = .returned (.bool (fitE low high e)) ∧ w' = w.alloc (.cells #[.string e.key, .string e.val, .bool e.dead] 40) := by
  obtain ⟨key, val, dead⟩ := e
  have l1 := cell_lt h1
  have l2 := cell_lt h2
  cases dead with
  | true =>
    simp only [fitE, Bool.not_true, Bool.false_and]
    go_enter Tryz.func36, Tryz.ntmps36
    go_wp2_with fail
    go_ret
    exact ⟨rfl, rfl⟩
  | false =>
    rcases in_ways low high key val false with ⟨hin, hx⟩ | ⟨hin, hx, hy⟩ | ⟨hin, hx, hy, hz⟩ | ⟨hin, hx, hy, hz⟩
    all_goals
      simp only [fitE, hin, Bool.not_false, Bool.true_and]
      clear hin
      go_enter Tryz.func36, Tryz.ntmps36
      go_wp2_with fail
      go_ret
      exact ⟨rfl, rfl⟩
theorem flush1_any (w : World) (e : En) :
    Calls Tryz.prog 32 #[.agg #[.string e.key, .string e.val, .bool e.dead]] w fun r w' => r = .returned (.bool true) ∧ w' = w.alloc (.cells #[.string e.key, .string e.val, .bool e.dead] 40) := by
  obtain ⟨key, val, dead⟩ := e
  go_enter Tryz.func32, Tryz.ntmps32
  go_wp2_with fail
  go_ret
  exact ⟨rfl, rfl⟩
end Go.Proofs.YtckjcjoheeobgaaGreatDoor
