/- Less. -/
import Derived.Test.YthcgjbpiiodlgaaDoorPc
namespace Go.Proofs.YthcgjbpiiodlgaaDoor
open Go.RowKit Mp
set_option linter.unusedVariables false

noncomputable def lsE (W G : List Ln) : Nat := if bothE W G = 0 then (if prefP G W = true then 0 else 7) else bothE W G
noncomputable def lsN (W G : List Ln) : Int := if lsE W G = 0 then (manyP W : Int) - (manyP G : Int) else 0
theorem many_bd {L : List Ln} (h : LOk L) : manyP L ≤ 160000 := by
  have := many_le L L.length (Nat.le_refl _) (fun l hl => (h.one l hl).2)
  rw [List.take_length] at this
  have := h.len
  omega
set_option maxHeartbeats 1000000 in
theorem less_any (w : World) (la lb : Option Addr) (c d n m : Nat) (W G : List Ln) (ha : LnsAt w la W) (hb : LnsAt w lb G) (hn : n = W.length) (hm : m = G.length) (hl : n < 9223372036854775808) (hl2 : m < 9223372036854775808) :
    Calls Tryd.prog 14 #[.slice la n c, .slice lb m d] w fun e w' => e = .returned (.tuple #[.int .i64 (lsN W G), errV (lsE W G)]) ∧ Below w.heap.size w w' := by
  have HB := Lib.hid (both_any w la lb c d n m W G ha hb hn hm hl hl2)
  by_cases h0 : bothE W G = 0
  · obtain ⟨okW, okG⟩ := both_ok h0
    have hn4 : n ≤ 400 := by rw [hn]; exact okW.len
    have hm4 : m ≤ 400 := by rw [hm]; exact okG.len
    have hB := HB.out
    rw [h0] at hB
    have HBB := Lib.hid hB
    have HP := Lib.hid (fun (u : World) (hu : Below w.heap.size w u) => prefix_any (w := u) (la := lb) (lb := la) (a := G) (b := W) d c (lns_b hb hu) (by omega) (by omega) (lns_b ha hu))
    rw [← hn, ← hm] at HP
    have HM1 := Lib.hid (fun (u : World) (hu : Below w.heap.size w u) => many_any u la c n W (lns_b ha hu) hn hn4 (fun l hl => (okW.one l hl).2))
    have HM2 := Lib.hid (fun (u : World) (hu : Below w.heap.size w u) => many_any u lb d m G (lns_b hb hu) hm hm4 (fun l hl => (okG.one l hl).2))
    have q1 := many_bd okW
    have q2 := many_bd okG
    have HE1 : Hid (prefP G W = true → lsE W G = 0 ∧ lsN W G = (manyP W : Int) - (manyP G : Int)) := fun e => by
      have : lsE W G = 0 := by unfold lsE; rw [if_pos h0, if_pos e]
      exact ⟨this, by unfold lsN; rw [if_pos this]⟩
    have HE2 : Hid (prefP G W = false → lsE W G = 7 ∧ lsN W G = 0) := fun e => by
      have : lsE W G = 7 := by unfold lsE; rw [if_pos h0, if_neg (by rw [e]; simp)]
      exact ⟨this, by unfold lsN; rw [if_neg (by rw [this]; omega)]⟩
    generalize prefP G W = pp at *
    generalize manyP W = x at *
    generalize manyP G = y at *
    clear h0 okW okG hB hn hm HB hl hl2 ha hb
    have e0 : errV 0 = .nilIface := rfl
    go_enter Tryd.func14, Tryd.ntmps14
    go_wp2_with fail
    refine HBB.out.mono ?_
    rintro e w1 ⟨rfl, b1⟩
    have H1 := Lib.hid (HP.out w1 b1)
    have HB1 := Lib.hid b1
    clear b1
    go_wp2_with fail
    refine H1.out.mono ?_
    rintro e w2 ⟨rfl, b2⟩
    have b2' := below_after b2 HB1.out
    have H2 := Lib.hid (HM1.out w2 b2')
    have HB2 := Lib.hid b2'
    clear b2 b2'
    cases pp with
    | true =>
      obtain ⟨hE, hN⟩ := HE1.out rfl
      have HE := Lib.hid hE
      have HN := Lib.hid hN
      clear hE hN
      go_wp2_with fail
      refine H2.out.mono ?_
      rintro e w3 ⟨rfl, b3⟩
      have b3' := below_after b3 HB2.out
      have H3 := Lib.hid (HM2.out w3 b3')
      have HB3 := Lib.hid b3'
      clear b3 b3'
      go_wp2_with fail
      refine H3.out.mono ?_
      rintro e w4 ⟨rfl, b4⟩
      have HB4 := Lib.hid (below_after b4 HB3.out)
      clear b4
      go_wp2_with fail
      go_ret2
      exact ⟨by rw [HE.out, HN.out]; rfl, HB4.out⟩
    | false =>
      obtain ⟨hE, hN⟩ := HE2.out rfl
      have HE := Lib.hid hE
      have HN := Lib.hid hN
      clear hE hN
      go_wp2_with fail
      go_ret2
      exact ⟨by rw [HE.out, HN.out]; rfl, HB2.out⟩
  · obtain ⟨tv, hv⟩ := errV_ne h0
    have HE : Hid (lsE W G = bothE W G) := by show _ = _; unfold lsE; rw [if_neg h0]
    have HN : Hid (lsN W G = 0) := by show _ = _; unfold lsN; rw [if_neg (by rw [HE.out]; exact h0)]
    have hB := HB.out
    rw [hv] at hB
    have HBB := Lib.hid hB
    have HV := Lib.hid hv
    clear hB HB h0 hv ha hb hn hm
    go_enter Tryd.func14, Tryd.ntmps14
    go_wp2_with fail
    refine HBB.out.mono ?_
    rintro e w1 ⟨rfl, b1⟩
    have HB1 := Lib.hid b1
    clear b1
    go_wp2_with fail
    go_ret2
    exact ⟨by rw [HE.out, HV.out, HN.out]; rfl, HB1.out⟩
end Go.Proofs.YthcgjbpiiodlgaaDoor
