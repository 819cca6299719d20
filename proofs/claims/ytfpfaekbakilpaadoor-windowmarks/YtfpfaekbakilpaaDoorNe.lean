/- WindowMarks walked. -/
import Derived.Test.YtfpfaekbakilpaaDoorNc
import Derived.Test.YtfpfaekbakilpaaDoorMe
import Derived.Test.YtfpfaekbakilpaaDoorErr
namespace Go.Proofs.YtfpfaekbakilpaaDoor
open Go.RowKit
set_option linter.unusedVariables false

theorem filt_ins (L : List Li) : insL (L.filter neL) = (L.map (·.l)).filter neB := by
  unfold insL
  rw [List.filter_map]
  rfl
theorem marks_doc (slack : Int) (L : List Li) (h : (allR L).length ≤ 400) : marksP slack L = docS slack (L.map (·.l)) 400 := by
  unfold marksP
  rw [filt_ins, least_doc, docS_all]
  intro l hl
  obtain ⟨x, hx, rfl⟩ := List.mem_map.1 hl
  obtain ⟨i, hi, rfl⟩ := List.getElem_of_mem hx
  have h1 := allR_le L (i + 1)
  rw [allR_take L i hi, List.length_append] at h1
  omega
theorem isame_nil (w : World) : Calls Tryd.prog 15 #[.slice none 0 0, .slice none 0 0] w fun e w' => e = .returned (.bool true) ∧ Below w.heap.size w w' :=
  isame_any w none none 0 0 [] (.inl rfl) (.inl rfl) (by simp)
set_option maxRecDepth 100000 in
set_option maxHeartbeats 1000000 in
theorem wmarks_no (w : World) (la : Option Addr) (c : Nat) (n : Nat) (slack : Int) (E : Nat) (hg : w.cell? ⟨0, 0, none⟩ = some ET)
    (HS : Calls Tryd.prog 13 #[.slice la n c, .int .i64 slack] w fun e w' => e = .returned (.tuple #[.slice none 0 0, .int .i64 (E : Nat)]) ∧ Below w.heap.size w w')
    (HW : ∀ u, Below w.heap.size w u → Calls Tryd.prog 14 #[.slice la n c, .int .i64 slack] u fun e w' => e = .returned (.tuple #[.slice none 0 0, .iface 52 (.int .i64 (E : Nat))]) ∧ Below u.heap.size u w') :
    Calls Tryd.prog 5 #[.slice la n c, .int .i64 slack] w fun e w' => e = .returned (.bool true) ∧ Below w.heap.size w w' := by
  have HEt := Lib.hid (fun (u : World) (hu : Below w.heap.size w u) => error_hit (E : Nat) u (et_below hg hu))
  have HW' := Lib.hid HW
  clear hg HW
  go_enter Tryd.func5, Tryd.ntmps5
  go_wp2_with (go_at_call 13; refine HS.mono ?_; rintro e u1 ⟨rfl, b1⟩; refine Hid.out ?_)
  refine Lib.hid ?_
  have HW1 := HW'.out u1 b1
  clear HS HW'
  go_wp2_with (go_at_call 14; refine HW1.mono ?_; rintro e u2 ⟨rfl, b2'⟩; refine Hid.out ?_)
  refine Lib.hid ?_
  have b2 := below_after b2' b1
  have HE1 := HEt.out u2 b2
  clear HW1 b2' HEt
  go_wp2_with (go_at_call 8; refine HE1.mono ?_; rintro e u3 ⟨rfl, b3'⟩; refine Hid.out ?_)
  refine Lib.hid ?_
  have b3 := below_after b3' b2
  clear HE1 b3'
  go_wp2_with (go_at_call 15; refine (isame_nil _).mono ?_; rintro e u4 ⟨rfl, b4'⟩; refine Hid.out ?_)
  refine Lib.hid ?_
  have b4 := below_after b4' b3
  clear b4'
  go_wp2_with fail
  go_ret
  exact ⟨rfl, b4⟩
set_option maxRecDepth 100000 in
set_option maxHeartbeats 1000000 in
theorem wmarks_walk (w : World) (la : Option Addr) (c : Nat) (L : List Li) (slack : Int) (h : CsAt w la (L.map liV)) (hr : ∀ x ∈ L, CsAt w x.at_ (rcells x.l)) (hL : L.length ≤ 9223372036854775807) (hls : ∀ x ∈ L, x.l.length ≤ reachBytes) (hks : ∀ x ∈ L, ∀ r ∈ x.l, r.key.size ≤ 9223372036854775807) (hg : w.cell? ⟨0, 0, none⟩ = some ET) :
    Calls Tryd.prog 5 #[.slice la L.length c, .int .i64 slack] w fun e w' => e = .returned (.bool true) ∧ Below w.heap.size w w' := by
  have hrb : reachBytes = 140737488351232 := by decide
  by_cases h4 : 4 < L.length
  · refine wmarks_no w la c L.length slack 4 hg ?_ (fun u hu => ?_)
    · refine (smarks_many w la c L slack h h4 hL (fun x hx => by have := hls x hx; omega)).mono ?_
      rintro e w' ⟨rfl, rfl⟩
      exact ⟨rfl, Below.refl _ _⟩
    · have := marks_full u la c L.length slack h4 hL
      rw [errV_ne (by decide)] at this
      exact this
  have hL4 : L.length ≤ 4 := by omega
  have hsum : (allR L).length ≤ 4 * 140737488351232 := by
    have : ∀ M : List Li, (∀ x ∈ M, x.l.length ≤ 140737488351232) → (allR M).length ≤ M.length * 140737488351232 := by
      intro M
      induction M with
      | nil => intro _; simp [allR]
      | cons x M ih =>
        intro hM
        have h1 := ih (fun y hy => hM y (by simp [hy]))
        have h2 := hM x (by simp)
        have e : (allR (x :: M)).length = x.l.length + (allR M).length := by simp [allR]
        rw [e, List.length_cons, Nat.add_mul]; omega
    have h1 := this L (fun x hx => by have := hls x hx; omega)
    have h2 : L.length * 140737488351232 ≤ 4 * 140737488351232 := Nat.mul_le_mul_right _ hL4
    exact Nat.le_trans h1 h2
  have hks2 : ∀ r ∈ allR L, r.key.size ≤ 9223372036854775807 := fun r hr => by
    obtain ⟨x, hx, hxr⟩ := List.mem_flatMap.1 hr
    exact hks x hx r hxr
  have HS := smarks_small w la c L slack h hr hL4 (by omega) hks2
  have hsm : smE L slack = if recsE (allR L) ≠ 0 then recsE (allR L) else if slackB slack then 0 else 1 := by
    unfold smE recsE
    by_cases g1 : 400 < (allR L).length
    · simp [g1]
    · by_cases g2 : (allR L).any badR = true
      · simp [g1, h4, g2]
      · simp [g1, h4, g2]
  by_cases hE : recsE (allR L) = 0
  · rw [if_neg (by simpa using hE)] at hsm
    cases hs : slackB slack with
    | false =>
      have e1 : smE L slack = 1 := by rw [hsm, hs]; rfl
      rw [e1] at HS
      refine wmarks_no w la c L.length slack 1 hg ?_ (fun u hu => ?_)
      · refine HS.mono ?_
        rintro e w' (⟨-, h1, h2⟩ | ⟨h1, -⟩)
        · exact ⟨h1, h2⟩
        · cases h1
      · have := marks_slack u la c L slack (h.keep hu) (fun x hx => (hr x hx).keep hu) hL4 (by omega) hks2 hE hs
        rw [errV_ne (by decide)] at this
        exact this
    | true =>
      have e1 : smE L slack = 0 := by rw [hsm, hs]; rfl
      rw [e1] at HS
      have HS0 : Calls Tryd.prog 13 #[.slice la L.length c, .int .i64 slack] w fun e w' => ∃ A cap, e = .returned (.tuple #[.slice A (docS slack (L.map (·.l)) 400).length cap, .int .i64 0]) ∧ CsAt w' A ((docS slack (L.map (·.l)) 400).map (Value.int .i64)) ∧ Below w.heap.size w w' := by
        refine HS.mono ?_
        rintro e w' (⟨h1, -⟩ | ⟨-, h1⟩)
        · exact absurd rfl h1
        · exact h1
      have hd := marks_doc slack L (recs_ok hE).1
      have HW := Lib.hid (fun (u : World) (hu : Below w.heap.size w u) => marks_yes u la c L slack (h.keep hu) (fun x hx => (hr x hx).keep hu) hL4 hE hs)
      have hlen : (docS slack (L.map (·.l)) 400).length ≤ 400 * 4 := by
        have := docS_len slack (L.map (·.l)) 400
        rw [List.length_map] at this
        exact Nat.le_trans this (Nat.mul_le_mul_left _ hL4)
      rw [hd] at HW
      clear HS hd h hr hls hks hks2 hsum hsm hE hs e1
      generalize docS slack (L.map (·.l)) 400 = D at *
      go_enter Tryd.func5, Tryd.ntmps5
      go_wp2_with (go_at_call 13; refine HS0.mono ?_; rintro e u1 ⟨A1, c1, rfl, hC1, b1⟩; refine Hid.out ?_)
      refine Lib.hid ?_
      have HW1 := HW.out u1 b1
      have HC1 := Lib.hid hC1
      clear HS0 HW hC1
      go_wp2_with (go_at_call 14; refine HW1.mono ?_; rintro e u2 ⟨A2, c2, rfl, hC2, b2'⟩; refine Hid.out ?_)
      refine Lib.hid ?_
      have b2 := below_after b2' b1
      have HQ := Lib.hid (fun (u : World) (hu : Below u2.heap.size u2 u) => isame_any u A2 A1 c2 c1 D (hC2.keep hu) ((HC1.out.keep b2').keep hu) (by omega))
      clear HW1 b2' hC2 HC1
      go_wp2_with (go_at_call 8; refine (error_nil _).mono ?_; rintro e u3 ⟨rfl, rfl⟩; refine Hid.out ?_)
      refine Lib.hid ?_
      have HQ1 := HQ.out u2 (Below.refl _ _)
      clear HQ
      go_wp2_with (go_at_call 15; refine HQ1.mono ?_; rintro e u4 ⟨rfl, b4'⟩; refine Hid.out ?_)
      refine Lib.hid ?_
      have b4 := below_after b4' b2
      clear b4'
      go_wp2_with fail
      go_ret
      exact ⟨rfl, b4⟩
  · rw [if_pos hE] at hsm
    refine wmarks_no w la c L.length slack (recsE (allR L)) hg ?_ (fun u hu => ?_)
    · rw [hsm] at HS
      refine HS.mono ?_
      rintro e w' (⟨-, h1, h2⟩ | ⟨h1, -⟩)
      · exact ⟨h1, h2⟩
      · exact absurd h1 hE
    · have := marks_recs u la c L slack (h.keep hu) (fun x hx => (hr x hx).keep hu) hL4 (by omega) hks2 hE
      rw [errV_ne hE] at this
      exact this
end Go.Proofs.YtfpfaekbakilpaaDoor
