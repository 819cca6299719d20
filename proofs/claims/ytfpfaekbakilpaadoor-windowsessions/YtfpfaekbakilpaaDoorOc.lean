/- WindowSessions walked. -/
import Derived.Test.YtfpfaekbakilpaaDoorObf
import Derived.Test.YtfpfaekbakilpaaDoorWx
import Derived.Test.YtfpfaekbakilpaaDoorErr
import Derived.Test.YtfpfaekbakilpaaDoorWu
namespace Go.Proofs.YtfpfaekbakilpaaDoor
open Go.RowKit
set_option linter.unusedVariables false

theorem psame_nil (w : World) : Calls Tryd.prog 9 #[.slice none 0 0, .slice none 0 0] w fun e w' => e = .returned (.bool true) ∧ Below w.heap.size w w' :=
  psame_any w none none 0 0 [] (.inl rfl) (.inl rfl) (by simp)
theorem num_w64 {r : Rg} (h : OkRc r) : r.num = w64 r.num := (w64_id (by have := h.2.1.1; omega) (by have := h.2.1.2; omega)).symm
set_option maxRecDepth 100000 in
set_option maxHeartbeats 1000000 in
theorem wses_no (w : World) (la : Option Addr) (c : Nat) (n : Nat) (gap : Int) (E : Nat) (hg : w.cell? ⟨0, 0, none⟩ = some ET)
    (HS : Calls Tryd.prog 11 #[.slice la n c, .int .i64 gap] w fun e w' => e = .returned (.tuple #[.slice none 0 0, .int .i64 (E : Nat)]) ∧ Below w.heap.size w w')
    (HW : ∀ u, Below w.heap.size w u → Calls Tryd.prog 12 #[.slice la n c, .int .i64 gap] u fun e w' => e = .returned (.tuple #[.slice none 0 0, .iface 52 (.int .i64 (E : Nat))]) ∧ Below u.heap.size u w') :
    Calls Tryd.prog 4 #[.slice la n c, .int .i64 gap] w fun e w' => e = .returned (.bool true) ∧ Below w.heap.size w w' := by
  have HEt := Lib.hid (fun (u : World) (hu : Below w.heap.size w u) => error_hit (E : Nat) u (et_below hg hu))
  have HW' := Lib.hid HW
  clear hg HW
  go_enter Tryd.func4, Tryd.ntmps4
  go_wp2_with (go_at_call 11; refine HS.mono ?_; rintro e u1 ⟨rfl, b1⟩; refine Hid.out ?_)
  refine Lib.hid ?_
  have HW1 := HW'.out u1 b1
  clear HS HW'
  go_wp2_with (go_at_call 12; refine HW1.mono ?_; rintro e u2 ⟨rfl, b2'⟩; refine Hid.out ?_)
  refine Lib.hid ?_
  have b2 := below_after b2' b1
  have HE1 := HEt.out u2 b2
  clear HW1 b2' HEt
  go_wp2_with (go_at_call 8; refine HE1.mono ?_; rintro e u3 ⟨rfl, b3'⟩; refine Hid.out ?_)
  refine Lib.hid ?_
  have b3 := below_after b3' b2
  clear HE1 b3'
  go_wp2_with (go_at_call 9; refine (psame_nil _).mono ?_; rintro e u4 ⟨rfl, b4'⟩; refine Hid.out ?_)
  refine Lib.hid ?_
  have b4 := below_after b4' b3
  clear b4'
  go_wp2_with fail
  go_ret
  exact ⟨rfl, b4⟩
set_option maxRecDepth 100000 in
set_option maxHeartbeats 1000000 in
theorem wses_walk (w : World) (la : Option Addr) (c : Nat) (l : List Rg) (gap : Int) (h : CsAt w la (rcells l)) (hn : l.length ≤ 9223372036854775807) (ho : ∀ r ∈ l, OkRc r) (hg : w.cell? ⟨0, 0, none⟩ = some ET) :
    Calls Tryd.prog 4 #[.slice la l.length c, .int .i64 gap] w fun e w' => e = .returned (.bool true) ∧ Below w.heap.size w w' := by
  have hks : ∀ r ∈ l, r.key.size ≤ 9223372036854775807 := fun r hr => by have := (ho r hr).1; omega
  have hnum : ∀ r ∈ l, r.num = w64 r.num := fun r hr => num_w64 (ho r hr)
  have HS := ssession_any w la c l gap h hn hks hnum
  have hsm : ssE l gap = if recsE l ≠ 0 then recsE l else if spanB gap then 0 else 1 := by
    unfold ssE recsE
    by_cases g1 : 400 < l.length
    · simp [g1]
    · by_cases g2 : l.any badR = true
      · simp [g1, g2]
      · simp [g1, g2]
  by_cases hE : recsE l = 0
  · rw [if_neg (by simpa using hE)] at hsm
    cases hs : spanB gap with
    | false =>
      have e1 : ssE l gap = 1 := by rw [hsm, hs]; rfl
      rw [e1] at HS
      refine wses_no w la c l.length gap 1 hg ?_ (fun u hu => ?_)
      · refine HS.mono ?_
        rintro e w' (⟨-, h1, h2⟩ | ⟨h1, -⟩)
        · exact ⟨h1, h2⟩
        · cases h1
      · have := session_args u la c l gap (h.keep hu) hn hks hE hs
        rw [errV_ne (by decide)] at this
        exact this
    | true =>
      have e1 : ssE l gap = 0 := by rw [hsm, hs]; rfl
      rw [e1] at HS
      obtain ⟨hl, hr⟩ := recs_ok hE
      obtain ⟨ys, hp, hsr⟩ := srt_ex l
      have a1 : 1 ≤ gap ∧ gap ≤ 1000000 := by unfold spanB at hs; simpa using hs
      have hd : dsP gap l = sesP gap ys := ds_ses a1.1 a1.2 hp hsr (fun r hr' => (hr r hr').2) (by omega) hnum
      have HS0 : Calls Tryd.prog 11 #[.slice la l.length c, .int .i64 gap] w fun e w' => ∃ A cap, e = .returned (.tuple #[.slice A (sesP gap ys).length cap, .int .i64 0]) ∧ CsAt w' A (pcells (sesP gap ys)) ∧ Below w.heap.size w w' := by
        rw [hd] at HS
        refine HS.mono ?_
        rintro e w' (⟨h1, -⟩ | ⟨-, h1⟩)
        · exact absurd rfl h1
        · exact h1
      have HW := Lib.hid (fun (u : World) (hu : Below w.heap.size w u) => session_all u la c l ys gap (h.keep hu) hE hs hp hsr)
      have hlen := dsP_len gap l
      rw [hd] at hlen
      clear HS hd h hn hks hnum hsm hE hs e1 hr ho hp hsr a1
      generalize sesP gap ys = D at *
      go_enter Tryd.func4, Tryd.ntmps4
      go_wp2_with (go_at_call 11; refine HS0.mono ?_; rintro e u1 ⟨A1, c1, rfl, hC1, b1⟩; refine Hid.out ?_)
      refine Lib.hid ?_
      have HW1 := HW.out u1 b1
      have HC1 := Lib.hid hC1
      clear HS0 HW hC1
      go_wp2_with (go_at_call 12; refine HW1.mono ?_; rintro e u2 ⟨A2, c2, rfl, hC2, b2'⟩; refine Hid.out ?_)
      refine Lib.hid ?_
      have b2 := below_after b2' b1
      have HQ := Lib.hid (psame_any u2 A2 A1 c2 c1 D hC2 (HC1.out.keep b2') (by omega))
      clear HW1 b2' hC2 HC1
      go_wp2_with (go_at_call 8; refine (error_nil _).mono ?_; rintro e u3 ⟨rfl, rfl⟩; refine Hid.out ?_)
      refine Lib.hid ?_
      have HQ1 := HQ.out
      clear HQ
      go_wp2_with (go_at_call 9; refine HQ1.mono ?_; rintro e u4 ⟨rfl, b4'⟩; refine Hid.out ?_)
      refine Lib.hid ?_
      have b4 := below_after b4' b2
      clear b4'
      go_wp2_with fail
      go_ret
      exact ⟨rfl, b4⟩
  · rw [if_pos hE] at hsm
    refine wses_no w la c l.length gap (recsE l) hg ?_ (fun u hu => ?_)
    · rw [hsm] at HS
      refine HS.mono ?_
      rintro e w' (⟨-, h1, h2⟩ | ⟨h1, -⟩)
      · exact ⟨h1, h2⟩
      · exact absurd h1 hE
    · have := session_recs u la c l gap (h.keep hu) hn hks hE
      rw [errV_ne hE] at this
      exact this
end Go.Proofs.YtfpfaekbakilpaaDoor
