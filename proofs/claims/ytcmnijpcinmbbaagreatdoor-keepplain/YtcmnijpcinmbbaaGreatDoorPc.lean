/- Save. -/
import Derived.Test.YtcmnijpcinmbbaaGreatDoorPb
import Derived.Test.YtcmnijpcinmbbaaGreatDoorPureKq
namespace Go.Proofs.YtcmnijpcinmbbaaGreatDoor
open Go.RowKit
set_option linter.unusedVariables false
theorem erV_1 : erV 1 = .iface 47 (.int .i64 1) := rfl
theorem erV_8 : erV 8 = .iface 47 (.int .i64 8) := rfl
theorem erV_ne {e : Int} (h : e ≠ 0) : erV e = .iface 47 (.int .i64 e) := if_neg h
section
variable {lo : Nat} {w : World} {B M : Nat} {uv : Value} {d : Ds} {n : Nat} {P : Pc}
theorem StepEnd.stay (h : DkS lo w B M uv d n) {w' : World} (hb : Below w.heap.size w w') (n' : Nat) (hn : n ≤ n') (e : Int) : StepEnd lo w B M uv n' (e, d) (.returned (erV e)) w' :=
  ⟨rfl, uv, (h.keep hb).up hn, FrD.below hb, Nxt.refl _ _⟩
/-- Ahead of a step nothing old turns. -/
theorem StepEnd.behind {w1 w' : World} {r : Int × Ds} {e : Ending} {n' : Nat} (hb : Below w.heap.size w w1) (hs : StepEnd lo w1 B M uv n' r e w') : StepEnd lo w B M uv n' r e w' := by
  obtain ⟨h1, uv', h2, h3, h4⟩ := hs
  exact ⟨h1, uv', h2, (FrD.below (B := B) (M := M) (uv := uv) hb).trans (Nxt.refl _ _) h3, fun g hg => by
    rcases h4 g hg with e | e
    · exact .inl e
    · exact .inr (Nat.le_trans hb.size e)⟩
/-- Two steps. -/
theorem StepEnd.two {w1 w' : World} {uv1 : Value} {r : Int × Ds} {e : Ending} {n' : Nat} (hf : FrD B M uv w w1) (hx : Nxt w uv uv1) (hs : StepEnd lo w1 B M uv1 n' r e w') : StepEnd lo w B M uv n' r e w' := by
  obtain ⟨h1, uv', h2, h3, h4⟩ := hs
  exact ⟨h1, uv', h2, hf.trans hx h3, hx.trans hf.size h4⟩
set_option maxRecDepth 100000 in
set_option maxHeartbeats 4000000 in
theorem save_any (h : DkS lo w B M uv d n) (hk : KpIs d.σ P) (hT : KT lo w) (hs0 : 0 ≤ d.s) (hs : d.s < 1000000000) (hU : d.U.length < 100000000) (hn : n ≤ 100000000) (id : Int) (p : Option Addr) (c : Nat) (x : List UInt8) (hx : BsAt w p x) (hxl : x.length ≤ 50000) (hc : p = none → c = 0) :
    Calls Tryz.prog 8 #[.pointer (some ⟨B, 0, none⟩), .int .i64 id, .slice p x.length c] w (StepEnd lo w B M uv (n + 2) (saveR d P id x)) := by
  obtain ⟨R, hR⟩ : ∃ R, R = saveR d P id x := ⟨_, rfl⟩
  rw [← hR]
  have HR := Lib.hid hR
  clear hR
  have HI := isID_any w id
  by_cases hid : IdOk id
  · have hd1 : decide (1 ≤ id) = true := by simp; exact hid.1
    have hd2 : decide (id ≤ 1000000000) = true := by simp; exact hid.2
    rw [hd1, hd2] at HI
    have HW := whole_any h hk hT hid
    cases hP : (P id).isSome with
    | true =>
      rw [hP] at HW
      have HE := Lib.hid (show R = (8, d) by rw [HR.out]; unfold saveR; rw [if_neg (by simpa using hid), if_pos hP])
      clear hd1 hd2
      go_enter Tryz.func8, Tryz.ntmps8
      go_wp2_with (first
        | (go_at_call 18; refine HI.mono ?_; rintro e w' ⟨rfl, rfl⟩)
        | (go_at_call 19; refine HW.mono ?_; rintro e w1 ⟨rfl, hb1⟩))
      go_ret
      rw [HE.out]
      exact StepEnd.stay h hb1 _ (by omega) 8
    | false =>
      rw [hP] at HW
      have hlo := h.lole
      have HE := Lib.hid (show R = if (wrD d (nmK id) (sealB x)).1 ≠ 0 then wrD d (nmK id) (sealB x) else syD (wrD d (nmK id) (sealB x)).2 by rw [HR.out]; unfold saveR; rw [if_neg (by simpa using hid), if_neg (by rw [hP]; decide)])
      have HN := Lib.hid (fun (w1 : World) (hb : Below w.heap.size w w1) => nameOf_any (hT.on (hb.mono hlo)) hid)
      have HS := Lib.hid (fun (w1 : World) (hb : Below w.heap.size w w1) => seal_any w1 p c x (hx.keep hb) (by omega) hc)
      have hz := nmK_size id hid
      have hfew := seal_few x hxl
      have hwr : ∀ (w1 : World) (hb : Below w.heap.size w w1) (v : Value) (w2 : World) (hb2 : Below w1.heap.size w1 w2) (ho : Own w1.heap.size w2 v (sealB x)), Calls Tryz.prog 20 #[.pointer (some ⟨B, 0, none⟩), .string (nmK id), v] w2 (StepEnd lo w2 B M uv (n + 2) (wrD d (nmK id) (sealB x))) := fun w1 hb v w2 hb2 ho => by
        obtain ⟨A, cap, rfl⟩ := own_slice ho
        obtain ⟨h1, _, _, h4⟩ := own_bs ho rfl
        exact write_any (h.keep (hb.trans (hb2.mono hb.size))) hs0 (by omega) (by omega) (by unfold maxLen; omega) (nmK id) (by unfold maxLen; omega) A cap (sealB x) h1 _ rfl (by omega) (fun _ a ha => h.oth (Nat.le_trans hb.size (h4 a ha)))
      have HWr := Lib.hid hwr
      clear hwr
      clear hd1 hd2 HR hz hx hc
      generalize sealB x = bs at *
      generalize nmK id = nm at *
      have hsy := fun (w4 : World) (uv4 : Value) (h4 : DkS lo w4 B M uv4 (wrD d nm bs).2 (n + 2)) => sync_any h4 (by
        unfold wrD; split
        · exact hs0
        · split
          · exact hs0
          · show 0 ≤ d.s + 1; omega) (by
        unfold wrD; split
        · show d.s < _; omega
        · split
          · show d.s < _; omega
          · show d.s + 1 < _; omega)
      have HSy := Lib.hid hsy
      clear hsy
      go_enter Tryz.func8, Tryz.ntmps8
      go_wp2_with (first
        | (go_at_call 18; refine HI.mono ?_; rintro e w' ⟨rfl, rfl⟩)
        | (go_at_call 19; refine HW.mono ?_; rintro e w1 ⟨rfl, hb1⟩)
        | (go_at_call 21; refine (HN.out _ hb1).mono ?_; rintro e w2 ⟨rfl, hb2⟩)
        | (go_at_call 22; refine (HS.out _ (hb1.trans (hb2.mono hb1.size))).mono ?_; rintro e w3 ⟨v3, rfl, ho3, hb3⟩)
        | (go_at_call 20; refine (HWr.out _ (hb1.trans (hb2.mono hb1.size)) _ _ hb3 ho3).mono ?_; rintro e w4 ⟨rfl, uv4, hd4, hf4, hx4⟩; refine Hid.out ?_))
      refine Lib.hid ?_
      have hb12 := hb1.trans (hb2.mono hb1.size)
      have hb13 := hb12.trans (hb3.mono hb12.size)
      by_cases he : (wrD d nm bs).1 = 0
      · have HE2 := Lib.hid (show R = syD (wrD d nm bs).2 by rw [HE.out, if_neg (by rw [he]; decide)])
        rw [he, erV_0]
        have HS4 := HSy.out w4 uv4 hd4
        clear HWr HSy HE he
        go_wp2_with (go_at_call 23; refine HS4.mono ?_; rintro e w5 hs5; have he5 := hs5.1; subst he5)
        go_ret
        rw [HE2.out]
        exact StepEnd.behind hb13 (StepEnd.two hf4 hx4 hs5)
      · have HE2 := Lib.hid (show R = wrD d nm bs by rw [HE.out, if_pos he])
        have hev := erV_ne he
        rw [hev]
        clear HWr HSy
        go_wp2_with fail
        go_ret
        rw [HE2.out]
        refine StepEnd.behind hb13 ⟨?_, uv4, hd4, hf4, hx4⟩
        rw [hev]; rfl
  · have hdd : (decide (1 ≤ id) && decide (id ≤ 1000000000)) = false := by
      cases h1 : decide (1 ≤ id) <;> simp at h1 ⊢
      exact Int.not_le.1 (fun h2 => hid ⟨h1, h2⟩)
    rw [hdd] at HI
    have HE := Lib.hid (show R = (1, d) by rw [HR.out]; unfold saveR; rw [if_pos hid])
    go_enter Tryz.func8, Tryz.ntmps8
    go_wp2_with (go_at_call 18; refine HI.mono ?_; rintro e w' ⟨rfl, rfl⟩)
    go_ret
    rw [HE.out]
    exact StepEnd.stay h (Below.refl _ _) _ (by omega) 1
end
end Go.Proofs.YtcmnijpcinmbbaaGreatDoor
