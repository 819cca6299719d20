/- The calls on a disk: Write, Remove. -/
import Derived.Test.YtcmnijpcinmbbaaGreatDoorDe
namespace Go.Proofs.YtcmnijpcinmbbaaGreatDoor
open Go.RowKit
open Go.Maps (string_keyed)
set_option linter.unusedVariables false
section
variable {lo : Nat} {w : World} {B M : Nat} {uv : Value} {d : Ds} {n : Nat}
theorem ss1 (w : World) (k : ByteArray) : SsAt (w.alloc (.cells #[.string k] 9)) (some ⟨w.heap.size, 0, none⟩) [k] := .inr ⟨w.heap.size, 0, rfl, fun i hi => by
  have hi0 : i = 0 := by simp at hi; omega
  subst hi0; simp⟩
theorem ss2 (w : World) (k l : ByteArray) : SsAt (w.alloc (.cells #[.string k, .string l] 9)) (some ⟨w.heap.size, 0, none⟩) [k, l] := .inr ⟨w.heap.size, 0, rfl, fun i hi => by
  have hi0 : i = 0 ∨ i = 1 := by simp at hi; omega
  rcases hi0 with rfl | rfl <;> simp⟩

set_option maxRecDepth 100000 in
set_option maxHeartbeats 4000000 in
theorem write_any (h : DkS lo w B M uv d n) (hs0 : 0 ≤ d.s) (hs : d.s < 9223372036854775806) (hU : d.U.length < 1000000000) (hn : n + 2 < maxLen) (k : ByteArray) (hkk : k.size ≤ maxLen) (p : Option Addr) (c : Nat) (bs : List UInt8) (hbs : BsAt w p bs) (m : Nat) (hm : m = bs.length) (hml : bs.length ≤ 140737488355328) (hfar : bs ≠ [] → ∀ a, p = some a → Oth B M uv a.block) :
    Calls Tryz.prog 20 #[.pointer (some ⟨B, 0, none⟩), .string k, .slice p m c] w (StepEnd lo w B M uv (n + 2) (wrD d k bs)) := by
  have h1 : DkS lo (w.alloc (.cells #[.string k] 9)) B M uv d n := h.keep ((Below.refl _ _).alloc (Nat.le_refl _) _)
  have HC := check_at h1 (some ⟨w.heap.size, 0, none⟩) 1 [k] (ss1 w k) (by simp) (by simp; exact hkk) 1 rfl
  generalize hR : StepEnd lo w B M uv (n + 2) (wrD d k bs) = R
  have HR := Lib.hid hR
  clear hR
  rcases chk_cases d.s d.bd [k] with e | e | e
  · rw [e, erV_7] at HC
    go_enter Tryz.func20, Tryz.ntmps20
    go_wp2_with (go_at_call 34; refine HC.mono ?_; rintro e w' ⟨rfl, k1, rfl⟩)
    rw [← HR.out]
    unfold wrD
    rw [if_pos (by rw [e]; decide), e]
    exact ⟨rfl, uv, (h1.drewN k1).up (by omega), ((FrD.refl _ _ _ w).alloc _).drewN k1, Nxt.refl _ _⟩
  · rw [e, erV_2] at HC
    go_enter Tryz.func20, Tryz.ntmps20
    go_wp2_with (go_at_call 34; refine HC.mono ?_; rintro e w' ⟨rfl, k1, rfl⟩)
    rw [← HR.out]
    unfold wrD
    rw [if_pos (by rw [e]; decide), e]
    exact ⟨rfl, uv, (h1.drewN k1).up (by omega), ((FrD.refl _ _ _ w).alloc _).drewN k1, Nxt.refl _ _⟩
  · rw [e, erV_0] at HC
    have hnm : isNm k = true := by have := chk_ok e; simpa using this
    have hks : k.size ≤ 281474976710656 := by have := isNm_size hnm; omega
    have HM := Lib.hid hm
    by_cases hbig : 60000 < bs.length
    · have hbig' : (60000 : Int) < (m : Int) := by omega
      clear hm
      go_enter Tryz.func20, Tryz.ntmps20
      go_wp2_with (go_at_call 34; refine HC.mono ?_; rintro e w' ⟨rfl, k1, rfl⟩)
      rw [← HR.out]
      unfold wrD
      rw [if_neg (by rw [e]; decide), if_pos hbig]
      exact ⟨rfl, uv, (h1.drewN k1).up (by omega), ((FrD.refl _ _ _ w).alloc _).drewN k1, Nxt.refl _ _⟩
    have hbig' : ¬ (60000 : Int) < (m : Int) := by omega
    clear hm
    go_enter Tryz.func20, Tryz.ntmps20
    go_wp2_with (go_at_call 34; refine HC.mono ?_; rintro e w' ⟨rfl, k1, rfl⟩)
    have f1 : FrD B M uv w ((w.alloc (.cells #[.string k] 9)).drewN k1) := ((FrD.refl _ _ _ w).alloc _).drewN k1
    have h2 := h1.drewN k1
    generalize (w.alloc (.cells #[.string k] 9)).drewN k1 = w1 at *
    refine (cloneStr_any k w1 hks).mono ?_
    rintro e w2 ⟨rfl, hb2⟩
    have h3 := h2.keep hb2
    have f2 := f1.trans (Nxt.refl _ _) (FrD.below (B := B) (M := M) (uv := uv) hb2)
    clear h2 f1 hb2
    go_wp2_with fail
    refine (back_any h3 k hkk).mono ?_
    rintro e w3 ⟨v, rfl, hp, hb3⟩
    have h4 := h3.keep hb3
    have f3 := f2.trans (Nxt.refl _ _) (FrD.below (B := B) (M := M) (uv := uv) hb3)
    clear h3 f2 hb3
    obtain ⟨q0, qa, qd, qm, qx, hv, _⟩ := id hp
    subst hv
    go_wp2_with fail
    refine (did_any h4 (b := .one ⟨k, d.σ k⟩) hp hnm hs0 hs hU).mono ?_
    rintro e w4 ⟨⟨v4, rfl⟩, uv', h5, f4, n4⟩
    have f5 := f3.trans (Nxt.refl _ _) f4
    have n5 : Nxt w uv uv' := fun g hg => (n4 g hg).imp id (fun hle => by have := f3.size; omega)
    clear h4 f3 f4 n4 hp
    obtain ⟨D, hD, hm⟩ := h5.mp
    have c0 := h5.c0
    have hO5 : ∀ b, b < w.heap.size → Oth B M uv b → Oth B M uv' b := fun b hlt ho => ho.next n5 hlt
    have hbs5 : BsAt w4 p bs := by
      by_cases hne : bs = []
      · exact .inl hne
      · obtain ⟨b, o, rfl, hlt⟩ := hbs.lt hne
        rcases hbs with hbs | ⟨b', o', e', hc'⟩
        · exact absurd hbs hne
        · injection e' with e'
          injection e' with e1 e2 _
          subst e1; subst e2
          exact .inr ⟨b, o, rfl, fun i hi => by rw [World.cell?_of_block (w := w) (f5.block b hlt (hfar hne _ rfl))]; exact hc' i hi⟩
    have HB : ∀ j, Calls Tryz.prog 38 #[.slice p m c] (w4.drewN j) fun e w' => ∃ A cap, e = .returned (.slice A bs.length cap) ∧ BsAt w' A bs ∧ (∀ a, A = some a → w4.heap.size ≤ a.block) ∧ Below w4.heap.size (w4.drewN j) w' := fun j => bclone_any (w4.drewN j) p c bs hbs5 m HM.out hml
    have hlt5 := h5.lt
    have hnm' : n < maxLen := by omega
    have hkey := key_of k hkk
    have hL60 := Lib.hid (show bs.length ≤ 60000 by omega)
    have hC6 : ∀ w6 : World, Below w4.heap.size (w4.drewN 1) w6 → w6.cell? ⟨B, 0, none⟩ = some (.map (some M)) := fun w6 hb => (hb.cell (p := ⟨B, 0, none⟩) hlt5).trans c0
    have hS6 : Hid (∀ (w6 : World) (A : Option Addr) (cap : Nat), BsAt w6 A bs → (∀ a, A = some a → w4.heap.size ≤ a.block) → Below w4.heap.size (w4.drewN 1) w6 → ∃ w7, (Instr.mapUpdate 43 (.map (some M)) (.string k) (.slice A bs.length cap)).run Tryz.prog w6 = .ok () w7 ∧ StepEnd lo w B M uv (n + 2) (0, ⟨upd d.σ k (some bs), d.U ++ [.one ⟨k, d.σ k⟩], d.s + 1, d.bd⟩) (.returned .nilIface) w7) := fun w6 A cap hA hAn hb => by
      have h6 := (h5.drewN 1).keep hb
      obtain ⟨D6, hD6, hm6⟩ := h6.mp
      obtain ⟨w7, hrun, hown7, ht7⟩ := World.ownsMap.store (t := 43) (e := 23) hD6 hK Tryz.underlying43 hnm' hkey (show vR (.slice A bs.length cap) = some (.held (.slice A bs.length cap), []) from rfl)
      have hv : BsV w6 (Oth B M uv') (.slice A bs.length cap) bs := ⟨hL60.out, A, cap, rfl, hA, fun _ a ha => h5.oth (hAn a ha)⟩
      refine ⟨w7, hrun, rfl, uv', (h6.turned ht7 hown7 (hm6.put hD6.isMap k hv) (h6.fok.upd hnm _)).up (by omega), ?_, n5⟩
      exact FrD.turned ⟨hb.os.trans f5.os, hb.tape.trans f5.tape, hb.output.trans f5.output, Nat.le_trans f5.size hb.size, fun i hi ho => (hb.block i (Nat.lt_of_lt_of_le hi f5.size)).trans (f5.block i hi ho)⟩ ht7
    have HB1 := Lib.hid (HB 1)
    clear h5 f5 hD hm HB hbs5 hO5 hbs
    go_wp2
    go_region_with (go_at_call 38; refine HB1.out.mono ?_; rintro e w6 ⟨A, cap, rfl, hA, hAn, hb6⟩; have c6 := hC6 w6 hb6; obtain ⟨w7, hrun, hfin⟩ := hS6.out w6 A cap hA hAn hb6)
    all_goals go_wp2
    all_goals
      rw [← HR.out]
      unfold wrD
      rw [if_neg (by rw [e]; decide), if_neg hbig]
      exact hfin

set_option maxRecDepth 100000 in
set_option maxHeartbeats 4000000 in
theorem remove_any (h : DkS lo w B M uv d n) (hs0 : 0 ≤ d.s) (hs : d.s < 9223372036854775806) (hU : d.U.length < 1000000000) (hn : n + 2 < maxLen) (k : ByteArray) (hkk : k.size ≤ maxLen) :
    Calls Tryz.prog 30 #[.pointer (some ⟨B, 0, none⟩), .string k] w (StepEnd lo w B M uv (n + 2) (rmD d k)) := by
  have h1 : DkS lo (w.alloc (.cells #[.string k] 9)) B M uv d n := h.keep ((Below.refl _ _).alloc (Nat.le_refl _) _)
  have HC := check_at h1 (some ⟨w.heap.size, 0, none⟩) 1 [k] (ss1 w k) (by simp) (by simp; exact hkk) 1 rfl
  generalize hR : StepEnd lo w B M uv (n + 2) (rmD d k) = R
  have HR := Lib.hid hR
  clear hR
  rcases chk_cases d.s d.bd [k] with e | e | e
  · rw [e, erV_7] at HC
    go_enter Tryz.func30, Tryz.ntmps30
    go_wp2_with (go_at_call 34; refine HC.mono ?_; rintro e w' ⟨rfl, k1, rfl⟩)
    rw [← HR.out]
    unfold rmD
    rw [if_pos (by rw [e]; decide), e]
    exact ⟨rfl, uv, (h1.drewN k1).up (by omega), ((FrD.refl _ _ _ w).alloc _).drewN k1, Nxt.refl _ _⟩
  · rw [e, erV_2] at HC
    go_enter Tryz.func30, Tryz.ntmps30
    go_wp2_with (go_at_call 34; refine HC.mono ?_; rintro e w' ⟨rfl, k1, rfl⟩)
    rw [← HR.out]
    unfold rmD
    rw [if_pos (by rw [e]; decide), e]
    exact ⟨rfl, uv, (h1.drewN k1).up (by omega), ((FrD.refl _ _ _ w).alloc _).drewN k1, Nxt.refl _ _⟩
  · rw [e, erV_0] at HC
    have hnm : isNm k = true := by have := chk_ok e; simpa using this
    have hks : k.size ≤ 281474976710656 := by have := isNm_size hnm; omega
    obtain ⟨lp, lc, _, hl⟩ := h1.look k hkk
    have hl1 := fun j => hl ((w.alloc (.cells #[.string k] 9)).drewN j) ⟨h1.ltM, Nat.le_refl _, rfl⟩
    clear hl
    generalize ((d.σ k).getD []).length = ln at hl1
    have c0 := fun j => (h1.drewN j).c0
    cases hσ : (d.σ k).isSome with
    | false =>
      rw [hσ] at hl1
      go_enter Tryz.func30, Tryz.ntmps30
      go_wp2_with (go_at_call 34; refine HC.mono ?_; rintro e w' ⟨rfl, k1, rfl⟩; have hl2 := hl1 k1; have c2 := c0 k1)
      rw [← HR.out]
      unfold rmD
      rw [if_neg (by rw [e]; decide), if_pos hσ]
      exact ⟨rfl, uv, (h1.drewN k1).up (by omega), ((FrD.refl _ _ _ w).alloc _).drewN k1, Nxt.refl _ _⟩
    | true =>
    rw [hσ] at hl1
    go_enter Tryz.func30, Tryz.ntmps30
    go_wp2_with (go_at_call 34; refine HC.mono ?_; rintro e w' ⟨rfl, k1, rfl⟩; have hl2 := hl1 k1; have c2 := c0 k1)
    clear hl1 c0
    have f1 : FrD B M uv w ((w.alloc (.cells #[.string k] 9)).drewN k1) := ((FrD.refl _ _ _ w).alloc _).drewN k1
    have h2 := h1.drewN k1
    generalize (w.alloc (.cells #[.string k] 9)).drewN k1 = w1 at *
    refine (cloneStr_any k w1 hks).mono ?_
    rintro e w2 ⟨rfl, hb2⟩
    clear hl2 c2
    have h3 := h2.keep hb2
    have f2 := f1.trans (Nxt.refl _ _) (FrD.below (B := B) (M := M) (uv := uv) hb2)
    clear h2 f1 hb2
    go_wp2_with fail
    refine (back_any h3 k hkk).mono ?_
    rintro e w3 ⟨v, rfl, hp, hb3⟩
    have h4 := h3.keep hb3
    have f3 := f2.trans (Nxt.refl _ _) (FrD.below (B := B) (M := M) (uv := uv) hb3)
    clear h3 f2 hb3
    obtain ⟨q0, qa, qd, qm, qx, hv, _⟩ := id hp
    subst hv
    go_wp2_with fail
    refine (did_any h4 (b := .one ⟨k, d.σ k⟩) hp hnm hs0 hs hU).mono ?_
    rintro e w4 ⟨⟨v4, rfl⟩, uv', h5, f4, n4⟩
    have f5 := f3.trans (Nxt.refl _ _) f4
    have n5 : Nxt w uv uv' := fun g hg => (n4 g hg).imp id (fun hle => by have := f3.size; omega)
    clear h4 f3 f4 n4 hp
    obtain ⟨D, hD, hm⟩ := h5.mp
    have c0 := h5.c0
    obtain ⟨w7, hrun, hown7, ht7⟩ := World.ownsMap.drop (t := 43) (e := 23) hD hK Tryz.underlying43 (key_of k hkk) 0
    have hfin : StepEnd lo w B M uv (n + 2) (0, ⟨upd d.σ k none, d.U ++ [.one ⟨k, d.σ k⟩], d.s + 1, d.bd⟩) (.returned .nilIface) w7 :=
      ⟨rfl, uv', (h5.turned ht7 hown7 (hm.del k) (h5.fok.upd hnm _)).up (by omega), f5.turned ht7, n5⟩
    clear h5 f5 hD hm hown7 ht7
    go_wp2
    rw [← HR.out]
    unfold rmD
    rw [if_neg (by rw [e]; decide), if_neg (by rw [hσ]; decide)]
    exact hfin
end
end Go.Proofs.YtcmnijpcinmbbaaGreatDoor
