/- The calls on a disk: Rename. -/
import Derived.Test.YthlaccicdbbeeaaDoorDf
import Derived.Laws.EntriesVeiled
namespace Go.Proofs.YthlaccicdbbeeaaDoor
open Go.RowKit
open Go.Maps (string_keyed)
set_option linter.unusedVariables false
section
variable {X : Nat → Prop} {lo : Nat} {w : World} {B M : Nat} {uv : Value} {d : Ds} {n : Nat}

set_option maxRecDepth 100000 in
set_option maxHeartbeats 4000000 in
theorem rename_any (h : DkS X lo w B M uv d n) (hs0 : 0 ≤ d.s) (hs : d.s < 9223372036854775806) (hU : d.U.length < 1000000000) (hn : n + 2 < maxLen) (k l : ByteArray) (hkk : k.size ≤ maxLen) (hkl : l.size ≤ maxLen) :
    Calls Tryd.prog 8 #[.pointer (some ⟨B, 0, none⟩), .string k, .string l] w (StepEnd X lo w B M uv (n + 2) (rnD d k l)) := by
  have h1 : DkS X lo (w.alloc (.cells #[.string k, .string l] 9)) B M uv d n := h.keep ((Below.refl _ _).alloc (Nat.le_refl _) _)
  have HC := check_at h1 (some ⟨w.heap.size, 0, none⟩) 2 [k, l] (ss2 w k l) (by simp) (by simp; exact ⟨hkk, hkl⟩) 2 rfl
  generalize hR : StepEnd X lo w B M uv (n + 2) (rnD d k l) = R
  have HR := Lib.hid hR
  clear hR
  rcases chk_cases d.s d.bd [k, l] with e | e | e
  · rw [e, erV_7] at HC
    go_enter Tryd.func8, Tryd.ntmps8
    go_wp2_with (go_at_call 28; refine HC.mono ?_; rintro e w' ⟨rfl, k1, rfl⟩)
    rw [← HR.out]
    unfold rnD
    rw [if_pos (by rw [e]; decide), e]
    exact ⟨rfl, uv, (h1.drewN k1).up (by omega), ((FrD.refl _ _ _ w).alloc _).drewN k1, Nxt.refl _ _⟩
  · rw [e, erV_2] at HC
    go_enter Tryd.func8, Tryd.ntmps8
    go_wp2_with (go_at_call 28; refine HC.mono ?_; rintro e w' ⟨rfl, k1, rfl⟩)
    rw [← HR.out]
    unfold rnD
    rw [if_pos (by rw [e]; decide), e]
    exact ⟨rfl, uv, (h1.drewN k1).up (by omega), ((FrD.refl _ _ _ w).alloc _).drewN k1, Nxt.refl _ _⟩
  · rw [e, erV_0] at HC
    have hnm : isNm k = true := by have := chk_ok e; simp at this; exact this.1
    have hnl : isNm l = true := by have := chk_ok e; simp at this; exact this.2
    have hks : k.size ≤ 281474976710656 := by have := isNm_size hnm; omega
    have hls : l.size ≤ 281474976710656 := by have := isNm_size hnl; omega
    obtain ⟨lp, lc, hval, hl⟩ := h1.look k hkk
    have hl1 := fun j => hl ((w.alloc (.cells #[.string k, .string l] 9)).drewN j) ⟨h1.ltM, Nat.le_refl _, rfl⟩
    clear hl
    have hval1 := fun j => hval.below (w' := (w.alloc (.cells #[.string k, .string l] 9)).drewN j) ⟨rfl, rfl, rfl, Nat.le_refl _, fun _ _ => rfl⟩
    clear hval
    generalize hln : ((d.σ k).getD []).length = ln at hl1 hval1
    have c0 := fun j => (h1.drewN j).c0
    cases hσ : (d.σ k).isSome with
    | false =>
      rw [hσ] at hl1
      clear hln hval1
      go_enter Tryd.func8, Tryd.ntmps8
      go_wp2_with (go_at_call 28; refine HC.mono ?_; rintro e w' ⟨rfl, k1, rfl⟩; have hl2 := hl1 k1; have c2 := c0 k1)
      rw [← HR.out]
      unfold rnD
      rw [if_neg (by rw [e]; decide), if_pos hσ]
      exact ⟨rfl, uv, (h1.drewN k1).up (by omega), ((FrD.refl _ _ _ w).alloc _).drewN k1, Nxt.refl _ _⟩
    | true =>
    rw [hσ] at hl1
    obtain ⟨bs, hbs⟩ : ∃ bs, d.σ k = some bs := Option.isSome_iff_exists.1 hσ
    have HLN := Lib.hid hln
    clear hln
    go_enter Tryd.func8, Tryd.ntmps8
    go_wp2_with (go_at_call 28; refine HC.mono ?_; rintro e w' ⟨rfl, k1, rfl⟩; have hl2 := hl1 k1; have c2 := c0 k1; have hv2 := hval1 k1)
    clear hl1 c0 hval1
    have f1 : FrD B M uv w ((w.alloc (.cells #[.string k, .string l] 9)).drewN k1) := ((FrD.refl _ _ _ w).alloc _).drewN k1
    have h2 := h1.drewN k1
    generalize (w.alloc (.cells #[.string k, .string l] 9)).drewN k1 = w1 at *
    refine (cloneStr_any k w1 hks).mono ?_
    rintro e w2 ⟨rfl, hb2⟩
    clear hl2 c2
    have h3 := h2.keep hb2
    have hv3 := hv2.below hb2
    have f2 := f1.trans (Nxt.refl _ _) (FrD.below (B := B) (M := M) (uv := uv) hb2)
    clear h2 f1 hb2 hv2
    go_wp2_with fail
    refine (cloneStr_any l w2 hls).mono ?_
    rintro e w3 ⟨rfl, hb3⟩
    have h4 := h3.keep hb3
    have hv4 := hv3.below hb3
    have f3 := f2.trans (Nxt.refl _ _) (FrD.below (B := B) (M := M) (uv := uv) hb3)
    clear h3 f2 hb3 hv3
    go_wp2_with fail
    refine (back_any h4 k hkk).mono ?_
    rintro e w4 ⟨vf, rfl, hpf, hb4⟩
    have h5 := h4.keep hb4
    have hv5 := hv4.below hb4
    have f4 := f3.trans (Nxt.refl _ _) (FrD.below (B := B) (M := M) (uv := uv) hb4)
    clear h4 f3 hb4 hv4
    go_wp2_with fail
    refine (back_any h5 l hkl).mono ?_
    rintro e w5 ⟨vt, rfl, hpt, hb5⟩
    have h6 := h5.keep hb5
    have hv6 := hv5.below hb5
    have hpf6 := hpf.below hb5
    have f5 := f4.trans (Nxt.refl _ _) (FrD.below (B := B) (M := M) (uv := uv) hb5)
    clear h5 f4 hb5 hv5 hpf
    obtain ⟨q0, qa, qd, qm, qx, hvf, _⟩ := id hpf6
    obtain ⟨r0, ra, rd, rm, rx, hvt, _⟩ := id hpt
    subst hvf hvt
    go_wp2_with fail
    have hb6 : Below w5.heap.size w5 ((w5.alloc (.cells #[.func (.func 48) #[] #[.pointer (some ⟨q0, 0, none⟩), .pointer (some ⟨qa, 0, none⟩), .pointer (some ⟨qd, 0, none⟩), .pointer (some ⟨qm, 0, none⟩)]] 1)).alloc (.cells #[.func (.func 48) #[] #[.pointer (some ⟨r0, 0, none⟩), .pointer (some ⟨ra, 0, none⟩), .pointer (some ⟨rd, 0, none⟩), .pointer (some ⟨rm, 0, none⟩)]] 1)) := ((Below.refl _ _).alloc (Nat.le_refl _) _).alloc (by simp) _
    refine (did_any (b := .two ⟨k, d.σ k⟩ ⟨l, d.σ l⟩) (h6.keep hb6) ⟨w5.heap.size + 1, w5.heap.size, _, _, rfl, ⟨h6.oth (by omega), h6.oth (by omega)⟩, by simp, by simp, hpt.below hb6, hpf6.below hb6⟩ ⟨hnm, hnl⟩ hs0 hs hU).mono ?_
    rintro e w7 ⟨⟨v7, rfl⟩, uv', h8, f7, n7⟩
    have f6 := f5.trans (Nxt.refl _ _) (FrD.below (B := B) (M := M) (uv := uv) hb6)
    have f8 := f6.trans (Nxt.refl _ _) f7
    have n8 : Nxt w uv uv' := fun g hg => (n7 g hg).imp id (fun hle => by have := f6.size; omega)
    have hv8 : BsV w7 (OthX X B M uv') (.slice lp ln lc) bs := by
      have h0 := (hv6.below hb6).keep (O' := OthX X B M uv') (fun b hlt ho => f7.block b hlt ho.1) (fun b hlt ho => ⟨ho.1.next n7 hlt, ho.2⟩)
      rw [hbs] at h0
      exact h0
    clear h6 f5 f6 f7 n7 hb6 hpt hpf6 hv6
    obtain ⟨D, hD, hm⟩ := h8.mp
    have c0 := h8.c0
    obtain ⟨w8, hrun8, hown8, ht8⟩ := World.ownsMap.drop (t := 67) (e := 23) hD hK Tryd.underlying67 (key_of k hkk) 0
    have h9 := h8.turned ht8 hown8 (hm.del k) (h8.fok.upd hnm none)
    have hv9 : BsV w8 (OthX X B M uv') (.slice lp ln lc) bs := hv8.keep (fun b hlt ho => ht8.grown.block b hlt (fun e => ho.1.2.1 (by injection e))) (fun _ _ h => h)
    have hm9 : MapIs w8 (OthX X B M uv') (D.del (kl k)) (upd d.σ k none) := (hm.del k).keep (fun b hlt ho => ht8.grown.block b hlt (fun e => ho.1.2.1 (by injection e))) (fun _ _ h => h)
    have c9 := h9.c0
    obtain ⟨w10, hrun10, hown10, ht10⟩ := World.ownsMap.store (t := 67) (e := 23) hown8 hK Tryd.underlying67 (show n < maxLen by omega) (key_of l hkl) (show vR (.slice lp ln lc) = some (.held (.slice lp ln lc), []) from rfl)
    have hfin : StepEnd X lo w B M uv (n + 2) (0, ⟨upd (upd d.σ k none) l (d.σ k), d.U ++ [.two ⟨k, d.σ k⟩ ⟨l, d.σ l⟩], d.s + 1, d.bd⟩) (.returned .nilIface) w10 := by
      refine ⟨rfl, uv', ?_, (f8.turned ht8).turned ht10, n8⟩
      have hx := DkAt.up (n := n + 1) (n' := n + 2) (h9.turned ht10 hown10 (hm9.put hown8.isMap l hv9) (h9.fok.upd hnl _)) (by omega)
      rw [← hbs] at hx
      exact hx
    clear h8 h9 f8 hD hm hown8 ht8 hown10 ht10 hv8 hv9 hm9
    go_wp2
    rw [← HR.out]
    unfold rnD
    rw [if_neg (by rw [e]; decide), if_neg (by rw [hσ]; decide)]
    exact hfin
end
end Go.Proofs.YthlaccicdbbeeaaDoor
