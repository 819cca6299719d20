/- Clean. -/
import Derived.Test.YtcmnijpcinmbbaaGreatDoorPd
namespace Go.Proofs.YtcmnijpcinmbbaaGreatDoor
open Go.RowKit
set_option linter.unusedVariables false
section
variable {lo : Nat} {w : World} {B M : Nat} {uv : Value} {d : Ds} {n : Nat} {P : Pc}
theorem FrD.cell {w' : World} (f : FrD B M uv w w') {p : Addr} {u : Value} (hp : w.cell? p = some u) (ho : Oth B M uv p.block) : w'.cell? p = some u :=
  (World.cell?_of_block (w := w) (f.block p.block (block_lt_of_cell hp) ho)).trans hp
set_option maxRecDepth 100000 in
set_option maxHeartbeats 4000000 in
theorem clean_any (h : DkS lo w B M uv d n) (hk : KpIs d.σ P) (hT : KT lo w) {m : Nat} (hm : Sm m d) (hmm : m ≤ 1000000) (hn : n ≤ 1000000) (many : Int) (hmx : many ≤ 9223372036854775807) (l : List Int) (hl : IdsIs P l) :
    Calls Tryz.prog 12 #[.pointer (some ⟨B, 0, none⟩), .int .i64 many] w (StepEnd lo w B M uv (n + 2 * l.length) (cleanR d l many)) := by
  obtain ⟨R, hR⟩ : ∃ R, R = cleanR d l many := ⟨_, rfl⟩
  rw [← hR]
  have HR := Lib.hid hR
  clear hR
  have hlo := h.lole
  by_cases hmany : many < 1
  · have HE := Lib.hid (show R = (1, d) by rw [HR.out]; unfold cleanR; rw [if_pos hmany])
    go_enter Tryz.func12, Tryz.ntmps12
    go_wp2
    go_ret
    rw [HE.out]
    exact StepEnd.stay h (Below.refl _ _) _ (by omega) 1
  · have HL := list_any h hk hT hn
    have HI := Lib.hid (fun (w1 : World) (hb : Below w.heap.size w w1) => ids_any (h.keep hb) hk (hT.on (hb.mono hlo)) hn)
    obtain ⟨K, hK⟩ : ∃ K, K = l.length - many.toNat := ⟨_, rfl⟩
    have hKm : max ((l.length : Int) - many) 0 = (K : Int) := by omega
    have HE := Lib.hid (show R = if (remAll d (l.take K)).1 ≠ 0 then remAll d (l.take K) else syD (remAll d (l.take K)).2 by rw [HR.out]; unfold cleanR; rw [if_neg hmany, hK])
    have hKl : K ≤ l.length := by omega
    have hKlt : l ≠ [] → K < l.length := fun hne => by have := List.length_pos_iff.2 hne; omega
    clear HR hK
    by_cases hnil : l = []
    · subst hnil
      have hK0 : K = 0 := by simpa using hKl
      subst hK0
      have HSy := Lib.hid (fun (w1 : World) (hb : Below w.heap.size w w1) => sync_any (h.keep hb) hm.1 (by have := hm.2.1; omega))
      have HE2 := Lib.hid (show R = syD d by rw [HE.out]; rfl)
      simp only [List.length_nil] at hKm
      go_enter Tryz.func12, Tryz.ntmps12
      go_wp2_with (go_at_call 11; refine HL.mono ?_; rintro e w1 ⟨v1, l1, rfl, hl1, ho1, hln, hb1⟩; have e1 := hl.unique hl1; subst e1; obtain ⟨A1, c1, rfl, hc11, hc12, hg1⟩ := ownI_slice ho1; refine Hid.out ?_)
      refine Lib.hid ?_
      have HI1 := HI.out w1 hb1
      clear HI
      go_wp2_with (go_at_call 25; refine HI1.mono ?_; rintro e w2 ⟨v2, l2, rfl, hl2, ho2, hln2, hb2⟩; have e2 := hl.unique hl2; subst e2; obtain ⟨A2, c2, rfl, hc21, hc22, hg2⟩ := ownI_slice ho2; refine Hid.out ?_)
      all_goals
        refine Lib.hid ?_
        have hb02 := hb1.trans (hb2.mono hb1.size)
        have HS2 := HSy.out w2 hb02
        go_wp2_with fail
        go_loopw [26] (fun i wr => i = .int .i64 0 ∧ wr = w2) (fun _ _ => 0)
        case atStart => exact ⟨rfl, rfl⟩
        case round =>
          obtain ⟨rfl, rfl⟩ := hrel
          go_wp2_with (go_at_call 23; refine HS2.mono ?_; rintro e w5 hs5; have he5 := hs5.1; subst he5)
          go_ret
          rw [HE2.out]
          have := StepEnd.behind hb02 hs5
          simpa using this
    · have hKlt := hKlt hnil
      have hKi : (K : Int) ≤ (l.length : Int) := by omega
      go_enter Tryz.func12, Tryz.ntmps12
      go_wp2_with (go_at_call 11; refine Hid.out ?_)
      refine Lib.hid ?_
      refine HL.mono ?_
      rintro e w1 ⟨v1, l1, rfl, hl1, ho1, hln, hb1⟩
      have e1 := hl.unique hl1
      subst e1
      obtain ⟨A1, c1, rfl, hc11, hc12, hg1⟩ := ownI_slice ho1
      obtain ⟨g1, rfl, hg11, hg12⟩ := hg1 hnil
      have hcK : ¬ c1 = K := by omega
      have HI1 := HI.out w1 hb1
      clear HI
      go_wp2_with (go_at_call 25; refine Hid.out ?_)
      refine Lib.hid ?_
      refine HI1.mono ?_
      rintro e w2 ⟨v2, l2, rfl, hl2, ho2, hln2, hb2⟩
      have e2 := hl.unique hl2
      subst e2
      obtain ⟨A2, c2, rfl, hc21, hc22, hg2⟩ := ownI_slice ho2
      obtain ⟨g2, rfl, hg21, hg22⟩ := hg2 hnil
      have hb02 := hb1.trans (hb2.mono hb1.size)
      have hd2 : DkS lo w2 B M uv d n := h.keep hb02
      have hT2 : KT lo w2 := hT.on (hb02.mono hlo)
      have hbs : ∀ (wr : World) (hf : FrD B M uv w2 wr) (k : Nat) (hkl : k < l.length), wr.cell? ⟨g2, k, none⟩ = some (.int .i64 l[k]) ∧ ∀ c, Calls Tryz.prog 29 #[.slice (some ⟨g1, K, none⟩) (l.length - K) c, .int .i64 l[k]] wr (fun e w' => (∃ z : Int, e = .returned (.tuple #[.int .i64 z, .bool (decide (K ≤ k))])) ∧ ∃ q, w' = wr.drewN q) := fun wr hf k hkl => by
        have hcell : ∀ j (hj : j < l.length), wr.cell? ⟨g1, j, none⟩ = some (.int .i64 l[j]) := fun j hj => hf.cell ((hb2.cell (p := ⟨g1, j, none⟩) hg12).trans (ownI_cell ho1 j hj)) (h.oth hg11)
        refine ⟨hf.cell (ownI_cell ho2 k hkl) (h.oth (Nat.le_trans hb1.size hg21)), fun c => ?_⟩
        have HBS := Tryz.slices_BinarySearch_int g1 K (l.length - K) c (l.drop K) l[k] wr (by simp) (by omega) (fun j hj => by
          have hj' : K + j < l.length := by simp at hj; omega
          rw [hcell _ hj']; simp [List.getD, hj']) (by
          rw [List.take_of_length_le (by simp)]
          exact (hl.1.sublist (List.drop_sublist _ _)).imp (fun h => by omega))
        rw [List.take_of_length_le (by simp), stays_iff hl.1 K k hkl] at HBS
        exact HBS.mono (fun e w' ⟨h1, h2⟩ => ⟨⟨_, h1⟩, h2⟩)
      have HB := Lib.hid hbs
      clear hbs ho1 ho2 HL HI1 hg1 hg2
      go_wp2_with fail
      go_loopw [26] (fun i wr => ∃ k : Nat, k ≤ l.length ∧ i = .int .i64 k ∧ ∃ uv' d', remAll d (l.take (min k K)) = (0, d') ∧ Sm (m + k) d' ∧ DkS lo wr B M uv' d' (n + 2 * k) ∧ FrD B M uv w2 wr ∧ Nxt w2 uv uv') (fun i _ => l.length - (intOf i).toNat)
      case atStart => exact ⟨0, Nat.zero_le _, rfl, uv, d, by simp [remAll], hm, hd2, FrD.refl _ _ _ _, Nxt.refl _ _⟩
      case round =>
        obtain ⟨k, hkl, rfl, uv', d', hrem, hsm, hdk, hfr, hnx⟩ := hrel
        by_cases hlt : k < l.length
        · have hi1 : (k : Int) < (l.length : Int) := by omega
          obtain ⟨ck, HBS⟩ := HB.out wr hfr k hlt
          have ck' : wr.cell? ⟨g2, 0 + k, none⟩ = some (.int .i64 l[k]) := by rw [Nat.zero_add]; exact ck
          have HBS1 := HBS (c1 - K)
          clear HBS
          by_cases hKk : K ≤ k
          · rw [show decide (K ≤ k) = true by simpa using hKk] at HBS1
            have hmin : min (k + 1) K = min k K := by omega
            generalize l[k] = x at *
            go_wp2_with (go_at_call 29; refine HBS1.mono ?_; rintro e u1 ⟨⟨z, rfl⟩, q, rfl⟩)
            go_roundw
            case rel => exact ⟨k + 1, by omega, by go_num, uv', d', by rw [hmin]; exact hrem, hsm.up (by omega), (hdk.drewN q).up (by omega), hfr.drewN q, hnx⟩
            case measure => simp [intOf]; omega
          · rw [show decide (K ≤ k) = false by simpa using hKk] at HBS1
            have hmin : min (k + 1) K = k + 1 := by omega
            have hmin0 : min k K = k := by omega
            have hid : IdOk l[k] := hk.ok _ ((hl.2 _).1 (List.getElem_mem hlt))
            have hz := nmK_size _ hid
            rw [hmin0] at hrem
            have hnext := remAll_snoc hrem l[k]
            rw [← List.take_succ_eq_append_getElem hlt] at hnext
            have hbl : Below lo w2 wr := hfr.low hd2
            have HNm := Lib.hid (fun (q : Nat) => nameOf_any (w := wr.drewN q) (hT2.on (show Below lo w2 (wr.drewN q) from ⟨hbl.os, hbl.tape, hbl.output, hbl.size, hbl.block⟩)) hid)
            have hrmv : ∀ (q : Nat) (w5 : World) (hb5 : Below (wr.drewN q).heap.size (wr.drewN q) w5), Calls Tryz.prog 30 #[.pointer (some ⟨B, 0, none⟩), .string (nmK l[k])] w5 (StepEnd lo w5 B M uv' (n + 2 * k + 2) (rmD d' (nmK l[k]))) := fun q w5 hb5 =>
              remove_any ((hdk.drewN q).keep hb5) hsm.1 (by have := hsm.2.1; omega) (by have := hsm.2.2; omega) (by unfold maxLen; omega) _ (by unfold maxLen; omega)
            have HRm := Lib.hid hrmv
            have hsm2 := hsm.rm (nmK l[k])
            have HX := Lib.hid (And.intro hnext hsm2)
            clear hrmv hz hid hnext hsm2
            generalize nmK l[k] = nm at *
            generalize l[k] = x at *
            go_wp2_with (first
              | (go_at_call 29; refine HBS1.mono ?_; rintro e u1 ⟨⟨z, rfl⟩, q, rfl⟩)
              | (go_at_call 21; refine (HNm.out q).mono ?_; rintro e w5 ⟨rfl, hb5⟩)
              | (go_at_call 30; refine (HRm.out q w5 hb5).mono ?_; rintro e w6 ⟨rfl, uv6, hd6, hf6, hx6⟩; refine Hid.out ?_))
            refine Lib.hid ?_
            obtain ⟨hnext, hsm2⟩ := HX.out
            have hf25 : FrD B M uv w2 w5 := (hfr.drewN q).trans hnx (FrD.below hb5)
            have hsz5 : w2.heap.size ≤ w5.heap.size := hf25.size
            have hnx5 : Nxt w2 uv uv6 := hnx.trans hsz5 hx6
            have hf26 : FrD B M uv w2 w6 := hf25.trans hnx hf6
            by_cases he : (rmD d' nm).1 = 0
            · rw [he, erV_0]
              clear HRm HNm
              go_wp2_with fail
              go_roundw
              case rel => exact ⟨k + 1, by omega, by go_num, uv6, (rmD d' nm).2, by rw [hmin, hnext, ← he], hsm2, hd6.up (by omega), hf26, hnx5⟩
              case measure => simp [intOf]; omega
            · have hev := erV_ne he
              rw [hev]
              have HE2 := Lib.hid (show R = rmD d' nm by
                have hsp : l.take K = l.take (k + 1) ++ (l.take K).drop (k + 1) := by
                  have := List.take_append_drop (k + 1) (l.take K)
                  rw [List.take_take, Nat.min_eq_left (by omega)] at this
                  exact this.symm
                have hall : remAll d (l.take K) = rmD d' nm := by rw [hsp, remAll_bad (e := (rmD d' nm).1) (d' := (rmD d' nm).2) hnext he]
                rw [HE.out, hall, if_pos he])
              clear HRm HNm
              go_wp2_with fail
              go_ret
              rw [HE2.out]
              refine StepEnd.behind hb02 ⟨?_, uv6, hd6.up (by omega), hf26, hnx5⟩
              rw [hev]; rfl
        · have hi1 : ¬ (k : Int) < (l.length : Int) := by omega
          have hke : k = l.length := by omega
          subst hke
          rw [Nat.min_eq_right hKl] at hrem
          have HE2 := Lib.hid (show R = syD d' by rw [HE.out, hrem, if_neg (by simp)])
          have HS := sync_any hdk hsm.1 (by have := hsm.2.1; omega)
          go_wp2_with (go_at_call 23; refine HS.mono ?_; rintro e w5 hs5; have he5 := hs5.1; subst he5)
          go_ret
          rw [HE2.out]
          exact StepEnd.behind hb02 (StepEnd.two hfr hnx hs5)
end
end Go.Proofs.YtcmnijpcinmbbaaGreatDoor
