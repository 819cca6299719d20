/- The document's Marks of no more inputs than may be. -/
import Derived.Test.YtfpfaekbakilpaaDoorNb
import Derived.Deep.CutBlock
import Derived.Deep.DeepCutAuto
namespace Go.Proofs.YtfpfaekbakilpaaDoor
open Go.RowKit
set_option linter.unusedVariables false

theorem mkM_min (slack : Int) (l : List Rg) (q c : Nat) (h1 : q ≤ c) (h2 : q ≤ l.length) (h3 : ¬ (q < c ∧ q < l.length)) : mkM slack l q = mkM slack l c := by
  by_cases h : q < c
  · have e : q = l.length := by omega
    subst e
    unfold mkM
    rw [List.take_of_length_le (Nat.le_refl _), List.take_of_length_le (by omega)]
  · have : q = c := by omega
    rw [this]
def SmEnd (w : World) (D : List Int) (E : Nat) (e : Ending) (w' : World) : Prop :=
  (E ≠ 0 ∧ e = .returned (.tuple #[.slice none 0 0, .int .i64 (E : Nat)]) ∧ Below w.heap.size w w') ∨
  (E = 0 ∧ ∃ A cap, e = .returned (.tuple #[.slice A D.length cap, .int .i64 0]) ∧ CsAt w' A (D.map (Value.int .i64)) ∧ Below w.heap.size w w')
theorem SmEnd.no {w : World} {D : List Int} {E : Nat} {e : Ending} {w' : World} (h0 : E ≠ 0) (he : e = .returned (.tuple #[.slice none 0 0, .int .i64 (E : Nat)])) (hb : Below w.heap.size w w') : SmEnd w D E e w' := .inl ⟨h0, he, hb⟩
set_option maxRecDepth 100000 in
set_option maxHeartbeats 4000000 in
theorem smarks_small (w : World) (la : Option Addr) (c : Nat) (L : List Li) (slack : Int) (h : CsAt w la (L.map liV)) (hr : ∀ x ∈ L, CsAt w x.at_ (rcells x.l)) (hL : L.length ≤ 4) (hn : (allR L).length ≤ 1152921504606846976) (hks : ∀ r ∈ allR L, r.key.size ≤ 9223372036854775807) :
    Calls Tryd.prog 13 #[.slice la L.length c, .int .i64 slack] w fun e w' => SmEnd w (docS slack (L.map (·.l)) 400) (smE L slack) e w' := by
  obtain ⟨i0, hi, hz0, hz1, hz2⟩ := info_parts infoZn
  obtain ⟨E, hE⟩ : ∃ E, E = smE L slack := ⟨_, rfl⟩
  rw [← hE]
  have HE := Lib.hid hE
  clear hE
  have hL4 : ¬ 4 < L.length := by omega
  have hLI : ¬ (4 : Int) < (L.length : Int) := by omega
  have hmem : ∀ k (hk : k < L.length), ∀ r ∈ L[k].l, r ∈ allR L := fun k hk r hr => List.mem_flatMap.2 ⟨_, List.getElem_mem hk, hr⟩
  have HM := Lib.hid hmem
  have HR := Lib.hid hr
  have HK := Lib.hid hks
  clear hmem hr hks
  go_enter Tryd.func13, Tryd.ntmps13
  go_upto_block 0 with fail
  go_cut [6] (fun n wc => n = .int .i64 ((allR L).length : Nat) ∧ w = wc)
  case first =>
    go_wp2_with fail
    go_loop [6, 7] (fun n i => ∃ (k : Nat), k ≤ L.length ∧ i = .int .i64 k ∧ n = .int .i64 ((allR (L.take k)).length : Nat)) (fun _ i => L.length - (intOf i).toNat)
    case atStart => exact ⟨0, by omega, rfl, rfl⟩
    case round =>
      obtain ⟨k, hk, rfl, rfl⟩ := hrel
      have hle := allR_le L k
      by_cases hlt : k < L.length
      · obtain ⟨b, o, rfl, c0⟩ := lis_at h k hlt
        have hs := allR_take L k hlt
        have hle2 := allR_le L (k + 1)
        rw [hs, List.length_append] at hle2
        have hs1 : (allR (L.take (k + 1))).length = (allR (L.take k)).length + L[k].l.length := by rw [hs, List.length_append]
        clear hs
        generalize (allR (L.take k)).length = n at *
        simp only [liV] at c0
        generalize L[k].l.length = m at *
        have HS := Lib.hid hs1
        clear hs1
        go_wp2_with fail
        go_round
        case rel => exact ⟨k + 1, by omega, by go_num, by rw [HS.out]; go_num⟩
        case measure => simp [intOf]; omega
      · have e : L.take k = L := List.take_of_length_le (by omega)
        rw [e] at hle ⊢
        clear e hle
        go_wp2_with fail
        go_meet
        exact ⟨rfl, rfl⟩
  case rest =>
    obtain ⟨rfl, rfl⟩ := hcut

    by_cases hmany : 400 < (allR L).length
    · have hm' : (400 : Int) < (allR L).length := by omega
      have e4 : E = 4 := by rw [HE.out]; unfold smE; rw [if_pos (.inr hmany)]
      subst e4
      go_wp2_with fail
      go_ret2
      exact SmEnd.no (by decide) rfl (Below.refl _ _)
    · have hm' : ¬ (400 : Int) < (allR L).length := by omega
      have e4 : E = if (allR L).any badR then 1 else if slackB slack then 0 else 1 := by rw [HE.out]; unfold smE; rw [if_neg (by omega)]
      have HE' := Lib.hid e4
      clear e4 HE
      go_upto_block 2 with fail
      go_cut [8] (fun n wc => (allR L).any badR = false ∧ Below w.heap.size w wc)
      case first =>
        go_wp2_with fail
        go_loopw [8] (fun i wr => ∃ k : Nat, k ≤ L.length ∧ i = .int .i64 k ∧ (allR (L.take k)).any badR = false ∧ Below w.heap.size w wr) (fun i _ => L.length - (intOf i).toNat)
        case atStart => exact ⟨0, by omega, rfl, by simp [allR], Below.refl _ _⟩
        case round =>
          obtain ⟨k, hk, rfl, hno, hb⟩ := hrel
          by_cases hlt : k < L.length
          · have hs := allR_take L k hlt
            have hr0 := HR.out _ (List.getElem_mem hlt)
            have hm0 := HM.out k hlt
            have hlis := lis_at h k hlt
            simp only [liV] at hlis
            generalize L[k].at_ = la2 at *
            generalize L[k].cap = c2 at *
            generalize L[k].l = R at *
            have hR1 : R.length ≤ (allR L).length := by have := allR_le L (k + 1); rw [hs, List.length_append] at this; omega
            have HS := Lib.hid hs
            have HR0 := Lib.hid hr0
            have HM0 := Lib.hid hm0
            have HNO := Lib.hid hno
            have HLI := Lib.hid hlis
            clear hs hr0 hm0 hno hlis
            go_wp2_with fail
            go_loopw [9] (fun i wr => ∃ j : Nat, j ≤ R.length ∧ i = .int .i64 j ∧ (R.take j).any badR = false ∧ Below w.heap.size w wr) (fun i _ => R.length - (intOf i).toNat)
            case atStart => exact ⟨0, by omega, rfl, by simp, hb⟩
            case round =>
              obtain ⟨j, hj, rfl, hno2, hb2⟩ := hrel
              obtain ⟨lb, lo, rfl, lc0⟩ := HLI.out
              have lc1 : wr.cell? ⟨lb, lo + k, none⟩ = some (.slice la2 R.length c2) := by rw [hb2.cell (p := ⟨lb, lo + k, none⟩) (cell_lt lc0)]; exact lc0
              clear lc0
              by_cases hlt2 : j < R.length
              · obtain ⟨b, o, rfl, c0, c1, c2'⟩ := rcs_at ((HR0.out).keep hb2) j hlt2
                have hat := fun hf => any_at (f := badR) j hlt2 hf
                have hsn := any_snoc badR R j hlt2
                have hkk := HK.out _ (HM0.out _ (List.getElem_mem hlt2))
                have hm1 := HM0.out _ (List.getElem_mem hlt2)
                have hBz := hb2.size
                rw [hno2, Bool.false_or] at hsn
                generalize R[j] = r at *
                have HC := fun u => srec_any r u hkk
                have hany : badR r = true → (allR L).any badR = true := fun hf => List.any_eq_true.2 ⟨r, hm1, hf⟩
                clear hat hm1
                obtain ⟨key, num, tm⟩ := r
                simp only [rV] at c0 c1 c2' hkk HC
                generalize badR ⟨key, num, tm⟩ = bb at *
                cases bb with
                | true =>
                  have e1 : E = 1 := by rw [HE'.out, if_pos (hany rfl)]
                  subst e1
                  clear hany hsn hno2
                  go_wp2_with (go_at_call 16; refine (HC _).mono ?_; rintro e w' ⟨rfl, hb3⟩)
                  go_ret2
                  exact SmEnd.no (by decide) rfl (hb2.trans (hb3.mono hBz))
                | false =>
                  have HSN := Lib.hid hsn
                  clear hany hsn hno2
                  go_wp2_with (go_at_call 16; refine (HC _).mono ?_; rintro e w' ⟨rfl, hb3⟩)
                  go_roundw
                  case rel => exact ⟨j + 1, by omega, by go_num, HSN.out, hb2.trans (hb3.mono hBz)⟩
                  case measure => simp [intOf]; omega
              · have e : R.take j = R := List.take_of_length_le (by omega)
                rw [e] at hno2
                have HN2 := Lib.hid hno2
                clear hno2 e
                go_wp2_with fail
                go_roundw
                case rel => exact ⟨k + 1, by omega, by go_num, by rw [HS.out, List.any_append, HNO.out, HN2.out]; rfl, hb2⟩
                case measure => simp [intOf]; omega
          · have hall : (allR L).any badR = false := by
              rw [List.take_of_length_le (by omega)] at hno; exact hno
            have HAL := Lib.hid hall
            clear hall hno
            go_wp2_with fail
            go_meet
            exact ⟨HAL.out, hb⟩
      case rest =>
        obtain ⟨hall, hb⟩ := hcut
        have e5 : E = if slackB slack then 0 else 1 := by rw [HE'.out, hall]; rfl
        have HAL := Lib.hid hall
        have HE2 := Lib.hid e5
        clear hall e5 HE'
        generalize wc = W at *
        by_cases hs1 : slack < 0
        · have e1 : E = 1 := by rw [HE2.out, if_neg (by unfold slackB; simp; omega)]
          subst e1
          go_wp2_with fail
          go_ret2
          exact SmEnd.no (by decide) rfl hb
        by_cases hs2 : 1000000 < slack
        · have e1 : E = 1 := by rw [HE2.out, if_neg (by unfold slackB; simp; omega)]
          subst e1
          go_wp2_with fail
          go_ret2
          exact SmEnd.no (by decide) rfl hb
        have s0 : 0 ≤ slack := by omega
        have s1 : slack ≤ 1000000 := by omega
        have e1 : E = 0 := by rw [HE2.out, if_pos (by unfold slackB; simp; omega)]
        subst e1
        clear HE2
        have hgood : ∀ x ∈ L, ∀ r ∈ x.l, 0 ≤ r.tm ∧ r.tm ≤ 1000000 := fun x hx r hr => by
          have h1 : r ∈ allR L := List.mem_flatMap.2 ⟨x, hx, hr⟩
          have h2 : badR r = false := by
            cases hb : badR r with
            | false => rfl
            | true => have := List.any_eq_true.2 ⟨r, h1, hb⟩; rw [HAL.out] at this; cases this
          unfold badR at h2
          simp only [Bool.not_eq_false', Bool.and_eq_true, decide_eq_true_eq] at h2
          omega
        have hbd : ∀ l ∈ L.map (·.l), ∀ r ∈ l, r.tm ≤ 1000000 := fun l hl r hr => by
          obtain ⟨x, hx, rfl⟩ := List.mem_map.1 hl
          exact (hgood x hx r hr).2
        have hlst := lstV_bd s0 (L.map (·.l)) hbd
        have hmkm := fun (x : Li) (hx : x ∈ L) (t : Nat) => mkM_bd s0 x.l (fun r hr => (hgood x hx r hr).2) t
        have hlen := docS_len slack (L.map (·.l))
        have hlen2 := turnP_len slack (L.map (·.l))
        have hlc : (L.map (·.l)).length = L.length := List.length_map _
        have HG := Lib.hid hgood
        have HB := Lib.hid hlst
        have HKM := Lib.hid hmkm
        have HCB : Hid (∀ t a jj, ∀ x ∈ cL slack (L.map (·.l)) t a jj, 0 ≤ x) := Lib.hid (fun t a jj x hx => (cL_bd s0 (L.map (·.l)) hbd t a jj x hx).1)
        have HRL : Hid (∀ (k : Nat) (hk : k < L.length), L[k].l.length ≤ 400) := Lib.hid (fun k hk => by
          have h1 := allR_le L (k + 1)
          rw [allR_take L k hk, List.length_append] at h1
          omega)
        have HLN := Lib.hid hlen
        have HLN2 := Lib.hid hlen2
        clear hgood hbd hlst hmkm hlen hlen2 HAL
        generalize hins : L.map (·.l) = ins at *
        have HINS := Lib.hid hins
        clear hins
        go_wp2_with fail
        go_loopw [11, 12] (fun v tt wr => ∃ t : Nat, t ≤ 400 ∧ tt = .int .i64 t ∧ wr.ownsRow W.heap.size 3 1 v (docS slack ins t).length ((docS slack ins t).map (Value.int .i64)) ∧ Below W.heap.size W wr) (fun _ tt _ => 400 - (intOf tt).toNat)
        case atStart => exact ⟨0, by omega, rfl, World.ownsRow_nil _ _ _ _, Below.refl _ _⟩
        case round =>
          obtain ⟨t, ht4, rfl, hown, hb4⟩ := hrel
          have hl4 := HLN.out t
          have hds := docS_succ slack ins t
          have HDS := Lib.hid hds
          clear hds
          by_cases hlt : t < 400
          · have hX : t * ins.length ≤ 400 * 4 := Nat.mul_le_mul (by omega) (by omega)
            have hl5 : (docS slack ins t).length ≤ 1600 := by omega
            have HD0 : Hid (docS slack ins t = docS slack ins t ++ turnP slack ins t 0) := by simp [turnP]; exact Lib.hid trivial
            clear hX hl4
            generalize docS slack ins t = D at *
            have ht8 : decide ((t : Int) < 400) = true := by simp; omega
            go_wp2_with fail
            go_loopw [11, 13] (fun v i wr => ∃ a : Nat, a ≤ L.length ∧ i = .int .i64 a ∧ wr.ownsRow W.heap.size 3 1 v (D ++ turnP slack ins t a).length ((D ++ turnP slack ins t a).map (Value.int .i64)) ∧ Below W.heap.size W wr) (fun _ i _ => L.length - (intOf i).toNat)
            case atStart => exact ⟨0, by omega, rfl, by rw [← HD0.out]; exact hown, hb4⟩
            case round =>
              obtain ⟨a, ha, rfl, hown5, hb5⟩ := hrel
              have hl6 := HLN2.out t a
              have htp : turnP slack ins t (a + 1) = turnP slack ins t a ++ (if t < (ins.getD a []).length then [docL slack ins t a] else []) := rfl
              have HTP := Lib.hid htp
              clear htp
              have HLW := Lib.hid ((h.keep hb).keep hb5)
              by_cases hlt5 : a < L.length
              · obtain ⟨b, o, rfl, c0⟩ := lis_at HLW.out a hlt5
                have hga : ins.getD a [] = L[a].l := by rw [← HINS.out, List.getD_eq_getElem?_getD, List.getElem?_map, List.getElem?_eq_getElem hlt5]; rfl
                have hil : ∀ (k : Nat) (h1 : k < ins.length) (h2 : k < L.length), ins[k] = L[k].l := fun k h1 h2 => by
                  have e : ins[k]? = some L[k].l := by rw [← HINS.out, List.getElem?_map, List.getElem?_eq_getElem h2]; rfl
                  rw [List.getElem?_eq_getElem h1] at e
                  exact Option.some.inj e
                have hlcn : ins.length = L.length := hlc
                have HDL : Hid (t < L[a].l.length → lstV (cL slack ins t a L.length) = docL slack ins t a) := Lib.hid (fun hn => by
                  have := docL_lst slack ins t a (by omega) (by rw [hil a (by omega) hlt5]; exact hn)
                  rw [hlcn] at this; exact this)
                have HIL := Lib.hid hil
                rw [hga] at HTP
                clear hga hil
                simp only [liV] at c0
                generalize L[a].l.length = na at *
                clear h hown
                by_cases ht : t < na
                · have HDL2 := Lib.hid (HDL.out ht)
                  have HTP2 : Hid (turnP slack ins t (a + 1) = turnP slack ins t a ++ [docL slack ins t a]) := by
                    have := HTP.out
                    rw [if_pos (by omega)] at this
                    exact Lib.hid this
                  have hl7 : (D ++ turnP slack ins t a).length ≤ 1700 := by rw [List.length_append]; omega
                  have hnt8 : decide (na ≤ t) = false := by simp; omega
                  clear HTP HDL hlcn
                  obtain ⟨CL, hCL⟩ : ∃ CL, CL = docL slack ins t a := ⟨_, rfl⟩
                  rw [← hCL] at HDL2 HTP2
                  clear hCL
                  have HOW := Lib.hid hown5
                  clear hown5
                  go_upto_block 10 with fail
                  go_cut [14] (fun v14 wc => v14 = .int .i64 CL ∧ wr = wc)
                  case first =>
                   go_wp2_with fail
                   go_loop [14, 15] (fun lv j => ∃ jj : Nat, jj ≤ L.length ∧ j = .int .i64 jj ∧ lv = .int .i64 (lstV (cL slack ins t a jj))) (fun _ j => L.length - (intOf j).toNat)
                   case atStart => exact ⟨0, by omega, rfl, by rw [cL_zero]; rfl⟩
                   case round =>
                     obtain ⟨jj, hjj, rfl, rfl⟩ := hrel
                     obtain ⟨v0, v1⟩ := HB.out t a jj
                     by_cases hlt6 : jj < L.length
                     · obtain ⟨b2, o2, e2, d0⟩ := lis_at HLW.out jj hlt6
                       simp only [Option.some.injEq, Addr.mk.injEq, and_true] at e2
                       obtain ⟨rfl, rfl⟩ := e2
                       have hcs := cL_succ slack ins t a jj (by rw [hlc]; exact hlt6)
                       rw [HIL.out jj (by rw [hlc]; exact hlt6) hlt6] at hcs
                       have hcb : ∀ x ∈ cL slack ins t a jj, 0 ≤ x := HCB.out t a jj
                       have HKR : Hid (∀ q, 0 ≤ mkM slack L[jj].l q ∧ mkM slack L[jj].l q ≤ 1000000) := Lib.hid (fun q => HKM.out _ (List.getElem_mem hlt6) q)
                       have HRC := Lib.hid ((((HR.out _ (List.getElem_mem hlt6)).keep hb).keep hb5))
                       have HGR : Hid (∀ r ∈ L[jj].l, 0 ≤ r.tm ∧ r.tm ≤ 1000000) := Lib.hid (HG.out _ (List.getElem_mem hlt6))
                       have hRl := HRL.out jj hlt6
                       simp only [liV] at d0
                       generalize L[jj].at_ = la2 at *
                       generalize L[jj].cap = c2 at *
                       generalize L[jj].l = R at *
                       by_cases he : R = []
                       · subst he
                         have hsn : lstV (cL slack ins t a (jj + 1)) = lstV (cL slack ins t a jj) := by rw [hcs]; simp [neB]
                         have HSN := Lib.hid hsn
                         clear hsn hcs hcb
                         simp only [List.length_nil] at d0
                         generalize lstV (cL slack ins t a jj) = lv at *
                         go_wp2_with fail
                         go_round
                         case rel => exact ⟨jj + 1, by omega, by go_num, by rw [HSN.out]⟩
                         case measure => simp [intOf]; omega
                       · have hR0 : 0 < R.length := List.length_pos_iff.2 he
                         have hnb : neB R = true := by
                           unfold neB
                           cases R with
                           | nil => exact absurd rfl he
                           | cons _ _ => rfl
                         have hsn0 : lstV (cL slack ins t a (jj + 1)) = if lstV (cL slack ins t a jj) < 0 ∨ mkM slack R (came t a jj) < lstV (cL slack ins t a jj) then mkM slack R (came t a jj) else lstV (cL slack ins t a jj) := by
                           rw [hcs, if_pos hnb]; exact lstV_snoc hcb _
                         clear hcs hcb hnb he
                         by_cases hja : jj ≤ a
                         · have hji : (jj : Int) ≤ (a : Int) := by omega
                           have ec : came t a jj = t + 1 := if_pos hja
                           rw [ec] at hsn0
                           have HSN := Lib.hid hsn0
                           clear hsn0 ec
                           go_wp2_with fail
                           go_loop [17, 18] (fun mv qv => ∃ q : Nat, q ≤ R.length ∧ q ≤ t + 1 ∧ qv = .int .i64 q ∧ mv = .int .i64 (mkM slack R q)) (fun _ qv => R.length - (intOf qv).toNat)
                           case atStart => exact ⟨0, by omega, by omega, rfl, rfl⟩
                           case round =>
                             obtain ⟨q, hq1, hq2, rfl, rfl⟩ := hrel
                             obtain ⟨m0, m1⟩ := HKR.out q
                             have hmi := fun hn => mkM_min slack R q (t + 1) hq2 hq1 hn
                             have HMI := Lib.hid hmi
                             have hms := mkM_succ slack R q
                             have HMS := Lib.hid hms
                             clear hmi hms
                             by_cases hc1 : q < t + 1
                             · have hi1 : (q : Int) < (t : Int) + 1 := by omega
                               by_cases hc2 : q < R.length
                               · have hi2 : (q : Int) < (R.length : Int) := by omega
                                 obtain ⟨rb, ro, rfl, r0, r1, r2⟩ := rcs_at HRC.out q hc2
                                 have hgq := HGR.out _ (List.getElem_mem hc2)
                                 have hmq := HMS.out hc2
                                 generalize R[q] = r at *
                                 obtain ⟨key, num, tm⟩ := r
                                 simp only at r0 r1 r2 hgq hmq
                                 obtain ⟨g0, g1⟩ := hgq
                                 have HMQ := Lib.hid hmq
                                 clear hmq HMS HMI
                                 generalize mkM slack R q = mq at *
                                 by_cases hgt : mq < tm - slack
                                 · go_wp2_with fail
                                   go_round
                                   case rel => exact ⟨q + 1, by omega, by omega, by go_num, by rw [HMQ.out]; go_num⟩
                                   case measure => simp [intOf]; omega
                                 · go_wp2_with fail
                                   go_round
                                   case rel => exact ⟨q + 1, by omega, by omega, by go_num, by rw [HMQ.out]; go_num⟩
                                   case measure => simp [intOf]; omega
                               · have hi2 : ¬ (q : Int) < (R.length : Int) := by omega
                                 have hme := HMI.out (fun e => hc2 e.2)
                                 have HSN2 : Hid (lstV (cL slack ins t a (jj + 1)) = if lstV (cL slack ins t a jj) < 0 ∨ mkM slack R q < lstV (cL slack ins t a jj) then mkM slack R q else lstV (cL slack ins t a jj)) := by rw [hme]; exact HSN
                                 clear hme HMI HMS
                                 generalize mkM slack R q = mq at *
                                 generalize lstV (cL slack ins t a jj) = lv at *
                                 by_cases hv : lv < 0
                                 · go_wp2_with fail
                                   go_round
                                   case rel => exact ⟨jj + 1, by omega, by go_num, by rw [HSN2.out, if_pos (.inl hv)]⟩
                                   case measure => simp [intOf]; omega
                                 · by_cases hv2 : mq < lv
                                   · go_wp2_with fail
                                     go_round
                                     case rel => exact ⟨jj + 1, by omega, by go_num, by rw [HSN2.out, if_pos (.inr hv2)]⟩
                                     case measure => simp [intOf]; omega
                                   · go_wp2_with fail
                                     go_round
                                     case rel => exact ⟨jj + 1, by omega, by go_num, by rw [HSN2.out, if_neg (by omega)]⟩
                                     case measure => simp [intOf]; omega
                             · have hi1 : ¬ (q : Int) < (t : Int) + 1 := by omega
                               have hme := HMI.out (fun e => hc1 e.1)
                               have HSN2 : Hid (lstV (cL slack ins t a (jj + 1)) = if lstV (cL slack ins t a jj) < 0 ∨ mkM slack R q < lstV (cL slack ins t a jj) then mkM slack R q else lstV (cL slack ins t a jj)) := by rw [hme]; exact HSN
                               clear hme HMI HMS
                               generalize mkM slack R q = mq at *
                               generalize lstV (cL slack ins t a jj) = lv at *
                               by_cases hv : lv < 0
                               · go_wp2_with fail
                                 go_round
                                 case rel => exact ⟨jj + 1, by omega, by go_num, by rw [HSN2.out, if_pos (.inl hv)]⟩
                                 case measure => simp [intOf]; omega
                               · by_cases hv2 : mq < lv
                                 · go_wp2_with fail
                                   go_round
                                   case rel => exact ⟨jj + 1, by omega, by go_num, by rw [HSN2.out, if_pos (.inr hv2)]⟩
                                   case measure => simp [intOf]; omega
                                 · go_wp2_with fail
                                   go_round
                                   case rel => exact ⟨jj + 1, by omega, by go_num, by rw [HSN2.out, if_neg (by omega)]⟩
                                   case measure => simp [intOf]; omega
                         · have hji : ¬ (jj : Int) ≤ (a : Int) := by omega
                           have ec : came t a jj = t := if_neg hja
                           rw [ec] at hsn0
                           have HSN := Lib.hid hsn0
                           clear hsn0 ec
                           go_wp2_with fail
                           go_loop [17, 18] (fun mv qv => ∃ q : Nat, q ≤ R.length ∧ q ≤ t ∧ qv = .int .i64 q ∧ mv = .int .i64 (mkM slack R q)) (fun _ qv => R.length - (intOf qv).toNat)
                           case atStart => exact ⟨0, by omega, by omega, rfl, rfl⟩
                           case round =>
                             obtain ⟨q, hq1, hq2, rfl, rfl⟩ := hrel
                             obtain ⟨m0, m1⟩ := HKR.out q
                             have hmi := fun hn => mkM_min slack R q (t) hq2 hq1 hn
                             have HMI := Lib.hid hmi
                             have hms := mkM_succ slack R q
                             have HMS := Lib.hid hms
                             clear hmi hms
                             by_cases hc1 : q < t
                             · have hi1 : (q : Int) < (t : Int) := by omega
                               by_cases hc2 : q < R.length
                               · have hi2 : (q : Int) < (R.length : Int) := by omega
                                 obtain ⟨rb, ro, rfl, r0, r1, r2⟩ := rcs_at HRC.out q hc2
                                 have hgq := HGR.out _ (List.getElem_mem hc2)
                                 have hmq := HMS.out hc2
                                 generalize R[q] = r at *
                                 obtain ⟨key, num, tm⟩ := r
                                 simp only at r0 r1 r2 hgq hmq
                                 obtain ⟨g0, g1⟩ := hgq
                                 have HMQ := Lib.hid hmq
                                 clear hmq HMS HMI
                                 generalize mkM slack R q = mq at *
                                 by_cases hgt : mq < tm - slack
                                 · go_wp2_with fail
                                   go_round
                                   case rel => exact ⟨q + 1, by omega, by omega, by go_num, by rw [HMQ.out]; go_num⟩
                                   case measure => simp [intOf]; omega
                                 · go_wp2_with fail
                                   go_round
                                   case rel => exact ⟨q + 1, by omega, by omega, by go_num, by rw [HMQ.out]; go_num⟩
                                   case measure => simp [intOf]; omega
                               · have hi2 : ¬ (q : Int) < (R.length : Int) := by omega
                                 have hme := HMI.out (fun e => hc2 e.2)
                                 have HSN2 : Hid (lstV (cL slack ins t a (jj + 1)) = if lstV (cL slack ins t a jj) < 0 ∨ mkM slack R q < lstV (cL slack ins t a jj) then mkM slack R q else lstV (cL slack ins t a jj)) := by rw [hme]; exact HSN
                                 clear hme HMI HMS
                                 generalize mkM slack R q = mq at *
                                 generalize lstV (cL slack ins t a jj) = lv at *
                                 by_cases hv : lv < 0
                                 · go_wp2_with fail
                                   go_round
                                   case rel => exact ⟨jj + 1, by omega, by go_num, by rw [HSN2.out, if_pos (.inl hv)]⟩
                                   case measure => simp [intOf]; omega
                                 · by_cases hv2 : mq < lv
                                   · go_wp2_with fail
                                     go_round
                                     case rel => exact ⟨jj + 1, by omega, by go_num, by rw [HSN2.out, if_pos (.inr hv2)]⟩
                                     case measure => simp [intOf]; omega
                                   · go_wp2_with fail
                                     go_round
                                     case rel => exact ⟨jj + 1, by omega, by go_num, by rw [HSN2.out, if_neg (by omega)]⟩
                                     case measure => simp [intOf]; omega
                             · have hi1 : ¬ (q : Int) < (t : Int) := by omega
                               have hme := HMI.out (fun e => hc1 e.1)
                               have HSN2 : Hid (lstV (cL slack ins t a (jj + 1)) = if lstV (cL slack ins t a jj) < 0 ∨ mkM slack R q < lstV (cL slack ins t a jj) then mkM slack R q else lstV (cL slack ins t a jj)) := by rw [hme]; exact HSN
                               clear hme HMI HMS
                               generalize mkM slack R q = mq at *
                               generalize lstV (cL slack ins t a jj) = lv at *
                               by_cases hv : lv < 0
                               · go_wp2_with fail
                                 go_round
                                 case rel => exact ⟨jj + 1, by omega, by go_num, by rw [HSN2.out, if_pos (.inl hv)]⟩
                                 case measure => simp [intOf]; omega
                               · by_cases hv2 : mq < lv
                                 · go_wp2_with fail
                                   go_round
                                   case rel => exact ⟨jj + 1, by omega, by go_num, by rw [HSN2.out, if_pos (.inr hv2)]⟩
                                   case measure => simp [intOf]; omega
                                 · go_wp2_with fail
                                   go_round
                                   case rel => exact ⟨jj + 1, by omega, by go_num, by rw [HSN2.out, if_neg (by omega)]⟩
                                   case measure => simp [intOf]; omega
                     · have ej : jj = L.length := by omega
                       subst ej
                       rw [HDL2.out]
                       go_wp2_with fail
                       go_meet
                       exact ⟨rfl, rfl⟩
                  case rest =>
                    obtain ⟨rfl, rfl⟩ := hcut
                    have hown6 := HOW.out
                    have HO6 := HOW
                    clear HOW
                    generalize hP6 : D ++ turnP slack ins t a = P6 at *
                    have HP6 := Lib.hid hP6
                    clear hP6
                    obtain ⟨A5, cap5, rfl⟩ := row_slice hown6
                    have hBz := hb5.size
                    go_wp2_with (at_builtin; refine wpList_append_own _ rfl _ _ 38 rfl W.heap.size 3 i0 (.int .i64 0) 1 8 Tryd.underlying38 hi hz0 hz1 hz2 rfl (by decide) _ _ _ rfl (hown6.alloc _) ⟨wr.heap.size, 0, none⟩ 1 1 [.int .i64 CL] rfl rfl (cell_one_q _ _ rfl _ _) (by intro u hu; simp at hu; subst hu; rfl) (by unfold maxLen; omega) (by omega) (by simp; omega) ?_)
                    intro v' w3 hown' hgrow _
                    have hb6 : Below W.heap.size W w3 := (hb5.alloc hBz _).grown hgrow (by simp; omega) (fun k hk => by have := (HO6.out.lt k hk).1; omega)
                    have HO3 : Hid (w3.ownsRow W.heap.size 3 1 v' (D ++ turnP slack ins t (a + 1)).length ((D ++ turnP slack ins t (a + 1)).map (Value.int .i64))) := by
                      rw [HTP2.out, ← List.append_assoc, HP6.out, List.length_append, List.map_append]; exact Lib.hid hown'
                    clear hown' hgrow hown6 c0 hi hz0 hz1 hz2 HO6 hBz
                    go_wp2_with fail
                    go_roundw
                    case rel => exact ⟨a + 1, by omega, by go_num, HO3.out, hb6⟩
                    case measure => simp [intOf]; omega
                · have HTP2 : Hid (turnP slack ins t (a + 1) = turnP slack ins t a) := by
                    have := HTP.out
                    rw [if_neg (by omega), List.append_nil] at this
                    exact Lib.hid this
                  clear HTP HDL hlcn
                  have HOW := Lib.hid hown5
                  clear hown5
                  go_wp2_with fail
                  go_roundw
                  case rel => exact ⟨a + 1, by omega, by go_num, by rw [HTP2.out]; exact HOW.out, hb5⟩
                  case measure => simp [intOf]; omega
              · have ea : a = L.length := by omega
                subst ea
                have hd2 : Hid (docS slack ins (t + 1) = D ++ turnP slack ins t L.length) := by
                  have := HDS.out; rw [hlc] at this; exact Lib.hid this
                have HOW := Lib.hid hown5
                clear hown5
                go_wp2_with fail
                go_roundw
                case rel => exact ⟨t + 1, by omega, by go_num, by rw [hd2.out]; exact HOW.out, hb5⟩
                case measure => simp [intOf]; omega
          · have et : t = 400 := by omega
            subst et
            obtain ⟨A4, c4, rfl⟩ := row_slice hown
            have hcs := (own_cs hown (by simp)).1
            have HCS := Lib.hid hcs
            clear hown hcs
            go_wp2_with fail
            go_ret2
            rw [HINS.out]
            exact .inr ⟨rfl, A4, c4, rfl, HCS.out, below_after hb4 hb⟩
end Go.Proofs.YtfpfaekbakilpaaDoor
