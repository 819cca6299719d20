/- What is wrong with the records of some lists. -/
import Derived.Test.YtfpfaekbakilpaaDoorWb
namespace Go.Proofs.YtfpfaekbakilpaaDoor
open Go.RowKit
set_option linter.unusedVariables false

/-- A list of records behind a slice: where it lies, its room, what it has. -/
structure Li where
  at_ : Option Addr
  cap : Nat
  l : List Rg
def liV (x : Li) : Value := .slice x.at_ x.l.length x.cap
def allR (L : List Li) : List Rg := L.flatMap (·.l)
theorem allR_take (L : List Li) (k : Nat) (h : k < L.length) : allR (L.take (k + 1)) = allR (L.take k) ++ L[k].l := by
  unfold allR
  rw [List.take_succ_eq_append_getElem h, List.flatMap_append]
  simp
theorem allR_le (L : List Li) (k : Nat) : (allR (L.take k)).length ≤ (allR L).length := by
  have e : allR L = allR (L.take k) ++ allR (L.drop k) := by unfold allR; rw [← List.flatMap_append, List.take_append_drop]
  rw [e, List.length_append]; omega
theorem lis_at {w : World} {la : Option Addr} {L : List Li} (h : CsAt w la (L.map liV)) (k : Nat) (hk : k < L.length) : ∃ b o, la = some ⟨b, o, none⟩ ∧ w.cell? ⟨b, o + k, none⟩ = some (liV L[k]) := by
  obtain ⟨b, o, rfl, hc⟩ := h.at (by intro e; have := congrArg List.length e; simp at this; subst this; simp at hk)
  exact ⟨b, o, rfl, hc k _ (by simp [hk])⟩

set_option maxRecDepth 100000 in
set_option maxHeartbeats 2000000 in
theorem check_any (w : World) (la : Option Addr) (c : Nat) (L : List Li) (h : CsAt w la (L.map liV)) (hr : ∀ x ∈ L, CsAt w x.at_ (rcells x.l)) (hlen : L.length ≤ 1000000) (hn : (allR L).length ≤ 9223372036854775807) (hks : ∀ r ∈ allR L, r.key.size ≤ 9223372036854775807) :
    Calls Tryd.prog 17 #[.slice la L.length c] w fun e w' => e = .returned (errV (recsE (allR L))) ∧ Below w.heap.size w w' := by
  obtain ⟨E, hE⟩ : ∃ E, E = recsE (allR L) := ⟨_, rfl⟩
  rw [← hE]
  have HE := Lib.hid hE
  clear hE
  have hmem : ∀ k (hk : k < L.length), ∀ r ∈ L[k].l, r ∈ allR L := fun k hk r hr => List.mem_flatMap.2 ⟨_, List.getElem_mem hk, hr⟩
  have HM := Lib.hid hmem
  have HR := Lib.hid hr
  have HK := Lib.hid hks
  clear hmem hr hks
  go_enter Tryd.func17, Tryd.ntmps17
  go_wp2_with fail
  go_loopw [3, 12] (fun m i wr => ∃ k : Nat, k ≤ L.length ∧ i = .int .i64 k ∧ m = .int .i64 ((allR (L.take k)).length : Nat) ∧ w = wr) (fun _ i _ => L.length - (intOf i).toNat)
  case atStart => exact ⟨0, by omega, rfl, rfl, rfl⟩
  case round =>
    obtain ⟨k, hk, rfl, rfl, rfl⟩ := hrel
    have hle := allR_le L k
    by_cases hlt : k < L.length
    · obtain ⟨b, o, rfl, c0⟩ := lis_at h k hlt
      have hs := allR_take L k hlt
      have hle2 := allR_le L (k + 1)
      rw [hs, List.length_append] at hle2
      have hs1 : (allR (L.take (k + 1))).length = (allR (L.take k)).length + L[k].l.length := by rw [hs, List.length_append]
      clear hs
      generalize (allR (L.take k)).length = n at *
      simp only [liV] at c0
      generalize L[k].l.length = m at *
      have HS := Lib.hid hs1
      clear hs1
      go_wp2_with fail
      go_roundw
      case rel => exact ⟨k + 1, by omega, by go_num, by rw [HS.out]; go_num, trivial⟩
      case measure => simp [intOf]; omega
    · have e : L.take k = L := List.take_of_length_le (by omega)
      rw [e] at hle ⊢
      clear e hle
      by_cases hmany : 400 < (allR L).length
      · have hm' : (400 : Int) < (allR L).length := by omega
        have e4 : E = 4 := by rw [HE.out]; unfold recsE; rw [if_pos hmany]
        subst e4
        go_wp2_with fail
        go_ret
        exact ⟨rfl, Below.refl _ _⟩
      · have hm' : ¬ (400 : Int) < (allR L).length := by omega
        have e4 : E = if (allR L).any badR then 1 else 0 := by rw [HE.out]; unfold recsE; rw [if_neg hmany]
        have HE' := Lib.hid e4
        clear e4 HE
        go_wp2_with fail
        go_loopw [26] (fun i wr => ∃ k : Nat, k ≤ L.length ∧ i = .int .i64 k ∧ (allR (L.take k)).any badR = false ∧ Below w.heap.size w wr) (fun i _ => L.length - (intOf i).toNat)
        case atStart => exact ⟨0, by omega, rfl, by simp [allR], Below.refl _ _⟩
        case round =>
          obtain ⟨k, hk, rfl, hno, hb⟩ := hrel
          by_cases hlt : k < L.length
          · obtain ⟨b, o, rfl, c0⟩ := lis_at (h.keep hb) k hlt
            have hs := allR_take L k hlt
            have hr0 := HR.out _ (List.getElem_mem hlt)
            have hm0 := HM.out k hlt
            simp only [liV] at c0
            generalize L[k].at_ = la2 at *
            generalize L[k].cap = c2 at *
            generalize L[k].l = R at *
            have hR1 : R.length ≤ (allR L).length := by have := allR_le L (k + 1); rw [hs, List.length_append] at this; omega
            have HS := Lib.hid hs
            have HR0 := Lib.hid hr0
            have HM0 := Lib.hid hm0
            have HNO := Lib.hid hno
            clear hs hr0 hm0 hno
            go_wp2_with fail
            go_loopw [32] (fun i wr => ∃ j : Nat, j ≤ R.length ∧ i = .int .i64 j ∧ (R.take j).any badR = false ∧ Below w.heap.size w wr) (fun i _ => R.length - (intOf i).toNat)
            case atStart => exact ⟨0, by omega, rfl, by simp, hb⟩
            case round =>
              obtain ⟨j, hj, rfl, hno2, hb2⟩ := hrel
              by_cases hlt2 : j < R.length
              · obtain ⟨b, o, rfl, c0, c1, c2⟩ := rcs_at ((HR0.out).keep hb2) j hlt2
                have hat := fun hf => any_at (f := badR) j hlt2 hf
                have hsn := any_snoc badR R j hlt2
                have hkk := HK.out _ (HM0.out _ (List.getElem_mem hlt2))
                have hm1 := HM0.out _ (List.getElem_mem hlt2)
                have hBz := hb2.size
                rw [hno2, Bool.false_or] at hsn
                generalize R[j] = r at *
                have HC := fun u => isrec_any r u hkk
                have hany : badR r = true → (allR L).any badR = true := fun hf => List.any_eq_true.2 ⟨r, hm1, hf⟩
                clear hat hm1
                obtain ⟨key, num, tm⟩ := r
                simp only [rV] at c0 c1 c2 hkk HC
                generalize badR ⟨key, num, tm⟩ = bb at *
                have HB1 : Below w.heap.size w (wr.alloc (.cells #[.string key, .int .i64 num, .int .i64 tm] 47)) := hb2.alloc hBz _
                cases bb with
                | true =>
                  have e1 : E = 1 := by rw [HE'.out, if_pos (hany rfl)]
                  subst e1
                  clear hany hsn hno2
                  go_wp2_with (go_at_call 30; refine (HC _).mono ?_; rintro e w' ⟨rfl, hb3⟩)
                  go_ret
                  exact ⟨rfl, HB1.trans (hb3.mono HB1.size)⟩
                | false =>
                  have HSN := Lib.hid hsn
                  clear hany hsn hno2
                  go_wp2_with (go_at_call 30; refine (HC _).mono ?_; rintro e w' ⟨rfl, hb3⟩)
                  go_roundw
                  case rel => exact ⟨j + 1, by omega, by go_num, HSN.out, HB1.trans (hb3.mono HB1.size)⟩
                  case measure => simp [intOf]; omega
              · have e : R.take j = R := List.take_of_length_le (by omega)
                rw [e] at hno2
                have HN2 := Lib.hid hno2
                clear hno2 e
                go_wp2_with fail
                go_roundw
                case rel => exact ⟨k + 1, by omega, by go_num, by rw [HS.out, List.any_append, HNO.out, HN2.out]; rfl, hb2⟩
                case measure => simp [intOf]; omega
          · have e0 : E = 0 := by
              rw [List.take_of_length_le (by omega)] at hno
              rw [HE'.out, hno]; rfl
            subst e0
            go_wp2_with fail
            go_ret
            exact ⟨rfl, hb⟩
end Go.Proofs.YtfpfaekbakilpaaDoor
