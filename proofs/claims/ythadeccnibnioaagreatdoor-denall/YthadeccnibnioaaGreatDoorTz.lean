import Derived.Test.YthadeccnibnioaaGreatDoorTad
import Derived.Test.YthadeccnibnioaaGreatDoorJz2
import Derived.Test.YthadeccnibnioaaGreatDoorJz3
import Derived.Test.YthadeccnibnioaaGreatDoorDb0
import Derived.Test.YthadeccnibnioaaGreatDoorKl
/- The document's Node, Ends, Job and Of. -/
namespace Go.Proofs.YthadeccnibnioaaGreatDoor
open Go.RowKit
set_option linter.unusedVariables false
set_option linter.unusedSimpArgs false

set_option maxHeartbeats 1000000 in
set_option maxRecDepth 100000 in
theorem dnode_any {w : World} {la : Option Addr} {L : List Nd} {c : Nat} (hL : NdsAt w la L) (own : Nat) (hown : own < L.length) (hl : L.length ≤ 12) :
    Calls Tryz.prog 44 #[.slice la L.length c, .int .i64 own] w fun e w' => e = .returned (.int .i64 (nodeP (L.take own) L[own] : Nat)) ∧ Below w.heap.size w w' := by
  have hTl : (L.take own).length = own := by simp; omega
  rcases hL with hL | ⟨b, o, rfl, hL⟩
  · subst hL; simp at hown
  have hA : ∀ i (h : i < (L.take own).length), w.cell? ⟨b, o + i * 4, none⟩ = some (.int .i64 (L.take own)[i].k) := fun i h => by
    rw [List.getElem_take]
    exact (hL i (by rw [hTl] at h; omega)).1
  obtain ⟨c0, ⟨fa, fc, c1, hI⟩, c2, c3, hz1, hz2⟩ := hL own hown
  clear hL
  generalize L[own] = nd at *
  generalize L.take own = Ah at *
  obtain ⟨k, fs, tx, n⟩ := nd
  simp only at c0 c1 c2 c3 hz1 hz2 hI
  by_cases hk1 : k < 1
  · rw [show nodeP Ah ⟨k, fs, tx, n⟩ = 1 from by rw [nodeP, if_pos (.inl hk1)]]
    clear hA hI
    go_enter Tryz.func44, Tryz.ntmps44
    go_wp2_with fail
    go_ret
    exact ⟨rfl, (Below.refl _ _).alloc (Nat.le_refl _) _⟩
  by_cases hk2 : 10 < k
  · rw [show nodeP Ah ⟨k, fs, tx, n⟩ = 1 from by rw [nodeP, if_pos (.inr hk2)]]
    clear hA hI
    go_enter Tryz.func44, Tryz.ntmps44
    go_wp2_with fail
    go_ret
    exact ⟨rfl, (Below.refl _ _).alloc (Nat.le_refl _) _⟩
  have hcase : k = 1 ∨ k = 5 ∨ k = 8 ∨ k = 6 ∨ (k = 2 ∨ k = 3 ∨ k = 4 ∨ k = 7) ∨ (k = 9 ∨ k = 10) := by omega
  rcases hcase with h | h | h | h | h | h
  · exact nd_a h hown hl hTl c0 c1 c2 c3 hI hA hz2
  · exact nd_b h hown hl hTl c0 c1 c2 c3 hI hA hz2
  · exact nd_c h hown hl hTl c0 c1 c2 c3 hI hA hz2
  · exact nd_d h hown hl hTl c0 c1 c2 c3 hI hA hz2
  · exact nd_e h hown hl hTl c0 c1 c2 c3 hI hA hz2
  · exact nd_f h hown hl hTl c0 c1 c2 c3 hI hA hz2

set_option maxHeartbeats 1000000 in
theorem dends_any {w : World} {la : Option Addr} {L : List Nd} {c : Nat} (hL : NdsAt w la L) (hl : L.length ≤ 12) :
    Calls Tryz.prog 45 #[.slice la L.length c] w fun e w' => e = .returned (.int .i64 (endsP L : Nat)) ∧ w = w' := by
  obtain ⟨R, hR⟩ : ∃ R, R = endsP L := ⟨_, rfl⟩
  rw [← hR]
  have HR := Lib.hid hR
  clear hR
  go_enter Tryz.func45, Tryz.ntmps45
  go_wp2_with fail
  go_loopw [3, 4, 5] (fun x y i wr => ∃ (j : Nat) (p q : Bool), j ≤ L.length ∧ i = .int .i64 j ∧ x = .bool p ∧ y = .bool q ∧ Hid (p = (L.take j).any (fun nd => nd.k == 1)) ∧ Hid (q = (L.take j).any (fun nd => nd.k == 10)) ∧ w = wr) (fun _ _ i _ => L.length - (intOf i).toNat)
  case atStart => exact ⟨0, false, false, by omega, rfl, rfl, rfl, by simp [Hid], by simp [Hid], rfl⟩
  case round =>
    obtain ⟨j, p, q, hj, rfl, rfl, rfl, HP, HQ, rfl⟩ := hrel
    by_cases hlt : j < L.length
    · rcases hL with hL | ⟨b, o, rfl, hL⟩
      · subst hL; simp at hlt
      obtain ⟨c0, -⟩ := hL j hlt
      have hP : Hid ((p || (L[j].k == 1)) = (L.take (j + 1)).any (fun nd => nd.k == 1)) := by
        show _ = _
        rw [List.take_succ_eq_append_getElem hlt, List.any_append, HP.out]; simp
      have hQ : Hid ((q || (L[j].k == 10)) = (L.take (j + 1)).any (fun nd => nd.k == 10)) := by
        show _ = _
        rw [List.take_succ_eq_append_getElem hlt, List.any_append, HQ.out]; simp
      have hjI : (j : Int) < L.length := by omega
      clear hL HP HQ
      generalize L[j].k = k at *
      cases p <;> cases q
      all_goals
        go_wp2_with fail
        exact ⟨⟨j + 1, _, _, by omega, by go_num, rfl, rfl, hP, hQ, by trivial⟩, by simp [intOf]; omega⟩
    · have hj' : j = L.length := by omega
      subst hj'
      have hp := HP.out
      have hq := HQ.out
      rw [List.take_length] at hp hq
      have HE : Hid (R = if p && q then 0 else 6) := by show _ = _; rw [HR.out, endsP, hp, hq]
      clear HP HQ hp hq HR hL
      cases p <;> cases q
      all_goals
        go_wp2_with fail
        go_ret
        exact ⟨retI (by rw [HE.out]; rfl), rfl⟩

set_option maxHeartbeats 1000000 in
theorem djob_any {w : World} {la : Option Addr} {L : List Nd} {c : Nat} (hL : NdsAt w la L) :
    Calls Tryz.prog 15 #[.slice la L.length c] w fun e w' => e = .returned (.int .i64 (jobP L : Nat)) ∧ Below w.heap.size w w' := by
  unfold jobP
  by_cases hlen : 12 < L.length
  · have hi : (12 : Int) < L.length := by omega
    rw [if_pos hlen]
    clear hL
    go_enter Tryz.func15, Tryz.ntmps15
    go_wp2_with fail
    go_ret
    exact ⟨rfl, Below.refl _ _⟩
  · rw [if_neg hlen]
    have hi : ¬ (12 : Int) < L.length := by omega
    obtain ⟨R, hR⟩ : ∃ R, R = (if allP [] L = 0 then endsP L else allP [] L) := ⟨_, rfl⟩
    rw [← hR]
    have HR := Lib.hid hR
    clear hR
    have cN := Lib.hid (fun (w1 : World) (j : Nat) (h : j < L.length) (hb : Below w.heap.size w w1) => dnode_any (c := c) (hL.keep (Keeps.of hb)) j h (by omega))
    have cE := Lib.hid (fun (w1 : World) (hb : Below w.heap.size w w1) => dends_any (c := c) (hL.keep (Keeps.of hb)) (by omega))
    clear hL
    go_enter Tryz.func15, Tryz.ntmps15
    go_wp2_with fail
    go_loopw [3] (fun i wr => ∃ j : Nat, j ≤ L.length ∧ i = .int .i64 j ∧ Hid (allP (L.take j) (L.drop j) = allP [] L) ∧ Below w.heap.size w wr) (fun i _ => L.length - (intOf i).toNat)
    case atStart => exact ⟨0, by omega, rfl, by simp [Hid], Below.refl _ _⟩
    case round =>
      obtain ⟨j, hj, rfl, HJ, hb⟩ := hrel
      by_cases hlt : j < L.length
      · have hfj := HJ.out
        rw [allP_step hlt] at hfj
        have cj := cN.out wr j hlt hb
        have hjI : (j : Int) < L.length := by omega
        by_cases h0 : nodeP (L.take j) L[j] = 0
        · rw [if_pos h0] at hfj
          rw [h0] at cj
          have HF := Lib.hid hfj
          clear hfj cN cE h0 HJ
          go_wp2_with (go_at_call 44; refine cj.mono ?_; rintro e w' ⟨rfl, hb2⟩; refine Hid.out ?_)
          refine Lib.hid ?_
          go_wp2_with fail
          exact ⟨⟨j + 1, by omega, by go_num, HF, below_two hb hb2⟩, by simp [intOf]; omega⟩
        · rw [if_neg h0] at hfj
          have HV : Hid (R = nodeP (L.take j) L[j]) := by show _ = _; rw [HR.out, ← hfj, if_neg h0]
          have hne : (((nodeP (L.take j) L[j] : Nat) : Int) != 0) = true := by simpa using h0
          generalize nodeP (L.take j) L[j] = x at *
          clear hfj cN cE HR h0 HJ
          go_wp2_with (go_at_call 44; refine cj.mono ?_; rintro e w' ⟨rfl, hb2⟩; refine Hid.out ?_)
          refine Lib.hid ?_
          go_wp2_with fail
          go_ret
          exact ⟨retI (by rw [HV.out]), below_two hb hb2⟩
      · have hj' : j = L.length := by omega
        subst hj'
        have HV : Hid (R = endsP L) := by show _ = _; have := HJ.out; rw [HR.out, ← this, List.drop_length, allP, if_pos rfl]
        have ce := cE.out wr hb
        clear cN cE HR HJ
        go_wp2_with (go_at_call 45; refine ce.mono ?_; rintro e w' ⟨rfl, rfl⟩; refine Hid.out ?_)
        refine Lib.hid ?_
        go_wp2_with fail
        go_ret
        exact ⟨retI (by rw [HV.out]), hb⟩

set_option maxHeartbeats 1000000 in
theorem dof_any {w : World} {la : Option Addr} {L : List Nd} {c : Nat} (hL : NdsAt w la L) (kd : Int) (hl : L.length ≤ 12) :
    Calls Tryz.prog 18 #[.slice la L.length c, .int .i64 kd] w fun e w' => ∃ v, e = .returned v ∧ w'.ownsRow w.heap.size 3 1 v (ofP L kd).length (iv (ofP L kd)) ∧ Below w.heap.size w w' := by
  obtain ⟨i0, hi, hz0, hz1, hz2⟩ := info_parts Tryz.infoInt
  rw [← ofTo_all]
  go_enter Tryz.func18, Tryz.ntmps18
  go_wp2_with fail
  go_loopw [5, 6] (fun v i wr => ∃ j : Nat, j ≤ L.length ∧ i = .int .i64 j ∧ wr.ownsRow w.heap.size 3 1 v (ofTo L kd j).length (iv (ofTo L kd j)) ∧ Below w.heap.size w wr) (fun _ i _ => L.length - (intOf i).toNat)
  case atStart => exact ⟨0, by omega, rfl, World.ownsRow_nil _ _ _ _, Below.refl _ _⟩
  case round =>
    obtain ⟨j, hj, rfl, hown, hb⟩ := hrel
    have hle := ofTo_len L kd j
    by_cases hlt : j < L.length
    · rcases hL with hL | ⟨b, o, rfl, hL⟩
      · subst hL; simp at hlt
      obtain ⟨c0, -⟩ := (hL j hlt).keep (Keeps.of hb)
      have hS := hb.size
      have hst := ofTo_step (k := kd) hlt
      generalize L[j].k = k at *
      by_cases he : (k == kd) = true
      · rw [if_pos he] at hst
        have HS := Lib.hid hst
        clear hst hL
        go_wp2_with (at_builtin; refine wpList_append_own _ rfl _ _ 41 rfl w.heap.size 3 i0 (.int .i64 0) 1 8 Tryz.underlying41 hi hz0 hz1 hz2 rfl (by decide) _ _ _ rfl (hown.alloc _) ⟨wr.heap.size, 0, none⟩ 1 1 [.int .i64 j] rfl rfl (cell_one_new _ _ _) (by intro u hu; simp at hu; subst hu; rfl) (by unfold maxLen; omega) (by omega) (by simp; omega) ?_)
        intro v' w3 hown' hgrow _
        have hb3 : Below w.heap.size w w3 := (hb.alloc (by omega) _).grown hgrow (by simp; omega) (fun k hk => (hown.lt k hk).1)
        have ho3 : w3.ownsRow w.heap.size 3 1 v' (ofTo L kd (j + 1)).length (iv (ofTo L kd (j + 1))) := by
          rw [HS.out, iv_snoc]; simpa using hown'
        clear hown' hgrow hown hb hS
        go_wp2
        exact ⟨⟨j + 1, by omega, by go_num, ho3, hb3⟩, by simp [intOf]; omega⟩
      · have he' : (k == kd) = false := by simpa using he
        rw [if_neg he, List.append_nil] at hst
        have HS := Lib.hid hst
        clear hst hL
        go_wp2
        exact ⟨⟨j + 1, by omega, by go_num, by rw [HS.out]; exact hown, hb⟩, by simp [intOf]; omega⟩
    · have hj' : j = L.length := by omega
      subst hj'
      go_wp2
      go_ret
      exact ⟨_, rfl, hown, hb⟩
end Go.Proofs.YthadeccnibnioaaGreatDoor

/- The document's Data. -/
namespace Go.Proofs.YthadeccnibnioaaGreatDoor
open Go.RowKit
set_option linter.unusedVariables false
theorem of_srcs (L : List Nd) : (ofP L 1).length = srcs L := by
  have H : ∀ R : List Nd, (ofP R.reverse 1).length = srcs R.reverse := by
    intro R
    induction R with
    | nil => rfl
    | cons x R ih =>
      rw [List.reverse_cons, of_grow, List.length_append, ih]
      unfold srcs
      rw [List.filter_append, List.length_append]
      by_cases hx : x.k = 1
      · simp [hx]
      · simp [hx]
  have := H L.reverse
  rwa [List.reverse_reverse] at this
def dataE (L : List Nd) (D : List (List Rc)) : Nat := if jobP L ≠ 0 then jobP L else checkP D (srcs L)
theorem rc_at {w : World} {la : Option Addr} {L : List Rc} (h : RcsAt w la L) (k : Nat) (hk : k < L.length) : ∃ b o, la = some ⟨b, o, none⟩ ∧ w.cell? ⟨b, o + k * 3, none⟩ = some (.string L[k].key) ∧ w.cell? ⟨b, o + k * 3 + 1, none⟩ = some (.int .i64 L[k].num) ∧ w.cell? ⟨b, o + k * 3 + 2, none⟩ = some (.int .i64 L[k].time) := by
  rcases h with rfl | ⟨b, o, rfl, hc⟩
  · simp at hk
  · obtain ⟨h0, h1, h2⟩ := rcells_at L k hk
    exact ⟨b, o, rfl, hc _ _ h0, by rw [Nat.add_assoc]; exact hc _ _ h1, by rw [Nat.add_assoc]; exact hc _ _ h2⟩
theorem any_snocD {α : Type} (f : α → Bool) (l : List α) (k : Nat) (h : k < l.length) : (l.take (k + 1)).any f = ((l.take k).any f || f l[k]) := by
  rw [List.take_succ_eq_append_getElem h, List.any_append, List.any_cons, List.any_nil, Bool.or_false]
set_option maxRecDepth 100000 in
set_option maxHeartbeats 2000000 in
theorem ddata_any {w : World} {la : Option Addr} {L : List Nd} {c : Nat} (hL : NdsAt w la L) {da : Option Addr} {D : List (List Rc)} {dc : Nat} (hD : RssAt w da D) (hl : D.length ≤ 9223372036854775807) (hll : ∀ l ∈ D, l.length ≤ 9223372036854775807) (hk : ∀ l ∈ D, ∀ r ∈ l, r.key.size ≤ 9223372036854775807) :
    Calls Tryz.prog 97 #[.slice la L.length c, .slice da D.length dc] w fun e w' => e = .returned (.int .i64 (dataE L D : Nat)) ∧ Below w.heap.size w w' := by
  have HJ := djob_any (c := c) hL
  obtain ⟨r, hr⟩ : ∃ r, r = dataE L D := ⟨_, rfl⟩
  rw [← hr]
  by_cases h0 : jobP L = 0
  · have h12 : L.length ≤ 12 := by
      unfold jobP at h0
      split at h0
      · cases h0
      · omega
    have hrc : r = checkP D (srcs L) := by rw [hr]; unfold dataE; simp [h0]
    have HO := fun (u : World) (hb : Below w.heap.size w u) => dof_any (c := c) (hL.keep (Keeps.of hb)) 1 h12
    rw [of_srcs] at HO
    rw [h0] at HJ
    have HR := Lib.hid hrc
    have HO2 := Lib.hid HO
    clear hr hrc HO hL
    go_enter Tryz.func97, Tryz.ntmps97
    go_wp2_with (go_at_call 15; refine HJ.mono ?_; rintro e u ⟨rfl, hb⟩; refine Hid.out ?_)
    refine Lib.hid ?_
    have HO3 := HO2.out u hb
    clear HO2 HJ
    go_wp2_with (go_at_call 18; refine HO3.mono ?_; rintro e u2 ⟨v, rfl, hv, hb2⟩; refine Hid.out ?_)
    refine Lib.hid ?_
    obtain ⟨A9, c9, rfl⟩ := own_fm hv
    have hB2 : Below w.heap.size w u2 := hb.trans (hb2.mono hb.size)
    clear HO3 hv hb hb2
    by_cases hn : srcs L = D.length
    · have HR2 := Lib.hid (show r = dataP D from by rw [HR.out]; unfold checkP; simp [hn])
      clear HR
      rw [hn]
      clear hn
      go_wp2_with fail
      go_loopw [7] (fun i wr => ∃ j : Nat, j ≤ D.length ∧ i = .int .i64 j ∧ Hid (r = dataP (D.drop j)) ∧ Below w.heap.size w wr) (fun i _ => D.length - (intOf i).toNat)
      case atStart => exact ⟨0, by omega, rfl, Lib.hid (by rw [List.drop_zero]; exact HR2.out), hB2⟩
      case round =>
        obtain ⟨j, hj, rfl, hrj, hb⟩ := hrel
        by_cases hlt : j < D.length
        · rcases hD with hD | ⟨b, o, rfl, hD⟩
          · subst hD; simp at hlt
          have hi : (j : Int) < D.length := by omega
          obtain ⟨la', lc, e1, e2, e3⟩ := hD j hlt
          have hS := hb.size
          have hlj := hll _ (List.getElem_mem hlt)
          have hkj := hk _ (List.getElem_mem hlt)
          have HJ2 := Lib.hid (show r = if 300 < D[j].length then 4 else if D[j].any badRc then 1 else dataP (D.drop (j + 1)) from by rw [hrj.out, data_step hlt])
          generalize D[j] = X at *
          have HE1 := Lib.hid (fun (u : World) (h : Below w.heap.size w u) => Keeps.of h _ _ e1)
          have d0 := HE1.out _ hb
          clear hrj hD e1
          by_cases h3 : 300 < X.length
          · have h3' : (300 : Int) < X.length := by omega
            have hr4 : r = 4 := by rw [HJ2.out, if_pos h3]
            subst hr4
            clear HJ2 HR2
            go_wp2_with fail
            go_ret
            exact ⟨rfl, hb⟩
          · have h3' : ¬ (300 : Int) < X.length := by omega
            have HJ3 := Lib.hid (show r = if X.any badRc then 1 else dataP (D.drop (j + 1)) from by rw [HJ2.out, if_neg h3])
            clear HJ2
            go_wp2_with fail
            go_loopw [8] (fun q wr2 => ∃ t : Nat, t ≤ X.length ∧ q = .int .i64 t ∧ (X.take t).any badRc = false ∧ Below w.heap.size w wr2) (fun q _ => X.length - (intOf q).toNat)
            case atStart => exact ⟨0, by omega, rfl, by simp, hb⟩
            case round =>
              obtain ⟨t, ht, rfl, hno, hb3⟩ := hrel
              rename World => wi
              have d1 := HE1.out _ hb3
              by_cases hlt2 : t < X.length
              · obtain ⟨b2, o2, rfl, c0, c1, c2⟩ := rc_at (e2.keep (Keeps.of hb3)) t hlt2
                have hbd : badRc X[t] = (decide (40 < X[t].key.size) || decide (X[t].time < 0) || decide (1000000 < X[t].time)) := rfl
                have hat : badRc X[t] = true → X.any badRc = true := fun h => List.any_eq_true.2 ⟨_, List.getElem_mem hlt2, h⟩
                have hsn := any_snocD badRc X t hlt2
                have hkk := hkj _ (List.getElem_mem hlt2)
                have hBz := hb3.size
                have hti : (t : Int) < X.length := by omega
                rw [hno, Bool.false_or] at hsn
                generalize X[t] = rr at *
                obtain ⟨key, num, time⟩ := rr
                simp only at c0 c1 c2 hbd hkk
                generalize badRc ⟨key, num, time⟩ = bb at *
                have HB1 : Below w.heap.size w (wi.alloc (.cells #[.string key, .int .i64 num, .int .i64 time] 164)) := hb3.alloc hBz _
                cases bb with
                | true =>
                  have e1 : r = 1 := by rw [HJ3.out, if_pos (hat rfl)]
                  subst e1
                  have hor : (40 : Int) < (key.size : Nat) ∨ time < 0 ∨ 1000000 < time := by
                    simp at hbd; omega
                  clear hbd hat hsn HJ3 hno HR2
                  by_cases h1 : (40 : Int) < (key.size : Nat)
                  · go_wp2_with fail
                    go_ret
                    exact ⟨rfl, HB1⟩
                  · by_cases h2 : time < 0
                    · go_wp2_with fail
                      go_ret
                      exact ⟨rfl, HB1⟩
                    · have h3 : 1000000 < time := by omega
                      go_wp2_with fail
                      go_ret
                      exact ⟨rfl, HB1⟩
                | false =>
                  have h1 : ¬ (40 : Int) < (key.size : Nat) := by simp at hbd; omega
                  have h2 : ¬ time < 0 := by simp at hbd; omega
                  have h3 : ¬ 1000000 < time := by simp at hbd; omega
                  have HSN := Lib.hid hsn
                  clear hbd hat hno hsn
                  go_wp2_with fail
                  exact ⟨⟨t + 1, by omega, by go_num, HSN.out, HB1⟩, by simp [intOf]; omega⟩
              · have hti : ¬ (t : Int) < X.length := by omega
                have HJ4 := Lib.hid (show r = dataP (D.drop (j + 1)) from by
                  rw [List.take_of_length_le (by omega)] at hno
                  rw [HJ3.out, hno]; rfl)
                clear hno HJ3
                go_wp2_with fail
                exact ⟨⟨j + 1, by omega, by go_num, HJ4, hb3⟩, by simp [intOf]; omega⟩
        · have hi : ¬ (j : Int) < D.length := by omega
          have hr0 : r = 0 := by rw [hrj.out, List.drop_eq_nil_of_le (by omega)]; rfl
          subst hr0
          clear hrj HR2
          go_wp2_with fail
          go_ret
          exact ⟨rfl, hb⟩
    · have hr3 : r = 3 := by rw [HR.out]; unfold checkP; rw [if_pos (fun h => hn h.symm)]
      subst hr3
      have hne : ¬ ((srcs L : Nat) : Int) = (D.length : Int) := by omega
      generalize srcs L = sl at *
      clear HR
      go_wp2_with fail
      go_ret
      exact ⟨rfl, hB2⟩
  · have hr2 : r = jobP L := by rw [hr]; unfold dataE; simp [h0]
    clear hr
    subst hr2
    have hne : ¬ ((jobP L : Nat) : Int) = 0 := by omega
    generalize jobP L = jl at *
    clear hL
    go_enter Tryz.func97, Tryz.ntmps97
    go_wp2_with (go_at_call 15; refine HJ.mono ?_; rintro e u ⟨rfl, hb⟩)
    go_ret
    exact ⟨rfl, hb⟩
end Go.Proofs.YthadeccnibnioaaGreatDoor
