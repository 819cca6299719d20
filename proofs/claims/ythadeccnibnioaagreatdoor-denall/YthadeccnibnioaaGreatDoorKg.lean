/- flow. -/
import Derived.Test.YthadeccnibnioaaGreatDoorKz1
import Derived.Test.YthadeccnibnioaaGreatDoorHp
import Derived.Test.YthadeccnibnioaaGreatDoorJz3
namespace Go.Proofs.YthadeccnibnioaaGreatDoor
open Go.RowKit
set_option linter.unusedVariables false

theorem Tryz.infoRs : (Tryz.prog.info? 112).map (fun i => (i.zero, i.size, i.bytes)) = some (some (.slice none 0 0), 1, 24) := by kernel_rfl

/-- What was handed on so far, in its row of slices. -/
structure HsAt (w : World) (H n : Nat) (hs : List (List Rc)) : Prop where
  cell : ∀ (j : Nat) (h : j < hs.length), ∃ A cap, w.cell? ⟨H, j, none⟩ = some (.slice A hs[j].length cap) ∧ RcsAt w A hs[j] ∧ hs[j].length ≤ cap ∧ ∀ a, A = some a → H < a.block
  rest : ∀ j, hs.length ≤ j → j < n → ∃ v, w.cell? ⟨H, j, none⟩ = some v
  frz : ∀ j, w.frozen? ⟨H, j, none⟩ = false
theorem HsAt.keep {w w' : World} {H n : Nat} {hs : List (List Rc)} (h : HsAt w H n hs) (hH : H < w.heap.size) (hb : Below w.heap.size w w') : HsAt w' H n hs := by
  have k := Keeps.of hb
  refine ⟨fun j hj => ?_, fun j h1 h2 => ?_, fun j => (hb.frozen (p := ⟨H, j, none⟩) hH).trans (h.frz j)⟩
  · obtain ⟨A, cap, e1, e2, e3, e4⟩ := h.cell j hj
    exact ⟨A, cap, k _ _ e1, e2.keep k, e3, e4⟩
  · obtain ⟨v, e⟩ := h.rest j h1 h2
    exact ⟨v, k _ _ e⟩
theorem hs_start (w : World) (n : Nat) : HsAt (w.alloc (.cells (madeCells #[.slice none 0 0] n) 112)) w.heap.size n [] := by
  refine ⟨fun j hj => by simp at hj, fun j _ hj => ⟨.slice none 0 0, ?_⟩, fun j => World.frozen?_alloc_new _ _ _ _⟩
  rw [World.cell?_alloc_new]; simp [madeCells, hj, Nat.mod_one]
theorem rcs_set {w : World} {A : Option Addr} {l : List Rc} (h : RcsAt w A l) {H j : Nat} (hA : ∀ a, A = some a → H < a.block) (v : Value) : RcsAt (w.setCell ⟨H, j, none⟩ v) A l := by
  rcases h with h | ⟨b, o, h1, h2⟩
  · exact .inl h
  · refine .inr ⟨b, o, h1, fun i u hu => ?_⟩
    rw [World.cell?_setCell_far _ _ _ _ (by have := hA _ h1; simp only at this ⊢; omega)]
    exact h2 i u hu
theorem HsAt.store {w : World} {H n : Nat} {hs : List (List Rc)} (h : HsAt w H n hs) {o : List Rc} {A : Option Addr} {cap : Nat} (hn : hs.length < n) (ho : RcsAt w A o) (hc : o.length ≤ cap) (hA : ∀ a, A = some a → H < a.block) :
    HsAt (w.setCell ⟨H, hs.length, none⟩ (.slice A o.length cap)) H n (hs ++ [o]) := by
  refine ⟨fun j hj => ?_, fun j h1 h2 => ?_, fun j => by rw [World.frozen?_setCell]; exact h.frz j⟩
  · by_cases hj' : j < hs.length
    · obtain ⟨A', cap', e1, e2, e3, e4⟩ := h.cell j hj'
      rw [List.getElem_append_left hj']
      refine ⟨A', cap', ?_, rcs_set e2 e4 _, e3, e4⟩
      rw [World.cell?_setCell_other (h := by intro e; injection e with _ e2 _; omega)]
      exact e1
    · have hj2 : j = hs.length := by simp at hj; omega
      subst hj2
      obtain ⟨v, hv⟩ := h.rest hs.length (Nat.le_refl _) hn
      refine ⟨A, cap, ?_, ?_, ?_, hA⟩
      · rw [World.cell?_setCell_same (h := hv)]; simp
      · simp only [List.getElem_concat_length]; exact rcs_set ho hA _
      · simpa using hc
  · obtain ⟨v, hv⟩ := h.rest j (by simp at h1; omega) h2
    refine ⟨v, ?_⟩
    rw [World.cell?_setCell_other (h := by intro e; injection e with _ e2 _; simp at h1; omega)]
    exact hv

/-- How flow ends. -/
def FlowEnd (w : World) (n : Nat) (r : Option (List (List Rc))) (e : Ending) (w' : World) : Prop :=
  match r with
  | none => e = .returned (.tuple #[.slice none 0 0, errV 4]) ∧ Below w.heap.size w w'
  | some hs => e = .returned (.tuple #[.slice (some ⟨w.heap.size, 0, none⟩) n n, .nilIface]) ∧ HsAt w' w.heap.size n hs ∧ hs.length = n ∧ Below w.heap.size w w'

theorem flow_none {nd : Nd} {l : List Nd} {D hs : List (List Rc)} (h : handP nd (gotP nd D hs) = none) : flowP (nd :: l) D hs = none := by rw [flowP, h]
theorem flow_some {nd : Nd} {l : List Nd} {D hs : List (List Rc)} {o : List Rc} (h : handP nd (gotP nd D hs) = some o) : flowP (nd :: l) D hs = flowP l (restP nd D) (hs ++ [o]) := by rw [flowP, h]

/-- A slice of records. -/
def SvOk (w : World) (x : Option Addr × Nat × Nat) (l : List Rc) : Prop := x.2.1 = l.length ∧ RcsAt w x.1 l ∧ l.length ≤ x.2.2
theorem got_ok (nd : Nd) {D hs : List (List Rc)} (h1 : ∀ l ∈ D, ∀ r ∈ l, RcOk r) (h2 : ∀ l ∈ hs, ∀ r ∈ l, RcOk r) {l : List Rc} (h : l ∈ gotP nd D hs) : ∀ r ∈ l, RcOk r := by
  rcases got_mem h with h | h | rfl
  · exact h1 l h
  · exact h2 l h
  · simp
theorem got_le (nd : Nd) {D hs : List (List Rc)} (h1 : ∀ l ∈ D, l.length ≤ 2000) (h2 : ∀ l ∈ hs, l.length ≤ 2000) {l : List Rc} (h : l ∈ gotP nd D hs) : l.length ≤ 2000 := by
  rcases got_mem h with h | h | rfl
  · exact h1 l h
  · exact h2 l h
  · simp

/-- Slices of records as values in a row. -/
def svs : List (Option Addr × Nat × Nat) → List Value := List.map fun x => .slice x.1 x.2.1 x.2.2

set_option maxRecDepth 100000 in
set_option maxHeartbeats 8000000 in
theorem flow_any {w : World} (hg : Gd w) {la : Option Addr} {L : List Nd} {c : Nat} (hL : NdsAt w la L) (hc : L.length ≤ c) (hl : L.length ≤ 12) (hF : ∀ (j : Nat) (hj : j < L.length), L[j].fs.length ≤ 4 ∧ ∀ x ∈ L[j].fs, 0 ≤ x ∧ x < j)
    {da : Option Addr} {dc : Nat} {D0 : List (List Rc)} (hD : RssAt w da D0) (hdc : D0.length ≤ dc) (hdm : dc ≤ 9223372036854775807) (hok : ∀ l ∈ D0, ∀ r ∈ l, RcOk r) (hll : ∀ l ∈ D0, l.length ≤ 2000) (hsrc : srcs L = D0.length) :
    Calls Tryz.prog 61 #[.slice la L.length c, .slice da D0.length dc] w (FlowEnd w L.length (flowP L D0 [])) := by
  obtain ⟨i0, hi0, hz0, hz1, hz2⟩ := info_parts Tryz.infoRs
  generalize hR : FlowEnd w L.length (flowP L D0 []) = R
  have HR := Lib.hid hR
  clear hR
  have hmk := run_make_row' (P := Tryz.prog) 61 112 (.slice none 0 0) 24 Tryz.underlying61 Tryz.infoRs rfl .i64 .i64 L.length (by omega) (by omega)
  have hU0 := hs_start w L.length
  have hB0 : Below w.heap.size w (w.alloc (.cells (madeCells #[.slice none 0 0] L.length) 112)) := (Below.refl _ w).alloc (Nat.le_refl _) _
  have hz : w.heap.size + 1 ≤ (w.alloc (.cells (madeCells #[.slice none 0 0] L.length) 112)).heap.size := by simp
  go_enter Tryz.func61, Tryz.ntmps61
  go_wp2_with fail
  generalize w.alloc (.cells (madeCells #[.slice none 0 0] L.length) 112) = w1 at *
  clear hmk
  go_loopw [1, 19] (fun dv i wr => ∃ (p : Nat) (hs D : List (List Rc)) (da : Option Addr) (dc : Nat), p ≤ L.length ∧ i = .int .i64 p ∧ dv = .slice da D.length dc ∧ RssAt w da D ∧ D.length ≤ dc ∧ dc ≤ 9223372036854775807 ∧ (∀ l ∈ D, ∀ r ∈ l, RcOk r) ∧ (∀ l ∈ D, l.length ≤ 2000) ∧ srcs (L.drop p) = D.length ∧
      hs.length = p ∧ HsAt wr w.heap.size L.length hs ∧ (∀ l ∈ hs, ∀ r ∈ l, RcOk r) ∧ (∀ l ∈ hs, l.length ≤ 2000) ∧ flowP L D0 [] = flowP (L.drop p) D hs ∧ Below w.heap.size w wr ∧ w.heap.size + 1 ≤ wr.heap.size) (fun _ i _ => L.length - (intOf i).toNat)
  case atStart => exact ⟨0, [], D0, da, dc, by omega, rfl, rfl, hD, hdc, hdm, hok, hll, by simpa using hsrc, rfl, hU0, by simp, by simp, rfl, hB0, hz⟩
  case round =>
    clear hU0 hB0 hz hD hdc hdm hok hll hsrc
    obtain ⟨p, hs, D, da, dc, hp, rfl, rfl, hD, hdc, hdm, hok, hll, hsrc, hhl, hH, hho, hhl2, hfl, hB, hsz⟩ := hrel
    by_cases hlt : p < L.length
    · have hi : (p : Int) < L.length := by omega
      rcases hL with hL | ⟨nb, no, rfl, hL⟩
      · subst hL; simp at hlt
      obtain ⟨m0, ⟨fa, fc, m1, m2⟩, m3, m4, htx, hfl0⟩ := hL p hlt
      have c0 := Keeps.of hB _ _ m0
      have c1 := Keeps.of hB _ _ m1
      have c2 := Keeps.of hB _ _ m3
      have c3 := Keeps.of hB _ _ m4
      obtain ⟨hf4, hfx⟩ := hF p hlt
      have hdrop : L.drop p = L[p] :: L.drop (p + 1) := List.drop_eq_getElem_cons hlt
      rw [hdrop, srcs_cons] at hsrc
      generalize L[p] = nd at *
      obtain ⟨k, fs, tx, nn⟩ := nd
      simp only at *
      clear m0 m1 m3 m4 hL
      generalize wr = wo at *
      have hnbx : (wo.alloc (.cells #[.int .i64 k, .slice fa fs.length fc, .string tx, .int .i64 nn] 52)).cell? ⟨wo.heap.size, 0, none⟩ = some (.int .i64 k) := cell_new _ _ _ rfl
      have hnb1 : (wo.alloc (.cells #[.int .i64 k, .slice fa fs.length fc, .string tx, .int .i64 nn] 52)).cell? ⟨wo.heap.size, 1, none⟩ = some (.slice fa fs.length fc) := cell_new _ _ _ rfl
      have hnb2 : (wo.alloc (.cells #[.int .i64 k, .slice fa fs.length fc, .string tx, .int .i64 nn] 52)).cell? ⟨wo.heap.size, 2, none⟩ = some (.string tx) := cell_new _ _ _ rfl
      have hnb3 : (wo.alloc (.cells #[.int .i64 k, .slice fa fs.length fc, .string tx, .int .i64 nn] 52)).cell? ⟨wo.heap.size, 3, none⟩ = some (.int .i64 nn) := cell_new _ _ _ rfl
      have hBa : Below wo.heap.size wo (wo.alloc (.cells #[.int .i64 k, .slice fa fs.length fc, .string tx, .int .i64 nn] 52)) := (Below.refl _ _).alloc (Nat.le_refl _) _
      have hza : wo.heap.size + 1 ≤ (wo.alloc (.cells #[.int .i64 k, .slice fa fs.length fc, .string tx, .int .i64 nn] 52)).heap.size := by simp
      have HDR := Lib.hid hdrop
      have HFL := Lib.hid hfl
      have HSR := Lib.hid hsrc
      have HHL := Lib.hid hhl
      clear hdrop hfl hsrc hhl
      go_wp2_with fail
      generalize wo.alloc (.cells #[.int .i64 k, .slice fa fs.length fc, .string tx, .int .i64 nn] 52) = wa at *
      go_loopw [9, 27] (fun v i wb => ∃ (q : Nat) (X : List (Option Addr × Nat × Nat)), q ≤ fs.length ∧ i = .int .i64 q ∧ X.length = q ∧ wb.ownsRow (wo.heap.size + 1) 112 1 v q (svs X) ∧ (∀ (t : Nat) (h1 : t < X.length) (h2 : t < fs.length), SvOk wo X[t] (hs.getD fs[t].toNat [])) ∧ Below (wo.heap.size + 1) wa wb ∧ wo.heap.size + 1 ≤ wb.heap.size) (fun _ i _ => fs.length - (intOf i).toNat)
      case atStart => exact ⟨0, [], by omega, rfl, rfl, World.ownsRow_nil _ _ _ _, fun t h1 => by simp at h1, Below.refl _ _, hza⟩
      case round =>
        obtain ⟨q, X, hq, rfl, hX, hown, hsv, hBb, hzb⟩ := hrel
        have hBd : Below wo.heap.size wo wr := hBa.trans (hBb.mono (by omega))
        have hBc : Below w.heap.size w wr := hB.trans (hBd.mono (by omega))
        by_cases hlq : q < fs.length
        · have hiq : (q : Int) < fs.length := by omega
          rcases m2 with m2 | ⟨fb, fo, rfl, m2⟩
          · subst m2; simp at hlq
          have d0 := Keeps.of hBc _ _ (m2 q hlq)
          obtain ⟨f0, f1⟩ := hfx _ (List.getElem_mem hlq)
          have hff : fs[q].toNat < hs.length := by rw [HHL.out]; omega
          obtain ⟨Aj, capj, j1, j2, j3, j4⟩ := hH.cell _ hff
          have e1 := Keeps.of hBd _ _ j1
          have hgd : hs.getD fs[q].toNat [] = hs[fs[q].toNat] := by simp [List.getD, hff]
          have HSV : Hid (∀ (t : Nat) (h1 : t < (X ++ [(Aj, hs[fs[q].toNat].length, capj)]).length) (h2 : t < fs.length), SvOk wo (X ++ [(Aj, hs[fs[q].toNat].length, capj)])[t] (hs.getD fs[t].toNat [])) := fun t h1 h2 => by
            by_cases ht : t < X.length
            · rw [List.getElem_append_left ht]; exact hsv t ht h2
            · have hte : t = q := by simp at h1; omega
              subst hte
              rw [List.getElem_append_right (by omega), hgd]
              simp only [hX, Nat.sub_self, List.getElem_cons_zero]
              exact ⟨rfl, j2, j3⟩
          have hx0 : ((fs[q].toNat : Nat) : Int) = fs[q] := by omega
          rw [← hx0] at d0
          have hxl : ((fs[q].toNat : Nat) : Int) < L.length := by omega
          generalize fs[q].toNat = x at *
          clear hsv f0 f1 hfx hx0 hgd m2
          have HX := Lib.hid hX
          clear hX
          generalize hs[x].length = lx at *
          go_wp2_with (at_builtin; refine wpList_append_own _ rfl _ _ 61 rfl (wo.heap.size + 1) 112 i0 (.slice none 0 0) 1 24 Tryz.underlying61 hi0 hz0 hz1 hz2 rfl (by decide) _ _ _ rfl (hown.alloc _) ⟨wr.heap.size, 0, none⟩ 1 1 [.slice Aj lx capj] rfl rfl (cell_one_new _ _ _) (by intro u hu; simp at hu; subst hu; rfl) (by unfold maxLen; omega) (by omega) (by simp; omega) ?_)
          intro v' w3 hown' hgrow _
          have hB3 : Below (wo.heap.size + 1) wa w3 := (hBb.alloc (by omega) _).grown hgrow (by simp; omega) (fun k hk => (hown.lt k hk).1)
          have hz3 : wo.heap.size + 1 ≤ w3.heap.size := by have := hgrow.size; simp at this; omega
          have ho3 : w3.ownsRow (wo.heap.size + 1) 112 1 v' (q + 1) (svs (X ++ [(Aj, lx, capj)])) := by simpa [svs] using hown'
          clear hown' hgrow hown hBb
          go_wp2
          exact ⟨⟨q + 1, X ++ [(Aj, lx, capj)], by omega, by go_num, by simp [HX.out], ho3, HSV.out, hB3, hz3⟩, by simp [intOf]; omega⟩
        · have hiq : ¬ (q : Int) < fs.length := by omega
          have hqe : q = fs.length := by omega
          have hXl : X.length = fs.length := by omega
          obtain ⟨Ag, cg, rfl⟩ := own_fm hown
          have kb : ∀ (j : Nat) (v : Value), wa.cell? ⟨wo.heap.size, j, none⟩ = some v → wr.cell? ⟨wo.heap.size, j, none⟩ = some v := fun j v hv => (hBb.cell (p := ⟨wo.heap.size, j, none⟩) (show wo.heap.size < wo.heap.size + 1 by omega)).trans hv
          have n0 := kb 0 _ hnbx
          have n1 := kb 1 _ hnb1
          have n2 := kb 2 _ hnb2
          have n3 := kb 3 _ hnb3
          have hdrop := HDR.out
          have hfl := HFL.out
          have hsrc := HSR.out
          have hhl := HHL.out
          by_cases hk : k = 1
          · subst hk
            rw [if_pos rfl] at hsrc
            have hG4 : (gotP ⟨1, fs, tx, nn⟩ D hs).length ≤ 4 := by rw [got_src rfl]; simp; omega
            have hrest : restP ⟨1, fs, tx, nn⟩ D = D.tail := by unfold restP; rw [if_pos rfl]; simp
            rcases hD with hD | ⟨db, dof, rfl, hD⟩
            · subst hD; simp at hsrc
            have hdl : 0 < D.length := by omega
            have hsr2 : srcs (L.drop (p + 1)) = D.tail.length := by simp; omega
            have hGg : D.take 1 = gotP ⟨1, fs, tx, nn⟩ D hs := (got_src rfl).symm
            have hGm : RssAt wr (some ⟨db, dof, none⟩) (D.take 1) := .inr ⟨db, dof, rfl, fun i hi' => by
              have hi1 : i = 0 := by simp at hi'; omega
              subst hi1
              obtain ⟨l1, cp1, x1, x2, x3⟩ := hD 0 hdl
              have kk := Keeps.of hBc
              simp only [List.getElem_take]
              exact ⟨l1, cp1, kk _ _ x1, x2.keep kk, x3⟩⟩
            have htk : (gotP ⟨1, fs, tx, nn⟩ D hs).length = 1 := by rw [got_src rfl]; simp; omega
            have HTL : Hid (D.tail.length = D.length - 1) := Lib.hid (by simp)
            have hd1 : (1 : Int) ≤ D.length := by omega
            have hd2 : (1 : Int) ≤ dc := by omega
            clear hsrc hqe hXl hX
            rcases Nat.lt_or_ge 1 dc with hcap | hcap
            · have hci : (1 : Int) < dc := by omega
              have hci2 : ¬ (dc : Int) = 1 := by omega
              have hDm : RssAt w (some ⟨db, dof + 1, none⟩) D.tail := .inr ⟨db, dof + 1, rfl, fun i hi' => by
                obtain ⟨l1, cp1, x1, x2, x3⟩ := hD (i + 1) (by simp at hi'; omega)
                simp only [List.getElem_tail]
                rw [show dof + 1 + i = dof + (i + 1) from by omega]
                exact ⟨l1, cp1, x1, x2, x3⟩⟩
              have hdc2 : D.tail.length ≤ dc - 1 := by simp; omega
              have hdm2 : dc - 1 ≤ 9223372036854775807 := by omega
              have hhd := fun n => handOn_any (hg.below (below_drewN hBc n)) ⟨1, fs, tx, nn⟩ fa fc htx (gc := dc) (hGm.keep (w' := wr.drewN n) (fun _ _ h => h)) (fun l hl' => got_ok _ hok hho (hGg ▸ hl')) (by rw [hGg]; exact hG4) (fun l hl' => got_le _ hll hhl2 (hGg ▸ hl'))
              rw [hGg] at hhd
              have hHc : HsAt wr w.heap.size L.length hs := hH.keep (by omega) (hBd.mono (Nat.le_refl _))
              have hzr : w.heap.size + 1 ≤ wr.heap.size := by omega
              rw [htk] at hhd
              simp only [ndV] at hhd
              cases hh : handP ⟨1, fs, tx, nn⟩ (gotP ⟨1, fs, tx, nn⟩ D hs) with
              | none =>
                rw [hh] at hhd
                have HE : Hid (flowP L D0 [] = none) := Lib.hid (by rw [hfl, hdrop]; exact flow_none hh)
                have HD := Lib.hid hhd
                clear hhd hh hfl hdrop hGm hGg hH hHc hrest hsr2 hhl htk
                go_wp2_with fail
                go_quiet (fail)
                go_wp2_with fail
                refine (HD.out _).mono ?_
                rintro e w5 ⟨rfl, hb5⟩
                rw [errV_pos (by omega)]
                go_wp2
                rw [← HR.out, HE.out]
                exact ⟨by rw [errV_pos (by omega)]; rfl, (below_drewN hBc nq).trans (hb5.mono hBc.size)⟩
              | some o =>
                rw [hh] at hhd
                have HE : Hid (flowP L D0 [] = flowP (L.drop (p + 1)) (D.tail) (hs ++ [o])) := Lib.hid (by rw [hfl, hdrop, flow_some hh, hrest])
                have hoo := hand_ok (fun l hl' => got_ok _ hok hho hl') hh
                have HD := Lib.hid hhd
                have HSR2 := Lib.hid hsr2
                have HH := Lib.hid hhl
                clear hhd hh hfl hdrop hGm hGg hH hrest hsr2 hhl htk
                go_wp2_with fail
                go_quiet (fail)
                go_wp2_with fail
                refine (HD.out _).mono ?_
                rintro e w5 ⟨A5, cap5, rfl, hr5, hc5, hA5, hb5⟩
                have hB5 : Below w.heap.size w w5 := (below_drewN hBc nq).trans (hb5.mono hBc.size)
                have hHd : HsAt (wr.drewN nq) w.heap.size L.length hs := hHc.keep (by omega) (below_drewN (Below.refl _ _) nq)
                have hH5 : HsAt w5 w.heap.size L.length hs := hHd.keep (show w.heap.size < wr.heap.size by omega) hb5
                obtain ⟨v0, hv0⟩ := hH5.rest p (by rw [HH.out]; omega) (by omega)
                have hf5 := hH5.frz p
                have hst := hH5.store (by rw [HH.out]; omega) hr5 hc5 (fun a ha => by have : wr.heap.size ≤ a.block := hA5 a ha; omega)
                rw [HH.out] at hst
                have hp' : (p : Int) < L.length := by omega
                have hs5 : w.heap.size + 1 ≤ w5.heap.size := by have : wr.heap.size ≤ w5.heap.size := hb5.size; omega
                go_wp2
                exact ⟨⟨p + 1, hs ++ [o], D.tail, _, _, by omega, by go_num, by rw [HTL.out], hDm, hdc2, hdm2, fun l hl' => hok l (List.mem_of_mem_tail hl'), fun l hl' => hll l (List.mem_of_mem_tail hl'), HSR2.out, by simp [HH.out], hst, fun l hl' => (List.mem_append.1 hl').elim (hho l) (fun h => by rw [List.mem_singleton.1 h]; exact hoo.1), fun l hl' => (List.mem_append.1 hl').elim (hhl2 l) (fun h => by rw [List.mem_singleton.1 h]; exact hoo.2), HE.out, hB5.setCell (by simp) _, by simpa using hs5⟩, by simp [intOf]; omega⟩
            · obtain rfl : dc = 1 := by omega
              have htn : D.tail = [] := List.length_eq_zero_iff.1 (by simp; omega)
              have hDm : ∀ A, RssAt w A D.tail := fun A => .inl htn
              have hdc2 : D.tail.length ≤ 0 := by rw [htn]; simp
              have hdm2 : 0 ≤ 9223372036854775807 := by omega
              clear htn
              have hhd := fun n => handOn_any (hg.below (below_drewN hBc n)) ⟨1, fs, tx, nn⟩ fa fc htx (gc := 1) (hGm.keep (w' := wr.drewN n) (fun _ _ h => h)) (fun l hl' => got_ok _ hok hho (hGg ▸ hl')) (by rw [hGg]; exact hG4) (fun l hl' => got_le _ hll hhl2 (hGg ▸ hl'))
              rw [hGg] at hhd
              have hHc : HsAt wr w.heap.size L.length hs := hH.keep (by omega) (hBd.mono (Nat.le_refl _))
              have hzr : w.heap.size + 1 ≤ wr.heap.size := by omega
              rw [htk] at hhd
              simp only [ndV] at hhd
              cases hh : handP ⟨1, fs, tx, nn⟩ (gotP ⟨1, fs, tx, nn⟩ D hs) with
              | none =>
                rw [hh] at hhd
                have HE : Hid (flowP L D0 [] = none) := Lib.hid (by rw [hfl, hdrop]; exact flow_none hh)
                have HD := Lib.hid hhd
                clear hhd hh hfl hdrop hGm hGg hH hHc hrest hsr2 hhl htk
                go_wp2_with fail
                go_quiet (fail)
                go_wp2_with fail
                refine (HD.out _).mono ?_
                rintro e w5 ⟨rfl, hb5⟩
                rw [errV_pos (by omega)]
                go_wp2
                rw [← HR.out, HE.out]
                exact ⟨by rw [errV_pos (by omega)]; rfl, (below_drewN hBc nq).trans (hb5.mono hBc.size)⟩
              | some o =>
                rw [hh] at hhd
                have HE : Hid (flowP L D0 [] = flowP (L.drop (p + 1)) (D.tail) (hs ++ [o])) := Lib.hid (by rw [hfl, hdrop, flow_some hh, hrest])
                have hoo := hand_ok (fun l hl' => got_ok _ hok hho hl') hh
                have HD := Lib.hid hhd
                have HSR2 := Lib.hid hsr2
                have HH := Lib.hid hhl
                clear hhd hh hfl hdrop hGm hGg hH hrest hsr2 hhl htk
                go_wp2_with fail
                go_quiet (fail)
                go_wp2_with fail
                refine (HD.out _).mono ?_
                rintro e w5 ⟨A5, cap5, rfl, hr5, hc5, hA5, hb5⟩
                have hB5 : Below w.heap.size w w5 := (below_drewN hBc nq).trans (hb5.mono hBc.size)
                have hHd : HsAt (wr.drewN nq) w.heap.size L.length hs := hHc.keep (by omega) (below_drewN (Below.refl _ _) nq)
                have hH5 : HsAt w5 w.heap.size L.length hs := hHd.keep (show w.heap.size < wr.heap.size by omega) hb5
                obtain ⟨v0, hv0⟩ := hH5.rest p (by rw [HH.out]; omega) (by omega)
                have hf5 := hH5.frz p
                have hst := hH5.store (by rw [HH.out]; omega) hr5 hc5 (fun a ha => by have : wr.heap.size ≤ a.block := hA5 a ha; omega)
                rw [HH.out] at hst
                have hp' : (p : Int) < L.length := by omega
                have hs5 : w.heap.size + 1 ≤ w5.heap.size := by have : wr.heap.size ≤ w5.heap.size := hb5.size; omega
                go_wp2
                exact ⟨⟨p + 1, hs ++ [o], D.tail, _, _, by omega, by go_num, by rw [Nat.le_zero.1 hdc2], hDm _, hdc2, hdm2, fun l hl' => hok l (List.mem_of_mem_tail hl'), fun l hl' => hll l (List.mem_of_mem_tail hl'), HSR2.out, by simp [HH.out], hst, fun l hl' => (List.mem_append.1 hl').elim (hho l) (fun h => by rw [List.mem_singleton.1 h]; exact hoo.1), fun l hl' => (List.mem_append.1 hl').elim (hhl2 l) (fun h => by rw [List.mem_singleton.1 h]; exact hoo.2), HE.out, hB5.setCell (by simp) _, by simpa using hs5⟩, by simp [intOf]; omega⟩
          · have hk1 : (k == 1) = false := by simp [hk]
            rw [if_neg hk] at hsrc
            have hrest : restP ⟨k, fs, tx, nn⟩ D = D := by unfold restP; rw [if_neg hk]
            have hfrl : (gotP ⟨k, fs, tx, nn⟩ D hs).length = fs.length := by rw [got_oth hk]; simp [fromsP]
            have hG4 : (gotP ⟨k, fs, tx, nn⟩ D hs).length ≤ 4 := by omega
            have hsr2 : srcs (L.drop (p + 1)) = D.length := by omega
            have hGg : fromsP ⟨k, fs, tx, nn⟩ hs = gotP ⟨k, fs, tx, nn⟩ D hs := (got_oth hk).symm
            have hGm : RssAt wr Ag (fromsP ⟨k, fs, tx, nn⟩ hs) := by
              rcases hown.2 with ⟨h0, h1⟩ | ⟨g, cap', cur, h0, hb', hg', hr'⟩
              · refine .inl (List.length_eq_zero_iff.1 ?_)
                have : (fromsP ⟨k, fs, tx, nn⟩ hs).length = fs.length := by simp [fromsP]
                rw [this]; omega
              · simp only [Value.slice.injEq] at h0
                obtain ⟨rfl, -, rfl⟩ := h0
                refine .inr ⟨g, 0, rfl, fun i hi' => ?_⟩
                have hi1 : i < fs.length := by simpa [fromsP] using hi'
                have hi2 : i < X.length := by omega
                obtain ⟨s1, s2, s3⟩ := hsv i hi2 hi1
                have hce := hown.cellAt i (by omega)
                rw [Nat.zero_add, hce]
                simp only [fromsP, List.getElem_map]
                refine ⟨X[i].1, X[i].2.2, ?_, s2.keep (Keeps.of hBd), s3⟩
                rw [← s1]; simp [svs, hi2]
            have hDm := hD
            have hdc2 := hdc
            have hdm2 := hdm
            have hqf : q = fs.length := hqe
            subst hqf
            clear hsrc hXl hX hk hsv hown
            have hhd := handOn_any (hg.below hBc) ⟨k, fs, tx, nn⟩ fa fc htx (gc := cg) hGm (fun l hl' => got_ok _ hok hho (hGg ▸ hl')) (by rw [hGg]; exact hG4) (fun l hl' => got_le _ hll hhl2 (hGg ▸ hl'))
            rw [hGg] at hhd
            have hHc : HsAt wr w.heap.size L.length hs := hH.keep (by omega) (hBd.mono (Nat.le_refl _))
            have hzr : w.heap.size + 1 ≤ wr.heap.size := by omega
            rw [hfrl] at hhd
            simp only [ndV] at hhd
            cases hh : handP ⟨k, fs, tx, nn⟩ (gotP ⟨k, fs, tx, nn⟩ D hs) with
            | none =>
              rw [hh] at hhd
              have HE : Hid (flowP L D0 [] = none) := Lib.hid (by rw [hfl, hdrop]; exact flow_none hh)
              have HD := Lib.hid hhd
              clear hhd hh hfl hdrop hGm hGg hH hHc hrest hsr2 hhl hfrl
              go_wp2_with fail
              refine HD.out.mono ?_
              rintro e w5 ⟨rfl, hb5⟩
              rw [errV_pos (by omega)]
              go_wp2
              rw [← HR.out, HE.out]
              exact ⟨by rw [errV_pos (by omega)]; rfl, hBc.trans (hb5.mono hBc.size)⟩
            | some o =>
              rw [hh] at hhd
              have HE : Hid (flowP L D0 [] = flowP (L.drop (p + 1)) (D) (hs ++ [o])) := Lib.hid (by rw [hfl, hdrop, flow_some hh, hrest])
              have hoo := hand_ok (fun l hl' => got_ok _ hok hho hl') hh
              have HD := Lib.hid hhd
              have HSR2 := Lib.hid hsr2
              have HH := Lib.hid hhl
              clear hhd hh hfl hdrop hGm hGg hH hrest hsr2 hhl hfrl
              go_wp2_with fail
              refine HD.out.mono ?_
              rintro e w5 ⟨A5, cap5, rfl, hr5, hc5, hA5, hb5⟩
              have hB5 : Below w.heap.size w w5 := hBc.trans (hb5.mono hBc.size)
              have hH5 : HsAt w5 w.heap.size L.length hs := hHc.keep (by omega) hb5
              obtain ⟨v0, hv0⟩ := hH5.rest p (by rw [HH.out]; omega) (by omega)
              have hf5 := hH5.frz p
              have hst := hH5.store (by rw [HH.out]; omega) hr5 hc5 (fun a ha => by have := hA5 a ha; omega)
              rw [HH.out] at hst
              have hp' : (p : Int) < L.length := by omega
              have hs5 : w.heap.size + 1 ≤ w5.heap.size := by have := hb5.size; omega
              go_wp2
              exact ⟨⟨p + 1, hs ++ [o], D, _, _, by omega, by go_num, rfl, hDm, hdc2, hdm2, fun l hl' => hok l (id hl'), fun l hl' => hll l (id hl'), HSR2.out, by simp [HH.out], hst, fun l hl' => (List.mem_append.1 hl').elim (hho l) (fun h => by rw [List.mem_singleton.1 h]; exact hoo.1), fun l hl' => (List.mem_append.1 hl').elim (hhl2 l) (fun h => by rw [List.mem_singleton.1 h]; exact hoo.2), HE.out, hB5.setCell (by simp) _, by simpa using hs5⟩, by simp [intOf]; omega⟩
    · have hi : ¬ (p : Int) < L.length := by omega
      have HE : Hid (flowP L D0 [] = some hs) := Lib.hid (by rw [hfl, List.drop_of_length_le (by omega)]; rfl)
      have HP : Hid (hs.length = L.length) := Lib.hid (by omega)
      clear hfl hsrc hhl
      go_wp2
      rw [← HR.out, HE.out]
      exact ⟨rfl, hH, HP.out, hB⟩
end Go.Proofs.YthadeccnibnioaaGreatDoor
