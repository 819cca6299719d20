/- job.Uses. -/
import Derived.Test.YthadeccnibnioaaGreatDoorJh
namespace Go.Proofs.YthadeccnibnioaaGreatDoor
open Go.RowKit

theorem own_form {w : World} {B e size n : Nat} {v : Value} {xs : List Value} (h : w.ownsRow B e size v n xs) : ∃ A cap, v = .slice A n cap := by
  rcases h.2 with ⟨h0, h1⟩ | ⟨g, cap, cur, h0, _⟩
  · exact ⟨none, 0, by rw [h0, h1]⟩
  · exact ⟨_, _, h0⟩
theorem own_some {w : World} {B e size n cap : Nat} {A : Option Addr} {xs : List Value} (h : w.ownsRow B e size (.slice A n cap) n xs) (hn : 0 < n) : ∃ g, A = some ⟨g, 0, none⟩ := by
  rcases h.2 with ⟨h0, h0'⟩ | ⟨g, cap', cur, h0, _⟩
  · omega
  · simp at h0; exact ⟨g, h0.1⟩
theorem iv_get (l : List Int) (i : Nat) (h : i < l.length) : (iv l)[i]? = some (.int .i64 l[i]) := by simp [iv, h]
theorem iv_len (l : List Int) : (iv l).length = l.length := by simp [iv]

theorem Tryz.infoSl : (Tryz.prog.info? 41).map (fun i => (i.zero, i.size, i.bytes)) = some (some (.slice none 0 0), 1, 24) := by kernel_rfl

theorem use_bad {w : World} (hg : Gl w) {la : Option Addr} {L : List Nd} {c : Nat} (hL : NdsAt w la L) (hc : L.length ≤ c) (h0 : jobP L ≠ 0) :
    Calls Tryz.prog 22 #[.slice la L.length c] w fun e w' => e = .returned (.tuple #[.slice none 0 0, errV (jobP L)]) ∧ Below w.heap.size w w' := by
  have cj := job_any hg hL hc
  have hV := errV_pos h0
  rw [hV] at cj ⊢
  clear hL hg hV
  go_enter Tryz.func22, Tryz.ntmps22
  go_wp2_with (go_at_call 16; refine cj.mono ?_; rintro e w' ⟨rfl, hb2⟩)
  go_ret2
  exact ⟨rfl, hb2⟩

/-- The row x of a family, ready to be read: what its slice looks like, and its last number. -/
theorem UsI.at {w : World} {B U n : Nat} {V : Nat → Value} {F : Nat → List Int} (h : UsI w B U n V F) {x : Nat} (hx : x < n) :
    ∃ A cap, V x = .slice A (F x).length cap ∧ (F x = [] ∨ ∃ g z, A = some ⟨g, 0, none⟩ ∧ 0 < (F x).length ∧ (F x).getLast? = some z ∧ w.cell? ⟨g, (F x).length - 1, none⟩ = some (.int .i64 z)) := by
  have hr := h.row x hx
  obtain ⟨A, cap, hv⟩ := own_form hr
  refine ⟨A, cap, hv, ?_⟩
  by_cases h0 : F x = []
  · exact .inl h0
  · right
    have hp : 0 < (F x).length := List.length_pos_iff.2 h0
    rw [hv] at hr
    obtain ⟨g, rfl⟩ := own_some hr hp
    refine ⟨g, (F x).getLast h0, rfl, hp, by rw [List.getLast?_eq_some_getLast h0], ?_⟩
    rw [hr.cellAt _ (by omega), iv_get _ _ (by omega), List.getLast_eq_getElem]

set_option maxHeartbeats 4000000 in
set_option maxRecDepth 100000 in
theorem use_ok {w : World} (hg : Gl w) {la : Option Addr} {L : List Nd} {c : Nat} (hL : NdsAt w la L) (hc : L.length ≤ c) (h0 : jobP L = 0) :
    Calls Tryz.prog 22 #[.slice la L.length c] w fun e w' => ∃ U V, e = .returned (.tuple #[.slice (some ⟨U, 0, none⟩) L.length L.length, .nilIface]) ∧ UsI w' w.heap.size U L.length V (fun i => usP L i) ∧ Below w.heap.size w w' := by
  obtain ⟨i0, hi, hz0, hz1, hz2⟩ := info_parts Tryz.infoInt
  have cj := job_any hg hL hc
  have hl := (job_ok h0).1
  have hF := job_from h0
  rw [h0, errV_zero] at cj
  clear h0 hg
  have hmk := run_make_row' (P := Tryz.prog) 47 41 (.slice none 0 0) 24 Tryz.underlying47 Tryz.infoSl rfl .i64 .i64 L.length (by omega) (by omega)
  have HF := Lib.hid hF
  clear hF
  go_enter Tryz.func22, Tryz.ntmps22
  go_wp2_with (go_at_call 16; refine cj.mono ?_; rintro e w1 ⟨rfl, hb1⟩)
  have hs1 := hb1.size
  have hU0 : UsI (w1.alloc (.cells (madeCells #[.slice none 0 0] L.length) 41)) w.heap.size w1.heap.size L.length (fun _ => .slice none 0 0) (fun _ => []) := UsI.start hs1
  have hB0 : Below w.heap.size w (w1.alloc (.cells (madeCells #[.slice none 0 0] L.length) 41)) := hb1.alloc hs1 _
  generalize w1.alloc (.cells (madeCells #[.slice none 0 0] L.length) 41) = w3 at *
  generalize w1.heap.size = U at *
  clear hmk cj hb1 hs1
  go_loopw [21] (fun i wr => ∃ (j : Nat) (V : Nat → Value), j ≤ L.length ∧ i = .int .i64 j ∧ UsI wr w.heap.size U L.length V (fun i => usTo L i j) ∧ Below w.heap.size w wr) (fun i _ => L.length - (intOf i).toNat)
  case atStart => exact ⟨0, _, by omega, rfl, hU0, hB0⟩
  case round =>
    obtain ⟨j, V, hj, rfl, hU, hb⟩ := hrel
    clear hU0 hB0
    by_cases hlt : j < L.length
    · rcases hL with hL | ⟨b, o, rfl, hL⟩
      · subst hL; simp at hlt
      have hk := Keeps.of hb
      obtain ⟨c0, ⟨fa, fc, c1, hI⟩, c2, c3, -⟩ := hL j hlt
      have c0 := hk _ _ c0
      have c1 := hk _ _ c1
      have c2 := hk _ _ c2
      have c3 := hk _ _ c3
      have hS := hb.size
      obtain ⟨hfl, hfr⟩ := HF.out j hlt
      have hend := fun i => rowP_end hlt i
      generalize L[j] = nd at *
      obtain ⟨k, fs, tx, n⟩ := nd
      simp only at *
      have hb2 : Below w.heap.size w (wr.alloc (.cells #[.int .i64 k, .slice fa fs.length fc, .string tx, .int .i64 n] 52)) := hb.alloc hS _
      have hU2 : UsI (wr.alloc (.cells #[.int .i64 k, .slice fa fs.length fc, .string tx, .int .i64 n] 52)) w.heap.size U L.length V (rowP L j fs 0) := (hU.keep ((Below.refl _ _).alloc (Nat.le_refl _) _)).congr (fun i _ => rowP_zero L j fs i)
      have HE := Lib.hid hend
      have HFr := Lib.hid hfr
      clear hend hfr hL hU hk hb
      go_wp2_with fail
      generalize wr.alloc (.cells #[.int .i64 k, .slice fa fs.length fc, .string tx, .int .i64 n] 52) = wx at *
      clear c0 c1 c2 c3 hS
      go_loopw [29] (fun i wr2 => ∃ (p : Nat) (V : Nat → Value), p ≤ fs.length ∧ i = .int .i64 p ∧ UsI wr2 w.heap.size U L.length V (rowP L j fs p) ∧ Below w.heap.size w wr2) (fun i _ => fs.length - (intOf i).toNat)
      case atStart => exact ⟨0, V, by omega, rfl, hU2, hb2⟩
      case round =>
        obtain ⟨p, V, hp, rfl, hU, hb⟩ := hrel
        clear hU2 hb2
        by_cases hpl : p < fs.length
        · rcases hI with hI | ⟨b2, o2, rfl, hI⟩
          · subst hI; simp at hpl
          have cp := Keeps.of hb _ _ (hI p hpl)
          have hx0 := HFr.out fs[p] (List.getElem_mem hpl)
          obtain ⟨x, hx⟩ : ∃ x : Nat, fs[p] = (x : Int) := ⟨fs[p].toNat, by omega⟩
          have hxj : x < j := by omega
          have hxn : x < L.length := by omega
          rw [hx] at cp
          have hlen := rowP_len L j fs p x
          have hlast := rowP_last (L := L) (j := j) (fs := fs) (p := p) (i := x)
          have hmore := fun h i => rowP_more (L := L) (j := j) hpl hx h i
          have hsame := fun h i => rowP_same (L := L) (j := j) hpl hx h i
          have cU := hU.cell x hxn
          obtain ⟨A, cap, hV, hA⟩ := hU.at hxn
          have hrow := hU.row x hxn
          have hUlt := hU.lt
          have hS := hb.size
          rw [hV] at cU hrow
          obtain ⟨rx, hrx⟩ : ∃ rx, rx = rowP L j fs p x := ⟨_, rfl⟩
          rw [← hrx] at cU hrow hlen hA hlast hV
          have HRX := Lib.hid hrx
          have HU := Lib.hid hU
          have HV := Lib.hid hV
          have HFr2 := HFr
          clear hU hrx hx hI hx0 hV
          rcases hA with hA | ⟨g0, z, rfl, hpos, hlz, hcz⟩
          · have hc := hlast.1 (.inl hA)
            have HM := Lib.hid (hmore hc)
            subst hA
            clear hmore hsame hlast hc
            simp only [List.length_nil] at cU hrow hlen
            have HV : Hid (V x = .slice A 0 cap) := HV.out
            go_wp2_with (at_builtin; refine wpList_append_lies _ rfl _ _ 41 rfl w.heap.size 3 i0 (.int .i64 0) 1 8 Tryz.underlying41 hi hz0 hz1 hz2 rfl (by decide) _ _ _ rfl (hrow.alloc _) ⟨wr.heap.size, 0, none⟩ 1 1 [.int .i64 j] rfl rfl (cell_one_new _ _ _) (by intro u hu; simp at hu; subst hu; rfl) (by decide) (by unfold maxLen; omega) (by omega) (by simp; omega) (wr.heap.size + 1) (by simp) ?_)
            intro g cap2 w4 hown hgr hg4 hlt4
            have hUw := HU.out.keep ((Below.refl _ _).alloc (Nat.le_refl _) (.cells #[.int .i64 j] 3))
            have cU4 : w4.cell? ⟨U, x, none⟩ = some (.slice A 0 cap) := hgr.cell (by rw [World.cell?_alloc_lt _ _ _ hUlt]; exact cU) (by rw [← HV.out]; exact fun e => hUw.ne x hxn e.symm)
            have fU4 : w4.frozen? ⟨U, x, none⟩ = false := by
              rw [hgr.frozen_far _ (by simp; omega) (by rw [← HV.out]; exact fun e => hUw.ne x hxn e.symm)]; exact hUw.fz x
            have hb4 : Below w.heap.size w w4 := (hb.alloc hS _).grown hgr (by simp; omega) (fun k hk => (hrow.lt k hk).1)
            have hput := hUw.put (z := (j : Int)) (g := g) (cap := cap2) (w1 := w4) hxn (by rw [← HRX.out]; exact hown) (by rw [HV.out]; exact hgr) (by rw [HV.out]; simpa using hg4)
            have ee : (rowP L j fs p x).length = 0 := by rw [← HRX.out]; try rfl
            rw [ee] at hput
            have hfin : ∃ V', UsI (w4.setCell ⟨U, x, none⟩ (.slice (some ⟨g, 0, none⟩) (0 + 1) cap2)) w.heap.size U L.length V' (rowP L j fs (p + 1)) := ⟨_, hput.congr (fun i _ => HM.out i)⟩
            obtain ⟨V', hfin⟩ := hfin
            have hb5 : Below w.heap.size w (w4.setCell ⟨U, x, none⟩ (.slice (some ⟨g, 0, none⟩) (0 + 1) cap2)) := hb4.setCell (by simp; exact HU.out.base) _
            have HFin := Lib.hid hfin
            clear hfin hput hUw hown hgr hg4 hrow
            go_wp2
            exact ⟨⟨p + 1, V', by omega, by go_num, HFin.out, hb5⟩, by simp [intOf]; omega⟩
          · have hposI : ¬ ((rx.length : Int) = 0) := by omega
            have hz1' : ((rx.length : Int) == 0) = false := by simpa using hposI
            by_cases hzj : z = (j : Int)
            · have hc : (fs.take p).contains (x : Int) = true := by
                by_cases hh : (fs.take p).contains (x : Int) = true
                · exact hh
                · exfalso
                  rcases hlast.2 (by simpa using hh) with h | h
                  · rw [h] at hpos; simp at hpos
                  · exact h (by rw [hlz, hzj])
              have HM := Lib.hid (hsame hc)
              subst hzj
              clear hmore hsame hlast hc hrow
              have hln : rx.length - 1 + 1 = rx.length := by omega
              go_wp2
              exact ⟨⟨p + 1, V, by omega, by go_num, HU.out.congr (fun i _ => HM.out i), hb⟩, by simp [intOf]; omega⟩
            · have hc := hlast.1 (.inr (by rw [hlz]; simpa using hzj))
              have HM := Lib.hid (hmore hc)
              have hzb : (z != (j : Int)) = true := by simpa using hzj
              clear hmore hsame hlast hc hlz hzj
              go_wp2_with (at_builtin; refine wpList_append_lies _ rfl _ _ 41 rfl w.heap.size 3 i0 (.int .i64 0) 1 8 Tryz.underlying41 hi hz0 hz1 hz2 rfl (by decide) _ _ _ rfl (hrow.alloc _) ⟨wr.heap.size, 0, none⟩ 1 1 [.int .i64 j] rfl rfl (cell_one_new _ _ _) (by intro u hu; simp at hu; subst hu; rfl) (by decide) (by unfold maxLen; omega) (by omega) (by simp; omega) (wr.heap.size + 1) (by simp) ?_)
              intro g cap2 w4 hown hgr hg4 hlt4
              have hUw := HU.out.keep ((Below.refl _ _).alloc (Nat.le_refl _) (.cells #[.int .i64 j] 3))
              have cU4 : w4.cell? ⟨U, x, none⟩ = some (.slice (some ⟨g0, 0, none⟩) rx.length cap) := hgr.cell (by rw [World.cell?_alloc_lt _ _ _ hUlt]; exact cU) (by rw [← HV.out]; exact fun e => hUw.ne x hxn e.symm)
              have fU4 : w4.frozen? ⟨U, x, none⟩ = false := by
                rw [hgr.frozen_far _ (by simp; omega) (by rw [← HV.out]; exact fun e => hUw.ne x hxn e.symm)]; exact hUw.fz x
              have hb4 : Below w.heap.size w w4 := (hb.alloc hS _).grown hgr (by simp; omega) (fun k hk => (hrow.lt k hk).1)
              have hput := hUw.put (z := (j : Int)) (g := g) (cap := cap2) (w1 := w4) hxn (by rw [← HRX.out]; exact hown) (by rw [HV.out]; exact hgr) (by rw [HV.out]; simpa using hg4)
              have ee : (rowP L j fs p x).length = rx.length := by rw [← HRX.out]; try rfl
              rw [ee] at hput
              have hfin : ∃ V', UsI (w4.setCell ⟨U, x, none⟩ (.slice (some ⟨g, 0, none⟩) (rx.length + 1) cap2)) w.heap.size U L.length V' (rowP L j fs (p + 1)) := ⟨_, hput.congr (fun i _ => HM.out i)⟩
              obtain ⟨V', hfin⟩ := hfin
              have hb5 : Below w.heap.size w (w4.setCell ⟨U, x, none⟩ (.slice (some ⟨g, 0, none⟩) (rx.length + 1) cap2)) := hb4.setCell (by simp; exact HU.out.base) _
              have HFin := Lib.hid hfin
              clear hfin hput hUw hown hgr hg4 hrow
              go_wp2
              exact ⟨⟨p + 1, V', by omega, by go_num, HFin.out, hb5⟩, by simp [intOf]; omega⟩
        · have hp' : p = fs.length := by omega
          subst hp'
          go_wp2
          exact ⟨⟨j + 1, V, by omega, by go_num, hU.congr (fun i _ => (HE.out i).symm), hb⟩, by simp [intOf]; omega⟩
    · have hj' : j = L.length := by omega
      subst hj'
      go_wp2
      go_ret2
      exact ⟨_, V, rfl, hU, hb⟩
end Go.Proofs.YthadeccnibnioaaGreatDoor
