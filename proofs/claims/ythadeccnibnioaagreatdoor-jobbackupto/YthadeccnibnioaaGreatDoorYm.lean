/- Print. -/
import Derived.Test.YthadeccnibnioaaGreatDoorYl
import Derived.Test.YthadeccnibnioaaGreatDoorHp
namespace Go.Proofs.YthadeccnibnioaaGreatDoor
open Go.RowKit
set_option linter.unusedVariables false
set_option maxHeartbeats 1000000 in
theorem print_bad {w : World} (hg : Gl w) {la : Option Addr} {L : List Nd} {c : Nat} (hL : NdsAt w la L) (hc : L.length ≤ c) (h0 : jobP L ≠ 0) :
    Calls Tryz.prog 19 #[.slice la L.length c] w fun e w' => e = .returned (.tuple #[.string ⟨#[]⟩, errV (jobP L)]) ∧ Below w.heap.size w w' := by
  have cj := job_any hg hL hc
  have hV := errV_pos h0
  rw [hV] at cj ⊢
  clear hL hg hV
  go_enter Tryz.func19, Tryz.ntmps19
  go_wp2_with (go_at_call 16; refine cj.mono ?_; rintro e w' ⟨rfl, hb2⟩)
  go_ret2
  exact ⟨rfl, hb2⟩
set_option maxRecDepth 100000 in
set_option maxHeartbeats 2000000 in
theorem print_good {w : World} (hg : Gl w) (hnm : NmAt w) (hT : Tb w.heap.size w) {la : Option Addr} {L : List Nd} {c : Nat} (hL : NdsAt w la L) (hc : L.length ≤ c) (h0 : jobP L = 0) :
    Calls Tryz.prog 19 #[.slice la L.length c] w fun e w' => e = .returned (.tuple #[.string ⟨(printB L).toArray⟩, .nilIface]) ∧ Below w.heap.size w w' := by
  have cj := job_any hg hL hc
  obtain ⟨hl12, hall, hs1, -⟩ := job_ok h0
  rw [h0, errV_zero] at cj
  have hne : 0 < L.length := by
    cases L with
    | nil => simp at hs1
    | cons a r => simp
  have HAll := Lib.hid hall
  have HNm := Lib.hid hnm
  have HL := Lib.hid hL
  clear h0 hg hall hs1 hnm hL
  go_enter Tryz.func19, Tryz.ntmps19
  go_wp2_with (go_at_call 16; refine cj.mono ?_; rintro e w1 ⟨rfl, hb1⟩)
  go_loopw [5, 15] (fun v i wr => ∃ j : Nat, j ≤ L.length ∧ i = .int .i64 j ∧ OwnB w.heap.size wr v (printB (L.take j)) ∧ Below w.heap.size w wr) (fun _ i _ => L.length - (intOf i).toNat)
  case atStart => exact ⟨0, by omega, rfl, World.ownsRow_nil _ _ _ _, hb1⟩
  case round =>
    obtain ⟨j, hj, rfl, hown, hb⟩ := hrel
    rename World => wr2
    have hpl := print_len hl12 HAll.out j hj
    by_cases hlt : j < L.length
    · rcases HL.out with hnil | ⟨b, o, rfl, hcells⟩
      · exfalso; rw [hnil] at hlt; simp at hlt
      have hnA := hcells j hlt
      obtain ⟨c0, ⟨fa, fc, c1, hi⟩, c2, c3, -⟩ := hnA
      have d0 := Keeps.of hb _ _ c0; have d1 := Keeps.of hb _ _ c1; have d2 := Keeps.of hb _ _ c2; have d3 := Keeps.of hb _ _ c3
      have hok := all_at HAll.out j hlt
      have htk : (L.take j).length ≤ 12 := by rw [List.length_take]; omega
      obtain ⟨hk, hf, -, hn, -, -, -⟩ := node_ok htk hok
      have h4 := node_fs htk hok
      have htx := node_tx htk hok
      have HSn : Hid (printB (L.take (j + 1)) = printB (L.take j) ++ (lineB L[j] ++ [10])) := by
        show _ = _
        rw [List.take_succ_eq_append_getElem hlt, print_snoc]
      have hjI : (j : Int) < L.length := by omega
      have hS := hb.size
      have HAp := fun R => apnode_any (fc := fc) (m1 := printB (L.take j)) HNm.out hT L[j] hi hk.1 hk.2 hf hn.1 hn.2 (by omega) h4 (hb.alloc (by omega) (.cells #[.int .i64 L[j].k, .slice fa L[j].fs.length fc, .string L[j].tx, .int .i64 L[j].n] 52)) (hown.alloc _) (by omega) R
      simp only [ndV] at HAp
      have HB := Lib.hid hb
      generalize L[j] = nd at *
      obtain ⟨k, fs, tx, n⟩ := nd
      simp only at *
      clear hf hk hn h4 htx hok hi hown hb hcells c0 c1 c2 c3
      go_wp2_with (go_at_call 51; refine HAp _ (fun v' w' ho' hb' => ?_))
      exact ⟨⟨j + 1, by omega, by go_num, by rw [HSn.out]; exact ho', hb'⟩, by simp [intOf]; omega⟩
    · obtain rfl : j = L.length := by omega
      rw [List.take_of_length_le (Nat.le_refl _)] at hown
      have hpos : 0 < (printB L).length := by
        cases L with
        | nil => simp at hne
        | cons a r => simp [printB]; omega
      have hjI : ¬ ((L.length : Int) < L.length) := by omega
      obtain ⟨P, hP⟩ : ∃ P, printB L = P := ⟨_, rfl⟩
      rw [hP] at hown hpos
      have HP := Lib.hid hP
      clear hP
      rcases hown.2 with ⟨-, h0⟩ | ⟨g, cap, cur, rfl, -, -, -, -, -, -⟩
      · omega
      · have hcv := run_convert_bytes_back (P := Tryz.prog) wr2 82 9 5 ⟨g, 0, none⟩ cap P Tryz.underlying82 Tryz.underlying5 Tryz.underlying9 (fun j hj => hown.cells (g := g) rfl j _ (by simp [Lib.byteCells, hj]))
        go_wp2_with fail
        go_ret2
        exact ⟨by rw [HP.out]; rfl, hb⟩
end Go.Proofs.YthadeccnibnioaaGreatDoor
