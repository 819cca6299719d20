import Derived.Test.YtoooninneccfcaaGreatDoorHt
import Derived.Test.YtoooninneccfcaaGreatDoorHn
import Derived.Test.YtoooninneccfcaaGreatDoorHp
import Derived.Test.YtoooninneccfcaaGreatDoorHk
import Derived.Test.YtoooninneccfcaaGreatDoorHy
import Derived.Test.YtoooninneccfcaaGreatDoorErr
/- The document's Kinds and Print. -/
namespace Go.Proofs.YtoooninneccfcaaGreatDoor
open Go.RowKit
open Go.Lib (decDigits itoa)
set_option linter.unusedVariables false
set_option linter.unusedSimpArgs false

theorem kinds_any (w : World) : Calls Tryz.prog 47 #[] w fun e w' => ∃ g, e = .returned (.slice (some ⟨g, 0, none⟩) 11 11) ∧ w.heap.size ≤ g ∧ (∀ k : Nat, 1 ≤ k → k ≤ 10 → w'.cell? ⟨g, k, none⟩ = some (.string (bb (nameP k)))) ∧ Below w.heap.size w w' := by
  go_enter Tryz.func47, Tryz.ntmps47
  go_wp2_with fail
  go_ret
  refine ⟨w.heap.size, rfl, Nat.le_refl _, fun k h1 h2 => ?_, (Below.refl _ _).alloc (Nat.le_refl _) _⟩
  obtain rfl | rfl | rfl | rfl | rfl | rfl | rfl | rfl | rfl | rfl : k = 1 ∨ k = 2 ∨ k = 3 ∨ k = 4 ∨ k = 5 ∨ k = 6 ∨ k = 7 ∨ k = 8 ∨ k = 9 ∨ k = 10 := by omega
  all_goals (rw [World.cell?_alloc_new]; rfl)

theorem join_take (nd : Nd) (t : Nat) : (nameP nd.k ++ joinB ((nd.fs.take t).map itoa)).length ≤ (lineB nd).length := by
  have e : nd.fs.map itoa = (nd.fs.take t).map itoa ++ (nd.fs.drop t).map itoa := by rw [← List.map_append, List.take_append_drop]
  rw [lineB, wordsB, e]
  simp only [joinB, List.flatMap_append, List.length_append]
  omega
theorem join_step (fs : List Int) (t : Nat) (h : t < fs.length) : joinB ((fs.take (t + 1)).map itoa) = joinB ((fs.take t).map itoa) ++ 32 :: itoa fs[t] := by
  rw [List.take_succ_eq_append_getElem h, List.map_append]
  simp [joinB]
theorem line_end (nd : Nd) : lineB nd = nameP nd.k ++ joinB (nd.fs.map itoa) ++ (if hasNP nd.k then 32 :: itoa nd.n else []) ++ (if hasTP nd.k then 32 :: nd.tx.data.toList else []) := by
  rw [lineB, wordsB]
  cases hasNP nd.k <;> cases hasTP nd.k <;> simp [joinB]
theorem bb_tx (x : ByteArray) : bb x.data.toList = x := rfl

set_option maxHeartbeats 8000000 in
set_option maxRecDepth 100000 in
theorem dprint_any {w : World} {la : Option Addr} {L : List Nd} {c : Nat} (hL : NdsAt w la L) (h0 : jobP L = 0) :
    Calls Tryz.prog 16 #[.slice la L.length c] w fun e w' => e = .returned (.string (bb (printB L))) ∧ Below w.heap.size w w' := by
  obtain ⟨hl12, hall, -, -⟩ := job_ok h0
  have HAll := Lib.hid hall
  have HL := Lib.hid hL
  have HK := kinds_any w
  clear h0 hall hL
  go_enter Tryz.func16, Tryz.ntmps16
  go_wp2_with (go_at_call 47; refine HK.mono ?_; rintro e w1 ⟨g, rfl, hgw, hnm, b1⟩; refine Hid.out ?_)
  refine Lib.hid ?_
  have HN := Lib.hid hnm
  clear hnm HK
  go_wp2_with fail
  go_loopw [4, 5] (fun s i wr => ∃ (j : Nat) (S : ByteArray), j ≤ L.length ∧ i = .int .i64 j ∧ s = .string S ∧ S.size ≤ j * 1000 ∧ Hid (S = bb (printB (L.take j))) ∧ Hid (∀ k : Nat, 1 ≤ k → k ≤ 10 → wr.cell? ⟨g, k, none⟩ = some (.string (bb (nameP k)))) ∧ Below w.heap.size w wr) (fun _ i _ => L.length - (intOf i).toNat)
  case atStart => exact ⟨0, ⟨#[]⟩, by omega, rfl, rfl, Nat.le_of_eq rfl, Lib.hid (by rw [List.take_zero]; rfl), HN, b1⟩
  case round =>
    obtain ⟨j, S, hj, rfl, rfl, hsz, HS, HNm, hb⟩ := hrel
    rename World => wr2
    clear HN
    by_cases hlt : j < L.length
    · rcases HL.out with hnil | ⟨b, o, rfl, hcells⟩
      · exfalso; rw [hnil] at hlt; simp at hlt
      obtain ⟨c0, ⟨fa, fc, c1, hi⟩, c2, c3, -⟩ := hcells j hlt
      have HC0 := Lib.hid (fun (u : World) (hu : Below w.heap.size w u) => Keeps.of hu _ _ c0)
      have HC1 := Lib.hid (fun (u : World) (hu : Below w.heap.size w u) => Keeps.of hu _ _ c1)
      have HC2 := Lib.hid (fun (u : World) (hu : Below w.heap.size w u) => Keeps.of hu _ _ c2)
      have HC3 := Lib.hid (fun (u : World) (hu : Below w.heap.size w u) => Keeps.of hu _ _ c3)
      have HI := Lib.hid (fun (u : World) (hu : Below w.heap.size w u) => hi.keep (Keeps.of hu))
      have hok := all_at HAll.out j hlt
      have htk : (L.take j).length ≤ 12 := by rw [List.length_take]; omega
      obtain ⟨hk, hf, -, hn, -, -, -⟩ := node_ok htk hok
      have h4 := node_fs htk hok
      have htx := node_tx htk hok
      have hll := line_len htk hok
      have HJT := Lib.hid (join_take L[j])
      have HE := Lib.hid (line_end L[j])
      have HSn : Hid (printB (L.take (j + 1)) = printB (L.take j) ++ (lineB L[j] ++ [10])) := by
        show _ = _
        rw [List.take_succ_eq_append_getElem hlt, print_snoc]
      have hjI : (j : Int) < L.length := by omega
      clear hok htk hcells hi c0 c1 c2 c3 HL HAll
      generalize L[j] = nd at *
      clear hlt
      obtain ⟨k, fs, tx, n⟩ := nd
      simp only at *
      obtain ⟨kk, rfl⟩ : ∃ kk : Nat, k = kk := ⟨k.toNat, by omega⟩
      have hnk := HNm.out kk (by omega) (by omega)
      have d0 := HC0.out wr2 hb
      have d1 := HC1.out wr2 hb
      have hkb : kk ≤ 10 := by omega
      have hnl : (bb (nameP (kk : Int))).size ≤ 999 := by
        rw [bb_size]; have := HJT.out 0; rw [List.length_append] at this; omega
      generalize hnn : bb (nameP (kk : Int)) = nk at *
      have HNN := Lib.hid hnn
      clear hnn
      go_wp2_with fail
      go_loopw [4, 6] (fun s i wr => ∃ (t : Nat) (Z : ByteArray), t ≤ fs.length ∧ i = .int .i64 t ∧ s = .string Z ∧ Z.size ≤ 13000 ∧ Hid (Z = bb (printB (L.take j) ++ (nameP (kk : Int) ++ joinB ((fs.take t).map itoa)))) ∧ Hid (∀ k : Nat, 1 ≤ k → k ≤ 10 → wr.cell? ⟨g, k, none⟩ = some (.string (bb (nameP k)))) ∧ Below w.heap.size w wr) (fun _ i _ => fs.length - (intOf i).toNat)
      case atStart =>
        refine ⟨0, _, by omega, rfl, rfl, ?_, ?_, HNm, hb⟩
        · rw [ByteArray.size_append]; omega
        · show _ = _
          rw [HS.out, ← HNN.out, bb_app]; simp [joinB]
      case round =>
        obtain ⟨t, Z, ht, rfl, rfl, hzz, HZ, HNm3, hb3⟩ := hrel
        rename World => wr3
        have f0 := HC0.out wr3 hb3
        have f1 := HC1.out wr3 hb3
        have f2 := HC2.out wr3 hb3
        have f3 := HC3.out wr3 hb3
        clear d0 d1
        by_cases hlt2 : t < fs.length
        · have hr := hf fs[t] (List.getElem_mem hlt2)
          have hlen := HJT.out (t + 1)
          rw [join_step fs t hlt2] at hlen
          have HST := Lib.hid (join_step fs t hlt2)
          have ci : ∃ b2 o2, fa = some ⟨b2, o2, none⟩ ∧ wr3.cell? ⟨b2, o2 + t, none⟩ = some (.int .i64 fs[t]) := by
            rcases HI.out wr3 hb3 with hI1 | ⟨b2, o2, e, hI1⟩
            · rw [hI1] at hlt2; simp at hlt2
            · exact ⟨b2, o2, e, hI1 t hlt2⟩
          obtain ⟨b2, o2, rfl, ci⟩ := ci
          have HD := digs_any wr3 fs[t] (by omega) (by omega)
          have hz2 : (itoB fs[t]).size ≤ 999 := by
            have : (itoB fs[t]).size = (itoa fs[t]).length := by simp [itoB, ByteArray.size]
            simp only [List.length_append, List.length_cons] at hlen
            omega
          have HB2 : Hid (itoB fs[t] = bb (itoa fs[t])) := rfl
          have htI : (t : Int) < (fs.length : Int) := by omega
          have hzt : Z.size + 1 + (itoa fs[t]).length ≤ 13000 := by
            have e := HZ.out
            have e2 : Z.size = (printB (L.take j) ++ (nameP (kk : Int) ++ joinB ((fs.take t).map itoa))).length := by rw [e, bb_size]
            have e3 : S.size = (printB (L.take j)).length := by rw [HS.out, bb_size]
            simp only [List.length_append, List.length_cons] at hlen e2
            omega
          have hzs : (itoB fs[t]).size = (itoa fs[t]).length := by simp [itoB, ByteArray.size]
          generalize itoB fs[t] = dg at *
          generalize hda : itoa fs[t] = da at *
          generalize fs[t] = f at *
          clear hlen hr hda
          go_wp2_with (go_at_call 33; refine HD.mono ?_; rintro e w4 ⟨rfl, b4⟩; refine Hid.out ?_)
          refine Lib.hid ?_
          have hb4 : Below w.heap.size w w4 := below_two hb3 b4
          have HNm4 : Hid (∀ k : Nat, 1 ≤ k → k ≤ 10 → w4.cell? ⟨g, k, none⟩ = some (.string (bb (nameP k)))) := fun k h1 h2 => Keeps.of b4 _ _ (HNm3.out k h1 h2)
          clear HD b4 HNm3
          go_wp2_with fail
          refine ⟨⟨t + 1, _, by omega, by go_num, rfl, ?_, ?_, HNm4, hb4⟩, by simp [intOf]; omega⟩
          · rw [ByteArray.size_append, ByteArray.size_append]
            have : (⟨#[32]⟩ : ByteArray).size = 1 := rfl
            omega
          · show _ = _
            rw [HZ.out, HST.out, HB2.out, show (⟨#[32]⟩ : ByteArray) = bb [32] from rfl, bb_app, bb_app]; simp
        · obtain rfl : t = fs.length := by omega
          have htI : ¬ ((fs.length : Int) < (fs.length : Int)) := by omega
          have hzl : Hid (Z = bb (printB (L.take j) ++ (nameP (kk : Int) ++ joinB (fs.map itoa)))) := by
            show _ = _; have := HZ.out; rw [List.take_length] at this; exact this
          have cC := counted_any (kk : Int)
          have cT := texted_any (kk : Int)
          have HD := Lib.hid (fun (u : World) => digs_any u n (by omega) (by omega))
          have hzs : (itoB n).size = (itoa n).length := by simp [itoB, ByteArray.size]
          have HB2 : Hid (itoB n = bb (itoa n)) := rfl
          have hts : tx.size = tx.data.toList.length := by simp
          have HB3 : Hid (tx = bb tx.data.toList) := rfl
          have HEE := HE.out
          have htot : S.size = (printB (L.take j)).length := by rw [HS.out, bb_size]
          have hZs : Z.size = (printB (L.take j)).length + ((nameP (kk : Int)).length + (joinB (fs.map itoa)).length) := by rw [hzl.out, bb_size, List.length_append, List.length_append]
          clear HZ HJT HE HC0 HC1 HC2 HC3 HI hf hn hk h4 htx
          obtain ⟨dg, hdg⟩ : ∃ dg, dg = itoB n := ⟨_, rfl⟩
          rw [← hdg] at HD hzs HB2
          clear hdg
          generalize hasNP (kk : Int) = NN at *
          generalize hasTP (kk : Int) = TT at *
          cases NN <;> cases TT
          · simp only [Bool.false_eq_true, if_false, if_true, List.append_nil] at HEE
            have HF : Hid (Z ++ bb [10] = bb (printB (L.take (j + 1)))) := by
              show _ = _; rw [hzl.out, HSn.out, HEE]; simp only [bb_app]; congr 1; simp
            have HFz : Hid (Z.size + 1 ≤ (j + 1) * 1000) := by
              show _ ≤ _; rw [HEE] at hll; simp only [List.length_append, List.length_cons] at hll; omega
            clear HEE hll hZs htot hzl HSn hzs hts
            go_wp2_with (go_at_call 48; refine (cC _).mono ?_; rintro e w' ⟨rfl, rfl⟩; refine Hid.out ?_)
            refine Lib.hid ?_
            go_wp2_with (go_at_call 49; refine (cT _).mono ?_; rintro e w' ⟨rfl, rfl⟩; refine Hid.out ?_)
            refine Lib.hid ?_
            go_wp2_with fail
            exact ⟨⟨j + 1, _, by omega, by go_num, rfl, by simp only [ByteArray.size_append]; exact HFz.out, HF, HNm3, hb3⟩, by simp [intOf]; omega⟩
          · simp only [Bool.false_eq_true, if_false, if_true, List.append_nil] at HEE
            have HF : Hid (Z ++ bb [32] ++ tx ++ bb [10] = bb (printB (L.take (j + 1)))) := by
              show _ = _; rw [hzl.out, HSn.out, HEE]; rw [HB3.out]; simp only [bb_app]; congr 1; simp [bb]
            have HFz : Hid (Z.size + 1 + tx.size + 1 ≤ (j + 1) * 1000) := by
              show _ ≤ _; rw [HEE] at hll; simp only [List.length_append, List.length_cons] at hll; omega
            have ht20 : tx.size ≤ 2000 := by rw [HEE] at hll; simp only [List.length_append, List.length_cons] at hll; omega
            clear HEE hll hZs htot hzl HSn hzs hts
            go_wp2_with (go_at_call 48; refine (cC _).mono ?_; rintro e w' ⟨rfl, rfl⟩; refine Hid.out ?_)
            refine Lib.hid ?_
            go_wp2_with (go_at_call 49; refine (cT _).mono ?_; rintro e w' ⟨rfl, rfl⟩; refine Hid.out ?_)
            refine Lib.hid ?_
            go_wp2_with fail
            exact ⟨⟨j + 1, _, by omega, by go_num, rfl, by simp only [ByteArray.size_append]; exact HFz.out, HF, HNm3, hb3⟩, by simp [intOf]; omega⟩
          · simp only [Bool.false_eq_true, if_false, if_true, List.append_nil] at HEE
            have HF : Hid (Z ++ bb [32] ++ dg ++ bb [10] = bb (printB (L.take (j + 1)))) := by
              show _ = _; rw [hzl.out, HSn.out, HEE, HB2.out]; simp only [bb_app]; congr 1; simp
            have HFz : Hid (Z.size + 1 + dg.size + 1 ≤ (j + 1) * 1000) := by
              show _ ≤ _; rw [HEE] at hll; simp only [List.length_append, List.length_cons] at hll; omega
            have hd20 : dg.size ≤ 2000 := by rw [HEE] at hll; simp only [List.length_append, List.length_cons] at hll; omega
            clear HEE hll hZs htot hzl HSn hzs hts
            go_wp2_with (go_at_call 48; refine (cC _).mono ?_; rintro e w' ⟨rfl, rfl⟩; refine Hid.out ?_)
            refine Lib.hid ?_
            go_wp2_with (go_at_call 33; refine (HD.out _).mono ?_; rintro e w4 ⟨rfl, b4⟩; refine Hid.out ?_)
            refine Lib.hid ?_
            have hb4 : Below w.heap.size w w4 := below_two hb3 b4
            have HNm4 : Hid (∀ k : Nat, 1 ≤ k → k ≤ 10 → w4.cell? ⟨g, k, none⟩ = some (.string (bb (nameP k)))) := fun k h1 h2 => Keeps.of b4 _ _ (HNm3.out k h1 h2)
            have q0 := Keeps.of b4 _ _ f0
            have q2 := Keeps.of b4 _ _ f2
            clear b4 HNm3 f0 f1 f2 f3
            go_wp2_with (go_at_call 49; refine (cT _).mono ?_; rintro e w' ⟨rfl, rfl⟩; refine Hid.out ?_)
            refine Lib.hid ?_
            go_wp2_with fail
            exact ⟨⟨j + 1, _, by omega, by go_num, rfl, by simp only [ByteArray.size_append]; exact HFz.out, HF, HNm4, hb4⟩, by simp [intOf]; omega⟩
          · simp only [Bool.false_eq_true, if_false, if_true, List.append_nil] at HEE
            have HF : Hid (Z ++ bb [32] ++ dg ++ bb [32] ++ tx ++ bb [10] = bb (printB (L.take (j + 1)))) := by
              show _ = _; rw [hzl.out, HSn.out, HEE, HB2.out]; rw [HB3.out]; simp only [bb_app]; congr 1; simp [bb]
            have HFz : Hid (Z.size + 1 + dg.size + 1 + tx.size + 1 ≤ (j + 1) * 1000) := by
              show _ ≤ _; rw [HEE] at hll; simp only [List.length_append, List.length_cons] at hll; omega
            have hd20 : dg.size ≤ 2000 := by rw [HEE] at hll; simp only [List.length_append, List.length_cons] at hll; omega
            have ht20 : tx.size ≤ 2000 := by rw [HEE] at hll; simp only [List.length_append, List.length_cons] at hll; omega
            clear HEE hll hZs htot hzl HSn hzs hts
            go_wp2_with (go_at_call 48; refine (cC _).mono ?_; rintro e w' ⟨rfl, rfl⟩; refine Hid.out ?_)
            refine Lib.hid ?_
            go_wp2_with (go_at_call 33; refine (HD.out _).mono ?_; rintro e w4 ⟨rfl, b4⟩; refine Hid.out ?_)
            refine Lib.hid ?_
            have hb4 : Below w.heap.size w w4 := below_two hb3 b4
            have HNm4 : Hid (∀ k : Nat, 1 ≤ k → k ≤ 10 → w4.cell? ⟨g, k, none⟩ = some (.string (bb (nameP k)))) := fun k h1 h2 => Keeps.of b4 _ _ (HNm3.out k h1 h2)
            have q0 := Keeps.of b4 _ _ f0
            have q2 := Keeps.of b4 _ _ f2
            clear b4 HNm3 f0 f1 f2 f3
            go_wp2_with (go_at_call 49; refine (cT _).mono ?_; rintro e w' ⟨rfl, rfl⟩; refine Hid.out ?_)
            refine Lib.hid ?_
            go_wp2_with fail
            exact ⟨⟨j + 1, _, by omega, by go_num, rfl, by simp only [ByteArray.size_append]; exact HFz.out, HF, HNm4, hb4⟩, by simp [intOf]; omega⟩
    · obtain rfl : j = L.length := by omega
      have hjI : ¬ ((L.length : Int) < L.length) := by omega
      have hS2 : Hid (S = bb (printB L)) := by show _ = _; have := HS.out; rw [List.take_length] at this; exact this
      go_wp2_with fail
      go_ret
      exact ⟨by rw [← hS2.out]; rfl, hb⟩
end Go.Proofs.YtoooninneccfcaaGreatDoor

/- JobChecks: the walks. -/
namespace Go.Proofs.YtoooninneccfcaaGreatDoor
open Go.RowKit
set_option linter.unusedVariables false
set_option linter.unusedSimpArgs false
namespace jobChecks

theorem error_any (n : Nat) (w : World) (hg : w.cell? ⟨1, 0, none⟩ = some ET) : Calls Tryz.prog 9 #[errV n, .int .i64 n] w fun e w' => e = .returned (.bool true) ∧ Below w.heap.size w w' := by
  by_cases h : n = 0
  · subst h; rw [errV_zero]; exact (error_nil w).mono fun e w' ⟨h1, h2⟩ => ⟨h1, by subst h2; exact Below.refl _ _⟩
  · rw [errV_pos h]; exact error_hit n w hg
theorem error_nil0 (w : World) : Calls Tryz.prog 9 #[.nilIface, .int .i64 0] w fun e w' => e = .returned (.bool true) ∧ Below w.heap.size w w' :=
  (error_nil w).mono fun e w' ⟨h1, h2⟩ => ⟨h1, by subst h2; exact Below.refl _ _⟩
theorem kind_bad {w : World} (hg : Gl w) {la : Option Addr} {L : List Nd} {c : Nat} (hL : NdsAt w la L) (hc : L.length ≤ c) (h0 : jobP L ≠ 0) :
    (Calls Tryz.prog 19 #[.slice la L.length c] w fun e w' => e = .returned (.tuple #[.slice none 0 0, errV (jobP L)]) ∧ Below w.heap.size w w') ∧
    (Calls Tryz.prog 20 #[.slice la L.length c] w fun e w' => e = .returned (.tuple #[.slice none 0 0, errV (jobP L)]) ∧ Below w.heap.size w w') := by
  have c1 := ofKind_bad hg hL hc 1 h0
  have c10 := ofKind_bad hg hL hc 10 h0
  generalize errV (jobP L) = er at *
  clear hL hg h0
  refine ⟨?_, ?_⟩
  · go_enter Tryz.func19, Tryz.ntmps19
    go_wp2_with (go_at_call 51; refine c1.mono ?_; rintro e w' ⟨rfl, hb2⟩)
    go_ret2
    exact ⟨rfl, hb2⟩
  · go_enter Tryz.func20, Tryz.ntmps20
    go_wp2_with (go_at_call 51; refine c10.mono ?_; rintro e w' ⟨rfl, hb2⟩)
    go_ret2
    exact ⟨rfl, hb2⟩
theorem srcs_ok {w : World} (hg : Gl w) {la : Option Addr} {L : List Nd} {c : Nat} (hL : NdsAt w la L) (hc : L.length ≤ c) (h0 : jobP L = 0) :
    Calls Tryz.prog 19 #[.slice la L.length c] w fun e w' => ∃ A cap, e = .returned (.tuple #[.slice A (ofP L 1).length cap, .nilIface]) ∧ IntsAt w' A (ofP L 1) ∧ Below w.heap.size w w' := by
  have ck := ofKind_ok hg hL hc 1 h0
  clear hL hg
  go_enter Tryz.func19, Tryz.ntmps19
  go_wp2_with (go_at_call 51; refine ck.mono ?_; rintro e w' ⟨v, rfl, hown, hb2⟩)
  go_ret2
  obtain ⟨A, cap, rfl⟩ := own_form hown
  exact ⟨A, cap, rfl, (own_ints hown rfl).1, hb2⟩
theorem dof_ints {w : World} {la : Option Addr} {L : List Nd} {c : Nat} (hL : NdsAt w la L) (kd : Int) (hl : L.length ≤ 12) :
    Calls Tryz.prog 17 #[.slice la L.length c, .int .i64 kd] w fun e w' => ∃ A cap, e = .returned (.slice A (ofP L kd).length cap) ∧ IntsAt w' A (ofP L kd) ∧ Below w.heap.size w w' :=
  (dof_any hL kd hl).mono fun e w' ⟨v, h1, h2, h3⟩ => by
    obtain ⟨A, cap, rfl⟩ := own_form h2
    exact ⟨A, cap, h1, (own_ints h2 rfl).1, h3⟩
theorem ints_nil (w : World) : Calls Tryz.prog 22 #[.slice none 0 0, .slice none 0 0] w fun e w' => e = .returned (.bool true) ∧ Below w.heap.size w w' :=
  (ints_same (z := []) (.inl rfl) (.inl rfl) 0 0 (by simp)).mono fun e w' ⟨h1, n, h2⟩ => ⟨h1, by subst h2; exact ⟨rfl, rfl, rfl, Nat.le_refl _, fun _ _ => rfl⟩⟩
theorem ints_b {w : World} {la lb : Option Addr} {z : List Int} (ha : IntsAt w la z) (hb : IntsAt w lb z) (ca cb : Nat) (hz : z.length ≤ 9223372036854775807) :
    Calls Tryz.prog 22 #[.slice la z.length ca, .slice lb z.length cb] w fun e w' => e = .returned (.bool true) ∧ Below w.heap.size w w' :=
  (ints_same ha hb ca cb hz).mono fun e w' ⟨h1, n, h2⟩ => ⟨h1, by subst h2; exact ⟨rfl, rfl, rfl, Nat.le_refl _, fun _ _ => rfl⟩⟩

set_option maxRecDepth 100000 in
set_option maxHeartbeats 4000000 in
theorem walk_bad {la : Option Addr} {L : List Nd} {c : Nat} (w : World) (hg : Gl w) (het : w.cell? ⟨1, 0, none⟩ = some ET) (hL : NdsAt w la L) (hc : L.length ≤ c) (h0 : jobP L ≠ 0) :
    Calls Tryz.prog 4 #[.slice la L.length c] w fun e w' => e = .returned (.bool true) ∧ Below w.heap.size w w' := by
  have HJ := djob_any (c := c) hL
  have HC := Lib.hid (fun (u : World) (hu : Below w.heap.size w u) => job_any (hg.below hu) (hL.keep (Keeps.of hu)) hc)
  have HP := Lib.hid (fun (u : World) (hu : Below w.heap.size w u) => print_bad (hg.below hu) (hL.keep (Keeps.of hu)) hc h0)
  have HS := Lib.hid (fun (u : World) (hu : Below w.heap.size w u) => (kind_bad (hg.below hu) (hL.keep (Keeps.of hu)) hc h0).1)
  have HT := Lib.hid (fun (u : World) (hu : Below w.heap.size w u) => (kind_bad (hg.below hu) (hL.keep (Keeps.of hu)) hc h0).2)
  have HU := Lib.hid (fun (u : World) (hu : Below w.heap.size w u) => use_bad (hg.below hu) (hL.keep (Keeps.of hu)) hc h0)
  have HE := Lib.hid (fun (u : World) (hu : Below w.heap.size w u) => error_any (jobP L) u (et_below het hu))
  have hne : (((jobP L : Nat) : Int) == 0) = false := by simpa using h0
  have hne2 : (((jobP L : Nat) : Int) != 0) = true := by simpa using h0
  have hV : ∃ v, errV (jobP L) = v := ⟨_, rfl⟩
  obtain ⟨er, hV⟩ := hV
  rw [errV_pos h0] at hV
  rw [errV_pos h0] at HC HP HS HT HU HE
  generalize jobP L = ex at *
  clear hL h0 hV
  go_enter Tryz.func4, Tryz.ntmps4
  go_wp2_with (go_at_call 14; refine HJ.mono ?_; rintro e w1 ⟨rfl, B1⟩; refine Hid.out ?_)
  refine Lib.hid ?_
  clear HJ
  have H2 := HC.out _ B1
  go_wp2_with (go_at_call 15; refine H2.mono ?_; rintro e w2 ⟨rfl, b2⟩; refine Hid.out ?_)
  refine Lib.hid ?_
  have B2 := below_two B1 b2
  clear H2
  have H3 := HE.out _ B2
  go_wp2_with (go_at_call 9; refine H3.mono ?_; rintro e w3 ⟨rfl, b3⟩; refine Hid.out ?_)
  refine Lib.hid ?_
  have B3 := below_two B2 b3
  clear H3
  have H4 := HP.out _ B3
  go_wp2_with (go_at_call 18; refine H4.mono ?_; rintro e w4 ⟨rfl, b4⟩; refine Hid.out ?_)
  refine Lib.hid ?_
  have B4 := below_two B3 b4
  clear H4
  have H5 := HE.out _ B4
  go_wp2_with (go_at_call 9; refine H5.mono ?_; rintro e w5 ⟨rfl, b5⟩; refine Hid.out ?_)
  refine Lib.hid ?_
  have B5 := below_two B4 b5
  clear H5
  have H6 := HS.out _ B5
  go_wp2_with (go_at_call 19; refine H6.mono ?_; rintro e w6 ⟨rfl, b6⟩; refine Hid.out ?_)
  refine Lib.hid ?_
  have B6 := below_two B5 b6
  clear H6
  have H7 := HE.out _ B6
  go_wp2_with (go_at_call 9; refine H7.mono ?_; rintro e w7 ⟨rfl, b7⟩; refine Hid.out ?_)
  refine Lib.hid ?_
  have B7 := below_two B6 b7
  clear H7
  have H8 := HT.out _ B7
  go_wp2_with (go_at_call 20; refine H8.mono ?_; rintro e w8 ⟨rfl, b8⟩; refine Hid.out ?_)
  refine Lib.hid ?_
  have B8 := below_two B7 b8
  clear H8
  have H9 := HE.out _ B8
  go_wp2_with (go_at_call 9; refine H9.mono ?_; rintro e w9 ⟨rfl, b9⟩; refine Hid.out ?_)
  refine Lib.hid ?_
  have B9 := below_two B8 b9
  clear H9
  have H10 := HU.out _ B9
  go_wp2_with (go_at_call 21; refine H10.mono ?_; rintro e w10 ⟨rfl, b10⟩; refine Hid.out ?_)
  refine Lib.hid ?_
  have B10 := below_two B9 b10
  clear H10
  have H11 := HE.out _ B10
  go_wp2_with (go_at_call 9; refine H11.mono ?_; rintro e w11 ⟨rfl, b11⟩; refine Hid.out ?_)
  refine Lib.hid ?_
  have B11 := below_two B10 b11
  clear H11
  have H12 := ints_nil w11
  go_wp2_with (go_at_call 22; refine H12.mono ?_; rintro e w12 ⟨rfl, b12⟩; refine Hid.out ?_)
  refine Lib.hid ?_
  have B12 := below_two B11 b12
  clear H12
  have H13 := ints_nil w12
  go_wp2_with (go_at_call 22; refine H13.mono ?_; rintro e w13 ⟨rfl, b13⟩; refine Hid.out ?_)
  refine Lib.hid ?_
  have B13 := below_two B12 b13
  clear H13
  go_wp2_with fail
  go_ret
  exact ⟨rfl, B13⟩

def usTo (L : List Nd) (x : Int) (j : Nat) : List Int := ((List.range j).filter fun i => (L.getD i (sink 0)).fs.contains x).map fun (i : Nat) => (i : Int)
theorem usTo_all (L : List Nd) (x : Int) : usTo L x L.length = usP L x := rfl
theorem usTo_step {L : List Nd} {x : Int} {j : Nat} (h : j < L.length) : usTo L x (j + 1) = usTo L x j ++ (if L[j].fs.contains x then [(j : Int)] else []) := by
  unfold usTo
  rw [List.range_succ, List.filter_append, List.map_append]
  congr 1
  have : L.getD j (sink 0) = L[j] := by simp [List.getD, h]
  rw [List.filter_cons, List.filter_nil, this]
  split <;> rfl
theorem usTo_len (L : List Nd) (x : Int) (j : Nat) : (usTo L x j).length ≤ j := by
  unfold usTo; rw [List.length_map]
  exact Nat.le_trans (List.length_filter_le _ _) (by simp)
theorem one_has (a x : Int) : [a].contains x = (a == x) := by rw [Bool.eq_iff_iff, beq_iff_eq, List.contains_iff_mem, List.mem_singleton]; exact eq_comm
theorem usP_len (L : List Nd) (x : Int) : (usP L x).length ≤ L.length := by rw [← usTo_all]; exact usTo_len _ _ _

set_option maxRecDepth 100000 in
set_option maxHeartbeats 8000000 in
theorem walk_ok {la : Option Addr} {L : List Nd} {c : Nat} (w : World) (hg : Gl w) (hnm : NmAt w) (hT : Tb w.heap.size w) (het : w.cell? ⟨1, 0, none⟩ = some ET) (hL : NdsAt w la L) (hc : L.length ≤ c) (h0 : jobP L = 0) (hTk : ∀ u, Below w.heap.size w u → NmAt u ∧ Tb u.heap.size u) :
    Calls Tryz.prog 4 #[.slice la L.length c] w fun e w' => e = .returned (.bool true) ∧ Below w.heap.size w w' := by
  obtain ⟨i0, hi, hz0, hz1, hz2⟩ := info_parts Tryz.infoInt
  have hl12 := (job_ok h0).1
  have HJ := djob_any (c := c) hL
  have HC := Lib.hid (fun (u : World) (hu : Below w.heap.size w u) => job_any (hg.below hu) (hL.keep (Keeps.of hu)) hc)
  have HDP := Lib.hid (fun (u : World) (hu : Below w.heap.size w u) => dprint_any (c := c) (hL.keep (Keeps.of hu)) h0)
  have HO := Lib.hid (fun (u : World) (kd : Int) (hu : Below w.heap.size w u) => dof_ints (c := c) (hL.keep (Keeps.of hu)) kd hl12)
  have HP := Lib.hid (fun (u : World) (hu : Below w.heap.size w u) => print_good (hg.below hu) (hTk u hu).1 (hTk u hu).2 (hL.keep (Keeps.of hu)) hc h0)
  have HS := Lib.hid (fun (u : World) (hu : Below w.heap.size w u) => srcs_ok (hg.below hu) (hL.keep (Keeps.of hu)) hc h0)
  have HT := Lib.hid (fun (u : World) (hu : Below w.heap.size w u) => sinks_ok (hg.below hu) (hL.keep (Keeps.of hu)) hc h0)
  have HU := Lib.hid (fun (u : World) (hu : Below w.heap.size w u) => use_ok (hg.below hu) (hL.keep (Keeps.of hu)) hc h0)
  rw [h0] at HJ
  rw [h0, errV_zero] at HC
  have HL := Lib.hid hL
  have hs1 : (ofP L 1).length ≤ 12 := by rw [← ofTo_all]; exact Nat.le_trans (ofTo_len _ _ _) hl12
  have hs10 : (ofP L 10).length ≤ 12 := by rw [← ofTo_all]; exact Nat.le_trans (ofTo_len _ _ _) hl12
  have hpb : (⟨(printB L).toArray⟩ : ByteArray) = bb (printB L) := rfl
  rw [hpb] at HP
  generalize bb (printB L) = pt at *
  clear hL h0 hpb hTk hT hnm
  go_enter Tryz.func4, Tryz.ntmps4
  go_wp2_with (go_at_call 14; refine HJ.mono ?_; rintro e w1 ⟨rfl, B1⟩; refine Hid.out ?_)
  refine Lib.hid ?_
  clear HJ
  have H2 := HC.out _ B1
  go_wp2_with (go_at_call 15; refine H2.mono ?_; rintro e w2 ⟨rfl, b2⟩; refine Hid.out ?_)
  refine Lib.hid ?_
  have B2 := below_two B1 b2
  clear H2
  have H3 := error_nil0 w2
  go_wp2_with (go_at_call 9; refine H3.mono ?_; rintro e w3 ⟨rfl, b3⟩; refine Hid.out ?_)
  refine Lib.hid ?_
  have B3 := below_two B2 b3
  clear H3
  have H4 := HDP.out _ B3
  go_wp2_with (go_at_call 16; refine H4.mono ?_; rintro e w4 ⟨rfl, b4⟩; refine Hid.out ?_)
  refine Lib.hid ?_
  have B4 := below_two B3 b4
  clear H4
  have H5 := HO.out _ 1 B4
  go_wp2_with (go_at_call 17; refine H5.mono ?_; rintro e w5 ⟨A1, cp1, rfl, I1, b5⟩; refine Hid.out ?_)
  refine Lib.hid ?_
  have B5 := below_two B4 b5
  clear H5
  have H6 := HO.out _ 10 B5
  go_wp2_with (go_at_call 17; refine H6.mono ?_; rintro e w6 ⟨A2, cp2, rfl, I2, b6⟩; refine Hid.out ?_)
  refine Lib.hid ?_
  have B6 := below_two B5 b6
  clear H6
  replace I1 := I1.keep (Keeps.of b6)
  have H7 := HP.out _ B6
  go_wp2_with (go_at_call 18; refine H7.mono ?_; rintro e w7 ⟨rfl, b7⟩; refine Hid.out ?_)
  refine Lib.hid ?_
  have B7 := below_two B6 b7
  clear H7
  replace I1 := I1.keep (Keeps.of b7)
  replace I2 := I2.keep (Keeps.of b7)
  have H8 := error_nil0 w7
  go_wp2_with (go_at_call 9; refine H8.mono ?_; rintro e w8 ⟨rfl, b8⟩; refine Hid.out ?_)
  refine Lib.hid ?_
  have B8 := below_two B7 b8
  clear H8
  replace I1 := I1.keep (Keeps.of b8)
  replace I2 := I2.keep (Keeps.of b8)
  have H9 := HS.out _ B8
  go_wp2_with (go_at_call 19; refine H9.mono ?_; rintro e w9 ⟨A3, cp3, rfl, I3, b9⟩; refine Hid.out ?_)
  refine Lib.hid ?_
  have B9 := below_two B8 b9
  clear H9
  replace I1 := I1.keep (Keeps.of b9)
  replace I2 := I2.keep (Keeps.of b9)
  have H10 := error_nil0 w9
  go_wp2_with (go_at_call 9; refine H10.mono ?_; rintro e w10 ⟨rfl, b10⟩; refine Hid.out ?_)
  refine Lib.hid ?_
  have B10 := below_two B9 b10
  clear H10
  replace I1 := I1.keep (Keeps.of b10)
  replace I2 := I2.keep (Keeps.of b10)
  replace I3 := I3.keep (Keeps.of b10)
  have H11 := HT.out _ B10
  go_wp2_with (go_at_call 20; refine H11.mono ?_; rintro e w11 ⟨A4, cp4, rfl, I4, b11⟩; refine Hid.out ?_)
  refine Lib.hid ?_
  have B11 := below_two B10 b11
  clear H11
  replace I1 := I1.keep (Keeps.of b11)
  replace I2 := I2.keep (Keeps.of b11)
  replace I3 := I3.keep (Keeps.of b11)
  have H12 := error_nil0 w11
  go_wp2_with (go_at_call 9; refine H12.mono ?_; rintro e w12 ⟨rfl, b12⟩; refine Hid.out ?_)
  refine Lib.hid ?_
  have B12 := below_two B11 b12
  clear H12
  replace I1 := I1.keep (Keeps.of b12)
  replace I2 := I2.keep (Keeps.of b12)
  replace I3 := I3.keep (Keeps.of b12)
  replace I4 := I4.keep (Keeps.of b12)
  have H13 := HU.out _ B12
  go_wp2_with (go_at_call 21; refine H13.mono ?_; rintro e w13 ⟨U, V, rfl, usI, b13⟩; refine Hid.out ?_)
  refine Lib.hid ?_
  have B13 := below_two B12 b13
  clear H13
  replace I1 := I1.keep (Keeps.of b13)
  replace I2 := I2.keep (Keeps.of b13)
  replace I3 := I3.keep (Keeps.of b13)
  replace I4 := I4.keep (Keeps.of b13)
  have H14 := error_nil0 w13
  go_wp2_with (go_at_call 9; refine H14.mono ?_; rintro e w14 ⟨rfl, b14⟩; refine Hid.out ?_)
  refine Lib.hid ?_
  have B14 := below_two B13 b14
  clear H14
  replace I1 := I1.keep (Keeps.of b14)
  replace I2 := I2.keep (Keeps.of b14)
  replace I3 := I3.keep (Keeps.of b14)
  replace I4 := I4.keep (Keeps.of b14)
  replace usI := usI.keep b14
  have H15 := ints_b I3 I1 cp3 cp1 (by omega)
  go_wp2_with (go_at_call 22; refine H15.mono ?_; rintro e w15 ⟨rfl, b15⟩; refine Hid.out ?_)
  refine Lib.hid ?_
  have B15 := below_two B14 b15
  clear H15
  replace I1 := I1.keep (Keeps.of b15)
  replace I2 := I2.keep (Keeps.of b15)
  replace I3 := I3.keep (Keeps.of b15)
  replace I4 := I4.keep (Keeps.of b15)
  replace usI := usI.keep b15
  have H16 := ints_b I4 I2 cp4 cp2 (by omega)
  go_wp2_with (go_at_call 22; refine H16.mono ?_; rintro e w16 ⟨rfl, b16⟩; refine Hid.out ?_)
  refine Lib.hid ?_
  have B16 := below_two B15 b16
  clear H16
  replace I1 := I1.keep (Keeps.of b16)
  replace I2 := I2.keep (Keeps.of b16)
  replace I3 := I3.keep (Keeps.of b16)
  replace I4 := I4.keep (Keeps.of b16)
  replace usI := usI.keep b16
  go_wp2_with fail
  clear HC HDP HO HP HS HT HU
  have HUs := Lib.hid usI
  clear usI
  obtain ⟨wU, hwU⟩ : ∃ wU, wU = w16 := ⟨_, rfl⟩
  rw [← hwU] at B16 HUs
  go_loopw [19] (fun i wr => ∃ j : Nat, j ≤ L.length ∧ i = .int .i64 j ∧ Below wU.heap.size wU wr) (fun i _ => L.length - (intOf i).toNat)
  case atStart => exact ⟨0, by omega, rfl, by rw [hwU]; exact Below.refl _ _⟩
  case round =>
    obtain ⟨x, hx, rfl, hbU⟩ := hrel
    rename World => wS
    clear hwU
    have hbS : Below w.heap.size w wS := below_two B16 hbU
    by_cases hlt : x < L.length
    · have hxI : (x : Int) < L.length := by omega
      have hUS := HUs.out.keep hbU
      go_wp2_with fail
      go_loopw [20, 21] (fun v i wr => ∃ t : Nat, t ≤ L.length ∧ i = .int .i64 t ∧ wr.ownsRow wS.heap.size 3 1 v (usTo L x t).length (iv (usTo L x t)) ∧ Below wS.heap.size wS wr) (fun _ i _ => L.length - (intOf i).toNat)
      case atStart => exact ⟨0, by omega, rfl, World.ownsRow_nil _ _ _ _, Below.refl _ _⟩
      case round =>
        obtain ⟨t, ht, rfl, hown, hbt⟩ := hrel
        rename World => wt
        have hbw : Below w.heap.size w wt := below_two hbS hbt
        have hSt := hbt.size
        have hle := usTo_len L x t
        by_cases hlt2 : t < L.length
        · have htI : (t : Int) < L.length := by omega
          have hnd : ∃ b o, la = some ⟨b, o, none⟩ ∧ NdAt wt b (o + t * 4) L[t] := by
            rcases HL.out with hnil | ⟨b, o, e, hcells⟩
            · exfalso; rw [hnil] at hlt2; simp at hlt2
            · exact ⟨b, o, e, (hcells t hlt2).keep (Keeps.of hbw)⟩
          obtain ⟨b, o, rfl, hnd⟩ := hnd
          obtain ⟨-, ⟨fa, fc, c1, hI⟩, -, -, -, hfl⟩ := hnd
          have HST := Lib.hid (usTo_step (x := (x : Int)) hlt2)
          generalize L[t].fs = fs at *
          have HI := Lib.hid hI
          clear hI
          go_wp2_with fail
          go_loopw [22, 23] (fun h i wr => ∃ (q : Nat) (hb : Bool), q ≤ fs.length ∧ i = .int .i64 q ∧ h = .bool hb ∧ Hid (hb = (fs.take q).contains (x : Int)) ∧ wt = wr) (fun _ i _ => fs.length - (intOf i).toNat)
          case atStart => exact ⟨0, false, by omega, rfl, rfl, by simp [Hid], rfl⟩
          case round =>
            obtain ⟨q, hb, hq, rfl, rfl, HQ, rfl⟩ := hrel
            by_cases hlt3 : q < fs.length
            · have hqI : (q : Int) < fs.length := by omega
              have ci : ∃ b2 o2, fa = some ⟨b2, o2, none⟩ ∧ wt.cell? ⟨b2, o2 + q, none⟩ = some (.int .i64 fs[q]) := by
                rcases HI.out with hI1 | ⟨b2, o2, e, hI1⟩
                · rw [hI1] at hlt3; simp at hlt3
                · exact ⟨b2, o2, e, hI1 q hlt3⟩
              obtain ⟨b2, o2, rfl, ci⟩ := ci
              have HQ2 : Hid ((hb || (fs[q] == (x : Int))) = (fs.take (q + 1)).contains (x : Int)) := by
                show _ = _
                rw [List.take_succ_eq_append_getElem hlt3, List.contains_append, HQ.out, one_has]
              clear HQ
              generalize fs[q] = f at *
              cases hb
              all_goals
                go_wp2_with fail
                exact ⟨⟨q + 1, _, by omega, by go_num, rfl, HQ2, by trivial⟩, by simp [intOf]; omega⟩
            · obtain rfl : q = fs.length := by omega
              have hqI : ¬ ((fs.length : Int) < fs.length) := by omega
              have hcn := HQ.out
              rw [List.take_length] at hcn
              have hst := HST.out
              rw [← hcn] at hst
              clear HQ HST hcn HI
              cases hb with
              | true =>
                rw [if_pos rfl] at hst
                have HS2 := Lib.hid hst
                clear hst
                go_wp2_with (at_builtin; refine wpList_append_own _ rfl _ _ 41 rfl wS.heap.size 3 i0 (.int .i64 0) 1 8 Tryz.underlying41 hi hz0 hz1 hz2 rfl (by decide) _ _ _ rfl (hown.alloc _) ⟨wt.heap.size, 0, none⟩ 1 1 [.int .i64 t] rfl rfl (cell_one_new _ _ _) (by intro u hu; simp at hu; subst hu; rfl) (by unfold maxLen; omega) (by omega) (by simp; omega) ?_)
                intro v' w3 hown' hgrow _
                have hb3 : Below wS.heap.size wS w3 := (hbt.alloc (by omega) _).grown hgrow (by simp; omega) (fun k hk => (hown.lt k hk).1)
                have ho3 : w3.ownsRow wS.heap.size 3 1 v' (usTo L x (t + 1)).length (iv (usTo L x (t + 1))) := by
                  rw [HS2.out, iv_snoc]; simpa using hown'
                clear hown' hgrow hown hbt hSt hbw
                go_wp2
                exact ⟨⟨t + 1, by omega, by go_num, ho3, hb3⟩, by simp [intOf]; omega⟩
              | false =>
                simp only [Bool.false_eq_true, if_false, List.append_nil] at hst
                have HS2 := Lib.hid hst
                clear hst
                go_wp2
                exact ⟨⟨t + 1, by omega, by go_num, by rw [HS2.out]; exact hown, hbt⟩, by simp [intOf]; omega⟩
        · obtain rfl : t = L.length := by omega
          have htI : ¬ ((L.length : Int) < L.length) := by omega
          have hus : usTo L x L.length = usP L x := rfl
          rw [hus] at hown
          obtain ⟨A, cap, hv⟩ := own_form hown
          subst hv
          have hI2 := (own_ints hown rfl).1
          obtain ⟨A1, cap1, hV1, hI1, -, -⟩ := (hUS.keep hbt).ints hlt
          have hcell := (hUS.keep hbt).cell x hlt
          rw [hV1] at hcell
          have hpl := usP_len L x
          have HS2 := ints_b hI1 hI2 cap1 cap (by omega)
          clear hUS hown hI1 hI2 hV1
          generalize (usP L x).length = pl at *
          go_wp2_with (go_at_call 22; refine HS2.mono ?_; rintro e w5 ⟨rfl, b5⟩; refine Hid.out ?_)
          refine Lib.hid ?_
          have hb5 : Below wU.heap.size wU w5 := below_two (below_two hbU hbt) b5
          go_wp2_with fail
          exact ⟨⟨x + 1, by omega, by go_num, hb5⟩, by simp [intOf]; omega⟩
    · obtain rfl : x = L.length := by omega
      have hxI : ¬ ((L.length : Int) < L.length) := by omega
      go_wp2_with fail
      go_ret
      exact ⟨rfl, hbS⟩
end jobChecks
end Go.Proofs.YtoooninneccfcaaGreatDoor
