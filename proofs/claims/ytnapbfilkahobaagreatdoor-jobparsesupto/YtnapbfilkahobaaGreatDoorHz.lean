import Derived.Test.YtnapbfilkahobaaGreatDoorHw
import Derived.Test.YtnapbfilkahobaaGreatDoorHn
import Derived.Test.YtnapbfilkahobaaGreatDoorHv
import Derived.Test.YtnapbfilkahobaaGreatDoorHt
import Derived.Test.YtnapbfilkahobaaGreatDoorHp
import Derived.Test.YtnapbfilkahobaaGreatDoorHx
/- The document's Cut and small. -/
namespace Go.Proofs.YtnapbfilkahobaaGreatDoor
open Go.RowKit
set_option linter.unusedVariables false
set_option linter.unusedSimpArgs false

def sv (ps : List (List UInt8)) : List Value := ps.map fun p => .string (bb p)
theorem sv_snoc (ps : List (List UInt8)) (p : List UInt8) : sv (ps ++ [p]) = sv ps ++ [.string (bb p)] := by simp [sv]
theorem sv_len (ps : List (List UInt8)) : (sv ps).length = ps.length := by simp [sv]
/-- Strings in memory. -/
def StrsAt (w : World) (b o : Nat) (ps : List (List UInt8)) : Prop := ∀ (j : Nat) (h : j < ps.length), w.cell? ⟨b, o + j, none⟩ = some (.string (bb ps[j]))
theorem StrsAt.keep {w w' : World} {b o : Nat} {ps : List (List UInt8)} (h : StrsAt w b o ps) (k : Keeps w w') : StrsAt w' b o ps := fun j hj => k _ _ (h j hj)
theorem ext_bb (s : ByteArray) (f i : Nat) (h : f ≤ i) (hi : i ≤ s.size) : s.extract f i = bb ((s.data.toList.take i).drop f) := by
  have := ext_take s f (i - f)
  rw [show f + (i - f) = i by omega] at this
  apply ByteArray.ext
  apply Array.ext'
  rw [this]
  simp [bb, List.drop_take]
theorem ext_bb_end (s : ByteArray) (f : Nat) (h : f ≤ s.size) : s.extract f s.size = bb (s.data.toList.drop f) := by
  have e : s.data.toList.length = s.size := by simp
  rw [ext_bb s f s.size h (Nat.le_refl _), List.take_of_length_le (by omega)]

set_option maxRecDepth 100000 in
set_option maxHeartbeats 4000000 in
theorem dcut_any (s : ByteArray) (c : UInt8) (w : World) (hs : s.size ≤ 100000000) :
    Calls Tryz.prog 52 #[.string s, .int .u8 (c.toNat : Int)] w fun e w' => ∃ g cap, e = .returned (.slice (some ⟨g, 0, none⟩) (cutC c s.data.toList).length cap) ∧ (cutC c s.data.toList).length ≤ cap ∧ w.heap.size ≤ g ∧ StrsAt w' g 0 (cutC c s.data.toList) ∧ Below w.heap.size w w' := by
  obtain ⟨i0, hi, hz0, hz1, hz2⟩ := info_parts Tryz.infoStr
  have hlen : s.data.toList.length = s.size := by simp
  generalize hPP : cutC c s.data.toList = P
  have HPP := Lib.hid hPP
  clear hPP
  go_enter Tryz.func52, Tryz.ntmps52
  go_wp2_with fail
  go_loopw [5, 6, 7] (fun v f i wr => ∃ (out : List (List UInt8)) (a j : Nat), f = .int .i64 a ∧ i = .int .i64 j ∧ a ≤ j ∧ j ≤ s.size ∧ out.length ≤ j ∧ Hid (CutI c s.data.toList out a j) ∧ wr.ownsRow w.heap.size 9 1 v out.length (sv out) ∧ Below w.heap.size w wr) (fun _ _ i _ => s.size - (intOf i).toNat)
  case atStart => exact ⟨[], 0, 0, rfl, rfl, Nat.le_refl _, Nat.zero_le _, Nat.zero_le _, Lib.hid (CutI.start _ _), World.ownsRow_nil _ _ _ _, Below.refl _ _⟩
  case round =>
    obtain ⟨out, a, j, rfl, rfl, haj, hj, hol, HI, hown, hb⟩ := hrel
    rename World => wr2
    have hsz := hb.size
    by_cases hlt : j < s.size
    · have hjI : (j : Int) < s.size := by omega
      have hlt2 : j < s.data.toList.length := by omega
      have hgj : s.data.toList[j] = s[j] := rfl
      by_cases hx : s[j] = c
      · have HN := Lib.hid (HI.out.hit hlt2 (by rw [hgj]; exact hx))
        have hxI : ((s[j].toNat : Int) == (c.toNat : Int)) = true := by rw [hx]; simp
        have hex := ext_bb s a j haj (by omega)
        generalize (s.data.toList.take j).drop a = pc at *
        have HE := Lib.hid hex
        clear HI hex hx
        go_wp2_with (at_builtin; refine wpList_append_own _ rfl _ _ 94 rfl w.heap.size 9 i0 (.string ⟨#[]⟩) 1 16 Tryz.underlying94 hi hz0 hz1 hz2 rfl (by decide) _ _ _ rfl (hown.alloc _) ⟨wr2.heap.size, 0, none⟩ 1 1 [.string (s.extract a j)] rfl rfl (cell_one_new _ _ _) (by intro u hu; simp at hu; subst hu; rfl) (by unfold maxLen; omega) (by omega) (by simp; omega) ?_)
        intro v' w3 hown' hgrow _
        have hb3 : Below w.heap.size w w3 := (hb.alloc (by omega) _).grown hgrow (by simp; omega) (fun k hk => (hown.lt k hk).1)
        have ho3 : w3.ownsRow w.heap.size 9 1 v' (out ++ [pc]).length (sv (out ++ [pc])) := by
          rw [sv_snoc, ← HE.out]; simpa using hown'
        clear hown' hgrow hown hb hsz
        go_wp2
        exact ⟨⟨out ++ [pc], j + 1, j + 1, by go_num, by go_num, Nat.le_refl _, by omega, by simp; omega, HN, ho3, hb3⟩, by simp [intOf]; omega⟩
      · have HN := Lib.hid (HI.out.miss hlt2 (by rw [hgj]; exact hx))
        have hxI : ((s[j].toNat : Int) == (c.toNat : Int)) = false := by
          rw [beq_eq_false_iff_ne]; intro e; apply hx; exact UInt8.toNat_inj.1 (by omega)
        clear HI hx
        go_wp2
        exact ⟨⟨out, a, j + 1, rfl, by go_num, by omega, by omega, by omega, HN, hown, hb⟩, by simp [intOf]; omega⟩
    · obtain rfl : j = s.size := by omega
      have hjI : ¬ (s.size : Int) < s.size := by omega
      have hd := HI.out
      rw [← hlen] at hd
      have HD : Hid (P = out ++ [s.data.toList.drop a]) := by show _ = _; rw [← HPP.out]; exact hd.done
      clear HPP
      have hex := ext_bb_end s a haj
      generalize s.data.toList.drop a = pc at *
      have HE := Lib.hid hex
      clear HI hex hd
      go_wp2_with (at_builtin; refine wpList_append_own _ rfl _ _ 94 rfl w.heap.size 9 i0 (.string ⟨#[]⟩) 1 16 Tryz.underlying94 hi hz0 hz1 hz2 rfl (by decide) _ _ _ rfl (hown.alloc _) ⟨wr2.heap.size, 0, none⟩ 1 1 [.string (s.extract a s.size)] rfl rfl (cell_one_new _ _ _) (by intro u hu; simp at hu; subst hu; rfl) (by unfold maxLen; omega) (by omega) (by simp; omega) ?_)
      intro v' w3 hown' hgrow _
      have hb3 : Below w.heap.size w w3 := (hb.alloc (by omega) _).grown hgrow (by simp; omega) (fun k hk => (hown.lt k hk).1)
      have ho3 : w3.ownsRow w.heap.size 9 1 v' P.length (sv P) := by
        rw [HD.out, sv_snoc, ← HE.out]; simpa using hown'
      have hpos : 0 < P.length := by rw [HD.out]; simp
      clear hown' hgrow hown hb hsz HD
      obtain ⟨g, cap, cur, rfl, hg1, hg2, hg3, -⟩ : ∃ g cap cur, v' = .slice (some ⟨g, 0, none⟩) P.length cap ∧ w.heap.size ≤ g ∧ w3.heap[g]? = some (.cells cur 9 (0, 0)) ∧ P.length ≤ cap ∧ True := by
        rcases ho3.2 with ⟨-, h0⟩ | ⟨g, cap, cur, h1, h2, h3, h4, -⟩
        · omega
        · exact ⟨g, cap, cur, h1, h2, h3, h4, trivial⟩
      go_wp2
      go_ret
      refine ⟨g, cap, rfl, hg3, hg1, fun k hk => ?_, hb3⟩
      rw [Nat.zero_add, ho3.cellAt k (by omega)]
      simp [sv, hk]

set_option maxHeartbeats 2000000 in
theorem small2_any (s : ByteArray) (w : World) (hs : s.size ≤ 100000000) :
    Calls Tryz.prog 53 #[.string s] w fun e w' => e = .returned (.int .i64 (smV s.data.toList)) ∧ w = w' := by
  have hlen : s.data.toList.length = s.size := by simp
  have HE := tx_isE s
  by_cases h0 : s = ByteArray.empty
  · have e : smV s.data.toList = -1 := by subst h0; rfl
    rw [e]
    have hE1 : s.toList.isEmpty = true := by rw [HE]; simpa using h0
    clear HE h0 e
    go_enter Tryz.func53, Tryz.ntmps53
    go_wp2_with fail
    go_ret
    exact ⟨rfl, rfl⟩
  have hE1 : s.toList.isEmpty = false := by rw [HE]; simpa using h0
  have hp : 0 < s.size := by
    rcases Nat.eq_zero_or_pos s.size with h | h
    · exfalso; apply h0; apply ByteArray.ext; apply Array.ext'; rw [List.eq_nil_of_length_eq_zero (by omega : s.data.toList.length = 0)]; rfl
    · exact h
  have hne : s.data.toList ≠ [] := fun e => by rw [e] at hlen; simp at hlen; omega
  clear HE h0
  by_cases h3 : 3 < s.size
  · have e : smV s.data.toList = -1 := by unfold smV docSmall; rw [if_pos (.inr (.inl (by omega)))]
    rw [e]
    have h3I : (3 : Int) < s.size := by omega
    clear e
    go_enter Tryz.func53, Tryz.ntmps53
    go_wp2_with fail
    go_ret
    exact ⟨rfl, rfl⟩
  have h3I : ¬ (3 : Int) < s.size := by omega
  have hhd : s.data.toList.head? = some s[0] := by
    have : s.data.toList[0]? = some s[0] := by rw [List.getElem?_eq_getElem (by omega)]; rfl
    rw [List.head?_eq_getElem?]; exact this
  by_cases h4 : s[0] = 48 ∧ 1 < s.size
  · have e : smV s.data.toList = -1 := by unfold smV docSmall; rw [if_pos (.inr (.inr ⟨by rw [hhd, h4.1], by omega⟩))]
    rw [e]
    have h1I : (1 : Int) < s.size := by omega
    have hzI : ((s[0].toNat : Int) == 48) = true := by rw [h4.1]; rfl
    clear e
    go_enter Tryz.func53, Tryz.ntmps53
    go_wp2_with fail
    go_ret
    exact ⟨rfl, rfl⟩
  have hcond : ¬ (s.data.toList = [] ∨ 3 < s.data.toList.length ∨ (s.data.toList.head? = some 48 ∧ 1 < s.data.toList.length)) := by
    rw [hhd, hlen]
    rintro (h | h | ⟨h, h'⟩)
    · exact hne h
    · omega
    · injection h with h; exact h4 ⟨h, h'⟩
  have hdec : (((s[0].toNat : Int) == 48) = true ∧ ¬ (1 : Int) < s.size) ∨ ((s[0].toNat : Int) == 48) = false := by
    by_cases hz : s[0] = 48
    · left; exact ⟨by rw [hz]; rfl, fun h => h4 ⟨hz, by omega⟩⟩
    · right; rw [beq_eq_false_iff_ne]; intro e; apply hz; exact UInt8.toNat_inj.1 (by have : (48 : UInt8).toNat = 48 := rfl; omega)
  have HC := Lib.hid hcond
  have HG := Lib.hid (fun h => small_good hcond h)
  clear hcond hhd h4 hne
  rcases hdec with ⟨q1, q2⟩ | q1
  all_goals
    go_enter Tryz.func53, Tryz.ntmps53
    go_wp2_with fail
    go_loopw [3, 4] (fun n i wr => ∃ (j : Nat), j ≤ s.size ∧ i = .int .i64 j ∧ n = .int .i64 ((valFrom 0 (s.data.toList.take j) : Nat) : Int) ∧ Hid (dgI s.data.toList j) ∧ w = wr) (fun _ i _ => s.size - (intOf i).toNat)
    case atStart => exact ⟨0, Nat.zero_le _, rfl, rfl, Lib.hid (fun c hc => by simp at hc), rfl⟩
    case round =>
      obtain ⟨j, hj, rfl, rfl, HD, rfl⟩ := hrel
      by_cases hlt : j < s.size
      · have hjI : (j : Int) < s.size := by omega
        have hlt2 : j < s.data.toList.length := by omega
        have hgj : s.data.toList[j] = s[j] := rfl
        by_cases hd : isDg s[j] = true
        · have hbd := dg_bd hd
          have HD2 := Lib.hid (dgI_step HD.out hlt2 (by rw [hgj]; exact hd))
          have hv3 := val_three (w := s.data.toList.take j) (by simp; omega) HD.out
          have hval : valFrom 0 (s.data.toList.take (j + 1)) = valFrom 0 (s.data.toList.take j) * 10 + (s[j].toNat - 48) := by
            rw [List.take_succ_eq_append_getElem hlt2, valFrom_snoc]; rfl
          have HV := Lib.hid hval
          have d1 : ¬ (s[j].toNat : Int) < 48 := by omega
          have d2 : ¬ (57 : Int) < (s[j].toNat : Int) := by omega
          clear HD hval hd
          generalize valFrom 0 (s.data.toList.take j) = vv at *
          go_wp2_with fail
          exact ⟨⟨j + 1, by omega, by go_num, by rw [HV.out]; congr 1; omega, HD2, by trivial⟩, by simp [intOf]; omega⟩
        · have hd' : isDg s[j] = false := by simpa using hd
          have e : smV s.data.toList = -1 := by unfold smV; rw [small_bad hlt2 (by rw [hgj]; exact hd')]
          have hout : ¬ (48 ≤ s[j].toNat ∧ s[j].toNat ≤ 57) := fun h => by
            apply hd; unfold isDg; simpa using h
          have HQ := Lib.hid e
          clear e HD hd hd' HC HG
          by_cases d1 : (s[j].toNat : Int) < 48
          · go_wp2_with fail
            go_ret
            exact ⟨retI (by rw [HQ.out]), rfl⟩
          · have d2 : (57 : Int) < (s[j].toNat : Int) := by omega
            go_wp2_with fail
            go_ret
            exact ⟨retI (by rw [HQ.out]), rfl⟩
      · obtain rfl : j = s.size := by omega
        have hjI : ¬ (s.size : Int) < s.size := by omega
        have e : smV s.data.toList = ((valFrom 0 s.data.toList : Nat) : Int) := by
          unfold smV; rw [HG.out (by have := HD.out; rw [← hlen] at this; exact this)]
        have e2 : s.data.toList.take s.size = s.data.toList := by rw [← hlen, List.take_length]
        have HQ := Lib.hid (show ((valFrom 0 (s.data.toList.take s.size) : Nat) : Int) = smV s.data.toList from by rw [e, e2])
        clear e e2 HD HC HG
        go_wp2_with fail
        go_ret
        exact ⟨retI HQ.out, rfl⟩
end Go.Proofs.YtnapbfilkahobaaGreatDoor

/- The document's Kinds and Print. -/
namespace Go.Proofs.YtnapbfilkahobaaGreatDoor
open Go.RowKit
open Go.Lib (decDigits itoa)
set_option linter.unusedVariables false
set_option linter.unusedSimpArgs false

theorem kinds_any (w : World) : Calls Tryz.prog 47 #[] w fun e w' => ∃ g, e = .returned (.slice (some ⟨g, 0, none⟩) 11 11) ∧ w.heap.size ≤ g ∧ (∀ k : Nat, 1 ≤ k → k ≤ 10 → w'.cell? ⟨g, k, none⟩ = some (.string (bb (nameP k)))) ∧ Below w.heap.size w w' := by
  go_enter Tryz.func47, Tryz.ntmps47
  go_wp2_with fail
  go_ret
  refine ⟨w.heap.size, rfl, Nat.le_refl _, fun k h1 h2 => ?_, (Below.refl _ _).alloc (Nat.le_refl _) _⟩
  obtain rfl | rfl | rfl | rfl | rfl | rfl | rfl | rfl | rfl | rfl : k = 1 ∨ k = 2 ∨ k = 3 ∨ k = 4 ∨ k = 5 ∨ k = 6 ∨ k = 7 ∨ k = 8 ∨ k = 9 ∨ k = 10 := by omega
  all_goals (rw [World.cell?_alloc_new]; rfl)

theorem join_take (nd : Nd) (t : Nat) : (nameP nd.k ++ joinB ((nd.fs.take t).map itoa)).length ≤ (lineB nd).length := by
  have e : nd.fs.map itoa = (nd.fs.take t).map itoa ++ (nd.fs.drop t).map itoa := by rw [← List.map_append, List.take_append_drop]
  rw [lineB, wordsB, e]
  simp only [joinB, List.flatMap_append, List.length_append]
  omega
theorem join_step (fs : List Int) (t : Nat) (h : t < fs.length) : joinB ((fs.take (t + 1)).map itoa) = joinB ((fs.take t).map itoa) ++ 32 :: itoa fs[t] := by
  rw [List.take_succ_eq_append_getElem h, List.map_append]
  simp [joinB]
theorem line_end (nd : Nd) : lineB nd = nameP nd.k ++ joinB (nd.fs.map itoa) ++ (if hasNP nd.k then 32 :: itoa nd.n else []) ++ (if hasTP nd.k then 32 :: nd.tx.data.toList else []) := by
  rw [lineB, wordsB]
  cases hasNP nd.k <;> cases hasTP nd.k <;> simp [joinB]
theorem bb_tx (x : ByteArray) : bb x.data.toList = x := rfl

set_option maxHeartbeats 8000000 in
set_option maxRecDepth 100000 in
theorem dprint_any {w : World} {la : Option Addr} {L : List Nd} {c : Nat} (hL : NdsAt w la L) (h0 : jobP L = 0) :
    Calls Tryz.prog 16 #[.slice la L.length c] w fun e w' => e = .returned (.string (bb (printB L))) ∧ Below w.heap.size w w' := by
  obtain ⟨hl12, hall, -, -⟩ := job_ok h0
  have HAll := Lib.hid hall
  have HL := Lib.hid hL
  have HK := kinds_any w
  clear h0 hall hL
  go_enter Tryz.func16, Tryz.ntmps16
  go_wp2_with (go_at_call 47; refine HK.mono ?_; rintro e w1 ⟨g, rfl, hgw, hnm, b1⟩; refine Hid.out ?_)
  refine Lib.hid ?_
  have HN := Lib.hid hnm
  clear hnm HK
  go_wp2_with fail
  go_loopw [4, 5] (fun s i wr => ∃ (j : Nat) (S : ByteArray), j ≤ L.length ∧ i = .int .i64 j ∧ s = .string S ∧ S.size ≤ j * 1000 ∧ Hid (S = bb (printB (L.take j))) ∧ Hid (∀ k : Nat, 1 ≤ k → k ≤ 10 → wr.cell? ⟨g, k, none⟩ = some (.string (bb (nameP k)))) ∧ Below w.heap.size w wr) (fun _ i _ => L.length - (intOf i).toNat)
  case atStart => exact ⟨0, ⟨#[]⟩, by omega, rfl, rfl, Nat.le_of_eq rfl, Lib.hid (by rw [List.take_zero]; rfl), HN, b1⟩
  case round =>
    obtain ⟨j, S, hj, rfl, rfl, hsz, HS, HNm, hb⟩ := hrel
    rename World => wr2
    clear HN
    by_cases hlt : j < L.length
    · rcases HL.out with hnil | ⟨b, o, rfl, hcells⟩
      · exfalso; rw [hnil] at hlt; simp at hlt
      obtain ⟨c0, ⟨fa, fc, c1, hi⟩, c2, c3, -⟩ := hcells j hlt
      have HC0 := Lib.hid (fun (u : World) (hu : Below w.heap.size w u) => Keeps.of hu _ _ c0)
      have HC1 := Lib.hid (fun (u : World) (hu : Below w.heap.size w u) => Keeps.of hu _ _ c1)
      have HC2 := Lib.hid (fun (u : World) (hu : Below w.heap.size w u) => Keeps.of hu _ _ c2)
      have HC3 := Lib.hid (fun (u : World) (hu : Below w.heap.size w u) => Keeps.of hu _ _ c3)
      have HI := Lib.hid (fun (u : World) (hu : Below w.heap.size w u) => hi.keep (Keeps.of hu))
      have hok := all_at HAll.out j hlt
      have htk : (L.take j).length ≤ 12 := by rw [List.length_take]; omega
      obtain ⟨hk, hf, -, hn, -, -, -⟩ := node_ok htk hok
      have h4 := node_fs htk hok
      have htx := node_tx htk hok
      have hll := line_len htk hok
      have HJT := Lib.hid (join_take L[j])
      have HE := Lib.hid (line_end L[j])
      have HSn : Hid (printB (L.take (j + 1)) = printB (L.take j) ++ (lineB L[j] ++ [10])) := by
        show _ = _
        rw [List.take_succ_eq_append_getElem hlt, print_snoc]
      have hjI : (j : Int) < L.length := by omega
      clear hok htk hcells hi c0 c1 c2 c3 HL HAll
      generalize L[j] = nd at *
      clear hlt
      obtain ⟨k, fs, tx, n⟩ := nd
      simp only at *
      obtain ⟨kk, rfl⟩ : ∃ kk : Nat, k = kk := ⟨k.toNat, by omega⟩
      have hnk := HNm.out kk (by omega) (by omega)
      have d0 := HC0.out wr2 hb
      have d1 := HC1.out wr2 hb
      have hkb : kk ≤ 10 := by omega
      have hnl : (bb (nameP (kk : Int))).size ≤ 999 := by
        rw [bb_size]; have := HJT.out 0; rw [List.length_append] at this; omega
      generalize hnn : bb (nameP (kk : Int)) = nk at *
      have HNN := Lib.hid hnn
      clear hnn
      go_wp2_with fail
      go_loopw [4, 6] (fun s i wr => ∃ (t : Nat) (Z : ByteArray), t ≤ fs.length ∧ i = .int .i64 t ∧ s = .string Z ∧ Z.size ≤ 13000 ∧ Hid (Z = bb (printB (L.take j) ++ (nameP (kk : Int) ++ joinB ((fs.take t).map itoa)))) ∧ Hid (∀ k : Nat, 1 ≤ k → k ≤ 10 → wr.cell? ⟨g, k, none⟩ = some (.string (bb (nameP k)))) ∧ Below w.heap.size w wr) (fun _ i _ => fs.length - (intOf i).toNat)
      case atStart =>
        refine ⟨0, _, by omega, rfl, rfl, ?_, ?_, HNm, hb⟩
        · rw [ByteArray.size_append]; omega
        · show _ = _
          rw [HS.out, ← HNN.out, bb_app]; simp [joinB]
      case round =>
        obtain ⟨t, Z, ht, rfl, rfl, hzz, HZ, HNm3, hb3⟩ := hrel
        rename World => wr3
        have f0 := HC0.out wr3 hb3
        have f1 := HC1.out wr3 hb3
        have f2 := HC2.out wr3 hb3
        have f3 := HC3.out wr3 hb3
        clear d0 d1
        by_cases hlt2 : t < fs.length
        · have hr := hf fs[t] (List.getElem_mem hlt2)
          have hlen := HJT.out (t + 1)
          rw [join_step fs t hlt2] at hlen
          have HST := Lib.hid (join_step fs t hlt2)
          have ci : ∃ b2 o2, fa = some ⟨b2, o2, none⟩ ∧ wr3.cell? ⟨b2, o2 + t, none⟩ = some (.int .i64 fs[t]) := by
            rcases HI.out wr3 hb3 with hI1 | ⟨b2, o2, e, hI1⟩
            · rw [hI1] at hlt2; simp at hlt2
            · exact ⟨b2, o2, e, hI1 t hlt2⟩
          obtain ⟨b2, o2, rfl, ci⟩ := ci
          have HD := digs_any wr3 fs[t] (by omega) (by omega)
          have hz2 : (itoB fs[t]).size ≤ 999 := by
            have : (itoB fs[t]).size = (itoa fs[t]).length := by simp [itoB, ByteArray.size]
            simp only [List.length_append, List.length_cons] at hlen
            omega
          have HB2 : Hid (itoB fs[t] = bb (itoa fs[t])) := rfl
          have htI : (t : Int) < (fs.length : Int) := by omega
          have hzt : Z.size + 1 + (itoa fs[t]).length ≤ 13000 := by
            have e := HZ.out
            have e2 : Z.size = (printB (L.take j) ++ (nameP (kk : Int) ++ joinB ((fs.take t).map itoa))).length := by rw [e, bb_size]
            have e3 : S.size = (printB (L.take j)).length := by rw [HS.out, bb_size]
            simp only [List.length_append, List.length_cons] at hlen e2
            omega
          have hzs : (itoB fs[t]).size = (itoa fs[t]).length := by simp [itoB, ByteArray.size]
          generalize itoB fs[t] = dg at *
          generalize hda : itoa fs[t] = da at *
          generalize fs[t] = f at *
          clear hlen hr hda
          go_wp2_with (go_at_call 33; refine HD.mono ?_; rintro e w4 ⟨rfl, b4⟩; refine Hid.out ?_)
          refine Lib.hid ?_
          have hb4 : Below w.heap.size w w4 := below_two hb3 b4
          have HNm4 : Hid (∀ k : Nat, 1 ≤ k → k ≤ 10 → w4.cell? ⟨g, k, none⟩ = some (.string (bb (nameP k)))) := fun k h1 h2 => Keeps.of b4 _ _ (HNm3.out k h1 h2)
          clear HD b4 HNm3
          go_wp2_with fail
          refine ⟨⟨t + 1, _, by omega, by go_num, rfl, ?_, ?_, HNm4, hb4⟩, by simp [intOf]; omega⟩
          · rw [ByteArray.size_append, ByteArray.size_append]
            have : (⟨#[32]⟩ : ByteArray).size = 1 := rfl
            omega
          · show _ = _
            rw [HZ.out, HST.out, HB2.out, show (⟨#[32]⟩ : ByteArray) = bb [32] from rfl, bb_app, bb_app]; simp
        · obtain rfl : t = fs.length := by omega
          have htI : ¬ ((fs.length : Int) < (fs.length : Int)) := by omega
          have hzl : Hid (Z = bb (printB (L.take j) ++ (nameP (kk : Int) ++ joinB (fs.map itoa)))) := by
            show _ = _; have := HZ.out; rw [List.take_length] at this; exact this
          have cC := counted_any (kk : Int)
          have cT := texted_any (kk : Int)
          have HD := Lib.hid (fun (u : World) => digs_any u n (by omega) (by omega))
          have hzs : (itoB n).size = (itoa n).length := by simp [itoB, ByteArray.size]
          have HB2 : Hid (itoB n = bb (itoa n)) := rfl
          have hts : tx.size = tx.data.toList.length := by simp
          have HB3 : Hid (tx = bb tx.data.toList) := rfl
          have HEE := HE.out
          have htot : S.size = (printB (L.take j)).length := by rw [HS.out, bb_size]
          have hZs : Z.size = (printB (L.take j)).length + ((nameP (kk : Int)).length + (joinB (fs.map itoa)).length) := by rw [hzl.out, bb_size, List.length_append, List.length_append]
          clear HZ HJT HE HC0 HC1 HC2 HC3 HI hf hn hk h4 htx
          obtain ⟨dg, hdg⟩ : ∃ dg, dg = itoB n := ⟨_, rfl⟩
          rw [← hdg] at HD hzs HB2
          clear hdg
          generalize hasNP (kk : Int) = NN at *
          generalize hasTP (kk : Int) = TT at *
          cases NN <;> cases TT
          · simp only [Bool.false_eq_true, if_false, if_true, List.append_nil] at HEE
            have HF : Hid (Z ++ bb [10] = bb (printB (L.take (j + 1)))) := by
              show _ = _; rw [hzl.out, HSn.out, HEE]; simp only [bb_app]; congr 1; simp
            have HFz : Hid (Z.size + 1 ≤ (j + 1) * 1000) := by
              show _ ≤ _; rw [HEE] at hll; simp only [List.length_append, List.length_cons] at hll; omega
            clear HEE hll hZs htot hzl HSn hzs hts
            go_wp2_with (go_at_call 48; refine (cC _).mono ?_; rintro e w' ⟨rfl, rfl⟩; refine Hid.out ?_)
            refine Lib.hid ?_
            go_wp2_with (go_at_call 49; refine (cT _).mono ?_; rintro e w' ⟨rfl, rfl⟩; refine Hid.out ?_)
            refine Lib.hid ?_
            go_wp2_with fail
            exact ⟨⟨j + 1, _, by omega, by go_num, rfl, by simp only [ByteArray.size_append]; exact HFz.out, HF, HNm3, hb3⟩, by simp [intOf]; omega⟩
          · simp only [Bool.false_eq_true, if_false, if_true, List.append_nil] at HEE
            have HF : Hid (Z ++ bb [32] ++ tx ++ bb [10] = bb (printB (L.take (j + 1)))) := by
              show _ = _; rw [hzl.out, HSn.out, HEE]; rw [HB3.out]; simp only [bb_app]; congr 1; simp [bb]
            have HFz : Hid (Z.size + 1 + tx.size + 1 ≤ (j + 1) * 1000) := by
              show _ ≤ _; rw [HEE] at hll; simp only [List.length_append, List.length_cons] at hll; omega
            have ht20 : tx.size ≤ 2000 := by rw [HEE] at hll; simp only [List.length_append, List.length_cons] at hll; omega
            clear HEE hll hZs htot hzl HSn hzs hts
            go_wp2_with (go_at_call 48; refine (cC _).mono ?_; rintro e w' ⟨rfl, rfl⟩; refine Hid.out ?_)
            refine Lib.hid ?_
            go_wp2_with (go_at_call 49; refine (cT _).mono ?_; rintro e w' ⟨rfl, rfl⟩; refine Hid.out ?_)
            refine Lib.hid ?_
            go_wp2_with fail
            exact ⟨⟨j + 1, _, by omega, by go_num, rfl, by simp only [ByteArray.size_append]; exact HFz.out, HF, HNm3, hb3⟩, by simp [intOf]; omega⟩
          · simp only [Bool.false_eq_true, if_false, if_true, List.append_nil] at HEE
            have HF : Hid (Z ++ bb [32] ++ dg ++ bb [10] = bb (printB (L.take (j + 1)))) := by
              show _ = _; rw [hzl.out, HSn.out, HEE, HB2.out]; simp only [bb_app]; congr 1; simp
            have HFz : Hid (Z.size + 1 + dg.size + 1 ≤ (j + 1) * 1000) := by
              show _ ≤ _; rw [HEE] at hll; simp only [List.length_append, List.length_cons] at hll; omega
            have hd20 : dg.size ≤ 2000 := by rw [HEE] at hll; simp only [List.length_append, List.length_cons] at hll; omega
            clear HEE hll hZs htot hzl HSn hzs hts
            go_wp2_with (go_at_call 48; refine (cC _).mono ?_; rintro e w' ⟨rfl, rfl⟩; refine Hid.out ?_)
            refine Lib.hid ?_
            go_wp2_with (go_at_call 33; refine (HD.out _).mono ?_; rintro e w4 ⟨rfl, b4⟩; refine Hid.out ?_)
            refine Lib.hid ?_
            have hb4 : Below w.heap.size w w4 := below_two hb3 b4
            have HNm4 : Hid (∀ k : Nat, 1 ≤ k → k ≤ 10 → w4.cell? ⟨g, k, none⟩ = some (.string (bb (nameP k)))) := fun k h1 h2 => Keeps.of b4 _ _ (HNm3.out k h1 h2)
            have q0 := Keeps.of b4 _ _ f0
            have q2 := Keeps.of b4 _ _ f2
            clear b4 HNm3 f0 f1 f2 f3
            go_wp2_with (go_at_call 49; refine (cT _).mono ?_; rintro e w' ⟨rfl, rfl⟩; refine Hid.out ?_)
            refine Lib.hid ?_
            go_wp2_with fail
            exact ⟨⟨j + 1, _, by omega, by go_num, rfl, by simp only [ByteArray.size_append]; exact HFz.out, HF, HNm4, hb4⟩, by simp [intOf]; omega⟩
          · simp only [Bool.false_eq_true, if_false, if_true, List.append_nil] at HEE
            have HF : Hid (Z ++ bb [32] ++ dg ++ bb [32] ++ tx ++ bb [10] = bb (printB (L.take (j + 1)))) := by
              show _ = _; rw [hzl.out, HSn.out, HEE, HB2.out]; rw [HB3.out]; simp only [bb_app]; congr 1; simp [bb]
            have HFz : Hid (Z.size + 1 + dg.size + 1 + tx.size + 1 ≤ (j + 1) * 1000) := by
              show _ ≤ _; rw [HEE] at hll; simp only [List.length_append, List.length_cons] at hll; omega
            have hd20 : dg.size ≤ 2000 := by rw [HEE] at hll; simp only [List.length_append, List.length_cons] at hll; omega
            have ht20 : tx.size ≤ 2000 := by rw [HEE] at hll; simp only [List.length_append, List.length_cons] at hll; omega
            clear HEE hll hZs htot hzl HSn hzs hts
            go_wp2_with (go_at_call 48; refine (cC _).mono ?_; rintro e w' ⟨rfl, rfl⟩; refine Hid.out ?_)
            refine Lib.hid ?_
            go_wp2_with (go_at_call 33; refine (HD.out _).mono ?_; rintro e w4 ⟨rfl, b4⟩; refine Hid.out ?_)
            refine Lib.hid ?_
            have hb4 : Below w.heap.size w w4 := below_two hb3 b4
            have HNm4 : Hid (∀ k : Nat, 1 ≤ k → k ≤ 10 → w4.cell? ⟨g, k, none⟩ = some (.string (bb (nameP k)))) := fun k h1 h2 => Keeps.of b4 _ _ (HNm3.out k h1 h2)
            have q0 := Keeps.of b4 _ _ f0
            have q2 := Keeps.of b4 _ _ f2
            clear b4 HNm3 f0 f1 f2 f3
            go_wp2_with (go_at_call 49; refine (cT _).mono ?_; rintro e w' ⟨rfl, rfl⟩; refine Hid.out ?_)
            refine Lib.hid ?_
            go_wp2_with fail
            exact ⟨⟨j + 1, _, by omega, by go_num, rfl, by simp only [ByteArray.size_append]; exact HFz.out, HF, HNm4, hb4⟩, by simp [intOf]; omega⟩
    · obtain rfl : j = L.length := by omega
      have hjI : ¬ ((L.length : Int) < L.length) := by omega
      have hS2 : Hid (S = bb (printB L)) := by show _ = _; have := HS.out; rw [List.take_length] at this; exact this
      go_wp2_with fail
      go_ret
      exact ⟨by rw [← hS2.out]; rfl, hb⟩
end Go.Proofs.YtnapbfilkahobaaGreatDoor

/- The document's ParseJob: what it holds. -/
namespace Go.Proofs.YtnapbfilkahobaaGreatDoor
open Go.RowKit
set_option linter.unusedVariables false
set_option linter.unusedSimpArgs false

/-- The nodes so far, in rows of their own. -/
structure DpAt (B : Nat) (X : List Px) (v : Value) (W : World) : Prop where
  row : W.ownsRow B 52 4 v X.length (X.flatMap ndC)
  fs : ∀ x ∈ X, W.ownsRow B 3 1 (.slice x.2.1 x.1.fs.length x.2.2) x.1.fs.length (iv x.1.fs)
  sz : ∀ x ∈ X, x.1.tx.size ≤ 100000000 ∧ x.1.fs.length ≤ 100000000
theorem DpAt.call {B : Nat} {X : List Px} {v : Value} {W W' : World} (h : DpAt B X v W) (hb : Below W.heap.size W W') : DpAt B X v W' where
  row := ownsRow_of_block h.row (fun g hg => hb.block g (h.row.lt g hg).2)
  fs := fun x hx => ownsRow_of_block (h.fs x hx) (fun g hg => hb.block g ((h.fs x hx).lt g hg).2)
  sz := h.sz
theorem DpAt.form {B : Nat} {X : List Px} {v : Value} {W : World} (h : DpAt B X v W) : ∃ A cap, v = .slice A X.length cap := own_form h.row
theorem DpAt.nodes {B : Nat} {X : List Px} {A : Option Addr} {cap : Nat} {W : World} (h : DpAt B X (.slice A X.length cap) W) : NdsAt W A (X.map (·.1)) ∧ X.length ≤ cap := rows_nodes h.row h.fs h.sz
/-- One node more. -/
theorem DpAt.snoc {B : Nat} {X : List Px} {v v' : Value} {u w3 : World} {o : Obj} {x : Px} (h : DpAt B X v u) (hnd : u.ownsRow B 3 1 (.slice x.2.1 x.1.fs.length x.2.2) x.1.fs.length (iv x.1.fs)) (hsz : x.1.tx.size ≤ 100000000 ∧ x.1.fs.length ≤ 100000000)
    (hgrow : (u.alloc o).grownBy w3 v.ownBlock) (hown' : w3.ownsRow B 52 4 v' (X.length + 1) (X.flatMap ndC ++ ndC x)) : DpAt B (X ++ [x]) v' w3 := by
  have hA : ∀ k, k < u.heap.size → (u.alloc o).heap[k]? = u.heap[k]? := fun k hk => ((Below.refl _ _).alloc (Nat.le_refl _) o).block k hk
  have hbk : ∀ k, k < u.heap.size → v.ownBlock ≠ some k → w3.heap[k]? = u.heap[k]? := fun k hk hn => (hgrow.block k (by simp; omega) (fun e => hn e.symm)).trans (hA k hk)
  have hint : ∀ (y : Px), u.ownsRow B 3 1 (.slice y.2.1 y.1.fs.length y.2.2) y.1.fs.length (iv y.1.fs) → w3.ownsRow B 3 1 (.slice y.2.1 y.1.fs.length y.2.2) y.1.fs.length (iv y.1.fs) := fun y hy => by
    refine ownsRow_of_block hy (fun g hg => ?_)
    obtain ⟨cur, hc⟩ := row_block hy hg
    refine hbk g (hy.lt g hg).2 (fun e => ?_)
    obtain ⟨cur2, hc2⟩ := row_block h.row e
    rw [hc] at hc2
    injection hc2 with hc2; injection hc2 with _ hc2
    revert hc2; decide
  refine ⟨?_, fun y hy => ?_, fun y hy => ?_⟩
  · rw [List.length_append, List.flatMap_append]
    have e : [x].flatMap ndC = ndC x := by simp
    rw [e]; exact hown'
  · rcases List.mem_append.1 hy with hy | hy
    · exact hint y (h.fs y hy)
    · simp at hy; subst hy; exact hint y hnd
  · rcases List.mem_append.1 hy with hy | hy
    · exact h.sz y hy
    · simp at hy; subst hy; exact hsz
theorem DpAt.none (B : Nat) (W : World) : DpAt B [] (.slice none 0 0) W := ⟨World.ownsRow_nil _ _ _ _, by simp, by simp⟩
/-- A shorter piece of one's own row. -/
theorem own_pre {w : World} {B : Nat} {z y : List Int} {A : Option Addr} {n cap : Nat} (h : w.ownsRow B 3 1 (.slice A n cap) n (iv (z ++ y))) (hn : n = (z ++ y).length) (hz : A ≠ none) : w.ownsRow B 3 1 (.slice A z.length cap) z.length (iv z) := by
  refine ⟨by simp [iv], ?_⟩
  rcases h.2 with ⟨h0, -⟩ | ⟨g, cap', cur, h0, h1, h2, h3, h4, h5, h6⟩
  · simp at h0; exact absurd h0.1 hz
  · simp at h0
    obtain ⟨rfl, rfl⟩ := h0
    refine .inr ⟨g, cap, cur, rfl, h1, h2, by rw [hn] at h3; simp at h3; omega, h4, h5, ?_⟩
    have e : cur.toList.take (z.length * 1) = (cur.toList.take (n * 1)).take (z.length * 1) := by
      rw [List.take_take]; congr 1; rw [hn]; simp
    rw [e, h6]; simp [iv]
def PjEnd (w : World) (R : Job) (e : Ending) (w' : World) : Prop := Below w.heap.size w w' ∧
  match R with
  | .ok m => ∃ A cap, e = .returned (.tuple #[.slice A (List.length m) cap, .int .i64 0, .int .i64 0]) ∧ NdsAt w' A m ∧ List.length m ≤ cap
  | .bad a er => e = .returned (.tuple #[.slice none 0 0, .int .i64 (a : Nat), .int .i64 (er : Nat)])
end Go.Proofs.YtnapbfilkahobaaGreatDoor
