/- appendNode. -/
import Derived.Test.YthadeccnibnioaaGreatDoorYk
import Derived.Test.YthadeccnibnioaaGreatDoorYe
import Derived.Deep.RegionHeld3
namespace Go.Proofs.YthadeccnibnioaaGreatDoor
open Go.RowKit
set_option linter.unusedVariables false
theorem nm_at {w : World} (h : NmAt w) {k : Int} (h1 : 1 ≤ k) (h2 : k ≤ 10) : ∃ kk : Nat, k = (kk : Int) ∧ kk < 11 ∧ w.cell? ⟨0, kk, none⟩ = some (.string ⟨(nameP k).toArray⟩) := by
  obtain ⟨c0, c1, c2, c3, c4, c5, c6, c7, c8, c9, c10⟩ := h
  rcases kinds h1 h2 with rfl | rfl | rfl | rfl | rfl | rfl | rfl | rfl | rfl | rfl
  · exact ⟨1, rfl, by omega, c1⟩
  · exact ⟨2, rfl, by omega, c2⟩
  · exact ⟨3, rfl, by omega, c3⟩
  · exact ⟨4, rfl, by omega, c4⟩
  · exact ⟨5, rfl, by omega, c5⟩
  · exact ⟨6, rfl, by omega, c6⟩
  · exact ⟨7, rfl, by omega, c7⟩
  · exact ⟨8, rfl, by omega, c8⟩
  · exact ⟨9, rfl, by omega, c9⟩
  · exact ⟨10, rfl, by omega, c10⟩
theorem Nb.others {w w' : World} {g : Nat} {k : Int} {v : Value} {tx : ByteArray} {n : Int} (h : Nb w g k v tx n) (ho : Lib.OthersKept 5 none w w') : Nb w' g k v tx n := ho g _ h (by simp) (fun c fz e => by injection e with _ e; revert e; decide)
theorem strCells_bytes (l : List UInt8) : Lib.strCells ⟨l.toArray⟩ = Lib.byteCells l := by simp [Lib.strCells, Lib.byteCells]
theorem join_snoc (ws : List (List UInt8)) (x : List UInt8) : joinB (ws ++ [x]) = joinB ws ++ 32 :: x := by simp [joinB]
theorem step_append_own {P : Program} {ops : Array Oper} {o : Oper} {a : Act} {w : World} {K : Act → World → Prop} {Q : Exit → Act → World → Prop} {E : Prop} (hg : o.guard = none) (s x : Operand) (t : TypeId)
    (ho : o.op = .call { callee := .builtin .append, args := #[s, x], argTypes := #[t, t] })
    (base : Nat) (e : TypeId) (i : TypeInfo) (z : Value) (size bytes : Nat) (ht : P.underlying t = some (.slice e)) (hi : P.info? e = some i) (hz : i.zero = some z)
    (hsize : i.size = size) (hby : i.bytes = bytes) (hzs : z.cells.size = size) (hsz : 0 < size)
    (v : Value) (n : Nat) (xs : List Value) (hs : a.eval s = v) (hown : w.ownsRow base e size v n xs)
    (ad : Addr) (m c : Nat) (news : List Value) (hx : a.eval x = .slice (some ad) m c) (hl : news.length = m * size) (hnews : ∀ j u, news[j]? = some u → w.cell? (ad.add j) = some u) (h1 : ∀ u ∈ news, u.oneCell' = true)
    (h63 : n + m ≤ maxLen) (hbytes : (n + m) * bytes ≤ 140737488355328) (hbase : base ≤ w.heap.size)
    (h : ∀ v' w', w'.ownsRow base e size v' (n + m) (xs ++ news) → w.grownBy w' v.ownBlock → K (a.put o.dst v') w') :
    if Region.wanted o (yielded ops a.tmps) = true then Oper.wp P o a w K Q else E := by
  have hw : Region.wanted o (yielded ops a.tmps) = true := by simp [Region.wanted, hg]
  rw [if_pos hw]
  exact wp_append_own w s x t ho base e i z size bytes ht hi hz hsize hby hzs hsz v n xs hs hown ad m c news hx hl hnews h1 h63 hbytes hbase (fun v' w' h2 h3 _ => h v' w' h2 h3)
theorem step_append_str {P : Program} {ops : Array Oper} {o : Oper} {a : Act} {w : World} {K : Act → World → Prop} {Q : Exit → Act → World → Prop} {E : Prop} (hg : o.guard = none) (sl x : Operand) (t u : TypeId)
    (ho : o.op = .call { callee := .builtin .append, args := #[sl, x], argTypes := #[t, u] })
    (base : Nat) (e : TypeId) (i : TypeInfo) (ht : P.underlying t = some (.slice e)) (hu : P.underlying u = some .string) (hi : P.info? e = some i) (hz : i.zero = some (.int .u8 0)) (hsize : i.size = 1) (hby : i.bytes = 1)
    (v : Value) (n : Nat) (xs : List Value) (hs : a.eval sl = v) (hown : w.ownsRow base e 1 v n xs) (s : ByteArray) (hx : a.eval x = .string s)
    (h63 : n + s.size ≤ maxLen) (hbytes : n + s.size ≤ 140737488355328) (hbase : base ≤ w.heap.size)
    (h : ∀ v' w', w'.ownsRow base e 1 v' (n + s.size) (xs ++ Lib.strCells s) → w.grownBy w' v.ownBlock → K (a.put o.dst v') w') :
    if Region.wanted o (yielded ops a.tmps) = true then Oper.wp P o a w K Q else E := by
  rw [if_pos (by simp [Region.wanted, hg])]
  obtain ⟨v', w', hr, h2, h3, h4⟩ := Lib.run_append_own_string (P := P) w base t u o.type e i ht hu hi hz hsize hby v n xs hown s h63 hbytes hbase
  unfold Oper.wp execOp
  simp only [ho, resolve, invoke, builtin, Sem.run_bind, Sem.run_pure, Result.andThen_ok, List.map_toArray, List.map_cons, List.map_nil, hs, hx, hr]
  exact h v' w' h2 h3
theorem ownB_drew_alloc {B : Nat} {w : World} {v : Value} {l : List UInt8} (h : OwnB B w v l) (o : Obj) : OwnB B (w.drew.alloc o) v l := (show OwnB B w.drew v l from h).alloc o
set_option maxRecDepth 100000 in
set_option maxHeartbeats 2000000 in
theorem apnode_any {w0 : World} (hnm : NmAt w0) (hT : Tb w0.heap.size w0) (nd : Nd) {fa : Option Addr} {fc : Nat} (hi : IntsAt w0 fa nd.fs) (hk1 : 1 ≤ nd.k) (hk2 : nd.k ≤ 10) (hf : ∀ f ∈ nd.fs, 0 ≤ f ∧ f ≤ 999) (hn0 : 0 ≤ nd.n) (hn9 : nd.n ≤ 999) (htx : nd.tx.size ≤ 1000) (hfl : nd.fs.length ≤ 4)
    {w1 : World} (hb1 : Below w0.heap.size w0 w1) {v1 : Value} {m1 : List UInt8} (hown1 : OwnB w0.heap.size w1 v1 m1) (hlen : m1.length ≤ 100000000) (R : Ending → World → Prop)
    (HR : Hid (∀ v' w', OwnB w0.heap.size w' v' (m1 ++ (lineB nd ++ [10])) → Below w0.heap.size w0 w' → R (.returned v') w')) :
    Calls Tryz.prog 51 #[v1, ndV nd fa fc] w1 R := by
  obtain ⟨i0, hi0, hz0, hz1, hz2⟩ := info_parts infoByte
  obtain ⟨kk, hkk, hkl, cK⟩ := nm_at (hnm.below hb1) hk1 hk2
  have HHn := fun u => hasN_any nd.k u
  have HHt := fun u => hasT_any nd.k u
  have hS := hb1.size
  have hnl : (nameP nd.k).length ≤ 6 := by rcases kinds hk1 hk2 with h | h | h | h | h | h | h | h | h | h <;> rw [h] <;> decide
  obtain ⟨k, fs, tx, n⟩ := nd
  simp only at *
  subst hkk
  obtain ⟨nm, hnme⟩ : ∃ nm, nameP (kk : Int) = nm := ⟨_, rfl⟩
  rw [hnme] at cK hnl
  have HNm := Lib.hid hnme
  have HI := Lib.hid hi
  have HF := Lib.hid hf
  have HB1 := Lib.hid hb1
  have c0lt : 0 < w1.heap.size := World.block_lt_of_cell? _ _ cK
  have hns : (⟨nm.toArray⟩ : ByteArray).size = nm.length := List.size_toArray
  clear hnme hi hf hnm
  simp only [ndV]
  go_enter Tryz.func51, Tryz.ntmps51
  go_wp2_with (at_builtin; refine Lib.wpList_append_own_string _ rfl _ _ 82 9 rfl w0.heap.size 5 i0 Tryz.underlying82 Tryz.underlying9 hi0 hz0 hz1 hz2 v1 m1.length _ rfl (hown1.alloc _) ⟨nm.toArray⟩ rfl (by unfold maxLen; omega) (by omega) (by simp; omega) ?_)
  intro v2 w2 own' grow _
  have hown2 : OwnB w0.heap.size w2 v2 (m1 ++ nm) := by rw [strCells_bytes] at own'; exact ownB_app own' rfl
  have hb2 : Below w0.heap.size w0 w2 := (hb1.alloc (by omega) _).grown grow (by simp; omega) (fun k hk => (hown1.lt k hk).1)
  have hn1 : Nb (w1.alloc (.cells #[.int .i64 (kk : Int), .slice fa fs.length fc, .string tx, .int .i64 n] 52)) w1.heap.size (kk : Int) (.slice fa fs.length fc) tx n := Array.getElem?_push_size
  have hn2 := hn1.others (others_grow (hown1.alloc _) grow)
  clear own' grow hn1 cK
  obtain ⟨⟨n0, n1, n2, n3⟩, -⟩ := hn2.cells
  have hlt2 := hn2.lt
  go_wp2_with fail
  go_loopw [0, 16] (fun v i wr => ∃ j : Nat, j ≤ fs.length ∧ i = .int .i64 j ∧ OwnB w0.heap.size wr v (m1 ++ nm ++ joinB ((fs.take j).map Lib.itoa)) ∧ Below w0.heap.size w0 wr ∧ Nb wr w1.heap.size (kk : Int) (.slice fa fs.length fc) tx n ∧ (joinB ((fs.take j).map Lib.itoa)).length ≤ j * 22) (fun _ i _ => fs.length - (intOf i).toNat)
  case atStart => exact ⟨0, by omega, rfl, by simpa [joinB] using hown2, hb2, hn2, by simp [joinB]⟩
  case round =>
    clear hn2 hown2 hb2 n0 n1 n2 n3 hlt2
    obtain ⟨j, hj, rfl, hown, hb, hn, hjl⟩ := hrel
    have hBle := hb.size
    by_cases hjm : j < fs.length
    · rcases HI.out with hnil | ⟨b, o, rfl, hcells⟩
      · exfalso; rw [hnil] at hjm; simp at hjm
      have cJ := Keeps.of hb _ _ (hcells j hjm)
      have hr := HF.out fs[j] (List.getElem_mem hjm)
      have hjI : (j : Int) < fs.length := by omega
      have HTk : Hid ((fs.take (j + 1)).map Lib.itoa = (fs.take j).map Lib.itoa ++ [Lib.itoa fs[j]]) := by
        show (fs.take (j + 1)).map Lib.itoa = _
        rw [List.take_succ_eq_append_getElem hjm, List.map_append]; rfl
      have hil := Lib.itoa_length_le fs[j] (by omega) (by omega)
      generalize fs[j] = z at *
      have hll : (m1 ++ nm ++ joinB ((fs.take j).map Lib.itoa)).length ≤ 1000000000 := by rw [List.length_append, List.length_append]; omega
      have HAp := apnum_any z (by omega) (by omega) (hT.on hb) hown hBle hll
      have HB := Lib.hid hb
      have HN := Lib.hid hn
      have HJl := Lib.hid hjl
      clear hown hb hn hll hjl hcells
      go_wp2_with (go_at_call 87; refine HAp.mono ?_; rintro e w3 ⟨v3, rfl, ho3, hb3, hot3⟩)
      refine ⟨⟨j + 1, by omega, by go_num, ?_, HB.out.trans hb3, HN.out.others hot3, ?_⟩, by simp [intOf]; omega⟩
      · rw [HTk.out, join_snoc, ← List.append_assoc]; exact ho3
      · rw [HTk.out, join_snoc, List.length_append, List.length_cons]; have := HJl.out; omega
    · obtain rfl : j = fs.length := by omega
      rw [List.take_of_length_le (Nat.le_refl _)] at hown hjl
      obtain ⟨⟨n0, n1, n2, n3⟩, -⟩ := hn.cells
      have hlt := hn.lt
      have hjI : ¬ ((fs.length : Int) < fs.length) := by omega
      have hll : (m1 ++ nm ++ joinB (fs.map Lib.itoa)).length ≤ 900000000 := by rw [List.length_append, List.length_append]; omega
      obtain ⟨M, hM⟩ : ∃ M, m1 ++ nm ++ joinB (fs.map Lib.itoa) = M := ⟨_, rfl⟩
      rw [hM] at hown hll
      have HM := Lib.hid hM
      have HB := Lib.hid hb
      have HNb := Lib.hid hn
      rename World => wr2
      clear hM hb hn hjl hjm
      rcases hN : hasNP (kk : Int) with _ | _
      · rcases hT2 : hasTP (kk : Int) with _ | _
        · rw [hN] at HHn
          rw [hT2] at HHt
          have HL : Hid (m1 ++ (lineB ⟨(kk : Int), fs, tx, n⟩ ++ [10]) = M ++ [10]) := by
            show _ = _
            rw [← HM.out]; simp [lineB, wordsB, hN, hT2, HNm.out]
          clear hN hT2
          go_wp2_with (first | (go_at_call 88; refine (HHn _).mono ?_; rintro e w' ⟨rfl, rfl⟩) | (go_at_call 89; refine (HHt _).mono ?_; rintro e w' ⟨rfl, rfl⟩) | (at_builtin; refine wpList_append_own _ rfl _ _ 82 rfl w0.heap.size 5 i0 (.int .u8 0) 1 1 Tryz.underlying82 hi0 hz0 hz1 hz2 rfl (by decide) _ _ _ rfl (hown.alloc _) ⟨wr2.heap.size, 0, none⟩ 1 1 [Value.int .u8 10] rfl rfl (by intro j u' hj; match j, hj with | 0, hj => simp at hj; subst hj; simp [Addr.add]) (by intro u' hu'; simp at hu'; subst hu'; rfl) (by unfold maxLen; omega) (by omega) (by simp; omega) ?_))
          intro v5 w5 own5 grow5 _
          have hb5 : Below w0.heap.size w0 w5 := (HB.out.alloc hBle _).grown grow5 (by simp; omega) (fun k hk => (hown.lt k hk).1)
          have hown5 : OwnB w0.heap.size w5 v5 (M ++ [10]) := ownB_snoc own5
          clear own5 grow5
          go_wp2_with fail
          exact HR.out _ _ (by rw [HL.out]; exact hown5) hb5
        · rw [hN] at HHn
          rw [hT2] at HHt
          have HL : Hid (m1 ++ (lineB ⟨(kk : Int), fs, tx, n⟩ ++ [10]) = (M ++ [32] ++ tx.data.toList) ++ [10]) := by
            show _ = _
            rw [← HM.out]; simp [lineB, wordsB, hN, hT2, HNm.out, joinB]
          clear hN hT2
          go_wp2_with (first | (go_at_call 88; refine (HHn _).mono ?_; rintro e w' ⟨rfl, rfl⟩) | (go_at_call 89; refine (HHt _).mono ?_; rintro e w' ⟨rfl, rfl⟩))
          have hnd2 : Nb wr2.drew w1.heap.size (kk : Int) (.slice fa fs.length fc) tx n := HNb.out
          go_region_held3 (fun u => u.cell? ⟨w1.heap.size, 2, none⟩ = some (.string tx)) (first | go_keep | exact hk4 | exact hk3)
            (first
              | (refine step_append_own (by rfl) _ _ 82 (by rfl) w0.heap.size 5 i0 (.int .u8 0) 1 1 Tryz.underlying82 hi0 hz0 hz1 hz2 rfl (by decide) u0 M.length (Lib.byteCells M) (by rfl) (ownB_drew_alloc hown _) ⟨wr2.heap.size, 0, none⟩ 1 1 [Value.int .u8 32] (by rfl) rfl (by intro j u' hj; match j, hj with | 0, hj => simp at hj; subst hj; simp [Addr.add]) (by intro u' hu'; simp at hu'; subst hu'; rfl) (by unfold maxLen; omega) (by omega) (by simp; omega) ?_; intro v3 w3 own' grow; have hb3 : Below w0.heap.size w0 w3 := ((below_drewN HB.out 1).alloc (by show w0.heap.size ≤ wr2.heap.size; omega) _).grown grow (by simp; omega) (fun k hk => (hown.lt k hk).1); have hn3 := (hnd2.alloc _).others (others_grow (ownB_drew_alloc hown _) grow); have hk3 := hn3.cells.1.2.2.1; have hs3 : w0.heap.size ≤ w3.heap.size := hb3.size; have hown3 : OwnB w0.heap.size w3 v3 (M ++ [32]) := ownB_snoc own'; clear own' grow)
              | (refine step_append_str (by rfl) _ _ 82 9 (by rfl) w0.heap.size 5 i0 Tryz.underlying82 Tryz.underlying9 hi0 hz0 hz1 hz2 v3 (M ++ [32]).length (Lib.byteCells (M ++ [32])) (by rfl) hown3 tx (by rfl) (by unfold maxLen; simp; omega) (by simp; omega) (by omega) ?_; intro v4 w4 own4 grow4; have hn4 := hn3.others (others_grow hown3 grow4); have hk4 := hn4.cells.1.2.2.1; have hb4 : Below w0.heap.size w0 w4 := hb3.grown grow4 hs3 (fun k hk => (hown3.lt k hk).1); have hown4 : OwnB w0.heap.size w4 v4 (M ++ [32] ++ tx.data.toList) := ownB_app (r := tx.data.toList) own4 Array.length_toList.symm; clear own4 grow4))
          have hl4 : (M ++ [32] ++ tx.data.toList).length ≤ 999999999 := by
            have e : tx.data.toList.length = tx.size := Array.length_toList
            rw [List.length_append, List.length_append, e]; simp; omega
          have hs4 : w0.heap.size ≤ w4.heap.size := hb4.size
          obtain ⟨M4, hM4⟩ : ∃ M4, M ++ [32] ++ tx.data.toList = M4 := ⟨_, rfl⟩
          rw [hM4] at hown4 hl4
          have HM4 := Lib.hid hM4
          clear hM4
          go_wp2_with (at_builtin; refine wpList_append_own _ rfl _ _ 82 rfl w0.heap.size 5 i0 (.int .u8 0) 1 1 Tryz.underlying82 hi0 hz0 hz1 hz2 rfl (by decide) _ _ _ rfl (hown4.alloc _) ⟨w4.heap.size, 0, none⟩ 1 1 [Value.int .u8 10] rfl rfl (by intro j u' hj; match j, hj with | 0, hj => simp at hj; subst hj; simp [Addr.add]) (by intro u' hu'; simp at hu'; subst hu'; rfl) (by unfold maxLen; omega) (by omega) (by simp; omega) ?_)
          intro v5 w5 own5 grow5 _
          have hb5 : Below w0.heap.size w0 w5 := (hb4.alloc hs4 _).grown grow5 (by simp; omega) (fun k hk => (hown4.lt k hk).1)
          have hown5 : OwnB w0.heap.size w5 v5 (M4 ++ [10]) := ownB_snoc own5
          clear own5 grow5
          go_wp2_with fail
          exact HR.out _ _ (by rw [HL.out, HM4.out]; exact hown5) hb5
      · have hT2 := nt_not hN
        rw [hN] at HHn
        rw [hT2] at HHt
        have HL : Hid (m1 ++ (lineB ⟨(kk : Int), fs, tx, n⟩ ++ [10]) = (M ++ 32 :: Lib.itoa n) ++ [10]) := by
          show _ = _
          rw [← HM.out]; simp [lineB, wordsB, hN, hT2, HNm.out, joinB]
        have hil := Lib.itoa_length_le n (by omega) (by omega)
        clear hN hT2
        have HAp := apnum_any n (by omega) (by omega) (hT.on HB.out) hown hBle (by omega)
        go_wp2_with (first | (go_at_call 88; refine (HHn _).mono ?_; rintro e w' ⟨rfl, rfl⟩) | (go_at_call 89; refine (HHt _).mono ?_; rintro e w' ⟨rfl, rfl⟩) | (go_at_call 87; refine HAp.mono ?_; rintro e w4 ⟨v4, rfl, ho4, hb4, hot4⟩; have hl4 : (M ++ 32 :: Lib.itoa n).length ≤ 999999999 := (by rw [List.length_append, List.length_cons]; omega); have hs4 := hb4.size; have hs4' : w0.heap.size ≤ w4.heap.size := (by omega); have HNb4 := HNb.out.others hot4; obtain ⟨⟨p0, p1, p2, p3⟩, -⟩ := HNb4.cells; have hlt4 := HNb4.lt; obtain ⟨M2, hM2⟩ : ∃ M2, M ++ 32 :: Lib.itoa n = M2 := ⟨_, rfl⟩; rw [hM2] at ho4 hl4; have HM2 := Lib.hid hM2; clear hM2 hot4) | (at_builtin; refine wpList_append_own _ rfl _ _ 82 rfl w0.heap.size 5 i0 (.int .u8 0) 1 1 Tryz.underlying82 hi0 hz0 hz1 hz2 rfl (by decide) _ _ _ rfl (ho4.alloc _) ⟨w4.heap.size, 0, none⟩ 1 1 [Value.int .u8 10] rfl rfl (by intro j u' hj; match j, hj with | 0, hj => simp at hj; subst hj; simp [Addr.add]) (by intro u' hu'; simp at hu'; subst hu'; rfl) (by unfold maxLen; omega) (by omega) (by simp; omega) ?_))
        intro v5 w5 own5 grow5 _
        have hb5 : Below w0.heap.size w0 w5 := ((HB.out.trans hb4).alloc hs4' _).grown grow5 (by simp; omega) (fun k hk => (ho4.lt k hk).1)
        have hown5 : OwnB w0.heap.size w5 v5 (M2 ++ [10]) := ownB_snoc own5
        clear own5 grow5
        go_wp2_with fail
        exact HR.out _ _ (by rw [HL.out, HM2.out]; exact hown5) hb5
end Go.Proofs.YthadeccnibnioaaGreatDoor
