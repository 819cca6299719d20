/- Longest first is nearly best: the law's walk, where the loads are few. -/
import Derived.Test.YtfkeokeedljomaaSu
namespace Go.Proofs.Ytfkeokeedljomaa
open Go.RowKit
set_option linter.unusedVariables false

theorem waP_nn (ld : Nat → Int) (m : Nat) (ks : List Nat) (i : Nat) (hi : i ≤ 8) (h : ∀ x < i, 0 ≤ ld x ∧ ld x ≤ 1000000) (k : Nat) : 0 ≤ (waP ld m ks i).getD k 0 ∧ (waP ld m ks i).getD k 0 ≤ 8000000 := by
  have hb := waP_bd ld m ks 1000000 i h (by omega)
  rw [List.getD_eq_getElem?_getD]
  by_cases hk : k < (waP ld m ks i).length
  · rw [List.getElem?_eq_getElem hk]
    have := hb _ (List.getElem_mem hk)
    simp only [Option.getD_some]; omega
  · rw [List.getElem?_eq_none (by omega)]; simp
theorem mxP_bd {S : List Int} {B : Int} (hB : 0 ≤ B) (h : ∀ y ∈ S, 0 ≤ y ∧ y ≤ B) : 0 ≤ mxP S 0 ∧ mxP S 0 ≤ B := by
  rcases mxP_mem S 0 with e | e
  · rw [e]; omega
  · exact h _ e
theorem kk_any (v : Int) (m : Nat) (hm : 0 < m) (hm2 : m ≤ 16) : ∃ kk : Nat, kk < m ∧ (wrap64 (v.tmod (m : Int) + (m : Int))).tmod (m : Int) = (kk : Int) := by
  have h1 := Int.natAbs_tmod v (m : Int)
  have h2 : v.natAbs % (m : Int).natAbs < m := by rw [Int.natAbs_natCast]; exact Nat.mod_lt _ hm
  have h3 : wrap64 (v.tmod (m : Int) + (m : Int)) = v.tmod (m : Int) + (m : Int) := by unfold wrap64; omega
  rw [h3, Int.tmod_eq_emod_of_nonneg (by omega)]
  have h4 := Int.emod_nonneg (v.tmod (m : Int) + (m : Int)) (b := (m : Int)) (by omega)
  have h5 := Int.emod_lt_of_pos (v.tmod (m : Int) + (m : Int)) (b := (m : Int)) (by omega)
  exact ⟨((v.tmod (m : Int) + (m : Int)) % (m : Int)).toNat, by omega, by omega⟩
theorem wrap_bd (x : Int) : -9223372036854775808 ≤ wrap64 x ∧ wrap64 x ≤ 9223372036854775807 := by unfold wrap64; omega
section
variable (W : World) (a0 : Option Addr) (cap0 : Nat) (L : List Int) (wk way : Int) (a3 : Option Addr) (cap3 : Nat) (l : List ByteArray) (p : Int)
set_option maxRecDepth 100000 in
set_option maxHeartbeats 8000000 in
theorem graham_yes (h : CsAt W a0 (icells L)) (he : erL L wk = 0) (h8 : L.length ≤ 8) (hw : -9223372036854775808 ≤ way ∧ way ≤ 9223372036854775807) (h3 : CsAt W a3 (tcells l)) (hl3 : l.length ≤ 281474976710656) :
    Calls Try.prog 3 #[.slice a0 L.length cap0, .int .i64 wk, .int .i64 way, .slice a3 l.length cap3, .int .i64 p] W fun e w' => e = .returned (.bool true) ∧ Below W.heap.size W w' := by
  have HF := Lib.hid (fact_least W)
  have H := Lib.hid h
  have H3 := Lib.hid h3
  obtain ⟨n, hn⟩ : ∃ n, L.length = n := ⟨_, rfl⟩
  obtain ⟨n3, hn3⟩ : ∃ n, l.length = n := ⟨_, rfl⟩
  rw [hn3] at hl3 ⊢
  have HN := Lib.hid hn
  have HN3 := Lib.hid hn3
  obtain ⟨q1, q2, q3, q4, q5⟩ := erL_ok he
  obtain ⟨m, rfl⟩ : ∃ m : Nat, wk = m := ⟨wk.toNat, by omega⟩
  rw [hn] at h8 ⊢
  have hm0 : 0 < m := by omega
  have hm16 : m ≤ 16 := by omega
  have h8n : ¬ (n : Int) > 8 := by omega
  have HE := Lib.hid (fun (u : World) (hb : Below W.heap.size W u) => least_yes u a0 cap0 n m L (H.out.keep hb) HN.out.symm he)
  have HLD : Hid (∀ x < n, 0 ≤ ldf L x ∧ ldf L x ≤ 1000000) := fun x hx => badL_no q4 x (by omega)
  have HMK := make_i m (by omega)
  clear he q1 q2 q3 q4 q5 h h3 hn hn3
  go_enter Try.func3, Try.ntmps3
  go_wp2_with fail
  refine HF.out.mono ?_
  rintro e u ⟨g, rfl, h1, h2, h3, hb⟩
  have he := HE.out u hb
  have HB := Lib.hid hb
  clear hb
  go_wp2_with fail
  refine he.mono ?_
  rintro e u2 ⟨C, rfl, k1, k2, k3, hb2⟩
  have HB2 := Lib.hid (below_after hb2 HB.out)
  obtain ⟨gw, hgw⟩ : ∃ g, u.heap.size = g := ⟨_, rfl⟩
  rw [hgw] at k3 ⊢
  have HC : Hid (Bk (ldf L) 0 C ∧ C.length = n) := ⟨k1, k2⟩
  have HG : Hid (∀ ks : List Nat, (∀ k ∈ ks, k < m) → ks.length = n → 3 * (m : Int) * mxP (waP (ldf L) m (givs (ldf L) m n C).2 n) 0 ≤ (4 * (m : Int) - 1) * mxP (waP (ldf L) m ks n) 0) := fun ks g1 g2 => graham_fin hm0 k1 k2 (fun x hx => (HLD.out x hx).1) g1 g2
  have hKl := (givs_len (ldf L) m n C).2
  have hKw := givs_who (ldf L) m n hm0 C
  generalize (givs (ldf L) m n C).2 = K at k3 HG hKl hKw
  have HK : Hid (IR u2 gw K ∧ K.length = n ∧ ∀ y ∈ K, y < m) := ⟨k3, hKl, hKw⟩
  have HGW : Hid (gw < u2.heap.size ∨ n = 0) := by
    by_cases h0 : n = 0
    · exact .inr h0
    · obtain ⟨y, hy⟩ := at_lt (l := K) (k := 0) (by omega)
      exact .inl (cell_lt (k3 0 y hy).1)
  clear hb2 k1 k2 k3 he h1 h2 h3 hgw hKl hKw
  go_wp2_with fail
  have HZ0 : Hid (ZR (u2.alloc (.cells (madeCells #[.int .i64 0] m) 3)) u2.heap.size (waP (ldf L) m K 0)) := ZR.made u2 m
  have HF0 : Hid (Below u2.heap.size u2 (u2.alloc (.cells (madeCells #[.int .i64 0] m) 3))) := (Below.refl _ _).alloc (Nat.le_refl _) _
  obtain ⟨sb, hsb⟩ : ∃ s, u2.heap.size = s := ⟨_, rfl⟩
  rw [hsb] at HZ0 HF0 ⊢
  have HSB := Lib.hid hsb
  clear hsb
  generalize u2.alloc (.cells (madeCells #[.int .i64 0] m) 3) = W1 at HZ0 HF0 ⊢
  go_loopw [16] (fun vi wr => ∃ i : Nat, vi = .int .i64 (i : Int) ∧ i ≤ n ∧ Hid (ZR wr sb (waP (ldf L) m K i)) ∧ Hid (Below sb u2 wr)) (fun vi _ => n - (intOf vi).toNat)
  case atStart => exact ⟨0, rfl, by omega, HZ0, HF0⟩
  case round =>
    obtain ⟨i, rfl, hi, hZ, hB⟩ := hrel
    by_cases hlt : i < n
    · have hz : (i : Int) < (n : Int) := by omega
      obtain ⟨k, hk⟩ := at_lt (l := K) (k := i) (by have := HK.out.2.1; omega)
      have hkm := HK.out.2.2 k (List.mem_of_getElem? hk)
      have hbu : Below u2.heap.size u2 wr := by rw [HSB.out]; exact hB.out
      have c1 := (HK.out.1 i k hk).1
      have c1' : wr.cell? ⟨gw, i, none⟩ = some (.int .i64 (k : Int)) := by rw [hbu.cell (p := ⟨gw, i, none⟩) (cell_lt c1)]; exact c1
      obtain ⟨b, o, rfl, c2⟩ := is_at ((H.out.keep HB2.out).keep hbu) i (by have := HN.out; omega)
      rw [← ldf_at L i (by have := HN.out; omega)] at c2
      have hwl := waP_len (ldf L) m K i
      have hS : (waP (ldf L) m K i)[k]? = some ((waP (ldf L) m K i).getD k 0) := by rw [List.getD_eq_getElem?_getD, List.getElem?_eq_getElem (by omega)]; rfl
      obtain ⟨c3, f3⟩ := hZ.out k _ hS
      have hbd := waP_nn (ldf L) m K i (by omega) (fun x hx => HLD.out x (by omega)) k
      have hld := HLD.out i hlt
      have hst : Hid (ZR (wr.setCell ⟨sb, k, none⟩ (.int .i64 ((waP (ldf L) m K i).getD k 0 + ldf L i))) sb (waP (ldf L) m K (i + 1))) := by
        have := hZ.out.set k ((waP (ldf L) m K i).getD k 0 + ldf L i)
        rw [waP_succ]
        unfold addP
        rw [show K.getD i 0 = k from by rw [List.getD_eq_getElem?_getD, hk]; rfl]
        exact this
      have hf : Hid (Below sb u2 (wr.setCell ⟨sb, k, none⟩ (.int .i64 ((waP (ldf L) m K i).getD k 0 + ldf L i)))) := hB.out.setCell (by show sb ≤ sb; omega) _
      have z1 : (k : Int) < (m : Int) := by omega
      have z2 : ¬ (k : Int) < 0 := by omega
      have z3 : ¬ (k : Int) ≥ (m : Int) := by omega
      have z4 : decide ((k : Int) < 0) = false := decide_eq_false z2
      clear hS hk c1 hwl hZ hB hbu
      generalize (waP (ldf L) m K i).getD k 0 = s at *
      generalize ldf L i = x at *
      go_wp2_with fail
      go_region
      all_goals go_wp2
      all_goals exact ⟨⟨i + 1, by go_num, by omega, hst, hf.out.drew⟩, by simp [intOf]; omega⟩
    · have hz : ¬ (i : Int) < (n : Int) := by omega
      obtain rfl : i = n := by omega
      have hSl := waP_len (ldf L) m K i
      have hSb := waP_bd (ldf L) m K 1000000 i (fun x hx => HLD.out x hx) (by omega)
      have hSb2 : Hid (∀ y ∈ waP (ldf L) m K i, 0 ≤ y ∧ y ≤ 8000000) := fun y hy => by have := hSb y hy; omega
      have HW0 := Lib.hid (waP_len (ldf L) m [] 0)
      clear HZ0 HF0 hSb hlt HE
      generalize waP (ldf L) m K i = S at hZ HG hSl hSb2
      have HSL := Lib.hid hSl
      clear hSl
      go_wp2_with fail
      go_loop [17, 18] (fun vm vj => ∃ j : Nat, vj = .int .i64 (j : Int) ∧ j ≤ m ∧ vm = .int .i64 (mxP (S.take j) 0)) (fun _ vj => m - (intOf vj).toNat)
      case atStart => exact ⟨0, rfl, by omega, rfl⟩
      case round =>
        obtain ⟨j, rfl, hj, rfl⟩ := hrel
        by_cases hlt : j < m
        · have hz2 : (j : Int) < (m : Int) := by omega
          obtain ⟨y, hy⟩ := at_lt (l := S) (k := j) (by have := HSL.out; omega)
          obtain ⟨c1, -⟩ := hZ.out j y hy
          have hsn : mxP (S.take (j + 1)) 0 = if y > mxP (S.take j) 0 then y else mxP (S.take j) 0 := by
            obtain ⟨g1, rfl⟩ := List.getElem?_eq_some_iff.1 hy
            rw [List.take_succ_eq_append_getElem g1, mxP_snoc]
          generalize mxP (S.take j) 0 = z at *
          by_cases hyz : y > z
          · rw [if_pos hyz] at hsn
            have HS := Lib.hid hsn
            clear hsn hy
            go_wp2_with fail
            exact ⟨⟨j + 1, by go_num, by omega, by rw [HS.out]⟩, by simp [intOf]; omega⟩
          · rw [if_neg hyz] at hsn
            have HS := Lib.hid hsn
            clear hsn hy
            go_wp2_with fail
            exact ⟨⟨j + 1, by go_num, by omega, by rw [HS.out]⟩, by simp [intOf]; omega⟩
        · have hz2 : ¬ (j : Int) < (m : Int) := by omega
          have ht : S.take j = S := List.take_of_length_le (by have := HSL.out; omega)
          rw [ht]
          obtain ⟨most, hmost⟩ : ∃ z, mxP S 0 = z := ⟨_, rfl⟩
          rw [hmost] at HG ⊢
          have hmb := mxP_bd (B := 8000000) (by omega) hSb2.out
          rw [hmost] at hmb
          clear ht hmost hlt
          go_wp2_with fail
          have HZ1 : Hid (ZR (wr.alloc (.cells (madeCells #[.int .i64 0] m) 3)) wr.heap.size (waP (ldf L) m [] 0)) := ZR.made wr m
          have HF1 : Hid (Below wr.heap.size wr (wr.alloc (.cells (madeCells #[.int .i64 0] m) 3))) := (Below.refl _ _).alloc (Nat.le_refl _) _
          obtain ⟨ob, hob⟩ : ∃ s, wr.heap.size = s := ⟨_, rfl⟩
          rw [hob] at HZ1 HF1 ⊢
          have HOB := Lib.hid hob
          have HBA : Hid (Below sb u2 wr) := hB
          clear hob hB
          generalize wr.alloc (.cells (madeCells #[.int .i64 0] m) 3) = W2 at HZ1 HF1 ⊢
          go_loopw [2, 20] (fun vw vi wz => ∃ (k : Nat) (v : Int) (ks : List Nat), vi = .int .i64 (k : Int) ∧ vw = .int .i64 v ∧ k ≤ i ∧ -9223372036854775808 ≤ v ∧ v ≤ 9223372036854775807 ∧ Hid (ks.length = k ∧ (∀ y ∈ ks, y < m) ∧ ZR wz ob (waP (ldf L) m ks k)) ∧ Hid (Below ob wr wz)) (fun _ vi _ => i - (intOf vi).toNat)
          case atStart => exact ⟨0, way, [], rfl, rfl, by omega, hw.1, hw.2, ⟨rfl, by simp, HZ1.out⟩, HF1⟩
          case round =>
            rename World => wz
            obtain ⟨k, v, ks, rfl, rfl, hk, hv1, hv2, hZ3, hB3⟩ := hrel
            by_cases hlt3 : k < i
            · have hz3 : (k : Int) < (i : Int) := by omega
              obtain ⟨kk, hkk, ekk⟩ := kk_any v m hm0 hm16
              have hwl := waP_len (ldf L) m ks k
              have hS : (waP (ldf L) m ks k)[kk]? = some ((waP (ldf L) m ks k).getD kk 0) := by rw [List.getD_eq_getElem?_getD, List.getElem?_eq_getElem (by omega)]; rfl
              obtain ⟨c3, f3⟩ := hZ3.out.2.2 kk _ hS
              have hbz : Below u2.heap.size u2 wz := by
                have h1 := HBA.out.size
                have h2 := HOB.out
                rw [HSB.out]
                exact HBA.out.trans (hB3.out.mono (by rw [← HOB.out]; have := HSB.out; omega))
              obtain ⟨b, o, rfl, c2⟩ := is_at ((H.out.keep HB2.out).keep hbz) k (by have := HN.out; omega)
              rw [← ldf_at L k (by have := HN.out; omega)] at c2
              have hbd := waP_nn (ldf L) m ks k (by omega) (fun x hx => HLD.out x (by omega)) kk
              have hld := HLD.out k hlt3
              have hst : Hid ((ks ++ [kk]).length = k + 1 ∧ (∀ y ∈ ks ++ [kk], y < m) ∧ ZR (wz.setCell ⟨ob, kk, none⟩ (.int .i64 ((waP (ldf L) m ks k).getD kk 0 + ldf L k))) ob (waP (ldf L) m (ks ++ [kk]) (k + 1))) := by
                refine ⟨by rw [List.length_append, hZ3.out.1]; rfl, fun y hy => ?_, ?_⟩
                · rcases List.mem_append.1 hy with hy | hy
                  · exact hZ3.out.2.1 y hy
                  · simp at hy; omega
                · have := hZ3.out.2.2.set kk ((waP (ldf L) m ks k).getD kk 0 + ldf L k)
                  rw [waP_succ, waP_more _ _ _ _ _ (by rw [hZ3.out.1]; exact Nat.le_refl _)]
                  unfold addP
                  have e : (ks ++ [kk]).getD k 0 = kk := by
                    rw [List.getD_eq_getElem?_getD, List.getElem?_append_right (by rw [hZ3.out.1]; exact Nat.le_refl _), hZ3.out.1, Nat.sub_self]; rfl
                  rw [e]
                  exact this
              have hf : Hid (Below ob wr (wz.setCell ⟨ob, kk, none⟩ (.int .i64 ((waP (ldf L) m ks k).getD kk 0 + ldf L k)))) := hB3.out.setCell (by show ob ≤ ob; omega) _
              have z1 : (kk : Int) < (m : Int) := by omega
              obtain ⟨v2, hv⟩ : ∃ v2, v2 = wrap64 (v.tdiv (m : Int) + (k : Int)) := ⟨_, rfl⟩
              have hvb := wrap_bd (v.tdiv (m : Int) + (k : Int))
              rw [← hv] at hvb
              have HV := Lib.hid hv
              clear hS hwl hZ3 hB3 hbz hv
              generalize (waP (ldf L) m ks k).getD kk 0 = s at *
              generalize ldf L k = x at *
              go_wp2_with fail
              rw [← HV.out]
              clear HV
              go_region
              all_goals go_wp2
              all_goals exact ⟨⟨k + 1, v2, ks ++ [kk], by go_num, rfl, by omega, hvb.1, hvb.2, hst, hf.out.drew⟩, by simp [intOf]; omega⟩
            · have hz3 : ¬ (k : Int) < (i : Int) := by omega
              obtain rfl : k = i := by omega
              have hg := HG.out ks hZ3.out.2.1 hZ3.out.1
              have hOl := waP_len (ldf L) m ks k
              have hOb := waP_bd (ldf L) m ks 1000000 k (fun x hx => HLD.out x hx) (by omega)
              have hOb2 : Hid (∀ y ∈ waP (ldf L) m ks k, 0 ≤ y ∧ y ≤ 8000000) := fun y hy => by have := hOb y hy; omega
              have hZ4 := hZ3.out.2.2
              clear hOb HG hZ3 HZ1 HF1 HW0 hlt3
              generalize waP (ldf L) m ks k = O at hg hOl hOb2 hZ4
              have HOL := Lib.hid hOl
              have HGG := Lib.hid hg
              have HZ4 := Lib.hid hZ4
              have HBZ : Hid (Below W.heap.size W wz) := by
                have h1 := HBA.out.size
                have h2 := HB2.out.size
                have h3 := HOB.out
                have h4 := HSB.out
                have hbz : Below u2.heap.size u2 wz := by
                  rw [h4]
                  exact HBA.out.trans (hB3.out.mono (by omega))
                exact below_after hbz HB2.out
              clear hOl hg hZ4 hB3 hZ
              go_wp2_with fail
              go_loop [22, 23] (fun vm vj => ∃ j : Nat, vj = .int .i64 (j : Int) ∧ j ≤ m ∧ vm = .int .i64 (mxP (O.take j) 0)) (fun _ vj => m - (intOf vj).toNat)
              case atStart => exact ⟨0, rfl, by omega, rfl⟩
              case round =>
                obtain ⟨j2, rfl, hj2, rfl⟩ := hrel
                by_cases hlt4 : j2 < m
                · have hz4 : (j2 : Int) < (m : Int) := by omega
                  obtain ⟨y, hy⟩ := at_lt (l := O) (k := j2) (by have := HOL.out; omega)
                  obtain ⟨c1, -⟩ := HZ4.out j2 y hy
                  have hsn : mxP (O.take (j2 + 1)) 0 = if y > mxP (O.take j2) 0 then y else mxP (O.take j2) 0 := by
                    obtain ⟨g1, rfl⟩ := List.getElem?_eq_some_iff.1 hy
                    rw [List.take_succ_eq_append_getElem g1, mxP_snoc]
                  generalize mxP (O.take j2) 0 = z at *
                  by_cases hyz : y > z
                  · rw [if_pos hyz] at hsn
                    have HS := Lib.hid hsn
                    clear hsn hy
                    go_wp2_with fail
                    exact ⟨⟨j2 + 1, by go_num, by omega, by rw [HS.out]⟩, by simp [intOf]; omega⟩
                  · rw [if_neg hyz] at hsn
                    have HS := Lib.hid hsn
                    clear hsn hy
                    go_wp2_with fail
                    exact ⟨⟨j2 + 1, by go_num, by omega, by rw [HS.out]⟩, by simp [intOf]; omega⟩
                · have hz4 : ¬ (j2 : Int) < (m : Int) := by omega
                  have ht : O.take j2 = O := List.take_of_length_le (by have := HOL.out; omega)
                  rw [ht]
                  have hbb := mxP_bd (B := 8000000) (by omega) hOb2.out
                  obtain ⟨best, hbest⟩ : ∃ z, mxP O 0 = z := ⟨_, rfl⟩
                  rw [hbest] at HGG hbb ⊢
                  clear ht hbest hlt4
                  have hX : 0 ≤ 3 * (m : Int) * most ∧ 3 * (m : Int) * most ≤ 48 * 8000000 := ⟨Int.mul_nonneg (by omega) hmb.1, Int.mul_le_mul (by omega) hmb.2 hmb.1 (by omega)⟩
                  have hY : 0 ≤ (4 * (m : Int) - 1) * best ∧ (4 * (m : Int) - 1) * best ≤ 63 * 8000000 := ⟨Int.mul_nonneg (by omega) hbb.1, Int.mul_le_mul (by omega) hbb.2 hbb.1 (by omega)⟩
                  have hgg := HGG.out
                  have g7 : ¬ wrap64 (3 * (m : Int) * most) > wrap64 ((4 * (m : Int) - 1) * best) := by
                    generalize 3 * (m : Int) * most = X at *
                    generalize (4 * (m : Int) - 1) * best = Y at *
                    unfold wrap64; omega
                  clear hX hY hgg HGG hmb hbb
                  by_cases hep : erC n3 p = 0
                  · obtain ⟨y1, y2, y3⟩ := erC_ok hep
                    obtain ⟨q, rfl⟩ : ∃ q : Nat, p = q := ⟨p.toNat, by omega⟩
                    have hq0 : 0 < q := by omega
                    have hq16 : q ≤ 16 := by omega
                    have he3 := even_yes wz a3 cap3 n3 q l (H3.out.keep HBZ.out) HN3.out.symm hep
                    have HA3 := Lib.hid (fun (u : World) (hb : Below W.heap.size W u) => again_yes _ (some ⟨u.heap.size, 0, none⟩) 1 1 q [⟨a3, cap3, l⟩] (one_tls (H3.out.keep hb)) rfl (by omega) (by rw [allT_one]; simp only; rw [HN3.out]; exact hep))
                    rw [allT_one] at HA3
                    simp only at HA3
                    rw [HN3.out] at HA3
                    clear hep y1 y2
                    go_wp2_with fail
                    refine he3.mono ?_
                    rintro e w5 ⟨va, rfl, hR5⟩
                    obtain ⟨B5, rfl, hb5, hat5⟩ := hR5.at_
                    rw [rowsP_len]
                    have HB5 := Lib.hid (below_after hb5 HBZ.out)
                    have HAT5 := Lib.hid hat5
                    clear he3 hR5 hb5 hat5
                    have ha3 := HA3.out w5 HB5.out
                    go_wp2_with fail
                    refine ha3.mono ?_
                    rintro e w6 ⟨vb, rfl, hR6⟩
                    have hb5a : Below w5.heap.size w5 (w5.alloc (.cells #[.slice a3 n3 cap3] 23)) := (Below.refl _ _).alloc (Nat.le_refl _) _
                    obtain ⟨B6, rfl, hb6, hat6⟩ := (hR6.up hb5a).at_
                    rw [rowsP_len]
                    have HB56 := Lib.hid hb6
                    have HB6 := Lib.hid (below_after hb6 HB5.out)
                    have HAT6 := Lib.hid hat6
                    obtain ⟨T, hT1, hT2⟩ := tls_of (fun j r hr => by
                      obtain ⟨A, c, h1, h2⟩ := HAT5.out j r hr
                      exact ⟨A, c, by rw [HB56.out.cell (p := ⟨B5, j, none⟩) (cell_lt h1)]; exact h1, h2.keep HB56.out⟩ : ∀ (j : Nat) (r : List ByteArray), (rowsP q l)[j]? = some r → ∃ A c, w6.cell? ⟨B5, j, none⟩ = some (.slice A r.length c) ∧ CsAt w6 A (tcells r))
                    have hTl : T.length = q := by rw [← rowsP_len q l, ← hT1, List.length_map]
                    have hTa : (allT T).length = n3 := by unfold allT; rw [hT1, rows_flat q hq0, HN3.out]
                    have hev := every_yes w6 (some ⟨B5, 0, none⟩) q q 1 T hT2 hTl.symm (by omega) (by rw [hTa]; unfold erC; rw [if_neg (by omega), if_neg (by omega)])
                    have hev := Lib.hid hev
                    have HTA := Lib.hid hTa
                    clear ha3 hR6 hb5a hb6 hat6 hT1 hT2 hTl hTa
                    go_wp2_with fail
                    refine hev.out.mono ?_
                    rintro e w7 ⟨vc, rfl, hR7⟩
                    obtain ⟨B7, rfl, hb7, hat7⟩ := hR7.at_
                    rw [evP_len]
                    obtain ⟨A7, c7, d7, -⟩ := hat7 0 _ (evP_at 1 (allT T) 1 0 (by omega))
                    rw [if_pos (by omega), HTA.out] at d7
                    have HB57 := Lib.hid (below_after hb7 HB56.out)
                    have HB7 := Lib.hid (below_after hb7 HB6.out)
                    have HB67 := Lib.hid hb7
                    clear hev hR7 hb7 hat7
                    go_wp2_with fail
                    go_loopw [30] (fun vi wr => ∃ j : Nat, vi = .int .i64 (j : Int) ∧ j ≤ q ∧ Hid (∃ x, wr = w7.drewN x)) (fun vi _ => q - (intOf vi).toNat)
                    case atStart => exact ⟨0, rfl, by omega, ⟨0, rfl⟩⟩
                    case round =>
                      obtain ⟨j3, rfl, hj3, ⟨x0, hx0⟩⟩ := hrel
                      by_cases hlt5 : j3 < q
                      · have hz5 : (j3 : Int) < (q : Int) := by omega
                        obtain ⟨A1, c1, e1, e2⟩ := HAT5.out j3 _ (rowsP_at q l j3 hlt5)
                        obtain ⟨A2, c2, e3, e4⟩ := HAT6.out j3 _ (rowsP_at q l j3 hlt5)
                        have hrl := rowP_le q hq0 j3 hlt5 l
                        have hnl := HN3.out
                        have hfr : ∀ x, Below w7.heap.size w7 (w7.drewN x) := fun x => ⟨rfl, rfl, rfl, Nat.le_refl _, fun _ _ => rfl⟩
                        have f1 : w7.cell? ⟨B5, j3, none⟩ = some (.slice A1 (rowP q l j3).length c1) := by rw [HB57.out.cell (p := ⟨B5, j3, none⟩) (cell_lt e1)]; exact e1
                        have f2 : w7.cell? ⟨B6, j3, none⟩ = some (.slice A2 (rowP q l j3).length c2) := by rw [HB67.out.cell (p := ⟨B6, j3, none⟩) (cell_lt e3)]; exact e3
                        have f3 := e2.keep HB57.out
                        have f4 := e4.keep HB67.out
                        have htx : ∀ x y, Calls Try.prog 9 #[.slice A1 (rowP q l j3).length c1, .slice A2 (rowP q l j3).length c2] ((w7.drewN x).drewN y) fun e w' => e = .returned (.bool true) ∧ ∃ z, w' = ((w7.drewN x).drewN y).drewN z := fun x y => texts_yes _ A1 A2 c1 c2 _ (rowP q l j3) ((f3.keep (hfr x)).keep ⟨rfl, rfl, rfl, Nat.le_refl _, fun _ _ => rfl⟩) ((f4.keep (hfr x)).keep ⟨rfl, rfl, rfl, Nat.le_refl _, fun _ _ => rfl⟩) rfl (by omega)
                        have htx := htx x0
                        rw [← hx0] at htx
                        have f1' : wr.cell? ⟨B5, j3, none⟩ = some (.slice A1 (rowP q l j3).length c1) := by rw [hx0]; exact f1
                        have f2' : wr.cell? ⟨B6, j3, none⟩ = some (.slice A2 (rowP q l j3).length c2) := by rw [hx0]; exact f2
                        have HX0 := Lib.hid hx0
                        clear f1 f2 f3 f4 e1 e2 e3 e4 hfr hrl hnl hx0
                        generalize (rowP q l j3).length = r at *
                        go_wp2_with fail
                        go_quiet (first | (go_at_call 9; exact Calls.quiet_of (htx _)))
                        go_wp2_with fail
                        exact ⟨⟨j3 + 1, by go_num, by omega, ⟨x0 + nq, by rw [HX0.out, World.drewN_drewN]⟩⟩, by simp [intOf]; omega⟩
                      · have hz5 : ¬ (j3 : Int) < (q : Int) := by omega
                        go_wp2_with fail
                        go_ret
                        exact ⟨rfl, HB7.out.trans ⟨rfl, rfl, rfl, Nat.le_refl _, fun _ _ => rfl⟩⟩
                  · have HE3 := Lib.hid (fun (u : World) (hb : Below W.heap.size W u) => even_no u a3 cap3 n3 p l (H3.out.keep hb) HN3.out.symm (by omega) hep)
                    obtain ⟨tv, htv⟩ := errV_ne hep
                    rw [htv] at HE3
                    have he3 := HE3.out wz HBZ.out
                    clear hep htv
                    go_wp2_with fail
                    refine he3.mono ?_
                    rintro e w9 ⟨rfl, hb9⟩
                    have HB9 := Lib.hid (below_after hb9 HBZ.out)
                    clear hb9 he3
                    go_wp2_with fail
                    go_ret
                    exact ⟨rfl, HB9.out⟩
end
end Go.Proofs.Ytfkeokeedljomaa
