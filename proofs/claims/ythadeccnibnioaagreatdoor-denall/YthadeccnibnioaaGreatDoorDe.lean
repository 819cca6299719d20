/- The document's Lines: the walk. -/
import Derived.Test.YthadeccnibnioaaGreatDoorDz1
import Derived.Test.YthadeccnibnioaaGreatDoorDb0
import Derived.Sort.Walk0
import Derived.Laws.Cover1
import Derived.Deep.RegionLaw
namespace Go.Proofs.YthadeccnibnioaaGreatDoor
open Go.RowKit
set_option linter.unusedVariables false
theorem step_append_runD {P : Program} {ops : Array Oper} {o : Oper} {a : Act} {w : World} {K : Act → World → Prop} {Q : Exit → Act → World → Prop} {E : Prop} (hg : o.guard = none) (s x : Operand) (t : TypeId)
    (hop : o.op = .call { callee := .builtin .append, args := #[s, x], argTypes := #[t, t] }) (T : TypeId) (hT : o.type = T) (v1 v2 r : Value) (w0 w' : World) (hw0 : w = w0) (hs : a.eval s = v1) (hx : a.eval x = v2) (hrun : (Builtin.append_ #[t, t] T #[v1, v2]).run P w0 = .ok r w') (h : K (a.put o.dst r) w') :
    if Region.wanted o (yielded ops a.tmps) = true then Oper.wp P o a w K Q else E := by
  subst hT hw0
  have hw : Region.wanted o (yielded ops a.tmps) = true := by simp [Region.wanted, hg]
  rw [if_pos hw]
  unfold Oper.wp execOp
  simp only [hop, resolve, invoke, builtin, Sem.run_bind, Sem.run_pure, Result.andThen_ok, List.map_toArray, List.map_cons, List.map_nil, hs, hx, hrun]
  exact h
theorem less_klt (a b : ByteArray) : Op.bytesLess a.toList b.toList = klt a b := by
  rw [bytesLess_eq, Lib.toList_data, Lib.toList_data]
  unfold klt kle
  by_cases h : a.data.toList < b.data.toList
  · have : ¬ b.data.toList ≤ a.data.toList := fun h' => absurd h (List.not_lt.2 h')
    simp [h, this]
  · have : b.data.toList ≤ a.data.toList := List.not_lt.1 h
    simp [h, this]
theorem str_neL {a b : ByteArray} (h : a ≠ b) : (a.toList == b.toList) = false := by
  rw [beq_eq_false_iff_ne]
  intro e
  rw [ByteArray.toList_eq, ByteArray.toList_eq] at e
  exact h (Go.WideShapes.bytes_inj e)
theorem str_eqL (a : ByteArray) : (a.toList == a.toList) = true := by simp
set_option maxRecDepth 100000 in
set_option maxHeartbeats 8000000 in
theorem dlines_any {w : World} {la : Option Addr} {L : List Rc} {c : Nat} (hL : RcsAt w la L) (hl : L.length ≤ 2000) :
    Calls Tryz.prog 59 #[.slice la L.length c] w fun e w' => ∃ A cc tv, e = .returned (.slice A (docLines L).length cc) ∧ LnO w' w.heap.size (.slice A (docLines L).length cc) tv (docLines L) ∧ Below w.heap.size w w' := by
  have HL := Lib.hid hL
  clear hL
  go_enter Tryz.func59, Tryz.ntmps59
  go_wp2_with fail
  go_loopw [3, 4] (fun v3 v4 wr => ∃ (i : Nat) (ls : List Ln) (A : Option Addr) (cc : Nat), i ≤ L.length ∧ v4 = .int .i64 i ∧ v3 = .slice A ls.length cc ∧ ls.length ≤ i ∧ Hid (ls = docLines (L.take i) ∧ (∀ l ∈ ls, l.2.length ≤ i) ∧ (∃ tv, LnO wr w.heap.size (.slice A ls.length cc) tv ls) ∧ Below w.heap.size w wr)) (fun _ v4 _ => L.length - (intOf v4).toNat)
  case atStart => exact ⟨0, [], none, 0, by omega, rfl, rfl, by simp, Lib.hid ⟨by simp [docLines], by simp, ⟨[], ln_nil _ _⟩, Below.refl _ _⟩⟩
  case round =>
    obtain ⟨i, ls, A, cc, hi, rfl, rfl, hli, hX⟩ := hrel
    rename World => wr
    by_cases hlt : i < L.length
    · have hii : (i : Int) < (L.length : Int) := by omega
      obtain ⟨rb, ro, rfl, r0, r1, r2⟩ := rc_at HL.out i hlt
      have rlt := World.block_lt_of_cell? _ _ r0
      have HRC := Lib.hid (fun (u : World) (hu : Below w.heap.size w u) => (show u.cell? ⟨rb, ro + i * 3, none⟩ = some (.string L[i].key) ∧ u.cell? ⟨rb, ro + i * 3 + 1, none⟩ = some (.int .i64 L[i].num) from ⟨by rw [hu.cell (p := ⟨rb, ro + i * 3, none⟩) rlt]; exact r0, by rw [hu.cell (p := ⟨rb, ro + i * 3 + 1, none⟩) rlt]; exact r1⟩))
      have hnx : docLines (L.take (i + 1)) = lnAdd L[i] ls := by rw [List.take_succ_eq_append_getElem hlt, docLines_snoc, ← hX.out.1]
      have HNX := Lib.hid hnx
      generalize L[i] = r at *
      obtain ⟨rk, rn, rt⟩ := r
      simp only at HRC
      clear hnx r0 r1 r2 rlt
      have hcl := ltC_le rk ls
      go_wp2_with fail
      go_loopw [5] (fun v5 wk => ∃ k : Nat, k ≤ ltC rk ls ∧ v5 = .int .i64 k ∧ Hid (Below wr.heap.size wr wk)) (fun v5 _ => ls.length - (intOf v5).toNat)
      case atStart => exact ⟨0, by omega, rfl, Lib.hid (Below.refl _ _)⟩
      case round =>
        obtain ⟨k, hk, rfl, hbk⟩ := hrel
        rename World => wk
        obtain ⟨tv, hln0⟩ := hX.out.2.2.1
        have hln := hln0.keep hbk.out
        have hwk : Below w.heap.size w wk := hX.out.2.2.2.trans (hbk.out.mono hX.out.2.2.2.size)
        obtain ⟨x0, x1⟩ := HRC.out wk hwk
        by_cases hkl : k < ltC rk ls
        · obtain ⟨hkn, hless⟩ := ltC_lt hkl
          have hki : (k : Int) < (ls.length : Int) := by omega
          obtain ⟨g, o, An, cn, cur, rfl, -, y0, y1, -⟩ := hln.at hkn
          rw [← less_klt] at hless
          generalize ls[k].1 = q at *
          clear hln hln0 hwk
          go_wp2_with fail
          go_quiet (fail)
          go_wp2_with fail
          exact ⟨⟨k + 1, by omega, by go_num, Lib.hid ⟨hbk.out.os, hbk.out.tape, hbk.out.output, hbk.out.size, hbk.out.block⟩⟩, by simp [intOf]; omega⟩
        · obtain rfl : k = ltC rk ls := by omega
          have hle := hln.row
          have htl := fa_len hln.tr
          have hIA : ∀ (u : World), Below wk.heap.size wk u → LnO u w.heap.size (.slice A ls.length cc) tv ls ∧ Below w.heap.size w u := fun u hu => ⟨hln.keep hu, hwk.trans (hu.mono hwk.size)⟩
          have HIA := Lib.hid hIA
          have HLE := Lib.hid hX.out.2.1
          clear hIA hle hX hln0 hbk
          by_cases hold : ∃ h : ltC rk ls < ls.length, ls[ltC rk ls].1 = rk
          · skip
            obtain ⟨hp, hkey⟩ := hold
            have hnl : lnAdd ⟨rk, rn, rt⟩ ls = ls.set (ltC rk ls) (rk, ls[ltC rk ls].2 ++ [rn]) := lnAdd_old ⟨rk, rn, rt⟩ ls hp hkey
            have hnl2 := HLE.out _ (List.getElem_mem hp)
            obtain ⟨g, o, An, cn, cur, rfl, hblk, y0, y1, -⟩ := hln.at hp
            rw [hkey] at y0
            have hpi : (ltC rk ls : Int) < (ls.length : Int) := by omega
            have hpne : ¬ (ltC rk ls : Int) = (ls.length : Int) := by omega
            have hpb : ((ltC rk ls : Int) == (ls.length : Int)) = false := by simp; omega
            have q1 : Op.bytesLess rk.toList rk.toList = false := by rw [less_klt]; exact klt_irrefl rk
            have q2 := str_eqL rk
            have HNL := Lib.hid (show docLines (L.take (i + 1)) = ls.set (ltC rk ls) (ls[ltC rk ls].1, ls[ltC rk ls].2 ++ [rn]) from by rw [HNX.out, hnl, hkey])
            have HNUM := Lib.hid (fun (u : World) (hu : Below wk.heap.size wk u) => (show ∃ A1 c1 w1, (Builtin.append_ #[41, 41] 41 #[.slice An ls[ltC rk ls].2.length cn, .slice (some ⟨u.heap.size, 0, none⟩) 1 1]).run Tryz.prog ((u.alloc (.cells #[.int .i64 rn] 3)).drew) = .ok (.slice A1 (ls[ltC rk ls].2.length + 1) c1) w1 ∧ w1.heap[g]? = u.heap[g]? ∧ (∃ tv', tv'.length = tv.length ∧ LnO (w1.setCell ⟨g, o + ltC rk ls * 2 + 1, none⟩ (.slice A1 (ls[ltC rk ls].2.length + 1) c1)) w.heap.size (.slice (some ⟨g, o, none⟩) tv.length cc) tv' (ls.set (ltC rk ls) (ls[ltC rk ls].1, ls[ltC rk ls].2 ++ [rn]))) ∧ Below w.heap.size u (w1.setCell ⟨g, o + ltC rk ls * 2 + 1, none⟩ (.slice A1 (ls[ltC rk ls].2.length + 1) c1)) from by
              obtain ⟨h1, h2⟩ := HIA.out u hu
              refine ln_num (by rw [htl]; exact h1) h2.size hp (by omega) rn ?_
              rw [hu.cell (p := ⟨g, o + ltC rk ls * 2 + 1, none⟩) (World.block_lt_of_cell? _ _ y1)]; exact y1))
            have HSN := Lib.hid (show ∀ l ∈ ls.set (ltC rk ls) (ls[ltC rk ls].1, ls[ltC rk ls].2 ++ [rn]), l.2.length ≤ i + 1 from fun l hl => by
              rcases List.mem_or_eq_of_mem_set hl with h | h
              · have := HLE.out l h; omega
              · subst h; simp; omega)
            generalize hpp : ltC rk ls = p at *
            generalize hll : ls[p].2.length = m at *
            have HPQ := Lib.hid (And.intro hpp (And.intro hll htl))
            clear hnl hkey hln HNX hcl hpp hll htl
            go_wp2_with fail
            go_quiet (fail)
            have hba : Below wk.heap.size wk (wk.drewN nq) := ⟨rfl, rfl, rfl, Nat.le_refl _, fun _ _ => rfl⟩
            have x0a : (wk.drewN nq).cell? ⟨rb, ro + i * 3, none⟩ = some (.string rk) := x0
            have x1a : (wk.drewN nq).cell? ⟨rb, ro + i * 3 + 1, none⟩ = some (.int .i64 rn) := x1
            have y0a : (wk.drewN nq).cell? ⟨g, o + p * 2, none⟩ = some (.string rk) := y0
            have y1a : (wk.drewN nq).cell? ⟨g, o + p * 2 + 1, none⟩ = some (.slice An m cn) := y1
            have za : (wk.drewN nq).heap[g]? = some (.cells cur 168 (0, 0)) := hblk
            generalize wk.drewN nq = wq at *
            go_wp2_with fail
            go_quiet (fail)
            have hbb : Below wq.heap.size wq (wq.drewN nq) := ⟨rfl, rfl, rfl, Nat.le_refl _, fun _ _ => rfl⟩
            have x0b : (wq.drewN nq).cell? ⟨rb, ro + i * 3, none⟩ = some (.string rk) := x0a
            have x1b : (wq.drewN nq).cell? ⟨rb, ro + i * 3 + 1, none⟩ = some (.int .i64 rn) := x1a
            have y0b : (wq.drewN nq).cell? ⟨g, o + p * 2, none⟩ = some (.string rk) := y0a
            have y1b : (wq.drewN nq).cell? ⟨g, o + p * 2 + 1, none⟩ = some (.slice An m cn) := y1a
            have zb : (wq.drewN nq).heap[g]? = some (.cells cur 168 (0, 0)) := za
            generalize wq.drewN nq = wp at *
            have hwp : Below wk.heap.size wk wp := hba.trans (hbb.mono hba.size)
            obtain ⟨A1, c1, w1, hrun, hg1, ⟨tv', htv, hl1⟩, hb1⟩ := HNUM.out wp hwp
            have hz1 := hg1.trans zb
            have s0 : w1.cell? ⟨g, o + p * 2 + 1, none⟩ = some (.slice An m cn) := by rw [← y1b]; simp only [World.cell?, hg1]
            have s1 : w1.frozen? ⟨g, o + p * 2 + 1, none⟩ = false := by simp [World.frozen?, hz1]
            have hgl : g < wp.heap.size := (Array.getElem?_eq_some_iff.1 zb).1
            have HR := Lib.hid hrun
            have HE := Lib.hid (show (ls.set p (ls[p].1, ls[p].2 ++ [rn])) = docLines (L.take (i + 1)) ∧ (∀ l ∈ ls.set p (ls[p].1, ls[p].2 ++ [rn]), l.2.length ≤ i + 1) ∧ (∃ tv, LnO (w1.setCell ⟨g, o + p * 2 + 1, none⟩ (.slice A1 (m + 1) c1)) w.heap.size (.slice (some ⟨g, o, none⟩) (ls.set p (ls[p].1, ls[p].2 ++ [rn])).length cc) tv (ls.set p (ls[p].1, ls[p].2 ++ [rn]))) ∧ Below w.heap.size w (w1.setCell ⟨g, o + p * 2 + 1, none⟩ (.slice A1 (m + 1) c1)) from ⟨HNL.out.symm, HSN.out, ⟨tv', by rw [List.length_set, ← HPQ.out.2.2]; exact hl1⟩, (HIA.out wp hwp).2.trans hb1⟩)
            clear hrun hg1 hl1 hb1 hz1 HNUM HNL HSN HIA hwp
            go_wp2_with fail
            go_region_law (refine step_append_runD (by rfl) _ _ 41 (by rfl) 41 (by rfl) (.slice An m cn) (.slice (some ⟨wp.heap.size, 0, none⟩) 1 1) (.slice A1 (m + 1) c1) ((wp.alloc (.cells #[.int .i64 rn] 3)).drew) w1 (by rfl) (by rfl) (by rfl) HR.out ?_)
            all_goals
              go_wp2_with fail
              exact ⟨⟨i + 1, ls.set p (ls[p].1, ls[p].2 ++ [rn]), some ⟨g, o, none⟩, cc, by omega, by go_num, by rw [List.length_set], by rw [List.length_set]; omega, HE⟩, by simp [intOf]; omega⟩
          · skip
            have hnl : lnAdd ⟨rk, rn, rt⟩ ls = (insL (ltC rk ls) rk ls).set (ltC rk ls) (rk, [rn]) := lnAdd_new ⟨rk, rn, rt⟩ ls (fun h e => hold ⟨h, e⟩)
            have HNL := Lib.hid (show docLines (L.take (i + 1)) = (insL (ltC rk ls) rk ls).set (ltC rk ls) (rk, [rn]) from by rw [HNX.out, hnl])
            have HAT := Lib.hid (insL_at (ltC rk ls) rk ls hcl)
            have HCM := Lib.hid (show ∀ h : ltC rk ls < ls.length, Op.bytesLess ls[ltC rk ls].1.toList rk.toList = false ∧ (ls[ltC rk ls].1.toList == rk.toList) = false from fun h => ⟨by rw [less_klt]; exact ltC_at h, str_neL (fun e => hold ⟨h, e⟩)⟩)
            have hil : (insL (ltC rk ls) rk ls).length = ls.length + 1 := by simp [insL]; omega
            have HIL := Lib.hid hil
            have HSN := Lib.hid (show ∀ l ∈ (insL (ltC rk ls) rk ls).set (ltC rk ls) (rk, [rn]), l.2.length ≤ i + 1 from fun l hl => by
              rcases List.mem_or_eq_of_mem_set hl with h | h
              · unfold insL at h
                rcases List.mem_append.1 h with h | h
                · have := HLE.out l (List.mem_of_mem_take h); omega
                · rcases List.mem_cons.1 h with h | h
                  · subst h; simp
                  · have := HLE.out l (List.mem_of_mem_drop h); omega
              · subst h; simp)
            have hrow := hln.row
            have HROW := Lib.hid hrow
            obtain ⟨A0, c0, he0, hle0, hcm0⟩ := hrow.slice
            simp only [Value.slice.injEq] at he0
            obtain ⟨hA0, -, hc00⟩ := he0
            subst hA0 hc00
            have hone := hln.one
            have HONE := Lib.hid hone
            clear hone hil hnl hold hrow HNX
            generalize hpp : ltC rk ls = p at *
            have HPQ := Lib.hid (And.intro hpp htl)
            clear hpp
            by_cases hpl : p < ls.length
            · obtain ⟨g, o, An, cn, cur, hAe, -, y0, -, -⟩ := hln.at hpl
              subst hAe
              obtain ⟨hq1, hq2⟩ := HCM.out hpl
              have hpi : (p : Int) < (ls.length : Int) := by omega
              have hpb : ((p : Int) == (ls.length : Int)) = false := by simp; omega
              have hx3 : ∀ u', Below wk.heap.size wk u' → Src Tryz.prog 2 110 (.slice (some ⟨g, o + p * 2, none⟩) (ls.length - p) (cc - p)) (tv.drop p).length (lcells (tv.drop p)) u' := fun u' hu' => by
                have h := ln_drop (HROW.out.keep hu') HONE.out (p := p) (by omega)
                rw [if_neg (by omega)] at h
                exact h
              have HX3 := Lib.hid hx3
              have hcp : ¬ cc = p := by omega
              generalize ls[p].1 = kq at *
              clear hx3 hln HCM
              go_wp2_with fail
              go_quiet (fail)
              have hba : Below wk.heap.size wk (wk.drewN nq) := ⟨rfl, rfl, rfl, Nat.le_refl _, fun _ _ => rfl⟩
              have x0a : (wk.drewN nq).cell? ⟨rb, ro + i * 3, none⟩ = some (.string rk) := x0
              have x1a : (wk.drewN nq).cell? ⟨rb, ro + i * 3 + 1, none⟩ = some (.int .i64 rn) := x1
              have y0a : (wk.drewN nq).cell? ⟨g, o + p * 2, none⟩ = some (.string kq) := y0
              generalize wk.drewN nq = wq at *
              go_wp2_with fail
              go_quiet (fail)
              have hbb : Below wq.heap.size wq (wq.drewN nq) := ⟨rfl, rfl, rfl, Nat.le_refl _, fun _ _ => rfl⟩
              have x0b : (wq.drewN nq).cell? ⟨rb, ro + i * 3, none⟩ = some (.string rk) := x0a
              have x1b : (wq.drewN nq).cell? ⟨rb, ro + i * 3 + 1, none⟩ = some (.int .i64 rn) := x1a
              generalize wq.drewN nq = wp at *
              have hwp : Below wk.heap.size wk wp := hba.trans (hbb.mono hba.size)
              clear hba hbb x0 x1 x0a x1a y0 y0a hq1 hq2
              obtain ⟨hLw, hBw⟩ := HIA.out wp hwp
              obtain ⟨B1, d1, w1, B2, d2, w2, B3, d3, w3, r1, r2, r3, hL3, b1, b2, b3⟩ := ln_ins (by rw [HPQ.out.2]; exact hLw) hBw.size rk (p := p) (by have := HPQ.out.2; omega) (by have := HPQ.out.2; omega) (x3 := (.slice (some ⟨g, o + p * 2, none⟩) (ls.length - p) (cc - p))) (fun u' hu' => HX3.out u' (hwp.trans (hu'.mono hwp.size)))
              rw [HPQ.out.2] at r3 hL3
              have HR1 := Lib.hid r1
              have HR2 := Lib.hid r2
              have x0c : w1.cell? ⟨rb, ro + i * 3, none⟩ = some (.string rk) := (b1.cell (p := ⟨rb, ro + i * 3, none⟩) (World.block_lt_of_cell? _ _ x0b)).trans x0b
              have x1c : w3.cell? ⟨rb, ro + i * 3 + 1, none⟩ = some (.int .i64 rn) := (b3.cell (p := ⟨rb, ro + i * 3 + 1, none⟩) (World.block_lt_of_cell? _ _ x1b)).trans x1b
              obtain ⟨hp3, he3⟩ := HAT.out
              obtain ⟨g3, o3, An, cn, cur, hA3, hblk, y0, y1, -⟩ := hL3.at hp3
              subst hA3
              have HR3 := Lib.hid r3
              have HW3 := Lib.hid (hBw.trans (b3.mono hBw.size))
              generalize tv.take p ++ (rk, Value.slice none 0 0) :: tv.drop p = tv3 at hL3
              have htl3 : tv3.length = ls.length + 1 := (fa_len hL3.tr).trans HIL.out
              have hL3' : LnO w3 w.heap.size (.slice (some ⟨g3, o3, none⟩) tv3.length d3) tv3 (insL p rk ls) := by rw [htl3]; exact hL3
              obtain ⟨A9, c9, w9, hrun, hg9, ⟨tv', htv, hl9⟩, hb9⟩ := ln_num hL3' HW3.out.size hp3 (by rw [he3]; simp) rn y1
              simp only [he3, List.length_nil, List.nil_append, Nat.zero_add] at hrun hl9 hb9 y1
              have hz1 := hg9.trans hblk
              have s0 : w9.cell? ⟨g3, o3 + p * 2 + 1, none⟩ = some (.slice An 0 cn) := by rw [← y1]; simp only [World.cell?, hg9]
              have s1 : w9.frozen? ⟨g3, o3 + p * 2 + 1, none⟩ = false := by simp [World.frozen?, hz1]
              have hgl : g3 < w3.heap.size := (Array.getElem?_eq_some_iff.1 hblk).1
              have HR := Lib.hid hrun
              have HE := Lib.hid (show (insL p rk ls).set p (rk, [rn]) = docLines (L.take (i + 1)) ∧ (∀ l ∈ (insL p rk ls).set p (rk, [rn]), l.2.length ≤ i + 1) ∧ (∃ tv, LnO (w9.setCell ⟨g3, o3 + p * 2 + 1, none⟩ (.slice A9 1 c9)) w.heap.size (.slice (some ⟨g3, o3, none⟩) ((insL p rk ls).set p (rk, [rn])).length d3) tv ((insL p rk ls).set p (rk, [rn]))) ∧ Below w.heap.size w (w9.setCell ⟨g3, o3 + p * 2 + 1, none⟩ (.slice A9 1 c9)) from ⟨HNL.out.symm, HSN.out, ⟨tv', by rw [htl3] at hl9; rw [List.length_set, HIL.out]; exact hl9⟩, HW3.out.trans hb9⟩)
              have HL4 := Lib.hid (show ((insL p rk ls).set p (rk, [rn])).length = ls.length + 1 from by rw [List.length_set]; exact HIL.out)
              have HTV := Lib.hid (show tv.length = ls.length from HPQ.out.2)
              have t1 : (0 : Int) ≤ ((p : Nat) : Int) := by omega
              have t2 : ((p : Nat) : Int) ≤ ((cc : Nat) : Int) := by have := HTV.out; omega
              have t3 : ((p : Nat) : Int) ≤ (ls.length : Int) := by omega
              have t4 : ((p : Nat) : Int) < (ls.length : Int) + 1 := by omega
              clear r1 r2 r3 hrun hg9 hl9 hb9 hz1 hL3 hL3' hLw hBw b1 b2 b3 HIA HNL HSN HIL HAT HX3 HPQ htl3 htv hp3 he3 x0b x1b htl hwp HROW HONE hle0 y0
              go_wp2_with (at_builtin; refine wpList_append_run (by rfl) _ _ 110 (by rfl) (.slice none 0 0) (.slice (some ⟨g, o, none⟩) p cc) (.slice B1 p d1) w1 (by rfl) (by rfl) (by exact HR1.out) ?_; refine Hid.out ?_)
              refine Lib.hid ?_
              go_wp2_with (at_builtin; refine wpList_append_run (by rfl) _ _ 110 (by rfl) (.slice B1 p d1) (.slice (some ⟨w1.heap.size, 0, none⟩) 1 1) (.slice B2 (p + 1) d2) w2 (by rfl) (by rfl) (by exact HR2.out) ?_; refine Hid.out ?_)
              refine Lib.hid ?_
              go_wp2_with (at_builtin; refine wpList_append_run (by rfl) _ _ 110 (by rfl) (.slice B2 (p + 1) d2) ((.slice (some ⟨g, o + p * 2, none⟩) (ls.length - p) (cc - p))) (.slice (some ⟨g3, o3, none⟩) (ls.length + 1) d3) w3 (by rfl) (by rfl) (by exact HR3.out) ?_; refine Hid.out ?_)
              refine Lib.hid ?_
              go_wp2_with fail
              go_region_law (refine step_append_runD (by rfl) _ _ 41 (by rfl) 41 (by rfl) (.slice An 0 cn) (.slice (some ⟨w3.heap.size, 0, none⟩) 1 1) (.slice A9 1 c9) ((w3.alloc (.cells #[.int .i64 rn] 3)).drew) w9 (by rfl) (by rfl) (by rfl) HR.out ?_)
              all_goals
                go_wp2_with fail
                exact ⟨⟨i + 1, (insL p rk ls).set p (rk, [rn]), some ⟨g3, o3, none⟩, d3, by omega, by go_num, by rw [HL4.out], by rw [HL4.out]; omega, HE⟩, by simp [intOf]; omega⟩
            · have hpe : p = ls.length := by omega
              have hpi : ¬ (p : Int) < (ls.length : Int) := by omega
              have hpb : ((p : Int) == (ls.length : Int)) = true := by simp; omega
              have hx3 : ∀ (X : Option Addr) (cX : Nat) (u' : World), Src Tryz.prog 2 110 (.slice X 0 cX) (tv.drop p).length (lcells (tv.drop p)) u' := fun X cX u' => by
                have hd : tv.drop p = [] := List.drop_of_length_le (by omega)
                rw [hd]
                cases X with
                | none => exact Src.ofNil u' Tryz.underlying110 cX
                | some a => exact Src.ofSlice u' Tryz.underlying110 a 0 cX [] (by simp) (fun j x hx => by simp at hx) (fun u hu => by simp at hu)
              have HX3 := Lib.hid hx3
              clear hx3 hln HCM hpl
              go_wp2_with fail
              go_quiet (fail)
              have hba : Below wk.heap.size wk (wk.drewN nq) := ⟨rfl, rfl, rfl, Nat.le_refl _, fun _ _ => rfl⟩
              have x0a : (wk.drewN nq).cell? ⟨rb, ro + i * 3, none⟩ = some (.string rk) := x0
              have x1a : (wk.drewN nq).cell? ⟨rb, ro + i * 3 + 1, none⟩ = some (.int .i64 rn) := x1
              generalize wk.drewN nq = wq at *
              go_wp2_with fail
              go_quiet (fail)
              have hbb : Below wq.heap.size wq (wq.drewN nq) := ⟨rfl, rfl, rfl, Nat.le_refl _, fun _ _ => rfl⟩
              have x0b : (wq.drewN nq).cell? ⟨rb, ro + i * 3, none⟩ = some (.string rk) := x0a
              have x1b : (wq.drewN nq).cell? ⟨rb, ro + i * 3 + 1, none⟩ = some (.int .i64 rn) := x1a
              generalize wq.drewN nq = wp at *
              have hwp : Below wk.heap.size wk wp := hba.trans (hbb.mono hba.size)
              clear hba hbb x0 x1 x0a x1a
              subst hpe
              cases A with
              | none =>
                have hcc0 : cc = 0 := by
                  rcases HROW.out.2 with ⟨h0, h1⟩ | ⟨g, o, cap, cur, hv, _⟩
                  · simp at h0; omega
                  · cases hv
                subst hcc0
                obtain rfl : ls = [] := List.length_eq_zero_iff.1 (by have := HPQ.out.2; omega)
                simp only [List.length_nil] at *
                obtain ⟨hLw, hBw⟩ := HIA.out wp hwp
                obtain ⟨B1, d1, w1, B2, d2, w2, B3, d3, w3, r1, r2, r3, hL3, b1, b2, b3⟩ := ln_ins (by rw [HPQ.out.2]; exact hLw) hBw.size rk (p := 0) (by have := HPQ.out.2; omega) (by have := HPQ.out.2; omega) (x3 := (.slice none 0 0)) (fun u' hu' => HX3.out _ _ u')
                rw [HPQ.out.2] at r3 hL3
                have HR1 := Lib.hid r1
                have HR2 := Lib.hid r2
                have x0c : w1.cell? ⟨rb, ro + i * 3, none⟩ = some (.string rk) := (b1.cell (p := ⟨rb, ro + i * 3, none⟩) (World.block_lt_of_cell? _ _ x0b)).trans x0b
                have x1c : w3.cell? ⟨rb, ro + i * 3 + 1, none⟩ = some (.int .i64 rn) := (b3.cell (p := ⟨rb, ro + i * 3 + 1, none⟩) (World.block_lt_of_cell? _ _ x1b)).trans x1b
                obtain ⟨hp3, he3⟩ := HAT.out
                obtain ⟨g3, o3, An, cn, cur, hA3, hblk, y0, y1, -⟩ := hL3.at hp3
                subst hA3
                have HR3 := Lib.hid r3
                have HW3 := Lib.hid (hBw.trans (b3.mono hBw.size))
                generalize tv.take 0 ++ (rk, Value.slice none 0 0) :: tv.drop 0 = tv3 at hL3
                have htl3 : tv3.length = 1 := (fa_len hL3.tr).trans HIL.out
                have hL3' : LnO w3 w.heap.size (.slice (some ⟨g3, o3, none⟩) tv3.length d3) tv3 (insL 0 rk ([] : List Ln)) := by rw [htl3]; exact hL3
                obtain ⟨A9, c9, w9, hrun, hg9, ⟨tv', htv, hl9⟩, hb9⟩ := ln_num hL3' HW3.out.size hp3 (by rw [he3]; simp) rn y1
                simp only [he3, List.length_nil, List.nil_append, Nat.zero_add] at hrun hl9 hb9 y1
                have hz1 := hg9.trans hblk
                have s0 : w9.cell? ⟨g3, o3 + 0 * 2 + 1, none⟩ = some (.slice An 0 cn) := by rw [← y1]; simp only [World.cell?, hg9]
                have s1 : w9.frozen? ⟨g3, o3 + 0 * 2 + 1, none⟩ = false := by simp [World.frozen?, hz1]
                have hgl : g3 < w3.heap.size := (Array.getElem?_eq_some_iff.1 hblk).1
                have HR := Lib.hid hrun
                have HE := Lib.hid (show (insL 0 rk ([] : List Ln)).set 0 (rk, [rn]) = docLines (L.take (i + 1)) ∧ (∀ l ∈ (insL 0 rk ([] : List Ln)).set 0 (rk, [rn]), l.2.length ≤ i + 1) ∧ (∃ tv, LnO (w9.setCell ⟨g3, o3 + 0 * 2 + 1, none⟩ (.slice A9 1 c9)) w.heap.size (.slice (some ⟨g3, o3, none⟩) ((insL 0 rk ([] : List Ln)).set 0 (rk, [rn])).length d3) tv ((insL 0 rk ([] : List Ln)).set 0 (rk, [rn]))) ∧ Below w.heap.size w (w9.setCell ⟨g3, o3 + 0 * 2 + 1, none⟩ (.slice A9 1 c9)) from ⟨HNL.out.symm, HSN.out, ⟨tv', by rw [htl3] at hl9; rw [List.length_set, HIL.out]; exact hl9⟩, HW3.out.trans hb9⟩)
                have HL4 := Lib.hid (show ((insL 0 rk ([] : List Ln)).set 0 (rk, [rn])).length = 1 from by rw [List.length_set]; exact HIL.out)
                have HTV := Lib.hid (show tv.length = 0 from HPQ.out.2)
                have t1 : (0 : Int) ≤ ((0 : Nat) : Int) := by omega
                have t2 : ((0 : Nat) : Int) ≤ ((0 : Nat) : Int) := by have := HTV.out; omega
                have t3 : ((0 : Nat) : Int) ≤ (0 : Int) := by omega
                have t4 : ((0 : Nat) : Int) < (0 : Int) + 1 := by omega
                clear r1 r2 r3 hrun hg9 hl9 hb9 hz1 hL3 hL3' hLw hBw b1 b2 b3 HIA HNL HSN HIL HAT HX3 HPQ htl3 htv hp3 he3 x0b x1b htl hwp HROW HONE hle0 y0
                go_wp2_with (at_builtin; refine wpList_append_run (by rfl) _ _ 110 (by rfl) (.slice none 0 0) (.slice none 0 0) (.slice B1 0 d1) w1 (by rfl) (by rfl) (by exact HR1.out) ?_; refine Hid.out ?_)
                refine Lib.hid ?_
                go_wp2_with (at_builtin; refine wpList_append_run (by rfl) _ _ 110 (by rfl) (.slice B1 0 d1) (.slice (some ⟨w1.heap.size, 0, none⟩) 1 1) (.slice B2 (0 + 1) d2) w2 (by rfl) (by rfl) (by exact HR2.out) ?_; refine Hid.out ?_)
                refine Lib.hid ?_
                go_wp2_with (at_builtin; refine wpList_append_run (by rfl) _ _ 110 (by rfl) (.slice B2 (0 + 1) d2) ((.slice none 0 0)) (.slice (some ⟨g3, o3, none⟩) (1) d3) w3 (by rfl) (by rfl) (by exact HR3.out) ?_; refine Hid.out ?_)
                refine Lib.hid ?_
                go_wp2_with fail
                go_region_law (refine step_append_runD (by rfl) _ _ 41 (by rfl) 41 (by rfl) (.slice An 0 cn) (.slice (some ⟨w3.heap.size, 0, none⟩) 1 1) (.slice A9 1 c9) ((w3.alloc (.cells #[.int .i64 rn] 3)).drew) w9 (by rfl) (by rfl) (by rfl) HR.out ?_)
                all_goals
                  go_wp2_with fail
                  exact ⟨⟨i + 1, (insL 0 rk ([] : List Ln)).set 0 (rk, [rn]), some ⟨g3, o3, none⟩, d3, by omega, by go_num, by rw [HL4.out], by rw [HL4.out]; omega, HE⟩, by simp [intOf]; omega⟩
              | some ad =>
                by_cases hcl0 : cc = ls.length
                · subst hcl0
                  obtain ⟨hLw, hBw⟩ := HIA.out wp hwp
                  obtain ⟨B1, d1, w1, B2, d2, w2, B3, d3, w3, r1, r2, r3, hL3, b1, b2, b3⟩ := ln_ins (by rw [HPQ.out.2]; exact hLw) hBw.size rk (p := ls.length) (by have := HPQ.out.2; omega) (by have := HPQ.out.2; omega) (x3 := (.slice (some ad) 0 0)) (fun u' hu' => HX3.out _ _ u')
                  rw [HPQ.out.2] at r3 hL3
                  have HR1 := Lib.hid r1
                  have HR2 := Lib.hid r2
                  have x0c : w1.cell? ⟨rb, ro + i * 3, none⟩ = some (.string rk) := (b1.cell (p := ⟨rb, ro + i * 3, none⟩) (World.block_lt_of_cell? _ _ x0b)).trans x0b
                  have x1c : w3.cell? ⟨rb, ro + i * 3 + 1, none⟩ = some (.int .i64 rn) := (b3.cell (p := ⟨rb, ro + i * 3 + 1, none⟩) (World.block_lt_of_cell? _ _ x1b)).trans x1b
                  obtain ⟨hp3, he3⟩ := HAT.out
                  obtain ⟨g3, o3, An, cn, cur, hA3, hblk, y0, y1, -⟩ := hL3.at hp3
                  subst hA3
                  have HR3 := Lib.hid r3
                  have HW3 := Lib.hid (hBw.trans (b3.mono hBw.size))
                  generalize tv.take ls.length ++ (rk, Value.slice none 0 0) :: tv.drop ls.length = tv3 at hL3
                  have htl3 : tv3.length = ls.length + 1 := (fa_len hL3.tr).trans HIL.out
                  have hL3' : LnO w3 w.heap.size (.slice (some ⟨g3, o3, none⟩) tv3.length d3) tv3 (insL ls.length rk ls) := by rw [htl3]; exact hL3
                  obtain ⟨A9, c9, w9, hrun, hg9, ⟨tv', htv, hl9⟩, hb9⟩ := ln_num hL3' HW3.out.size hp3 (by rw [he3]; simp) rn y1
                  simp only [he3, List.length_nil, List.nil_append, Nat.zero_add] at hrun hl9 hb9 y1
                  have hz1 := hg9.trans hblk
                  have s0 : w9.cell? ⟨g3, o3 + ls.length * 2 + 1, none⟩ = some (.slice An 0 cn) := by rw [← y1]; simp only [World.cell?, hg9]
                  have s1 : w9.frozen? ⟨g3, o3 + ls.length * 2 + 1, none⟩ = false := by simp [World.frozen?, hz1]
                  have hgl : g3 < w3.heap.size := (Array.getElem?_eq_some_iff.1 hblk).1
                  have HR := Lib.hid hrun
                  have HE := Lib.hid (show (insL ls.length rk ls).set ls.length (rk, [rn]) = docLines (L.take (i + 1)) ∧ (∀ l ∈ (insL ls.length rk ls).set ls.length (rk, [rn]), l.2.length ≤ i + 1) ∧ (∃ tv, LnO (w9.setCell ⟨g3, o3 + ls.length * 2 + 1, none⟩ (.slice A9 1 c9)) w.heap.size (.slice (some ⟨g3, o3, none⟩) ((insL ls.length rk ls).set ls.length (rk, [rn])).length d3) tv ((insL ls.length rk ls).set ls.length (rk, [rn]))) ∧ Below w.heap.size w (w9.setCell ⟨g3, o3 + ls.length * 2 + 1, none⟩ (.slice A9 1 c9)) from ⟨HNL.out.symm, HSN.out, ⟨tv', by rw [htl3] at hl9; rw [List.length_set, HIL.out]; exact hl9⟩, HW3.out.trans hb9⟩)
                  have HL4 := Lib.hid (show ((insL ls.length rk ls).set ls.length (rk, [rn])).length = ls.length + 1 from by rw [List.length_set]; exact HIL.out)
                  have HTV := Lib.hid (show tv.length = ls.length from HPQ.out.2)
                  have t1 : (0 : Int) ≤ ((ls.length : Nat) : Int) := by omega
                  have t2 : ((ls.length : Nat) : Int) ≤ ((ls.length : Nat) : Int) := by have := HTV.out; omega
                  have t3 : ((ls.length : Nat) : Int) ≤ (ls.length : Int) := by omega
                  have t4 : ((ls.length : Nat) : Int) < (ls.length : Int) + 1 := by omega
                  clear r1 r2 r3 hrun hg9 hl9 hb9 hz1 hL3 hL3' hLw hBw b1 b2 b3 HIA HNL HSN HIL HAT HX3 HPQ htl3 htv hp3 he3 x0b x1b htl hwp HROW HONE hle0 y0
                  go_wp2_with (at_builtin; refine wpList_append_run (by rfl) _ _ 110 (by rfl) (.slice none 0 0) (.slice (some ad) ls.length ls.length) (.slice B1 ls.length d1) w1 (by rfl) (by rfl) (by exact HR1.out) ?_; refine Hid.out ?_)
                  refine Lib.hid ?_
                  go_wp2_with (at_builtin; refine wpList_append_run (by rfl) _ _ 110 (by rfl) (.slice B1 ls.length d1) (.slice (some ⟨w1.heap.size, 0, none⟩) 1 1) (.slice B2 (ls.length + 1) d2) w2 (by rfl) (by rfl) (by exact HR2.out) ?_; refine Hid.out ?_)
                  refine Lib.hid ?_
                  go_wp2_with (at_builtin; refine wpList_append_run (by rfl) _ _ 110 (by rfl) (.slice B2 (ls.length + 1) d2) ((.slice (some ad) 0 0)) (.slice (some ⟨g3, o3, none⟩) (ls.length + 1) d3) w3 (by rfl) (by rfl) (by exact HR3.out) ?_; refine Hid.out ?_)
                  refine Lib.hid ?_
                  go_wp2_with fail
                  go_region_law (refine step_append_runD (by rfl) _ _ 41 (by rfl) 41 (by rfl) (.slice An 0 cn) (.slice (some ⟨w3.heap.size, 0, none⟩) 1 1) (.slice A9 1 c9) ((w3.alloc (.cells #[.int .i64 rn] 3)).drew) w9 (by rfl) (by rfl) (by rfl) HR.out ?_)
                  all_goals
                    go_wp2_with fail
                    exact ⟨⟨i + 1, (insL ls.length rk ls).set ls.length (rk, [rn]), some ⟨g3, o3, none⟩, d3, by omega, by go_num, by rw [HL4.out], by rw [HL4.out]; omega, HE⟩, by simp [intOf]; omega⟩
                · skip
                  obtain ⟨hLw, hBw⟩ := HIA.out wp hwp
                  obtain ⟨B1, d1, w1, B2, d2, w2, B3, d3, w3, r1, r2, r3, hL3, b1, b2, b3⟩ := ln_ins (by rw [HPQ.out.2]; exact hLw) hBw.size rk (p := ls.length) (by have := HPQ.out.2; omega) (by have := HPQ.out.2; omega) (x3 := (.slice (some (ad.add (ls.length * 2))) 0 (cc - ls.length))) (fun u' hu' => HX3.out _ _ u')
                  rw [HPQ.out.2] at r3 hL3
                  have HR1 := Lib.hid r1
                  have HR2 := Lib.hid r2
                  have x0c : w1.cell? ⟨rb, ro + i * 3, none⟩ = some (.string rk) := (b1.cell (p := ⟨rb, ro + i * 3, none⟩) (World.block_lt_of_cell? _ _ x0b)).trans x0b
                  have x1c : w3.cell? ⟨rb, ro + i * 3 + 1, none⟩ = some (.int .i64 rn) := (b3.cell (p := ⟨rb, ro + i * 3 + 1, none⟩) (World.block_lt_of_cell? _ _ x1b)).trans x1b
                  obtain ⟨hp3, he3⟩ := HAT.out
                  obtain ⟨g3, o3, An, cn, cur, hA3, hblk, y0, y1, -⟩ := hL3.at hp3
                  subst hA3
                  have HR3 := Lib.hid r3
                  have HW3 := Lib.hid (hBw.trans (b3.mono hBw.size))
                  generalize tv.take ls.length ++ (rk, Value.slice none 0 0) :: tv.drop ls.length = tv3 at hL3
                  have htl3 : tv3.length = ls.length + 1 := (fa_len hL3.tr).trans HIL.out
                  have hL3' : LnO w3 w.heap.size (.slice (some ⟨g3, o3, none⟩) tv3.length d3) tv3 (insL ls.length rk ls) := by rw [htl3]; exact hL3
                  obtain ⟨A9, c9, w9, hrun, hg9, ⟨tv', htv, hl9⟩, hb9⟩ := ln_num hL3' HW3.out.size hp3 (by rw [he3]; simp) rn y1
                  simp only [he3, List.length_nil, List.nil_append, Nat.zero_add] at hrun hl9 hb9 y1
                  have hz1 := hg9.trans hblk
                  have s0 : w9.cell? ⟨g3, o3 + ls.length * 2 + 1, none⟩ = some (.slice An 0 cn) := by rw [← y1]; simp only [World.cell?, hg9]
                  have s1 : w9.frozen? ⟨g3, o3 + ls.length * 2 + 1, none⟩ = false := by simp [World.frozen?, hz1]
                  have hgl : g3 < w3.heap.size := (Array.getElem?_eq_some_iff.1 hblk).1
                  have HR := Lib.hid hrun
                  have HE := Lib.hid (show (insL ls.length rk ls).set ls.length (rk, [rn]) = docLines (L.take (i + 1)) ∧ (∀ l ∈ (insL ls.length rk ls).set ls.length (rk, [rn]), l.2.length ≤ i + 1) ∧ (∃ tv, LnO (w9.setCell ⟨g3, o3 + ls.length * 2 + 1, none⟩ (.slice A9 1 c9)) w.heap.size (.slice (some ⟨g3, o3, none⟩) ((insL ls.length rk ls).set ls.length (rk, [rn])).length d3) tv ((insL ls.length rk ls).set ls.length (rk, [rn]))) ∧ Below w.heap.size w (w9.setCell ⟨g3, o3 + ls.length * 2 + 1, none⟩ (.slice A9 1 c9)) from ⟨HNL.out.symm, HSN.out, ⟨tv', by rw [htl3] at hl9; rw [List.length_set, HIL.out]; exact hl9⟩, HW3.out.trans hb9⟩)
                  have HL4 := Lib.hid (show ((insL ls.length rk ls).set ls.length (rk, [rn])).length = ls.length + 1 from by rw [List.length_set]; exact HIL.out)
                  have HTV := Lib.hid (show tv.length = ls.length from HPQ.out.2)
                  have t1 : (0 : Int) ≤ ((ls.length : Nat) : Int) := by omega
                  have t2 : ((ls.length : Nat) : Int) ≤ ((cc : Nat) : Int) := by have := HTV.out; omega
                  have t3 : ((ls.length : Nat) : Int) ≤ (ls.length : Int) := by omega
                  have t4 : ((ls.length : Nat) : Int) < (ls.length : Int) + 1 := by omega
                  clear r1 r2 r3 hrun hg9 hl9 hb9 hz1 hL3 hL3' hLw hBw b1 b2 b3 HIA HNL HSN HIL HAT HX3 HPQ htl3 htv hp3 he3 x0b x1b htl hwp HROW HONE hle0 y0
                  go_wp2_with (at_builtin; refine wpList_append_run (by rfl) _ _ 110 (by rfl) (.slice none 0 0) (.slice (some ad) ls.length cc) (.slice B1 ls.length d1) w1 (by rfl) (by rfl) (by exact HR1.out) ?_; refine Hid.out ?_)
                  refine Lib.hid ?_
                  go_wp2_with (at_builtin; refine wpList_append_run (by rfl) _ _ 110 (by rfl) (.slice B1 ls.length d1) (.slice (some ⟨w1.heap.size, 0, none⟩) 1 1) (.slice B2 (ls.length + 1) d2) w2 (by rfl) (by rfl) (by exact HR2.out) ?_; refine Hid.out ?_)
                  refine Lib.hid ?_
                  go_wp2_with (at_builtin; refine wpList_append_run (by rfl) _ _ 110 (by rfl) (.slice B2 (ls.length + 1) d2) ((.slice (some (ad.add (ls.length * 2))) 0 (cc - ls.length))) (.slice (some ⟨g3, o3, none⟩) (ls.length + 1) d3) w3 (by rfl) (by rfl) (by exact HR3.out) ?_; refine Hid.out ?_)
                  refine Lib.hid ?_
                  go_wp2_with fail
                  go_region_law (refine step_append_runD (by rfl) _ _ 41 (by rfl) 41 (by rfl) (.slice An 0 cn) (.slice (some ⟨w3.heap.size, 0, none⟩) 1 1) (.slice A9 1 c9) ((w3.alloc (.cells #[.int .i64 rn] 3)).drew) w9 (by rfl) (by rfl) (by rfl) HR.out ?_)
                  all_goals
                    go_wp2_with fail
                    exact ⟨⟨i + 1, (insL ls.length rk ls).set ls.length (rk, [rn]), some ⟨g3, o3, none⟩, d3, by omega, by go_num, by rw [HL4.out], by rw [HL4.out]; omega, HE⟩, by simp [intOf]; omega⟩
    · have hii : ¬ (i : Int) < (L.length : Int) := by omega
      obtain ⟨h1, -, ⟨tv, h2⟩, h3⟩ := hX.out
      rw [List.take_of_length_le (by omega)] at h1
      have HQ := Lib.hid (show ∃ A' cc' tv', Ending.returned (.slice A ls.length cc) = .returned (.slice A' (docLines L).length cc') ∧ LnO wr w.heap.size (.slice A' (docLines L).length cc') tv' (docLines L) ∧ Below w.heap.size w wr from ⟨A, cc, tv, by rw [h1], by rw [← h1]; exact h2, h3⟩)
      clear h1 h2 h3 hX
      go_wp2_with fail
      go_ret
      obtain ⟨A', cc', tv', e, h1, h2⟩ := HQ.out
      exact ⟨A', cc', e, ⟨tv', h1⟩, h2⟩
end Go.Proofs.YthadeccnibnioaaGreatDoor
