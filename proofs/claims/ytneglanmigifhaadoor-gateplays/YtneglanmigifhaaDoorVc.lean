/- A lane's own calls that write. -/
import Derived.Test.YtneglanmigifhaaDoorVb
import Derived.Deep.RegionLaw
namespace Go.Proofs.YtneglanmigifhaaDoor
open Go.ChangeShapes Go.WideShapes Go.RowKit
set_option linter.unusedVariables false
/-- append, as one step of a region. -/
theorem step_append_run {P : Program} {ops : Array Oper} {o : Oper} {a : Act} {w : World} {K : Act → World → Prop} {Q : Exit → Act → World → Prop} {E : Prop} (hg : o.guard = none) (s x : Operand) (t : TypeId)
    (hop : o.op = .call { callee := .builtin .append, args := #[s, x], argTypes := #[t, t] }) (v1 v2 r : Value) (w' : World) (hs : a.eval s = v1) (hx : a.eval x = v2) (hrun : (Builtin.append_ #[t, t] o.type #[v1, v2]).run P w = .ok r w') (h : K (a.put o.dst r) w') :
    if Region.wanted o (yielded ops a.tmps) = true then Oper.wp P o a w K Q else E := by
  have hw : Region.wanted o (yielded ops a.tmps) = true := by simp [Region.wanted, hg]
  rw [if_pos hw]
  unfold Oper.wp execOp
  simp only [hop, resolve, invoke, builtin, Sem.run_bind, Sem.run_pure, Result.andThen_ok, List.map_toArray, List.map_cons, List.map_nil, hs, hx, hrun]
  exact h
theorem icells_snoc (l : List Itm) (x : Itm) : icells (l ++ [x]) = icells l ++ icell x := by rw [icells_append]; simp [icells]
section
variable {lo : Nat} {w : World} {L o : Nat} {v : Value} {l : List Itm}
set_option maxRecDepth 100000 in
set_option maxHeartbeats 1000000 in
theorem add_any (hc : w.cell? ⟨L, o, none⟩ = some v) (hf : w.frozen? ⟨L, o, none⟩ = false) (hl : LnAt lo w v l) (hlen : l.length < 400) (hlo : lo ≤ w.heap.size) (hL : ∀ b, v.ownBlock = some b → b ≠ L) (x : Itm) :
    Calls Tryd.prog 20 #[.pointer (some ⟨L, o, none⟩), iV x] w fun e w' => e = .returned (.tuple #[]) ∧ ∃ v' w1, w' = w1.setCell ⟨L, o, none⟩ v' ∧ LnAt lo w1 v' (l ++ [x]) ∧ w.grownBy w1 v.ownBlock ∧ (∀ b, v'.ownBlock = some b → v.ownBlock = some b ∨ w.heap.size ≤ b) := by
  have hLt := cell_lt hc
  obtain ⟨i0, hi, hz0, hz1, hz2⟩ := info_parts infoI
  have hic := icell_is x
  have hx1 := icell_one x
  have hxl := icell_len x
  have hsn := icells_snoc l x
  have hll : (l ++ [x]).length = l.length + 1 := by simp
  unfold iV
  generalize (recOf x).key = k0 at *
  generalize (recOf x).num = n0 at *
  generalize (recOf x).tm = t0 at *
  generalize idOf x = d0 at *
  rw [hic] at hx1 hxl hsn
  clear hic
  have b2 : Below w.heap.size w (((w.alloc (.cells #[.string k0, .int .i64 n0, .int .i64 t0, .int .i64 d0] 65)).alloc (.cells #[.string k0, .int .i64 n0, .int .i64 t0, .int .i64 d0] 65)).drew) := (((Below.refl _ _).alloc (Nat.le_refl _) _).alloc (by simp) _).drew
  have hg2 : w.grownBy (((w.alloc (.cells #[.string k0, .int .i64 n0, .int .i64 t0, .int .i64 d0] 65)).alloc (.cells #[.string k0, .int .i64 n0, .int .i64 t0, .int .i64 d0] 65)).drew) v.ownBlock := ⟨b2.os, b2.tape, b2.output, b2.size, fun k hk _ => b2.block k hk⟩
  obtain ⟨g', cap', w1, hrun, hown, hgrow, hat, hlt⟩ := run_append_lies (P := Tryd.prog) (((w.alloc (.cells #[.string k0, .int .i64 n0, .int .i64 t0, .int .i64 d0] 65)).alloc (.cells #[.string k0, .int .i64 n0, .int .i64 t0, .int .i64 d0] 65)).drew) 58 58 lo 65 i0 (.agg #[.string ⟨#[]⟩, .int .i64 0, .int .i64 0, .int .i64 0]) 4 40 Tryd.underlying58 hi hz0 hz1 hz2 rfl (by decide) v l.length (icells l)
    (hl.block (fun b hb => b2.block b (hl.lt hb).2.1)) ⟨w.heap.size + 1, 0, none⟩ 1 1 [.string k0, .int .i64 n0, .int .i64 t0, .int .i64 d0] hxl (World.news_of_block (B := w.heap.size + 1) (cs := #[.string k0, .int .i64 n0, .int .i64 t0, .int .i64 d0]) (t := 65) (fr := (0, 0)) (heap_alloc2_new w _ _)) hx1 (by decide) (by unfold maxLen; omega) (by omega) (by simp; omega) _ rfl
  have hG := hg2.trans hgrow
  have hne : some L ≠ v.ownBlock := fun e => hL L e.symm rfl
  have hc1 : w1.cell? ⟨L, o, none⟩ = some v := hG.cell hc hne
  have hf1 : w1.frozen? ⟨L, o, none⟩ = false := (hG.frozen_far ⟨L, o, none⟩ hLt hne).trans hf
  have hat' : v.ownBlock = some g' ∨ w.heap.size ≤ g' := by
    rcases hat with h | h
    · exact .inl h
    · exact .inr (by rw [h]; simp; omega)
  rw [← hll, ← hsn] at hown
  have HR := Lib.hid hrun
  have HE := Lib.hid (show LnAt lo w1 (.slice (some ⟨g', 0, none⟩) (l ++ [x]).length cap') (l ++ [x]) ∧ w.grownBy w1 v.ownBlock ∧ (∀ b, Value.ownBlock (.slice (some ⟨g', 0, none⟩) (l ++ [x]).length cap') = some b → v.ownBlock = some b ∨ w.heap.size ≤ b) from ⟨hown, hG, fun b hb => by simp [Value.ownBlock] at hb; subst hb; exact hat'⟩)
  rw [hll] at HE
  have hl1 := hll
  clear hrun hown hgrow hat hlt hat' hG hg2 b2 hsn hll hx1 hxl hl hi hz0 hz1 hz2 hl1 hlen hL hne
  generalize l.length = n at *
  go_enter Tryd.func20, Tryd.ntmps20
  go_wp2_with fail
  go_region_law (refine step_append_run (by rfl) _ _ _ (by rfl) _ _ _ _ (by rfl) (by rfl) (by exact HR.out) ?_)
  all_goals exact bodyPost_end (results_none rfl _ _ _) rfl ⟨rfl, _, _, rfl, HE.out⟩
end
theorem zc_one (z : Array Value) (hz : z.size = 4) : Builtin.zeroCells z 1 = z := by
  apply Array.ext
  · simp [Builtin.zeroCells, hz]
  · intro i h1 h2
    have h3 : i % z.size = i := Nat.mod_eq_of_lt h2
    simp [Builtin.zeroCells, h3, h2]
def zI : List Value := [.string ⟨#[]⟩, .int .i64 0, .int .i64 0, .int .i64 0]
theorem clear_one (u : World) (ty : TypeId) (g n c : Nat) (cur : Array Value) (hb : u.heap[g]? = some (.cells cur 65 (0, 0))) (hs : n * 4 + 4 ≤ cur.size) :
    (Builtin.clear_ #[58] ty #[.slice (some ⟨g, n * 4, none⟩) 1 c]).run Tryd.prog u = .ok (.tuple #[]) (u.setRow g (cur.toList.take (n * 4) ++ zI ++ cur.toList.drop (n * 4 + 4)).toArray) := by
  have hst := run_storeCells_at Tryd.prog g (n * 4) 65 zI 0 cur u hb (by simpa [zI] using hs) (by intro v hv; simp [zI] at hv; rcases hv with rfl | rfl <;> rfl)
  have hz := Tryd.zeroValue65 u
  have hl : zI.length = 4 := rfl
  rw [hl] at hst
  simp only [Nat.add_zero] at hst
  have hzc := zc_one #[.string ⟨#[]⟩, .int .i64 0, .int .i64 0, .int .i64 0] rfl
  have hzz : (#[.string ⟨#[]⟩, .int .i64 0, .int .i64 0, .int .i64 0] : Array Value).toList = zI := rfl
  simp [Builtin.clear_, run_underlying Tryd.underlying58, hz, hst, Value.cells, hzc, hzz]
set_option maxRecDepth 100000 in
set_option maxHeartbeats 2000000 in
theorem del_any {lo : Nat} {w : World} {g cap n : Nat} {cur : Array Value} (hlo : lo ≤ g) (hb : w.heap[g]? = some (.cells cur 65 (0, 0))) (hn : n + 1 ≤ cap) (hcap : cap ≤ maxLen) (hs : cur.size = cap * 4) (x : Itm) (xs : List Itm) (hxl : xs.length = n) (ht : cur.toList.take ((n + 1) * 4) = icells (x :: xs)) (hn4 : n ≤ 400) :
    Calls Tryd.prog 28 #[.slice (some ⟨g, 0, none⟩) ((n + 1 : Nat) : Nat) cap, .int .i64 0, .int .i64 1] w fun e w' => e = .returned (.slice (some ⟨g, 0, none⟩) n cap) ∧ LnAt lo w' (.slice (some ⟨g, 0, none⟩) n cap) xs ∧ w.grownBy w' (some g) := by
  obtain ⟨i0, hi, hz0, hz1, hz2⟩ := info_parts infoI
  have hil : (icells xs).length = n * 4 := by rw [icells_len, hxl]
  have hcl : ∀ j u, (icells xs)[j]? = some u → w.cell? ⟨g, 4 + j, none⟩ = some u := fun j u hu => by
    have h1 : (icells (x :: xs))[4 + j]? = some u := by
      rw [icells, List.getElem?_append_right (by rw [icell_len]; omega), icell_len, Nat.add_sub_cancel_left]; exact hu
    rw [← ht, List.getElem?_take] at h1
    split at h1
    · simp only [World.cell?, hb]; simpa using h1
    · cases h1
  obtain ⟨ad, had, hnews⟩ : ∃ ad : Addr, (if cap = 1 then (⟨g, 0, none⟩ : Addr) else ⟨g, 4, none⟩) = ad ∧ ∀ j u, (icells xs)[j]? = some u → w.drew.cell? (ad.add j) = some u := by
    by_cases hc1 : cap = 1
    · refine ⟨_, rfl, fun j u hu => ?_⟩
      have : n = 0 := by omega
      have := (List.getElem?_eq_some_iff.1 hu).1
      omega
    · rw [if_neg hc1]
      refine ⟨_, rfl, fun j u hu => ?_⟩
      rw [show (⟨g, 4, none⟩ : Addr).add j = ⟨g, 4 + j, none⟩ from by unfold Addr.add; split <;> simp_all]
      exact hcl j u hu
  have hrun := run_append_room (P := Tryd.prog) w.drew 58 58 65 i0 Tryd.underlying58 hi g 0 cap cur hb ad n (cap - 1) (icells xs) (by rw [hz1]; exact hil) hnews (icells_one xs) (by omega) (by rw [hil]; omega)
  simp only [Nat.zero_mul, List.take_zero, List.nil_append, Nat.zero_add] at hrun
  generalize hc1 : (icells xs ++ cur.toList.drop (icells xs).length).toArray = cur1 at hrun
  have hs1 : cur1.size = cap * 4 := by rw [← hc1]; simp; omega
  have ht1 : cur1.toList.take (n * 4) = icells xs := by rw [← hc1, ← hil]; simp
  have hb1 : (w.drew.setRow g cur1).heap[g]? = some (.cells cur1 65 (0, 0)) := setRow_heap w.drew g cur _ _ _ hb
  have hcr := clear_one (w.drew.setRow g cur1) 0 g n (cap - n) cur1 hb1 (by omega)
  generalize hc2 : (cur1.toList.take (n * 4) ++ zI ++ cur1.toList.drop (n * 4 + 4)).toArray = cur2 at hcr
  have hs2 : cur2.size = cap * 4 := by rw [← hc2]; simp [zI]; omega
  have ht2 : cur2.toList.take (n * 4) = icells xs := by
    rw [← hc2, ht1, List.append_assoc, ← hil]
    exact List.take_left
  have hb2 : ((w.drew.setRow g cur1).setRow g cur2).heap[g]? = some (.cells cur2 65 (0, 0)) := setRow_heap _ g cur1 _ _ _ hb1
  have HE := Lib.hid (show LnAt lo ((w.drew.setRow g cur1).setRow g cur2) (.slice (some ⟨g, 0, none⟩) n cap) xs ∧ w.grownBy ((w.drew.setRow g cur1).setRow g cur2) (some g) from
    ⟨⟨icells_len xs, .inr ⟨g, cap, cur2, by rw [hxl], hlo, hb2, by omega, hcap, hs2, by rw [hxl]; exact ht2⟩⟩, ⟨rfl, rfl, rfl, by simp, fun k hk hne => by
      rw [setRow_other _ g k _ (fun e => hne (by rw [e])), setRow_other _ g k _ (fun e => hne (by rw [e]))]; rfl⟩⟩)
  have HR := Lib.hid hrun
  have q0 : ((n : Int) + 1) ≤ (cap : Int) := by omega
  have q1 : (1 : Int) ≤ (n : Int) + 1 := by omega
  have q2 : (n : Int) ≤ (cap : Int) := by omega
  have q3 : (n : Int) ≤ (n : Int) + 1 := by omega
  have q4 : (1 : Int) ≤ (cap : Int) := by omega
  have q5 : ¬ (n = cap) := by omega
  have q6 : (0 : Int) ≤ (cap : Int) := by omega
  have q7 : ¬ (cap = n) := by omega
  have q8 : ((n : Int) + 1 - 1).toNat = n := by omega
  have q9 : ((n : Int) + 1).toNat = n + 1 := by omega
  have q10 : n < cap := by omega
  have q11 : ((cap : Int) - 1).toNat = cap - 1 := by omega
  have q12 : ((cap : Int) - (n : Int)).toNat = cap - n := by omega
  clear hrun hcl hnews ht hil hi hz0 hz1 hz2 hc1 hs1 ht1 hc2 hs2 ht2 hb2 hs hlo
  by_cases hc1 : cap = 1
  · rw [if_pos hc1] at had
    obtain rfl : n = 0 := by omega
    subst had hc1
    go_enter Tryd.func28, Tryd.ntmps28
    go_wp2_with fail
    go_region_law (refine step_append_run (by rfl) _ _ _ (by rfl) _ _ _ _ (by rfl) (by rfl) (by exact HR.out) ?_)
    all_goals
      go_wp2_with fail
      go_ret
      exact ⟨rfl, HE.out⟩
  · rw [if_neg hc1] at had
    subst had
    go_enter Tryd.func28, Tryd.ntmps28
    go_wp2_with fail
    go_region_law (refine step_append_run (by rfl) _ _ _ (by rfl) _ _ _ _ (by rfl) (by rfl) (by exact HR.out) ?_)
    all_goals
      go_wp2_with fail
      go_ret
      exact ⟨rfl, HE.out⟩
end Go.Proofs.YtneglanmigifhaaDoor
