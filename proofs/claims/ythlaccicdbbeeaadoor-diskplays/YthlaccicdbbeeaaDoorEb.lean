/- The document's with. -/
import Derived.Test.YthlaccicdbbeeaaDoorEa
import Derived.Sort.Walk0
namespace Go.Proofs.YthlaccicdbbeeaaDoor
open Go.RowKit
set_option linter.unusedVariables false

theorem infoF : (Tryd.prog.info? 49).map (fun i => (i.zero, i.size, i.bytes)) = some (some (.agg #[.string ⟨#[]⟩, .slice none 0 0]), 2, 40) := by kernel_rfl
def ecs (L : List En) : List Value := L.flatMap fun e => [.string e.n, .slice e.q e.bs.length e.c]
theorem ecs_len (L : List En) : (ecs L).length = L.length * 2 := by
  induction L with
  | nil => rfl
  | cons x l ih => simp only [ecs, List.flatMap_cons, List.length_append, List.length_cons, List.length_nil] at ih ⊢; omega
theorem ecs_snoc (L : List En) (e : En) : ecs (L ++ [e]) = ecs L ++ [.string e.n, .slice e.q e.bs.length e.c] := by simp [ecs]
theorem ecs_get (L : List En) (i : Nat) (h : i < L.length) : (ecs L)[i * 2]? = some (.string L[i].n) ∧ (ecs L)[i * 2 + 1]? = some (.slice L[i].q L[i].bs.length L[i].c) := by
  induction L generalizing i with
  | nil => simp at h
  | cons x l ih =>
    cases i with
    | zero => simp [ecs]
    | succ i =>
      have := ih i (by simpa using h)
      have e : (i + 1) * 2 = i * 2 + 2 := by omega
      rw [e]
      simp only [ecs, List.flatMap_cons, List.cons_append, List.nil_append, List.getElem?_cons_succ, List.getElem_cons_succ] at this ⊢
      exact this
theorem fl_own {w : World} {base : Nat} {O : Nat → Prop} {v : Value} {L : List En} (h : w.ownsRow base 49 2 v L.length (ecs L)) (hO : ∀ b, base ≤ b → O b) (hB : ∀ e ∈ L, BsO w O e.q e.bs) : ∃ A c, v = .slice A L.length c ∧ FlAt w O A L := by
  rcases h.2 with ⟨h0, h1⟩ | ⟨g, cap, cur, h0, hb, hg, hle, hm, hs, ht⟩
  · exact ⟨none, 0, by rw [h0, h1], .inl (List.length_eq_zero_iff.1 h1)⟩
  · subst h0
    refine ⟨_, _, rfl, .inr ⟨g, 0, rfl, hO g hb, fun i hi => ?_⟩⟩
    obtain ⟨e1, e2⟩ := ecs_get L i hi
    refine ⟨?_, ?_, hB _ (List.getElem_mem hi)⟩
    · rw [Nat.zero_add, h.cellAt (i * 2) (by omega)]; exact e1
    · rw [Nat.zero_add, h.cellAt (i * 2 + 1) (by omega)]; exact e2
theorem own_form2 {w : World} {base e sz n : Nat} {v : Value} {xs : List Value} (h : w.ownsRow base e sz v n xs) : ∃ A c, v = .slice A n c := by
  rcases h.2 with ⟨h0, h1⟩ | ⟨g, cap', cur, h0, -⟩
  · exact ⟨none, 0, by rw [h0, h1]⟩
  · exact ⟨_, _, h0⟩
theorem gtr_run (t : TypeId) {x k : ByteArray} (hne : x ≠ k) (w : World) : (binOp .gtr t (.string x) (.string k)).run Tryd.prog w = .ok (.bool (ltN k x)) w := by
  have h1 : (binOp .gtr t (.string x) (.string k)) = pure (.bool !(Op.bytesLess x.toList k.toList || x.toList == k.toList)) := by simp [binOp, Op.stringOp]
  rw [h1, bytesLess_eq, str_ne hne, ByteArray.toList_eq, ByteArray.toList_eq, Bool.or_false]
  have h2 : (!decide (x.data.toList < k.data.toList)) = ltN k x := by
    unfold ltN
    by_cases h : x.data.toList < k.data.toList
    · have : ¬ k.data.toList < x.data.toList := fun h' => lt_irr _ (List.lt_trans h h')
      simp [h, this]
    · have := lt_tri hne h
      simp [h, this]
  rw [h2]
  rfl
theorem take_map {L : List En} {j : Nat} (h : j < L.length) : (L.take (j + 1)).map En.pr = (L.take j).map En.pr ++ [L[j].pr] := by
  rw [List.take_succ_eq_append_getElem h, List.map_append]; rfl

/-- append of one file to what is owned. -/
theorem append_en {w : World} {ops : Array Oper} {rest : List Oper} {o : Oper} {a : Act} {Q : Exit → Act → World → Prop} (hgd : o.guard = none) (s x : Operand)
    (ho : o.op = .call { callee := .builtin .append, args := #[s, x], argTypes := #[27, 27] })
    (B : Nat) (v : Value) (L' : List En) (hs : a.eval s = v) (hown : w.ownsRow B 49 2 v L'.length (ecs L')) (g : Nat) (hx : a.eval x = .slice (some ⟨g, 0, none⟩) 1 1) (e : En)
    (c0 : w.cell? ⟨g, 0, none⟩ = some (.string e.n)) (c1 : w.cell? ⟨g, 1, none⟩ = some (.slice e.q e.bs.length e.c)) (hlim : L'.length ≤ 10000000) (hB : B ≤ w.heap.size)
    (hK : ∀ v' w', w'.ownsRow B 49 2 v' (L' ++ [e]).length (ecs (L' ++ [e])) → Below B w w' → wpList Tryd.prog ops Q rest (a.put o.dst v') w') : wpList Tryd.prog ops Q (o :: rest) a w := by
  obtain ⟨i0, hi, hz0, hz1, hz2⟩ := info_parts infoF
  refine wpList_append_own w hgd s x 27 ho B 49 i0 (.agg #[.string ⟨#[]⟩, .slice none 0 0]) 2 40 Tryd.underlying27 hi hz0 hz1 hz2 rfl (by decide) v L'.length (ecs L') hs hown ⟨g, 0, none⟩ 1 1 [.string e.n, .slice e.q e.bs.length e.c] hx rfl ?_ (by intro u hu; simp at hu; rcases hu with rfl | rfl <;> rfl) (by unfold maxLen; omega) (by omega) hB ?_
  · intro t u ht
    match t, ht with
    | 0, ht => simp at ht; subst ht; simpa [Addr.add] using c0
    | 1, ht => simp at ht; subst ht; simpa [Addr.add] using c1
  · intro v' w' own' grow _
    refine hK v' w' ?_ ((Below.refl _ _).grown grow hB (fun k hk => (hown.lt k hk).1))
    rw [ecs_snoc]
    simpa using own'

set_option maxRecDepth 100000 in
set_option maxHeartbeats 4000000 in
theorem with_any (w : World) (O : Nat → Prop) (hO : ∀ b, w.heap.size ≤ b → O b) (p : Option Addr) (c : Nat) (L : List En) (hL : FlAt w O p L) (hl : L.length ≤ 1000000) (m : Nat) (hm : m = L.length) (k : ByteArray) (q : Option Addr) (qc : Nat) (bs : List UInt8) (hq : BsO w O q bs) (ql : Nat) (hql : ql = bs.length) (gone : Bool) :
    Calls Tryd.prog 51 #[.slice p m c, .string k, .slice q ql qc, .bool gone] w fun e w' => ∃ A c' L', e = .returned (.slice A L'.length c') ∧ FlAt w' O A L' ∧ L'.map En.pr = withP (L.map En.pr) k bs gone ∧ L'.length ≤ L.length + 1 ∧ Below w.heap.size w w' := by
  subst hm
  obtain ⟨i0, hi0, hz0, hz1, hz2⟩ := info_parts infoF
  have HQ := Lib.hid hql
  clear hql
  have HW : ∀ Lf df, ((L.map En.pr).foldl (wstep k bs) ([], gone)) = (Lf, df) → withP (L.map En.pr) k bs gone = if df = false then Lf ++ [(k, bs)] else Lf := fun Lf df h => by rw [withP_eq, h]; rfl
  go_enter Tryd.func51, Tryd.ntmps51
  go_wp2
  go_loopw [9, 10, 11] (fun v dn i wr => ∃ (j : Nat) (L' : List En) (df : Bool), j ≤ L.length ∧ i = .int .i64 j ∧ dn = .bool df ∧ wr.ownsRow w.heap.size 49 2 v L'.length (ecs L') ∧ ((L.take j).map En.pr).foldl (wstep k bs) ([], gone) = (L'.map En.pr, df) ∧ (∀ e ∈ L', BsO w O e.q e.bs) ∧ (L'.length ≤ j + (if df = gone then 0 else 1) ∧ (gone = true → df = true)) ∧ Below w.heap.size w wr) (fun _ _ i _ => L.length - (intOf i).toNat)
  case atStart => exact ⟨0, [], gone, Nat.zero_le _, rfl, rfl, World.ownsRow_nil _ _ _ _, rfl, by simp, ⟨by simp, fun h => h⟩, Below.refl _ _⟩
  case round =>
    obtain ⟨j, L', df, hj, rfl, rfl, hown, hfold, hbs, ⟨hlen, hgd⟩, hB⟩ := hrel
    obtain ⟨Av, cv, rfl⟩ := own_form2 hown
    have HF := Lib.hid hfold
    have HS := Lib.hid hbs
    have HL := Lib.hid hlen
    have HG := Lib.hid hgd
    clear hfold hbs hlen hgd
    by_cases hlt : j < L.length
    · have hi : (j : Int) < L.length := by omega
      rcases hL with hL | ⟨b, o, rfl, hb, hL⟩
      · subst hL; simp at hlt
      obtain ⟨c1, c2, c3⟩ := hL j hlt
      have hbl := block_lt_of_cell c1
      have d1 : wr.cell? ⟨b, o + j * 2, none⟩ = some (.string L[j].n) := (hB.cell (p := ⟨b, o + j * 2, none⟩) hbl).trans c1
      have d2 : wr.cell? ⟨b, o + j * 2 + 1, none⟩ = some (.slice L[j].q L[j].bs.length L[j].c) := (hB.cell (p := ⟨b, o + j * 2 + 1, none⟩) hbl).trans c2
      have HT : Hid (((L.take (j + 1)).map En.pr).foldl (wstep k bs) ([], gone) = wstep k bs (L'.map En.pr, df) L[j].pr) := by
        show _ = _
        rw [take_map hlt, List.foldl_append, HF.out]; rfl
      by_cases e : L[j].n = k
      · have HT2 : Hid (((L.take (j + 1)).map En.pr).foldl (wstep k bs) ([], gone) = (L'.map En.pr, df)) := by
          show _ = _
          rw [HT.out]; unfold wstep; rw [if_pos (show L[j].pr.1 = k from e)]
        rw [e] at d1
        clear c1 c2 HT
        go_wp2
        go_roundw
        case rel => exact ⟨j + 1, L', df, by omega, by go_num, rfl, hown, HT2.out, HS.out, ⟨by have := HL.out; omega, HG.out⟩, hB⟩
        case measure => simp [intOf]; omega
      · have e' := str_ne e
        cases df with
        | true =>
          have HT2 : Hid (((L.take (j + 1)).map En.pr).foldl (wstep k bs) ([], gone) = ((L' ++ [L[j]]).map En.pr, true)) := by
            show _ = _
            rw [HT.out]; unfold wstep; rw [if_neg (show ¬ L[j].pr.1 = k from e), if_neg (by simp)]; simp
          have HE := Lib.hid (show BsO w O L[j].q L[j].bs from c3)
          have HN := Lib.hid (show L[j].n = L[j].n from rfl)
          clear c1 c2 HT c3 hL
          generalize L[j] = x at *
          obtain ⟨xn, xb, xq, xc⟩ := x
          simp only at *
          go_wp2_with (at_builtin; refine append_en rfl _ _ rfl w.heap.size _ L' rfl (hown.alloc _) _ rfl ⟨xn, xb, xq, xc⟩ (by simp) (by simp) (by have := HL.out; split at this <;> omega) (by have := hB.size; simp; omega) ?_)
          intro v2 w2 own' hb2
          have hB2 : Below w.heap.size w w2 := (hB.alloc hB.size _).trans hb2
          obtain ⟨Av2, cv2, rfl⟩ := own_form2 own'
          clear hb2 hown
          go_wp2
          go_roundw
          case rel => exact ⟨j + 1, L' ++ [(⟨xn, xb, xq, xc⟩ : En)], true, by omega, by go_num, rfl, by simpa using own', HT2.out, fun y hy => by
            rcases List.mem_append.1 hy with hy | hy
            · exact HS.out y hy
            · simp at hy; subst hy; exact HE.out, ⟨by have := HL.out; simp only [List.length_append, List.length_cons, List.length_nil]; omega, fun _ => rfl⟩, hB2⟩
          case measure => simp [intOf]; omega
        | false =>
          by_cases hlt2 : ltN k L[j].n = true
          · have HT2 : Hid (((L.take (j + 1)).map En.pr).foldl (wstep k bs) ([], gone) = ((L' ++ [(⟨k, bs, q, qc⟩ : En)] ++ [L[j]]).map En.pr, true)) := by
              show _ = _
              rw [HT.out]; unfold wstep; rw [if_neg (show ¬ L[j].pr.1 = k from e), if_pos ⟨rfl, hlt2⟩]; simp [En.pr]
            have HE := Lib.hid (show BsO w O L[j].q L[j].bs from c3)
            have hgt := fun w => gtr_run 9 e w
            rw [hlt2] at hgt
            clear c1 c2 HT c3 hL hlt2 e
            generalize L[j] = x at *
            obtain ⟨xn, xb, xq, xc⟩ := x
            simp only at *
            have d1' : ∀ w' : World, Below wr.heap.size wr w' → w'.cell? ⟨b, o + j * 2, none⟩ = some (.string xn) := fun w' h => (h.cell (p := ⟨b, o + j * 2, none⟩) (block_lt_of_cell d1)).trans d1
            have d2' : ∀ w' : World, Below wr.heap.size wr w' → w'.cell? ⟨b, o + j * 2 + 1, none⟩ = some (.slice xq xb.length xc) := fun w' h => (h.cell (p := ⟨b, o + j * 2 + 1, none⟩) (block_lt_of_cell d2)).trans d2
            have D1 := Lib.hid d1'
            have D2 := Lib.hid d2'
            clear d1' d2'
            go_wp2_with (at_builtin; refine append_en rfl _ _ rfl w.heap.size _ L' rfl (hown.alloc _) _ rfl ⟨k, bs, q, qc⟩ (by simp) (by simp [HQ.out]) (by have := HL.out; split at this <;> omega) (by have := hB.size; simp; omega) ?_)
            intro v2 w2 own' hb2
            have hB2 : Below w.heap.size w w2 := (hB.alloc hB.size _).trans hb2
            obtain ⟨Av2, cv2, rfl⟩ := own_form2 own'
            have hB3 : Below w.heap.size w2 w2 := Below.refl _ _
            have dd1 : w2.cell? ⟨b, o + j * 2, none⟩ = some (.string xn) := by
              rw [hb2.cell (p := ⟨b, o + j * 2, none⟩) (show b < w.heap.size from hbl), World.cell?_alloc_old (h := by show b ≠ wr.heap.size; have := hB.size; have : b < w.heap.size := hbl; omega)]; exact d1
            have dd2 : w2.cell? ⟨b, o + j * 2 + 1, none⟩ = some (.slice xq xb.length xc) := by
              rw [hb2.cell (p := ⟨b, o + j * 2 + 1, none⟩) (show b < w.heap.size from hbl), World.cell?_alloc_old (h := by show b ≠ wr.heap.size; have := hB.size; have : b < w.heap.size := hbl; omega)]; exact d2
            have own2 : w2.ownsRow w.heap.size 49 2 (.slice Av2 (L'.length + 1) cv2) (L' ++ [(⟨k, bs, q, qc⟩ : En)]).length (ecs (L' ++ [(⟨k, bs, q, qc⟩ : En)])) := by simpa using own'
            clear hb2 hown d1 d2 D1 D2
            go_wp2_with (at_builtin; refine append_en rfl _ _ rfl w.heap.size _ (L' ++ [(⟨k, bs, q, qc⟩ : En)]) rfl (own2.alloc _) _ rfl ⟨xn, xb, xq, xc⟩ (by simp) (by simp) (by have := HL.out; simp; split at this <;> omega) (by have := hB2.size; simp; omega) ?_)
            intro v3 w3 own3 hb3
            have hB4 : Below w.heap.size w w3 := (hB2.alloc hB2.size _).trans hb3
            obtain ⟨Av3, cv3, rfl⟩ := own_form2 own3
            clear hb3 own' dd1 dd2
            go_wp2
            go_roundw
            case rel => exact ⟨j + 1, L' ++ [(⟨k, bs, q, qc⟩ : En)] ++ [(⟨xn, xb, xq, xc⟩ : En)], true, by omega, by go_num, rfl, by simpa using own3, HT2.out, fun y hy => by
              rcases List.mem_append.1 hy with hy | hy
              · rcases List.mem_append.1 hy with hy | hy
                · exact HS.out y hy
                · simp at hy; subst hy; exact hq
              · simp at hy; subst hy; exact HE.out, ⟨by have := HL.out; have hg := HG.out; simp only [List.length_append, List.length_cons, List.length_nil]; cases gone <;> simp at this hg ⊢; omega, fun _ => rfl⟩, hB4⟩
            case measure => simp [intOf]; omega
          · have hlt3 : ltN k L[j].n = false := by simpa using hlt2
            have HT2 : Hid (((L.take (j + 1)).map En.pr).foldl (wstep k bs) ([], gone) = ((L' ++ [L[j]]).map En.pr, false)) := by
              show _ = _
              rw [HT.out]; unfold wstep; rw [if_neg (show ¬ L[j].pr.1 = k from e), if_neg (fun h => hlt2 h.2)]; simp
            have HE := Lib.hid (show BsO w O L[j].q L[j].bs from c3)
            have hgt := fun w => gtr_run 9 e w
            rw [hlt3] at hgt
            clear c1 c2 HT c3 hL hlt2 hlt3 e
            generalize L[j] = x at *
            obtain ⟨xn, xb, xq, xc⟩ := x
            simp only at *
            go_wp2_with (at_builtin; refine append_en rfl _ _ rfl w.heap.size _ L' rfl (hown.alloc _) _ rfl ⟨xn, xb, xq, xc⟩ (by simp) (by simp) (by have := HL.out; split at this <;> omega) (by have := hB.size; simp; omega) ?_)
            intro v2 w2 own' hb2
            have hB2 : Below w.heap.size w w2 := (hB.alloc hB.size _).trans hb2
            obtain ⟨Av2, cv2, rfl⟩ := own_form2 own'
            clear hb2 hown
            go_wp2
            go_roundw
            case rel => exact ⟨j + 1, L' ++ [(⟨xn, xb, xq, xc⟩ : En)], false, by omega, by go_num, rfl, by simpa using own', HT2.out, fun y hy => by
              rcases List.mem_append.1 hy with hy | hy
              · exact HS.out y hy
              · simp at hy; subst hy; exact HE.out, ⟨by have := HL.out; simp only [List.length_append, List.length_cons, List.length_nil]; omega, HG.out⟩, hB2⟩
            case measure => simp [intOf]; omega
    · have hi : ¬ (j : Int) < L.length := by omega
      have hje : L.take j = L := List.take_of_length_le (by omega)
      have HFF := Lib.hid (HW _ _ (show ((L.map En.pr).foldl (wstep k bs) ([], gone)) = (L'.map En.pr, df) by have := HF.out; rwa [hje] at this))
      cases df with
      | true =>
        obtain ⟨A, c', hv, hfl⟩ := fl_own hown hO (fun e he => (HS.out e he).below (hB))
        cases hv
        go_wp2
        go_ret
        refine ⟨Av, cv, L', rfl, hfl, ?_, by have := HL.out; split at this <;> omega, hB⟩
        rw [HFF.out]; simp
      | false =>
        go_wp2_with (at_builtin; refine append_en rfl _ _ rfl w.heap.size _ L' rfl (hown.alloc _) _ rfl ⟨k, bs, q, qc⟩ (by simp) (by simp [HQ.out]) (by have := HL.out; split at this <;> omega) (by have := hB.size; simp; omega) ?_)
        intro v2 w2 own' hb2
        have hB2 : Below w.heap.size w w2 := (hB.alloc hB.size _).trans hb2
        obtain ⟨A, c', hv, hfl⟩ := fl_own (L := L' ++ [(⟨k, bs, q, qc⟩ : En)]) (by simpa using own') hO (fun e he => by
          rcases List.mem_append.1 he with he | he
          · exact (HS.out e he).below hB2
          · rw [List.mem_singleton] at he; subst he; exact BsO.below hq hB2)
        subst hv
        clear hb2 hown own'
        go_wp2
        go_ret
        refine ⟨A, c', L' ++ [(⟨k, bs, q, qc⟩ : En)], by simp, hfl, ?_, by have := HL.out; simp only [List.length_append, List.length_cons, List.length_nil]; have hg := HG.out; cases gone <;> simp at this hg; omega, hB2⟩
        rw [HFF.out]; simp [En.pr]
end Go.Proofs.YthlaccicdbbeeaaDoor
