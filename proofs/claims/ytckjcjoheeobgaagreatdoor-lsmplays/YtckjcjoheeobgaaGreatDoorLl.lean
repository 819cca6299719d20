/- Open, New. -/
import Derived.Test.YtckjcjoheeobgaaGreatDoorLk
import Derived.Test.YtckjcjoheeobgaaGreatDoorLi
import Derived.Stop.RegionWithIn
namespace Go.Proofs.YtckjcjoheeobgaaGreatDoor
open Go.RowKit Go.Shelf
set_option linter.unusedVariables false

attribute [local go_sem] Oper.semAt_some

/-- What a table is read as. -/
def rdL (t : Tab) : List En := (readTb t.2.2).getD []
def OkT (w : World) (t : Tab) : Prop := TabOk w t ∧ entsE (rdL t) = 0 ∧ t.2.2 = buildB (rdL t)
theorem okT_of {w : World} {t : Tab} {L : List En} (h : TabOk w t) (hb : t.2.2 = buildB L) (hE : entsE L = 0) : OkT w t ∧ rdL t = L := by
  have e : rdL t = L := by unfold rdL; rw [hb, read_build hE]; rfl
  exact ⟨⟨h, by rw [e]; exact hE, by rw [e]; exact hb⟩, e⟩
theorem rdL_map {w : World} {T : List Tab} {ts : List (List En)} (h : ∀ t ∈ T, TabOk w t) (hm : T.map (·.2.2) = ts.map buildB) (hE : ∀ t ∈ ts, entsE t = 0) : (∀ t ∈ T, OkT w t) ∧ T.map rdL = ts := by
  induction T generalizing ts with
  | nil => cases ts with
    | nil => exact ⟨by simp, rfl⟩
    | cons a ts => simp at hm
  | cons x T ih => cases ts with
    | nil => simp at hm
    | cons a ts =>
      simp only [List.map_cons, List.cons.injEq] at hm
      obtain ⟨h1, h2⟩ := ih (fun t ht => h t (by simp [ht])) hm.2 (fun t ht => hE t (by simp [ht]))
      obtain ⟨h3, h4⟩ := okT_of (h x (by simp)) hm.1 (hE a (by simp))
      exact ⟨fun t ht => by rcases List.mem_cons.1 ht with rfl | ht; exact h3; exact h1 t ht, by rw [List.map_cons, h4, h2]⟩
theorem openA_snoc (ts : List (List En)) (L : List En) : openA (ts ++ [L]) = addA (openA ts) L := by unfold openA; rw [List.foldl_append]; rfl
theorem openA_ris {ts : List (List En)} (h : ∀ t ∈ ts, entsE t = 0) : Ris (openA ts) := (openA_gen ts [] List.Pairwise.nil (fun t ht => (ents_zero (h t ht)).2.2)).1
theorem openA_len : ∀ {ts : List (List En)} {a : List En}, Ris a → (∀ t ∈ ts, entsE t = 0) → (ts.foldl addA a).length ≤ a.length + 400 * ts.length
  | [], a, _, _ => by simp
  | t :: ts, a, ha, h => by
    have h1 := openA_len (ts := ts) (addA_ris (t := t) ha) (fun x hx => h x (by simp [hx]))
    have h2 := addA_len t a ha
    have h3 := (ents_zero (h t (by simp))).1
    simp only [List.foldl_cons, List.length_cons]
    omega
section
variable {lo : Nat} {w w' : World} {S Ml Mf : Nat} {v v1 : Value} {s : Sto}
/-- A store stays, where no cells turn, nor its maps. -/
theorem StAt.grown (h : StAt lo w S Ml Mf v s) {row : Option Nat} (hg : w.grownBy w' row) (hr : ∀ r, row = some r → (∃ o : Obj, w.heap[r]? = some o ∧ o.isCells = false) ∧ r ≠ Ml ∧ r ≠ Mf) : StAt lo w' S Ml Mf v s := by
  have hr' : ∀ r, row = some r → ∃ o : Obj, w.heap[r]? = some o ∧ o.isCells = false := fun r e => (hr r e).1
  obtain ⟨l1, l2, l3⟩ := h.lt
  exact ⟨(tabs_grown hg hr' _ _ _ h.blk).trans h.blk, h.last.block (hg.block _ l2 (fun e => (hr _ e.symm).2.1 rfl)), h.fresh.block (hg.block _ l3 (fun e => (hr _ e.symm).2.2 rfl)), h.tabs.block (fun k cur e hc _ => tabs_grown hg hr' k cur e hc), h.loS, h.loL, h.loF, h.ne⟩
/-- What was opened so far. -/
def Opn (w : World) (lim : Nat) (la : Option Addr) (m c : Nat) (R2 Ml Mf S V Bs : Nat) (pre : List (Bt (OkT w))) (W : World) : Prop := ∃ v, StAt w.heap.size W S Ml Mf v ⟨lim, openA (pre.map fun x => rdL x.t), [], pre.map fun x => rdL x.t⟩ ∧ Below w.heap.size w W ∧ w.heap.size + 7 ≤ W.heap.size ∧
  W.heap[w.heap.size]? = some (.cells #[.pointer none] 23 (0, 0)) ∧ W.heap[R2]? = some (.cells #[.nilIface] 25 (0, 0)) ∧ W.heap[V]? = some (.cells #[.pointer (some ⟨S, 0, none⟩)] 23 (0, 0)) ∧ W.heap[Bs]? = some (.cells #[.slice la m c] 50 (0, 0))
theorem seven (w : World) (o0 o1 o2 o3 o4 o5 o6 : Obj) : (((((((w.alloc o0).alloc o1).alloc o2).alloc o3).alloc o4).alloc o5).alloc o6).heap.size = w.heap.size + 7 ∧ Below w.heap.size w (((((((w.alloc o0).alloc o1).alloc o2).alloc o3).alloc o4).alloc o5).alloc o6) ∧
    (((((((w.alloc o0).alloc o1).alloc o2).alloc o3).alloc o4).alloc o5).alloc o6).heap[w.heap.size]? = some o0 ∧ (((((((w.alloc o0).alloc o1).alloc o2).alloc o3).alloc o4).alloc o5).alloc o6).heap[w.heap.size + 1]? = some o1 ∧
    (((((((w.alloc o0).alloc o1).alloc o2).alloc o3).alloc o4).alloc o5).alloc o6).heap[w.heap.size + 1 + 1]? = some o2 ∧ (((((((w.alloc o0).alloc o1).alloc o2).alloc o3).alloc o4).alloc o5).alloc o6).heap[w.heap.size + 1 + 1 + 1]? = some o3 ∧
    (((((((w.alloc o0).alloc o1).alloc o2).alloc o3).alloc o4).alloc o5).alloc o6).heap[w.heap.size + 1 + 1 + 1 + 1]? = some o4 ∧ (((((((w.alloc o0).alloc o1).alloc o2).alloc o3).alloc o4).alloc o5).alloc o6).heap[w.heap.size + 1 + 1 + 1 + 1 + 1]? = some o5 ∧
    (((((((w.alloc o0).alloc o1).alloc o2).alloc o3).alloc o4).alloc o5).alloc o6).heap[w.heap.size + 1 + 1 + 1 + 1 + 1 + 1]? = some o6 := by
  refine ⟨by simp, ((((((((Below.refl _ w).alloc (Nat.le_refl _) _).alloc (by simp) _).alloc (by simp; omega) _).alloc (by simp; omega) _).alloc (by simp; omega) _).alloc (by simp; omega) _).alloc (by simp; omega) _), ?_⟩
  show (((((((w.heap.push o0).push o1).push o2).push o3).push o4).push o5).push o6)[w.heap.size]? = some o0 ∧ (((((((w.heap.push o0).push o1).push o2).push o3).push o4).push o5).push o6)[w.heap.size + 1]? = some o1 ∧ (((((((w.heap.push o0).push o1).push o2).push o3).push o4).push o5).push o6)[w.heap.size + 1 + 1]? = some o2 ∧ (((((((w.heap.push o0).push o1).push o2).push o3).push o4).push o5).push o6)[w.heap.size + 1 + 1 + 1]? = some o3 ∧
    (((((((w.heap.push o0).push o1).push o2).push o3).push o4).push o5).push o6)[w.heap.size + 1 + 1 + 1 + 1]? = some o4 ∧ (((((((w.heap.push o0).push o1).push o2).push o3).push o4).push o5).push o6)[w.heap.size + 1 + 1 + 1 + 1 + 1]? = some o5 ∧ (((((((w.heap.push o0).push o1).push o2).push o3).push o4).push o5).push o6)[w.heap.size + 1 + 1 + 1 + 1 + 1 + 1]? = some o6
  refine ⟨?_, ?_, ?_, ?_, ?_, ?_, ?_⟩ <;> (simp only [Array.getElem?_push, Array.size_push]; repeat (first | rfl | rw [if_pos (by omega)] | rw [if_neg (by omega)]))

set_option maxRecDepth 100000 in
set_option maxHeartbeats 4000000 in
theorem open_bad (la : Option Addr) (m c : Nat) (lim : Int) (hlim : lim < 1 ∨ 400 < lim) :
    Calls Tryz.prog 22 #[.slice la m c, .int .i64 lim] w fun e w' => e = .returned (.tuple #[.pointer none, errV 1]) ∧ Below w.heap.size w w' := by
  refine (callsIn_wide (n := 4)).1 ?_
  have B2 : Below w.heap.size w ((w.alloc (.cells #[.pointer none] 23)).alloc (.cells #[.nilIface] 25)) := ((Below.refl _ w).alloc (Nat.le_refl _) _).alloc (by simp) _
  have B3 : Below w.heap.size w ((w.alloc (.cells #[.pointer none] 23)).alloc (.cells #[.iface 54 (.int .i64 1)] 25)) := ((Below.refl _ w).alloc (Nat.le_refl _) _).alloc (by simp) _
  by_cases h1 : lim < 1
  · refine callsIn_of_wp_marks Tryz.func22 rfl trivial ?_ rfl
    simp only [Tryz.ntmps22, List.size_toArray, List.length_cons, List.length_nil, Nat.reduceAdd, Nat.reduceSub, Array.replicate_succ, Array.replicate_zero, List.push_toArray, List.append_toArray, List.nil_append, List.cons_append]
    gi_wp2
    exact ⟨.tuple #[.pointer none, .iface 54 (.int .i64 1)], by simp [results, Tryz.results22, go_sem], rfl, B3⟩
  · have h2 : 400 < lim := by omega
    refine callsIn_of_wp_marks Tryz.func22 rfl trivial ?_ rfl
    simp only [Tryz.ntmps22, List.size_toArray, List.length_cons, List.length_nil, Nat.reduceAdd, Nat.reduceSub, Array.replicate_succ, Array.replicate_zero, List.push_toArray, List.append_toArray, List.nil_append, List.cons_append]
    gi_wp2
    exact ⟨.tuple #[.pointer none, .iface 54 (.int .i64 1)], by simp [results, Tryz.results22, go_sem], rfl, B3⟩

end
end Go.Proofs.YtckjcjoheeobgaaGreatDoor
