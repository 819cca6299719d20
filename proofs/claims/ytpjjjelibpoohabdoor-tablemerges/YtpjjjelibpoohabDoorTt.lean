/- Merge, with those that are dead. -/
import Derived.Test.YtpjjjelibpoohabDoorTs
namespace Go.Proofs.YtpjjjelibpoohabDoor
open Go.RowKit
open Go.Maps (string_keyed)
set_option linter.unusedVariables false

/-- A table: where its bytes lie, how much room there is, what they are. -/
abbrev Tab := Option Addr × Nat × List UInt8
def tabV (t : Tab) : Value := .slice t.1 t.2.2.length t.2.1
def TabOk (w : World) (t : Tab) : Prop := BsAt w t.1 t.2.2 ∧ t.2.2.length ≤ 140737488355328 ∧ t.2.2.length ≤ t.2.1 ∧ t.2.1 ≤ 9223372036854775807
theorem TabOk.keep {w w' : World} {t : Tab} (h : TabOk w t) (hb : Below w.heap.size w w') : TabOk w' t := ⟨h.1.keep hb, h.2⟩
/-- What all are read as. -/
def allR : List Tab → Option (List (List En))
  | [] => some []
  | t :: T => match readTb t.2.2 with
    | none => none
    | some x => match allR T with
      | none => none
      | some xs => some (x :: xs)
theorem allR_app : ∀ (a b : List Tab), allR (a ++ b) = match allR a with
    | none => none
    | some x => match allR b with
      | none => none
      | some y => some (x ++ y)
  | [], b => by simp [allR]; cases allR b <;> rfl
  | t :: a, b => by
    rw [List.cons_append, allR, allR, allR_app a b]
    cases readTb t.2.2 with
    | none => rfl
    | some x =>
      cases allR a with
      | none => rfl
      | some y =>
        cases allR b with
        | none => rfl
        | some z => rfl
theorem allR_next {T : List Tab} {k : Nat} (h : k < T.length) {Ls : List (List En)} (ha : allR (T.take k) = some Ls) {x : List En} (hx : readTb T[k].2.2 = some x) : allR (T.take (k + 1)) = some (Ls ++ [x]) := by
  rw [List.take_succ_eq_append_getElem h, allR_app, ha]
  simp [allR, hx]
theorem allR_bad {T : List Tab} {k : Nat} (h : k < T.length) (hx : readTb T[k].2.2 = none) : allR T = none := by
  rw [← List.take_append_drop k T, allR_app, List.drop_eq_getElem_cons h]
  cases allR (T.take k) with
  | none => rfl
  | some y => simp [allR, hx]
/-- How Merge ends. -/
def MgEnd (w : World) (r : Option (List En)) (e : Ending) (w' : World) : Prop :=
  (match r with
   | none => e = .returned (.tuple #[.slice none 0 0, .iface 51 (.int .i64 9)])
   | some R => if entsE R = 0 then ∃ v, e = .returned (.tuple #[v, .nilIface]) ∧ Own w.heap.size w' v (buildB R) else e = .returned (.tuple #[.slice none 0 0, .iface 51 (.int .i64 (entsE R))])) ∧ Below w.heap.size w w'
theorem MgEnd.no {w w' : World} {r : Option (List En)} (hr : r = none) (hb : Below w.heap.size w w') : MgEnd w r (.returned (.tuple #[.slice none 0 0, .iface 51 (.int .i64 9)])) w' := by
  subst hr; exact ⟨rfl, hb⟩
theorem MgEnd.yes {w u w' : World} {r : Option (List En)} {R : List En} {e : Ending} (hr : r = some R) (h : BdEnd u R e w') (hb : Below w.heap.size w u) : MgEnd w r e w' := by
  subst hr
  refine ⟨?_, hb.trans (h.2.mono hb.size)⟩
  have h1 := h.1
  simp only
  by_cases hE : entsE R = 0
  · rw [if_pos hE] at h1 ⊢
    obtain ⟨v, h2, h3⟩ := h1
    exact ⟨v, h2, own_mono h3 hb.size⟩
  · rw [if_neg hE] at h1 ⊢
    exact h1
theorem bdEnd_ret {w w' : World} {R : List En} {e : Ending} (h : BdEnd w R e w') : ∃ v i, e = .returned (.tuple #[v, i]) := by
  obtain ⟨h1, -⟩ := h
  split at h1
  · obtain ⟨v, h2, -⟩ := h1; exact ⟨_, _, h2⟩
  · exact ⟨_, _, h1⟩
theorem firE_sub (l : List En) : ∀ e ∈ firE l, e ∈ l := fun e he => List.mem_of_find?_eq_some ((firE_iff l e).1 he)
theorem allR_fine : ∀ {T : List Tab} {Ls : List (List En)}, allR T = some Ls → ∀ e ∈ Ls.flatten, Fine e
  | [], Ls, h, e, he => by simp [allR] at h; subst h; simp at he
  | t :: T, Ls, h, e, he => by
    rw [allR] at h
    split at h
    · cases h
    · rename_i x hx
      split at h
      · cases h
      · rename_i xs hxs
        injection h with h
        subst h
        rw [List.flatten_cons] at he
        rcases List.mem_append.1 he with h1 | h1
        · exact (ents_zero (readTb_some hx).1).2.1 e h1
        · exact allR_fine hxs e h1

theorem putE_len (e : En) : ∀ l : List En, (putE l e).length ≤ l.length + 1
  | [] => by simp [putE]
  | x :: l => by
    have := putE_len e l
    unfold putE
    split
    · simp only [List.length_cons]; omega
    · split
      · simp
      · simp
theorem firE_len : ∀ (l acc : List En), (l.foldl putE acc).length ≤ acc.length + l.length
  | [], acc => by simp
  | e :: l, acc => by
    have h1 := firE_len l (putE acc e)
    have h2 := putE_len e acc
    simp only [List.foldl_cons, List.length_cons]
    omega
theorem allR_len : ∀ {T : List Tab} {Ls : List (List En)}, allR T = some Ls → Ls.flatten.length ≤ 400 * T.length
  | [], Ls, h => by simp [allR] at h; subst h; simp
  | t :: T, Ls, h => by
    rw [allR] at h
    split at h
    · cases h
    · rename_i x hx
      split at h
      · cases h
      · rename_i xs hxs
        injection h with h
        subst h
        have h1 := (ents_zero (readTb_some hx).1).1
        have h2 := allR_len hxs
        simp only [List.flatten_cons, List.length_append, List.length_cons]
        omega

set_option maxRecDepth 100000 in
set_option maxHeartbeats 4000000 in
theorem merge_true (w : World) (la : Option Addr) (c : Nat) (T : List Tab) (hC : CsAt w la (T.map tabV)) (hT : ∀ t ∈ T, TabOk w t) (hn : T.length ≤ 1000) :
    Calls Tryd.prog 16 #[.slice la T.length c, .bool true] w fun e w' => MgEnd w ((allR T).map fun Ls => mergeP Ls true) e w' := by
  have hmm := @run_makeMap Tryd.prog
  have hmx : maxLen = 9223372036854775807 := rfl
  have hml : (w.alloc (.map #[] 0)).ownsMap Tryd.prog 9 enR w.heap.size 0 (.map []) := World.ownsMap_made w Tryd.prog 9 enR
  have hB0 : Below w.heap.size w (w.alloc (.map #[] 0)) := (Below.refl _ w).alloc (Nat.le_refl _) _
  have kC := Lib.hid (fun (u : World) (hb : Below w.heap.size w u) => hC.keep hb)
  have kT := Lib.hid (fun (u : World) (hb : Below w.heap.size w u) (t : Tab) (ht : t ∈ T) => (hT t ht).keep hb)
  have s0 : w.heap.size < (w.alloc (.map #[] 0)).heap.size := by simp
  clear hC hT
  go_enter Tryd.func16, Tryd.ntmps16
  go_wp2_with fail
  go_loopw [14] (fun i wr => ∃ (k n : Nat) (D : DataW Unit) (Ls : List (List En)), k ≤ T.length ∧ i = .int .i64 k ∧ allR (T.take k) = some Ls ∧ n ≤ 400 * k ∧ wr.ownsMap Tryd.prog 9 enR w.heap.size n D ∧ MapIs D (stE Ls.flatten) ∧ Below w.heap.size w wr ∧ w.heap.size < wr.heap.size) (fun i _ => T.length - (intOf i).toNat)
  case atStart => exact ⟨0, 0, .map [], [], by omega, rfl, rfl, by omega, hml, mapIs_nil, hB0, s0⟩
  case round =>
    obtain ⟨k, n, D, Ls, hk, rfl, ha, hn', ho, hD, hb, hs⟩ := hrel
    clear hml hB0 s0
    by_cases hlt : k < T.length
    · have hC1 := kC.out wr hb
      obtain ⟨b, o, rfl, hcell⟩ := hC1.at (fun e => by have h0 := congrArg List.length e; rw [List.length_map] at h0; simp only [List.length_nil] at h0; omega)
      have c0 := hcell k (tabV T[k]) (by simp [hlt])
      have hok := kT.out wr hb _ (List.getElem_mem hlt)
      have HRd := read_any wr T[k].1 T[k].2.1 T[k].2.2 hok.1 hok.2.1 hok.2.2.1 hok.2.2.2
      cases hr : readTb T[k].2.2 with
      | none =>
        have HNo := Lib.hid (allR_bad hlt hr)
        rw [hr] at HRd
        simp only [RtEnd] at HRd
        generalize T[k] = t at *
        obtain ⟨tp, tc, tl⟩ := t
        simp only [tabV] at c0 HRd
        clear hcell hok hr ha hD ho
        go_wp2_with (go_at_call 9; refine HRd.mono ?_; rintro e u1 ⟨rfl, b1⟩)
        go_ret2
        exact MgEnd.no (by rw [HNo.out]; rfl) (hb.trans (b1.mono hb.size))
      | some x =>
        have HNx := Lib.hid (allR_next hlt ha hr)
        obtain ⟨hx4, hxf, hxr⟩ := ents_zero (readTb_some hr).1
        have hxk : ∀ e ∈ x, e.key.size ≤ maxLen := fun e he => by have := (en_len (hxf e he).1).2.1; omega
        rw [hr] at HRd
        simp only [RtEnd] at HRd
        generalize T[k] = t at *
        obtain ⟨tp, tc, tl⟩ := t
        simp only [tabV] at c0 HRd
        clear hcell hok hr ha hxf hxr
        go_wp2_with (go_at_call 9; refine HRd.mono ?_; rintro e u1 ⟨⟨v1, rfl, own1⟩, b1⟩; obtain ⟨A1, c1, rfl⟩ := row_slice own1; refine Hid.out ?_)
        refine Lib.hid ?_
        have ho1 : u1.ownsMap Tryd.prog 9 enR w.heap.size n D := own_block ho (b1.block _ hs)
        have hCx := (own_cs own1 (ecells_len x)).1
        have hoff : ∀ a, A1 = some a → a.block ≠ w.heap.size := fun a ha => by
          have := (own1.lt a.block (by rw [ha]; rcases own1.2 with ⟨e0, -⟩ | ⟨g, cap, cur, e0, -⟩
                                       · rw [ha] at e0; cases e0
                                       · rw [ha] at e0; simp only [Value.slice.injEq] at e0; obtain ⟨e1, -⟩ := e0; injection e1 with e1; rw [e1]; rfl)).1
          omega
        have hs1 : w.heap.size < u1.heap.size := Nat.lt_of_lt_of_le hs b1.size
        have HAd := addNew_any u1 w.heap.size n D Ls.flatten A1 c1 x ho1 hD hs1 hCx hoff hx4 (by omega) hxk
        have B1 := hb.trans (b1.mono hb.size)
        clear HRd own1 hCx hoff hD ho ho1 b1
        go_wp2_with (go_at_call 29; refine HAd.mono ?_; rintro e u2 ⟨rfl, ⟨n2, D2, hn2, ho2, hD2⟩, f2⟩; refine Hid.out ?_)
        refine Lib.hid ?_
        have B2 : Below w.heap.size w u2 := B1.trans (f2.toBelow B1.size (by simp))
        have hs2 : w.heap.size < u2.heap.size := Nat.lt_of_lt_of_le hs1 f2.size
        clear HAd f2 B1
        go_wp2_with fail
        go_roundw
        case rel => exact ⟨k + 1, n2, D2, Ls ++ [x], by omega, by go_num, HNx.out, by omega, ho2, by simpa using hD2, B2, hs2⟩
        case measure => simp [intOf]; omega
    · have e : T.take k = T := List.take_of_length_le (by omega)
      rw [e] at ha
      have HV := vals_any w.heap.size wr
      have HAl := Lib.hid ha
      have B1 : Below w.heap.size w (wr.alloc (.cells #[.map (some w.heap.size)] 63)) := hb.alloc hb.size _
      have ho1 : (wr.alloc (.cells #[.map (some w.heap.size)] 63)).ownsMap Tryd.prog 9 enR w.heap.size n D := ho.alloc _
      have HSo := sorted_any wr.heap.size w.heap.size n D Ls.flatten (wr.alloc (.cells #[.map (some w.heap.size)] 63)) (by simp) (by simp) ho1 (by omega) hD
      have hfine := allR_fine ha
      have hfk : ∀ r ∈ firE Ls.flatten, r.key.size ≤ 9223372036854775807 ∧ r.val.size ≤ 9223372036854775807 := fun r hr => by
        have := en_len (hfine r (firE_sub _ r hr)).1
        omega
      have hfl : (firE Ls.flatten).length ≤ 9223372036854775807 := by
        have h1 := firE_len Ls.flatten []
        have h2 := allR_len ha
        unfold firE
        simp only [List.length_nil, Nat.zero_add] at h1
        omega
      have HMg : Hid ((allR T).map (fun Ls => mergeP Ls true) = some (firE Ls.flatten)) := Lib.hid (by rw [ha]; simp [mergeP])
      generalize firE Ls.flatten = R at *
      clear ha ho hD hfine e ho1
      go_wp2_with (first | (go_at_call 33; refine HV.mono ?_; rintro e u1 ⟨rfl, rfl⟩) | (go_at_call 32; refine HSo.mono ?_; rintro e u2 ⟨A2, c2, rfl, hC2, b2⟩; refine Hid.out ?_))
      refine Lib.hid ?_
      have B2 := B1.trans (b2.mono B1.size)
      have HBu := build_any u2 A2 c2 R hC2 hfl hfk
      clear HV HSo b2 B1 hC2
      go_wp2_with (go_at_call 7; refine HBu.mono ?_; intro e u3 hE; obtain ⟨v3, i3, rfl⟩ := bdEnd_ret hE; refine Hid.out ?_)
      refine Lib.hid ?_
      have HE := Lib.hid (MgEnd.yes HMg.out hE B2)
      clear HBu hE
      go_wp2_with fail
      go_ret2
      exact HE.out
end Go.Proofs.YtpjjjelibpoohabDoor
