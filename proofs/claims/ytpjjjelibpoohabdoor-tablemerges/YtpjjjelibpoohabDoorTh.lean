/- Calls on tables, as callers use them. -/
import Derived.Test.YtpjjjelibpoohabDoorTt
namespace Go.Proofs.YtpjjjelibpoohabDoor
open Go.RowKit
set_option linter.unusedVariables false

/-- A byte slice with what it holds. -/
def Bz (u : World) (A : Option Addr) (cap : Nat) (l : List UInt8) : Prop := BsAt u A l ∧ l.length ≤ cap ∧ cap ≤ 9223372036854775807
theorem Bz.keep {u u' : World} {A : Option Addr} {cap : Nat} {l : List UInt8} (h : Bz u A cap l) (hb : Below u.heap.size u u') : Bz u' A cap l := ⟨h.1.keep hb, h.2⟩
theorem own_bz {w : World} {B : Nat} {v : Value} {l : List UInt8} (h : Own B w v l) : ∃ A cap, v = .slice A l.length cap ∧ Bz w A cap l := by
  have hml : maxLen = 9223372036854775807 := rfl
  rcases h.2 with ⟨h0, h1⟩ | ⟨g, cap, cur, h0, hb, hg, hle, hm, hs, ht⟩
  · have e := List.eq_nil_of_length_eq_zero h1
    subst e
    exact ⟨none, 0, h0, .inl rfl, by simp, by omega⟩
  · have h' := h
    rw [h0] at h'
    exact ⟨_, cap, h0, (own_bs h' rfl).1, hle, by omega⟩

theorem build_yes (u : World) (la : Option Addr) (c : Nat) (L : List En) (h : CsAt u la (ecells L)) (hlen : L.length ≤ 9223372036854775807) (hok : ∀ r ∈ L, OkEn r) (hE : entsE L = 0) :
    Calls Tryd.prog 7 #[.slice la L.length c] u fun e u' => ∃ A cap, e = .returned (.tuple #[.slice A (buildB L).length cap, .nilIface]) ∧ Bz u' A cap (buildB L) ∧ Below u.heap.size u u' := by
  refine (build_any u la c L h hlen (fun r hr => by have := hok r hr; exact ⟨by have := this.1; omega, by have := this.2; omega⟩)).mono ?_
  rintro e u' ⟨h1, hb⟩
  rw [if_pos hE] at h1
  obtain ⟨v, rfl, ho⟩ := h1
  obtain ⟨A, cap, rfl, hz⟩ := own_bz ho
  exact ⟨A, cap, rfl, hz, hb⟩
theorem build_no (u : World) (la : Option Addr) (c : Nat) (L : List En) (h : CsAt u la (ecells L)) (hlen : L.length ≤ 9223372036854775807) (hok : ∀ r ∈ L, OkEn r) (hE : ¬ entsE L = 0) :
    Calls Tryd.prog 7 #[.slice la L.length c] u fun e u' => e = .returned (.tuple #[.slice none 0 0, .iface 51 (.int .i64 ((entsE L : Nat) : Int))]) ∧ Below u.heap.size u u' := by
  refine (build_any u la c L h hlen (fun r hr => by have := hok r hr; exact ⟨by have := this.1; omega, by have := this.2; omega⟩)).mono ?_
  rintro e u' ⟨h1, hb⟩
  rw [if_neg hE] at h1
  exact ⟨h1, hb⟩
theorem bld_len {L : List En} (h : entsE L = 0) : (buildB L).length ≤ 140737488355328 := by
  have h1 := lst_len h
  have h2 := num_ten (n := ((lstB enB L).length : Int)) (by omega) (by omega)
  unfold buildB
  rw [seal_len]
  omega
theorem read_yes (u : World) (A : Option Addr) (c : Nat) (L : List En) (hz : Bz u A c (buildB L)) (hE : entsE L = 0) :
    Calls Tryd.prog 9 #[.slice A (buildB L).length c] u fun e u' => ∃ A' c', e = .returned (.tuple #[.slice A' L.length c', .nilIface]) ∧ CsAt u' A' (ecells L) ∧ Below u.heap.size u u' := by
  refine (read_any u A c _ hz.1 (bld_len hE) hz.2.1 hz.2.2).mono ?_
  rintro e u' ⟨h1, hb⟩
  rw [read_build hE] at h1
  obtain ⟨v, rfl, ho⟩ := h1
  obtain ⟨A', c', rfl⟩ := row_slice ho
  exact ⟨A', c', rfl, (own_cs ho (ecells_len L)).1, hb⟩

theorem scan_yes (u : World) (A : Option Addr) (c : Nat) (L : List En) (low high : ByteArray) (hz : Bz u A c (buildB L)) (hE : entsE L = 0) :
    Calls Tryd.prog 12 #[.slice A (buildB L).length c, .string low, .string high] u fun e u' => ∃ A' c', e = .returned (.tuple #[.slice A' (L.filter (inE low high)).length c', .nilIface]) ∧ CsAt u' A' (ecells (L.filter (inE low high))) ∧ (A' = none → c' = 0 ∧ (L.filter (inE low high)).length = 0) ∧ Below u.heap.size u u' := by
  refine (scan_any u A c _ low high hz.1 (bld_len hE) hz.2.1 hz.2.2).mono ?_
  rintro e u' ⟨h1, hb⟩
  rw [read_build hE] at h1
  obtain ⟨v, rfl, ho⟩ := h1
  obtain ⟨A', c', rfl⟩ := row_slice ho
  refine ⟨A', c', rfl, (own_cs ho (ecells_len _)).1, fun hA => ?_, hb⟩
  subst hA
  rcases ho.2 with ⟨h0, h1⟩ | ⟨g, cap, cur, h0, -⟩
  · simp only [Value.slice.injEq] at h0; exact ⟨h0.2.2, h1⟩
  · simp at h0
theorem merge_yes (u : World) (la : Option Addr) (c : Nat) (T : List Tab) (hC : CsAt u la (T.map tabV)) (hT : ∀ t ∈ T, TabOk u t) (hn : T.length ≤ 1000) (Ls : List (List En)) (hA : allR T = some Ls) (R : List En) (hR : mergeP Ls true = R) (hE : entsE R = 0) :
    Calls Tryd.prog 16 #[.slice la T.length c, .bool true] u fun e u' => ∃ A cap, e = .returned (.tuple #[.slice A (buildB R).length cap, .nilIface]) ∧ Bz u' A cap (buildB R) ∧ Below u.heap.size u u' := by
  refine (merge_true u la c T hC hT hn).mono ?_
  rintro e u' ⟨h1, hb⟩
  rw [hA] at h1
  simp only [Option.map_some, hR] at h1
  rw [if_pos hE] at h1
  obtain ⟨v, rfl, ho⟩ := h1
  obtain ⟨A, cap, rfl, hz⟩ := own_bz ho
  exact ⟨A, cap, rfl, hz, hb⟩
theorem tab_ok {u : World} {A : Option Addr} {c : Nat} {L : List En} (hz : Bz u A c (buildB L)) (hE : entsE L = 0) : TabOk u (A, c, buildB L) := ⟨hz.1, bld_len hE, hz.2.1, hz.2.2⟩
theorem cs_two (u : World) (a b : Value) (t : TypeId) : CsAt (u.alloc (.cells #[a, b] t)) (some ⟨u.heap.size, 0, none⟩) [a, b] := by
  refine .inr ⟨_, _, rfl, fun j v hj => ?_⟩
  match j, hj with
  | 0, hj => simp at hj; subst hj; simp
  | 1, hj => simp at hj; subst hj; simp
theorem cs_one (u : World) (a : Value) (t : TypeId) : CsAt (u.alloc (.cells #[a] t)) (some ⟨u.heap.size, 0, none⟩) [a] := by
  refine .inr ⟨_, _, rfl, fun j v hj => ?_⟩
  match j, hj with
  | 0, hj => simp at hj; subst hj; simp
theorem cs_en (u : World) (e : En) (t : TypeId) : CsAt (u.alloc (.cells #[.string e.key, .string e.val, .bool e.dead] t)) (some ⟨u.heap.size, 0, none⟩) (ecells [e]) := by
  refine .inr ⟨_, _, rfl, fun j v hj => ?_⟩
  match j, hj with
  | 0, hj => simp [ecells] at hj; subst hj; simp
  | 1, hj => simp [ecells] at hj; subst hj; simp
  | 2, hj => simp [ecells] at hj; subst hj; simp
theorem ecells_one (l : List En) : ∀ u ∈ ecells l, u.oneCell' = true := by
  induction l with
  | nil => simp [ecells]
  | cons r l ih =>
    intro u hu
    simp only [ecells, List.mem_cons] at hu
    rcases hu with rfl | rfl | rfl | hu
    · rfl
    · rfl
    · rfl
    · exact ih u hu
/-- append of entries to what is owned. -/
theorem append_es {w : World} {ops : Array Oper} {rest : List Oper} {o : Oper} {a : Act} {Q : Exit → Act → World → Prop} (hgd : o.guard = none) (s x : Operand)
    (ho : o.op = .call { callee := .builtin .append, args := #[s, x], argTypes := #[22, 22] })
    (B : Nat) (v : Value) (l : List En) (hs : a.eval s = v) (hown : w.ownsRow B 34 3 v l.length (ecells l)) (ao : Option Addr) (m c : Nat) (r : List En) (hx : a.eval x = .slice ao m c) (hm : m = r.length) (hr : CsAt w ao (ecells r)) (hc : ao = none → c = 0 ∧ r.length = 0)
    (hlim : l.length + r.length ≤ 1000000) (hB : B ≤ w.heap.size)
    (hK : ∀ v' w', w'.ownsRow B 34 3 v' (l ++ r).length (ecells (l ++ r)) → Below B w w' → wpList Tryd.prog ops Q rest (a.put o.dst v') w') : wpList Tryd.prog ops Q (o :: rest) a w := by
  obtain ⟨i0, hi, hz0, hz1, hz2⟩ := info_parts infoEn
  subst hm
  cases ao with
  | none =>
    obtain ⟨hc0, hr0⟩ := hc rfl
    subst hc0
    have hr0 : r = [] := List.length_eq_zero_iff.1 hr0
    subst hr0
    refine wpList_plain hgd fun K hK' => ?_
    have hrun := run_append_owned_none (P := Tryd.prog) w B 22 o.type 34 i0 3 Tryd.underlying22 hi v _ _ hown
    have hx' : a.eval x = .slice none 0 0 := hx
    unfold Oper.wp
    simp [execOp, ho, resolve, invoke, builtin, hs, hx', hrun, Result.andThen]
    exact hK' _ _ (by simpa using hK v w (by simpa using hown) (Below.refl _ _))
  | some ad =>
    refine wpList_append_own w hgd s x 22 ho B 34 i0 (.agg #[.string ⟨#[]⟩, .string ⟨#[]⟩, .bool false]) 3 40 Tryd.underlying22 hi hz0 hz1 hz2 rfl (by decide) v l.length (ecells l) hs hown ad r.length c (ecells r) hx (ecells_len r) ?_ (ecells_one r) (by unfold maxLen; omega) (by omega) hB ?_
    · intro j u hj
      rcases hr with h | ⟨b, o, h, hcell⟩
      · rw [h] at hj; simp at hj
      · simp only [Option.some.injEq] at h
        subst h
        rw [show (⟨b, o, none⟩ : Addr).add j = ⟨b, o + j, none⟩ from by simp [Addr.add]]
        exact hcell j u hj
    · intro v' w' own' grow _
      exact hK v' w' (by rw [ecells_append, List.length_append]; exact own') ((Below.refl _ _).grown grow hB (fun k hk => (hown.lt k hk).1))
end Go.Proofs.YtpjjjelibpoohabDoor
