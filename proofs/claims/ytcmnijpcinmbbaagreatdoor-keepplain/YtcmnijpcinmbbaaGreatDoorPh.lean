/- Latest: the walk. -/
import Derived.Test.YtcmnijpcinmbbaaGreatDoorPg
namespace Go.Proofs.YtcmnijpcinmbbaaGreatDoor
open Go.RowKit Go.Shelf
set_option linter.unusedVariables false
attribute [local go_sem] Oper.semAt_some
/-- How Latest ends. -/
def LatEnd (w : World) (P : Pc) (e : Ending) (w' : World) : Prop := Below w.heap.size w w' ∧
  ((IdsIs P [] ∧ e = .returned (.tuple #[.int .i64 0, .slice none 0 0, erV 6])) ∨
    ∃ r m x v, IdsIs P (r ++ [m]) ∧ P m = some x ∧ e = .returned (.tuple #[.int .i64 m, v, .nilIface]) ∧ Own w.heap.size w' v x)
theorem LtAt.cells {w W : World} {B : Nat} {a b c : Value} (h : LtAt w B a b c W) :
    (W.cell? ⟨w.heap.size, 0, none⟩ = some (.pointer (some ⟨B, 0, none⟩)) ∧ W.cell? ⟨w.heap.size + 1, 0, none⟩ = some a ∧ W.cell? ⟨w.heap.size + 2, 0, none⟩ = some b ∧ W.cell? ⟨w.heap.size + 3, 0, none⟩ = some c) ∧
    W.frozen? ⟨w.heap.size + 1, 0, none⟩ = false ∧ W.frozen? ⟨w.heap.size + 2, 0, none⟩ = false ∧ W.frozen? ⟨w.heap.size + 3, 0, none⟩ = false := by
  simp [World.cell?, World.frozen?, h.bx, h.r0, h.r1, h.r2]
section
variable {lo : Nat} {w : World} {B M : Nat} {uv : Value} {d : Ds} {n : Nat} {P : Pc}
set_option maxRecDepth 100000 in
set_option maxHeartbeats 4000000 in
theorem latest_any (h : DkS lo w B M uv d n) (hk : KpIs d.σ P) (hT : KT lo w) (hn : n ≤ 1000000) :
    Calls Tryz.prog 9 #[.pointer (some ⟨B, 0, none⟩)] w (LatEnd w P) := by
  have hlo := h.lole
  refine (callsIn_wide (n := 4)).1 ?_
  have f6 : Fence.wide.fn 24 := trivial
  have f7 : Fence.wide.fn 25 := trivial
  obtain ⟨hL0, hz0⟩ := lt_start w B
  have HI := ids_any (h.keep hL0.below) hk (hT.on (hL0.below.mono hlo)) hn
  refine callsIn_of_wp_marks Tryz.func9 rfl trivial ?_ rfl
  simp only [Tryz.ntmps9, List.size_toArray, List.length_cons, List.length_nil, Nat.reduceAdd, Nat.reduceSub, Array.replicate_succ, Array.replicate_zero, List.push_toArray, List.append_toArray, List.nil_append, List.cons_append]
  gi_wp2_with (gi_at_call 25; refine Hid.out ?_)
  refine Lib.hid ?_
  generalize ((((w.alloc (.cells #[.pointer (some ⟨B, 0, none⟩)] 24)).alloc (.cells #[.int .i64 0] 3)).alloc (.cells #[.slice none 0 0] 23)).alloc (.cells #[.nilIface] 28)) = w4 at *
  refine (callsIn_wide.2 HI).mono ?_
  rintro e w5 ⟨v, l, rfl, hl, ho, hln, hb5⟩
  obtain ⟨A5, c5, rfl, hc1, hc2, hg5⟩ := ownI_slice ho
  have hL5 := hL0.call hb5
  gi_wp2_with (gi_at_call 24; refine (iback_in Fence.wide 3 trivial rfl _ _ _ _).mono ?_; rintro e w' ⟨rfl, rfl⟩)
  have hmem : ∀ t ∈ l, (P t).isSome = true := fun t ht => (hl.2 t).1 ht
  obtain ⟨g, hgl, hgx⟩ : ∃ g, g < w5.heap.size ∧ (l ≠ [] → A5 = some ⟨g, 0, none⟩) := by
    by_cases hne : l = []
    · exact ⟨0, by have := hL5.size; omega, fun h => absurd hne h⟩
    · obtain ⟨g, h1, h2, h3⟩ := hg5 hne
      exact ⟨g, h3, fun _ => h1⟩
  obtain ⟨w6, hw6⟩ : ∃ w6, w6 = w5.alloc (.cells #[.slice A5 l.length c5] 22) := ⟨_, rfl⟩
  have hb6 : Below w5.heap.size w5 w6 := by rw [hw6]; exact (Below.refl _ w5).alloc (Nat.le_refl _) _
  have hz6 : w6.heap.size = w5.heap.size + 1 := by rw [hw6]; simp
  have hc6 : w6.cell? ⟨w5.heap.size, 0, none⟩ = some (.slice A5 (ivOf l hmem).length c5) := by rw [hw6, ivOf_len]; simp
  have hIS : IvSl g w6 A5 (ivOf l hmem) := by
    by_cases hne : l = []
    · exact .inl (List.length_eq_zero_iff.1 (by rw [ivOf_len, hne]; rfl))
    · refine .inr ⟨0, hgx hne, fun j hj => ⟨(ivOf_at j hj).1, ?_⟩⟩
      have hj' : j < l.length := by rw [ivOf_len] at hj; exact hj
      have ho' := ho
      rw [hgx hne] at ho'
      rw [(ivOf_at j hj).2, Nat.zero_add, hb6.cell (p := ⟨g, j, none⟩) hgl]
      exact ownI_cell ho' j hj'
  have hL6 := hL5.call hb6
  rw [← hw6]
  have h1 : 1 ≤ 4 := by omega
  have HD := Lib.hid (fun (W : World) (hb : Below w.heap.size w W) (id : Int) (hid : IdOk id) => readK_any (h.keep hb) hk (hT.on (hb.mono hlo)) hid)
  have HL := Lib.hid hl
  have hxl : Hid ((ivOf l hmem).map (·.x) = l) := ivOf_map
  have hxn : Hid ((ivOf l hmem).length = l.length) := ivOf_len
  have hll : l.length ≤ 1000000 := by omega
  generalize ivOf l hmem = xs at *
  clear hw6 h HI hgx hg5 hmem ho
  refine wpIn_rangeFunc_ownH (F := Fence.wide) (n := 4) (encs := encIv) rfl h1 (gf := 42) (lb := #[.pointer (some ⟨w5.heap.size, 0, none⟩)]) rfl trivial (enters_of Tryz.func42 (by kernel_rfl) rfl)
    (iback_stops Fence.wide 3 trivial rfl (by omega) w5.heap.size g c5 A5 xs (by have := hxn.out; omega) w6 (by omega) (fun _ => by omega) hc6 hIS) (fun h k => Kq.trans h k) ?hKb (Below.refl _ _) (fun _ => rfl)
    (fun pre W => pre = [] ∧ LtAt w B (.int .i64 0) (.slice none 0 0) .nilIface W)
    (fun c pre W => c = .ret ∧ ∃ x y v, pre = [x] ∧ P x.x = some y ∧ LtAt w B (.int .i64 x.x) v .nilIface W ∧ Own w.heap.size W v y) ?hI ?hIx ?h0
    (fun x a' W => a' = { tmps := #[.pointer (some ⟨B, 0, none⟩), .pointer (some ⟨w.heap.size, 0, none⟩), .pointer (some ⟨w.heap.size + 1, 0, none⟩), .pointer (some ⟨w.heap.size + 2, 0, none⟩), .pointer (some ⟨w.heap.size + 3, 0, none⟩), undef, .int .i64 x.x, undef, undef, .pointer (some ⟨B, 0, none⟩), .slice A5 l.length c5, .func (.func 42) #[] #[.pointer (some ⟨w5.heap.size, 0, none⟩)], .int .i64 x.i, .int .i64 x.x, undef, undef, undef, undef, undef, undef, undef, undef, undef, undef, undef], defers := [] }) ?hAx ?assign ?body ?done ?stop
  case hKb => exact fun W l o o' hl _ _ _ k hk => World.putObj_heap_other (by rcases hk with hk | hk <;> omega)
  case hI =>
    rintro p A' B' row ⟨rfl, hh⟩ hg' hr
    have hkk : ∀ (k : Nat) (cur : Array Value) (e : TypeId) (f : Nat × Nat), A'.heap[k]? = some (.cells cur e f) → B'.heap[k]? = some (.cells cur e f) := fun k cur e f hk => (hg'.block k (Array.getElem?_eq_some_iff.1 hk).1 (fun e => by
      obtain ⟨-, o, ho, hno⟩ := hr k e.symm
      rw [hk] at ho; injection ho with ho; subst ho; cases hno)).trans hk
    exact ⟨rfl, hh.blocks (hh.below.grown hg' hh.below.size (fun k e => by have := (hr k e).1; have := hL6.below.size; omega)) hg'.size hkk⟩
  case hIx =>
    rintro c p A' B' row ⟨rfl, x, y, v, rfl, hP, hh, hown⟩ hg' hr
    have hkk : ∀ (k : Nat) (cur : Array Value) (e : TypeId) (f : Nat × Nat), A'.heap[k]? = some (.cells cur e f) → B'.heap[k]? = some (.cells cur e f) := fun k cur e f hk => (hg'.block k (Array.getElem?_eq_some_iff.1 hk).1 (fun e => by
      obtain ⟨-, o, ho, hno⟩ := hr k e.symm
      rw [hk] at ho; injection ho with ho; subst ho; cases hno)).trans hk
    refine ⟨rfl, x, y, v, rfl, hP, hh.blocks (hh.below.grown hg' hh.below.size (fun k e => by have := (hr k e).1; have := hL6.below.size; omega)) hg'.size hkk, own_block hown (fun gg hgg => ?_)⟩
    obtain ⟨cur, hcur⟩ := own_cells hown hgg
    rw [hcur]; exact hkk _ _ _ _ hcur
  case h0 => exact ⟨rfl, hL6⟩
  case hAx => exact fun x a' s A' B' row hs _ _ => hs
  case assign =>
    intro l' pre x W K hi hK
    unfold encIv
    gi_wp2
    exact hK _ _ (KeepsFrom.refl _ _) (Kq.refl _ _ _) hi rfl
  case body =>
    rintro l' pre x a' W hl' ⟨r, hr⟩ ⟨rfl, hh⟩ rfl hlt
    have hfn : (Fence.wide.inRound l').fn 26 := trivial
    have hfn' : Fence.wide.fn 26 := trivial
    obtain ⟨⟨c0, c1, c2, c3⟩, f1, f2, f3⟩ := hh.cells
    have hsz := hh.size
    obtain ⟨y, hy⟩ := Option.isSome_iff_exists.1 x.ok
    have HR := HD.out W hh.below x.x (hk.ok _ x.ok)
    rw [hy] at HR
    have HH := Lib.hid hh
    clear hh
    gi_wp2_with (gi_at_call 26; refine (CallsIn.inRound l' (callsIn_wide.2 HR)).mono ?_; rintro e W1 ⟨hb1, v1, rfl, ho1⟩; obtain ⟨A1, cp1, rfl⟩ := own_slice ho1; have h1 := HH.out.call hb1; obtain ⟨⟨c0, c1, c2, c3⟩, f1, f2, f3⟩ := h1.cells; have hsz1 := h1.size; have hl1 : w.heap.size + 1 < W1.heap.size := (by omega); have hl2 : w.heap.size + 2 < W1.heap.size := (by omega); have hl3 : w.heap.size + 3 < W1.heap.size := (by omega); have HH1 := Lib.hid h1; clear h1)
    obtain ⟨hT3, hK3⟩ := lt_three HH1.out (.int .i64 x.x) (.slice A1 y.length cp1) .nilIface
    refine ⟨?_, rfl, x, y, _, by simp, hy, hT3, ?_⟩
    · refine (keeps_below hb1).trans ⟨by simp, fun k o hk1 hk2 _ => ?_⟩
      rw [hK3 k (by have := hL5.size; omega) (by have := hL5.size; omega) (by have := hL5.size; omega)]; exact hk2
    · refine own_block (own_mono ho1 HH.out.below.size) (fun gg hgg => hK3 gg ?_ ?_ ?_)
      all_goals (have := (ho1.lt gg hgg).1; omega)
  case done =>
    rintro D ys W hD hys ⟨hnil, hh⟩ hKD
    have hx0 : xs = [] := by rw [hnil] at hys; simpa using hys.symm
    have hl0 : l = [] := List.length_eq_zero_iff.1 (by rw [← hxn.out, hx0]; rfl)
    obtain ⟨⟨c0, c1, c2, c3⟩, f1, f2, f3⟩ := hh.cells
    have hsz := hh.size
    have hl1 : w.heap.size + 1 < W.heap.size := by omega
    have hl2 : w.heap.size + 2 < W.heap.size := by omega
    have hl3 : w.heap.size + 3 < W.heap.size := by omega
    obtain ⟨hT3, hK3⟩ := lt_three hh (.int .i64 0) (.slice none 0 0) (.iface 47 (.int .i64 6))
    have hDl : w5.heap.size + 1 ≤ D := by omega
    have hs5 := hL5.size
    have hKD2 := (hK3 D (by omega) (by omega) (by omega)).trans hKD
    have HT3 := Lib.hid hT3
    have HKD := Lib.hid hKD2
    clear hT3 hK3 hh hKD2
    gi_wp2
    refine ⟨by simp, .inl ⟨_, _, rfl, run_takeDeferred HKD.out, ?_⟩⟩
    have hT := HT3.out
    generalize (((W.setCell ⟨w.heap.size + 1, 0, none⟩ (.int .i64 0)).setCell ⟨w.heap.size + 2, 0, none⟩ (.slice none 0 0)).setCell ⟨w.heap.size + 3, 0, none⟩ (.iface 47 (.int .i64 6))) = W3 at *
    have hkk : ∀ k, k < w5.heap.size + 1 → (W3.putObj D (.deferred none)).heap[k]? = W3.heap[k]? := fun k hk => World.putObj_heap_other (by omega)
    have q0 : (W3.putObj D (.deferred none)).cell? ⟨w.heap.size + 1, 0, none⟩ = some (.int .i64 0) := by simp [World.cell?, hkk (w.heap.size + 1) (by omega), hT.r0]
    have q1 : (W3.putObj D (.deferred none)).cell? ⟨w.heap.size + 2, 0, none⟩ = some (.slice none 0 0) := by simp [World.cell?, hkk (w.heap.size + 2) (by omega), hT.r1]
    have q2 : (W3.putObj D (.deferred none)).cell? ⟨w.heap.size + 3, 0, none⟩ = some (.iface 47 (.int .i64 6)) := by simp [World.cell?, hkk (w.heap.size + 3) (by omega), hT.r2]
    refine ⟨.tuple #[.int .i64 0, .slice none 0 0, erV 6], by simp [results, Tryz.results9, go_sem, q0, q1, q2, erV_6], hT.below.grown (grownBy_putObj' W3 D (.deferred none)) hT.below.size (fun k e => by injection e with e; have := hL0.below.size; omega), .inl ⟨by rw [← hl0]; exact HL.out, rfl⟩⟩
  case stop =>
    rintro D c pre W hD ⟨k, hpre⟩ ⟨rfl, x, y, v, rfl, hP, hh, hown⟩ hKD
    have hDl : w5.heap.size + 1 ≤ D := by omega
    have hs5 := hL5.size
    gi_wp2
    refine ⟨by simp, .inl ⟨_, _, rfl, run_takeDeferred hKD, ?_⟩⟩
    have hkk : ∀ k, k < w5.heap.size + 1 → (W.putObj D (.deferred none)).heap[k]? = W.heap[k]? := fun k hk => World.putObj_heap_other (by omega)
    have q0 : (W.putObj D (.deferred none)).cell? ⟨w.heap.size + 1, 0, none⟩ = some (.int .i64 x.x) := by simp [World.cell?, hkk (w.heap.size + 1) (by omega), hh.r0]
    have q1 : (W.putObj D (.deferred none)).cell? ⟨w.heap.size + 2, 0, none⟩ = some v := by simp [World.cell?, hkk (w.heap.size + 2) (by omega), hh.r1]
    have q2 : (W.putObj D (.deferred none)).cell? ⟨w.heap.size + 3, 0, none⟩ = some .nilIface := by simp [World.cell?, hkk (w.heap.size + 3) (by omega), hh.r2]
    have hlast : ∃ r, l = r ++ [x.x] := by
      have h1 : (xs.drop k).reverse = [x] := hpre.symm
      have h2 : xs.drop k = [x] := by have := congrArg List.reverse h1; simpa using this
      refine ⟨(xs.take k).map (·.x), ?_⟩
      rw [← hxl.out]
      conv => lhs; rw [← List.take_append_drop k xs, h2]
      simp
    obtain ⟨r, hlr⟩ := hlast
    refine ⟨.tuple #[.int .i64 x.x, v, .nilIface], by simp [results, Tryz.results9, go_sem, q0, q1, q2], hh.below.grown (grownBy_putObj' W D (.deferred none)) hh.below.size (fun k e => by injection e with e; have := hL0.below.size; omega), .inr ⟨r, x.x, y, v, by rw [← hlr]; exact HL.out, hP, rfl, own_block hown (fun gg hgg => ?_)⟩⟩
    obtain ⟨cur, hcur⟩ := own_cells hown hgg
    exact World.putObj_heap_other (fun e => by rw [← e, hcur] at hKD; injection hKD with hKD; cases hKD)
end
end Go.Proofs.YtcmnijpcinmbbaaGreatDoor
