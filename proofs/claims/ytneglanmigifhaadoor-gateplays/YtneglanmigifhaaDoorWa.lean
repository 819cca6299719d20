/- The document's gate in memory. -/
import Derived.Test.YtneglanmigifhaaDoorVi
import Derived.Test.YtneglanmigifhaaDoorVk
namespace Go.Proofs.YtneglanmigifhaaDoor
open Go.ChangeShapes Go.WideShapes Go.RowKit
set_option linter.unusedVariables false
/-- What the document's gate turns: itself, its rows of rows, its rows of numbers. -/
def TurnsD (o : Obj) : Prop := ∃ cur, o = .cells cur 33 (0, 0) ∨ o = .cells cur 46 (0, 0) ∨ o = .cells cur 3 (0, 0)
structure FrD (lo : Nat) (w w' : World) : Prop where
  os : w'.os = w.os
  tape : w'.tape = w.tape
  output : w'.output = w.output
  size : w.heap.size ≤ w'.heap.size
  low : ∀ k, k < lo → w'.heap[k]? = w.heap[k]?
  kept : ∀ (k : Nat) (o : Obj), w.heap[k]? = some o → ¬ TurnsD o → w'.heap[k]? = some o
theorem FrD.refl (lo : Nat) (w : World) : FrD lo w w := ⟨rfl, rfl, rfl, Nat.le_refl _, fun _ _ => rfl, fun _ _ h _ => h⟩
theorem FrD.trans {lo : Nat} {a b c : World} (h : FrD lo a b) (k : FrD lo b c) : FrD lo a c :=
  ⟨k.os.trans h.os, k.tape.trans h.tape, k.output.trans h.output, Nat.le_trans h.size k.size, fun i hi => (k.low i hi).trans (h.low i hi), fun i o hi ho => k.kept i o (h.kept i o hi ho) ho⟩
theorem FrD.below {lo : Nat} {w w' : World} (h : Below w.heap.size w w') (hlo : lo ≤ w.heap.size) : FrD lo w w' :=
  ⟨h.os, h.tape, h.output, h.size, fun k hk => h.block k (by omega), fun k o hk _ => by rw [h.block k (some_lt hk)]; exact hk⟩
theorem FrD.toBelow {lo : Nat} {w w' : World} (h : FrD lo w w') : Below lo w w' := ⟨h.os, h.tape, h.output, h.size, h.low⟩
theorem FrD.setCell {lo : Nat} {w : World} {p : Addr} (hp : lo ≤ p.block) (ht : ∀ o, w.heap[p.block]? = some o → TurnsD o) (v : Value) : FrD lo w (w.setCell p v) :=
  ⟨rfl, rfl, rfl, by simp, fun k hk => Below.heap_setCell _ _ _ _ (by omega), fun k o hk ho => by
    rw [Below.heap_setCell _ _ _ _ (fun e => by subst e; exact ho (ht o hk))]; exact hk⟩
theorem notTurnsD {cur : Array Value} {ty : TypeId} (ht : ty ≠ 33 ∧ ty ≠ 46 ∧ ty ≠ 3) : ¬ TurnsD (.cells cur ty (0, 0)) := by
  rintro ⟨c, h | h | h⟩ <;> (injection h with h1 h2 h3; subst h2; simp at ht)
/-- What a gate turns, the document's does not. -/
theorem turns_apart {o : Obj} (h : Turns o) : ¬ TurnsD o := by
  obtain ⟨c, rfl | rfl | rfl⟩ := h <;> exact notTurnsD (by decide)
theorem GX.frd {lo lo' : Nat} {w w' : World} {B : Nat} {g : Gt Rg} (h : GX lo w B g) (f : FrD lo' w w') : GX lo w' B g := h.stays (fun k o hk ho => f.kept k o hk (turns_apart ho))
/-- A row of items that are only read. -/
def RwAt (w : World) (v : Value) (l : List Itm) : Prop := ∃ p c, v = .slice p l.length c ∧ l.length ≤ c ∧ c ≤ maxLen ∧ (p = none → c = 0) ∧ (l = [] ∨ ∃ b o cur, p = some ⟨b, o, none⟩ ∧ w.heap[b]? = some (.cells cur 40 (0, 0)) ∧ ∀ j u, (icells l)[j]? = some u → cur[o + j]? = some u)
theorem RwAt.block {w w' : World} {v : Value} {l : List Itm} (h : RwAt w v l) (hk : ∀ (k : Nat) (cur : Array Value), w.heap[k]? = some (.cells cur 40 (0, 0)) → w'.heap[k]? = some (.cells cur 40 (0, 0))) : RwAt w' v l := by
  obtain ⟨p, c, h1, h2, h3, h4, h5⟩ := h
  refine ⟨p, c, h1, h2, h3, h4, h5.imp id ?_⟩
  rintro ⟨b, o, cur, e, hb, hc⟩
  exact ⟨b, o, cur, e, hk b cur hb, hc⟩
theorem RwAt.head {w : World} {v : Value} {x : Itm} {l : List Itm} (h : RwAt w v (x :: l)) : ∃ b o c, v = .slice (some ⟨b, o, none⟩) (l.length + 1) c ∧ l.length + 1 ≤ c ∧ c ≤ maxLen ∧ w.cell? ⟨b, o, none⟩ = some (.string (recOf x).key) ∧ w.cell? ⟨b, o + 1, none⟩ = some (.int .i64 (recOf x).num) ∧ w.cell? ⟨b, o + 2, none⟩ = some (.int .i64 (recOf x).tm) ∧ w.cell? ⟨b, o + 3, none⟩ = some (.int .i64 (idOf x)) ∧ b < w.heap.size ∧
    ∀ v', v' = .slice (if c = 1 then some ⟨b, o, none⟩ else some ⟨b, o + 4, none⟩) l.length (c - 1) → RwAt w v' l := by
  obtain ⟨p, c, h1, h2, h3, h4, h5⟩ := h
  rcases h5 with h5 | ⟨b, o, cur, rfl, hb, hc⟩
  · cases h5
  · have hi : ∀ j u, (icells (x :: l))[j]? = some u → w.cell? ⟨b, o + j, none⟩ = some u := fun j u hu => by
      simp only [World.cell?, hb]; exact hc j u hu
    refine ⟨b, o, c, h1, h2, h3, hi 0 _ (by rw [icells, icell_is]; rfl), hi 1 _ (by rw [icells, icell_is]; rfl), hi 2 _ (by rw [icells, icell_is]; rfl), hi 3 _ (by rw [icells, icell_is]; rfl), some_lt hb, ?_⟩
    rintro v' rfl
    rw [List.length_cons] at h2
    refine ⟨_, c - 1, rfl, by omega, by omega, (fun e => by split at e <;> cases e), ?_⟩
    by_cases hc1 : c = 1
    · left; exact List.length_eq_zero_iff.1 (by omega)
    · right
      rw [if_neg hc1]
      refine ⟨b, o + 4, cur, rfl, hb, fun j u hu => ?_⟩
      have := hc (4 + j) u (by rw [icells, List.getElem?_append_right (by rw [icell_len]; omega), icell_len, Nat.add_sub_cancel_left]; exact hu)
      rwa [← Nat.add_assoc] at this
structure MgB (lo : Nat) (w : World) (M WB LB : Nat) (us : Nat → Value) (g : Gt Rg) : Prop where
  blk : w.heap[M]? = some (.cells #[.slice (some ⟨WB, 0, none⟩) g.ws.length g.ws.length, .slice (some ⟨LB, 0, none⟩) g.ws.length g.ws.length, .int .i64 g.nx] 33 (0, 0))
  rows : ∃ cur : Array Value, w.heap[WB]? = some (.cells cur 46 (0, 0)) ∧ ∀ i, i < g.ws.length → cur[i]? = some (us i)
  lasts : ∃ cur : Array Value, w.heap[LB]? = some (.cells cur 3 (0, 0)) ∧ ∀ i, i < g.ws.length → cur[i]? = some (.int .i64 (g.last.getD i 0))
  own : ∀ i, i < g.ws.length → RwAt w (us i) (g.ws.getD i [])
  len : ∀ i, i < g.ws.length → (g.ws.getD i []).length ≤ 400
  ids : ∀ l ∈ g.ws, ∀ id, It.bar id ∈ l → 0 < id
  lst : g.last.length = g.ws.length
  n0 : 0 < g.ws.length
  n1 : g.ws.length ≤ 64
  nx : g.nx < g.ws.length
  loM : lo ≤ M
  loW : lo ≤ WB
  loL : lo ≤ LB
section
variable {lo : Nat} {w w' : World} {M WB LB : Nat} {us : Nat → Value} {g : Gt Rg}
theorem MgB.ltM (h : MgB lo w M WB LB us g) : M < w.heap.size := some_lt h.blk
theorem MgB.ltW (h : MgB lo w M WB LB us g) : WB < w.heap.size := by obtain ⟨cur, h1, -⟩ := h.rows; exact some_lt h1
theorem MgB.ltL (h : MgB lo w M WB LB us g) : LB < w.heap.size := by obtain ⟨cur, h1, -⟩ := h.lasts; exact some_lt h1
theorem MgB.lo' (h : MgB lo w M WB LB us g) : lo ≤ w.heap.size := by have := h.ltM; have := h.loM; omega
theorem MgB.nes (h : MgB lo w M WB LB us g) : M ≠ WB ∧ M ≠ LB ∧ WB ≠ LB := by
  obtain ⟨c1, h1, -⟩ := h.rows
  obtain ⟨c2, h2, -⟩ := h.lasts
  refine ⟨fun e => ?_, fun e => ?_, fun e => ?_⟩
  · rw [← e, h.blk] at h1; simp at h1
  · rw [← e, h.blk] at h2; simp at h2
  · rw [← e, h1] at h2; simp at h2
theorem MgB.c0 (h : MgB lo w M WB LB us g) : w.cell? ⟨M, 0, none⟩ = some (.slice (some ⟨WB, 0, none⟩) g.ws.length g.ws.length) := by simp [World.cell?, h.blk]
theorem MgB.c1 (h : MgB lo w M WB LB us g) : w.cell? ⟨M, 1, none⟩ = some (.slice (some ⟨LB, 0, none⟩) g.ws.length g.ws.length) := by simp [World.cell?, h.blk]
theorem MgB.c2 (h : MgB lo w M WB LB us g) : w.cell? ⟨M, 2, none⟩ = some (.int .i64 g.nx) := by simp [World.cell?, h.blk]
theorem MgB.fM (h : MgB lo w M WB LB us g) (o : Nat) : w.frozen? ⟨M, o, none⟩ = false := by simp [World.frozen?, h.blk]
theorem MgB.fW (h : MgB lo w M WB LB us g) (o : Nat) : w.frozen? ⟨WB, o, none⟩ = false := by obtain ⟨cur, h1, -⟩ := h.rows; simp [World.frozen?, h1]
theorem MgB.fL (h : MgB lo w M WB LB us g) (o : Nat) : w.frozen? ⟨LB, o, none⟩ = false := by obtain ⟨cur, h1, -⟩ := h.lasts; simp [World.frozen?, h1]
theorem MgB.w0 (h : MgB lo w M WB LB us g) {i : Nat} (hi : i < g.ws.length) : w.cell? ⟨WB, i, none⟩ = some (us i) := by
  obtain ⟨cur, h1, h2⟩ := h.rows
  simp only [World.cell?, h1]; exact h2 i hi
theorem MgB.l0 (h : MgB lo w M WB LB us g) {i : Nat} (hi : i < g.ws.length) : w.cell? ⟨LB, i, none⟩ = some (.int .i64 (g.last.getD i 0)) := by
  obtain ⟨cur, h1, h2⟩ := h.lasts
  simp only [World.cell?, h1]; exact h2 i hi
theorem MgB.stays (h : MgB lo w M WB LB us g) (hk : ∀ (k : Nat) (o : Obj), w.heap[k]? = some o → (TurnsD o ∨ ∃ cur, o = .cells cur 40 (0, 0)) → w'.heap[k]? = some o) : MgB lo w' M WB LB us g := by
  obtain ⟨c1, h1, h2⟩ := h.rows
  obtain ⟨c2, h3, h4⟩ := h.lasts
  exact ⟨hk _ _ h.blk (.inl ⟨_, .inl rfl⟩), ⟨c1, hk _ _ h1 (.inl ⟨_, .inr (.inl rfl)⟩), h2⟩, ⟨c2, hk _ _ h3 (.inl ⟨_, .inr (.inr rfl)⟩), h4⟩, fun i hi => (h.own i hi).block (fun k cur hc => hk k _ hc (.inr ⟨_, rfl⟩)), h.len, h.ids, h.lst, h.n0, h.n1, h.nx, h.loM, h.loW, h.loL⟩
theorem MgB.keep (h : MgB lo w M WB LB us g) (hb : Below w.heap.size w w') : MgB lo w' M WB LB us g := h.stays (fun k o hk _ => by rw [hb.block k (some_lt hk)]; exact hk)
theorem MgB.frg (h : MgB lo w M WB LB us g) {lo' : Nat} (f : FrG lo' w w') : MgB lo w' M WB LB us g := h.stays (fun k o hk ho => f.kept k o hk (by
  rcases ho with ho | ⟨cur, rfl⟩
  · exact fun ht => turns_apart ht ho
  · exact notTurns (by decide)))
theorem MgB.tM (h : MgB lo w M WB LB us g) : ∀ o, w.heap[M]? = some o → TurnsD o := fun o ho => by rw [h.blk] at ho; injection ho with ho; subst ho; exact ⟨_, .inl rfl⟩
theorem MgB.tW (h : MgB lo w M WB LB us g) : ∀ o, w.heap[WB]? = some o → TurnsD o := fun o ho => by
  obtain ⟨cur, h1, -⟩ := h.rows
  rw [h1] at ho; injection ho with ho; subst ho; exact ⟨_, .inr (.inl rfl)⟩
theorem MgB.tL (h : MgB lo w M WB LB us g) : ∀ o, w.heap[LB]? = some o → TurnsD o := fun o ho => by
  obtain ⟨cur, h1, -⟩ := h.lasts
  rw [h1] at ho; injection ho with ho; subst ho; exact ⟨_, .inr (.inr rfl)⟩
theorem I_other {k R : Nat} {cur : Array Value} (ht : ∀ o, w.heap[R]? = some o → TurnsD o) (hc : w.heap[k]? = some (.cells cur 40 (0, 0))) : k ≠ R := fun e => by subst e; exact notTurnsD (by decide) (ht _ hc)
theorem MgB.setNext (h : MgB lo w M WB LB us g) {t : Nat} (ht : t < g.ws.length) : MgB lo (w.setCell ⟨M, 2, none⟩ (.int .i64 t)) M WB LB us { g with nx := t } ∧ FrD lo w (w.setCell ⟨M, 2, none⟩ (.int .i64 t)) := by
  obtain ⟨c1, h1, h2⟩ := h.rows
  obtain ⟨c2, h3, h4⟩ := h.lasts
  obtain ⟨n1, n2, n3⟩ := h.nes
  refine ⟨⟨?_, ⟨c1, by rw [Below.heap_setCell _ _ _ _ (Ne.symm n1)]; exact h1, h2⟩, ⟨c2, by rw [Below.heap_setCell _ _ _ _ (Ne.symm n2)]; exact h3, h4⟩, fun i hi => (h.own i hi).block (fun k cur hc => by rw [Below.heap_setCell _ _ _ _ (I_other h.tM hc)]; exact hc), h.len, h.ids, h.lst, h.n0, h.n1, ht, h.loM, h.loW, h.loL⟩, FrD.setCell h.loM h.tM _⟩
  rw [heap_setCell_same w M 2 _ _ _ h.blk]; rfl
theorem MgB.setLast (h : MgB lo w M WB LB us g) {i : Nat} (hi : i < g.ws.length) (id : Int) : MgB lo (w.setCell ⟨LB, i, none⟩ (.int .i64 id)) M WB LB us (lastG g i id) ∧ FrD lo w (w.setCell ⟨LB, i, none⟩ (.int .i64 id)) := by
  obtain ⟨c1, h1, h2⟩ := h.rows
  obtain ⟨c2, h3, h4⟩ := h.lasts
  obtain ⟨n1, n2, n3⟩ := h.nes
  refine ⟨⟨by rw [Below.heap_setCell _ _ _ _ n2]; exact h.blk, ⟨c1, by rw [Below.heap_setCell _ _ _ _ n3]; exact h1, h2⟩, ⟨_, heap_setCell_same w LB i _ _ _ h3, fun j hj => ?_⟩, fun j hj => (h.own j hj).block (fun k cur hc => by rw [Below.heap_setCell _ _ _ _ (I_other h.tL hc)]; exact hc), h.len, h.ids, by simp [lastG, h.lst], h.n0, h.n1, h.nx, h.loM, h.loW, h.loL⟩, FrD.setCell h.loL h.tL _⟩
  have hlt := (Array.getElem?_eq_some_iff.1 (h4 i hi)).1
  simp only [lastG]
  rw [getD_set _ _ _ _ _ (by rw [h.lst]; exact hi)]
  by_cases e : j = i
  · subst e; rw [if_pos rfl]; simp [hlt]
  · rw [if_neg e, Array.getElem?_setIfInBounds_ne (by omega)]; exact h4 j hj
theorem MgB.setRow (h : MgB lo w M WB LB us g) {i : Nat} (hi : i < g.ws.length) {w1 : World} {v' : Value} {l' : List Itm} (hb : Below w.heap.size w w1) (hv : RwAt w1 v' l') (hl : l'.length ≤ 400) (hids : ∀ id, It.bar id ∈ l' → 0 < id) :
    MgB lo (w1.setCell ⟨WB, i, none⟩ v') M WB LB (fun j => if j = i then v' else us j) { g with ws := g.ws.set i l' } ∧ FrD lo w (w1.setCell ⟨WB, i, none⟩ v') := by
  have h0 := h.keep hb
  obtain ⟨c1, h1, h2⟩ := h0.rows
  obtain ⟨c2, h3, h4⟩ := h0.lasts
  obtain ⟨n1, n2, n3⟩ := h.nes
  have hlt := (Array.getElem?_eq_some_iff.1 (h2 i hi)).1
  refine ⟨⟨by rw [Below.heap_setCell _ _ _ _ n1]; simpa using h0.blk, ⟨_, heap_setCell_same w1 WB i _ _ _ h1, fun j hj => ?_⟩, ⟨c2, by rw [Below.heap_setCell _ _ _ _ (Ne.symm n3)]; exact h3, fun j hj => h4 j (by simpa using hj)⟩, fun j hj => ?_, fun j hj => ?_, fun l hl' id hid => ?_, by simp [h.lst], by simpa using h.n0, by simpa using h.n1, by simpa using h.nx, h.loM, h.loW, h.loL⟩, (FrD.below hb h.lo').trans (FrD.setCell h.loW h0.tW _)⟩
  · simp only [List.length_set] at hj
    by_cases e : j = i
    · subst e; simp [hlt]
    · rw [if_neg e, Array.getElem?_setIfInBounds_ne (by omega)]; exact h2 j hj
  · simp only [List.length_set] at hj
    simp only
    rw [getD_set _ _ _ _ _ hi]
    have hkk : ∀ (k : Nat) (cur : Array Value), w1.heap[k]? = some (.cells cur 40 (0, 0)) → (w1.setCell ⟨WB, i, none⟩ v').heap[k]? = some (.cells cur 40 (0, 0)) := fun k cur hc => by rw [Below.heap_setCell _ _ _ _ (I_other h0.tW hc)]; exact hc
    by_cases e : j = i
    · rw [if_pos e, if_pos e]; exact hv.block hkk
    · rw [if_neg e, if_neg e]; exact (h0.own j hj).block hkk
  · simp only [List.length_set] at hj
    simp only
    rw [getD_set _ _ _ _ _ hi]
    by_cases e : j = i
    · rw [if_pos e]; exact hl
    · rw [if_neg e]; exact h.len j hj
  · rcases List.mem_or_eq_of_mem_set hl' with h' | rfl
    · exact h.ids l h' id hid
    · exact hids id hid
end
end Go.Proofs.YtneglanmigifhaaDoor
