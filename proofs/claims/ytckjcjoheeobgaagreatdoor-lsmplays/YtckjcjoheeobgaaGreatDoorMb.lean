/- The document's store in memory; its Flush, its Compact. -/
import Derived.Test.YtckjcjoheeobgaaGreatDoorMa
import Derived.Test.YtckjcjoheeobgaaGreatDoorLk
import Derived.Deep.QuietTactic
import Derived.BigQuiet
namespace Go.Proofs.YtckjcjoheeobgaaGreatDoor
open Go.RowKit
set_option linter.unusedVariables false

/-- A row of entries that is wanted later. -/
def WtAt (u : World) (A : Option Addr) (R : List En) : Prop := CsAt u A (ecells R) ∧ LyAt u A 40
theorem WtAt.keep {u u' : World} {A : Option Addr} {R : List En} (h : WtAt u A R) (hb : Below u.heap.size u u') : WtAt u' A R := ⟨h.1.keep hb, h.2.below hb⟩
theorem WtAt.block {u u' : World} {A : Option Addr} {R : List En} (h : WtAt u A R) (hk : ∀ (k : Nat) (cur : Array Value), u.heap[k]? = some (.cells cur 40 (0, 0)) → u'.heap[k]? = u.heap[k]?) : WtAt u' A R := ⟨h.1.block h.2 hk, h.2.block hk⟩

/-- What the document's store turns. -/
def TurnsM (o : Obj) : Prop := (∃ cur, o = .cells cur 33 (0, 0)) ∨ ∃ cur, o = .cells cur 9 (0, 0)
structure FrM (lo : Nat) (w w' : World) : Prop where
  os : w'.os = w.os
  tape : w'.tape = w.tape
  output : w'.output = w.output
  size : w.heap.size ≤ w'.heap.size
  low : ∀ k, k < lo → w'.heap[k]? = w.heap[k]?
  kept : ∀ (k : Nat) (o : Obj), w.heap[k]? = some o → ¬ TurnsM o → w'.heap[k]? = some o
theorem FrM.refl (lo : Nat) (w : World) : FrM lo w w := ⟨rfl, rfl, rfl, Nat.le_refl _, fun _ _ => rfl, fun _ _ h _ => h⟩
theorem FrM.trans {lo : Nat} {a b c : World} (h : FrM lo a b) (k : FrM lo b c) : FrM lo a c :=
  ⟨k.os.trans h.os, k.tape.trans h.tape, k.output.trans h.output, Nat.le_trans h.size k.size, fun i hi => (k.low i hi).trans (h.low i hi), fun i o hi ho => k.kept i o (h.kept i o hi ho) ho⟩
theorem FrM.below {lo : Nat} {w w' : World} (h : Below w.heap.size w w') (hlo : lo ≤ w.heap.size) : FrM lo w w' :=
  ⟨h.os, h.tape, h.output, h.size, fun k hk => h.block k (by omega), fun k o hk _ => by rw [h.block k (some_lt hk)]; exact hk⟩
theorem FrM.toBelow {lo : Nat} {w w' : World} (h : FrM lo w w') : Below lo w w' := ⟨h.os, h.tape, h.output, h.size, h.low⟩
theorem FrM.mono {lo lo' : Nat} {w w' : World} (h : FrM lo w w') (hl : lo' ≤ lo) : FrM lo' w w' := ⟨h.os, h.tape, h.output, h.size, fun k hk => h.low k (by omega), h.kept⟩
theorem FrM.of_fr {lo : Nat} {xs : List Nat} {w w' : World} (f : Fr xs w w') (hlo : lo ≤ w.heap.size) (hx : ∀ k ∈ xs, lo ≤ k ∧ ∀ o, w.heap[k]? = some o → TurnsM o) : FrM lo w w' :=
  ⟨f.os, f.tape, f.output, f.size, fun k hk => f.block k (by omega) (fun hm => by have := (hx k hm).1; omega), fun k o hk ho => by
    rw [f.block k (some_lt hk) (fun hm => ho ((hx k hm).2 o hk))]; exact hk⟩
theorem FrM.cells {lo : Nat} {w w' : World} (h : FrM lo w w') {e : TypeId} (h1 : e ≠ 33) (h2 : e ≠ 9) : ∀ (k : Nat) (cur : Array Value), w.heap[k]? = some (.cells cur e (0, 0)) → w'.heap[k]? = w.heap[k]? := fun k cur hc => by
  rw [hc]
  refine h.kept k _ hc ?_
  rintro (⟨c, e⟩ | ⟨c, e⟩)
  · injection e with _ e; exact h1 e
  · injection e with _ e; exact h2 e
theorem FrM.map {lo : Nat} {w w' : World} (h : FrM lo w w') {k : Nat} {es : Array MapEntry} {cl : Nat} (hk : w.heap[k]? = some (.map es cl)) : w'.heap[k]? = w.heap[k]? := by
  rw [hk]
  refine h.kept k _ hk ?_
  rintro (⟨c, e⟩ | ⟨c, e⟩) <;> cases e
theorem StAt.frm {lo lo' : Nat} {w w' : World} {S Ml Mf : Nat} {v : Value} {s : Sto} (h : StAt lo w S Ml Mf v s) (f : FrM lo' w w') : StAt lo w' S Ml Mf v s := by
  obtain ⟨es, cl, h1⟩ := h.last.map
  obtain ⟨es', cl', h2⟩ := h.fresh.map
  refine ⟨(f.cells (by decide) (by decide) _ _ h.blk).trans h.blk, h.last.block (f.map h1), h.fresh.block (f.map h2), h.tabs.block (fun k cur e hc he => ?_), h.loS, h.loL, h.loF, h.ne⟩
  rcases he with rfl | rfl
  · exact f.cells (by decide) (by decide) k cur hc
  · exact f.cells (by decide) (by decide) k cur hc

def frV (F : List ByteArray) : List Value := F.map fun k => .string k
structure MAt (lo : Nat) (w : World) (B : Nat) (A : Option Addr) (c : Nat) (v : Value) (s : Sto) (F : List ByteArray) : Prop where
  blk : w.heap[B]? = some (.cells #[.slice A s.all.length c, v, .int .i64 (s.tabs.length : Nat), .int .i64 (s.lim : Nat)] 33 (0, 0))
  all : WtAt w A s.all
  row : w.ownsRow lo 9 1 v F.length (frV F)
  fr : F.map (·.data.toList) = s.fr
  loB : lo ≤ B
section
variable {lo : Nat} {w w' : World} {B : Nat} {A : Option Addr} {c : Nat} {v v' : Value} {s : Sto} {F : List ByteArray}
theorem MAt.same (h : MAt lo w B A c v s F) (hk : ∀ (k : Nat) (cur : Array Value) (e : TypeId), w.heap[k]? = some (.cells cur e (0, 0)) → e = 33 ∨ e = 40 ∨ e = 9 → w'.heap[k]? = w.heap[k]?) : MAt lo w' B A c v s F :=
  ⟨(hk _ _ _ h.blk (.inl rfl)).trans h.blk, h.all.block (fun k cur hc => hk k cur _ hc (.inr (.inl rfl))), own_row h.row (fun k cur hc => hk k cur _ hc (.inr (.inr rfl))), h.fr, h.loB⟩
theorem MAt.keep (h : MAt lo w B A c v s F) (hb : Below w.heap.size w w') : MAt lo w' B A c v s F := h.same (fun k cur e hc _ => hb.block k (some_lt hc))
theorem MAt.drewN (h : MAt lo w B A c v s F) (n : Nat) : MAt lo (w.drewN n) B A c v s F := ⟨h.blk, h.all, h.row, h.fr, h.loB⟩
theorem MAt.frs {lo' : Nat} (h : MAt lo w B A c v s F) (f : FrS lo' w w') : MAt lo w' B A c v s F := h.same (fun k cur e hc he => by
  rcases he with rfl | rfl | rfl
  · exact f.cells (by decide) (by decide) k cur hc
  · exact f.cells (by decide) (by decide) k cur hc
  · exact f.cells (by decide) (by decide) k cur hc)
theorem MAt.lt (h : MAt lo w B A c v s F) : B < w.heap.size := some_lt h.blk
theorem MAt.loW (h : MAt lo w B A c v s F) : lo ≤ w.heap.size := by have := h.lt; have := h.loB; omega
theorem MAt.cell (h : MAt lo w B A c v s F) : w.cell? ⟨B, 0, none⟩ = some (.slice A s.all.length c) ∧ w.cell? ⟨B, 1, none⟩ = some v ∧ w.cell? ⟨B, 2, none⟩ = some (.int .i64 (s.tabs.length : Nat)) ∧ w.cell? ⟨B, 3, none⟩ = some (.int .i64 (s.lim : Nat)) := by
  refine ⟨?_, ?_, ?_, ?_⟩ <;> simp [World.cell?, h.blk]
theorem MAt.fz (h : MAt lo w B A c v s F) (o : Nat) : w.frozen? ⟨B, o, none⟩ = false := by simp [World.frozen?, h.blk]
theorem MAt.form (h : MAt lo w B A c v s F) : ∃ A2 c2, v = .slice A2 F.length c2 := row_slice h.row
theorem MAt.turnB (h : MAt lo w B A c v s F) : ∀ o, w.heap[B]? = some o → TurnsM o := fun o ho => by
  rw [h.blk] at ho; injection ho with ho; exact .inl ⟨_, ho.symm⟩
theorem MAt.len (h : MAt lo w B A c v s F) : F.length = s.fr.length := by rw [← h.fr, List.length_map]
/-- What a store into its own block leaves. -/
theorem MAt.setB (h : MAt lo w B A c v s F) (o : Nat) (x : Value) : FrM lo w (w.setCell ⟨B, o, none⟩ x) ∧ (∀ (k : Nat) (cur : Array Value) (e : TypeId), w.heap[k]? = some (.cells cur e (0, 0)) → e ≠ 33 → (w.setCell ⟨B, o, none⟩ x).heap[k]? = w.heap[k]?) := by
  refine ⟨FrM.of_fr (xs := [B]) ⟨rfl, rfl, rfl, by simp, fun k hk hx => Below.heap_setCell _ _ _ _ (by simpa using hx)⟩ h.loW (fun k hk => by simp at hk; subst hk; exact ⟨h.loB, h.turnB⟩), fun k cur e hc he => Below.heap_setCell _ _ _ _ (fun e' => ?_)⟩
  subst e'; rw [h.blk] at hc; injection hc with hc; injection hc with _ hc; exact he hc.symm
theorem MAt.set0 (h : MAt lo w B A c v s F) {A' : Option Addr} {c' : Nat} {all' : List En} (hw : WtAt w A' all') : MAt lo (w.setCell ⟨B, 0, none⟩ (.slice A' all'.length c')) B A' c' v ⟨s.lim, all', s.fr, s.tabs⟩ F ∧ FrM lo w (w.setCell ⟨B, 0, none⟩ (.slice A' all'.length c')) := by
  obtain ⟨f, k⟩ := h.setB 0 (.slice A' all'.length c')
  exact ⟨⟨by simp [World.setCell, Array.getElem?_modify, h.blk], hw.block (fun i cur hc => k i cur _ hc (by decide)), own_row h.row (fun i cur hc => k i cur _ hc (by decide)), h.fr, h.loB⟩, f⟩
theorem MAt.set1 (h : MAt lo w B A c v s F) {F' : List ByteArray} (hr : w.ownsRow lo 9 1 v' F'.length (frV F')) : MAt lo (w.setCell ⟨B, 1, none⟩ v') B A c v' ⟨s.lim, s.all, F'.map (·.data.toList), s.tabs⟩ F' ∧ FrM lo w (w.setCell ⟨B, 1, none⟩ v') := by
  obtain ⟨f, k⟩ := h.setB 1 v'
  exact ⟨⟨by simp [World.setCell, Array.getElem?_modify, h.blk], h.all.block (fun i cur hc => k i cur _ hc (by decide)), own_row hr (fun i cur hc => k i cur _ hc (by decide)), rfl, h.loB⟩, f⟩
theorem MAt.set2 (h : MAt lo w B A c v s F) (n : Int) {ts : List (List En)} (hn : n = ts.length) : MAt lo (w.setCell ⟨B, 2, none⟩ (.int .i64 n)) B A c v ⟨s.lim, s.all, s.fr, ts⟩ F ∧ FrM lo w (w.setCell ⟨B, 2, none⟩ (.int .i64 n)) := by
  obtain ⟨f, k⟩ := h.setB 2 (.int .i64 n)
  exact ⟨⟨by simp [World.setCell, Array.getElem?_modify, h.blk, hn], h.all.block (fun i cur hc => k i cur _ hc (by decide)), own_row h.row (fun i cur hc => k i cur _ hc (by decide)), h.fr, h.loB⟩, f⟩
/-- The row of fresh keys, grown. -/
theorem MAt.grown1 (h : MAt lo w B A c v s F) (hg : w.grownBy w' v.ownBlock) {F' : List ByteArray} (hr : w'.ownsRow lo 9 1 v' F'.length (frV F')) : MAt lo (w'.setCell ⟨B, 1, none⟩ v') B A c v' ⟨s.lim, s.all, F'.map (·.data.toList), s.tabs⟩ F' ∧ FrM lo w (w'.setCell ⟨B, 1, none⟩ v') := by
  have hrw : ∀ g, v.ownBlock = some g → lo ≤ g ∧ ∃ cur, w.heap[g]? = some (.cells cur 9 (0, 0)) := fun g hg => by
    rcases h.row.2 with ⟨h0, -⟩ | ⟨g', cap, cur, h0, hb, hc, -⟩
    · rw [h0] at hg; simp [Value.ownBlock] at hg
    · rw [h0] at hg; simp [Value.ownBlock] at hg; subst hg; exact ⟨hb, cur, hc⟩
  have kk : ∀ (k : Nat) (cur : Array Value) (e : TypeId), w.heap[k]? = some (.cells cur e (0, 0)) → e ≠ 9 → w'.heap[k]? = w.heap[k]? := fun k cur e hc he => hg.block k (some_lt hc) (fun e' => by
    obtain ⟨-, cur', h2⟩ := hrw k e'.symm
    rw [hc] at h2; injection h2 with h2; injection h2 with _ h2; exact he h2)
  have b' : w'.heap[B]? = some (.cells #[.slice A s.all.length c, v, .int .i64 (s.tabs.length : Nat), .int .i64 (s.lim : Nat)] 33 (0, 0)) := (kk B _ _ h.blk (by decide)).trans h.blk
  have kS : ∀ (k : Nat) (cur : Array Value) (e : TypeId), w'.heap[k]? = some (.cells cur e (0, 0)) → e ≠ 33 → (w'.setCell ⟨B, 1, none⟩ v').heap[k]? = w'.heap[k]? := fun k cur e hc he => Below.heap_setCell _ _ _ _ (fun e' => by
    subst e'; rw [b'] at hc; injection hc with hc; injection hc with _ hc; exact he hc.symm)
  refine ⟨⟨by simp [World.setCell, Array.getElem?_modify, b'], (h.all.block (fun i cur hc => kk i cur _ hc (by decide))).block (fun i cur hc => kS i cur _ hc (by decide)), own_row hr (fun i cur hc => kS i cur _ hc (by decide)), rfl, h.loB⟩, ?_⟩
  refine FrM.of_fr (xs := B :: v.ownBlock.toList) ⟨hg.os, hg.tape, hg.output, by simpa using hg.size, fun k hk hx => ?_⟩ h.loW (fun k hk => ?_)
  · simp only [List.mem_cons, not_or, Option.mem_toList] at hx
    rw [Below.heap_setCell _ _ _ _ hx.1]
    exact hg.block k hk (fun e => hx.2 e.symm)
  · simp only [List.mem_cons, Option.mem_toList] at hk
    rcases hk with rfl | hk
    · exact ⟨h.loB, h.turnB⟩
    · obtain ⟨h1, cur, h2⟩ := hrw k hk
      exact ⟨h1, fun o ho => by rw [h2] at ho; injection ho with ho; subst ho; exact .inr ⟨_, rfl⟩⟩

set_option maxHeartbeats 1000000 in
theorem mflush_any (h : MAt lo w B A c v s F) (hn : s.tabs.length ≤ 100000) : Calls Tryz.prog 12 #[.pointer (some ⟨B, 0, none⟩)] w fun e w' => e = .returned (.tuple #[]) ∧ (∃ v', MAt lo w' B A c v' (flushS s) []) ∧ FrM lo w w' := by
  obtain ⟨c0, c1, c2, c3⟩ := h.cell
  have f1 := h.fz 1
  have f2 := h.fz 2
  obtain ⟨A2, k2, rfl⟩ := h.form
  have hl := h.len
  by_cases hf : s.fr = []
  · have hF0 : F.length = 0 := by rw [hl, hf]; rfl
    obtain ⟨h1, g1⟩ := h.set1 (v' := .slice none 0 0) (F' := []) (World.ownsRow_nil _ _ _ _)
    have hS : flushS s = ⟨s.lim, s.all, [], s.tabs⟩ := by unfold flushS; rw [if_pos hf]; cases s; simp only at hf; rw [hf]
    rw [hS]
    have H1 := Lib.hid h1
    rw [hF0] at c1
    clear h hl hf hF0 hS h1
    go_enter Tryz.func12, Tryz.ntmps12
    go_wp2_with fail
    go_end0
    exact ⟨rfl, ⟨_, H1.out⟩, g1⟩
  · have hF0 : (0 : Int) < F.length := by
      have : s.fr.length ≠ 0 := fun e => hf (List.length_eq_zero_iff.1 e)
      omega
    have hS : flushS s = ⟨s.lim, s.all, [], s.tabs ++ [frE s]⟩ := by unfold flushS; rw [if_neg hf]
    obtain ⟨h1, g1⟩ := h.set2 ((s.tabs.length : Int) + 1) (ts := s.tabs ++ [frE s]) (by simp)
    obtain ⟨h2, g2⟩ := h1.set1 (v' := .slice none 0 0) (F' := []) (World.ownsRow_nil _ _ _ _)
    rw [hS]
    have H2 := Lib.hid h2
    have G2 := g1.trans g2
    clear h hl hf hS h1 h2 g1 g2
    go_enter Tryz.func12, Tryz.ntmps12
    go_wp2_with fail
    go_end0
    exact ⟨rfl, ⟨_, H2.out⟩, G2⟩
set_option maxHeartbeats 1000000 in
theorem mcomp_any (h : MAt lo w B A c v s F) (hl4 : s.all.length ≤ 400) : Calls Tryz.prog 14 #[.pointer (some ⟨B, 0, none⟩)] w fun e w' => e = .returned (.tuple #[]) ∧ (∃ A' c' v', MAt lo w' B A' c' v' (compS s) []) ∧ FrM lo w w' := by
  have HL := Lib.hid (slive_any w A c s.all h.all.1 (by omega))
  have HM := Lib.hid h
  obtain ⟨c0, c1, c2, c3⟩ := h.cell
  clear h
  go_enter Tryz.func14, Tryz.ntmps14
  go_wp2_with (go_at_call 15; refine Hid.out ?_)
  refine Lib.hid ?_
  refine HL.out.mono ?_
  rintro e w1 ⟨v1, rfl, o1, b1⟩
  have hm1 := HM.out.keep b1
  obtain ⟨A1, k1, rfl⟩ := row_slice o1
  have hW : WtAt w1 A1 (livE s.all) := ⟨(own_cs o1 (ecells_len _)).1, LyAt.of o1⟩
  obtain ⟨h2, g2⟩ := hm1.set0 (c' := k1) hW
  obtain ⟨h3, g3⟩ := h2.set1 (v' := .slice none 0 0) (F' := []) (World.ownsRow_nil _ _ _ _)
  obtain ⟨h4, g4⟩ := h3.set2 0 (ts := []) (by simp)
  obtain ⟨d0, d1, d2, d3⟩ := hm1.cell
  have f0 := hm1.fz 0
  have f1 := hm1.fz 1
  have f2 := hm1.fz 2
  obtain ⟨A2, k2, hv⟩ := hm1.form
  rw [hv] at d1
  have G4 := (FrM.below b1 HM.out.loW).trans ((g2.trans g3).trans g4)
  change w1.ownsRow w.heap.size _ 3 (.slice A1 (livE s.all).length k1) _ _ at o1
  have hle : (List.filter (fun e : En => !e.dead) s.all) = livE s.all := rfl
  rw [hle]
  by_cases hl : livE s.all = []
  · have hcs : compS s = ⟨s.lim, livE s.all, [], []⟩ := by unfold compS; rw [if_pos hl]
    have hl0 : (livE s.all).length = 0 := by rw [hl]; rfl
    have H4 := Lib.hid (show MAt lo _ B A1 k1 _ (compS s) [] from by rw [hcs]; exact h4)
    clear h2 h3 h4 g2 g3 g4 hW o1 HL c0 c1 c2 c3 hcs hl hm1 hv hle
    simp only [hl0] at *
    go_wp2_with fail
    go_end0
    exact ⟨rfl, ⟨A1, k1, _, H4.out⟩, G4⟩
  · have hcs : compS s = ⟨s.lim, livE s.all, [], [livE s.all]⟩ := by unfold compS; rw [if_neg hl]
    have hl0 : (0 : Int) < (livE s.all).length := by
      have : (livE s.all).length ≠ 0 := fun e => hl (List.length_eq_zero_iff.1 e)
      omega
    obtain ⟨h5, g5⟩ := h4.set2 1 (ts := [livE s.all]) (by simp)
    have H5 := Lib.hid (show MAt lo _ B A1 k1 _ (compS s) [] from by rw [hcs]; exact h5)
    have G5 := G4.trans g5
    obtain ⟨e0, e1, e2, e3⟩ := h4.cell
    have ef := h4.fz 2
    clear h2 h3 h4 g2 g3 g4 hW o1 HL c0 c1 c2 c3 hcs hl hm1 hv hle h5 g5 G4
    generalize (livE s.all).length = ll at *
    go_wp2_with fail
    go_end0
    exact ⟨rfl, ⟨A1, k1, _, H5.out⟩, G5⟩
end
end Go.Proofs.YtckjcjoheeobgaaGreatDoor
