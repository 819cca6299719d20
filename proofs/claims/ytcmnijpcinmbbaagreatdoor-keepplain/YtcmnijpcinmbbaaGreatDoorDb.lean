/- A disk in memory: its files, what takes back what was done. -/
import Derived.Test.YtcmnijpcinmbbaaGreatDoorDa
namespace Go.Proofs.YtcmnijpcinmbbaaGreatDoor
open Go.RowKit
open Go.Maps (string_keyed)

theorem infoFn : (Tryz.prog.info? 1).map (fun i => (i.zero, i.size, i.bytes)) = some (some .nilFunc, 1, 8) := by kernel_rfl
def kl (k : ByteArray) : Lit := .string k.data.toList
theorem kl_inj {k k' : ByteArray} (h : kl k = kl k') : k = k' := by
  unfold kl at h
  injection h with h
  cases k; cases k'
  congr 1
  exact Array.toList_inj.1 h
def vR (v : Value) : Option (DataW Value × List MemPlace) := some (.held v, [])
theorem vR_inv {v : Value} {d : Value} {ps : List MemPlace} (h : vR v = some (.held d, ps)) : v = d := by
  unfold vR at h; injection h with h; injection h with h1 h2; injection h1
def vz : DataW Value := .held (.slice none 0 0)

/-- The bytes of a file; where they lie is none of the blocks that turn. -/
def BsV (w : World) (O : Nat → Prop) (v : Value) (bs : List UInt8) : Prop :=
  bs.length ≤ 60000 ∧ ∃ p c, v = .slice p bs.length c ∧ BsAt w p bs ∧ (bs ≠ [] → ∀ a, p = some a → O a.block)
theorem BsV.nil (w : World) (O : Nat → Prop) : BsV w O (.slice none 0 0) [] := ⟨by simp, none, 0, rfl, .inl rfl, fun h => absurd rfl h⟩
theorem BsV.keep {w w' : World} {O O' : Nat → Prop} {v : Value} {bs : List UInt8} (h : BsV w O v bs) (hk : ∀ b, b < w.heap.size → O b → w'.heap[b]? = w.heap[b]?) (hO : ∀ b, b < w.heap.size → O b → O' b) : BsV w' O' v bs := by
  obtain ⟨h0, p, c, rfl, h1, h2⟩ := h
  by_cases hne : bs = []
  · subst hne; exact ⟨by simp, p, c, rfl, .inl rfl, fun h => absurd rfl h⟩
  · obtain ⟨b, o, rfl, hlt⟩ := h1.lt hne
    have hb := h2 hne _ rfl
    refine ⟨h0, _, c, rfl, ?_, fun _ a ha => ?_⟩
    · rcases h1 with h1 | ⟨b', o', e, hc⟩
      · exact absurd h1 hne
      · injection e with e
        injection e with e1 e2 _
        subst e1; subst e2
        exact .inr ⟨b, o, rfl, fun i hi => by rw [World.cell?_of_block (w := w) (hk b hlt hb)]; exact hc i hi⟩
    · injection ha with ha; subst ha; exact hO _ hlt hb

/-- What the map of files reads as. -/
def MapIs (w : World) (O : Nat → Prop) (D : DataW Value) (σ : Fs) : Prop :=
  ∀ k, Maps.has D (kl k) = (σ k).isSome ∧ ∃ v, D.atKey (kl k) vz = .held v ∧ BsV w O v ((σ k).getD [])
theorem MapIs.keep {w w' : World} {O O' : Nat → Prop} {D : DataW Value} {σ : Fs} (h : MapIs w O D σ) (hk : ∀ b, b < w.heap.size → O b → w'.heap[b]? = w.heap[b]?) (hO : ∀ b, b < w.heap.size → O b → O' b) : MapIs w' O' D σ := fun k => by
  obtain ⟨h1, v, h2, h3⟩ := h k
  exact ⟨h1, v, h2, h3.keep hk hO⟩
theorem MapIs.put {w : World} {O : Nat → Prop} {D : DataW Value} {σ : Fs} (h : MapIs w O D σ) (hD : Maps.IsMap D) (k : ByteArray) {v : Value} {bs : List UInt8} (hv : BsV w O v bs) : MapIs w O (D.put (kl k) (.held v)) (upd σ k (some bs)) := fun x => by
  by_cases e : x = k
  · subst e
    rw [upd_same]
    exact ⟨Maps.has_put_same hD (show WideAt.IsKeyLit (.string _) from trivial) _, v, Maps.atKey_put_same hD (show WideAt.IsKeyLit (.string _) from trivial) _ _, hv⟩
  · rw [upd_other σ _ e]
    have hne : kl x ≠ kl k := fun h => e (kl_inj h)
    rw [Maps.has_put_other hne, Maps.atKey_put_other hne]
    exact h x
theorem MapIs.del {w : World} {O : Nat → Prop} {D : DataW Value} {σ : Fs} (h : MapIs w O D σ) (k : ByteArray) : MapIs w O (D.del (kl k)) (upd σ k none) := fun x => by
  by_cases e : x = k
  · subst e
    rw [upd_same]
    exact ⟨Maps.has_del_same, _, Maps.atKey_del_same _, BsV.nil w O⟩
  · rw [upd_other σ _ e]
    have hne : kl x ≠ kl k := fun h => e (kl_inj h)
    rw [Maps.has_del_other hne, Maps.atKey_del_other hne]
    exact h x
theorem MapIs.made (w : World) (O : Nat → Prop) : MapIs w O (.map []) (fun _ => none) := fun _ => ⟨rfl, _, rfl, BsV.nil w O⟩

/-- What puts one name's file back. -/
def PtAt (w : World) (O : Nat → Prop) (B : Nat) (v : Value) (p : Pt) : Prop :=
  ∃ h a d m x, v = .func (.func 60) #[] #[.pointer (some ⟨h, 0, none⟩), .pointer (some ⟨a, 0, none⟩), .pointer (some ⟨d, 0, none⟩), .pointer (some ⟨m, 0, none⟩)] ∧ (O h ∧ O a ∧ O d ∧ O m) ∧
    w.cell? ⟨h, 0, none⟩ = some (.bool p.o.isSome) ∧ w.cell? ⟨a, 0, none⟩ = some x ∧ BsV w O x (p.o.getD []) ∧ w.cell? ⟨d, 0, none⟩ = some (.pointer (some ⟨B, 0, none⟩)) ∧ w.cell? ⟨m, 0, none⟩ = some (.string p.k)
theorem PtAt.keep {w w' : World} {O O' : Nat → Prop} {B : Nat} {v : Value} {p : Pt} (h : PtAt w O B v p) (hk : ∀ b, b < w.heap.size → O b → w'.heap[b]? = w.heap[b]?) (hO : ∀ b, b < w.heap.size → O b → O' b) : PtAt w' O' B v p := by
  obtain ⟨h0, a, d, m, x, rfl, ⟨o1, o2, o3, o4⟩, c1, c2, c3, c4, c5⟩ := h
  have l1 := block_lt_of_cell c1
  have l2 := block_lt_of_cell c2
  have l4 := block_lt_of_cell c4
  have l5 := block_lt_of_cell c5
  exact ⟨h0, a, d, m, x, rfl, ⟨hO _ l1 o1, hO _ l2 o2, hO _ l4 o3, hO _ l5 o4⟩, (World.cell?_of_block (w := w) (hk _ l1 o1)).trans c1, (World.cell?_of_block (w := w) (hk _ l2 o2)).trans c2, c3.keep hk hO, (World.cell?_of_block (w := w) (hk _ l4 o3)).trans c4, (World.cell?_of_block (w := w) (hk _ l5 o4)).trans c5⟩
def BkAt (w : World) (O : Nat → Prop) (B : Nat) (v : Value) : Bk → Prop
  | .one p => PtAt w O B v p
  | .two _ _ => False
theorem BkAt.keep {w w' : World} {O O' : Nat → Prop} {B : Nat} {v : Value} {b : Bk} (h : BkAt w O B v b) (hk : ∀ b, b < w.heap.size → O b → w'.heap[b]? = w.heap[b]?) (hO : ∀ b, b < w.heap.size → O b → O' b) : BkAt w' O' B v b := by
  cases b with
  | one p => exact PtAt.keep h hk hO
  | two f t => exact h.elim
theorem BkAt.form {w : World} {O : Nat → Prop} {B : Nat} {v : Value} {b : Bk} (h : BkAt w O B v b) : ∃ f bs, v = .func (.func f) #[] bs := by
  cases b with
  | one p => obtain ⟨h0, a, d, m, x, rfl, _⟩ := h; exact ⟨_, _, rfl⟩
  | two f t => exact h.elim

/-- The blocks that turn: the disk's own, its map's, its row's; all others. -/
def Oth (B M : Nat) (uv : Value) (b : Nat) : Prop := b ≠ B ∧ b ≠ M ∧ uv.ownBlock ≠ some b
/-- Of the blocks that were there only these have turned. -/
structure FrD (B M : Nat) (uv : Value) (w w' : World) : Prop where
  os : w'.os = w.os
  tape : w'.tape = w.tape
  output : w'.output = w.output
  size : w.heap.size ≤ w'.heap.size
  block : ∀ k, k < w.heap.size → Oth B M uv k → w'.heap[k]? = w.heap[k]?
/-- The row stays in its block, or lies in a new one. -/
def Nxt (w : World) (uv uv' : Value) : Prop := ∀ g, uv'.ownBlock = some g → uv.ownBlock = some g ∨ w.heap.size ≤ g
theorem Nxt.refl (w : World) (uv : Value) : Nxt w uv uv := fun _ h => .inl h
theorem Nxt.nil (w : World) (uv : Value) : Nxt w uv (.slice none 0 0) := fun _ h => by simp [Value.ownBlock] at h
theorem Nxt.trans {w w' : World} {a b c : Value} (h : Nxt w a b) (hs : w.heap.size ≤ w'.heap.size) (h' : Nxt w' b c) : Nxt w a c := fun g hg => by
  rcases h' g hg with h1 | h1
  · exact h g h1
  · exact .inr (by omega)
theorem Oth.next {w : World} {B M : Nat} {uv uv' : Value} {b : Nat} (h : Oth B M uv b) (hn : Nxt w uv uv') (hb : b < w.heap.size) : Oth B M uv' b :=
  ⟨h.1, h.2.1, fun e => by rcases hn b e with h1 | h1; exact h.2.2 h1; omega⟩
theorem FrD.refl (B M : Nat) (uv : Value) (w : World) : FrD B M uv w w := ⟨rfl, rfl, rfl, Nat.le_refl _, fun _ _ _ => rfl⟩
theorem FrD.trans {B M : Nat} {uv uv' : Value} {a b c : World} (h : FrD B M uv a b) (hn : Nxt a uv uv') (k : FrD B M uv' b c) : FrD B M uv a c :=
  ⟨k.os.trans h.os, k.tape.trans h.tape, k.output.trans h.output, Nat.le_trans h.size k.size, fun i hi ho => (k.block i (Nat.lt_of_lt_of_le hi h.size) (ho.next hn hi)).trans (h.block i hi ho)⟩
theorem FrD.below {B M : Nat} {uv : Value} {a b : World} (h : Below a.heap.size a b) : FrD B M uv a b := ⟨h.os, h.tape, h.output, h.size, fun k hk _ => h.block k hk⟩
theorem FrD.alloc {B M : Nat} {uv : Value} {a b : World} (h : FrD B M uv a b) (o : Obj) : FrD B M uv a (b.alloc o) :=
  ⟨h.os, h.tape, h.output, by have := h.size; simp; omega, fun k hk ho => (Below.heap_alloc _ _ _ (Nat.lt_of_lt_of_le hk h.size)).trans (h.block k hk ho)⟩
theorem FrD.drewN {B M : Nat} {uv : Value} {a b : World} (h : FrD B M uv a b) (n : Nat) : FrD B M uv a (b.drewN n) := ⟨h.os, h.tape, h.output, h.size, h.block⟩
theorem FrD.setB {B M : Nat} {uv : Value} {a b : World} (h : FrD B M uv a b) (o : Nat) (v : Value) : FrD B M uv a (b.setCell ⟨B, o, none⟩ v) :=
  ⟨h.os, h.tape, h.output, by simpa using h.size, fun k hk ho => (Below.heap_setCell _ _ _ _ ho.1).trans (h.block k hk ho)⟩
theorem FrD.turned {B M : Nat} {uv : Value} {a b c : World} (h : FrD B M uv a b) (t : b.mapTurned c M) : FrD B M uv a c :=
  ⟨t.grown.os.trans h.os, t.grown.tape.trans h.tape, t.grown.output.trans h.output, Nat.le_trans h.size t.grown.size, fun k hk ho => (t.grown.block k (Nat.lt_of_lt_of_le hk h.size) (fun e => ho.2.1 (by injection e))).trans (h.block k hk ho)⟩

structure DkAt (lo : Nat) (w : World) (B M : Nat) (uv : Value) (σ : Fs) (U : List Bk) (s bd : Int) (n : Nat) : Prop where
  blk : w.heap[B]? = some (.cells #[.map (some M), uv, .int .i64 s, .int .i64 bd] 46)
  row : ∃ V : List Value, w.ownsRow lo 1 1 uv U.length V ∧ ∀ (i : Nat) (h : i < U.length) (h' : i < V.length), BkAt w (Oth B M uv) B V[i] U[i]
  mp : ∃ D, w.ownsMap Tryz.prog 9 vR M n D ∧ MapIs w (Oth B M uv) D σ
  lo1 : lo ≤ B
  lo2 : lo ≤ M
  fok : FsOk σ
  uok : ∀ b ∈ U, BkOk b
section
variable {lo : Nat} {w : World} {B M : Nat} {uv : Value} {σ : Fs} {U : List Bk} {s bd : Int} {n : Nat}
theorem DkAt.c0 (h : DkAt lo w B M uv σ U s bd n) : w.cell? ⟨B, 0, none⟩ = some (.map (some M)) := by have := h.blk; simp [World.cell?, this]
theorem DkAt.c1 (h : DkAt lo w B M uv σ U s bd n) : w.cell? ⟨B, 1, none⟩ = some uv := by have := h.blk; simp [World.cell?, this]
theorem DkAt.c2 (h : DkAt lo w B M uv σ U s bd n) : w.cell? ⟨B, 2, none⟩ = some (.int .i64 s) := by have := h.blk; simp [World.cell?, this]
theorem DkAt.c3 (h : DkAt lo w B M uv σ U s bd n) : w.cell? ⟨B, 3, none⟩ = some (.int .i64 bd) := by have := h.blk; simp [World.cell?, this]
theorem DkAt.fz (h : DkAt lo w B M uv σ U s bd n) (o : Nat) : w.frozen? ⟨B, o, none⟩ = false := by have := h.blk; simp [World.frozen?, this]
theorem DkAt.lt (h : DkAt lo w B M uv σ U s bd n) : B < w.heap.size := (Array.getElem?_eq_some_iff.1 h.blk).1
theorem DkAt.ltM (h : DkAt lo w B M uv σ U s bd n) : M < w.heap.size := by obtain ⟨D, h1, _⟩ := h.mp; exact h1.lt
theorem DkAt.neM (h : DkAt lo w B M uv σ U s bd n) : M ≠ B := fun e => by
  obtain ⟨D, ⟨es, cl, hb, _⟩, _⟩ := h.mp
  rw [e, h.blk] at hb; injection hb with hb; injection hb
theorem own_cells {w : World} {base e sz n : Nat} {v : Value} {xs : List Value} (h : w.ownsRow base e sz v n xs) {g : Nat} (hg : v.ownBlock = some g) : ∃ cur, w.heap[g]? = some (.cells cur e (0, 0)) := by
  rcases h.2 with ⟨rfl, _⟩ | ⟨g', cap, cur, rfl, hb, hg', _⟩
  · simp [Value.ownBlock] at hg
  · simp [Value.ownBlock] at hg; subst hg; exact ⟨cur, hg'⟩
theorem DkAt.neR (h : DkAt lo w B M uv σ U s bd n) : uv.ownBlock ≠ some B ∧ uv.ownBlock ≠ some M := by
  obtain ⟨V, hV, _⟩ := h.row
  constructor
  · intro e
    obtain ⟨cur, hc⟩ := own_cells hV e
    rw [h.blk] at hc; injection hc with hc; injection hc with _ h2
    exact absurd h2 (by decide)
  · intro e
    obtain ⟨cur, hc⟩ := own_cells hV e
    obtain ⟨D, ⟨es, cl, hb, _⟩, _⟩ := h.mp
    rw [hb] at hc; injection hc with hc; injection hc
theorem DkAt.form (h : DkAt lo w B M uv σ U s bd n) : ∃ A c, uv = .slice A U.length c := by
  obtain ⟨V, hV, _⟩ := h.row
  rcases hV.2 with ⟨h0, h1⟩ | ⟨g, cap', cur, h0, _⟩
  · exact ⟨none, 0, by rw [h0, h1]⟩
  · exact ⟨_, _, h0⟩
/-- New blocks leave it. -/
theorem DkAt.keep (h : DkAt lo w B M uv σ U s bd n) {w' : World} (hb : Below w.heap.size w w') : DkAt lo w' B M uv σ U s bd n := by
  have hk : ∀ b, b < w.heap.size → Oth B M uv b → w'.heap[b]? = w.heap[b]? := fun b hlt _ => hb.block b hlt
  have hO : ∀ b, b < w.heap.size → Oth B M uv b → Oth B M uv b := fun _ _ h => h
  obtain ⟨V, hV, hU⟩ := h.row
  obtain ⟨D, hD, hm⟩ := h.mp
  refine ⟨(hb.block B h.lt).trans h.blk, ⟨V, own_keep hV hb, fun i h1 h2 => (hU i h1 h2).keep hk hO⟩, ⟨D, ?_, hm.keep hk hO⟩, h.lo1, h.lo2, h.fok, h.uok⟩
  obtain ⟨es, cl, h1, h2⟩ := hD
  exact ⟨es, cl, (hb.block M (Array.getElem?_eq_some_iff.1 h1).1).trans h1, h2⟩
theorem DkAt.drewN (h : DkAt lo w B M uv σ U s bd n) (m : Nat) : DkAt lo (w.drewN m) B M uv σ U s bd n := h.keep ⟨rfl, rfl, rfl, Nat.le_refl _, fun _ _ => rfl⟩
/-- The map has turned. -/
theorem DkAt.turned (h : DkAt lo w B M uv σ U s bd n) {w' : World} (t : w.mapTurned w' M) {D : DataW Value} {n' : Nat} {σ' : Fs} (hD : w'.ownsMap Tryz.prog 9 vR M n' D) (hm : MapIs w (Oth B M uv) D σ') (hf : FsOk σ') : DkAt lo w' B M uv σ' U s bd n' := by
  have hk : ∀ b, b < w.heap.size → Oth B M uv b → w'.heap[b]? = w.heap[b]? := fun b hlt ho => t.grown.block b hlt (fun e => ho.2.1 (by injection e))
  have hO : ∀ b, b < w.heap.size → Oth B M uv b → Oth B M uv b := fun _ _ h => h
  obtain ⟨V, hV, hU⟩ := h.row
  exact ⟨(t.grown.block B h.lt (fun e => h.neM (by injection e with e; exact e.symm))).trans h.blk, ⟨V, hV.kept t.grown (.inr h.neR.2), fun i h1 h2 => (hU i h1 h2).keep hk hO⟩, ⟨D, hD, hm.keep hk hO⟩, h.lo1, h.lo2, hf, h.uok⟩
/-- A number of it is written. -/
theorem DkAt.set2 (h : DkAt lo w B M uv σ U s bd n) (s' : Int) : DkAt lo (w.setCell ⟨B, 2, none⟩ (.int .i64 s')) B M uv σ U s' bd n := by
  have hk : ∀ b, b < w.heap.size → Oth B M uv b → (w.setCell ⟨B, 2, none⟩ (.int .i64 s')).heap[b]? = w.heap[b]? := fun b hlt ho => Below.heap_setCell _ _ _ _ ho.1
  have hO : ∀ b, b < w.heap.size → Oth B M uv b → Oth B M uv b := fun _ _ h => h
  obtain ⟨V, hV, hU⟩ := h.row
  obtain ⟨D, hD, hm⟩ := h.mp
  refine ⟨by have := h.blk; simp [World.setCell, Array.getElem?_modify, this], ⟨V, ?_, fun i h1 h2 => (hU i h1 h2).keep hk hO⟩, ⟨D, hD.setCell h.neM _, hm.keep hk hO⟩, h.lo1, h.lo2, h.fok, h.uok⟩
  refine hV.kept (row := some B) ⟨rfl, rfl, rfl, by simp, fun k _ hne => Below.heap_setCell _ _ _ _ (fun e => hne (by rw [e]))⟩ (.inr h.neR.1)
theorem DkAt.set3 (h : DkAt lo w B M uv σ U s bd n) (b' : Int) : DkAt lo (w.setCell ⟨B, 3, none⟩ (.int .i64 b')) B M uv σ U s b' n := by
  have hk : ∀ b, b < w.heap.size → Oth B M uv b → (w.setCell ⟨B, 3, none⟩ (.int .i64 b')).heap[b]? = w.heap[b]? := fun b hlt ho => Below.heap_setCell _ _ _ _ ho.1
  have hO : ∀ b, b < w.heap.size → Oth B M uv b → Oth B M uv b := fun _ _ h => h
  obtain ⟨V, hV, hU⟩ := h.row
  obtain ⟨D, hD, hm⟩ := h.mp
  refine ⟨by have := h.blk; simp [World.setCell, Array.getElem?_modify, this], ⟨V, ?_, fun i h1 h2 => (hU i h1 h2).keep hk hO⟩, ⟨D, hD.setCell h.neM _, hm.keep hk hO⟩, h.lo1, h.lo2, h.fok, h.uok⟩
  refine hV.kept (row := some B) ⟨rfl, rfl, rfl, by simp, fun k _ hne => Below.heap_setCell _ _ _ _ (fun e => hne (by rw [e]))⟩ (.inr h.neR.1)
/-- Another row (grown, or none). -/
theorem DkAt.set1 (h : DkAt lo w B M uv σ U s bd n) {w' : World} {uv' : Value} {U' : List Bk} {V' : List Value} (hg : w.grownBy w' uv.ownBlock) (hn : Nxt w uv uv') (hV : w'.ownsRow lo 1 1 uv' U'.length V')
    (hU : ∀ (i : Nat) (h : i < U'.length) (h' : i < V'.length), BkAt w (Oth B M uv) B V'[i] U'[i]) (hok : ∀ b ∈ U', BkOk b) : DkAt lo (w'.setCell ⟨B, 1, none⟩ uv') B M uv' σ U' s bd n := by
  have hB' : w'.heap[B]? = some (.cells #[.map (some M), uv, .int .i64 s, .int .i64 bd] 46) := (hg.block B h.lt (fun e => h.neR.1 e.symm)).trans h.blk
  have hne' : uv'.ownBlock ≠ some B := fun e => by
    obtain ⟨cur, hc⟩ := own_cells hV e
    rw [hB'] at hc; injection hc with hc; injection hc with _ h2
    exact absurd h2 (by decide)
  have hk : ∀ b, b < w.heap.size → Oth B M uv b → (w'.setCell ⟨B, 1, none⟩ uv').heap[b]? = w.heap[b]? := fun b hlt ho => (Below.heap_setCell _ _ _ _ ho.1).trans (hg.block b hlt (fun e => ho.2.2 e.symm))
  have hO : ∀ b, b < w.heap.size → Oth B M uv b → Oth B M uv' b := fun b hlt ho => ho.next hn hlt
  obtain ⟨D, hD, hm⟩ := h.mp
  refine ⟨by simp [World.setCell, Array.getElem?_modify, hB'], ⟨V', ?_, fun i h1 h2 => (hU i h1 h2).keep hk hO⟩, ⟨D, (hD.kept hg (fun e => h.neR.2 e.symm)).setCell h.neM _, hm.keep hk hO⟩, h.lo1, h.lo2, h.fok, hok⟩
  refine hV.kept (row := some B) ⟨rfl, rfl, rfl, by simp, fun k _ hne => Below.heap_setCell _ _ _ _ (fun e => hne (by rw [e]))⟩ (.inr hne')
end
end Go.Proofs.YtcmnijpcinmbbaaGreatDoor
