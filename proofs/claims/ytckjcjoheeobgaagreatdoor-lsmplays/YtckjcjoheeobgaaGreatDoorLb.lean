/- A store in memory. -/
import Derived.Test.YtckjcjoheeobgaaGreatDoorLa
import Derived.BigRegion
namespace Go.Proofs.YtckjcjoheeobgaaGreatDoor
open Go.RowKit
open Go.Maps (string_keyed)
open Go.Shelf Go.Sort
set_option linter.unusedVariables false

theorem hKs : Maps.Keyed Tryz.prog 9 := string_keyed (P := Tryz.prog) (k := 9) Tryz.underlying9
theorem key_of (k : ByteArray) (h : k.size ≤ maxLen) : keyOf Tryz.prog 9 (.string k) = some (.string k.data.toList) := WideMaps.keyOf_string_mk Tryz.underlying9 h

/-- What a store turns: maps, stores, rows of tables. -/
def Turns (o : Obj) : Prop := (∃ es cl, o = .map es cl) ∨ (∃ cur, o = .cells cur 66 (0, 0)) ∨ ∃ cur, o = .cells cur 56 (0, 0)
/-- All else stays, and all below lo. -/
structure FrS (lo : Nat) (w w' : World) : Prop where
  os : w'.os = w.os
  tape : w'.tape = w.tape
  output : w'.output = w.output
  size : w.heap.size ≤ w'.heap.size
  low : ∀ k, k < lo → w'.heap[k]? = w.heap[k]?
  kept : ∀ (k : Nat) (o : Obj), w.heap[k]? = some o → ¬ Turns o → w'.heap[k]? = some o
theorem FrS.refl (lo : Nat) (w : World) : FrS lo w w := ⟨rfl, rfl, rfl, Nat.le_refl _, fun _ _ => rfl, fun _ _ h _ => h⟩
theorem FrS.trans {lo : Nat} {a b c : World} (h : FrS lo a b) (k : FrS lo b c) : FrS lo a c :=
  ⟨k.os.trans h.os, k.tape.trans h.tape, k.output.trans h.output, Nat.le_trans h.size k.size, fun i hi => (k.low i hi).trans (h.low i hi), fun i o hi ho => k.kept i o (h.kept i o hi ho) ho⟩
theorem FrS.below {lo : Nat} {w w' : World} (h : Below w.heap.size w w') (hlo : lo ≤ w.heap.size) : FrS lo w w' :=
  ⟨h.os, h.tape, h.output, h.size, fun k hk => h.block k (by omega), fun k o hk _ => by rw [h.block k (some_lt hk)]; exact hk⟩
theorem FrS.toBelow {lo : Nat} {w w' : World} (h : FrS lo w w') : Below lo w w' := ⟨h.os, h.tape, h.output, h.size, h.low⟩
theorem FrS.of_fr {lo : Nat} {xs : List Nat} {w w' : World} (f : Fr xs w w') (hlo : lo ≤ w.heap.size) (hx : ∀ k ∈ xs, lo ≤ k ∧ ∀ o, w.heap[k]? = some o → Turns o) : FrS lo w w' :=
  ⟨f.os, f.tape, f.output, f.size, fun k hk => f.block k (by omega) (fun hm => by have := (hx k hm).1; omega), fun k o hk ho => by
    rw [f.block k (some_lt hk) (fun hm => ho ((hx k hm).2 o hk))]; exact hk⟩
theorem FrS.mono {lo lo' : Nat} {w w' : World} (h : FrS lo w w') (hl : lo' ≤ lo) : FrS lo' w w' := ⟨h.os, h.tape, h.output, h.size, fun k hk => h.low k (by omega), h.kept⟩

/-- Of a map of n at most: as many as there are. -/
theorem own_tight {H : Type} {P : Program} {k : TypeId} {R : Value → Option (DataW H × List MemPlace)} {w : World} {b n : Nat} {D : DataW H} (h : w.ownsMap P k R b n D) : w.ownsMap P k R b (Maps.size D) D := by
  obtain ⟨es, cl, h1, h2, h3, rfl⟩ := h
  refine ⟨es, cl, h1, h2, ?_, rfl⟩
  simp [Maps.size, length_sorted]
theorem strKeys_facts {H : Type} {P : Program} {k : TypeId} {R : Value → Option (DataW H × List MemPlace)} {w : World} {b n : Nat} {D : DataW H} (hown : w.ownsMap P k R b n D) (K : Maps.Keyed P k) (hk : P.underlying k = some .string) :
    (strKeys D).Nodup ∧ (∀ x, x ∈ strKeys D ↔ Maps.has D (.string x) = true) ∧ (strKeys D).length = Maps.size D := by
  obtain ⟨es, hD, hpw, _⟩ := hown.entries K
  obtain ⟨es', hD', hko⟩ := hown.keysOf
  obtain rfl : es = es' := by rw [hD] at hD'; simpa using hD'
  subst hD
  have hk' : ∀ p ∈ es, ∃ x, p.1 = .string x := fun p hp => by obtain ⟨v, hv⟩ := hko p hp; obtain ⟨x, _, hx, _⟩ := Maps.keyOf_str hk hv; exact ⟨x, hx⟩
  refine ⟨?_, fun x => ?_, by simp [strKeys, Maps.size]⟩
  · show (es.map fun p => strOf p.1).Nodup
    refine List.pairwise_map.2 (hpw.imp_of_mem fun {p q} hp' hq' hne e => hne ?_)
    obtain ⟨a, ha⟩ := hk' p hp'
    obtain ⟨b, hb⟩ := hk' q hq'
    rw [ha, hb] at e ⊢
    exact congrArg _ e
  · rw [Maps.has_eq, List.any_eq_true]
    show x ∈ (es.map fun p => strOf p.1) ↔ _
    rw [List.mem_map]
    constructor
    · rintro ⟨p, hp', rfl⟩
      obtain ⟨a, ha⟩ := hk' p hp'
      exact ⟨p, hp', by rw [ha]; simp [Lit.sameKey, strOf]⟩
    · rintro ⟨p, hp', hs⟩
      obtain ⟨a, ha⟩ := hk' p hp'
      rw [ha] at hs
      exact ⟨p, hp', by rw [ha]; simpa [Lit.sameKey, strOf] using hs⟩
theorem nd_len {a b : List (List UInt8)} (ha : a.Nodup) (hb : b.Nodup) (h : ∀ x, x ∈ a ↔ x ∈ b) : a.length = b.length := ((List.perm_ext_iff_of_nodup ha hb).2 h).length_eq
theorem stE_at (l : List En) (k : ByteArray) : stE l k = atK l k.data.toList := rfl
theorem mk_key (x : List UInt8) : (⟨x.toArray⟩ : ByteArray).data.toList = x := by simp
theorem ris_nd {l : List En} (h : Ris l) : (l.map kl).Nodup := by
  refine List.pairwise_map.2 (h.imp ?_)
  intro a b h1 h2
  rw [h2] at h1; exact kl_irrefl _ h1
theorem last_len {w : World} {M n : Nat} {D : DataW Unit} {l : List En} (hown : w.ownsMap Tryz.prog 9 enR M n D) (hD : MapIs D (stE l)) (hr : Ris l) : Maps.size D = l.length := by
  obtain ⟨h1, h2, h3⟩ := strKeys_facts hown hKs Tryz.underlying9
  rw [← h3, show l.length = (l.map kl).length from by simp]
  refine nd_len h1 (ris_nd hr) (fun x => ?_)
  have := hD.has ⟨x.toArray⟩
  rw [mk_key] at this
  rw [h2, this, stE_at, mk_key, List.mem_map]
  constructor
  · intro h
    obtain ⟨e, he⟩ := Option.isSome_iff_exists.1 h
    exact ⟨e, atK_mem he⟩
  · rintro ⟨e, he, rfl⟩
    rw [(mem_at hr e).1 he]; rfl

/-- The last entries; the fresh keys; the tables. -/
def LastIs (w : World) (M : Nat) (l : List En) : Prop := ∃ D : DataW Unit, w.ownsMap Tryz.prog 9 enR M l.length D ∧ MapIs D (stE l)
def FrIs (w : World) (M : Nat) (fr : List (List UInt8)) : Prop := ∃ D : DataW Unit, w.ownsMap Tryz.prog 9 unitElem M fr.length D ∧ ∀ x : List UInt8, Maps.has D (.string x) = decide (x ∈ fr)
def TabsAt (lo : Nat) (w : World) (v : Value) (ts : List (List En)) : Prop := ∃ T : List Tab, w.ownsRow lo 56 1 v T.length (T.map tabV) ∧ T.map (·.2.2) = ts.map buildB ∧ ∀ t ∈ T, TabOk w t ∧ LyAt w t.1 5
theorem LastIs.mk {w : World} {M n : Nat} {D : DataW Unit} {l : List En} (hown : w.ownsMap Tryz.prog 9 enR M n D) (hD : MapIs D (stE l)) (hr : Ris l) : LastIs w M l := ⟨D, by rw [← last_len hown hD hr]; exact own_tight hown, hD⟩
theorem fr_len {w : World} {M n : Nat} {D : DataW Unit} {fr : List (List UInt8)} (hown : w.ownsMap Tryz.prog 9 unitElem M n D) (hD : ∀ x : List UInt8, Maps.has D (.string x) = decide (x ∈ fr)) (hr : fr.Nodup) : Maps.size D = fr.length := by
  obtain ⟨h1, h2, h3⟩ := strKeys_facts hown hKs Tryz.underlying9
  rw [← h3]
  exact nd_len h1 hr (fun x => by rw [h2, hD]; simp)
theorem FrIs.mk {w : World} {M n : Nat} {D : DataW Unit} {fr : List (List UInt8)} (hown : w.ownsMap Tryz.prog 9 unitElem M n D) (hD : ∀ x : List UInt8, Maps.has D (.string x) = decide (x ∈ fr)) (hr : fr.Nodup) : FrIs w M fr := ⟨D, by rw [← fr_len hown hD hr]; exact own_tight hown, hD⟩
theorem LastIs.block {w w' : World} {M : Nat} {l : List En} (h : LastIs w M l) (hb : w'.heap[M]? = w.heap[M]?) : LastIs w' M l := by
  obtain ⟨D, h1, h2⟩ := h; exact ⟨D, own_block h1 hb, h2⟩
theorem FrIs.block {w w' : World} {M : Nat} {l : List (List UInt8)} (h : FrIs w M l) (hb : w'.heap[M]? = w.heap[M]?) : FrIs w' M l := by
  obtain ⟨D, h1, h2⟩ := h; exact ⟨D, own_block h1 hb, h2⟩
theorem LastIs.map {w : World} {M : Nat} {l : List En} (h : LastIs w M l) : ∃ es cl, w.heap[M]? = some (.map es cl) := by
  obtain ⟨D, ⟨es, cl, h1, -⟩, -⟩ := h; exact ⟨es, cl, h1⟩
theorem FrIs.map {w : World} {M : Nat} {l : List (List UInt8)} (h : FrIs w M l) : ∃ es cl, w.heap[M]? = some (.map es cl) := by
  obtain ⟨D, ⟨es, cl, h1, -⟩, -⟩ := h; exact ⟨es, cl, h1⟩
theorem LyAt.block {w w' : World} {p : Option Addr} {e : TypeId} (h : LyAt w p e) (hk : ∀ (k : Nat) (cur : Array Value), w.heap[k]? = some (.cells cur e (0, 0)) → w'.heap[k]? = w.heap[k]?) : LyAt w' p e := by
  rcases h with h | ⟨g, cur, h1, h2⟩
  · exact .inl h
  · exact .inr ⟨g, cur, h1, by rw [hk g cur h2]; exact h2⟩
theorem LyAt.same {w w' : World} {p : Option Addr} {e : TypeId} (h : LyAt w p e) (hk : ∀ (k : Nat) (cur : Array Value), w.heap[k]? = some (.cells cur e (0, 0)) → w'.heap[k]? = w.heap[k]?) (a : Addr) (ha : p = some a) : w'.heap[a.block]? = w.heap[a.block]? := by
  rcases h with h | ⟨g, cur, h1, h2⟩
  · rw [h] at ha; cases ha
  · rw [h1] at ha; injection ha with ha; subst ha; exact hk g cur h2
theorem CsAt.block {w w' : World} {p : Option Addr} {e : TypeId} {cs : List Value} (h : CsAt w p cs) (ha : LyAt w p e) (hk : ∀ (k : Nat) (cur : Array Value), w.heap[k]? = some (.cells cur e (0, 0)) → w'.heap[k]? = w.heap[k]?) : CsAt w' p cs := by
  rcases h with h | ⟨b, o, rfl, hc⟩
  · exact .inl h
  · have hs := ha.same hk _ rfl
    refine .inr ⟨b, o, rfl, fun j u hu => ?_⟩
    have := hc j u hu
    unfold World.cell? at this ⊢
    simp only at hs this ⊢
    rw [hs]; exact this
theorem TabOk.block {w w' : World} {t : Tab} (h : TabOk w t) (ha : LyAt w t.1 5) (hk : ∀ (k : Nat) (cur : Array Value), w.heap[k]? = some (.cells cur 5 (0, 0)) → w'.heap[k]? = w.heap[k]?) : TabOk w' t :=
  ⟨h.1.blocks (fun a hp _ => ha.same hk a hp), h.2⟩
theorem own_row {w w' : World} {B n m : Nat} {e : TypeId} {v : Value} {cs : List Value} (h : w.ownsRow B e m v n cs) (hk : ∀ (k : Nat) (cur : Array Value), w.heap[k]? = some (.cells cur e (0, 0)) → w'.heap[k]? = w.heap[k]?) : w'.ownsRow B e m v n cs := by
  refine ⟨h.1, h.2.imp id ?_⟩
  rintro ⟨g, cap, cur, h0, hb, hg, hr⟩
  exact ⟨g, cap, cur, h0, hb, by rw [hk g cur hg]; exact hg, hr⟩
theorem TabsAt.block {lo : Nat} {w w' : World} {v : Value} {ts : List (List En)} (h : TabsAt lo w v ts) (hk : ∀ (k : Nat) (cur : Array Value) (e : TypeId), w.heap[k]? = some (.cells cur e (0, 0)) → e = 5 ∨ e = 56 → w'.heap[k]? = w.heap[k]?) : TabsAt lo w' v ts := by
  obtain ⟨T, h1, h2, h3⟩ := h
  exact ⟨T, own_row h1 (fun k cur hc => hk k cur _ hc (.inr rfl)), h2, fun t ht => ⟨(h3 t ht).1.block (h3 t ht).2 (fun k cur hc => hk k cur _ hc (.inl rfl)), (h3 t ht).2.block (fun k cur hc => hk k cur _ hc (.inl rfl))⟩⟩
theorem TabsAt.len {lo : Nat} {w : World} {v : Value} {ts : List (List En)} (h : TabsAt lo w v ts) : ∃ A cap, v = .slice A ts.length cap := by
  obtain ⟨T, h1, h2, -⟩ := h
  have := congrArg List.length h2
  simp only [List.length_map] at this
  obtain ⟨A, cap, e⟩ := row_slice h1
  exact ⟨A, cap, by rw [e, this]⟩

structure StAt (lo : Nat) (w : World) (S Ml Mf : Nat) (v : Value) (s : Sto) : Prop where
  blk : w.heap[S]? = some (.cells #[.int .i64 s.lim, .map (some Ml), .map (some Mf), v] 66 (0, 0))
  last : LastIs w Ml s.all
  fresh : FrIs w Mf s.fr
  tabs : TabsAt lo w v s.tabs
  loS : lo ≤ S
  loL : lo ≤ Ml
  loF : lo ≤ Mf
  ne : Ml ≠ Mf
section
variable {lo : Nat} {w w' : World} {S Ml Mf : Nat} {v : Value} {s : Sto}
theorem StAt.neL (h : StAt lo w S Ml Mf v s) : S ≠ Ml := fun e => by
  obtain ⟨es, cl, h1⟩ := h.last.map
  rw [← e, h.blk] at h1; cases h1
theorem StAt.neF (h : StAt lo w S Ml Mf v s) : S ≠ Mf := fun e => by
  obtain ⟨es, cl, h1⟩ := h.fresh.map
  rw [← e, h.blk] at h1; cases h1
theorem StAt.lt (h : StAt lo w S Ml Mf v s) : S < w.heap.size ∧ Ml < w.heap.size ∧ Mf < w.heap.size := by
  obtain ⟨es, cl, h1⟩ := h.last.map
  obtain ⟨es', cl', h2⟩ := h.fresh.map
  exact ⟨some_lt h.blk, some_lt h1, some_lt h2⟩
/-- As it was, where all its blocks are. -/
theorem StAt.keep (h : StAt lo w S Ml Mf v s) (hb : Below w.heap.size w w') : StAt lo w' S Ml Mf v s := by
  obtain ⟨l1, l2, l3⟩ := h.lt
  exact ⟨(hb.block _ l1).trans h.blk, h.last.block (hb.block _ l2), h.fresh.block (hb.block _ l3), h.tabs.block (fun k cur e hc _ => hb.block k (some_lt hc)), h.loS, h.loL, h.loF, h.ne⟩
theorem StAt.drewN (h : StAt lo w S Ml Mf v s) (n : Nat) : StAt lo (w.drewN n) S Ml Mf v s := ⟨h.blk, h.last, h.fresh, h.tabs, h.loS, h.loL, h.loF, h.ne⟩
theorem StAt.cell (h : StAt lo w S Ml Mf v s) : w.cell? ⟨S, 0, none⟩ = some (.int .i64 s.lim) ∧ w.cell? ⟨S, 1, none⟩ = some (.map (some Ml)) ∧ w.cell? ⟨S, 2, none⟩ = some (.map (some Mf)) ∧ w.cell? ⟨S, 3, none⟩ = some v := by
  refine ⟨?_, ?_, ?_, ?_⟩ <;> simp [World.cell?, h.blk]
theorem StAt.fz (h : StAt lo w S Ml Mf v s) (o : Nat) : w.frozen? ⟨S, o, none⟩ = false := by
  unfold World.frozen?
  simp [h.blk]
theorem StAt.turnS (h : StAt lo w S Ml Mf v s) : ∀ o, w.heap[S]? = some o → Turns o := fun o ho => by
  rw [h.blk] at ho; injection ho with ho; exact .inr (.inl ⟨_, ho.symm⟩)
theorem StAt.turnL (h : StAt lo w S Ml Mf v s) : ∀ o, w.heap[Ml]? = some o → Turns o := fun o ho => by
  obtain ⟨es, cl, h1⟩ := h.last.map
  rw [h1] at ho; injection ho with ho; subst ho; exact .inl ⟨_, _, rfl⟩
theorem StAt.turnF (h : StAt lo w S Ml Mf v s) : ∀ o, w.heap[Mf]? = some o → Turns o := fun o ho => by
  obtain ⟨es, cl, h1⟩ := h.fresh.map
  rw [h1] at ho; injection ho with ho; subst ho; exact .inl ⟨_, _, rfl⟩
/-- The row's own block. -/
theorem StAt.row (h : StAt lo w S Ml Mf v s) {g : Nat} (hg : v.ownBlock = some g) : lo ≤ g ∧ ∃ cur, w.heap[g]? = some (.cells cur 56 (0, 0)) := by
  obtain ⟨T, h1, -⟩ := h.tabs
  rcases h1.2 with ⟨h0, -⟩ | ⟨g', cap, cur, h0, hb, hc, -⟩
  · rw [h0] at hg; simp [Value.ownBlock] at hg
  · rw [h0] at hg; simp [Value.ownBlock] at hg; subst hg; exact ⟨hb, cur, hc⟩
theorem StAt.turnR (h : StAt lo w S Ml Mf v s) {g : Nat} (hg : v.ownBlock = some g) : ∀ o, w.heap[g]? = some o → Turns o := fun o ho => by
  obtain ⟨-, cur, hc⟩ := h.row hg
  rw [hc] at ho; injection ho with ho; subst ho; exact .inr (.inr ⟨_, rfl⟩)
theorem StAt.loW (h : StAt lo w S Ml Mf v s) : lo ≤ w.heap.size := by have := h.lt.1; have := h.loS; omega
end
end Go.Proofs.YtckjcjoheeobgaaGreatDoor
