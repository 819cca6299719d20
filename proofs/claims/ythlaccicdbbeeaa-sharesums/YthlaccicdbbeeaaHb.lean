/- A Share in memory; the names told so far. -/
import Derived.Test.YthlaccicdbbeeaaHa
namespace Go.Proofs.Ythlaccicdbbeeaa
open Go.RowKit
open Go.Maps (string_keyed int_keyed)
open Go.Sort Go.Shelf
set_option linter.unusedVariables false

structure ShAt (w : World) (B P C n : Nat) (L : List Pic) (g : ByteArray → Nat) : Prop where
  blk : w.heap[B]? = some (.cells #[.map (some P), .map (some C)] 70)
  pic : PIs w P L
  cnt : CIs w C n (fun f => decide (g f ≠ 0)) g
  ne : P ≠ C
section
variable {w w' : World} {B P C n : Nat} {L : List Pic} {g : ByteArray → Nat}
theorem ShAt.c0 (h : ShAt w B P C n L g) : w.cell? ⟨B, 0, none⟩ = some (.map (some P)) := by have := h.blk; simp [World.cell?, this]
theorem ShAt.c1 (h : ShAt w B P C n L g) : w.cell? ⟨B, 1, none⟩ = some (.map (some C)) := by have := h.blk; simp [World.cell?, this]
theorem ShAt.maps (h : ShAt w B P C n L g) : ∀ b ∈ [P, C], ∃ es cl, w.heap[b]? = some (.map es cl) := fun b hb => by
  simp at hb
  rcases hb with rfl | rfl
  · exact h.pic.map
  · exact h.cnt.map
theorem ShAt.neP (h : ShAt w B P C n L g) : B ≠ P := fun e => by
  obtain ⟨es, cl, h1⟩ := h.pic.map
  rw [← e, h.blk] at h1; injection h1 with h1; injection h1
theorem ShAt.neC (h : ShAt w B P C n L g) : B ≠ C := fun e => by
  obtain ⟨es, cl, h1⟩ := h.cnt.map
  rw [← e, h.blk] at h1; injection h1 with h1; injection h1
theorem ShAt.lt (h : ShAt w B P C n L g) : B < w.heap.size := some_lt h.blk
theorem ShAt.ltP (h : ShAt w B P C n L g) : P < w.heap.size := by obtain ⟨es, cl, h1⟩ := h.pic.map; exact some_lt h1
theorem ShAt.ltC (h : ShAt w B P C n L g) : C < w.heap.size := by obtain ⟨es, cl, h1⟩ := h.cnt.map; exact some_lt h1
/-- New blocks leave it. -/
theorem ShAt.keep (h : ShAt w B P C n L g) (hb : Below w.heap.size w w') : ShAt w' B P C n L g :=
  ⟨(hb.block B h.lt).trans h.blk, h.pic.keep (Fr.below (xs := []) hb) (by simp) (by simp), h.cnt.block (hb.block C h.ltC), h.ne⟩
theorem ShAt.drewN (h : ShAt w B P C n L g) (m : Nat) : ShAt (w.drewN m) B P C n L g := h.keep ⟨rfl, rfl, rfl, Nat.le_refl _, fun _ _ => rfl⟩
theorem ShAt.up (h : ShAt w B P C n L g) {n' : Nat} (hn : n ≤ n') : ShAt w B P C n' L g := by
  obtain ⟨D, h1, h2⟩ := h.cnt
  exact ⟨h.blk, h.pic, ⟨D, h1.mono hn, h2⟩, h.ne⟩
end
theorem new_any (w : World) : Calls Try.prog 15 #[] w fun e w' => e = .returned (.pointer (some ⟨w.heap.size + 2, 0, none⟩)) ∧ ShAt w' (w.heap.size + 2) w.heap.size (w.heap.size + 1) 0 [] (fun _ => 0) ∧ Below w.heap.size w w' := by
  have hmm := @run_makeMap Try.prog
  have hp := ((World.ownsMap_made w Try.prog 3 vR).alloc (.map #[] 0)).alloc (.cells #[.map (some w.heap.size), .map (some (w.heap.size + 1))] 70)
  have hc := (World.ownsMap_made (w.alloc (.map #[] 0)) Try.prog 9 vR).alloc (.cells #[.map (some w.heap.size), .map (some (w.heap.size + 1))] 70)
  have e1 : (w.alloc (.map #[] 0)).heap.size = w.heap.size + 1 := by simp
  rw [e1] at hc
  go_enter Try.func15, Try.ntmps15
  go_wp2
  go_ret
  refine ⟨rfl, ⟨?_, ⟨_, hp, fun _ => rfl, by simp⟩, ⟨_, hc, fun _ => ⟨rfl, rfl⟩⟩, by omega⟩, (((Below.refl _ _).alloc (Nat.le_refl _) _).alloc (by simp) _).alloc (by simp; omega) _⟩
  show (((w.heap.push _).push _).push _)[w.heap.size + 2]? = _
  have : ((w.heap.push (.map #[] 0)).push (.map #[] 0)).size = w.heap.size + 2 := by simp
  rw [← this, Array.getElem?_push_size]
theorem count_any {w : World} {B P C n : Nat} {L : List Pic} {g : ByteArray → Nat} (h : ShAt w B P C n L g) (f : ByteArray) (hf : f.size ≤ maxLen) :
    Calls Try.prog 17 #[.pointer (some ⟨B, 0, none⟩), .string f] w fun e w' => e = .returned (.int .i64 (g f)) ∧ w = w' := by
  have c1 := h.c1
  have hl := h.cnt.look f hf
  clear h
  go_enter Try.func17, Try.ntmps17
  go_wp2
  go_ret
  exact ⟨rfl, rfl⟩

theorem strKeys_facts {H : Type} {P : Program} {k : TypeId} {R : Value → Option (DataW H × List MemPlace)} {w : World} {b n : Nat} {D : DataW H} (hown : w.ownsMap P k R b n D) (K : Maps.Keyed P k) (hk : P.underlying k = some .string) :
    (strKeys D).Nodup ∧ (∀ x, x ∈ strKeys D ↔ Maps.has D (.string x) = true) ∧ (strKeys D).length = Maps.size D := by
  obtain ⟨es, hD, hpw, _⟩ := hown.entries K
  obtain ⟨es', hD', hko⟩ := hown.keysOf
  obtain rfl : es = es' := by rw [hD] at hD'; simpa using hD'
  subst hD
  have hk' : ∀ p ∈ es, ∃ x, p.1 = .string x := fun p hp => by obtain ⟨v, hv⟩ := hko p hp; obtain ⟨x, _, hx, _⟩ := Maps.keyOf_str hk hv; exact ⟨x, hx⟩
  refine ⟨?_, fun x => ?_, by simp [strKeys, Maps.size]⟩
  · show (es.map fun p => strOf p.1).Nodup
    refine List.pairwise_map.2 (hpw.imp_of_mem fun {p q} hp' hq' hne e => hne ?_)
    obtain ⟨a, ha⟩ := hk' p hp'
    obtain ⟨b, hb⟩ := hk' q hq'
    rw [ha, hb] at e ⊢
    exact congrArg _ e
  · rw [Maps.has_eq, List.any_eq_true]
    show x ∈ (es.map fun p => strOf p.1) ↔ _
    rw [List.mem_map]
    constructor
    · rintro ⟨p, hp', rfl⟩
      obtain ⟨a, ha⟩ := hk' p hp'
      exact ⟨p, hp', by rw [ha]; simp [Lit.sameKey, strOf]⟩
    · rintro ⟨p, hp', hs⟩
      obtain ⟨a, ha⟩ := hk' p hp'
      rw [ha] at hs
      exact ⟨p, hp', by rw [ha]; simpa [Lit.sameKey, strOf] using hs⟩
def mkB (x : List UInt8) : ByteArray := ⟨x.toArray⟩
theorem mkB_data (x : List UInt8) : (mkB x).data.toList = x := by simp [mkB]
theorem mkB_self (k : ByteArray) : mkB k.data.toList = k := by cases k; simp [mkB]
theorem mkB_inj {x y : List UInt8} (h : mkB x = mkB y) : x = y := by rw [← mkB_data x, ← mkB_data y, h]
/-- The keys of a map, sorted: each once, just those that it has. -/
theorem sorted_keys {H : Type} {w : World} {R : Value → Option (DataW H × List MemPlace)} {b n : Nat} {D : DataW H} (hown : w.ownsMap Try.prog 9 R b n D) {ss : List (List UInt8)} (hp : ss.Perm (strKeys D)) :
    (((ss.mergeSort leB).map mkB).Nodup ∧ (∀ f, f ∈ (ss.mergeSort leB).map mkB ↔ Maps.has D (kl f) = true) ∧ ((ss.mergeSort leB).map mkB).length = Maps.size D) ∧ ((ss.mergeSort leB).map mkB).Pairwise (fun a b => a.data.toList ≤ b.data.toList) := by
  obtain ⟨h1, h2, h3⟩ := strKeys_facts hown hKs Try.underlying9
  have tr : ∀ a b c : List UInt8, leB a b = true → leB b c = true → leB a c = true := fun a b c h1 h2 => by simp only [leB, decide_eq_true_eq] at *; exact List.le_trans h1 h2
  have to : ∀ a b : List UInt8, (leB a b || leB b a) = true := fun a b => by simp only [leB, Bool.or_eq_true, decide_eq_true_eq]; exact List.le_total a b
  have hpm : (ss.mergeSort leB).Perm (strKeys D) := (List.mergeSort_perm ss leB).trans hp
  refine ⟨⟨?_, fun f => ?_, ?_⟩, ?_⟩
  · rw [List.Nodup, List.pairwise_map]
    exact (hpm.nodup_iff.2 h1).imp fun {a b} h e => h (mkB_inj e)
  · rw [List.mem_map]
    constructor
    · rintro ⟨x, hx, rfl⟩
      unfold kl
      rw [mkB_data, ← h2]
      exact hpm.mem_iff.1 hx
    · intro h
      exact ⟨f.data.toList, hpm.mem_iff.2 ((h2 _).2 h), mkB_self f⟩
  · rw [List.length_map, hpm.length_eq, h3]
  · rw [List.pairwise_map]
    refine (List.pairwise_mergeSort tr to ss).imp fun {a b} h => ?_
    rw [mkB_data, mkB_data]; simpa [leB] using h
theorem row_ss {w : World} {B : Nat} {v : Value} {ss : List (List UInt8)} (hrow : w.ownsRow B 9 1 v ss.length ((ss.mergeSort leB).map encStr)) :
    ∃ A cap, v = .slice A ((ss.mergeSort leB).map mkB).length cap ∧ SsAt w A ((ss.mergeSort leB).map mkB) ∧ (∀ a, A = some a → B ≤ a.block ∧ a.off = 0 ∧ ∃ cur, w.heap[a.block]? = some (.cells cur 9 (0, 0))) := by
  have hlen : ((ss.mergeSort leB).map mkB).length = ss.length := by simp
  rcases hrow.2 with ⟨h0, h1⟩ | ⟨g, cap, cur, h0, hg, hgg, _⟩
  · exact ⟨none, 0, by rw [hlen, h0, h1], .inl (List.length_eq_zero_iff.1 (by rw [hlen, h1])), (by intro a h; cases h)⟩
  · refine ⟨some ⟨g, 0, none⟩, cap, by rw [hlen, h0], .inr ⟨g, 0, rfl, fun i hi => ?_⟩, (by intro a h; injection h with h; subst h; exact ⟨hg, rfl, cur, hgg⟩)⟩
    subst h0
    rw [hlen] at hi
    rw [Nat.zero_add, hrow.cellAt i (by omega)]
    simp [mkB, hi]

/-- The names told so far. -/
def TIs (w : World) (M : Nat) (l : List ByteArray) : Prop := ∃ D, w.ownsMap Try.prog 9 vR M (disL l).length D ∧ ∀ f, Maps.has D (kl f) = true ↔ f ∈ l
theorem TIs.size {w : World} {M n : Nat} {l : List ByteArray} {D : DataW Value} (hown : w.ownsMap Try.prog 9 vR M n D) (hh : ∀ f, Maps.has D (kl f) = true ↔ f ∈ l) : Maps.size D = (disL l).length := by
  obtain ⟨⟨h1, h2, h3⟩, -⟩ := sorted_keys hown (List.Perm.refl _)
  rw [← h3]
  exact nd_len h1 (nd_dis l) fun f => by rw [h2, hh, mem_dis]
theorem TIs.nil (w : World) : TIs (w.alloc (.map #[] 0)) w.heap.size [] := ⟨_, World.ownsMap_made w Try.prog 9 vR, fun f => by simp [Maps.has]⟩
theorem TIs.block {w w' : World} {M : Nat} {l : List ByteArray} (h : TIs w M l) (hb : w'.heap[M]? = w.heap[M]?) : TIs w' M l := by
  obtain ⟨D, h1, h2⟩ := h; exact ⟨D, own_block h1 hb, h2⟩
theorem TIs.len {w : World} {M : Nat} {l : List ByteArray} (h : TIs w M l) (ty : TypeId) : (Builtin.len_ #[82] ty #[.map (some M)]).run Try.prog w = .ok (.int .i64 (disL l).length) w := by
  obtain ⟨D, h1, h2⟩ := h
  rw [h1.len Try.underlying82 ty, TIs.size h1 h2]
theorem TIs.put {w : World} {M : Nat} {l : List ByteArray} (h : TIs w M l) (hl : (disL l).length ≤ 400) (f : ByteArray) (hf : f.size ≤ maxLen) :
    ∃ w', (Instr.mapUpdate 82 (.map (some M)) (.string f) (.agg #[])).run Try.prog w = .ok () w' ∧ TIs w' M (l ++ [f]) ∧ Fr [M] w w' := by
  obtain ⟨D, h1, h2⟩ := h
  obtain ⟨w', e1, e2, e3⟩ := h1.store (t := 82) hKs Try.underlying82 (by unfold maxLen; omega) (key_of f hf) (show vR (.agg #[]) = some (.held (.agg #[]), []) from rfl)
  have hD := h1.isMap
  have hH : ∀ x, Maps.has (D.put (kl f) (.held (.agg #[]))) (kl x) = true ↔ x ∈ l ++ [f] := fun x => by
    by_cases e : x = f
    · subst e
      rw [show Maps.has (D.put (kl x) (.held (.agg #[]))) (kl x) = true from Maps.has_put_same hD (show WideAt.IsKeyLit (.string _) from trivial) _]
      simp
    · rw [Maps.has_put_other (fun h => e (kl_inj h)), h2 x]
      simp [e]
  exact ⟨w', e1, ⟨_, by rw [← TIs.size e2 hH]; exact own_tight e2, hH⟩, fr_turned e3⟩
end Go.Proofs.Ythlaccicdbbeeaa
