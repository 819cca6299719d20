/- The calls on a disk: Read, Names. -/
import Derived.Test.YtcmnijpcinmbbaaGreatDoorDe
import Derived.Test.YtcmnijpcinmbbaaGreatDoorIter
namespace Go.Proofs.YtcmnijpcinmbbaaGreatDoor
open Go.RowKit
open Go.Maps (string_keyed)
open Go.Sort
set_option linter.unusedVariables false
section
variable {lo : Nat} {w : World} {B M : Nat} {uv : Value} {d : Ds} {n : Nat}

/-- How Read ends. -/
def ReadEnd (w : World) (d : Ds) (k : ByteArray) (e : Ending) (w' : World) : Prop :=
  Below w.heap.size w w' ∧ if rdD d k = 0 then ∃ A cap, e = .returned (.tuple #[.slice A ((d.σ k).getD []).length cap, .nilIface]) ∧ BsAt w' A ((d.σ k).getD []) ∧ (∀ a, A = some a → w.heap.size ≤ a.block) ∧ ((d.σ k).getD []).length ≤ cap ∧ cap ≤ maxLen
    else e = .returned (.tuple #[.slice none 0 0, erV (rdD d k)])

theorem bclone_cap (w : World) (p : Option Addr) (c : Nat) (x : List UInt8) (hx : BsAt w p x) (m : Nat) (hm : m = x.length) (hlen : x.length ≤ 140737488355328) :
    Calls Tryz.prog 38 #[.slice p m c] w fun e w' => ∃ A cap, e = .returned (.slice A x.length cap) ∧ BsAt w' A x ∧ (∀ a, A = some a → w.heap.size ≤ a.block) ∧ Below w.heap.size w w' ∧ x.length ≤ cap ∧ cap ≤ maxLen := by
  cases p with
  | some a =>
    refine (clone_any w a m c x hx hm hlen).mono ?_
    rintro e w' ⟨v', rfl, ho, hb⟩
    obtain ⟨A, cap, rfl⟩ := own_slice ho
    obtain ⟨h1, h2, _, h4⟩ := own_bs ho rfl
    refine ⟨A, cap, rfl, h1, h4, hb, h2, ?_⟩
    rcases ho.2 with ⟨h0, -⟩ | ⟨g, cap', cur, h0, _, _, _, hm, _⟩
    · simp at h0; rw [h0.2.2]; exact Nat.zero_le _
    · simp at h0; rw [h0.2]; exact hm
  | none =>
    have hx0 : x = [] := by
      rcases hx with h | ⟨b, o, h, -⟩
      · exact h
      · cases h
    subst hx0
    subst hm
    have q22 : ∀ (w : World) (a : Option Addr) (n c n' c' : Nat), (binOp .eql 23 (.slice a n c) (.slice none n' c')).run Tryz.prog w = .ok (.bool a.isNone) w := fun w a n c n' c' => Lib.run_eql_slice_nil w _ _ a n c n' c' Tryz.underlying23
    go_enter Tryz.func38, Tryz.ntmps38
    go_wp2_with fail
    go_ret
    exact ⟨none, 0, rfl, .inl rfl, (by intro a h; cases h), Below.refl _ _, Nat.le_refl _, Nat.zero_le _⟩
set_option maxRecDepth 100000 in
set_option maxHeartbeats 4000000 in
theorem read_any (h : DkS lo w B M uv d n) (k : ByteArray) (hkk : k.size ≤ maxLen) :
    Calls Tryz.prog 46 #[.pointer (some ⟨B, 0, none⟩), .string k] w (ReadEnd w d k) := by
  have HN := isName_any k w hkk
  obtain ⟨lp, lc, hval, hl⟩ := h.look k hkk
  have hl1 := hl w ⟨h.ltM, Nat.le_refl _, rfl⟩
  clear hl
  have hlen := hval.1
  obtain ⟨_, p, c, e1, hbs, _⟩ := hval
  injection e1 with e1 _ e2
  subst e1; subst e2
  have HB := bclone_cap w lp lc _ hbs _ rfl (by omega)
  have c0 := h.c0
  generalize hR : ReadEnd w d k = R
  have HR := Lib.hid hR
  clear hR hbs
  cases hnm : isNm k with
  | false =>
    rw [hnm] at HN
    go_enter Tryz.func46, Tryz.ntmps46
    go_wp2_with (go_at_call 58; refine HN.mono ?_; rintro e w' ⟨rfl, rfl⟩)
    rw [← HR.out]
    have hr : rdD d k = 2 := by unfold rdD; rw [if_pos hnm]
    refine ⟨Below.refl _ _, ?_⟩
    rw [hr, if_neg (by decide)]
    rfl
  | true =>
    rw [hnm] at HN
    cases hσ : (d.σ k).isSome with
    | false =>
      rw [hσ] at hl1
      go_enter Tryz.func46, Tryz.ntmps46
      go_wp2_with (go_at_call 58; refine HN.mono ?_; rintro e w' ⟨rfl, rfl⟩)
      rw [← HR.out]
      have hr : rdD d k = 6 := by unfold rdD; rw [if_neg (by rw [hnm]; decide), if_pos hσ]
      refine ⟨Below.refl _ _, ?_⟩
      rw [hr, if_neg (by decide)]
      rfl
    | true =>
      rw [hσ] at hl1
      have HB' := Lib.hid HB
      clear HB
      go_enter Tryz.func46, Tryz.ntmps46
      go_wp2_with (first | (go_at_call 58; refine HN.mono ?_; rintro e w' ⟨rfl, rfl⟩) | (go_at_call 38; refine HB'.out.mono ?_; rintro e w' ⟨A, cap, rfl, hA, hAn, hb, hc1, hc2⟩))
      rw [← HR.out]
      have hr : rdD d k = 0 := by unfold rdD; rw [if_neg (by rw [hnm]; decide), if_neg (by rw [hσ]; decide)]
      refine ⟨hb, ?_⟩
      rw [hr, if_pos rfl]
      exact ⟨A, cap, rfl, hA, hAn, hc1, hc2⟩

theorem strKeys_facts {H : Type} {P : Program} {k : TypeId} {R : Value → Option (DataW H × List MemPlace)} {w : World} {b n : Nat} {D : DataW H} (hown : w.ownsMap P k R b n D) (K : Maps.Keyed P k) (hk : P.underlying k = some .string) :
    (strKeys D).Nodup ∧ ∀ x, x ∈ strKeys D ↔ Maps.has D (.string x) = true := by
  obtain ⟨es, hD, hpw, _⟩ := hown.entries K
  obtain ⟨es', hD', hko⟩ := hown.keysOf
  obtain rfl : es = es' := by rw [hD] at hD'; simpa using hD'
  subst hD
  have hk' : ∀ p ∈ es, ∃ x, p.1 = .string x := fun p hp => by obtain ⟨v, hv⟩ := hko p hp; obtain ⟨x, _, hx, _⟩ := Maps.keyOf_str hk hv; exact ⟨x, hx⟩
  refine ⟨?_, fun x => ?_⟩
  · show (es.map fun p => strOf p.1).Nodup
    refine List.pairwise_map.2 (hpw.imp_of_mem fun {p q} hp' hq' hne e => hne ?_)
    obtain ⟨a, ha⟩ := hk' p hp'
    obtain ⟨b, hb⟩ := hk' q hq'
    rw [ha, hb] at e ⊢
    exact congrArg _ e
  · rw [Maps.has_eq, List.any_eq_true]
    show x ∈ (es.map fun p => strOf p.1) ↔ _
    rw [List.mem_map]
    constructor
    · rintro ⟨p, hp', rfl⟩
      obtain ⟨a, ha⟩ := hk' p hp'
      exact ⟨p, hp', by rw [ha]; simp [Lit.sameKey, strOf]⟩
    · rintro ⟨p, hp', hs⟩
      obtain ⟨a, ha⟩ := hk' p hp'
      rw [ha] at hs
      exact ⟨p, hp', by rw [ha]; simpa [Lit.sameKey, strOf] using hs⟩

def mkB (x : List UInt8) : ByteArray := ⟨x.toArray⟩
theorem mkB_data (x : List UInt8) : (mkB x).data.toList = x := by simp [mkB]
theorem nms_of {D : DataW Value} {σ : Fs} {O : Nat → Prop} (hm : MapIs w O D σ) {ss : List (List UInt8)} (hp : ss.Perm (strKeys D)) (hnd : (strKeys D).Nodup) (hmem : ∀ x, x ∈ strKeys D ↔ Maps.has D (.string x) = true) :
    NmsIs σ ((ss.mergeSort leB).map mkB) := by
  have tr : ∀ a b c : List UInt8, leB a b = true → leB b c = true → leB a c = true := fun a b c h1 h2 => by simp only [leB, decide_eq_true_eq] at *; exact List.le_trans h1 h2
  have to : ∀ a b : List UInt8, (leB a b || leB b a) = true := fun a b => by simp only [leB, Bool.or_eq_true, decide_eq_true_eq]; exact List.le_total a b
  have hpm : (ss.mergeSort leB).Perm (strKeys D) := (List.mergeSort_perm ss leB).trans hp
  refine ⟨?_, ?_, fun k => ?_⟩
  · rw [List.pairwise_map]
    refine (List.pairwise_mergeSort tr to ss).imp fun {a b} h => ?_
    rw [mkB_data, mkB_data]; simpa [leB] using h
  · rw [List.Nodup, List.pairwise_map]
    refine (hpm.nodup_iff.2 hnd).imp fun {a b} h e => h ?_
    rw [← mkB_data a, ← mkB_data b, e]
  · rw [List.mem_map, ← (hm k).1]
    constructor
    · rintro ⟨x, hx, rfl⟩
      unfold kl
      rw [mkB_data, ← hmem x]
      exact hpm.mem_iff.1 hx
    · intro h
      exact ⟨k.data.toList, hpm.mem_iff.2 ((hmem _).2 h), by simp [mkB]⟩

set_option maxHeartbeats 2000000 in
theorem names_any (h : DkS lo w B M uv d n) (hn : n ≤ 1000000000) :
    Calls Tryz.prog 43 #[.pointer (some ⟨B, 0, none⟩)] w fun e w' => ∃ A cap l, e = .returned (.slice A l.length cap) ∧ SsAt w' A l ∧ NmsIs d.σ l ∧ l.length ≤ n ∧ (∀ a, A = some a → w.heap.size ≤ a.block) ∧ Below w.heap.size w w' := by
  obtain ⟨D, hown, hm⟩ := h.mp
  have hsz := hown.size_le
  obtain ⟨hnd, hmem⟩ := strKeys_facts hown hK Tryz.underlying9
  have hlD : (strKeys D).length = Maps.size D := by
    obtain ⟨es, rfl, _⟩ := hown.keysOf
    simp [strKeys, Maps.size]
  have c0 := h.c0
  have hfr := h.lt
  refine (callsIn_wide (n := 6)).1 ?_
  have hfK : Fence.wide.fn 64 := trivial
  have hfS : Fence.wide.fn 63 := trivial
  refine callsIn_of_wp Tryz.func43 rfl trivial ?_ rfl
  simp only [Tryz.ntmps43, List.size_toArray, List.length_cons, List.length_nil, Nat.reduceAdd, Nat.reduceSub, Array.replicate_succ, Array.replicate_zero, List.push_toArray, List.append_toArray, List.nil_append, List.cons_append]
  gi_wp2_with (first
    | (gi_at_call 64; refine (Tryz.maps_Keys_64 _ _).mono ?_; rintro e w' ⟨rfl, rfl⟩)
    | (gi_at_call 63; refine (Tryz.slices_Sorted_keys_63_64 M n D vR w hown (by unfold maxLen; omega) (by omega)).mono ?_; rintro e w' ⟨v, ss, rfl, hS, hrow, hnil, hb⟩))
  go_ret
  have hlen : ((ss.mergeSort leB).map mkB).length = ss.length := by simp
  have hssl : ss.length ≤ n := by rw [hS.length_eq, hlD]; exact hsz
  have hB : Below w.heap.size w w' := ((Below.refl _ w).alloc (Nat.le_refl _) _).trans (hb.mono (by simp))
  rcases hrow.2 with ⟨h0, h1⟩ | ⟨g, cap, cur, h0, hg, hgg, _⟩
  · refine ⟨none, 0, (ss.mergeSort leB).map mkB, by rw [hlen, h0, h1]; rfl, .inl (List.length_eq_zero_iff.1 (by rw [hlen, h1])), nms_of hm hS hnd hmem, by rw [hlen]; exact hssl, (by intro a h; cases h), hB⟩
  · refine ⟨some ⟨g, 0, none⟩, cap, (ss.mergeSort leB).map mkB, by rw [hlen, h0]; rfl, .inr ⟨g, 0, rfl, fun i hi => ?_⟩, nms_of hm hS hnd hmem, by rw [hlen]; exact hssl, (by intro a h; injection h with h; subst h; simp at hg; show _ ≤ g; omega), hB⟩
    subst h0
    rw [hlen] at hi
    rw [Nat.zero_add, hrow.cellAt i (by omega)]
    simp [mkB, hi]
end
end Go.Proofs.YtcmnijpcinmbbaaGreatDoor
