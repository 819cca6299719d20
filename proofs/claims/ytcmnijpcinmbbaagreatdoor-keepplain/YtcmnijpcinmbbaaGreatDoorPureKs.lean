/- Saves and cleanings that nothing stops, plain. -/
import Derived.Test.YtcmnijpcinmbbaaGreatDoorPureKq
namespace Go.Proofs.YtcmnijpcinmbbaaGreatDoor
set_option linter.unusedVariables false
theorem save_free {d : Ds} {P : Pc} (h : KpD d P) (hb : d.bd < 0) {id : Int} (hid : IdOk id) (hP : P id = none) {x : List UInt8} (hx : x.length ≤ 50000) :
    ∃ d2, saveR d P id x = (0, d2) ∧ KpD d2 (updK P id (some x)) ∧ d2.U = [] ∧ d2.bd = d.bd ∧ d2.s = d.s + 2 := by
  have hw := wr_pic h hid hx
  rw [if_neg (by omega)] at hw
  have hk := h.wr hid hx (d.s + 1) d.bd
  refine ⟨⟨upd d.σ (nmK id) (some (sealB x)), [], d.s + 1 + 1, d.bd⟩, ?_, ⟨hk.kp, UkOk.nil⟩, rfl, rfl, ?_⟩
  · unfold saveR
    rw [if_neg (by simpa using hid), if_neg (by rw [hP]; decide), hw, if_neg (by simp), sy_pic, if_neg (by simp; omega)]
  · show d.s + 1 + 1 = d.s + 2; omega
theorem save_clash {d : Ds} {P : Pc} {id : Int} (hid : IdOk id) (hP : (P id).isSome = true) (x : List UInt8) : saveR d P id x = (8, d) := by
  unfold saveR; rw [if_neg (by simpa using hid), if_pos hP]
theorem save_range {d : Ds} {P : Pc} {id : Int} (hid : ¬ IdOk id) (x : List UInt8) : saveR d P id x = (1, d) := by
  unfold saveR; rw [if_pos hid]
/-- Pictures that are taken away. -/
def updAll (P : Pc) (l : List Int) : Pc := fun x => if x ∈ l then none else P x
theorem updAll_nil (P : Pc) : updAll P [] = P := by funext x; simp [updAll]
theorem updAll_cons (P : Pc) (i : Int) (l : List Int) : updAll (updK P i none) l = updAll P (i :: l) := by
  funext x
  unfold updAll updK
  by_cases h : x ∈ l
  · simp [h]
  · by_cases e : x = i <;> simp [h, e]
theorem rem_free : ∀ (l : List Int) {d : Ds} {P : Pc}, KpD d P → d.bd < 0 → l.Nodup → (∀ i ∈ l, (P i).isSome = true) →
    ∃ d2, remAll d l = (0, d2) ∧ KpD d2 (updAll P l) ∧ d2.bd = d.bd ∧ d2.s = d.s + l.length
  | [], d, P, h, _, _, _ => ⟨d, rfl, by rw [updAll_nil]; exact h, rfl, by simp⟩
  | i :: l, d, P, h, hb, hnd, hm => by
    rw [List.nodup_cons] at hnd
    have hi := hm i List.mem_cons_self
    have hr := rm_pic h hi
    rw [if_neg (by omega)] at hr
    have hk := h.rm (h.kp.ok i hi) (d.s + 1) d.bd
    obtain ⟨d2, h1, h2, h3, h4⟩ := rem_free l hk hb hnd.2 (fun j hj => by
      have hne : j ≠ i := fun e => hnd.1 (by rw [← e]; exact hj)
      rw [updK_other P none hne]; exact hm j (List.mem_cons_of_mem _ hj))
    refine ⟨d2, ?_, by rw [← updAll_cons]; exact h2, h3, by rw [h4]; show d.s + 1 + _ = _; simp; omega⟩
    show (if (rmD d (nmK i)).1 ≠ 0 then rmD d (nmK i) else remAll (rmD d (nmK i)).2 l) = _
    rw [hr, if_neg (by simp)]; exact h1
theorem clean_free {d : Ds} {P : Pc} (h : KpD d P) (hb : d.bd < 0) {l : List Int} (hl : IdsIs P l) {many : Int} (hm : 1 ≤ many) :
    ∃ d2, cleanR d l many = (0, d2) ∧ KpD d2 (updAll P (l.take (l.length - many.toNat))) ∧ d2.U = [] ∧ d2.bd = d.bd ∧ d2.s = d.s + (l.length - many.toNat : Nat) + 1 := by
  have hnd : (l.take (l.length - many.toNat)).Nodup := (hl.1.imp (fun hab => by omega : ∀ {a b : Int}, a < b → a ≠ b)).sublist (List.take_sublist _ _)
  obtain ⟨d1, h1, h2, h3, h4⟩ := rem_free _ h hb hnd (fun i hi => (hl.2 i).1 (List.mem_of_mem_take hi))
  refine ⟨⟨d1.σ, [], d1.s + 1, d1.bd⟩, ?_, ⟨h2.kp, UkOk.nil⟩, rfl, h3, ?_⟩
  · unfold cleanR
    rw [if_neg (by omega), h1, if_neg (by simp), sy_pic, if_neg (by rw [h3]; omega)]
  · show d1.s + 1 = _; rw [h4, List.length_take]; congr 2; omega
/-- What is left are the last ones. -/
theorem ids_left {P : Pc} {l : List Int} (hl : IdsIs P l) (K : Nat) : IdsIs (updAll P (l.take K)) (l.drop K) := by
  refine ⟨hl.1.sublist (List.drop_sublist _ _), fun id => ?_⟩
  have hp := hl.1
  rw [← List.take_append_drop K l, List.pairwise_append] at hp
  unfold updAll
  constructor
  · intro hm
    have h1 : id ∉ l.take K := fun h => by have := hp.2.2 id h id hm; omega
    rw [if_neg h1]; exact (hl.2 id).1 (List.mem_of_mem_drop hm)
  · intro hm
    by_cases h1 : id ∈ l.take K
    · rw [if_pos h1] at hm; cases hm
    · rw [if_neg h1] at hm
      have h2 := (hl.2 id).2 hm
      rw [← List.take_append_drop K l] at h2
      rcases List.mem_append.1 h2 with h | h
      · exact absurd h h1
      · exact h
theorem ids_nil : IdsIs (fun _ => none) [] := ⟨List.Pairwise.nil, fun id => by simp⟩
/-- One more. -/
theorem ids_put {P : Pc} {a b : List Int} (hl : IdsIs P (a ++ b)) {id : Int} (ha : ∀ i ∈ a, i < id) (hb : ∀ i ∈ b, id < i) (x : List UInt8) : IdsIs (updK P id (some x)) (a ++ id :: b) := by
  obtain ⟨h1, h2⟩ := hl
  rw [List.pairwise_append] at h1
  refine ⟨?_, fun i => ?_⟩
  · rw [List.pairwise_append, List.pairwise_cons]
    refine ⟨h1.1, ⟨hb, h1.2.1⟩, fun i hi j hj => ?_⟩
    rcases List.mem_cons.1 hj with rfl | hj
    · exact ha i hi
    · exact h1.2.2 i hi j hj
  · by_cases e : i = id
    · subst e; simp [updK]
    · rw [updK_other _ _ e, ← h2 i]; simp [e]
end Go.Proofs.YtcmnijpcinmbbaaGreatDoor
