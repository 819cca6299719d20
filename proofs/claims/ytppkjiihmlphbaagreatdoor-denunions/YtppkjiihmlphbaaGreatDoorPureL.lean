/- What an expression comes to is within range; what nodes make of records that are right is right. -/
import Derived.Test.YtppkjiihmlphbaaGreatDoorPureK
namespace Go.Proofs.YtppkjiihmlphbaaGreatDoor

def Rng (x : Int) : Prop := -9223372036854775808 ≤ x ∧ x ≤ 9223372036854775807
theorem rng_wr (x : Int) : Rng (wr x) := by unfold Rng wr; omega
theorem wr_rng {x : Int} (h : Rng x) : wr x = x := by unfold Rng at h; unfold wr; omega
theorem rng_tmod {a b : Int} (ha : Rng a) : Rng (a.tmod b) := by
  unfold Rng at *
  by_cases h0 : 0 ≤ a
  · have h1 := Int.tmod_nonneg b h0
    have h2 : a.tmod b ≤ a := by
      have := Int.natAbs_tmod a b
      have h3 : (a.tmod b).natAbs ≤ a.natAbs := by rw [this]; exact Nat.mod_le _ _
      omega
    omega
  · have := Int.natAbs_tmod a b
    have h3 : (a.tmod b).natAbs ≤ a.natAbs := by rw [this]; exact Nat.mod_le _ _
    have h4 : a.tmod b ≤ 0 := by
      have h5 := Int.tmod_nonneg b (show (0 : Int) ≤ -a by omega)
      rw [Int.neg_tmod] at h5; omega
    omega
theorem rng_of2 {op : UInt8} {a b : Int} (ha : Rng a) (hb : Rng b) : Rng (of2 op a b) := by
  have h1 : Rng 1 := by unfold Rng; omega
  have h0 : Rng 0 := by unfold Rng; omega
  unfold of2
  repeat' split
  all_goals first | exact h1 | exact h0 | exact rng_wr _ | exact rng_tmod ha | exact ha | exact hb
theorem rng_ev {n s : Int} (hn : Rng n) (hs : Rng s) {d l : Nat} {x : List UInt8} {t : Tm} (h : Gr d l x t) : Rng (ev n s t) := by
  induction h with
  | num d s h hd h0 hv => unfold Rng ev; omega
  | vn => exact hn
  | vs => exact hs
  | brk h ih => exact ih
  | mn ha hb iha ihb => exact rng_of2 iha ihb
  | mx ha hb iha ihb => exact rng_of2 iha ihb
  | neg h ih => exact rng_wr _
  | mul op ho ha hb iha ihb => exact rng_of2 iha ihb
  | add op ho ha hb iha ihb => exact rng_of2 iha ihb
  | cmp op ho ha hb iha ihb => exact rng_of2 iha ihb
  | cond ha hb hc iha ihb ihc => unfold ev; split <;> assumption
  | up hl h ih => exact ih
theorem rng_val (tx : ByteArray) {n s : Int} (hn : Rng n) (hs : Rng s) : Rng (valP tx n s) := by
  unfold valP
  cases h : readP tx.data.toList with
  | ok t u => exact rng_ev hn hs (read_ok h).2.2
  | bad p e => unfold Rng; simp only; omega

/-- A record that is right. -/
structure RcOk (r : Rc) : Prop where
  key : r.key.size ≤ 40
  num : Rng r.num
  time : Rng r.time
structure HdOk (h : Hd) : Prop where
  nd : Rng h.nd
  key : h.key.size ≤ 40
  a : Rng h.a
  b : Rng h.b
theorem hd0_ok : HdOk hd0 := ⟨by unfold Rng; simp [hd0], by decide, by unfold Rng; simp [hd0], by unfold Rng; simp [hd0]⟩

theorem cop_ok {r : Rc} {m : Int} (hn : Rng r.num) (ht : Rng r.time) : ∀ x ∈ copP r m, RcOk x := by
  intro x hx
  unfold copP at hx
  split at hx
  · simp at hx
  · rename_i h
    have e := (List.mem_replicate.1 hx).2
    subst e
    exact ⟨by omega, hn, ht⟩
theorem turned_ok (nd : Nd) {r : Rc} (hr : RcOk r) (i : Int) : Rng (turnedP nd r i).1.num ∧ Rng (turnedP nd r i).1.time := by
  have h0 : Rng 0 := by unfold Rng; omega
  unfold turnedP
  repeat' split
  all_goals first | exact ⟨hr.num, hr.time⟩ | exact ⟨rng_val _ hr.num h0, hr.time⟩
theorem counted_ok (nd : Nd) {st : Hd} (hs : HdOk st) (has : Bool) {r : Rc} (hr : RcOk r) : (Rng (countedP nd st has r).1.num ∧ Rng (countedP nd st has r).1.time) ∧ HdOk (countedP nd st has r).2.2 := by
  have h0 : Rng 0 := by unfold Rng; omega
  have h1 : Rng 1 := by unfold Rng; omega
  unfold countedP
  split
  · exact ⟨⟨rng_val _ hr.num hs.a, hr.time⟩, ⟨hs.nd, hs.key, rng_val _ hr.num hs.a, hs.b⟩⟩
  · split
    · split
      · exact ⟨⟨rng_wr _, hr.time⟩, ⟨hs.nd, hs.key, h0, h0⟩⟩
      · exact ⟨⟨hr.num, hr.time⟩, ⟨hs.nd, hs.key, rng_wr _, rng_wr _⟩⟩
    · split
      · exact ⟨⟨hr.num, hr.time⟩, ⟨hs.nd, hs.key, h1, hs.b⟩⟩
      · exact ⟨⟨hr.num, hr.time⟩, hs⟩
theorem app_ok (nd : Nd) {st : Hd} (hs : HdOk st) (has : Bool) {r : Rc} (hr : RcOk r) (i : Int) : (∀ x ∈ (appP nd st has r i).1, RcOk x) ∧ HdOk (appP nd st has r i).2.1 := by
  have hz : Rng 0 := by unfold Rng; omega
  have h0 : HdOk (if has then st else hd0) := by split; exact hs; exact hd0_ok
  unfold appP
  simp only
  split
  · obtain ⟨⟨a, b⟩, c⟩ := counted_ok nd h0 has hr
    exact ⟨cop_ok a b, ⟨hz, hr.key, c.a, c.b⟩⟩
  · obtain ⟨a, b⟩ := turned_ok nd hr i
    refine ⟨cop_ok a b, ?_⟩
    cases has with
    | true => exact ⟨hz, hr.key, hs.a, hs.b⟩
    | false => exact hd0_ok

/-- States that are right. -/
def StOk (σ : Sts) : Prop := ∀ k h, σ k = some h → HdOk h
theorem step_ok (nd : Nd) {acc : List Rc × Sts} (h1 : ∀ x ∈ acc.1, RcOk x) (h2 : StOk acc.2) {x : Rc × Int} (hx : RcOk x.1) : (∀ y ∈ (stepP nd acc x).1, RcOk y) ∧ StOk (stepP nd acc x).2 := by
  have hs : HdOk ((acc.2 x.1.key).getD hd0) := by
    cases e : acc.2 x.1.key with
    | none => exact hd0_ok
    | some h => exact h2 _ _ e
  obtain ⟨a, b⟩ := app_ok nd hs (acc.2 x.1.key).isSome hx x.2
  unfold stepP
  refine ⟨fun y hy => ?_, ?_⟩
  · rcases List.mem_append.1 hy with h | h
    · exact h1 y h
    · exact a y h
  · simp only
    split
    · intro k h hk
      dsimp only at hk
      split at hk
      · injection hk with hk; subst hk; exact b
      · exact h2 k h hk
    · exact h2
theorem run_ok (nd : Nd) (xs : List (Rc × Int)) (h : ∀ x ∈ xs, RcOk x.1) : (∀ y ∈ (runP nd xs).1, RcOk y) ∧ StOk (runP nd xs).2 := by
  have key : ∀ (xs : List (Rc × Int)) (acc : List Rc × Sts), (∀ x ∈ xs, RcOk x.1) → (∀ x ∈ acc.1, RcOk x) → StOk acc.2 → (∀ y ∈ (xs.foldl (stepP nd) acc).1, RcOk y) ∧ StOk (xs.foldl (stepP nd) acc).2 := by
    intro xs
    induction xs with
    | nil => intro acc _ h1 h2; exact ⟨h1, h2⟩
    | cons x r ih =>
      intro acc h h1 h2
      obtain ⟨a, b⟩ := step_ok nd h1 h2 (h x (by simp))
      exact ih _ (fun y hy => h y (by simp [hy])) a b
  exact key xs _ h (by simp) (fun k h hk => by simp at hk)
end Go.Proofs.YtppkjiihmlphbaaGreatDoor
