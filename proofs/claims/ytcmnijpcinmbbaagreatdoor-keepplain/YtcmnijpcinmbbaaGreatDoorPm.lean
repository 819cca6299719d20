/- Numbers that a law has beside a disk. -/
import Derived.Test.YtcmnijpcinmbbaaGreatDoorPo
import Derived.Test.YtcmnijpcinmbbaaGreatDoorPj
import Derived.Test.YtcmnijpcinmbbaaGreatDoorErr
import Derived.Deep.DeepCutAuto
import Derived.Deep.CutBlock
namespace Go.Proofs.YtcmnijpcinmbbaaGreatDoor
open Go.RowKit
set_option linter.unusedVariables false
set_option maxHeartbeats 1000000 in
theorem ints_same {w : World} {la lb : Option Addr} {z : List Int} (ha : IsAt w la z) (hb : IsAt w lb z) (ca cb : Nat) (hz : z.length ≤ 9223372036854775807) :
    Calls Tryz.prog 10 #[.slice la z.length ca, .slice lb z.length cb] w fun e w' => e = .returned (.bool true) ∧ ∃ n, w' = w.drewN n := by
  go_enter Tryz.func10, Tryz.ntmps10
  go_wp2_with fail
  go_loopw [5] (fun i wr => ∃ j : Nat, j ≤ z.length ∧ i = .int .i64 j ∧ ∃ n, wr = w.drewN n) (fun i _ => z.length - (intOf i).toNat)
  case atStart => exact ⟨0, by omega, rfl, 0, rfl⟩
  case round =>
    obtain ⟨j, hj, rfl, n, rfl⟩ := hrel
    by_cases hlt : j < z.length
    · have hi : (j : Int) < z.length := by omega
      rcases ha with ha | ⟨b1, o1, rfl, ha⟩
      · subst ha; simp at hlt
      rcases hb with hb | ⟨b2, o2, rfl, hb⟩
      · subst hb; simp at hlt
      have c1 := ha j hlt
      have c2 := hb j hlt
      generalize z[j] = x at *
      clear ha hb
      go_wp2_with fail
      go_quiet (fail)
      go_wp2_with fail
      exact ⟨⟨j + 1, by omega, by go_num, n + nq, rfl⟩, by simp [intOf]; omega⟩
    · have hi : ¬ (j : Int) < z.length := by omega
      go_wp2
      go_ret
      exact ⟨rfl, n, rfl⟩
/-- Rows of numbers are none of a disk's blocks. -/
theorem own_oth {lo : Nat} {w : World} {B M : Nat} {uv : Value} {d : Ds} {n : Nat} (h : DkS lo w B M uv d n) {b : Nat} {v : Value} {l : List Int} (ho : OwnI b w v l) {g : Nat} (hg : v.ownBlock = some g) : Oth B M uv g := by
  obtain ⟨cur, hc⟩ := own_cells ho hg
  refine ⟨fun e => ?_, fun e => ?_, fun e => ?_⟩
  · have := h.blk
    rw [← e, hc] at this
    simp at this
  · obtain ⟨D, ⟨es, cl, hb, _⟩, _⟩ := h.mp
    rw [← e, hc] at hb
    cases hb
  · obtain ⟨V, hV, _⟩ := h.row
    obtain ⟨cur2, hc2⟩ := own_cells hV e
    rw [hc] at hc2
    simp at hc2
theorem own_frd {lo : Nat} {w w' : World} {B M : Nat} {uv : Value} {d : Ds} {n : Nat} (h : DkS lo w B M uv d n) (f : FrD B M uv w w') {b : Nat} {v : Value} {l : List Int} (ho : OwnI b w v l) : OwnI b w' v l :=
  own_block ho (fun g hg => f.block g (ho.lt g hg).2 (own_oth h ho hg))
theorem ownI_is {w : World} {B n cap : Nat} {A : Option Addr} {l : List Int} (h : w.ownsRow B 3 1 (.slice A n cap) l.length (l.map (Value.int .i64))) : IsAt w A l := by
  by_cases hne : l = []
  · exact .inl hne
  · rcases h.2 with ⟨h0, h1⟩ | ⟨g, cap', cur, h0, hb, hg, hle, hm, hs, ht⟩
    · exact absurd (List.length_eq_zero_iff.1 h1) hne
    · simp at h0
      obtain ⟨rfl, rfl, rfl⟩ := h0
      exact .inr ⟨g, 0, rfl, fun i hi => by rw [Nat.zero_add]; exact ownI_cell h i hi⟩
theorem IsAt.piece {w : World} {b o : Nat} {l : List Int} (h : ∀ i (h : i < l.length), w.cell? ⟨b, o + i, none⟩ = some (.int .i64 l[i])) (k n : Nat) (hk : k + n ≤ l.length) : IsAt w (some ⟨b, o + k, none⟩) ((l.drop k).take n) := by
  refine .inr ⟨b, o + k, rfl, fun i hi => ?_⟩
  have hi' : i < n := by simp at hi; omega
  rw [Nat.add_assoc, h (k + i) (by omega)]
  simp
/-- append of numbers to what is owned. -/
theorem append_is {w : World} {ops : Array Oper} {rest : List Oper} {o : Oper} {a : Act} {Q : Exit → Act → World → Prop} (hgd : o.guard = none) (s x : Operand)
    (ho : o.op = .call { callee := .builtin .append, args := #[s, x], argTypes := #[22, 22] })
    (B : Nat) (v : Value) (l : List Int) (hs : a.eval s = v) (hown : OwnI B w v l) (ao : Option Addr) (m c : Nat) (r : List Int) (hx : a.eval x = .slice ao m c) (hm : m = r.length) (hr : IsAt w ao r) (hc : ao = none → c = 0)
    (hlim : l.length + r.length ≤ 1000000) (hB : B ≤ w.heap.size)
    (hK : ∀ v' w', OwnI B w' v' (l ++ r) → Below B w w' → wpList Tryz.prog ops Q rest (a.put o.dst v') w') : wpList Tryz.prog ops Q (o :: rest) a w := by
  obtain ⟨i0, hi, hz0, hz1, hz2⟩ := info_parts infoInt8
  subst hm
  cases ao with
  | none =>
    have hc0 := hc rfl
    subst hc0
    have hr0 : r = [] := by
      rcases hr with h | ⟨b, o, h, -⟩
      · exact h
      · cases h
    subst hr0
    refine wpList_plain hgd fun K hK' => ?_
    have hrun := run_append_owned_none (P := Tryz.prog) w B 22 o.type 3 i0 1 Tryz.underlying22 hi v _ _ hown
    have hx' : a.eval x = .slice none 0 0 := hx
    unfold Oper.wp
    simp [execOp, ho, resolve, invoke, builtin, hs, hx', hrun, Result.andThen]
    exact hK' _ _ (by simpa using hK v w (by simpa using hown) (Below.refl _ _))
  | some ad =>
    refine wpList_append_own w hgd s x 22 ho B 3 i0 (.int .i64 0) 1 8 Tryz.underlying22 hi hz0 hz1 hz2 rfl (by decide) v l.length (l.map (Value.int .i64)) hs hown ad r.length c (r.map (Value.int .i64)) hx (by simp) ?_ (by intro u hu; obtain ⟨c8, -, rfl⟩ := List.mem_map.1 hu; rfl) (by unfold maxLen; omega) (by omega) hB ?_
    · intro j u hj
      rcases hr with rfl | ⟨b, o, h, hcell⟩
      · simp at hj
      · simp only [Option.some.injEq] at h
        subst h
        simp only [List.getElem?_map, Option.map_eq_some_iff] at hj
        obtain ⟨c8, h1, rfl⟩ := hj
        obtain ⟨hlt, rfl⟩ := List.getElem?_eq_some_iff.1 h1
        rw [show (⟨b, o, none⟩ : Addr).add j = ⟨b, o + j, none⟩ from by simp [Addr.add]]
        exact hcell j hlt
    · intro v' w' own' grow _
      refine hK v' w' ?_ ((Below.refl _ _).grown grow hB (fun k hk => (hown.lt k hk).1))
      unfold OwnI
      rw [List.length_append, List.map_append]
      exact own'
end Go.Proofs.YtcmnijpcinmbbaaGreatDoor
