/- Records in memory; copies. -/
import Derived.Test.YthadeccnibnioaaGreatDoorJz1
import Derived.Test.YthadeccnibnioaaGreatDoorHp
import Derived.Deep.Onto
namespace Go.Proofs.YthadeccnibnioaaGreatDoor
open Go.RowKit

/-- A record's cells, and those of several. -/
def rcV (r : Rc) : Value := .agg #[.string r.key, .int .i64 r.num, .int .i64 r.time]
def rcells : List Rc → List Value
  | [] => []
  | r :: l => .string r.key :: .int .i64 r.num :: .int .i64 r.time :: rcells l
theorem rcells_len : ∀ l : List Rc, (rcells l).length = l.length * 3
  | [] => rfl
  | r :: l => by simp only [rcells, List.length_cons, rcells_len l]; omega
theorem rcells_append : ∀ (a b : List Rc), rcells (a ++ b) = rcells a ++ rcells b
  | [], b => rfl
  | r :: a, b => by simp only [List.cons_append, rcells, rcells_append a b]
theorem rcells_at : ∀ (l : List Rc) (i : Nat) (h : i < l.length), (rcells l)[i * 3]? = some (.string l[i].key) ∧ (rcells l)[i * 3 + 1]? = some (.int .i64 l[i].num) ∧ (rcells l)[i * 3 + 2]? = some (.int .i64 l[i].time)
  | [], i, h => by simp at h
  | r :: l, 0, _ => by simp [rcells]
  | r :: l, i + 1, h => by
    have := rcells_at l i (by simpa using h)
    rw [show (i + 1) * 3 = i * 3 + 3 from by omega]
    simpa [rcells] using this
theorem rcells_one (l : List Rc) : ∀ u ∈ rcells l, u.oneCell' = true := by
  induction l with
  | nil => simp [rcells]
  | cons r l ih =>
    intro u hu
    simp only [rcells, List.mem_cons] at hu
    rcases hu with rfl | rfl | rfl | hu
    · rfl
    · rfl
    · rfl
    · exact ih u hu

/-- Records behind a slice. -/
def RcsAt (w : World) (la : Option Addr) (L : List Rc) : Prop :=
  L = [] ∨ ∃ b o, la = some ⟨b, o, none⟩ ∧ ∀ j u, (rcells L)[j]? = some u → w.cell? ⟨b, o + j, none⟩ = some u
theorem RcsAt.keep {w w' : World} {la : Option Addr} {L : List Rc} (h : RcsAt w la L) (k : Keeps w w') : RcsAt w' la L := by
  rcases h with h | ⟨b, o, h1, h2⟩
  · exact .inl h
  · exact .inr ⟨b, o, h1, fun j u hu => k _ _ (h2 j u hu)⟩
theorem own_rcs {w : World} {B e n cap : Nat} {A : Option Addr} {L : List Rc} (h : w.ownsRow B e 3 (.slice A n cap) n (rcells L)) (hn : n = L.length) : RcsAt w A L ∧ n ≤ cap := by
  subst hn
  rcases h.2 with ⟨h0, h1⟩ | ⟨g, cap', cur, h0, hb, hg, hle, hm, hs, ht⟩
  · exact ⟨.inl (List.length_eq_zero_iff.1 h1), by omega⟩
  · simp at h0
    obtain ⟨rfl, rfl⟩ := h0
    refine ⟨.inr ⟨g, 0, rfl, fun j u hu => ?_⟩, hle⟩
    have hj : j < L.length * 3 := by
      rw [← rcells_len]
      exact (List.getElem?_eq_some_iff.1 hu).1
    rw [Nat.zero_add, h.cellAt j hj, hu]

theorem Tryz.infoRc : (Tryz.prog.info? 164).map (fun i => (i.zero, i.size, i.bytes)) = some (some (.agg #[.string ⟨#[]⟩, .int .i64 0, .int .i64 0]), 3, 32) := by kernel_rfl

theorem cell_three_new (w : World) (a b c : Value) (t : TypeId) : ∀ j u, [a, b, c][j]? = some u → (w.alloc (.cells #[a, b, c] t)).cell? ((⟨w.heap.size, 0, none⟩ : Addr).add j) = some u := by
  intro j u hj
  match j, hj with
  | 0, hj => simp at hj; subst hj; simp [Addr.add]
  | 1, hj => simp at hj; subst hj; simp [Addr.add]
  | 2, hj => simp at hj; subst hj; simp [Addr.add]

theorem rep_snoc (r : Rc) (j : Nat) : rcells (List.replicate (j + 1) r) = rcells (List.replicate j r) ++ [.string r.key, .int .i64 r.num, .int .i64 r.time] := by
  rw [List.replicate_succ', rcells_append]; rfl

set_option maxRecDepth 100000 in
set_option maxHeartbeats 1000000 in
theorem copies_any (r : Rc) (m : Int) (w : World) (hk : r.key.size ≤ 9223372036854775807) :
    Calls Tryz.prog 196 #[rcV r, .int .i64 m] w fun e w' => ∃ v, e = .returned v ∧ w'.ownsRow w.heap.size 164 3 v (copP r m).length (rcells (copP r m)) ∧ Below w.heap.size w w' := by
  obtain ⟨i0, hi, hz0, hz1, hz2⟩ := info_parts Tryz.infoRc
  obtain ⟨key, num, time⟩ := r
  simp only [rcV] at *
  by_cases h1 : 40 < key.size
  · have h1' : (40 : Int) < (key.size : Nat) := by omega
    have e : copP ⟨key, num, time⟩ m = [] := by unfold copP; rw [if_pos (.inl h1)]
    rw [e]
    clear e
    go_enter Tryz.func196, Tryz.ntmps196
    go_wp2_with fail
    go_ret
    exact ⟨_, rfl, World.ownsRow_nil _ _ _ _, (Below.refl _ _).alloc (Nat.le_refl _) _⟩
  · have h1' : ¬ (40 : Int) < (key.size : Nat) := by omega
    by_cases h2 : 67108863 < m
    · have e : copP ⟨key, num, time⟩ m = [] := by unfold copP; rw [if_pos (.inr h2)]
      rw [e]
      clear e
      go_enter Tryz.func196, Tryz.ntmps196
      go_wp2_with fail
      go_ret
      exact ⟨_, rfl, World.ownsRow_nil _ _ _ _, (Below.refl _ _).alloc (Nat.le_refl _) _⟩
    · have e : copP ⟨key, num, time⟩ m = List.replicate m.toNat ⟨key, num, time⟩ := by unfold copP; rw [if_neg (by simp only; omega)]
      rw [e]
      clear e
      have h2' : m ≤ 67108863 := by omega
      go_enter Tryz.func196, Tryz.ntmps196
      go_wp2_with fail
      go_loopw [5, 15] (fun v i wr => ∃ j : Nat, j ≤ m.toNat ∧ i = .int .i64 j ∧ wr.ownsRow (w.heap.size + 1) 164 3 v j (rcells (List.replicate j ⟨key, num, time⟩)) ∧ Below w.heap.size w wr ∧ (wr.cell? ⟨w.heap.size, 0, none⟩ = some (.string key) ∧ wr.cell? ⟨w.heap.size, 1, none⟩ = some (.int .i64 num) ∧ wr.cell? ⟨w.heap.size, 2, none⟩ = some (.int .i64 time)) ∧ w.heap.size < wr.heap.size) (fun _ i _ => m.toNat - (intOf i).toNat)
      case atStart => exact ⟨0, by omega, rfl, World.ownsRow_nil _ _ _ _, (Below.refl _ _).alloc (Nat.le_refl _) _, ⟨by simp, by simp, by simp⟩, by simp⟩
      case round =>
        obtain ⟨j, hj, rfl, hown, hb, ⟨c0, c1, c2⟩, hsz⟩ := hrel
        by_cases hlt : (j : Int) < m
        · have hS := rep_snoc ⟨key, num, time⟩ j
          have HS := Lib.hid hS
          clear hS
          go_wp2_with (at_builtin; refine wpList_append_own _ rfl _ _ 112 rfl (w.heap.size + 1) 164 i0 (.agg #[.string ⟨#[]⟩, .int .i64 0, .int .i64 0]) 3 32 Tryz.underlying112 hi hz0 hz1 hz2 rfl (by decide) _ _ _ rfl (hown.alloc _) ⟨wr.heap.size, 0, none⟩ 1 1 [.string key, .int .i64 num, .int .i64 time] rfl rfl (cell_three_new _ _ _ _ _) (by intro u hu; simp at hu; rcases hu with rfl | rfl | rfl <;> rfl) (by unfold maxLen; omega) (by omega) (by simp; omega) ?_)
          intro v' w3 hown' hgrow _
          have hb3 : Below w.heap.size w w3 := (hb.alloc (by omega) _).grown hgrow (by simp; omega) (fun k hk => by have := (hown.lt k hk).1; omega)
          have key3 : ∀ (p : Addr) (u : Value), p.block = w.heap.size → wr.cell? p = some u → w3.cell? p = some u := fun p u hp hu => by
            rw [World.cell?_of_block (w := wr.alloc (.cells #[.string key, .int .i64 num, .int .i64 time] 164)) (hgrow.block p.block (by simp; omega) (fun e => by have := (hown.lt p.block e.symm).1; omega))]
            exact Keeps.alloc wr _ p u hu
          have k0 := key3 _ _ rfl c0
          have k1 := key3 _ _ rfl c1
          have k2 := key3 _ _ rfl c2
          have hz3 : w.heap.size < w3.heap.size := Nat.lt_of_lt_of_le hsz (by have := hgrow.size; simp at this; omega)
          have ho3 : w3.ownsRow (w.heap.size + 1) 164 3 v' (j + 1) (rcells (List.replicate (j + 1) ⟨key, num, time⟩)) := by
            rw [HS.out]; exact hown'
          clear hown' hgrow hown hb c0 c1 c2 key3
          go_wp2
          exact ⟨⟨j + 1, by omega, by go_num, ho3, hb3, ⟨k0, k1, k2⟩, hz3⟩, by simp [intOf]; omega⟩
        · have Hj : Hid (j = m.toNat) := by show j = m.toNat; omega
          go_wp2
          go_ret
          exact ⟨_, rfl, by have := hown.mono (base' := w.heap.size) (by omega); rw [Hj.out] at this; exact this, hb⟩
end Go.Proofs.YthadeccnibnioaaGreatDoor
