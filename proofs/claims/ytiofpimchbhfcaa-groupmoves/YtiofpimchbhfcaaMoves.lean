/- What 'Moves' does: the contract of group.Moves. -/
import Derived.Test.YtiofpimchbhfcaaWalks
import Derived.Laws.OwnMore
namespace Go.Proofs.Ytiofpimchbhfcaa
open Go.RowKit

theorem Try.info34 : (Try.prog.info? 34).map (fun i => (i.zero, i.size, i.bytes)) = some (some (.agg #[.int .i64 0, .int .i64 0, .int .i64 0]), 3, 24) := by kernel_rfl

/-- Moves as cells: three a move. -/
def mcells (l : List (Int × Int × Int)) : List Value := l.flatMap fun m => [.int .i64 m.1, .int .i64 m.2.1, .int .i64 m.2.2]
theorem mcells_snoc (l : List (Int × Int × Int)) (a b c : Int) : mcells (l ++ [(a, b, c)]) = mcells l ++ [.int .i64 a, .int .i64 b, .int .i64 c] := by simp [mcells]
theorem mcells_at : ∀ (l : List (Int × Int × Int)) (i : Nat) (h : i < l.length), (mcells l)[i * 3]? = some (.int .i64 l[i].1) ∧ (mcells l)[i * 3 + 1]? = some (.int .i64 l[i].2.1) ∧ (mcells l)[i * 3 + 2]? = some (.int .i64 l[i].2.2)
  | [], i, h => by simp at h
  | m :: l, 0, _ => by simp [mcells]
  | m :: l, i + 1, h => by
    have := mcells_at l i (by simpa using h)
    have e : mcells (m :: l) = .int .i64 m.1 :: .int .i64 m.2.1 :: .int .i64 m.2.2 :: mcells l := by simp [mcells]
    rw [e, show (i + 1) * 3 = i * 3 + 3 from by omega]
    simpa using this

theorem cell_three_new (w : World) (a b c : Value) (t : TypeId) : ∀ j u, [a, b, c][j]? = some u → (w.alloc (.cells #[a, b, c] t)).cell? ((⟨w.heap.size, 0, none⟩ : Addr).add j) = some u := by
  intro j u hj
  match j, hj with
  | 0, hj => simp at hj; subst hj; simp [Addr.add]
  | 1, hj => simp at hj; subst hj; simp [Addr.add]
  | 2, hj => simp at hj; subst hj; simp [Addr.add]

set_option maxHeartbeats 400000 in
theorem Moves_yes (p q : Int) (w : World) (h1 : 1 ≤ p) (h2 : p ≤ 16) (h3 : 1 ≤ q) (h4 : q ≤ 16) :
    Calls Try.prog 9 #[.int .i64 p, .int .i64 q] w fun e w' => ∃ v, e = .returned (.tuple #[v, .nilIface]) ∧ w'.ownsRow w.heap.size 34 3 v (mvs p q 16).length (mcells (mvs p q 16)) ∧ Below w.heap.size w w' := by
  obtain ⟨i0, hi, hz0, hz1, hz2⟩ := info_parts Try.info34
  go_enter Try.func9, Try.ntmps9
  go_wp2_with (go_at_call 10; refine (isWorkers_yes _ _ (by omega) (by omega)).mono ?_; rintro e w' ⟨rfl, rfl⟩)
  go_loopw [6, 19] (fun v i wr => ∃ k : Nat, k ≤ 16 ∧ i = .int .i64 k ∧ wr.ownsRow w.heap.size 34 3 v (mvs p q k).length (mcells (mvs p q k)) ∧ Below w.heap.size w wr) (fun _ i _ => 16 - (intOf i).toNat)
  case atStart => exact ⟨0, by omega, rfl, World.ownsRow_nil _ _ _ _, Below.refl _ _⟩
  case round =>
    obtain ⟨k, hk, rfl, hown, hb⟩ := hrel
    have hle := mvs_le p q k
    by_cases hlt : k < 16
    · have a1 := mul_lo (k : Int) p (by omega) (by omega)
      have a2 := mul_hi (k : Int) p (by omega) (by omega) h2
      have b1 := mul_lo (k : Int) q (by omega) (by omega)
      have b2 := mul_hi (k : Int) q (by omega) (by omega) h4
      by_cases he : who p k = who q k
      · have hd : (who p k != who q k) = false := by simp [he]
        have HE : Hid (who p k = who q k) := he
        clear he
        go_wp2_with fail
        refine (owner_any _ _ _ a1 a2).mono ?_; rintro e w' ⟨rfl, rfl⟩
        go_wp2_with fail
        refine (owner_any _ _ _ b1 b2).mono ?_; rintro e w' ⟨rfl, rfl⟩
        go_wp2
        exact ⟨⟨k + 1, by omega, by go_num, by rw [mvs_keep HE.out]; exact hown, hb⟩, by simp [intOf]; omega⟩
      · have hd : (who p k != who q k) = true := by simp [he]
        have HE : Hid (who p k ≠ who q k) := he
        clear he
        go_wp2_with fail
        refine (owner_any _ _ _ a1 a2).mono ?_; rintro e w' ⟨rfl, rfl⟩
        go_wp2_with fail
        refine (owner_any _ _ _ b1 b2).mono ?_; rintro e w' ⟨rfl, rfl⟩
        have hs := hb.size
        go_wp2_with (at_builtin; refine wpList_append_own _ rfl _ _ 30 rfl w.heap.size 34 i0 (.agg #[.int .i64 0, .int .i64 0, .int .i64 0]) 3 24 Try.underlying30 hi hz0 hz1 hz2 rfl (by decide) _ _ _ rfl (hown.alloc _) ⟨wr.heap.size, 0, none⟩ 1 1 [.int .i64 k, .int .i64 (who p k), .int .i64 (who q k)] rfl rfl (cell_three_new _ _ _ _ _) (by intro u hu; simp at hu; rcases hu with rfl | rfl | rfl <;> rfl) (by unfold maxLen; omega) (by omega) (by simp; omega) ?_)
        intro v' w1 hown' hgrow _
        have hb1 : Below w.heap.size w w1 := (hb.alloc hs _).grown hgrow (by simp; omega) (fun k hk => (hown.lt k hk).1)
        have ho1 : w1.ownsRow w.heap.size 34 3 v' (mvs p q (k + 1)).length (mcells (mvs p q (k + 1))) := by
          rw [mvs_more HE.out, mcells_snoc]; simpa using hown'
        clear hown' hgrow hown hb hs
        go_wp2
        exact ⟨⟨k + 1, by omega, by go_num, ho1, hb1⟩, by simp [intOf]; omega⟩
    · have hk' : k = 16 := by omega
      subst hk'
      go_wp2
      go_ret2
      exact ⟨_, rfl, hown, hb⟩

theorem Moves_no1 (p q : Int) (w : World) (h : p < 1 ∨ 16 < p) :
    Calls Try.prog 9 #[.int .i64 p, .int .i64 q] w fun e w' => e = .returned (.tuple #[.slice none 0 0, .iface 37 (.int .i64 1)]) ∧ w = w' := by
  go_enter Try.func9, Try.ntmps9
  go_wp2_with fail
  refine (isWorkers_no _ _ h).mono ?_; rintro e w' ⟨rfl, rfl⟩
  go_wp2
  go_ret2
  exact ⟨rfl, rfl⟩

theorem Moves_no2 (p q : Int) (w : World) (h1 : 1 ≤ p) (h2 : p ≤ 16) (h : q < 1 ∨ 16 < q) :
    Calls Try.prog 9 #[.int .i64 p, .int .i64 q] w fun e w' => e = .returned (.tuple #[.slice none 0 0, .iface 37 (.int .i64 1)]) ∧ w = w' := by
  go_enter Try.func9, Try.ntmps9
  go_wp2_with fail
  refine (isWorkers_yes _ _ h1 h2).mono ?_; rintro e w' ⟨rfl, rfl⟩
  go_wp2_with fail
  refine (isWorkers_no _ _ h).mono ?_; rintro e w' ⟨rfl, rfl⟩
  go_wp2
  go_ret2
  exact ⟨rfl, rfl⟩
end Go.Proofs.Ytiofpimchbhfcaa
