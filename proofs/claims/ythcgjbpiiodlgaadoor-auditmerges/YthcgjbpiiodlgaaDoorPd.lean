/- The document's Prefix. -/
import Derived.Test.YthcgjbpiiodlgaaDoorPc
namespace Go.Proofs.YthcgjbpiiodlgaaDoor
open Go.RowKit

theorem ne_str {a b : ByteArray} (h : a ≠ b) : (a.toList == b.toList) = false := by
  rw [ByteArray.toList_eq, ByteArray.toList_eq, beq_eq_false_iff_ne]
  exact fun e => h (WideShapes.bytes_inj e)

set_option maxRecDepth 100000 in
set_option maxHeartbeats 4000000 in
theorem rprefix_any {w : World} {la lb : Option Addr} {a b : List Ln} (ca cb : Nat) (ha : LnsAt w la a) (hla : a.length ≤ 9223372036854775807) (hlb : b.length ≤ 9223372036854775807) (hb : LnsAt w lb b) :
    Calls Tryd.prog 13 #[.slice la a.length ca, .slice lb b.length cb] w fun e w' => e = .returned (.bool (prefP a b)) ∧ ∃ n, w' = w.drewN n := by
  go_enter Tryd.func13, Tryd.ntmps13
  go_wp2_with fail
  go_loopw [5] (fun i wr => ∃ j : Nat, j ≤ a.length ∧ i = .int .i64 j ∧ prefP (a.take j) b = true ∧ ∃ n, wr = w.drewN n) (fun i _ => a.length - (intOf i).toNat)
  case atStart => exact ⟨0, by omega, rfl, by simp [prefP], 0, rfl⟩
  case round =>
    obtain ⟨j, hj, rfl, hp, n, rfl⟩ := hrel
    have Hp := hideP hp
    clear hp
    by_cases hlt : j < a.length
    · have hi : (j : Int) < a.length := by omega
      rcases ha with ha | ⟨ba, oa, rfl, ha⟩
      · subst ha; simp at hlt
      obtain ⟨c0, ⟨fa, fc, c1, c2, c3, c4⟩, c5⟩ := ha j hlt
      have Hp1 : Hid (oneP b a[j] = true → prefP (a.take (j + 1)) b = true) := fun h => by rw [pref_take hlt, Hp.out, h]; rfl
      have Hone : Hid (oneP b a[j] = false → prefP a b = false) := fun h => pref_false hlt h
      generalize a[j] = x at *
      go_wp2_with fail
      go_loopw [6] (fun i wr => ∃ k : Nat, k ≤ b.length ∧ i = .int .i64 k ∧ (∀ (i : Nat) (hi : i < k) (h : i < b.length), b[i].1 ≠ x.1) ∧ ∃ m, wr = w.drewN m) (fun i _ => b.length - (intOf i).toNat)
      case atStart => exact ⟨0, by omega, rfl, fun i hi => by omega, n, rfl⟩
      case round =>
        obtain ⟨k, hk, rfl, hno, m, rfl⟩ := hrel
        have Hno := hideP hno
        clear hno
        by_cases hlk : k < b.length
        · have hik : (k : Int) < b.length := by omega
          rcases hb with hb | ⟨bb, ob, rfl, hb⟩
          · subst hb; simp at hlk
          obtain ⟨d0, ⟨ga, gc, d1, d2, d3, d4⟩, d5⟩ := hb k hlk
          by_cases he : b[k].1 = x.1
          · rw [he] at d0
            have hfs : fstP x.1 b = some b[k] := fst_first x.1 b k hlk he (fun i hi => Hno.out i hi (by omega))
            have hone : oneP b x = decide (x.2 <+: b[k].2) := by unfold oneP; rw [hfs]
            have hne : ((k : Int) == (b.length : Int)) = false := by simp; omega
            clear hfs he ha hb
            by_cases hll : b[k].2.length < x.2.length
            · have Hf : Hid (prefP a b = false) := Hone.out (by rw [hone]; exact decide_eq_false (fun h => by have := h.length_le; omega))
              have hil : ((b[k].2.length : Nat) : Int) < (x.2.length : Nat) := by omega
              clear hone
              generalize b[k] = y at *
              go_wp2_with fail
              go_quiet (fail)
              go_wp2_with fail
              go_quiet (fail)
              go_wp2
              go_ret
              exact ⟨by rw [Hf.out]; rfl, _, (drewN_two _ _ _).trans (drewN_two _ _ _)⟩
            · have hil : ¬ ((b[k].2.length : Nat) : Int) < (x.2.length : Nat) := by omega
              have Hone2 := hideP hone
              clear hone
              generalize b[k] = y at *
              go_wp2_with fail
              go_quiet (fail)
              go_wp2_with fail
              go_quiet (fail)
              go_wp2_with fail
              go_loopw [7] (fun i wr => ∃ q : Nat, q ≤ x.2.length ∧ i = .int .i64 q ∧ x.2.take q = y.2.take q ∧ ∃ m, wr = w.drewN m) (fun i _ => x.2.length - (intOf i).toNat)
              case atStart => exact ⟨0, by omega, rfl, rfl, _, (drewN_two _ _ _).trans (drewN_two _ _ _)⟩
              case round =>
                obtain ⟨q, hq, rfl, ht, m2, rfl⟩ := hrel
                have Ht := hideP ht
                clear ht
                by_cases hlq : q < x.2.length
                · have hiq : (q : Int) < (x.2.length : Nat) := by omega
                  have hlq2 : q < y.2.length := by omega
                  have hiq2 : (q : Int) < (y.2.length : Nat) := by omega
                  rcases c2 with c2 | ⟨b1, o1, rfl, c2⟩
                  · rw [c2] at hlq; simp at hlq
                  rcases d2 with d2 | ⟨b2, o2, rfl, d2⟩
                  · rw [d2] at hlq2; simp at hlq2
                  have e1 := c2 q hlq
                  have e2 := d2 q hlq2
                  by_cases hz : x.2[q] = y.2[q]
                  · have Hs : Hid (x.2.take (q + 1) = y.2.take (q + 1)) := take_step hlq hlq2 Ht.out hz
                    rw [← hz] at e2
                    clear hz c2 d2
                    generalize x.2[q] = z at *
                    go_wp2_with fail
                    go_quiet (fail)
                    go_wp2_with fail
                    exact ⟨⟨q + 1, by omega, by go_num, Hs.out, _, rfl⟩, by simp [intOf]; omega⟩
                  · have Hf : Hid (prefP a b = false) := Hone.out (by rw [Hone2.out]; exact decide_eq_false (fun h => hz (by
                      obtain ⟨t, ht⟩ := h
                      have : y.2[q] = (x.2 ++ t)[q]'(by simp; omega) := by simp [ht]
                      rw [this, List.getElem_append_left hlq])))
                    have hz2 : (x.2[q] != y.2[q]) = true := by simp [hz]
                    clear hz c2 d2
                    generalize x.2[q] = z at *
                    generalize y.2[q] = z2 at *
                    go_wp2_with fail
                    go_quiet (fail)
                    go_wp2
                    go_ret
                    exact ⟨by rw [Hf.out]; rfl, _, drewN_two _ _ _⟩
                · have hiq : ¬ (q : Int) < (x.2.length : Nat) := by omega
                  have Hx : Hid (prefP (a.take (j + 1)) b = true) := Hp1.out (by
                    rw [Hone2.out]
                    refine decide_eq_true ?_
                    have h1 := Ht.out
                    rw [List.take_of_length_le (by omega)] at h1
                    rw [h1]; exact List.take_prefix _ _)
                  go_wp2
                  exact ⟨⟨j + 1, by omega, by go_num, Hx.out, _, rfl⟩, by simp [intOf]; omega⟩
          · have hnb : (b[k].1.toList == x.1.toList) = false := ne_str he
            have Hn2 : Hid (∀ (i : Nat) (hi : i < k + 1) (h : i < b.length), b[i].1 ≠ x.1) := fun i hi h => by
              by_cases hik : i = k
              · subst hik; exact he
              · exact Hno.out i (by omega) h
            clear he ha hb
            generalize b[k] = y at *
            go_wp2_with fail
            go_quiet (fail)
            go_wp2_with fail
            exact ⟨⟨k + 1, by omega, by go_num, Hn2.out, _, rfl⟩, by simp [intOf]; omega⟩
        · have hik : ¬ (k : Int) < b.length := by omega
          have hek : ((k : Int) == (b.length : Int)) = true := by simp; omega
          have Hf : Hid (prefP a b = false) := Hone.out (by
            unfold oneP
            have : fstP x.1 b = none := by
              cases h : fstAt x.1 0 b with
              | none => exact (fstAt_none _ _ _).1 h
              | some p =>
                obtain ⟨hpl, -, h2, -⟩ := fst_place _ _ h
                exact absurd h2 (Hno.out p (by omega) hpl)
            rw [this])
          clear ha hb
          go_wp2_with fail
          go_quiet (fail)
          go_wp2_with fail
          go_quiet (fail)
          go_wp2
          go_ret
          exact ⟨by rw [Hf.out]; rfl, _, (drewN_two _ _ _).trans (drewN_two _ _ _)⟩
    · have hi : ¬ (j : Int) < a.length := by omega
      have Hf : Hid (prefP a b = true) := by
        have h1 := Hp.out
        rw [List.take_of_length_le (by omega)] at h1
        exact h1
      go_wp2
      go_ret
      exact ⟨by rw [Hf.out]; rfl, n, rfl⟩
end Go.Proofs.YthcgjbpiiodlgaaDoor
