/-
  Whatever the lines are, weirlaw1.DenPrefix returns true and leaves its arguments as they were: whether any lines are the beginning of any others is told as the document has it. No condition.
-/
import Derived.Test.YteinpjhedkekdacPd
import Derived.Test.YteinpjhedkekdacPo
import Derived.Test.YteinpjhedkekdacPn
import Derived.Test.YteinpjhedkekdacRows
import Derived.ShutString
import Derived.ChangeOld
namespace Go.Proofs.Yteinpjhedkekdac.denPrefix
open Go.ChangeShapes Go.WideShapes Go.ChangeAt Go.RowKit

theorem own : ownKnob Try.prog.godebug = none := by kernel_rfl

theorem small : (⟨#[97]⟩ : ByteArray).size ≤ 9223372036854775807 := by decide
theorem fact_true : prefP [(⟨#[97]⟩, [1])] [(⟨#[97]⟩, [1, 2])] = true := by decide

set_option maxRecDepth 100000 in
set_option maxHeartbeats 1000000 in
theorem walk {w : World} {la lb : Option Addr} {a b : List Ln} (ca cb : Nat) (ha : LnsAt w la a) (hla : a.length ≤ 9223372036854775807) (hlb : b.length ≤ 9223372036854775807) (hb : LnsAt w lb b) :
    Calls Try.prog 3 #[.slice la a.length ca, .slice lb b.length cb] w fun e w' => e = .returned (.bool true) ∧ Below w.heap.size w w' := by
  go_enter Try.func3, Try.ntmps3
  go_wp2_with fail
  have hB : Below w.heap.size w ((((w.alloc (.cells #[.int .i64 1] 3)).alloc (.cells #[.string ⟨#[97]⟩, .slice (some ⟨w.heap.size, 0, none⟩) 1 1] 26)).alloc (.cells #[.int .i64 1, .int .i64 2] 3)).alloc (.cells #[.string ⟨#[97]⟩, .slice (some ⟨w.heap.size + 1 + 1, 0, none⟩) 2 2] 26)) :=
    ((((Below.refl _ w).alloc (Nat.le_refl _) _).alloc (by simp) _).alloc (by simp; omega) _).alloc (by simp; omega) _
  have i1 : IntsAt (w.alloc (.cells #[.int .i64 1] 3)) (some ⟨w.heap.size, 0, none⟩) [1] := ints_new w [1] 3
  have l1 : LnsAt ((w.alloc (.cells #[.int .i64 1] 3)).alloc (.cells #[.string ⟨#[97]⟩, .slice (some ⟨w.heap.size, 0, none⟩) 1 1] 26)) (some ⟨w.heap.size + 1, 0, none⟩) [(⟨#[97]⟩, [1])] := by
    have := lines_new (w.alloc (.cells #[.int .i64 1] 3)) [((⟨#[97]⟩, [1]), some ⟨w.heap.size, 0, none⟩, 1)] 26 (fun x hx => by
      obtain rfl := List.mem_singleton.1 hx
      exact ⟨i1, by simp, by simp, small⟩)
    rw [World.size_alloc] at this
    exact this
  have i2 : IntsAt (((w.alloc (.cells #[.int .i64 1] 3)).alloc (.cells #[.string ⟨#[97]⟩, .slice (some ⟨w.heap.size, 0, none⟩) 1 1] 26)).alloc (.cells #[.int .i64 1, .int .i64 2] 3)) (some ⟨w.heap.size + 1 + 1, 0, none⟩) [1, 2] := by
    have := ints_new ((w.alloc (.cells #[.int .i64 1] 3)).alloc (.cells #[.string ⟨#[97]⟩, .slice (some ⟨w.heap.size, 0, none⟩) 1 1] 26)) [1, 2] 3
    rw [World.size_alloc, World.size_alloc] at this
    exact this
  have g2 : LnsAt ((((w.alloc (.cells #[.int .i64 1] 3)).alloc (.cells #[.string ⟨#[97]⟩, .slice (some ⟨w.heap.size, 0, none⟩) 1 1] 26)).alloc (.cells #[.int .i64 1, .int .i64 2] 3)).alloc (.cells #[.string ⟨#[97]⟩, .slice (some ⟨w.heap.size + 1 + 1, 0, none⟩) 2 2] 26)) (some ⟨w.heap.size + 1 + 1 + 1, 0, none⟩) [(⟨#[97]⟩, [1, 2])] := by
    have := lines_new (((w.alloc (.cells #[.int .i64 1] 3)).alloc (.cells #[.string ⟨#[97]⟩, .slice (some ⟨w.heap.size, 0, none⟩) 1 1] 26)).alloc (.cells #[.int .i64 1, .int .i64 2] 3)) [((⟨#[97]⟩, [1, 2]), some ⟨w.heap.size + 1 + 1, 0, none⟩, 2)] 26 (fun x hx => by
      obtain rfl := List.mem_singleton.1 hx
      exact ⟨i2, by simp, by simp, small⟩)
    rw [World.size_alloc, World.size_alloc, World.size_alloc] at this
    exact this
  have g1 : LnsAt ((((w.alloc (.cells #[.int .i64 1] 3)).alloc (.cells #[.string ⟨#[97]⟩, .slice (some ⟨w.heap.size, 0, none⟩) 1 1] 26)).alloc (.cells #[.int .i64 1, .int .i64 2] 3)).alloc (.cells #[.string ⟨#[97]⟩, .slice (some ⟨w.heap.size + 1 + 1, 0, none⟩) 2 2] 26)) (some ⟨w.heap.size + 1, 0, none⟩) [(⟨#[97]⟩, [1])] := (l1.keep (Keeps.alloc _ _)).keep (Keeps.alloc _ _)
  clear i1 l1 i2
  generalize (((w.alloc (.cells #[.int .i64 1] 3)).alloc (.cells #[.string ⟨#[97]⟩, .slice (some ⟨w.heap.size, 0, none⟩) 1 1] 26)).alloc (.cells #[.int .i64 1, .int .i64 2] 3)).alloc (.cells #[.string ⟨#[97]⟩, .slice (some ⟨w.heap.size + 1 + 1, 0, none⟩) 2 2] 26) = w1 at *
  have hp := prefix_any 1 1 g1 (by simp) (by simp) g2
  rw [fact_true] at hp
  refine hp.mono ?_
  rintro e w2 ⟨rfl, hb2⟩
  have hB2 : Below w.heap.size w w2 := hB.trans (hb2.mono hB.size)
  have hp2 := prefix_any ca cb (ha.keep (Keeps.of hB2)) hla hlb (hb.keep (Keeps.of hB2))
  have hp3 : ∀ w3, Below w.heap.size w w3 → Calls Try.prog 5 #[.slice la a.length ca, .slice lb b.length cb] w3 fun e w' => e = .returned (.bool (prefP a b)) ∧ ∃ n, w' = w3.drewN n := fun w3 h3 => rprefix_any ca cb (ha.keep (Keeps.of h3)) hla hlb (hb.keep (Keeps.of h3))
  generalize prefP a b = r at *
  have HP := hideP hp3
  clear hp hp3
  go_wp2_with fail
  refine hp2.mono ?_
  rintro e w3 ⟨rfl, hb3⟩
  have hB3 : Below w.heap.size w w3 := hB2.trans (hb3.mono hB2.size)
  clear hp2
  go_wp2_with fail
  refine (HP.out w3 hB3).mono ?_
  rintro e w4 ⟨rfl, n, rfl⟩
  cases r
  all_goals
    go_wp2
    go_ret
    exact ⟨rfl, below_drewN hB3 n⟩

set_option maxRecDepth 100000 in
theorem lifted (os : Os) (started : os.Started) (H : Type) (enc : TypeId × Value → H) :
    ReturnsInHanded {} Try.checked os 3 .any (Rows.denPrefixSpec.pre6 enc Try.prog Try.f3 Rows.denPrefixRow.domain false) (Rows.denPrefixSpec.post enc Try.prog Try.f3 false true false false) := by
  refine returnsInHanded_of_change (C := Try.checked) own started (by kernel_rfl) Try.func3
    (ChangeSpec.witness6 (enc := enc) (C := Try.checked) false ⟨#[], #[.slice none 0 0, .slice none 0 0], []⟩ 8 (by kernel_rfl) (by kernel_rfl) (by kernel_rfl) (by kernel_rfl)) ?_
  intro W base args ds gs before hval0 hW hcnd _
  have hval : ∀ (j : Nat) t v, Try.f3.params[j]? = some t → args[j]? = some v → Value.okWide Try.prog W .any base t v := hval0
  have hW' := hW
  obtain ⟨p, q, hA0, hV, rfl, hfz, hnd⟩ := hW
  have hA : DataW.TrodAll enc Try.prog W 0 (fun _ => true) true Try.f3.params.toList args.toList ds p := hA0
  rw [Try.params3] at hA hval
  obtain ⟨v0, vs0, d0, ds0, p0, q0, hargs, rfl, rfl, h0, r0⟩ := trodAll_cons hA
  obtain ⟨v1, vs1, d1, ds1, p1, q1, rfl, rfl, rfl, h1, r1⟩ := trodAll_cons r0
  obtain ⟨rfl, rfl, rfl⟩ := trodAll_nil r1
  obtain rfl : args = #[v0, v1] := by cases args; simp_all
  obtain ⟨rfl, rfl⟩ := trodVars_none hV
  obtain ⟨la0, len0, cp0, rfl⟩ := okWide_slice Try.underlying22 (hval 0 22 v0 rfl rfl)
  obtain ⟨la1, len1, cp1, rfl⟩ := okWide_slice Try.underlying22 (hval 1 22 v1 rfl rfl)
  have k0 := h0
  have k1 := h1
  have k0' : ∃ fuel, DataW.trod enc Try.prog W 0 (fun _ => true) true fuel 22 [Value.slice la0 len0 cp0] = some (d0, p0) := h0
  have k1' : ∃ fuel, DataW.trod enc Try.prog W 0 (fun _ => true) true fuel 22 [Value.slice la1 len1 cp1] = some (d1, p1) := h1
  obtain ⟨fuel0, hf0⟩ := k0'
  obtain ⟨fuel1, hf1⟩ := k1'
  obtain ⟨fa0, L0, fc0, e0, hc0, hm0, hN0⟩ := open_lines hf0
  obtain ⟨fa1, L1, fc1, e1, hc1, hm1, hN1⟩ := open_lines hf1
  injection e0 with e0a e0b e0c
  injection e1 with e1a e1b e1c
  subst e0a e0b e0c e1a e1b e1c
  clear hA0 hval0
  have hml : maxLen = 9223372036854775807 := rfl
  refine (walk cp0 cp1 hN0 (by omega) (by omega) hN1).mono fun e W' ⟨he, bel⟩ => ?_
  subst he
  have hlt : ∀ x ∈ (p0 ++ (p1 ++ []) ++ [] : List MemPlace), x.block < W.heap.size := fun x hx => hW'.lt x (by simpa using hx)
  exact ⟨_, rfl, _, _, _, [], _, [], hW', trodAll_mk1 (shut_bool Try.underlying4 true), trodAll_cons_mk (WideElems.Trod_stays Try.laidOut (by kernel_rfl) (of_decide_eq_true (by kernel_rfl)) k0 (fun x hx => bel.same (hlt x (by simp [hx]))) (fun x hx => by simpa using hlt x (by simp [hx]))) (trodAll_cons_mk (WideElems.Trod_stays Try.laidOut (by kernel_rfl) (of_decide_eq_true (by kernel_rfl)) k1 (fun x hx => bel.same (hlt x (by simp [hx]))) (fun x hx => by simpa using hlt x (by simp [hx]))) trodAll_mk0), rfl, bel.frame _, fun h => by cases h⟩

theorem over : Rows.denPrefixRow.holds Try.pinned (OpenSpec.ofChange Rows.denPrefixSpec) :=
  OpenClaim.holds_of_wide 3 Try.f3 rfl rfl rfl rfl rfl rfl rfl ⟨rfl, rfl, rfl, rfl, rfl⟩ rfl rfl rfl rfl rfl (by kernel_rfl) Try.func3 (by kernel_rfl)
    (of_decide_eq_true (by kernel_rfl)) (by unfold Func.isWrapper; first | (rw [if_pos (by decide +kernel)]; kernel_rfl) | (rw [if_neg (by decide +kernel)]; exact ⟨rfl, rfl⟩))
    (fun os started H enc _ => lifted os started H enc)
end Go.Proofs.Yteinpjhedkekdac.denPrefix
namespace Go.Proofs.Yteinpjhedkekdac
theorem denPrefix_holds : Rows.DenPrefixSaid := denPrefix.over
#print axioms denPrefix_holds
end Go.Proofs.Yteinpjhedkekdac
