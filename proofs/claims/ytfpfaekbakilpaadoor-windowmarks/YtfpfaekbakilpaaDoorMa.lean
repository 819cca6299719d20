/- Lists of records: cloned, those without a record struck. -/
import Derived.Test.YtfpfaekbakilpaaDoorWh
import Derived.Laws.OwnMore
import Derived.Lib.SliceRun
namespace Go.Proofs.YtfpfaekbakilpaaDoor
open Go.RowKit
set_option linter.unusedVariables false

def neL (x : Li) : Bool := !x.l.isEmpty
theorem neL_len (x : Li) : neL x = true ↔ x.l.length ≠ 0 := by unfold neL; cases x.l <;> simp
set_option maxHeartbeats 1000000 in
theorem empty_any (x : Li) (w : World) (hx : x.l.length ≤ 9223372036854775807) : Calls Tryd.prog 28 #[liV x] w fun e w' => e = .returned (.bool (!neL x)) ∧ w = w' := by
  have hh := neL_len x
  obtain ⟨a, c, l⟩ := x
  simp only [liV] at hx hh ⊢
  generalize l.length = n at *
  generalize neL ⟨a, c, l⟩ = b at *
  by_cases h0 : n = 0
  · have e : b = false := by cases b <;> simp_all
    subst e
    have hq : ((n : Int) == 0) = true := by simp; omega
    clear hh h0
    go_enter Tryd.func28, Tryd.ntmps28
    go_wp2_with fail
    go_ret
    exact ⟨rfl, rfl⟩
  · have e : b = true := hh.2 h0
    subst e
    have hq : ((n : Int) == 0) = false := by simp; omega
    clear hh h0
    go_enter Tryd.func28, Tryd.ntmps28
    go_wp2_with fail
    go_ret
    exact ⟨rfl, rfl⟩
theorem infoL : (Tryd.prog.info? 22).map (fun i => (i.zero, i.size, i.bytes)) = some (some (.slice none 0 0), 1, 24) := by kernel_rfl
set_option maxRecDepth 100000 in
set_option maxHeartbeats 1000000 in
theorem clone_nil (w : World) (c : Nat) :
    Calls Tryd.prog 27 #[.slice none 0 c] w fun e w' => e = .returned (.slice none 0 0) ∧ w = w' := by
  have hq := fun u => Lib.run_eql_slice_nil (P := Tryd.prog) u 37 22 none 0 c 0 0 Tryd.underlying37
  go_enter Tryd.func27, Tryd.ntmps27
  go_wp2_with fail
  go_ret
  exact ⟨rfl, rfl⟩
set_option maxRecDepth 100000 in
set_option maxHeartbeats 1000000 in
theorem clone_some (w : World) (a : Addr) (c : Nat) (L : List Li) (h : ∀ j u, (L.map liV)[j]? = some u → w.cell? (a.add j) = some u) (hL : L.length ≤ 1000000) :
    Calls Tryd.prog 27 #[.slice (some a) L.length c] w fun e w' => ∃ v, e = .returned v ∧ w'.ownsRow w.heap.size 22 1 v L.length (L.map liV) ∧ Below w.heap.size w w' := by
  obtain ⟨i0, hi, hz0, hz1, hz2⟩ := info_parts infoL
  have hv0 : (w.alloc (.cells #[] 22)).ownsRow w.heap.size 22 1 (.slice (some ⟨w.heap.size, 0, none⟩) 0 0) 0 [] := ⟨rfl, .inr ⟨w.heap.size, 0, #[], rfl, Nat.le_refl _, alloc_new _ _, by omega, by simp, by simp, by simp⟩⟩
  have hc : ∀ j u, (L.map liV)[j]? = some u → (w.alloc (.cells #[] 22)).cell? (a.add j) = some u := fun j u hu => Lib.cell?_alloc_some _ (h j u hu)
  have HC := Lib.hid hc
  have HV := Lib.hid hv0
  have hq := fun u => Lib.run_eql_slice_nil (P := Tryd.prog) u 37 22 (some a) L.length c 0 0 Tryd.underlying37
  clear hc hv0 h
  go_enter Tryd.func27, Tryd.ntmps27
  go_wp2_with (at_builtin; refine wpList_append_own _ rfl _ _ 37 rfl w.heap.size 22 i0 (.slice none 0 0) 1 24 Tryd.underlying37 hi hz0 hz1 hz2 rfl (by decide) _ _ _ rfl HV.out a L.length c (L.map liV) rfl (by simp) HC.out (by intro u hu; obtain ⟨x, -, rfl⟩ := List.mem_map.1 hu; rfl) (by unfold maxLen; omega) (by omega) (by simp) ?_)
  intro v' w3 hown' hgrow _
  have hb3 : Below w.heap.size w w3 := ((Below.refl _ _).alloc (Nat.le_refl _) _).grown hgrow (by simp) (fun k hk => by simp [Value.ownBlock] at hk; omega)
  have HO := Lib.hid hown'
  clear hown' hgrow
  go_wp2_with fail
  go_ret
  exact ⟨v', rfl, by simpa using HO.out, hb3⟩
end Go.Proofs.YtfpfaekbakilpaaDoor
