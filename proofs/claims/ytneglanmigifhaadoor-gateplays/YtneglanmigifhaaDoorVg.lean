/- Bound, Next. -/
import Derived.Test.YtneglanmigifhaaDoorVf
namespace Go.Proofs.YtneglanmigifhaaDoor
open Go.ChangeShapes Go.WideShapes Go.RowKit
set_option linter.unusedVariables false
theorem leastG_mem {α : Type} : ∀ {ws : List (List (It α))} {m : Int}, leastG ws = some m → ∃ l ∈ ws, hBar l = some m
  | [l], m, h => ⟨l, by simp, h⟩
  | l :: l' :: ls, m, h => by
    simp only [leastG] at h
    cases h1 : hBar l with
    | none => rw [h1] at h; cases h
    | some a =>
      cases h2 : leastG (l' :: ls) with
      | none => rw [h1, h2] at h; cases h
      | some b =>
        rw [h1, h2] at h
        simp only [Option.some.injEq] at h
        split at h
        · subst h
          obtain ⟨x, hx, hm⟩ := leastG_mem h2
          exact ⟨x, List.mem_cons_of_mem _ hx, hm⟩
        · subst h
          exact ⟨l, by simp, h1⟩
section
variable {lo : Nat} {w : World} {B L t : Nat} {vs : Nat → Value} {g : Gt Rg}
theorem bound_no (h : GtB lo w B L t vs g) (hg : boundG g = none) : Calls Tryd.prog 11 #[.pointer (some ⟨B, 0, none⟩)] w fun e w' => e = .returned (.tuple #[.int .i64 0, .bool false]) ∧ Below w.heap.size w w' := by
  have HL := least_any h
  have hl : leastG g.ws = none := by
    unfold boundG at hg
    cases hc : leastG g.ws with
    | none => rfl
    | some m => rw [hc] at hg; cases hg
  rw [leastV, hl] at HL
  simp only [Option.getD_none, Option.isSome_none] at HL
  clear h hg hl
  go_enter Tryd.func11, Tryd.ntmps11
  go_wp2_with (go_at_call 23; refine HL.mono ?_; rintro e u ⟨rfl, hb⟩)
  exact bodyPost_ret (v := .tuple #[.int .i64 0, .bool false]) (by simp [results, Tryd.results11, go_sem]) rfl ⟨rfl, hb⟩
set_option maxRecDepth 100000 in
set_option maxHeartbeats 2000000 in
theorem bound_ok (h : GtB lo w B L t vs g) {m : Int} {g' : Gt Rg} (hg : boundG g = some (m, g')) : Calls Tryd.prog 11 #[.pointer (some ⟨B, 0, none⟩)] w fun e w' => e = .returned (.tuple #[.int .i64 m, .bool true]) ∧ (∃ vs', GtB lo w' B L t vs' g') ∧ FrG lo w w' := by
  have HL := least_any h
  obtain ⟨hl, hg'⟩ : leastG g.ws = some m ∧ g' = { g with ws := g.ws.map (cutH m) } := by
    cases hc : leastG g.ws with
    | none => unfold boundG at hg; rw [hc] at hg; cases hg
    | some m' =>
      rw [boundG_is hc] at hg
      injection hg with hg
      injection hg with h1 h2
      subst h1
      exact ⟨rfl, h2.symm⟩
  rw [leastV, hl] at HL
  simp only [Option.getD_some, Option.isSome_some] at HL
  have hloW := h.loW
  have hn1 := h.n1
  have hn0 := h.n0
  -- a round
  have hm0 : 0 < m := by
    obtain ⟨l, hl1, hl2⟩ := leastG_mem hl
    exact h.ids l hl1 m (by rw [(hBar_some hl2).1]; simp)
  have HS := Lib.hid (show ∀ (wr : World) (vs' : Nat → Value) (k : Nat), GtB lo wr B L t vs' { g with ws := cutK m g.ws k } → k < g.ws.length → wr.cell? ⟨B, 0, none⟩ = some (.slice (some ⟨L, 0, none⟩) g.ws.length g.ws.length) ∧ Calls Tryd.prog 24 #[.pointer (some ⟨L, k * 2, none⟩)] wr (fun e w' => e = .returned (.int .i64 (idHead (g.ws.getD k []))) ∧ wr = w') ∧
      ((idHead (g.ws.getD k []) == m) = true ∧ Calls Tryd.prog 22 #[.pointer (some ⟨L, k * 2, none⟩)] wr (fun e w' => e = .returned (iV (.bar m)) ∧ (∃ vs', GtB lo w' B L t vs' { g with ws := cutK m g.ws (k + 1) }) ∧ FrG lo wr w') ∨ (idHead (g.ws.getD k []) == m) = false ∧ GtB lo wr B L t vs' { g with ws := cutK m g.ws (k + 1) }) from by
    intro wr vs' k hG hk
    have hlen := cutK_len m g.ws k
    have hk' : k < (cutK m g.ws k).length := by omega
    have hat := cutK_at m g.ws hk
    have c0 := hG.c0
    have hbr := barrier_any (hG.l0 hk') (hG.own k hk')
    have hids := fun id hid => h.ids _ (mem_getD hk) id hid
    simp only at c0 hbr
    rw [hlen] at c0
    rw [hat] at hbr
    refine ⟨c0, hbr, ?_⟩
    have hnx := cutK_next m g.ws hk
    obtain ⟨i1, i2⟩ := idHead_bar hids
    by_cases he : hBar (g.ws.getD k []) = some m
    · left
      refine ⟨by rw [(i1 m he).1]; simp, ?_⟩
      have hx := (hBar_some he).1
      rw [← hat] at hx
      have := take_g hG hk' hx
      rw [hnx, cutH_yes he, ← hat]
      exact this
    · right
      refine ⟨?_, ?_⟩
      · cases hc : hBar (g.ws.getD k []) with
        | none => rw [i2 hc]; simp; omega
        | some m' =>
          rw [(i1 m' hc).1]
          rw [hc] at he
          simpa using he
      · rw [hnx, cutH_not he, ← hat, set_self _ _ _ hk']; exact hG)
  have HZ := Lib.hid (show ∀ (wr : World) (vs' : Nat → Value) (k : Nat), GtB lo wr B L t vs' { g with ws := cutK m g.ws k } → g.ws.length ≤ k → GtB lo wr B L t vs' g' from by
    intro wr vs' k hG hk
    rw [cutK_end m g.ws hk] at hG
    rw [hg']; exact hG)
  have HW := Lib.hid (show ∀ u, Below w.heap.size w u → GtB lo u B L t vs { g with ws := cutK m g.ws 0 } ∧ FrG lo w u ∧ u.cell? ⟨B, 0, none⟩ = some (.slice (some ⟨L, 0, none⟩) g.ws.length g.ws.length) from by
    intro u hu
    refine ⟨?_, FrG.below hu hloW, (h.keep hu).c0⟩
    rw [cutK_zero]; exact h.keep hu)
  clear h hg hl hg'
  have hE : Hid (g.ws.length = g.ws.length) := Lib.hid rfl
  generalize hn : g.ws.length = n at *
  go_enter Tryd.func11, Tryd.ntmps11
  go_wp2_with (go_at_call 23; refine HL.mono ?_; rintro e u ⟨rfl, hb⟩; refine Hid.out ?_)
  refine Lib.hid ?_
  obtain ⟨hG0, hF0, c0⟩ := HW.out u hb
  have HG0 := Lib.hid hG0
  have HF0 := Lib.hid hF0
  clear HL HW hb hG0 hF0
  go_wp2_with fail
  go_loopw [17] (fun at_ wr => ∃ k vs', k ≤ n ∧ at_ = .int .i64 (k : Nat) ∧ GtB lo wr B L t vs' { g with ws := cutK m g.ws k } ∧ FrG lo w wr) (fun j _ => n - (intOf j).toNat)
  case atStart => exact ⟨0, vs, Nat.zero_le _, rfl, HG0.out, HF0.out⟩
  case round =>
    clear c0 HG0 HF0
    obtain ⟨k, vs', hk, rfl, hG, hF⟩ := hrel
    by_cases hlt : k < n
    · have hlt' : (k : Int) < n := by omega
      rename World => wr
      obtain ⟨c0, KB, hw⟩ := HS.out _ vs' k hG hlt
      generalize idHead (g.ws.getD k []) = d at *
      rcases hw with ⟨he, KT⟩ | ⟨he, hG2⟩
      · clear hG
        go_wp2_with first | (go_at_call 24; refine KB.mono ?_; rintro e u ⟨rfl, rfl⟩) | (go_at_call 22; refine KT.mono ?_; rintro e u2 ⟨rfl, ⟨vs2, hG2⟩, hF2⟩; refine Hid.out ?_)
        refine Lib.hid ?_
        have HG2 := Lib.hid hG2
        have HF2 := Lib.hid (hF.trans hF2)
        clear hG2 hF2 hF KB KT c0
        go_wp2_with fail
        go_roundw
        case rel => exact ⟨k + 1, vs2, by omega, by go_num, HG2.out, HF2.out⟩
        case measure => simp [intOf]; omega
      · clear hG
        have HG2 := Lib.hid hG2
        clear hG2
        go_wp2_with (go_at_call 24; refine KB.mono ?_; rintro e u ⟨rfl, rfl⟩)
        go_roundw
        case rel => exact ⟨k + 1, vs', by omega, by go_num, HG2.out, hF⟩
        case measure => simp [intOf]; omega
    · have hlt' : ¬ (k : Int) < n := by omega
      have hR := HZ.out _ vs' k hG (by omega)
      go_wp2_with fail
      exact bodyPost_ret (v := .tuple #[.int .i64 m, .bool true]) (by simp [results, Tryd.results11, go_sem]) rfl ⟨rfl, ⟨vs', hR⟩, hF⟩
end
end Go.Proofs.YtneglanmigifhaaDoor
