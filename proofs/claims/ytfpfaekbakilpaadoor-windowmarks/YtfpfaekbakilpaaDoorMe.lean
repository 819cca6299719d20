/- Marks. -/
import Derived.Test.YtfpfaekbakilpaaDoorMd
namespace Go.Proofs.YtfpfaekbakilpaaDoor
open Go.RowKit
set_option linter.unusedVariables false

theorem clone_all (w : World) (la : Option Addr) (c : Nat) (L : List Li) (h : CsAt w la (L.map liV)) (hL : L.length ≤ 1000000) :
    Calls Tryd.prog 27 #[.slice la L.length c] w fun e w' => ∃ v, e = .returned v ∧ w'.ownsRow w.heap.size 22 1 v L.length (L.map liV) ∧ Below w.heap.size w w' := by
  cases la with
  | none =>
    have h0 : L = [] := by
      rcases h with h | ⟨b, o, e, -⟩
      · simpa using h
      · cases e
    subst h0
    refine (clone_nil w c).mono ?_
    rintro e w' ⟨rfl, rfl⟩
    exact ⟨_, rfl, World.ownsRow_nil _ _ _ _, Below.refl _ _⟩
  | some a =>
    refine clone_some w a c L (fun j u hu => ?_) hL
    rcases h with h | ⟨b, o, e, hc⟩
    · rw [h] at hu; simp at hu
    · injection e with e
      subst e
      have : (⟨b, o, none⟩ : Addr).add j = ⟨b, o + j, none⟩ := by unfold Addr.add; split <;> simp_all
      rw [this]; exact hc j u hu
set_option maxRecDepth 100000 in
set_option maxHeartbeats 1000000 in
theorem marks_full (w : World) (la : Option Addr) (c : Nat) (n : Nat) (slack : Int) (hn : 4 < n) (hn2 : n ≤ 9223372036854775807) :
    Calls Tryd.prog 14 #[.slice la n c, .int .i64 slack] w fun e w' => e = .returned (.tuple #[.slice none 0 0, errV 4]) ∧ Below w.heap.size w w' := by
  have hh : (4 : Int) < (n : Int) := by omega
  go_enter Tryd.func14, Tryd.ntmps14
  go_wp2_with fail
  go_ret2
  exact ⟨rfl, Below.refl _ _⟩
set_option maxRecDepth 100000 in
set_option maxHeartbeats 1000000 in
theorem marks_recs (w : World) (la : Option Addr) (c : Nat) (L : List Li) (slack : Int) (h : CsAt w la (L.map liV)) (hr : ∀ x ∈ L, CsAt w x.at_ (rcells x.l)) (hL : L.length ≤ 4) (hn : (allR L).length ≤ 9223372036854775807) (hks : ∀ r ∈ allR L, r.key.size ≤ 9223372036854775807) (hE : recsE (allR L) ≠ 0) :
    Calls Tryd.prog 14 #[.slice la L.length c, .int .i64 slack] w fun e w' => e = .returned (.tuple #[.slice none 0 0, errV (recsE (allR L))]) ∧ Below w.heap.size w w' := by
  have HC := check_any w la c L h hr (by omega) hn hks
  rw [errV_ne hE] at HC ⊢
  have hh : ¬ (4 : Int) < (L.length : Int) := by omega
  generalize recsE (allR L) = E at *
  clear h hr hks hE
  go_enter Tryd.func14, Tryd.ntmps14
  go_wp2_with (go_at_call 17; refine HC.mono ?_; rintro e w' ⟨rfl, hb⟩)
  go_ret2
  exact ⟨rfl, hb⟩
set_option maxRecDepth 100000 in
set_option maxHeartbeats 1000000 in
theorem marks_slack (w : World) (la : Option Addr) (c : Nat) (L : List Li) (slack : Int) (h : CsAt w la (L.map liV)) (hr : ∀ x ∈ L, CsAt w x.at_ (rcells x.l)) (hL : L.length ≤ 4) (hn : (allR L).length ≤ 9223372036854775807) (hks : ∀ r ∈ allR L, r.key.size ≤ 9223372036854775807) (hE : recsE (allR L) = 0) (hs : slackB slack = false) :
    Calls Tryd.prog 14 #[.slice la L.length c, .int .i64 slack] w fun e w' => e = .returned (.tuple #[.slice none 0 0, errV 1]) ∧ Below w.heap.size w w' := by
  have HC := check_any w la c L h hr (by omega) hn hks
  rw [hE, errV_0] at HC
  have H3 := fun u => slack_any slack u
  rw [hs] at H3
  have hh : ¬ (4 : Int) < (L.length : Int) := by omega
  clear h hr hks hE
  go_enter Tryd.func14, Tryd.ntmps14
  go_wp2_with (first | (go_at_call 17; refine HC.mono ?_; rintro e w' ⟨rfl, hb⟩) | (go_at_call 19; refine (H3 _).mono ?_; rintro e w'' ⟨rfl, rfl⟩))
  go_ret2
  exact ⟨rfl, hb⟩
def marksP (slack : Int) (L : List Li) : List Int := leastP slack (insL (L.filter neL))
set_option maxRecDepth 100000 in
set_option maxHeartbeats 2000000 in
theorem marks_yes (w : World) (la : Option Addr) (c : Nat) (L : List Li) (slack : Int) (h : CsAt w la (L.map liV)) (hr : ∀ x ∈ L, CsAt w x.at_ (rcells x.l)) (hL : L.length ≤ 4) (hE : recsE (allR L) = 0) (hs : slackB slack = true) :
    Calls Tryd.prog 14 #[.slice la L.length c, .int .i64 slack] w fun e w' => ∃ A cap, e = .returned (.tuple #[.slice A (marksP slack L).length cap, .nilIface]) ∧ CsAt w' A ((marksP slack L).map (Value.int .i64)) ∧ Below w.heap.size w w' := by
  obtain ⟨hn, hall⟩ := recs_ok hE
  have HC := check_any w la c L h hr (by omega) (by omega) (fun r hr' => by have := (hall r hr').1; omega)
  rw [hE, errV_0] at HC
  have H3 := fun u => slack_any slack u
  rw [hs] at H3
  have a3 : 0 ≤ slack ∧ slack ≤ 1000000 := by unfold slackB at hs; simpa using hs
  obtain ⟨k0, k1⟩ := a3
  have hh : ¬ (4 : Int) < (L.length : Int) := by omega
  have hmem : ∀ x ∈ L, x.l.length ≤ 400 ∧ ∀ r ∈ x.l, 0 ≤ r.tm ∧ r.tm ≤ 1000000 := fun x hx => by
    refine ⟨?_, fun r hr' => (hall r (List.mem_flatMap.2 ⟨x, hx, hr'⟩)).2⟩
    have : x.l.length ≤ (allR L).length := (List.sublist_flatten_of_mem (List.mem_map_of_mem (f := fun x : Li => x.l) hx) |> fun h => by simpa [allR, List.flatMap] using h.length_le)
    omega
  have HK := fun (u : World) (hu : Below w.heap.size w u) => clone_all u la c L (h.keep hu) (by omega)
  have HD := fun (u : World) (B : Nat) (v : Value) (ho : u.ownsRow B 22 1 v L.length (L.map liV)) (hB : B ≤ u.heap.size) => delf_any u B v L ho hB (fun x hx => by have := (hmem x hx).1; omega) (by omega)
  have HL := fun (u : World) (A : Option Addr) (cap : Nat) (hcs : CsAt u A ((L.filter neL).map liV)) (hb : Below w.heap.size w u) => least_any u A cap (L.filter neL) slack hcs (fun x hx => (hr x (List.mem_filter.1 hx).1).keep hb) (by have := List.length_filter_le neL L; omega) (fun x hx => hmem x (List.mem_filter.1 hx).1) k0 k1
  have HK' := Lib.hid HK
  have HD' := Lib.hid HD
  have HL' := Lib.hid HL
  unfold marksP
  clear h hr hE hs hall hmem HK HD HL
  generalize leastP slack (insL (L.filter neL)) = FP at *
  go_enter Tryd.func14, Tryd.ntmps14
  go_wp2_with (first | (go_at_call 17; refine HC.mono ?_; rintro e u1 ⟨rfl, b1⟩) | (go_at_call 19; refine (H3 _).mono ?_; rintro e w'' ⟨rfl, rfl⟩; refine Hid.out ?_))
  refine Lib.hid ?_
  have HK1 := HK'.out u1 b1
  clear HC H3 HK'
  go_wp2_with (go_at_call 27; refine HK1.mono ?_; rintro e u2 ⟨v2, rfl, ho2, b2'⟩; refine Hid.out ?_)
  refine Lib.hid ?_
  have HD1 := HD'.out u2 u1.heap.size v2 ho2 b2'.size
  have b2 := below_after b2' b1
  have hz2 := b1.size
  clear HK1 HD' ho2
  go_wp2_with (go_at_call 26; refine HD1.mono ?_; rintro e u3 ⟨A3, c3, rfl, hC3, b3'⟩; refine Hid.out ?_)
  refine Lib.hid ?_
  have b3 : Below w.heap.size w u3 := b2.trans (b3'.mono hz2)
  have HL1 := HL'.out u3 A3 c3 hC3 b3
  clear HD1 HL' hC3 b3' b2'
  go_wp2_with (go_at_call 29; refine HL1.mono ?_; rintro e u4 ⟨A4, c4, rfl, hC4, b4'⟩; refine Hid.out ?_)
  refine Lib.hid ?_
  have b4 := b3.trans (b4'.mono b3.size)
  have HC4 := Lib.hid hC4
  clear HL1 hC4 b4'
  go_wp2_with fail
  go_ret2
  exact ⟨A4, c4, rfl, HC4.out, b4⟩
end Go.Proofs.YtfpfaekbakilpaaDoor
