/- JobGrows: the walks. -/
import Derived.Test.YtjodmgepglmceacDoorJp
namespace Go.Proofs.YtjodmgepglmceacDoor
open Go.RowKit
namespace jobGrows

def factL : List Nd := [⟨1, [], ByteArray.empty, 1⟩, ⟨10, [0], ByteArray.empty, 0⟩]
theorem fact_zero : jobP factL = 0 := by
  have h : (ByteArray.empty ≠ ByteArray.empty) = False := by simp
  simp [jobP, factL, allP, nodeP, fromP, fromOne, kindAt, ownP, endsP, inLo, inHi, bdLo, bdHi, hasTP, hasNP]
theorem none_six : jobP [] = 6 := by simp [jobP, allP, endsP]

abbrev factC (H : Nat) : Array Value := #[.int .i64 1, .slice none 0 0, .string ⟨#[]⟩, .int .i64 1, .int .i64 10, .slice (some ⟨H, 0, none⟩) 1 1, .string ⟨#[]⟩, .int .i64 0]
theorem fact_nodes (w : World) : NdsAt ((w.alloc (.cells #[.int .i64 0] 3)).alloc (.cells (factC w.heap.size) 28)) (some ⟨w.heap.size + 1, 0, none⟩) factL := by
  have e : (w.alloc (.cells #[.int .i64 0] 3)).heap.size = w.heap.size + 1 := by simp
  have hc : ∀ i, ((w.alloc (.cells #[.int .i64 0] 3)).alloc (.cells (factC w.heap.size) 28)).cell? ⟨w.heap.size + 1, i, none⟩ = (factC w.heap.size)[i]? := fun i => by
    rw [← e, World.cell?_alloc_new]
  refine .inr ⟨_, 0, rfl, fun i hi => ?_⟩
  match i, hi with
  | 0, _ => exact ⟨by rw [hc]; rfl, ⟨none, 0, by rw [hc]; rfl, .inl rfl⟩, by rw [hc]; rfl, by rw [hc]; rfl, by simp [factL], by simp [factL]⟩
  | 1, _ =>
    refine ⟨by rw [hc]; rfl, ⟨some ⟨w.heap.size, 0, none⟩, 1, by rw [hc]; rfl, .inr ⟨_, 0, rfl, fun j hj => ?_⟩⟩, by rw [hc]; rfl, by rw [hc]; rfl, by simp [factL], by simp [factL]⟩
    have : j = 0 := by simp [factL] at hj; omega
    subst this
    rw [World.cell?_alloc_lt _ _ _ (by simp), World.cell?_alloc_new]; rfl

theorem fact_call {w : World} (hg : Gl w) : Calls Tryd.prog 4 #[.slice (some ⟨w.heap.size + 1, 0, none⟩) 2 2] ((w.alloc (.cells #[.int .i64 0] 3)).alloc (.cells (factC w.heap.size) 28)) fun e w' => e = .returned .nilIface ∧ Below w.heap.size w w' := by
  have b : Below w.heap.size w ((w.alloc (.cells #[.int .i64 0] 3)).alloc (.cells (factC w.heap.size) 28)) := ((Below.refl _ _).alloc (Nat.le_refl _) _).alloc (by simp) _
  have := job_any (c := 2) (hg.below b) (fact_nodes w) (by simp [factL])
  rw [fact_zero, errV_zero] at this
  exact this.mono fun e w' ⟨he, hb⟩ => ⟨he, below_two b hb⟩
theorem none_call {w : World} (hg : Gl w) : Calls Tryd.prog 4 #[.slice none 0 0] w fun e w' => e = .returned (.iface 36 (.int .i64 6)) ∧ Below w.heap.size w w' := by
  have := job_any (c := 0) hg (la := none) (L := []) (.inl rfl) (by simp)
  rw [none_six, errV_pos (by decide)] at this
  exact this

set_option maxRecDepth 100000 in
set_option maxHeartbeats 4000000 in
theorem walk_bad {la : Option Addr} {L : List Nd} {c : Nat} (at_ : Int) (w : World) (hg : Gl w) (hL : NdsAt w la L) (hc : L.length ≤ c) (h0 : jobP L ≠ 0) :
    Calls Tryd.prog 3 #[.slice la L.length c, .int .i64 at_] w fun e w' => e = .returned (.bool true) ∧ Below w.heap.size w w' := by
  have cL : ∀ w1, Below w.heap.size w w1 → Calls Tryd.prog 4 #[.slice la L.length c] w1 fun e w' => e = .returned (.iface 36 (.int .i64 (jobP L : Nat))) ∧ Below w1.heap.size w1 w' := by
    intro w1 hb
    have := job_any (hg.below hb) (hL.keep (Keeps.of hb)) hc
    rw [errV_pos h0] at this
    exact this
  have HC := Lib.hid cL
  clear cL hL h0
  generalize jobP L = ex at *
  go_enter Tryd.func3, Tryd.ntmps3
  go_wp2_with (go_at_call 4; refine (fact_call hg).mono ?_; rintro e w1 ⟨rfl, b1⟩; have g1 := hg.below b1; refine Hid.out ?_)
  refine Lib.hid ?_
  go_wp2_with (go_at_call 4; refine (none_call g1).mono ?_; rintro e w2 ⟨rfl, b2⟩; have B2 := below_two b1 b2; refine Hid.out ?_)
  refine Lib.hid ?_
  go_wp2_with (go_at_call 4; refine (HC.out _ B2).mono ?_; rintro e w3 ⟨rfl, b3⟩; have B3 := below_two B2 b3; refine Hid.out ?_)
  refine Lib.hid ?_
  go_wp2_with fail
  go_ret
  exact ⟨rfl, B3⟩

set_option maxRecDepth 100000 in
set_option maxHeartbeats 4000000 in
theorem walk_full {la : Option Addr} {L : List Nd} {c : Nat} (at_ : Int) (w : World) (hg : Gl w) (hL : NdsAt w la L) (hc : L.length ≤ c) (h0 : jobP L = 0) (h1 : 11 < L.length) :
    Calls Tryd.prog 3 #[.slice la L.length c, .int .i64 at_] w fun e w' => e = .returned (.bool true) ∧ Below w.heap.size w w' := by
  have hl := (job_ok h0).1
  have cL : ∀ w1, Below w.heap.size w w1 → Calls Tryd.prog 4 #[.slice la L.length c] w1 fun e w' => e = .returned .nilIface ∧ Below w1.heap.size w1 w' := by
    intro w1 hb
    have := job_any (hg.below hb) (hL.keep (Keeps.of hb)) hc
    rw [h0, errV_zero] at this
    exact this
  have HC := Lib.hid cL
  clear cL hL h0
  have hi : (11 : Int) < L.length := by omega
  go_enter Tryd.func3, Tryd.ntmps3
  go_wp2_with (go_at_call 4; refine (fact_call hg).mono ?_; rintro e w1 ⟨rfl, b1⟩; have g1 := hg.below b1; refine Hid.out ?_)
  refine Lib.hid ?_
  go_wp2_with (go_at_call 4; refine (none_call g1).mono ?_; rintro e w2 ⟨rfl, b2⟩; have B2 := below_two b1 b2; refine Hid.out ?_)
  refine Lib.hid ?_
  go_wp2_with (go_at_call 4; refine (HC.out _ B2).mono ?_; rintro e w3 ⟨rfl, b3⟩; have B3 := below_two B2 b3;  refine Hid.out ?_)
  refine Lib.hid ?_
  go_wp2_with fail
  go_ret
  exact ⟨rfl, B3⟩

set_option maxRecDepth 100000 in
set_option maxHeartbeats 4000000 in
theorem walk_neg {la : Option Addr} {L : List Nd} {c : Nat} (at_ : Int) (w : World) (hg : Gl w) (hL : NdsAt w la L) (hc : L.length ≤ c) (h0 : jobP L = 0) (h1 : ¬ 11 < L.length) (h2 : at_ < 0) :
    Calls Tryd.prog 3 #[.slice la L.length c, .int .i64 at_] w fun e w' => e = .returned (.bool true) ∧ Below w.heap.size w w' := by
  have hl := (job_ok h0).1
  have cL : ∀ w1, Below w.heap.size w w1 → Calls Tryd.prog 4 #[.slice la L.length c] w1 fun e w' => e = .returned .nilIface ∧ Below w1.heap.size w1 w' := by
    intro w1 hb
    have := job_any (hg.below hb) (hL.keep (Keeps.of hb)) hc
    rw [h0, errV_zero] at this
    exact this
  have HC := Lib.hid cL
  clear cL hL h0
  have hi : ¬ (11 : Int) < L.length := by omega
  go_enter Tryd.func3, Tryd.ntmps3
  go_wp2_with (go_at_call 4; refine (fact_call hg).mono ?_; rintro e w1 ⟨rfl, b1⟩; have g1 := hg.below b1; refine Hid.out ?_)
  refine Lib.hid ?_
  go_wp2_with (go_at_call 4; refine (none_call g1).mono ?_; rintro e w2 ⟨rfl, b2⟩; have B2 := below_two b1 b2; refine Hid.out ?_)
  refine Lib.hid ?_
  go_wp2_with (go_at_call 4; refine (HC.out _ B2).mono ?_; rintro e w3 ⟨rfl, b3⟩; have B3 := below_two B2 b3;  refine Hid.out ?_)
  refine Lib.hid ?_
  go_wp2_with fail
  go_ret
  exact ⟨rfl, B3⟩

set_option maxRecDepth 100000 in
set_option maxHeartbeats 4000000 in
theorem walk_past {la : Option Addr} {L : List Nd} {c : Nat} (at_ : Int) (w : World) (hg : Gl w) (hL : NdsAt w la L) (hc : L.length ≤ c) (h0 : jobP L = 0) (h1 : ¬ 11 < L.length) (h2 : (L.length : Int) ≤ at_) :
    Calls Tryd.prog 3 #[.slice la L.length c, .int .i64 at_] w fun e w' => e = .returned (.bool true) ∧ Below w.heap.size w w' := by
  have hl := (job_ok h0).1
  have cL : ∀ w1, Below w.heap.size w w1 → Calls Tryd.prog 4 #[.slice la L.length c] w1 fun e w' => e = .returned .nilIface ∧ Below w1.heap.size w1 w' := by
    intro w1 hb
    have := job_any (hg.below hb) (hL.keep (Keeps.of hb)) hc
    rw [h0, errV_zero] at this
    exact this
  have HC := Lib.hid cL
  clear cL hL h0
  have hi : ¬ (11 : Int) < L.length := by omega
  have hn : ¬ at_ < 0 := by omega
  go_enter Tryd.func3, Tryd.ntmps3
  go_wp2_with (go_at_call 4; refine (fact_call hg).mono ?_; rintro e w1 ⟨rfl, b1⟩; have g1 := hg.below b1; refine Hid.out ?_)
  refine Lib.hid ?_
  go_wp2_with (go_at_call 4; refine (none_call g1).mono ?_; rintro e w2 ⟨rfl, b2⟩; have B2 := below_two b1 b2; refine Hid.out ?_)
  refine Lib.hid ?_
  go_wp2_with (go_at_call 4; refine (HC.out _ B2).mono ?_; rintro e w3 ⟨rfl, b3⟩; have B3 := below_two B2 b3;  refine Hid.out ?_)
  refine Lib.hid ?_
  go_wp2_with fail
  go_ret
  exact ⟨rfl, B3⟩

set_option maxRecDepth 100000 in
set_option maxHeartbeats 4000000 in
theorem walk_sink {la : Option Addr} {L : List Nd} {c : Nat} (at_ : Int) (w : World) (hg : Gl w) (hL : NdsAt w la L) (hc : L.length ≤ c) (h0 : jobP L = 0) (h1 : ¬ 11 < L.length) (i : Nat) (hat : at_ = i) (h2 : i < L.length) (h3 : L[i].k = 10) :
    Calls Tryd.prog 3 #[.slice la L.length c, .int .i64 at_] w fun e w' => e = .returned (.bool true) ∧ Below w.heap.size w w' := by
  have hl := (job_ok h0).1
  have cL : ∀ w1, Below w.heap.size w w1 → Calls Tryd.prog 4 #[.slice la L.length c] w1 fun e w' => e = .returned .nilIface ∧ Below w1.heap.size w1 w' := by
    intro w1 hb
    have := job_any (hg.below hb) (hL.keep (Keeps.of hb)) hc
    rw [h0, errV_zero] at this
    exact this
  have HC := Lib.hid cL
  clear cL h0
  subst hat
  have hi : ¬ (11 : Int) < L.length := by omega
  have hn : ¬ (i : Int) < 0 := by omega
  have hm : ¬ (L.length : Int) ≤ i := by omega
  rcases hL with hL | ⟨b, o, rfl, hL⟩
  · subst hL; simp at h2
  obtain ⟨c0, -⟩ := hL i h2
  rw [h3] at c0
  clear hL
  go_enter Tryd.func3, Tryd.ntmps3
  go_wp2_with (go_at_call 4; refine (fact_call hg).mono ?_; rintro e w1 ⟨rfl, b1⟩; have g1 := hg.below b1; refine Hid.out ?_)
  refine Lib.hid ?_
  go_wp2_with (go_at_call 4; refine (none_call g1).mono ?_; rintro e w2 ⟨rfl, b2⟩; have B2 := below_two b1 b2; refine Hid.out ?_)
  refine Lib.hid ?_
  go_wp2_with (go_at_call 4; refine (HC.out _ B2).mono ?_; rintro e w3 ⟨rfl, b3⟩; have B3 := below_two B2 b3; have c3 := Keeps.of B3 _ _ c0; refine Hid.out ?_)
  refine Lib.hid ?_
  go_wp2_with fail
  go_ret
  exact ⟨rfl, B3⟩
end jobGrows
end Go.Proofs.YtjodmgepglmceacDoor
