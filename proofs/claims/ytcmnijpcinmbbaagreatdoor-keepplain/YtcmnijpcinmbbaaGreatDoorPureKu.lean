/- How many steps a save or a cleaning takes; what an event leaves, plain. -/
import Derived.Test.YtcmnijpcinmbbaaGreatDoorPureKt
namespace Go.Proofs.YtcmnijpcinmbbaaGreatDoor
set_option linter.unusedVariables false
theorem Sm.save {m : Nat} {d : Ds} (h : Sm m d) (P : Pc) (id : Int) (x : List UInt8) : Sm (m + 2) (saveR d P id x).2 := by
  unfold saveR
  split
  · exact h.up (by omega)
  · split
    · exact h.up (by omega)
    · split
      · exact (h.wr _ _).up (by omega)
      · exact (h.wr _ _).sy
theorem Sm.remAll : ∀ (l : List Int) {m : Nat} {d : Ds}, Sm m d → Sm (m + l.length) (remAll d l).2
  | [], m, d, h => h
  | i :: l, m, d, h => by
    show Sm _ (if (rmD d (nmK i)).1 ≠ 0 then rmD d (nmK i) else Go.Proofs.YtcmnijpcinmbbaaGreatDoor.remAll (rmD d (nmK i)).2 l).2
    split
    · exact (h.rm _).up (by simp)
    · exact (Sm.remAll l (h.rm _)).up (by simp; omega)
theorem Sm.clean {m : Nat} {d : Ds} (h : Sm m d) (l : List Int) (many : Int) : Sm (m + l.length + 1) (cleanR d l many).2 := by
  unfold cleanR
  have h1 := Sm.remAll (l.take (l.length - many.toNat)) h
  have h2 := List.length_take_le (l.length - many.toNat) l
  have h3 : (l.take (l.length - many.toNat)).length ≤ l.length := by rw [List.length_take]; omega
  split
  · exact h.up (by omega)
  · split
    · exact h1.up (by omega)
    · exact h1.sy.up (by omega)
/-- What an event leaves: a crash, whatever it keeps, leaves it so; and so without one, where nothing stopped it. -/
structure Evt (d2 : Ds) (free : Prop) (safe : Int) (given : Int) : Prop where
  cr : ∀ keep, ∃ P l, KpD (crD d2 keep) P ∧ Jk P l safe given
  fr : free → ∃ P l, KpD d2 P ∧ d2.U = [] ∧ d2.bd < 0 ∧ Jk P l safe given
theorem evt_save {d : Ds} {P : Pc} {l : List Int} {safe given : Int} (h : KpD d P) (hU : d.U = []) (hJ : Jk P l safe given) (hg : given + 1 ≤ 1000000000) (hg0 : 0 ≤ given) :
    Evt (saveR d P (given + 1) (txP (given + 1))).2 (d.bd < 0) (if (saveR d P (given + 1) (txP (given + 1))).1 = 0 then given + 1 else safe) (given + 1) := by
  have hid : IdOk (given + 1) := ⟨by omega, hg⟩
  have hlen : (txP (given + 1)).length ≤ 50000 := by have := txP_len (id := given + 1) (by omega) hg; omega
  refine ⟨fun keep => ?_, fun hf => ?_⟩
  · obtain ⟨P', h1, h2⟩ := save_crash h hU hid hJ.fresh hlen keep
    rcases h2 with ⟨e, rfl⟩ | ⟨e, rfl | rfl⟩
    · rw [if_pos e]; exact ⟨_, _, h1, hJ.put _ (.inr rfl)⟩
    · rw [if_neg e]; exact ⟨_, _, h1, hJ.miss⟩
    · rw [if_neg e]; exact ⟨_, _, h1, hJ.put _ (.inl rfl)⟩
  · obtain ⟨d2, s2, k2, u2, b2, -⟩ := save_free h hf hid hJ.fresh hlen
    rw [s2, if_pos rfl]
    exact ⟨_, _, k2, u2, by rw [b2]; exact hf, hJ.put _ (.inr rfl)⟩
theorem evt_clean {d : Ds} {P : Pc} {l : List Int} {safe given : Int} (h : KpD d P) (hU : d.U = []) (hJ : Jk P l safe given) {many : Int} (hm : 1 ≤ many) : Evt (cleanR d l many).2 (d.bd < 0) safe given := by
  refine ⟨fun keep => ?_, fun hf => ?_⟩
  · obtain ⟨K, hK, hk⟩ := clean_crash h hU hJ.ids hm keep
    exact ⟨_, _, hk, hJ.less hm hK⟩
  · obtain ⟨d2, s2, k2, u2, b2, -⟩ := clean_free h hf hJ.ids hm
    rw [s2]
    exact ⟨_, _, k2, u2, by rw [b2]; exact hf, hJ.less hm (Nat.le_refl _)⟩
end Go.Proofs.YtcmnijpcinmbbaaGreatDoor
