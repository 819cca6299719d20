/- An error of a text is never 0. -/
import Derived.Test.YtppkjiihmlphbaaGreatDoorPureE
namespace Go.Proofs.YtppkjiihmlphbaaGreatDoor

def Bd (f : List UInt8 → Res) : Prop := ∀ u p e, f u = .bad p e → e ≠ 0
def Bd2 (f : Nat → List UInt8 → Res) : Prop := ∀ pl u p e, f pl u = .bad p e → e ≠ 0

theorem bd_num : Bd numF := by
  intro u p e h
  unfold numF at h
  split at h
  · cases h
  · injection h with _ h2; omega

theorem bd_pair {inC : Nat → List UInt8 → Res} (hC : Bd2 inC) (op : UInt8) : Bd2 (pairF inC op) := by
  intro pl u p e h
  unfold pairF at h
  split at h
  · rename_i hh; injection h with h1 h2; subst h2; exact hC _ _ _ _ hh
  · split at h
    · split at h
      · rename_i hh; injection h with h1 h2; subst h2; exact hC _ _ _ _ hh
      · split at h
        · cases h
        · injection h with _ h2; omega
    · injection h with _ h2; omega
theorem bd_brk {inC : Nat → List UInt8 → Res} (hC : Bd2 inC) : Bd2 (brkF inC) := by
  intro pl u p e h
  unfold brkF at h
  split at h
  · rename_i hh; injection h with h1 h2; subst h2; exact hC _ _ _ _ hh
  · split at h
    · cases h
    · injection h with _ h2; omega
theorem bd_single {inC : Nat → List UInt8 → Res} (hC : Bd2 inC) : Bd (singleF inC) := by
  intro u p e h
  unfold singleF at h
  split at h
  · cases h
  · split at h
    · cases h
    · split at h
      · exact bd_brk hC _ _ _ _ h
      · split at h
        · exact bd_pair hC _ _ _ _ _ h
        · split at h
          · exact bd_pair hC _ _ _ _ _ h
          · exact bd_num _ _ _ h
theorem bd_sign {inC inS : Nat → List UInt8 → Res} (hC : Bd2 inC) (hS : Bd2 inS) : Bd (signF inC inS) := by
  intro u p e h
  unfold signF at h
  split at h
  · unfold negF at h
    split at h
    · rename_i hh; injection h with h1 h2; subst h2; exact hS _ _ _ _ hh
    · cases h
  · exact bd_single hC _ _ _ h
theorem bd_loop {ops : List UInt8} {part : List UInt8 → Res} (hp : Bd part) : ∀ (f : Nat) (t : Tm) (v : List UInt8) (p e : Nat), loopF ops part f t v = .bad p e → e ≠ 0 := by
  intro f
  induction f with
  | zero =>
    intro t v p e h
    unfold loopF at h
    split at h
    · cases h
    · cases h
  | succ f ih =>
    intro t v p e h
    unfold loopF at h
    split at h
    · cases h
    · simp only at h
      split at h
      · rename_i hh; injection h with h1 h2; subst h2; exact hp _ _ _ hh
      · exact ih _ _ _ _ h
theorem bd_row {ops : List UInt8} {part : List UInt8 → Res} (hp : Bd part) : Bd (rowF ops part) := by
  intro u p e h
  unfold rowF at h
  split at h
  · rename_i hh; injection h with h1 h2; subst h2; exact hp _ _ _ hh
  · exact bd_loop hp _ _ _ _ _ h
theorem bd_cmp {sum : List UInt8 → Res} (hs : Bd sum) : Bd (cmpF sum) := by
  intro u p e h
  unfold cmpF at h
  split at h
  · rename_i hh; injection h with h1 h2; subst h2; exact hs _ _ _ hh
  · split at h
    · cases h
    · split at h
      · rename_i hh; injection h with h1 h2; subst h2; exact hs _ _ _ hh
      · cases h
theorem bd_cho {inC : Nat → List UInt8 → Res} {cmp : List UInt8 → Res} (hC : Bd2 inC) (hc : Bd cmp) : Bd (choF inC cmp) := by
  intro u p e h
  unfold choF at h
  split at h
  · rename_i hh; injection h with h1 h2; subst h2; exact hc _ _ _ hh
  · split at h
    · split at h
      · rename_i hh; injection h with h1 h2; subst h2; exact hC _ _ _ _ hh
      · split at h
        · split at h
          · rename_i hh; injection h with h1 h2; subst h2; exact hC _ _ _ _ hh
          · cases h
        · injection h with _ h2; omega
    · cases h
theorem bd_lev : ∀ d, Bd2 (inCh d) ∧ Bd2 (inSg d) := by
  intro d
  induction d with
  | zero => exact ⟨fun pl u p e h => by rw [inCh_zero] at h; injection h with _ h2; omega, fun pl u p e h => by rw [inSg_zero] at h; injection h with _ h2; omega⟩
  | succ d ih =>
    have hs : Bd (sgP d) := fun u p e h => by rw [sgP_eq] at h; exact bd_sign ih.1 ih.2 _ _ _ h
    refine ⟨fun pl u p e h => ?_, fun pl u p e h => ?_⟩
    · rw [inCh_succ, chP_eq] at h
      exact bd_cho ih.1 (bd_cmp (bd_row (bd_row hs))) _ _ _ h
    · rw [inSg_succ] at h; exact hs _ _ _ h
theorem read_bad_pos {l : List UInt8} {p e : Nat} (h : readP l = .bad p e) : e ≠ 0 := by
  unfold readP at h
  split at h
  · injection h with _ h2; omega
  · unfold wholeP at h
    split at h
    · rename_i hh; injection h with h1 h2; subst h2
      exact (bd_lev 21).1 0 _ _ _ (by rw [inCh_succ]; exact hh)
    · split at h
      · cases h
      · injection h with _ h2; omega
end Go.Proofs.YtppkjiihmlphbaaGreatDoor
