/- A store of keys: what is put is there. Plain mathematics. -/
import Derived.Test.YtckjcjoheeobgaaGreatDoorPureLa
namespace Go.Proofs.YtckjcjoheeobgaaGreatDoor
theorem put_get {s : Sto} (ok : SOk s) {e : En} (he : setErr s e = 0) (hd : e.dead = false) : getE (putS s e) (kl e) = 0 ∧ getV (putS s e) (kl e) = e.val := by
  unfold putS
  rw [if_pos he]
  unfold getE getV
  rw [set_all, setE_at ok.ris, if_pos rfl]
  simp [hd]
theorem new_err (n : Nat) {e : En} (hb : badEn e = false) : setErr (newS n) e = 0 := by
  unfold setErr newS
  rw [if_neg (by rw [hb]; decide), if_neg (by rintro ⟨-, h⟩; simp at h)]
theorem open_same {s : Sto} (h : SOk s) (c : Cov s) (hf : s.fr = []) (lim : Nat) : scanS (openS lim s.tabs) [] [] = livE s.all := by
  rw [scan_all]
  show livE (openA s.tabs) = _
  rw [openA_eq h c hf]
theorem comp_all (s : Sto) : livE (compS s).all = livE s.all := by
  show livE (livE s.all) = livE s.all
  unfold livE
  rw [List.filter_filter]
  simp
end Go.Proofs.YtckjcjoheeobgaaGreatDoor
