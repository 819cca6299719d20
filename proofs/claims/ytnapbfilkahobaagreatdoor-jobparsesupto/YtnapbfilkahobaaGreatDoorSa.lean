/- The document's reader: its small steps. -/
import Derived.Test.YtnapbfilkahobaaGreatDoorRa
namespace Go.Proofs.YtnapbfilkahobaaGreatDoor
open Go.RowKit

/-- The document's reader: its text, how far it is, within how many levels, where it is wrong, and how (0: it is not). -/
def Rp (w : World) (pb : Nat) (s : ByteArray) (k dp wr bd : Nat) : Prop := w.heap[pb]? = some (.cells #[.string s, .int .i64 k, .int .i64 dp, .int .i64 wr, .int .i64 bd] 70)

section
variable {w : World} {pb k dp wr bd : Nat} {s : ByteArray}
theorem Rp.lt (h : Rp w pb s k dp wr bd) : pb < w.heap.size := some_lt h
theorem Rp.c0 (h : Rp w pb s k dp wr bd) : w.cell? ⟨pb, 0, none⟩ = some (.string s) := by unfold Rp at h; simp [World.cell?, h]
theorem Rp.c1 (h : Rp w pb s k dp wr bd) : w.cell? ⟨pb, 1, none⟩ = some (.int .i64 k) := by unfold Rp at h; simp [World.cell?, h]
theorem Rp.c2 (h : Rp w pb s k dp wr bd) : w.cell? ⟨pb, 2, none⟩ = some (.int .i64 dp) := by unfold Rp at h; simp [World.cell?, h]
theorem Rp.c3 (h : Rp w pb s k dp wr bd) : w.cell? ⟨pb, 3, none⟩ = some (.int .i64 wr) := by unfold Rp at h; simp [World.cell?, h]
theorem Rp.c4 (h : Rp w pb s k dp wr bd) : w.cell? ⟨pb, 4, none⟩ = some (.int .i64 bd) := by unfold Rp at h; simp [World.cell?, h]
theorem Rp.fz (h : Rp w pb s k dp wr bd) (o : Nat) : w.frozen? ⟨pb, o, none⟩ = false := by unfold Rp at h; simp [World.frozen?, h]
theorem Rp.set1 (h : Rp w pb s k dp wr bd) (j : Nat) : Rp (w.setCell ⟨pb, 1, none⟩ (.int .i64 j)) pb s j dp wr bd := by unfold Rp at h ⊢; simp [World.setCell, Array.getElem?_modify, h]
theorem Rp.set2 (h : Rp w pb s k dp wr bd) (j : Nat) : Rp (w.setCell ⟨pb, 2, none⟩ (.int .i64 j)) pb s k j wr bd := by unfold Rp at h ⊢; simp [World.setCell, Array.getElem?_modify, h]
theorem Rp.set3 (h : Rp w pb s k dp wr bd) (j : Nat) : Rp (w.setCell ⟨pb, 3, none⟩ (.int .i64 j)) pb s k dp j bd := by unfold Rp at h ⊢; simp [World.setCell, Array.getElem?_modify, h]
theorem Rp.set4 (h : Rp w pb s k dp wr bd) (j : Nat) : Rp (w.setCell ⟨pb, 4, none⟩ (.int .i64 j)) pb s k dp wr j := by unfold Rp at h ⊢; simp [World.setCell, Array.getElem?_modify, h]
theorem Rp.drewN (h : Rp w pb s k dp wr bd) (n : Nat) : Rp (w.drewN n) pb s k dp wr bd := h
theorem Rp.fr {xs : List Nat} {w' : World} (h : Rp w pb s k dp wr bd) (f : Fr xs w w') (hx : pb ∉ xs) : Rp w' pb s k dp wr bd := by
  have := h.lt; unfold Rp at h ⊢; rw [f.block _ this hx]; exact h

theorem rfail_any (h : Rp w pb s k dp wr 0) (at_ e : Nat) :
    Calls Tryz.prog 30 #[.pointer (some ⟨pb, 0, none⟩), .int .i64 at_, .int .i64 e] w fun e' w' => e' = .returned (.tuple #[]) ∧ Rp w' pb s k dp at_ e ∧ Fr [pb] w w' := by
  have h3 := h.c3
  have h4 := h.c4
  have f3 := h.fz 3
  have f4 := h.fz 4
  go_enter Tryz.func30, Tryz.ntmps30
  go_wp2_with fail
  go_end0
  exact ⟨rfl, (h.set4 e).set3 at_, ((Fr.refl _ _).setCell (.inl (by simp)) _).setCell (.inl (by simp)) _⟩

def pk : List UInt8 → Nat
  | [] => 0
  | c :: _ => c.toNat

theorem rpeek_end (h : Rp w pb s k dp wr bd) (hk : k = s.size) :
    Calls Tryz.prog 64 #[.pointer (some ⟨pb, 0, none⟩)] w fun e w' => e = .returned (.int .i64 0) ∧ Rp w' pb s k dp wr bd ∧ Fr [pb] w w' := by
  have h0 := h.c0
  have h1 := h.c1
  have hk' : ¬ (k : Int) < s.size := by omega
  go_enter Tryz.func64, Tryz.ntmps64
  go_wp2_with fail
  go_quiet (fail)
  go_wp2_with fail
  go_ret
  exact ⟨rfl, h, (Fr.refl _ _).drewN nq⟩

theorem rpeek_at (h : Rp w pb s k dp wr bd) (hk : k < s.size) :
    Calls Tryz.prog 64 #[.pointer (some ⟨pb, 0, none⟩)] w fun e w' => e = .returned (.int .i64 s[k].toNat) ∧ Rp w' pb s k dp wr bd ∧ Fr [pb] w w' := by
  have h0 := h.c0
  have h1 := h.c1
  have hk' : (k : Int) < s.size := by omega
  have hb : (s[k].toNat : Int) < 256 := by have := s[k].toNat_lt; omega
  go_enter Tryz.func64, Tryz.ntmps64
  go_wp2_with fail
  go_quiet (fail)
  go_wp2_with fail
  go_quiet (fail)
  go_wp2_with fail
  go_ret
  exact ⟨rfl, h, ((Fr.refl _ _).drewN _).drewN _⟩

theorem rpeek_any (h : Rp w pb s k dp wr bd) (hk : k ≤ s.size) :
    Calls Tryz.prog 64 #[.pointer (some ⟨pb, 0, none⟩)] w fun e w' => e = .returned (.int .i64 (pk (s.data.toList.drop k))) ∧ Rp w' pb s k dp wr bd ∧ Fr [pb] w w' := by
  by_cases hk' : k = s.size
  · have e : pk (s.data.toList.drop k) = 0 := by
      have : s.data.toList.drop k = [] := by rw [List.drop_eq_nil_iff]; simp; omega
      rw [this]; rfl
    rw [e]; exact rpeek_end h hk'
  · have hlt : k < s.size := by omega
    have e : pk (s.data.toList.drop k) = s[k].toNat := by
      rw [List.drop_eq_getElem_cons (by simpa using hlt)]; rfl
    rw [e]; exact rpeek_at h hlt

theorem rdown_yes (h : Rp w pb s k dp wr bd) (hd : dp < 20) (at_ : Nat) :
    Calls Tryz.prog 65 #[.pointer (some ⟨pb, 0, none⟩), .int .i64 at_] w fun e w' => e = .returned (.bool true) ∧ Rp w' pb s k (dp + 1) wr bd ∧ Fr [pb] w w' := by
  have h2 := h.c2
  have f2 := h.fz 2
  have hq : ¬ (dp : Int) = 20 := by omega
  go_enter Tryz.func65, Tryz.ntmps65
  go_wp2_with fail
  go_ret
  exact ⟨rfl, h.set2 (dp + 1), (Fr.refl _ _).setCell (.inl (by simp)) _⟩
theorem rdown_no (h : Rp w pb s k 20 wr 0) (at_ : Nat) :
    Calls Tryz.prog 65 #[.pointer (some ⟨pb, 0, none⟩), .int .i64 at_] w fun e w' => e = .returned (.bool false) ∧ Rp w' pb s k 20 at_ 4 ∧ Fr [pb] w w' := by
  have h2 := h.c2
  go_enter Tryz.func65, Tryz.ntmps65
  go_wp2_with (go_at_call 30; refine (rfail_any h at_ 4).mono ?_; rintro e w' ⟨rfl, hr, hf⟩)
  go_ret
  exact ⟨rfl, hr, hf⟩

/- a text that comes next -/
set_option maxHeartbeats 2000000 in
theorem ris_long {p : ByteArray} (h : Rp w pb s k dp wr bd) (hk : k ≤ s.size) (hs : s.size ≤ 120) (hp : p.size ≤ 4) (hl : s.size < k + p.size) :
    Calls Tryz.prog 105 #[.pointer (some ⟨pb, 0, none⟩), .string p] w fun e w' => e = .returned (.bool false) ∧ Rp w' pb s k dp wr bd ∧ Fr [pb] w w' := by
  have h0 := h.c0
  have h1 := h.c1
  have hq : decide ((k : Int) + (p.size : Int) ≤ (s.size : Int)) = false := by simp; omega
  go_enter Tryz.func105, Tryz.ntmps105
  go_wp2_with fail
  go_quiet (fail)
  go_wp2_with fail
  go_ret
  exact ⟨rfl, h, (Fr.refl _ _).drewN _⟩
end
end Go.Proofs.YtnapbfilkahobaaGreatDoor
