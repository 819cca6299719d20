/- The document's reader: a '-' ahead, a level deeper. -/
import Derived.Test.YtnapbfilkahobaaGreatDoorSe
import Derived.Test.YtnapbfilkahobaaGreatDoorRd
namespace Go.Proofs.YtnapbfilkahobaaGreatDoor
open Go.RowKit

theorem pre_iff {c : UInt8} {u : List UInt8} (h : u.head? = some c) : [c] <+: u := by
  cases u with
  | nil => simp at h
  | cons a r => simp at h; subst h; exact ⟨r, rfl⟩
theorem len_drop {s : ByteArray} {k : Nat} (hk : k ≤ s.size) : s.size - (s.data.toList.drop k).length = k := by
  have e : s.data.toList.length = s.size := by simp
  rw [List.length_drop, e]; omega
theorem head_le {s : ByteArray} {k : Nat} {c : UInt8} (h : (s.data.toList.drop k).head? = some c) : k + 1 ≤ s.size := by
  have e : s.data.toList.length = s.size := by simp
  rcases Nat.lt_or_ge k s.size with h' | h'
  · omega
  · rw [List.drop_eq_nil_of_le (by omega)] at h; simp at h

set_option maxHeartbeats 4000000 in
theorem less_full {w : World} {pb k : Nat} {s : ByteArray} (h : Rp w pb s k 20 0 0) (hs : s.size ≤ 120) (hm : (s.data.toList.drop k).head? = some 45) :
    Calls Tryz.prog 139 #[.pointer (some ⟨pb, 0, none⟩)] w (OutT pb s 20 w (sgP 0 (s.data.toList.drop k))) := by
  have hk := head_le hm
  have e : sgP 0 (s.data.toList.drop k) = .bad (s.data.toList.drop k).length 4 := by rw [sgP_eq, signF, if_pos hm, negF, inSg_zero]
  rw [e]
  have hpre : (⟨#[45]⟩ : ByteArray).data.toList <+: s.data.toList.drop k := pre_iff hm
  have hA : Rp (w.alloc (.cells tz 24)) pb s k 20 0 0 := h.fr (xs := []) ((Fr.refl _ _).alloc _) (by simp)
  have hR : RC (w.alloc (.cells tz 24)) w.heap.size (.int .i64 0) (.int .i64 0) (.slice none 0 0) := RC.new w
  have hpl := h.lt
  have c1 := h.c1
  have HL := Lib.hid (len_drop (s := s) (k := k) (by omega))
  generalize (s.data.toList.drop k).length = ln at *
  clear e
  go_enter Tryz.func139, Tryz.ntmps139
  go_wp2_with (go_at_call 105; refine (ris_take hA hs hpre (by decide)).mono ?_; rintro e w1 ⟨rfl, hr1, hf1⟩; refine Hid.out ?_)
  refine Lib.hid ?_
  have hR1 := hR.fr hf1 (by simp; omega)
  go_wp2_with (go_at_call 65; refine (rdown_no hr1 k).mono ?_; rintro e w2 ⟨rfl, hr2, hf2⟩; have hR2 := hR1.fr hf2 (by simp; omega); have z0 := hR2.c0; have z1 := hR2.c1; have z2 := hR2.c2; have y0 := hR2.fz 0; have y1 := hR2.fz 1; have y2 := hR2.fz 2)
  have F2 := (Fr.al (xs := [pb]) w (.cells tz 24)).trans (hf1.trans hf2)
  refine retT lessRes rfl (hR2.set3 _ _ _) ?_
  have f3 := Fr.set3 w2 w.heap.size (.int .i64 0) (.int .i64 0) (.slice none 0 0)
  exact ⟨0, 0, none, 0, 0, k + 1, 20, rfl, by rw [HL.out]; exact hr2.fr f3 (by simp; omega), by decide, by omega, by omega, hk, F2.over' f3 (by simp)⟩

set_option maxHeartbeats 8000000 in
theorem less_neg {d : Nat} (ih : LessOK d) {w : World} {pb k dp : Nat} {s : ByteArray} (h : Rp w pb s k dp 0 0) (hs : s.size ≤ 120) (hd : dp + (d + 1) = 20) (hm : (s.data.toList.drop k).head? = some 45) :
    Calls Tryz.prog 139 #[.pointer (some ⟨pb, 0, none⟩)] w (OutT pb s dp w (sgP (d + 1) (s.data.toList.drop k))) := by
  have hk := head_le hm
  have hpre : (⟨#[45]⟩ : ByteArray).data.toList <+: s.data.toList.drop k := pre_iff hm
  have e : sgP (d + 1) (s.data.toList.drop k) = match sgP d (s.data.toList.drop (k + 1)) with | .bad p e => .bad p e | .ok t v => .ok (.neg t) v := by
    rw [sgP_eq, signF, if_pos hm, negF, inSg_succ, List.drop_drop]; rfl
  rw [e]
  have hA : Rp (w.alloc (.cells tz 24)) pb s k dp 0 0 := h.fr (xs := []) ((Fr.refl _ _).alloc _) (by simp)
  have hR : RC (w.alloc (.cells tz 24)) w.heap.size (.int .i64 0) (.int .i64 0) (.slice none 0 0) := RC.new w
  have hpl := h.lt
  have c1 := h.c1
  generalize hres : sgP d (s.data.toList.drop (k + 1)) = res at *
  have HR := Lib.hid hres
  clear hres e
  cases res with
  | ok t u =>
    simp only
    go_enter Tryz.func139, Tryz.ntmps139
    go_wp2_with (go_at_call 105; refine (ris_take hA hs hpre (by decide)).mono ?_; rintro e w1 ⟨rfl, hr1, hf1⟩; refine Hid.out ?_)
    refine Lib.hid ?_
    have hR1 := hR.fr hf1 (by simp; omega)
    go_wp2_with (go_at_call 65; refine (rdown_yes hr1 (by omega) k).mono ?_; rintro e w2 ⟨rfl, hr2, hf2⟩; refine Hid.out ?_)
    refine Lib.hid ?_
    have hR2 := hR1.fr hf2 (by simp; omega)
    have co := ih w2 pb (k + 1) (dp + 1) s hr2 hk hs (by omega)
    rw [HR.out] at co
    go_wp2_with (go_at_call 139; refine co.mono ?_; rintro e w3 ⟨a, b, A, n, c, k3, rfl, ht, hr3, hk3, rfl, hf3⟩; have hR3 := hR2.fr hf3 (by simp; omega); have z0 := hR3.c0; have z1 := hR3.c1; have z2 := hR3.c2; have y0 := hR3.fz 0; have y1 := hR3.fz 1; have y2 := hR3.fz 2; have pl3 := hr3.lt; have rl3 := hR3.lt; have d3 := hr3.c2; have f3 := hr3.fz 2; have npr : pb ≠ w.heap.size := (by omega))
    have hs1 := hf1.size
    have hs2 := hf2.size
    have hs3 := hf3.size
    simp at hs1
    have F3 := (Fr.al (xs := [pb]) w (.cells tz 24)).trans (hf1.trans (hf2.trans hf3))
    have g1 : Fr [pb] w3 (w3.setCell ⟨pb, 2, none⟩ (.int .i64 (dp : Int))) := (Fr.refl _ _).setCell (.inl (by simp)) _
    have g2 := Fr.set3 (w3.setCell ⟨pb, 2, none⟩ (.int .i64 (dp : Int))) w.heap.size (.int .i64 126) (.int .i64 0) (.slice (some ⟨w3.heap.size + 1, 0, none⟩) 1 1)
    have hRp := ((hr3.set2 dp).fr g2 (by simp; omega))
    have hRC := (hR3.fr g1 (by simp; omega)).set3 (.int .i64 126) (.int .i64 0) (.slice (some ⟨w3.heap.size + 1, 0, none⟩) 1 1)
    have hF := (F3.trans g1).over' g2 (by simp)
    have hT := (ht.fr g1 (by simp; omega)).fr g2 (by simp; omega)
    have hsz : ((((w3.setCell ⟨pb, 2, none⟩ (.int .i64 (dp : Int))).setCell ⟨w.heap.size, 0, none⟩ (.int .i64 126)).setCell ⟨w.heap.size, 1, none⟩ (.int .i64 0)).setCell ⟨w.heap.size, 2, none⟩ (.slice (some ⟨w3.heap.size + 1, 0, none⟩) 1 1)).heap.size = w3.heap.size := by simp
    generalize (((w3.setCell ⟨pb, 2, none⟩ (.int .i64 (dp : Int))).setCell ⟨w.heap.size, 0, none⟩ (.int .i64 126)).setCell ⟨w.heap.size, 1, none⟩ (.int .i64 0)).setCell ⟨w.heap.size, 2, none⟩ (.slice (some ⟨w3.heap.size + 1, 0, none⟩) 1 1) = w4 at *
    refine retT lessRes rfl ((hRC.fr (Fr.al (xs := []) _ _) (by simp)).fr (Fr.al (xs := []) _ _) (by simp)) ?_
    refine ⟨126, 0, _, 1, 1, k3, rfl, ⟨w3.heap.size + 1, ⟨a, b, A, n, c⟩, (by show _ ≤ _; omega), rfl, alloc_at (by simp [hsz]), ((hT.alloc _).alloc _).mono (fun p hp _ => by omega)⟩, (hRp.fr (Fr.al (xs := []) _ _) (by simp)).fr (Fr.al (xs := []) _ _) (by simp), hk3, rfl, (hF.alloc _).alloc _⟩
  | bad pl er =>
    simp only
    go_enter Tryz.func139, Tryz.ntmps139
    go_wp2_with (go_at_call 105; refine (ris_take hA hs hpre (by decide)).mono ?_; rintro e w1 ⟨rfl, hr1, hf1⟩; refine Hid.out ?_)
    refine Lib.hid ?_
    have hR1 := hR.fr hf1 (by simp; omega)
    go_wp2_with (go_at_call 65; refine (rdown_yes hr1 (by omega) k).mono ?_; rintro e w2 ⟨rfl, hr2, hf2⟩; refine Hid.out ?_)
    refine Lib.hid ?_
    have hR2 := hR1.fr hf2 (by simp; omega)
    have co := ih w2 pb (k + 1) (dp + 1) s hr2 hk hs (by omega)
    rw [HR.out] at co
    go_wp2_with (go_at_call 139; refine co.mono ?_; rintro e w3 ⟨a, b, A, n, c, k3, dp3, rfl, hr3, he3, hd3, hd4, hk3, hf3⟩; obtain ⟨dq, rfl⟩ : ∃ dq, dp3 = dq + 1 := ⟨dp3 - 1, by omega⟩; have hR3 := hR2.fr hf3 (by simp; omega); have z0 := hR3.c0; have z1 := hR3.c1; have z2 := hR3.c2; have y0 := hR3.fz 0; have y1 := hR3.fz 1; have y2 := hR3.fz 2; have pl3 := hr3.lt; have rl3 := hR3.lt; have d3 := hr3.c2; have f3 := hr3.fz 2; have npr : pb ≠ w.heap.size := (by omega))
    have hs1 := hf1.size
    have hs2 := hf2.size
    have hs3 := hf3.size
    simp at hs1
    have F3 := (Fr.al (xs := [pb]) w (.cells tz 24)).trans (hf1.trans (hf2.trans hf3))
    have g1 : Fr [pb] w3 (w3.setCell ⟨pb, 2, none⟩ (.int .i64 (dq : Int))) := (Fr.refl _ _).setCell (.inl (by simp)) _
    have g2 := Fr.set3 (w3.setCell ⟨pb, 2, none⟩ (.int .i64 (dq : Int))) w.heap.size (.int .i64 126) (.int .i64 0) (.slice (some ⟨w3.heap.size + 1, 0, none⟩) 1 1)
    have hRp := ((hr3.set2 dq).fr g2 (by simp; omega))
    have hRC := (hR3.fr g1 (by simp; omega)).set3 (.int .i64 126) (.int .i64 0) (.slice (some ⟨w3.heap.size + 1, 0, none⟩) 1 1)
    have hF := (F3.trans g1).over' g2 (by simp)
    have hsz : ((((w3.setCell ⟨pb, 2, none⟩ (.int .i64 (dq : Int))).setCell ⟨w.heap.size, 0, none⟩ (.int .i64 126)).setCell ⟨w.heap.size, 1, none⟩ (.int .i64 0)).setCell ⟨w.heap.size, 2, none⟩ (.slice (some ⟨w3.heap.size + 1, 0, none⟩) 1 1)).heap.size = w3.heap.size := by simp
    generalize (((w3.setCell ⟨pb, 2, none⟩ (.int .i64 (dq : Int))).setCell ⟨w.heap.size, 0, none⟩ (.int .i64 126)).setCell ⟨w.heap.size, 1, none⟩ (.int .i64 0)).setCell ⟨w.heap.size, 2, none⟩ (.slice (some ⟨w3.heap.size + 1, 0, none⟩) 1 1) = w4 at *
    refine retT lessRes rfl ((hRC.fr (Fr.al (xs := []) _ _) (by simp)).fr (Fr.al (xs := []) _ _) (by simp)) ?_
    exact ⟨126, 0, _, 1, 1, k3, dq, rfl, (hRp.fr (Fr.al (xs := []) _ _) (by simp)).fr (Fr.al (xs := []) _ _) (by simp), he3, by omega, by omega, hk3, (hF.alloc _).alloc _⟩

theorem less_any {d : Nat} (h1 : OneOK d) (ih : ∀ e, d = e + 1 → LessOK e) : LessOK d := by
  intro w pb k dp s h hk hs hd
  by_cases hm : (s.data.toList.drop k).head? = some 45
  · cases d with
    | zero =>
      obtain rfl : dp = 20 := by omega
      exact less_full h hs hm
    | succ e => exact less_neg (ih e rfl) h hs hd hm
  · exact less_one h1 h hk hs hd hm
end Go.Proofs.YtnapbfilkahobaaGreatDoor
