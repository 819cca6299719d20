/- The document's reader: a '-' ahead. -/
import Derived.Test.YtnapbfilkahobaaGreatDoorSd
namespace Go.Proofs.YtnapbfilkahobaaGreatDoor
open Go.RowKit

def OneOK (d : Nat) : Prop := ∀ (w : World) (pb k dp : Nat) (s : ByteArray), Rp w pb s k dp 0 0 → k ≤ s.size → s.size ≤ 120 → dp + d = 20 → Calls Tryz.prog 174 #[.pointer (some ⟨pb, 0, none⟩)] w (OutT pb s dp w (singleF (inCh d) (s.data.toList.drop k)))
def LessOK (d : Nat) : Prop := ∀ (w : World) (pb k dp : Nat) (s : ByteArray), Rp w pb s k dp 0 0 → k ≤ s.size → s.size ≤ 120 → dp + d = 20 → Calls Tryz.prog 139 #[.pointer (some ⟨pb, 0, none⟩)] w (OutT pb s dp w (sgP d (s.data.toList.drop k)))

theorem lessRes : Tryz.f139.results = #[.cell 2 24] := by kernel_rfl

theorem Fr.al {xs : List Nat} (w : World) (o : Obj) : Fr xs w (w.alloc o) := (Fr.refl _ _).alloc o

abbrev tz : Array Value := #[.int .i64 0, .int .i64 0, .slice none 0 0]

set_option maxHeartbeats 4000000 in
theorem less_one {d : Nat} (h1 : OneOK d) {w : World} {pb k dp : Nat} {s : ByteArray} (h : Rp w pb s k dp 0 0) (hk : k ≤ s.size) (hs : s.size ≤ 120) (hd : dp + d = 20) (hm : ¬ (s.data.toList.drop k).head? = some 45) :
    Calls Tryz.prog 139 #[.pointer (some ⟨pb, 0, none⟩)] w (OutT pb s dp w (sgP d (s.data.toList.drop k))) := by
  have e : sgP d (s.data.toList.drop k) = singleF (inCh d) (s.data.toList.drop k) := by rw [sgP_eq, signF, if_neg hm]
  rw [e]
  have hpre : ¬ (⟨#[45]⟩ : ByteArray).data.toList <+: s.data.toList.drop k := by
    intro hh; apply hm
    obtain ⟨t, ht⟩ := hh
    rw [← ht]; rfl
  have hA : Rp (w.alloc (.cells tz 24)) pb s k dp 0 0 := h.fr (xs := []) ((Fr.refl _ _).alloc _) (by simp)
  have hR : RC (w.alloc (.cells tz 24)) w.heap.size (.int .i64 0) (.int .i64 0) (.slice none 0 0) := RC.new w
  have hpl := h.lt
  have c1 := h.c1
  generalize hres : singleF (inCh d) (s.data.toList.drop k) = res at *
  have HR := Lib.hid hres
  clear hres e
  go_enter Tryz.func139, Tryz.ntmps139
  go_wp2_with (go_at_call 105; refine (ris_none hA hk hs (by decide) hpre).mono ?_; rintro e w1 ⟨rfl, hr1, hf1⟩; refine Hid.out ?_)
  refine Lib.hid ?_
  have hR1 := hR.fr hf1 (by simp; omega)
  have co := h1 w1 pb k dp s hr1 hk hs hd
  rw [HR.out] at co
  cases res with
  | ok t u =>
    go_wp2_with (go_at_call 174; refine co.mono ?_; rintro e w2 ⟨a, b, A, n, c, k2, rfl, ht, hr2, hk2, rfl, hf2⟩; have hR2 := hR1.fr hf2 (by simp; omega); have z0 := hR2.c0; have z1 := hR2.c1; have z2 := hR2.c2; have y0 := hR2.fz 0; have y1 := hR2.fz 1; have y2 := hR2.fz 2)
    have hs1 := hf1.size
    simp at hs1
    have F2 := (Fr.al (xs := [pb]) w (.cells tz 24)).trans (hf1.trans hf2)
    refine retT lessRes rfl (hR2.set3 _ _ _) ?_
    have f3 := Fr.set3 w2 w.heap.size (.int .i64 a) (.int .i64 b) (.slice A n c)
    exact ⟨a, b, A, n, c, k2, rfl, (ht.fr f3 (by simp; omega)).mono (fun p hp _ => by omega), hr2.fr f3 (by simp; omega), hk2, rfl, F2.over' f3 (by simp)⟩
  | bad pl er =>
    go_wp2_with (go_at_call 174; refine co.mono ?_; rintro e w2 ⟨a, b, A, n, c, k2, dp2, rfl, hr2, he2, hd2, hd3, hk2, hf2⟩; have hR2 := hR1.fr hf2 (by simp; omega); have z0 := hR2.c0; have z1 := hR2.c1; have z2 := hR2.c2; have y0 := hR2.fz 0; have y1 := hR2.fz 1; have y2 := hR2.fz 2)
    have F2 := (Fr.al (xs := [pb]) w (.cells tz 24)).trans (hf1.trans hf2)
    refine retT lessRes rfl (hR2.set3 _ _ _) ?_
    have f3 := Fr.set3 w2 w.heap.size (.int .i64 a) (.int .i64 b) (.slice A n c)
    exact ⟨a, b, A, n, c, k2, dp2, rfl, hr2.fr f3 (by simp; omega), he2, hd2, hd3, hk2, F2.over' f3 (by simp)⟩
end Go.Proofs.YtnapbfilkahobaaGreatDoor
