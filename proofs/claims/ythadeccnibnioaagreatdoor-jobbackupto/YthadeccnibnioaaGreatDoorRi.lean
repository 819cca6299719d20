/- One with '-' ahead. -/
import Derived.Test.YthadeccnibnioaaGreatDoorRh
namespace Go.Proofs.YthadeccnibnioaaGreatDoor
open Go.RowKit

theorem cellAl {w : World} {b : Nat} {v : Value} {t : TypeId} (h : w.heap[b]? = some (.cells #[v] t)) (o : Obj) : (w.alloc o).cell? ⟨b, 0, none⟩ = some v :=
  (cell1 (t := t) (by rw [Below.heap_alloc _ _ _ (some_lt h)]; exact h)).1

set_option maxHeartbeats 1000000 in
theorem sign_any {d : Nat} (hin : ∀ e, d = e + 1 → ChOK e) (hinS : ∀ e, d = e + 1 → SgOK e) {w : World} {rb k dp : Nat} {s : ByteArray} (h : Cx w rb s k dp) (hd : dp + d = 20) :
    Calls Tryz.prog 203 #[.pointer (some ⟨rb, 0, none⟩)] w (Out rb s dp w (sgP d (s.data.toList.drop k))) := by
  have hmf : ∀ (fn : Fn) (first cap : Array Value) (w : World), (Instr.makeFunc fn first cap).run Tryz.prog w = .ok (.func fn first cap) w := fun _ _ _ _ => rfl
  have hle := h.le
  have hlo := h.lo
  have hlt := h.rd.lt
  have c1 : ∀ o, (w.alloc o).cell? ⟨rb, 1, none⟩ = some (.int .i64 k) := fun o => (h.alloc o).rd.c1
  have hbox : (w.alloc (.cells #[.pointer (some ⟨rb, 0, none⟩)] 121)).heap[w.heap.size]? = some (.cells #[.pointer (some ⟨rb, 0, none⟩)] 121) := alloc_at rfl
  have hw0 : Fr [rb] w (w.alloc (.cells #[.pointer (some ⟨rb, 0, none⟩)] 121)) := Fr.al1 _ _ _
  have hcx0 := h.alloc (.cells #[.pointer (some ⟨rb, 0, none⟩)] 121)
  rw [sgP_eq]
  unfold signF
  by_cases hm : (s.data.toList.drop k).head? = some 45
  · have hk1 := head_lt hm
    rw [if_pos hm]
    unfold negF
    rw [drop_len, drop_drop1]
    cases hR : inSg d (s.size - k) (s.data.toList.drop (k + 1)) with
    | ok t u =>
      have HR := Lib.hid hR
      clear hR
      go_enter Tryz.func203, Tryz.ntmps203
      go_wp2_with (go_at_call 107; refine (Cx.takeOut hcx0 (p := ⟨#[45]⟩) ((pre_one rfl _).2 hm)).mono ?_; rintro e wa ⟨rfl, hra, hfa⟩; have hcxa : Cx wa rb s (k + 1) dp := hcx0.fr hfa hra hk1; have hbx : wa.heap[w.heap.size]? = some (.cells #[.pointer (some ⟨rb, 0, none⟩)] 121) := (by rw [hfa.block _ (by simp) (by simp; omega)]; exact hbox); have a1 := cellAl hbx; have hsa : w.heap.size + 1 ≤ wa.heap.size := (by simpa using hfa.size))
      go_wp2_with (go_at_call 108; refine (deep_sign1 hinS (w := wa.alloc (.cells #[.pointer none] 74)) (bx := w.heap.size) (cv := wa.heap.size) (v0 := .pointer none) (hcxa.alloc _) hd hle (by rw [Below.heap_alloc _ _ _ (by omega)]; exact hbx) (alloc_at rfl) (by omega) (by omega)).mono ?_; rw [HR.out]; rintro e wz ⟨p, kz, rfl, ht, hcv, hr, hkz, hu, hf⟩; have z1 := (cell1 hcv).1)
      go_ret
      have hfz : Fr [rb] w wz := ((hw0.trans hfa).alloc _).over hf (by simp; omega)
      have hsz := hfz.size
      refine ⟨wz.heap.size + 1, kz, rfl, ?_, (hr.alloc _).alloc _, hkz, hu, (hfz.alloc _).alloc _⟩
      exact Tr.mkNeg (Tr.mono (by simp; omega) _ _ ht) hsz
    | bad pl er =>
      have HR := Lib.hid hR
      clear hR
      go_enter Tryz.func203, Tryz.ntmps203
      go_wp2_with (go_at_call 107; refine (Cx.takeOut hcx0 (p := ⟨#[45]⟩) ((pre_one rfl _).2 hm)).mono ?_; rintro e wa ⟨rfl, hra, hfa⟩; have hcxa : Cx wa rb s (k + 1) dp := hcx0.fr hfa hra hk1; have hbx : wa.heap[w.heap.size]? = some (.cells #[.pointer (some ⟨rb, 0, none⟩)] 121) := (by rw [hfa.block _ (by simp) (by simp; omega)]; exact hbox); have a1 := cellAl hbx; have hsa : w.heap.size + 1 ≤ wa.heap.size := (by simpa using hfa.size))
      go_wp2_with (go_at_call 108; refine (deep_sign1 hinS (w := wa.alloc (.cells #[.pointer none] 74)) (bx := w.heap.size) (cv := wa.heap.size) (v0 := .pointer none) (hcxa.alloc _) hd hle (by rw [Below.heap_alloc _ _ _ (by omega)]; exact hbx) (alloc_at rfl) (by omega) (by omega)).mono ?_; rw [HR.out]; rintro e wz ⟨rfl, hf⟩)
      exact ⟨rfl, rfl, ((hw0.trans hfa).alloc _).over hf (by simp; omega)⟩
  · rw [if_neg hm]
    cases hR : singleF (inCh d) (s.data.toList.drop k) with
    | ok t u =>
      have HR := Lib.hid hR
      clear hR
      go_enter Tryz.func203, Tryz.ntmps203
      go_wp2_with (go_at_call 107; refine (Cx.takeNot hcx0 (p := ⟨#[45]⟩) (fun e => hm ((pre_one rfl _).1 e))).mono ?_; rintro e wa ⟨rfl, hra, hfa⟩; have hcxa : Cx wa rb s k dp := hcx0.fr hfa hra hle; have hbx : wa.heap[w.heap.size]? = some (.cells #[.pointer (some ⟨rb, 0, none⟩)] 121) := (by rw [hfa.block _ (by simp) (by simp; omega)]; exact hbox); have a1 := (cell1 hbx).1)
      go_wp2_with (go_at_call 217; refine (single_any hin hcxa hd).mono ?_; rw [HR.out]; rintro e wz ⟨pz, kz, rfl, htz, hrz, hkz, huz, hfz⟩)
      go_ret
      exact Out.from (hw0.trans hfa) ⟨pz, kz, rfl, htz, hrz, hkz, huz, hfz⟩
    | bad pl er =>
      have HR := Lib.hid hR
      clear hR
      go_enter Tryz.func203, Tryz.ntmps203
      go_wp2_with (go_at_call 107; refine (Cx.takeNot hcx0 (p := ⟨#[45]⟩) (fun e => hm ((pre_one rfl _).1 e))).mono ?_; rintro e wa ⟨rfl, hra, hfa⟩; have hcxa : Cx wa rb s k dp := hcx0.fr hfa hra hle; have hbx : wa.heap[w.heap.size]? = some (.cells #[.pointer (some ⟨rb, 0, none⟩)] 121) := (by rw [hfa.block _ (by simp) (by simp; omega)]; exact hbox); have a1 := (cell1 hbx).1)
      go_wp2_with (go_at_call 217; refine (single_any hin hcxa hd).mono ?_; rw [HR.out]; rintro e wz ⟨rfl, hfz⟩)
      exact ⟨rfl, rfl, (hw0.trans hfa).trans hfz⟩
end Go.Proofs.YthadeccnibnioaaGreatDoor
