/- Whether there is a Source and a Sink. -/
import Derived.Test.YthadeccnibnioaaGreatDoorJb
namespace Go.Proofs.YthadeccnibnioaaGreatDoor
open Go.RowKit

theorem below_two' {B : Nat} {w w1 w2 : World} (h : Below B w w1) (hB : B ≤ w1.heap.size) (k : Below w1.heap.size w1 w2) : Below B w w2 := h.trans (k.mono hB)

theorem ends1_any {w : World} (nd : Nd) (fa : Option Addr) (fc cb : Nat) (kd : Int) (hc : w.cell? ⟨cb, 0, none⟩ = some (.int .i64 kd)) :
    Calls Tryz.prog 86 #[ndV nd fa fc, .pointer (some ⟨cb, 0, none⟩)] w fun e w' => e = .returned (.bool (nd.k == kd)) ∧ Below w.heap.size w w' := by
  obtain ⟨k, fs, tx, n⟩ := nd
  simp only [ndV]
  have bel : Below w.heap.size w (w.alloc (.cells #[.int .i64 k, .slice fa fs.length fc, .string tx, .int .i64 n] 52)) := (Below.refl _ _).alloc (Nat.le_refl _) _
  have hc1 := Keeps.of bel _ _ hc
  have hlt := cell_lt hc
  simp at hlt
  go_enter Tryz.func86, Tryz.ntmps86
  go_wp2_with fail
  go_ret
  exact ⟨rfl, bel⟩

def idxP (kd : Int) : List Nd → Nat → Int
  | [], _ => -1
  | nd :: r, i => if nd.k == kd then (i : Int) else idxP kd r (i + 1)
theorem idx_any (kd : Int) : ∀ (l : List Nd) (i : Nat), (0 ≤ idxP kd l i) = (l.any (fun nd => nd.k == kd) = true) := by
  intro l
  induction l with
  | nil => intro i; simp [idxP]
  | cons a r ih =>
    intro i
    by_cases h : a.k = kd
    · simp [idxP, h]
    · have h' : (a.k == kd) = false := by simpa using h
      simp only [idxP, h', List.any_cons, Bool.false_or]
      simpa using ih (i + 1)

theorem idx_step {kd : Int} {L : List Nd} {j : Nat} (h : j < L.length) : idxP kd (L.drop j) j = if (L[j].k == kd) = true then (j : Int) else idxP kd (L.drop (j + 1)) (j + 1) := by
  rw [List.drop_eq_getElem_cons h, idxP]

set_option maxHeartbeats 1000000 in
theorem index_any {w : World} {la : Option Addr} {L : List Nd} {c : Nat} (hL : NdsAt w la L) (hl : L.length ≤ 12) (cb : Nat) (kd : Int) (hc : w.cell? ⟨cb, 0, none⟩ = some (.int .i64 kd)) :
    Calls Tryz.prog 127 #[.slice la L.length c, .func (.func 86) #[] #[.pointer (some ⟨cb, 0, none⟩)]] w fun e w' => e = .returned (.int .i64 (idxP kd L 0)) ∧ Below w.heap.size w w' := by
  have HR : Hid (idxP kd L 0 = idxP kd L 0) := rfl
  generalize hr : idxP kd L 0 = r at *
  clear HR
  have HR : Hid (idxP kd L 0 = r) := hr
  clear hr
  go_enter Tryz.func127, Tryz.ntmps127
  go_wp2_with fail
  go_loopw [8] (fun i wr => ∃ j : Nat, j ≤ L.length ∧ i = .int .i64 j ∧ idxP kd (L.drop j) j = r ∧ Below w.heap.size w wr) (fun i _ => L.length - (intOf i).toNat)
  case atStart => exact ⟨0, by omega, rfl, by simpa using HR.out, Below.refl _ _⟩
  case round =>
    obtain ⟨j, hj, rfl, hrj, hb⟩ := hrel
    by_cases hlt : j < L.length
    · rcases hL with hL | ⟨b, o, rfl, hL⟩
      · subst hL; simp at hlt
      · obtain ⟨c0, ⟨fa, fc, c1, -⟩, c2, c3, -⟩ := (hL j hlt).keep (Keeps.of hb)
        have hcw := Keeps.of hb _ _ hc
        rw [idx_step hlt] at hrj
        have hS := hb.size
        generalize L[j] = nd at *
        have HJ := Lib.hid hrj
        clear hrj hL
        by_cases he : (nd.k == kd) = true
        · have cE := ends1_any (w := wr) nd fa fc cb kd hcw
          rw [he] at cE
          obtain ⟨k, fs, tx, n⟩ := nd
          simp only [ndV] at *
          go_wp2_with (go_at_call 86; refine cE.mono ?_; rintro e w' ⟨rfl, hb2⟩)
          go_ret
          exact ⟨by have := HJ.out; rw [if_pos he] at this; subst this; rfl, below_two' hb hS hb2⟩
        · have he' : (nd.k == kd) = false := by simpa using he
          have cE := ends1_any (w := wr) nd fa fc cb kd hcw
          rw [he'] at cE
          obtain ⟨k, fs, tx, n⟩ := nd
          simp only [ndV] at *
          go_wp2_with (go_at_call 86; refine cE.mono ?_; rintro e w' ⟨rfl, hb2⟩)
          exact ⟨⟨j + 1, by omega, by go_num, by have := HJ.out; rw [if_neg he] at this; exact this, below_two' hb hS hb2⟩, by simp [intOf]; omega⟩
    · have hj' : j = L.length := by omega
      subst hj'
      rw [List.drop_length, idxP] at hrj
      go_wp2
      go_ret
      exact ⟨by subst hrj; rfl, hb⟩

set_option maxHeartbeats 1000000 in
theorem contains_any {w : World} {la : Option Addr} {L : List Nd} {c : Nat} (hL : NdsAt w la L) (hl : L.length ≤ 12) (cb : Nat) (kd : Int) (hc : w.cell? ⟨cb, 0, none⟩ = some (.int .i64 kd)) :
    Calls Tryz.prog 85 #[.slice la L.length c, .func (.func 86) #[] #[.pointer (some ⟨cb, 0, none⟩)]] w fun e w' => e = .returned (.bool (L.any fun nd => nd.k == kd)) ∧ Below w.heap.size w w' := by
  have ci := index_any (c := c) hL hl cb kd hc
  have hx := idx_any kd L 0
  generalize (L.any fun nd => nd.k == kd) = a at *
  generalize idxP kd L 0 = r at *
  have HX := Lib.hid hx
  clear hx
  go_enter Tryz.func85, Tryz.ntmps85
  go_wp2_with (go_at_call 127; refine ci.mono ?_; rintro e w' ⟨rfl, hb⟩)
  go_ret
  refine ⟨?_, hb⟩
  have : decide (0 ≤ r) = a := by have h := HX.out; cases a <;> simp at h <;> simp <;> omega
  rw [← this]; rfl

set_option maxRecDepth 4000 in
set_option maxHeartbeats 1000000 in
theorem ends_any {w : World} {la : Option Addr} {L : List Nd} {c : Nat} (hL : NdsAt w la L) (hl : L.length ≤ 12) :
    Calls Tryz.prog 47 #[.slice la L.length c] w fun e w' => e = .returned (errV (endsP L)) ∧ Below w.heap.size w w' := by
  have hmf : ∀ (fn : Fn) (first cap : Array Value) (w : World), (Instr.makeFunc fn first cap).run Tryz.prog w = .ok (.func fn first cap) w := fun _ _ _ _ => rfl
  have b6 : errV 6 = .iface 77 (.int .i64 6) := errV_pos (by decide)
  have cA : ∀ (w1 : World) (cb : Nat) (kd : Int), Keeps w w1 → w1.cell? ⟨cb, 0, none⟩ = some (.int .i64 kd) → Calls Tryz.prog 85 #[.slice la L.length c, .func (.func 86) #[] #[.pointer (some ⟨cb, 0, none⟩)]] w1 fun e w' => e = .returned (.bool (L.any fun nd => nd.k == kd)) ∧ Below w1.heap.size w1 w' :=
    fun w1 cb kd hk hcell => contains_any (hL.keep hk) hl cb kd hcell
  unfold endsP
  have cK : ∀ (w1 : World) (kd : Int), Below w.heap.size w w1 → Calls Tryz.prog 85 #[.slice la L.length c, .func (.func 86) #[] #[.pointer (some ⟨w1.heap.size, 0, none⟩)]] (w1.alloc (.cells #[.int .i64 kd] 3)) fun e w' => e = .returned (.bool (L.any fun nd => nd.k == kd)) ∧ Below w.heap.size w w' := by
    intro w1 kd hb
    have hs := hb.size
    refine (cA (w1.alloc (.cells #[.int .i64 kd] 3)) w1.heap.size kd ((Keeps.of hb).trans (Keeps.alloc _ _)) (by simp)).mono ?_
    rintro e w' ⟨he, hb2⟩
    exact ⟨he, below_two' (hb.alloc hs _) (by simp; omega) hb2⟩
  clear cA
  have k1 := fun w1 hb => cK w1 1 hb
  have k10 := fun w1 hb => cK w1 10 hb
  clear cK
  generalize (L.any fun nd => nd.k == 1) = a1 at *
  generalize (L.any fun nd => nd.k == 10) = a2 at *
  clear hL
  have x0 : ∀ w : World, (Instr.index 145 (.agg #[.int .i64 1, .int .i64 10]) (.int .i64 0)).run Tryz.prog w = .ok (.int .i64 1) w := fun _ => by kernel_rfl
  have x1 : ∀ w : World, (Instr.index 145 (.agg #[.int .i64 1, .int .i64 10]) (.int .i64 1)).run Tryz.prog w = .ok (.int .i64 10) w := fun _ => by kernel_rfl
  have B6 := Lib.hid b6
  clear b6
  have K1 := Lib.hid k1
  have K10 := Lib.hid k10
  clear k1 k10
  go_enter Tryz.func47, Tryz.ntmps47
  go_wp2_with fail
  go_loopw [6] (fun i wr => ∃ j : Nat, j ≤ 2 ∧ i = .int .i64 j ∧ (1 ≤ j → a1 = true) ∧ (2 ≤ j → a2 = true) ∧ Below w.heap.size w wr) (fun i _ => 2 - (intOf i).toNat)
  case atStart => exact ⟨0, by omega, rfl, by omega, by omega, Below.refl _ _⟩
  case round =>
    obtain ⟨j, hj, rfl, h1, h2, hb⟩ := hrel
    obtain rfl | rfl | rfl : j = 0 ∨ j = 1 ∨ j = 2 := by omega
    · clear h1 h2
      cases a1 with
      | false =>
        go_wp2_with (go_at_call 85; refine (K1.out wr hb).mono ?_; rintro e w' ⟨rfl, hb2⟩)
        go_ret
        exact ⟨by rw [B6.out]; rfl, hb2⟩
      | true =>
        go_wp2_with (go_at_call 85; refine (K1.out wr hb).mono ?_; rintro e w' ⟨rfl, hb2⟩)
        exact ⟨⟨1, by omega, rfl, by simp, by omega, hb2⟩, by simp [intOf]⟩
    · have h1' := h1 (by omega)
      clear h1 h2
      subst h1'
      cases a2 with
      | false =>
        go_wp2_with (go_at_call 85; refine (K10.out wr hb).mono ?_; rintro e w' ⟨rfl, hb2⟩)
        go_ret
        exact ⟨by rw [B6.out]; rfl, hb2⟩
      | true =>
        go_wp2_with (go_at_call 85; refine (K10.out wr hb).mono ?_; rintro e w' ⟨rfl, hb2⟩)
        exact ⟨⟨2, by omega, rfl, by simp, by simp, hb2⟩, by simp [intOf]⟩
    · have h1' := h1 (by omega)
      have h2' := h2 (by omega)
      clear h1 h2
      subst h1' h2'
      go_wp2
      go_ret
      exact ⟨by simp [errV_zero], hb⟩
end Go.Proofs.YthadeccnibnioaaGreatDoor
