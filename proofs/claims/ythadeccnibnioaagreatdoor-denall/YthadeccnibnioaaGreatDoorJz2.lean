import Derived.Test.YthadeccnibnioaaGreatDoorJc
import Derived.Test.YthadeccnibnioaaGreatDoorJz1
/- What is wrong with a node, those ahead being right. -/
namespace Go.Proofs.YthadeccnibnioaaGreatDoor
open Go.RowKit

theorem NdsAt.take {w : World} {la : Option Addr} {L : List Nd} (h : NdsAt w la L) (n : Nat) : NdsAt w la (L.take n) := by
  rcases h with h | ⟨b, o, h1, h2⟩
  · subst h; exact .inl (by simp)
  · refine .inr ⟨b, o, h1, fun i hi => ?_⟩
    have h3 : i < L.length := by simp at hi; omega
    rw [List.getElem_take]; exact h2 i h3

theorem fromP_step {A : List Nd} {fs : List Int} {j : Nat} (h : j < fs.length) : fromP A (fs.drop j) = if fromOne A fs[j] = 0 then fromP A (fs.drop (j + 1)) else fromOne A fs[j] := by
  rw [List.drop_eq_getElem_cons h, fromP]

theorem from_any {w : World} {la : Option Addr} {L : List Nd} {c : Nat} (hL : NdsAt w la L) (f : Int) (hl : L.length ≤ 12) :
    Calls Tryz.prog 83 #[.slice la L.length c, .int .i64 f] w fun e w' => e = .returned (errV (fromOne L f)) ∧ w = w' := by
  by_cases h0 : f < 0
  · have e : fromOne L f = 1 := by rw [fromOne, if_pos (.inl h0)]
    rw [e, errV_pos (by decide)]
    clear hL e
    go_enter Tryz.func83, Tryz.ntmps83
    go_wp2_with fail
    go_ret
    exact ⟨rfl, rfl⟩
  · by_cases h1 : (L.length : Int) ≤ f
    · have e : fromOne L f = 1 := by rw [fromOne, if_pos (.inr h1)]
      rw [e, errV_pos (by decide)]
      clear hL e
      go_enter Tryz.func83, Tryz.ntmps83
      go_wp2_with fail
      go_ret
      exact ⟨rfl, rfl⟩
    · obtain ⟨i, rfl⟩ : ∃ i : Nat, f = i := ⟨f.toNat, by omega⟩
      have hi : i < L.length := by omega
      rcases hL with hL | ⟨b, o, rfl, hL⟩
      · subst hL; simp at hi
      · obtain ⟨c0, -⟩ := hL i hi
        have hk : kindAt L (i : Int) = L[i].k := by simp [kindAt, hi]
        by_cases h10 : L[i].k = 10
        · have e : fromOne L (i : Int) = 7 := by rw [fromOne, if_neg (by omega), hk, if_pos h10]
          rw [e, errV_pos (by decide)]
          rw [h10] at c0
          clear hL e hk h10
          go_enter Tryz.func83, Tryz.ntmps83
          go_wp2_with fail
          go_ret
          exact ⟨rfl, rfl⟩
        · have e : fromOne L (i : Int) = 0 := by rw [fromOne, if_neg (by omega), hk, if_neg h10]
          have e10 : (L[i].k == 10) = false := by simpa using h10
          rw [e, errV_zero]
          generalize L[i].k = k at *
          clear hL e hk h10
          go_enter Tryz.func83, Tryz.ntmps83
          go_wp2_with fail
          go_ret
          exact ⟨rfl, rfl⟩

set_option maxHeartbeats 4000000 in
set_option maxRecDepth 100000 in
theorem node_any {w : World} (hg : Gl w) {la : Option Addr} {L : List Nd} {c : Nat} (hL : NdsAt w la L) (own : Nat) (hown : own < L.length) (hl : L.length ≤ 12) (hc : L.length ≤ c) :
    Calls Tryz.prog 46 #[.slice la L.length c, .int .i64 own] w fun e w' => e = .returned (errV (nodeP (L.take own) L[own])) ∧ Below w.heap.size w w' := by
  have hT := hL.take own
  have hTl : (L.take own).length = own := by simp; omega
  generalize hAh : L.take own = Ah at *
  rcases hL with hL | ⟨b, o, rfl, hL⟩
  · subst hL; simp at hown
  obtain ⟨c0, ⟨fa, fc, c1, hI⟩, c2, c3, hz1, hz2⟩ := hL own hown
  clear hL hAh
  generalize L[own] = nd at *
  obtain ⟨k, fs, tx, n⟩ := nd
  simp only at c0 c1 c2 c3 hz1 hz2 hI
  have bel : Below w.heap.size w (w.alloc (.cells #[.int .i64 k, .slice fa fs.length fc, .string tx, .int .i64 n] 52)) := (Below.refl _ _).alloc (Nat.le_refl _) _
  have g1 : Gl (w.alloc (.cells #[.int .i64 k, .slice fa fs.length fc, .string tx, .int .i64 n] 52)) := hg.below bel
  have hT1 : NdsAt (w.alloc (.cells #[.int .i64 k, .slice fa fs.length fc, .string tx, .int .i64 n] 52)) (some ⟨b, o, none⟩) Ah := hT.keep (Keeps.of bel)
  have hI1 : IntsAt (w.alloc (.cells #[.int .i64 k, .slice fa fs.length fc, .string tx, .int .i64 n] 52)) fa fs := hI.keep (Keeps.of bel)
  clear hT hI hg
  have cI : ∀ w, Calls Tryz.prog 82 #[.int .i64 k] w fun e w' => e = .returned (.tuple #[.int .i64 (inLo k), .int .i64 (inHi k)]) ∧ w = w' := inputs_any k
  have cO : Calls Tryz.prog 84 #[.agg #[.int .i64 k, .slice fa fs.length fc, .string tx, .int .i64 n]] (w.alloc (.cells #[.int .i64 k, .slice fa fs.length fc, .string tx, .int .i64 n] 52)) fun e w' => e = .returned (errV (ownP ⟨k, fs, tx, n⟩)) ∧ Below w.heap.size w w' :=
    (own_any g1 ⟨k, fs, tx, n⟩ fa fc hz1).mono fun e w' ⟨he, hb⟩ => ⟨he, below_two bel hb⟩
  have b3 : errV 3 = .iface 77 (.int .i64 3) := errV_pos (by decide)
  have b1 : errV 1 = .iface 77 (.int .i64 1) := errV_pos (by decide)
  unfold nodeP
  simp only
  by_cases hk1 : k < 1
  · rw [if_pos (.inl hk1), b1]
    clear cI cO hT1 hI1
    go_enter Tryz.func46, Tryz.ntmps46
    go_wp2_with fail
    go_ret
    exact ⟨rfl, bel⟩
  by_cases hk2 : 10 < k
  · rw [if_pos (.inr hk2), b1]
    clear cI cO hT1 hI1
    go_enter Tryz.func46, Tryz.ntmps46
    go_wp2_with fail
    go_ret
    exact ⟨rfl, bel⟩
  rw [if_neg (by omega)]
  generalize ownP ⟨k, fs, tx, n⟩ = vo at *
  generalize inLo k = lo at *
  generalize inHi k = hi at *
  by_cases hl1 : (fs.length : Int) < lo
  · rw [if_pos (.inl hl1), b3]
    clear cO hT1 hI1
    go_enter Tryz.func46, Tryz.ntmps46
    go_wp2_with (go_at_call 82; refine (cI _).mono ?_; rintro e w' ⟨rfl, rfl⟩)
    go_ret
    exact ⟨rfl, bel⟩
  by_cases hl2 : hi < (fs.length : Int)
  · rw [if_pos (.inr hl2), b3]
    clear cO hT1 hI1
    go_enter Tryz.func46, Tryz.ntmps46
    go_wp2_with (go_at_call 82; refine (cI _).mono ?_; rintro e w' ⟨rfl, rfl⟩)
    go_ret
    exact ⟨rfl, bel⟩
  rw [if_neg (by omega)]
  obtain ⟨R, hR⟩ : ∃ R, R = (if fromP Ah fs = 0 then vo else fromP Ah fs) := ⟨_, rfl⟩
  rw [← hR]
  have HR := Lib.hid hR
  clear hR
  have cF : ∀ f, Calls Tryz.prog 83 #[.slice (some ⟨b, o, none⟩) own c, .int .i64 f] (w.alloc (.cells #[.int .i64 k, .slice fa fs.length fc, .string tx, .int .i64 n] 52)) fun e w' => e = .returned (errV (fromOne Ah f)) ∧ (w.alloc (.cells #[.int .i64 k, .slice fa fs.length fc, .string tx, .int .i64 n] 52)) = w' := by
    intro f; have := from_any (c := c) hT1 f (by omega); rw [hTl] at this; exact this
  go_enter Tryz.func46, Tryz.ntmps46
  go_wp2_with (go_at_call 82; refine (cI _).mono ?_; rintro e w' ⟨rfl, rfl⟩)
  go_loopw [46] (fun i wr => ∃ j : Nat, j ≤ fs.length ∧ i = .int .i64 j ∧ fromP Ah (fs.drop j) = fromP Ah fs ∧ wr = (w.alloc (.cells #[.int .i64 k, .slice fa fs.length fc, .string tx, .int .i64 n] 52))) (fun i _ => fs.length - (intOf i).toNat)
  case atStart => exact ⟨0, by omega, rfl, by simp, rfl⟩
  case round =>
    obtain ⟨j, hj, rfl, hfj, rfl⟩ := hrel
    by_cases hlt : j < fs.length
    · rw [fromP_step hlt] at hfj
      rcases hI1 with hI1 | ⟨b2, o2, rfl, hI1⟩
      · subst hI1; simp at hlt
      have cj := hI1 j hlt
      have cFj := cF fs[j]
      generalize fs[j] = f at *
      by_cases h0 : fromOne Ah f = 0
      · rw [if_pos h0] at hfj
        rw [h0, errV_zero] at cFj
        have HF := Lib.hid hfj
        clear hfj cF h0 hI1
        go_wp2_with (go_at_call 83; refine cFj.mono ?_; rintro e w' ⟨rfl, rfl⟩)
        exact ⟨⟨j + 1, by omega, by go_num, HF.out, by trivial⟩, by simp [intOf]; omega⟩
      · rw [if_neg h0] at hfj
        rw [errV_pos h0] at cFj
        have hRR : R = fromOne Ah f := by rw [HR.out, ← hfj, if_neg h0]
        have hRv : errV R = .iface 77 (.int .i64 ((fromOne Ah f : Nat) : Int)) := by rw [hRR]; exact errV_pos h0
        have HV := Lib.hid hRv
        clear hfj cF hI1 HR hRR hRv h0
        go_wp2_with (go_at_call 83; refine cFj.mono ?_; rintro e w' ⟨rfl, rfl⟩)
        go_ret
        exact ⟨by rw [HV.out]; rfl, bel⟩
    · have hj' : j = fs.length := by omega
      subst hj'
      have hRR : R = vo := by rw [HR.out, ← hfj, List.drop_length, fromP, if_pos rfl]
      subst hRR
      clear hfj cF HR
      go_wp2_with (go_at_call 84; refine cO.mono ?_; rintro e w' ⟨rfl, hb2⟩)
      go_ret
      exact ⟨rfl, hb2⟩
end Go.Proofs.YthadeccnibnioaaGreatDoor

/- Whether there is a Source and a Sink. -/
namespace Go.Proofs.YthadeccnibnioaaGreatDoor
open Go.RowKit

theorem below_two' {B : Nat} {w w1 w2 : World} (h : Below B w w1) (hB : B ≤ w1.heap.size) (k : Below w1.heap.size w1 w2) : Below B w w2 := h.trans (k.mono hB)

theorem ends1_any {w : World} (nd : Nd) (fa : Option Addr) (fc cb : Nat) (kd : Int) (hc : w.cell? ⟨cb, 0, none⟩ = some (.int .i64 kd)) :
    Calls Tryz.prog 86 #[ndV nd fa fc, .pointer (some ⟨cb, 0, none⟩)] w fun e w' => e = .returned (.bool (nd.k == kd)) ∧ Below w.heap.size w w' := by
  obtain ⟨k, fs, tx, n⟩ := nd
  simp only [ndV]
  have bel : Below w.heap.size w (w.alloc (.cells #[.int .i64 k, .slice fa fs.length fc, .string tx, .int .i64 n] 52)) := (Below.refl _ _).alloc (Nat.le_refl _) _
  have hc1 := Keeps.of bel _ _ hc
  have hlt := cell_lt hc
  simp at hlt
  go_enter Tryz.func86, Tryz.ntmps86
  go_wp2_with fail
  go_ret
  exact ⟨rfl, bel⟩

def idxP (kd : Int) : List Nd → Nat → Int
  | [], _ => -1
  | nd :: r, i => if nd.k == kd then (i : Int) else idxP kd r (i + 1)
theorem idx_any (kd : Int) : ∀ (l : List Nd) (i : Nat), (0 ≤ idxP kd l i) = (l.any (fun nd => nd.k == kd) = true) := by
  intro l
  induction l with
  | nil => intro i; simp [idxP]
  | cons a r ih =>
    intro i
    by_cases h : a.k = kd
    · simp [idxP, h]
    · have h' : (a.k == kd) = false := by simpa using h
      simp only [idxP, h', List.any_cons, Bool.false_or]
      simpa using ih (i + 1)

theorem idx_step {kd : Int} {L : List Nd} {j : Nat} (h : j < L.length) : idxP kd (L.drop j) j = if (L[j].k == kd) = true then (j : Int) else idxP kd (L.drop (j + 1)) (j + 1) := by
  rw [List.drop_eq_getElem_cons h, idxP]

set_option maxHeartbeats 1000000 in
theorem index_any {w : World} {la : Option Addr} {L : List Nd} {c : Nat} (hL : NdsAt w la L) (hl : L.length ≤ 12) (cb : Nat) (kd : Int) (hc : w.cell? ⟨cb, 0, none⟩ = some (.int .i64 kd)) :
    Calls Tryz.prog 127 #[.slice la L.length c, .func (.func 86) #[] #[.pointer (some ⟨cb, 0, none⟩)]] w fun e w' => e = .returned (.int .i64 (idxP kd L 0)) ∧ Below w.heap.size w w' := by
  have HR : Hid (idxP kd L 0 = idxP kd L 0) := rfl
  generalize hr : idxP kd L 0 = r at *
  clear HR
  have HR : Hid (idxP kd L 0 = r) := hr
  clear hr
  go_enter Tryz.func127, Tryz.ntmps127
  go_wp2_with fail
  go_loopw [8] (fun i wr => ∃ j : Nat, j ≤ L.length ∧ i = .int .i64 j ∧ idxP kd (L.drop j) j = r ∧ Below w.heap.size w wr) (fun i _ => L.length - (intOf i).toNat)
  case atStart => exact ⟨0, by omega, rfl, by simpa using HR.out, Below.refl _ _⟩
  case round =>
    obtain ⟨j, hj, rfl, hrj, hb⟩ := hrel
    by_cases hlt : j < L.length
    · rcases hL with hL | ⟨b, o, rfl, hL⟩
      · subst hL; simp at hlt
      · obtain ⟨c0, ⟨fa, fc, c1, -⟩, c2, c3, -⟩ := (hL j hlt).keep (Keeps.of hb)
        have hcw := Keeps.of hb _ _ hc
        rw [idx_step hlt] at hrj
        have hS := hb.size
        generalize L[j] = nd at *
        have HJ := Lib.hid hrj
        clear hrj hL
        by_cases he : (nd.k == kd) = true
        · have cE := ends1_any (w := wr) nd fa fc cb kd hcw
          rw [he] at cE
          obtain ⟨k, fs, tx, n⟩ := nd
          simp only [ndV] at *
          go_wp2_with (go_at_call 86; refine cE.mono ?_; rintro e w' ⟨rfl, hb2⟩)
          go_ret
          exact ⟨by have := HJ.out; rw [if_pos he] at this; subst this; rfl, below_two' hb hS hb2⟩
        · have he' : (nd.k == kd) = false := by simpa using he
          have cE := ends1_any (w := wr) nd fa fc cb kd hcw
          rw [he'] at cE
          obtain ⟨k, fs, tx, n⟩ := nd
          simp only [ndV] at *
          go_wp2_with (go_at_call 86; refine cE.mono ?_; rintro e w' ⟨rfl, hb2⟩)
          exact ⟨⟨j + 1, by omega, by go_num, by have := HJ.out; rw [if_neg he] at this; exact this, below_two' hb hS hb2⟩, by simp [intOf]; omega⟩
    · have hj' : j = L.length := by omega
      subst hj'
      rw [List.drop_length, idxP] at hrj
      go_wp2
      go_ret
      exact ⟨by subst hrj; rfl, hb⟩

set_option maxHeartbeats 1000000 in
theorem contains_any {w : World} {la : Option Addr} {L : List Nd} {c : Nat} (hL : NdsAt w la L) (hl : L.length ≤ 12) (cb : Nat) (kd : Int) (hc : w.cell? ⟨cb, 0, none⟩ = some (.int .i64 kd)) :
    Calls Tryz.prog 85 #[.slice la L.length c, .func (.func 86) #[] #[.pointer (some ⟨cb, 0, none⟩)]] w fun e w' => e = .returned (.bool (L.any fun nd => nd.k == kd)) ∧ Below w.heap.size w w' := by
  have ci := index_any (c := c) hL hl cb kd hc
  have hx := idx_any kd L 0
  generalize (L.any fun nd => nd.k == kd) = a at *
  generalize idxP kd L 0 = r at *
  have HX := Lib.hid hx
  clear hx
  go_enter Tryz.func85, Tryz.ntmps85
  go_wp2_with (go_at_call 127; refine ci.mono ?_; rintro e w' ⟨rfl, hb⟩)
  go_ret
  refine ⟨?_, hb⟩
  have : decide (0 ≤ r) = a := by have h := HX.out; cases a <;> simp at h <;> simp <;> omega
  rw [← this]; rfl

set_option maxRecDepth 4000 in
set_option maxHeartbeats 1000000 in
theorem ends_any {w : World} {la : Option Addr} {L : List Nd} {c : Nat} (hL : NdsAt w la L) (hl : L.length ≤ 12) :
    Calls Tryz.prog 47 #[.slice la L.length c] w fun e w' => e = .returned (errV (endsP L)) ∧ Below w.heap.size w w' := by
  have hmf : ∀ (fn : Fn) (first cap : Array Value) (w : World), (Instr.makeFunc fn first cap).run Tryz.prog w = .ok (.func fn first cap) w := fun _ _ _ _ => rfl
  have b6 : errV 6 = .iface 77 (.int .i64 6) := errV_pos (by decide)
  have cA : ∀ (w1 : World) (cb : Nat) (kd : Int), Keeps w w1 → w1.cell? ⟨cb, 0, none⟩ = some (.int .i64 kd) → Calls Tryz.prog 85 #[.slice la L.length c, .func (.func 86) #[] #[.pointer (some ⟨cb, 0, none⟩)]] w1 fun e w' => e = .returned (.bool (L.any fun nd => nd.k == kd)) ∧ Below w1.heap.size w1 w' :=
    fun w1 cb kd hk hcell => contains_any (hL.keep hk) hl cb kd hcell
  unfold endsP
  have cK : ∀ (w1 : World) (kd : Int), Below w.heap.size w w1 → Calls Tryz.prog 85 #[.slice la L.length c, .func (.func 86) #[] #[.pointer (some ⟨w1.heap.size, 0, none⟩)]] (w1.alloc (.cells #[.int .i64 kd] 3)) fun e w' => e = .returned (.bool (L.any fun nd => nd.k == kd)) ∧ Below w.heap.size w w' := by
    intro w1 kd hb
    have hs := hb.size
    refine (cA (w1.alloc (.cells #[.int .i64 kd] 3)) w1.heap.size kd ((Keeps.of hb).trans (Keeps.alloc _ _)) (by simp)).mono ?_
    rintro e w' ⟨he, hb2⟩
    exact ⟨he, below_two' (hb.alloc hs _) (by simp; omega) hb2⟩
  clear cA
  have k1 := fun w1 hb => cK w1 1 hb
  have k10 := fun w1 hb => cK w1 10 hb
  clear cK
  generalize (L.any fun nd => nd.k == 1) = a1 at *
  generalize (L.any fun nd => nd.k == 10) = a2 at *
  clear hL
  have x0 : ∀ w : World, (Instr.index 145 (.agg #[.int .i64 1, .int .i64 10]) (.int .i64 0)).run Tryz.prog w = .ok (.int .i64 1) w := fun _ => by kernel_rfl
  have x1 : ∀ w : World, (Instr.index 145 (.agg #[.int .i64 1, .int .i64 10]) (.int .i64 1)).run Tryz.prog w = .ok (.int .i64 10) w := fun _ => by kernel_rfl
  have B6 := Lib.hid b6
  clear b6
  have K1 := Lib.hid k1
  have K10 := Lib.hid k10
  clear k1 k10
  go_enter Tryz.func47, Tryz.ntmps47
  go_wp2_with fail
  go_loopw [6] (fun i wr => ∃ j : Nat, j ≤ 2 ∧ i = .int .i64 j ∧ (1 ≤ j → a1 = true) ∧ (2 ≤ j → a2 = true) ∧ Below w.heap.size w wr) (fun i _ => 2 - (intOf i).toNat)
  case atStart => exact ⟨0, by omega, rfl, by omega, by omega, Below.refl _ _⟩
  case round =>
    obtain ⟨j, hj, rfl, h1, h2, hb⟩ := hrel
    obtain rfl | rfl | rfl : j = 0 ∨ j = 1 ∨ j = 2 := by omega
    · clear h1 h2
      cases a1 with
      | false =>
        go_wp2_with (go_at_call 85; refine (K1.out wr hb).mono ?_; rintro e w' ⟨rfl, hb2⟩)
        go_ret
        exact ⟨by rw [B6.out]; rfl, hb2⟩
      | true =>
        go_wp2_with (go_at_call 85; refine (K1.out wr hb).mono ?_; rintro e w' ⟨rfl, hb2⟩)
        exact ⟨⟨1, by omega, rfl, by simp, by omega, hb2⟩, by simp [intOf]⟩
    · have h1' := h1 (by omega)
      clear h1 h2
      subst h1'
      cases a2 with
      | false =>
        go_wp2_with (go_at_call 85; refine (K10.out wr hb).mono ?_; rintro e w' ⟨rfl, hb2⟩)
        go_ret
        exact ⟨by rw [B6.out]; rfl, hb2⟩
      | true =>
        go_wp2_with (go_at_call 85; refine (K10.out wr hb).mono ?_; rintro e w' ⟨rfl, hb2⟩)
        exact ⟨⟨2, by omega, rfl, by simp, by simp, hb2⟩, by simp [intOf]⟩
    · have h1' := h1 (by omega)
      have h2' := h2 (by omega)
      clear h1 h2
      subst h1' h2'
      go_wp2
      go_ret
      exact ⟨by simp [errV_zero], hb⟩
end Go.Proofs.YthadeccnibnioaaGreatDoor

/- job.Check. -/
namespace Go.Proofs.YthadeccnibnioaaGreatDoor
open Go.RowKit

theorem allP_step {L : List Nd} {j : Nat} (h : j < L.length) : allP (L.take j) (L.drop j) = if nodeP (L.take j) L[j] = 0 then allP (L.take (j + 1)) (L.drop (j + 1)) else nodeP (L.take j) L[j] := by
  rw [List.drop_eq_getElem_cons h, allP, List.take_succ_eq_append_getElem h]

set_option maxHeartbeats 1000000 in
theorem job_any {w : World} (hg : Gl w) {la : Option Addr} {L : List Nd} {c : Nat} (hL : NdsAt w la L) (hc : L.length ≤ c) :
    Calls Tryz.prog 16 #[.slice la L.length c] w fun e w' => e = .returned (errV (jobP L)) ∧ Below w.heap.size w w' := by
  unfold jobP
  by_cases hlen : 12 < L.length
  · have hi : (12 : Int) < L.length := by omega
    rw [if_pos hlen, show errV 4 = .iface 77 (.int .i64 4) from errV_pos (by decide)]
    clear hL hg
    go_enter Tryz.func16, Tryz.ntmps16
    go_wp2_with fail
    go_ret
    exact ⟨rfl, Below.refl _ _⟩
  · rw [if_neg hlen]
    have hi : ¬ (12 : Int) < L.length := by omega
    obtain ⟨R, hR⟩ : ∃ R, R = (if allP [] L = 0 then endsP L else allP [] L) := ⟨_, rfl⟩
    rw [← hR]
    have HR := Lib.hid hR
    clear hR
    have cN : ∀ (w1 : World) (j : Nat) (h : j < L.length), Below w.heap.size w w1 → Calls Tryz.prog 46 #[.slice la L.length c, .int .i64 j] w1 fun e w' => e = .returned (errV (nodeP (L.take j) L[j])) ∧ Below w.heap.size w w' := by
      intro w1 j h hb
      have hs := hb.size
      refine (node_any (hg.below hb) (hL.keep (Keeps.of hb)) j h (by omega) hc).mono ?_
      rintro e w' ⟨he, hb2⟩
      exact ⟨he, below_two hb hb2⟩
    have cE : ∀ (w1 : World), Below w.heap.size w w1 → Calls Tryz.prog 47 #[.slice la L.length c] w1 fun e w' => e = .returned (errV (endsP L)) ∧ Below w.heap.size w w' := by
      intro w1 hb
      refine (ends_any (hL.keep (Keeps.of hb)) (by omega)).mono ?_
      rintro e w' ⟨he, hb2⟩
      exact ⟨he, below_two hb hb2⟩
    clear hL hg
    go_enter Tryz.func16, Tryz.ntmps16
    go_wp2_with fail
    go_loopw [11] (fun i wr => ∃ j : Nat, j ≤ L.length ∧ i = .int .i64 j ∧ allP (L.take j) (L.drop j) = allP [] L ∧ Below w.heap.size w wr) (fun i _ => L.length - (intOf i).toNat)
    case atStart => exact ⟨0, by omega, rfl, by simp, Below.refl _ _⟩
    case round =>
      obtain ⟨j, hj, rfl, hfj, hb⟩ := hrel
      by_cases hlt : j < L.length
      · rw [allP_step hlt] at hfj
        have cj := cN wr j hlt hb
        by_cases h0 : nodeP (L.take j) L[j] = 0
        · rw [if_pos h0] at hfj
          rw [h0, errV_zero] at cj
          have HF := Lib.hid hfj
          clear hfj cN cE h0 hb
          go_wp2_with (go_at_call 46; refine cj.mono ?_; rintro e w' ⟨rfl, hb2⟩)
          exact ⟨⟨j + 1, by omega, by go_num, HF.out, hb2⟩, by simp [intOf]; omega⟩
        · rw [if_neg h0] at hfj
          have hRR : R = nodeP (L.take j) L[j] := by rw [HR.out, ← hfj, if_neg h0]
          rw [errV_pos h0] at cj
          have hRv : errV R = .iface 77 (.int .i64 ((nodeP (L.take j) L[j] : Nat) : Int)) := by rw [hRR]; exact errV_pos h0
          generalize nodeP (L.take j) L[j] = x at *
          clear hfj cN cE HR hRR h0 hb
          have HV := Lib.hid hRv
          clear hRv
          go_wp2_with (go_at_call 46; refine cj.mono ?_; rintro e w' ⟨rfl, hb2⟩)
          go_ret
          exact ⟨by rw [HV.out]; rfl, hb2⟩
      · have hj' : j = L.length := by omega
        subst hj'
        have hRR : R = endsP L := by rw [HR.out, ← hfj, List.drop_length, allP, if_pos rfl]
        have ce := cE wr hb
        rw [← hRR] at ce
        clear hfj cN cE HR hRR hb
        go_wp2_with (go_at_call 47; refine ce.mono ?_; rintro e w' ⟨rfl, hb2⟩)
        go_ret
        exact ⟨rfl, hb2⟩
end Go.Proofs.YthadeccnibnioaaGreatDoor
