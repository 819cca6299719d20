/- States in memory; what is wrong with them. -/
import Derived.Test.YtiofpimchbhfcabFp
namespace Go.Proofs.Ytiofpimchbhfcab
open Go.RowKit

def hcells : List Hd → List Value
  | [] => []
  | h :: l => .int .i64 h.nd :: .string h.key :: .int .i64 h.a :: .int .i64 h.b :: hcells l
theorem hcells_len : ∀ l : List Hd, (hcells l).length = l.length * 4
  | [] => rfl
  | r :: l => by simp only [hcells, List.length_cons, hcells_len l]; omega
theorem hcells_append : ∀ (a b : List Hd), hcells (a ++ b) = hcells a ++ hcells b
  | [], b => rfl
  | r :: a, b => by simp only [List.cons_append, hcells, hcells_append a b]
theorem hcells_at : ∀ (l : List Hd) (i : Nat) (h : i < l.length), (hcells l)[i * 4]? = some (.int .i64 l[i].nd) ∧ (hcells l)[i * 4 + 1]? = some (.string l[i].key) ∧ (hcells l)[i * 4 + 2]? = some (.int .i64 l[i].a) ∧ (hcells l)[i * 4 + 3]? = some (.int .i64 l[i].b)
  | [], i, h => by simp at h
  | r :: l, 0, _ => by simp [hcells]
  | r :: l, i + 1, h => by
    have := hcells_at l i (by simpa using h)
    rw [show (i + 1) * 4 = i * 4 + 4 from by omega]
    simpa [hcells] using this
theorem hcells_one (l : List Hd) : ∀ u ∈ hcells l, u.oneCell' = true := by
  induction l with
  | nil => simp [hcells]
  | cons r l ih =>
    intro u hu
    simp only [hcells, List.mem_cons] at hu
    rcases hu with rfl | rfl | rfl | rfl | hu
    · rfl
    · rfl
    · rfl
    · rfl
    · exact ih u hu
theorem hds_at {w : World} {la : Option Addr} {L : List Hd} (h : CsAt w la (hcells L)) (k : Nat) (hk : k < L.length) : ∃ b o, la = some ⟨b, o, none⟩ ∧ w.cell? ⟨b, o + k * 4, none⟩ = some (.int .i64 L[k].nd) ∧ w.cell? ⟨b, o + k * 4 + 1, none⟩ = some (.string L[k].key) ∧ w.cell? ⟨b, o + k * 4 + 2, none⟩ = some (.int .i64 L[k].a) ∧ w.cell? ⟨b, o + k * 4 + 3, none⟩ = some (.int .i64 L[k].b) := by
  obtain ⟨b, o, rfl, hc⟩ := h.at (by intro e; have := hcells_len L; rw [e] at this; simp at this; omega)
  obtain ⟨h0, h1, h2, h3⟩ := hcells_at L k hk
  exact ⟨b, o, rfl, hc _ _ h0, by rw [Nat.add_assoc]; exact hc _ _ h1, by rw [Nat.add_assoc]; exact hc _ _ h2, by rw [Nat.add_assoc]; exact hc _ _ h3⟩

def ltH (a b : Hd) : Bool := decide (cmpH a b < 0)
/-- The one ahead. -/
def pv (L : List Hd) (k : Nat) : Option Hd := if k = 0 then none else L[k - 1]?
theorem hdsE_zero (L : List Hd) : hdsE ltH none L = hdsE ltH (pv L 0) (L.drop 0) := rfl
theorem hdsE_n (h : Hd) (l : List Hd) : hdsE ltH none (h :: l) = if badHd h then 1 else hdsE ltH (some h) l := by
  unfold hdsE; simp only [Bool.false_eq_true, if_false]; cases l <;> rfl
theorem hdsE_s (q h : Hd) (l : List Hd) : hdsE ltH (some q) (h :: l) = if badHd h then 1 else if !ltH q h then 5 else hdsE ltH (some h) l := by
  conv => lhs; unfold hdsE
theorem hdsE_bad {L : List Hd} {k : Nat} (h : k < L.length) (hb : badHd L[k] = true) : hdsE ltH (pv L k) (L.drop k) = 1 := by
  rw [← List.getElem_cons_drop (h := h)]
  cases pv L k with
  | none => rw [hdsE_n, if_pos hb]
  | some q => rw [hdsE_s, if_pos hb]
theorem hdsE_low {L : List Hd} {k : Nat} (h : k + 1 < L.length) (hb : badHd L[k + 1] = false) (hc : 0 ≤ cmpH L[k] L[k + 1]) : hdsE ltH (pv L (k + 1)) (L.drop (k + 1)) = 5 := by
  have e : pv L (k + 1) = some L[k] := by simp [pv]
  rw [← List.getElem_cons_drop (h := h), e, hdsE_s, hb]
  simp only [Bool.false_eq_true, if_false]
  rw [if_pos]
  simp [ltH]; omega
theorem hdsE_next {L : List Hd} {k : Nat} (h : k + 1 < L.length) (hb : badHd L[k + 1] = false) (hc : ¬ 0 ≤ cmpH L[k] L[k + 1]) : hdsE ltH (pv L (k + 1)) (L.drop (k + 1)) = hdsE ltH (pv L (k + 2)) (L.drop (k + 2)) := by
  have e : pv L (k + 1) = some L[k] := by simp [pv]
  have e2 : pv L (k + 2) = some L[k + 1] := by simp [pv, h]
  rw [← List.getElem_cons_drop (h := h), e, e2, hdsE_s, hb]
  simp only [Bool.false_eq_true, if_false]
  rw [if_neg]
  simp [ltH]; omega
theorem hdsE_first {L : List Hd} (h : 0 < L.length) (hb : badHd L[0] = false) : hdsE ltH (pv L 0) (L.drop 0) = hdsE ltH (pv L 1) (L.drop 1) := by
  have e2 : pv L 1 = some L[0] := by simp [pv, h]
  rw [← List.getElem_cons_drop (h := h), e2, show pv L 0 = none from rfl, hdsE_n, hb]
  rfl
theorem hdsE_end {L : List Hd} {k : Nat} (h : L.length ≤ k) : hdsE ltH (pv L k) (L.drop k) = 0 := by
  rw [List.drop_of_length_le h]; rfl

theorem cell_lt {w : World} {b o : Nat} {x : Value} (h : w.cell? ⟨b, o, none⟩ = some x) : b < w.heap.size := by
  rcases Nat.lt_or_ge b w.heap.size with h' | h'
  · exact h'
  · simp [World.cell?, Array.getElem?_eq_none h'] at h
set_option maxRecDepth 100000 in
set_option maxHeartbeats 1000000 in
theorem isHeld_any (r : Hd) (w : World) (hk : r.key.size ≤ 9223372036854775807) : Calls Try.prog 18 #[hdV r] w fun e w' => e = .returned (.bool (!badHd r)) ∧ w' = w.alloc (.cells #[.int .i64 r.nd, .string r.key, .int .i64 r.a, .int .i64 r.b] 29) := by
  obtain ⟨bb, hbb⟩ : ∃ bb, bb = badHd r := ⟨_, rfl⟩
  obtain ⟨nd, key, a, b⟩ := r
  have hbd : badHd ⟨nd, key, a, b⟩ = (decide (nd < 0) || decide (12 ≤ nd) || decide (40 < key.size)) := rfl
  rw [← hbb] at hbd ⊢
  simp only [hdV] at *
  clear hbb
  by_cases h1 : nd < 0
  · have e : bb = true := by rw [hbd]; simp; omega
    subst e
    clear hbd
    have h1' : ¬ 0 ≤ nd := by omega
    go_enter Try.func18, Try.ntmps18
    go_wp2_with fail
    go_ret
    exact ⟨rfl, rfl⟩
  · have h1' : 0 ≤ nd := by omega
    by_cases h2 : 12 ≤ nd
    · have e : bb = true := by rw [hbd]; simp; omega
      subst e
      clear hbd
      have h2' : ¬ nd < 12 := by omega
      go_enter Try.func18, Try.ntmps18
      go_wp2_with fail
      go_ret
      exact ⟨rfl, rfl⟩
    · have h2' : nd < 12 := by omega
      by_cases h3 : (40 : Int) < (key.size : Nat)
      · have e : bb = true := by rw [hbd]; simp; omega
        subst e
        clear hbd
        have h3' : ¬ ((key.size : Nat) : Int) ≤ 40 := by omega
        go_enter Try.func18, Try.ntmps18
        go_wp2_with fail
        go_ret
        exact ⟨rfl, rfl⟩
      · have e : bb = false := by rw [hbd]; simp; omega
        subst e
        clear hbd
        have h3' : ((key.size : Nat) : Int) ≤ 40 := by omega
        go_enter Try.func18, Try.ntmps18
        go_wp2_with fail
        go_ret
        exact ⟨rfl, rfl⟩
set_option maxRecDepth 100000 in
set_option maxHeartbeats 1000000 in
theorem checkHds_any (w : World) (la : Option Addr) (c : Nat) (L : List Hd) (h : CsAt w la (hcells L)) (hlen : L.length ≤ 9223372036854775807) (hks : ∀ r ∈ L, r.key.size ≤ 9223372036854775807) :
    Calls Try.prog 32 #[.slice la L.length c] w fun e w' => e = .returned (errV (heldsE ltH L)) ∧ Below w.heap.size w w' := by
  obtain ⟨E, hE⟩ : ∃ E, E = heldsE ltH L := ⟨_, rfl⟩
  rw [← hE]
  have HE := Lib.hid hE
  clear hE
  by_cases hmany : 400 < L.length
  · have hm' : (400 : Int) < L.length := by omega
    have e4 : E = 4 := by rw [HE.out]; unfold heldsE; rw [if_pos hmany]
    subst e4
    go_enter Try.func32, Try.ntmps32
    go_wp2_with fail
    go_ret
    exact ⟨rfl, Below.refl _ _⟩
  · have hm' : ¬ (400 : Int) < L.length := by omega
    have e4 : E = hdsE ltH none L := by rw [HE.out]; unfold heldsE; rw [if_neg hmany]
    have HE' := Lib.hid e4
    clear e4 HE
    go_enter Try.func32, Try.ntmps32
    go_wp2_with fail
    go_loopw [11] (fun i wr => ∃ k : Nat, k ≤ L.length ∧ i = .int .i64 k ∧ E = hdsE ltH (pv L k) (L.drop k) ∧ Below w.heap.size w wr) (fun i _ => L.length - (intOf i).toNat)
    case atStart => exact ⟨0, by omega, rfl, by rw [HE'.out]; exact hdsE_zero L, Below.refl _ _⟩
    case round =>
      obtain ⟨k, hk, rfl, hno, hb⟩ := hrel
      clear HE'
      have hBz := hb.size
      by_cases hlt : k < L.length
      · have hkk := hks _ (List.getElem_mem hlt)
        have hbd : badHd L[k] = (decide (L[k].nd < 0) || decide (12 ≤ L[k].nd) || decide (40 < L[k].key.size)) := rfl
        cases hbad : badHd L[k] with
        | true =>
          have e1 : E = 1 := by rw [hno]; exact hdsE_bad hlt hbad
          subst e1
          obtain ⟨b, o, rfl, c0, c1, c2, c3⟩ := hds_at (h.keep hb) k hlt
          rw [hbad] at hbd
          have HI := fun w' => isHeld_any L[k] w' hkk
          rw [hbad] at HI
          generalize L[k] = r at *
          obtain ⟨nd, key, a, bv⟩ := r
          simp only [hdV, Bool.not_true] at c0 c1 c2 c3 hbd hkk HI
          have HB1 : Below w.heap.size w ((wr.alloc (.cells #[.int .i64 nd, .string key, .int .i64 a, .int .i64 bv] 29)).alloc (.cells #[.int .i64 nd, .string key, .int .i64 a, .int .i64 bv] 29)) := (hb.alloc hBz _).alloc (by simp; omega) _
          clear hbd hno
          go_wp2_with (go_at_call 18; refine (HI _).mono ?_; rintro e w' ⟨rfl, rfl⟩)
          go_ret
          exact ⟨rfl, HB1⟩
        | false =>
          rw [hbad] at hbd
          cases k with
          | zero =>
            have HN := Lib.hid (hno.trans (hdsE_first hlt hbad))
            obtain ⟨b, o, rfl, c0, c1, c2, c3⟩ := hds_at (h.keep hb) 0 hlt
            have HI := fun w' => isHeld_any L[0] w' hkk
            rw [hbad] at HI
            clear hno hbad
            generalize L[0] = r at *
            obtain ⟨nd, key, a, bv⟩ := r
            simp only [hdV, Bool.not_false, Nat.zero_mul, Nat.add_zero] at c0 c1 c2 c3 hbd hkk HI
            have HB1 : Below w.heap.size w ((wr.alloc (.cells #[.int .i64 nd, .string key, .int .i64 a, .int .i64 bv] 29)).alloc (.cells #[.int .i64 nd, .string key, .int .i64 a, .int .i64 bv] 29)) := (hb.alloc hBz _).alloc (by simp; omega) _
            clear hbd
            go_wp2_with (go_at_call 18; refine (HI _).mono ?_; rintro e w' ⟨rfl, rfl⟩)
            go_quiet (fail)
            go_wp2_with fail
            go_roundw
            case rel => exact ⟨1, by omega, by go_num, HN.out, ⟨HB1.os, HB1.tape, HB1.output, HB1.size, HB1.block⟩⟩
            case measure => simp [intOf]; omega
          | succ k =>
            have hlt0 : k < L.length := by omega
            obtain ⟨b, o, rfl, c0, c1, c2, c3⟩ := hds_at (h.keep hb) (k + 1) hlt
            obtain ⟨b', o', hbo, d0, d1, d2, d3⟩ := hds_at (h.keep hb) k hlt0
            simp only [Option.some.injEq, Addr.mk.injEq, and_true] at hbo
            obtain ⟨rfl, rfl⟩ := hbo
            have HL := fun hc => hno.trans (hdsE_low hlt hbad hc)
            have HN := fun hc => hno.trans (hdsE_next hlt hbad hc)
            have HI := fun w' => isHeld_any L[k + 1] w' hkk
            rw [hbad] at HI
            clear hno hbad
            have HC := fun w' => compare_any L[k] L[k + 1] w'
            generalize cmpH L[k] L[k + 1] = z at *
            generalize L[k + 1] = r at *
            generalize L[k] = r' at *
            obtain ⟨nd, key, a, bv⟩ := r
            obtain ⟨nd', key', a', bv'⟩ := r'
            simp only [hdV, Bool.not_false] at c0 c1 c2 c3 d0 d1 d2 d3 hbd hkk HC HI
            have HB1 : Below w.heap.size w ((wr.alloc (.cells #[.int .i64 nd, .string key, .int .i64 a, .int .i64 bv] 29)).alloc (.cells #[.int .i64 nd, .string key, .int .i64 a, .int .i64 bv] 29)) := (hb.alloc hBz _).alloc (by simp; omega) _
            have hbl : b < wr.heap.size := cell_lt d0
            have hold : ∀ v w' : World, v.heap = ((wr.alloc (.cells #[.int .i64 nd, .string key, .int .i64 a, .int .i64 bv] 29)).alloc (.cells #[.int .i64 nd, .string key, .int .i64 a, .int .i64 bv] 29)).heap → Below v.heap.size v w' → w'.cell? ⟨b, o + k * 4, none⟩ = some (.int .i64 nd') ∧ w'.cell? ⟨b, o + k * 4 + 1, none⟩ = some (.string key') ∧ w'.cell? ⟨b, o + k * 4 + 2, none⟩ = some (.int .i64 a') ∧ w'.cell? ⟨b, o + k * 4 + 3, none⟩ = some (.int .i64 bv') ∧ w'.cell? ⟨wr.heap.size, 0, none⟩ = some (.int .i64 nd) ∧ w'.cell? ⟨wr.heap.size, 1, none⟩ = some (.string key) ∧ w'.cell? ⟨wr.heap.size, 2, none⟩ = some (.int .i64 a) ∧ w'.cell? ⟨wr.heap.size, 3, none⟩ = some (.int .i64 bv) := by
              intro v w' hv hvb
              have hlt1 : wr.heap.size < v.heap.size := by rw [hv]; simp; omega
              have k1 : ∀ (bb oo : Nat) (x : Value), bb < wr.heap.size → wr.cell? ⟨bb, oo, none⟩ = some x → w'.cell? ⟨bb, oo, none⟩ = some x := fun bb oo x hb2 hx => by
                rw [hvb.cell (p := ⟨bb, oo, none⟩) (by show bb < _; omega), World.cell?_of_block (w := wr) (by rw [hv, Below.heap_alloc _ _ _ (by simp; omega)]; exact Below.heap_alloc _ _ _ hb2)]; exact hx
              have k2 : ∀ (oo : Nat) (x : Value), ((wr.alloc (.cells #[.int .i64 nd, .string key, .int .i64 a, .int .i64 bv] 29)).alloc (.cells #[.int .i64 nd, .string key, .int .i64 a, .int .i64 bv] 29)).cell? ⟨wr.heap.size, oo, none⟩ = some x → w'.cell? ⟨wr.heap.size, oo, none⟩ = some x := fun oo x hx => by
                rw [hvb.cell (p := ⟨wr.heap.size, oo, none⟩) hlt1, World.cell?_of_block (w := (wr.alloc (.cells #[.int .i64 nd, .string key, .int .i64 a, .int .i64 bv] 29)).alloc (.cells #[.int .i64 nd, .string key, .int .i64 a, .int .i64 bv] 29)) (by rw [hv])]; exact hx
              exact ⟨k1 _ _ _ hbl d0, k1 _ _ _ hbl d1, k1 _ _ _ hbl d2, k1 _ _ _ hbl d3, k2 _ _ (by simp), k2 _ _ (by simp), k2 _ _ (by simp), k2 _ _ (by simp)⟩
            have hk1 : (0 : Int) < ((k + 1 : Nat) : Int) := by omega
            have hi0 : (0 : Int) ≤ (k : Int) := by omega
            have hi1 : (k : Int) < (L.length : Int) := by omega
            have hi2 : (k : Int) ≤ (L.length : Int) := by omega
            have hi5 : IntKind.i64.wrap (k : Int) = (k : Int) := by simp [IntKind.wrap, IntKind.bits, IntKind.signed]; omega
            have hi4 : (k : Int) + 1 ≤ 400 := by omega
            clear hbd
            by_cases hz : 0 ≤ z
            · have e5 := HL hz
              subst e5
              clear HN HL
              go_wp2_with (go_at_call 18; refine (HI _).mono ?_; rintro e w' ⟨rfl, rfl⟩)
              have HO := hold _ _ rfl (Below.refl _ ((wr.alloc (.cells #[.int .i64 nd, .string key, .int .i64 a, .int .i64 bv] 29)).alloc (.cells #[.int .i64 nd, .string key, .int .i64 a, .int .i64 bv] 29)))
              go_region_held3 (fun w' => w'.cell? ⟨b, o + k * 4, none⟩ = some (.int .i64 nd') ∧ w'.cell? ⟨b, o + k * 4 + 1, none⟩ = some (.string key') ∧ w'.cell? ⟨b, o + k * 4 + 2, none⟩ = some (.int .i64 a') ∧ w'.cell? ⟨b, o + k * 4 + 3, none⟩ = some (.int .i64 bv') ∧ w'.cell? ⟨wr.heap.size, 0, none⟩ = some (.int .i64 nd) ∧ w'.cell? ⟨wr.heap.size, 1, none⟩ = some (.string key) ∧ w'.cell? ⟨wr.heap.size, 2, none⟩ = some (.int .i64 a) ∧ w'.cell? ⟨wr.heap.size, 3, none⟩ = some (.int .i64 bv)) (first | go_keep | exact HO | exact hold ((wr.alloc (.cells #[.int .i64 nd, .string key, .int .i64 a, .int .i64 bv] 29)).alloc (.cells #[.int .i64 nd, .string key, .int .i64 a, .int .i64 bv] 29)).drew w2 rfl b2) ((go_at_call 44; refine (HC _).mono ?_; rintro e w2 ⟨rfl, b2⟩))
              all_goals
                go_wp2_with fail
                go_ret
                exact ⟨rfl, HB1.drew.trans (b2.mono HB1.size)⟩
            · have HN' := Lib.hid (HN hz)
              clear HN HL
              go_wp2_with (go_at_call 18; refine (HI _).mono ?_; rintro e w' ⟨rfl, rfl⟩)
              have HO := hold _ _ rfl (Below.refl _ ((wr.alloc (.cells #[.int .i64 nd, .string key, .int .i64 a, .int .i64 bv] 29)).alloc (.cells #[.int .i64 nd, .string key, .int .i64 a, .int .i64 bv] 29)))
              go_region_held3 (fun w' => w'.cell? ⟨b, o + k * 4, none⟩ = some (.int .i64 nd') ∧ w'.cell? ⟨b, o + k * 4 + 1, none⟩ = some (.string key') ∧ w'.cell? ⟨b, o + k * 4 + 2, none⟩ = some (.int .i64 a') ∧ w'.cell? ⟨b, o + k * 4 + 3, none⟩ = some (.int .i64 bv') ∧ w'.cell? ⟨wr.heap.size, 0, none⟩ = some (.int .i64 nd) ∧ w'.cell? ⟨wr.heap.size, 1, none⟩ = some (.string key) ∧ w'.cell? ⟨wr.heap.size, 2, none⟩ = some (.int .i64 a) ∧ w'.cell? ⟨wr.heap.size, 3, none⟩ = some (.int .i64 bv)) (first | go_keep | exact HO | exact hold ((wr.alloc (.cells #[.int .i64 nd, .string key, .int .i64 a, .int .i64 bv] 29)).alloc (.cells #[.int .i64 nd, .string key, .int .i64 a, .int .i64 bv] 29)).drew w2 rfl b2) ((go_at_call 44; refine (HC _).mono ?_; rintro e w2 ⟨rfl, b2⟩))
              all_goals
                go_wp2_with fail
                go_roundw
                case rel => exact ⟨k + 2, by omega, by go_num, HN'.out, HB1.drew.trans (b2.mono HB1.size)⟩
                case measure => simp [intOf]; omega
      · have e0 : E = 0 := by rw [hno]; exact hdsE_end (by omega)
        subst e0
        go_wp2_with fail
        go_ret
        exact ⟨rfl, hb⟩
end Go.Proofs.Ytiofpimchbhfcab
