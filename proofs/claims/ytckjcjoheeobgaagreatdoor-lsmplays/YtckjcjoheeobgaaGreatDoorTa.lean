/- Entries in memory; what is wrong with them; a table's bytes. -/
import Derived.Test.YtckjcjoheeobgaaGreatDoorFn
import Derived.Test.YtckjcjoheeobgaaGreatDoorPureTb
import Derived.Laws.Cover1
import Derived.Sort.Walk0
namespace Go.Proofs.YtckjcjoheeobgaaGreatDoor
open Go.RowKit

def ecells : List En → List Value
  | [] => []
  | r :: l => .string r.key :: .string r.val :: .bool r.dead :: ecells l
theorem ecells_len : ∀ l : List En, (ecells l).length = l.length * 3
  | [] => rfl
  | r :: l => by simp only [ecells, List.length_cons, ecells_len l]; omega
theorem ecells_append : ∀ (a b : List En), ecells (a ++ b) = ecells a ++ ecells b
  | [], b => rfl
  | r :: a, b => by simp only [List.cons_append, ecells, ecells_append a b]
theorem ecells_at : ∀ (l : List En) (i : Nat) (h : i < l.length), (ecells l)[i * 3]? = some (.string l[i].key) ∧ (ecells l)[i * 3 + 1]? = some (.string l[i].val) ∧ (ecells l)[i * 3 + 2]? = some (.bool l[i].dead)
  | [], i, h => by simp at h
  | r :: l, 0, _ => by simp [ecells]
  | r :: l, i + 1, h => by
    have := ecells_at l i (by simpa using h)
    rw [show (i + 1) * 3 = i * 3 + 3 from by omega]
    simpa [ecells] using this
theorem ens_at {w : World} {la : Option Addr} {L : List En} (h : CsAt w la (ecells L)) (k : Nat) (hk : k < L.length) : ∃ b o, la = some ⟨b, o, none⟩ ∧ w.cell? ⟨b, o + k * 3, none⟩ = some (.string L[k].key) ∧ w.cell? ⟨b, o + k * 3 + 1, none⟩ = some (.string L[k].val) ∧ w.cell? ⟨b, o + k * 3 + 2, none⟩ = some (.bool L[k].dead) := by
  obtain ⟨b, o, rfl, hc⟩ := h.at (by intro e; have := ecells_len L; rw [e] at this; simp at this; omega)
  obtain ⟨h0, h1, h2⟩ := ecells_at L k hk
  exact ⟨b, o, rfl, hc _ _ h0, by rw [Nat.add_assoc]; exact hc _ _ h1, by rw [Nat.add_assoc]; exact hc _ _ h2⟩
def enV (e : En) : Value := .agg #[.string e.key, .string e.val, .bool e.dead]

theorem less_yes {a b : ByteArray} (h : a.data.toList < b.data.toList) : Op.bytesLess a.toList b.toList = true := by rw [bytesLess_eq, Lib.toList_data, Lib.toList_data]; exact decide_eq_true h
theorem less_no {a b : ByteArray} (h : ¬ a.data.toList < b.data.toList) : Op.bytesLess a.toList b.toList = false := by rw [bytesLess_eq, Lib.toList_data, Lib.toList_data]; exact decide_eq_false h
theorem empty_yes : (⟨#[]⟩ : ByteArray).toList.isEmpty = true := by rw [Lib.toList_data]; rfl
theorem empty_no {s : ByteArray} (h : ¬ s = ⟨#[]⟩) : s.toList.isEmpty = false := by
  rw [Lib.toList_data]
  cases hd : s.data.toList with
  | nil => exfalso; apply h; obtain ⟨d⟩ := s; obtain ⟨l⟩ := d; simp only at hd; rw [hd]
  | cons => rfl
theorem size_nil {s : ByteArray} (h : s.size = 0) : s = ⟨#[]⟩ := by
  obtain ⟨d⟩ := s
  have : d = #[] := Array.eq_empty_of_size_eq_zero h
  rw [this]
theorem cell_lt {w : World} {b o : Nat} {x : Value} (h : w.cell? ⟨b, o, none⟩ = some x) : b < w.heap.size := by
  rcases Nat.lt_or_ge b w.heap.size with h' | h'
  · exact h'
  · simp [World.cell?, Array.getElem?_eq_none h'] at h
/-- The key ahead. -/
def pvK (L : List En) (k : Nat) : Option (List UInt8) := match k with
  | 0 => none
  | j + 1 => (L[j]?).map kl
theorem ents_step {L : List En} {k : Nat} (h : k < L.length) : entsG (pvK L k) (L.drop k) = if badEn L[k] = true then 1 else if shapeE L[k] = true then 3 else if lowK (pvK L k) L[k] = true then 5 else entsG (pvK L (k + 1)) (L.drop (k + 1)) := by
  rw [List.drop_eq_getElem_cons h, entsG]
  have e : pvK L (k + 1) = some (kl L[k]) := by simp [pvK, List.getElem?_eq_getElem h]
  rw [e]
theorem ents_end {L : List En} {k : Nat} (h : L.length ≤ k) (p : Option (List UInt8)) : entsG p (L.drop k) = 0 := by
  rw [List.drop_of_length_le h]; rfl
theorem low_zero (L : List En) (e : En) : lowK (pvK L 0) e = false := rfl
theorem low_next {L : List En} {k : Nat} (h : k < L.length) (e : En) : lowK (pvK L (k + 1)) e = !decide (kl L[k] < kl e) := by
  simp [pvK, List.getElem?_eq_getElem h, lowK]

set_option maxRecDepth 100000 in
set_option maxHeartbeats 2000000 in
theorem check_any (w : World) (la : Option Addr) (c : Nat) (L : List En) (h : CsAt w la (ecells L)) (hlen : L.length ≤ 9223372036854775807) (hks : ∀ r ∈ L, r.key.size ≤ 9223372036854775807 ∧ r.val.size ≤ 9223372036854775807) :
    Calls Tryz.prog 45 #[.slice la L.length c] w fun e w' => e = .returned (errV (entsE L)) ∧ Below w.heap.size w w' := by
  obtain ⟨E, hE⟩ : ∃ E, E = entsE L := ⟨_, rfl⟩
  rw [← hE]
  have HE := Lib.hid hE
  clear hE
  by_cases hmany : 400 < L.length
  · have hm' : (400 : Int) < L.length := by omega
    have e4 : E = 4 := by rw [HE.out]; unfold entsE; rw [if_pos hmany]
    subst e4
    go_enter Tryz.func45, Tryz.ntmps45
    go_wp2_with fail
    go_ret
    exact ⟨rfl, Below.refl _ _⟩
  · have hm' : ¬ (400 : Int) < L.length := by omega
    have e4 : E = entsG (pvK L 0) (L.drop 0) := by rw [HE.out]; unfold entsE; rw [if_neg hmany]; rfl
    clear HE
    go_enter Tryz.func45, Tryz.ntmps45
    go_wp2_with fail
    go_loopw [11] (fun i wr => ∃ k : Nat, k ≤ L.length ∧ i = .int .i64 k ∧ E = entsG (pvK L k) (L.drop k) ∧ Below w.heap.size w wr) (fun i _ => L.length - (intOf i).toNat)
    case atStart => exact ⟨0, by omega, rfl, e4, Below.refl _ _⟩
    case round =>
      obtain ⟨k, hk, rfl, hno, hb⟩ := hrel
      clear e4
      by_cases hlt : k < L.length
      · obtain ⟨b, o, rfl, c0, c1, c2⟩ := ens_at (h.keep hb) k hlt
        have hbd : badEn L[k] = (decide (120 < L[k].key.size) || decide (120 < L[k].val.size)) := rfl
        have hsd : shapeE L[k] = (L[k].dead && decide (L[k].val.size ≠ 0)) := rfl
        have hkk := hks _ (List.getElem_mem hlt)
        have hBz := hb.size
        rw [ents_step hlt] at hno
        have hlow : ∀ e, lowK (pvK L k) e = lowK (pvK L k) e := fun _ => rfl
        generalize hr : L[k] = r at *
        obtain ⟨key, val, dead⟩ := r
        simp only at c0 c1 c2 hbd hsd hkk
        have HB1 : Below w.heap.size w (wr.alloc (.cells #[.string key, .string val, .bool dead] 40)) := hb.alloc hBz _
        cases hbb : badEn ⟨key, val, dead⟩ with
        | true =>
          rw [hbb] at hbd hno
          have e1 : E = 1 := by simpa using hno
          subst e1
          have hor : (120 : Int) < (key.size : Nat) ∨ (120 : Int) < (val.size : Nat) := by
            simp at hbd; omega
          clear hbd hno hsd hlow hr
          by_cases h1 : (120 : Int) < (key.size : Nat)
          · go_wp2_with fail
            go_ret
            exact ⟨rfl, HB1⟩
          · have h2 : (120 : Int) < (val.size : Nat) := by omega
            go_wp2_with fail
            go_ret
            exact ⟨rfl, HB1⟩
        | false =>
          rw [hbb] at hbd hno
          have h1 : ¬ (120 : Int) < (key.size : Nat) := by simp at hbd; omega
          have h2 : ¬ (120 : Int) < (val.size : Nat) := by simp at hbd; omega
          simp only [Bool.false_eq_true, if_false] at hno
          clear hbd hbb
          have hsplit : (shapeE ⟨key, val, dead⟩ = true ∧ dead = true ∧ ¬ val = ⟨#[]⟩) ∨ (shapeE ⟨key, val, dead⟩ = false ∧ dead = false) ∨ (shapeE ⟨key, val, dead⟩ = false ∧ dead = true ∧ val = ⟨#[]⟩) := by
            cases dead with
            | false => exact .inr (.inl ⟨by rw [hsd]; rfl, rfl⟩)
            | true =>
              by_cases hv : val = ⟨#[]⟩
              · refine .inr (.inr ⟨?_, rfl, hv⟩); rw [hsd, hv]; rfl
              · refine .inl ⟨?_, rfl, hv⟩
                rw [hsd]
                simp only [Bool.true_and, decide_eq_true_eq]
                exact fun e => hv (size_nil e)
          clear hsd
          have HNo := Lib.hid hno
          clear hno
          rcases hsplit with ⟨hs, rfl, hv⟩ | hgo
          · have e3 : E = 3 := by have := HNo.out; rw [hs] at this; simpa using this
            subst e3
            have hve := empty_no hv
            go_wp2_with fail
            go_ret
            exact ⟨rfl, HB1⟩
          · have hs : shapeE ⟨key, val, dead⟩ = false := by rcases hgo with h | h <;> exact h.1
            have hno : E = if lowK (pvK L k) ⟨key, val, dead⟩ = true then 5 else entsG (pvK L (k + 1)) (L.drop (k + 1)) := by have := HNo.out; rw [hs] at this; simpa using this
            clear HNo hs hlow
            cases k with
            | zero =>
              rw [low_zero] at hno
              have HN := Lib.hid (show E = entsG (pvK L 1) (L.drop 1) by simpa using hno)
              clear hno hr
              simp only [Nat.zero_mul, Nat.add_zero] at c0 c1 c2
              rcases hgo with ⟨-, rfl⟩ | ⟨-, rfl, rfl⟩
              all_goals
                go_wp2_with fail
                go_quiet (fail)
                go_wp2_with fail
                go_roundw
                case rel => exact ⟨1, by omega, by go_num, HN.out, ⟨HB1.os, HB1.tape, HB1.output, HB1.size, HB1.block⟩⟩
                case measure => simp [intOf]; omega
            | succ k =>
              have hlt0 : k < L.length := by omega
              obtain ⟨b', o', hbo, d0, d1, d2⟩ := ens_at (h.keep hb) k hlt0
              simp only [Option.some.injEq, Addr.mk.injEq, and_true] at hbo
              obtain ⟨rfl, rfl⟩ := hbo
              rw [low_next hlt0] at hno
              have HN := Lib.hid hno
              clear hno hr d1 d2
              generalize hr' : L[k] = r' at *
              obtain ⟨key', val', dead'⟩ := r'
              simp only at d0
              have hbl : b < wr.heap.size := cell_lt d0
              have d0' : (wr.alloc (.cells #[.string key, .string val, .bool dead] 40)).cell? ⟨b, o + k * 3, none⟩ = some (.string key') := by
                rw [World.cell?_of_block (w := wr) (Below.heap_alloc _ _ _ hbl)]; exact d0
              have hk1 : (0 : Int) < ((k + 1 : Nat) : Int) := by omega
              have hi0 : (0 : Int) ≤ (k : Int) := by omega
              have hi1 : (k : Int) < (L.length : Int) := by omega
              have hi2 : (k : Int) ≤ (L.length : Int) := by omega
              have hi5 : IntKind.i64.wrap (k : Int) = (k : Int) := by simp [IntKind.wrap, IntKind.bits, IntKind.signed]; omega
              have hi4 : (k : Int) + 1 ≤ 400 := by omega
              by_cases hl : key'.data.toList < key.data.toList
              · have hlB := less_yes hl
                have HN' := Lib.hid (show E = entsG (pvK L (k + 2)) (L.drop (k + 2)) by have := HN.out; simpa [kl, hl] using this)
                clear HN hr'
                rcases hgo with ⟨-, rfl⟩ | ⟨-, rfl, rfl⟩
                all_goals
                  go_wp2_with fail
                  go_quiet (fail)
                  go_wp2_with fail
                  go_roundw
                  case rel => exact ⟨k + 2, by omega, by go_num, HN'.out, ⟨HB1.os, HB1.tape, HB1.output, HB1.size, HB1.block⟩⟩
                  case measure => simp [intOf]; omega
              · have hlB := less_no hl
                have e5 : E = 5 := by have := HN.out; simpa [kl, hl] using this
                subst e5
                clear HN hr'
                rcases hgo with ⟨-, rfl⟩ | ⟨-, rfl, rfl⟩
                all_goals
                  go_wp2_with fail
                  go_quiet (fail)
                  go_wp2_with fail
                  go_ret
                  exact ⟨rfl, ⟨HB1.os, HB1.tape, HB1.output, HB1.size, HB1.block⟩⟩
      · have e0 : E = 0 := by rw [hno]; exact ents_end (by omega) _
        subst e0
        go_wp2_with fail
        go_ret
        exact ⟨rfl, hb⟩
end Go.Proofs.YtckjcjoheeobgaaGreatDoor
