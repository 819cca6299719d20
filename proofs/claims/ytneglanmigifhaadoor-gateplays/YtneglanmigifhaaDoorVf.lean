/- Waiting, leastBarrier. -/
import Derived.Test.YtneglanmigifhaaDoorVe
namespace Go.Proofs.YtneglanmigifhaaDoor
open Go.ChangeShapes Go.WideShapes Go.RowKit
set_option linter.unusedVariables false
section
variable {lo : Nat} {w : World} {B L t : Nat} {vs : Nat → Value} {g : Gt Rg}
set_option maxRecDepth 100000 in
set_option maxHeartbeats 1000000 in
theorem waiting_any (h : GtB lo w B L t vs g) : Calls Tryd.prog 15 #[.pointer (some ⟨B, 0, none⟩)] w fun e w' => e = .returned (.int .i64 (manyG g : Nat)) ∧ Below w.heap.size w w' := by
  have c0 := h.c0
  have hn1 := h.n1
  have hle := manyK_le h.len
  have hend := manyK_end g (Nat.le_refl _)
  have hcell : ∀ k, k < g.ws.length → ∃ p c, w.cell? ⟨L, k * 2, none⟩ = some (.slice p (g.ws.getD k []).length c) ∧ w.cell? ⟨L, k * 2 + 1, none⟩ = some (.int .i64 (g.last.getD k 0)) := fun k hk => by
    obtain ⟨p, c, e, -⟩ := (h.own k hk).slice
    exact ⟨p, c, by rw [← e]; exact h.l0 hk, h.l1 hk⟩
  have hnext := fun k (hk : k < g.ws.length) => manyK_next g.ws hk
  have hl4 := h.len
  have hm0 : manyK g.ws 0 = 0 := by simp [manyK]
  have hLt := h.ltL
  clear h
  rw [← hend]
  have HN := Lib.hid hnext
  have HL := Lib.hid hle
  have HC := Lib.hid hcell
  clear hnext hle hcell hend
  have hE : Hid (g.ws.length = g.ws.length) := Lib.hid rfl
  generalize hn : g.ws.length = n at *
  go_enter Tryd.func15, Tryd.ntmps15
  go_wp2_with fail
  go_loopw [3, 11] (fun many at_ wr => ∃ k, k ≤ n ∧ many = .int .i64 (manyK g.ws k : Nat) ∧ at_ = .int .i64 (k : Nat) ∧ Below w.heap.size w wr) (fun _ j _ => n - (intOf j).toNat)
  case atStart => exact ⟨0, Nat.zero_le _, by rw [hm0]; rfl, rfl, Below.refl _ _⟩
  case round =>
    obtain ⟨k, hk, rfl, rfl, hb⟩ := hrel
    by_cases hlt : k < n
    · have hlt' : (k : Int) < n := by omega
      obtain ⟨p, c, d0, d1⟩ := HC.out k hlt
      have e0 := (hb.cell (p := ⟨L, k * 2, none⟩) hLt).trans d0
      have e1 := (hb.cell (p := ⟨L, k * 2 + 1, none⟩) hLt).trans d1
      have hx := HN.out k hlt
      have hy := HL.out (k + 1) (by omega)
      have hb2 := hb.alloc hb.size (.cells #[.slice p (g.ws.getD k []).length c, .int .i64 (g.last.getD k 0)] 60)
      rw [hx] at hy
      have HX := Lib.hid hx
      generalize (g.ws.getD k []).length = a at *
      generalize g.last.getD k 0 = la at *
      generalize manyK g.ws k = m at *
      clear d0 d1 hb hx c0
      go_wp2_with fail
      go_roundw
      case rel => exact ⟨k + 1, by omega, by rw [HX.out]; go_num, by go_num, hb2⟩
      case measure => simp [intOf]; omega
    · have hlt' : ¬ (k : Int) < n := by omega
      obtain rfl : k = n := by omega
      go_wp2_with fail
      go_ret
      exact ⟨rfl, hb⟩
def leastV (ws : List (List Itm)) : Value := .tuple #[.int .i64 ((leastG ws).getD 0), .bool (leastG ws).isSome]
set_option maxRecDepth 100000 in
set_option maxHeartbeats 2000000 in
theorem least_any (h : GtB lo w B L t vs g) : Calls Tryd.prog 23 #[.pointer (some ⟨B, 0, none⟩)] w fun e w' => e = .returned (leastV g.ws) ∧ Below w.heap.size w w' := by
  have c0 := h.c0
  have hn1 := h.n1
  have hn0 := h.n0
  have hLt := h.ltL
  have hno : ∀ k, k < g.ws.length → hBar (g.ws.getD k []) = none → leastV g.ws = .tuple #[.int .i64 0, .bool false] := fun k hk hb => by
    unfold leastV; rw [leastG_none (mem_getD hk) hb]; rfl
  have hyes : ∀ d, leastG (g.ws.take g.ws.length) = some d → leastV g.ws = .tuple #[.int .i64 d, .bool true] := fun d hd => by
    rw [least_all (Nat.le_refl _)] at hd; unfold leastV; rw [hd]; rfl
  have hone := least_one (ws := g.ws) h.n0
  have hnx : ∀ (k : Nat) (a b : Int), 0 < k → k < g.ws.length → leastG (g.ws.take k) = some a → hBar (g.ws.getD k []) = some b → leastG (g.ws.take (k + 1)) = some (if b < a then b else a) := fun k a b h1 h2 h3 h4 => least_next h1 h2 h3 h4
  generalize leastV g.ws = RV at *
  -- a lane, copied
  have hat : ∀ k, k < g.ws.length → ∃ v, w.cell? ⟨L, k * 2, none⟩ = some v ∧ w.cell? ⟨L, k * 2 + 1, none⟩ = some (.int .i64 (g.last.getD k 0)) ∧ (∃ p q c, v = .slice p q c) ∧ ∀ wr o, Below w.heap.size w wr → Calls Tryd.prog 25 #[.pointer (some ⟨wr.heap.size, 0, none⟩)] (wr.alloc (.cells #[v, o] 60)) (fun e w' => e = .returned (.bool (hBar (g.ws.getD k [])).isSome) ∧ wr.alloc (.cells #[v, o] 60) = w') ∧ Calls Tryd.prog 24 #[.pointer (some ⟨wr.heap.size, 0, none⟩)] (wr.alloc (.cells #[v, o] 60)) (fun e w' => e = .returned (.int .i64 (idHead (g.ws.getD k []))) ∧ wr.alloc (.cells #[v, o] 60) = w') := fun k hk => by
    have hi := fun id hid => h.ids _ (mem_getD hk) id hid
    obtain ⟨p, c, e, -⟩ := (h.own k hk).slice
    refine ⟨vs k, h.l0 hk, h.l1 hk, ⟨p, _, c, e⟩, fun wr o hb => ?_⟩
    have hl : LnAt lo (wr.alloc (.cells #[vs k, o] 60)) (vs k) (g.ws.getD k []) := (h.own k hk).block (fun b hb' => ((hb.alloc hb.size _).block b ((h.own k hk).lt hb').2.1))
    have hc : (wr.alloc (.cells #[vs k, o] 60)).cell? ⟨wr.heap.size, 0, none⟩ = some (vs k) := by simp
    have := isBlocked_any hc hl
    rw [blocked_is hi] at this
    exact ⟨this, barrier_any hc hl⟩
  have hids : ∀ k, k < g.ws.length → ∀ m, hBar (g.ws.getD k []) = some m → idHead (g.ws.getD k []) = m := fun k hk m hm => ((idHead_bar (fun id hid => h.ids _ (mem_getD hk) id hid)).1 m hm).1
  clear h
  have HO := Lib.hid hno
  have HY := Lib.hid hyes
  have HA := Lib.hid hat
  have HI := Lib.hid hids
  have HX := Lib.hid hnx
  clear hno hyes hat hids hnx
  have hE : Hid (g.ws.length = g.ws.length) := Lib.hid rfl
  generalize hn : g.ws.length = n at *
  go_enter Tryd.func23, Tryd.ntmps23
  go_wp2_with fail
  go_loopw [2, 11] (fun id at_ wr => ∃ k d, k ≤ n ∧ id = .int .i64 d ∧ at_ = .int .i64 (k : Nat) ∧ Below w.heap.size w wr ∧ (k = 0 ∨ 0 < k ∧ leastG (g.ws.take k) = some d)) (fun _ j _ => n - (intOf j).toNat)
  case atStart => exact ⟨0, 0, Nat.zero_le _, rfl, rfl, Below.refl _ _, .inl rfl⟩
  case round =>
    obtain ⟨k, d, hk, rfl, rfl, hb, hd⟩ := hrel
    by_cases hlt : k < n
    · have hlt' : (k : Int) < n := by omega
      obtain ⟨v, d0, d1, ⟨vp, vq, vc, rfl⟩, hcalls⟩ := HA.out k hlt
      have e0 := (hb.cell (p := ⟨L, k * 2, none⟩) hLt).trans d0
      have e1 := (hb.cell (p := ⟨L, k * 2 + 1, none⟩) hLt).trans d1
      have hb2 := hb.alloc hb.size (.cells #[.slice vp vq vc, .int .i64 (g.last.getD k 0)] 60)
      rename World => wr
      obtain ⟨K1, K2⟩ := hcalls _ (.int .i64 (g.last.getD k 0)) hb
      cases hm : hBar (g.ws.getD k []) with
      | none =>
        have hR := HO.out k hlt hm
        rw [hm] at K1
        generalize g.last.getD k 0 = la at *
        clear d0 d1 hb c0 K2 hcalls
        go_wp2_with (go_at_call 25; refine K1.mono ?_; rintro e u ⟨rfl, rfl⟩)
        exact bodyPost_ret (v := .tuple #[.int .i64 0, .bool false]) (by simp [results, Tryd.results23, go_sem]) rfl ⟨by first | rw [hR] | rfl, hb2⟩
      | some m =>
        have hI := HI.out k hlt m hm
        rw [hm] at K1
        rw [hI] at K2
        have HM := Lib.hid hm
        generalize g.last.getD k 0 = la at *
        clear d0 d1 hb c0 hcalls hI hm
        rcases hd with rfl | ⟨h0, hd⟩
        · have H1 := Lib.hid hone
          clear hone
          go_wp2_with first | (go_at_call 25; refine K1.mono ?_; rintro e u ⟨rfl, rfl⟩) | (go_at_call 24; refine K2.mono ?_; rintro e u ⟨rfl, rfl⟩)
          go_roundw
          case rel => exact ⟨1, m, by omega, rfl, by go_num, hb2, .inr ⟨by omega, by rw [H1.out]; exact HM.out⟩⟩
          case measure => simp [intOf]; omega
        · have HD := Lib.hid hd
          have hk0 : ((k : Int) == 0) = false := by simp; omega
          clear hd hone
          by_cases hmd : m < d
          · go_wp2_with first | (go_at_call 25; refine K1.mono ?_; rintro e u ⟨rfl, rfl⟩) | (go_at_call 24; refine K2.mono ?_; rintro e u ⟨rfl, rfl⟩)
            go_roundw
            case rel => exact ⟨k + 1, m, by omega, rfl, by go_num, hb2, .inr ⟨by omega, by rw [HX.out k d m h0 (by omega) HD.out HM.out, if_pos hmd]⟩⟩
            case measure => simp [intOf]; omega
          · go_wp2_with first | (go_at_call 25; refine K1.mono ?_; rintro e u ⟨rfl, rfl⟩) | (go_at_call 24; refine K2.mono ?_; rintro e u ⟨rfl, rfl⟩)
            go_roundw
            case rel => exact ⟨k + 1, d, by omega, rfl, by go_num, hb2, .inr ⟨by omega, by rw [HX.out k d m h0 (by omega) HD.out HM.out, if_neg (by omega)]⟩⟩
            case measure => simp [intOf]; omega
    · have hlt' : ¬ (k : Int) < n := by omega
      obtain rfl : k = n := by omega
      have hR := HY.out d (by rcases hd with h | h; omega; exact h.2)
      go_wp2_with fail
      exact bodyPost_ret (v := .tuple #[.int .i64 d, .bool true]) (by simp [results, Tryd.results23, go_sem]) rfl ⟨by first | rw [hR] | rfl, hb⟩
end
end Go.Proofs.YtneglanmigifhaaDoor
