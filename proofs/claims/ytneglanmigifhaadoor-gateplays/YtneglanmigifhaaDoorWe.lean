/- The document's gate: Bound. -/
import Derived.Test.YtneglanmigifhaaDoorWd
namespace Go.Proofs.YtneglanmigifhaaDoor
open Go.ChangeShapes Go.WideShapes Go.RowKit
set_option linter.unusedVariables false
section
variable {lo : Nat} {w : World} {M WB LB : Nat} {us : Nat → Value} {g : Gt Rg}
/-- A row that a barrier heads. -/
theorem bar_head (h : MgB lo w M WB LB us g) {i : Nat} (hi : i < g.ws.length) {d : Int} (hx : hBar (g.ws.getD i []) = some d) :
    ∃ b o c m, w.cell? ⟨WB, i, none⟩ = some (.slice (some ⟨b, o, none⟩) (m + 1) c) ∧ m + 1 ≤ c ∧ c ≤ maxLen ∧ w.cell? ⟨b, o + 3, none⟩ = some (.int .i64 d) ∧ 0 < d ∧
      ∀ w1, Below w.heap.size w w1 → ∃ us', MgB lo (w1.setCell ⟨WB, i, none⟩ (.slice (if c = 1 then some ⟨b, o, none⟩ else some ⟨b, o + 4, none⟩) m (c - 1))) M WB LB us' { g with ws := g.ws.set i (g.ws.getD i []).tail } ∧ FrD lo w (w1.setCell ⟨WB, i, none⟩ (.slice (if c = 1 then some ⟨b, o, none⟩ else some ⟨b, o + 4, none⟩) m (c - 1))) := by
  have hx' := (hBar_some hx).1
  have hr := h.own i hi
  rw [hx'] at hr
  have hlen := h.len i hi
  have hid := h.ids _ (mem_getD hi) d (by rw [hx']; simp)
  obtain ⟨b, o, c, e, q1, q2, q3, q4, q5, q6, q7, q8⟩ := hr.head
  refine ⟨b, o, c, _, by rw [← e]; exact h.w0 hi, q1, q2, q6, hid, fun w1 hb => ?_⟩
  have hr2 := (q8 _ rfl).block (fun k cur hc => by rw [hb.block k (some_lt hc)]; exact hc)
  obtain ⟨a1, a2⟩ := h.setRow hi hb hr2 (by rw [List.length_tail]; omega) (fun id hid => h.ids _ (mem_getD hi) id (List.mem_of_mem_tail hid))
  exact ⟨_, a1, a2⟩
set_option maxRecDepth 100000 in
set_option maxHeartbeats 2000000 in
theorem mbound_no (h : MgB lo w M WB LB us g) (hg : boundG g = none) : Calls Tryd.prog 12 #[.pointer (some ⟨M, 0, none⟩)] w fun e w' => e = .returned (.tuple #[.int .i64 0, .bool false]) ∧ w = w' := by
  have c0 := h.c0
  have hn0 := h.n0
  have hn1 := h.n1
  have HB := Lib.hid (fun k (hk : k < g.ws.length) => mblocked_any h hk)
  have HD := Lib.hid (fun k (hk : k < g.ws.length) d (hd : hBar (g.ws.getD k []) = some d) => bar_head h hk hd)
  have HZ := Lib.hid (show (∀ j, j < g.ws.length → ∃ d, hBar (g.ws.getD j []) = some d) → False from fun hall => by
    have hex : ∀ k, 0 < k → k ≤ g.ws.length → ∃ d, leastG (g.ws.take k) = some d := by
      intro k
      induction k with
      | zero => intro h1; omega
      | succ k ih =>
        intro _ h2
        by_cases hk : k = 0
        · subst hk; rw [least_one hn0]; exact hall 0 hn0
        · obtain ⟨a, ha⟩ := ih (by omega) (by omega)
          obtain ⟨b, hb⟩ := hall k (by omega)
          exact ⟨_, least_next (by omega) (by omega) ha hb⟩
    obtain ⟨d, hd⟩ := hex g.ws.length hn0 (Nat.le_refl _)
    rw [least_all (Nat.le_refl _)] at hd
    rw [boundG_is hd] at hg; cases hg)
  clear h hg
  have hE : Hid (g.ws.length = g.ws.length) := Lib.hid rfl
  generalize hn : g.ws.length = n at *
  go_enter Tryd.func12, Tryd.ntmps12
  go_wp2_with fail
  go_loopw [4, 5] (fun lv iv wr => ∃ (k : Nat) (d : Int), k ≤ n ∧ lv = .int .i64 d ∧ iv = .int .i64 (k : Nat) ∧ wr = w ∧ ∀ j, j < k → ∃ d, hBar (g.ws.getD j []) = some d) (fun _ iv _ => n - (intOf iv).toNat)
  case atStart => exact ⟨0, 0, Nat.zero_le _, rfl, rfl, rfl, fun j hj => by omega⟩
  case round =>
    obtain ⟨k, d, hk, rfl, rfl, rfl, hj⟩ := hrel
    rename World => wr
    by_cases hlt : k < n
    · have hlt' : (k : Int) < n := by omega
      have KB := HB.out k hlt
      cases hm : hBar (g.ws.getD k []) with
      | none =>
        rw [hm] at KB
        clear hj
        go_wp2_with (go_at_call 13; refine KB.mono ?_; rintro e u ⟨rfl, rfl⟩)
        exact bodyPost_ret (v := .tuple #[.int .i64 0, .bool false]) (by simp [results, Tryd.results12, go_sem]) rfl ⟨rfl, rfl⟩
      | some m =>
        rw [hm] at KB
        obtain ⟨b, o, c, q, z1, z2, z3, z4, z5, -⟩ := HD.out k hlt m hm
        have HJ := Lib.hid (show ∀ j, j < k + 1 → ∃ d, hBar (g.ws.getD j []) = some d from fun j hj' => by
          by_cases e : j = k
          · rw [e]; exact ⟨m, hm⟩
          · exact hj j (by omega))
        have hq : (0 : Int) < (q : Int) + 1 := by omega
        clear hj hm HB HD
        by_cases hd0 : d = 0
        · subst hd0
          go_wp2_with (go_at_call 13; refine KB.mono ?_; rintro e u ⟨rfl, rfl⟩)
          go_roundw
          case rel => exact ⟨k + 1, m, by omega, rfl, by go_num, trivial, HJ.out⟩
          case measure => simp [intOf]; omega
        · have hd0' : (d == 0) = false := by simpa using hd0
          by_cases hmd : m < d
          · go_wp2_with (go_at_call 13; refine KB.mono ?_; rintro e u ⟨rfl, rfl⟩)
            go_roundw
            case rel => exact ⟨k + 1, m, by omega, rfl, by go_num, trivial, HJ.out⟩
            case measure => simp [intOf]; omega
          · go_wp2_with (go_at_call 13; refine KB.mono ?_; rintro e u ⟨rfl, rfl⟩)
            go_roundw
            case rel => exact ⟨k + 1, d, by omega, rfl, by go_num, trivial, HJ.out⟩
            case measure => simp [intOf]; omega
    · exact (HZ.out (fun j hj' => hj j (by omega))).elim
set_option maxRecDepth 100000 in
set_option maxHeartbeats 2000000 in
theorem mbound_ok (h : MgB lo w M WB LB us g) {m : Int} {g' : Gt Rg} (hg : boundG g = some (m, g')) : Calls Tryd.prog 12 #[.pointer (some ⟨M, 0, none⟩)] w fun e w' => e = .returned (.tuple #[.int .i64 m, .bool true]) ∧ (∃ us', MgB lo w' M WB LB us' g') ∧ FrD lo w w' := by
  obtain ⟨hl, hg'⟩ : leastG g.ws = some m ∧ g' = { g with ws := g.ws.map (cutH m) } := by
    cases hc : leastG g.ws with
    | none => unfold boundG at hg; rw [hc] at hg; cases hg
    | some m' =>
      rw [boundG_is hc] at hg
      injection hg with hg
      injection hg with h1 h2
      subst h1
      exact ⟨rfl, h2.symm⟩
  have c0 := h.c0
  have hn0 := h.n0
  have hn1 := h.n1
  have hM := h.ltM
  have HB := Lib.hid (fun k (hk : k < g.ws.length) => mblocked_any h hk)
  have HA := Lib.hid (show ∀ k, k < g.ws.length → ∃ d, hBar (g.ws.getD k []) = some d from fun k hk => by
    cases hc : hBar (g.ws.getD k []) with
    | none => rw [leastG_none (mem_getD hk) hc] at hl; cases hl
    | some d => exact ⟨d, rfl⟩)
  have HD := Lib.hid (fun k (hk : k < g.ws.length) d (hd : hBar (g.ws.getD k []) = some d) => bar_head h hk hd)
  have hone := Lib.hid (least_one (ws := g.ws) hn0)
  have HX := Lib.hid (show ∀ (k : Nat) (a b : Int), 0 < k → k < g.ws.length → leastG (g.ws.take k) = some a → hBar (g.ws.getD k []) = some b → leastG (g.ws.take (k + 1)) = some (if b < a then b else a) from fun k a b h1 h2 h3 h4 => least_next h1 h2 h3 h4)
  have HL := Lib.hid (show ∀ d, leastG (g.ws.take g.ws.length) = some d → d = m from fun d hd => by
    rw [least_all (Nat.le_refl _), hl] at hd; injection hd with hd; exact hd.symm)
  have HG0 := Lib.hid (show MgB lo w M WB LB us { g with ws := cutK m g.ws 0 } ∧ FrD lo w w from ⟨by rw [cutK_zero]; exact h, FrD.refl _ _⟩)
  have HZ := Lib.hid (show ∀ (wr : World) (us' : Nat → Value) (k : Nat), MgB lo wr M WB LB us' { g with ws := cutK m g.ws k } → g.ws.length ≤ k → MgB lo wr M WB LB us' g' from fun wr us' k hG hk => by
    rw [cutK_end m g.ws hk] at hG
    rw [hg']; exact hG)
  -- a round of the second loop
  have HS := Lib.hid (show ∀ (wr : World) (us' : Nat → Value) (k : Nat), MgB lo wr M WB LB us' { g with ws := cutK m g.ws k } → k < g.ws.length → ∃ (b o c q : Nat) (d : Int), wr.cell? ⟨M, 0, none⟩ = some (.slice (some ⟨WB, 0, none⟩) g.ws.length g.ws.length) ∧ M ≠ WB ∧ wr.cell? ⟨WB, k, none⟩ = some (.slice (some ⟨b, o, none⟩) (q + 1) c) ∧ wr.frozen? ⟨WB, k, none⟩ = false ∧ q + 1 ≤ c ∧ c ≤ maxLen ∧ wr.cell? ⟨b, o + 3, none⟩ = some (.int .i64 d) ∧
      ((d == m) = true ∧ (∃ us2, MgB lo (wr.drew.setCell ⟨WB, k, none⟩ (.slice (if c = 1 then some ⟨b, o, none⟩ else some ⟨b, o + 4, none⟩) q (c - 1))) M WB LB us2 { g with ws := cutK m g.ws (k + 1) }) ∧ FrD lo wr (wr.drew.setCell ⟨WB, k, none⟩ (.slice (if c = 1 then some ⟨b, o, none⟩ else some ⟨b, o + 4, none⟩) q (c - 1))) ∨ (d == m) = false ∧ MgB lo wr M WB LB us' { g with ws := cutK m g.ws (k + 1) }) from by
    intro wr us' k hG hk
    have hlen := cutK_len m g.ws k
    have hk' : k < (cutK m g.ws k).length := by omega
    have hat := cutK_at m g.ws hk
    obtain ⟨d, hd⟩ := HA.out k hk
    have hd' : hBar ((cutK m g.ws k).getD k []) = some d := by rw [hat]; exact hd
    obtain ⟨b, o, c, q, z1, z2, z3, z4, z5, z6⟩ := bar_head hG hk' hd'
    have hc0 := hG.c0
    simp only at hc0
    rw [hlen] at hc0
    refine ⟨b, o, c, q, d, hc0, hG.nes.1, z1, hG.fW k, z2, z3, z4, ?_⟩
    have hnx := cutK_next m g.ws hk
    by_cases e : d = m
    · subst e
      left
      obtain ⟨us2, a1, a2⟩ := z6 wr.drew ⟨rfl, rfl, rfl, Nat.le_refl _, fun _ _ => rfl⟩
      refine ⟨by simp, ⟨us2, ?_⟩, a2⟩
      rw [hnx, cutH_yes hd, ← hat]; exact a1
    · right
      refine ⟨by simpa using e, ?_⟩
      rw [hnx, cutH_not (by rw [hd]; simpa using e), ← hat, set_self _ _ _ hk']; exact hG)
  clear h hg hl hg'
  have hE : Hid (g.ws.length = g.ws.length) := Lib.hid rfl
  generalize hn : g.ws.length = n at *
  go_enter Tryd.func12, Tryd.ntmps12
  go_wp2_with fail
  go_loopw [4, 5] (fun lv iv wr => ∃ (k : Nat) (d : Int), k ≤ n ∧ lv = .int .i64 d ∧ iv = .int .i64 (k : Nat) ∧ wr = w ∧ (k = 0 ∧ d = 0 ∨ 0 < k ∧ 0 < d ∧ leastG (g.ws.take k) = some d)) (fun _ iv _ => n - (intOf iv).toNat)
  case atStart => exact ⟨0, 0, Nat.zero_le _, rfl, rfl, rfl, .inl ⟨rfl, rfl⟩⟩
  case round =>
    obtain ⟨k, d, hk, rfl, rfl, rfl, hd⟩ := hrel
    rename World => wr
    by_cases hlt : k < n
    · have hlt' : (k : Int) < n := by omega
      have KB := HB.out k hlt
      obtain ⟨x, hm⟩ := HA.out k hlt
      rw [hm] at KB
      obtain ⟨b, o, c, q, z1, z2, z3, z4, z5, -⟩ := HD.out k hlt x hm
      have HM := Lib.hid hm
      have hq : (0 : Int) < (q : Int) + 1 := by omega
      clear hm HB HD HS HZ HG0 HL HA
      rcases hd with ⟨rfl, rfl⟩ | ⟨h0, hdp, hd⟩
      · go_wp2_with (go_at_call 13; refine KB.mono ?_; rintro e u ⟨rfl, rfl⟩)
        go_roundw
        case rel => exact ⟨1, x, by omega, rfl, by go_num, trivial, .inr ⟨by omega, z5, by rw [hone.out]; exact HM.out⟩⟩
        case measure => simp [intOf]; omega
      · have hd0' : (d == 0) = false := by simp; omega
        have HDD := Lib.hid hd
        clear hd
        by_cases hmd : x < d
        · go_wp2_with (go_at_call 13; refine KB.mono ?_; rintro e u ⟨rfl, rfl⟩)
          go_roundw
          case rel => exact ⟨k + 1, x, by omega, rfl, by go_num, trivial, .inr ⟨by omega, z5, by rw [HX.out k d x h0 (by omega) HDD.out HM.out, if_pos hmd]⟩⟩
          case measure => simp [intOf]; omega
        · go_wp2_with (go_at_call 13; refine KB.mono ?_; rintro e u ⟨rfl, rfl⟩)
          go_roundw
          case rel => exact ⟨k + 1, d, by omega, rfl, by go_num, trivial, .inr ⟨by omega, hdp, by rw [HX.out k d x h0 (by omega) HDD.out HM.out, if_neg (by omega)]⟩⟩
          case measure => simp [intOf]; omega
    · have hlt' : ¬ (k : Int) < n := by omega
      obtain rfl : k = n := by omega
      obtain rfl : d = m := HL.out d (by rcases hd with h | h; omega; exact h.2.2)
      clear HB HD HA hone HX HL hd
      go_wp2_with fail
      go_loopw [7] (fun iv u => ∃ (q : Nat) (us' : Nat → Value), q ≤ k ∧ iv = .int .i64 (q : Nat) ∧ MgB lo u M WB LB us' { g with ws := cutK d g.ws q } ∧ FrD lo wr u) (fun iv _ => k - (intOf iv).toNat)
      case atStart => exact ⟨0, us, Nat.zero_le _, rfl, HG0.out.1, HG0.out.2⟩
      case round =>
        clear HG0 c0
        obtain ⟨q, us', hq, rfl, hG, hF⟩ := hrel
        rename World => wu
        have e0 := hG.c0
        simp only [cutK_len] at e0
        rw [hn] at e0
        by_cases hlq : q < k
        · have hlq' : (q : Int) < k := by omega
          obtain ⟨b, o, c, m', x, y0, y1, y2, y3, y4, y5, y6, hw⟩ := HS.out wu us' q hG hlq
          have hm0 : (0 : Int) < (m' : Int) + 1 := by omega
          have qc1 : (1 : Int) ≤ (m' : Int) + 1 := by omega
          have qc2 : (m' : Int) + 1 ≤ (c : Int) := by omega
          have qc3 : (1 : Int) ≤ (c : Int) := by omega
          have qc4 : ((m' : Int) + 1 - 1).toNat = m' := by omega
          have qc5 : ((c : Int) - 1).toNat = c - 1 := by omega
          rcases hw with ⟨he, ⟨us2, hG2⟩, hF2⟩ | ⟨he, hG2⟩
          · have HG2 := Lib.hid hG2
            have HF2 := Lib.hid (hF.trans hF2)
            clear hG hF hG2 hF2 HS
            by_cases hc1 : c = 1
            · subst hc1
              obtain rfl : m' = 0 := by omega
              simp only [if_true, Nat.sub_self] at HG2 HF2
              go_wp2_with fail
              go_region
              all_goals
                rw [show (wu.setCell ⟨WB, q, none⟩ (.slice (some ⟨b, o, none⟩) 0 0)).drew = wu.drew.setCell ⟨WB, q, none⟩ (.slice (some ⟨b, o, none⟩) 0 0) from rfl]
                generalize wu.drew.setCell ⟨WB, q, none⟩ (.slice (some ⟨b, o, none⟩) 0 0) = u2 at *
                go_wp2_with fail
                go_roundw
                case rel => exact ⟨q + 1, us2, by omega, by go_num, HG2.out, HF2.out⟩
                case measure => simp [intOf]; omega
            · simp only [if_neg hc1] at HG2 HF2
              go_wp2_with fail
              go_region
              all_goals
                rw [show (wu.setCell ⟨WB, q, none⟩ (.slice (some ⟨b, o + 4, none⟩) m' (c - 1))).drew = wu.drew.setCell ⟨WB, q, none⟩ (.slice (some ⟨b, o + 4, none⟩) m' (c - 1)) from rfl]
                generalize wu.drew.setCell ⟨WB, q, none⟩ (.slice (some ⟨b, o + 4, none⟩) m' (c - 1)) = u2 at *
                go_wp2_with fail
                go_roundw
                case rel => exact ⟨q + 1, us2, by omega, by go_num, HG2.out, HF2.out⟩
                case measure => simp [intOf]; omega
          · have HG2 := Lib.hid hG2
            clear hG hG2 HS
            go_wp2_with fail
            go_roundw
            case rel => exact ⟨q + 1, us', by omega, by go_num, HG2.out, hF⟩
            case measure => simp [intOf]; omega
        · have hlq' : ¬ (q : Int) < k := by omega
          have hR := HZ.out wu us' q hG (by omega)
          clear hG
          go_wp2_with fail
          exact bodyPost_ret (v := .tuple #[.int .i64 d, .bool true]) (by simp [results, Tryd.results12, go_sem]) rfl ⟨rfl, ⟨us', hR⟩, hF⟩
end
end Go.Proofs.YtneglanmigifhaaDoor
