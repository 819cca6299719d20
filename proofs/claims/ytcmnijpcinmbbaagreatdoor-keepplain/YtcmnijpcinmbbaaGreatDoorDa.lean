/- Names; what bars a step. -/
import Derived.Test.YtcmnijpcinmbbaaGreatDoorBs
namespace Go.Proofs.YtcmnijpcinmbbaaGreatDoor
open Go.RowKit

/-- An error as a value. -/
def erV (e : Int) : Value := if e = 0 then .nilIface else .iface 47 (.int .i64 e)
theorem erV_0 : erV 0 = .nilIface := rfl
theorem erV_2 : erV 2 = .iface 47 (.int .i64 2) := rfl
theorem erV_4 : erV 4 = .iface 47 (.int .i64 4) := rfl
theorem erV_6 : erV 6 = .iface 47 (.int .i64 6) := rfl
theorem erV_7 : erV 7 = .iface 47 (.int .i64 7) := rfl

theorem nm_iff (c : UInt8) : nmB c = true ↔ ((97 ≤ (c.toNat : Int) ∧ (c.toNat : Int) ≤ 122) ∨ (48 ≤ (c.toNat : Int) ∧ (c.toNat : Int) ≤ 57) ∨ (c.toNat : Int) = 45) := by
  unfold nmB; simp; omega
theorem nm_false {c : UInt8} (h : ¬ ((97 ≤ (c.toNat : Int) ∧ (c.toNat : Int) ≤ 122) ∨ (48 ≤ (c.toNat : Int) ∧ (c.toNat : Int) ≤ 57) ∨ (c.toNat : Int) = 45)) : nmB c = false := by
  cases e : nmB c with
  | false => rfl
  | true => exact absurd ((nm_iff c).1 e) h

set_option maxHeartbeats 1000000 in
set_option maxRecDepth 100000 in
theorem nameByte_any (c : UInt8) (w : World) : Calls Tryz.prog 77 #[.int .u8 c.toNat] w fun e w' => e = .returned (.bool (nmB c)) ∧ w = w' := by
  have hr : (c.toNat : Int) < 256 := by have := c.toNat_lt; omega
  obtain ⟨b, hb⟩ : ∃ b, b = nmB c := ⟨_, rfl⟩
  rw [← hb]
  have HB := Lib.hid hb
  clear hb
  go_enter Tryz.func77, Tryz.ntmps77
  go_wp2
  all_goals go_ret
  all_goals refine ⟨ret_bool ?_, rfl⟩
  all_goals rw [HB.out]
  all_goals first
    | (rw [nm_false (by omega)]; done)
    | (rw [(nm_iff c).2 (by omega)]; done)
    | (rw [nm_false (by omega)]; simp; omega)
    | (rw [(nm_iff c).2 (by omega)]; simp; omega)
    | (rw [Bool.eq_iff_iff, nm_iff]; simp; omega)
    | skip

theorem isNm_false {s : ByteArray} {k : Nat} (h : k < s.size) (hc : nmB s[k] = false) : isNm s = false := by
  unfold isNm
  have : s.data.toList.all nmB = false := by
    rw [List.all_eq_false]
    exact ⟨s[k], by show s.data[k] ∈ _; simp, by simp [hc]⟩
  rw [this]; simp
theorem isNm_true {s : ByteArray} (h1 : 1 ≤ s.size) (h2 : s.size ≤ 20) (hc : ∀ k (h : k < s.size), nmB s[k] = true) : isNm s = true := by
  unfold isNm
  have : s.data.toList.all nmB = true := by
    rw [List.all_eq_true]
    intro c hm
    obtain ⟨k, hk, rfl⟩ := List.getElem_of_mem hm
    exact hc k (by simpa using hk)
  rw [this]; simp; omega
set_option maxRecDepth 100000 in
set_option maxHeartbeats 1000000 in
theorem isName_any (s : ByteArray) (w : World) (hs : s.size ≤ maxLen) : Calls Tryz.prog 58 #[.string s] w fun e w' => e = .returned (.bool (isNm s)) ∧ w = w' := by
  unfold maxLen at hs
  obtain ⟨b, hb⟩ : ∃ b, b = isNm s := ⟨_, rfl⟩
  rw [← hb]
  have HB := Lib.hid hb
  clear hb
  by_cases h1 : 1 ≤ s.size ∧ s.size ≤ 20
  · obtain ⟨h1, h2⟩ := h1
    have h1' : ¬ (s.size : Int) < 1 := by omega
    have h2' : ¬ (20 : Int) < s.size := by omega
    go_enter Tryz.func58, Tryz.ntmps58
    go_wp2
    go_loop [14] (fun i => ∃ k : Nat, k ≤ s.size ∧ i = .int .i64 k ∧ ∀ j (h : j < s.size), j < k → nmB s[j] = true) (fun i => s.size - (intOf i).toNat)
    case atStart => exact ⟨0, Nat.zero_le _, rfl, fun j _ h => by omega⟩
    case round =>
      obtain ⟨k, hk, rfl, hall⟩ := hrel
      have HA := Lib.hid hall
      clear hall
      by_cases hlt : k < s.size
      · have hi : (k : Int) < s.size := by omega
        cases hc : nmB s[k] with
        | true =>
          have HC := Lib.hid hc
          have HN := nameByte_any s[k] w
          rw [hc] at HN
          clear hc
          go_wp2_with (go_at_call 77; refine HN.mono ?_; rintro e w' ⟨rfl, rfl⟩)
          go_round
          case rel => exact ⟨k + 1, by omega, by go_num, fun j h hj => by
            by_cases e : j = k
            · subst e; exact HC.out
            · exact HA.out j h (by omega)⟩
          case measure => simp [intOf]; omega
        | false =>
          have HC := Lib.hid (isNm_false hlt hc)
          have HN := nameByte_any s[k] w
          rw [hc] at HN
          clear hc
          go_wp2_with (go_at_call 77; refine HN.mono ?_; rintro e w' ⟨rfl, rfl⟩)
          go_ret
          exact ⟨ret_bool (by rw [HB.out, HC.out]), rfl⟩
      · have hi : ¬ (k : Int) < s.size := by omega
        go_wp2
        go_ret
        exact ⟨ret_bool (by rw [HB.out, isNm_true h1 h2 (fun j h => HA.out j h (by omega))]), rfl⟩
  · have hF : isNm s = false := by
      unfold isNm; rw [decide_eq_false h1]; rfl
    by_cases h2 : s.size < 1
    · have h2' : (s.size : Int) < 1 := by omega
      go_enter Tryz.func58, Tryz.ntmps58
      go_wp2
      go_ret
      exact ⟨ret_bool (by rw [HB.out, hF]), rfl⟩
    · have h2' : ¬ (s.size : Int) < 1 := by omega
      have h3' : (20 : Int) < s.size := by omega
      go_enter Tryz.func58, Tryz.ntmps58
      go_wp2
      go_ret
      exact ⟨ret_bool (by rw [HB.out, hF]), rfl⟩

/-- Strings behind a slice. -/
def SsAt (w : World) (p : Option Addr) (l : List ByteArray) : Prop :=
  l = [] ∨ ∃ b o, p = some ⟨b, o, none⟩ ∧ ∀ i (h : i < l.length), w.cell? ⟨b, o + i, none⟩ = some (.string l[i])
theorem all_take {l : List ByteArray} {k : Nat} (h : k < l.length) : (l.take (k + 1)).all isNm = ((l.take k).all isNm && isNm l[k]) := by
  rw [List.take_succ_eq_append_getElem h, List.all_append]; simp
theorem all_not {l : List ByteArray} {k : Nat} (h : k < l.length) (hf : isNm l[k] = false) : l.all isNm = false := by
  rw [List.all_eq_false]; exact ⟨l[k], List.getElem_mem h, by simp [hf]⟩
set_option maxRecDepth 100000 in
set_option maxHeartbeats 1000000 in
theorem check_any (w : World) (B : Nat) (s bd : Int) (c2 : w.cell? ⟨B, 2, none⟩ = some (.int .i64 s)) (c3 : w.cell? ⟨B, 3, none⟩ = some (.int .i64 bd)) (p : Option Addr) (c : Nat) (l : List ByteArray) (hl : SsAt w p l) (hn : l.length ≤ 100) (hz : ∀ x ∈ l, x.size ≤ maxLen) (n : Nat) (hnl : n = l.length) :
    Calls Tryz.prog 34 #[.pointer (some ⟨B, 0, none⟩), .slice p n c] w fun e w' => e = .returned (erV (chkP s bd l)) ∧ ∃ m, w' = w.drewN m := by
  subst hnl
  obtain ⟨r, hr⟩ : ∃ r, r = chkP s bd l := ⟨_, rfl⟩
  rw [← hr]
  have HR := Lib.hid hr
  clear hr
  by_cases hb : 0 ≤ bd ∧ bd ≤ s
  · have hd : decide (0 ≤ bd) = true := by simpa using hb.1
    have hd2 : decide (bd ≤ s) = true := by simpa using hb.2
    obtain ⟨hb1, hb2⟩ := hb
    go_enter Tryz.func34, Tryz.ntmps34
    go_wp2
    go_quiet (fail)
    go_wp2
    go_ret
    exact ⟨by rw [HR.out]; unfold chkP; rw [if_pos ⟨hb1, hb2⟩]; rfl, _, rfl⟩
  · by_cases h0 : 0 ≤ bd
    · skip
      have hd : decide (0 ≤ bd) = true := by simpa using h0
      have hd2 : decide (bd ≤ s) = false := by simp; omega
      have hd3 : ¬ bd ≤ s := by omega
      go_enter Tryz.func34, Tryz.ntmps34
      go_wp2
      go_quiet (fail)
      go_wp2
      go_loop [26] (fun i => ∃ k : Nat, k ≤ l.length ∧ i = .int .i64 k ∧ (l.take k).all isNm = true) (fun i => l.length - (intOf i).toNat)
      case atStart => exact ⟨0, Nat.zero_le _, rfl, rfl⟩
      case round =>
        obtain ⟨k, hk, rfl, hall⟩ := hrel
        have HA := Lib.hid hall
        clear hall
        by_cases hlt : k < l.length
        · have hi : (k : Int) < l.length := by omega
          rcases hl with hl | ⟨bb, bo, rfl, hl⟩
          · subst hl; simp at hlt
          have ck : (w.drewN nq).cell? ⟨bb, bo + k, none⟩ = some (.string l[k]) := hl k hlt
          have hsz := hz _ (List.getElem_mem hlt)
          cases hc : isNm l[k] with
          | true =>
            have HC := Lib.hid (show (l.take (k + 1)).all isNm = true by rw [all_take hlt, HA.out, hc]; rfl)
            have HN := isName_any l[k] (w.drewN nq) hsz
            rw [hc] at HN
            clear hc hl hz
            generalize l[k] = x at *
            go_wp2_with (go_at_call 58; refine HN.mono ?_; rintro e w' ⟨rfl, rfl⟩)
            go_round
            case rel => exact ⟨k + 1, by omega, by go_num, HC.out⟩
            case measure => simp [intOf]; omega
          | false =>
            have HC := Lib.hid (all_not hlt hc)
            have HN := isName_any l[k] (w.drewN nq) hsz
            rw [hc] at HN
            clear hc hl hz
            generalize l[k] = x at *
            go_wp2_with (go_at_call 58; refine HN.mono ?_; rintro e w' ⟨rfl, rfl⟩)
            go_ret
            exact ⟨by rw [HR.out]; unfold chkP; rw [if_neg hb, HC.out]; rfl, _, rfl⟩
        · have hi : ¬ (k : Int) < l.length := by omega
          have HC := Lib.hid (show l.all isNm = true by have := HA.out; rwa [List.take_of_length_le (by omega)] at this)
          go_wp2
          go_ret
          exact ⟨by rw [HR.out]; unfold chkP; rw [if_neg hb, HC.out]; rfl, _, rfl⟩
    · skip
      have hd : decide (0 ≤ bd) = false := by simpa using h0
      go_enter Tryz.func34, Tryz.ntmps34
      go_wp2
      go_quiet (fail)
      go_wp2
      go_loop [26] (fun i => ∃ k : Nat, k ≤ l.length ∧ i = .int .i64 k ∧ (l.take k).all isNm = true) (fun i => l.length - (intOf i).toNat)
      case atStart => exact ⟨0, Nat.zero_le _, rfl, rfl⟩
      case round =>
        obtain ⟨k, hk, rfl, hall⟩ := hrel
        have HA := Lib.hid hall
        clear hall
        by_cases hlt : k < l.length
        · have hi : (k : Int) < l.length := by omega
          rcases hl with hl | ⟨bb, bo, rfl, hl⟩
          · subst hl; simp at hlt
          have ck : (w.drewN nq).cell? ⟨bb, bo + k, none⟩ = some (.string l[k]) := hl k hlt
          have hsz := hz _ (List.getElem_mem hlt)
          cases hc : isNm l[k] with
          | true =>
            have HC := Lib.hid (show (l.take (k + 1)).all isNm = true by rw [all_take hlt, HA.out, hc]; rfl)
            have HN := isName_any l[k] (w.drewN nq) hsz
            rw [hc] at HN
            clear hc hl hz
            generalize l[k] = x at *
            go_wp2_with (go_at_call 58; refine HN.mono ?_; rintro e w' ⟨rfl, rfl⟩)
            go_round
            case rel => exact ⟨k + 1, by omega, by go_num, HC.out⟩
            case measure => simp [intOf]; omega
          | false =>
            have HC := Lib.hid (all_not hlt hc)
            have HN := isName_any l[k] (w.drewN nq) hsz
            rw [hc] at HN
            clear hc hl hz
            generalize l[k] = x at *
            go_wp2_with (go_at_call 58; refine HN.mono ?_; rintro e w' ⟨rfl, rfl⟩)
            go_ret
            exact ⟨by rw [HR.out]; unfold chkP; rw [if_neg hb, HC.out]; rfl, _, rfl⟩
        · have hi : ¬ (k : Int) < l.length := by omega
          have HC := Lib.hid (show l.all isNm = true by have := HA.out; rwa [List.take_of_length_le (by omega)] at this)
          go_wp2
          go_ret
          exact ⟨by rw [HR.out]; unfold chkP; rw [if_neg hb, HC.out]; rfl, _, rfl⟩
end Go.Proofs.YtcmnijpcinmbbaaGreatDoor
