/- JobBack's walk. -/
import Derived.Test.YthadeccnibnioaaGreatDoorYn
import Derived.Test.YthadeccnibnioaaGreatDoorYj
namespace Go.Proofs.YthadeccnibnioaaGreatDoor
open Go.RowKit
set_option linter.unusedVariables false
theorem Gj.tb {w : World} (h : Gj w) : Tb w.heap.size w := Lib.tabBelow_of_tabIs h.tab
theorem ends_pos {l : List Nd} (h : endsP l ≠ 0) : endsP l = 6 := by unfold endsP at *; split <;> simp_all
theorem step_pos {ah : List Nd} {x : List UInt8 × Bool} {a er : Nat} (h : stepL ah x = .bad a er) : er ≠ 0 := by
  unfold stepL at h
  split at h
  · injection h with _ h; omega
  · split at h
    · injection h with _ h; omega
    · split at h
      · injection h with _ h; omega
      · split at h
        · cases h
        · rename_i h4; injection h with _ h; rw [← h]; exact h4
theorem run_pos : ∀ {xs : List (List UInt8 × Bool)} {ah : List Nd} {a er : Nat}, runL (.ok ah) xs = .bad a er → er ≠ 0
  | [], ah, a, er, h => by rw [runL] at h; cases h
  | x :: xs, ah, a, er, h => by
    rw [runL] at h
    cases hs : stepL ah x with
    | ok l => rw [hs] at h; exact run_pos h
    | bad b e => rw [hs, runL_bad] at h; injection h with _ h2; rw [← h2]; exact step_pos hs
theorem parse_pos {l : List UInt8} {a er : Nat} (h : parseP false l = .bad a er) : er ≠ 0 := by
  rw [parseP, parse_lines _ _ _ (by omega)] at h
  cases hr : runL (.ok []) (linesP l) with
  | ok ah =>
    rw [hr] at h
    unfold endL at h
    simp only at h
    split at h
    · cases h
    · rename_i hn; injection h with _ h; rw [← h]; exact hn
  | bad b e => rw [hr] at h; injection h with _ h2; rw [← h2]; exact run_pos hr
theorem parse_ok {w : World} (hg : Gj w) (s : ByteArray) (hs : s.size ≤ 100000000) {m : List Nd} (h : parseP false s.data.toList = .ok m) : Calls Tryz.prog 25 #[.string s] w fun e w' => ∃ A cap, e = .returned (.tuple #[.slice A m.length cap, .int .i64 0, .nilIface]) ∧ NdsAt w' A m ∧ m.length ≤ cap ∧ Below w.heap.size w w' := by
  refine (jparse_any hg s hs).mono ?_
  rintro e w' ⟨hb, ⟨m', A, cap, h', rfl, hn, hc⟩ | ⟨a, er, h', -⟩⟩
  · rw [h] at h'; injection h' with h'; subst h'
    exact ⟨A, cap, rfl, hn, hc, hb⟩
  · rw [h] at h'; cases h'
theorem parse_no {w : World} (hg : Gj w) (s : ByteArray) (hs : s.size ≤ 100000000) {a er : Nat} (h : parseP false s.data.toList = .bad a er) : Calls Tryz.prog 25 #[.string s] w fun e w' => e = .returned (.tuple #[.slice none 0 0, .int .i64 a, .iface 77 (.int .i64 er)]) ∧ Below w.heap.size w w' := by
  refine (jparse_any hg s hs).mono ?_
  rintro e w' ⟨hb, ⟨m', A, cap, h', -⟩ | ⟨a', er', h', rfl⟩⟩
  · rw [h] at h'; cases h'
  · rw [h] at h'; injection h' with h1 h2; subst h1; subst h2
    exact ⟨by rw [errV_pos (parse_pos h)], hb⟩
/-- What the law's own first job comes to. -/
theorem fact_parse : parseP false [115, 111, 117, 114, 99, 101, 32, 50, 10, 115, 105, 110, 107, 32, 48, 10] = .ok [⟨1, [], ByteArray.empty, 2⟩, ⟨10, [0], ByteArray.empty, 0⟩] := by
  have h : jobP [⟨1, [], ByteArray.empty, 2⟩, ⟨10, [0], ByteArray.empty, 0⟩] = 0 := by decide
  have e := back_job false h
  rw [← e]
  congr 1
  have i2 : Lib.itoa 2 = [50] := by first | decide | rfl | simp [Lib.itoa, Lib.decDigits]
  have i0 : Lib.itoa 0 = [48] := by first | decide | rfl | simp [Lib.itoa, Lib.decDigits]
  simp [printB, lineB, wordsB, joinB, hasNP, hasTP, i2, i0, nameP]
set_option maxRecDepth 100000 in
set_option maxHeartbeats 4000000 in
theorem back_walk {w : World} (hg : Gj w) {la : Option Addr} {L : List Nd} {c : Nat} (hL : NdsAt w la L) (hc : L.length ≤ c) (s : ByteArray) (hs : s.size ≤ 100000000) :
    Calls Tryz.prog 6 #[.slice la L.length c, .string s] w fun e w' => e = .returned (.bool true) ∧ Below w.heap.size w w' := by
  have H1 := parse_ok hg ⟨#[115, 111, 117, 114, 99, 101, 32, 50, 10, 115, 105, 110, 107, 32, 48, 10]⟩ (by decide) fact_parse
  have HG := Lib.hid hg
  have HL := Lib.hid hL
  clear hg hL
  go_enter Tryz.func6, Tryz.ntmps6
  go_wp2_with (go_at_call 25; refine H1.mono ?_; rintro e w1 ⟨A1, cap1, rfl, hn1, hc1, hb1⟩; refine Hid.out ?_)
  refine Lib.hid ?_
  obtain ⟨b1, o1, rfl, hq1⟩ : ∃ b o, A1 = some ⟨b, o, none⟩ ∧ NdAt w1 b (o + 0 * 4) ⟨1, [], ByteArray.empty, 2⟩ := by
    rcases hn1 with h | ⟨b, o, rfl, h⟩
    · cases h
    · exact ⟨b, o, rfl, h 0 (by simp)⟩
  obtain ⟨k0, ⟨fa1, fc1, k1, k1b⟩, k2, c3, k4⟩ := hq1
  simp only [Nat.zero_mul, Nat.add_zero] at c3 ⊢
  have hg1 := HG.out.below hb1
  have hL1 := HL.out.keep (Keeps.of hb1)
  by_cases hj : jobP L = 0
  · have HP := print_good hg1.gl hg1.nm hg1.tb hL1 hc hj
    have hl12 := (job_ok hj).1
    have hpl : (printB L).length ≤ 12000 := by have := print_len hl12 (job_ok hj).2.1 L.length (Nat.le_refl _); rw [List.take_of_length_le (Nat.le_refl _)] at this; omega
    have hbk := back_job false hj
    clear hj
    go_wp2_with (go_at_call 19; refine HP.mono ?_; rintro e w2 ⟨rfl, hb2⟩; refine Hid.out ?_)
    refine Lib.hid ?_
    have hb02 := hb1.trans (hb2.mono hb1.size)
    have H2 := parse_ok (HG.out.below hb02) ⟨(printB L).toArray⟩ (by simp [ByteArray.size]; omega) hbk
    generalize (printB L).toArray = pa at *
    go_wp2_with (go_at_call 25; refine H2.mono ?_; rintro e w3 ⟨A3, cap3, rfl, hn3, hc3, hb3⟩; refine Hid.out ?_)
    refine Lib.hid ?_
    have hb03 := hb02.trans (hb3.mono hb02.size)
    have HJ := jobs_same hn3 (HL.out.keep (Keeps.of hb03)) cap3 c hl12
    have HB3 := Lib.hid hb03
    clear hn3 hbk hb02 hb03
    go_wp2_with (go_at_call 26; refine HJ.mono ?_; rintro e w4 ⟨rfl, hb4⟩; refine Hid.out ?_)
    refine Lib.hid ?_
    have hb04 := HB3.out.trans (hb4.mono HB3.out.size)
    have hgX := HG.out.below hb04
    have e3 : (s.toList == s.toList) = true := by simp
    rcases hp : parseP false s.data.toList with m | ⟨a, er⟩
    · obtain ⟨hjm, htx⟩ := back_text hp
      have H5 := parse_ok hgX s hs hp
      have HBx := Lib.hid hb04
      clear hp
      go_wp2_with (go_at_call 25; refine H5.mono ?_; rintro e wy ⟨A5, cap5, rfl, hn5, hc5, hb5⟩; refine Hid.out ?_)
      refine Lib.hid ?_
      have hgY := hgX.below hb5
      have HP5 := print_good hgY.gl hgY.nm hgY.tb hn5 hc5 hjm
      rw [htx, show (⟨s.data.toList.toArray⟩ : ByteArray) = s from by cases s; simp] at HP5
      have HBy := Lib.hid (HBx.out.trans (hb5.mono HBx.out.size))
      clear hn5 hjm htx hgY hb5
      go_wp2_with (go_at_call 19; refine HP5.mono ?_; rintro e wz ⟨rfl, hb6⟩)
      go_ret
      exact ⟨rfl, HBy.out.trans (hb6.mono HBy.out.size)⟩
    · have H5 := parse_no hgX s hs hp
      have HBx := Lib.hid hb04
      clear hp
      go_wp2_with (go_at_call 25; refine H5.mono ?_; rintro e wy ⟨rfl, hb5⟩)
      go_ret
      exact ⟨rfl, HBx.out.trans (hb5.mono HBx.out.size)⟩
  · have HP := print_bad hg1.gl hL1 hc hj
    rw [errV_pos hj] at HP
    go_wp2_with (go_at_call 19; refine HP.mono ?_; rintro e w2 ⟨rfl, hb2⟩; refine Hid.out ?_)
    refine Lib.hid ?_
    have hb02 := hb1.trans (hb2.mono hb1.size)
    have hgX := HG.out.below hb02
    have e3 : (s.toList == s.toList) = true := by simp
    rcases hp : parseP false s.data.toList with m | ⟨a, er⟩
    · obtain ⟨hjm, htx⟩ := back_text hp
      have H5 := parse_ok hgX s hs hp
      have HBx := Lib.hid hb02
      clear hp
      go_wp2_with (go_at_call 25; refine H5.mono ?_; rintro e wy ⟨A5, cap5, rfl, hn5, hc5, hb5⟩; refine Hid.out ?_)
      refine Lib.hid ?_
      have hgY := hgX.below hb5
      have HP5 := print_good hgY.gl hgY.nm hgY.tb hn5 hc5 hjm
      rw [htx, show (⟨s.data.toList.toArray⟩ : ByteArray) = s from by cases s; simp] at HP5
      have HBy := Lib.hid (HBx.out.trans (hb5.mono HBx.out.size))
      clear hn5 hjm htx hgY hb5
      go_wp2_with (go_at_call 19; refine HP5.mono ?_; rintro e wz ⟨rfl, hb6⟩)
      go_ret
      exact ⟨rfl, HBy.out.trans (hb6.mono HBy.out.size)⟩
    · have H5 := parse_no hgX s hs hp
      have HBx := Lib.hid hb02
      clear hp
      go_wp2_with (go_at_call 25; refine H5.mono ?_; rintro e wy ⟨rfl, hb5⟩)
      go_ret
      exact ⟨rfl, HBx.out.trans (hb5.mono HBx.out.size)⟩
end Go.Proofs.YthadeccnibnioaaGreatDoor
