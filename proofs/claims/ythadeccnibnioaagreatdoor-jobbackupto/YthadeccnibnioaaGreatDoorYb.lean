/- strings.Cut at a line's end, strings.Split at a blank. -/
import Derived.Test.YthadeccnibnioaaGreatDoorYa
import Derived.Test.YthadeccnibnioaaGreatDoorHp
import Derived.Lib.Strings
namespace Go.Proofs.YthadeccnibnioaaGreatDoor
open Go.RowKit
set_option linter.unusedVariables false
theorem ext_takeY (s : ByteArray) (m : Nat) : s.extract 0 m = ⟨(s.data.toList.take m).toArray⟩ := by rw [Lib.extract_eq]; simp
theorem ext_drop (s : ByteArray) (m : Nat) : s.extract m s.size = ⟨(s.data.toList.drop m).toArray⟩ := by
  have e : s.data.toList.length = s.size := Array.length_toList
  rw [Lib.extract_eq, List.take_of_length_le (by rw [List.length_drop]; omega)]
def CutV (l : List UInt8) : Value := .tuple #[.string ⟨(cutB l).1.toArray⟩, .string ⟨(cutB l).2.1.toArray⟩, .bool (cutB l).2.2]
set_option maxHeartbeats 1000000 in
theorem lcut_any (s : ByteArray) (w : World) (hs : s.size ≤ 9223372036854775806) : Calls Tryz.prog 128 #[.string s, .string ⟨#[10]⟩] w fun e w' => e = .returned (CutV s.data.toList) ∧ ∃ n, w' = w.drewN n := by
  have HI := Tryz.stringslite_Index_one s 10 w
  have HC0 := Lib.hid (fun (h : Lib.indexByte s.data.toList 10 = -1) => cut_none h)
  have HC1 := Lib.hid (fun (m : Nat) (h : Lib.indexByte s.data.toList 10 = m) => cut_at h)
  have HR : Hid (∀ n, (fun (e : Ending) (w' : World) => e = .returned (CutV s.data.toList) ∧ ∃ n, w' = w.drewN n) (.returned (CutV s.data.toList)) (w.drewN n)) := fun n => ⟨rfl, n, rfl⟩
  generalize (fun (e : Ending) (w' : World) => e = .returned (CutV s.data.toList) ∧ ∃ n, w' = w.drewN n) = R at *
  have hl : s.data.toList.length = s.size := Array.length_toList
  rcases idx_ways s.data.toList 10 with h | ⟨m, h, hm⟩
  · have hc := HC0.out h
    unfold CutV at HR
    rw [hc] at HR
    rw [h] at HI
    have e0 : (⟨s.data.toList.toArray⟩ : ByteArray) = s := by cases s; simp
    simp only [e0] at HR
    clear HC0 HC1 hc h hl
    go_enter Tryz.func128, Tryz.ntmps128
    go_wp2_with (go_at_call 154; refine HI.mono ?_; rintro e w' ⟨rfl, rfl⟩)
    exact bodyPost_ret (v := .tuple #[.string s, .string ⟨#[]⟩, .bool false]) (by simp [results, Tryz.results128, go_sem]) rfl (HR.out 0)
  · have hc := HC1.out m h
    unfold CutV at HR
    rw [hc] at HR
    rw [h] at HI
    have e1 := ext_takeY s m
    have e2 := ext_drop s (m + 1)
    simp only [← e1, ← e2] at HR
    have hm1 : (m : Int) ≤ s.size := by omega
    have hm2 : (m : Int) + 1 ≤ s.size := by omega
    clear HC0 HC1 hc h hl e1 e2
    go_enter Tryz.func128, Tryz.ntmps128
    go_wp2_with (go_at_call 154; refine HI.mono ?_; rintro e w' ⟨rfl, rfl⟩)
    go_quiet (fail)
    go_wp2_with fail
    exact bodyPost_ret (v := .tuple #[.string (s.extract 0 m), .string (s.extract (m + 1) s.size), .bool true]) (by simp [results, Tryz.results128, go_sem]) rfl (HR.out nq)
theorem cut_any (s : ByteArray) (w : World) (hs : s.size ≤ 9223372036854775806) : Calls Tryz.prog 91 #[.string s, .string ⟨#[10]⟩] w fun e w' => e = .returned (CutV s.data.toList) ∧ ∃ n, w' = w.drewN n := by
  have H := lcut_any s w hs
  unfold CutV at *
  generalize hR : (fun (e : Ending) (w' : World) => e = .returned (.tuple #[.string ⟨(cutB s.data.toList).1.toArray⟩, .string ⟨(cutB s.data.toList).2.1.toArray⟩, .bool (cutB s.data.toList).2.2]) ∧ ∃ n, w' = w.drewN n) = R at *
  have HR : Hid (∀ n, R (.returned (.tuple #[.string ⟨(cutB s.data.toList).1.toArray⟩, .string ⟨(cutB s.data.toList).2.1.toArray⟩, .bool (cutB s.data.toList).2.2])) (w.drewN n)) := by subst hR; exact fun n => ⟨rfl, n, rfl⟩
  have H' : Calls Tryz.prog 128 #[.string s, .string ⟨#[10]⟩] w fun e w' => e = .returned (.tuple #[.string ⟨(cutB s.data.toList).1.toArray⟩, .string ⟨(cutB s.data.toList).2.1.toArray⟩, .bool (cutB s.data.toList).2.2]) ∧ ∃ n, w' = w.drewN n := by rw [hR]; exact H
  clear H hR
  generalize (cutB s.data.toList).1.toArray = a1 at *
  generalize (cutB s.data.toList).2.1.toArray = a2 at *
  generalize (cutB s.data.toList).2.2 = a3 at *
  go_enter Tryz.func91, Tryz.ntmps91
  go_wp2_with (go_at_call 128; refine H'.mono ?_; rintro e w' ⟨rfl, n, rfl⟩)
  exact bodyPost_ret (v := .tuple #[.string ⟨a1⟩, .string ⟨a2⟩, .bool a3]) (by simp [results, Tryz.results91, go_sem]) rfl (HR.out n)
end Go.Proofs.YthadeccnibnioaaGreatDoor
