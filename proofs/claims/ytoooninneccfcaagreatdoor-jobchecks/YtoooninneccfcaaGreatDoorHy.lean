import Derived.Test.YtoooninneccfcaaGreatDoorShelfb
import Derived.Test.YtoooninneccfcaaGreatDoorHj
import Derived.Test.YtoooninneccfcaaGreatDoorHp
import Derived.Laws.Cover1
import Derived.Lib.AppendIntMem
import Derived.Lib.ItoaLen
import Derived.Lib.ItoaMem
import Derived.Lib.AppendStr
import Derived.Lib.OthersKept
import Derived.Lib.Slices
import Derived.Lib.Hide
import Derived.Laws.IdiomStrings
import Derived.OwnWalk
import Derived.BigCall
import Derived.Deep.RegionHeld3
/- The kind of a name; a number of a line. -/
namespace Go.Proofs.YtoooninneccfcaaGreatDoor
open Go.RowKit
set_option linter.unusedVariables false
def TabOK (w : World) : Prop := Lib.TabIs Tryz.prog w "internal/strconv.uint64pow10" .u64 Lib.pow10Tab
theorem TabOK.below {w w' : World} (h : TabOK w) (hb : Below w.heap.size w w') : TabOK w' := ((Lib.tabBelow_of_tabIs h).on hb).here
/-- The names of the kinds, in their table. -/
structure NmAt (w : World) : Prop where
  c0 : w.cell? ⟨0, 0, none⟩ = some (.string ⟨#[]⟩)
  c1 : w.cell? ⟨0, 1, none⟩ = some (.string ⟨#[115, 111, 117, 114, 99, 101]⟩)
  c2 : w.cell? ⟨0, 2, none⟩ = some (.string ⟨#[109, 97, 112]⟩)
  c3 : w.cell? ⟨0, 3, none⟩ = some (.string ⟨#[102, 105, 108, 116, 101, 114]⟩)
  c4 : w.cell? ⟨0, 4, none⟩ = some (.string ⟨#[115, 117, 98]⟩)
  c5 : w.cell? ⟨0, 5, none⟩ = some (.string ⟨#[99, 111, 112, 121]⟩)
  c6 : w.cell? ⟨0, 6, none⟩ = some (.string ⟨#[117, 110, 105, 111, 110]⟩)
  c7 : w.cell? ⟨0, 7, none⟩ = some (.string ⟨#[102, 111, 108, 100]⟩)
  c8 : w.cell? ⟨0, 8, none⟩ = some (.string ⟨#[101, 118, 101, 114, 121]⟩)
  c9 : w.cell? ⟨0, 9, none⟩ = some (.string ⟨#[102, 105, 114, 115, 116]⟩)
  c10 : w.cell? ⟨0, 10, none⟩ = some (.string ⟨#[115, 105, 110, 107]⟩)
theorem NmAt.below {w w' : World} (h : NmAt w) (hb : Below w.heap.size w w') : NmAt w' :=
  ⟨Keeps.of hb _ _ h.c0, Keeps.of hb _ _ h.c1, Keeps.of hb _ _ h.c2, Keeps.of hb _ _ h.c3, Keeps.of hb _ _ h.c4, Keeps.of hb _ _ h.c5, Keeps.of hb _ _ h.c6, Keeps.of hb _ _ h.c7, Keeps.of hb _ _ h.c8, Keeps.of hb _ _ h.c9, Keeps.of hb _ _ h.c10⟩
/-- What the walks lean on. -/
structure Gj (w : World) : Prop where
  gl : Gl w
  tab : TabOK w
  nm : NmAt w
theorem Gj.below {w w' : World} (h : Gj w) (hb : Below w.heap.size w w') : Gj w' := ⟨h.gl.fr (xs := []) (Fr.below hb) (by simp), h.tab.below hb, h.nm.below hb⟩
theorem str_eq {a b : ByteArray} (h : a.data.toList = b.data.toList) : (a.toList == b.toList) = true := by
  rw [Lib.toList_data, Lib.toList_data, h]; simp
theorem str_ne {a b : ByteArray} (h : a.data.toList ≠ b.data.toList) : (a.toList == b.toList) = false := by
  rw [Lib.toList_data, Lib.toList_data]; simpa using h
set_option maxRecDepth 100000 in
set_option maxHeartbeats 4000000 in
theorem kind_any {w : World} (hg : Gj w) (s : ByteArray) : Calls Tryz.prog 92 #[.string s] w fun e w' => e = .returned (.int .i64 (kindP s.data.toList)) ∧ w = w' := by
  obtain ⟨c0, c1, c2, c3, c4, c5, c6, c7, c8, c9, c10⟩ := hg.nm
  obtain ⟨r, hr⟩ : ∃ r, kindP s.data.toList = r := ⟨_, rfl⟩
  rw [hr]
  have HR := Lib.hid hr
  clear hr hg
  have x0 : ∀ w : World, (Instr.index 147 (.agg #[.string ⟨#[]⟩, .string ⟨#[115, 111, 117, 114, 99, 101]⟩, .string ⟨#[109, 97, 112]⟩, .string ⟨#[102, 105, 108, 116, 101, 114]⟩, .string ⟨#[115, 117, 98]⟩, .string ⟨#[99, 111, 112, 121]⟩, .string ⟨#[117, 110, 105, 111, 110]⟩, .string ⟨#[102, 111, 108, 100]⟩, .string ⟨#[101, 118, 101, 114, 121]⟩, .string ⟨#[102, 105, 114, 115, 116]⟩, .string ⟨#[115, 105, 110, 107]⟩]) (.int .i64 0)).run Tryz.prog w = .ok (.string ⟨#[]⟩) w := fun _ => by kernel_rfl
  have x1 : ∀ w : World, (Instr.index 147 (.agg #[.string ⟨#[]⟩, .string ⟨#[115, 111, 117, 114, 99, 101]⟩, .string ⟨#[109, 97, 112]⟩, .string ⟨#[102, 105, 108, 116, 101, 114]⟩, .string ⟨#[115, 117, 98]⟩, .string ⟨#[99, 111, 112, 121]⟩, .string ⟨#[117, 110, 105, 111, 110]⟩, .string ⟨#[102, 111, 108, 100]⟩, .string ⟨#[101, 118, 101, 114, 121]⟩, .string ⟨#[102, 105, 114, 115, 116]⟩, .string ⟨#[115, 105, 110, 107]⟩]) (.int .i64 1)).run Tryz.prog w = .ok (.string ⟨#[115, 111, 117, 114, 99, 101]⟩) w := fun _ => by kernel_rfl
  have x2 : ∀ w : World, (Instr.index 147 (.agg #[.string ⟨#[]⟩, .string ⟨#[115, 111, 117, 114, 99, 101]⟩, .string ⟨#[109, 97, 112]⟩, .string ⟨#[102, 105, 108, 116, 101, 114]⟩, .string ⟨#[115, 117, 98]⟩, .string ⟨#[99, 111, 112, 121]⟩, .string ⟨#[117, 110, 105, 111, 110]⟩, .string ⟨#[102, 111, 108, 100]⟩, .string ⟨#[101, 118, 101, 114, 121]⟩, .string ⟨#[102, 105, 114, 115, 116]⟩, .string ⟨#[115, 105, 110, 107]⟩]) (.int .i64 2)).run Tryz.prog w = .ok (.string ⟨#[109, 97, 112]⟩) w := fun _ => by kernel_rfl
  have x3 : ∀ w : World, (Instr.index 147 (.agg #[.string ⟨#[]⟩, .string ⟨#[115, 111, 117, 114, 99, 101]⟩, .string ⟨#[109, 97, 112]⟩, .string ⟨#[102, 105, 108, 116, 101, 114]⟩, .string ⟨#[115, 117, 98]⟩, .string ⟨#[99, 111, 112, 121]⟩, .string ⟨#[117, 110, 105, 111, 110]⟩, .string ⟨#[102, 111, 108, 100]⟩, .string ⟨#[101, 118, 101, 114, 121]⟩, .string ⟨#[102, 105, 114, 115, 116]⟩, .string ⟨#[115, 105, 110, 107]⟩]) (.int .i64 3)).run Tryz.prog w = .ok (.string ⟨#[102, 105, 108, 116, 101, 114]⟩) w := fun _ => by kernel_rfl
  have x4 : ∀ w : World, (Instr.index 147 (.agg #[.string ⟨#[]⟩, .string ⟨#[115, 111, 117, 114, 99, 101]⟩, .string ⟨#[109, 97, 112]⟩, .string ⟨#[102, 105, 108, 116, 101, 114]⟩, .string ⟨#[115, 117, 98]⟩, .string ⟨#[99, 111, 112, 121]⟩, .string ⟨#[117, 110, 105, 111, 110]⟩, .string ⟨#[102, 111, 108, 100]⟩, .string ⟨#[101, 118, 101, 114, 121]⟩, .string ⟨#[102, 105, 114, 115, 116]⟩, .string ⟨#[115, 105, 110, 107]⟩]) (.int .i64 4)).run Tryz.prog w = .ok (.string ⟨#[115, 117, 98]⟩) w := fun _ => by kernel_rfl
  have x5 : ∀ w : World, (Instr.index 147 (.agg #[.string ⟨#[]⟩, .string ⟨#[115, 111, 117, 114, 99, 101]⟩, .string ⟨#[109, 97, 112]⟩, .string ⟨#[102, 105, 108, 116, 101, 114]⟩, .string ⟨#[115, 117, 98]⟩, .string ⟨#[99, 111, 112, 121]⟩, .string ⟨#[117, 110, 105, 111, 110]⟩, .string ⟨#[102, 111, 108, 100]⟩, .string ⟨#[101, 118, 101, 114, 121]⟩, .string ⟨#[102, 105, 114, 115, 116]⟩, .string ⟨#[115, 105, 110, 107]⟩]) (.int .i64 5)).run Tryz.prog w = .ok (.string ⟨#[99, 111, 112, 121]⟩) w := fun _ => by kernel_rfl
  have x6 : ∀ w : World, (Instr.index 147 (.agg #[.string ⟨#[]⟩, .string ⟨#[115, 111, 117, 114, 99, 101]⟩, .string ⟨#[109, 97, 112]⟩, .string ⟨#[102, 105, 108, 116, 101, 114]⟩, .string ⟨#[115, 117, 98]⟩, .string ⟨#[99, 111, 112, 121]⟩, .string ⟨#[117, 110, 105, 111, 110]⟩, .string ⟨#[102, 111, 108, 100]⟩, .string ⟨#[101, 118, 101, 114, 121]⟩, .string ⟨#[102, 105, 114, 115, 116]⟩, .string ⟨#[115, 105, 110, 107]⟩]) (.int .i64 6)).run Tryz.prog w = .ok (.string ⟨#[117, 110, 105, 111, 110]⟩) w := fun _ => by kernel_rfl
  have x7 : ∀ w : World, (Instr.index 147 (.agg #[.string ⟨#[]⟩, .string ⟨#[115, 111, 117, 114, 99, 101]⟩, .string ⟨#[109, 97, 112]⟩, .string ⟨#[102, 105, 108, 116, 101, 114]⟩, .string ⟨#[115, 117, 98]⟩, .string ⟨#[99, 111, 112, 121]⟩, .string ⟨#[117, 110, 105, 111, 110]⟩, .string ⟨#[102, 111, 108, 100]⟩, .string ⟨#[101, 118, 101, 114, 121]⟩, .string ⟨#[102, 105, 114, 115, 116]⟩, .string ⟨#[115, 105, 110, 107]⟩]) (.int .i64 7)).run Tryz.prog w = .ok (.string ⟨#[102, 111, 108, 100]⟩) w := fun _ => by kernel_rfl
  have x8 : ∀ w : World, (Instr.index 147 (.agg #[.string ⟨#[]⟩, .string ⟨#[115, 111, 117, 114, 99, 101]⟩, .string ⟨#[109, 97, 112]⟩, .string ⟨#[102, 105, 108, 116, 101, 114]⟩, .string ⟨#[115, 117, 98]⟩, .string ⟨#[99, 111, 112, 121]⟩, .string ⟨#[117, 110, 105, 111, 110]⟩, .string ⟨#[102, 111, 108, 100]⟩, .string ⟨#[101, 118, 101, 114, 121]⟩, .string ⟨#[102, 105, 114, 115, 116]⟩, .string ⟨#[115, 105, 110, 107]⟩]) (.int .i64 8)).run Tryz.prog w = .ok (.string ⟨#[101, 118, 101, 114, 121]⟩) w := fun _ => by kernel_rfl
  have x9 : ∀ w : World, (Instr.index 147 (.agg #[.string ⟨#[]⟩, .string ⟨#[115, 111, 117, 114, 99, 101]⟩, .string ⟨#[109, 97, 112]⟩, .string ⟨#[102, 105, 108, 116, 101, 114]⟩, .string ⟨#[115, 117, 98]⟩, .string ⟨#[99, 111, 112, 121]⟩, .string ⟨#[117, 110, 105, 111, 110]⟩, .string ⟨#[102, 111, 108, 100]⟩, .string ⟨#[101, 118, 101, 114, 121]⟩, .string ⟨#[102, 105, 114, 115, 116]⟩, .string ⟨#[115, 105, 110, 107]⟩]) (.int .i64 9)).run Tryz.prog w = .ok (.string ⟨#[102, 105, 114, 115, 116]⟩) w := fun _ => by kernel_rfl
  have x10 : ∀ w : World, (Instr.index 147 (.agg #[.string ⟨#[]⟩, .string ⟨#[115, 111, 117, 114, 99, 101]⟩, .string ⟨#[109, 97, 112]⟩, .string ⟨#[102, 105, 108, 116, 101, 114]⟩, .string ⟨#[115, 117, 98]⟩, .string ⟨#[99, 111, 112, 121]⟩, .string ⟨#[117, 110, 105, 111, 110]⟩, .string ⟨#[102, 111, 108, 100]⟩, .string ⟨#[101, 118, 101, 114, 121]⟩, .string ⟨#[102, 105, 114, 115, 116]⟩, .string ⟨#[115, 105, 110, 107]⟩]) (.int .i64 10)).run Tryz.prog w = .ok (.string ⟨#[115, 105, 110, 107]⟩) w := fun _ => by kernel_rfl
  go_enter Tryz.func92, Tryz.ntmps92
  go_wp2
  go_loop [6] (fun i => ∃ k : Nat, k ≤ 11 ∧ i = .int .i64 k ∧ ∀ j, j < k → s.data.toList ≠ nmN j) (fun i => 11 - (intOf i).toNat)
  case atStart => exact ⟨0, by omega, rfl, fun j h => by omega⟩
  case round =>
    obtain ⟨k, hk, rfl, hne⟩ := hrel
    have HN := Lib.hid hne
    clear hne
    obtain rfl | rfl | rfl | rfl | rfl | rfl | rfl | rfl | rfl | rfl | rfl | rfl : k = 0 ∨ k = 1 ∨ k = 2 ∨ k = 3 ∨ k = 4 ∨ k = 5 ∨ k = 6 ∨ k = 7 ∨ k = 8 ∨ k = 9 ∨ k = 10 ∨ k = 11 := by omega
    · by_cases he : s.data.toList = nmN 0
      · have hs : ((⟨#[]⟩ : ByteArray).toList == s.toList) = true := str_eq he.symm
        have hs2 : s.toList.isEmpty = true := by rw [Lib.toList_data, show s.data.toList = [] from he]; rfl
        have hs3 : (([] : List UInt8) == s.toList) = true := by rw [Lib.toList_data, show s.data.toList = [] from he]; rfl
        have HE := Lib.hid he
        clear he
        go_wp2
        go_ret
        exact ⟨by rw [← HR.out, HE.out]; rfl, rfl⟩
      · have hs : ((⟨#[]⟩ : ByteArray).toList == s.toList) = false := str_ne (fun e => he e.symm)
        have hs2 : s.toList.isEmpty = false := by rw [Lib.toList_data]; exact (match h : s.data.toList with | [] => absurd h he | a :: r => rfl)
        have hs3 : (([] : List UInt8) == s.toList) = false := by rw [Lib.toList_data]; exact (match h : s.data.toList with | [] => absurd h he | a :: r => rfl)
        have HE := Lib.hid he
        clear he
        go_wp2
        go_round
        case rel => exact ⟨1, by omega, by go_num, fun j hj => by
          by_cases e : j = 0
          · subst e; exact HE.out
          · exact HN.out j (by omega)⟩
        case measure => simp [intOf]
    · by_cases he : s.data.toList = nmN 1
      · have hs : ((⟨#[115, 111, 117, 114, 99, 101]⟩ : ByteArray).toList == s.toList) = true := str_eq he.symm
        have hs3 : (([115, 111, 117, 114, 99, 101] : List UInt8) == s.toList) = true := by rw [Lib.toList_data, show s.data.toList = [115, 111, 117, 114, 99, 101] from he]; rfl
        have HE := Lib.hid he
        clear he
        go_wp2
        go_ret
        exact ⟨by rw [← HR.out, HE.out]; rfl, rfl⟩
      · have hs : ((⟨#[115, 111, 117, 114, 99, 101]⟩ : ByteArray).toList == s.toList) = false := str_ne (fun e => he e.symm)
        have hs3 : (([115, 111, 117, 114, 99, 101] : List UInt8) == s.toList) = false := by rw [Lib.toList_data]; simpa using (fun e => he e.symm)
        have HE := Lib.hid he
        clear he
        go_wp2
        go_round
        case rel => exact ⟨2, by omega, by go_num, fun j hj => by
          by_cases e : j = 1
          · subst e; exact HE.out
          · exact HN.out j (by omega)⟩
        case measure => simp [intOf]
    · by_cases he : s.data.toList = nmN 2
      · have hs : ((⟨#[109, 97, 112]⟩ : ByteArray).toList == s.toList) = true := str_eq he.symm
        have hs3 : (([109, 97, 112] : List UInt8) == s.toList) = true := by rw [Lib.toList_data, show s.data.toList = [109, 97, 112] from he]; rfl
        have HE := Lib.hid he
        clear he
        go_wp2
        go_ret
        exact ⟨by rw [← HR.out, HE.out]; rfl, rfl⟩
      · have hs : ((⟨#[109, 97, 112]⟩ : ByteArray).toList == s.toList) = false := str_ne (fun e => he e.symm)
        have hs3 : (([109, 97, 112] : List UInt8) == s.toList) = false := by rw [Lib.toList_data]; simpa using (fun e => he e.symm)
        have HE := Lib.hid he
        clear he
        go_wp2
        go_round
        case rel => exact ⟨3, by omega, by go_num, fun j hj => by
          by_cases e : j = 2
          · subst e; exact HE.out
          · exact HN.out j (by omega)⟩
        case measure => simp [intOf]
    · by_cases he : s.data.toList = nmN 3
      · have hs : ((⟨#[102, 105, 108, 116, 101, 114]⟩ : ByteArray).toList == s.toList) = true := str_eq he.symm
        have hs3 : (([102, 105, 108, 116, 101, 114] : List UInt8) == s.toList) = true := by rw [Lib.toList_data, show s.data.toList = [102, 105, 108, 116, 101, 114] from he]; rfl
        have HE := Lib.hid he
        clear he
        go_wp2
        go_ret
        exact ⟨by rw [← HR.out, HE.out]; rfl, rfl⟩
      · have hs : ((⟨#[102, 105, 108, 116, 101, 114]⟩ : ByteArray).toList == s.toList) = false := str_ne (fun e => he e.symm)
        have hs3 : (([102, 105, 108, 116, 101, 114] : List UInt8) == s.toList) = false := by rw [Lib.toList_data]; simpa using (fun e => he e.symm)
        have HE := Lib.hid he
        clear he
        go_wp2
        go_round
        case rel => exact ⟨4, by omega, by go_num, fun j hj => by
          by_cases e : j = 3
          · subst e; exact HE.out
          · exact HN.out j (by omega)⟩
        case measure => simp [intOf]
    · by_cases he : s.data.toList = nmN 4
      · have hs : ((⟨#[115, 117, 98]⟩ : ByteArray).toList == s.toList) = true := str_eq he.symm
        have hs3 : (([115, 117, 98] : List UInt8) == s.toList) = true := by rw [Lib.toList_data, show s.data.toList = [115, 117, 98] from he]; rfl
        have HE := Lib.hid he
        clear he
        go_wp2
        go_ret
        exact ⟨by rw [← HR.out, HE.out]; rfl, rfl⟩
      · have hs : ((⟨#[115, 117, 98]⟩ : ByteArray).toList == s.toList) = false := str_ne (fun e => he e.symm)
        have hs3 : (([115, 117, 98] : List UInt8) == s.toList) = false := by rw [Lib.toList_data]; simpa using (fun e => he e.symm)
        have HE := Lib.hid he
        clear he
        go_wp2
        go_round
        case rel => exact ⟨5, by omega, by go_num, fun j hj => by
          by_cases e : j = 4
          · subst e; exact HE.out
          · exact HN.out j (by omega)⟩
        case measure => simp [intOf]
    · by_cases he : s.data.toList = nmN 5
      · have hs : ((⟨#[99, 111, 112, 121]⟩ : ByteArray).toList == s.toList) = true := str_eq he.symm
        have hs3 : (([99, 111, 112, 121] : List UInt8) == s.toList) = true := by rw [Lib.toList_data, show s.data.toList = [99, 111, 112, 121] from he]; rfl
        have HE := Lib.hid he
        clear he
        go_wp2
        go_ret
        exact ⟨by rw [← HR.out, HE.out]; rfl, rfl⟩
      · have hs : ((⟨#[99, 111, 112, 121]⟩ : ByteArray).toList == s.toList) = false := str_ne (fun e => he e.symm)
        have hs3 : (([99, 111, 112, 121] : List UInt8) == s.toList) = false := by rw [Lib.toList_data]; simpa using (fun e => he e.symm)
        have HE := Lib.hid he
        clear he
        go_wp2
        go_round
        case rel => exact ⟨6, by omega, by go_num, fun j hj => by
          by_cases e : j = 5
          · subst e; exact HE.out
          · exact HN.out j (by omega)⟩
        case measure => simp [intOf]
    · by_cases he : s.data.toList = nmN 6
      · have hs : ((⟨#[117, 110, 105, 111, 110]⟩ : ByteArray).toList == s.toList) = true := str_eq he.symm
        have hs3 : (([117, 110, 105, 111, 110] : List UInt8) == s.toList) = true := by rw [Lib.toList_data, show s.data.toList = [117, 110, 105, 111, 110] from he]; rfl
        have HE := Lib.hid he
        clear he
        go_wp2
        go_ret
        exact ⟨by rw [← HR.out, HE.out]; rfl, rfl⟩
      · have hs : ((⟨#[117, 110, 105, 111, 110]⟩ : ByteArray).toList == s.toList) = false := str_ne (fun e => he e.symm)
        have hs3 : (([117, 110, 105, 111, 110] : List UInt8) == s.toList) = false := by rw [Lib.toList_data]; simpa using (fun e => he e.symm)
        have HE := Lib.hid he
        clear he
        go_wp2
        go_round
        case rel => exact ⟨7, by omega, by go_num, fun j hj => by
          by_cases e : j = 6
          · subst e; exact HE.out
          · exact HN.out j (by omega)⟩
        case measure => simp [intOf]
    · by_cases he : s.data.toList = nmN 7
      · have hs : ((⟨#[102, 111, 108, 100]⟩ : ByteArray).toList == s.toList) = true := str_eq he.symm
        have hs3 : (([102, 111, 108, 100] : List UInt8) == s.toList) = true := by rw [Lib.toList_data, show s.data.toList = [102, 111, 108, 100] from he]; rfl
        have HE := Lib.hid he
        clear he
        go_wp2
        go_ret
        exact ⟨by rw [← HR.out, HE.out]; rfl, rfl⟩
      · have hs : ((⟨#[102, 111, 108, 100]⟩ : ByteArray).toList == s.toList) = false := str_ne (fun e => he e.symm)
        have hs3 : (([102, 111, 108, 100] : List UInt8) == s.toList) = false := by rw [Lib.toList_data]; simpa using (fun e => he e.symm)
        have HE := Lib.hid he
        clear he
        go_wp2
        go_round
        case rel => exact ⟨8, by omega, by go_num, fun j hj => by
          by_cases e : j = 7
          · subst e; exact HE.out
          · exact HN.out j (by omega)⟩
        case measure => simp [intOf]
    · by_cases he : s.data.toList = nmN 8
      · have hs : ((⟨#[101, 118, 101, 114, 121]⟩ : ByteArray).toList == s.toList) = true := str_eq he.symm
        have hs3 : (([101, 118, 101, 114, 121] : List UInt8) == s.toList) = true := by rw [Lib.toList_data, show s.data.toList = [101, 118, 101, 114, 121] from he]; rfl
        have HE := Lib.hid he
        clear he
        go_wp2
        go_ret
        exact ⟨by rw [← HR.out, HE.out]; rfl, rfl⟩
      · have hs : ((⟨#[101, 118, 101, 114, 121]⟩ : ByteArray).toList == s.toList) = false := str_ne (fun e => he e.symm)
        have hs3 : (([101, 118, 101, 114, 121] : List UInt8) == s.toList) = false := by rw [Lib.toList_data]; simpa using (fun e => he e.symm)
        have HE := Lib.hid he
        clear he
        go_wp2
        go_round
        case rel => exact ⟨9, by omega, by go_num, fun j hj => by
          by_cases e : j = 8
          · subst e; exact HE.out
          · exact HN.out j (by omega)⟩
        case measure => simp [intOf]
    · by_cases he : s.data.toList = nmN 9
      · have hs : ((⟨#[102, 105, 114, 115, 116]⟩ : ByteArray).toList == s.toList) = true := str_eq he.symm
        have hs3 : (([102, 105, 114, 115, 116] : List UInt8) == s.toList) = true := by rw [Lib.toList_data, show s.data.toList = [102, 105, 114, 115, 116] from he]; rfl
        have HE := Lib.hid he
        clear he
        go_wp2
        go_ret
        exact ⟨by rw [← HR.out, HE.out]; rfl, rfl⟩
      · have hs : ((⟨#[102, 105, 114, 115, 116]⟩ : ByteArray).toList == s.toList) = false := str_ne (fun e => he e.symm)
        have hs3 : (([102, 105, 114, 115, 116] : List UInt8) == s.toList) = false := by rw [Lib.toList_data]; simpa using (fun e => he e.symm)
        have HE := Lib.hid he
        clear he
        go_wp2
        go_round
        case rel => exact ⟨10, by omega, by go_num, fun j hj => by
          by_cases e : j = 9
          · subst e; exact HE.out
          · exact HN.out j (by omega)⟩
        case measure => simp [intOf]
    · by_cases he : s.data.toList = nmN 10
      · have hs : ((⟨#[115, 105, 110, 107]⟩ : ByteArray).toList == s.toList) = true := str_eq he.symm
        have hs3 : (([115, 105, 110, 107] : List UInt8) == s.toList) = true := by rw [Lib.toList_data, show s.data.toList = [115, 105, 110, 107] from he]; rfl
        have HE := Lib.hid he
        clear he
        go_wp2
        go_ret
        exact ⟨by rw [← HR.out, HE.out]; rfl, rfl⟩
      · have hs : ((⟨#[115, 105, 110, 107]⟩ : ByteArray).toList == s.toList) = false := str_ne (fun e => he e.symm)
        have hs3 : (([115, 105, 110, 107] : List UInt8) == s.toList) = false := by rw [Lib.toList_data]; simpa using (fun e => he e.symm)
        have HE := Lib.hid he
        clear he
        go_wp2
        go_round
        case rel => exact ⟨11, by omega, by go_num, fun j hj => by
          by_cases e : j = 10
          · subst e; exact HE.out
          · exact HN.out j (by omega)⟩
        case measure => simp [intOf]
    · go_wp2
      go_ret
      refine ⟨?_, rfl⟩
      rw [← HR.out]
      have h := HN.out
      unfold kindP
      rw [if_neg (show s.data.toList ≠ nameP 1 from h 1 (by omega)), if_neg (show s.data.toList ≠ nameP 2 from h 2 (by omega)), if_neg (show s.data.toList ≠ nameP 3 from h 3 (by omega)), if_neg (show s.data.toList ≠ nameP 4 from h 4 (by omega)), if_neg (show s.data.toList ≠ nameP 5 from h 5 (by omega)), if_neg (show s.data.toList ≠ nameP 6 from h 6 (by omega)), if_neg (show s.data.toList ≠ nameP 7 from h 7 (by omega)), if_neg (show s.data.toList ≠ nameP 8 from h 8 (by omega)), if_neg (show s.data.toList ≠ nameP 9 from h 9 (by omega)), if_neg (show s.data.toList ≠ nameP 10 from h 10 (by omega))]
      rfl
theorem itoa_of {w : World} (hT : TabOK w) {n : Int} (h0 : -9223372036854775808 ≤ n) (h1 : n ≤ 9223372036854775807) :
    Calls Tryz.prog 131 #[.int .i64 n] w fun e w' => e = .returned (.string ⟨(Lib.itoa n).toArray⟩) ∧ Below w.heap.size w w' :=
  (Tryz.strconv_Itoa n h0 h1 w hT).mono fun e w' ⟨h, k, os, hw⟩ => ⟨h, by rw [hw]; exact Lib.below_grow _ _ (Nat.le_refl _) _ _⟩
/-- How readNumber ends. -/
def RdEnd (w : World) (l : List UInt8) (e : Ending) (w' : World) : Prop := (∃ z : Int, e = .returned (.tuple #[.int .i64 z, .bool (numR l).isSome]) ∧ ∀ n, numR l = some n → z = n) ∧ Below w.heap.size w w'
theorem RdEnd.no {w w' : World} {l : List UInt8} (h : numR l = none) (z : Int) (hb : Below w.heap.size w w') : RdEnd w l (.returned (.tuple #[.int .i64 z, .bool false])) w' := ⟨⟨z, by rw [h]; rfl, fun n hn => by rw [h] at hn; cases hn⟩, hb⟩
theorem RdEnd.yes {w w' : World} {l : List UInt8} {z : Int} (h : numR l = some z) (hb : Below w.heap.size w w') : RdEnd w l (.returned (.tuple #[.int .i64 z, .bool true])) w' := ⟨⟨z, by rw [h]; rfl, fun n hn => by rw [h] at hn; injection hn⟩, hb⟩
set_option maxRecDepth 100000 in
set_option maxHeartbeats 4000000 in
theorem rdnum_any {w : World} (hg : Gj w) (s : ByteArray) (hs : s.size ≤ 281474976710656) : Calls Tryz.prog 94 #[.string s] w (RdEnd w s.data.toList) := by
  obtain ⟨-, ⟨v1, c1, h1⟩, ⟨v2, c2, h2⟩⟩ := hg.gl
  have htab := hg.tab
  have HNo := Lib.hid (fun w' z => RdEnd.no (w := w) (w' := w') (l := s.data.toList) (z := z))
  have HYes := Lib.hid (fun w' z => RdEnd.yes (w := w) (w' := w') (l := s.data.toList) (z := z))
  generalize RdEnd w s.data.toList = R at *
  cases ha : Lib.atoiAll s.data.toList with
  | ok v =>
    have hbd := Lib.atoiAll_bounds ha
    have HA := Tryz.strconv_Atoi_ok s (by omega) v ha w
    have hB : ∀ w1, (w1 = w ∨ ∃ t, w1 = Lib.bytesWorld w 5 t) → Below w.heap.size w w1 := fun w1 h => by
      rcases h with rfl | ⟨t, rfl⟩
      · exact Below.refl _ _
      · exact Lib.bytesWorld_below w 5 t
    have HB := Lib.hid hB
    clear hB
    by_cases hv : 0 ≤ v ∧ v ≤ 999
    · obtain ⟨hv0, hv9⟩ := hv
      have HI := Lib.hid (fun (w' : World) (hb : Below w.heap.size w w') => itoa_of (htab.below hb) hbd.1 hbd.2)
      by_cases he : Lib.itoa v = s.data.toList
      · have HN := Lib.hid (numR_yes ha hv0 hv9 he)
        have hst : (Lib.itoa v == s.toList) = true := by rw [Lib.toList_data, he]; simp
        clear ha he htab hg
        go_enter Tryz.func94, Tryz.ntmps94
        go_wp2_with (go_at_call 130; refine Hid.out ?_)
        refine Lib.hid ?_
        refine HA.mono ?_
        rintro e w1 ⟨rfl, hw1⟩
        have hb1 := HB.out w1 hw1
        have HI1 := HI.out w1 hb1
        clear hw1
        go_wp2_with (go_at_call 131; refine HI1.mono ?_; rintro e w' ⟨rfl, hb2⟩)
        exact HYes.out _ _ HN.out (hb1.trans (hb2.mono hb1.size))
      · have HN := Lib.hid (show numR s.data.toList = none from numR_no (fun u hu => by rw [ha] at hu; injection hu with hu; subst hu; exact fun h => he h.2.2))
        have hst : (Lib.itoa v == s.toList) = false := by rw [Lib.toList_data]; simpa using he
        clear ha he htab hg
        go_enter Tryz.func94, Tryz.ntmps94
        go_wp2_with (go_at_call 130; refine Hid.out ?_)
        refine Lib.hid ?_
        refine HA.mono ?_
        rintro e w1 ⟨rfl, hw1⟩
        have hb1 := HB.out w1 hw1
        have HI1 := HI.out w1 hb1
        clear hw1
        go_wp2_with (go_at_call 131; refine HI1.mono ?_; rintro e w' ⟨rfl, hb2⟩)
        exact HNo.out _ _ HN.out (hb1.trans (hb2.mono hb1.size))
    · have HN := Lib.hid (show numR s.data.toList = none from numR_no (fun u hu => by rw [ha] at hu; injection hu with hu; subst hu; exact fun h => hv ⟨h.1, h.2.1⟩))
      have hv' : ¬ 0 ≤ v ∨ (0 ≤ v ∧ ¬ v ≤ 999) := by omega
      clear ha htab hg hv
      rcases hv' with hv' | ⟨hv', hv2⟩
      all_goals
        go_enter Tryz.func94, Tryz.ntmps94
        go_wp2_with (go_at_call 130; refine Hid.out ?_)
        refine Lib.hid ?_
        refine HA.mono ?_
        rintro e w1 ⟨rfl, hw1⟩
        have hb1 := HB.out w1 hw1
        clear hw1
        go_wp2_with fail
        exact HNo.out _ _ HN.out hb1
  | «syntax» =>
    have HN := Lib.hid (show numR s.data.toList = none from numR_no (fun u hu => by rw [ha] at hu; cases hu))
    have HA := Tryz.strconv_Atoi_syntax s hs ha v1 w c1 h1
    clear ha htab hg
    go_enter Tryz.func94, Tryz.ntmps94
    go_wp2_with (go_at_call 130; refine Hid.out ?_)
    refine Lib.hid ?_
    refine HA.mono ?_
    rintro e w1 ⟨n1, rfl, -, -, hb1⟩
    go_wp2_with fail
    exact HNo.out _ _ HN.out hb1
  | range =>
    have HN := Lib.hid (show numR s.data.toList = none from numR_no (fun u hu => by rw [ha] at hu; cases hu))
    have HA := Tryz.strconv_Atoi_range s hs ha v2 w c2 h2
    clear ha htab hg
    go_enter Tryz.func94, Tryz.ntmps94
    go_wp2_with (go_at_call 130; refine Hid.out ?_)
    refine Lib.hid ?_
    refine HA.mono ?_
    rintro e w1 ⟨n1, rfl, -, -, hb1⟩
    go_wp2_with fail
    exact HNo.out _ _ HN.out hb1
end Go.Proofs.YtoooninneccfcaaGreatDoor

/- Numbers and nodes appended. -/
namespace Go.Proofs.YtoooninneccfcaaGreatDoor
open Go.RowKit
set_option linter.unusedVariables false
theorem row_blockK {w : World} {base e size n : Nat} {v : Value} {xs : List Value} (h : w.ownsRow base e size v n xs) {g : Nat} (hg : v.ownBlock = some g) : ∃ cur, w.heap[g]? = some (.cells cur e (0, 0)) := by
  rcases h.2 with ⟨h0, -⟩ | ⟨g', cap', cur, h0, hb, hc, -⟩
  · rw [h0] at hg; simp [Value.ownBlock] at hg
  · rw [h0] at hg; simp [Value.ownBlock] at hg; subst hg; exact ⟨cur, hc⟩
theorem infoByte : (Tryz.prog.info? 5).map (fun i => (i.zero, i.size, i.bytes)) = some (some (.int .u8 0), 1, 1) := by kernel_rfl
abbrev OwnB (B : Nat) (w : World) (v : Value) (l : List UInt8) : Prop := w.ownsRow B 5 1 v l.length (Lib.byteCells l)
theorem ownB_snoc {B : Nat} {w : World} {v : Value} {l : List UInt8} {c : UInt8} (h : w.ownsRow B 5 1 v (l.length + 1) (Lib.byteCells l ++ [.int .u8 c.toNat])) : OwnB B w v (l ++ [c]) := by
  have e1 : (l ++ [c]).length = l.length + 1 := by simp
  have e2 : Lib.byteCells (l ++ [c]) = Lib.byteCells l ++ [.int .u8 c.toNat] := by simp [Lib.byteCells]
  unfold OwnB; rw [e1, e2]; exact h
theorem ownB_app {B : Nat} {w : World} {v : Value} {l r : List UInt8} {n : Nat} (h : w.ownsRow B 5 1 v (l.length + n) (Lib.byteCells l ++ Lib.byteCells r)) (hn : n = r.length) : OwnB B w v (l ++ r) := by
  have e1 : (l ++ r).length = l.length + n := by simp [hn]
  have e2 : Lib.byteCells (l ++ r) = Lib.byteCells l ++ Lib.byteCells r := by simp [Lib.byteCells]
  unfold OwnB; rw [e1, e2]; exact h
def Tb (B : Nat) (w : World) : Prop := Lib.TabBelow Tryz.prog B w "internal/strconv.uint64pow10" .u64 Lib.pow10Tab
theorem others_grow {B n : Nat} {w w2 : World} {v : Value} {xs : List Value} (hown : w.ownsRow B 5 1 v n xs) (grow : w.grownBy w2 v.ownBlock) : Lib.OthersKept 5 none w w2 := fun k ob hk _ hne =>
  (grow.block k (Array.getElem?_eq_some_iff.1 hk).1 (fun e => by
    obtain ⟨cur, hc⟩ := row_blockK hown e.symm
    rw [hc] at hk; injection hk with hk; exact hne _ _ hk.symm)).trans hk
theorem others_alloc (w : World) (o : Obj) : Lib.OthersKept 5 none w (w.alloc o) := fun k ob hk _ _ => (((Below.refl _ _).alloc (Nat.le_refl _) o).block k (Array.getElem?_eq_some_iff.1 hk).1).trans hk
set_option maxRecDepth 100000 in
set_option maxHeartbeats 2000000 in
theorem apnum_any {B : Nat} {w1 : World} {v1 : Value} {m1 : List UInt8} (n : Int) (h0 : -9223372036854775808 ≤ n) (h9 : n ≤ 9223372036854775807) (hT : Tb B w1) (hown1 : OwnB B w1 v1 m1) (hBle : B ≤ w1.heap.size) (hlen : m1.length ≤ 1000000000) :
    Calls Tryz.prog 86 #[v1, .int .i64 n] w1 fun e w' => ∃ v', e = .returned v' ∧ OwnB B w' v' (m1 ++ 32 :: Lib.itoa n) ∧ Below B w1 w' ∧ Lib.OthersKept 5 none w1 w' := by
  obtain ⟨i0, hi, hz0, hz1, hz2⟩ := info_parts infoByte
  go_enter Tryz.func86, Tryz.ntmps86
  go_wp2_with (at_builtin; refine wpList_append_own _ rfl _ _ 81 rfl B 5 i0 (.int .u8 0) 1 1 Tryz.underlying81 hi hz0 hz1 hz2 rfl (by decide) _ _ _ rfl (hown1.alloc _) ⟨w1.heap.size, 0, none⟩ 1 1 [Value.int .u8 32] rfl rfl (by intro j u' hj; match j, hj with | 0, hj => simp at hj; subst hj; simp [Addr.add]) (by intro u' hu'; simp at hu'; subst hu'; rfl) (by unfold maxLen; omega) (by omega) (by simp; omega) ?_)
  intro v2 w2 own' grow _
  have hb2 : Below B w1 w2 := ((Below.refl _ _).alloc (by omega) _).grown grow (by simp; omega) (fun k hk => (hown1.lt k hk).1)
  have hown2 : OwnB B w2 v2 (m1 ++ [32]) := ownB_snoc own'
  have HO := Lib.hid ((others_alloc w1 (.cells #[.int .u8 32] 5)).trans (others_grow (hown1.alloc _) grow))
  have hs2 : B ≤ w2.heap.size := Nat.le_trans hBle hb2.size
  have hT2 : Tb B w2 := hT.on hb2
  have hl2 : (m1 ++ [32]).length ≤ 1000000001 := by simp; omega
  obtain ⟨m2, hm2⟩ : ∃ x, m1 ++ [32] = x := ⟨_, rfl⟩
  rw [hm2] at hown2 hl2
  have HM2 := Lib.hid hm2
  clear own' grow hm2
  go_wp2_with (go_at_call 121; refine (Tryz.strconv_AppendInt_10 B m2.length n (by omega) (by omega) v2 _ w2 hown2 hs2 (by omega) hT2).mono ?_; rintro e w3 ⟨v3, rfl, hown3, hb3, hot⟩; refine Hid.out ?_)
  refine Lib.hid ?_
  have hown4 : OwnB B w3 v3 (m2 ++ Lib.itoa n) := ownB_app hown3 rfl
  have e : m2 ++ Lib.itoa n = m1 ++ 32 :: Lib.itoa n := by rw [← HM2.out]; simp
  rw [e] at hown4
  have HO3 := Lib.hid (HO.out.trans hot)
  clear hown3 hot
  go_wp2_with fail
  go_ret
  exact ⟨v3, rfl, hown4, hb2.trans hb3, HO3.out⟩
end Go.Proofs.YtoooninneccfcaaGreatDoor

/- A node's own block. -/
namespace Go.Proofs.YtoooninneccfcaaGreatDoor
open Go.RowKit
set_option linter.unusedVariables false
/-- A node's own block. -/
def Nb (w : World) (g : Nat) (k : Int) (v : Value) (tx : ByteArray) (n : Int) : Prop := w.heap[g]? = some (.cells #[.int .i64 k, v, .string tx, .int .i64 n] 52 (0, 0))
theorem Nb.below {w w' : World} {B g : Nat} {k : Int} {v : Value} {tx : ByteArray} {n : Int} (h : Nb w g k v tx n) (hb : Below B w w') (hB : g < B) : Nb w' g k v tx n := by
  unfold Nb; rw [hb.block g hB]; exact h
theorem Nb.lt {w : World} {g : Nat} {k : Int} {v : Value} {tx : ByteArray} {n : Int} (h : Nb w g k v tx n) : g < w.heap.size := (Array.getElem?_eq_some_iff.1 h).1
theorem Nb.alloc {w : World} {g : Nat} {k : Int} {v : Value} {tx : ByteArray} {n : Int} (h : Nb w g k v tx n) (o : Obj) : Nb (w.alloc o) g k v tx n := h.below ((Below.refl _ _).alloc (Nat.le_refl _) o) h.lt
theorem Nb.drew {w : World} {g : Nat} {k : Int} {v : Value} {tx : ByteArray} {n : Int} (h : Nb w g k v tx n) (m : Nat) : Nb (w.drewN m) g k v tx n := h
theorem Nb.other {w : World} {g : Nat} {k : Int} {v : Value} {tx : ByteArray} {n : Int} (h : Nb w g k v tx n) {p : Addr} (u : Value) (hp : p.block ≠ g) : Nb (w.setCell p u) g k v tx n := by
  unfold Nb; rw [Below.heap_setCell _ _ _ _ hp.symm]; exact h
theorem Nb.cells {w : World} {g : Nat} {k : Int} {v : Value} {tx : ByteArray} {n : Int} (h : Nb w g k v tx n) : (w.cell? ⟨g, 0, none⟩ = some (.int .i64 k) ∧ w.cell? ⟨g, 1, none⟩ = some v ∧ w.cell? ⟨g, 2, none⟩ = some (.string tx) ∧ w.cell? ⟨g, 3, none⟩ = some (.int .i64 n)) ∧ (w.frozen? ⟨g, 0, none⟩ = false ∧ w.frozen? ⟨g, 1, none⟩ = false ∧ w.frozen? ⟨g, 2, none⟩ = false ∧ w.frozen? ⟨g, 3, none⟩ = false) := by
  unfold Nb at h
  simp [World.cell?, World.frozen?, h]
theorem Nb.put1 {w : World} {g : Nat} {k : Int} {v : Value} {tx : ByteArray} {n : Int} (h : Nb w g k v tx n) (u : Value) : Nb (w.setCell ⟨g, 1, none⟩ u) g k u tx n := by
  unfold Nb at *; simp [World.setCell, Array.getElem?_modify, h]
theorem Nb.put2 {w : World} {g : Nat} {k : Int} {v : Value} {tx : ByteArray} {n : Int} (h : Nb w g k v tx n) (u : ByteArray) : Nb (w.setCell ⟨g, 2, none⟩ (.string u)) g k v u n := by
  unfold Nb at *; simp [World.setCell, Array.getElem?_modify, h]
theorem Nb.put3 {w : World} {g : Nat} {k : Int} {v : Value} {tx : ByteArray} {n : Int} (h : Nb w g k v tx n) (u : Int) : Nb (w.setCell ⟨g, 3, none⟩ (.int .i64 u)) g k v tx u := by
  unfold Nb at *; simp [World.setCell, Array.getElem?_modify, h]
theorem Nb.put0 {w : World} {g : Nat} {k : Int} {v : Value} {tx : ByteArray} {n : Int} (h : Nb w g k v tx n) (u : Int) : Nb (w.setCell ⟨g, 0, none⟩ (.int .i64 u)) g u v tx n := by
  unfold Nb at *; simp [World.setCell, Array.getElem?_modify, h]
theorem Nb.new (w : World) : Nb (w.alloc (.cells #[.int .i64 0, .slice none 0 0, .string ⟨#[]⟩, .int .i64 0] 52)) w.heap.size 0 (.slice none 0 0) ⟨#[]⟩ 0 := Array.getElem?_push_size
end Go.Proofs.YtoooninneccfcaaGreatDoor

/- appendNode. -/
namespace Go.Proofs.YtoooninneccfcaaGreatDoor
open Go.RowKit
set_option linter.unusedVariables false
theorem nm_at {w : World} (h : NmAt w) {k : Int} (h1 : 1 ≤ k) (h2 : k ≤ 10) : ∃ kk : Nat, k = (kk : Int) ∧ kk < 11 ∧ w.cell? ⟨0, kk, none⟩ = some (.string ⟨(nameP k).toArray⟩) := by
  obtain ⟨c0, c1, c2, c3, c4, c5, c6, c7, c8, c9, c10⟩ := h
  rcases kinds h1 h2 with rfl | rfl | rfl | rfl | rfl | rfl | rfl | rfl | rfl | rfl
  · exact ⟨1, rfl, by omega, c1⟩
  · exact ⟨2, rfl, by omega, c2⟩
  · exact ⟨3, rfl, by omega, c3⟩
  · exact ⟨4, rfl, by omega, c4⟩
  · exact ⟨5, rfl, by omega, c5⟩
  · exact ⟨6, rfl, by omega, c6⟩
  · exact ⟨7, rfl, by omega, c7⟩
  · exact ⟨8, rfl, by omega, c8⟩
  · exact ⟨9, rfl, by omega, c9⟩
  · exact ⟨10, rfl, by omega, c10⟩
theorem Nb.others {w w' : World} {g : Nat} {k : Int} {v : Value} {tx : ByteArray} {n : Int} (h : Nb w g k v tx n) (ho : Lib.OthersKept 5 none w w') : Nb w' g k v tx n := ho g _ h (by simp) (fun c fz e => by injection e with _ e; revert e; decide)
theorem strCells_bytes (l : List UInt8) : Lib.strCells ⟨l.toArray⟩ = Lib.byteCells l := by simp [Lib.strCells, Lib.byteCells]
theorem join_snoc (ws : List (List UInt8)) (x : List UInt8) : joinB (ws ++ [x]) = joinB ws ++ 32 :: x := by simp [joinB]
theorem step_append_own {P : Program} {ops : Array Oper} {o : Oper} {a : Act} {w : World} {K : Act → World → Prop} {Q : Exit → Act → World → Prop} {E : Prop} (hg : o.guard = none) (s x : Operand) (t : TypeId)
    (ho : o.op = .call { callee := .builtin .append, args := #[s, x], argTypes := #[t, t] })
    (base : Nat) (e : TypeId) (i : TypeInfo) (z : Value) (size bytes : Nat) (ht : P.underlying t = some (.slice e)) (hi : P.info? e = some i) (hz : i.zero = some z)
    (hsize : i.size = size) (hby : i.bytes = bytes) (hzs : z.cells.size = size) (hsz : 0 < size)
    (v : Value) (n : Nat) (xs : List Value) (hs : a.eval s = v) (hown : w.ownsRow base e size v n xs)
    (ad : Addr) (m c : Nat) (news : List Value) (hx : a.eval x = .slice (some ad) m c) (hl : news.length = m * size) (hnews : ∀ j u, news[j]? = some u → w.cell? (ad.add j) = some u) (h1 : ∀ u ∈ news, u.oneCell' = true)
    (h63 : n + m ≤ maxLen) (hbytes : (n + m) * bytes ≤ 140737488355328) (hbase : base ≤ w.heap.size)
    (h : ∀ v' w', w'.ownsRow base e size v' (n + m) (xs ++ news) → w.grownBy w' v.ownBlock → K (a.put o.dst v') w') :
    if Region.wanted o (yielded ops a.tmps) = true then Oper.wp P o a w K Q else E := by
  have hw : Region.wanted o (yielded ops a.tmps) = true := by simp [Region.wanted, hg]
  rw [if_pos hw]
  exact wp_append_own w s x t ho base e i z size bytes ht hi hz hsize hby hzs hsz v n xs hs hown ad m c news hx hl hnews h1 h63 hbytes hbase (fun v' w' h2 h3 _ => h v' w' h2 h3)
theorem step_append_str {P : Program} {ops : Array Oper} {o : Oper} {a : Act} {w : World} {K : Act → World → Prop} {Q : Exit → Act → World → Prop} {E : Prop} (hg : o.guard = none) (sl x : Operand) (t u : TypeId)
    (ho : o.op = .call { callee := .builtin .append, args := #[sl, x], argTypes := #[t, u] })
    (base : Nat) (e : TypeId) (i : TypeInfo) (ht : P.underlying t = some (.slice e)) (hu : P.underlying u = some .string) (hi : P.info? e = some i) (hz : i.zero = some (.int .u8 0)) (hsize : i.size = 1) (hby : i.bytes = 1)
    (v : Value) (n : Nat) (xs : List Value) (hs : a.eval sl = v) (hown : w.ownsRow base e 1 v n xs) (s : ByteArray) (hx : a.eval x = .string s)
    (h63 : n + s.size ≤ maxLen) (hbytes : n + s.size ≤ 140737488355328) (hbase : base ≤ w.heap.size)
    (h : ∀ v' w', w'.ownsRow base e 1 v' (n + s.size) (xs ++ Lib.strCells s) → w.grownBy w' v.ownBlock → K (a.put o.dst v') w') :
    if Region.wanted o (yielded ops a.tmps) = true then Oper.wp P o a w K Q else E := by
  rw [if_pos (by simp [Region.wanted, hg])]
  obtain ⟨v', w', hr, h2, h3, h4⟩ := Lib.run_append_own_string (P := P) w base t u o.type e i ht hu hi hz hsize hby v n xs hown s h63 hbytes hbase
  unfold Oper.wp execOp
  simp only [ho, resolve, invoke, builtin, Sem.run_bind, Sem.run_pure, Result.andThen_ok, List.map_toArray, List.map_cons, List.map_nil, hs, hx, hr]
  exact h v' w' h2 h3
theorem ownB_drew_alloc {B : Nat} {w : World} {v : Value} {l : List UInt8} (h : OwnB B w v l) (o : Obj) : OwnB B (w.drew.alloc o) v l := (show OwnB B w.drew v l from h).alloc o
set_option maxRecDepth 100000 in
set_option maxHeartbeats 2000000 in
theorem apnode_any {w0 : World} (hnm : NmAt w0) (hT : Tb w0.heap.size w0) (nd : Nd) {fa : Option Addr} {fc : Nat} (hi : IntsAt w0 fa nd.fs) (hk1 : 1 ≤ nd.k) (hk2 : nd.k ≤ 10) (hf : ∀ f ∈ nd.fs, 0 ≤ f ∧ f ≤ 999) (hn0 : 0 ≤ nd.n) (hn9 : nd.n ≤ 999) (htx : nd.tx.size ≤ 1000) (hfl : nd.fs.length ≤ 4)
    {w1 : World} (hb1 : Below w0.heap.size w0 w1) {v1 : Value} {m1 : List UInt8} (hown1 : OwnB w0.heap.size w1 v1 m1) (hlen : m1.length ≤ 100000000) (R : Ending → World → Prop)
    (HR : Hid (∀ v' w', OwnB w0.heap.size w' v' (m1 ++ (lineB nd ++ [10])) → Below w0.heap.size w0 w' → R (.returned v') w')) :
    Calls Tryz.prog 50 #[v1, ndV nd fa fc] w1 R := by
  obtain ⟨i0, hi0, hz0, hz1, hz2⟩ := info_parts infoByte
  obtain ⟨kk, hkk, hkl, cK⟩ := nm_at (hnm.below hb1) hk1 hk2
  have HHn := fun u => hasN_any nd.k u
  have HHt := fun u => hasT_any nd.k u
  have hS := hb1.size
  have hnl : (nameP nd.k).length ≤ 6 := by rcases kinds hk1 hk2 with h | h | h | h | h | h | h | h | h | h <;> rw [h] <;> decide
  obtain ⟨k, fs, tx, n⟩ := nd
  simp only at *
  subst hkk
  obtain ⟨nm, hnme⟩ : ∃ nm, nameP (kk : Int) = nm := ⟨_, rfl⟩
  rw [hnme] at cK hnl
  have HNm := Lib.hid hnme
  have HI := Lib.hid hi
  have HF := Lib.hid hf
  have HB1 := Lib.hid hb1
  have c0lt : 0 < w1.heap.size := World.block_lt_of_cell? _ _ cK
  have hns : (⟨nm.toArray⟩ : ByteArray).size = nm.length := List.size_toArray
  clear hnme hi hf hnm
  simp only [ndV]
  go_enter Tryz.func50, Tryz.ntmps50
  go_wp2_with (at_builtin; refine Lib.wpList_append_own_string _ rfl _ _ 81 9 rfl w0.heap.size 5 i0 Tryz.underlying81 Tryz.underlying9 hi0 hz0 hz1 hz2 v1 m1.length _ rfl (hown1.alloc _) ⟨nm.toArray⟩ rfl (by unfold maxLen; omega) (by omega) (by simp; omega) ?_)
  intro v2 w2 own' grow _
  have hown2 : OwnB w0.heap.size w2 v2 (m1 ++ nm) := by rw [strCells_bytes] at own'; exact ownB_app own' rfl
  have hb2 : Below w0.heap.size w0 w2 := (hb1.alloc (by omega) _).grown grow (by simp; omega) (fun k hk => (hown1.lt k hk).1)
  have hn1 : Nb (w1.alloc (.cells #[.int .i64 (kk : Int), .slice fa fs.length fc, .string tx, .int .i64 n] 52)) w1.heap.size (kk : Int) (.slice fa fs.length fc) tx n := Array.getElem?_push_size
  have hn2 := hn1.others (others_grow (hown1.alloc _) grow)
  clear own' grow hn1 cK
  obtain ⟨⟨n0, n1, n2, n3⟩, -⟩ := hn2.cells
  have hlt2 := hn2.lt
  go_wp2_with fail
  go_loopw [0, 16] (fun v i wr => ∃ j : Nat, j ≤ fs.length ∧ i = .int .i64 j ∧ OwnB w0.heap.size wr v (m1 ++ nm ++ joinB ((fs.take j).map Lib.itoa)) ∧ Below w0.heap.size w0 wr ∧ Nb wr w1.heap.size (kk : Int) (.slice fa fs.length fc) tx n ∧ (joinB ((fs.take j).map Lib.itoa)).length ≤ j * 22) (fun _ i _ => fs.length - (intOf i).toNat)
  case atStart => exact ⟨0, by omega, rfl, by simpa [joinB] using hown2, hb2, hn2, by simp [joinB]⟩
  case round =>
    clear hn2 hown2 hb2 n0 n1 n2 n3 hlt2
    obtain ⟨j, hj, rfl, hown, hb, hn, hjl⟩ := hrel
    have hBle := hb.size
    by_cases hjm : j < fs.length
    · rcases HI.out with hnil | ⟨b, o, rfl, hcells⟩
      · exfalso; rw [hnil] at hjm; simp at hjm
      have cJ := Keeps.of hb _ _ (hcells j hjm)
      have hr := HF.out fs[j] (List.getElem_mem hjm)
      have hjI : (j : Int) < fs.length := by omega
      have HTk : Hid ((fs.take (j + 1)).map Lib.itoa = (fs.take j).map Lib.itoa ++ [Lib.itoa fs[j]]) := by
        show (fs.take (j + 1)).map Lib.itoa = _
        rw [List.take_succ_eq_append_getElem hjm, List.map_append]; rfl
      have hil := Lib.itoa_length_le fs[j] (by omega) (by omega)
      generalize fs[j] = z at *
      have hll : (m1 ++ nm ++ joinB ((fs.take j).map Lib.itoa)).length ≤ 1000000000 := by rw [List.length_append, List.length_append]; omega
      have HAp := apnum_any z (by omega) (by omega) (hT.on hb) hown hBle hll
      have HB := Lib.hid hb
      have HN := Lib.hid hn
      have HJl := Lib.hid hjl
      clear hown hb hn hll hjl hcells
      go_wp2_with (go_at_call 86; refine HAp.mono ?_; rintro e w3 ⟨v3, rfl, ho3, hb3, hot3⟩)
      refine ⟨⟨j + 1, by omega, by go_num, ?_, HB.out.trans hb3, HN.out.others hot3, ?_⟩, by simp [intOf]; omega⟩
      · rw [HTk.out, join_snoc, ← List.append_assoc]; exact ho3
      · rw [HTk.out, join_snoc, List.length_append, List.length_cons]; have := HJl.out; omega
    · obtain rfl : j = fs.length := by omega
      rw [List.take_of_length_le (Nat.le_refl _)] at hown hjl
      obtain ⟨⟨n0, n1, n2, n3⟩, -⟩ := hn.cells
      have hlt := hn.lt
      have hjI : ¬ ((fs.length : Int) < fs.length) := by omega
      have hll : (m1 ++ nm ++ joinB (fs.map Lib.itoa)).length ≤ 900000000 := by rw [List.length_append, List.length_append]; omega
      obtain ⟨M, hM⟩ : ∃ M, m1 ++ nm ++ joinB (fs.map Lib.itoa) = M := ⟨_, rfl⟩
      rw [hM] at hown hll
      have HM := Lib.hid hM
      have HB := Lib.hid hb
      have HNb := Lib.hid hn
      rename World => wr2
      clear hM hb hn hjl hjm
      rcases hN : hasNP (kk : Int) with _ | _
      · rcases hT2 : hasTP (kk : Int) with _ | _
        · rw [hN] at HHn
          rw [hT2] at HHt
          have HL : Hid (m1 ++ (lineB ⟨(kk : Int), fs, tx, n⟩ ++ [10]) = M ++ [10]) := by
            show _ = _
            rw [← HM.out]; simp [lineB, wordsB, hN, hT2, HNm.out]
          clear hN hT2
          go_wp2_with (first | (go_at_call 87; refine (HHn _).mono ?_; rintro e w' ⟨rfl, rfl⟩) | (go_at_call 88; refine (HHt _).mono ?_; rintro e w' ⟨rfl, rfl⟩) | (at_builtin; refine wpList_append_own _ rfl _ _ 81 rfl w0.heap.size 5 i0 (.int .u8 0) 1 1 Tryz.underlying81 hi0 hz0 hz1 hz2 rfl (by decide) _ _ _ rfl (hown.alloc _) ⟨wr2.heap.size, 0, none⟩ 1 1 [Value.int .u8 10] rfl rfl (by intro j u' hj; match j, hj with | 0, hj => simp at hj; subst hj; simp [Addr.add]) (by intro u' hu'; simp at hu'; subst hu'; rfl) (by unfold maxLen; omega) (by omega) (by simp; omega) ?_))
          intro v5 w5 own5 grow5 _
          have hb5 : Below w0.heap.size w0 w5 := (HB.out.alloc hBle _).grown grow5 (by simp; omega) (fun k hk => (hown.lt k hk).1)
          have hown5 : OwnB w0.heap.size w5 v5 (M ++ [10]) := ownB_snoc own5
          clear own5 grow5
          go_wp2_with fail
          exact HR.out _ _ (by rw [HL.out]; exact hown5) hb5
        · rw [hN] at HHn
          rw [hT2] at HHt
          have HL : Hid (m1 ++ (lineB ⟨(kk : Int), fs, tx, n⟩ ++ [10]) = (M ++ [32] ++ tx.data.toList) ++ [10]) := by
            show _ = _
            rw [← HM.out]; simp [lineB, wordsB, hN, hT2, HNm.out, joinB]
          clear hN hT2
          go_wp2_with (first | (go_at_call 87; refine (HHn _).mono ?_; rintro e w' ⟨rfl, rfl⟩) | (go_at_call 88; refine (HHt _).mono ?_; rintro e w' ⟨rfl, rfl⟩))
          have hnd2 : Nb wr2.drew w1.heap.size (kk : Int) (.slice fa fs.length fc) tx n := HNb.out
          go_region_held3 (fun u => u.cell? ⟨w1.heap.size, 2, none⟩ = some (.string tx)) (first | go_keep | exact hk4 | exact hk3)
            (first
              | (refine step_append_own (by rfl) _ _ 81 (by rfl) w0.heap.size 5 i0 (.int .u8 0) 1 1 Tryz.underlying81 hi0 hz0 hz1 hz2 rfl (by decide) u0 M.length (Lib.byteCells M) (by rfl) (ownB_drew_alloc hown _) ⟨wr2.heap.size, 0, none⟩ 1 1 [Value.int .u8 32] (by rfl) rfl (by intro j u' hj; match j, hj with | 0, hj => simp at hj; subst hj; simp [Addr.add]) (by intro u' hu'; simp at hu'; subst hu'; rfl) (by unfold maxLen; omega) (by omega) (by simp; omega) ?_; intro v3 w3 own' grow; have hb3 : Below w0.heap.size w0 w3 := ((below_drewN HB.out 1).alloc (by show w0.heap.size ≤ wr2.heap.size; omega) _).grown grow (by simp; omega) (fun k hk => (hown.lt k hk).1); have hn3 := (hnd2.alloc _).others (others_grow (ownB_drew_alloc hown _) grow); have hk3 := hn3.cells.1.2.2.1; have hs3 : w0.heap.size ≤ w3.heap.size := hb3.size; have hown3 : OwnB w0.heap.size w3 v3 (M ++ [32]) := ownB_snoc own'; clear own' grow)
              | (refine step_append_str (by rfl) _ _ 81 9 (by rfl) w0.heap.size 5 i0 Tryz.underlying81 Tryz.underlying9 hi0 hz0 hz1 hz2 v3 (M ++ [32]).length (Lib.byteCells (M ++ [32])) (by rfl) hown3 tx (by rfl) (by unfold maxLen; simp; omega) (by simp; omega) (by omega) ?_; intro v4 w4 own4 grow4; have hn4 := hn3.others (others_grow hown3 grow4); have hk4 := hn4.cells.1.2.2.1; have hb4 : Below w0.heap.size w0 w4 := hb3.grown grow4 hs3 (fun k hk => (hown3.lt k hk).1); have hown4 : OwnB w0.heap.size w4 v4 (M ++ [32] ++ tx.data.toList) := ownB_app (r := tx.data.toList) own4 Array.length_toList.symm; clear own4 grow4))
          have hl4 : (M ++ [32] ++ tx.data.toList).length ≤ 999999999 := by
            have e : tx.data.toList.length = tx.size := Array.length_toList
            rw [List.length_append, List.length_append, e]; simp; omega
          have hs4 : w0.heap.size ≤ w4.heap.size := hb4.size
          obtain ⟨M4, hM4⟩ : ∃ M4, M ++ [32] ++ tx.data.toList = M4 := ⟨_, rfl⟩
          rw [hM4] at hown4 hl4
          have HM4 := Lib.hid hM4
          clear hM4
          go_wp2_with (at_builtin; refine wpList_append_own _ rfl _ _ 81 rfl w0.heap.size 5 i0 (.int .u8 0) 1 1 Tryz.underlying81 hi0 hz0 hz1 hz2 rfl (by decide) _ _ _ rfl (hown4.alloc _) ⟨w4.heap.size, 0, none⟩ 1 1 [Value.int .u8 10] rfl rfl (by intro j u' hj; match j, hj with | 0, hj => simp at hj; subst hj; simp [Addr.add]) (by intro u' hu'; simp at hu'; subst hu'; rfl) (by unfold maxLen; omega) (by omega) (by simp; omega) ?_)
          intro v5 w5 own5 grow5 _
          have hb5 : Below w0.heap.size w0 w5 := (hb4.alloc hs4 _).grown grow5 (by simp; omega) (fun k hk => (hown4.lt k hk).1)
          have hown5 : OwnB w0.heap.size w5 v5 (M4 ++ [10]) := ownB_snoc own5
          clear own5 grow5
          go_wp2_with fail
          exact HR.out _ _ (by rw [HL.out, HM4.out]; exact hown5) hb5
      · have hT2 := nt_not hN
        rw [hN] at HHn
        rw [hT2] at HHt
        have HL : Hid (m1 ++ (lineB ⟨(kk : Int), fs, tx, n⟩ ++ [10]) = (M ++ 32 :: Lib.itoa n) ++ [10]) := by
          show _ = _
          rw [← HM.out]; simp [lineB, wordsB, hN, hT2, HNm.out, joinB]
        have hil := Lib.itoa_length_le n (by omega) (by omega)
        clear hN hT2
        have HAp := apnum_any n (by omega) (by omega) (hT.on HB.out) hown hBle (by omega)
        go_wp2_with (first | (go_at_call 87; refine (HHn _).mono ?_; rintro e w' ⟨rfl, rfl⟩) | (go_at_call 88; refine (HHt _).mono ?_; rintro e w' ⟨rfl, rfl⟩) | (go_at_call 86; refine HAp.mono ?_; rintro e w4 ⟨v4, rfl, ho4, hb4, hot4⟩; have hl4 : (M ++ 32 :: Lib.itoa n).length ≤ 999999999 := (by rw [List.length_append, List.length_cons]; omega); have hs4 := hb4.size; have hs4' : w0.heap.size ≤ w4.heap.size := (by omega); have HNb4 := HNb.out.others hot4; obtain ⟨⟨p0, p1, p2, p3⟩, -⟩ := HNb4.cells; have hlt4 := HNb4.lt; obtain ⟨M2, hM2⟩ : ∃ M2, M ++ 32 :: Lib.itoa n = M2 := ⟨_, rfl⟩; rw [hM2] at ho4 hl4; have HM2 := Lib.hid hM2; clear hM2 hot4) | (at_builtin; refine wpList_append_own _ rfl _ _ 81 rfl w0.heap.size 5 i0 (.int .u8 0) 1 1 Tryz.underlying81 hi0 hz0 hz1 hz2 rfl (by decide) _ _ _ rfl (ho4.alloc _) ⟨w4.heap.size, 0, none⟩ 1 1 [Value.int .u8 10] rfl rfl (by intro j u' hj; match j, hj with | 0, hj => simp at hj; subst hj; simp [Addr.add]) (by intro u' hu'; simp at hu'; subst hu'; rfl) (by unfold maxLen; omega) (by omega) (by simp; omega) ?_))
        intro v5 w5 own5 grow5 _
        have hb5 : Below w0.heap.size w0 w5 := ((HB.out.trans hb4).alloc hs4' _).grown grow5 (by simp; omega) (fun k hk => (ho4.lt k hk).1)
        have hown5 : OwnB w0.heap.size w5 v5 (M2 ++ [10]) := ownB_snoc own5
        clear own5 grow5
        go_wp2_with fail
        exact HR.out _ _ (by rw [HL.out, HM2.out]; exact hown5) hb5
end Go.Proofs.YtoooninneccfcaaGreatDoor

/- Print. -/
namespace Go.Proofs.YtoooninneccfcaaGreatDoor
open Go.RowKit
set_option linter.unusedVariables false
set_option maxHeartbeats 1000000 in
theorem print_bad {w : World} (hg : Gl w) {la : Option Addr} {L : List Nd} {c : Nat} (hL : NdsAt w la L) (hc : L.length ≤ c) (h0 : jobP L ≠ 0) :
    Calls Tryz.prog 18 #[.slice la L.length c] w fun e w' => e = .returned (.tuple #[.string ⟨#[]⟩, errV (jobP L)]) ∧ Below w.heap.size w w' := by
  have cj := job_any hg hL hc
  have hV := errV_pos h0
  rw [hV] at cj ⊢
  clear hL hg hV
  go_enter Tryz.func18, Tryz.ntmps18
  go_wp2_with (go_at_call 15; refine cj.mono ?_; rintro e w' ⟨rfl, hb2⟩)
  go_ret2
  exact ⟨rfl, hb2⟩
set_option maxRecDepth 100000 in
set_option maxHeartbeats 2000000 in
theorem print_good {w : World} (hg : Gl w) (hnm : NmAt w) (hT : Tb w.heap.size w) {la : Option Addr} {L : List Nd} {c : Nat} (hL : NdsAt w la L) (hc : L.length ≤ c) (h0 : jobP L = 0) :
    Calls Tryz.prog 18 #[.slice la L.length c] w fun e w' => e = .returned (.tuple #[.string ⟨(printB L).toArray⟩, .nilIface]) ∧ Below w.heap.size w w' := by
  have cj := job_any hg hL hc
  obtain ⟨hl12, hall, hs1, -⟩ := job_ok h0
  rw [h0, errV_zero] at cj
  have hne : 0 < L.length := by
    cases L with
    | nil => simp at hs1
    | cons a r => simp
  have HAll := Lib.hid hall
  have HNm := Lib.hid hnm
  have HL := Lib.hid hL
  clear h0 hg hall hs1 hnm hL
  go_enter Tryz.func18, Tryz.ntmps18
  go_wp2_with (go_at_call 15; refine cj.mono ?_; rintro e w1 ⟨rfl, hb1⟩)
  go_loopw [5, 15] (fun v i wr => ∃ j : Nat, j ≤ L.length ∧ i = .int .i64 j ∧ OwnB w.heap.size wr v (printB (L.take j)) ∧ Below w.heap.size w wr) (fun _ i _ => L.length - (intOf i).toNat)
  case atStart => exact ⟨0, by omega, rfl, World.ownsRow_nil _ _ _ _, hb1⟩
  case round =>
    obtain ⟨j, hj, rfl, hown, hb⟩ := hrel
    rename World => wr2
    have hpl := print_len hl12 HAll.out j hj
    by_cases hlt : j < L.length
    · rcases HL.out with hnil | ⟨b, o, rfl, hcells⟩
      · exfalso; rw [hnil] at hlt; simp at hlt
      have hnA := hcells j hlt
      obtain ⟨c0, ⟨fa, fc, c1, hi⟩, c2, c3, -⟩ := hnA
      have d0 := Keeps.of hb _ _ c0; have d1 := Keeps.of hb _ _ c1; have d2 := Keeps.of hb _ _ c2; have d3 := Keeps.of hb _ _ c3
      have hok := all_at HAll.out j hlt
      have htk : (L.take j).length ≤ 12 := by rw [List.length_take]; omega
      obtain ⟨hk, hf, -, hn, -, -, -⟩ := node_ok htk hok
      have h4 := node_fs htk hok
      have htx := node_tx htk hok
      have HSn : Hid (printB (L.take (j + 1)) = printB (L.take j) ++ (lineB L[j] ++ [10])) := by
        show _ = _
        rw [List.take_succ_eq_append_getElem hlt, print_snoc]
      have hjI : (j : Int) < L.length := by omega
      have hS := hb.size
      have HAp := fun R => apnode_any (fc := fc) (m1 := printB (L.take j)) HNm.out hT L[j] hi hk.1 hk.2 hf hn.1 hn.2 (by omega) h4 (hb.alloc (by omega) (.cells #[.int .i64 L[j].k, .slice fa L[j].fs.length fc, .string L[j].tx, .int .i64 L[j].n] 52)) (hown.alloc _) (by omega) R
      simp only [ndV] at HAp
      have HB := Lib.hid hb
      generalize L[j] = nd at *
      obtain ⟨k, fs, tx, n⟩ := nd
      simp only at *
      clear hf hk hn h4 htx hok hi hown hb hcells c0 c1 c2 c3
      go_wp2_with (go_at_call 50; refine HAp _ (fun v' w' ho' hb' => ?_))
      exact ⟨⟨j + 1, by omega, by go_num, by rw [HSn.out]; exact ho', hb'⟩, by simp [intOf]; omega⟩
    · obtain rfl : j = L.length := by omega
      rw [List.take_of_length_le (Nat.le_refl _)] at hown
      have hpos : 0 < (printB L).length := by
        cases L with
        | nil => simp at hne
        | cons a r => simp [printB]; omega
      have hjI : ¬ ((L.length : Int) < L.length) := by omega
      obtain ⟨P, hP⟩ : ∃ P, printB L = P := ⟨_, rfl⟩
      rw [hP] at hown hpos
      have HP := Lib.hid hP
      clear hP
      rcases hown.2 with ⟨-, h0⟩ | ⟨g, cap, cur, rfl, -, -, -, -, -, -⟩
      · omega
      · have hcv := run_convert_bytes_back (P := Tryz.prog) wr2 81 9 5 ⟨g, 0, none⟩ cap P Tryz.underlying81 Tryz.underlying5 Tryz.underlying9 (fun j hj => hown.cells (g := g) rfl j _ (by simp [Lib.byteCells, hj]))
        go_wp2_with fail
        go_ret2
        exact ⟨by rw [HP.out]; rfl, hb⟩
end Go.Proofs.YtoooninneccfcaaGreatDoor
