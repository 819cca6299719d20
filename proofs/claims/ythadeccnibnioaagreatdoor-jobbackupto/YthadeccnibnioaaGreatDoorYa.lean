/- The kind of a name; a number of a line. -/
import Derived.Test.YthadeccnibnioaaGreatDoorShelf
import Derived.Test.YthadeccnibnioaaGreatDoorJf
import Derived.Test.YthadeccnibnioaaGreatDoorHp
import Derived.Laws.Cover1
namespace Go.Proofs.YthadeccnibnioaaGreatDoor
open Go.RowKit
set_option linter.unusedVariables false
def TabOK (w : World) : Prop := Lib.TabIs Tryz.prog w "internal/strconv.uint64pow10" .u64 Lib.pow10Tab
theorem TabOK.below {w w' : World} (h : TabOK w) (hb : Below w.heap.size w w') : TabOK w' := ((Lib.tabBelow_of_tabIs h).on hb).here
/-- The names of the kinds, in their table. -/
structure NmAt (w : World) : Prop where
  c0 : w.cell? ⟨0, 0, none⟩ = some (.string ⟨#[]⟩)
  c1 : w.cell? ⟨0, 1, none⟩ = some (.string ⟨#[115, 111, 117, 114, 99, 101]⟩)
  c2 : w.cell? ⟨0, 2, none⟩ = some (.string ⟨#[109, 97, 112]⟩)
  c3 : w.cell? ⟨0, 3, none⟩ = some (.string ⟨#[102, 105, 108, 116, 101, 114]⟩)
  c4 : w.cell? ⟨0, 4, none⟩ = some (.string ⟨#[115, 117, 98]⟩)
  c5 : w.cell? ⟨0, 5, none⟩ = some (.string ⟨#[99, 111, 112, 121]⟩)
  c6 : w.cell? ⟨0, 6, none⟩ = some (.string ⟨#[117, 110, 105, 111, 110]⟩)
  c7 : w.cell? ⟨0, 7, none⟩ = some (.string ⟨#[102, 111, 108, 100]⟩)
  c8 : w.cell? ⟨0, 8, none⟩ = some (.string ⟨#[101, 118, 101, 114, 121]⟩)
  c9 : w.cell? ⟨0, 9, none⟩ = some (.string ⟨#[102, 105, 114, 115, 116]⟩)
  c10 : w.cell? ⟨0, 10, none⟩ = some (.string ⟨#[115, 105, 110, 107]⟩)
theorem NmAt.below {w w' : World} (h : NmAt w) (hb : Below w.heap.size w w') : NmAt w' :=
  ⟨Keeps.of hb _ _ h.c0, Keeps.of hb _ _ h.c1, Keeps.of hb _ _ h.c2, Keeps.of hb _ _ h.c3, Keeps.of hb _ _ h.c4, Keeps.of hb _ _ h.c5, Keeps.of hb _ _ h.c6, Keeps.of hb _ _ h.c7, Keeps.of hb _ _ h.c8, Keeps.of hb _ _ h.c9, Keeps.of hb _ _ h.c10⟩
/-- What the walks lean on. -/
structure Gj (w : World) : Prop where
  gl : Gl w
  tab : TabOK w
  nm : NmAt w
theorem Gj.below {w w' : World} (h : Gj w) (hb : Below w.heap.size w w') : Gj w' := ⟨h.gl.fr (xs := []) (Fr.below hb) (by simp), h.tab.below hb, h.nm.below hb⟩
theorem str_eq {a b : ByteArray} (h : a.data.toList = b.data.toList) : (a.toList == b.toList) = true := by
  rw [Lib.toList_data, Lib.toList_data, h]; simp
theorem str_ne {a b : ByteArray} (h : a.data.toList ≠ b.data.toList) : (a.toList == b.toList) = false := by
  rw [Lib.toList_data, Lib.toList_data]; simpa using h
set_option maxRecDepth 100000 in
set_option maxHeartbeats 4000000 in
theorem kind_any {w : World} (hg : Gj w) (s : ByteArray) : Calls Tryz.prog 93 #[.string s] w fun e w' => e = .returned (.int .i64 (kindP s.data.toList)) ∧ w = w' := by
  obtain ⟨c0, c1, c2, c3, c4, c5, c6, c7, c8, c9, c10⟩ := hg.nm
  obtain ⟨r, hr⟩ : ∃ r, kindP s.data.toList = r := ⟨_, rfl⟩
  rw [hr]
  have HR := Lib.hid hr
  clear hr hg
  have x0 : ∀ w : World, (Instr.index 148 (.agg #[.string ⟨#[]⟩, .string ⟨#[115, 111, 117, 114, 99, 101]⟩, .string ⟨#[109, 97, 112]⟩, .string ⟨#[102, 105, 108, 116, 101, 114]⟩, .string ⟨#[115, 117, 98]⟩, .string ⟨#[99, 111, 112, 121]⟩, .string ⟨#[117, 110, 105, 111, 110]⟩, .string ⟨#[102, 111, 108, 100]⟩, .string ⟨#[101, 118, 101, 114, 121]⟩, .string ⟨#[102, 105, 114, 115, 116]⟩, .string ⟨#[115, 105, 110, 107]⟩]) (.int .i64 0)).run Tryz.prog w = .ok (.string ⟨#[]⟩) w := fun _ => by kernel_rfl
  have x1 : ∀ w : World, (Instr.index 148 (.agg #[.string ⟨#[]⟩, .string ⟨#[115, 111, 117, 114, 99, 101]⟩, .string ⟨#[109, 97, 112]⟩, .string ⟨#[102, 105, 108, 116, 101, 114]⟩, .string ⟨#[115, 117, 98]⟩, .string ⟨#[99, 111, 112, 121]⟩, .string ⟨#[117, 110, 105, 111, 110]⟩, .string ⟨#[102, 111, 108, 100]⟩, .string ⟨#[101, 118, 101, 114, 121]⟩, .string ⟨#[102, 105, 114, 115, 116]⟩, .string ⟨#[115, 105, 110, 107]⟩]) (.int .i64 1)).run Tryz.prog w = .ok (.string ⟨#[115, 111, 117, 114, 99, 101]⟩) w := fun _ => by kernel_rfl
  have x2 : ∀ w : World, (Instr.index 148 (.agg #[.string ⟨#[]⟩, .string ⟨#[115, 111, 117, 114, 99, 101]⟩, .string ⟨#[109, 97, 112]⟩, .string ⟨#[102, 105, 108, 116, 101, 114]⟩, .string ⟨#[115, 117, 98]⟩, .string ⟨#[99, 111, 112, 121]⟩, .string ⟨#[117, 110, 105, 111, 110]⟩, .string ⟨#[102, 111, 108, 100]⟩, .string ⟨#[101, 118, 101, 114, 121]⟩, .string ⟨#[102, 105, 114, 115, 116]⟩, .string ⟨#[115, 105, 110, 107]⟩]) (.int .i64 2)).run Tryz.prog w = .ok (.string ⟨#[109, 97, 112]⟩) w := fun _ => by kernel_rfl
  have x3 : ∀ w : World, (Instr.index 148 (.agg #[.string ⟨#[]⟩, .string ⟨#[115, 111, 117, 114, 99, 101]⟩, .string ⟨#[109, 97, 112]⟩, .string ⟨#[102, 105, 108, 116, 101, 114]⟩, .string ⟨#[115, 117, 98]⟩, .string ⟨#[99, 111, 112, 121]⟩, .string ⟨#[117, 110, 105, 111, 110]⟩, .string ⟨#[102, 111, 108, 100]⟩, .string ⟨#[101, 118, 101, 114, 121]⟩, .string ⟨#[102, 105, 114, 115, 116]⟩, .string ⟨#[115, 105, 110, 107]⟩]) (.int .i64 3)).run Tryz.prog w = .ok (.string ⟨#[102, 105, 108, 116, 101, 114]⟩) w := fun _ => by kernel_rfl
  have x4 : ∀ w : World, (Instr.index 148 (.agg #[.string ⟨#[]⟩, .string ⟨#[115, 111, 117, 114, 99, 101]⟩, .string ⟨#[109, 97, 112]⟩, .string ⟨#[102, 105, 108, 116, 101, 114]⟩, .string ⟨#[115, 117, 98]⟩, .string ⟨#[99, 111, 112, 121]⟩, .string ⟨#[117, 110, 105, 111, 110]⟩, .string ⟨#[102, 111, 108, 100]⟩, .string ⟨#[101, 118, 101, 114, 121]⟩, .string ⟨#[102, 105, 114, 115, 116]⟩, .string ⟨#[115, 105, 110, 107]⟩]) (.int .i64 4)).run Tryz.prog w = .ok (.string ⟨#[115, 117, 98]⟩) w := fun _ => by kernel_rfl
  have x5 : ∀ w : World, (Instr.index 148 (.agg #[.string ⟨#[]⟩, .string ⟨#[115, 111, 117, 114, 99, 101]⟩, .string ⟨#[109, 97, 112]⟩, .string ⟨#[102, 105, 108, 116, 101, 114]⟩, .string ⟨#[115, 117, 98]⟩, .string ⟨#[99, 111, 112, 121]⟩, .string ⟨#[117, 110, 105, 111, 110]⟩, .string ⟨#[102, 111, 108, 100]⟩, .string ⟨#[101, 118, 101, 114, 121]⟩, .string ⟨#[102, 105, 114, 115, 116]⟩, .string ⟨#[115, 105, 110, 107]⟩]) (.int .i64 5)).run Tryz.prog w = .ok (.string ⟨#[99, 111, 112, 121]⟩) w := fun _ => by kernel_rfl
  have x6 : ∀ w : World, (Instr.index 148 (.agg #[.string ⟨#[]⟩, .string ⟨#[115, 111, 117, 114, 99, 101]⟩, .string ⟨#[109, 97, 112]⟩, .string ⟨#[102, 105, 108, 116, 101, 114]⟩, .string ⟨#[115, 117, 98]⟩, .string ⟨#[99, 111, 112, 121]⟩, .string ⟨#[117, 110, 105, 111, 110]⟩, .string ⟨#[102, 111, 108, 100]⟩, .string ⟨#[101, 118, 101, 114, 121]⟩, .string ⟨#[102, 105, 114, 115, 116]⟩, .string ⟨#[115, 105, 110, 107]⟩]) (.int .i64 6)).run Tryz.prog w = .ok (.string ⟨#[117, 110, 105, 111, 110]⟩) w := fun _ => by kernel_rfl
  have x7 : ∀ w : World, (Instr.index 148 (.agg #[.string ⟨#[]⟩, .string ⟨#[115, 111, 117, 114, 99, 101]⟩, .string ⟨#[109, 97, 112]⟩, .string ⟨#[102, 105, 108, 116, 101, 114]⟩, .string ⟨#[115, 117, 98]⟩, .string ⟨#[99, 111, 112, 121]⟩, .string ⟨#[117, 110, 105, 111, 110]⟩, .string ⟨#[102, 111, 108, 100]⟩, .string ⟨#[101, 118, 101, 114, 121]⟩, .string ⟨#[102, 105, 114, 115, 116]⟩, .string ⟨#[115, 105, 110, 107]⟩]) (.int .i64 7)).run Tryz.prog w = .ok (.string ⟨#[102, 111, 108, 100]⟩) w := fun _ => by kernel_rfl
  have x8 : ∀ w : World, (Instr.index 148 (.agg #[.string ⟨#[]⟩, .string ⟨#[115, 111, 117, 114, 99, 101]⟩, .string ⟨#[109, 97, 112]⟩, .string ⟨#[102, 105, 108, 116, 101, 114]⟩, .string ⟨#[115, 117, 98]⟩, .string ⟨#[99, 111, 112, 121]⟩, .string ⟨#[117, 110, 105, 111, 110]⟩, .string ⟨#[102, 111, 108, 100]⟩, .string ⟨#[101, 118, 101, 114, 121]⟩, .string ⟨#[102, 105, 114, 115, 116]⟩, .string ⟨#[115, 105, 110, 107]⟩]) (.int .i64 8)).run Tryz.prog w = .ok (.string ⟨#[101, 118, 101, 114, 121]⟩) w := fun _ => by kernel_rfl
  have x9 : ∀ w : World, (Instr.index 148 (.agg #[.string ⟨#[]⟩, .string ⟨#[115, 111, 117, 114, 99, 101]⟩, .string ⟨#[109, 97, 112]⟩, .string ⟨#[102, 105, 108, 116, 101, 114]⟩, .string ⟨#[115, 117, 98]⟩, .string ⟨#[99, 111, 112, 121]⟩, .string ⟨#[117, 110, 105, 111, 110]⟩, .string ⟨#[102, 111, 108, 100]⟩, .string ⟨#[101, 118, 101, 114, 121]⟩, .string ⟨#[102, 105, 114, 115, 116]⟩, .string ⟨#[115, 105, 110, 107]⟩]) (.int .i64 9)).run Tryz.prog w = .ok (.string ⟨#[102, 105, 114, 115, 116]⟩) w := fun _ => by kernel_rfl
  have x10 : ∀ w : World, (Instr.index 148 (.agg #[.string ⟨#[]⟩, .string ⟨#[115, 111, 117, 114, 99, 101]⟩, .string ⟨#[109, 97, 112]⟩, .string ⟨#[102, 105, 108, 116, 101, 114]⟩, .string ⟨#[115, 117, 98]⟩, .string ⟨#[99, 111, 112, 121]⟩, .string ⟨#[117, 110, 105, 111, 110]⟩, .string ⟨#[102, 111, 108, 100]⟩, .string ⟨#[101, 118, 101, 114, 121]⟩, .string ⟨#[102, 105, 114, 115, 116]⟩, .string ⟨#[115, 105, 110, 107]⟩]) (.int .i64 10)).run Tryz.prog w = .ok (.string ⟨#[115, 105, 110, 107]⟩) w := fun _ => by kernel_rfl
  go_enter Tryz.func93, Tryz.ntmps93
  go_wp2
  go_loop [6] (fun i => ∃ k : Nat, k ≤ 11 ∧ i = .int .i64 k ∧ ∀ j, j < k → s.data.toList ≠ nmN j) (fun i => 11 - (intOf i).toNat)
  case atStart => exact ⟨0, by omega, rfl, fun j h => by omega⟩
  case round =>
    obtain ⟨k, hk, rfl, hne⟩ := hrel
    have HN := Lib.hid hne
    clear hne
    obtain rfl | rfl | rfl | rfl | rfl | rfl | rfl | rfl | rfl | rfl | rfl | rfl : k = 0 ∨ k = 1 ∨ k = 2 ∨ k = 3 ∨ k = 4 ∨ k = 5 ∨ k = 6 ∨ k = 7 ∨ k = 8 ∨ k = 9 ∨ k = 10 ∨ k = 11 := by omega
    · by_cases he : s.data.toList = nmN 0
      · have hs : ((⟨#[]⟩ : ByteArray).toList == s.toList) = true := str_eq he.symm
        have hs2 : s.toList.isEmpty = true := by rw [Lib.toList_data, show s.data.toList = [] from he]; rfl
        have hs3 : (([] : List UInt8) == s.toList) = true := by rw [Lib.toList_data, show s.data.toList = [] from he]; rfl
        have HE := Lib.hid he
        clear he
        go_wp2
        go_ret
        exact ⟨by rw [← HR.out, HE.out]; rfl, rfl⟩
      · have hs : ((⟨#[]⟩ : ByteArray).toList == s.toList) = false := str_ne (fun e => he e.symm)
        have hs2 : s.toList.isEmpty = false := by rw [Lib.toList_data]; exact (match h : s.data.toList with | [] => absurd h he | a :: r => rfl)
        have hs3 : (([] : List UInt8) == s.toList) = false := by rw [Lib.toList_data]; exact (match h : s.data.toList with | [] => absurd h he | a :: r => rfl)
        have HE := Lib.hid he
        clear he
        go_wp2
        go_round
        case rel => exact ⟨1, by omega, by go_num, fun j hj => by
          by_cases e : j = 0
          · subst e; exact HE.out
          · exact HN.out j (by omega)⟩
        case measure => simp [intOf]
    · by_cases he : s.data.toList = nmN 1
      · have hs : ((⟨#[115, 111, 117, 114, 99, 101]⟩ : ByteArray).toList == s.toList) = true := str_eq he.symm
        have hs3 : (([115, 111, 117, 114, 99, 101] : List UInt8) == s.toList) = true := by rw [Lib.toList_data, show s.data.toList = [115, 111, 117, 114, 99, 101] from he]; rfl
        have HE := Lib.hid he
        clear he
        go_wp2
        go_ret
        exact ⟨by rw [← HR.out, HE.out]; rfl, rfl⟩
      · have hs : ((⟨#[115, 111, 117, 114, 99, 101]⟩ : ByteArray).toList == s.toList) = false := str_ne (fun e => he e.symm)
        have hs3 : (([115, 111, 117, 114, 99, 101] : List UInt8) == s.toList) = false := by rw [Lib.toList_data]; simpa using (fun e => he e.symm)
        have HE := Lib.hid he
        clear he
        go_wp2
        go_round
        case rel => exact ⟨2, by omega, by go_num, fun j hj => by
          by_cases e : j = 1
          · subst e; exact HE.out
          · exact HN.out j (by omega)⟩
        case measure => simp [intOf]
    · by_cases he : s.data.toList = nmN 2
      · have hs : ((⟨#[109, 97, 112]⟩ : ByteArray).toList == s.toList) = true := str_eq he.symm
        have hs3 : (([109, 97, 112] : List UInt8) == s.toList) = true := by rw [Lib.toList_data, show s.data.toList = [109, 97, 112] from he]; rfl
        have HE := Lib.hid he
        clear he
        go_wp2
        go_ret
        exact ⟨by rw [← HR.out, HE.out]; rfl, rfl⟩
      · have hs : ((⟨#[109, 97, 112]⟩ : ByteArray).toList == s.toList) = false := str_ne (fun e => he e.symm)
        have hs3 : (([109, 97, 112] : List UInt8) == s.toList) = false := by rw [Lib.toList_data]; simpa using (fun e => he e.symm)
        have HE := Lib.hid he
        clear he
        go_wp2
        go_round
        case rel => exact ⟨3, by omega, by go_num, fun j hj => by
          by_cases e : j = 2
          · subst e; exact HE.out
          · exact HN.out j (by omega)⟩
        case measure => simp [intOf]
    · by_cases he : s.data.toList = nmN 3
      · have hs : ((⟨#[102, 105, 108, 116, 101, 114]⟩ : ByteArray).toList == s.toList) = true := str_eq he.symm
        have hs3 : (([102, 105, 108, 116, 101, 114] : List UInt8) == s.toList) = true := by rw [Lib.toList_data, show s.data.toList = [102, 105, 108, 116, 101, 114] from he]; rfl
        have HE := Lib.hid he
        clear he
        go_wp2
        go_ret
        exact ⟨by rw [← HR.out, HE.out]; rfl, rfl⟩
      · have hs : ((⟨#[102, 105, 108, 116, 101, 114]⟩ : ByteArray).toList == s.toList) = false := str_ne (fun e => he e.symm)
        have hs3 : (([102, 105, 108, 116, 101, 114] : List UInt8) == s.toList) = false := by rw [Lib.toList_data]; simpa using (fun e => he e.symm)
        have HE := Lib.hid he
        clear he
        go_wp2
        go_round
        case rel => exact ⟨4, by omega, by go_num, fun j hj => by
          by_cases e : j = 3
          · subst e; exact HE.out
          · exact HN.out j (by omega)⟩
        case measure => simp [intOf]
    · by_cases he : s.data.toList = nmN 4
      · have hs : ((⟨#[115, 117, 98]⟩ : ByteArray).toList == s.toList) = true := str_eq he.symm
        have hs3 : (([115, 117, 98] : List UInt8) == s.toList) = true := by rw [Lib.toList_data, show s.data.toList = [115, 117, 98] from he]; rfl
        have HE := Lib.hid he
        clear he
        go_wp2
        go_ret
        exact ⟨by rw [← HR.out, HE.out]; rfl, rfl⟩
      · have hs : ((⟨#[115, 117, 98]⟩ : ByteArray).toList == s.toList) = false := str_ne (fun e => he e.symm)
        have hs3 : (([115, 117, 98] : List UInt8) == s.toList) = false := by rw [Lib.toList_data]; simpa using (fun e => he e.symm)
        have HE := Lib.hid he
        clear he
        go_wp2
        go_round
        case rel => exact ⟨5, by omega, by go_num, fun j hj => by
          by_cases e : j = 4
          · subst e; exact HE.out
          · exact HN.out j (by omega)⟩
        case measure => simp [intOf]
    · by_cases he : s.data.toList = nmN 5
      · have hs : ((⟨#[99, 111, 112, 121]⟩ : ByteArray).toList == s.toList) = true := str_eq he.symm
        have hs3 : (([99, 111, 112, 121] : List UInt8) == s.toList) = true := by rw [Lib.toList_data, show s.data.toList = [99, 111, 112, 121] from he]; rfl
        have HE := Lib.hid he
        clear he
        go_wp2
        go_ret
        exact ⟨by rw [← HR.out, HE.out]; rfl, rfl⟩
      · have hs : ((⟨#[99, 111, 112, 121]⟩ : ByteArray).toList == s.toList) = false := str_ne (fun e => he e.symm)
        have hs3 : (([99, 111, 112, 121] : List UInt8) == s.toList) = false := by rw [Lib.toList_data]; simpa using (fun e => he e.symm)
        have HE := Lib.hid he
        clear he
        go_wp2
        go_round
        case rel => exact ⟨6, by omega, by go_num, fun j hj => by
          by_cases e : j = 5
          · subst e; exact HE.out
          · exact HN.out j (by omega)⟩
        case measure => simp [intOf]
    · by_cases he : s.data.toList = nmN 6
      · have hs : ((⟨#[117, 110, 105, 111, 110]⟩ : ByteArray).toList == s.toList) = true := str_eq he.symm
        have hs3 : (([117, 110, 105, 111, 110] : List UInt8) == s.toList) = true := by rw [Lib.toList_data, show s.data.toList = [117, 110, 105, 111, 110] from he]; rfl
        have HE := Lib.hid he
        clear he
        go_wp2
        go_ret
        exact ⟨by rw [← HR.out, HE.out]; rfl, rfl⟩
      · have hs : ((⟨#[117, 110, 105, 111, 110]⟩ : ByteArray).toList == s.toList) = false := str_ne (fun e => he e.symm)
        have hs3 : (([117, 110, 105, 111, 110] : List UInt8) == s.toList) = false := by rw [Lib.toList_data]; simpa using (fun e => he e.symm)
        have HE := Lib.hid he
        clear he
        go_wp2
        go_round
        case rel => exact ⟨7, by omega, by go_num, fun j hj => by
          by_cases e : j = 6
          · subst e; exact HE.out
          · exact HN.out j (by omega)⟩
        case measure => simp [intOf]
    · by_cases he : s.data.toList = nmN 7
      · have hs : ((⟨#[102, 111, 108, 100]⟩ : ByteArray).toList == s.toList) = true := str_eq he.symm
        have hs3 : (([102, 111, 108, 100] : List UInt8) == s.toList) = true := by rw [Lib.toList_data, show s.data.toList = [102, 111, 108, 100] from he]; rfl
        have HE := Lib.hid he
        clear he
        go_wp2
        go_ret
        exact ⟨by rw [← HR.out, HE.out]; rfl, rfl⟩
      · have hs : ((⟨#[102, 111, 108, 100]⟩ : ByteArray).toList == s.toList) = false := str_ne (fun e => he e.symm)
        have hs3 : (([102, 111, 108, 100] : List UInt8) == s.toList) = false := by rw [Lib.toList_data]; simpa using (fun e => he e.symm)
        have HE := Lib.hid he
        clear he
        go_wp2
        go_round
        case rel => exact ⟨8, by omega, by go_num, fun j hj => by
          by_cases e : j = 7
          · subst e; exact HE.out
          · exact HN.out j (by omega)⟩
        case measure => simp [intOf]
    · by_cases he : s.data.toList = nmN 8
      · have hs : ((⟨#[101, 118, 101, 114, 121]⟩ : ByteArray).toList == s.toList) = true := str_eq he.symm
        have hs3 : (([101, 118, 101, 114, 121] : List UInt8) == s.toList) = true := by rw [Lib.toList_data, show s.data.toList = [101, 118, 101, 114, 121] from he]; rfl
        have HE := Lib.hid he
        clear he
        go_wp2
        go_ret
        exact ⟨by rw [← HR.out, HE.out]; rfl, rfl⟩
      · have hs : ((⟨#[101, 118, 101, 114, 121]⟩ : ByteArray).toList == s.toList) = false := str_ne (fun e => he e.symm)
        have hs3 : (([101, 118, 101, 114, 121] : List UInt8) == s.toList) = false := by rw [Lib.toList_data]; simpa using (fun e => he e.symm)
        have HE := Lib.hid he
        clear he
        go_wp2
        go_round
        case rel => exact ⟨9, by omega, by go_num, fun j hj => by
          by_cases e : j = 8
          · subst e; exact HE.out
          · exact HN.out j (by omega)⟩
        case measure => simp [intOf]
    · by_cases he : s.data.toList = nmN 9
      · have hs : ((⟨#[102, 105, 114, 115, 116]⟩ : ByteArray).toList == s.toList) = true := str_eq he.symm
        have hs3 : (([102, 105, 114, 115, 116] : List UInt8) == s.toList) = true := by rw [Lib.toList_data, show s.data.toList = [102, 105, 114, 115, 116] from he]; rfl
        have HE := Lib.hid he
        clear he
        go_wp2
        go_ret
        exact ⟨by rw [← HR.out, HE.out]; rfl, rfl⟩
      · have hs : ((⟨#[102, 105, 114, 115, 116]⟩ : ByteArray).toList == s.toList) = false := str_ne (fun e => he e.symm)
        have hs3 : (([102, 105, 114, 115, 116] : List UInt8) == s.toList) = false := by rw [Lib.toList_data]; simpa using (fun e => he e.symm)
        have HE := Lib.hid he
        clear he
        go_wp2
        go_round
        case rel => exact ⟨10, by omega, by go_num, fun j hj => by
          by_cases e : j = 9
          · subst e; exact HE.out
          · exact HN.out j (by omega)⟩
        case measure => simp [intOf]
    · by_cases he : s.data.toList = nmN 10
      · have hs : ((⟨#[115, 105, 110, 107]⟩ : ByteArray).toList == s.toList) = true := str_eq he.symm
        have hs3 : (([115, 105, 110, 107] : List UInt8) == s.toList) = true := by rw [Lib.toList_data, show s.data.toList = [115, 105, 110, 107] from he]; rfl
        have HE := Lib.hid he
        clear he
        go_wp2
        go_ret
        exact ⟨by rw [← HR.out, HE.out]; rfl, rfl⟩
      · have hs : ((⟨#[115, 105, 110, 107]⟩ : ByteArray).toList == s.toList) = false := str_ne (fun e => he e.symm)
        have hs3 : (([115, 105, 110, 107] : List UInt8) == s.toList) = false := by rw [Lib.toList_data]; simpa using (fun e => he e.symm)
        have HE := Lib.hid he
        clear he
        go_wp2
        go_round
        case rel => exact ⟨11, by omega, by go_num, fun j hj => by
          by_cases e : j = 10
          · subst e; exact HE.out
          · exact HN.out j (by omega)⟩
        case measure => simp [intOf]
    · go_wp2
      go_ret
      refine ⟨?_, rfl⟩
      rw [← HR.out]
      have h := HN.out
      unfold kindP
      rw [if_neg (show s.data.toList ≠ nameP 1 from h 1 (by omega)), if_neg (show s.data.toList ≠ nameP 2 from h 2 (by omega)), if_neg (show s.data.toList ≠ nameP 3 from h 3 (by omega)), if_neg (show s.data.toList ≠ nameP 4 from h 4 (by omega)), if_neg (show s.data.toList ≠ nameP 5 from h 5 (by omega)), if_neg (show s.data.toList ≠ nameP 6 from h 6 (by omega)), if_neg (show s.data.toList ≠ nameP 7 from h 7 (by omega)), if_neg (show s.data.toList ≠ nameP 8 from h 8 (by omega)), if_neg (show s.data.toList ≠ nameP 9 from h 9 (by omega)), if_neg (show s.data.toList ≠ nameP 10 from h 10 (by omega))]
      rfl
theorem itoa_of {w : World} (hT : TabOK w) {n : Int} (h0 : -9223372036854775808 ≤ n) (h1 : n ≤ 9223372036854775807) :
    Calls Tryz.prog 131 #[.int .i64 n] w fun e w' => e = .returned (.string ⟨(Lib.itoa n).toArray⟩) ∧ Below w.heap.size w w' :=
  (Tryz.strconv_Itoa n h0 h1 w hT).mono fun e w' ⟨h, k, os, hw⟩ => ⟨h, by rw [hw]; exact Lib.below_grow _ _ (Nat.le_refl _) _ _⟩
/-- How readNumber ends. -/
def RdEnd (w : World) (l : List UInt8) (e : Ending) (w' : World) : Prop := (∃ z : Int, e = .returned (.tuple #[.int .i64 z, .bool (numR l).isSome]) ∧ ∀ n, numR l = some n → z = n) ∧ Below w.heap.size w w'
theorem RdEnd.no {w w' : World} {l : List UInt8} (h : numR l = none) (z : Int) (hb : Below w.heap.size w w') : RdEnd w l (.returned (.tuple #[.int .i64 z, .bool false])) w' := ⟨⟨z, by rw [h]; rfl, fun n hn => by rw [h] at hn; cases hn⟩, hb⟩
theorem RdEnd.yes {w w' : World} {l : List UInt8} {z : Int} (h : numR l = some z) (hb : Below w.heap.size w w') : RdEnd w l (.returned (.tuple #[.int .i64 z, .bool true])) w' := ⟨⟨z, by rw [h]; rfl, fun n hn => by rw [h] at hn; injection hn⟩, hb⟩
set_option maxRecDepth 100000 in
set_option maxHeartbeats 4000000 in
theorem rdnum_any {w : World} (hg : Gj w) (s : ByteArray) (hs : s.size ≤ 281474976710656) : Calls Tryz.prog 95 #[.string s] w (RdEnd w s.data.toList) := by
  obtain ⟨-, ⟨v1, c1, h1⟩, ⟨v2, c2, h2⟩⟩ := hg.gl
  have htab := hg.tab
  have HNo := Lib.hid (fun w' z => RdEnd.no (w := w) (w' := w') (l := s.data.toList) (z := z))
  have HYes := Lib.hid (fun w' z => RdEnd.yes (w := w) (w' := w') (l := s.data.toList) (z := z))
  generalize RdEnd w s.data.toList = R at *
  cases ha : Lib.atoiAll s.data.toList with
  | ok v =>
    have hbd := Lib.atoiAll_bounds ha
    have HA := Tryz.strconv_Atoi_ok s (by omega) v ha w
    have hB : ∀ w1, (w1 = w ∨ ∃ t, w1 = Lib.bytesWorld w 5 t) → Below w.heap.size w w1 := fun w1 h => by
      rcases h with rfl | ⟨t, rfl⟩
      · exact Below.refl _ _
      · exact Lib.bytesWorld_below w 5 t
    have HB := Lib.hid hB
    clear hB
    by_cases hv : 0 ≤ v ∧ v ≤ 999
    · obtain ⟨hv0, hv9⟩ := hv
      have HI := Lib.hid (fun (w' : World) (hb : Below w.heap.size w w') => itoa_of (htab.below hb) hbd.1 hbd.2)
      by_cases he : Lib.itoa v = s.data.toList
      · have HN := Lib.hid (numR_yes ha hv0 hv9 he)
        have hst : (Lib.itoa v == s.toList) = true := by rw [Lib.toList_data, he]; simp
        clear ha he htab hg
        go_enter Tryz.func95, Tryz.ntmps95
        go_wp2_with (go_at_call 130; refine Hid.out ?_)
        refine Lib.hid ?_
        refine HA.mono ?_
        rintro e w1 ⟨rfl, hw1⟩
        have hb1 := HB.out w1 hw1
        have HI1 := HI.out w1 hb1
        clear hw1
        go_wp2_with (go_at_call 131; refine HI1.mono ?_; rintro e w' ⟨rfl, hb2⟩)
        exact HYes.out _ _ HN.out (hb1.trans (hb2.mono hb1.size))
      · have HN := Lib.hid (show numR s.data.toList = none from numR_no (fun u hu => by rw [ha] at hu; injection hu with hu; subst hu; exact fun h => he h.2.2))
        have hst : (Lib.itoa v == s.toList) = false := by rw [Lib.toList_data]; simpa using he
        clear ha he htab hg
        go_enter Tryz.func95, Tryz.ntmps95
        go_wp2_with (go_at_call 130; refine Hid.out ?_)
        refine Lib.hid ?_
        refine HA.mono ?_
        rintro e w1 ⟨rfl, hw1⟩
        have hb1 := HB.out w1 hw1
        have HI1 := HI.out w1 hb1
        clear hw1
        go_wp2_with (go_at_call 131; refine HI1.mono ?_; rintro e w' ⟨rfl, hb2⟩)
        exact HNo.out _ _ HN.out (hb1.trans (hb2.mono hb1.size))
    · have HN := Lib.hid (show numR s.data.toList = none from numR_no (fun u hu => by rw [ha] at hu; injection hu with hu; subst hu; exact fun h => hv ⟨h.1, h.2.1⟩))
      have hv' : ¬ 0 ≤ v ∨ (0 ≤ v ∧ ¬ v ≤ 999) := by omega
      clear ha htab hg hv
      rcases hv' with hv' | ⟨hv', hv2⟩
      all_goals
        go_enter Tryz.func95, Tryz.ntmps95
        go_wp2_with (go_at_call 130; refine Hid.out ?_)
        refine Lib.hid ?_
        refine HA.mono ?_
        rintro e w1 ⟨rfl, hw1⟩
        have hb1 := HB.out w1 hw1
        clear hw1
        go_wp2_with fail
        exact HNo.out _ _ HN.out hb1
  | «syntax» =>
    have HN := Lib.hid (show numR s.data.toList = none from numR_no (fun u hu => by rw [ha] at hu; cases hu))
    have HA := Tryz.strconv_Atoi_syntax s hs ha v1 w c1 h1
    clear ha htab hg
    go_enter Tryz.func95, Tryz.ntmps95
    go_wp2_with (go_at_call 130; refine Hid.out ?_)
    refine Lib.hid ?_
    refine HA.mono ?_
    rintro e w1 ⟨n1, rfl, -, -, hb1⟩
    go_wp2_with fail
    exact HNo.out _ _ HN.out hb1
  | range =>
    have HN := Lib.hid (show numR s.data.toList = none from numR_no (fun u hu => by rw [ha] at hu; cases hu))
    have HA := Tryz.strconv_Atoi_range s hs ha v2 w c2 h2
    clear ha htab hg
    go_enter Tryz.func95, Tryz.ntmps95
    go_wp2_with (go_at_call 130; refine Hid.out ?_)
    refine Lib.hid ?_
    refine HA.mono ?_
    rintro e w1 ⟨n1, rfl, -, -, hb1⟩
    go_wp2_with fail
    exact HNo.out _ _ HN.out hb1
end Go.Proofs.YthadeccnibnioaaGreatDoor
