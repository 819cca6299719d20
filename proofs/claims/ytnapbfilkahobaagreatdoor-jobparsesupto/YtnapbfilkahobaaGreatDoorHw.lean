import Derived.Test.YtnapbfilkahobaaGreatDoorShelfb
import Derived.Test.YtnapbfilkahobaaGreatDoorHj
import Derived.Test.YtnapbfilkahobaaGreatDoorHp
import Derived.Laws.Cover1
import Derived.Lib.Strings
import Derived.Deep.OwnRows
/- The kind of a name; a number of a line. -/
namespace Go.Proofs.YtnapbfilkahobaaGreatDoor
open Go.RowKit
set_option linter.unusedVariables false
def TabOK (w : World) : Prop := Lib.TabIs Tryz.prog w "internal/strconv.uint64pow10" .u64 Lib.pow10Tab
theorem TabOK.below {w w' : World} (h : TabOK w) (hb : Below w.heap.size w w') : TabOK w' := ((Lib.tabBelow_of_tabIs h).on hb).here
/-- The names of the kinds, in their table. -/
structure NmAt (w : World) : Prop where
  c0 : w.cell? ⟨0, 0, none⟩ = some (.string ⟨#[]⟩)
  c1 : w.cell? ⟨0, 1, none⟩ = some (.string ⟨#[115, 111, 117, 114, 99, 101]⟩)
  c2 : w.cell? ⟨0, 2, none⟩ = some (.string ⟨#[109, 97, 112]⟩)
  c3 : w.cell? ⟨0, 3, none⟩ = some (.string ⟨#[102, 105, 108, 116, 101, 114]⟩)
  c4 : w.cell? ⟨0, 4, none⟩ = some (.string ⟨#[115, 117, 98]⟩)
  c5 : w.cell? ⟨0, 5, none⟩ = some (.string ⟨#[99, 111, 112, 121]⟩)
  c6 : w.cell? ⟨0, 6, none⟩ = some (.string ⟨#[117, 110, 105, 111, 110]⟩)
  c7 : w.cell? ⟨0, 7, none⟩ = some (.string ⟨#[102, 111, 108, 100]⟩)
  c8 : w.cell? ⟨0, 8, none⟩ = some (.string ⟨#[101, 118, 101, 114, 121]⟩)
  c9 : w.cell? ⟨0, 9, none⟩ = some (.string ⟨#[102, 105, 114, 115, 116]⟩)
  c10 : w.cell? ⟨0, 10, none⟩ = some (.string ⟨#[115, 105, 110, 107]⟩)
theorem NmAt.below {w w' : World} (h : NmAt w) (hb : Below w.heap.size w w') : NmAt w' :=
  ⟨Keeps.of hb _ _ h.c0, Keeps.of hb _ _ h.c1, Keeps.of hb _ _ h.c2, Keeps.of hb _ _ h.c3, Keeps.of hb _ _ h.c4, Keeps.of hb _ _ h.c5, Keeps.of hb _ _ h.c6, Keeps.of hb _ _ h.c7, Keeps.of hb _ _ h.c8, Keeps.of hb _ _ h.c9, Keeps.of hb _ _ h.c10⟩
/-- What the walks lean on. -/
structure Gj (w : World) : Prop where
  gl : Gl w
  tab : TabOK w
  nm : NmAt w
theorem Gj.below {w w' : World} (h : Gj w) (hb : Below w.heap.size w w') : Gj w' := ⟨h.gl.fr (xs := []) (Fr.below hb) (by simp), h.tab.below hb, h.nm.below hb⟩
theorem str_eq {a b : ByteArray} (h : a.data.toList = b.data.toList) : (a.toList == b.toList) = true := by
  rw [Lib.toList_data, Lib.toList_data, h]; simp
theorem str_ne {a b : ByteArray} (h : a.data.toList ≠ b.data.toList) : (a.toList == b.toList) = false := by
  rw [Lib.toList_data, Lib.toList_data]; simpa using h
set_option maxRecDepth 100000 in
set_option maxHeartbeats 4000000 in
theorem kind_any {w : World} (hg : Gj w) (s : ByteArray) : Calls Tryz.prog 92 #[.string s] w fun e w' => e = .returned (.int .i64 (kindP s.data.toList)) ∧ w = w' := by
  obtain ⟨c0, c1, c2, c3, c4, c5, c6, c7, c8, c9, c10⟩ := hg.nm
  obtain ⟨r, hr⟩ : ∃ r, kindP s.data.toList = r := ⟨_, rfl⟩
  rw [hr]
  have HR := Lib.hid hr
  clear hr hg
  have x0 : ∀ w : World, (Instr.index 147 (.agg #[.string ⟨#[]⟩, .string ⟨#[115, 111, 117, 114, 99, 101]⟩, .string ⟨#[109, 97, 112]⟩, .string ⟨#[102, 105, 108, 116, 101, 114]⟩, .string ⟨#[115, 117, 98]⟩, .string ⟨#[99, 111, 112, 121]⟩, .string ⟨#[117, 110, 105, 111, 110]⟩, .string ⟨#[102, 111, 108, 100]⟩, .string ⟨#[101, 118, 101, 114, 121]⟩, .string ⟨#[102, 105, 114, 115, 116]⟩, .string ⟨#[115, 105, 110, 107]⟩]) (.int .i64 0)).run Tryz.prog w = .ok (.string ⟨#[]⟩) w := fun _ => by kernel_rfl
  have x1 : ∀ w : World, (Instr.index 147 (.agg #[.string ⟨#[]⟩, .string ⟨#[115, 111, 117, 114, 99, 101]⟩, .string ⟨#[109, 97, 112]⟩, .string ⟨#[102, 105, 108, 116, 101, 114]⟩, .string ⟨#[115, 117, 98]⟩, .string ⟨#[99, 111, 112, 121]⟩, .string ⟨#[117, 110, 105, 111, 110]⟩, .string ⟨#[102, 111, 108, 100]⟩, .string ⟨#[101, 118, 101, 114, 121]⟩, .string ⟨#[102, 105, 114, 115, 116]⟩, .string ⟨#[115, 105, 110, 107]⟩]) (.int .i64 1)).run Tryz.prog w = .ok (.string ⟨#[115, 111, 117, 114, 99, 101]⟩) w := fun _ => by kernel_rfl
  have x2 : ∀ w : World, (Instr.index 147 (.agg #[.string ⟨#[]⟩, .string ⟨#[115, 111, 117, 114, 99, 101]⟩, .string ⟨#[109, 97, 112]⟩, .string ⟨#[102, 105, 108, 116, 101, 114]⟩, .string ⟨#[115, 117, 98]⟩, .string ⟨#[99, 111, 112, 121]⟩, .string ⟨#[117, 110, 105, 111, 110]⟩, .string ⟨#[102, 111, 108, 100]⟩, .string ⟨#[101, 118, 101, 114, 121]⟩, .string ⟨#[102, 105, 114, 115, 116]⟩, .string ⟨#[115, 105, 110, 107]⟩]) (.int .i64 2)).run Tryz.prog w = .ok (.string ⟨#[109, 97, 112]⟩) w := fun _ => by kernel_rfl
  have x3 : ∀ w : World, (Instr.index 147 (.agg #[.string ⟨#[]⟩, .string ⟨#[115, 111, 117, 114, 99, 101]⟩, .string ⟨#[109, 97, 112]⟩, .string ⟨#[102, 105, 108, 116, 101, 114]⟩, .string ⟨#[115, 117, 98]⟩, .string ⟨#[99, 111, 112, 121]⟩, .string ⟨#[117, 110, 105, 111, 110]⟩, .string ⟨#[102, 111, 108, 100]⟩, .string ⟨#[101, 118, 101, 114, 121]⟩, .string ⟨#[102, 105, 114, 115, 116]⟩, .string ⟨#[115, 105, 110, 107]⟩]) (.int .i64 3)).run Tryz.prog w = .ok (.string ⟨#[102, 105, 108, 116, 101, 114]⟩) w := fun _ => by kernel_rfl
  have x4 : ∀ w : World, (Instr.index 147 (.agg #[.string ⟨#[]⟩, .string ⟨#[115, 111, 117, 114, 99, 101]⟩, .string ⟨#[109, 97, 112]⟩, .string ⟨#[102, 105, 108, 116, 101, 114]⟩, .string ⟨#[115, 117, 98]⟩, .string ⟨#[99, 111, 112, 121]⟩, .string ⟨#[117, 110, 105, 111, 110]⟩, .string ⟨#[102, 111, 108, 100]⟩, .string ⟨#[101, 118, 101, 114, 121]⟩, .string ⟨#[102, 105, 114, 115, 116]⟩, .string ⟨#[115, 105, 110, 107]⟩]) (.int .i64 4)).run Tryz.prog w = .ok (.string ⟨#[115, 117, 98]⟩) w := fun _ => by kernel_rfl
  have x5 : ∀ w : World, (Instr.index 147 (.agg #[.string ⟨#[]⟩, .string ⟨#[115, 111, 117, 114, 99, 101]⟩, .string ⟨#[109, 97, 112]⟩, .string ⟨#[102, 105, 108, 116, 101, 114]⟩, .string ⟨#[115, 117, 98]⟩, .string ⟨#[99, 111, 112, 121]⟩, .string ⟨#[117, 110, 105, 111, 110]⟩, .string ⟨#[102, 111, 108, 100]⟩, .string ⟨#[101, 118, 101, 114, 121]⟩, .string ⟨#[102, 105, 114, 115, 116]⟩, .string ⟨#[115, 105, 110, 107]⟩]) (.int .i64 5)).run Tryz.prog w = .ok (.string ⟨#[99, 111, 112, 121]⟩) w := fun _ => by kernel_rfl
  have x6 : ∀ w : World, (Instr.index 147 (.agg #[.string ⟨#[]⟩, .string ⟨#[115, 111, 117, 114, 99, 101]⟩, .string ⟨#[109, 97, 112]⟩, .string ⟨#[102, 105, 108, 116, 101, 114]⟩, .string ⟨#[115, 117, 98]⟩, .string ⟨#[99, 111, 112, 121]⟩, .string ⟨#[117, 110, 105, 111, 110]⟩, .string ⟨#[102, 111, 108, 100]⟩, .string ⟨#[101, 118, 101, 114, 121]⟩, .string ⟨#[102, 105, 114, 115, 116]⟩, .string ⟨#[115, 105, 110, 107]⟩]) (.int .i64 6)).run Tryz.prog w = .ok (.string ⟨#[117, 110, 105, 111, 110]⟩) w := fun _ => by kernel_rfl
  have x7 : ∀ w : World, (Instr.index 147 (.agg #[.string ⟨#[]⟩, .string ⟨#[115, 111, 117, 114, 99, 101]⟩, .string ⟨#[109, 97, 112]⟩, .string ⟨#[102, 105, 108, 116, 101, 114]⟩, .string ⟨#[115, 117, 98]⟩, .string ⟨#[99, 111, 112, 121]⟩, .string ⟨#[117, 110, 105, 111, 110]⟩, .string ⟨#[102, 111, 108, 100]⟩, .string ⟨#[101, 118, 101, 114, 121]⟩, .string ⟨#[102, 105, 114, 115, 116]⟩, .string ⟨#[115, 105, 110, 107]⟩]) (.int .i64 7)).run Tryz.prog w = .ok (.string ⟨#[102, 111, 108, 100]⟩) w := fun _ => by kernel_rfl
  have x8 : ∀ w : World, (Instr.index 147 (.agg #[.string ⟨#[]⟩, .string ⟨#[115, 111, 117, 114, 99, 101]⟩, .string ⟨#[109, 97, 112]⟩, .string ⟨#[102, 105, 108, 116, 101, 114]⟩, .string ⟨#[115, 117, 98]⟩, .string ⟨#[99, 111, 112, 121]⟩, .string ⟨#[117, 110, 105, 111, 110]⟩, .string ⟨#[102, 111, 108, 100]⟩, .string ⟨#[101, 118, 101, 114, 121]⟩, .string ⟨#[102, 105, 114, 115, 116]⟩, .string ⟨#[115, 105, 110, 107]⟩]) (.int .i64 8)).run Tryz.prog w = .ok (.string ⟨#[101, 118, 101, 114, 121]⟩) w := fun _ => by kernel_rfl
  have x9 : ∀ w : World, (Instr.index 147 (.agg #[.string ⟨#[]⟩, .string ⟨#[115, 111, 117, 114, 99, 101]⟩, .string ⟨#[109, 97, 112]⟩, .string ⟨#[102, 105, 108, 116, 101, 114]⟩, .string ⟨#[115, 117, 98]⟩, .string ⟨#[99, 111, 112, 121]⟩, .string ⟨#[117, 110, 105, 111, 110]⟩, .string ⟨#[102, 111, 108, 100]⟩, .string ⟨#[101, 118, 101, 114, 121]⟩, .string ⟨#[102, 105, 114, 115, 116]⟩, .string ⟨#[115, 105, 110, 107]⟩]) (.int .i64 9)).run Tryz.prog w = .ok (.string ⟨#[102, 105, 114, 115, 116]⟩) w := fun _ => by kernel_rfl
  have x10 : ∀ w : World, (Instr.index 147 (.agg #[.string ⟨#[]⟩, .string ⟨#[115, 111, 117, 114, 99, 101]⟩, .string ⟨#[109, 97, 112]⟩, .string ⟨#[102, 105, 108, 116, 101, 114]⟩, .string ⟨#[115, 117, 98]⟩, .string ⟨#[99, 111, 112, 121]⟩, .string ⟨#[117, 110, 105, 111, 110]⟩, .string ⟨#[102, 111, 108, 100]⟩, .string ⟨#[101, 118, 101, 114, 121]⟩, .string ⟨#[102, 105, 114, 115, 116]⟩, .string ⟨#[115, 105, 110, 107]⟩]) (.int .i64 10)).run Tryz.prog w = .ok (.string ⟨#[115, 105, 110, 107]⟩) w := fun _ => by kernel_rfl
  go_enter Tryz.func92, Tryz.ntmps92
  go_wp2
  go_loop [6] (fun i => ∃ k : Nat, k ≤ 11 ∧ i = .int .i64 k ∧ ∀ j, j < k → s.data.toList ≠ nmN j) (fun i => 11 - (intOf i).toNat)
  case atStart => exact ⟨0, by omega, rfl, fun j h => by omega⟩
  case round =>
    obtain ⟨k, hk, rfl, hne⟩ := hrel
    have HN := Lib.hid hne
    clear hne
    obtain rfl | rfl | rfl | rfl | rfl | rfl | rfl | rfl | rfl | rfl | rfl | rfl : k = 0 ∨ k = 1 ∨ k = 2 ∨ k = 3 ∨ k = 4 ∨ k = 5 ∨ k = 6 ∨ k = 7 ∨ k = 8 ∨ k = 9 ∨ k = 10 ∨ k = 11 := by omega
    · by_cases he : s.data.toList = nmN 0
      · have hs : ((⟨#[]⟩ : ByteArray).toList == s.toList) = true := str_eq he.symm
        have hs2 : s.toList.isEmpty = true := by rw [Lib.toList_data, show s.data.toList = [] from he]; rfl
        have hs3 : (([] : List UInt8) == s.toList) = true := by rw [Lib.toList_data, show s.data.toList = [] from he]; rfl
        have HE := Lib.hid he
        clear he
        go_wp2
        go_ret
        exact ⟨by rw [← HR.out, HE.out]; rfl, rfl⟩
      · have hs : ((⟨#[]⟩ : ByteArray).toList == s.toList) = false := str_ne (fun e => he e.symm)
        have hs2 : s.toList.isEmpty = false := by rw [Lib.toList_data]; exact (match h : s.data.toList with | [] => absurd h he | a :: r => rfl)
        have hs3 : (([] : List UInt8) == s.toList) = false := by rw [Lib.toList_data]; exact (match h : s.data.toList with | [] => absurd h he | a :: r => rfl)
        have HE := Lib.hid he
        clear he
        go_wp2
        go_round
        case rel => exact ⟨1, by omega, by go_num, fun j hj => by
          by_cases e : j = 0
          · subst e; exact HE.out
          · exact HN.out j (by omega)⟩
        case measure => simp [intOf]
    · by_cases he : s.data.toList = nmN 1
      · have hs : ((⟨#[115, 111, 117, 114, 99, 101]⟩ : ByteArray).toList == s.toList) = true := str_eq he.symm
        have hs3 : (([115, 111, 117, 114, 99, 101] : List UInt8) == s.toList) = true := by rw [Lib.toList_data, show s.data.toList = [115, 111, 117, 114, 99, 101] from he]; rfl
        have HE := Lib.hid he
        clear he
        go_wp2
        go_ret
        exact ⟨by rw [← HR.out, HE.out]; rfl, rfl⟩
      · have hs : ((⟨#[115, 111, 117, 114, 99, 101]⟩ : ByteArray).toList == s.toList) = false := str_ne (fun e => he e.symm)
        have hs3 : (([115, 111, 117, 114, 99, 101] : List UInt8) == s.toList) = false := by rw [Lib.toList_data]; simpa using (fun e => he e.symm)
        have HE := Lib.hid he
        clear he
        go_wp2
        go_round
        case rel => exact ⟨2, by omega, by go_num, fun j hj => by
          by_cases e : j = 1
          · subst e; exact HE.out
          · exact HN.out j (by omega)⟩
        case measure => simp [intOf]
    · by_cases he : s.data.toList = nmN 2
      · have hs : ((⟨#[109, 97, 112]⟩ : ByteArray).toList == s.toList) = true := str_eq he.symm
        have hs3 : (([109, 97, 112] : List UInt8) == s.toList) = true := by rw [Lib.toList_data, show s.data.toList = [109, 97, 112] from he]; rfl
        have HE := Lib.hid he
        clear he
        go_wp2
        go_ret
        exact ⟨by rw [← HR.out, HE.out]; rfl, rfl⟩
      · have hs : ((⟨#[109, 97, 112]⟩ : ByteArray).toList == s.toList) = false := str_ne (fun e => he e.symm)
        have hs3 : (([109, 97, 112] : List UInt8) == s.toList) = false := by rw [Lib.toList_data]; simpa using (fun e => he e.symm)
        have HE := Lib.hid he
        clear he
        go_wp2
        go_round
        case rel => exact ⟨3, by omega, by go_num, fun j hj => by
          by_cases e : j = 2
          · subst e; exact HE.out
          · exact HN.out j (by omega)⟩
        case measure => simp [intOf]
    · by_cases he : s.data.toList = nmN 3
      · have hs : ((⟨#[102, 105, 108, 116, 101, 114]⟩ : ByteArray).toList == s.toList) = true := str_eq he.symm
        have hs3 : (([102, 105, 108, 116, 101, 114] : List UInt8) == s.toList) = true := by rw [Lib.toList_data, show s.data.toList = [102, 105, 108, 116, 101, 114] from he]; rfl
        have HE := Lib.hid he
        clear he
        go_wp2
        go_ret
        exact ⟨by rw [← HR.out, HE.out]; rfl, rfl⟩
      · have hs : ((⟨#[102, 105, 108, 116, 101, 114]⟩ : ByteArray).toList == s.toList) = false := str_ne (fun e => he e.symm)
        have hs3 : (([102, 105, 108, 116, 101, 114] : List UInt8) == s.toList) = false := by rw [Lib.toList_data]; simpa using (fun e => he e.symm)
        have HE := Lib.hid he
        clear he
        go_wp2
        go_round
        case rel => exact ⟨4, by omega, by go_num, fun j hj => by
          by_cases e : j = 3
          · subst e; exact HE.out
          · exact HN.out j (by omega)⟩
        case measure => simp [intOf]
    · by_cases he : s.data.toList = nmN 4
      · have hs : ((⟨#[115, 117, 98]⟩ : ByteArray).toList == s.toList) = true := str_eq he.symm
        have hs3 : (([115, 117, 98] : List UInt8) == s.toList) = true := by rw [Lib.toList_data, show s.data.toList = [115, 117, 98] from he]; rfl
        have HE := Lib.hid he
        clear he
        go_wp2
        go_ret
        exact ⟨by rw [← HR.out, HE.out]; rfl, rfl⟩
      · have hs : ((⟨#[115, 117, 98]⟩ : ByteArray).toList == s.toList) = false := str_ne (fun e => he e.symm)
        have hs3 : (([115, 117, 98] : List UInt8) == s.toList) = false := by rw [Lib.toList_data]; simpa using (fun e => he e.symm)
        have HE := Lib.hid he
        clear he
        go_wp2
        go_round
        case rel => exact ⟨5, by omega, by go_num, fun j hj => by
          by_cases e : j = 4
          · subst e; exact HE.out
          · exact HN.out j (by omega)⟩
        case measure => simp [intOf]
    · by_cases he : s.data.toList = nmN 5
      · have hs : ((⟨#[99, 111, 112, 121]⟩ : ByteArray).toList == s.toList) = true := str_eq he.symm
        have hs3 : (([99, 111, 112, 121] : List UInt8) == s.toList) = true := by rw [Lib.toList_data, show s.data.toList = [99, 111, 112, 121] from he]; rfl
        have HE := Lib.hid he
        clear he
        go_wp2
        go_ret
        exact ⟨by rw [← HR.out, HE.out]; rfl, rfl⟩
      · have hs : ((⟨#[99, 111, 112, 121]⟩ : ByteArray).toList == s.toList) = false := str_ne (fun e => he e.symm)
        have hs3 : (([99, 111, 112, 121] : List UInt8) == s.toList) = false := by rw [Lib.toList_data]; simpa using (fun e => he e.symm)
        have HE := Lib.hid he
        clear he
        go_wp2
        go_round
        case rel => exact ⟨6, by omega, by go_num, fun j hj => by
          by_cases e : j = 5
          · subst e; exact HE.out
          · exact HN.out j (by omega)⟩
        case measure => simp [intOf]
    · by_cases he : s.data.toList = nmN 6
      · have hs : ((⟨#[117, 110, 105, 111, 110]⟩ : ByteArray).toList == s.toList) = true := str_eq he.symm
        have hs3 : (([117, 110, 105, 111, 110] : List UInt8) == s.toList) = true := by rw [Lib.toList_data, show s.data.toList = [117, 110, 105, 111, 110] from he]; rfl
        have HE := Lib.hid he
        clear he
        go_wp2
        go_ret
        exact ⟨by rw [← HR.out, HE.out]; rfl, rfl⟩
      · have hs : ((⟨#[117, 110, 105, 111, 110]⟩ : ByteArray).toList == s.toList) = false := str_ne (fun e => he e.symm)
        have hs3 : (([117, 110, 105, 111, 110] : List UInt8) == s.toList) = false := by rw [Lib.toList_data]; simpa using (fun e => he e.symm)
        have HE := Lib.hid he
        clear he
        go_wp2
        go_round
        case rel => exact ⟨7, by omega, by go_num, fun j hj => by
          by_cases e : j = 6
          · subst e; exact HE.out
          · exact HN.out j (by omega)⟩
        case measure => simp [intOf]
    · by_cases he : s.data.toList = nmN 7
      · have hs : ((⟨#[102, 111, 108, 100]⟩ : ByteArray).toList == s.toList) = true := str_eq he.symm
        have hs3 : (([102, 111, 108, 100] : List UInt8) == s.toList) = true := by rw [Lib.toList_data, show s.data.toList = [102, 111, 108, 100] from he]; rfl
        have HE := Lib.hid he
        clear he
        go_wp2
        go_ret
        exact ⟨by rw [← HR.out, HE.out]; rfl, rfl⟩
      · have hs : ((⟨#[102, 111, 108, 100]⟩ : ByteArray).toList == s.toList) = false := str_ne (fun e => he e.symm)
        have hs3 : (([102, 111, 108, 100] : List UInt8) == s.toList) = false := by rw [Lib.toList_data]; simpa using (fun e => he e.symm)
        have HE := Lib.hid he
        clear he
        go_wp2
        go_round
        case rel => exact ⟨8, by omega, by go_num, fun j hj => by
          by_cases e : j = 7
          · subst e; exact HE.out
          · exact HN.out j (by omega)⟩
        case measure => simp [intOf]
    · by_cases he : s.data.toList = nmN 8
      · have hs : ((⟨#[101, 118, 101, 114, 121]⟩ : ByteArray).toList == s.toList) = true := str_eq he.symm
        have hs3 : (([101, 118, 101, 114, 121] : List UInt8) == s.toList) = true := by rw [Lib.toList_data, show s.data.toList = [101, 118, 101, 114, 121] from he]; rfl
        have HE := Lib.hid he
        clear he
        go_wp2
        go_ret
        exact ⟨by rw [← HR.out, HE.out]; rfl, rfl⟩
      · have hs : ((⟨#[101, 118, 101, 114, 121]⟩ : ByteArray).toList == s.toList) = false := str_ne (fun e => he e.symm)
        have hs3 : (([101, 118, 101, 114, 121] : List UInt8) == s.toList) = false := by rw [Lib.toList_data]; simpa using (fun e => he e.symm)
        have HE := Lib.hid he
        clear he
        go_wp2
        go_round
        case rel => exact ⟨9, by omega, by go_num, fun j hj => by
          by_cases e : j = 8
          · subst e; exact HE.out
          · exact HN.out j (by omega)⟩
        case measure => simp [intOf]
    · by_cases he : s.data.toList = nmN 9
      · have hs : ((⟨#[102, 105, 114, 115, 116]⟩ : ByteArray).toList == s.toList) = true := str_eq he.symm
        have hs3 : (([102, 105, 114, 115, 116] : List UInt8) == s.toList) = true := by rw [Lib.toList_data, show s.data.toList = [102, 105, 114, 115, 116] from he]; rfl
        have HE := Lib.hid he
        clear he
        go_wp2
        go_ret
        exact ⟨by rw [← HR.out, HE.out]; rfl, rfl⟩
      · have hs : ((⟨#[102, 105, 114, 115, 116]⟩ : ByteArray).toList == s.toList) = false := str_ne (fun e => he e.symm)
        have hs3 : (([102, 105, 114, 115, 116] : List UInt8) == s.toList) = false := by rw [Lib.toList_data]; simpa using (fun e => he e.symm)
        have HE := Lib.hid he
        clear he
        go_wp2
        go_round
        case rel => exact ⟨10, by omega, by go_num, fun j hj => by
          by_cases e : j = 9
          · subst e; exact HE.out
          · exact HN.out j (by omega)⟩
        case measure => simp [intOf]
    · by_cases he : s.data.toList = nmN 10
      · have hs : ((⟨#[115, 105, 110, 107]⟩ : ByteArray).toList == s.toList) = true := str_eq he.symm
        have hs3 : (([115, 105, 110, 107] : List UInt8) == s.toList) = true := by rw [Lib.toList_data, show s.data.toList = [115, 105, 110, 107] from he]; rfl
        have HE := Lib.hid he
        clear he
        go_wp2
        go_ret
        exact ⟨by rw [← HR.out, HE.out]; rfl, rfl⟩
      · have hs : ((⟨#[115, 105, 110, 107]⟩ : ByteArray).toList == s.toList) = false := str_ne (fun e => he e.symm)
        have hs3 : (([115, 105, 110, 107] : List UInt8) == s.toList) = false := by rw [Lib.toList_data]; simpa using (fun e => he e.symm)
        have HE := Lib.hid he
        clear he
        go_wp2
        go_round
        case rel => exact ⟨11, by omega, by go_num, fun j hj => by
          by_cases e : j = 10
          · subst e; exact HE.out
          · exact HN.out j (by omega)⟩
        case measure => simp [intOf]
    · go_wp2
      go_ret
      refine ⟨?_, rfl⟩
      rw [← HR.out]
      have h := HN.out
      unfold kindP
      rw [if_neg (show s.data.toList ≠ nameP 1 from h 1 (by omega)), if_neg (show s.data.toList ≠ nameP 2 from h 2 (by omega)), if_neg (show s.data.toList ≠ nameP 3 from h 3 (by omega)), if_neg (show s.data.toList ≠ nameP 4 from h 4 (by omega)), if_neg (show s.data.toList ≠ nameP 5 from h 5 (by omega)), if_neg (show s.data.toList ≠ nameP 6 from h 6 (by omega)), if_neg (show s.data.toList ≠ nameP 7 from h 7 (by omega)), if_neg (show s.data.toList ≠ nameP 8 from h 8 (by omega)), if_neg (show s.data.toList ≠ nameP 9 from h 9 (by omega)), if_neg (show s.data.toList ≠ nameP 10 from h 10 (by omega))]
      rfl
theorem itoa_of {w : World} (hT : TabOK w) {n : Int} (h0 : -9223372036854775808 ≤ n) (h1 : n ≤ 9223372036854775807) :
    Calls Tryz.prog 131 #[.int .i64 n] w fun e w' => e = .returned (.string ⟨(Lib.itoa n).toArray⟩) ∧ Below w.heap.size w w' :=
  (Tryz.strconv_Itoa n h0 h1 w hT).mono fun e w' ⟨h, k, os, hw⟩ => ⟨h, by rw [hw]; exact Lib.below_grow _ _ (Nat.le_refl _) _ _⟩
/-- How readNumber ends. -/
def RdEnd (w : World) (l : List UInt8) (e : Ending) (w' : World) : Prop := (∃ z : Int, e = .returned (.tuple #[.int .i64 z, .bool (numR l).isSome]) ∧ ∀ n, numR l = some n → z = n) ∧ Below w.heap.size w w'
theorem RdEnd.no {w w' : World} {l : List UInt8} (h : numR l = none) (z : Int) (hb : Below w.heap.size w w') : RdEnd w l (.returned (.tuple #[.int .i64 z, .bool false])) w' := ⟨⟨z, by rw [h]; rfl, fun n hn => by rw [h] at hn; cases hn⟩, hb⟩
theorem RdEnd.yes {w w' : World} {l : List UInt8} {z : Int} (h : numR l = some z) (hb : Below w.heap.size w w') : RdEnd w l (.returned (.tuple #[.int .i64 z, .bool true])) w' := ⟨⟨z, by rw [h]; rfl, fun n hn => by rw [h] at hn; injection hn⟩, hb⟩
set_option maxRecDepth 100000 in
set_option maxHeartbeats 4000000 in
theorem rdnum_any {w : World} (hg : Gj w) (s : ByteArray) (hs : s.size ≤ 281474976710656) : Calls Tryz.prog 94 #[.string s] w (RdEnd w s.data.toList) := by
  obtain ⟨-, ⟨v1, c1, h1⟩, ⟨v2, c2, h2⟩⟩ := hg.gl
  have htab := hg.tab
  have HNo := Lib.hid (fun w' z => RdEnd.no (w := w) (w' := w') (l := s.data.toList) (z := z))
  have HYes := Lib.hid (fun w' z => RdEnd.yes (w := w) (w' := w') (l := s.data.toList) (z := z))
  generalize RdEnd w s.data.toList = R at *
  cases ha : Lib.atoiAll s.data.toList with
  | ok v =>
    have hbd := Lib.atoiAll_bounds ha
    have HA := Tryz.strconv_Atoi_ok s (by omega) v ha w
    have hB : ∀ w1, (w1 = w ∨ ∃ t, w1 = Lib.bytesWorld w 5 t) → Below w.heap.size w w1 := fun w1 h => by
      rcases h with rfl | ⟨t, rfl⟩
      · exact Below.refl _ _
      · exact Lib.bytesWorld_below w 5 t
    have HB := Lib.hid hB
    clear hB
    by_cases hv : 0 ≤ v ∧ v ≤ 999
    · obtain ⟨hv0, hv9⟩ := hv
      have HI := Lib.hid (fun (w' : World) (hb : Below w.heap.size w w') => itoa_of (htab.below hb) hbd.1 hbd.2)
      by_cases he : Lib.itoa v = s.data.toList
      · have HN := Lib.hid (numR_yes ha hv0 hv9 he)
        have hst : (Lib.itoa v == s.toList) = true := by rw [Lib.toList_data, he]; simp
        clear ha he htab hg
        go_enter Tryz.func94, Tryz.ntmps94
        go_wp2_with (go_at_call 130; refine Hid.out ?_)
        refine Lib.hid ?_
        refine HA.mono ?_
        rintro e w1 ⟨rfl, hw1⟩
        have hb1 := HB.out w1 hw1
        have HI1 := HI.out w1 hb1
        clear hw1
        go_wp2_with (go_at_call 131; refine HI1.mono ?_; rintro e w' ⟨rfl, hb2⟩)
        exact HYes.out _ _ HN.out (hb1.trans (hb2.mono hb1.size))
      · have HN := Lib.hid (show numR s.data.toList = none from numR_no (fun u hu => by rw [ha] at hu; injection hu with hu; subst hu; exact fun h => he h.2.2))
        have hst : (Lib.itoa v == s.toList) = false := by rw [Lib.toList_data]; simpa using he
        clear ha he htab hg
        go_enter Tryz.func94, Tryz.ntmps94
        go_wp2_with (go_at_call 130; refine Hid.out ?_)
        refine Lib.hid ?_
        refine HA.mono ?_
        rintro e w1 ⟨rfl, hw1⟩
        have hb1 := HB.out w1 hw1
        have HI1 := HI.out w1 hb1
        clear hw1
        go_wp2_with (go_at_call 131; refine HI1.mono ?_; rintro e w' ⟨rfl, hb2⟩)
        exact HNo.out _ _ HN.out (hb1.trans (hb2.mono hb1.size))
    · have HN := Lib.hid (show numR s.data.toList = none from numR_no (fun u hu => by rw [ha] at hu; injection hu with hu; subst hu; exact fun h => hv ⟨h.1, h.2.1⟩))
      have hv' : ¬ 0 ≤ v ∨ (0 ≤ v ∧ ¬ v ≤ 999) := by omega
      clear ha htab hg hv
      rcases hv' with hv' | ⟨hv', hv2⟩
      all_goals
        go_enter Tryz.func94, Tryz.ntmps94
        go_wp2_with (go_at_call 130; refine Hid.out ?_)
        refine Lib.hid ?_
        refine HA.mono ?_
        rintro e w1 ⟨rfl, hw1⟩
        have hb1 := HB.out w1 hw1
        clear hw1
        go_wp2_with fail
        exact HNo.out _ _ HN.out hb1
  | «syntax» =>
    have HN := Lib.hid (show numR s.data.toList = none from numR_no (fun u hu => by rw [ha] at hu; cases hu))
    have HA := Tryz.strconv_Atoi_syntax s hs ha v1 w c1 h1
    clear ha htab hg
    go_enter Tryz.func94, Tryz.ntmps94
    go_wp2_with (go_at_call 130; refine Hid.out ?_)
    refine Lib.hid ?_
    refine HA.mono ?_
    rintro e w1 ⟨n1, rfl, -, -, hb1⟩
    go_wp2_with fail
    exact HNo.out _ _ HN.out hb1
  | range =>
    have HN := Lib.hid (show numR s.data.toList = none from numR_no (fun u hu => by rw [ha] at hu; cases hu))
    have HA := Tryz.strconv_Atoi_range s hs ha v2 w c2 h2
    clear ha htab hg
    go_enter Tryz.func94, Tryz.ntmps94
    go_wp2_with (go_at_call 130; refine Hid.out ?_)
    refine Lib.hid ?_
    refine HA.mono ?_
    rintro e w1 ⟨n1, rfl, -, -, hb1⟩
    go_wp2_with fail
    exact HNo.out _ _ HN.out hb1
end Go.Proofs.YtnapbfilkahobaaGreatDoor

/- strings.Cut at a line's end, strings.Split at a blank. -/
namespace Go.Proofs.YtnapbfilkahobaaGreatDoor
open Go.RowKit
set_option linter.unusedVariables false
theorem ext_takeY (s : ByteArray) (m : Nat) : s.extract 0 m = ⟨(s.data.toList.take m).toArray⟩ := by rw [Lib.extract_eq]; simp
theorem ext_drop (s : ByteArray) (m : Nat) : s.extract m s.size = ⟨(s.data.toList.drop m).toArray⟩ := by
  have e : s.data.toList.length = s.size := Array.length_toList
  rw [Lib.extract_eq, List.take_of_length_le (by rw [List.length_drop]; omega)]
def CutV (l : List UInt8) : Value := .tuple #[.string ⟨(cutB l).1.toArray⟩, .string ⟨(cutB l).2.1.toArray⟩, .bool (cutB l).2.2]
set_option maxHeartbeats 1000000 in
theorem lcut_any (s : ByteArray) (w : World) (hs : s.size ≤ 9223372036854775806) : Calls Tryz.prog 128 #[.string s, .string ⟨#[10]⟩] w fun e w' => e = .returned (CutV s.data.toList) ∧ ∃ n, w' = w.drewN n := by
  have HI := Tryz.stringslite_Index_one s 10 w
  have HC0 := Lib.hid (fun (h : Lib.indexByte s.data.toList 10 = -1) => cut_none h)
  have HC1 := Lib.hid (fun (m : Nat) (h : Lib.indexByte s.data.toList 10 = m) => cut_at h)
  have HR : Hid (∀ n, (fun (e : Ending) (w' : World) => e = .returned (CutV s.data.toList) ∧ ∃ n, w' = w.drewN n) (.returned (CutV s.data.toList)) (w.drewN n)) := fun n => ⟨rfl, n, rfl⟩
  generalize (fun (e : Ending) (w' : World) => e = .returned (CutV s.data.toList) ∧ ∃ n, w' = w.drewN n) = R at *
  have hl : s.data.toList.length = s.size := Array.length_toList
  rcases idx_ways s.data.toList 10 with h | ⟨m, h, hm⟩
  · have hc := HC0.out h
    unfold CutV at HR
    rw [hc] at HR
    rw [h] at HI
    have e0 : (⟨s.data.toList.toArray⟩ : ByteArray) = s := by cases s; simp
    simp only [e0] at HR
    clear HC0 HC1 hc h hl
    go_enter Tryz.func128, Tryz.ntmps128
    go_wp2_with (go_at_call 154; refine HI.mono ?_; rintro e w' ⟨rfl, rfl⟩)
    exact bodyPost_ret (v := .tuple #[.string s, .string ⟨#[]⟩, .bool false]) (by simp [results, Tryz.results128, go_sem]) rfl (HR.out 0)
  · have hc := HC1.out m h
    unfold CutV at HR
    rw [hc] at HR
    rw [h] at HI
    have e1 := ext_takeY s m
    have e2 := ext_drop s (m + 1)
    simp only [← e1, ← e2] at HR
    have hm1 : (m : Int) ≤ s.size := by omega
    have hm2 : (m : Int) + 1 ≤ s.size := by omega
    clear HC0 HC1 hc h hl e1 e2
    go_enter Tryz.func128, Tryz.ntmps128
    go_wp2_with (go_at_call 154; refine HI.mono ?_; rintro e w' ⟨rfl, rfl⟩)
    go_quiet (fail)
    go_wp2_with fail
    exact bodyPost_ret (v := .tuple #[.string (s.extract 0 m), .string (s.extract (m + 1) s.size), .bool true]) (by simp [results, Tryz.results128, go_sem]) rfl (HR.out nq)
theorem cut_any (s : ByteArray) (w : World) (hs : s.size ≤ 9223372036854775806) : Calls Tryz.prog 90 #[.string s, .string ⟨#[10]⟩] w fun e w' => e = .returned (CutV s.data.toList) ∧ ∃ n, w' = w.drewN n := by
  have H := lcut_any s w hs
  unfold CutV at *
  generalize hR : (fun (e : Ending) (w' : World) => e = .returned (.tuple #[.string ⟨(cutB s.data.toList).1.toArray⟩, .string ⟨(cutB s.data.toList).2.1.toArray⟩, .bool (cutB s.data.toList).2.2]) ∧ ∃ n, w' = w.drewN n) = R at *
  have HR : Hid (∀ n, R (.returned (.tuple #[.string ⟨(cutB s.data.toList).1.toArray⟩, .string ⟨(cutB s.data.toList).2.1.toArray⟩, .bool (cutB s.data.toList).2.2])) (w.drewN n)) := by subst hR; exact fun n => ⟨rfl, n, rfl⟩
  have H' : Calls Tryz.prog 128 #[.string s, .string ⟨#[10]⟩] w fun e w' => e = .returned (.tuple #[.string ⟨(cutB s.data.toList).1.toArray⟩, .string ⟨(cutB s.data.toList).2.1.toArray⟩, .bool (cutB s.data.toList).2.2]) ∧ ∃ n, w' = w.drewN n := by rw [hR]; exact H
  clear H hR
  generalize (cutB s.data.toList).1.toArray = a1 at *
  generalize (cutB s.data.toList).2.1.toArray = a2 at *
  generalize (cutB s.data.toList).2.2 = a3 at *
  go_enter Tryz.func90, Tryz.ntmps90
  go_wp2_with (go_at_call 128; refine H'.mono ?_; rintro e w' ⟨rfl, n, rfl⟩)
  exact bodyPost_ret (v := .tuple #[.string ⟨a1⟩, .string ⟨a2⟩, .bool a3]) (by simp [results, Tryz.results90, go_sem]) rfl (HR.out n)
end Go.Proofs.YtnapbfilkahobaaGreatDoor

/- strings.Split at a blank. -/
namespace Go.Proofs.YtnapbfilkahobaaGreatDoor
open Go.RowKit
set_option linter.unusedVariables false
theorem Tryz.infoStr : (Tryz.prog.info? 9).map (fun i => (i.zero, i.size, i.bytes)) = some (some (.string ⟨#[]⟩), 1, 16) := by kernel_rfl
/-- A row of strings, of which the first are known. -/
def SpAt (w : World) (g n k : Nat) (W : List (List UInt8)) : Prop := ∃ cur, w.heap[g]? = some (.cells cur 9 (0, 0)) ∧ cur.size = n ∧ ∀ j, j < n → ∃ x, cur[j]? = some (.string x) ∧ (j < k → ∀ (h : j < W.length), x = ⟨W[j].toArray⟩)
theorem SpAt.made (w : World) (n : Nat) (W : List (List UInt8)) : SpAt (w.alloc (.cells (madeCells #[.string ⟨#[]⟩] n) 9)) w.heap.size n 0 W := by
  refine ⟨_, Array.getElem?_push_size, by simp [madeCells], fun j hj => ⟨⟨#[]⟩, ?_, fun h => by omega⟩⟩
  simp [madeCells, hj, Nat.mod_one]
theorem SpAt.put {w : World} {g n k : Nat} {W : List (List UInt8)} (h : SpAt w g n k W) (hk : k < n) : (∃ x, w.cell? ⟨g, k, none⟩ = some (.string x)) ∧ w.frozen? ⟨g, k, none⟩ = false ∧ g < w.heap.size ∧
    ∀ y : ByteArray, (∀ (h : k < W.length), y = ⟨W[k].toArray⟩) → SpAt (w.setCell ⟨g, k, none⟩ (.string y)) g n (k + 1) W := by
  obtain ⟨cur, hg, hs, hc⟩ := h
  obtain ⟨x, hx, -⟩ := hc k hk
  refine ⟨⟨x, by simp [World.cell?, hg, hx]⟩, by simp [World.frozen?, hg], (Array.getElem?_eq_some_iff.1 hg).1, fun y hy => ⟨cur.set! k (.string y), by simp [World.setCell, Array.getElem?_modify, hg], by simp [hs], fun j hj => ?_⟩⟩
  by_cases e : j = k
  · subst e
    exact ⟨y, by simp [hs, hj], fun _ h => hy h⟩
  · obtain ⟨z, h1, h2⟩ := hc j hj
    refine ⟨z, ?_, fun h => h2 (by omega)⟩
    simp only [Array.set!_eq_setIfInBounds]
    rw [Array.getElem?_setIfInBounds_ne (by omega)]; exact h1
theorem SpAt.all {w : World} {g n : Nat} {W : List (List UInt8)} (h : SpAt w g n n W) (hn : n = W.length) : ∀ j (h : j < W.length), w.cell? ⟨g, j, none⟩ = some (.string ⟨W[j].toArray⟩) := fun j hj => by
  obtain ⟨cur, hg, hs, hc⟩ := h
  obtain ⟨x, h1, h2⟩ := hc j (by omega)
  rw [← h2 (by omega) hj]
  simp [World.cell?, hg, h1]
def SpEnd (w : World) (l : List UInt8) (e : Ending) (w' : World) : Prop := ∃ c, e = .returned (.slice (some ⟨w.heap.size, 0, none⟩) (splitW l).length c) ∧ (splitW l).length ≤ c ∧ (∀ j (h : j < (splitW l).length), w'.cell? ⟨w.heap.size, j, none⟩ = some (.string ⟨(splitW l)[j].toArray⟩)) ∧ Below w.heap.size w w'
set_option maxRecDepth 100000 in
set_option maxHeartbeats 4000000 in
theorem gensplit_any (s : ByteArray) (w : World) (hs : s.size ≤ 100000000) : Calls Tryz.prog 129 #[.string s, .string ⟨#[32]⟩, .int .i64 0, .int .i64 (-1)] w (SpEnd w s.data.toList) := by
  have hl : s.data.toList.length = s.size := Array.length_toList
  have hcl : s.data.toList.count 32 ≤ s.data.toList.length := List.count_le_length
  have hsc := split_count s.data.toList
  have HC := Tryz.strings_Count_one s 32 w
  unfold Lib.countByte at HC
  have HEnd : Hid (∀ (n c : Nat) (w' : World) (hn : (splitW s.data.toList).length = n) (h1 : n ≤ c) (h2 : ∀ j (h : j < (splitW s.data.toList).length), w'.cell? ⟨w.heap.size, j, none⟩ = some (.string ⟨(splitW s.data.toList)[j].toArray⟩)) (h3 : Below w.heap.size w w'), SpEnd w s.data.toList (.returned (.slice (some ⟨w.heap.size, 0, none⟩) n c)) w') := fun n c w' hn h1 h2 h3 => ⟨c, by rw [hn], by rw [hn]; exact h1, h2, h3⟩
  generalize SpEnd w s.data.toList = R at *
  obtain ⟨c, hc⟩ : ∃ c, s.data.toList.count 32 = c := ⟨_, rfl⟩
  rw [hc] at HC hcl hsc
  have hcs : (c : Int) ≤ s.size := by omega
  have hmk : ∀ w : World, (Instr.makeSlice 94 (.int .i64 ((c : Int) + 1)) (.int .i64 ((c : Int) + 1))).run Tryz.prog w = .ok (.slice (some ⟨w.heap.size, 0, none⟩) (c + 1) (c + 1)) (w.alloc (.cells (madeCells #[.string ⟨#[]⟩] (c + 1)) 9)) := by
    have := run_make_row' (P := Tryz.prog) 94 9 (.string ⟨#[]⟩) 16 Tryz.underlying94 Tryz.infoStr rfl .i64 .i64 (c + 1) (by omega) (by omega)
    simpa using this
  have HSc := Lib.hid hsc
  have HCn := Lib.hid hc
  have HL := Lib.hid hl
  clear hsc hc hcl
  have hmin : min ((c : Int) + 1) ((s.size : Int) + 1) = (c : Int) + 1 := by omega
  go_enter Tryz.func129, Tryz.ntmps129
  go_wp2_with (go_at_call 156; refine HC.mono ?_; rintro e w' ⟨rfl, rfl⟩)
  obtain ⟨W, hW⟩ : ∃ W, splitW s.data.toList = W := ⟨_, rfl⟩
  rw [hW] at HSc HEnd
  have HW := Lib.hid hW
  clear hW
  have hbz : Below w'.heap.size w' (w'.alloc (.cells (madeCells #[.string ⟨#[]⟩] (c + 1)) 9)) := (Below.refl _ _).alloc (Nat.le_refl _) _
  go_loopw [0, 10] (fun x i wr => ∃ (k : Nat) (l : ByteArray), k ≤ c ∧ x = .string l ∧ i = .int .i64 k ∧ SpAt wr w'.heap.size (c + 1) k W ∧ W.drop k = splitW l.data.toList ∧ l.size ≤ 100000000 ∧ l.data.toList.count 32 + k = c ∧ Below w'.heap.size w' wr) (fun _ i _ => c - (intOf i).toNat)
  case atStart => exact ⟨0, s, by omega, rfl, rfl, SpAt.made _ _ _, HW.out.symm, hs, HCn.out, hbz⟩
  case round =>
    obtain ⟨k, l, hk, rfl, rfl, hrow, hdr, hls, hcnt, hb⟩ := hrel
    clear hbz
    have hll : l.data.toList.length = l.size := Array.length_toList
    have hS := hb.size
    have hlenW := HSc.out
    rename World => wr2
    obtain ⟨⟨x, hx⟩, hfz, hgs, hput⟩ := hrow.put (by omega)
    have hkw : k < W.length := by omega
    have hWk : W.drop k = W[k] :: W.drop (k + 1) := List.drop_eq_getElem_cons hkw
    rw [hWk] at hdr
    have hno : (wr2.frozen? ⟨w'.heap.size, k, none⟩) = false := hfz
    rcases idx_ways l.data.toList 32 with hi | ⟨m, hi, hm⟩
    · obtain ⟨e1, e2⟩ := split_none hi
      have hkc : k = c := by omega
      rw [e1] at hdr
      have hv : W[k] = l.data.toList := (List.cons.inj hdr).1
      have hp2 := hput l (fun _ => by rw [hv])
      have HP := Lib.hid hp2
      have HB := Lib.hid (hb.setCell (p := ⟨w'.heap.size, k, none⟩) (Nat.le_refl _) (.string l))
      clear hp2 hput hdr hWk hv e1 e2 hi hcnt
      subst hkc
      go_wp2_with fail
      exact HEnd.out (k + 1) (k + 1) _ HSc.out (Nat.le_refl _) (HP.out.all HSc.out.symm) HB.out
    · obtain ⟨e1, e2⟩ := split_at hi
      have hkc : k < c := by omega
      rw [e1] at hdr
      have hv := (List.cons.inj hdr).1
      have hrest := (List.cons.inj hdr).2
      have e3 := ext_takeY l m
      have e4 := ext_drop l (m + 1)
      have HI := Tryz.strings_Index_one l 32 wr2
      rw [hi] at HI
      have hp2 := hput (l.extract 0 m) (fun _ => by rw [e3, hv])
      have HP := Lib.hid hp2
      have HB := Lib.hid (hb.setCell (p := ⟨w'.heap.size, k, none⟩) (Nat.le_refl _) (.string (l.extract 0 m)))
      have HRest := Lib.hid hrest
      have HCt := Lib.hid hcnt
      have HE2 := Lib.hid e2
      have HE4 := Lib.hid e4
      have hm1 : (m : Int) ≤ l.size := by omega
      have hm2 : (m : Int) + 1 ≤ l.size := by omega
      clear hp2 hput hdr hWk hv e1 e2 hi hcnt hrest e3 e4
      have hkI : (k : Int) < c := by omega
      go_wp2_with (go_at_call 157; refine HI.mono ?_; rintro e w2 ⟨rfl, rfl⟩)
      exact ⟨⟨k + 1, l.extract (m + 1) l.size, by omega, rfl, by go_num, HP.out, by rw [HE4.out]; simpa using HRest.out, by rw [ByteArray.size_extract]; omega, by rw [HE4.out]; have := HE2.out; have := HCt.out; show List.count 32 (List.drop (m + 1) l.data.toList) + (k + 1) = c; omega, HB.out⟩, by simp [intOf]; omega⟩
theorem split_any (s : ByteArray) (w : World) (hs : s.size ≤ 100000000) : Calls Tryz.prog 91 #[.string s, .string ⟨#[32]⟩] w (SpEnd w s.data.toList) := by
  have H := gensplit_any s w hs
  have HEnd : Hid (∀ (c : Nat) (w' : World) (h1 : (splitW s.data.toList).length ≤ c) (h2 : ∀ j (h : j < (splitW s.data.toList).length), w'.cell? ⟨w.heap.size, j, none⟩ = some (.string ⟨(splitW s.data.toList)[j].toArray⟩)) (h3 : Below w.heap.size w w'), SpEnd w s.data.toList (.returned (.slice (some ⟨w.heap.size, 0, none⟩) (splitW s.data.toList).length c)) w') := fun c w' h1 h2 h3 => ⟨c, rfl, h1, h2, h3⟩
  unfold SpEnd at H
  generalize SpEnd w s.data.toList = R at *
  generalize splitW s.data.toList = W at *
  go_enter Tryz.func91, Tryz.ntmps91
  go_wp2_with (go_at_call 129; refine H.mono ?_; rintro e w' ⟨c, rfl, h1, h2, h3⟩)
  exact HEnd.out c w' h1 h2 h3
end Go.Proofs.YtnapbfilkahobaaGreatDoor

/- A line's words, parted. -/
namespace Go.Proofs.YtnapbfilkahobaaGreatDoor
open Go.RowKit
set_option linter.unusedVariables false
/-- Words in memory, behind a slice. -/
def WsAt (w : World) (wa : Option Addr) (W : List (List UInt8)) : Prop := W = [] ∨ ∃ b o, wa = some ⟨b, o, none⟩ ∧ ∀ j (h : j < W.length), w.cell? ⟨b, o + j, none⟩ = some (.string ⟨W[j].toArray⟩)
theorem WsAt.keep {w w' : World} {wa : Option Addr} {W : List (List UInt8)} (h : WsAt w wa W) (k : Keeps w w') : WsAt w' wa W := by
  rcases h with h | ⟨b, o, h1, h2⟩
  · exact .inl h
  · exact .inr ⟨b, o, h1, fun j hj => k _ _ (h2 j hj)⟩
theorem WsAt.front {w : World} {wa : Option Addr} {V : List (List UInt8)} {x : List UInt8} (h : WsAt w wa (V ++ [x])) : ∃ b o, wa = some ⟨b, o, none⟩ ∧ w.cell? ⟨b, o + V.length, none⟩ = some (.string ⟨x.toArray⟩) ∧ WsAt w wa V := by
  rcases h with h | ⟨b, o, h1, h2⟩
  · simp at h
  · refine ⟨b, o, h1, ?_, .inr ⟨b, o, h1, fun j hj => ?_⟩⟩
    · have := h2 V.length (by simp)
      simpa using this
    · have := h2 j (by simp; omega)
      rwa [List.getElem_append_left hj] at this
/-- What parted answers: fr are the words of From, own the own one. -/
def PtIs (k : Int) (W : List (List UInt8)) (wa : Option Addr) (c : Nat) (fa : Option Addr) (fc : Nat) (fr : List (List UInt8)) (own : List UInt8) (ok : Bool) : Prop :=
  fr.length ≤ fc ∧ fr.length ≤ W.length ∧ (own = [] ∨ own ∈ W) ∧ ((ok = true ∧ partP k W = some (fr, own)) ∨ (ok = false ∧ partP k W = none)) ∧ ∀ w, WsAt w wa W → WsAt w fa fr ∧ Calls Tryz.prog 93 #[.int .i64 k, .slice wa W.length c] w fun e w' => e = .returned (.tuple #[.slice fa fr.length fc, .string ⟨own.toArray⟩, .bool ok]) ∧ ∃ n, w' = w.drewN n
theorem part_own {k : Int} {V : List (List UInt8)} {x : List UInt8} (h : (hasNP k || hasTP k) = true) : partP k (V ++ [x]) = if (k = 1 ∧ V = []) ∨ (k ≠ 1 ∧ V.length = 1) then some (V, x) else none := by
  unfold partP
  rw [if_pos h]
  simp
theorem part_nil {k : Int} (h : (hasNP k || hasTP k) = true) : partP k [] = none := by
  unfold partP
  rw [if_pos h]
  simp
theorem part_yes {k : Int} {V : List (List UInt8)} {x : List UInt8} (h : (hasNP k || hasTP k) = true) (hk : k ≠ 1) (hv : V.length = 1) : partP k (V ++ [x]) = some (V, x) := by
  rw [part_own h, if_pos (.inr ⟨hk, hv⟩)]
theorem part_no {k : Int} {V : List (List UInt8)} {x : List UInt8} (h : (hasNP k || hasTP k) = true) (hk : k ≠ 1) (hv : V.length ≠ 1) : partP k (V ++ [x]) = none := by
  rw [part_own h, if_neg]
  rintro (⟨h1, -⟩ | ⟨-, h2⟩)
  · exact hk h1
  · exact hv h2
theorem part_yes1 {V : List (List UInt8)} {x : List UInt8} (hv : V.length = 0) : partP 1 (V ++ [x]) = some (V, x) := by
  rw [part_own rfl, if_pos (.inl ⟨rfl, List.length_eq_zero_iff.1 hv⟩)]
theorem part_no1 {V : List (List UInt8)} {x : List UInt8} (hv : V.length ≠ 0) : partP 1 (V ++ [x]) = none := by
  rw [part_own rfl, if_neg]
  rintro (⟨-, h2⟩ | ⟨h1, -⟩)
  · exact hv (by rw [h2]; rfl)
  · exact h1 rfl
theorem part_bare {k : Int} {W : List (List UInt8)} (h : (hasNP k || hasTP k) = false) : partP k W = if k = 6 ∨ W.length = 1 then some (W, []) else none := by
  unfold partP
  rw [h]
  simp
set_option maxHeartbeats 1000000 in
theorem parted_1 (W : List (List UInt8)) (wa : Option Addr) (c : Nat) (hc : W.length ≤ c) (hl : W.length ≤ 100000001) : ∃ fa fc fr own ok, PtIs 1 W wa c fa fc fr own ok := by
  have HN := fun w => hasN_any 1 w
  have HT := fun w => hasT_any 1 w
  rw [show hasNP 1 = true from rfl] at HN
  rw [show hasTP 1 = false from rfl] at HT
  rcases List.eq_nil_or_concat W with rfl | ⟨V, x, rfl⟩
  · refine ⟨none, 0, [], [], false, Nat.le_refl _, Nat.le_refl _, .inl rfl, .inr ⟨rfl, part_nil rfl⟩, fun w hW => ⟨.inl rfl, ?_⟩⟩
    clear hW
    go_enter Tryz.func93, Tryz.ntmps93
    go_wp2_with (first | (go_at_call 87; refine (HN _).mono ?_; rintro e w' ⟨rfl, rfl⟩) | (go_at_call 88; refine (HT _).mono ?_; rintro e w' ⟨rfl, rfl⟩))
    exact bodyPost_ret (v := .tuple #[.slice none 0 0, .string ⟨#[]⟩, .bool false]) (by simp [results, Tryz.results93, go_sem]) rfl ⟨rfl, 0, rfl⟩
  · rw [List.concat_eq_append] at *
    have hlen : (V ++ [x]).length = V.length + 1 := by simp
    by_cases hk : V.length = 0
    · refine ⟨wa, c, V, x, true, by omega, by omega, .inr (by simp), .inl ⟨rfl, part_yes1 hk⟩, fun w hW => ?_⟩
      obtain ⟨b, o, rfl, hcell, hV⟩ := hW.front
      refine ⟨hV, ?_⟩
      rw [hlen] at hc hl ⊢
      rw [hk] at hcell hc hl ⊢
      simp only [Nat.add_zero] at hcell
      have hc1 : 1 ≤ c := by omega
      clear hV hW hlen hk
      go_enter Tryz.func93, Tryz.ntmps93
      go_wp2_with (first | (go_at_call 87; refine (HN _).mono ?_; rintro e w' ⟨rfl, rfl⟩) | (go_at_call 88; refine (HT _).mono ?_; rintro e w' ⟨rfl, rfl⟩))
      go_quiet (fail)
      go_wp2_with fail
      exact bodyPost_ret (v := .tuple #[.slice (some ⟨b, o, none⟩) 0 c, .string ⟨x.toArray⟩, .bool true]) (by simp [results, Tryz.results93, go_sem]) rfl ⟨rfl, nq, rfl⟩
    · refine ⟨wa, c, V, x, false, by omega, by omega, .inr (by simp), .inr ⟨rfl, part_no1 hk⟩, fun w hW => ?_⟩
      obtain ⟨b, o, rfl, hcell, hV⟩ := hW.front
      refine ⟨hV, ?_⟩
      rw [hlen] at hc hl ⊢
      obtain ⟨m, hm⟩ : ∃ m, V.length = m := ⟨_, rfl⟩
      rw [hm] at hcell hc hl hk ⊢
      have hk' : ((m : Int) == 0) = false := by simpa using (by omega : ¬ (m : Int) = 0)
      clear hV hW hlen hm
      go_enter Tryz.func93, Tryz.ntmps93
      go_wp2_with (first | (go_at_call 87; refine (HN _).mono ?_; rintro e w' ⟨rfl, rfl⟩) | (go_at_call 88; refine (HT _).mono ?_; rintro e w' ⟨rfl, rfl⟩))
      go_quiet (fail)
      go_wp2_with fail
      exact bodyPost_ret (v := .tuple #[.slice (some ⟨b, o, none⟩) m c, .string ⟨x.toArray⟩, .bool false]) (by simp [results, Tryz.results93, go_sem]) rfl ⟨rfl, nq, rfl⟩
set_option maxHeartbeats 1000000 in
theorem parted_2 (W : List (List UInt8)) (wa : Option Addr) (c : Nat) (hc : W.length ≤ c) (hl : W.length ≤ 100000001) : ∃ fa fc fr own ok, PtIs 2 W wa c fa fc fr own ok := by
  have HN := fun w => hasN_any 2 w
  have HT := fun w => hasT_any 2 w
  rw [show hasNP 2 = false from rfl] at HN
  rw [show hasTP 2 = true from rfl] at HT
  rcases List.eq_nil_or_concat W with rfl | ⟨V, x, rfl⟩
  · refine ⟨none, 0, [], [], false, Nat.le_refl _, Nat.le_refl _, .inl rfl, .inr ⟨rfl, part_nil rfl⟩, fun w hW => ⟨.inl rfl, ?_⟩⟩
    clear hW
    go_enter Tryz.func93, Tryz.ntmps93
    go_wp2_with (first | (go_at_call 87; refine (HN _).mono ?_; rintro e w' ⟨rfl, rfl⟩) | (go_at_call 88; refine (HT _).mono ?_; rintro e w' ⟨rfl, rfl⟩))
    exact bodyPost_ret (v := .tuple #[.slice none 0 0, .string ⟨#[]⟩, .bool false]) (by simp [results, Tryz.results93, go_sem]) rfl ⟨rfl, 0, rfl⟩
  · rw [List.concat_eq_append] at *
    have hlen : (V ++ [x]).length = V.length + 1 := by simp
    by_cases hk : V.length = 1
    · refine ⟨wa, c, V, x, true, by omega, by omega, .inr (by simp), .inl ⟨rfl, part_yes (k := 2) rfl (by omega) hk⟩, fun w hW => ?_⟩
      obtain ⟨b, o, rfl, hcell, hV⟩ := hW.front
      refine ⟨hV, ?_⟩
      rw [hlen] at hc hl ⊢
      rw [hk] at hcell hc hl ⊢
      have hc0 := hc
      have hc1 : 1 ≤ c := by omega
      clear hV hW hlen hk
      go_enter Tryz.func93, Tryz.ntmps93
      go_wp2_with (first | (go_at_call 87; refine (HN _).mono ?_; rintro e w' ⟨rfl, rfl⟩) | (go_at_call 88; refine (HT _).mono ?_; rintro e w' ⟨rfl, rfl⟩))
      go_quiet (fail)
      go_wp2_with fail
      exact bodyPost_ret (v := .tuple #[.slice (some ⟨b, o, none⟩) 1 c, .string ⟨x.toArray⟩, .bool true]) (by simp [results, Tryz.results93, go_sem]) rfl ⟨rfl, nq, rfl⟩
    · refine ⟨wa, c, V, x, false, by omega, by omega, .inr (by simp), .inr ⟨rfl, part_no (k := 2) rfl (by omega) hk⟩, fun w hW => ?_⟩
      obtain ⟨b, o, rfl, hcell, hV⟩ := hW.front
      refine ⟨hV, ?_⟩
      rw [hlen] at hc hl ⊢
      obtain ⟨m, hm⟩ : ∃ m, V.length = m := ⟨_, rfl⟩
      rw [hm] at hcell hc hl hk ⊢
      have hk' : ((m : Int) == 1) = false := by simpa using (by omega : ¬ (m : Int) = 1)
      clear hV hW hlen hm
      go_enter Tryz.func93, Tryz.ntmps93
      go_wp2_with (first | (go_at_call 87; refine (HN _).mono ?_; rintro e w' ⟨rfl, rfl⟩) | (go_at_call 88; refine (HT _).mono ?_; rintro e w' ⟨rfl, rfl⟩))
      go_quiet (fail)
      go_wp2_with fail
      exact bodyPost_ret (v := .tuple #[.slice (some ⟨b, o, none⟩) m c, .string ⟨x.toArray⟩, .bool false]) (by simp [results, Tryz.results93, go_sem]) rfl ⟨rfl, nq, rfl⟩
set_option maxHeartbeats 1000000 in
theorem parted_3 (W : List (List UInt8)) (wa : Option Addr) (c : Nat) (hc : W.length ≤ c) (hl : W.length ≤ 100000001) : ∃ fa fc fr own ok, PtIs 3 W wa c fa fc fr own ok := by
  have HN := fun w => hasN_any 3 w
  have HT := fun w => hasT_any 3 w
  rw [show hasNP 3 = false from rfl] at HN
  rw [show hasTP 3 = true from rfl] at HT
  rcases List.eq_nil_or_concat W with rfl | ⟨V, x, rfl⟩
  · refine ⟨none, 0, [], [], false, Nat.le_refl _, Nat.le_refl _, .inl rfl, .inr ⟨rfl, part_nil rfl⟩, fun w hW => ⟨.inl rfl, ?_⟩⟩
    clear hW
    go_enter Tryz.func93, Tryz.ntmps93
    go_wp2_with (first | (go_at_call 87; refine (HN _).mono ?_; rintro e w' ⟨rfl, rfl⟩) | (go_at_call 88; refine (HT _).mono ?_; rintro e w' ⟨rfl, rfl⟩))
    exact bodyPost_ret (v := .tuple #[.slice none 0 0, .string ⟨#[]⟩, .bool false]) (by simp [results, Tryz.results93, go_sem]) rfl ⟨rfl, 0, rfl⟩
  · rw [List.concat_eq_append] at *
    have hlen : (V ++ [x]).length = V.length + 1 := by simp
    by_cases hk : V.length = 1
    · refine ⟨wa, c, V, x, true, by omega, by omega, .inr (by simp), .inl ⟨rfl, part_yes (k := 3) rfl (by omega) hk⟩, fun w hW => ?_⟩
      obtain ⟨b, o, rfl, hcell, hV⟩ := hW.front
      refine ⟨hV, ?_⟩
      rw [hlen] at hc hl ⊢
      rw [hk] at hcell hc hl ⊢
      have hc0 := hc
      have hc1 : 1 ≤ c := by omega
      clear hV hW hlen hk
      go_enter Tryz.func93, Tryz.ntmps93
      go_wp2_with (first | (go_at_call 87; refine (HN _).mono ?_; rintro e w' ⟨rfl, rfl⟩) | (go_at_call 88; refine (HT _).mono ?_; rintro e w' ⟨rfl, rfl⟩))
      go_quiet (fail)
      go_wp2_with fail
      exact bodyPost_ret (v := .tuple #[.slice (some ⟨b, o, none⟩) 1 c, .string ⟨x.toArray⟩, .bool true]) (by simp [results, Tryz.results93, go_sem]) rfl ⟨rfl, nq, rfl⟩
    · refine ⟨wa, c, V, x, false, by omega, by omega, .inr (by simp), .inr ⟨rfl, part_no (k := 3) rfl (by omega) hk⟩, fun w hW => ?_⟩
      obtain ⟨b, o, rfl, hcell, hV⟩ := hW.front
      refine ⟨hV, ?_⟩
      rw [hlen] at hc hl ⊢
      obtain ⟨m, hm⟩ : ∃ m, V.length = m := ⟨_, rfl⟩
      rw [hm] at hcell hc hl hk ⊢
      have hk' : ((m : Int) == 1) = false := by simpa using (by omega : ¬ (m : Int) = 1)
      clear hV hW hlen hm
      go_enter Tryz.func93, Tryz.ntmps93
      go_wp2_with (first | (go_at_call 87; refine (HN _).mono ?_; rintro e w' ⟨rfl, rfl⟩) | (go_at_call 88; refine (HT _).mono ?_; rintro e w' ⟨rfl, rfl⟩))
      go_quiet (fail)
      go_wp2_with fail
      exact bodyPost_ret (v := .tuple #[.slice (some ⟨b, o, none⟩) m c, .string ⟨x.toArray⟩, .bool false]) (by simp [results, Tryz.results93, go_sem]) rfl ⟨rfl, nq, rfl⟩
set_option maxHeartbeats 1000000 in
theorem parted_4 (W : List (List UInt8)) (wa : Option Addr) (c : Nat) (hc : W.length ≤ c) (hl : W.length ≤ 100000001) : ∃ fa fc fr own ok, PtIs 4 W wa c fa fc fr own ok := by
  have HN := fun w => hasN_any 4 w
  have HT := fun w => hasT_any 4 w
  rw [show hasNP 4 = false from rfl] at HN
  rw [show hasTP 4 = true from rfl] at HT
  rcases List.eq_nil_or_concat W with rfl | ⟨V, x, rfl⟩
  · refine ⟨none, 0, [], [], false, Nat.le_refl _, Nat.le_refl _, .inl rfl, .inr ⟨rfl, part_nil rfl⟩, fun w hW => ⟨.inl rfl, ?_⟩⟩
    clear hW
    go_enter Tryz.func93, Tryz.ntmps93
    go_wp2_with (first | (go_at_call 87; refine (HN _).mono ?_; rintro e w' ⟨rfl, rfl⟩) | (go_at_call 88; refine (HT _).mono ?_; rintro e w' ⟨rfl, rfl⟩))
    exact bodyPost_ret (v := .tuple #[.slice none 0 0, .string ⟨#[]⟩, .bool false]) (by simp [results, Tryz.results93, go_sem]) rfl ⟨rfl, 0, rfl⟩
  · rw [List.concat_eq_append] at *
    have hlen : (V ++ [x]).length = V.length + 1 := by simp
    by_cases hk : V.length = 1
    · refine ⟨wa, c, V, x, true, by omega, by omega, .inr (by simp), .inl ⟨rfl, part_yes (k := 4) rfl (by omega) hk⟩, fun w hW => ?_⟩
      obtain ⟨b, o, rfl, hcell, hV⟩ := hW.front
      refine ⟨hV, ?_⟩
      rw [hlen] at hc hl ⊢
      rw [hk] at hcell hc hl ⊢
      have hc0 := hc
      have hc1 : 1 ≤ c := by omega
      clear hV hW hlen hk
      go_enter Tryz.func93, Tryz.ntmps93
      go_wp2_with (first | (go_at_call 87; refine (HN _).mono ?_; rintro e w' ⟨rfl, rfl⟩) | (go_at_call 88; refine (HT _).mono ?_; rintro e w' ⟨rfl, rfl⟩))
      go_quiet (fail)
      go_wp2_with fail
      exact bodyPost_ret (v := .tuple #[.slice (some ⟨b, o, none⟩) 1 c, .string ⟨x.toArray⟩, .bool true]) (by simp [results, Tryz.results93, go_sem]) rfl ⟨rfl, nq, rfl⟩
    · refine ⟨wa, c, V, x, false, by omega, by omega, .inr (by simp), .inr ⟨rfl, part_no (k := 4) rfl (by omega) hk⟩, fun w hW => ?_⟩
      obtain ⟨b, o, rfl, hcell, hV⟩ := hW.front
      refine ⟨hV, ?_⟩
      rw [hlen] at hc hl ⊢
      obtain ⟨m, hm⟩ : ∃ m, V.length = m := ⟨_, rfl⟩
      rw [hm] at hcell hc hl hk ⊢
      have hk' : ((m : Int) == 1) = false := by simpa using (by omega : ¬ (m : Int) = 1)
      clear hV hW hlen hm
      go_enter Tryz.func93, Tryz.ntmps93
      go_wp2_with (first | (go_at_call 87; refine (HN _).mono ?_; rintro e w' ⟨rfl, rfl⟩) | (go_at_call 88; refine (HT _).mono ?_; rintro e w' ⟨rfl, rfl⟩))
      go_quiet (fail)
      go_wp2_with fail
      exact bodyPost_ret (v := .tuple #[.slice (some ⟨b, o, none⟩) m c, .string ⟨x.toArray⟩, .bool false]) (by simp [results, Tryz.results93, go_sem]) rfl ⟨rfl, nq, rfl⟩
set_option maxHeartbeats 1000000 in
theorem parted_5 (W : List (List UInt8)) (wa : Option Addr) (c : Nat) (hc : W.length ≤ c) (hl : W.length ≤ 100000001) : ∃ fa fc fr own ok, PtIs 5 W wa c fa fc fr own ok := by
  have HN := fun w => hasN_any 5 w
  have HT := fun w => hasT_any 5 w
  rw [show hasNP 5 = true from rfl] at HN
  rw [show hasTP 5 = false from rfl] at HT
  rcases List.eq_nil_or_concat W with rfl | ⟨V, x, rfl⟩
  · refine ⟨none, 0, [], [], false, Nat.le_refl _, Nat.le_refl _, .inl rfl, .inr ⟨rfl, part_nil rfl⟩, fun w hW => ⟨.inl rfl, ?_⟩⟩
    clear hW
    go_enter Tryz.func93, Tryz.ntmps93
    go_wp2_with (first | (go_at_call 87; refine (HN _).mono ?_; rintro e w' ⟨rfl, rfl⟩) | (go_at_call 88; refine (HT _).mono ?_; rintro e w' ⟨rfl, rfl⟩))
    exact bodyPost_ret (v := .tuple #[.slice none 0 0, .string ⟨#[]⟩, .bool false]) (by simp [results, Tryz.results93, go_sem]) rfl ⟨rfl, 0, rfl⟩
  · rw [List.concat_eq_append] at *
    have hlen : (V ++ [x]).length = V.length + 1 := by simp
    by_cases hk : V.length = 1
    · refine ⟨wa, c, V, x, true, by omega, by omega, .inr (by simp), .inl ⟨rfl, part_yes (k := 5) rfl (by omega) hk⟩, fun w hW => ?_⟩
      obtain ⟨b, o, rfl, hcell, hV⟩ := hW.front
      refine ⟨hV, ?_⟩
      rw [hlen] at hc hl ⊢
      rw [hk] at hcell hc hl ⊢
      have hc0 := hc
      have hc1 : 1 ≤ c := by omega
      clear hV hW hlen hk
      go_enter Tryz.func93, Tryz.ntmps93
      go_wp2_with (first | (go_at_call 87; refine (HN _).mono ?_; rintro e w' ⟨rfl, rfl⟩) | (go_at_call 88; refine (HT _).mono ?_; rintro e w' ⟨rfl, rfl⟩))
      go_quiet (fail)
      go_wp2_with fail
      exact bodyPost_ret (v := .tuple #[.slice (some ⟨b, o, none⟩) 1 c, .string ⟨x.toArray⟩, .bool true]) (by simp [results, Tryz.results93, go_sem]) rfl ⟨rfl, nq, rfl⟩
    · refine ⟨wa, c, V, x, false, by omega, by omega, .inr (by simp), .inr ⟨rfl, part_no (k := 5) rfl (by omega) hk⟩, fun w hW => ?_⟩
      obtain ⟨b, o, rfl, hcell, hV⟩ := hW.front
      refine ⟨hV, ?_⟩
      rw [hlen] at hc hl ⊢
      obtain ⟨m, hm⟩ : ∃ m, V.length = m := ⟨_, rfl⟩
      rw [hm] at hcell hc hl hk ⊢
      have hk' : ((m : Int) == 1) = false := by simpa using (by omega : ¬ (m : Int) = 1)
      clear hV hW hlen hm
      go_enter Tryz.func93, Tryz.ntmps93
      go_wp2_with (first | (go_at_call 87; refine (HN _).mono ?_; rintro e w' ⟨rfl, rfl⟩) | (go_at_call 88; refine (HT _).mono ?_; rintro e w' ⟨rfl, rfl⟩))
      go_quiet (fail)
      go_wp2_with fail
      exact bodyPost_ret (v := .tuple #[.slice (some ⟨b, o, none⟩) m c, .string ⟨x.toArray⟩, .bool false]) (by simp [results, Tryz.results93, go_sem]) rfl ⟨rfl, nq, rfl⟩
set_option maxHeartbeats 1000000 in
theorem parted_6 (W : List (List UInt8)) (wa : Option Addr) (c : Nat) (hc : W.length ≤ c) (hl : W.length ≤ 100000001) : ∃ fa fc fr own ok, PtIs 6 W wa c fa fc fr own ok := by
  have HN := fun w => hasN_any 6 w
  have HT := fun w => hasT_any 6 w
  rw [show hasNP 6 = false from rfl] at HN
  rw [show hasTP 6 = false from rfl] at HT
  refine ⟨wa, c, W, [], true, hc, Nat.le_refl _, .inl rfl, .inl ⟨rfl, by rw [part_bare rfl]; simp⟩, fun w hW => ⟨hW, ?_⟩⟩
  clear hW
  go_enter Tryz.func93, Tryz.ntmps93
  go_wp2_with (first | (go_at_call 87; refine (HN _).mono ?_; rintro e w' ⟨rfl, rfl⟩) | (go_at_call 88; refine (HT _).mono ?_; rintro e w' ⟨rfl, rfl⟩))
  exact bodyPost_ret (v := .tuple #[.slice wa W.length c, .string ⟨#[]⟩, .bool true]) (by simp [results, Tryz.results93, go_sem]) rfl ⟨rfl, 0, rfl⟩
set_option maxHeartbeats 1000000 in
theorem parted_7 (W : List (List UInt8)) (wa : Option Addr) (c : Nat) (hc : W.length ≤ c) (hl : W.length ≤ 100000001) : ∃ fa fc fr own ok, PtIs 7 W wa c fa fc fr own ok := by
  have HN := fun w => hasN_any 7 w
  have HT := fun w => hasT_any 7 w
  rw [show hasNP 7 = false from rfl] at HN
  rw [show hasTP 7 = true from rfl] at HT
  rcases List.eq_nil_or_concat W with rfl | ⟨V, x, rfl⟩
  · refine ⟨none, 0, [], [], false, Nat.le_refl _, Nat.le_refl _, .inl rfl, .inr ⟨rfl, part_nil rfl⟩, fun w hW => ⟨.inl rfl, ?_⟩⟩
    clear hW
    go_enter Tryz.func93, Tryz.ntmps93
    go_wp2_with (first | (go_at_call 87; refine (HN _).mono ?_; rintro e w' ⟨rfl, rfl⟩) | (go_at_call 88; refine (HT _).mono ?_; rintro e w' ⟨rfl, rfl⟩))
    exact bodyPost_ret (v := .tuple #[.slice none 0 0, .string ⟨#[]⟩, .bool false]) (by simp [results, Tryz.results93, go_sem]) rfl ⟨rfl, 0, rfl⟩
  · rw [List.concat_eq_append] at *
    have hlen : (V ++ [x]).length = V.length + 1 := by simp
    by_cases hk : V.length = 1
    · refine ⟨wa, c, V, x, true, by omega, by omega, .inr (by simp), .inl ⟨rfl, part_yes (k := 7) rfl (by omega) hk⟩, fun w hW => ?_⟩
      obtain ⟨b, o, rfl, hcell, hV⟩ := hW.front
      refine ⟨hV, ?_⟩
      rw [hlen] at hc hl ⊢
      rw [hk] at hcell hc hl ⊢
      have hc0 := hc
      have hc1 : 1 ≤ c := by omega
      clear hV hW hlen hk
      go_enter Tryz.func93, Tryz.ntmps93
      go_wp2_with (first | (go_at_call 87; refine (HN _).mono ?_; rintro e w' ⟨rfl, rfl⟩) | (go_at_call 88; refine (HT _).mono ?_; rintro e w' ⟨rfl, rfl⟩))
      go_quiet (fail)
      go_wp2_with fail
      exact bodyPost_ret (v := .tuple #[.slice (some ⟨b, o, none⟩) 1 c, .string ⟨x.toArray⟩, .bool true]) (by simp [results, Tryz.results93, go_sem]) rfl ⟨rfl, nq, rfl⟩
    · refine ⟨wa, c, V, x, false, by omega, by omega, .inr (by simp), .inr ⟨rfl, part_no (k := 7) rfl (by omega) hk⟩, fun w hW => ?_⟩
      obtain ⟨b, o, rfl, hcell, hV⟩ := hW.front
      refine ⟨hV, ?_⟩
      rw [hlen] at hc hl ⊢
      obtain ⟨m, hm⟩ : ∃ m, V.length = m := ⟨_, rfl⟩
      rw [hm] at hcell hc hl hk ⊢
      have hk' : ((m : Int) == 1) = false := by simpa using (by omega : ¬ (m : Int) = 1)
      clear hV hW hlen hm
      go_enter Tryz.func93, Tryz.ntmps93
      go_wp2_with (first | (go_at_call 87; refine (HN _).mono ?_; rintro e w' ⟨rfl, rfl⟩) | (go_at_call 88; refine (HT _).mono ?_; rintro e w' ⟨rfl, rfl⟩))
      go_quiet (fail)
      go_wp2_with fail
      exact bodyPost_ret (v := .tuple #[.slice (some ⟨b, o, none⟩) m c, .string ⟨x.toArray⟩, .bool false]) (by simp [results, Tryz.results93, go_sem]) rfl ⟨rfl, nq, rfl⟩
set_option maxHeartbeats 1000000 in
theorem parted_8 (W : List (List UInt8)) (wa : Option Addr) (c : Nat) (hc : W.length ≤ c) (hl : W.length ≤ 100000001) : ∃ fa fc fr own ok, PtIs 8 W wa c fa fc fr own ok := by
  have HN := fun w => hasN_any 8 w
  have HT := fun w => hasT_any 8 w
  rw [show hasNP 8 = true from rfl] at HN
  rw [show hasTP 8 = false from rfl] at HT
  rcases List.eq_nil_or_concat W with rfl | ⟨V, x, rfl⟩
  · refine ⟨none, 0, [], [], false, Nat.le_refl _, Nat.le_refl _, .inl rfl, .inr ⟨rfl, part_nil rfl⟩, fun w hW => ⟨.inl rfl, ?_⟩⟩
    clear hW
    go_enter Tryz.func93, Tryz.ntmps93
    go_wp2_with (first | (go_at_call 87; refine (HN _).mono ?_; rintro e w' ⟨rfl, rfl⟩) | (go_at_call 88; refine (HT _).mono ?_; rintro e w' ⟨rfl, rfl⟩))
    exact bodyPost_ret (v := .tuple #[.slice none 0 0, .string ⟨#[]⟩, .bool false]) (by simp [results, Tryz.results93, go_sem]) rfl ⟨rfl, 0, rfl⟩
  · rw [List.concat_eq_append] at *
    have hlen : (V ++ [x]).length = V.length + 1 := by simp
    by_cases hk : V.length = 1
    · refine ⟨wa, c, V, x, true, by omega, by omega, .inr (by simp), .inl ⟨rfl, part_yes (k := 8) rfl (by omega) hk⟩, fun w hW => ?_⟩
      obtain ⟨b, o, rfl, hcell, hV⟩ := hW.front
      refine ⟨hV, ?_⟩
      rw [hlen] at hc hl ⊢
      rw [hk] at hcell hc hl ⊢
      have hc0 := hc
      have hc1 : 1 ≤ c := by omega
      clear hV hW hlen hk
      go_enter Tryz.func93, Tryz.ntmps93
      go_wp2_with (first | (go_at_call 87; refine (HN _).mono ?_; rintro e w' ⟨rfl, rfl⟩) | (go_at_call 88; refine (HT _).mono ?_; rintro e w' ⟨rfl, rfl⟩))
      go_quiet (fail)
      go_wp2_with fail
      exact bodyPost_ret (v := .tuple #[.slice (some ⟨b, o, none⟩) 1 c, .string ⟨x.toArray⟩, .bool true]) (by simp [results, Tryz.results93, go_sem]) rfl ⟨rfl, nq, rfl⟩
    · refine ⟨wa, c, V, x, false, by omega, by omega, .inr (by simp), .inr ⟨rfl, part_no (k := 8) rfl (by omega) hk⟩, fun w hW => ?_⟩
      obtain ⟨b, o, rfl, hcell, hV⟩ := hW.front
      refine ⟨hV, ?_⟩
      rw [hlen] at hc hl ⊢
      obtain ⟨m, hm⟩ : ∃ m, V.length = m := ⟨_, rfl⟩
      rw [hm] at hcell hc hl hk ⊢
      have hk' : ((m : Int) == 1) = false := by simpa using (by omega : ¬ (m : Int) = 1)
      clear hV hW hlen hm
      go_enter Tryz.func93, Tryz.ntmps93
      go_wp2_with (first | (go_at_call 87; refine (HN _).mono ?_; rintro e w' ⟨rfl, rfl⟩) | (go_at_call 88; refine (HT _).mono ?_; rintro e w' ⟨rfl, rfl⟩))
      go_quiet (fail)
      go_wp2_with fail
      exact bodyPost_ret (v := .tuple #[.slice (some ⟨b, o, none⟩) m c, .string ⟨x.toArray⟩, .bool false]) (by simp [results, Tryz.results93, go_sem]) rfl ⟨rfl, nq, rfl⟩
set_option maxHeartbeats 1000000 in
theorem parted_9 (W : List (List UInt8)) (wa : Option Addr) (c : Nat) (hc : W.length ≤ c) (hl : W.length ≤ 100000001) : ∃ fa fc fr own ok, PtIs 9 W wa c fa fc fr own ok := by
  have HN := fun w => hasN_any 9 w
  have HT := fun w => hasT_any 9 w
  rw [show hasNP 9 = false from rfl] at HN
  rw [show hasTP 9 = false from rfl] at HT
  by_cases hk : W.length = 1
  · refine ⟨wa, c, W, [], true, hc, Nat.le_refl _, .inl rfl, .inl ⟨rfl, by rw [part_bare rfl, if_pos (.inr hk)]⟩, fun w hW => ⟨hW, ?_⟩⟩
    rw [hk] at hc hl ⊢
    clear hW hk
    go_enter Tryz.func93, Tryz.ntmps93
    go_wp2_with (first | (go_at_call 87; refine (HN _).mono ?_; rintro e w' ⟨rfl, rfl⟩) | (go_at_call 88; refine (HT _).mono ?_; rintro e w' ⟨rfl, rfl⟩))
    exact bodyPost_ret (v := .tuple #[.slice wa 1 c, .string ⟨#[]⟩, .bool true]) (by simp [results, Tryz.results93, go_sem]) rfl ⟨rfl, 0, rfl⟩
  · refine ⟨wa, c, W, [], false, hc, Nat.le_refl _, .inl rfl, .inr ⟨rfl, by rw [part_bare rfl, if_neg (by rintro (h | h) <;> first | omega | exact hk h)]⟩, fun w hW => ⟨hW, ?_⟩⟩
    obtain ⟨m, hm⟩ : ∃ m, W.length = m := ⟨_, rfl⟩
    rw [hm] at hc hl hk ⊢
    have hk' : ((m : Int) == 1) = false := by simpa using (by omega : ¬ (m : Int) = 1)
    clear hW hm
    go_enter Tryz.func93, Tryz.ntmps93
    go_wp2_with (first | (go_at_call 87; refine (HN _).mono ?_; rintro e w' ⟨rfl, rfl⟩) | (go_at_call 88; refine (HT _).mono ?_; rintro e w' ⟨rfl, rfl⟩))
    exact bodyPost_ret (v := .tuple #[.slice wa m c, .string ⟨#[]⟩, .bool false]) (by simp [results, Tryz.results93, go_sem]) rfl ⟨rfl, 0, rfl⟩
set_option maxHeartbeats 1000000 in
theorem parted_10 (W : List (List UInt8)) (wa : Option Addr) (c : Nat) (hc : W.length ≤ c) (hl : W.length ≤ 100000001) : ∃ fa fc fr own ok, PtIs 10 W wa c fa fc fr own ok := by
  have HN := fun w => hasN_any 10 w
  have HT := fun w => hasT_any 10 w
  rw [show hasNP 10 = false from rfl] at HN
  rw [show hasTP 10 = false from rfl] at HT
  by_cases hk : W.length = 1
  · refine ⟨wa, c, W, [], true, hc, Nat.le_refl _, .inl rfl, .inl ⟨rfl, by rw [part_bare rfl, if_pos (.inr hk)]⟩, fun w hW => ⟨hW, ?_⟩⟩
    rw [hk] at hc hl ⊢
    clear hW hk
    go_enter Tryz.func93, Tryz.ntmps93
    go_wp2_with (first | (go_at_call 87; refine (HN _).mono ?_; rintro e w' ⟨rfl, rfl⟩) | (go_at_call 88; refine (HT _).mono ?_; rintro e w' ⟨rfl, rfl⟩))
    exact bodyPost_ret (v := .tuple #[.slice wa 1 c, .string ⟨#[]⟩, .bool true]) (by simp [results, Tryz.results93, go_sem]) rfl ⟨rfl, 0, rfl⟩
  · refine ⟨wa, c, W, [], false, hc, Nat.le_refl _, .inl rfl, .inr ⟨rfl, by rw [part_bare rfl, if_neg (by rintro (h | h) <;> first | omega | exact hk h)]⟩, fun w hW => ⟨hW, ?_⟩⟩
    obtain ⟨m, hm⟩ : ∃ m, W.length = m := ⟨_, rfl⟩
    rw [hm] at hc hl hk ⊢
    have hk' : ((m : Int) == 1) = false := by simpa using (by omega : ¬ (m : Int) = 1)
    clear hW hm
    go_enter Tryz.func93, Tryz.ntmps93
    go_wp2_with (first | (go_at_call 87; refine (HN _).mono ?_; rintro e w' ⟨rfl, rfl⟩) | (go_at_call 88; refine (HT _).mono ?_; rintro e w' ⟨rfl, rfl⟩))
    exact bodyPost_ret (v := .tuple #[.slice wa m c, .string ⟨#[]⟩, .bool false]) (by simp [results, Tryz.results93, go_sem]) rfl ⟨rfl, 0, rfl⟩
theorem parted_any {k : Int} (h1 : 1 ≤ k) (h2 : k ≤ 10) (W : List (List UInt8)) (wa : Option Addr) (c : Nat) (hc : W.length ≤ c) (hl : W.length ≤ 100000001) : ∃ fa fc fr own ok, PtIs k W wa c fa fc fr own ok := by
  rcases kinds h1 h2 with rfl | rfl | rfl | rfl | rfl | rfl | rfl | rfl | rfl | rfl
  · exact parted_1 W wa c hc hl
  · exact parted_2 W wa c hc hl
  · exact parted_3 W wa c hc hl
  · exact parted_4 W wa c hc hl
  · exact parted_5 W wa c hc hl
  · exact parted_6 W wa c hc hl
  · exact parted_7 W wa c hc hl
  · exact parted_8 W wa c hc hl
  · exact parted_9 W wa c hc hl
  · exact parted_10 W wa c hc hl
end Go.Proofs.YtnapbfilkahobaaGreatDoor
