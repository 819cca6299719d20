/- States read; two lists of states that are the same. -/
import Derived.Test.YtemjddbkcbngpaaDoorFs
namespace Go.Proofs.YtemjddbkcbngpaaDoor
open Go.RowKit

theorem infoHd : (Tryd.prog.info? 72).map (fun i => (i.zero, i.size, i.bytes)) = some (some (.agg #[.int .i64 0, .string ⟨#[]⟩, .int .i64 0, .int .i64 0]), 4, 40) := by kernel_rfl
theorem cell_four_new (w : World) (a b c d : Value) (t : TypeId) : ∀ j u, [a, b, c, d][j]? = some u → (w.alloc (.cells #[a, b, c, d] t)).cell? ((⟨w.heap.size, 0, none⟩ : Addr).add j) = some u := by
  intro j u hj
  match j, hj with
  | 0, hj => simp at hj; subst hj; simp [Addr.add]
  | 1, hj => simp at hj; subst hj; simp [Addr.add]
  | 2, hj => simp at hj; subst hj; simp [Addr.add]
  | 3, hj => simp at hj; subst hj; simp [Addr.add]

/-- How ReadHelds ends. -/
def RhEnd (w : World) (r : Option (List Hd)) (e : Ending) (w' : World) : Prop :=
  (match r with
   | none => e = .returned (.tuple #[.slice none 0 0, .iface 58 (.int .i64 9)])
   | some xs => ∃ v, e = .returned (.tuple #[v, .nilIface]) ∧ w'.ownsRow w.heap.size 72 4 v xs.length (hcells xs)) ∧ Below w.heap.size w w'
theorem read_hd {l : List UInt8} {xs : List Hd} (h : rdAll rdHd l = some xs) : readHds ltH l = if heldsE ltH xs = 0 then some xs else none := by
  unfold readHds; rw [h]
theorem read_hnone {l : List UInt8} (h : rdAll rdHd l = none) : readHds ltH l = none := by
  unfold readHds; rw [h]
set_option maxRecDepth 100000 in
set_option maxHeartbeats 1000000 in
theorem readHds_any (w : World) (p : Option Addr) (c : Nat) (l : List UInt8) (hl : BsAt w p l) (hlen : l.length ≤ 140737488355328) (hcap : l.length ≤ c) (hcm : c ≤ 9223372036854775807) :
    Calls Tryd.prog 14 #[.slice p l.length c] w fun e w' => RhEnd w (readHds ltH l) e w' := by
  obtain ⟨i0, hi, hz0, hz1, hz2⟩ := info_parts infoHd
  have hbd := nM_bd (some l)
  have hR0 : RdB w.heap.size (w.alloc (.cells #[.slice p l.length c, .bool false] 67)) w.heap.size (some l) := by
    refine ⟨p, c, ?_, hl.keep ((Below.refl _ _).alloc (Nat.le_refl _) _), ?_, hcap, hcm, hlen⟩
    · unfold Rb; show (w.heap.push _)[w.heap.size]? = _; simp
    · intro a ha hne
      obtain ⟨b, o, h1, h2⟩ := hl.lt hne
      rw [h1] at ha; simp at ha; subst ha; exact h2
  have HM := rmany_any w.heap.size w.heap.size _ _ hR0 (Nat.le_refl _)
  have hB1 : (w.alloc (.cells #[.slice p l.length c, .bool false] 67)).heap.size = w.heap.size + 1 := by simp
  have hbA : Below w.heap.size w (w.alloc (.cells #[.slice p l.length c, .bool false] 67)) := (Below.refl _ _).alloc (by omega) _
  have HP : Hid (∀ e w', RhEnd w (readHds ltH l) e w' ↔ (match readHds ltH l with
   | none => e = .returned (.tuple #[.slice none 0 0, .iface 58 (.int .i64 9)])
   | some xs => ∃ v, e = .returned (.tuple #[v, .nilIface]) ∧ w'.ownsRow w.heap.size 72 4 v xs.length (hcells xs)) ∧ Below w.heap.size w w') := Lib.hid (fun e w' => Iff.rfl)
  have HA := Lib.hid (fun st xs (h : Came rdHd (nM (some l)).2 (nM (some l)).1.toNat st xs) => h.all)
  have HZ := Lib.hid (Came.zero rdHd (nM (some l)).2)
  generalize (nM (some l)).2 = st0 at *
  obtain ⟨n, hn⟩ : ∃ n : Nat, (nM (some l)).1 = (n : Int) := ⟨(nM (some l)).1.toNat, by omega⟩
  rw [hn] at HM HA hbd
  have hn4 : n ≤ 400 := by omega
  rw [Int.toNat_natCast] at HA
  clear hn hbd hR0 hl
  go_enter Tryd.func14, Tryd.ntmps14
  go_wp2_with (go_at_call 29; refine HM.mono ?_; rintro e w1 ⟨rfl, r1, f1⟩; refine Hid.out ?_)
  refine Lib.hid ?_
  have b1 : Below w.heap.size w w1 := hbA.trans (f1.toBelow (by omega) (by simp))
  have z1 : w.heap.size + 1 ≤ w1.heap.size := by have := f1.size; omega
  clear HM f1 hbA hB1
  go_wp2_with fail
  go_loopw [4, 9] (fun v i wr => ∃ (k : Nat) (st : St) (xs : List Hd), k ≤ n ∧ i = .int .i64 k ∧ xs.length = k ∧ Came rdHd st0 k st xs ∧ RdB w.heap.size wr w.heap.size st ∧ wr.ownsRow (w.heap.size + 1) 72 4 v k (hcells xs) ∧ Below w.heap.size w wr ∧ w.heap.size + 1 ≤ wr.heap.size) (fun _ i _ => n - (intOf i).toNat)
  case atStart => exact ⟨0, st0, [], by omega, rfl, rfl, HZ.out, r1, World.ownsRow_nil _ _ _ _, b1, z1⟩
  case round =>
    obtain ⟨k, st, xs, hk, rfl, hxl, hcame, hrd, hown, hb, hz⟩ := hrel
    clear b1 z1 r1
    by_cases hlt : k < n
    · have HR := held_any w.heap.size w.heap.size wr st hrd (Nat.le_refl _)
      have hnx := Lib.hid (hcame.next nHd_none nHd_no nHd_yes)
      generalize (nHd st).1 = r at *
      generalize (nHd st).2 = st' at *
      obtain ⟨nd, key, a, bv⟩ := r
      simp only [hdV] at HR
      have hsnoc := Lib.hid (show hcells (xs ++ [⟨nd, key, a, bv⟩]) = hcells xs ++ [.int .i64 nd, .string key, .int .i64 a, .int .i64 bv] from by rw [hcells_append]; rfl)
      go_wp2_with (go_at_call 35; refine HR.mono ?_; rintro e u1 ⟨rfl, r1, f1, s1⟩; refine Hid.out ?_)
      refine Lib.hid ?_
      have own1 := rows_keep hown f1 (by omega)
      have b1 : Below w.heap.size w u1 := hb.trans (f1.toBelow (by omega) (by simp))
      have z1 : w.heap.size + 1 ≤ u1.heap.size := by omega
      clear HR f1 hb hown hrd
      go_wp2_with (at_builtin; refine wpList_append_own _ rfl _ _ 37 rfl (w.heap.size + 1) 72 i0 (.agg #[.int .i64 0, .string ⟨#[]⟩, .int .i64 0, .int .i64 0]) 4 40 Tryd.underlying37 hi hz0 hz1 hz2 rfl (by decide) _ _ _ rfl (own1.alloc _) ⟨u1.heap.size, 0, none⟩ 1 1 [.int .i64 nd, .string key, .int .i64 a, .int .i64 bv] rfl rfl (cell_four_new _ _ _ _ _ _) (by intro u hu; simp at hu; rcases hu with rfl | rfl | rfl | rfl <;> rfl) (by unfold maxLen; omega) (by omega) (by simp; omega) ?_)
      intro v' w3 hown' hgrow _
      have own3 : w3.ownsRow (w.heap.size + 1) 72 4 v' (k + 1) (hcells (xs ++ [⟨nd, key, a, bv⟩])) := by rw [hsnoc.out]; exact hown'
      have b3 : Below w.heap.size w w3 := (b1.alloc (by omega) _).grown hgrow (by simp; omega) (fun j hj => by have := (own1.lt j hj).1; omega)
      have r3 : RdB w.heap.size w3 w.heap.size st' := by
        have hne : ∀ j, j ≤ w.heap.size → w3.heap[j]? = u1.heap[j]? := fun j hj => by
          rw [hgrow.block j (by simp; omega) (fun e => by have := (own1.lt j e.symm).1; omega), Below.heap_alloc _ _ _ (by omega)]
        exact r1.keep (hne _ (Nat.le_refl _)) (fun j hj => hne j (by omega))
      have z3 : w.heap.size + 1 ≤ w3.heap.size := by have := hgrow.size; simp at this; omega
      clear hown' hgrow own1 b1 r1
      go_wp2_with fail
      go_roundw
      case rel => exact ⟨k + 1, st', xs ++ [⟨nd, key, a, bv⟩], by omega, by go_num, by simp [hxl], hnx.out, r3, own3, b3, z3⟩
      case measure => simp [intOf]; omega
    · have hkn : k = n := by omega
      subst hkn
      have hall := HA.out st xs hcame
      have HEn := ended_any w.heap.size w.heap.size wr st hrd
      obtain ⟨A, cap, rfl⟩ := row_slice hown
      by_cases hst : st = some []
      · have hr := hall.1 hst
        subst hst
        have hoks := (rdAll_some (Ok := OkHd) (g := hdB) (fun x l q h => rdHd_some h) hr).1
        have hrr := read_hd hr
        subst hxl
        have HC := checkHds_any wr A cap xs (own_cs hown (hcells_len xs)).1 (by omega) (fun r hr => by have := (hoks r hr).2.1; omega)
        rw [show endB (some []) = true from rfl] at HEn
        cases hE : heldsE ltH xs with
        | zero =>
          rw [hE] at HC hrr
          rw [show errV 0 = .nilIface from rfl] at HC
          rw [if_pos rfl] at hrr
          have HP' : Hid (∀ w', w'.ownsRow w.heap.size 72 4 (.slice A xs.length cap) xs.length (hcells xs) → Below w.heap.size w w' → RhEnd w (readHds ltH l) (.returned (.tuple #[.slice A xs.length cap, .nilIface])) w') := Lib.hid (fun w' ho hb => by rw [hrr]; exact ⟨⟨_, rfl, ho⟩, hb⟩)
          clear hrr hr hall hoks HA HP HZ hcame hrd
          go_wp2_with (first | (go_at_call 31; refine HEn.mono ?_; rintro e w' ⟨rfl, rfl⟩) | (go_at_call 34; refine HC.mono ?_; rintro e u1 ⟨rfl, b1⟩))
          go_ret2
          exact HP'.out _ ((own_keep hown b1).mono (by omega)) (hb.trans (b1.mono hb.size))
        | succ m =>
          rw [hE] at HC hrr
          rw [show errV (m + 1) = .iface 58 (.int .i64 ((m + 1 : Nat) : Int)) from rfl] at HC
          rw [if_neg (by omega)] at hrr
          generalize ((m + 1 : Nat) : Int) = z at HC
          have HP' : Hid (∀ w', Below w.heap.size w w' → RhEnd w (readHds ltH l) (.returned (.tuple #[.slice none 0 0, .iface 58 (.int .i64 9)])) w') := Lib.hid (fun w' hb => by rw [hrr]; exact ⟨rfl, hb⟩)
          clear hrr hr hall hoks HA HP HZ hcame hrd
          go_wp2_with (first | (go_at_call 31; refine HEn.mono ?_; rintro e w' ⟨rfl, rfl⟩) | (go_at_call 34; refine HC.mono ?_; rintro e u1 ⟨rfl, b1⟩))
          go_ret2
          exact HP'.out _ (hb.trans (b1.mono hb.size))
      · have hr := read_hnone (hall.2 hst)
        have he : endB st = false := by
          unfold endB
          split
          · exact absurd rfl hst
          · rfl
        rw [he] at HEn
        have HP' : Hid (∀ w', Below w.heap.size w w' → RhEnd w (readHds ltH l) (.returned (.tuple #[.slice none 0 0, .iface 58 (.int .i64 9)])) w') := Lib.hid (fun w' hb => by rw [hr]; exact ⟨rfl, hb⟩)
        clear hr hall HA HP HZ hcame hrd
        go_wp2_with (go_at_call 31; refine HEn.mono ?_; rintro e w' ⟨rfl, rfl⟩)
        go_ret2
        exact HP'.out _ hb
set_option maxRecDepth 100000 in
set_option maxHeartbeats 1000000 in
theorem sameHds_any (w : World) (la lb : Option Addr) (c d : Nat) (L : List Hd) (ha : CsAt w la (hcells L)) (hb : CsAt w lb (hcells L)) (hlen : L.length ≤ 9223372036854775807) :
    Calls Tryd.prog 15 #[.slice la L.length c, .slice lb L.length d] w fun e w' => e = .returned (.bool true) ∧ Below w.heap.size w w' := by
  go_enter Tryd.func15, Tryd.ntmps15
  go_wp2_with fail
  go_loopw [5] (fun i wr => ∃ k : Nat, k ≤ L.length ∧ i = .int .i64 k ∧ Below w.heap.size w wr) (fun i _ => L.length - (intOf i).toNat)
  case atStart => exact ⟨0, by omega, rfl, Below.refl _ _⟩
  case round =>
    obtain ⟨k, hk, rfl, hbl⟩ := hrel
    by_cases hlt : k < L.length
    · obtain ⟨b, o, rfl, c0, c1, c2, c3⟩ := hds_at (ha.keep hbl) k hlt
      obtain ⟨b', o', rfl, d0, d1, d2, d3⟩ := hds_at (hb.keep hbl) k hlt
      generalize L[k] = r at *
      obtain ⟨nd, key, a, bv⟩ := r
      simp only at c0 c1 c2 c3 d0 d1 d2 d3
      go_wp2_with fail
      go_quiet (fail)
      go_wp2_with fail
      go_roundw
      case rel => exact ⟨k + 1, by omega, by go_num, by exact ⟨hbl.os, hbl.tape, hbl.output, hbl.size, hbl.block⟩⟩
      case measure => simp [intOf]; omega
    · go_wp2_with fail
      go_ret
      exact ⟨rfl, hbl⟩
end Go.Proofs.YtemjddbkcbngpaaDoor
