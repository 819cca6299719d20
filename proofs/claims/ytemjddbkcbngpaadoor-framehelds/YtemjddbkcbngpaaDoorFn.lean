/- Records read. -/
import Derived.Test.YtemjddbkcbngpaaDoorFm
namespace Go.Proofs.YtemjddbkcbngpaaDoor
open Go.RowKit

theorem infoRc : (Tryd.prog.info? 53).map (fun i => (i.zero, i.size, i.bytes)) = some (some (.agg #[.string ⟨#[]⟩, .int .i64 0, .int .i64 0]), 3, 32) := by kernel_rfl
theorem cell_three_new (w : World) (a b c : Value) (t : TypeId) : ∀ j u, [a, b, c][j]? = some u → (w.alloc (.cells #[a, b, c] t)).cell? ((⟨w.heap.size, 0, none⟩ : Addr).add j) = some u := by
  intro j u hj
  match j, hj with
  | 0, hj => simp at hj; subst hj; simp [Addr.add]
  | 1, hj => simp at hj; subst hj; simp [Addr.add]
  | 2, hj => simp at hj; subst hj; simp [Addr.add]

/-- How ReadRecords ends. -/
def RdEnd (w : World) (r : Option (List Rc)) (e : Ending) (w' : World) : Prop :=
  (match r with
   | none => e = .returned (.tuple #[.slice none 0 0, .iface 58 (.int .i64 9)])
   | some xs => ∃ v, e = .returned (.tuple #[v, .nilIface]) ∧ w'.ownsRow w.heap.size 53 3 v xs.length (rcells xs)) ∧ Below w.heap.size w w'
/-- Blocks that hold no records, and are not the reader's, stay. -/
theorem rows_keep {w w' : World} {B e m n : Nat} {v : Value} {cs : List Value} {R : Nat} (h : w.ownsRow B e m v n cs) (f : Fr [R] w w') (hR : R < B) : w'.ownsRow B e m v n cs :=
  ⟨h.1, h.2.imp id fun ⟨g, cap, cur, h0, h1, h2, h3⟩ => ⟨g, cap, cur, h0, h1, by rw [f.block g (some_lt h2) (by simp; omega)]; exact h2, h3⟩⟩
theorem row_slice {w : World} {B n e m : Nat} {v : Value} {xs : List Value} (h : w.ownsRow B e m v n xs) : ∃ A cap, v = .slice A n cap := by
  rcases h.2 with ⟨h0, h1⟩ | ⟨g, cap', cur, h0, -⟩
  · exact ⟨none, 0, by rw [h0, h1]⟩
  · exact ⟨_, _, h0⟩
theorem read_rc {l : List UInt8} {xs : List Rc} (h : rdAll rdRc l = some xs) : readRcs l = if recsE xs = 0 then some xs else none := by
  unfold readRcs; rw [h]
theorem read_none {l : List UInt8} (h : rdAll rdRc l = none) : readRcs l = none := by
  unfold readRcs; rw [h]
set_option maxRecDepth 100000 in
set_option maxHeartbeats 1000000 in
theorem readRecs_any (w : World) (p : Option Addr) (c : Nat) (l : List UInt8) (hl : BsAt w p l) (hlen : l.length ≤ 140737488355328) (hcap : l.length ≤ c) (hcm : c ≤ 9223372036854775807) :
    Calls Tryd.prog 9 #[.slice p l.length c] w fun e w' => RdEnd w (readRcs l) e w' := by
  obtain ⟨i0, hi, hz0, hz1, hz2⟩ := info_parts infoRc
  have hbd := nM_bd (some l)
  have hR0 : RdB w.heap.size (w.alloc (.cells #[.slice p l.length c, .bool false] 67)) w.heap.size (some l) := by
    refine ⟨p, c, ?_, hl.keep ((Below.refl _ _).alloc (Nat.le_refl _) _), ?_, hcap, hcm, hlen⟩
    · unfold Rb; show (w.heap.push _)[w.heap.size]? = _; simp
    · intro a ha hne
      obtain ⟨b, o, h1, h2⟩ := hl.lt hne
      rw [h1] at ha; simp at ha; subst ha; exact h2
  have HM := rmany_any w.heap.size w.heap.size _ _ hR0 (Nat.le_refl _)
  have hB1 : (w.alloc (.cells #[.slice p l.length c, .bool false] 67)).heap.size = w.heap.size + 1 := by simp
  have hbA : Below w.heap.size w (w.alloc (.cells #[.slice p l.length c, .bool false] 67)) := (Below.refl _ _).alloc (by omega) _
  have HP : Hid (∀ e w', RdEnd w (readRcs l) e w' ↔ (match readRcs l with
   | none => e = .returned (.tuple #[.slice none 0 0, .iface 58 (.int .i64 9)])
   | some xs => ∃ v, e = .returned (.tuple #[v, .nilIface]) ∧ w'.ownsRow w.heap.size 53 3 v xs.length (rcells xs)) ∧ Below w.heap.size w w') := Lib.hid (fun e w' => Iff.rfl)
  have HA := Lib.hid (fun st xs (h : Came rdRc (nM (some l)).2 (nM (some l)).1.toNat st xs) => h.all)
  have HZ := Lib.hid (Came.zero rdRc (nM (some l)).2)
  generalize (nM (some l)).2 = st0 at *
  obtain ⟨n, hn⟩ : ∃ n : Nat, (nM (some l)).1 = (n : Int) := ⟨(nM (some l)).1.toNat, by omega⟩
  rw [hn] at HM HA hbd
  have hn4 : n ≤ 400 := by omega
  rw [Int.toNat_natCast] at HA
  clear hn hbd hR0 hl
  go_enter Tryd.func9, Tryd.ntmps9
  go_wp2_with (go_at_call 29; refine HM.mono ?_; rintro e w1 ⟨rfl, r1, f1⟩; refine Hid.out ?_)
  refine Lib.hid ?_
  have b1 : Below w.heap.size w w1 := hbA.trans (f1.toBelow (by omega) (by simp))
  have z1 : w.heap.size + 1 ≤ w1.heap.size := by have := f1.size; omega
  clear HM f1 hbA hB1
  go_wp2_with fail
  go_loopw [4, 9] (fun v i wr => ∃ (k : Nat) (st : St) (xs : List Rc), k ≤ n ∧ i = .int .i64 k ∧ xs.length = k ∧ Came rdRc st0 k st xs ∧ RdB w.heap.size wr w.heap.size st ∧ wr.ownsRow (w.heap.size + 1) 53 3 v k (rcells xs) ∧ Below w.heap.size w wr ∧ w.heap.size + 1 ≤ wr.heap.size) (fun _ i _ => n - (intOf i).toNat)
  case atStart => exact ⟨0, st0, [], by omega, rfl, rfl, HZ.out, r1, World.ownsRow_nil _ _ _ _, b1, z1⟩
  case round =>
    obtain ⟨k, st, xs, hk, rfl, hxl, hcame, hrd, hown, hb, hz⟩ := hrel
    clear b1 z1 r1
    by_cases hlt : k < n
    · have HR := record_any w.heap.size w.heap.size wr st hrd (Nat.le_refl _)
      have hnx := Lib.hid (hcame.next nRc_none nRc_no nRc_yes)
      generalize (nRc st).1 = r at *
      generalize (nRc st).2 = st' at *
      obtain ⟨key, num, time⟩ := r
      simp only [rcV] at HR
      have hsnoc := Lib.hid (show rcells (xs ++ [⟨key, num, time⟩]) = rcells xs ++ [.string key, .int .i64 num, .int .i64 time] from by rw [rcells_append]; rfl)
      go_wp2_with (go_at_call 30; refine HR.mono ?_; rintro e u1 ⟨rfl, r1, f1, s1⟩; refine Hid.out ?_)
      refine Lib.hid ?_
      have own1 := rows_keep hown f1 (by omega)
      have b1 : Below w.heap.size w u1 := hb.trans (f1.toBelow (by omega) (by simp))
      have z1 : w.heap.size + 1 ≤ u1.heap.size := by omega
      clear HR f1 hb hown hrd
      go_wp2_with (at_builtin; refine wpList_append_own _ rfl _ _ 22 rfl (w.heap.size + 1) 53 i0 (.agg #[.string ⟨#[]⟩, .int .i64 0, .int .i64 0]) 3 32 Tryd.underlying22 hi hz0 hz1 hz2 rfl (by decide) _ _ _ rfl (own1.alloc _) ⟨u1.heap.size, 0, none⟩ 1 1 [.string key, .int .i64 num, .int .i64 time] rfl rfl (cell_three_new _ _ _ _ _) (by intro u hu; simp at hu; rcases hu with rfl | rfl | rfl <;> rfl) (by unfold maxLen; omega) (by omega) (by simp; omega) ?_)
      intro v' w3 hown' hgrow _
      have own3 : w3.ownsRow (w.heap.size + 1) 53 3 v' (k + 1) (rcells (xs ++ [⟨key, num, time⟩])) := by rw [hsnoc.out]; exact hown'
      have b3 : Below w.heap.size w w3 := (b1.alloc (by omega) _).grown hgrow (by simp; omega) (fun j hj => by have := (own1.lt j hj).1; omega)
      have r3 : RdB w.heap.size w3 w.heap.size st' := by
        have hne : ∀ j, j ≤ w.heap.size → w3.heap[j]? = u1.heap[j]? := fun j hj => by
          rw [hgrow.block j (by simp; omega) (fun e => by have := (own1.lt j e.symm).1; omega), Below.heap_alloc _ _ _ (by omega)]
        exact r1.keep (hne _ (Nat.le_refl _)) (fun j hj => hne j (by omega))
      have z3 : w.heap.size + 1 ≤ w3.heap.size := by have := hgrow.size; simp at this; omega
      clear hown' hgrow own1 b1 r1
      go_wp2_with fail
      go_roundw
      case rel => exact ⟨k + 1, st', xs ++ [⟨key, num, time⟩], by omega, by go_num, by simp [hxl], hnx.out, r3, own3, b3, z3⟩
      case measure => simp [intOf]; omega
    · have hkn : k = n := by omega
      subst hkn
      have hall := HA.out st xs hcame
      have HEn := ended_any w.heap.size w.heap.size wr st hrd
      obtain ⟨A, cap, rfl⟩ := row_slice hown
      by_cases hst : st = some []
      · have hr := hall.1 hst
        subst hst
        have hoks := (rdAll_some (Ok := OkRc) (g := rcB) (fun x l q h => rdRc_some h) hr).1
        have hrr := read_rc hr
        subst hxl
        have HC := checkRecs_any wr A cap xs (own_cs hown (rcells_len xs)).1 (by omega) (fun r hr => by have := (hoks r hr).1; omega)
        rw [show endB (some []) = true from rfl] at HEn
        cases hE : recsE xs with
        | zero =>
          rw [hE] at HC hrr
          rw [show errV 0 = .nilIface from rfl] at HC
          rw [if_pos rfl] at hrr
          have HP' : Hid (∀ w', w'.ownsRow w.heap.size 53 3 (.slice A xs.length cap) xs.length (rcells xs) → Below w.heap.size w w' → RdEnd w (readRcs l) (.returned (.tuple #[.slice A xs.length cap, .nilIface])) w') := Lib.hid (fun w' ho hb => by rw [hrr]; exact ⟨⟨_, rfl, ho⟩, hb⟩)
          clear hrr hr hall hoks HA HP HZ hcame hrd
          go_wp2_with (first | (go_at_call 31; refine HEn.mono ?_; rintro e w' ⟨rfl, rfl⟩) | (go_at_call 21; refine HC.mono ?_; rintro e u1 ⟨rfl, b1⟩))
          go_ret2
          exact HP'.out _ ((own_keep hown b1).mono (by omega)) (hb.trans (b1.mono hb.size))
        | succ m =>
          rw [hE] at HC hrr
          rw [show errV (m + 1) = .iface 58 (.int .i64 ((m + 1 : Nat) : Int)) from rfl] at HC
          rw [if_neg (by omega)] at hrr
          generalize ((m + 1 : Nat) : Int) = z at HC
          have HP' : Hid (∀ w', Below w.heap.size w w' → RdEnd w (readRcs l) (.returned (.tuple #[.slice none 0 0, .iface 58 (.int .i64 9)])) w') := Lib.hid (fun w' hb => by rw [hrr]; exact ⟨rfl, hb⟩)
          clear hrr hr hall hoks HA HP HZ hcame hrd
          go_wp2_with (first | (go_at_call 31; refine HEn.mono ?_; rintro e w' ⟨rfl, rfl⟩) | (go_at_call 21; refine HC.mono ?_; rintro e u1 ⟨rfl, b1⟩))
          go_ret2
          exact HP'.out _ (hb.trans (b1.mono hb.size))
      · have hr := read_none (hall.2 hst)
        have he : endB st = false := by
          unfold endB
          split
          · exact absurd rfl hst
          · rfl
        rw [he] at HEn
        have HP' : Hid (∀ w', Below w.heap.size w w' → RdEnd w (readRcs l) (.returned (.tuple #[.slice none 0 0, .iface 58 (.int .i64 9)])) w') := Lib.hid (fun w' hb => by rw [hr]; exact ⟨rfl, hb⟩)
        clear hr hall HA HP HZ hcame hrd
        go_wp2_with (go_at_call 31; refine HEn.mono ?_; rintro e w' ⟨rfl, rfl⟩)
        go_ret2
        exact HP'.out _ hb
end Go.Proofs.YtemjddbkcbngpaaDoor
