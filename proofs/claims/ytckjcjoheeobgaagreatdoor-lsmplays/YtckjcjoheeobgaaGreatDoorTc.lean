/- A table read. -/
import Derived.Test.YtckjcjoheeobgaaGreatDoorTb
import Derived.Test.YtckjcjoheeobgaaGreatDoorFe
import Derived.Deep.RegionLaw
namespace Go.Proofs.YtckjcjoheeobgaaGreatDoor
open Go.RowKit

theorem infoEn : (Tryz.prog.info? 40).map (fun i => (i.zero, i.size, i.bytes)) = some (some (.agg #[.string ⟨#[]⟩, .string ⟨#[]⟩, .bool false]), 3, 40) := by kernel_rfl
theorem RdB.rb {N : Nat} {w : World} {R : Nat} {st : St} (h : RdB N w R st) : ∃ v b, Rb w R v b := by
  cases st with
  | none => exact ⟨_, _, h⟩
  | some l => obtain ⟨p, c, h, -⟩ := h; exact ⟨_, _, h⟩
theorem own_cap {w : World} {B n cap : Nat} {A : Option Addr} {l : List UInt8} (h : w.ownsRow B 5 1 (.slice A n cap) n (bcs l)) : cap ≤ 9223372036854775807 := by
  rcases h.2 with ⟨h0, h1⟩ | ⟨g, cap', cur, h0, hb, hg, hle, hm, hs, ht⟩
  · simp at h0; omega
  · simp at h0
    obtain ⟨-, rfl⟩ := h0
    exact hm
set_option maxRecDepth 100000 in
set_option maxHeartbeats 1000000 in
theorem entry_any (N R : Nat) (w : World) (st : St) (h : RdB N w R st) (hNR : N ≤ R) :
    Calls Tryz.prog 57 #[.pointer (some ⟨R, 0, none⟩)] w fun e w' => e = .returned (enV (nEn st).1) ∧ RdB N w' R (nEn st).2 ∧ Fr [R] w w' ∧ w.heap.size < w'.heap.size := by
  have hRl := h.lt
  obtain ⟨k, s1, e1⟩ : ∃ k s1, nT st = (k, s1) := ⟨_, _, rfl⟩
  obtain ⟨n, s2, e2⟩ : ∃ n s2, nI s1 = (n, s2) := ⟨_, _, rfl⟩
  obtain ⟨t, s3, e3⟩ : ∃ t s3, nT s2 = (t, s3) := ⟨_, _, rfl⟩
  have er : nEn st = (⟨k, t, decide (n = 1)⟩, if n = 0 ∨ n = 1 then s3 else none) := by unfold nEn; rw [e1]; simp only; rw [e2]; simp only; rw [e3]
  rw [er]
  obtain ⟨sR, hsR⟩ : ∃ sR, sR = (if n = 0 ∨ n = 1 then s3 else none) := ⟨_, rfl⟩
  obtain ⟨dR, hdR⟩ : ∃ dR, dR = decide (n = 1) := ⟨_, rfl⟩
  rw [← hsR, ← hdR]
  have HsR := Lib.hid hsR
  have HdR := Lib.hid hdR
  clear hsR hdR
  have HT := fun (u : World) (hu : RdB N u R st) => rtext_any N R u st hu hNR
  have H1 := fun (u : World) (hu : RdB N u R s1) => rnum_any N R u s1 hu hNR
  have H2 := fun (u : World) (hu : RdB N u R s2) => rtext_any N R u s2 hu hNR
  rw [e1] at HT
  rw [e2] at H1
  rw [e3] at H2
  simp only at HT H1 H2 ⊢
  have hd := h.alloc hNR (.cells #[.string ⟨#[]⟩, .string ⟨#[]⟩, .bool false] 40)
  have F0 := (Fr.refl [R] w).alloc (.cells #[.string ⟨#[]⟩, .string ⟨#[]⟩, .bool false] 40)
  have Z0 : w.heap.size < (w.alloc (.cells #[.string ⟨#[]⟩, .string ⟨#[]⟩, .bool false] 40)).heap.size := by simp
  have C0 : (w.alloc (.cells #[.string ⟨#[]⟩, .string ⟨#[]⟩, .bool false] 40)).heap[w.heap.size]? = some (.cells #[.string ⟨#[]⟩, .string ⟨#[]⟩, .bool false] 40) := by
    show (w.heap.push _)[w.heap.size]? = _; simp
  clear h e1 e2 e3 er
  have hne : w.heap.size ≠ R := by omega
  go_enter Tryz.func57, Tryz.ntmps57
  go_wp2_with (go_at_call 77; refine (HT _ hd).mono ?_; rintro e w1 ⟨rfl, r1, f1⟩; refine Hid.out ?_)
  refine Lib.hid ?_
  go_wp2_with (go_at_call 75; refine (H1 _ r1).mono ?_; rintro e w2 ⟨rfl, r2, f2⟩; refine Hid.out ?_)
  refine Lib.hid ?_
  go_wp2_with (go_at_call 77; refine (H2 _ r2).mono ?_; rintro e w3 ⟨rfl, r3, f3⟩; refine Hid.out ?_)
  refine Lib.hid ?_
  have F3 := f1.trans (f2.trans f3)
  have C3 : w3.heap[w.heap.size]? = some (.cells #[.string ⟨#[]⟩, .string ⟨#[]⟩, .bool false] 40) := by rw [F3.block _ Z0 (by simpa using hne)]; exact C0
  have hFF := F0.trans F3
  have hsz := F3.size
  have hlt : w.heap.size < w3.heap.size := by omega
  clear f1 f2 f3 F3 C0 F0 hd r1 r2 HT H1 H2
  have hput : ∀ (u : World) (st' : St), RdB N u R st' → u.heap[w.heap.size]? = some (.cells #[.string ⟨#[]⟩, .string ⟨#[]⟩, .bool false] 40) → ∀ a b c, RdB N (((u.setCell ⟨w.heap.size, 0, none⟩ a).setCell ⟨w.heap.size, 1, none⟩ b).setCell ⟨w.heap.size, 2, none⟩ c) R st' := fun u st' hr _ a b c => hr.keep (by
      rw [Below.heap_setCell _ _ _ _ (by simp; omega), Below.heap_setCell _ _ _ _ (by simp; omega), Below.heap_setCell _ _ _ _ (by simp; omega)]) (fun j hj => by
      rw [Below.heap_setCell _ _ _ _ (by simp; omega), Below.heap_setCell _ _ _ _ (by simp; omega), Below.heap_setCell _ _ _ _ (by simp; omega)])
  by_cases hn : n = 0 ∨ n = 1
  · have hsR : sR = s3 := by rw [HsR.out, if_pos hn]
    subst hsR
    have hk3 := hput w3 _ r3 C3
    have g0 : w3.cell? ⟨w.heap.size, 0, none⟩ = some (.string ⟨#[]⟩) := by simp [World.cell?, C3]
    have g1 : w3.cell? ⟨w.heap.size, 1, none⟩ = some (.string ⟨#[]⟩) := by simp [World.cell?, C3]
    have g2 : w3.cell? ⟨w.heap.size, 2, none⟩ = some (.bool false) := by simp [World.cell?, C3]
    have gf : ∀ o, w3.frozen? ⟨w.heap.size, o, none⟩ = false := fun o => by simp [World.frozen?, C3]
    clear hput C3 r3
    rcases hn with rfl | rfl
    all_goals
      have hdR := HdR.out
      simp only [Int.reduceEq, decide_true, decide_false] at hdR
      subst hdR
      clear HdR HsR
      go_wp2_with fail
      refine bodyPost_ret (by simp [results, Tryz.results57, go_sem, g0, g1, g2]; rfl) rfl ?_
      exact ⟨rfl, hk3 _ _ _, ((hFF.setCell (.inr (by simp)) _).setCell (.inr (by simp)) _).setCell (.inr (by simp)) _, by simpa using hlt⟩
  · have hsR : sR = none := by rw [HsR.out, if_neg hn]
    subst hsR
    have hn0 : ¬ n = 0 := fun e => hn (.inl e)
    have hn1 : ¬ n = 1 := fun e => hn (.inr e)
    have hb0 : (n == 0) = false := by simpa using hn0
    have hb1 : (n == 1) = false := by simpa using hn1
    have hb2 : (n != 0) = true := by simpa using hn0
    have hb3 : (n != 1) = true := by simpa using hn1
    obtain ⟨rv, rb, hrb⟩ := r3.rb
    have HS := spoil_any N R w3 rv rb hrb
    clear hn r3 hrb
    go_wp2_with (go_at_call 76; refine HS.mono ?_; rintro e w4 ⟨rfl, r4, f4⟩; refine Hid.out ?_)
    refine Lib.hid ?_
    have C4 : w4.heap[w.heap.size]? = some (.cells #[.string ⟨#[]⟩, .string ⟨#[]⟩, .bool false] 40) := by rw [f4.block _ hlt (by simpa using hne)]; exact C3
    have hk4 := hput w4 none r4 C4
    have g0 : w4.cell? ⟨w.heap.size, 0, none⟩ = some (.string ⟨#[]⟩) := by simp [World.cell?, C4]
    have g1 : w4.cell? ⟨w.heap.size, 1, none⟩ = some (.string ⟨#[]⟩) := by simp [World.cell?, C4]
    have g2 : w4.cell? ⟨w.heap.size, 2, none⟩ = some (.bool false) := by simp [World.cell?, C4]
    have gf : ∀ o, w4.frozen? ⟨w.heap.size, o, none⟩ = false := fun o => by simp [World.frozen?, C4]
    have hF4 := hFF.trans f4
    have hlt4 : w.heap.size < w4.heap.size := by have := f4.size; omega
    have hdn : dR = false := by rw [HdR.out]; simp [hn1]
    subst hdn
    clear hput C3 C4 r4 f4 HS hFF
    go_wp2_with fail
    refine bodyPost_ret (by simp [results, Tryz.results57, go_sem, g0, g1, g2]; rfl) rfl ?_
    exact ⟨by first | rfl | (rw [hb1]; rfl), hk4 _ _ _, ((hF4.setCell (.inr (by simp)) _).setCell (.inr (by simp)) _).setCell (.inr (by simp)) _, by simpa using hlt4⟩
set_option maxRecDepth 100000 in
set_option maxHeartbeats 1000000 in
/-- What is handed to Take: as many entries as are told. -/
theorem en1_any (N R Lb : Nat) (w : World) (st : St) (h : RdB N w R st) (hNR : N ≤ R) (hNL : N ≤ Lb) (hRL : R ≠ Lb) (hV : Vc 30 w Lb (.slice none 0 0)) :
    Calls Tryz.prog 55 #[.pointer (some ⟨R, 0, none⟩), .pointer (some ⟨Lb, 0, none⟩)] w fun e w' => e = .returned (.tuple #[]) ∧
      ∃ st', RdB N w' R st' ∧ (Fr [R, Lb] w w' ∧ ∃ xs v, xs.length ≤ 400 ∧ Came rdEn (nM st).2 (nM st).1.toNat st' xs ∧ Vc 30 w' Lb v ∧ w'.ownsRow w.heap.size 40 3 v xs.length (ecells xs)) := by
  obtain ⟨i0, hi, hz0, hz1, hz2⟩ := info_parts infoEn
  have hbd := nM_bd st
  have hRw := h.lt
  have hLw := hV.lt
  have HM := rmany_any N R w st h hNR
  have HZ := Lib.hid (Came.zero rdEn (nM st).2)
  generalize (nM st).2 = st0 at *
  obtain ⟨n, hn⟩ : ∃ n : Nat, (nM st).1 = (n : Int) := ⟨(nM st).1.toNat, by omega⟩
  rw [hn] at HM hbd ⊢
  have hn4 : n ≤ 400 := by omega
  rw [Int.toNat_natCast]
  clear hn hbd h
  obtain ⟨B, hB⟩ : ∃ B, B = w.heap.size := ⟨_, rfl⟩
  have HB := Lib.hid hB
  rw [← hB]
  have hwB : w.heap.size ≤ B := by omega
  have hRB : R < B := by omega
  have hLB : Lb < B := by omega
  go_enter Tryz.func55, Tryz.ntmps55
  go_wp2_with (go_at_call 56; refine HM.mono ?_; rintro e w1 ⟨rfl, r1, f1⟩; refine Hid.out ?_)
  refine Lib.hid ?_
  have v1 : Vc 30 w1 Lb (.slice none 0 0) := hV.keep (f1.block _ hLw (by simp; omega))
  have F1 : Fr [R, Lb] w w1 := f1.more (by simp; omega)
  have z1 : B ≤ w1.heap.size := by have := f1.size; omega
  clear HM f1 hV hB hRw hLw
  go_wp2_with fail
  go_loopw [5] (fun i wr => ∃ (k : Nat) (st : St) (xs : List En) (v : Value), k ≤ n ∧ i = .int .i64 k ∧ xs.length = k ∧ Came rdEn st0 k st xs ∧ RdB N wr R st ∧ Vc 30 wr Lb v ∧ wr.ownsRow B 40 3 v k (ecells xs) ∧ Fr [R, Lb] w wr ∧ B ≤ wr.heap.size) (fun i _ => n - (intOf i).toNat)
  case atStart => exact ⟨0, st0, [], _, by omega, rfl, rfl, HZ.out, r1, v1, World.ownsRow_nil _ _ _ _, F1, z1⟩
  case round =>
    obtain ⟨k, st, xs, v, hk, rfl, hxl, hcame, hrd, hv, hown, hf, hz⟩ := hrel
    clear F1 z1 r1 v1
    by_cases hlt : k < n
    · have HR := fun (u : World) (hu : u.heap = wr.heap) => entry_any N R u st (hrd.keep (by rw [hu]) (fun _ _ => by rw [hu])) hNR
      have hnx := Lib.hid (hcame.next nEn_none nEn_no nEn_yes)
      generalize (nEn st).1 = r at *
      generalize (nEn st).2 = st' at *
      obtain ⟨key, val, dead⟩ := r
      simp only [enV] at HR
      have hsnoc := Lib.hid (show ecells (xs ++ [⟨key, val, dead⟩]) = ecells xs ++ [.string key, .string val, .bool dead] from by rw [ecells_append]; rfl)
      obtain ⟨A0, cap0, rfl⟩ := row_slice hown
      have hc := hv.c
      go_wp2_with fail
      go_region_law (first
        | (refine step_call (by rfl) 57 #[.pointer (some ⟨R, 0, none⟩)] (by first | rfl | go_simp) ((HR wr.drew rfl).mono ?_); rintro e u1 ⟨rfl, r1, f1, s1⟩; refine ⟨_, rfl, ?_⟩; have own1 : u1.ownsRow B 40 3 (.slice A0 k cap0) k (ecells xs) := rows_keep (w := wr) hown ⟨f1.os, f1.tape, f1.output, f1.size, f1.block⟩ hRB; have v1 : Vc 30 u1 Lb (.slice A0 k cap0) := Vc.keep (w := wr) hv (f1.block Lb (show Lb < wr.heap.size from hv.lt) (fun hm => hRL (List.mem_singleton.1 hm).symm)); have F1 : Fr [R, Lb] w u1 := (by first | exact hf.drw f1 (fun _ hm => List.mem_cons.2 (.inl (List.mem_singleton.1 hm))) | exact hf.trans (f1.more (fun _ _ hm => List.mem_cons.2 (.inl (List.mem_singleton.1 hm))))); have z1 : B ≤ u1.heap.size := (Nat.le_trans hz (show wr.heap.size ≤ u1.heap.size from f1.size)); have hc1 := v1.c; have hc2 : (u1.alloc (.cells #[.string key, .string val, .bool dead] 40)).cell? ⟨Lb, 0, none⟩ = some (.slice A0 k cap0) := (v1.keep (Below.heap_alloc _ _ _ v1.lt)).c)
        | (refine step_append_own (by rfl) _ _ 30 (by rfl) B 40 i0 (.agg #[.string ⟨#[]⟩, .string ⟨#[]⟩, .bool false]) 3 40 Tryz.underlying30 hi hz0 hz1 hz2 rfl (by decide) (.slice A0 k cap0) k (ecells xs) (by rfl) (own1.alloc _) ⟨u1.heap.size, 0, none⟩ 1 1 [.string key, .string val, .bool dead] (by rfl) rfl (cell_three_new _ _ _ _ _) (by intro u hu; simp at hu; rcases hu with rfl | rfl | rfl <;> rfl) (by unfold maxLen; omega) (by omega) (by simp; omega) ?_; intro v' w3 hown' hgrow
           have own3 : w3.ownsRow B 40 3 v' (k + 1) (ecells (xs ++ [⟨key, val, dead⟩])) := by rw [hsnoc.out]; exact hown'
           have hne : ∀ j, j < B → w3.heap[j]? = u1.heap[j]? := fun j hj => by
             rw [hgrow.block j (by simp; omega) (fun e => by have := (own1.lt j e.symm).1; omega), Below.heap_alloc _ _ _ (by omega)]
           have F3 : Fr [R, Lb] w w3 := F1.andB hwB (((Below.refl B u1).alloc (by omega) _).grown hgrow (by simp; omega) (fun j hj => by have := (own1.lt j hj).1; omega))
           have z3 : B ≤ w3.heap.size := by have := hgrow.size; simp at this; omega
           have v3 : Vc 30 w3 Lb (.slice A0 k cap0) := v1.keep (hne _ hLB)
           have r3 : RdB N w3 R st' := r1.keep (hne _ hRB) (fun j hj => hne j (by omega))
           have hc3 := v3.c
           have hz3 := v3.fz
           obtain ⟨A', cap', rfl⟩ := row_slice own3
           clear hown' hgrow own1 r1 v1 F1 hc1))
      all_goals
        go_wp2_with fail
        go_roundw
        case rel => exact ⟨k + 1, st', xs ++ [⟨key, val, dead⟩], _, by omega, by go_num, by simp [hxl], hnx.out, r3.keep (Below.heap_setCell _ _ _ _ (by simp; omega)) (fun j hj => Below.heap_setCell _ _ _ _ (by simp; omega)), v3.set _, row_put own3 hLB _, F3.setCell (.inl (by simp)) _, by simpa using z3⟩
        case measure => simp [intOf]; omega
    · have hkn : k = n := by omega
      subst hkn
      go_wp2_with fail
      go_end0
      exact ⟨rfl, st, hrd, hf, xs, v, by omega, hcame, hv, by rw [hxl]; exact hown⟩

set_option maxRecDepth 100000 in
set_option maxHeartbeats 1000000 in
theorem takeEn_any (N : Nat) (w : World) (p : Option Addr) (c len : Nat) (Lb : Nat) (Q : St → World → Prop)
    (H : Calls Tryz.prog 55 #[.pointer (some ⟨w.heap.size, 0, none⟩), .pointer (some ⟨Lb, 0, none⟩)] (w.alloc (.cells #[.slice p len c, .bool false] 131)) fun e w' => e = .returned (.tuple #[]) ∧ ∃ st, RdB N w' w.heap.size st ∧ Q st w') :
    Calls Tryz.prog 54 #[.slice p len c, .func (.func 55) #[] #[.pointer (some ⟨Lb, 0, none⟩)]] w fun e w' => ∃ st, e = .returned (if endB st = true then .nilIface else .iface 54 (.int .i64 9)) ∧ Q st w' := by
  go_enter Tryz.func54, Tryz.ntmps54
  go_wp2_with (go_at_call 55; refine H.mono ?_; rintro e w1 ⟨rfl, st, r1, q1⟩; refine Hid.out ?_)
  refine Lib.hid ?_
  have HE := ended_any N w.heap.size w1 st r1
  clear H
  cases hE : endB st with
  | true =>
    rw [hE] at HE
    go_wp2_with (go_at_call 74; refine HE.mono ?_; rintro e w' ⟨rfl, rfl⟩)
    go_ret
    exact ⟨st, by rw [hE]; rfl, q1⟩
  | false =>
    rw [hE] at HE
    go_wp2_with (go_at_call 74; refine HE.mono ?_; rintro e w' ⟨rfl, rfl⟩)
    go_ret
    exact ⟨st, by rw [hE]; rfl, q1⟩

/-- How Read ends. -/
def RtEnd (w : World) (r : Option (List En)) (e : Ending) (w' : World) : Prop :=
  (match r with
   | none => e = .returned (.tuple #[.slice none 0 0, .iface 54 (.int .i64 9)])
   | some xs => ∃ v, e = .returned (.tuple #[v, .nilIface]) ∧ w'.ownsRow w.heap.size 40 3 v xs.length (ecells xs)) ∧ Below w.heap.size w w'
theorem readT_none {l : List UInt8} (h : openB l = none) : readTb l = none := by unfold readTb; rw [h]
theorem readT_off {l pc : List UInt8} {k : Nat} (h : openB l = some (pc, k)) (hk : ¬ k = l.length) : readTb l = none := by unfold readTb; rw [h]; simp [hk]
theorem readT_bad {l pc : List UInt8} {k : Nat} (h : openB l = some (pc, k)) (hr : rdAll rdEn pc = none) : readTb l = none := by
  unfold readTb; rw [h]; simp only; split
  · rfl
  · rw [hr]
theorem readT_ok {l pc : List UInt8} {k : Nat} (h : openB l = some (pc, k)) (hk : k = l.length) {xs : List En} (hr : rdAll rdEn pc = some xs) : readTb l = if entsE xs = 0 then some xs else none := by
  unfold readTb; rw [h]; simp only; rw [if_neg (by omega), hr]
theorem open_bd {l pc : List UInt8} {k : Nat} (h : openB l = some (pc, k)) : pc.length ≤ l.length := by
  unfold openB at h
  split at h
  · cases h
  · split at h
    · cases h
    · split at h
      · injection h with h; injection h with h1 h2
        rw [← h1]; simp; omega
      · cases h
theorem takeAll_any (w : World) (p : Option Addr) (c : Nat) (l : List UInt8) (hl : BsAt w p l) (hlen : l.length ≤ 140737488355328) (hcap : l.length ≤ c) (hcm : c ≤ 9223372036854775807) :
    Calls Tryz.prog 54 #[.slice p l.length c, .func (.func 55) #[] #[.pointer (some ⟨w.heap.size, 0, none⟩)]] (w.alloc (.cells #[.slice none 0 0] 30)) fun e w' => ∃ st, e = .returned (if endB st = true then .nilIface else .iface 54 (.int .i64 9)) ∧
    (Below w.heap.size w w' ∧ ∃ xs v, xs.length ≤ 400 ∧ Came rdEn (nM (some l)).2 (nM (some l)).1.toNat st xs ∧ Vc 30 w' w.heap.size v ∧ w'.ownsRow (w.heap.size + 1) 40 3 v xs.length (ecells xs)) := by
  have hs1 : (w.alloc (.cells #[.slice none 0 0] 30)).heap.size = w.heap.size + 1 := by simp
  refine takeEn_any w.heap.size _ p c l.length w.heap.size _ ?_
  have hR0 : RdB w.heap.size ((w.alloc (.cells #[.slice none 0 0] 30)).alloc (.cells #[.slice p l.length c, .bool false] 131)) (w.alloc (.cells #[.slice none 0 0] 30)).heap.size (some l) := by
    refine ⟨p, c, ?_, hl.keep (((Below.refl _ _).alloc (Nat.le_refl _) _).alloc (by simp) _), ?_, hcap, hcm, hlen⟩
    · exact new_block _ _
    · intro a ha hne
      obtain ⟨b, o, h1, h2⟩ := hl.lt hne
      rw [h1] at ha; simp at ha; subst ha; exact h2
  have hV : Vc 30 ((w.alloc (.cells #[.slice none 0 0] 30)).alloc (.cells #[.slice p l.length c, .bool false] 131)) w.heap.size (.slice none 0 0) :=
    (Vc.new 30 w (.slice none 0 0)).keep (Below.heap_alloc _ _ _ (by simp))
  refine (en1_any w.heap.size _ w.heap.size _ (some l) hR0 (by simp) (Nat.le_refl _) (by simp) hV).mono ?_
  rintro e w' ⟨rfl, st, r, f, xs, v, h4, hc, hv, ho⟩
  refine ⟨rfl, st, r, ?_, xs, v, h4, hc, hv, ho.mono (by simp)⟩
  exact (((Below.refl w.heap.size w).alloc (Nat.le_refl _) _).alloc (by simp) _).trans (f.toBelow (by simp; omega) (by simp))
set_option maxRecDepth 100000 in
set_option maxHeartbeats 2000000 in
theorem read_any (w : World) (p : Option Addr) (c : Nat) (l : List UInt8) (hl : BsAt w p l) (hlen : l.length ≤ 140737488355328) (hcap : l.length ≤ c) (hcm : c ≤ 9223372036854775807) :
    Calls Tryz.prog 39 #[.slice p l.length c] w fun e w' => RtEnd w (readTb l) e w' := by
  have hmf : ∀ (fn : Fn) (first cap : Array Value) (w : World), (Instr.makeFunc fn first cap).run Tryz.prog w = .ok (.func fn first cap) w := fun _ _ _ _ => rfl
  have HO := open_any w p c l hl hlen hcap hcm
  clear hl
  cases ho : openB l with
  | none =>
    rw [ho] at HO
    have HP' : Hid (∀ w', Below w.heap.size w w' → RtEnd w (readTb l) (.returned (.tuple #[.slice none 0 0, .iface 54 (.int .i64 9)])) w') := Lib.hid (fun w' hb => by rw [readT_none ho]; exact ⟨rfl, hb⟩)
    simp only [OpenEnd] at HO
    clear ho
    go_enter Tryz.func39, Tryz.ntmps39
    go_wp2_with (go_at_call 53; refine HO.mono ?_; rintro e w1 ⟨rfl, b1⟩)
    go_ret2
    exact HP'.out _ b1
  | some pr =>
    obtain ⟨pc, k⟩ := pr
    rw [ho] at HO
    simp only [OpenEnd] at HO
    have hpl := open_bd ho
    by_cases hk : k = l.length
    · have HRo := Lib.hid (fun xs (hr : rdAll rdEn pc = some xs) => readT_ok ho hk hr)
      have HRn := Lib.hid (fun (hr : rdAll rdEn pc = none) => readT_bad ho hr)
      have hki : (k : Int) = l.length := by omega
      clear ho
      subst hk
      go_enter Tryz.func39, Tryz.ntmps39
      go_wp2_with (go_at_call 53; refine HO.mono ?_; rintro e w0 ⟨v0, rfl, o0, b0⟩; obtain ⟨A0, c0, rfl⟩ := own_slice o0; refine Hid.out ?_)
      refine Lib.hid ?_
      have s0 := own_bs o0 rfl
      have s0c := own_cap o0
      have HT := takeAll_any w0 A0 c0 pc s0.1 (by omega) s0.2.1 s0c
      clear s0 s0c o0 HO
      go_wp2_with (go_at_call 54; refine HT.mono ?_; rintro e w1 ⟨st, he, b1, xs, v, h4, hcame, hv, hown⟩; generalize hER : (if endB st = true then Value.nilIface else .iface 54 (.int .i64 9)) = er at he; subst he; have HER := Lib.hid hER; clear hER; refine Hid.out ?_)
      refine Lib.hid ?_
      have hall := hcame.all
      have hz0 := b0.size
      have B1 : Below w.heap.size w w1 := b0.trans (b1.mono hz0)
      clear HT hcame b0
      have hc := hv.c
      obtain ⟨A, cap, rfl⟩ := row_slice hown
      have z1 : w0.heap.size + 1 ≤ w1.heap.size := hv.lt
      by_cases hst : st = some []
      · have hr := hall.1 hst
        subst hst
        have her := HER.out
        rw [show endB (some []) = true from rfl, if_pos rfl] at her
        subst her
        clear HER
        have hoks := (rdAll_some (Ok := OkEn) (g := enB) (fun x l q h => rdEn_some h) hr).1
        have hrr := HRo.out xs hr
        have HC := check_any w1 A cap xs (own_cs hown (ecells_len xs)).1 (by omega) (fun r hr => by have := (hoks r hr).1; have := (hoks r hr).2; omega)
        cases hE : entsE xs with
        | zero =>
          rw [hE] at HC hrr
          rw [show errV 0 = .nilIface from rfl] at HC
          rw [if_pos rfl] at hrr
          have HP' : Hid (∀ w', w'.ownsRow w.heap.size 40 3 (.slice A xs.length cap) xs.length (ecells xs) → Below w.heap.size w w' → RtEnd w (readTb l) (.returned (.tuple #[.slice A xs.length cap, .nilIface])) w') := Lib.hid (fun w' ho hb => by rw [hrr]; exact ⟨⟨_, rfl, ho⟩, hb⟩)
          clear hrr hr hall hoks HRo HRn
          go_wp2_with (go_at_call 45; refine HC.mono ?_; rintro e u1 ⟨rfl, b2⟩; refine Hid.out ?_)
          refine Lib.hid ?_
          have hc2 := (hv.keep (b2.block _ hv.lt)).c
          have own2 := (own_keep hown b2).mono (show w.heap.size ≤ w0.heap.size + 1 by omega)
          have B2 := B1.trans (b2.mono B1.size)
          clear hc hown B1 b1 b2 HC
          go_wp2_with fail
          go_ret2
          exact HP'.out _ own2 B2
        | succ m =>
          rw [hE] at HC hrr
          rw [show errV (m + 1) = .iface 54 (.int .i64 ((m + 1 : Nat) : Int)) from rfl] at HC
          rw [if_neg (by omega)] at hrr
          generalize ((m + 1 : Nat) : Int) = z at HC
          have HP' : Hid (∀ w', Below w.heap.size w w' → RtEnd w (readTb l) (.returned (.tuple #[.slice none 0 0, .iface 54 (.int .i64 9)])) w') := Lib.hid (fun w' hb => by rw [hrr]; exact ⟨rfl, hb⟩)
          clear hrr hr hall hoks HRo HRn
          go_wp2_with (go_at_call 45; refine HC.mono ?_; rintro e u1 ⟨rfl, b2⟩)
          go_ret2
          exact HP'.out _ (B1.trans (b2.mono B1.size))
      · have hr := HRn.out (hall.2 hst)
        have he : endB st = false := by
          unfold endB
          split
          · exact absurd rfl hst
          · rfl
        have her := HER.out
        rw [he, if_neg (by decide)] at her
        subst her
        clear HER he
        have HP' : Hid (∀ w', Below w.heap.size w w' → RtEnd w (readTb l) (.returned (.tuple #[.slice none 0 0, .iface 54 (.int .i64 9)])) w') := Lib.hid (fun w' hb => by rw [hr]; exact ⟨rfl, hb⟩)
        clear hr hall HRo HRn
        go_wp2_with fail
        go_ret2
        exact HP'.out _ B1
    · have hr := readT_off ho hk
      have HP' : Hid (∀ w', Below w.heap.size w w' → RtEnd w (readTb l) (.returned (.tuple #[.slice none 0 0, .iface 54 (.int .i64 9)])) w') := Lib.hid (fun w' hb => by rw [hr]; exact ⟨rfl, hb⟩)
      have hki : ¬ (k : Int) = l.length := by omega
      clear ho hr
      go_enter Tryz.func39, Tryz.ntmps39
      go_wp2_with (go_at_call 53; refine HO.mono ?_; rintro e w0 ⟨v0, rfl, o0, b0⟩; obtain ⟨A0, c0, rfl⟩ := own_slice o0)
      go_ret2
      exact HP'.out _ b0
end Go.Proofs.YtckjcjoheeobgaaGreatDoor
