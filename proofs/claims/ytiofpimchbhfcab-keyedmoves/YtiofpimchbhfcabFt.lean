/- States read; two lists of states that are the same. -/
import Derived.Test.YtiofpimchbhfcabFs
namespace Go.Proofs.Ytiofpimchbhfcab
open Go.RowKit

theorem infoHd : (Try.prog.info? 29).map (fun i => (i.zero, i.size, i.bytes)) = some (some (.agg #[.int .i64 0, .string ⟨#[]⟩, .int .i64 0, .int .i64 0]), 4, 40) := by kernel_rfl
theorem cell_four_new (w : World) (a b c d : Value) (t : TypeId) : ∀ j u, [a, b, c, d][j]? = some u → (w.alloc (.cells #[a, b, c, d] t)).cell? ((⟨w.heap.size, 0, none⟩ : Addr).add j) = some u := by
  intro j u hj
  match j, hj with
  | 0, hj => simp at hj; subst hj; simp [Addr.add]
  | 1, hj => simp at hj; subst hj; simp [Addr.add]
  | 2, hj => simp at hj; subst hj; simp [Addr.add]
  | 3, hj => simp at hj; subst hj; simp [Addr.add]

/-- How ReadHelds ends. -/
def RhEnd (w : World) (r : Option (List Hd)) (e : Ending) (w' : World) : Prop :=
  (match r with
   | none => e = .returned (.tuple #[.slice none 0 0, .iface 54 (.int .i64 9)])
   | some xs => ∃ v, e = .returned (.tuple #[v, .nilIface]) ∧ w'.ownsRow w.heap.size 29 4 v xs.length (hcells xs)) ∧ Below w.heap.size w w'
theorem read_hd {l : List UInt8} {xs : List Hd} (h : rdAll rdHd l = some xs) : readHds ltH l = if heldsE ltH xs = 0 then some xs else none := by
  unfold readHds; rw [h]
theorem read_hnone {l : List UInt8} (h : rdAll rdHd l = none) : readHds ltH l = none := by
  unfold readHds; rw [h]

set_option maxRecDepth 100000 in
set_option maxHeartbeats 1000000 in
/-- What is handed to Take: as many states as are told. -/
theorem hd1_any (N R Lb : Nat) (w : World) (st : St) (h : RdB N w R st) (hNR : N ≤ R) (hNL : N ≤ Lb) (hRL : R ≠ Lb) (hV : Vc 22 w Lb (.slice none 0 0)) :
    Calls Try.prog 39 #[.pointer (some ⟨R, 0, none⟩), .pointer (some ⟨Lb, 0, none⟩)] w fun e w' => e = .returned (.tuple #[]) ∧
      ∃ st', RdB N w' R st' ∧ (Fr [R, Lb] w w' ∧ ∃ xs v, xs.length ≤ 400 ∧ Came rdHd (nM st).2 (nM st).1.toNat st' xs ∧ Vc 22 w' Lb v ∧ w'.ownsRow w.heap.size 29 4 v xs.length (hcells xs)) := by
  obtain ⟨i0, hi, hz0, hz1, hz2⟩ := info_parts infoHd
  have hbd := nM_bd st
  have hRw := h.lt
  have hLw := hV.lt
  have HM := rmany_any N R w st h hNR
  have HZ := Lib.hid (Came.zero rdHd (nM st).2)
  generalize (nM st).2 = st0 at *
  obtain ⟨n, hn⟩ : ∃ n : Nat, (nM st).1 = (n : Int) := ⟨(nM st).1.toNat, by omega⟩
  rw [hn] at HM hbd ⊢
  have hn4 : n ≤ 400 := by omega
  rw [Int.toNat_natCast]
  clear hn hbd h
  obtain ⟨B, hB⟩ : ∃ B, B = w.heap.size := ⟨_, rfl⟩
  have HB := Lib.hid hB
  rw [← hB]
  have hwB : w.heap.size ≤ B := by omega
  have hRB : R < B := by omega
  have hLB : Lb < B := by omega
  go_enter Try.func39, Try.ntmps39
  go_wp2_with (go_at_call 40; refine HM.mono ?_; rintro e w1 ⟨rfl, r1, f1⟩; refine Hid.out ?_)
  refine Lib.hid ?_
  have v1 : Vc 22 w1 Lb (.slice none 0 0) := hV.keep (f1.block _ hLw (by simp; omega))
  have F1 : Fr [R, Lb] w w1 := f1.more (by simp; omega)
  have z1 : B ≤ w1.heap.size := by have := f1.size; omega
  clear HM f1 hV hB hRw hLw
  go_wp2_with fail
  go_loopw [5] (fun i wr => ∃ (k : Nat) (st : St) (xs : List Hd) (v : Value), k ≤ n ∧ i = .int .i64 k ∧ xs.length = k ∧ Came rdHd st0 k st xs ∧ RdB N wr R st ∧ Vc 22 wr Lb v ∧ wr.ownsRow B 29 4 v k (hcells xs) ∧ Fr [R, Lb] w wr ∧ B ≤ wr.heap.size) (fun i _ => n - (intOf i).toNat)
  case atStart => exact ⟨0, st0, [], _, by omega, rfl, rfl, HZ.out, r1, v1, World.ownsRow_nil _ _ _ _, F1, z1⟩
  case round =>
    obtain ⟨k, st, xs, v, hk, rfl, hxl, hcame, hrd, hv, hown, hf, hz⟩ := hrel
    clear F1 z1 r1 v1
    by_cases hlt : k < n
    · have HR := fun (u : World) (hu : u.heap = wr.heap) => held_any N R u st (hrd.keep (by rw [hu]) (fun _ _ => by rw [hu])) hNR
      have hnx := Lib.hid (hcame.next nHd_none nHd_no nHd_yes)
      generalize (nHd st).1 = r at *
      generalize (nHd st).2 = st' at *
      obtain ⟨nd, key, a, bv⟩ := r
      simp only [hdV] at HR
      have hsnoc := Lib.hid (show hcells (xs ++ [⟨nd, key, a, bv⟩]) = hcells xs ++ [.int .i64 nd, .string key, .int .i64 a, .int .i64 bv] from by rw [hcells_append]; rfl)
      obtain ⟨A0, cap0, rfl⟩ := row_slice hown
      have hc := hv.c
      go_wp2_with fail
      go_region_law (first
        | (refine step_call (by rfl) 41 #[.pointer (some ⟨R, 0, none⟩)] (by first | rfl | go_simp) ((HR wr.drew rfl).mono ?_); rintro e u1 ⟨rfl, r1, f1, s1⟩; refine ⟨_, rfl, ?_⟩; have own1 : u1.ownsRow B 29 4 (.slice A0 k cap0) k (hcells xs) := rows_keep (w := wr) hown ⟨f1.os, f1.tape, f1.output, f1.size, f1.block⟩ hRB; have v1 : Vc 22 u1 Lb (.slice A0 k cap0) := Vc.keep (w := wr) hv (f1.block Lb (show Lb < wr.heap.size from hv.lt) (fun hm => hRL (List.mem_singleton.1 hm).symm)); have F1 : Fr [R, Lb] w u1 := (by first | exact hf.drw f1 (fun _ hm => List.mem_cons.2 (.inl (List.mem_singleton.1 hm))) | exact hf.trans (f1.more (fun _ _ hm => List.mem_cons.2 (.inl (List.mem_singleton.1 hm))))); have z1 : B ≤ u1.heap.size := (Nat.le_trans hz (show wr.heap.size ≤ u1.heap.size from f1.size)); have hc1 := v1.c; have hc2 : (u1.alloc (.cells #[.int .i64 nd, .string key, .int .i64 a, .int .i64 bv] 29)).cell? ⟨Lb, 0, none⟩ = some (.slice A0 k cap0) := (v1.keep (Below.heap_alloc _ _ _ v1.lt)).c)
        | (refine step_append_own (by rfl) _ _ 22 (by rfl) B 29 i0 (.agg #[.int .i64 0, .string ⟨#[]⟩, .int .i64 0, .int .i64 0]) 4 40 Try.underlying22 hi hz0 hz1 hz2 rfl (by decide) (.slice A0 k cap0) k (hcells xs) (by rfl) (own1.alloc _) ⟨u1.heap.size, 0, none⟩ 1 1 [.int .i64 nd, .string key, .int .i64 a, .int .i64 bv] (by rfl) rfl (cell_four_new _ _ _ _ _ _) (by intro u hu; simp at hu; rcases hu with rfl | rfl | rfl | rfl <;> rfl) (by unfold maxLen; omega) (by omega) (by simp; omega) ?_; intro v' w3 hown' hgrow
           have own3 : w3.ownsRow B 29 4 v' (k + 1) (hcells (xs ++ [⟨nd, key, a, bv⟩])) := by rw [hsnoc.out]; exact hown'
           have hne : ∀ j, j < B → w3.heap[j]? = u1.heap[j]? := fun j hj => by
             rw [hgrow.block j (by simp; omega) (fun e => by have := (own1.lt j e.symm).1; omega), Below.heap_alloc _ _ _ (by omega)]
           have F3 : Fr [R, Lb] w w3 := F1.andB hwB (((Below.refl B u1).alloc (by omega) _).grown hgrow (by simp; omega) (fun j hj => by have := (own1.lt j hj).1; omega))
           have z3 : B ≤ w3.heap.size := by have := hgrow.size; simp at this; omega
           have v3 : Vc 22 w3 Lb (.slice A0 k cap0) := v1.keep (hne _ hLB)
           have r3 : RdB N w3 R st' := r1.keep (hne _ hRB) (fun j hj => hne j (by omega))
           have hc3 := v3.c
           have hz3 := v3.fz
           obtain ⟨A', cap', rfl⟩ := row_slice own3
           clear hown' hgrow own1 r1 v1 F1 hc1))
      all_goals
        go_wp2_with fail
        go_roundw
        case rel => exact ⟨k + 1, st', xs ++ [⟨nd, key, a, bv⟩], _, by omega, by go_num, by simp [hxl], hnx.out, r3.keep (Below.heap_setCell _ _ _ _ (by simp; omega)) (fun j hj => Below.heap_setCell _ _ _ _ (by simp; omega)), v3.set _, row_put own3 hLB _, F3.setCell (.inl (by simp)) _, by simpa using z3⟩
        case measure => simp [intOf]; omega
    · have hkn : k = n := by omega
      subst hkn
      go_wp2_with fail
      go_end0
      exact ⟨rfl, st, hrd, hf, xs, v, by omega, hcame, hv, by rw [hxl]; exact hown⟩

set_option maxRecDepth 100000 in
set_option maxHeartbeats 1000000 in
theorem takeHd_any (N : Nat) (w : World) (p : Option Addr) (c len : Nat) (Lb : Nat) (Q : St → World → Prop)
    (H : Calls Try.prog 39 #[.pointer (some ⟨w.heap.size, 0, none⟩), .pointer (some ⟨Lb, 0, none⟩)] (w.alloc (.cells #[.slice p len c, .bool false] 91)) fun e w' => e = .returned (.tuple #[]) ∧ ∃ st, RdB N w' w.heap.size st ∧ Q st w') :
    Calls Try.prog 38 #[.slice p len c, .func (.func 39) #[] #[.pointer (some ⟨Lb, 0, none⟩)]] w fun e w' => ∃ st, e = .returned (if endB st = true then .nilIface else .iface 54 (.int .i64 9)) ∧ Q st w' := by
  go_enter Try.func38, Try.ntmps38
  go_wp2_with (go_at_call 39; refine H.mono ?_; rintro e w1 ⟨rfl, st, r1, q1⟩; refine Hid.out ?_)
  refine Lib.hid ?_
  have HE := ended_any N w.heap.size w1 st r1
  clear H
  cases hE : endB st with
  | true =>
    rw [hE] at HE
    go_wp2_with (go_at_call 47; refine HE.mono ?_; rintro e w' ⟨rfl, rfl⟩)
    go_ret
    exact ⟨st, by rw [hE]; rfl, q1⟩
  | false =>
    rw [hE] at HE
    go_wp2_with (go_at_call 47; refine HE.mono ?_; rintro e w' ⟨rfl, rfl⟩)
    go_ret
    exact ⟨st, by rw [hE]; rfl, q1⟩

set_option maxRecDepth 100000 in
set_option maxHeartbeats 1000000 in
theorem readHds_any (w : World) (p : Option Addr) (c : Nat) (l : List UInt8) (hl : BsAt w p l) (hlen : l.length ≤ 140737488355328) (hcap : l.length ≤ c) (hcm : c ≤ 9223372036854775807) :
    Calls Try.prog 27 #[.slice p l.length c] w fun e w' => RhEnd w (readHds ltH l) e w' := by
  have hmf : ∀ (fn : Fn) (first cap : Array Value) (w : World), (Instr.makeFunc fn first cap).run Try.prog w = .ok (.func fn first cap) w := fun _ _ _ _ => rfl
  have HT : Calls Try.prog 38 #[.slice p l.length c, .func (.func 39) #[] #[.pointer (some ⟨w.heap.size, 0, none⟩)]] (w.alloc (.cells #[.slice none 0 0] 22)) fun e w' => ∃ st, e = .returned (if endB st = true then .nilIface else .iface 54 (.int .i64 9)) ∧
      (Below w.heap.size w w' ∧ ∃ xs v, xs.length ≤ 400 ∧ Came rdHd (nM (some l)).2 (nM (some l)).1.toNat st xs ∧ Vc 22 w' w.heap.size v ∧ w'.ownsRow (w.heap.size + 1) 29 4 v xs.length (hcells xs)) := by
    have hs1 : (w.alloc (.cells #[.slice none 0 0] 22)).heap.size = w.heap.size + 1 := by simp
    refine takeHd_any w.heap.size _ p c l.length w.heap.size _ ?_
    have hR0 : RdB w.heap.size ((w.alloc (.cells #[.slice none 0 0] 22)).alloc (.cells #[.slice p l.length c, .bool false] 91)) (w.alloc (.cells #[.slice none 0 0] 22)).heap.size (some l) := by
      refine ⟨p, c, ?_, hl.keep (((Below.refl _ _).alloc (Nat.le_refl _) _).alloc (by simp) _), ?_, hcap, hcm, hlen⟩
      · exact new_block _ _
      · intro a ha hne
        obtain ⟨b, o, h1, h2⟩ := hl.lt hne
        rw [h1] at ha; simp at ha; subst ha; exact h2
    have hV : Vc 22 ((w.alloc (.cells #[.slice none 0 0] 22)).alloc (.cells #[.slice p l.length c, .bool false] 91)) w.heap.size (.slice none 0 0) :=
      (Vc.new 22 w (.slice none 0 0)).keep (Below.heap_alloc _ _ _ (by simp))
    refine (hd1_any w.heap.size _ w.heap.size _ (some l) hR0 (by simp) (Nat.le_refl _) (by simp) hV).mono ?_
    rintro e w' ⟨rfl, st, r, f, xs, v, h4, hc, hv, ho⟩
    refine ⟨rfl, st, r, ?_, xs, v, h4, hc, hv, ho.mono (by simp)⟩
    exact (((Below.refl w.heap.size w).alloc (Nat.le_refl _) _).alloc (by simp) _).trans (f.toBelow (by simp; omega) (by simp))
  have HA := Lib.hid (fun st xs (h : Came rdHd (nM (some l)).2 (nM (some l)).1.toNat st xs) => h.all)
  clear hl
  go_enter Try.func27, Try.ntmps27
  go_wp2_with (go_at_call 38; refine HT.mono ?_; rintro e w1 ⟨st, he, b1, xs, v, h4, hcame, hv, hown⟩; generalize hER : (if endB st = true then Value.nilIface else .iface 54 (.int .i64 9)) = er at he; subst he; have HER := Lib.hid hER; clear hER; refine Hid.out ?_)
  refine Lib.hid ?_
  have hall := HA.out st xs hcame
  clear HT HA hcame
  have hc := hv.c
  obtain ⟨A, cap, rfl⟩ := row_slice hown
  have z1 : w.heap.size + 1 ≤ w1.heap.size := hv.lt
  by_cases hst : st = some []
  · have hr := hall.1 hst
    subst hst
    have her := HER.out
    rw [show endB (some []) = true from rfl, if_pos rfl] at her
    subst her
    clear HER
    have hoks := (rdAll_some (Ok := OkHd) (g := hdB) (fun x l q h => rdHd_some h) hr).1
    have hrr := read_hd hr
    have HC := checkHds_any w1 A cap xs (own_cs hown (hcells_len xs)).1 (by omega) (fun r hr => by have := (hoks r hr).2.1; omega)
    cases hE : heldsE ltH xs with
    | zero =>
      rw [hE] at HC hrr
      rw [show errV 0 = .nilIface from rfl] at HC
      rw [if_pos rfl] at hrr
      have HP' : Hid (∀ w', w'.ownsRow w.heap.size 29 4 (.slice A xs.length cap) xs.length (hcells xs) → Below w.heap.size w w' → RhEnd w (readHds ltH l) (.returned (.tuple #[.slice A xs.length cap, .nilIface])) w') := Lib.hid (fun w' ho hb => by rw [hrr]; exact ⟨⟨_, rfl, ho⟩, hb⟩)
      clear hrr hr hall hoks
      go_wp2_with (go_at_call 32; refine HC.mono ?_; rintro e u1 ⟨rfl, b2⟩; refine Hid.out ?_)
      refine Lib.hid ?_
      have hc2 := (hv.keep (b2.block _ hv.lt)).c
      have own2 := (own_keep hown b2).mono (show w.heap.size ≤ w.heap.size + 1 by omega)
      have B2 := b1.trans (b2.mono b1.size)
      clear hc hown b1 b2 HC
      go_wp2_with fail
      go_ret2
      exact HP'.out _ own2 B2
    | succ m =>
      rw [hE] at HC hrr
      rw [show errV (m + 1) = .iface 54 (.int .i64 ((m + 1 : Nat) : Int)) from rfl] at HC
      rw [if_neg (by omega)] at hrr
      generalize ((m + 1 : Nat) : Int) = z at HC
      have HP' : Hid (∀ w', Below w.heap.size w w' → RhEnd w (readHds ltH l) (.returned (.tuple #[.slice none 0 0, .iface 54 (.int .i64 9)])) w') := Lib.hid (fun w' hb => by rw [hrr]; exact ⟨rfl, hb⟩)
      clear hrr hr hall hoks
      go_wp2_with (go_at_call 32; refine HC.mono ?_; rintro e u1 ⟨rfl, b2⟩)
      go_ret2
      exact HP'.out _ (b1.trans (b2.mono b1.size))
  · have hr := read_hnone (hall.2 hst)
    have he : endB st = false := by
      unfold endB
      split
      · exact absurd rfl hst
      · rfl
    have her := HER.out
    rw [he, if_neg (by decide)] at her
    subst her
    clear HER he
    have HP' : Hid (∀ w', Below w.heap.size w w' → RhEnd w (readHds ltH l) (.returned (.tuple #[.slice none 0 0, .iface 54 (.int .i64 9)])) w') := Lib.hid (fun w' hb => by rw [hr]; exact ⟨rfl, hb⟩)
    clear hr hall
    go_wp2_with fail
    go_ret2
    exact HP'.out _ b1
set_option maxRecDepth 100000 in
set_option maxHeartbeats 1000000 in
theorem sameHds_any (w : World) (la lb : Option Addr) (c d : Nat) (L : List Hd) (ha : CsAt w la (hcells L)) (hb : CsAt w lb (hcells L)) (hlen : L.length ≤ 9223372036854775807) :
    Calls Try.prog 15 #[.slice la L.length c, .slice lb L.length d] w fun e w' => e = .returned (.bool true) ∧ Below w.heap.size w w' := by
  go_enter Try.func15, Try.ntmps15
  go_wp2_with fail
  go_loopw [5] (fun i wr => ∃ k : Nat, k ≤ L.length ∧ i = .int .i64 k ∧ Below w.heap.size w wr) (fun i _ => L.length - (intOf i).toNat)
  case atStart => exact ⟨0, by omega, rfl, Below.refl _ _⟩
  case round =>
    obtain ⟨k, hk, rfl, hbl⟩ := hrel
    by_cases hlt : k < L.length
    · obtain ⟨b, o, rfl, c0, c1, c2, c3⟩ := hds_at (ha.keep hbl) k hlt
      obtain ⟨b', o', rfl, d0, d1, d2, d3⟩ := hds_at (hb.keep hbl) k hlt
      generalize L[k] = r at *
      obtain ⟨nd, key, a, bv⟩ := r
      simp only at c0 c1 c2 c3 d0 d1 d2 d3
      go_wp2_with fail
      go_quiet (fail)
      go_wp2_with fail
      go_roundw
      case rel => exact ⟨k + 1, by omega, by go_num, by exact ⟨hbl.os, hbl.tape, hbl.output, hbl.size, hbl.block⟩⟩
      case measure => simp [intOf]; omega
    · go_wp2_with fail
      go_ret
      exact ⟨rfl, hbl⟩
end Go.Proofs.Ytiofpimchbhfcab
