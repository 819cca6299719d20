/- The document's reader: a number. -/
import Derived.Test.YthadeccnibnioaaGreatDoorSj
import Derived.Deep.RegionHeld3
import Derived.Deep.DeepCutAuto
namespace Go.Proofs.YthadeccnibnioaaGreatDoor
open Go.RowKit
set_option linter.unusedVariables false

theorem tw_split (p : UInt8 → Bool) : ∀ u : List UInt8, ∃ r, u = u.takeWhile p ++ r ∧ (∀ c ∈ u.takeWhile p, p c = true) ∧ ∀ c, r.head? = some c → p c = false
  | [] => ⟨[], rfl, by simp, by simp⟩
  | x :: u => by
    by_cases hx : p x = true
    · obtain ⟨r, h1, h2, h3⟩ := tw_split p u
      rw [List.takeWhile_cons_of_pos hx]
      exact ⟨r, by rw [List.cons_append, ← h1], by simpa using ⟨hx, h2⟩, h3⟩
    · rw [List.takeWhile_cons_of_neg (by simpa using hx)]
      exact ⟨x :: u, rfl, by simp, fun c hc => by simp at hc; subst hc; simpa using hx⟩
/-- The digits from a place on: as many as there are. -/
theorem dig_facts {s : ByteArray} {k : Nat} (hk : k ≤ s.size) : ∃ dg, dg = ((s.data.toList.drop k).takeWhile isDg).length ∧ k + dg ≤ s.size ∧ (∀ j (hj : k + j < s.size), j < dg → 48 ≤ s[k + j].toNat ∧ s[k + j].toNat ≤ 57) ∧ ∀ (hj : k + dg < s.size), s[k + dg].toNat < 48 ∨ 57 < s[k + dg].toNat := by
  obtain ⟨r, h1, h2, h3⟩ := tw_split isDg (s.data.toList.drop k)
  generalize (s.data.toList.drop k).takeWhile isDg = D at *
  have hlen : D.length + r.length = s.size - k := by
    have := congrArg List.length h1
    simp at this
    omega
  have hat : ∀ j (hj : k + j < s.size), (D ++ r)[j]? = some s[k + j] := fun j hj => by
    rw [← h1, List.getElem?_drop, List.getElem?_eq_getElem (by simpa using hj)]; rfl
  refine ⟨D.length, rfl, by omega, fun j hj hd => ?_, fun hj => ?_⟩
  · have := hat j hj
    rw [List.getElem?_append_left hd, List.getElem?_eq_getElem hd] at this
    injection this with this
    have h4 := h2 _ (List.getElem_mem hd)
    rw [this] at h4
    simp [isDg] at h4
    exact h4
  · have := hat D.length hj
    rw [List.getElem?_append_right (Nat.le_refl _), Nat.sub_self, ← List.head?_eq_getElem?] at this
    have h4 := h3 _ this
    simp [isDg] at h4
    omega
theorem ext_take (s : ByteArray) (k n : Nat) : (s.extract k (k + n)).data.toList = (s.data.toList.drop k).take n := by
  rw [ByteArray.data_extract, Array.toList_extract, List.extract_eq_take_drop, Nat.add_sub_cancel_left]
theorem take_tw (p : UInt8 → Bool) : ∀ u : List UInt8, u.take (u.takeWhile p).length = u.takeWhile p
  | [] => rfl
  | x :: u => by
    by_cases hx : p x = true
    · rw [List.takeWhile_cons_of_pos hx, List.length_cons, List.take_succ_cons, take_tw p u]
    · rw [List.takeWhile_cons_of_neg (by simpa using hx)]; rfl
/-- The text of the digits that count. -/
theorem digs_ext {s : ByteArray} {k dg : Nat} (hdg : dg = ((s.data.toList.drop k).takeWhile isDg).length) : digs (s.data.toList.drop k) = (s.extract k (k + (if (s.data.toList.drop k).head? = some 48 then 1 else dg))).data.toList := by
  rw [ext_take]
  unfold digs
  by_cases h0 : (s.data.toList.drop k).head? = some 48
  · rw [if_pos h0, if_pos h0]
    cases hu : s.data.toList.drop k with
    | nil => rw [hu] at h0; cases h0
    | cons x u => rw [hu] at h0; simp at h0; subst h0; rfl
  · rw [if_neg h0, if_neg h0, hdg, take_tw]
theorem digs_dg {u : List UInt8} : ∀ c ∈ digs u, isDg c = true := by
  unfold digs
  split
  · intro c hc; simp at hc; subst hc; rfl
  · obtain ⟨r, -, h2, -⟩ := tw_split isDg u; exact h2
theorem head_at {s : ByteArray} {k : Nat} (hk : k < s.size) : (s.data.toList.drop k).head? = some s[k] := by
  rw [List.drop_eq_getElem_cons (by simpa using hk)]; rfl
theorem nd_facts {s : ByteArray} {k dg : Nat} (hk : k ≤ s.size) (hdl : k + dg ≤ s.size) (hd1 : ∀ j (hj : k + j < s.size), j < dg → 48 ≤ s[k + j].toNat ∧ s[k + j].toNat ≤ 57) (hd2 : ∀ (hj : k + dg < s.size), s[k + dg].toNat < 48 ∨ 57 < s[k + dg].toNat) :
    ∃ nd, nd = (if (s.data.toList.drop k).head? = some 48 then 1 else dg) ∧ k + nd ≤ s.size ∧ (dg = 0 ∧ nd = 0 ∨ 0 < dg ∧ (∃ hk' : k < s.size, s[k].toNat = 48) ∧ nd = 1 ∨ 0 < dg ∧ (∃ hk' : k < s.size, s[k].toNat ≠ 48) ∧ nd = dg) := by
  refine ⟨_, rfl, ?_⟩
  by_cases hk' : k < s.size
  · rw [head_at hk']
    by_cases h48 : s[k].toNat = 48
    · have e : s[k] = 48 := UInt8.toNat_inj.1 h48
      have hp : 0 < dg := by
        rcases Nat.eq_zero_or_pos dg with h0 | h0
        · subst h0; have := hd2 (by simpa using hk'); simp only [Nat.add_zero] at this; omega
        · exact h0
      rw [if_pos (by rw [e])]
      exact ⟨by omega, .inr (.inl ⟨hp, ⟨hk', h48⟩, rfl⟩)⟩
    · have e : ¬ (some s[k] = some (48 : UInt8)) := fun e => by injection e with e; rw [e] at h48; exact h48 rfl
      rw [if_neg e]
      refine ⟨hdl, ?_⟩
      rcases Nat.eq_zero_or_pos dg with h0 | h0
      · exact .inl ⟨h0, h0⟩
      · exact .inr (.inr ⟨h0, ⟨hk', h48⟩, rfl⟩)
  · have e : s.data.toList.drop k = [] := by rw [List.drop_eq_nil_iff]; simp; omega
    have h0 : dg = 0 := by omega
    rw [e, if_neg (by simp)]
    exact ⟨hdl, .inl ⟨h0, h0⟩⟩
theorem num_res {s : ByteArray} {k dg nd : Nat} (hdg : dg = ((s.data.toList.drop k).takeWhile isDg).length) (hnd : nd = (if (s.data.toList.drop k).head? = some 48 then 1 else dg)) (hnl : k + nd ≤ s.size) :
    (∀ c ∈ (s.extract k (k + nd)).data.toList, isDg c = true) ∧ (s.extract k (k + nd)).size = nd ∧
    numF (s.data.toList.drop k) = if 0 < nd ∧ valFrom 0 (s.extract k (k + nd)).data.toList < 9223372036854775808 then .ok (.num (valFrom 0 (s.extract k (k + nd)).data.toList)) (s.data.toList.drop (k + nd)) else .bad (s.data.toList.drop k).length 2 := by
  have hD := digs_ext hdg
  rw [← hnd] at hD
  have hsz : (s.extract k (k + nd)).size = nd := by simp; omega
  have hln : (s.extract k (k + nd)).data.toList.length = nd := by rw [Array.length_toList]; exact hsz
  refine ⟨by rw [← hD]; exact digs_dg, hsz, ?_⟩
  unfold numF
  rw [hD, hln, List.drop_drop]
  by_cases h0 : 0 < nd
  · have hne : (s.extract k (k + nd)).data.toList ≠ [] := fun e => by rw [e] at hln; simp at hln; omega
    simp only [ne_eq, hne, not_false_eq_true, true_and, h0]
  · have he : (s.extract k (k + nd)).data.toList = [] := List.length_eq_zero_iff.1 (by omega)
    rw [if_neg (fun hh => hh.1 he), if_neg (by omega)]
theorem Wv.frP {w w' : World} {v : Value} {l : List Nat} {b k dp wr bd : Nat} {s : ByteArray} (h : Wv w v l) (f : Fr [b] w w') (hb : Rp w b s k dp wr bd) : Wv w' v l := by
  obtain ⟨A, cap, h1, h2, h3⟩ := h
  refine ⟨A, cap, h1, h2, ?_⟩
  rcases h3 with h3 | ⟨b2, o, e, h3⟩
  · exact .inl h3
  · refine .inr ⟨b2, o, e, fun j hj => ?_⟩
    have hcell := h3 j hj
    have hne : b2 ≠ b := by
      intro e2; subst e2
      unfold Rp at hb
      simp only [World.cell?, hb] at hcell
      match o + j, hcell with
      | 0, h => simp at h
      | 1, h => simp at h
      | 2, h => simp at h
      | 3, h => simp at h
      | 4, h => simp at h
      | i + 5, h => simp at h
    rw [f.cell (World.block_lt_of_cell? _ _ hcell) (by simpa using hne)]; exact hcell
theorem IntV.frP {w w' : World} {x n b k dp wr bd : Nat} {neg : Bool} {s : ByteArray} (h : IntV w x neg n) (f : Fr [b] w w') (hb : Rp w b s k dp wr bd) : IntV w' x neg n := by
  obtain ⟨v, h1, h2⟩ := h
  have hne : x ≠ b := by
    intro e; subst e
    unfold Rp at hb
    rw [h1] at hb; simp at hb
  exact ⟨v, by rw [f.block _ (some_lt h1) (by simpa using hne)]; exact h1, h2.frP f hb⟩
set_option maxHeartbeats 8000000 in
set_option maxRecDepth 100000 in
theorem one_num {w : World} {pb k dp : Nat} {s : ByteArray} (h : Rp w pb s k dp 0 0) (hk : k ≤ s.size) (hs : s.size ≤ 120) (hdp : dp ≤ 20)
    (hm1 : ¬ (⟨#[109, 105, 110, 40]⟩ : ByteArray).data.toList <+: s.data.toList.drop k) (hm2 : ¬ (⟨#[109, 97, 120, 40]⟩ : ByteArray).data.toList <+: s.data.toList.drop k)
    (n1 : ¬ (s.data.toList.drop k).head? = some 110) (n2 : ¬ (s.data.toList.drop k).head? = some 115) (n3 : ¬ (s.data.toList.drop k).head? = some 40) :
    Calls Tryz.prog 174 #[.pointer (some ⟨pb, 0, none⟩)] w (OutT pb s dp w (numF (s.data.toList.drop k))) := by
  obtain ⟨dg, hdg, hdl, hd1, hd2⟩ := dig_facts hk
  obtain ⟨nd, hnd, hnl, hways⟩ := nd_facts hk hdl hd1 hd2
  obtain ⟨hxd, hxs, hRR⟩ := num_res hdg hnd hnl
  clear hdg hnd
  have hA : Rp (w.alloc (.cells tz 24)) pb s k dp 0 0 := h.fr (xs := []) ((Fr.refl _ _).alloc _) (by simp)
  have hR : RC (w.alloc (.cells tz 24)) w.heap.size (.int .i64 0) (.int .i64 0) (.slice none 0 0) := RC.new w
  have hpl := h.lt
  have c1 := h.c1
  have FA := Fr.al (xs := [pb]) w (.cells tz 24)
  have m1 := pk_ne n1 (by decide)
  have m2 := pk_ne n2 (by decide)
  have m3 := pk_ne n3 (by decide)
  have HDG := Lib.hid hd1
  have HEND := Lib.hid hd2
  have HWay := Lib.hid hways
  have HXD := Lib.hid hxd
  have HXS := Lib.hid hxs
  generalize hRes : numF (s.data.toList.drop k) = R at *
  have HRR := Lib.hid hRR
  clear hd1 hd2 hRR hways hxd hxs hRes
  go_enter Tryz.func174, Tryz.ntmps174
  go_wp2_with (go_at_call 105; refine (ris_none hA hk hs (by decide) hm1).mono ?_; rintro e w1 ⟨rfl, hr1, hf1⟩; refine Hid.out ?_)
  refine Lib.hid ?_
  have hR1 := hR.fr hf1 (by simp; omega)
  go_wp2_with (go_at_call 105; refine (ris_none hr1 hk hs (by decide) hm2).mono ?_; rintro e w2 ⟨rfl, hr2, hf2⟩; refine Hid.out ?_)
  refine Lib.hid ?_
  have hR2 := hR1.fr hf2 (by simp; omega)
  have F2 := (FA.trans hf1).trans hf2
  have hpk := rpeek_any hr2 hk
  generalize pk (s.data.toList.drop k) = pkv at *
  have m1 : ((pkv : Int) == 110) = false := m1
  have m2 : ((pkv : Int) == 115) = false := m2
  have m3 : ((pkv : Int) == 40) = false := m3
  have HPK := Lib.hid hpk
  clear hpk
  go_wp2_with (go_at_call 65; refine HPK.out.mono ?_; rintro e w3 ⟨rfl, hr3, hf3⟩; have q0 := hr3.c0; have q1 := hr3.c1)
  have hR3 := hR2.fr hf3 (by simp; omega)
  have F3 := F2.trans hf3
  have hs1 := hf1.size
  have hs2 := hf2.size
  have hs3 := hf3.size
  simp at hs1
  have HR3 := Lib.hid hR3
  have HF3 := Lib.hid F3
  have Hr3 := Lib.hid hr3
  have hwz : w.heap.size < w3.heap.size := by omega
  clear HPK hR hR1 hR2 hR3 FA F2 F3 hf1 hf2 hf3 hr1 hr2 hr3 hA hs1 hs2 hs3 h hm1 hm2 n1 n2 n3
  go_loopw [10] (fun i wr => ∃ j : Nat, j ≤ dg ∧ i = .int .i64 ((k : Int) + j) ∧ w3 = wr) (fun i _ => k + dg - (intOf i).toNat)
  case atStart => exact ⟨0, by omega, by simp, rfl⟩
  case round =>
    obtain ⟨j, hj, rfl, rfl⟩ := hrel
    have t1 : ((k : Int) + (j : Int)).toNat = k + j := by omega
    have t2 : (0 : Int) ≤ (k : Int) + (j : Int) := by omega
    by_cases hlt : j < dg
    · have hi : (k : Int) + (j : Int) < s.size := by omega
      obtain ⟨d1, d2⟩ := HDG.out j (by omega) hlt
      have d1' : (48 : Int) ≤ (s[k + j].toNat : Int) := by omega
      have d2' : (s[k + j].toNat : Int) ≤ 57 := by omega
      go_wp2_with fail
      exact ⟨⟨j + 1, by omega, by rw [show ((j + 1 : Nat) : Int) = (j : Int) + 1 from by omega, Int.add_assoc], by trivial⟩, by simp [intOf]; omega⟩
    · have hj' : j = dg := by omega
      subst hj'
      have hcase : (¬ (k : Int) + (j : Int) < s.size) ∨ ∃ hq : k + j < s.size, (k : Int) + (j : Int) < s.size ∧ ((s[k + j].toNat : Int) < 48 ∨ (48 ≤ (s[k + j].toNat : Int) ∧ 57 < (s[k + j].toNat : Int))) := by
        by_cases hq : k + j < s.size
        · right; refine ⟨hq, by omega, ?_⟩
          have := HEND.out hq; omega
        · left; omega
      go_upto_region 38 with fail
      go_cut [144] (fun t wc => w3 = wc ∧ t = .bool false)
      case first =>
        rcases hcase with hi | ⟨hq, hi, hb | ⟨hb1, hb2⟩⟩
        · go_wp2_with fail
          go_meet
          case rel => exact ⟨rfl, by simp⟩
        · have hb' : ¬ (48 : Int) ≤ (s[k + j].toNat : Int) := by omega
          go_wp2_with fail
          go_meet
          case rel => exact ⟨rfl, by simp⟩
        · have hb' : ¬ (s[k + j].toNat : Int) ≤ 57 := by omega
          go_wp2_with fail
          go_meet
          case rel => exact ⟨rfl, by simp⟩
      case rest =>
        obtain ⟨rfl, rfl⟩ := hcut
        clear hcase
        go_upto_region 40 with fail
        clear HDG HEND
        rcases HWay.out with ⟨rfl, rfl⟩ | ⟨hjp, ⟨hk', h48⟩, rfl⟩ | ⟨hjp, ⟨hk', h48⟩, rfl⟩
        · clear HWay
          have hq : ¬ ((k : Int) < (k : Int) + ((0 : Nat) : Int)) := by omega
          have hk0 : (0 : Int) ≤ (k : Int) := by omega
          have hsl2 : (k : Int) ≤ (s.size : Int) := by omega
          go_quiet (fail)
          go_wp2_with fail
          have hX : ((w3.drewN (nq + 1)).alloc (.cells #[.bool false, .slice none 0 0] 86)).heap[w3.heap.size]? = some (.cells #[.bool false, .slice none 0 0] 86 (0, 0)) := heap_alloc_new (w3.drewN (nq + 1)) _
          have cS := setstr_none (w := (w3.drewN (nq + 1)).alloc (.cells #[.bool false, .slice none 0 0] 86)) (.pointer (some ⟨w3.heap.size, 0, none⟩)) ⟨_, rfl⟩
          have hr3' : Rp ((w3.drewN (nq + 1)).alloc (.cells #[.bool false, .slice none 0 0] 86)) pb s k dp 0 0 := (Hr3.out.drewN (nq + 1)).fr (xs := []) (Fr.al _ _) (by simp)
          have hR3' : RC ((w3.drewN (nq + 1)).alloc (.cells #[.bool false, .slice none 0 0] 86)) w.heap.size (.int .i64 0) (.int .i64 0) (.slice none 0 0) := (show RC (w3.drewN (nq + 1)) w.heap.size _ _ _ from HR3.out).fr (xs := []) (Fr.al _ _) (by simp)
          have pl3 := Hr3.out.lt
          have hRv := HRR.out
          rw [if_neg (by omega)] at hRv
          have HRv := Lib.hid hRv
          have HC := Lib.hid cS
          have HL := Lib.hid (len_drop (s := s) hk)
          clear cS hX hRv
          have hkk : (k : Int) - (k : Int) = 0 := by omega
          go_region_held3 (fun w' => w'.cell? ⟨pb, 0, none⟩ = some (.string s) ∧ w'.cell? ⟨pb, 1, none⟩ = some (.int .i64 k)) (first | go_keep | exact ⟨hr3'.c0, hr3'.c1⟩) ((go_at_call 202; refine HC.out.mono ?_; rintro e w4 ⟨rfl, rfl⟩))
          have F4 : Fr [pb] w ((w3.drewN (nq + 1)).alloc (.cells #[.bool false, .slice none 0 0] 86)) := (HF3.out.drewN (nq + 1)).alloc _
          have hw4 : w.heap.size < ((w3.drewN (nq + 1)).alloc (.cells #[.bool false, .slice none 0 0] 86)).heap.size := hR3'.lt
          generalize (w3.drewN (nq + 1)).alloc (.cells #[.bool false, .slice none 0 0] 86) = w4 at *
          go_wp2_with (go_at_call 31; refine (rfail_any hr3' k 2).mono ?_; rintro e w5 ⟨rfl, hr5, hf5⟩; have hR5 := hR3'.fr hf5 (by simp; omega); have z0 := hR5.c0; have z1 := hR5.c1; have z2 := hR5.c2; have y0 := hR5.fz 0; have y1 := hR5.fz 1; have y2 := hR5.fz 2)
          refine retT oneRes rfl (hR5.set3 _ _ _) ?_
          rw [HRv.out]
          have f := Fr.set3 w5 w.heap.size (.int .i64 0) (.int .i64 0) (.slice none 0 0)
          exact ⟨0, 0, none, 0, 0, k, dp, rfl, by rw [HL.out]; exact hr5.fr f (by simp; omega), by decide, Nat.le_refl _, hdp, hk, (F4.trans hf5).over' f (by simp)⟩
        · clear HWay
          have hq : (k : Int) < (k : Int) + (j : Int) := by omega
          have hkI : (k : Int) < s.size := by omega
          have hk0 : (0 : Int) ≤ (k : Int) := by omega
          have h48' : ((s[k].toNat : Int) == 48) = true := by simp; omega
          have hsl1 : (k : Int) ≤ (k : Int) + 1 := by omega
          have hsl2 : (k : Int) + 1 ≤ (s.size : Int) := by omega
          have hsl6 : ((k : Int) + 1).toNat = k + 1 := by omega
          go_quiet (fail)
          go_wp2_with fail
          have hX : ((w3.drewN (nq + 1)).alloc (.cells #[.bool false, .slice none 0 0] 86)).heap[w3.heap.size]? = some (.cells #[.bool false, .slice none 0 0] 86 (0, 0)) := heap_alloc_new (w3.drewN (nq + 1)) _
          have cS := setstr_any hX ⟨none, 0, 0, rfl⟩ (s.extract k (k + 1)) HXD.out (by rw [HXS.out]; omega) (by rw [HXS.out]; omega)
          have hr3' : Rp ((w3.drewN (nq + 1)).alloc (.cells #[.bool false, .slice none 0 0] 86)) pb s k dp 0 0 := (Hr3.out.drewN (nq + 1)).fr (xs := []) (Fr.al _ _) (by simp)
          have hR3' : RC ((w3.drewN (nq + 1)).alloc (.cells #[.bool false, .slice none 0 0] 86)) w.heap.size (.int .i64 0) (.int .i64 0) (.slice none 0 0) := (show RC (w3.drewN (nq + 1)) w.heap.size _ _ _ from HR3.out).fr (xs := []) (Fr.al _ _) (by simp)
          have pl3 := Hr3.out.lt
          have hll0 : (wl (valFrom 0 (s.extract k (k + 1)).data.toList)).length ≤ 1000 := Nat.le_trans (dig_len _ HXD.out (by rw [Array.length_toList]; show (s.extract k (k + 1)).size ≤ 120; rw [HXS.out]; omega)) (by omega)
          have hRv := HRR.out
          generalize hn : valFrom 0 (s.extract k (k + 1)).data.toList = nn at *
          have HC := Lib.hid cS
          clear cS hX hn
          go_region_held3 (fun w' => w'.cell? ⟨pb, 0, none⟩ = some (.string s) ∧ w'.cell? ⟨pb, 1, none⟩ = some (.int .i64 k)) (first | go_keep | exact ⟨hr4.c0, hr4.c1⟩) (first | (go_at_call 202; refine HC.out.mono ?_; rintro e w4 ⟨rfl, I4, f4⟩; have hr4 := hr3'.fr f4 (by simp; omega); have hR4 := hR3'.fr f4 (by simp; omega)))
          have F4 : Fr [pb] w w4 := (((HF3.out.drewN (nq + 1)).alloc (.cells #[.bool false, .slice none 0 0] 86)).over' f4 (by simp; omega))
          have ci := isint_any I4 hll0
          have hw4 : w.heap.size < w4.heap.size := hR4.lt
          have hpr : pb ≠ w.heap.size := by omega
          by_cases hv : nn < 9223372036854775808
          · rw [if_pos ⟨by omega, hv⟩] at hRv
            have HRv := Lib.hid hRv
            have e1 : decide (nn < 9223372036854775808) = true := by simpa using hv
            rw [e1] at ci
            have u1 := hr4.c1
            have u2 := hr4.fz 1
            have u3 := hr4.lt
            have g4 : Fr [pb] w4 (w4.setCell ⟨pb, 1, none⟩ (.int .i64 ((k : Int) + 1))) := (Fr.refl _ _).setCell (.inl (by simp)) _
            have hr5 : Rp (w4.setCell ⟨pb, 1, none⟩ (.int .i64 ((k : Int) + 1))) pb s (k + 1) dp 0 0 := by have := hr4.set1 (k + 1); push_cast at this; exact this
            have I5 := I4.frP g4 hr4
            have hR5 := hR4.fr g4 (by simp; omega)
            have c64 := int64_any I5 hv
            have HI5 := Lib.hid c64
            have HR5 := Lib.hid hR5
            have Hr5 := Lib.hid hr5
            have HF5 := Lib.hid (F4.trans g4)
            clear hr5 hR5 I5 g4 F4 I4 hR3' hr3' HC hRv c64 f4
            go_wp2_with (go_at_call 40; refine ci.mono ?_; rintro e w5 ⟨rfl, rfl⟩)
            generalize w4.setCell ⟨pb, 1, none⟩ (.int .i64 ((k : Int) + 1)) = w5 at *
            go_wp2_with (go_at_call 41; refine HI5.out.mono ?_; rintro e w6 ⟨rfl, mm, rfl⟩; refine Hid.out ?_)
            refine Lib.hid ?_
            have hR6 : RC (w5.drewN mm) w.heap.size (.int .i64 0) (.int .i64 0) (.slice none 0 0) := HR5.out
            have z0 := hR6.c0
            have z1 := hR6.c1
            have z2 := hR6.c2
            have y0 := hR6.fz 0
            have y1 := hR6.fz 1
            have y2 := hR6.fz 2
            have hr6 : Rp (w5.drewN mm) pb s (k + 1) dp 0 0 := Hr5.out
            have F6 : Fr [pb] w (w5.drewN mm) := HF5.out.drewN mm
            generalize w5.drewN mm = w6 at *
            go_wp2_with fail
            refine retT oneRes rfl (hR6.set3 _ _ _) ?_
            rw [HRv.out]
            have f := Fr.set3 w6 w.heap.size (.int .i64 0) (.int .i64 nn) (.slice none 0 0)
            exact ⟨0, nn, none, 0, 0, k + 1, rfl, ⟨rfl, hv⟩, hr6.fr f (by simp; omega), by omega, rfl, F6.over' f (by simp)⟩
          · rw [if_neg (fun hh => hv hh.2)] at hRv
            have HRv := Lib.hid hRv
            have e1 : decide (nn < 9223372036854775808) = false := by simpa using hv
            rw [e1] at ci
            have HL := Lib.hid (len_drop (s := s) hk)
            go_wp2_with (first | (go_at_call 40; refine ci.mono ?_; rintro e w5 ⟨rfl, rfl⟩) | (go_at_call 31; refine (rfail_any hr4 k 2).mono ?_; rintro e w5 ⟨rfl, hr5, hf5⟩; have hR5 := hR4.fr hf5 (by simp; omega); have z0 := hR5.c0; have z1 := hR5.c1; have z2 := hR5.c2; have y0 := hR5.fz 0; have y1 := hR5.fz 1; have y2 := hR5.fz 2))
            refine retT oneRes rfl (hR5.set3 _ _ _) ?_
            rw [HRv.out]
            have f := Fr.set3 w5 w.heap.size (.int .i64 0) (.int .i64 0) (.slice none 0 0)
            exact ⟨0, 0, none, 0, 0, k, dp, rfl, by rw [HL.out]; exact hr5.fr f (by simp; omega), by decide, Nat.le_refl _, hdp, hk, (F4.trans hf5).over' f (by simp)⟩
        · clear HWay
          have hq : (k : Int) < (k : Int) + (nd : Int) := by omega
          have hkI : (k : Int) < s.size := by omega
          have hk0 : (0 : Int) ≤ (k : Int) := by omega
          have h48' : ((s[k].toNat : Int) == 48) = false := beq_eq_false_iff_ne.2 (by omega)
          have hsl1 : (k : Int) ≤ (k : Int) + (nd : Int) := by omega
          have hsl2 : (k : Int) + (nd : Int) ≤ (s.size : Int) := by omega
          go_quiet (fail)
          go_wp2_with fail
          have hX : ((w3.drewN (nq + 1)).alloc (.cells #[.bool false, .slice none 0 0] 86)).heap[w3.heap.size]? = some (.cells #[.bool false, .slice none 0 0] 86 (0, 0)) := heap_alloc_new (w3.drewN (nq + 1)) _
          have cS := setstr_any hX ⟨none, 0, 0, rfl⟩ (s.extract k (k + nd)) HXD.out (by rw [HXS.out]; omega) (by rw [HXS.out]; omega)
          have hr3' : Rp ((w3.drewN (nq + 1)).alloc (.cells #[.bool false, .slice none 0 0] 86)) pb s k dp 0 0 := (Hr3.out.drewN (nq + 1)).fr (xs := []) (Fr.al _ _) (by simp)
          have hR3' : RC ((w3.drewN (nq + 1)).alloc (.cells #[.bool false, .slice none 0 0] 86)) w.heap.size (.int .i64 0) (.int .i64 0) (.slice none 0 0) := (show RC (w3.drewN (nq + 1)) w.heap.size _ _ _ from HR3.out).fr (xs := []) (Fr.al _ _) (by simp)
          have pl3 := Hr3.out.lt
          have hll0 : (wl (valFrom 0 (s.extract k (k + nd)).data.toList)).length ≤ 1000 := Nat.le_trans (dig_len _ HXD.out (by rw [Array.length_toList]; show (s.extract k (k + nd)).size ≤ 120; rw [HXS.out]; omega)) (by omega)
          have hRv := HRR.out
          generalize hn : valFrom 0 (s.extract k (k + nd)).data.toList = nn at *
          have HC := Lib.hid cS
          clear cS hX hn
          go_region_held3 (fun w' => w'.cell? ⟨pb, 0, none⟩ = some (.string s) ∧ w'.cell? ⟨pb, 1, none⟩ = some (.int .i64 k)) (first | go_keep | exact ⟨hr4.c0, hr4.c1⟩) (first | (go_at_call 202; refine HC.out.mono ?_; rintro e w4 ⟨rfl, I4, f4⟩; have hr4 := hr3'.fr f4 (by simp; omega); have hR4 := hR3'.fr f4 (by simp; omega)))
          have F4 : Fr [pb] w w4 := (((HF3.out.drewN (nq + 1)).alloc (.cells #[.bool false, .slice none 0 0] 86)).over' f4 (by simp; omega))
          have ci := isint_any I4 hll0
          have hw4 : w.heap.size < w4.heap.size := hR4.lt
          have hpr : pb ≠ w.heap.size := by omega
          by_cases hv : nn < 9223372036854775808
          · rw [if_pos ⟨by omega, hv⟩] at hRv
            have HRv := Lib.hid hRv
            have e1 : decide (nn < 9223372036854775808) = true := by simpa using hv
            rw [e1] at ci
            have u1 := hr4.c1
            have u2 := hr4.fz 1
            have u3 := hr4.lt
            have g4 : Fr [pb] w4 (w4.setCell ⟨pb, 1, none⟩ (.int .i64 ((k : Int) + (nd : Int)))) := (Fr.refl _ _).setCell (.inl (by simp)) _
            have hr5 : Rp (w4.setCell ⟨pb, 1, none⟩ (.int .i64 ((k : Int) + (nd : Int)))) pb s (k + nd) dp 0 0 := by have := hr4.set1 (k + nd); push_cast at this; exact this
            have I5 := I4.frP g4 hr4
            have hR5 := hR4.fr g4 (by simp; omega)
            have c64 := int64_any I5 hv
            have HI5 := Lib.hid c64
            have HR5 := Lib.hid hR5
            have Hr5 := Lib.hid hr5
            have HF5 := Lib.hid (F4.trans g4)
            clear hr5 hR5 I5 g4 F4 I4 hR3' hr3' HC hRv c64 f4
            go_wp2_with (go_at_call 40; refine ci.mono ?_; rintro e w5 ⟨rfl, rfl⟩)
            generalize w4.setCell ⟨pb, 1, none⟩ (.int .i64 ((k : Int) + (nd : Int))) = w5 at *
            go_wp2_with (go_at_call 41; refine HI5.out.mono ?_; rintro e w6 ⟨rfl, mm, rfl⟩; refine Hid.out ?_)
            refine Lib.hid ?_
            have hR6 : RC (w5.drewN mm) w.heap.size (.int .i64 0) (.int .i64 0) (.slice none 0 0) := HR5.out
            have z0 := hR6.c0
            have z1 := hR6.c1
            have z2 := hR6.c2
            have y0 := hR6.fz 0
            have y1 := hR6.fz 1
            have y2 := hR6.fz 2
            have hr6 : Rp (w5.drewN mm) pb s (k + nd) dp 0 0 := Hr5.out
            have F6 : Fr [pb] w (w5.drewN mm) := HF5.out.drewN mm
            generalize w5.drewN mm = w6 at *
            go_wp2_with fail
            refine retT oneRes rfl (hR6.set3 _ _ _) ?_
            rw [HRv.out]
            have f := Fr.set3 w6 w.heap.size (.int .i64 0) (.int .i64 nn) (.slice none 0 0)
            exact ⟨0, nn, none, 0, 0, k + nd, rfl, ⟨rfl, hv⟩, hr6.fr f (by simp; omega), by omega, rfl, F6.over' f (by simp)⟩
          · rw [if_neg (fun hh => hv hh.2)] at hRv
            have HRv := Lib.hid hRv
            have e1 : decide (nn < 9223372036854775808) = false := by simpa using hv
            rw [e1] at ci
            have HL := Lib.hid (len_drop (s := s) hk)
            go_wp2_with (first | (go_at_call 40; refine ci.mono ?_; rintro e w5 ⟨rfl, rfl⟩) | (go_at_call 31; refine (rfail_any hr4 k 2).mono ?_; rintro e w5 ⟨rfl, hr5, hf5⟩; have hR5 := hR4.fr hf5 (by simp; omega); have z0 := hR5.c0; have z1 := hR5.c1; have z2 := hR5.c2; have y0 := hR5.fz 0; have y1 := hR5.fz 1; have y2 := hR5.fz 2))
            refine retT oneRes rfl (hR5.set3 _ _ _) ?_
            rw [HRv.out]
            have f := Fr.set3 w5 w.heap.size (.int .i64 0) (.int .i64 0) (.slice none 0 0)
            exact ⟨0, 0, none, 0, 0, k, dp, rfl, by rw [HL.out]; exact hr5.fr f (by simp; omega), by decide, Nat.le_refl _, hdp, hk, (F4.trans hf5).over' f (by simp)⟩
end Go.Proofs.YthadeccnibnioaaGreatDoor
