import Derived.Test.YtnapbfilkahobaaGreatDoorSj
import Derived.Deep.RegionHeld3
import Derived.Deep.DeepCutAuto
/- The document's reader: a number. -/
namespace Go.Proofs.YtnapbfilkahobaaGreatDoor
open Go.RowKit
set_option linter.unusedVariables false

theorem tw_split (p : UInt8 → Bool) : ∀ u : List UInt8, ∃ r, u = u.takeWhile p ++ r ∧ (∀ c ∈ u.takeWhile p, p c = true) ∧ ∀ c, r.head? = some c → p c = false
  | [] => ⟨[], rfl, by simp, by simp⟩
  | x :: u => by
    by_cases hx : p x = true
    · obtain ⟨r, h1, h2, h3⟩ := tw_split p u
      rw [List.takeWhile_cons_of_pos hx]
      exact ⟨r, by rw [List.cons_append, ← h1], by simpa using ⟨hx, h2⟩, h3⟩
    · rw [List.takeWhile_cons_of_neg (by simpa using hx)]
      exact ⟨x :: u, rfl, by simp, fun c hc => by simp at hc; subst hc; simpa using hx⟩
/-- The digits from a place on: as many as there are. -/
theorem dig_facts {s : ByteArray} {k : Nat} (hk : k ≤ s.size) : ∃ dg, dg = ((s.data.toList.drop k).takeWhile isDg).length ∧ k + dg ≤ s.size ∧ (∀ j (hj : k + j < s.size), j < dg → 48 ≤ s[k + j].toNat ∧ s[k + j].toNat ≤ 57) ∧ ∀ (hj : k + dg < s.size), s[k + dg].toNat < 48 ∨ 57 < s[k + dg].toNat := by
  obtain ⟨r, h1, h2, h3⟩ := tw_split isDg (s.data.toList.drop k)
  generalize (s.data.toList.drop k).takeWhile isDg = D at *
  have hlen : D.length + r.length = s.size - k := by
    have := congrArg List.length h1
    simp at this
    omega
  have hat : ∀ j (hj : k + j < s.size), (D ++ r)[j]? = some s[k + j] := fun j hj => by
    rw [← h1, List.getElem?_drop, List.getElem?_eq_getElem (by simpa using hj)]; rfl
  refine ⟨D.length, rfl, by omega, fun j hj hd => ?_, fun hj => ?_⟩
  · have := hat j hj
    rw [List.getElem?_append_left hd, List.getElem?_eq_getElem hd] at this
    injection this with this
    have h4 := h2 _ (List.getElem_mem hd)
    rw [this] at h4
    simp [isDg] at h4
    exact h4
  · have := hat D.length hj
    rw [List.getElem?_append_right (Nat.le_refl _), Nat.sub_self, ← List.head?_eq_getElem?] at this
    have h4 := h3 _ this
    simp [isDg] at h4
    omega
theorem ext_take (s : ByteArray) (k n : Nat) : (s.extract k (k + n)).data.toList = (s.data.toList.drop k).take n := by
  rw [ByteArray.data_extract, Array.toList_extract, List.extract_eq_take_drop, Nat.add_sub_cancel_left]
theorem take_tw (p : UInt8 → Bool) : ∀ u : List UInt8, u.take (u.takeWhile p).length = u.takeWhile p
  | [] => rfl
  | x :: u => by
    by_cases hx : p x = true
    · rw [List.takeWhile_cons_of_pos hx, List.length_cons, List.take_succ_cons, take_tw p u]
    · rw [List.takeWhile_cons_of_neg (by simpa using hx)]; rfl
/-- The text of the digits that count. -/
theorem digs_ext {s : ByteArray} {k dg : Nat} (hdg : dg = ((s.data.toList.drop k).takeWhile isDg).length) : digs (s.data.toList.drop k) = (s.extract k (k + (if (s.data.toList.drop k).head? = some 48 then 1 else dg))).data.toList := by
  rw [ext_take]
  unfold digs
  by_cases h0 : (s.data.toList.drop k).head? = some 48
  · rw [if_pos h0, if_pos h0]
    cases hu : s.data.toList.drop k with
    | nil => rw [hu] at h0; cases h0
    | cons x u => rw [hu] at h0; simp at h0; subst h0; rfl
  · rw [if_neg h0, if_neg h0, hdg, take_tw]
theorem digs_dg {u : List UInt8} : ∀ c ∈ digs u, isDg c = true := by
  unfold digs
  split
  · intro c hc; simp at hc; subst hc; rfl
  · obtain ⟨r, -, h2, -⟩ := tw_split isDg u; exact h2
theorem head_at {s : ByteArray} {k : Nat} (hk : k < s.size) : (s.data.toList.drop k).head? = some s[k] := by
  rw [List.drop_eq_getElem_cons (by simpa using hk)]; rfl
theorem nd_facts {s : ByteArray} {k dg : Nat} (hk : k ≤ s.size) (hdl : k + dg ≤ s.size) (hd1 : ∀ j (hj : k + j < s.size), j < dg → 48 ≤ s[k + j].toNat ∧ s[k + j].toNat ≤ 57) (hd2 : ∀ (hj : k + dg < s.size), s[k + dg].toNat < 48 ∨ 57 < s[k + dg].toNat) :
    ∃ nd, nd = (if (s.data.toList.drop k).head? = some 48 then 1 else dg) ∧ k + nd ≤ s.size ∧ (dg = 0 ∧ nd = 0 ∨ 0 < dg ∧ (∃ hk' : k < s.size, s[k].toNat = 48) ∧ nd = 1 ∨ 0 < dg ∧ (∃ hk' : k < s.size, s[k].toNat ≠ 48) ∧ nd = dg) := by
  refine ⟨_, rfl, ?_⟩
  by_cases hk' : k < s.size
  · rw [head_at hk']
    by_cases h48 : s[k].toNat = 48
    · have e : s[k] = 48 := UInt8.toNat_inj.1 h48
      have hp : 0 < dg := by
        rcases Nat.eq_zero_or_pos dg with h0 | h0
        · subst h0; have := hd2 (by simpa using hk'); simp only [Nat.add_zero] at this; omega
        · exact h0
      rw [if_pos (by rw [e])]
      exact ⟨by omega, .inr (.inl ⟨hp, ⟨hk', h48⟩, rfl⟩)⟩
    · have e : ¬ (some s[k] = some (48 : UInt8)) := fun e => by injection e with e; rw [e] at h48; exact h48 rfl
      rw [if_neg e]
      refine ⟨hdl, ?_⟩
      rcases Nat.eq_zero_or_pos dg with h0 | h0
      · exact .inl ⟨h0, h0⟩
      · exact .inr (.inr ⟨h0, ⟨hk', h48⟩, rfl⟩)
  · have e : s.data.toList.drop k = [] := by rw [List.drop_eq_nil_iff]; simp; omega
    have h0 : dg = 0 := by omega
    rw [e, if_neg (by simp)]
    exact ⟨hdl, .inl ⟨h0, h0⟩⟩
theorem num_res {s : ByteArray} {k dg nd : Nat} (hdg : dg = ((s.data.toList.drop k).takeWhile isDg).length) (hnd : nd = (if (s.data.toList.drop k).head? = some 48 then 1 else dg)) (hnl : k + nd ≤ s.size) :
    (∀ c ∈ (s.extract k (k + nd)).data.toList, isDg c = true) ∧ (s.extract k (k + nd)).size = nd ∧
    numF (s.data.toList.drop k) = if 0 < nd ∧ valFrom 0 (s.extract k (k + nd)).data.toList < 9223372036854775808 then .ok (.num (valFrom 0 (s.extract k (k + nd)).data.toList)) (s.data.toList.drop (k + nd)) else .bad (s.data.toList.drop k).length 2 := by
  have hD := digs_ext hdg
  rw [← hnd] at hD
  have hsz : (s.extract k (k + nd)).size = nd := by simp; omega
  have hln : (s.extract k (k + nd)).data.toList.length = nd := by rw [Array.length_toList]; exact hsz
  refine ⟨by rw [← hD]; exact digs_dg, hsz, ?_⟩
  unfold numF
  rw [hD, hln, List.drop_drop]
  by_cases h0 : 0 < nd
  · have hne : (s.extract k (k + nd)).data.toList ≠ [] := fun e => by rw [e] at hln; simp at hln; omega
    simp only [ne_eq, hne, not_false_eq_true, true_and, h0]
  · have he : (s.extract k (k + nd)).data.toList = [] := List.length_eq_zero_iff.1 (by omega)
    rw [if_neg (fun hh => hh.1 he), if_neg (by omega)]
theorem Wv.frP {w w' : World} {v : Value} {l : List Nat} {b k dp wr bd : Nat} {s : ByteArray} (h : Wv w v l) (f : Fr [b] w w') (hb : Rp w b s k dp wr bd) : Wv w' v l := by
  obtain ⟨A, cap, h1, h2, h3⟩ := h
  refine ⟨A, cap, h1, h2, ?_⟩
  rcases h3 with h3 | ⟨b2, o, e, h3⟩
  · exact .inl h3
  · refine .inr ⟨b2, o, e, fun j hj => ?_⟩
    have hcell := h3 j hj
    have hne : b2 ≠ b := by
      intro e2; subst e2
      unfold Rp at hb
      simp only [World.cell?, hb] at hcell
      match o + j, hcell with
      | 0, h => simp at h
      | 1, h => simp at h
      | 2, h => simp at h
      | 3, h => simp at h
      | 4, h => simp at h
      | i + 5, h => simp at h
    rw [f.cell (World.block_lt_of_cell? _ _ hcell) (by simpa using hne)]; exact hcell
theorem IntV.frP {w w' : World} {x n b k dp wr bd : Nat} {neg : Bool} {s : ByteArray} (h : IntV w x neg n) (f : Fr [b] w w') (hb : Rp w b s k dp wr bd) : IntV w' x neg n := by
  obtain ⟨v, h1, h2⟩ := h
  have hne : x ≠ b := by
    intro e; subst e
    unfold Rp at hb
    rw [h1] at hb; simp at hb
  exact ⟨v, by rw [f.block _ (some_lt h1) (by simpa using hne)]; exact h1, h2.frP f hb⟩
set_option maxHeartbeats 8000000 in
set_option maxRecDepth 100000 in
theorem one_num {w : World} {pb k dp : Nat} {s : ByteArray} (h : Rp w pb s k dp 0 0) (hk : k ≤ s.size) (hs : s.size ≤ 120) (hdp : dp ≤ 20)
    (hm1 : ¬ (⟨#[109, 105, 110, 40]⟩ : ByteArray).data.toList <+: s.data.toList.drop k) (hm2 : ¬ (⟨#[109, 97, 120, 40]⟩ : ByteArray).data.toList <+: s.data.toList.drop k)
    (n1 : ¬ (s.data.toList.drop k).head? = some 110) (n2 : ¬ (s.data.toList.drop k).head? = some 115) (n3 : ¬ (s.data.toList.drop k).head? = some 40) :
    Calls Tryz.prog 174 #[.pointer (some ⟨pb, 0, none⟩)] w (OutT pb s dp w (numF (s.data.toList.drop k))) := by
  obtain ⟨dg, hdg, hdl, hd1, hd2⟩ := dig_facts hk
  obtain ⟨nd, hnd, hnl, hways⟩ := nd_facts hk hdl hd1 hd2
  obtain ⟨hxd, hxs, hRR⟩ := num_res hdg hnd hnl
  clear hdg hnd
  have hA : Rp (w.alloc (.cells tz 24)) pb s k dp 0 0 := h.fr (xs := []) ((Fr.refl _ _).alloc _) (by simp)
  have hR : RC (w.alloc (.cells tz 24)) w.heap.size (.int .i64 0) (.int .i64 0) (.slice none 0 0) := RC.new w
  have hpl := h.lt
  have c1 := h.c1
  have FA := Fr.al (xs := [pb]) w (.cells tz 24)
  have m1 := pk_ne n1 (by decide)
  have m2 := pk_ne n2 (by decide)
  have m3 := pk_ne n3 (by decide)
  have HDG := Lib.hid hd1
  have HEND := Lib.hid hd2
  have HWay := Lib.hid hways
  have HXD := Lib.hid hxd
  have HXS := Lib.hid hxs
  generalize hRes : numF (s.data.toList.drop k) = R at *
  have HRR := Lib.hid hRR
  clear hd1 hd2 hRR hways hxd hxs hRes
  go_enter Tryz.func174, Tryz.ntmps174
  go_wp2_with (go_at_call 105; refine (ris_none hA hk hs (by decide) hm1).mono ?_; rintro e w1 ⟨rfl, hr1, hf1⟩; refine Hid.out ?_)
  refine Lib.hid ?_
  have hR1 := hR.fr hf1 (by simp; omega)
  go_wp2_with (go_at_call 105; refine (ris_none hr1 hk hs (by decide) hm2).mono ?_; rintro e w2 ⟨rfl, hr2, hf2⟩; refine Hid.out ?_)
  refine Lib.hid ?_
  have hR2 := hR1.fr hf2 (by simp; omega)
  have F2 := (FA.trans hf1).trans hf2
  have hpk := rpeek_any hr2 hk
  generalize pk (s.data.toList.drop k) = pkv at *
  have m1 : ((pkv : Int) == 110) = false := m1
  have m2 : ((pkv : Int) == 115) = false := m2
  have m3 : ((pkv : Int) == 40) = false := m3
  have HPK := Lib.hid hpk
  clear hpk
  go_wp2_with (go_at_call 64; refine HPK.out.mono ?_; rintro e w3 ⟨rfl, hr3, hf3⟩; have q0 := hr3.c0; have q1 := hr3.c1)
  have hR3 := hR2.fr hf3 (by simp; omega)
  have F3 := F2.trans hf3
  have hs1 := hf1.size
  have hs2 := hf2.size
  have hs3 := hf3.size
  simp at hs1
  have HR3 := Lib.hid hR3
  have HF3 := Lib.hid F3
  have Hr3 := Lib.hid hr3
  have hwz : w.heap.size < w3.heap.size := by omega
  clear HPK hR hR1 hR2 hR3 FA F2 F3 hf1 hf2 hf3 hr1 hr2 hr3 hA hs1 hs2 hs3 h hm1 hm2 n1 n2 n3
  go_loopw [10] (fun i wr => ∃ j : Nat, j ≤ dg ∧ i = .int .i64 ((k : Int) + j) ∧ w3 = wr) (fun i _ => k + dg - (intOf i).toNat)
  case atStart => exact ⟨0, by omega, by simp, rfl⟩
  case round =>
    obtain ⟨j, hj, rfl, rfl⟩ := hrel
    have t1 : ((k : Int) + (j : Int)).toNat = k + j := by omega
    have t2 : (0 : Int) ≤ (k : Int) + (j : Int) := by omega
    by_cases hlt : j < dg
    · have hi : (k : Int) + (j : Int) < s.size := by omega
      obtain ⟨d1, d2⟩ := HDG.out j (by omega) hlt
      have d1' : (48 : Int) ≤ (s[k + j].toNat : Int) := by omega
      have d2' : (s[k + j].toNat : Int) ≤ 57 := by omega
      go_wp2_with fail
      exact ⟨⟨j + 1, by omega, by rw [show ((j + 1 : Nat) : Int) = (j : Int) + 1 from by omega, Int.add_assoc], by trivial⟩, by simp [intOf]; omega⟩
    · have hj' : j = dg := by omega
      subst hj'
      have hcase : (¬ (k : Int) + (j : Int) < s.size) ∨ ∃ hq : k + j < s.size, (k : Int) + (j : Int) < s.size ∧ ((s[k + j].toNat : Int) < 48 ∨ (48 ≤ (s[k + j].toNat : Int) ∧ 57 < (s[k + j].toNat : Int))) := by
        by_cases hq : k + j < s.size
        · right; refine ⟨hq, by omega, ?_⟩
          have := HEND.out hq; omega
        · left; omega
      go_upto_region 38 with fail
      go_cut [144] (fun t wc => w3 = wc ∧ t = .bool false)
      case first =>
        rcases hcase with hi | ⟨hq, hi, hb | ⟨hb1, hb2⟩⟩
        · go_wp2_with fail
          go_meet
          case rel => exact ⟨rfl, by simp⟩
        · have hb' : ¬ (48 : Int) ≤ (s[k + j].toNat : Int) := by omega
          go_wp2_with fail
          go_meet
          case rel => exact ⟨rfl, by simp⟩
        · have hb' : ¬ (s[k + j].toNat : Int) ≤ 57 := by omega
          go_wp2_with fail
          go_meet
          case rel => exact ⟨rfl, by simp⟩
      case rest =>
        obtain ⟨rfl, rfl⟩ := hcut
        clear hcase
        go_upto_region 40 with fail
        clear HDG HEND
        rcases HWay.out with ⟨rfl, rfl⟩ | ⟨hjp, ⟨hk', h48⟩, rfl⟩ | ⟨hjp, ⟨hk', h48⟩, rfl⟩
        · clear HWay
          have hq : ¬ ((k : Int) < (k : Int) + ((0 : Nat) : Int)) := by omega
          have hk0 : (0 : Int) ≤ (k : Int) := by omega
          have hsl2 : (k : Int) ≤ (s.size : Int) := by omega
          go_quiet (fail)
          go_wp2_with fail
          have hX : ((w3.drewN (nq + 1)).alloc (.cells #[.bool false, .slice none 0 0] 85)).heap[w3.heap.size]? = some (.cells #[.bool false, .slice none 0 0] 85 (0, 0)) := heap_alloc_new (w3.drewN (nq + 1)) _
          have cS := setstr_none (w := (w3.drewN (nq + 1)).alloc (.cells #[.bool false, .slice none 0 0] 85)) (.pointer (some ⟨w3.heap.size, 0, none⟩)) ⟨_, rfl⟩
          have hr3' : Rp ((w3.drewN (nq + 1)).alloc (.cells #[.bool false, .slice none 0 0] 85)) pb s k dp 0 0 := (Hr3.out.drewN (nq + 1)).fr (xs := []) (Fr.al _ _) (by simp)
          have hR3' : RC ((w3.drewN (nq + 1)).alloc (.cells #[.bool false, .slice none 0 0] 85)) w.heap.size (.int .i64 0) (.int .i64 0) (.slice none 0 0) := (show RC (w3.drewN (nq + 1)) w.heap.size _ _ _ from HR3.out).fr (xs := []) (Fr.al _ _) (by simp)
          have pl3 := Hr3.out.lt
          have hRv := HRR.out
          rw [if_neg (by omega)] at hRv
          have HRv := Lib.hid hRv
          have HC := Lib.hid cS
          have HL := Lib.hid (len_drop (s := s) hk)
          clear cS hX hRv
          have hkk : (k : Int) - (k : Int) = 0 := by omega
          go_region_held3 (fun w' => w'.cell? ⟨pb, 0, none⟩ = some (.string s) ∧ w'.cell? ⟨pb, 1, none⟩ = some (.int .i64 k)) (first | go_keep | exact ⟨hr3'.c0, hr3'.c1⟩) ((go_at_call 202; refine HC.out.mono ?_; rintro e w4 ⟨rfl, rfl⟩))
          have F4 : Fr [pb] w ((w3.drewN (nq + 1)).alloc (.cells #[.bool false, .slice none 0 0] 85)) := (HF3.out.drewN (nq + 1)).alloc _
          have hw4 : w.heap.size < ((w3.drewN (nq + 1)).alloc (.cells #[.bool false, .slice none 0 0] 85)).heap.size := hR3'.lt
          generalize (w3.drewN (nq + 1)).alloc (.cells #[.bool false, .slice none 0 0] 85) = w4 at *
          go_wp2_with (go_at_call 30; refine (rfail_any hr3' k 2).mono ?_; rintro e w5 ⟨rfl, hr5, hf5⟩; have hR5 := hR3'.fr hf5 (by simp; omega); have z0 := hR5.c0; have z1 := hR5.c1; have z2 := hR5.c2; have y0 := hR5.fz 0; have y1 := hR5.fz 1; have y2 := hR5.fz 2)
          refine retT oneRes rfl (hR5.set3 _ _ _) ?_
          rw [HRv.out]
          have f := Fr.set3 w5 w.heap.size (.int .i64 0) (.int .i64 0) (.slice none 0 0)
          exact ⟨0, 0, none, 0, 0, k, dp, rfl, by rw [HL.out]; exact hr5.fr f (by simp; omega), by decide, Nat.le_refl _, hdp, hk, (F4.trans hf5).over' f (by simp)⟩
        · clear HWay
          have hq : (k : Int) < (k : Int) + (j : Int) := by omega
          have hkI : (k : Int) < s.size := by omega
          have hk0 : (0 : Int) ≤ (k : Int) := by omega
          have h48' : ((s[k].toNat : Int) == 48) = true := by simp; omega
          have hsl1 : (k : Int) ≤ (k : Int) + 1 := by omega
          have hsl2 : (k : Int) + 1 ≤ (s.size : Int) := by omega
          have hsl6 : ((k : Int) + 1).toNat = k + 1 := by omega
          go_quiet (fail)
          go_wp2_with fail
          have hX : ((w3.drewN (nq + 1)).alloc (.cells #[.bool false, .slice none 0 0] 85)).heap[w3.heap.size]? = some (.cells #[.bool false, .slice none 0 0] 85 (0, 0)) := heap_alloc_new (w3.drewN (nq + 1)) _
          have cS := setstr_any hX ⟨none, 0, 0, rfl⟩ (s.extract k (k + 1)) HXD.out (by rw [HXS.out]; omega) (by rw [HXS.out]; omega)
          have hr3' : Rp ((w3.drewN (nq + 1)).alloc (.cells #[.bool false, .slice none 0 0] 85)) pb s k dp 0 0 := (Hr3.out.drewN (nq + 1)).fr (xs := []) (Fr.al _ _) (by simp)
          have hR3' : RC ((w3.drewN (nq + 1)).alloc (.cells #[.bool false, .slice none 0 0] 85)) w.heap.size (.int .i64 0) (.int .i64 0) (.slice none 0 0) := (show RC (w3.drewN (nq + 1)) w.heap.size _ _ _ from HR3.out).fr (xs := []) (Fr.al _ _) (by simp)
          have pl3 := Hr3.out.lt
          have hll0 : (wl (valFrom 0 (s.extract k (k + 1)).data.toList)).length ≤ 1000 := Nat.le_trans (dig_len _ HXD.out (by rw [Array.length_toList]; show (s.extract k (k + 1)).size ≤ 120; rw [HXS.out]; omega)) (by omega)
          have hRv := HRR.out
          generalize hn : valFrom 0 (s.extract k (k + 1)).data.toList = nn at *
          have HC := Lib.hid cS
          clear cS hX hn
          go_region_held3 (fun w' => w'.cell? ⟨pb, 0, none⟩ = some (.string s) ∧ w'.cell? ⟨pb, 1, none⟩ = some (.int .i64 k)) (first | go_keep | exact ⟨hr4.c0, hr4.c1⟩) (first | (go_at_call 202; refine HC.out.mono ?_; rintro e w4 ⟨rfl, I4, f4⟩; have hr4 := hr3'.fr f4 (by simp; omega); have hR4 := hR3'.fr f4 (by simp; omega)))
          have F4 : Fr [pb] w w4 := (((HF3.out.drewN (nq + 1)).alloc (.cells #[.bool false, .slice none 0 0] 85)).over' f4 (by simp; omega))
          have ci := isint_any I4 hll0
          have hw4 : w.heap.size < w4.heap.size := hR4.lt
          have hpr : pb ≠ w.heap.size := by omega
          by_cases hv : nn < 9223372036854775808
          · rw [if_pos ⟨by omega, hv⟩] at hRv
            have HRv := Lib.hid hRv
            have e1 : decide (nn < 9223372036854775808) = true := by simpa using hv
            rw [e1] at ci
            have u1 := hr4.c1
            have u2 := hr4.fz 1
            have u3 := hr4.lt
            have g4 : Fr [pb] w4 (w4.setCell ⟨pb, 1, none⟩ (.int .i64 ((k : Int) + 1))) := (Fr.refl _ _).setCell (.inl (by simp)) _
            have hr5 : Rp (w4.setCell ⟨pb, 1, none⟩ (.int .i64 ((k : Int) + 1))) pb s (k + 1) dp 0 0 := by have := hr4.set1 (k + 1); push_cast at this; exact this
            have I5 := I4.frP g4 hr4
            have hR5 := hR4.fr g4 (by simp; omega)
            have c64 := int64_any I5 hv
            have HI5 := Lib.hid c64
            have HR5 := Lib.hid hR5
            have Hr5 := Lib.hid hr5
            have HF5 := Lib.hid (F4.trans g4)
            clear hr5 hR5 I5 g4 F4 I4 hR3' hr3' HC hRv c64 f4
            go_wp2_with (go_at_call 39; refine ci.mono ?_; rintro e w5 ⟨rfl, rfl⟩)
            generalize w4.setCell ⟨pb, 1, none⟩ (.int .i64 ((k : Int) + 1)) = w5 at *
            go_wp2_with (go_at_call 40; refine HI5.out.mono ?_; rintro e w6 ⟨rfl, mm, rfl⟩; refine Hid.out ?_)
            refine Lib.hid ?_
            have hR6 : RC (w5.drewN mm) w.heap.size (.int .i64 0) (.int .i64 0) (.slice none 0 0) := HR5.out
            have z0 := hR6.c0
            have z1 := hR6.c1
            have z2 := hR6.c2
            have y0 := hR6.fz 0
            have y1 := hR6.fz 1
            have y2 := hR6.fz 2
            have hr6 : Rp (w5.drewN mm) pb s (k + 1) dp 0 0 := Hr5.out
            have F6 : Fr [pb] w (w5.drewN mm) := HF5.out.drewN mm
            generalize w5.drewN mm = w6 at *
            go_wp2_with fail
            refine retT oneRes rfl (hR6.set3 _ _ _) ?_
            rw [HRv.out]
            have f := Fr.set3 w6 w.heap.size (.int .i64 0) (.int .i64 nn) (.slice none 0 0)
            exact ⟨0, nn, none, 0, 0, k + 1, rfl, ⟨rfl, hv⟩, hr6.fr f (by simp; omega), by omega, rfl, F6.over' f (by simp)⟩
          · rw [if_neg (fun hh => hv hh.2)] at hRv
            have HRv := Lib.hid hRv
            have e1 : decide (nn < 9223372036854775808) = false := by simpa using hv
            rw [e1] at ci
            have HL := Lib.hid (len_drop (s := s) hk)
            go_wp2_with (first | (go_at_call 39; refine ci.mono ?_; rintro e w5 ⟨rfl, rfl⟩) | (go_at_call 30; refine (rfail_any hr4 k 2).mono ?_; rintro e w5 ⟨rfl, hr5, hf5⟩; have hR5 := hR4.fr hf5 (by simp; omega); have z0 := hR5.c0; have z1 := hR5.c1; have z2 := hR5.c2; have y0 := hR5.fz 0; have y1 := hR5.fz 1; have y2 := hR5.fz 2))
            refine retT oneRes rfl (hR5.set3 _ _ _) ?_
            rw [HRv.out]
            have f := Fr.set3 w5 w.heap.size (.int .i64 0) (.int .i64 0) (.slice none 0 0)
            exact ⟨0, 0, none, 0, 0, k, dp, rfl, by rw [HL.out]; exact hr5.fr f (by simp; omega), by decide, Nat.le_refl _, hdp, hk, (F4.trans hf5).over' f (by simp)⟩
        · clear HWay
          have hq : (k : Int) < (k : Int) + (nd : Int) := by omega
          have hkI : (k : Int) < s.size := by omega
          have hk0 : (0 : Int) ≤ (k : Int) := by omega
          have h48' : ((s[k].toNat : Int) == 48) = false := beq_eq_false_iff_ne.2 (by omega)
          have hsl1 : (k : Int) ≤ (k : Int) + (nd : Int) := by omega
          have hsl2 : (k : Int) + (nd : Int) ≤ (s.size : Int) := by omega
          go_quiet (fail)
          go_wp2_with fail
          have hX : ((w3.drewN (nq + 1)).alloc (.cells #[.bool false, .slice none 0 0] 85)).heap[w3.heap.size]? = some (.cells #[.bool false, .slice none 0 0] 85 (0, 0)) := heap_alloc_new (w3.drewN (nq + 1)) _
          have cS := setstr_any hX ⟨none, 0, 0, rfl⟩ (s.extract k (k + nd)) HXD.out (by rw [HXS.out]; omega) (by rw [HXS.out]; omega)
          have hr3' : Rp ((w3.drewN (nq + 1)).alloc (.cells #[.bool false, .slice none 0 0] 85)) pb s k dp 0 0 := (Hr3.out.drewN (nq + 1)).fr (xs := []) (Fr.al _ _) (by simp)
          have hR3' : RC ((w3.drewN (nq + 1)).alloc (.cells #[.bool false, .slice none 0 0] 85)) w.heap.size (.int .i64 0) (.int .i64 0) (.slice none 0 0) := (show RC (w3.drewN (nq + 1)) w.heap.size _ _ _ from HR3.out).fr (xs := []) (Fr.al _ _) (by simp)
          have pl3 := Hr3.out.lt
          have hll0 : (wl (valFrom 0 (s.extract k (k + nd)).data.toList)).length ≤ 1000 := Nat.le_trans (dig_len _ HXD.out (by rw [Array.length_toList]; show (s.extract k (k + nd)).size ≤ 120; rw [HXS.out]; omega)) (by omega)
          have hRv := HRR.out
          generalize hn : valFrom 0 (s.extract k (k + nd)).data.toList = nn at *
          have HC := Lib.hid cS
          clear cS hX hn
          go_region_held3 (fun w' => w'.cell? ⟨pb, 0, none⟩ = some (.string s) ∧ w'.cell? ⟨pb, 1, none⟩ = some (.int .i64 k)) (first | go_keep | exact ⟨hr4.c0, hr4.c1⟩) (first | (go_at_call 202; refine HC.out.mono ?_; rintro e w4 ⟨rfl, I4, f4⟩; have hr4 := hr3'.fr f4 (by simp; omega); have hR4 := hR3'.fr f4 (by simp; omega)))
          have F4 : Fr [pb] w w4 := (((HF3.out.drewN (nq + 1)).alloc (.cells #[.bool false, .slice none 0 0] 85)).over' f4 (by simp; omega))
          have ci := isint_any I4 hll0
          have hw4 : w.heap.size < w4.heap.size := hR4.lt
          have hpr : pb ≠ w.heap.size := by omega
          by_cases hv : nn < 9223372036854775808
          · rw [if_pos ⟨by omega, hv⟩] at hRv
            have HRv := Lib.hid hRv
            have e1 : decide (nn < 9223372036854775808) = true := by simpa using hv
            rw [e1] at ci
            have u1 := hr4.c1
            have u2 := hr4.fz 1
            have u3 := hr4.lt
            have g4 : Fr [pb] w4 (w4.setCell ⟨pb, 1, none⟩ (.int .i64 ((k : Int) + (nd : Int)))) := (Fr.refl _ _).setCell (.inl (by simp)) _
            have hr5 : Rp (w4.setCell ⟨pb, 1, none⟩ (.int .i64 ((k : Int) + (nd : Int)))) pb s (k + nd) dp 0 0 := by have := hr4.set1 (k + nd); push_cast at this; exact this
            have I5 := I4.frP g4 hr4
            have hR5 := hR4.fr g4 (by simp; omega)
            have c64 := int64_any I5 hv
            have HI5 := Lib.hid c64
            have HR5 := Lib.hid hR5
            have Hr5 := Lib.hid hr5
            have HF5 := Lib.hid (F4.trans g4)
            clear hr5 hR5 I5 g4 F4 I4 hR3' hr3' HC hRv c64 f4
            go_wp2_with (go_at_call 39; refine ci.mono ?_; rintro e w5 ⟨rfl, rfl⟩)
            generalize w4.setCell ⟨pb, 1, none⟩ (.int .i64 ((k : Int) + (nd : Int))) = w5 at *
            go_wp2_with (go_at_call 40; refine HI5.out.mono ?_; rintro e w6 ⟨rfl, mm, rfl⟩; refine Hid.out ?_)
            refine Lib.hid ?_
            have hR6 : RC (w5.drewN mm) w.heap.size (.int .i64 0) (.int .i64 0) (.slice none 0 0) := HR5.out
            have z0 := hR6.c0
            have z1 := hR6.c1
            have z2 := hR6.c2
            have y0 := hR6.fz 0
            have y1 := hR6.fz 1
            have y2 := hR6.fz 2
            have hr6 : Rp (w5.drewN mm) pb s (k + nd) dp 0 0 := Hr5.out
            have F6 : Fr [pb] w (w5.drewN mm) := HF5.out.drewN mm
            generalize w5.drewN mm = w6 at *
            go_wp2_with fail
            refine retT oneRes rfl (hR6.set3 _ _ _) ?_
            rw [HRv.out]
            have f := Fr.set3 w6 w.heap.size (.int .i64 0) (.int .i64 nn) (.slice none 0 0)
            exact ⟨0, nn, none, 0, 0, k + nd, rfl, ⟨rfl, hv⟩, hr6.fr f (by simp; omega), by omega, rfl, F6.over' f (by simp)⟩
          · rw [if_neg (fun hh => hv hh.2)] at hRv
            have HRv := Lib.hid hRv
            have e1 : decide (nn < 9223372036854775808) = false := by simpa using hv
            rw [e1] at ci
            have HL := Lib.hid (len_drop (s := s) hk)
            go_wp2_with (first | (go_at_call 39; refine ci.mono ?_; rintro e w5 ⟨rfl, rfl⟩) | (go_at_call 30; refine (rfail_any hr4 k 2).mono ?_; rintro e w5 ⟨rfl, hr5, hf5⟩; have hR5 := hR4.fr hf5 (by simp; omega); have z0 := hR5.c0; have z1 := hR5.c1; have z2 := hR5.c2; have y0 := hR5.fz 0; have y1 := hR5.fz 1; have y2 := hR5.fz 2))
            refine retT oneRes rfl (hR5.set3 _ _ _) ?_
            rw [HRv.out]
            have f := Fr.set3 w5 w.heap.size (.int .i64 0) (.int .i64 0) (.slice none 0 0)
            exact ⟨0, 0, none, 0, 0, k, dp, rfl, by rw [HL.out]; exact hr5.fr f (by simp; omega), by decide, Nat.le_refl _, hdp, hk, (F4.trans hf5).over' f (by simp)⟩
end Go.Proofs.YtnapbfilkahobaaGreatDoor

/- The document's reader: min and max. -/
namespace Go.Proofs.YtnapbfilkahobaaGreatDoor
open Go.RowKit

theorem pre_head {u : List UInt8} {a1 a2 a3 a4 : UInt8} (h : [a1, a2, a3, a4] <+: u) : u.head? = some a1 := by obtain ⟨t, rfl⟩ := h; rfl
theorem pre_len {s : ByteArray} {k : Nat} {a1 a2 a3 a4 : UInt8} (h : [a1, a2, a3, a4] <+: s.data.toList.drop k) : k + 4 ≤ s.size := by
  have := h.length_le
  simp at this
  omega
theorem single_min {inC : Nat → List UInt8 → Res} {u : List UInt8} (h : [109, 105, 110, 40] <+: u) : singleF inC u = pairF inC 109 u.length (u.drop 4) := by
  simp only [singleF, pre_head h]; simp [h]
theorem single_max {inC : Nat → List UInt8 → Res} {u : List UInt8} (h : [109, 97, 120, 40] <+: u) : singleF inC u = pairF inC 77 u.length (u.drop 4) := by
  have hn : ¬ [109, 105, 110, 40] <+: u := by
    obtain ⟨t, rfl⟩ := h
    intro hh; simp at hh
  simp only [singleF, pre_head h]; simp [h, hn]

set_option maxHeartbeats 8000000 in
set_option maxRecDepth 100000 in
theorem min_zero  {w : World} {pb k dp : Nat} {s : ByteArray} (h : Rp w pb s k dp 0 0) (hk : k ≤ s.size) (hs : s.size ≤ 120) (hd : dp + 0 = 20) (hm : [109, 105, 110, 40] <+: s.data.toList.drop k)  :
    Calls Tryz.prog 174 #[.pointer (some ⟨pb, 0, none⟩)] w (OutT pb s dp w (singleF (inCh (0)) (s.data.toList.drop k))) := by
  have hA : Rp (w.alloc (.cells tz 24)) pb s k dp 0 0 := h.fr (xs := []) ((Fr.refl _ _).alloc _) (by simp)
  have hR : RC (w.alloc (.cells tz 24)) w.heap.size (.int .i64 0) (.int .i64 0) (.slice none 0 0) := RC.new w
  have hpl := h.lt
  have c1 := h.c1
  have FA := Fr.al (xs := [pb]) w (.cells tz 24)
  have _ := hk
  have hj4 := pre_len hm
  have hch : singleF (inCh (0)) (s.data.toList.drop k) = .bad (s.data.toList.drop k).length 4 := by
    rw [single_min hm, pairF, List.drop_drop]; rw [inCh_zero]
  rw [hch]
  clear hch
  · go_enter Tryz.func174, Tryz.ntmps174
    go_wp2_with (go_at_call 105; refine (ris_take hA hs hm (by decide)).mono ?_; rintro e w2 ⟨rfl, hr2, hf2⟩; refine Hid.out ?_)
    refine Lib.hid ?_
    have hr2 : Rp w2 pb s (k + 4) dp 0 0 := hr2
    have hR2 := hR.fr hf2 (by simp; omega)
    have F2 := FA.trans hf2
    have hs2 := hf2.size
    simp at hs2
    have HL := Lib.hid (len_drop (s := s) hk)
    have hd20 : dp = 20 := by omega
    go_wp2_with (go_at_call 65; refine (rdown_no (show Rp _ pb s (k + 4) 20 0 0 from hd20 ▸ hr2) k).mono ?_; rintro e w5 ⟨rfl, hr5, hf5⟩; have hR5 := hR2.fr hf5 (by simp; omega); have z0 := hR5.c0; have z1 := hR5.c1; have z2 := hR5.c2; have y0 := hR5.fz 0; have y1 := hR5.fz 1; have y2 := hR5.fz 2)
    refine retT oneRes rfl (hR5.set3 _ _ _) ?_
    have f := Fr.set3 w5 w.heap.size (.int .i64 0) (.int .i64 0) (.slice none 0 0)
    exact ⟨0, 0, none, 0, 0, k + 4, 20, rfl, by rw [HL.out]; exact hr5.fr f (by simp; omega), by decide, by omega, by omega, hj4, (F2.trans hf5).over' f (by simp)⟩

set_option maxHeartbeats 8000000 in
set_option maxRecDepth 100000 in
theorem min_bad1 {d : Nat} (ih : WhOK d) {w : World} {pb k dp : Nat} {s : ByteArray} (h : Rp w pb s k dp 0 0) (hk : k ≤ s.size) (hs : s.size ≤ 120) (hd : dp + (d + 1) = 20) (hm : [109, 105, 110, 40] <+: s.data.toList.drop k) {pl er : Nat} (hr1' : chP d (s.data.toList.drop (k + 4)) = .bad pl er) :
    Calls Tryz.prog 174 #[.pointer (some ⟨pb, 0, none⟩)] w (OutT pb s dp w (singleF (inCh ((d + 1))) (s.data.toList.drop k))) := by
  have hA : Rp (w.alloc (.cells tz 24)) pb s k dp 0 0 := h.fr (xs := []) ((Fr.refl _ _).alloc _) (by simp)
  have hR : RC (w.alloc (.cells tz 24)) w.heap.size (.int .i64 0) (.int .i64 0) (.slice none 0 0) := RC.new w
  have hpl := h.lt
  have c1 := h.c1
  have FA := Fr.al (xs := [pb]) w (.cells tz 24)
  have _ := hk
  have hj4 := pre_len hm
  have hch : singleF (inCh ((d + 1))) (s.data.toList.drop k) = .bad pl er := by
    rw [single_min hm, pairF, List.drop_drop]; rw [inCh_succ, hr1']
  rw [hch]
  clear hch
  · go_enter Tryz.func174, Tryz.ntmps174
    go_wp2_with (go_at_call 105; refine (ris_take hA hs hm (by decide)).mono ?_; rintro e w2 ⟨rfl, hr2, hf2⟩; refine Hid.out ?_)
    refine Lib.hid ?_
    have hr2 : Rp w2 pb s (k + 4) dp 0 0 := hr2
    have hR2 := hR.fr hf2 (by simp; omega)
    have F2 := FA.trans hf2
    have hs2 := hf2.size
    simp at hs2
    go_wp2_with (go_at_call 65; refine (rdown_yes hr2 (by omega) k).mono ?_; rintro e w5 ⟨rfl, hr5, hf5⟩; refine Hid.out ?_)
    refine Lib.hid ?_
    have hR5 := hR2.fr hf5 (by simp; omega)
    have F5 := F2.trans hf5
    have hs5 := hf5.size
    have co := ih w5 pb (k + 4) (dp + 1) s hr5 hj4 hs (by omega)
    rw [hr1'] at co
    clear hr1'
    go_wp2_with (go_at_call 29; refine co.mono ?_; rintro e w6 ⟨a, b, A, n, c, k6, dp6, rfl, hr6, he6, hd6, hd7, hk6, hf6⟩; have hn1 : ((er : Int) == 0) = false := beq_eq_false_iff_ne.2 (by omega); have hn2 : ((er : Int) != 0) = true := (by simp; omega); have hR6 := hR5.fr hf6 (by simp; omega); have b6' := hr6.c4; have p6 := hr6.lt; have r6 := hR6.lt; have z0 := hR6.c0; have z1 := hR6.c1; have z2 := hR6.c2; have y0 := hR6.fz 0; have y1 := hR6.fz 1; have y2 := hR6.fz 2)
    have g9 := Fr.set3 w6 w.heap.size (.int .i64 0) (.int .i64 0) (.slice none 0 0)
    have hRp := hr6.fr g9 (by simp; omega)
    have hRC := hR6.set3 (.int .i64 0) (.int .i64 0) (.slice none 0 0)
    have hF := (F5.trans hf6).over' g9 (by simp)
    generalize ((w6.setCell ⟨w.heap.size, 0, none⟩ (.int .i64 0)).setCell ⟨w.heap.size, 1, none⟩ (.int .i64 0)).setCell ⟨w.heap.size, 2, none⟩ (.slice none 0 0) = w8 at *
    refine retT oneRes rfl (hRC.fr (Fr.al (xs := []) _ _) (by simp)) ?_
    exact ⟨0, 0, none, 0, 0, k6, dp6, rfl, hRp.fr (Fr.al (xs := []) _ _) (by simp), he6, by omega, hd7, hk6, hF.alloc _⟩

set_option maxHeartbeats 8000000 in
set_option maxRecDepth 100000 in
theorem min_no1 {d : Nat} (ih : WhOK d) {w : World} {pb k dp : Nat} {s : ByteArray} (h : Rp w pb s k dp 0 0) (hk : k ≤ s.size) (hs : s.size ≤ 120) (hd : dp + (d + 1) = 20) (hm : [109, 105, 110, 40] <+: s.data.toList.drop k) {ta : Tm} {v : List UInt8} (hr1' : chP d (s.data.toList.drop (k + 4)) = .ok ta v) (hc : ¬ v.head? = some 44) :
    Calls Tryz.prog 174 #[.pointer (some ⟨pb, 0, none⟩)] w (OutT pb s dp w (singleF (inCh ((d + 1))) (s.data.toList.drop k))) := by
  have hA : Rp (w.alloc (.cells tz 24)) pb s k dp 0 0 := h.fr (xs := []) ((Fr.refl _ _).alloc _) (by simp)
  have hR : RC (w.alloc (.cells tz 24)) w.heap.size (.int .i64 0) (.int .i64 0) (.slice none 0 0) := RC.new w
  have hpl := h.lt
  have c1 := h.c1
  have FA := Fr.al (xs := [pb]) w (.cells tz 24)
  have _ := hk
  have hj4 := pre_len hm
  have hch : singleF (inCh ((d + 1))) (s.data.toList.drop k) = .bad v.length 2 := by
    rw [single_min hm, pairF, List.drop_drop]; rw [inCh_succ, hr1']; simp only; rw [if_neg hc]
  rw [hch]
  clear hch
  · go_enter Tryz.func174, Tryz.ntmps174
    go_wp2_with (go_at_call 105; refine (ris_take hA hs hm (by decide)).mono ?_; rintro e w2 ⟨rfl, hr2, hf2⟩; refine Hid.out ?_)
    refine Lib.hid ?_
    have hr2 : Rp w2 pb s (k + 4) dp 0 0 := hr2
    have hR2 := hR.fr hf2 (by simp; omega)
    have F2 := FA.trans hf2
    have hs2 := hf2.size
    simp at hs2
    go_wp2_with (go_at_call 65; refine (rdown_yes hr2 (by omega) k).mono ?_; rintro e w5 ⟨rfl, hr5, hf5⟩; refine Hid.out ?_)
    refine Lib.hid ?_
    have hR5 := hR2.fr hf5 (by simp; omega)
    have F5 := F2.trans hf5
    have hs5 := hf5.size
    have co := ih w5 pb (k + 4) (dp + 1) s hr5 hj4 hs (by omega)
    rw [hr1'] at co
    clear hr1'
    go_wp2_with (go_at_call 29; refine co.mono ?_; rintro e w6 ⟨a, b, A, n, c, k6, rfl, ht6, hr6, hk6, rfl, hf6⟩; have hR6 := hR5.fr hf6 (by simp; omega); have b6' := hr6.c4; have p6 := hr6.lt; have r6 := hR6.lt; have z0 := hR6.c0; have z1 := hR6.c1; have z2 := hR6.c2; have y0 := hR6.fz 0; have y1 := hR6.fz 1; have y2 := hR6.fz 2)
    have hs6 := hf6.size
    have hC7 : RC (w6.alloc (.cells #[.int .i64 a, .int .i64 b, .slice A n c] 24)) w6.heap.size (.int .i64 a) (.int .i64 b) (.slice A n c) := RC.new w6
    have hr7 := hr6.fr (Fr.al (xs := []) w6 (.cells #[.int .i64 a, .int .i64 b, .slice A n c] 24)) (by simp)
    have hR7 := hR6.fr (Fr.al (xs := []) w6 (.cells #[.int .i64 a, .int .i64 b, .slice A n c] 24)) (by simp)
    have t7 := (ht6.mono (S' := fun p => w.heap.size < p) (fun p hp _ => by omega)).alloc (.cells #[.int .i64 a, .int .i64 b, .slice A n c] 24)
    have F7 := (F5.trans hf6).alloc (.cells #[.int .i64 a, .int .i64 b, .slice A n c] 24)
    generalize w6.alloc (.cells #[.int .i64 a, .int .i64 b, .slice A n c] 24) = w7 at *
    generalize w6.heap.size = B7 at *
    clear z0 z1 z2 y0 y1 y2 b6'
    have hpre : ¬ (⟨#[44]⟩ : ByteArray).data.toList <+: s.data.toList.drop k6 := by
      intro hh; apply hc
      obtain ⟨t9, ht9⟩ := hh
      rw [← ht9]; rfl
    have HL := Lib.hid (len_drop (s := s) hk6)
    refine (rwant_no hr7 hk6 hs (by decide) hpre).mono ?_
    rintro e w9 ⟨rfl, hr9, hf9⟩
    have hR9 := hR7.fr hf9 (by simp; omega)
    have b9 := hr9.c4
    have z0 := hR9.c0
    have z1 := hR9.c1
    have z2 := hR9.c2
    have y0 := hR9.fz 0
    have y1 := hR9.fz 1
    have y2 := hR9.fz 2
    go_wp2_with fail
    have g9 := Fr.set3 w9 w.heap.size (.int .i64 0) (.int .i64 0) (.slice none 0 0)
    refine retT oneRes rfl (hR9.set3 _ _ _) ?_
    exact ⟨0, 0, none, 0, 0, k6, dp + 1, rfl, by rw [HL.out]; exact hr9.fr g9 (by simp; omega), by decide, by omega, by omega, hk6, (F7.trans hf9).over' g9 (by simp)⟩

set_option maxHeartbeats 8000000 in
set_option maxRecDepth 100000 in
theorem min_bad2 {d : Nat} (ih : WhOK d) {w : World} {pb k dp : Nat} {s : ByteArray} (h : Rp w pb s k dp 0 0) (hk : k ≤ s.size) (hs : s.size ≤ 120) (hd : dp + (d + 1) = 20) (hm : [109, 105, 110, 40] <+: s.data.toList.drop k) {ta : Tm} {v : List UInt8} (hr1' : chP d (s.data.toList.drop (k + 4)) = .ok ta v) (hc : v.head? = some 44) {pl er : Nat} (hr2' : chP d (v.drop 1) = .bad pl er) :
    Calls Tryz.prog 174 #[.pointer (some ⟨pb, 0, none⟩)] w (OutT pb s dp w (singleF (inCh ((d + 1))) (s.data.toList.drop k))) := by
  have hA : Rp (w.alloc (.cells tz 24)) pb s k dp 0 0 := h.fr (xs := []) ((Fr.refl _ _).alloc _) (by simp)
  have hR : RC (w.alloc (.cells tz 24)) w.heap.size (.int .i64 0) (.int .i64 0) (.slice none 0 0) := RC.new w
  have hpl := h.lt
  have c1 := h.c1
  have FA := Fr.al (xs := [pb]) w (.cells tz 24)
  have _ := hk
  have hj4 := pre_len hm
  have hch : singleF (inCh ((d + 1))) (s.data.toList.drop k) = .bad pl er := by
    rw [single_min hm, pairF, List.drop_drop]; rw [inCh_succ, hr1']; simp only; rw [if_pos hc, inCh_succ, hr2']
  rw [hch]
  clear hch
  · go_enter Tryz.func174, Tryz.ntmps174
    go_wp2_with (go_at_call 105; refine (ris_take hA hs hm (by decide)).mono ?_; rintro e w2 ⟨rfl, hr2, hf2⟩; refine Hid.out ?_)
    refine Lib.hid ?_
    have hr2 : Rp w2 pb s (k + 4) dp 0 0 := hr2
    have hR2 := hR.fr hf2 (by simp; omega)
    have F2 := FA.trans hf2
    have hs2 := hf2.size
    simp at hs2
    go_wp2_with (go_at_call 65; refine (rdown_yes hr2 (by omega) k).mono ?_; rintro e w5 ⟨rfl, hr5, hf5⟩; refine Hid.out ?_)
    refine Lib.hid ?_
    have hR5 := hR2.fr hf5 (by simp; omega)
    have F5 := F2.trans hf5
    have hs5 := hf5.size
    have co := ih w5 pb (k + 4) (dp + 1) s hr5 hj4 hs (by omega)
    rw [hr1'] at co
    clear hr1'
    go_wp2_with (go_at_call 29; refine co.mono ?_; rintro e w6 ⟨a, b, A, n, c, k6, rfl, ht6, hr6, hk6, rfl, hf6⟩; have hR6 := hR5.fr hf6 (by simp; omega); have b6' := hr6.c4; have p6 := hr6.lt; have r6 := hR6.lt; have z0 := hR6.c0; have z1 := hR6.c1; have z2 := hR6.c2; have y0 := hR6.fz 0; have y1 := hR6.fz 1; have y2 := hR6.fz 2)
    have hs6 := hf6.size
    have hC7 : RC (w6.alloc (.cells #[.int .i64 a, .int .i64 b, .slice A n c] 24)) w6.heap.size (.int .i64 a) (.int .i64 b) (.slice A n c) := RC.new w6
    have hr7 := hr6.fr (Fr.al (xs := []) w6 (.cells #[.int .i64 a, .int .i64 b, .slice A n c] 24)) (by simp)
    have hR7 := hR6.fr (Fr.al (xs := []) w6 (.cells #[.int .i64 a, .int .i64 b, .slice A n c] 24)) (by simp)
    have t7 := (ht6.mono (S' := fun p => w.heap.size < p) (fun p hp _ => by omega)).alloc (.cells #[.int .i64 a, .int .i64 b, .slice A n c] 24)
    have F7 := (F5.trans hf6).alloc (.cells #[.int .i64 a, .int .i64 b, .slice A n c] 24)
    generalize w6.alloc (.cells #[.int .i64 a, .int .i64 b, .slice A n c] 24) = w7 at *
    generalize w6.heap.size = B7 at *
    clear z0 z1 z2 y0 y1 y2 b6'
    have hj6 : k6 + 1 ≤ s.size := head_le hc
    have hpre : (⟨#[44]⟩ : ByteArray).data.toList <+: s.data.toList.drop k6 := pre_iff hc
    have hdd : (s.data.toList.drop k6).drop 1 = s.data.toList.drop (k6 + 1) := drop_drop1 s k6
    rw [hdd] at hr2'
    refine (rwant_yes hr7 hs hpre (by decide)).mono ?_
    rintro e w9 ⟨rfl, hr9, hf9⟩
    have hr9 : Rp w9 pb s (k6 + 1) (dp + 1) 0 0 := hr9
    have hR9 := hR7.fr hf9 (by simp; omega)
    have hC9 := hC7.fr hf9 (by simp; omega)
    have b9 := hr9.c4
    have lC9 := hC9.lt
    have t9' := t7.fr hf9 (by simp; omega)
    have F9 := F7.trans hf9
    have co2 := ih w9 pb (k6 + 1) (dp + 1) s hr9 hj6 hs (by omega)
    rw [hr2'] at co2
    clear hr2' hdd
    go_wp2_with (go_at_call 29; refine co2.mono ?_; rintro e w10 ⟨a2, b2, A2, n2, c2, k10, dp10, rfl, hr10, he10, hd10, hd11, hk10, hf10⟩; obtain ⟨dq, rfl⟩ : ∃ dq, dp10 = dq + 1 := ⟨dp10 - 1, by omega⟩; have hn1 : ((er : Int) == 0) = false := beq_eq_false_iff_ne.2 (by omega); have hR10 := hR9.fr hf10 (by simp; omega); have hC10 := hC9.fr hf10 (by simp; omega); have b10' := hr10.c4; have d10 := hr10.c2; have e10 := hr10.fz 2; have p10 := hr10.lt; have r10 := hR10.lt; have m10 := hC10.lt; have x0 := hC10.c0; have x1 := hC10.c1; have x2 := hC10.c2; have z0 := hR10.c0; have z1 := hR10.c1; have z2 := hR10.c2; have y0 := hR10.fz 0; have y1 := hR10.fz 1; have y2 := hR10.fz 2)
    have g12 : Fr [pb] w10 (w10.setCell ⟨pb, 2, none⟩ (.int .i64 (dq : Int))) := (Fr.refl _ _).setCell (.inl (by simp)) _
    have g13 := Fr.set3 (w10.setCell ⟨pb, 2, none⟩ (.int .i64 (dq : Int))) w.heap.size (.int .i64 109) (.int .i64 0) (.slice (some ⟨w10.heap.size + 1, 0, none⟩) 2 2)
    have hRp := (hr10.set2 dq).fr g13 (by simp; omega)
    have hRC := (hR10.fr g12 (by simp; omega)).set3 (.int .i64 109) (.int .i64 0) (.slice (some ⟨w10.heap.size + 1, 0, none⟩) 2 2)
    have hF := ((F9.trans hf10).trans g12).over' g13 (by simp)
    generalize (((w10.setCell ⟨pb, 2, none⟩ (.int .i64 (dq : Int))).setCell ⟨w.heap.size, 0, none⟩ (.int .i64 109)).setCell ⟨w.heap.size, 1, none⟩ (.int .i64 0)).setCell ⟨w.heap.size, 2, none⟩ (.slice (some ⟨w10.heap.size + 1, 0, none⟩) 2 2) = w12 at *
    refine retT oneRes rfl ((hRC.fr (Fr.al (xs := []) _ _) (by simp)).fr (Fr.al (xs := []) _ _) (by simp)) ?_
    exact ⟨109, 0, _, 2, 2, k10, dq, rfl, (hRp.fr (Fr.al (xs := []) _ _) (by simp)).fr (Fr.al (xs := []) _ _) (by simp), he10, by omega, by omega, hk10, (hF.alloc _).alloc _⟩

set_option maxHeartbeats 8000000 in
set_option maxRecDepth 100000 in
theorem min_no2 {d : Nat} (ih : WhOK d) {w : World} {pb k dp : Nat} {s : ByteArray} (h : Rp w pb s k dp 0 0) (hk : k ≤ s.size) (hs : s.size ≤ 120) (hd : dp + (d + 1) = 20) (hm : [109, 105, 110, 40] <+: s.data.toList.drop k) {ta : Tm} {v : List UInt8} (hr1' : chP d (s.data.toList.drop (k + 4)) = .ok ta v) (hc : v.head? = some 44) {tb : Tm} {v2 : List UInt8} (hr2' : chP d (v.drop 1) = .ok tb v2) (hc2 : ¬ v2.head? = some 41) :
    Calls Tryz.prog 174 #[.pointer (some ⟨pb, 0, none⟩)] w (OutT pb s dp w (singleF (inCh ((d + 1))) (s.data.toList.drop k))) := by
  have hA : Rp (w.alloc (.cells tz 24)) pb s k dp 0 0 := h.fr (xs := []) ((Fr.refl _ _).alloc _) (by simp)
  have hR : RC (w.alloc (.cells tz 24)) w.heap.size (.int .i64 0) (.int .i64 0) (.slice none 0 0) := RC.new w
  have hpl := h.lt
  have c1 := h.c1
  have FA := Fr.al (xs := [pb]) w (.cells tz 24)
  have _ := hk
  have hj4 := pre_len hm
  have hch : singleF (inCh ((d + 1))) (s.data.toList.drop k) = .bad v2.length 2 := by
    rw [single_min hm, pairF, List.drop_drop]; rw [inCh_succ, hr1']; simp only; rw [if_pos hc, inCh_succ, hr2']; simp only; rw [if_neg hc2]
  rw [hch]
  clear hch
  · go_enter Tryz.func174, Tryz.ntmps174
    go_wp2_with (go_at_call 105; refine (ris_take hA hs hm (by decide)).mono ?_; rintro e w2 ⟨rfl, hr2, hf2⟩; refine Hid.out ?_)
    refine Lib.hid ?_
    have hr2 : Rp w2 pb s (k + 4) dp 0 0 := hr2
    have hR2 := hR.fr hf2 (by simp; omega)
    have F2 := FA.trans hf2
    have hs2 := hf2.size
    simp at hs2
    go_wp2_with (go_at_call 65; refine (rdown_yes hr2 (by omega) k).mono ?_; rintro e w5 ⟨rfl, hr5, hf5⟩; refine Hid.out ?_)
    refine Lib.hid ?_
    have hR5 := hR2.fr hf5 (by simp; omega)
    have F5 := F2.trans hf5
    have hs5 := hf5.size
    have co := ih w5 pb (k + 4) (dp + 1) s hr5 hj4 hs (by omega)
    rw [hr1'] at co
    clear hr1'
    go_wp2_with (go_at_call 29; refine co.mono ?_; rintro e w6 ⟨a, b, A, n, c, k6, rfl, ht6, hr6, hk6, rfl, hf6⟩; have hR6 := hR5.fr hf6 (by simp; omega); have b6' := hr6.c4; have p6 := hr6.lt; have r6 := hR6.lt; have z0 := hR6.c0; have z1 := hR6.c1; have z2 := hR6.c2; have y0 := hR6.fz 0; have y1 := hR6.fz 1; have y2 := hR6.fz 2)
    have hs6 := hf6.size
    have hC7 : RC (w6.alloc (.cells #[.int .i64 a, .int .i64 b, .slice A n c] 24)) w6.heap.size (.int .i64 a) (.int .i64 b) (.slice A n c) := RC.new w6
    have hr7 := hr6.fr (Fr.al (xs := []) w6 (.cells #[.int .i64 a, .int .i64 b, .slice A n c] 24)) (by simp)
    have hR7 := hR6.fr (Fr.al (xs := []) w6 (.cells #[.int .i64 a, .int .i64 b, .slice A n c] 24)) (by simp)
    have t7 := (ht6.mono (S' := fun p => w.heap.size < p) (fun p hp _ => by omega)).alloc (.cells #[.int .i64 a, .int .i64 b, .slice A n c] 24)
    have F7 := (F5.trans hf6).alloc (.cells #[.int .i64 a, .int .i64 b, .slice A n c] 24)
    generalize w6.alloc (.cells #[.int .i64 a, .int .i64 b, .slice A n c] 24) = w7 at *
    generalize w6.heap.size = B7 at *
    clear z0 z1 z2 y0 y1 y2 b6'
    have hj6 : k6 + 1 ≤ s.size := head_le hc
    have hpre : (⟨#[44]⟩ : ByteArray).data.toList <+: s.data.toList.drop k6 := pre_iff hc
    have hdd : (s.data.toList.drop k6).drop 1 = s.data.toList.drop (k6 + 1) := drop_drop1 s k6
    rw [hdd] at hr2'
    refine (rwant_yes hr7 hs hpre (by decide)).mono ?_
    rintro e w9 ⟨rfl, hr9, hf9⟩
    have hr9 : Rp w9 pb s (k6 + 1) (dp + 1) 0 0 := hr9
    have hR9 := hR7.fr hf9 (by simp; omega)
    have hC9 := hC7.fr hf9 (by simp; omega)
    have b9 := hr9.c4
    have lC9 := hC9.lt
    have t9' := t7.fr hf9 (by simp; omega)
    have F9 := F7.trans hf9
    have co2 := ih w9 pb (k6 + 1) (dp + 1) s hr9 hj6 hs (by omega)
    rw [hr2'] at co2
    clear hr2' hdd
    go_wp2_with (go_at_call 29; refine co2.mono ?_; rintro e w10 ⟨a2, b2, A2, n2, c2, k10, rfl, ht10, hr10, hk10, rfl, hf10⟩; have hR10 := hR9.fr hf10 (by simp; omega); have hC10 := hC9.fr hf10 (by simp; omega); have b10' := hr10.c4; have d10 := hr10.c2; have e10 := hr10.fz 2; have p10 := hr10.lt; have r10 := hR10.lt; have m10 := hC10.lt; have x0 := hC10.c0; have x1 := hC10.c1; have x2 := hC10.c2; have z0 := hR10.c0; have z1 := hR10.c1; have z2 := hR10.c2; have y0 := hR10.fz 0; have y1 := hR10.fz 1; have y2 := hR10.fz 2)
    have hs9 := hf9.size
    have hs10 := hf10.size
    have hD11 : RC (w10.alloc (.cells #[.int .i64 a2, .int .i64 b2, .slice A2 n2 c2] 24)) w10.heap.size (.int .i64 a2) (.int .i64 b2) (.slice A2 n2 c2) := RC.new w10
    have hr11 := hr10.fr (Fr.al (xs := []) w10 (.cells #[.int .i64 a2, .int .i64 b2, .slice A2 n2 c2] 24)) (by simp)
    have hR11 := hR10.fr (Fr.al (xs := []) w10 (.cells #[.int .i64 a2, .int .i64 b2, .slice A2 n2 c2] 24)) (by simp)
    have hC11 := hC10.fr (Fr.al (xs := []) w10 (.cells #[.int .i64 a2, .int .i64 b2, .slice A2 n2 c2] 24)) (by simp)
    have tA11 := (t9'.fr hf10 (by simp; omega)).alloc (.cells #[.int .i64 a2, .int .i64 b2, .slice A2 n2 c2] 24)
    have tB11 := (ht10.mono (S' := fun p => w.heap.size < p) (fun p hp _ => by omega)).alloc (.cells #[.int .i64 a2, .int .i64 b2, .slice A2 n2 c2] 24)
    have F11 := (F9.trans hf10).alloc (.cells #[.int .i64 a2, .int .i64 b2, .slice A2 n2 c2] 24)
    generalize w10.alloc (.cells #[.int .i64 a2, .int .i64 b2, .slice A2 n2 c2] 24) = w11 at *
    generalize w10.heap.size = B11 at *
    clear x0 x1 x2 z0 z1 z2 y0 y1 y2 b10' d10 e10
    have hpre2 : ¬ (⟨#[41]⟩ : ByteArray).data.toList <+: s.data.toList.drop k10 := by
      intro hh; apply hc2
      obtain ⟨t9, ht9⟩ := hh
      rw [← ht9]; rfl
    have HL := Lib.hid (len_drop (s := s) hk10)
    refine (rwant_no hr11 hk10 hs (by decide) hpre2).mono ?_
    rintro e w13 ⟨rfl, hr13, hf13⟩
    have hR13 := hR11.fr hf13 (by simp; omega)
    have hC13 := hC11.fr hf13 (by simp; omega)
    have hD13 := hD11.fr hf13 (by simp; omega)
    have d13 := hr13.c2
    have e13 := hr13.fz 2
    have p13 := hr13.lt
    have r13 := hR13.lt
    have m13 := hC13.lt
    have n13 := hD13.lt
    have x0 := hC13.c0
    have x1 := hC13.c1
    have x2 := hC13.c2
    have s0 := hD13.c0
    have s1 := hD13.c1
    have s2 := hD13.c2
    have z0 := hR13.c0
    have z1 := hR13.c1
    have z2 := hR13.c2
    have y0 := hR13.fz 0
    have y1 := hR13.fz 1
    have y2 := hR13.fz 2
    go_wp2_with fail
    have g12 : Fr [pb] w13 (w13.setCell ⟨pb, 2, none⟩ (.int .i64 (dp : Int))) := (Fr.refl _ _).setCell (.inl (by simp)) _
    have g13 := Fr.set3 (w13.setCell ⟨pb, 2, none⟩ (.int .i64 (dp : Int))) w.heap.size (.int .i64 109) (.int .i64 0) (.slice (some ⟨w13.heap.size, 0, none⟩) 2 2)
    have hRp := (hr13.set2 dp).fr g13 (by simp; omega)
    have hRC := (hR13.fr g12 (by simp; omega)).set3 (.int .i64 109) (.int .i64 0) (.slice (some ⟨w13.heap.size, 0, none⟩) 2 2)
    have hF := ((F11.trans hf13).trans g12).over' g13 (by simp)
    have e14 : ((((w13.setCell ⟨pb, 2, none⟩ (.int .i64 (dp : Int))).setCell ⟨w.heap.size, 0, none⟩ (.int .i64 109)).setCell ⟨w.heap.size, 1, none⟩ (.int .i64 0)).setCell ⟨w.heap.size, 2, none⟩ (.slice (some ⟨w13.heap.size, 0, none⟩) 2 2)).heap.size = w13.heap.size := by simp
    generalize (((w13.setCell ⟨pb, 2, none⟩ (.int .i64 (dp : Int))).setCell ⟨w.heap.size, 0, none⟩ (.int .i64 109)).setCell ⟨w.heap.size, 1, none⟩ (.int .i64 0)).setCell ⟨w.heap.size, 2, none⟩ (.slice (some ⟨w13.heap.size, 0, none⟩) 2 2) = w14 at *
    refine retT oneRes rfl (hRC.fr (Fr.al (xs := []) _ _) (by simp)) ?_
    exact ⟨109, 0, _, 2, 2, k10, dp, rfl, by rw [HL.out]; exact hRp.fr (Fr.al (xs := []) _ _) (by simp), by decide, by omega, by omega, hk10, hF.alloc _⟩

set_option maxHeartbeats 8000000 in
set_option maxRecDepth 100000 in
theorem min_ok {d : Nat} (ih : WhOK d) {w : World} {pb k dp : Nat} {s : ByteArray} (h : Rp w pb s k dp 0 0) (hk : k ≤ s.size) (hs : s.size ≤ 120) (hd : dp + (d + 1) = 20) (hm : [109, 105, 110, 40] <+: s.data.toList.drop k) {ta : Tm} {v : List UInt8} (hr1' : chP d (s.data.toList.drop (k + 4)) = .ok ta v) (hc : v.head? = some 44) {tb : Tm} {v2 : List UInt8} (hr2' : chP d (v.drop 1) = .ok tb v2) (hc2 : v2.head? = some 41) :
    Calls Tryz.prog 174 #[.pointer (some ⟨pb, 0, none⟩)] w (OutT pb s dp w (singleF (inCh ((d + 1))) (s.data.toList.drop k))) := by
  have hA : Rp (w.alloc (.cells tz 24)) pb s k dp 0 0 := h.fr (xs := []) ((Fr.refl _ _).alloc _) (by simp)
  have hR : RC (w.alloc (.cells tz 24)) w.heap.size (.int .i64 0) (.int .i64 0) (.slice none 0 0) := RC.new w
  have hpl := h.lt
  have c1 := h.c1
  have FA := Fr.al (xs := [pb]) w (.cells tz 24)
  have _ := hk
  have hj4 := pre_len hm
  have hch : singleF (inCh ((d + 1))) (s.data.toList.drop k) = .ok (.two 109 ta tb) (v2.drop 1) := by
    rw [single_min hm, pairF, List.drop_drop]; rw [inCh_succ, hr1']; simp only; rw [if_pos hc, inCh_succ, hr2']; simp only; rw [if_pos hc2]
  rw [hch]
  clear hch
  · go_enter Tryz.func174, Tryz.ntmps174
    go_wp2_with (go_at_call 105; refine (ris_take hA hs hm (by decide)).mono ?_; rintro e w2 ⟨rfl, hr2, hf2⟩; refine Hid.out ?_)
    refine Lib.hid ?_
    have hr2 : Rp w2 pb s (k + 4) dp 0 0 := hr2
    have hR2 := hR.fr hf2 (by simp; omega)
    have F2 := FA.trans hf2
    have hs2 := hf2.size
    simp at hs2
    go_wp2_with (go_at_call 65; refine (rdown_yes hr2 (by omega) k).mono ?_; rintro e w5 ⟨rfl, hr5, hf5⟩; refine Hid.out ?_)
    refine Lib.hid ?_
    have hR5 := hR2.fr hf5 (by simp; omega)
    have F5 := F2.trans hf5
    have hs5 := hf5.size
    have co := ih w5 pb (k + 4) (dp + 1) s hr5 hj4 hs (by omega)
    rw [hr1'] at co
    clear hr1'
    go_wp2_with (go_at_call 29; refine co.mono ?_; rintro e w6 ⟨a, b, A, n, c, k6, rfl, ht6, hr6, hk6, rfl, hf6⟩; have hR6 := hR5.fr hf6 (by simp; omega); have b6' := hr6.c4; have p6 := hr6.lt; have r6 := hR6.lt; have z0 := hR6.c0; have z1 := hR6.c1; have z2 := hR6.c2; have y0 := hR6.fz 0; have y1 := hR6.fz 1; have y2 := hR6.fz 2)
    have hs6 := hf6.size
    have hC7 : RC (w6.alloc (.cells #[.int .i64 a, .int .i64 b, .slice A n c] 24)) w6.heap.size (.int .i64 a) (.int .i64 b) (.slice A n c) := RC.new w6
    have hr7 := hr6.fr (Fr.al (xs := []) w6 (.cells #[.int .i64 a, .int .i64 b, .slice A n c] 24)) (by simp)
    have hR7 := hR6.fr (Fr.al (xs := []) w6 (.cells #[.int .i64 a, .int .i64 b, .slice A n c] 24)) (by simp)
    have t7 := (ht6.mono (S' := fun p => w.heap.size < p) (fun p hp _ => by omega)).alloc (.cells #[.int .i64 a, .int .i64 b, .slice A n c] 24)
    have F7 := (F5.trans hf6).alloc (.cells #[.int .i64 a, .int .i64 b, .slice A n c] 24)
    generalize w6.alloc (.cells #[.int .i64 a, .int .i64 b, .slice A n c] 24) = w7 at *
    generalize w6.heap.size = B7 at *
    clear z0 z1 z2 y0 y1 y2 b6'
    have hj6 : k6 + 1 ≤ s.size := head_le hc
    have hpre : (⟨#[44]⟩ : ByteArray).data.toList <+: s.data.toList.drop k6 := pre_iff hc
    have hdd : (s.data.toList.drop k6).drop 1 = s.data.toList.drop (k6 + 1) := drop_drop1 s k6
    rw [hdd] at hr2'
    refine (rwant_yes hr7 hs hpre (by decide)).mono ?_
    rintro e w9 ⟨rfl, hr9, hf9⟩
    have hr9 : Rp w9 pb s (k6 + 1) (dp + 1) 0 0 := hr9
    have hR9 := hR7.fr hf9 (by simp; omega)
    have hC9 := hC7.fr hf9 (by simp; omega)
    have b9 := hr9.c4
    have lC9 := hC9.lt
    have t9' := t7.fr hf9 (by simp; omega)
    have F9 := F7.trans hf9
    have co2 := ih w9 pb (k6 + 1) (dp + 1) s hr9 hj6 hs (by omega)
    rw [hr2'] at co2
    clear hr2' hdd
    go_wp2_with (go_at_call 29; refine co2.mono ?_; rintro e w10 ⟨a2, b2, A2, n2, c2, k10, rfl, ht10, hr10, hk10, rfl, hf10⟩; have hR10 := hR9.fr hf10 (by simp; omega); have hC10 := hC9.fr hf10 (by simp; omega); have b10' := hr10.c4; have d10 := hr10.c2; have e10 := hr10.fz 2; have p10 := hr10.lt; have r10 := hR10.lt; have m10 := hC10.lt; have x0 := hC10.c0; have x1 := hC10.c1; have x2 := hC10.c2; have z0 := hR10.c0; have z1 := hR10.c1; have z2 := hR10.c2; have y0 := hR10.fz 0; have y1 := hR10.fz 1; have y2 := hR10.fz 2)
    have hs9 := hf9.size
    have hs10 := hf10.size
    have hD11 : RC (w10.alloc (.cells #[.int .i64 a2, .int .i64 b2, .slice A2 n2 c2] 24)) w10.heap.size (.int .i64 a2) (.int .i64 b2) (.slice A2 n2 c2) := RC.new w10
    have hr11 := hr10.fr (Fr.al (xs := []) w10 (.cells #[.int .i64 a2, .int .i64 b2, .slice A2 n2 c2] 24)) (by simp)
    have hR11 := hR10.fr (Fr.al (xs := []) w10 (.cells #[.int .i64 a2, .int .i64 b2, .slice A2 n2 c2] 24)) (by simp)
    have hC11 := hC10.fr (Fr.al (xs := []) w10 (.cells #[.int .i64 a2, .int .i64 b2, .slice A2 n2 c2] 24)) (by simp)
    have tA11 := (t9'.fr hf10 (by simp; omega)).alloc (.cells #[.int .i64 a2, .int .i64 b2, .slice A2 n2 c2] 24)
    have tB11 := (ht10.mono (S' := fun p => w.heap.size < p) (fun p hp _ => by omega)).alloc (.cells #[.int .i64 a2, .int .i64 b2, .slice A2 n2 c2] 24)
    have F11 := (F9.trans hf10).alloc (.cells #[.int .i64 a2, .int .i64 b2, .slice A2 n2 c2] 24)
    generalize w10.alloc (.cells #[.int .i64 a2, .int .i64 b2, .slice A2 n2 c2] 24) = w11 at *
    generalize w10.heap.size = B11 at *
    clear x0 x1 x2 z0 z1 z2 y0 y1 y2 b10' d10 e10
    have hj10 : k10 + 1 ≤ s.size := head_le hc2
    have hpre2 : (⟨#[41]⟩ : ByteArray).data.toList <+: s.data.toList.drop k10 := pre_iff hc2
    refine (rwant_yes hr11 hs hpre2 (by decide)).mono ?_
    rintro e w13 ⟨rfl, hr13, hf13⟩
    have hr13 : Rp w13 pb s (k10 + 1) (dp + 1) 0 0 := hr13
    have hs13 := hf13.size
    have hR13 := hR11.fr hf13 (by simp; omega)
    have hC13 := hC11.fr hf13 (by simp; omega)
    have hD13 := hD11.fr hf13 (by simp; omega)
    have d13 := hr13.c2
    have e13 := hr13.fz 2
    have p13 := hr13.lt
    have r13 := hR13.lt
    have m13 := hC13.lt
    have n13 := hD13.lt
    have x0 := hC13.c0
    have x1 := hC13.c1
    have x2 := hC13.c2
    have s0 := hD13.c0
    have s1 := hD13.c1
    have s2 := hD13.c2
    have z0 := hR13.c0
    have z1 := hR13.c1
    have z2 := hR13.c2
    have y0 := hR13.fz 0
    have y1 := hR13.fz 1
    have y2 := hR13.fz 2
    go_wp2_with fail
    have g12 : Fr [pb] w13 (w13.setCell ⟨pb, 2, none⟩ (.int .i64 (dp : Int))) := (Fr.refl _ _).setCell (.inl (by simp)) _
    have g13 := Fr.set3 (w13.setCell ⟨pb, 2, none⟩ (.int .i64 (dp : Int))) w.heap.size (.int .i64 109) (.int .i64 0) (.slice (some ⟨w13.heap.size, 0, none⟩) 2 2)
    have hRp := (hr13.set2 dp).fr g13 (by simp; omega)
    have hRC := (hR13.fr g12 (by simp; omega)).set3 (.int .i64 109) (.int .i64 0) (.slice (some ⟨w13.heap.size, 0, none⟩) 2 2)
    have hF := ((F11.trans hf13).trans g12).over' g13 (by simp)
    have e14 : ((((w13.setCell ⟨pb, 2, none⟩ (.int .i64 (dp : Int))).setCell ⟨w.heap.size, 0, none⟩ (.int .i64 109)).setCell ⟨w.heap.size, 1, none⟩ (.int .i64 0)).setCell ⟨w.heap.size, 2, none⟩ (.slice (some ⟨w13.heap.size, 0, none⟩) 2 2)).heap.size = w13.heap.size := by simp
    have tA := (((tA11.fr hf13 (by simp; omega)).fr g12 (by simp; omega)).fr g13 (by simp)).alloc (.cells #[.int .i64 a, .int .i64 b, .slice A n c, .int .i64 a2, .int .i64 b2, .slice A2 n2 c2] 24)
    have tB := (((tB11.fr hf13 (by simp; omega)).fr g12 (by simp; omega)).fr g13 (by simp)).alloc (.cells #[.int .i64 a, .int .i64 b, .slice A n c, .int .i64 a2, .int .i64 b2, .slice A2 n2 c2] 24)
    generalize (((w13.setCell ⟨pb, 2, none⟩ (.int .i64 (dp : Int))).setCell ⟨w.heap.size, 0, none⟩ (.int .i64 109)).setCell ⟨w.heap.size, 1, none⟩ (.int .i64 0)).setCell ⟨w.heap.size, 2, none⟩ (.slice (some ⟨w13.heap.size, 0, none⟩) 2 2) = w14 at *
    refine retT oneRes rfl (hRC.fr (Fr.al (xs := []) _ _) (by simp)) ?_
    exact ⟨109, 0, _, 2, 2, k10 + 1, rfl, ⟨w13.heap.size, ⟨a, b, A, n, c⟩, ⟨a2, b2, A2, n2, c2⟩, (by show _ ≤ _; omega), rfl, alloc_at e14.symm, tA.mono (fun p hp _ => by omega), tB.mono (fun p hp _ => by omega)⟩, hRp.fr (Fr.al (xs := []) _ _) (by simp), hj10, by rw [drop_drop1], hF.alloc _⟩

set_option maxHeartbeats 8000000 in
set_option maxRecDepth 100000 in
theorem max_zero  {w : World} {pb k dp : Nat} {s : ByteArray} (h : Rp w pb s k dp 0 0) (hk : k ≤ s.size) (hs : s.size ≤ 120) (hd : dp + 0 = 20) (hm : [109, 97, 120, 40] <+: s.data.toList.drop k)  :
    Calls Tryz.prog 174 #[.pointer (some ⟨pb, 0, none⟩)] w (OutT pb s dp w (singleF (inCh (0)) (s.data.toList.drop k))) := by
  have hA : Rp (w.alloc (.cells tz 24)) pb s k dp 0 0 := h.fr (xs := []) ((Fr.refl _ _).alloc _) (by simp)
  have hR : RC (w.alloc (.cells tz 24)) w.heap.size (.int .i64 0) (.int .i64 0) (.slice none 0 0) := RC.new w
  have hpl := h.lt
  have c1 := h.c1
  have FA := Fr.al (xs := [pb]) w (.cells tz 24)
  have _ := hk
  have hm1 : ¬ (⟨#[109, 105, 110, 40]⟩ : ByteArray).data.toList <+: s.data.toList.drop k := by
    intro hh
    obtain ⟨t1, e1⟩ := hh
    obtain ⟨t2, e2⟩ := hm
    rw [← e1] at e2
    simp at e2
  have hj4 := pre_len hm
  have hch : singleF (inCh (0)) (s.data.toList.drop k) = .bad (s.data.toList.drop k).length 4 := by
    rw [single_max hm, pairF, List.drop_drop]; rw [inCh_zero]
  rw [hch]
  clear hch
  · go_enter Tryz.func174, Tryz.ntmps174
    go_wp2_with (go_at_call 105; refine (ris_none hA hk hs (by decide) hm1).mono ?_; rintro e w1 ⟨rfl, hr1, hf1⟩; refine Hid.out ?_)
    refine Lib.hid ?_
    have hR1 := hR.fr hf1 (by simp; omega)
    go_wp2_with (go_at_call 105; refine (ris_take hr1 hs hm (by decide)).mono ?_; rintro e w2 ⟨rfl, hr2, hf2⟩; refine Hid.out ?_)
    refine Lib.hid ?_
    have hr2 : Rp w2 pb s (k + 4) dp 0 0 := hr2
    have hR2 := hR1.fr hf2 (by simp; omega)
    have F2 := (FA.trans hf1).trans hf2
    have hs2 := hf2.size
    have hs1 := hf1.size
    simp at hs1
    have HL := Lib.hid (len_drop (s := s) hk)
    have hd20 : dp = 20 := by omega
    go_wp2_with (go_at_call 65; refine (rdown_no (show Rp _ pb s (k + 4) 20 0 0 from hd20 ▸ hr2) k).mono ?_; rintro e w5 ⟨rfl, hr5, hf5⟩; have hR5 := hR2.fr hf5 (by simp; omega); have z0 := hR5.c0; have z1 := hR5.c1; have z2 := hR5.c2; have y0 := hR5.fz 0; have y1 := hR5.fz 1; have y2 := hR5.fz 2)
    refine retT oneRes rfl (hR5.set3 _ _ _) ?_
    have f := Fr.set3 w5 w.heap.size (.int .i64 0) (.int .i64 0) (.slice none 0 0)
    exact ⟨0, 0, none, 0, 0, k + 4, 20, rfl, by rw [HL.out]; exact hr5.fr f (by simp; omega), by decide, by omega, by omega, hj4, (F2.trans hf5).over' f (by simp)⟩

set_option maxHeartbeats 8000000 in
set_option maxRecDepth 100000 in
theorem max_bad1 {d : Nat} (ih : WhOK d) {w : World} {pb k dp : Nat} {s : ByteArray} (h : Rp w pb s k dp 0 0) (hk : k ≤ s.size) (hs : s.size ≤ 120) (hd : dp + (d + 1) = 20) (hm : [109, 97, 120, 40] <+: s.data.toList.drop k) {pl er : Nat} (hr1' : chP d (s.data.toList.drop (k + 4)) = .bad pl er) :
    Calls Tryz.prog 174 #[.pointer (some ⟨pb, 0, none⟩)] w (OutT pb s dp w (singleF (inCh ((d + 1))) (s.data.toList.drop k))) := by
  have hA : Rp (w.alloc (.cells tz 24)) pb s k dp 0 0 := h.fr (xs := []) ((Fr.refl _ _).alloc _) (by simp)
  have hR : RC (w.alloc (.cells tz 24)) w.heap.size (.int .i64 0) (.int .i64 0) (.slice none 0 0) := RC.new w
  have hpl := h.lt
  have c1 := h.c1
  have FA := Fr.al (xs := [pb]) w (.cells tz 24)
  have _ := hk
  have hm1 : ¬ (⟨#[109, 105, 110, 40]⟩ : ByteArray).data.toList <+: s.data.toList.drop k := by
    intro hh
    obtain ⟨t1, e1⟩ := hh
    obtain ⟨t2, e2⟩ := hm
    rw [← e1] at e2
    simp at e2
  have hj4 := pre_len hm
  have hch : singleF (inCh ((d + 1))) (s.data.toList.drop k) = .bad pl er := by
    rw [single_max hm, pairF, List.drop_drop]; rw [inCh_succ, hr1']
  rw [hch]
  clear hch
  · go_enter Tryz.func174, Tryz.ntmps174
    go_wp2_with (go_at_call 105; refine (ris_none hA hk hs (by decide) hm1).mono ?_; rintro e w1 ⟨rfl, hr1, hf1⟩; refine Hid.out ?_)
    refine Lib.hid ?_
    have hR1 := hR.fr hf1 (by simp; omega)
    go_wp2_with (go_at_call 105; refine (ris_take hr1 hs hm (by decide)).mono ?_; rintro e w2 ⟨rfl, hr2, hf2⟩; refine Hid.out ?_)
    refine Lib.hid ?_
    have hr2 : Rp w2 pb s (k + 4) dp 0 0 := hr2
    have hR2 := hR1.fr hf2 (by simp; omega)
    have F2 := (FA.trans hf1).trans hf2
    have hs2 := hf2.size
    have hs1 := hf1.size
    simp at hs1
    go_wp2_with (go_at_call 65; refine (rdown_yes hr2 (by omega) k).mono ?_; rintro e w5 ⟨rfl, hr5, hf5⟩; refine Hid.out ?_)
    refine Lib.hid ?_
    have hR5 := hR2.fr hf5 (by simp; omega)
    have F5 := F2.trans hf5
    have hs5 := hf5.size
    have co := ih w5 pb (k + 4) (dp + 1) s hr5 hj4 hs (by omega)
    rw [hr1'] at co
    clear hr1'
    go_wp2_with (go_at_call 29; refine co.mono ?_; rintro e w6 ⟨a, b, A, n, c, k6, dp6, rfl, hr6, he6, hd6, hd7, hk6, hf6⟩; have hn1 : ((er : Int) == 0) = false := beq_eq_false_iff_ne.2 (by omega); have hn2 : ((er : Int) != 0) = true := (by simp; omega); have hR6 := hR5.fr hf6 (by simp; omega); have b6' := hr6.c4; have p6 := hr6.lt; have r6 := hR6.lt; have z0 := hR6.c0; have z1 := hR6.c1; have z2 := hR6.c2; have y0 := hR6.fz 0; have y1 := hR6.fz 1; have y2 := hR6.fz 2)
    have g9 := Fr.set3 w6 w.heap.size (.int .i64 0) (.int .i64 0) (.slice none 0 0)
    have hRp := hr6.fr g9 (by simp; omega)
    have hRC := hR6.set3 (.int .i64 0) (.int .i64 0) (.slice none 0 0)
    have hF := (F5.trans hf6).over' g9 (by simp)
    generalize ((w6.setCell ⟨w.heap.size, 0, none⟩ (.int .i64 0)).setCell ⟨w.heap.size, 1, none⟩ (.int .i64 0)).setCell ⟨w.heap.size, 2, none⟩ (.slice none 0 0) = w8 at *
    refine retT oneRes rfl (hRC.fr (Fr.al (xs := []) _ _) (by simp)) ?_
    exact ⟨0, 0, none, 0, 0, k6, dp6, rfl, hRp.fr (Fr.al (xs := []) _ _) (by simp), he6, by omega, hd7, hk6, hF.alloc _⟩

set_option maxHeartbeats 8000000 in
set_option maxRecDepth 100000 in
theorem max_no1 {d : Nat} (ih : WhOK d) {w : World} {pb k dp : Nat} {s : ByteArray} (h : Rp w pb s k dp 0 0) (hk : k ≤ s.size) (hs : s.size ≤ 120) (hd : dp + (d + 1) = 20) (hm : [109, 97, 120, 40] <+: s.data.toList.drop k) {ta : Tm} {v : List UInt8} (hr1' : chP d (s.data.toList.drop (k + 4)) = .ok ta v) (hc : ¬ v.head? = some 44) :
    Calls Tryz.prog 174 #[.pointer (some ⟨pb, 0, none⟩)] w (OutT pb s dp w (singleF (inCh ((d + 1))) (s.data.toList.drop k))) := by
  have hA : Rp (w.alloc (.cells tz 24)) pb s k dp 0 0 := h.fr (xs := []) ((Fr.refl _ _).alloc _) (by simp)
  have hR : RC (w.alloc (.cells tz 24)) w.heap.size (.int .i64 0) (.int .i64 0) (.slice none 0 0) := RC.new w
  have hpl := h.lt
  have c1 := h.c1
  have FA := Fr.al (xs := [pb]) w (.cells tz 24)
  have _ := hk
  have hm1 : ¬ (⟨#[109, 105, 110, 40]⟩ : ByteArray).data.toList <+: s.data.toList.drop k := by
    intro hh
    obtain ⟨t1, e1⟩ := hh
    obtain ⟨t2, e2⟩ := hm
    rw [← e1] at e2
    simp at e2
  have hj4 := pre_len hm
  have hch : singleF (inCh ((d + 1))) (s.data.toList.drop k) = .bad v.length 2 := by
    rw [single_max hm, pairF, List.drop_drop]; rw [inCh_succ, hr1']; simp only; rw [if_neg hc]
  rw [hch]
  clear hch
  · go_enter Tryz.func174, Tryz.ntmps174
    go_wp2_with (go_at_call 105; refine (ris_none hA hk hs (by decide) hm1).mono ?_; rintro e w1 ⟨rfl, hr1, hf1⟩; refine Hid.out ?_)
    refine Lib.hid ?_
    have hR1 := hR.fr hf1 (by simp; omega)
    go_wp2_with (go_at_call 105; refine (ris_take hr1 hs hm (by decide)).mono ?_; rintro e w2 ⟨rfl, hr2, hf2⟩; refine Hid.out ?_)
    refine Lib.hid ?_
    have hr2 : Rp w2 pb s (k + 4) dp 0 0 := hr2
    have hR2 := hR1.fr hf2 (by simp; omega)
    have F2 := (FA.trans hf1).trans hf2
    have hs2 := hf2.size
    have hs1 := hf1.size
    simp at hs1
    go_wp2_with (go_at_call 65; refine (rdown_yes hr2 (by omega) k).mono ?_; rintro e w5 ⟨rfl, hr5, hf5⟩; refine Hid.out ?_)
    refine Lib.hid ?_
    have hR5 := hR2.fr hf5 (by simp; omega)
    have F5 := F2.trans hf5
    have hs5 := hf5.size
    have co := ih w5 pb (k + 4) (dp + 1) s hr5 hj4 hs (by omega)
    rw [hr1'] at co
    clear hr1'
    go_wp2_with (go_at_call 29; refine co.mono ?_; rintro e w6 ⟨a, b, A, n, c, k6, rfl, ht6, hr6, hk6, rfl, hf6⟩; have hR6 := hR5.fr hf6 (by simp; omega); have b6' := hr6.c4; have p6 := hr6.lt; have r6 := hR6.lt; have z0 := hR6.c0; have z1 := hR6.c1; have z2 := hR6.c2; have y0 := hR6.fz 0; have y1 := hR6.fz 1; have y2 := hR6.fz 2)
    have hs6 := hf6.size
    have hC7 : RC (w6.alloc (.cells #[.int .i64 a, .int .i64 b, .slice A n c] 24)) w6.heap.size (.int .i64 a) (.int .i64 b) (.slice A n c) := RC.new w6
    have hr7 := hr6.fr (Fr.al (xs := []) w6 (.cells #[.int .i64 a, .int .i64 b, .slice A n c] 24)) (by simp)
    have hR7 := hR6.fr (Fr.al (xs := []) w6 (.cells #[.int .i64 a, .int .i64 b, .slice A n c] 24)) (by simp)
    have t7 := (ht6.mono (S' := fun p => w.heap.size < p) (fun p hp _ => by omega)).alloc (.cells #[.int .i64 a, .int .i64 b, .slice A n c] 24)
    have F7 := (F5.trans hf6).alloc (.cells #[.int .i64 a, .int .i64 b, .slice A n c] 24)
    generalize w6.alloc (.cells #[.int .i64 a, .int .i64 b, .slice A n c] 24) = w7 at *
    generalize w6.heap.size = B7 at *
    clear z0 z1 z2 y0 y1 y2 b6'
    have hpre : ¬ (⟨#[44]⟩ : ByteArray).data.toList <+: s.data.toList.drop k6 := by
      intro hh; apply hc
      obtain ⟨t9, ht9⟩ := hh
      rw [← ht9]; rfl
    have HL := Lib.hid (len_drop (s := s) hk6)
    refine (rwant_no hr7 hk6 hs (by decide) hpre).mono ?_
    rintro e w9 ⟨rfl, hr9, hf9⟩
    have hR9 := hR7.fr hf9 (by simp; omega)
    have b9 := hr9.c4
    have z0 := hR9.c0
    have z1 := hR9.c1
    have z2 := hR9.c2
    have y0 := hR9.fz 0
    have y1 := hR9.fz 1
    have y2 := hR9.fz 2
    go_wp2_with fail
    have g9 := Fr.set3 w9 w.heap.size (.int .i64 0) (.int .i64 0) (.slice none 0 0)
    refine retT oneRes rfl (hR9.set3 _ _ _) ?_
    exact ⟨0, 0, none, 0, 0, k6, dp + 1, rfl, by rw [HL.out]; exact hr9.fr g9 (by simp; omega), by decide, by omega, by omega, hk6, (F7.trans hf9).over' g9 (by simp)⟩

set_option maxHeartbeats 8000000 in
set_option maxRecDepth 100000 in
theorem max_bad2 {d : Nat} (ih : WhOK d) {w : World} {pb k dp : Nat} {s : ByteArray} (h : Rp w pb s k dp 0 0) (hk : k ≤ s.size) (hs : s.size ≤ 120) (hd : dp + (d + 1) = 20) (hm : [109, 97, 120, 40] <+: s.data.toList.drop k) {ta : Tm} {v : List UInt8} (hr1' : chP d (s.data.toList.drop (k + 4)) = .ok ta v) (hc : v.head? = some 44) {pl er : Nat} (hr2' : chP d (v.drop 1) = .bad pl er) :
    Calls Tryz.prog 174 #[.pointer (some ⟨pb, 0, none⟩)] w (OutT pb s dp w (singleF (inCh ((d + 1))) (s.data.toList.drop k))) := by
  have hA : Rp (w.alloc (.cells tz 24)) pb s k dp 0 0 := h.fr (xs := []) ((Fr.refl _ _).alloc _) (by simp)
  have hR : RC (w.alloc (.cells tz 24)) w.heap.size (.int .i64 0) (.int .i64 0) (.slice none 0 0) := RC.new w
  have hpl := h.lt
  have c1 := h.c1
  have FA := Fr.al (xs := [pb]) w (.cells tz 24)
  have _ := hk
  have hm1 : ¬ (⟨#[109, 105, 110, 40]⟩ : ByteArray).data.toList <+: s.data.toList.drop k := by
    intro hh
    obtain ⟨t1, e1⟩ := hh
    obtain ⟨t2, e2⟩ := hm
    rw [← e1] at e2
    simp at e2
  have hj4 := pre_len hm
  have hch : singleF (inCh ((d + 1))) (s.data.toList.drop k) = .bad pl er := by
    rw [single_max hm, pairF, List.drop_drop]; rw [inCh_succ, hr1']; simp only; rw [if_pos hc, inCh_succ, hr2']
  rw [hch]
  clear hch
  · go_enter Tryz.func174, Tryz.ntmps174
    go_wp2_with (go_at_call 105; refine (ris_none hA hk hs (by decide) hm1).mono ?_; rintro e w1 ⟨rfl, hr1, hf1⟩; refine Hid.out ?_)
    refine Lib.hid ?_
    have hR1 := hR.fr hf1 (by simp; omega)
    go_wp2_with (go_at_call 105; refine (ris_take hr1 hs hm (by decide)).mono ?_; rintro e w2 ⟨rfl, hr2, hf2⟩; refine Hid.out ?_)
    refine Lib.hid ?_
    have hr2 : Rp w2 pb s (k + 4) dp 0 0 := hr2
    have hR2 := hR1.fr hf2 (by simp; omega)
    have F2 := (FA.trans hf1).trans hf2
    have hs2 := hf2.size
    have hs1 := hf1.size
    simp at hs1
    go_wp2_with (go_at_call 65; refine (rdown_yes hr2 (by omega) k).mono ?_; rintro e w5 ⟨rfl, hr5, hf5⟩; refine Hid.out ?_)
    refine Lib.hid ?_
    have hR5 := hR2.fr hf5 (by simp; omega)
    have F5 := F2.trans hf5
    have hs5 := hf5.size
    have co := ih w5 pb (k + 4) (dp + 1) s hr5 hj4 hs (by omega)
    rw [hr1'] at co
    clear hr1'
    go_wp2_with (go_at_call 29; refine co.mono ?_; rintro e w6 ⟨a, b, A, n, c, k6, rfl, ht6, hr6, hk6, rfl, hf6⟩; have hR6 := hR5.fr hf6 (by simp; omega); have b6' := hr6.c4; have p6 := hr6.lt; have r6 := hR6.lt; have z0 := hR6.c0; have z1 := hR6.c1; have z2 := hR6.c2; have y0 := hR6.fz 0; have y1 := hR6.fz 1; have y2 := hR6.fz 2)
    have hs6 := hf6.size
    have hC7 : RC (w6.alloc (.cells #[.int .i64 a, .int .i64 b, .slice A n c] 24)) w6.heap.size (.int .i64 a) (.int .i64 b) (.slice A n c) := RC.new w6
    have hr7 := hr6.fr (Fr.al (xs := []) w6 (.cells #[.int .i64 a, .int .i64 b, .slice A n c] 24)) (by simp)
    have hR7 := hR6.fr (Fr.al (xs := []) w6 (.cells #[.int .i64 a, .int .i64 b, .slice A n c] 24)) (by simp)
    have t7 := (ht6.mono (S' := fun p => w.heap.size < p) (fun p hp _ => by omega)).alloc (.cells #[.int .i64 a, .int .i64 b, .slice A n c] 24)
    have F7 := (F5.trans hf6).alloc (.cells #[.int .i64 a, .int .i64 b, .slice A n c] 24)
    generalize w6.alloc (.cells #[.int .i64 a, .int .i64 b, .slice A n c] 24) = w7 at *
    generalize w6.heap.size = B7 at *
    clear z0 z1 z2 y0 y1 y2 b6'
    have hj6 : k6 + 1 ≤ s.size := head_le hc
    have hpre : (⟨#[44]⟩ : ByteArray).data.toList <+: s.data.toList.drop k6 := pre_iff hc
    have hdd : (s.data.toList.drop k6).drop 1 = s.data.toList.drop (k6 + 1) := drop_drop1 s k6
    rw [hdd] at hr2'
    refine (rwant_yes hr7 hs hpre (by decide)).mono ?_
    rintro e w9 ⟨rfl, hr9, hf9⟩
    have hr9 : Rp w9 pb s (k6 + 1) (dp + 1) 0 0 := hr9
    have hR9 := hR7.fr hf9 (by simp; omega)
    have hC9 := hC7.fr hf9 (by simp; omega)
    have b9 := hr9.c4
    have lC9 := hC9.lt
    have t9' := t7.fr hf9 (by simp; omega)
    have F9 := F7.trans hf9
    have co2 := ih w9 pb (k6 + 1) (dp + 1) s hr9 hj6 hs (by omega)
    rw [hr2'] at co2
    clear hr2' hdd
    go_wp2_with (go_at_call 29; refine co2.mono ?_; rintro e w10 ⟨a2, b2, A2, n2, c2, k10, dp10, rfl, hr10, he10, hd10, hd11, hk10, hf10⟩; obtain ⟨dq, rfl⟩ : ∃ dq, dp10 = dq + 1 := ⟨dp10 - 1, by omega⟩; have hn1 : ((er : Int) == 0) = false := beq_eq_false_iff_ne.2 (by omega); have hR10 := hR9.fr hf10 (by simp; omega); have hC10 := hC9.fr hf10 (by simp; omega); have b10' := hr10.c4; have d10 := hr10.c2; have e10 := hr10.fz 2; have p10 := hr10.lt; have r10 := hR10.lt; have m10 := hC10.lt; have x0 := hC10.c0; have x1 := hC10.c1; have x2 := hC10.c2; have z0 := hR10.c0; have z1 := hR10.c1; have z2 := hR10.c2; have y0 := hR10.fz 0; have y1 := hR10.fz 1; have y2 := hR10.fz 2)
    have g12 : Fr [pb] w10 (w10.setCell ⟨pb, 2, none⟩ (.int .i64 (dq : Int))) := (Fr.refl _ _).setCell (.inl (by simp)) _
    have g13 := Fr.set3 (w10.setCell ⟨pb, 2, none⟩ (.int .i64 (dq : Int))) w.heap.size (.int .i64 77) (.int .i64 0) (.slice (some ⟨w10.heap.size + 1, 0, none⟩) 2 2)
    have hRp := (hr10.set2 dq).fr g13 (by simp; omega)
    have hRC := (hR10.fr g12 (by simp; omega)).set3 (.int .i64 77) (.int .i64 0) (.slice (some ⟨w10.heap.size + 1, 0, none⟩) 2 2)
    have hF := ((F9.trans hf10).trans g12).over' g13 (by simp)
    generalize (((w10.setCell ⟨pb, 2, none⟩ (.int .i64 (dq : Int))).setCell ⟨w.heap.size, 0, none⟩ (.int .i64 77)).setCell ⟨w.heap.size, 1, none⟩ (.int .i64 0)).setCell ⟨w.heap.size, 2, none⟩ (.slice (some ⟨w10.heap.size + 1, 0, none⟩) 2 2) = w12 at *
    refine retT oneRes rfl ((hRC.fr (Fr.al (xs := []) _ _) (by simp)).fr (Fr.al (xs := []) _ _) (by simp)) ?_
    exact ⟨77, 0, _, 2, 2, k10, dq, rfl, (hRp.fr (Fr.al (xs := []) _ _) (by simp)).fr (Fr.al (xs := []) _ _) (by simp), he10, by omega, by omega, hk10, (hF.alloc _).alloc _⟩

set_option maxHeartbeats 8000000 in
set_option maxRecDepth 100000 in
theorem max_no2 {d : Nat} (ih : WhOK d) {w : World} {pb k dp : Nat} {s : ByteArray} (h : Rp w pb s k dp 0 0) (hk : k ≤ s.size) (hs : s.size ≤ 120) (hd : dp + (d + 1) = 20) (hm : [109, 97, 120, 40] <+: s.data.toList.drop k) {ta : Tm} {v : List UInt8} (hr1' : chP d (s.data.toList.drop (k + 4)) = .ok ta v) (hc : v.head? = some 44) {tb : Tm} {v2 : List UInt8} (hr2' : chP d (v.drop 1) = .ok tb v2) (hc2 : ¬ v2.head? = some 41) :
    Calls Tryz.prog 174 #[.pointer (some ⟨pb, 0, none⟩)] w (OutT pb s dp w (singleF (inCh ((d + 1))) (s.data.toList.drop k))) := by
  have hA : Rp (w.alloc (.cells tz 24)) pb s k dp 0 0 := h.fr (xs := []) ((Fr.refl _ _).alloc _) (by simp)
  have hR : RC (w.alloc (.cells tz 24)) w.heap.size (.int .i64 0) (.int .i64 0) (.slice none 0 0) := RC.new w
  have hpl := h.lt
  have c1 := h.c1
  have FA := Fr.al (xs := [pb]) w (.cells tz 24)
  have _ := hk
  have hm1 : ¬ (⟨#[109, 105, 110, 40]⟩ : ByteArray).data.toList <+: s.data.toList.drop k := by
    intro hh
    obtain ⟨t1, e1⟩ := hh
    obtain ⟨t2, e2⟩ := hm
    rw [← e1] at e2
    simp at e2
  have hj4 := pre_len hm
  have hch : singleF (inCh ((d + 1))) (s.data.toList.drop k) = .bad v2.length 2 := by
    rw [single_max hm, pairF, List.drop_drop]; rw [inCh_succ, hr1']; simp only; rw [if_pos hc, inCh_succ, hr2']; simp only; rw [if_neg hc2]
  rw [hch]
  clear hch
  · go_enter Tryz.func174, Tryz.ntmps174
    go_wp2_with (go_at_call 105; refine (ris_none hA hk hs (by decide) hm1).mono ?_; rintro e w1 ⟨rfl, hr1, hf1⟩; refine Hid.out ?_)
    refine Lib.hid ?_
    have hR1 := hR.fr hf1 (by simp; omega)
    go_wp2_with (go_at_call 105; refine (ris_take hr1 hs hm (by decide)).mono ?_; rintro e w2 ⟨rfl, hr2, hf2⟩; refine Hid.out ?_)
    refine Lib.hid ?_
    have hr2 : Rp w2 pb s (k + 4) dp 0 0 := hr2
    have hR2 := hR1.fr hf2 (by simp; omega)
    have F2 := (FA.trans hf1).trans hf2
    have hs2 := hf2.size
    have hs1 := hf1.size
    simp at hs1
    go_wp2_with (go_at_call 65; refine (rdown_yes hr2 (by omega) k).mono ?_; rintro e w5 ⟨rfl, hr5, hf5⟩; refine Hid.out ?_)
    refine Lib.hid ?_
    have hR5 := hR2.fr hf5 (by simp; omega)
    have F5 := F2.trans hf5
    have hs5 := hf5.size
    have co := ih w5 pb (k + 4) (dp + 1) s hr5 hj4 hs (by omega)
    rw [hr1'] at co
    clear hr1'
    go_wp2_with (go_at_call 29; refine co.mono ?_; rintro e w6 ⟨a, b, A, n, c, k6, rfl, ht6, hr6, hk6, rfl, hf6⟩; have hR6 := hR5.fr hf6 (by simp; omega); have b6' := hr6.c4; have p6 := hr6.lt; have r6 := hR6.lt; have z0 := hR6.c0; have z1 := hR6.c1; have z2 := hR6.c2; have y0 := hR6.fz 0; have y1 := hR6.fz 1; have y2 := hR6.fz 2)
    have hs6 := hf6.size
    have hC7 : RC (w6.alloc (.cells #[.int .i64 a, .int .i64 b, .slice A n c] 24)) w6.heap.size (.int .i64 a) (.int .i64 b) (.slice A n c) := RC.new w6
    have hr7 := hr6.fr (Fr.al (xs := []) w6 (.cells #[.int .i64 a, .int .i64 b, .slice A n c] 24)) (by simp)
    have hR7 := hR6.fr (Fr.al (xs := []) w6 (.cells #[.int .i64 a, .int .i64 b, .slice A n c] 24)) (by simp)
    have t7 := (ht6.mono (S' := fun p => w.heap.size < p) (fun p hp _ => by omega)).alloc (.cells #[.int .i64 a, .int .i64 b, .slice A n c] 24)
    have F7 := (F5.trans hf6).alloc (.cells #[.int .i64 a, .int .i64 b, .slice A n c] 24)
    generalize w6.alloc (.cells #[.int .i64 a, .int .i64 b, .slice A n c] 24) = w7 at *
    generalize w6.heap.size = B7 at *
    clear z0 z1 z2 y0 y1 y2 b6'
    have hj6 : k6 + 1 ≤ s.size := head_le hc
    have hpre : (⟨#[44]⟩ : ByteArray).data.toList <+: s.data.toList.drop k6 := pre_iff hc
    have hdd : (s.data.toList.drop k6).drop 1 = s.data.toList.drop (k6 + 1) := drop_drop1 s k6
    rw [hdd] at hr2'
    refine (rwant_yes hr7 hs hpre (by decide)).mono ?_
    rintro e w9 ⟨rfl, hr9, hf9⟩
    have hr9 : Rp w9 pb s (k6 + 1) (dp + 1) 0 0 := hr9
    have hR9 := hR7.fr hf9 (by simp; omega)
    have hC9 := hC7.fr hf9 (by simp; omega)
    have b9 := hr9.c4
    have lC9 := hC9.lt
    have t9' := t7.fr hf9 (by simp; omega)
    have F9 := F7.trans hf9
    have co2 := ih w9 pb (k6 + 1) (dp + 1) s hr9 hj6 hs (by omega)
    rw [hr2'] at co2
    clear hr2' hdd
    go_wp2_with (go_at_call 29; refine co2.mono ?_; rintro e w10 ⟨a2, b2, A2, n2, c2, k10, rfl, ht10, hr10, hk10, rfl, hf10⟩; have hR10 := hR9.fr hf10 (by simp; omega); have hC10 := hC9.fr hf10 (by simp; omega); have b10' := hr10.c4; have d10 := hr10.c2; have e10 := hr10.fz 2; have p10 := hr10.lt; have r10 := hR10.lt; have m10 := hC10.lt; have x0 := hC10.c0; have x1 := hC10.c1; have x2 := hC10.c2; have z0 := hR10.c0; have z1 := hR10.c1; have z2 := hR10.c2; have y0 := hR10.fz 0; have y1 := hR10.fz 1; have y2 := hR10.fz 2)
    have hs9 := hf9.size
    have hs10 := hf10.size
    have hD11 : RC (w10.alloc (.cells #[.int .i64 a2, .int .i64 b2, .slice A2 n2 c2] 24)) w10.heap.size (.int .i64 a2) (.int .i64 b2) (.slice A2 n2 c2) := RC.new w10
    have hr11 := hr10.fr (Fr.al (xs := []) w10 (.cells #[.int .i64 a2, .int .i64 b2, .slice A2 n2 c2] 24)) (by simp)
    have hR11 := hR10.fr (Fr.al (xs := []) w10 (.cells #[.int .i64 a2, .int .i64 b2, .slice A2 n2 c2] 24)) (by simp)
    have hC11 := hC10.fr (Fr.al (xs := []) w10 (.cells #[.int .i64 a2, .int .i64 b2, .slice A2 n2 c2] 24)) (by simp)
    have tA11 := (t9'.fr hf10 (by simp; omega)).alloc (.cells #[.int .i64 a2, .int .i64 b2, .slice A2 n2 c2] 24)
    have tB11 := (ht10.mono (S' := fun p => w.heap.size < p) (fun p hp _ => by omega)).alloc (.cells #[.int .i64 a2, .int .i64 b2, .slice A2 n2 c2] 24)
    have F11 := (F9.trans hf10).alloc (.cells #[.int .i64 a2, .int .i64 b2, .slice A2 n2 c2] 24)
    generalize w10.alloc (.cells #[.int .i64 a2, .int .i64 b2, .slice A2 n2 c2] 24) = w11 at *
    generalize w10.heap.size = B11 at *
    clear x0 x1 x2 z0 z1 z2 y0 y1 y2 b10' d10 e10
    have hpre2 : ¬ (⟨#[41]⟩ : ByteArray).data.toList <+: s.data.toList.drop k10 := by
      intro hh; apply hc2
      obtain ⟨t9, ht9⟩ := hh
      rw [← ht9]; rfl
    have HL := Lib.hid (len_drop (s := s) hk10)
    refine (rwant_no hr11 hk10 hs (by decide) hpre2).mono ?_
    rintro e w13 ⟨rfl, hr13, hf13⟩
    have hR13 := hR11.fr hf13 (by simp; omega)
    have hC13 := hC11.fr hf13 (by simp; omega)
    have hD13 := hD11.fr hf13 (by simp; omega)
    have d13 := hr13.c2
    have e13 := hr13.fz 2
    have p13 := hr13.lt
    have r13 := hR13.lt
    have m13 := hC13.lt
    have n13 := hD13.lt
    have x0 := hC13.c0
    have x1 := hC13.c1
    have x2 := hC13.c2
    have s0 := hD13.c0
    have s1 := hD13.c1
    have s2 := hD13.c2
    have z0 := hR13.c0
    have z1 := hR13.c1
    have z2 := hR13.c2
    have y0 := hR13.fz 0
    have y1 := hR13.fz 1
    have y2 := hR13.fz 2
    go_wp2_with fail
    have g12 : Fr [pb] w13 (w13.setCell ⟨pb, 2, none⟩ (.int .i64 (dp : Int))) := (Fr.refl _ _).setCell (.inl (by simp)) _
    have g13 := Fr.set3 (w13.setCell ⟨pb, 2, none⟩ (.int .i64 (dp : Int))) w.heap.size (.int .i64 77) (.int .i64 0) (.slice (some ⟨w13.heap.size, 0, none⟩) 2 2)
    have hRp := (hr13.set2 dp).fr g13 (by simp; omega)
    have hRC := (hR13.fr g12 (by simp; omega)).set3 (.int .i64 77) (.int .i64 0) (.slice (some ⟨w13.heap.size, 0, none⟩) 2 2)
    have hF := ((F11.trans hf13).trans g12).over' g13 (by simp)
    have e14 : ((((w13.setCell ⟨pb, 2, none⟩ (.int .i64 (dp : Int))).setCell ⟨w.heap.size, 0, none⟩ (.int .i64 77)).setCell ⟨w.heap.size, 1, none⟩ (.int .i64 0)).setCell ⟨w.heap.size, 2, none⟩ (.slice (some ⟨w13.heap.size, 0, none⟩) 2 2)).heap.size = w13.heap.size := by simp
    generalize (((w13.setCell ⟨pb, 2, none⟩ (.int .i64 (dp : Int))).setCell ⟨w.heap.size, 0, none⟩ (.int .i64 77)).setCell ⟨w.heap.size, 1, none⟩ (.int .i64 0)).setCell ⟨w.heap.size, 2, none⟩ (.slice (some ⟨w13.heap.size, 0, none⟩) 2 2) = w14 at *
    refine retT oneRes rfl (hRC.fr (Fr.al (xs := []) _ _) (by simp)) ?_
    exact ⟨77, 0, _, 2, 2, k10, dp, rfl, by rw [HL.out]; exact hRp.fr (Fr.al (xs := []) _ _) (by simp), by decide, by omega, by omega, hk10, hF.alloc _⟩

set_option maxHeartbeats 8000000 in
set_option maxRecDepth 100000 in
theorem max_ok {d : Nat} (ih : WhOK d) {w : World} {pb k dp : Nat} {s : ByteArray} (h : Rp w pb s k dp 0 0) (hk : k ≤ s.size) (hs : s.size ≤ 120) (hd : dp + (d + 1) = 20) (hm : [109, 97, 120, 40] <+: s.data.toList.drop k) {ta : Tm} {v : List UInt8} (hr1' : chP d (s.data.toList.drop (k + 4)) = .ok ta v) (hc : v.head? = some 44) {tb : Tm} {v2 : List UInt8} (hr2' : chP d (v.drop 1) = .ok tb v2) (hc2 : v2.head? = some 41) :
    Calls Tryz.prog 174 #[.pointer (some ⟨pb, 0, none⟩)] w (OutT pb s dp w (singleF (inCh ((d + 1))) (s.data.toList.drop k))) := by
  have hA : Rp (w.alloc (.cells tz 24)) pb s k dp 0 0 := h.fr (xs := []) ((Fr.refl _ _).alloc _) (by simp)
  have hR : RC (w.alloc (.cells tz 24)) w.heap.size (.int .i64 0) (.int .i64 0) (.slice none 0 0) := RC.new w
  have hpl := h.lt
  have c1 := h.c1
  have FA := Fr.al (xs := [pb]) w (.cells tz 24)
  have _ := hk
  have hm1 : ¬ (⟨#[109, 105, 110, 40]⟩ : ByteArray).data.toList <+: s.data.toList.drop k := by
    intro hh
    obtain ⟨t1, e1⟩ := hh
    obtain ⟨t2, e2⟩ := hm
    rw [← e1] at e2
    simp at e2
  have hj4 := pre_len hm
  have hch : singleF (inCh ((d + 1))) (s.data.toList.drop k) = .ok (.two 77 ta tb) (v2.drop 1) := by
    rw [single_max hm, pairF, List.drop_drop]; rw [inCh_succ, hr1']; simp only; rw [if_pos hc, inCh_succ, hr2']; simp only; rw [if_pos hc2]
  rw [hch]
  clear hch
  · go_enter Tryz.func174, Tryz.ntmps174
    go_wp2_with (go_at_call 105; refine (ris_none hA hk hs (by decide) hm1).mono ?_; rintro e w1 ⟨rfl, hr1, hf1⟩; refine Hid.out ?_)
    refine Lib.hid ?_
    have hR1 := hR.fr hf1 (by simp; omega)
    go_wp2_with (go_at_call 105; refine (ris_take hr1 hs hm (by decide)).mono ?_; rintro e w2 ⟨rfl, hr2, hf2⟩; refine Hid.out ?_)
    refine Lib.hid ?_
    have hr2 : Rp w2 pb s (k + 4) dp 0 0 := hr2
    have hR2 := hR1.fr hf2 (by simp; omega)
    have F2 := (FA.trans hf1).trans hf2
    have hs2 := hf2.size
    have hs1 := hf1.size
    simp at hs1
    go_wp2_with (go_at_call 65; refine (rdown_yes hr2 (by omega) k).mono ?_; rintro e w5 ⟨rfl, hr5, hf5⟩; refine Hid.out ?_)
    refine Lib.hid ?_
    have hR5 := hR2.fr hf5 (by simp; omega)
    have F5 := F2.trans hf5
    have hs5 := hf5.size
    have co := ih w5 pb (k + 4) (dp + 1) s hr5 hj4 hs (by omega)
    rw [hr1'] at co
    clear hr1'
    go_wp2_with (go_at_call 29; refine co.mono ?_; rintro e w6 ⟨a, b, A, n, c, k6, rfl, ht6, hr6, hk6, rfl, hf6⟩; have hR6 := hR5.fr hf6 (by simp; omega); have b6' := hr6.c4; have p6 := hr6.lt; have r6 := hR6.lt; have z0 := hR6.c0; have z1 := hR6.c1; have z2 := hR6.c2; have y0 := hR6.fz 0; have y1 := hR6.fz 1; have y2 := hR6.fz 2)
    have hs6 := hf6.size
    have hC7 : RC (w6.alloc (.cells #[.int .i64 a, .int .i64 b, .slice A n c] 24)) w6.heap.size (.int .i64 a) (.int .i64 b) (.slice A n c) := RC.new w6
    have hr7 := hr6.fr (Fr.al (xs := []) w6 (.cells #[.int .i64 a, .int .i64 b, .slice A n c] 24)) (by simp)
    have hR7 := hR6.fr (Fr.al (xs := []) w6 (.cells #[.int .i64 a, .int .i64 b, .slice A n c] 24)) (by simp)
    have t7 := (ht6.mono (S' := fun p => w.heap.size < p) (fun p hp _ => by omega)).alloc (.cells #[.int .i64 a, .int .i64 b, .slice A n c] 24)
    have F7 := (F5.trans hf6).alloc (.cells #[.int .i64 a, .int .i64 b, .slice A n c] 24)
    generalize w6.alloc (.cells #[.int .i64 a, .int .i64 b, .slice A n c] 24) = w7 at *
    generalize w6.heap.size = B7 at *
    clear z0 z1 z2 y0 y1 y2 b6'
    have hj6 : k6 + 1 ≤ s.size := head_le hc
    have hpre : (⟨#[44]⟩ : ByteArray).data.toList <+: s.data.toList.drop k6 := pre_iff hc
    have hdd : (s.data.toList.drop k6).drop 1 = s.data.toList.drop (k6 + 1) := drop_drop1 s k6
    rw [hdd] at hr2'
    refine (rwant_yes hr7 hs hpre (by decide)).mono ?_
    rintro e w9 ⟨rfl, hr9, hf9⟩
    have hr9 : Rp w9 pb s (k6 + 1) (dp + 1) 0 0 := hr9
    have hR9 := hR7.fr hf9 (by simp; omega)
    have hC9 := hC7.fr hf9 (by simp; omega)
    have b9 := hr9.c4
    have lC9 := hC9.lt
    have t9' := t7.fr hf9 (by simp; omega)
    have F9 := F7.trans hf9
    have co2 := ih w9 pb (k6 + 1) (dp + 1) s hr9 hj6 hs (by omega)
    rw [hr2'] at co2
    clear hr2' hdd
    go_wp2_with (go_at_call 29; refine co2.mono ?_; rintro e w10 ⟨a2, b2, A2, n2, c2, k10, rfl, ht10, hr10, hk10, rfl, hf10⟩; have hR10 := hR9.fr hf10 (by simp; omega); have hC10 := hC9.fr hf10 (by simp; omega); have b10' := hr10.c4; have d10 := hr10.c2; have e10 := hr10.fz 2; have p10 := hr10.lt; have r10 := hR10.lt; have m10 := hC10.lt; have x0 := hC10.c0; have x1 := hC10.c1; have x2 := hC10.c2; have z0 := hR10.c0; have z1 := hR10.c1; have z2 := hR10.c2; have y0 := hR10.fz 0; have y1 := hR10.fz 1; have y2 := hR10.fz 2)
    have hs9 := hf9.size
    have hs10 := hf10.size
    have hD11 : RC (w10.alloc (.cells #[.int .i64 a2, .int .i64 b2, .slice A2 n2 c2] 24)) w10.heap.size (.int .i64 a2) (.int .i64 b2) (.slice A2 n2 c2) := RC.new w10
    have hr11 := hr10.fr (Fr.al (xs := []) w10 (.cells #[.int .i64 a2, .int .i64 b2, .slice A2 n2 c2] 24)) (by simp)
    have hR11 := hR10.fr (Fr.al (xs := []) w10 (.cells #[.int .i64 a2, .int .i64 b2, .slice A2 n2 c2] 24)) (by simp)
    have hC11 := hC10.fr (Fr.al (xs := []) w10 (.cells #[.int .i64 a2, .int .i64 b2, .slice A2 n2 c2] 24)) (by simp)
    have tA11 := (t9'.fr hf10 (by simp; omega)).alloc (.cells #[.int .i64 a2, .int .i64 b2, .slice A2 n2 c2] 24)
    have tB11 := (ht10.mono (S' := fun p => w.heap.size < p) (fun p hp _ => by omega)).alloc (.cells #[.int .i64 a2, .int .i64 b2, .slice A2 n2 c2] 24)
    have F11 := (F9.trans hf10).alloc (.cells #[.int .i64 a2, .int .i64 b2, .slice A2 n2 c2] 24)
    generalize w10.alloc (.cells #[.int .i64 a2, .int .i64 b2, .slice A2 n2 c2] 24) = w11 at *
    generalize w10.heap.size = B11 at *
    clear x0 x1 x2 z0 z1 z2 y0 y1 y2 b10' d10 e10
    have hj10 : k10 + 1 ≤ s.size := head_le hc2
    have hpre2 : (⟨#[41]⟩ : ByteArray).data.toList <+: s.data.toList.drop k10 := pre_iff hc2
    refine (rwant_yes hr11 hs hpre2 (by decide)).mono ?_
    rintro e w13 ⟨rfl, hr13, hf13⟩
    have hr13 : Rp w13 pb s (k10 + 1) (dp + 1) 0 0 := hr13
    have hs13 := hf13.size
    have hR13 := hR11.fr hf13 (by simp; omega)
    have hC13 := hC11.fr hf13 (by simp; omega)
    have hD13 := hD11.fr hf13 (by simp; omega)
    have d13 := hr13.c2
    have e13 := hr13.fz 2
    have p13 := hr13.lt
    have r13 := hR13.lt
    have m13 := hC13.lt
    have n13 := hD13.lt
    have x0 := hC13.c0
    have x1 := hC13.c1
    have x2 := hC13.c2
    have s0 := hD13.c0
    have s1 := hD13.c1
    have s2 := hD13.c2
    have z0 := hR13.c0
    have z1 := hR13.c1
    have z2 := hR13.c2
    have y0 := hR13.fz 0
    have y1 := hR13.fz 1
    have y2 := hR13.fz 2
    go_wp2_with fail
    have g12 : Fr [pb] w13 (w13.setCell ⟨pb, 2, none⟩ (.int .i64 (dp : Int))) := (Fr.refl _ _).setCell (.inl (by simp)) _
    have g13 := Fr.set3 (w13.setCell ⟨pb, 2, none⟩ (.int .i64 (dp : Int))) w.heap.size (.int .i64 77) (.int .i64 0) (.slice (some ⟨w13.heap.size, 0, none⟩) 2 2)
    have hRp := (hr13.set2 dp).fr g13 (by simp; omega)
    have hRC := (hR13.fr g12 (by simp; omega)).set3 (.int .i64 77) (.int .i64 0) (.slice (some ⟨w13.heap.size, 0, none⟩) 2 2)
    have hF := ((F11.trans hf13).trans g12).over' g13 (by simp)
    have e14 : ((((w13.setCell ⟨pb, 2, none⟩ (.int .i64 (dp : Int))).setCell ⟨w.heap.size, 0, none⟩ (.int .i64 77)).setCell ⟨w.heap.size, 1, none⟩ (.int .i64 0)).setCell ⟨w.heap.size, 2, none⟩ (.slice (some ⟨w13.heap.size, 0, none⟩) 2 2)).heap.size = w13.heap.size := by simp
    have tA := (((tA11.fr hf13 (by simp; omega)).fr g12 (by simp; omega)).fr g13 (by simp)).alloc (.cells #[.int .i64 a, .int .i64 b, .slice A n c, .int .i64 a2, .int .i64 b2, .slice A2 n2 c2] 24)
    have tB := (((tB11.fr hf13 (by simp; omega)).fr g12 (by simp; omega)).fr g13 (by simp)).alloc (.cells #[.int .i64 a, .int .i64 b, .slice A n c, .int .i64 a2, .int .i64 b2, .slice A2 n2 c2] 24)
    generalize (((w13.setCell ⟨pb, 2, none⟩ (.int .i64 (dp : Int))).setCell ⟨w.heap.size, 0, none⟩ (.int .i64 77)).setCell ⟨w.heap.size, 1, none⟩ (.int .i64 0)).setCell ⟨w.heap.size, 2, none⟩ (.slice (some ⟨w13.heap.size, 0, none⟩) 2 2) = w14 at *
    refine retT oneRes rfl (hRC.fr (Fr.al (xs := []) _ _) (by simp)) ?_
    exact ⟨77, 0, _, 2, 2, k10 + 1, rfl, ⟨w13.heap.size, ⟨a, b, A, n, c⟩, ⟨a2, b2, A2, n2, c2⟩, (by show _ ≤ _; omega), rfl, alloc_at e14.symm, tA.mono (fun p hp _ => by omega), tB.mono (fun p hp _ => by omega)⟩, hRp.fr (Fr.al (xs := []) _ _) (by simp), hj10, by rw [drop_drop1], hF.alloc _⟩
end Go.Proofs.YtnapbfilkahobaaGreatDoor

/- The document's reader: all its levels. -/
namespace Go.Proofs.YtnapbfilkahobaaGreatDoor
open Go.RowKit
set_option linter.unusedVariables false
theorem one_any {d : Nat} (ih : ∀ e, d = e + 1 → WhOK e) : OneOK d := by
  intro w pb k dp s h hk hs hd
  by_cases n1 : (s.data.toList.drop k).head? = some 110
  · exact one_n h hk hs n1
  by_cases n2 : (s.data.toList.drop k).head? = some 115
  · exact one_s h hk hs n2
  by_cases n3 : (s.data.toList.drop k).head? = some 40
  · cases d with
    | zero => exact one_brk0 h hk hs hd n3
    | succ e =>
      cases hr1 : chP e (s.data.toList.drop (k + 1)) with
      | bad pl er => exact one_brk_bad (ih e rfl) h hk hs hd n3 hr1
      | ok ta v =>
        by_cases hc : v.head? = some 41
        · exact one_brk_ok (ih e rfl) h hk hs hd n3 hr1 hc
        · exact one_brk_no (ih e rfl) h hk hs hd n3 hr1 hc
  by_cases m1 : [109, 105, 110, 40] <+: s.data.toList.drop k
  · cases d with
    | zero => exact min_zero h hk hs hd m1
    | succ e =>
      cases hr1 : chP e (s.data.toList.drop (k + 4)) with
      | bad pl er => exact min_bad1 (ih e rfl) h hk hs hd m1 hr1
      | ok ta v =>
        by_cases hc : v.head? = some 44
        · cases hr2 : chP e (v.drop 1) with
          | bad pl er => exact min_bad2 (ih e rfl) h hk hs hd m1 hr1 hc hr2
          | ok tb v2 =>
            by_cases hc2 : v2.head? = some 41
            · exact min_ok (ih e rfl) h hk hs hd m1 hr1 hc hr2 hc2
            · exact min_no2 (ih e rfl) h hk hs hd m1 hr1 hc hr2 hc2
        · exact min_no1 (ih e rfl) h hk hs hd m1 hr1 hc
  by_cases m2 : [109, 97, 120, 40] <+: s.data.toList.drop k
  · cases d with
    | zero => exact max_zero h hk hs hd m2
    | succ e =>
      cases hr1 : chP e (s.data.toList.drop (k + 4)) with
      | bad pl er => exact max_bad1 (ih e rfl) h hk hs hd m2 hr1
      | ok ta v =>
        by_cases hc : v.head? = some 44
        · cases hr2 : chP e (v.drop 1) with
          | bad pl er => exact max_bad2 (ih e rfl) h hk hs hd m2 hr1 hc hr2
          | ok tb v2 =>
            by_cases hc2 : v2.head? = some 41
            · exact max_ok (ih e rfl) h hk hs hd m2 hr1 hc hr2 hc2
            · exact max_no2 (ih e rfl) h hk hs hd m2 hr1 hc hr2 hc2
        · exact max_no1 (ih e rfl) h hk hs hd m2 hr1 hc
  have e : singleF (inCh d) (s.data.toList.drop k) = numF (s.data.toList.drop k) := by
    unfold singleF
    rw [if_neg n1, if_neg n2, if_neg n3, if_neg m1, if_neg m2]
  rw [e]
  exact one_num h hk hs (by omega) m1 m2 n1 n2 n3
theorem all_levels : ∀ d : Nat, WhOK d ∧ LessOK d
  | 0 => by
    have h1 := one_any (d := 0) (fun e he => by omega)
    have h2 := less_any h1 (fun e he => by omega)
    exact ⟨wh_any (cmp_any (row_any (.inl ⟨rfl, rfl⟩) (row_any (.inr ⟨rfl, rfl⟩) (row_four h2) (shr_sg 0)) (shr_pr 0))) (fun e he => by omega), h2⟩
  | d + 1 => by
    obtain ⟨i1, i2⟩ := all_levels d
    have h1 := one_any (d := d + 1) (fun e he => by cases Nat.succ.inj he; exact i1)
    have h2 := less_any h1 (fun e he => by cases Nat.succ.inj he; exact i2)
    exact ⟨wh_any (cmp_any (row_any (.inl ⟨rfl, rfl⟩) (row_any (.inr ⟨rfl, rfl⟩) (row_four h2) (shr_sg (d + 1))) (shr_pr (d + 1)))) (fun e he => by cases Nat.succ.inj he; exact i1), h2⟩
end Go.Proofs.YtnapbfilkahobaaGreatDoor

/- The document's reader: Parse. -/
namespace Go.Proofs.YtnapbfilkahobaaGreatDoor
open Go.RowKit
set_option linter.unusedVariables false
def OutP (s : ByteArray) (w : World) (r : Res) (e : Ending) (w' : World) : Prop :=
  match r with
  | .ok t _ => ∃ (a b : Int) (A : Option Addr) (n c : Nat), e = .returned (.tuple #[.agg #[.int .i64 a, .int .i64 b, .slice A n c], .int .i64 0, .int .i64 0]) ∧ TrV (fun p => w.heap.size ≤ p) w' t ⟨a, b, A, n, c⟩ ∧ Below w.heap.size w w'
  | .bad pl er => e = .returned (.tuple #[.agg #[.int .i64 0, .int .i64 0, .slice none 0 0], .int .i64 ((s.size - pl : Nat) : Int), .int .i64 (er : Nat)]) ∧ Below w.heap.size w w'
set_option maxHeartbeats 4000000 in
set_option maxRecDepth 100000 in
theorem parse_long (s : ByteArray) (w : World) (hl : 120 < s.size) : Calls Tryz.prog 7 #[.string s] w (OutP s w (.bad s.size 4)) := by
  have hl' : (120 : Int) < (s.size : Int) := by omega
  have hz : ((s.size - s.size : Nat) : Int) = 0 := by omega
  unfold OutP
  simp only [hz]
  go_enter Tryz.func7, Tryz.ntmps7
  go_wp2_with fail
  exact bodyPost_ret (v := .tuple #[.agg #[.int .i64 0, .int .i64 0, .slice none 0 0], .int .i64 0, .int .i64 4]) (by simp [results, Tryz.results7, go_sem]) rfl ⟨rfl, by first | exact (Below.refl _ _).alloc (Nat.le_refl _) _ | exact ((((Below.refl _ _).alloc (Nat.le_refl _) _).setCell (Nat.le_refl _) _).setCell (Nat.le_refl _) _).setCell (Nat.le_refl _) _⟩
set_option maxHeartbeats 4000000 in
set_option maxRecDepth 100000 in
theorem parse_short (s : ByteArray) (w : World) (hl : s.size ≤ 120) : Calls Tryz.prog 7 #[.string s] w (OutP s w (wholeP s.data.toList)) := by
  have hl' : ¬ (120 : Int) < (s.size : Int) := by omega
  have hP : Rp ((w.alloc (.cells tz 24)).alloc (.cells #[.string s, .int .i64 0, .int .i64 0, .int .i64 0, .int .i64 0] 70)) (w.heap.size + 1) s 0 0 0 0 := heap_alloc2_new w _ _
  have hW := (all_levels 20).1 _ _ 0 0 s hP (by omega) hl (by omega)
  rw [List.drop_zero] at hW
  have hR : RC ((w.alloc (.cells tz 24)).alloc (.cells #[.string s, .int .i64 0, .int .i64 0, .int .i64 0, .int .i64 0] 70)) w.heap.size (.int .i64 0) (.int .i64 0) (.slice none 0 0) := heap_alloc2_old w _ _
  have bA : Below w.heap.size w ((w.alloc (.cells tz 24)).alloc (.cells #[.string s, .int .i64 0, .int .i64 0, .int .i64 0, .int .i64 0] 70)) := ((Below.refl _ _).alloc (Nat.le_refl _) _).alloc (by simp) _
  have hzA : ((w.alloc (.cells tz 24)).alloc (.cells #[.string s, .int .i64 0, .int .i64 0, .int .i64 0, .int .i64 0] 70)).heap.size = w.heap.size + 2 := by simp
  cases hc : chP 20 s.data.toList with
  | bad pl er =>
    have hwp : wholeP s.data.toList = .bad pl er := by unfold wholeP; rw [hc]
    rw [hc] at hW
    rw [hwp]
    clear hwp hc
    have HR := Lib.hid hR
    have HB := Lib.hid bA
    have HZ := Lib.hid hzA
    clear hR bA hzA hP
    simp only [tz] at hW HR HB HZ
    go_enter Tryz.func7, Tryz.ntmps7
    go_wp2_with (go_at_call 29; refine hW.mono ?_; rintro e w2 ⟨a, b, A, n, c, k, dp', rfl, hr, he, h1, h2, h3, hf⟩; refine Hid.out ?_)
    refine Lib.hid ?_
    have hbW : Below w.heap.size w w2 := HB.out.trans (hf.toBelow (B := w.heap.size) (by rw [HZ.out]; omega) (by simp))
    have hR2 := HR.out.fr hf (by simp)
    have b3 : Below w2.heap.size w2 (w2.alloc (.cells #[.int .i64 a, .int .i64 b, .slice A n c] 24)) := (Below.refl _ _).alloc (Nat.le_refl _) _
    have hr3 := hr.fr (xs := []) (Fr.al (xs := []) w2 (.cells #[.int .i64 a, .int .i64 b, .slice A n c] 24)) (by simp)
    have hR3 := hR2.fr (xs := []) (Fr.al (xs := []) w2 (.cells #[.int .i64 a, .int .i64 b, .slice A n c] 24)) (by simp)
    have hb3 : Below w.heap.size w (w2.alloc (.cells #[.int .i64 a, .int .i64 b, .slice A n c] 24)) := hbW.trans (b3.mono hbW.size)
    have x3 := hr3.c3
    have x4 := hr3.c4
    have z0 := hR3.c0
    have z1 := hR3.c1
    have z2 := hR3.c2
    have y0 := hR3.fz 0
    have y1 := hR3.fz 1
    have y2 := hR3.fz 2
    have he' : ((er : Int) == 0) = false := by simp; omega
    have hq4 := hr.c4
    have hnn : w.heap.size ≠ w.heap.size + 1 := by omega
    have hrl := hr3.lt
    have hRl := hR3.lt
    have HB3 := Lib.hid hb3
    clear hr3 hR3 hb3 hbW hR2 b3 hf hW HR HB HZ hr h1 h2 h3
    go_wp2_with fail
    generalize w2.alloc (.cells #[.int .i64 a, .int .i64 b, .slice A n c] 24) = w3 at *
    go_region
    all_goals
      go_wp2_with fail
      exact bodyPost_ret (v := .tuple #[.agg #[.int .i64 0, .int .i64 0, .slice none 0 0], .int .i64 ((s.size - pl : Nat) : Int), .int .i64 (er : Nat)]) (by simp [results, Tryz.results7, go_sem, z0, z1, z2]) rfl ⟨rfl, (((HB3.out.setCell (p := ⟨w.heap.size, 0, none⟩) (Nat.le_refl _) _).setCell (p := ⟨w.heap.size, 1, none⟩) (Nat.le_refl _) _).setCell (p := ⟨w.heap.size, 2, none⟩) (Nat.le_refl _) _).drew⟩
  | ok t u =>
    rw [hc] at hW
    have HR := Lib.hid hR
    have HB := Lib.hid bA
    have HZ := Lib.hid hzA
    have HCc := Lib.hid hc
    clear hR bA hzA hP hc
    simp only [tz] at hW HR HB HZ
    generalize hwp : wholeP s.data.toList = WP at *
    have HWp := Lib.hid hwp
    clear hwp
    go_enter Tryz.func7, Tryz.ntmps7
    go_wp2_with (go_at_call 29; refine hW.mono ?_; rintro e w2 ⟨a, b, A, n, c, k, rfl, hT, hr, hk, hu, hf⟩; refine Hid.out ?_)
    refine Lib.hid ?_
    have hbW : Below w.heap.size w w2 := HB.out.trans (hf.toBelow (B := w.heap.size) (by rw [HZ.out]; omega) (by simp))
    have hR2 := HR.out.fr hf (by simp)
    have b3 : Below w2.heap.size w2 (w2.alloc (.cells #[.int .i64 a, .int .i64 b, .slice A n c] 24)) := (Below.refl _ _).alloc (Nat.le_refl _) _
    have hr3 := hr.fr (xs := []) (Fr.al (xs := []) w2 (.cells #[.int .i64 a, .int .i64 b, .slice A n c] 24)) (by simp)
    have hR3 := hR2.fr (xs := []) (Fr.al (xs := []) w2 (.cells #[.int .i64 a, .int .i64 b, .slice A n c] 24)) (by simp)
    have hb3 : Below w.heap.size w (w2.alloc (.cells #[.int .i64 a, .int .i64 b, .slice A n c] 24)) := hbW.trans (b3.mono hbW.size)
    have hRl := hR3.lt
    by_cases hend : k = s.size
    · have hu0 : u = [] := by rw [hu, hend, List.drop_eq_nil_iff]; simp
      have hWq : WP = .ok t [] := by rw [← HWp.out]; unfold wholeP; rw [HCc.out]; simp only; rw [if_pos hu0]
      have hT3 : TrV (fun p => w.heap.size ≤ p) (((w2.alloc (.cells #[.int .i64 a, .int .i64 b, .slice A n c] 24)).setCell ⟨w.heap.size, 0, none⟩ (.int .i64 a)).setCell ⟨w.heap.size, 1, none⟩ (.int .i64 b) |>.setCell ⟨w.heap.size, 2, none⟩ (.slice A n c)) t ⟨a, b, A, n, c⟩ := by
        have hk1 : TrV (fun p => w.heap.size + 2 ≤ p) (((w2.alloc (.cells #[.int .i64 a, .int .i64 b, .slice A n c] 24)).setCell ⟨w.heap.size, 0, none⟩ (.int .i64 a)).setCell ⟨w.heap.size, 1, none⟩ (.int .i64 b) |>.setCell ⟨w.heap.size, 2, none⟩ (.slice A n c)) t ⟨a, b, A, n, c⟩ := by
          rw [HZ.out] at hT
          refine TrV.keep (fun p o hp ho => ?_) t _ hT
          rw [Below.heap_setCell _ _ _ _ (by simp only; omega), Below.heap_setCell _ _ _ _ (by simp only; omega), Below.heap_setCell _ _ _ _ (by simp only; omega), b3.block _ (some_lt ho)]; exact ho
        exact TrV.mono (fun p hp _ => by omega) hk1
      have x1 := hr3.c1
      have x4 := hr3.c4
      have z0 := hR3.c0
      have z1 := hR3.c1
      have z2 := hR3.c2
      have y0 := hR3.fz 0
      have y1 := hR3.fz 1
      have y2 := hR3.fz 2
      have hke : ¬ (k : Int) < (s.size : Int) := by omega
      have hrl := hr3.lt
      have HB3 := Lib.hid hb3
      have HT3 := Lib.hid hT3
      have k0 : (w2.alloc (.cells #[.int .i64 a, .int .i64 b, .slice A n c] 24)).cell? ⟨w2.heap.size, 0, none⟩ = some (.int .i64 a) := by simp
      have k1 : (w2.alloc (.cells #[.int .i64 a, .int .i64 b, .slice A n c] 24)).cell? ⟨w2.heap.size, 1, none⟩ = some (.int .i64 b) := by simp
      have k2 : (w2.alloc (.cells #[.int .i64 a, .int .i64 b, .slice A n c] 24)).cell? ⟨w2.heap.size, 2, none⟩ = some (.slice A n c) := by simp
      have HWq := Lib.hid hWq
      have hnn : w.heap.size ≠ w.heap.size + 1 := by omega
      have hn2 : w.heap.size ≠ w2.heap.size := by have := hR2.lt; omega
      clear hr3 hR3 hb3 hbW hR2 b3 hf hW HR HB HZ hr hT hT3 hu hu0 hWq HCc HWp
      go_upto_region 5 with fail
      generalize w2.alloc (.cells #[.int .i64 a, .int .i64 b, .slice A n c] 24) = w3 at *
      go_wp2_with fail
      refine bodyPost_ret (v := .tuple #[.agg #[.int .i64 a, .int .i64 b, .slice A n c], .int .i64 0, .int .i64 0]) (by simp [results, Tryz.results7, go_sem, z0, z1, z2]) rfl ?_
      rw [HWq.out]
      exact ⟨a, b, A, n, c, rfl, HT3.out, ((HB3.out.setCell (p := ⟨w.heap.size, 0, none⟩) (Nat.le_refl _) _).setCell (p := ⟨w.heap.size, 1, none⟩) (Nat.le_refl _) _).setCell (p := ⟨w.heap.size, 2, none⟩) (Nat.le_refl _) _⟩
    · have hkl : k < s.size := by omega
      have hune : u ≠ [] := fun e => by
        rw [hu, List.drop_eq_nil_iff] at e
        simp at e
        omega
      have hWq : WP = .bad u.length 2 := by rw [← HWp.out]; unfold wholeP; rw [HCc.out]; simp only; rw [if_neg hune]
      have hul : s.size - u.length = k := by rw [hu]; exact len_drop hk
      have x1 := hr3.c1
      have x4 := hr3.c4
      have hke : (k : Int) < (s.size : Int) := by omega
      have hrl := hr3.lt
      have HFa := Lib.hid (rfail_any hr3 k 2)
      have HRr := Lib.hid hR3
      have HB3 := Lib.hid hb3
      have HWq := Lib.hid hWq
      have HUl := Lib.hid hul
      have hnn : w.heap.size ≠ w.heap.size + 1 := by omega
      have hpo : w.heap.size ≤ w.heap.size + 1 := by omega
      clear hr3 hR3 hb3 hbW hR2 b3 hf hW HR HB HZ hr hT hu hune hWq HCc HWp hul
      go_upto_region 5 with fail
      generalize w2.alloc (.cells #[.int .i64 a, .int .i64 b, .slice A n c] 24) = w3 at *
      go_wp2_with (go_at_call 30; refine HFa.out.mono ?_; rintro e w4 ⟨rfl, hr4, hf4⟩; refine Hid.out ?_)
      refine Lib.hid ?_
      have hR4 := HRr.out.fr hf4 (by simp)
      have x3 := hr4.c3
      have x5 := hr4.c4
      have z0 := hR4.c0
      have z1 := hR4.c1
      have z2 := hR4.c2
      have y0 := hR4.fz 0
      have y1 := hR4.fz 1
      have y2 := hR4.fz 2
      have HB4 := Lib.hid (show Below w.heap.size w w4 from HB3.out.trans (hf4.toBelow (B := w.heap.size) HB3.out.size (by simp)))
      clear hr4 hR4 hf4 HFa HRr HB3 x1 x4
      go_wp2_with fail
      go_region
      all_goals
        go_wp2_with fail
        refine bodyPost_ret (v := .tuple #[.agg #[.int .i64 0, .int .i64 0, .slice none 0 0], .int .i64 (k : Nat), .int .i64 2]) (by simp [results, Tryz.results7, go_sem, z0, z1, z2]) rfl ?_
        rw [HWq.out]
        exact ⟨by rw [HUl.out]; rfl, (((HB4.out.setCell (p := ⟨w.heap.size, 0, none⟩) (Nat.le_refl _) _).setCell (p := ⟨w.heap.size, 1, none⟩) (Nat.le_refl _) _).setCell (p := ⟨w.heap.size, 2, none⟩) (Nat.le_refl _) _).drew⟩
theorem parse_any (s : ByteArray) (w : World) : Calls Tryz.prog 7 #[.string s] w (OutP s w (readP s.data.toList)) := by
  have hlen : s.data.toList.length = s.size := by simp
  unfold readP
  by_cases h : 120 < s.size
  · rw [if_pos (by omega), hlen]; exact parse_long s w h
  · rw [if_neg (by omega)]; exact parse_short s w (by omega)
end Go.Proofs.YtnapbfilkahobaaGreatDoor
