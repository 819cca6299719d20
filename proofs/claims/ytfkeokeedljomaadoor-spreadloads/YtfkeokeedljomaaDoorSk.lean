/- Least, whole. -/
import Derived.Test.YtfkeokeedljomaaDoorSh
import Derived.Test.YtfkeokeedljomaaDoorSj
namespace Go.Proofs.YtfkeokeedljomaaDoor
open Go.RowKit
set_option linter.unusedVariables false

theorem badL_no {L : List Int} (h : L.any badL = false) (k : Nat) (hk : k < L.length) : 0 ≤ ldf L k ∧ ldf L k ≤ 1000000 := by
  rw [ldf_at L k hk]
  have := List.any_eq_false.1 h L[k] (List.getElem_mem _)
  unfold badL at this
  simp at this
  omega
set_option maxRecDepth 100000 in
set_option maxHeartbeats 4000000 in
theorem lsf_any (w : World) (la : Option Addr) (cap n m : Nat) (L : List Int) (h : CsAt w la (icells L)) (hn : n = L.length) (hl : n ≤ 400) (hm0 : 0 < m) (hm : m ≤ 16) (hb : L.any badL = false) :
    Calls Tryd.prog 18 #[.slice la n cap, .int .i64 m] w fun e w' => ∃ C, e = .returned (.slice (some ⟨w.heap.size, 0, none⟩) n n) ∧ Bk (ldf L) 0 C ∧ C.length = n ∧ IR w' w.heap.size (givs (ldf L) m n C).2 ∧ Below w.heap.size w w' := by
  have HMK := Lib.hid (make_i n hl)
  have HC : Hid (CsAt w la (icells L)) := h
  have HN : Hid (n = L.length) := hn
  have HB : Hid (L.any badL = false) := hb
  clear h hn hb
  go_enter Tryd.func18, Tryd.ntmps18
  have hmk := HMK.out
  go_wp2_with fail
  have HI0 : Hid (IR (w.alloc (.cells (madeCells #[.int .i64 0] n) 3)) w.heap.size (List.replicate n 0)) := IR.made w n
  have HF0 : Hid (Below w.heap.size w (w.alloc (.cells (madeCells #[.int .i64 0] n) 3))) := (Below.refl _ _).alloc (Nat.le_refl _) _
  have HS0 : Hid ((w.alloc (.cells (madeCells #[.int .i64 0] n) 3)).heap.size = w.heap.size + 1) := by show _ = _; simp
  obtain ⟨gw, hgw⟩ : ∃ g, w.heap.size = g := ⟨_, rfl⟩
  rw [hgw] at HI0 HF0 HS0 ⊢
  have HGW : Hid (w.heap.size = gw) := hgw
  clear hgw hmk
  generalize w.alloc (.cells (madeCells #[.int .i64 0] n) 3) = W1 at HI0 HF0 HS0 ⊢
  refine (newg_any m hm0 hm _).mono ?_
  rintro e W2 ⟨rfl, hbx, hsz, hF2⟩
  rw [HS0.out] at hbx hsz hF2 ⊢
  have HBX : Hid (BxAt W2 (gw + 1 + 1) (gw + 1) m m (List.replicate m 0)) := hbx
  have HI2 : Hid (IR W2 gw (List.replicate n 0)) := HI0.out.fr (xs := []) (by simp) (Fr.below (by rw [HS0.out]; exact hF2))
  have HF2 : Hid (Below gw w W2) := HF0.out.trans (hF2.mono (by omega))
  have HS2 : Hid (W2.heap.size = gw + 3) := by show _ = _; omega
  clear hbx hsz hF2 HI0 HF0 HS0
  go_wp2_with fail
  refine (gf_any _ la cap n L (HC.out.keep (by rw [HGW.out]; exact HF2.out)) HN.out hl).mono ?_
  rintro e W3 ⟨g, c, C, rfl, hBk, hCl, hIR, hg, hF3⟩
  rw [HS2.out] at hg hF3
  have HBK : Hid (Bk (ldf L) 0 C ∧ C.length = n) := ⟨hBk, hCl⟩
  have HIC : Hid (IR W3 g C) := hIR
  have HBX3 : Hid (BxAt W3 (gw + 1 + 1) (gw + 1) m m (List.replicate m 0)) := HBX.out.fr (xs := []) (Fr.below (by rw [HS2.out]; exact hF3)) (by simp) (by simp)
  have HI3 : Hid (IR W3 gw (List.replicate n 0)) := HI2.out.fr (xs := []) (by simp) (Fr.below (by rw [HS2.out]; exact hF3))
  have HF3 : Hid (Below gw w W3) := HF2.out.trans (hF3.mono (by omega))
  have HGE : Hid (gw + 3 ≤ g) := hg
  clear hBk hCl hIR hg hF3 HBX HI2 HF2 HS2
  go_wp2_with fail
  go_loopw [17] (fun vk wr => ∃ k : Nat, vk = .int .i64 (k : Int) ∧ k ≤ n ∧ Hid (BxAt wr (gw + 1 + 1) (gw + 1) m m (givs (ldf L) m n (C.take k)).1) ∧ Hid (IR wr gw (givs (ldf L) m n (C.take k)).2) ∧ Hid (Fr [gw, gw + 1] W3 wr)) (fun vk _ => n - (intOf vk).toNat)
  case atStart => exact ⟨0, rfl, by omega, HBX3, HI3, Fr.refl _ _⟩
  case round =>
    obtain ⟨k, rfl, hk, hbx, hI, hF⟩ := hrel
    by_cases hlt : k < n
    · have hz : (k : Int) < (n : Int) := by omega
      have hkC : k < C.length := by have := HBK.out.2; omega
      obtain ⟨x, hx⟩ := at_lt (l := C) (k := k) hkC
      have c1 : wr.cell? ⟨g, k, none⟩ = some (.int .i64 (x : Int)) := (HIC.out.fr (by have := HGE.out; simp; omega) hF.out k x hx).1
      have hxm := List.mem_of_getElem? hx
      have hxn : x < n := by have := HBK.out.1.mem hxm; have := HBK.out.2; omega
      have hxz : (x : Int) < (n : Int) := by omega
      obtain ⟨b, o, rfl, c2⟩ := is_at (HC.out.keep (by rw [HGW.out]; exact HF3.out)) x (by have := HN.out; omega)
      rw [← ldf_at L x (by have := HN.out; omega)] at c2
      have hbl : b < gw := by
        have := cell_lt (is_at HC.out x (by have := HN.out; omega)).choose_spec.choose_spec.2
        have e := (is_at HC.out x (by have := HN.out; omega)).choose_spec.choose_spec.1
        injection e with e; injection e with e
        have h2 := HGW.out
        omega
      have c2' : wr.cell? ⟨b, o + x, none⟩ = some (.int .i64 (ldf L x)) := by
        rw [hF.out.cell (p := ⟨b, o + x, none⟩) (cell_lt c2) (by simp; omega)]; exact c2
      have hlx := badL_no HB.out x (by have := HN.out; omega)
      have htk : C.take (k + 1) = C.take k ++ [x] := by
        obtain ⟨h1, rfl⟩ := List.getElem?_eq_some_iff.1 hx
        exact List.take_succ_eq_append_getElem h1
      have hgs : givs (ldf L) m n (C.take (k + 1)) = giv (ldf L) (givs (ldf L) m n (C.take k)) x := by rw [htk, givs_snoc]
      have HGS : Hid (givs (ldf L) m n (C.take (k + 1)) = giv (ldf L) (givs (ldf L) m n (C.take k)) x) := hgs
      obtain ⟨l1, l2⟩ := givs_len (ldf L) m n (C.take k)
      have hbd := givs_bd (ldf L) m n hm0 1000000 (C.take k) (fun y hy => badL_no HB.out y (by have := HBK.out.1.mem (List.mem_of_mem_take hy); have := HBK.out.2; have := HN.out; omega))
      have hal := argmin_lt (givs (ldf L) m n (C.take k)).1 (by intro e; rw [e] at l1; simp at l1; omega)
      have hv : 0 ≤ (givs (ldf L) m n (C.take k)).1.getD (argmin (givs (ldf L) m n (C.take k)).1) 0 ∧ (givs (ldf L) m n (C.take k)).1.getD (argmin (givs (ldf L) m n (C.take k)).1) 0 ≤ 1000000000 := by
        rw [List.getD_eq_getElem?_getD, List.getElem?_eq_getElem hal]
        have := hbd _ (List.getElem_mem hal)
        have hle : (C.take k).length ≤ 400 := by rw [List.length_take]; omega
        simp only [Option.getD_some]
        omega
      obtain ⟨y0, hy0⟩ := at_lt (l := (givs (ldf L) m n (C.take k)).2) (k := x) (by omega)
      have hc := give_any wr (gw + 1 + 1) (gw + 1) m m _ (ldf L x) hbx.out hm0 hm hv (by omega)
      have HX : Hid (IR wr gw (givs (ldf L) m n (C.take k)).2 ∧ x < n) := ⟨hI.out, hxn⟩
      clear hgs l1 l2 hbd hal hv htk hx hxm c2 hI hbx
      generalize givs (ldf L) m n (C.take k) = G at hc HX HGS hy0
      generalize hlx2 : ldf L x = lx at hc c2' hlx
      have HLX : Hid (ldf L x = lx) := hlx2
      clear hlx2
      obtain ⟨d0, e0⟩ := HX.out.1 x y0 hy0
      have hc := Lib.hid hc
      go_wp2_with fail
      refine hc.out.mono ?_
      rintro e w4 ⟨rfl, hb4, hF4⟩
      have d1 : w4.cell? ⟨gw, x, none⟩ = some (.int .i64 (y0 : Int)) := by rw [hF4.cell (p := ⟨gw, x, none⟩) (cell_lt d0) (by simp)]; exact d0
      have e1 : w4.frozen? ⟨gw, x, none⟩ = false := by rw [hF4.frozen (p := ⟨gw, x, none⟩) (cell_lt d0) (by simp)]; exact e0
      have HB4 : Hid (BxAt w4 (gw + 1 + 1) (gw + 1) m m (G.1.set (argmin G.1) (G.1.getD (argmin G.1) 0 + lx))) := hb4
      have HI4 : Hid (IR w4 gw G.2) := HX.out.1.fr (by simp) hF4
      have HF4 : Hid (Fr [gw, gw + 1] W3 w4) := hF.out.trans (hF4.more (fun j _ hj => by simp at hj; simp [hj]))
      clear hb4 hF4 d0 e0 hc hF c1 c2'
      go_wp2_with fail
      refine ⟨⟨k + 1, by go_num, by omega, ?_, ?_, ?_⟩, by simp [intOf]; omega⟩
      · rw [HGS.out]
        have := HB4.out
        unfold giv
        rw [HLX.out]
        refine ⟨?_, this.z.fr (xs := [gw]) (by simp) ((Fr.refl _ _).setCell (.inl (by simp)) _), this.m, this.ne⟩
        rw [World.cell?_setCell_far _ _ _ _ (by show gw ≠ gw + 1 + 1; omega)]; exact this.b
      · rw [HGS.out]
        exact HI4.out.set _ _
      · exact HF4.out.setCell (.inl (by simp)) _
    · have hz : ¬ (k : Int) < (n : Int) := by omega
      obtain rfl : k = n := by omega
      have ht : C.take k = C := List.take_of_length_le (by have := HBK.out.2; omega)
      rw [ht] at hI
      go_wp2_with fail
      go_ret
      have hsz := HF3.out.size
      obtain rfl := HGW.out
      exact ⟨rfl, C, HBK.out.1, HBK.out.2, hI.out, HF3.out.trans (hF.out.toBelow hsz (by simp))⟩

def erL (L : List Int) (m : Int) : Nat := if erC L.length m ≠ 0 then erC L.length m else if L.any badL then 1 else 0
set_option maxHeartbeats 2000000 in
theorem least_no (w : World) (la : Option Addr) (cap n : Nat) (m : Int) (L : List Int) (h : CsAt w la (icells L)) (hn : n = L.length) (hl : n < 4611686018427387904) (he : erL L m ≠ 0) :
    Calls Tryd.prog 11 #[.slice la n cap, .int .i64 m] w fun e w' => e = .returned (.tuple #[.slice none 0 0, errV (erL L m)]) ∧ w' = w := by
  have hc := chk_any n m w
  by_cases h1 : erC n m = 0
  · have hL : erL L m = 1 ∧ L.any badL = true := by
      unfold erL at he ⊢
      rw [← hn, h1] at he ⊢
      cases hb : L.any badL with
      | true => simp
      | false => simp [hb] at he
    have hb := cfn_any w la cap n L h hn hl
    rw [hL.2] at hb
    have HE : Hid (erL L m = 1) := hL.1
    rw [h1] at hc
    clear h hL h1 hn he
    generalize erL L m = er at HE ⊢
    have h2 : errV 0 = .nilIface := rfl
    rw [h2] at hc
    clear h2
    go_enter Tryd.func11, Tryd.ntmps11
    go_wp2_with (first | (go_at_call 13; refine hc.mono ?_; rintro e w' ⟨rfl, rfl⟩) | (go_at_call 16; refine hb.mono ?_; rintro e w' ⟨rfl, rfl⟩))
    go_ret2
    exact ⟨by rw [HE.out]; rfl, rfl⟩
  · have hL : erL L m = erC n m := by unfold erL; rw [← hn, if_pos h1]
    rw [hL]
    generalize erC n m = k at hc h1 ⊢
    obtain ⟨tv, htv⟩ := errV_ne h1
    rw [htv] at hc ⊢
    clear h hL h1 hn he htv
    go_enter Tryd.func11, Tryd.ntmps11
    go_wp2_with (go_at_call 13; refine hc.mono ?_; rintro e w' ⟨rfl, rfl⟩)
    go_ret2
    exact ⟨rfl, rfl⟩
theorem erL_ok {L : List Int} {m : Int} (h : erL L m = 0) : 1 ≤ m ∧ m ≤ 16 ∧ L.length ≤ 400 ∧ L.any badL = false ∧ erC L.length m = 0 := by
  unfold erL at h
  split at h
  · rename_i k; exact absurd h k
  · rename_i k
    have k : erC L.length m = 0 := by simpa using k
    obtain ⟨a, b, c⟩ := erC_ok k
    split at h
    · cases h
    · rename_i hb; exact ⟨a, b, by omega, by simpa using hb, k⟩
set_option maxHeartbeats 2000000 in
theorem least_yes (w : World) (la : Option Addr) (cap n m : Nat) (L : List Int) (h : CsAt w la (icells L)) (hn : n = L.length) (he : erL L m = 0) :
    Calls Tryd.prog 11 #[.slice la n cap, .int .i64 (m : Int)] w fun e w' => ∃ C, e = .returned (.tuple #[.slice (some ⟨w.heap.size, 0, none⟩) n n, .nilIface]) ∧ Bk (ldf L) 0 C ∧ C.length = n ∧ IR w' w.heap.size (givs (ldf L) m n C).2 ∧ Below w.heap.size w w' := by
  obtain ⟨h1, h2, h3, h4, h5⟩ := erL_ok he
  have hc := chk_any n m w
  rw [hn, h5] at hc
  rw [← hn] at hc
  have hb := cfn_any w la cap n L h hn (by omega)
  rw [h4] at hb
  have hf := Lib.hid (lsf_any w la cap n m L h hn (by omega) (by omega) (by omega) h4)
  have h6 : errV 0 = .nilIface := rfl
  rw [h6] at hc
  clear h hn he h1 h2 h3 h4 h5 h6
  go_enter Tryd.func11, Tryd.ntmps11
  go_wp2_with (first | (go_at_call 13; refine hc.mono ?_; rintro e w' ⟨rfl, rfl⟩) | (go_at_call 16; refine hb.mono ?_; rintro e w' ⟨rfl, rfl⟩) | (go_at_call 18; refine hf.out.mono ?_; rintro e w' ⟨C, rfl, k1, k2, k3, k4⟩))
  go_ret2
  exact ⟨C, rfl, k1, k2, k3, k4⟩
end Go.Proofs.YtfkeokeedljomaaDoor
