/- FrameRow's walk. -/
import Derived.Test.YtemjddbkcbngpaaFv
import Derived.Test.YtemjddbkcbngpaaFf
namespace Go.Proofs.Ytemjddbkcbngpaa
open Go.RowKit

theorem bbs_at {w u : World} {p : Option Addr} {L : List Pz} (h : BbsAt w p L) (hb : Below w.heap.size w u) (k : Nat) (hk : k < L.length) : ∃ b o, p = some ⟨b, o, none⟩ ∧ u.cell? ⟨b, o + k, none⟩ = some (.slice L[k].1 L[k].2.1.length L[k].2.2) ∧ PzOk u L[k] := by
  rcases h with rfl | ⟨b, o, rfl, hc⟩
  · simp at hk
  · obtain ⟨h1, h2⟩ := hc k hk
    refine ⟨b, o, rfl, ?_, h2.keep hb⟩
    have hlt : b < w.heap.size := cell_lt h1
    rw [hb.cell (p := ⟨b, o + k, none⟩) hlt]; exact h1
theorem rowsB_le (m : Nat) : ∀ (l : List (List UInt8)), (∀ x ∈ l, x.length ≤ m) → m < 9223372036854775808 → (rowsB l).length ≤ l.length * (m + 14)
  | [], _, _ => by simp [rowsB]
  | x :: l, h, hm => by
    have h1 := h x (by simp)
    have h2 := rowsB_le m l (fun y hy => h y (by simp [hy])) hm
    have h3 := seal_len x
    have h4 := num_ten (n := (x.length : Int)) (by omega) (by omega)
    simp only [rowsB, List.length_append, List.length_cons, Nat.add_mul]
    omega
theorem seven_open : openB (sealB [7]) = some ([7], 6) := by
  have h := open_seal [7] [] (by simp)
  rw [List.append_nil] at h
  rw [h]
  have : (sealB [7]).length = 6 := by
    rw [seal_len]
    have : numB (([7] : List UInt8).length : Int) = [2] := by unfold numB; rw [vb_lt (by decide)]; rfl
    rw [this]; rfl
  rw [this]
/-- The pieces that are read. -/
def firstL (L : List Pz) : List (List UInt8) := (L.map (·.2.1)).take 20
theorem firstL_len (L : List Pz) : (firstL L).length = min 20 L.length := by simp [firstL]
theorem firstL_at (L : List Pz) (k : Nat) (h : k < (firstL L).length) : ∃ h' : k < L.length, (firstL L)[k] = L[k].2.1 := by
  have := firstL_len L
  exact ⟨by omega, by simp [firstL]⟩
theorem firstL_le (L : List Pz) (m : Nat) (h : ∀ x ∈ L, x.2.1.length ≤ m) : ∀ x ∈ firstL L, x.length ≤ m := by
  intro x hx
  obtain ⟨y, hy, rfl⟩ := List.mem_map.1 (List.mem_of_mem_take hx)
  exact h y hy

theorem seal_bz (u : World) (p : Option Addr) (c n : Nat) (l : List UInt8) (hn : n = l.length) (hl : BsAt u p l) (hlen : l.length + 14 ≤ 140737488355328) (hc : p = none → c = 0) :
    Calls Try.prog 11 #[.slice p n c] u fun e u' => ∃ A cap, e = .returned (.slice A (sealB l).length cap) ∧ Bz u' A cap (sealB l) ∧ (A = none → cap = 0) ∧ Below u.heap.size u u' := by
  subst hn
  refine (seal_any u p c l hl hlen hc).mono ?_
  rintro e u' ⟨v, rfl, ho, hb⟩
  obtain ⟨A, cap, rfl, hz⟩ := own_bz ho
  exact ⟨A, cap, rfl, hz, (own_bs ho rfl).2.2.1, hb⟩

theorem bz_drop {u : World} {g go cap : Nat} {l : List UInt8} (h : Bz u (some ⟨g, go, none⟩) cap l) (a : Nat) (ha : a ≤ l.length) : Bz u (some ⟨g, go + a, none⟩) (cap - a) (l.drop a) := by
  refine ⟨?_, by have := h.2.1; simp; omega, by have := h.2.2; omega⟩
  rcases h.1 with rfl | ⟨b, o, e, hc⟩
  · exact .inl (by simp)
  · simp at e
    obtain ⟨rfl, rfl⟩ := e
    exact bs_drop hc a ha
set_option maxRecDepth 100000 in
set_option maxHeartbeats 2000000 in
theorem row_walk (w : World) (p : Option Addr) (c : Nat) (L : List Pz) (cut : Int) (hL : BbsAt w p L) (hn : L.length ≤ 1048576) (hb : ∀ x ∈ L, x.2.1.length ≤ 1048576) :
    Calls Try.prog 6 #[.slice p L.length c, .int .i64 cut] w fun e w' => e = .returned (.bool true) ∧ Below w.heap.size w w' := by
  have hfl := firstL_len L
  have hrl := rowsB_le 1048576 (firstL L) (firstL_le L _ hb) (by omega)
  have hrk : ∀ k, (rowsB ((firstL L).take k)).length ≤ 20971800 := fun k => by
    have h1 := rowsB_le 1048576 ((firstL L).take k) (fun x hx => firstL_le L _ hb x (List.mem_of_mem_take hx)) (by omega)
    have h2 : ((firstL L).take k).length ≤ 20 := by simp; omega
    have := Nat.mul_le_mul_right (1048576 + 14) h2
    omega
  obtain ⟨ls, hls⟩ : ∃ ls, ls = firstL L := ⟨_, rfl⟩
  have hat : ∀ k (h : k < ls.length), ∃ h' : k < L.length, ls[k] = L[k].2.1 := by subst hls; exact firstL_at L
  rw [← hls] at hfl hrl hrk
  have hll : ∀ x ∈ ls, x.length < 9223372036854775808 := fun x hx => by
    have := firstL_le L _ hb x (by rw [← hls]; exact hx)
    omega
  have hfl1 : ls.length ≤ 20 := by omega
  have hfl2 : ls.length ≤ L.length := by omega
  have hfl3 : ls.length = 20 ∨ ls.length = L.length := by omega
  clear hls hfl
  have B0 := Below.refl w.heap.size (w.alloc (.cells #[.int .u8 7] 5))
  have HS7 := seal_bz (w.alloc (.cells #[.int .u8 7] 5)) (some ⟨w.heap.size, 0, none⟩) 1 1 [7] rfl (bs_one _ _ _ _ rfl) (by simp) (by intro h; cases h)
  have hs7 : (sealB [7]).length ≤ 20 := by rw [seal_len]; have := num_ten (n := (([7] : List UInt8).length : Int)) (by simp) (by simp); simp at this ⊢; omega
  go_enter Try.func6, Try.ntmps6
  go_wp2_with (go_at_call 11; refine HS7.mono ?_; rintro e u1 ⟨A1, c1, rfl, z1, -, b1⟩; refine Hid.out ?_)
  refine Lib.hid ?_
  go_wp2_with (go_at_call 19; refine (open_yes u1 A1 c1 _ (sealB [7]) [7] 6 rfl z1 (by omega) seven_open).mono ?_; rintro e u2 ⟨A2, c2, rfl, z2, b2⟩; refine Hid.out ?_)
  refine Lib.hid ?_
  have bA : Below w.heap.size w u2 := (((Below.refl _ _).alloc (Nat.le_refl _) _).trans (b1.mono (by simp))).trans (b2.mono (by have := b1.size; simp at this; omega))
  have hz2 := bA.size
  clear HS7 b1 b2 z1 z2 B0
  go_wp2_with fail
  go_loopw [8, 9] (fun v i wr => ∃ k : Nat, k ≤ ls.length ∧ i = .int .i64 k ∧ Own w.heap.size wr v (rowsB (ls.take k)) ∧ Below w.heap.size w wr) (fun _ i _ => ls.length - (intOf i).toNat)
  case atStart => exact ⟨0, by omega, rfl, World.ownsRow_nil _ _ _ _, bA⟩
  case round =>
    obtain ⟨k, hk, rfl, hown, hbl⟩ := hrel
    have hBz := hbl.size
    by_cases hlt : k < ls.length
    · obtain ⟨hkL, hke⟩ := hat k hlt
      obtain ⟨b, o, rfl, hc, hok⟩ := bbs_at hL hbl k hkL
      have hsn := rowsB_snoc ls k hlt
      rw [hke] at hsn
      have hll2 := hb _ (List.getElem_mem hkL)
      obtain ⟨h1, h2, h3⟩ := hok
      have hk20 : (k : Int) < 20 := by omega
      have hkn := hrk k
      have hst := seal_len L[k].2.1
      have hten := num_ten (n := (L[k].2.1.length : Int)) (by omega) (by omega)
      have HS := seal_bz wr L[k].1 L[k].2.2 L[k].2.1.length L[k].2.1 rfl h1 (by omega) h2
      generalize L[k].2.1 = x at *
      generalize L[k].1 = xa at *
      generalize L[k].2.2 = xc at *
      have HSN := Lib.hid hsn
      have HST := Lib.hid hst
      clear hsn hst hke
      go_wp2_with (go_at_call 11; refine HS.mono ?_; rintro e u3 ⟨A3, c3, rfl, z3, n3, b3⟩; refine Hid.out ?_)
      refine Lib.hid ?_
      have own3 := own_keep hown b3
      go_wp2_with (at_builtin; refine append_bs rfl _ _ rfl w.heap.size _ (rowsB (ls.take k)) rfl own3 A3 _ c3 (sealB x) rfl rfl z3.1 n3 (by rw [HST.out]; omega) (by have := b3.size; omega) ?_)
      intro v4 u4 own4 b4
      have b5 : Below w.heap.size w u4 := (hbl.trans (b3.mono hBz)).trans b4
      rw [← HSN.out] at own4
      clear b3 b4 own3 HS
      go_wp2_with fail
      go_roundw
      case rel => exact ⟨k + 1, by omega, by go_num, own4, b5⟩
      case measure => simp [intOf]; omega
    · have hkl : k = ls.length := by omega
      subst hkl
      rw [List.take_length] at hown
      obtain ⟨A5, c5, rfl, z5⟩ := own_bz hown
      have hrl' := hrk ls.length
      rw [List.take_length] at hrl'
      have hc5 := z5.2.1
      have hc5' := z5.2.2
      have h20 : ¬ ((ls.length : Int) < (L.length : Int) ∧ (ls.length : Int) < 20) := by omega
      have hcase : (cut < 0 ∨ ((rowsB ls).length : Int) < cut) ∨ ∃ cn : Nat, cut = (cn : Int) ∧ cn ≤ (rowsB ls).length := by
        by_cases h1 : cut < 0
        · exact .inl (.inl h1)
        · by_cases h2 : ((rowsB ls).length : Int) < cut
          · exact .inl (.inr h2)
          · exact .inr ⟨cut.toNat, by omega, by omega⟩
      rcases hcase with hcut | ⟨cn, rfl, hcn⟩
      · by_cases h1 : cut < 0
        · skip
          have hcn : (rowsB ls).length ≤ (rowsB ls).length := Nat.le_refl _
          generalize hcnn : (rowsB ls).length = cn at *
          have HCN := Lib.hid hcnn
          clear hcnn
          by_cases hl20 : (ls.length : Int) < (L.length : Int)
          · have hl21 : ¬ (ls.length : Int) < 20 := by omega
            go_wp2_with fail
            have hz5 : Bz wr A5 c5 ((rowsB ls).take cn) := bz_take z5 cn
            have htl : ((rowsB ls).take cn).length = cn := by rw [List.length_take]; have := HCN.out; omega
            clear z5 hown
            go_loopw [10, 11] (fun a kk wr => ∃ k : Nat, k ≤ ls.length ∧ kk = .int .i64 k ∧ a = .int .i64 (rowsB (ls.take k)).length ∧ (rowsB (ls.take k)).length ≤ cn ∧ Bz wr A5 c5 ((rowsB ls).take cn) ∧ Below w.heap.size w wr) (fun a _ _ => cn - (intOf a).toNat)
            case atStart => exact ⟨0, by omega, rfl, rfl, by simp [rowsB], hz5, hbl⟩
            case round =>
              obtain ⟨k, hk, rfl, rfl, hle, hz, hb2⟩ := hrel
              have hB2 := hb2.size
              by_cases hlt2 : (rowsB (ls.take k)).length < cn
              · obtain ⟨hkl, hor⟩ := row_step ls cn k hll (by rw [htl]; exact hlt2)
                rw [htl] at hor
                obtain ⟨hkL, hke⟩ := hat k hkl
                obtain ⟨b, o, rfl, hc, h1, h2, h3⟩ := bbs_at hL hb2 k hkL
                rw [hke] at hor
                have hll2 := hb _ (List.getElem_mem hkL)
                have hst := seal_len L[k].2.1
                have hten := num_ten (n := (L[k].2.1.length : Int)) (by omega) (by omega)
                have HS := fun (u : World) (hu : Below wr.heap.size wr u) => seal_bz u L[k].1 L[k].2.2 L[k].2.1.length L[k].2.1 rfl (h1.keep hu) (by omega) h2
                have HV := fun (u : World) (hu : Below wr.heap.size wr u) => (h1.keep hu).convert L[k].2.1.length L[k].2.2 rfl
                have hcell : ∀ u, Below wr.heap.size wr u → u.cell? ⟨b, o + k, none⟩ = some (.slice L[k].1 L[k].2.1.length L[k].2.2) := fun u hu => by
                  rw [hu.cell (p := ⟨b, o + k, none⟩) (cell_lt hc)]; exact hc
                generalize hak : (rowsB (ls.take k)).length = a at *
                have HAK := Lib.hid hak
                clear hak
                obtain ⟨g, go, rfl, -⟩ := hz.1.lt (by intro e; rw [e] at htl; simp at htl; omega)
                have hzd := bz_drop hz a (by omega)
                have hdl : (((rowsB ls).take cn).drop a).length = cn - a := by rw [List.length_drop, htl]
                have hk20 : (k : Int) < 20 := by omega
                have hkl3 : (k : Int) < (L.length : Int) := by omega
                have hac : ¬ c5 = a := by have := hz.2.1; omega
                have hacn : (a : Int) ≤ (cn : Int) := by omega
                have hc5 := hz.2.1
                have hc5' := hz.2.2
                rw [htl] at hc5
                rcases hor with ⟨ho, hnx, hnle⟩ | ⟨ho, hshort⟩
                · have HO := open_yes wr (some ⟨g, go + a, none⟩) (c5 - a) (cn - a) _ L[k].2.1 (sealB L[k].2.1).length hdl.symm hzd (by rw [hdl]; omega) ho
                  generalize (sealB L[k].2.1).length = s at *
                  generalize L[k].2.1 = x at *
                  generalize L[k].1 = xa at *
                  generalize L[k].2.2 = xc at *
                  have HNX := Lib.hid hnx
                  have HST := Lib.hid hst
                  have hs1 : ¬ (s : Int) < 1 := by omega
                  have hsb : (s : Int) ≤ 1048600 := by omega
                  have hca := hcell
                  clear hnx hst ho hke HS hcell hdl
                  go_wp2_with (go_at_call 19; refine HO.mono ?_; rintro e u6 ⟨A6, c6, rfl, z6, b6⟩; refine Hid.out ?_)
                  refine Lib.hid ?_
                  have v1 : ∀ n, (convert 22 9 (.slice A6 x.length c6)).run Try.prog (u6.drewN n) = .ok (.string ⟨x.toArray⟩) (u6.drewN n) := fun n => BsAt.convert (w := u6.drewN n) z6.1 x.length c6 rfl
                  have v2 : ∀ n, (convert 22 9 (.slice xa x.length xc)).run Try.prog (u6.drewN n) = .ok (.string ⟨x.toArray⟩) (u6.drewN n) := fun n => HV (u6.drewN n) ⟨b6.os, b6.tape, b6.output, b6.size, b6.block⟩
                  have hcu := hca u6 b6
                  have hz6 := hz.keep b6
                  have b7 : Below w.heap.size w u6 := hb2.trans (b6.mono hB2)
                  clear HO HV hca b6 z6 hz hb2 h1
                  go_wp2_with fail
                  go_quiet (fail)
                  go_wp2_with fail
                  go_roundw
                  case rel => exact ⟨k + 1, by omega, by go_num, by rw [HNX.out]; go_num, by omega, ⟨hz6.1, hz6.2⟩, ⟨b7.os, b7.tape, b7.output, b7.size, b7.block⟩⟩
                  case measure => simp [intOf]; omega
                · have HO := open_no wr (some ⟨g, go + a, none⟩) (c5 - a) (cn - a) _ hdl.symm hzd (by rw [hdl]; omega) ho
                  generalize L[k].2.1 = x at *
                  generalize L[k].1 = xa at *
                  generalize L[k].2.2 = xc at *
                  generalize hs : (sealB x).length = s at *
                  have HSH := Lib.hid hs
                  have HST := Lib.hid hst
                  have hsb : (s : Int) ≤ 1048600 := by omega
                  clear hs hst ho hke hdl HV
                  go_wp2_with (go_at_call 19; refine HO.mono ?_; rintro e u6 ⟨rfl, b6⟩; refine Hid.out ?_)
                  refine Lib.hid ?_
                  have hcu := hcell u6 b6
                  have HS6 := HS u6 b6
                  have b7 : Below w.heap.size w u6 := hb2.trans (b6.mono hB2)
                  have hz6 : w.heap.size ≤ u6.heap.size := b7.size
                  clear HO HS hcell b6 hz hb2 h1
                  go_wp2_with (go_at_call 11; refine HS6.mono ?_; rintro e u7 ⟨A7, c7, rfl, -, -, b8⟩)
                  go_ret
                  exact ⟨ret_bool (decide_eq_true (by omega)), b7.trans (b8.mono hz6)⟩
              · have hae : (rowsB (ls.take k)).length = cn := by omega
                by_cases hk2 : k < ls.length
                · obtain ⟨hkL, hke⟩ := hat k hk2
                  obtain ⟨b, o, rfl, hc, h1, h2, h3⟩ := bbs_at hL hb2 k hkL
                  have hll2 := hb _ (List.getElem_mem hkL)
                  have hst := seal_len L[k].2.1
                  have hten := num_ten (n := (L[k].2.1.length : Int)) (by omega) (by omega)
                  have HS := seal_bz wr L[k].1 L[k].2.2 L[k].2.1.length L[k].2.1 rfl h1 (by omega) h2
                  have hk20 : (k : Int) < 20 := by omega
                  have hkl3 : (k : Int) < (L.length : Int) := by omega
                  generalize (rowsB (ls.take k)).length = a at *
                  generalize L[k].2.1 = x at *
                  generalize L[k].1 = xa at *
                  generalize L[k].2.2 = xc at *
                  generalize hs : (sealB x).length = s at *
                  have hsb : (s : Int) ≤ 1048600 := by omega
                  have HST := Lib.hid hst
                  clear hke hst hs h1 hz
                  have hae' : ¬ (a : Int) < (cn : Int) := by omega
                  have HAE := Lib.hid hae
                  clear hae
                  go_wp2_with (go_at_call 11; refine HS.mono ?_; rintro e u7 ⟨A7, c7, rfl, -, -, b8⟩)
                  go_ret
                  exact ⟨ret_bool (decide_eq_true (by have := HST.out; have := HAE.out; omega)), hb2.trans (b8.mono hB2)⟩
                · have hkk : k = ls.length := by omega
                  have hkk1 : (k : Int) < (L.length : Int) := by omega
                  have hkk2 : ¬ (k : Int) < 20 := by omega
                  generalize (rowsB (ls.take k)).length = a at *
                  have hae' : ¬ (a : Int) < (cn : Int) := by omega
                  have HAE := Lib.hid hae
                  clear hae hkk
                  go_wp2_with fail
                  go_ret
                  exact ⟨ret_bool (decide_eq_true (by have := HAE.out; omega)), hb2⟩
          · go_wp2_with fail
            have hz5 : Bz wr A5 c5 ((rowsB ls).take cn) := bz_take z5 cn
            have htl : ((rowsB ls).take cn).length = cn := by rw [List.length_take]; have := HCN.out; omega
            clear z5 hown
            go_loopw [10, 11] (fun a kk wr => ∃ k : Nat, k ≤ ls.length ∧ kk = .int .i64 k ∧ a = .int .i64 (rowsB (ls.take k)).length ∧ (rowsB (ls.take k)).length ≤ cn ∧ Bz wr A5 c5 ((rowsB ls).take cn) ∧ Below w.heap.size w wr) (fun a _ _ => cn - (intOf a).toNat)
            case atStart => exact ⟨0, by omega, rfl, rfl, by simp [rowsB], hz5, hbl⟩
            case round =>
              obtain ⟨k, hk, rfl, rfl, hle, hz, hb2⟩ := hrel
              have hB2 := hb2.size
              by_cases hlt2 : (rowsB (ls.take k)).length < cn
              · obtain ⟨hkl, hor⟩ := row_step ls cn k hll (by rw [htl]; exact hlt2)
                rw [htl] at hor
                obtain ⟨hkL, hke⟩ := hat k hkl
                obtain ⟨b, o, rfl, hc, h1, h2, h3⟩ := bbs_at hL hb2 k hkL
                rw [hke] at hor
                have hll2 := hb _ (List.getElem_mem hkL)
                have hst := seal_len L[k].2.1
                have hten := num_ten (n := (L[k].2.1.length : Int)) (by omega) (by omega)
                have HS := fun (u : World) (hu : Below wr.heap.size wr u) => seal_bz u L[k].1 L[k].2.2 L[k].2.1.length L[k].2.1 rfl (h1.keep hu) (by omega) h2
                have HV := fun (u : World) (hu : Below wr.heap.size wr u) => (h1.keep hu).convert L[k].2.1.length L[k].2.2 rfl
                have hcell : ∀ u, Below wr.heap.size wr u → u.cell? ⟨b, o + k, none⟩ = some (.slice L[k].1 L[k].2.1.length L[k].2.2) := fun u hu => by
                  rw [hu.cell (p := ⟨b, o + k, none⟩) (cell_lt hc)]; exact hc
                generalize hak : (rowsB (ls.take k)).length = a at *
                have HAK := Lib.hid hak
                clear hak
                obtain ⟨g, go, rfl, -⟩ := hz.1.lt (by intro e; rw [e] at htl; simp at htl; omega)
                have hzd := bz_drop hz a (by omega)
                have hdl : (((rowsB ls).take cn).drop a).length = cn - a := by rw [List.length_drop, htl]
                have hk20 : (k : Int) < 20 := by omega
                have hkl3 : (k : Int) < (L.length : Int) := by omega
                have hac : ¬ c5 = a := by have := hz.2.1; omega
                have hacn : (a : Int) ≤ (cn : Int) := by omega
                have hc5 := hz.2.1
                have hc5' := hz.2.2
                rw [htl] at hc5
                rcases hor with ⟨ho, hnx, hnle⟩ | ⟨ho, hshort⟩
                · have HO := open_yes wr (some ⟨g, go + a, none⟩) (c5 - a) (cn - a) _ L[k].2.1 (sealB L[k].2.1).length hdl.symm hzd (by rw [hdl]; omega) ho
                  generalize (sealB L[k].2.1).length = s at *
                  generalize L[k].2.1 = x at *
                  generalize L[k].1 = xa at *
                  generalize L[k].2.2 = xc at *
                  have HNX := Lib.hid hnx
                  have HST := Lib.hid hst
                  have hs1 : ¬ (s : Int) < 1 := by omega
                  have hsb : (s : Int) ≤ 1048600 := by omega
                  have hca := hcell
                  clear hnx hst ho hke HS hcell hdl
                  go_wp2_with (go_at_call 19; refine HO.mono ?_; rintro e u6 ⟨A6, c6, rfl, z6, b6⟩; refine Hid.out ?_)
                  refine Lib.hid ?_
                  have v1 : ∀ n, (convert 22 9 (.slice A6 x.length c6)).run Try.prog (u6.drewN n) = .ok (.string ⟨x.toArray⟩) (u6.drewN n) := fun n => BsAt.convert (w := u6.drewN n) z6.1 x.length c6 rfl
                  have v2 : ∀ n, (convert 22 9 (.slice xa x.length xc)).run Try.prog (u6.drewN n) = .ok (.string ⟨x.toArray⟩) (u6.drewN n) := fun n => HV (u6.drewN n) ⟨b6.os, b6.tape, b6.output, b6.size, b6.block⟩
                  have hcu := hca u6 b6
                  have hz6 := hz.keep b6
                  have b7 : Below w.heap.size w u6 := hb2.trans (b6.mono hB2)
                  clear HO HV hca b6 z6 hz hb2 h1
                  go_wp2_with fail
                  go_quiet (fail)
                  go_wp2_with fail
                  go_roundw
                  case rel => exact ⟨k + 1, by omega, by go_num, by rw [HNX.out]; go_num, by omega, ⟨hz6.1, hz6.2⟩, ⟨b7.os, b7.tape, b7.output, b7.size, b7.block⟩⟩
                  case measure => simp [intOf]; omega
                · have HO := open_no wr (some ⟨g, go + a, none⟩) (c5 - a) (cn - a) _ hdl.symm hzd (by rw [hdl]; omega) ho
                  generalize L[k].2.1 = x at *
                  generalize L[k].1 = xa at *
                  generalize L[k].2.2 = xc at *
                  generalize hs : (sealB x).length = s at *
                  have HSH := Lib.hid hs
                  have HST := Lib.hid hst
                  have hsb : (s : Int) ≤ 1048600 := by omega
                  clear hs hst ho hke hdl HV
                  go_wp2_with (go_at_call 19; refine HO.mono ?_; rintro e u6 ⟨rfl, b6⟩; refine Hid.out ?_)
                  refine Lib.hid ?_
                  have hcu := hcell u6 b6
                  have HS6 := HS u6 b6
                  have b7 : Below w.heap.size w u6 := hb2.trans (b6.mono hB2)
                  have hz6 : w.heap.size ≤ u6.heap.size := b7.size
                  clear HO HS hcell b6 hz hb2 h1
                  go_wp2_with (go_at_call 11; refine HS6.mono ?_; rintro e u7 ⟨A7, c7, rfl, -, -, b8⟩)
                  go_ret
                  exact ⟨ret_bool (decide_eq_true (by omega)), b7.trans (b8.mono hz6)⟩
              · have hae : (rowsB (ls.take k)).length = cn := by omega
                by_cases hk2 : k < ls.length
                · obtain ⟨hkL, hke⟩ := hat k hk2
                  obtain ⟨b, o, rfl, hc, h1, h2, h3⟩ := bbs_at hL hb2 k hkL
                  have hll2 := hb _ (List.getElem_mem hkL)
                  have hst := seal_len L[k].2.1
                  have hten := num_ten (n := (L[k].2.1.length : Int)) (by omega) (by omega)
                  have HS := seal_bz wr L[k].1 L[k].2.2 L[k].2.1.length L[k].2.1 rfl h1 (by omega) h2
                  have hk20 : (k : Int) < 20 := by omega
                  have hkl3 : (k : Int) < (L.length : Int) := by omega
                  generalize (rowsB (ls.take k)).length = a at *
                  generalize L[k].2.1 = x at *
                  generalize L[k].1 = xa at *
                  generalize L[k].2.2 = xc at *
                  generalize hs : (sealB x).length = s at *
                  have hsb : (s : Int) ≤ 1048600 := by omega
                  have HST := Lib.hid hst
                  clear hke hst hs h1 hz
                  have hae' : ¬ (a : Int) < (cn : Int) := by omega
                  have HAE := Lib.hid hae
                  clear hae
                  go_wp2_with (go_at_call 11; refine HS.mono ?_; rintro e u7 ⟨A7, c7, rfl, -, -, b8⟩)
                  go_ret
                  exact ⟨ret_bool (decide_eq_true (by have := HST.out; have := HAE.out; omega)), hb2.trans (b8.mono hB2)⟩
                · have hkk : k = ls.length := by omega
                  have hkk1 : ¬ (k : Int) < (L.length : Int) := by omega
                  generalize (rowsB (ls.take k)).length = a at *
                  have hae' : ¬ (a : Int) < (cn : Int) := by omega
                  have HAE := Lib.hid hae
                  clear hae hkk
                  go_wp2_with fail
                  go_ret
                  exact ⟨ret_bool (decide_eq_true (by have := HAE.out; omega)), hb2⟩
        · have h2 : ((rowsB ls).length : Int) < cut := by omega
          have hcn : (rowsB ls).length ≤ (rowsB ls).length := Nat.le_refl _
          generalize hcnn : (rowsB ls).length = cn at *
          have HCN := Lib.hid hcnn
          clear hcnn
          by_cases hl20 : (ls.length : Int) < (L.length : Int)
          · have hl21 : ¬ (ls.length : Int) < 20 := by omega
            go_wp2_with fail
            have hz5 : Bz wr A5 c5 ((rowsB ls).take cn) := bz_take z5 cn
            have htl : ((rowsB ls).take cn).length = cn := by rw [List.length_take]; have := HCN.out; omega
            clear z5 hown
            go_loopw [10, 11] (fun a kk wr => ∃ k : Nat, k ≤ ls.length ∧ kk = .int .i64 k ∧ a = .int .i64 (rowsB (ls.take k)).length ∧ (rowsB (ls.take k)).length ≤ cn ∧ Bz wr A5 c5 ((rowsB ls).take cn) ∧ Below w.heap.size w wr) (fun a _ _ => cn - (intOf a).toNat)
            case atStart => exact ⟨0, by omega, rfl, rfl, by simp [rowsB], hz5, hbl⟩
            case round =>
              obtain ⟨k, hk, rfl, rfl, hle, hz, hb2⟩ := hrel
              have hB2 := hb2.size
              by_cases hlt2 : (rowsB (ls.take k)).length < cn
              · obtain ⟨hkl, hor⟩ := row_step ls cn k hll (by rw [htl]; exact hlt2)
                rw [htl] at hor
                obtain ⟨hkL, hke⟩ := hat k hkl
                obtain ⟨b, o, rfl, hc, h1, h2, h3⟩ := bbs_at hL hb2 k hkL
                rw [hke] at hor
                have hll2 := hb _ (List.getElem_mem hkL)
                have hst := seal_len L[k].2.1
                have hten := num_ten (n := (L[k].2.1.length : Int)) (by omega) (by omega)
                have HS := fun (u : World) (hu : Below wr.heap.size wr u) => seal_bz u L[k].1 L[k].2.2 L[k].2.1.length L[k].2.1 rfl (h1.keep hu) (by omega) h2
                have HV := fun (u : World) (hu : Below wr.heap.size wr u) => (h1.keep hu).convert L[k].2.1.length L[k].2.2 rfl
                have hcell : ∀ u, Below wr.heap.size wr u → u.cell? ⟨b, o + k, none⟩ = some (.slice L[k].1 L[k].2.1.length L[k].2.2) := fun u hu => by
                  rw [hu.cell (p := ⟨b, o + k, none⟩) (cell_lt hc)]; exact hc
                generalize hak : (rowsB (ls.take k)).length = a at *
                have HAK := Lib.hid hak
                clear hak
                obtain ⟨g, go, rfl, -⟩ := hz.1.lt (by intro e; rw [e] at htl; simp at htl; omega)
                have hzd := bz_drop hz a (by omega)
                have hdl : (((rowsB ls).take cn).drop a).length = cn - a := by rw [List.length_drop, htl]
                have hk20 : (k : Int) < 20 := by omega
                have hkl3 : (k : Int) < (L.length : Int) := by omega
                have hac : ¬ c5 = a := by have := hz.2.1; omega
                have hacn : (a : Int) ≤ (cn : Int) := by omega
                have hc5 := hz.2.1
                have hc5' := hz.2.2
                rw [htl] at hc5
                rcases hor with ⟨ho, hnx, hnle⟩ | ⟨ho, hshort⟩
                · have HO := open_yes wr (some ⟨g, go + a, none⟩) (c5 - a) (cn - a) _ L[k].2.1 (sealB L[k].2.1).length hdl.symm hzd (by rw [hdl]; omega) ho
                  generalize (sealB L[k].2.1).length = s at *
                  generalize L[k].2.1 = x at *
                  generalize L[k].1 = xa at *
                  generalize L[k].2.2 = xc at *
                  have HNX := Lib.hid hnx
                  have HST := Lib.hid hst
                  have hs1 : ¬ (s : Int) < 1 := by omega
                  have hsb : (s : Int) ≤ 1048600 := by omega
                  have hca := hcell
                  clear hnx hst ho hke HS hcell hdl
                  go_wp2_with (go_at_call 19; refine HO.mono ?_; rintro e u6 ⟨A6, c6, rfl, z6, b6⟩; refine Hid.out ?_)
                  refine Lib.hid ?_
                  have v1 : ∀ n, (convert 22 9 (.slice A6 x.length c6)).run Try.prog (u6.drewN n) = .ok (.string ⟨x.toArray⟩) (u6.drewN n) := fun n => BsAt.convert (w := u6.drewN n) z6.1 x.length c6 rfl
                  have v2 : ∀ n, (convert 22 9 (.slice xa x.length xc)).run Try.prog (u6.drewN n) = .ok (.string ⟨x.toArray⟩) (u6.drewN n) := fun n => HV (u6.drewN n) ⟨b6.os, b6.tape, b6.output, b6.size, b6.block⟩
                  have hcu := hca u6 b6
                  have hz6 := hz.keep b6
                  have b7 : Below w.heap.size w u6 := hb2.trans (b6.mono hB2)
                  clear HO HV hca b6 z6 hz hb2 h1
                  go_wp2_with fail
                  go_quiet (fail)
                  go_wp2_with fail
                  go_roundw
                  case rel => exact ⟨k + 1, by omega, by go_num, by rw [HNX.out]; go_num, by omega, ⟨hz6.1, hz6.2⟩, ⟨b7.os, b7.tape, b7.output, b7.size, b7.block⟩⟩
                  case measure => simp [intOf]; omega
                · have HO := open_no wr (some ⟨g, go + a, none⟩) (c5 - a) (cn - a) _ hdl.symm hzd (by rw [hdl]; omega) ho
                  generalize L[k].2.1 = x at *
                  generalize L[k].1 = xa at *
                  generalize L[k].2.2 = xc at *
                  generalize hs : (sealB x).length = s at *
                  have HSH := Lib.hid hs
                  have HST := Lib.hid hst
                  have hsb : (s : Int) ≤ 1048600 := by omega
                  clear hs hst ho hke hdl HV
                  go_wp2_with (go_at_call 19; refine HO.mono ?_; rintro e u6 ⟨rfl, b6⟩; refine Hid.out ?_)
                  refine Lib.hid ?_
                  have hcu := hcell u6 b6
                  have HS6 := HS u6 b6
                  have b7 : Below w.heap.size w u6 := hb2.trans (b6.mono hB2)
                  have hz6 : w.heap.size ≤ u6.heap.size := b7.size
                  clear HO HS hcell b6 hz hb2 h1
                  go_wp2_with (go_at_call 11; refine HS6.mono ?_; rintro e u7 ⟨A7, c7, rfl, -, -, b8⟩)
                  go_ret
                  exact ⟨ret_bool (decide_eq_true (by omega)), b7.trans (b8.mono hz6)⟩
              · have hae : (rowsB (ls.take k)).length = cn := by omega
                by_cases hk2 : k < ls.length
                · obtain ⟨hkL, hke⟩ := hat k hk2
                  obtain ⟨b, o, rfl, hc, h1, h2, h3⟩ := bbs_at hL hb2 k hkL
                  have hll2 := hb _ (List.getElem_mem hkL)
                  have hst := seal_len L[k].2.1
                  have hten := num_ten (n := (L[k].2.1.length : Int)) (by omega) (by omega)
                  have HS := seal_bz wr L[k].1 L[k].2.2 L[k].2.1.length L[k].2.1 rfl h1 (by omega) h2
                  have hk20 : (k : Int) < 20 := by omega
                  have hkl3 : (k : Int) < (L.length : Int) := by omega
                  generalize (rowsB (ls.take k)).length = a at *
                  generalize L[k].2.1 = x at *
                  generalize L[k].1 = xa at *
                  generalize L[k].2.2 = xc at *
                  generalize hs : (sealB x).length = s at *
                  have hsb : (s : Int) ≤ 1048600 := by omega
                  have HST := Lib.hid hst
                  clear hke hst hs h1 hz
                  have hae' : ¬ (a : Int) < (cn : Int) := by omega
                  have HAE := Lib.hid hae
                  clear hae
                  go_wp2_with (go_at_call 11; refine HS.mono ?_; rintro e u7 ⟨A7, c7, rfl, -, -, b8⟩)
                  go_ret
                  exact ⟨ret_bool (decide_eq_true (by have := HST.out; have := HAE.out; omega)), hb2.trans (b8.mono hB2)⟩
                · have hkk : k = ls.length := by omega
                  have hkk1 : (k : Int) < (L.length : Int) := by omega
                  have hkk2 : ¬ (k : Int) < 20 := by omega
                  generalize (rowsB (ls.take k)).length = a at *
                  have hae' : ¬ (a : Int) < (cn : Int) := by omega
                  have HAE := Lib.hid hae
                  clear hae hkk
                  go_wp2_with fail
                  go_ret
                  exact ⟨ret_bool (decide_eq_true (by have := HAE.out; omega)), hb2⟩
          · go_wp2_with fail
            have hz5 : Bz wr A5 c5 ((rowsB ls).take cn) := bz_take z5 cn
            have htl : ((rowsB ls).take cn).length = cn := by rw [List.length_take]; have := HCN.out; omega
            clear z5 hown
            go_loopw [10, 11] (fun a kk wr => ∃ k : Nat, k ≤ ls.length ∧ kk = .int .i64 k ∧ a = .int .i64 (rowsB (ls.take k)).length ∧ (rowsB (ls.take k)).length ≤ cn ∧ Bz wr A5 c5 ((rowsB ls).take cn) ∧ Below w.heap.size w wr) (fun a _ _ => cn - (intOf a).toNat)
            case atStart => exact ⟨0, by omega, rfl, rfl, by simp [rowsB], hz5, hbl⟩
            case round =>
              obtain ⟨k, hk, rfl, rfl, hle, hz, hb2⟩ := hrel
              have hB2 := hb2.size
              by_cases hlt2 : (rowsB (ls.take k)).length < cn
              · obtain ⟨hkl, hor⟩ := row_step ls cn k hll (by rw [htl]; exact hlt2)
                rw [htl] at hor
                obtain ⟨hkL, hke⟩ := hat k hkl
                obtain ⟨b, o, rfl, hc, h1, h2, h3⟩ := bbs_at hL hb2 k hkL
                rw [hke] at hor
                have hll2 := hb _ (List.getElem_mem hkL)
                have hst := seal_len L[k].2.1
                have hten := num_ten (n := (L[k].2.1.length : Int)) (by omega) (by omega)
                have HS := fun (u : World) (hu : Below wr.heap.size wr u) => seal_bz u L[k].1 L[k].2.2 L[k].2.1.length L[k].2.1 rfl (h1.keep hu) (by omega) h2
                have HV := fun (u : World) (hu : Below wr.heap.size wr u) => (h1.keep hu).convert L[k].2.1.length L[k].2.2 rfl
                have hcell : ∀ u, Below wr.heap.size wr u → u.cell? ⟨b, o + k, none⟩ = some (.slice L[k].1 L[k].2.1.length L[k].2.2) := fun u hu => by
                  rw [hu.cell (p := ⟨b, o + k, none⟩) (cell_lt hc)]; exact hc
                generalize hak : (rowsB (ls.take k)).length = a at *
                have HAK := Lib.hid hak
                clear hak
                obtain ⟨g, go, rfl, -⟩ := hz.1.lt (by intro e; rw [e] at htl; simp at htl; omega)
                have hzd := bz_drop hz a (by omega)
                have hdl : (((rowsB ls).take cn).drop a).length = cn - a := by rw [List.length_drop, htl]
                have hk20 : (k : Int) < 20 := by omega
                have hkl3 : (k : Int) < (L.length : Int) := by omega
                have hac : ¬ c5 = a := by have := hz.2.1; omega
                have hacn : (a : Int) ≤ (cn : Int) := by omega
                have hc5 := hz.2.1
                have hc5' := hz.2.2
                rw [htl] at hc5
                rcases hor with ⟨ho, hnx, hnle⟩ | ⟨ho, hshort⟩
                · have HO := open_yes wr (some ⟨g, go + a, none⟩) (c5 - a) (cn - a) _ L[k].2.1 (sealB L[k].2.1).length hdl.symm hzd (by rw [hdl]; omega) ho
                  generalize (sealB L[k].2.1).length = s at *
                  generalize L[k].2.1 = x at *
                  generalize L[k].1 = xa at *
                  generalize L[k].2.2 = xc at *
                  have HNX := Lib.hid hnx
                  have HST := Lib.hid hst
                  have hs1 : ¬ (s : Int) < 1 := by omega
                  have hsb : (s : Int) ≤ 1048600 := by omega
                  have hca := hcell
                  clear hnx hst ho hke HS hcell hdl
                  go_wp2_with (go_at_call 19; refine HO.mono ?_; rintro e u6 ⟨A6, c6, rfl, z6, b6⟩; refine Hid.out ?_)
                  refine Lib.hid ?_
                  have v1 : ∀ n, (convert 22 9 (.slice A6 x.length c6)).run Try.prog (u6.drewN n) = .ok (.string ⟨x.toArray⟩) (u6.drewN n) := fun n => BsAt.convert (w := u6.drewN n) z6.1 x.length c6 rfl
                  have v2 : ∀ n, (convert 22 9 (.slice xa x.length xc)).run Try.prog (u6.drewN n) = .ok (.string ⟨x.toArray⟩) (u6.drewN n) := fun n => HV (u6.drewN n) ⟨b6.os, b6.tape, b6.output, b6.size, b6.block⟩
                  have hcu := hca u6 b6
                  have hz6 := hz.keep b6
                  have b7 : Below w.heap.size w u6 := hb2.trans (b6.mono hB2)
                  clear HO HV hca b6 z6 hz hb2 h1
                  go_wp2_with fail
                  go_quiet (fail)
                  go_wp2_with fail
                  go_roundw
                  case rel => exact ⟨k + 1, by omega, by go_num, by rw [HNX.out]; go_num, by omega, ⟨hz6.1, hz6.2⟩, ⟨b7.os, b7.tape, b7.output, b7.size, b7.block⟩⟩
                  case measure => simp [intOf]; omega
                · have HO := open_no wr (some ⟨g, go + a, none⟩) (c5 - a) (cn - a) _ hdl.symm hzd (by rw [hdl]; omega) ho
                  generalize L[k].2.1 = x at *
                  generalize L[k].1 = xa at *
                  generalize L[k].2.2 = xc at *
                  generalize hs : (sealB x).length = s at *
                  have HSH := Lib.hid hs
                  have HST := Lib.hid hst
                  have hsb : (s : Int) ≤ 1048600 := by omega
                  clear hs hst ho hke hdl HV
                  go_wp2_with (go_at_call 19; refine HO.mono ?_; rintro e u6 ⟨rfl, b6⟩; refine Hid.out ?_)
                  refine Lib.hid ?_
                  have hcu := hcell u6 b6
                  have HS6 := HS u6 b6
                  have b7 : Below w.heap.size w u6 := hb2.trans (b6.mono hB2)
                  have hz6 : w.heap.size ≤ u6.heap.size := b7.size
                  clear HO HS hcell b6 hz hb2 h1
                  go_wp2_with (go_at_call 11; refine HS6.mono ?_; rintro e u7 ⟨A7, c7, rfl, -, -, b8⟩)
                  go_ret
                  exact ⟨ret_bool (decide_eq_true (by omega)), b7.trans (b8.mono hz6)⟩
              · have hae : (rowsB (ls.take k)).length = cn := by omega
                by_cases hk2 : k < ls.length
                · obtain ⟨hkL, hke⟩ := hat k hk2
                  obtain ⟨b, o, rfl, hc, h1, h2, h3⟩ := bbs_at hL hb2 k hkL
                  have hll2 := hb _ (List.getElem_mem hkL)
                  have hst := seal_len L[k].2.1
                  have hten := num_ten (n := (L[k].2.1.length : Int)) (by omega) (by omega)
                  have HS := seal_bz wr L[k].1 L[k].2.2 L[k].2.1.length L[k].2.1 rfl h1 (by omega) h2
                  have hk20 : (k : Int) < 20 := by omega
                  have hkl3 : (k : Int) < (L.length : Int) := by omega
                  generalize (rowsB (ls.take k)).length = a at *
                  generalize L[k].2.1 = x at *
                  generalize L[k].1 = xa at *
                  generalize L[k].2.2 = xc at *
                  generalize hs : (sealB x).length = s at *
                  have hsb : (s : Int) ≤ 1048600 := by omega
                  have HST := Lib.hid hst
                  clear hke hst hs h1 hz
                  have hae' : ¬ (a : Int) < (cn : Int) := by omega
                  have HAE := Lib.hid hae
                  clear hae
                  go_wp2_with (go_at_call 11; refine HS.mono ?_; rintro e u7 ⟨A7, c7, rfl, -, -, b8⟩)
                  go_ret
                  exact ⟨ret_bool (decide_eq_true (by have := HST.out; have := HAE.out; omega)), hb2.trans (b8.mono hB2)⟩
                · have hkk : k = ls.length := by omega
                  have hkk1 : ¬ (k : Int) < (L.length : Int) := by omega
                  generalize (rowsB (ls.take k)).length = a at *
                  have hae' : ¬ (a : Int) < (cn : Int) := by omega
                  have HAE := Lib.hid hae
                  clear hae hkk
                  go_wp2_with fail
                  go_ret
                  exact ⟨ret_bool (decide_eq_true (by have := HAE.out; omega)), hb2⟩
      · have h0 : ¬ ((cn : Int) < 0) := by omega
        have h00 : ¬ ((rowsB ls).length : Int) < (cn : Int) := by omega
        by_cases hl20 : (ls.length : Int) < (L.length : Int)
        · have hl21 : ¬ (ls.length : Int) < 20 := by omega
          go_wp2_with fail
          have hz5 : Bz wr A5 c5 ((rowsB ls).take cn) := bz_take z5 cn
          have htl : ((rowsB ls).take cn).length = cn := by rw [List.length_take]; omega
          clear z5 hown
          go_loopw [10, 11] (fun a kk wr => ∃ k : Nat, k ≤ ls.length ∧ kk = .int .i64 k ∧ a = .int .i64 (rowsB (ls.take k)).length ∧ (rowsB (ls.take k)).length ≤ cn ∧ Bz wr A5 c5 ((rowsB ls).take cn) ∧ Below w.heap.size w wr) (fun a _ _ => cn - (intOf a).toNat)
          case atStart => exact ⟨0, by omega, rfl, rfl, by simp [rowsB], hz5, hbl⟩
          case round =>
            obtain ⟨k, hk, rfl, rfl, hle, hz, hb2⟩ := hrel
            have hB2 := hb2.size
            by_cases hlt2 : (rowsB (ls.take k)).length < cn
            · obtain ⟨hkl, hor⟩ := row_step ls cn k hll (by rw [htl]; exact hlt2)
              rw [htl] at hor
              obtain ⟨hkL, hke⟩ := hat k hkl
              obtain ⟨b, o, rfl, hc, h1, h2, h3⟩ := bbs_at hL hb2 k hkL
              rw [hke] at hor
              have hll2 := hb _ (List.getElem_mem hkL)
              have hst := seal_len L[k].2.1
              have hten := num_ten (n := (L[k].2.1.length : Int)) (by omega) (by omega)
              have HS := fun (u : World) (hu : Below wr.heap.size wr u) => seal_bz u L[k].1 L[k].2.2 L[k].2.1.length L[k].2.1 rfl (h1.keep hu) (by omega) h2
              have HV := fun (u : World) (hu : Below wr.heap.size wr u) => (h1.keep hu).convert L[k].2.1.length L[k].2.2 rfl
              have hcell : ∀ u, Below wr.heap.size wr u → u.cell? ⟨b, o + k, none⟩ = some (.slice L[k].1 L[k].2.1.length L[k].2.2) := fun u hu => by
                rw [hu.cell (p := ⟨b, o + k, none⟩) (cell_lt hc)]; exact hc
              generalize hak : (rowsB (ls.take k)).length = a at *
              have HAK := Lib.hid hak
              clear hak
              obtain ⟨g, go, rfl, -⟩ := hz.1.lt (by intro e; rw [e] at htl; simp at htl; omega)
              have hzd := bz_drop hz a (by omega)
              have hdl : (((rowsB ls).take cn).drop a).length = cn - a := by rw [List.length_drop, htl]
              have hk20 : (k : Int) < 20 := by omega
              have hkl3 : (k : Int) < (L.length : Int) := by omega
              have hac : ¬ c5 = a := by have := hz.2.1; omega
              have hacn : (a : Int) ≤ (cn : Int) := by omega
              have hc5 := hz.2.1
              have hc5' := hz.2.2
              rw [htl] at hc5
              rcases hor with ⟨ho, hnx, hnle⟩ | ⟨ho, hshort⟩
              · have HO := open_yes wr (some ⟨g, go + a, none⟩) (c5 - a) (cn - a) _ L[k].2.1 (sealB L[k].2.1).length hdl.symm hzd (by rw [hdl]; omega) ho
                generalize (sealB L[k].2.1).length = s at *
                generalize L[k].2.1 = x at *
                generalize L[k].1 = xa at *
                generalize L[k].2.2 = xc at *
                have HNX := Lib.hid hnx
                have HST := Lib.hid hst
                have hs1 : ¬ (s : Int) < 1 := by omega
                have hsb : (s : Int) ≤ 1048600 := by omega
                have hca := hcell
                clear hnx hst ho hke HS hcell hdl
                go_wp2_with (go_at_call 19; refine HO.mono ?_; rintro e u6 ⟨A6, c6, rfl, z6, b6⟩; refine Hid.out ?_)
                refine Lib.hid ?_
                have v1 : ∀ n, (convert 22 9 (.slice A6 x.length c6)).run Try.prog (u6.drewN n) = .ok (.string ⟨x.toArray⟩) (u6.drewN n) := fun n => BsAt.convert (w := u6.drewN n) z6.1 x.length c6 rfl
                have v2 : ∀ n, (convert 22 9 (.slice xa x.length xc)).run Try.prog (u6.drewN n) = .ok (.string ⟨x.toArray⟩) (u6.drewN n) := fun n => HV (u6.drewN n) ⟨b6.os, b6.tape, b6.output, b6.size, b6.block⟩
                have hcu := hca u6 b6
                have hz6 := hz.keep b6
                have b7 : Below w.heap.size w u6 := hb2.trans (b6.mono hB2)
                clear HO HV hca b6 z6 hz hb2 h1
                go_wp2_with fail
                go_quiet (fail)
                go_wp2_with fail
                go_roundw
                case rel => exact ⟨k + 1, by omega, by go_num, by rw [HNX.out]; go_num, by omega, ⟨hz6.1, hz6.2⟩, ⟨b7.os, b7.tape, b7.output, b7.size, b7.block⟩⟩
                case measure => simp [intOf]; omega
              · have HO := open_no wr (some ⟨g, go + a, none⟩) (c5 - a) (cn - a) _ hdl.symm hzd (by rw [hdl]; omega) ho
                generalize L[k].2.1 = x at *
                generalize L[k].1 = xa at *
                generalize L[k].2.2 = xc at *
                generalize hs : (sealB x).length = s at *
                have HSH := Lib.hid hs
                have HST := Lib.hid hst
                have hsb : (s : Int) ≤ 1048600 := by omega
                clear hs hst ho hke hdl HV
                go_wp2_with (go_at_call 19; refine HO.mono ?_; rintro e u6 ⟨rfl, b6⟩; refine Hid.out ?_)
                refine Lib.hid ?_
                have hcu := hcell u6 b6
                have HS6 := HS u6 b6
                have b7 : Below w.heap.size w u6 := hb2.trans (b6.mono hB2)
                have hz6 : w.heap.size ≤ u6.heap.size := b7.size
                clear HO HS hcell b6 hz hb2 h1
                go_wp2_with (go_at_call 11; refine HS6.mono ?_; rintro e u7 ⟨A7, c7, rfl, -, -, b8⟩)
                go_ret
                exact ⟨ret_bool (decide_eq_true (by omega)), b7.trans (b8.mono hz6)⟩
            · have hae : (rowsB (ls.take k)).length = cn := by omega
              by_cases hk2 : k < ls.length
              · obtain ⟨hkL, hke⟩ := hat k hk2
                obtain ⟨b, o, rfl, hc, h1, h2, h3⟩ := bbs_at hL hb2 k hkL
                have hll2 := hb _ (List.getElem_mem hkL)
                have hst := seal_len L[k].2.1
                have hten := num_ten (n := (L[k].2.1.length : Int)) (by omega) (by omega)
                have HS := seal_bz wr L[k].1 L[k].2.2 L[k].2.1.length L[k].2.1 rfl h1 (by omega) h2
                have hk20 : (k : Int) < 20 := by omega
                have hkl3 : (k : Int) < (L.length : Int) := by omega
                generalize (rowsB (ls.take k)).length = a at *
                generalize L[k].2.1 = x at *
                generalize L[k].1 = xa at *
                generalize L[k].2.2 = xc at *
                generalize hs : (sealB x).length = s at *
                have hsb : (s : Int) ≤ 1048600 := by omega
                have HST := Lib.hid hst
                clear hke hst hs h1 hz
                have hae' : ¬ (a : Int) < (cn : Int) := by omega
                have HAE := Lib.hid hae
                clear hae
                go_wp2_with (go_at_call 11; refine HS.mono ?_; rintro e u7 ⟨A7, c7, rfl, -, -, b8⟩)
                go_ret
                exact ⟨ret_bool (decide_eq_true (by have := HST.out; have := HAE.out; omega)), hb2.trans (b8.mono hB2)⟩
              · have hkk : k = ls.length := by omega
                have hkk1 : (k : Int) < (L.length : Int) := by omega
                have hkk2 : ¬ (k : Int) < 20 := by omega
                generalize (rowsB (ls.take k)).length = a at *
                have hae' : ¬ (a : Int) < (cn : Int) := by omega
                have HAE := Lib.hid hae
                clear hae hkk
                go_wp2_with fail
                go_ret
                exact ⟨ret_bool (decide_eq_true (by have := HAE.out; omega)), hb2⟩
        · go_wp2_with fail
          have hz5 : Bz wr A5 c5 ((rowsB ls).take cn) := bz_take z5 cn
          have htl : ((rowsB ls).take cn).length = cn := by rw [List.length_take]; omega
          clear z5 hown
          go_loopw [10, 11] (fun a kk wr => ∃ k : Nat, k ≤ ls.length ∧ kk = .int .i64 k ∧ a = .int .i64 (rowsB (ls.take k)).length ∧ (rowsB (ls.take k)).length ≤ cn ∧ Bz wr A5 c5 ((rowsB ls).take cn) ∧ Below w.heap.size w wr) (fun a _ _ => cn - (intOf a).toNat)
          case atStart => exact ⟨0, by omega, rfl, rfl, by simp [rowsB], hz5, hbl⟩
          case round =>
            obtain ⟨k, hk, rfl, rfl, hle, hz, hb2⟩ := hrel
            have hB2 := hb2.size
            by_cases hlt2 : (rowsB (ls.take k)).length < cn
            · obtain ⟨hkl, hor⟩ := row_step ls cn k hll (by rw [htl]; exact hlt2)
              rw [htl] at hor
              obtain ⟨hkL, hke⟩ := hat k hkl
              obtain ⟨b, o, rfl, hc, h1, h2, h3⟩ := bbs_at hL hb2 k hkL
              rw [hke] at hor
              have hll2 := hb _ (List.getElem_mem hkL)
              have hst := seal_len L[k].2.1
              have hten := num_ten (n := (L[k].2.1.length : Int)) (by omega) (by omega)
              have HS := fun (u : World) (hu : Below wr.heap.size wr u) => seal_bz u L[k].1 L[k].2.2 L[k].2.1.length L[k].2.1 rfl (h1.keep hu) (by omega) h2
              have HV := fun (u : World) (hu : Below wr.heap.size wr u) => (h1.keep hu).convert L[k].2.1.length L[k].2.2 rfl
              have hcell : ∀ u, Below wr.heap.size wr u → u.cell? ⟨b, o + k, none⟩ = some (.slice L[k].1 L[k].2.1.length L[k].2.2) := fun u hu => by
                rw [hu.cell (p := ⟨b, o + k, none⟩) (cell_lt hc)]; exact hc
              generalize hak : (rowsB (ls.take k)).length = a at *
              have HAK := Lib.hid hak
              clear hak
              obtain ⟨g, go, rfl, -⟩ := hz.1.lt (by intro e; rw [e] at htl; simp at htl; omega)
              have hzd := bz_drop hz a (by omega)
              have hdl : (((rowsB ls).take cn).drop a).length = cn - a := by rw [List.length_drop, htl]
              have hk20 : (k : Int) < 20 := by omega
              have hkl3 : (k : Int) < (L.length : Int) := by omega
              have hac : ¬ c5 = a := by have := hz.2.1; omega
              have hacn : (a : Int) ≤ (cn : Int) := by omega
              have hc5 := hz.2.1
              have hc5' := hz.2.2
              rw [htl] at hc5
              rcases hor with ⟨ho, hnx, hnle⟩ | ⟨ho, hshort⟩
              · have HO := open_yes wr (some ⟨g, go + a, none⟩) (c5 - a) (cn - a) _ L[k].2.1 (sealB L[k].2.1).length hdl.symm hzd (by rw [hdl]; omega) ho
                generalize (sealB L[k].2.1).length = s at *
                generalize L[k].2.1 = x at *
                generalize L[k].1 = xa at *
                generalize L[k].2.2 = xc at *
                have HNX := Lib.hid hnx
                have HST := Lib.hid hst
                have hs1 : ¬ (s : Int) < 1 := by omega
                have hsb : (s : Int) ≤ 1048600 := by omega
                have hca := hcell
                clear hnx hst ho hke HS hcell hdl
                go_wp2_with (go_at_call 19; refine HO.mono ?_; rintro e u6 ⟨A6, c6, rfl, z6, b6⟩; refine Hid.out ?_)
                refine Lib.hid ?_
                have v1 : ∀ n, (convert 22 9 (.slice A6 x.length c6)).run Try.prog (u6.drewN n) = .ok (.string ⟨x.toArray⟩) (u6.drewN n) := fun n => BsAt.convert (w := u6.drewN n) z6.1 x.length c6 rfl
                have v2 : ∀ n, (convert 22 9 (.slice xa x.length xc)).run Try.prog (u6.drewN n) = .ok (.string ⟨x.toArray⟩) (u6.drewN n) := fun n => HV (u6.drewN n) ⟨b6.os, b6.tape, b6.output, b6.size, b6.block⟩
                have hcu := hca u6 b6
                have hz6 := hz.keep b6
                have b7 : Below w.heap.size w u6 := hb2.trans (b6.mono hB2)
                clear HO HV hca b6 z6 hz hb2 h1
                go_wp2_with fail
                go_quiet (fail)
                go_wp2_with fail
                go_roundw
                case rel => exact ⟨k + 1, by omega, by go_num, by rw [HNX.out]; go_num, by omega, ⟨hz6.1, hz6.2⟩, ⟨b7.os, b7.tape, b7.output, b7.size, b7.block⟩⟩
                case measure => simp [intOf]; omega
              · have HO := open_no wr (some ⟨g, go + a, none⟩) (c5 - a) (cn - a) _ hdl.symm hzd (by rw [hdl]; omega) ho
                generalize L[k].2.1 = x at *
                generalize L[k].1 = xa at *
                generalize L[k].2.2 = xc at *
                generalize hs : (sealB x).length = s at *
                have HSH := Lib.hid hs
                have HST := Lib.hid hst
                have hsb : (s : Int) ≤ 1048600 := by omega
                clear hs hst ho hke hdl HV
                go_wp2_with (go_at_call 19; refine HO.mono ?_; rintro e u6 ⟨rfl, b6⟩; refine Hid.out ?_)
                refine Lib.hid ?_
                have hcu := hcell u6 b6
                have HS6 := HS u6 b6
                have b7 : Below w.heap.size w u6 := hb2.trans (b6.mono hB2)
                have hz6 : w.heap.size ≤ u6.heap.size := b7.size
                clear HO HS hcell b6 hz hb2 h1
                go_wp2_with (go_at_call 11; refine HS6.mono ?_; rintro e u7 ⟨A7, c7, rfl, -, -, b8⟩)
                go_ret
                exact ⟨ret_bool (decide_eq_true (by omega)), b7.trans (b8.mono hz6)⟩
            · have hae : (rowsB (ls.take k)).length = cn := by omega
              by_cases hk2 : k < ls.length
              · obtain ⟨hkL, hke⟩ := hat k hk2
                obtain ⟨b, o, rfl, hc, h1, h2, h3⟩ := bbs_at hL hb2 k hkL
                have hll2 := hb _ (List.getElem_mem hkL)
                have hst := seal_len L[k].2.1
                have hten := num_ten (n := (L[k].2.1.length : Int)) (by omega) (by omega)
                have HS := seal_bz wr L[k].1 L[k].2.2 L[k].2.1.length L[k].2.1 rfl h1 (by omega) h2
                have hk20 : (k : Int) < 20 := by omega
                have hkl3 : (k : Int) < (L.length : Int) := by omega
                generalize (rowsB (ls.take k)).length = a at *
                generalize L[k].2.1 = x at *
                generalize L[k].1 = xa at *
                generalize L[k].2.2 = xc at *
                generalize hs : (sealB x).length = s at *
                have hsb : (s : Int) ≤ 1048600 := by omega
                have HST := Lib.hid hst
                clear hke hst hs h1 hz
                have hae' : ¬ (a : Int) < (cn : Int) := by omega
                have HAE := Lib.hid hae
                clear hae
                go_wp2_with (go_at_call 11; refine HS.mono ?_; rintro e u7 ⟨A7, c7, rfl, -, -, b8⟩)
                go_ret
                exact ⟨ret_bool (decide_eq_true (by have := HST.out; have := HAE.out; omega)), hb2.trans (b8.mono hB2)⟩
              · have hkk : k = ls.length := by omega
                have hkk1 : ¬ (k : Int) < (L.length : Int) := by omega
                generalize (rowsB (ls.take k)).length = a at *
                have hae' : ¬ (a : Int) < (cn : Int) := by omega
                have HAE := Lib.hid hae
                clear hae hkk
                go_wp2_with fail
                go_ret
                exact ⟨ret_bool (decide_eq_true (by have := HAE.out; omega)), hb2⟩
end Go.Proofs.Ytemjddbkcbngpaa
