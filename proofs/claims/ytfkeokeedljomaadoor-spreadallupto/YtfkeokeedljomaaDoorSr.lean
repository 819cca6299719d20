/- Every, Even. -/
import Derived.Test.YtfkeokeedljomaaDoorSq
namespace Go.Proofs.YtfkeokeedljomaaDoor
open Go.RowKit
set_option linter.unusedVariables false

def evP (m : Nat) (l : List ByteArray) (k : Nat) : List (List ByteArray) := (List.range m).map fun j => if j < k then l else []
theorem evP_len (m : Nat) (l : List ByteArray) (k : Nat) : (evP m l k).length = m := by simp [evP]
theorem evP_at (m : Nat) (l : List ByteArray) (k j : Nat) (hj : j < m) : (evP m l k)[j]? = some (if j < k then l else []) := by simp [evP, hj]
theorem evP_zero (m : Nat) (l : List ByteArray) : evP m l 0 = List.replicate m [] := by
  unfold evP
  rw [List.eq_replicate_iff]
  refine ⟨by simp, fun x hx => ?_⟩
  obtain ⟨j, -, rfl⟩ := List.mem_map.1 hx
  rfl
theorem evP_set (m : Nat) (l : List ByteArray) (k : Nat) (hk : k < m) : (evP m l k).set k l = evP m l (k + 1) := by
  apply List.ext_getElem?
  intro j
  by_cases hj : j < m
  · rw [evP_at m l (k + 1) j hj]
    by_cases e : k = j
    · subst e
      rw [List.getElem?_set]; simp [evP_len, hk]
    · rw [List.getElem?_set_ne e, evP_at m l k j hj]
      congr 1
      by_cases h : j < k
      · rw [if_pos h, if_pos (by omega)]
      · rw [if_neg h, if_neg (by omega)]
  · rw [List.getElem?_eq_none (by rw [List.length_set, evP_len]; omega), List.getElem?_eq_none (by rw [evP_len]; omega)]
set_option maxHeartbeats 2000000 in
theorem every_no (w : World) (la : Option Addr) (c n : Nat) (m : Int) (L : List Tl) (h : TlsAt w la L) (hn : n = L.length) (hl : n < 4611686018427387904) (ht : (allT L).length < 4611686018427387904) (he : erC (allT L).length m ≠ 0) :
    Calls Tryd.prog 10 #[.slice la n c, .int .i64 m] w fun e w' => e = .returned (.tuple #[.slice none 0 0, errV (erC (allT L).length m)]) ∧ w' = w := by
  have h1 := inall_any w la c n L h hn hl ht
  have h2 := chk_any ((allT L).length : Nat) m w
  generalize erC (allT L).length m = k at *
  generalize (allT L).length = N at *
  obtain ⟨tv, htv⟩ := errV_ne he
  rw [htv] at h2 ⊢
  clear h hn he htv
  go_enter Tryd.func10, Tryd.ntmps10
  go_wp2_with (first | (go_at_call 14; refine h1.mono ?_; rintro e w' ⟨rfl, rfl⟩) | (go_at_call 13; refine h2.mono ?_; rintro e w' ⟨rfl, rfl⟩))
  go_ret2
  exact ⟨rfl, rfl⟩
set_option maxRecDepth 100000 in
set_option maxHeartbeats 4000000 in
theorem every_yes (w : World) (la : Option Addr) (c n m : Nat) (L : List Tl) (h : TlsAt w la L) (hn : n = L.length) (hl : n < 4611686018427387904) (he : erC (allT L).length m = 0) :
    Calls Tryd.prog 10 #[.slice la n c, .int .i64 (m : Int)] w fun e w' => ∃ v, e = .returned (.tuple #[v, .nilIface]) ∧ RowsEnd w w' v (evP m (allT L) m) := by
  obtain ⟨m1, m2, m3⟩ := erC_ok he
  have hm1 : 0 < m := by omega
  have hm2 : m ≤ 16 := by omega
  have h1 := inall_any w la c n L h hn hl (by omega)
  have h2 := chk_any ((allT L).length : Nat) m w
  have h3 : errV 0 = .nilIface := rfl
  rw [he, h3] at h2
  have HMK := make_l m hm2
  have hlb := LB.made w m (w.heap.size + 1)
  have HC := Lib.hid (fun (u : World) (hb : Below w.heap.size w u) => concat_any u la c n L (h.keep hb) hn hl (by omega))
  obtain ⟨l, hll⟩ : ∃ l, allT L = l := ⟨_, rfl⟩
  rw [hll] at h1 h2 HC m3 ⊢
  generalize l.length = N at h1 h2 m3
  clear h hn he h3 m1 m2 hll
  have hs1 : (w.alloc (.cells (madeCells #[.slice none 0 0] m) 22)).heap.size = w.heap.size + 1 := by simp
  have hB1 : Below w.heap.size w (w.alloc (.cells (madeCells #[.slice none 0 0] m) 22)) := (Below.refl _ _).alloc (Nat.le_refl _) _
  have HL0 : Hid (LB (w.alloc (.cells (madeCells #[.slice none 0 0] m) 22)) w.heap.size (w.heap.size + 1) (evP m l 0) (List.replicate m (.slice none 0 0))) := by
    show LB _ _ _ _ _
    rw [evP_zero]; exact hlb
  have HB1 : Hid (Below w.heap.size w (w.alloc (.cells (madeCells #[.slice none 0 0] m) 22))) := hB1
  have HS1 : Hid (w.heap.size + 1 ≤ (w.alloc (.cells (madeCells #[.slice none 0 0] m) 22)).heap.size) := by show _ ≤ _; omega
  clear hlb hs1 hB1
  go_enter Tryd.func10, Tryd.ntmps10
  go_wp2_with (first | (go_at_call 14; refine h1.mono ?_; rintro e w' ⟨rfl, rfl⟩) | (go_at_call 13; refine h2.mono ?_; rintro e w' ⟨rfl, rfl⟩))
  rename World => w
  obtain ⟨B, hBB⟩ : ∃ B, w.heap.size = B := ⟨_, rfl⟩
  rw [hBB] at HL0 HB1 HS1 ⊢
  have HBB := Lib.hid hBB
  clear hBB
  generalize w.alloc (.cells (madeCells #[.slice none 0 0] m) 22) = W1 at HL0 HB1 HS1 ⊢
  go_loopw [20] (fun vi wr => ∃ k : Nat, vi = .int .i64 (k : Int) ∧ k ≤ m ∧ Hid (∃ vs, LB wr B (B + 1) (evP m l k) vs) ∧ Hid (Below B w wr) ∧ Hid (B + 1 ≤ wr.heap.size)) (fun vi _ => m - (intOf vi).toNat)
  case atStart => exact ⟨0, rfl, by omega, ⟨_, HL0.out⟩, HB1, HS1⟩
  case round =>
    obtain ⟨k, rfl, hk, ⟨vs, hL⟩, hB, hS⟩ := hrel
    by_cases hlt : k < m
    · have hz : (k : Int) < (m : Int) := by omega
      have hc := HC.out wr (by rw [HBB.out]; exact hB.out)
      have HLW := Lib.hid hL
      clear hL
      go_wp2_with fail
      refine hc.mono ?_
      rintro e u ⟨v, rfl, hT, hO, hB2⟩
      obtain ⟨vj, hvj⟩ := at_lt (l := vs) (k := k) (by rw [HLW.out.len, evP_len]; exact hlt)
      have hL2 := HLW.out.keep hB2
      obtain ⟨d1, f1⟩ := hL2.cell hvj
      obtain ⟨p1, p2, -⟩ := HLW.out.put (w2 := u) (w1 := u) hB2 hS.out hvj ⟨rfl, rfl, rfl, Nat.le_refl _, fun _ _ _ => rfl⟩ hT (fun b hb => .inr (hO b hb))
      rw [evP_set m l k hlt] at p1
      obtain ⟨A0, c0, rfl, -, -⟩ := hT.slice
      have HP : Hid ((∃ vs, LB (u.setCell ⟨B, k, none⟩ (.slice A0 l.length c0)) B (B + 1) (evP m l (k + 1)) vs) ∧ Below B w (u.setCell ⟨B, k, none⟩ (.slice A0 l.length c0)) ∧ B + 1 ≤ (u.setCell ⟨B, k, none⟩ (.slice A0 l.length c0)).heap.size) := by
        have hsz := hB2.size
        have hs := hS.out
        have h1 := p2 B (by omega) (by omega)
        have h0 := h1.size
        exact ⟨⟨_, p1⟩, hB.out.trans h1, by omega⟩
      clear hT hO hB2 hL2 p1 p2 hvj
      go_wp2_with fail
      exact ⟨⟨k + 1, by go_num, by omega, HP.out.1, HP.out.2.1, HP.out.2.2⟩, by simp [intOf]; omega⟩
    · have hz : ¬ (k : Int) < (m : Int) := by omega
      obtain rfl : k = m := by omega
      go_wp2_with fail
      go_ret2
      exact ⟨_, rfl, B, vs, by rw [evP_len]; rfl, hL.mono (by have := HBB.out; omega), by have := HBB.out; omega, by rw [HBB.out]; exact hB.out⟩
theorem one_tls {w : World} {A : Option Addr} {c : Nat} {l : List ByteArray} (h : CsAt w A (tcells l)) : TlsAt (w.alloc (.cells #[.slice A l.length c] 22)) (some ⟨w.heap.size, 0, none⟩) [⟨A, c, l⟩] := by
  have hb : Below w.heap.size w (w.alloc (.cells #[.slice A l.length c] 22)) := (Below.refl _ _).alloc (Nat.le_refl _) _
  refine ⟨.inr ⟨w.heap.size, 0, rfl, fun j u hu => ?_⟩, fun X hX => ?_⟩
  · match j, hu with
    | 0, hu => simp at hu; subst hu; simp [tlV, go_sem]
    | n + 1, hu => simp at hu
  · simp at hX; subst hX
    exact h.keep hb
theorem rows_flat (m : Nat) (hm : 0 < m) : ∀ l : List ByteArray, (rowsP m l).flatten.length = l.length := by
  refine snoc_rec ?_ (fun l x ih => ?_)
  · rw [rowsP_nil]; simp
  · rw [← rowsP_snoc m hm l x, flat_set _ _ _ _ (rowsP_at m l _ (Nat.mod_lt _ hm)), ih]; simp
theorem tls_of {w : World} {B : Nat} {rows : List (List ByteArray)} (h : ∀ (j : Nat) (r : List ByteArray), rows[j]? = some r → ∃ A c, w.cell? ⟨B, j, none⟩ = some (.slice A r.length c) ∧ CsAt w A (tcells r)) :
    ∃ L : List Tl, L.map (·.l) = rows ∧ TlsAt w (some ⟨B, 0, none⟩) L := by
  have hx : ∀ j : Nat, ∃ X : Tl, j < rows.length → X.l = rows.getD j [] ∧ w.cell? ⟨B, j, none⟩ = some (tlV X) ∧ CsAt w X.at_ (tcells X.l) := fun j => by
    by_cases hj : j < rows.length
    · obtain ⟨A, c, h1, h2⟩ := h j _ (List.getElem?_eq_getElem hj)
      exact ⟨⟨A, c, rows[j]⟩, fun _ => ⟨by simp [List.getD_eq_getElem?_getD, hj], h1, h2⟩⟩
    · exact ⟨⟨none, 0, []⟩, fun k => absurd k hj⟩
  obtain ⟨f, hf⟩ := Classical.axiomOfChoice hx
  refine ⟨(List.range rows.length).map f, ?_, .inr ⟨B, 0, rfl, fun j u hu => ?_⟩, fun X hX => ?_⟩
  · apply List.ext_getElem?
    intro j
    by_cases hj : j < rows.length
    · simp only [List.map_map, List.getElem?_map, List.getElem?_range hj, Option.map_some, Function.comp]
      rw [(hf j hj).1]
      simp [List.getD_eq_getElem?_getD, hj]
    · rw [List.getElem?_eq_none (by simp; omega), List.getElem?_eq_none (by omega)]
  · have hj : j < rows.length := by
      have := (List.getElem?_eq_some_iff.1 hu).1
      simpa using this
    simp [hj] at hu
    rw [← hu, Nat.zero_add]
    exact (hf j hj).2.1
  · obtain ⟨j, hj, rfl⟩ := List.mem_map.1 hX
    exact (hf j (List.mem_range.1 hj)).2.2
theorem allT_one (X : Tl) : allT [X] = X.l := by simp [allT]
set_option maxHeartbeats 2000000 in
theorem even_no (w : World) (A : Option Addr) (c n : Nat) (m : Int) (l : List ByteArray) (h : CsAt w A (tcells l)) (hn : n = l.length) (hl : n < 4611686018427387904) (he : erC n m ≠ 0) :
    Calls Tryd.prog 5 #[.slice A n c, .int .i64 m] w fun e w' => e = .returned (.tuple #[.slice none 0 0, errV (erC n m)]) ∧ Below w.heap.size w w' := by
  subst hn
  have ha := again_no _ (some ⟨w.heap.size, 0, none⟩) 1 1 m [⟨A, c, l⟩] (one_tls h) rfl (by omega) (by rw [allT_one]; exact hl) (by rw [allT_one]; exact he)
  rw [allT_one] at ha
  have ha := Lib.hid ha
  simp only at ha
  have hb : Below w.heap.size w (w.alloc (.cells #[.slice A l.length c] 22)) := (Below.refl _ _).alloc (Nat.le_refl _) _
  generalize erC l.length m = k at *
  generalize l.length = n at *
  generalize errV k = ev at *
  clear h he
  go_enter Tryd.func5, Tryd.ntmps5
  go_wp2_with fail
  refine ha.out.mono ?_
  rintro e w' ⟨rfl, rfl⟩
  go_wp2_with fail
  go_ret2
  exact ⟨rfl, hb⟩
theorem RowsEnd.up {w u w' : World} {v : Value} {rows : List (List ByteArray)} (h : RowsEnd u w' v rows) (hb : Below w.heap.size w u) : RowsEnd w w' v rows := by
  obtain ⟨B, vs, h1, h2, h3, h4⟩ := h
  have := hb.size
  exact ⟨B, vs, h1, h2.mono this, by omega, hb.trans (h4.mono this)⟩
set_option maxHeartbeats 2000000 in
theorem even_yes (w : World) (A : Option Addr) (c n m : Nat) (l : List ByteArray) (h : CsAt w A (tcells l)) (hn : n = l.length) (he : erC n m = 0) :
    Calls Tryd.prog 5 #[.slice A n c, .int .i64 (m : Int)] w fun e w' => ∃ v, e = .returned (.tuple #[v, .nilIface]) ∧ RowsEnd w w' v (rowsP m l) := by
  subst hn
  have ha := again_yes _ (some ⟨w.heap.size, 0, none⟩) 1 1 m [⟨A, c, l⟩] (one_tls h) rfl (by omega) (by rw [allT_one]; exact he)
  rw [allT_one] at ha
  have ha := Lib.hid ha
  simp only at ha
  have hb : Below w.heap.size w (w.alloc (.cells #[.slice A l.length c] 22)) := (Below.refl _ _).alloc (Nat.le_refl _) _
  have HB := Lib.hid hb
  generalize rowsP m l = rs at *
  generalize l.length = n at *
  clear h he hb
  go_enter Tryd.func5, Tryd.ntmps5
  go_wp2_with fail
  refine ha.out.mono ?_
  rintro e w' ⟨v, rfl, hR⟩
  have HR := Lib.hid (hR.up HB.out)
  clear hR
  go_wp2_with fail
  go_ret2
  exact ⟨_, rfl, HR.out⟩
end Go.Proofs.YtfkeokeedljomaaDoor
