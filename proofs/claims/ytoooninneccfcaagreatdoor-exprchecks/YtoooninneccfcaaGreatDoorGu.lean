import Derived.Test.YtoooninneccfcaaGreatDoorNb
import Derived.Lib.ItoaNum
import Derived.Laws.BytesArg
import Derived.Test.YtoooninneccfcaaGreatDoorPureK
/- weirgatebig: a number's digits. -/
namespace Go.Proofs.YtoooninneccfcaaGreatDoor
open Go.RowKit
open Go.Lib (decDigits itoa)
set_option linter.unusedVariables false

/-- Digits, the low ones first. -/
def rdig (m : Nat) : List UInt8 := if h : m = 0 then [] else UInt8.ofNat (48 + m % 10) :: rdig (m / 10)
termination_by m
decreasing_by omega
theorem rdig_zero : rdig 0 = [] := by rw [rdig, dif_pos rfl]
theorem rdig_pos {m : Nat} (h : m ≠ 0) : rdig m = UInt8.ofNat (48 + m % 10) :: rdig (m / 10) := by rw [rdig, dif_neg h]
theorem rdig_dec : ∀ (n m : Nat), m ≤ n → m ≠ 0 → (rdig m).reverse = decDigits m
  | 0, m, h, h0 => absurd (by omega) h0
  | n + 1, m, h, h0 => by
    rw [rdig_pos h0, decDigits, List.reverse_cons]
    by_cases h1 : m < 10
    · rw [dif_pos h1, show m / 10 = 0 by omega, rdig_zero, Nat.mod_eq_of_lt h1]; rfl
    · rw [dif_neg h1, rdig_dec n (m / 10) (by omega) (by omega)]
theorem rdig_len : ∀ (k m : Nat), m < 10 ^ k → (rdig m).length ≤ k
  | 0, m, h => by
    have : m = 0 := by simpa using h
    subst this; rw [rdig_zero]; simp
  | k + 1, m, h => by
    by_cases h0 : m = 0
    · subst h0; rw [rdig_zero]; simp
    · rw [rdig_pos h0, List.length_cons]
      have := rdig_len k (m / 10) (by rw [Nat.div_lt_iff_lt_mul (by omega), ← Nat.pow_succ]; exact h)
      omega
theorem infoB8 : (Tryz.prog.info? 5).map (fun i => (i.zero, i.size, i.bytes)) = some (some (.int .u8 0), 1, 1) := by kernel_rfl
def bys (l : List UInt8) : List Value := l.map fun c => .int .u8 c.toNat
abbrev OwB (B : Nat) (w : World) (v : Value) (l : List UInt8) : Prop := w.ownsRow B 5 1 v l.length (bys l)
theorem owb_snoc {B : Nat} {w : World} {v : Value} {l : List UInt8} {c : UInt8} (h : w.ownsRow B 5 1 v (l.length + 1) (bys l ++ [.int .u8 c.toNat])) : OwB B w v (l ++ [c]) := by
  have e1 : (l ++ [c]).length = l.length + 1 := by simp
  have e2 : bys (l ++ [c]) = bys l ++ [.int .u8 c.toNat] := by simp [bys]
  unfold OwB; rw [e1, e2]; exact h
theorem owb_keep {w w' : World} {B n e m : Nat} {v : Value} {xs : List Value} (h : w.ownsRow B e m v n xs) (hb : Below w.heap.size w w') : w'.ownsRow B e m v n xs := by
  refine ⟨h.1, ?_⟩
  rcases h.2 with h0 | ⟨g, cap, cur, h0, h1, h2, h3⟩
  · exact .inl h0
  · exact .inr ⟨g, cap, cur, h0, h1, by rw [hb.block g (some_lt h2)]; exact h2, h3⟩
theorem owb_slice {w : World} {B n e m : Nat} {v : Value} {xs : List Value} (h : w.ownsRow B e m v n xs) : ∃ A cap, v = .slice A n cap := by
  rcases h.2 with ⟨h0, h1⟩ | ⟨g, cap, cur, h0, -⟩
  · exact ⟨none, 0, by rw [h0, h1]⟩
  · exact ⟨_, _, h0⟩
theorem U32s.blk {w w' : World} {g : Nat} {l : List Nat} (h : U32s w (some ⟨g, 0, none⟩) l) (he : g < w.heap.size → w'.heap[g]? = w.heap[g]?) : U32s w' (some ⟨g, 0, none⟩) l := by
  rcases h with h | ⟨b, o, e, h⟩
  · exact .inl h
  · by_cases h0 : l = []
    · exact .inl h0
    have hl : 0 < l.length := List.length_pos_iff.2 h0
    injection e with e
    injection e with e1 e2
    subst e1 e2
    have hlt := World.block_lt_of_cell? _ _ (h 0 hl)
    refine .inr ⟨g, 0, rfl, fun j hj => ?_⟩
    rw [World.cell?_of_block (w := w) (he hlt)]; exact h j hj
theorem dig_byte (r : Nat) (h : r < 10) : (48 + (r : Int)) = (((UInt8.ofNat (48 + r)).toNat : Nat) : Int) := by
  rw [UInt8.toNat_ofNat']; omega
/-- twin: the words, once more. -/
theorem twin_any {w : World} {A : Option Addr} {l : List Nat} {c : Nat} (h : U32s w A l) (hl : 0 < l.length) (hl2 : l.length ≤ 1000) :
    Calls Tryz.prog 146 #[.slice A l.length c] w fun e w' => ∃ A' c', e = .returned (.slice A' l.length c') ∧ U32s w' A' l ∧ Below w.heap.size w w' := by
  obtain ⟨i0, hi, hz0, hz1, hz2⟩ := info_parts Tryz.infoU
  obtain ⟨b, o, rfl, hat⟩ := h.at hl
  have hcs : ∀ (j : Nat) (u : Value), (l.map fun (x : Nat) => Value.int .u32 (x : Int))[j]? = some u → w.cell? ((⟨b, o, none⟩ : Addr).add j) = some u := by
    intro j u hj
    have hj' : j < l.length := by have := (List.getElem?_eq_some_iff.1 hj).1; simpa using this
    have h2 := hat j hj'
    rw [show (⟨b, o, none⟩ : Addr).add j = ⟨b, o + j, none⟩ from by unfold Addr.add; split <;> simp_all, h2]
    rw [List.getElem?_map, List.getElem?_eq_getElem hj'] at hj
    rw [wd_get hj']; simpa using hj
  go_enter Tryz.func146, Tryz.ntmps146
  go_wp2_with (at_builtin; refine wpList_append_own _ rfl _ _ 83 rfl w.heap.size 194 i0 (.int .u32 0) 1 4 Tryz.underlying83 hi hz0 hz1 hz2 rfl (by decide) (.slice none 0 0) 0 [] rfl (World.ownsRow_nil _ _ _ _) ⟨b, o, none⟩ l.length c (l.map fun (x : Nat) => Value.int .u32 (x : Int)) rfl (by simp) hcs (by intro u hu; obtain ⟨x, -, rfl⟩ := List.mem_map.1 hu; rfl) (by unfold maxLen; omega) (by omega) (Nat.le_refl _) ?_)
  intro v1 w1 o1 g1 _
  have B1 : Below w.heap.size w w1 := (Below.refl _ _).grown g1 (Nat.le_refl _) (fun j hj => by simp [Value.ownBlock] at hj)
  have o1' := o1
  rcases o1.2 with ⟨-, h0⟩ | ⟨g, cap, cur, h0, -⟩
  · omega
  subst h0
  go_wp2_with fail
  go_ret
  refine ⟨some ⟨g, 0, none⟩, cap, rfl, .inr ⟨g, 0, rfl, fun j hj => ?_⟩, B1⟩
  rw [Nat.zero_add, o1'.cellAt j (by omega), List.getElem?_map, List.getElem?_eq_getElem hj]
  rfl
/-- A list turned round as far as i. -/
def Rv (L R : List UInt8) (i : Nat) : Prop := R.length = L.length ∧ ∀ t, t < L.length → R.getD t 0 = if t < i ∨ L.length < t + i + 1 then L.getD (L.length - 1 - t) 0 else L.getD t 0
theorem Rv.start (L : List UInt8) : Rv L L 0 := ⟨rfl, fun t ht => by rw [if_neg (by omega)]⟩
theorem getD_set {R : List UInt8} {a t : Nat} {x : UInt8} (h : t < R.length) : (R.set a x).getD t 0 = if a = t then x else R.getD t 0 := by
  rw [List.getD_eq_getElem?_getD, List.getD_eq_getElem?_getD, List.getElem?_set]
  by_cases e : a = t
  · subst e; simp [h]
  · simp [e]
theorem Rv.step {L R : List UInt8} {i : Nat} (h : Rv L R i) (hi : 2 * i + 1 < L.length) : Rv L ((R.set i (R.getD (L.length - 1 - i) 0)).set (L.length - 1 - i) (R.getD i 0)) (i + 1) := by
  obtain ⟨h1, h2⟩ := h
  refine ⟨by simpa using h1, fun t ht => ?_⟩
  rw [getD_set (by simp; omega), getD_set (by omega)]
  have a1 := h2 i (by omega)
  have a2 := h2 (L.length - 1 - i) (by omega)
  rw [if_neg (by omega)] at a1 a2
  by_cases e1 : L.length - 1 - i = t
  · rw [if_pos e1, if_pos (by omega), a1, show L.length - 1 - t = i by omega]
  · rw [if_neg e1]
    by_cases e2 : i = t
    · rw [if_pos e2, if_pos (by omega), a2, show L.length - 1 - i = L.length - 1 - t by omega]
    · rw [if_neg e2, h2 t ht]
      by_cases e3 : t < i ∨ L.length < t + i + 1
      · rw [if_pos e3, if_pos (by omega)]
      · rw [if_neg e3, if_neg (by omega)]
theorem Rv.done {L R : List UInt8} {i : Nat} (h : Rv L R i) (hi : ¬ 2 * i + 1 < L.length) (hj : 2 * i ≤ L.length) : R = L.reverse := by
  obtain ⟨h1, h2⟩ := h
  refine List.ext_getElem (by simp [h1]) fun t a b => ?_
  have h3 := h2 t (by omega)
  rw [List.getElem_reverse]
  rw [List.getD_eq_getElem?_getD, List.getElem?_eq_getElem a] at h3
  simp only [Option.getD_some] at h3
  rw [h3]
  by_cases e : t < i ∨ L.length < t + i + 1
  · rw [if_pos e, List.getD_eq_getElem?_getD, List.getElem?_eq_getElem (by omega)]; rfl
  · rw [if_neg e, List.getD_eq_getElem?_getD, List.getElem?_eq_getElem (by omega)]
    simp only [Option.getD_some]
    congr 1
    omega
theorem bys_at {R : List UInt8} {t : Nat} (h : t < R.length) : (bys R)[t]? = some (.int .u8 ((R.getD t 0).toNat : Int)) := by
  unfold bys
  rw [List.getElem?_map, List.getElem?_eq_getElem h, List.getD_eq_getElem?_getD, List.getElem?_eq_getElem h]; rfl
theorem bys_set (R : List UInt8) (t : Nat) (x : UInt8) : (bys R).set t (.int .u8 (x.toNat : Int)) = bys (R.set t x) := by
  unfold bys; rw [List.map_set]
theorem bytes_conv {w : World} {g B n c : Nat} {R : List UInt8} (h : w.ownsRow B 5 1 (.slice (some ⟨g, 0, none⟩) n c) n (bys R)) (hn : n = R.length) : (convert 81 9 (.slice (some ⟨g, 0, none⟩) n c)).run Tryz.prog w = .ok (.string ⟨R.toArray⟩) w := by
  subst hn
  exact run_convert_bytes_back (P := Tryz.prog) w 81 9 5 ⟨g, 0, none⟩ c R Tryz.underlying81 Tryz.underlying5 Tryz.underlying9 (fun j hj => by
    rw [show (⟨g, 0, none⟩ : Addr).add j = ⟨g, j, none⟩ from by simp [Addr.add]; intro h; omega, h.cellAt j (by omega), bys_at hj, List.getD_eq_getElem?_getD, List.getElem?_eq_getElem hj]; rfl)
set_option maxRecDepth 100000 in
set_option maxHeartbeats 1000000 in
theorem text_any {w : World} {b : Nat} {neg : Bool} {m : Nat} (hI : IntV w b neg m) (hm : m ≠ 0) (hm2 : m < 18446744073709551616) :
    Calls Tryz.prog 116 #[.pointer (some ⟨b, 0, none⟩), .int .i64 10] w fun e w' => e = .returned (.string ⟨((if neg = true then [45] else []) ++ decDigits m).toArray⟩) ∧ Below w.heap.size w w' := by
  obtain ⟨i0, hi, hz0, hz1, hz2⟩ := info_parts infoB8
  obtain ⟨v, hb, A, cap, rfl, hcap, hU⟩ := hI
  have hbl : b < w.heap.size := some_lt hb
  have hwl : ∀ k, k ≤ m → (wl k).length ≤ 2 := fun k hk => wl_len_le k 2 (by omega)
  have hwp : ∀ k, k ≠ 0 → 0 < (wl k).length := fun k hk => by rw [wl_pos hk]; simp
  have hlen := rdig_len 20 m (by omega)
  have c0 : w.cell? ⟨b, 0, none⟩ = some (.bool neg) := by simp [World.cell?, hb]
  have c1 : w.cell? ⟨b, 1, none⟩ = some (.slice A (wl m).length cap) := by simp [World.cell?, hb]
  have HTw := twin_any (c := cap) hU (hwp m hm) (by have := hwl m (Nat.le_refl _); omega)
  have hp := hwp m hm
  have hpI : (0 : Int) < ((wl m).length : Int) := by omega
  have hp0 : (((wl m).length : Int) == 0) = false := beq_eq_false_iff_ne.2 (by omega)
  have HL := Lib.hid hwl
  have HPo := Lib.hid hwp
  clear hwl hwp hb hU
  go_enter Tryz.func116, Tryz.ntmps116
  go_wp2_with (go_at_call 146; refine HTw.mono ?_; rintro e u1 ⟨A1, cp1, rfl, hU1, b1⟩; refine Hid.out ?_)
  refine Lib.hid ?_
  have hc0 := Lib.hid (fun (u : World) (hu : Below w.heap.size w u) => (hu.cell (p := ⟨b, 0, none⟩) hbl).trans c0)
  clear HTw c0 c1 hpI hp0 hp
  go_wp2_with fail
  go_loopw [5, 6] (fun vb va wr => ∃ (k : Nat) (l : List UInt8) (A : Option Addr) (c : Nat) (pb : Option Addr) (cb : Nat), vb = .slice pb l.length cb ∧ va = .slice A (wl k).length c ∧ U32s wr A (wl k) ∧ OwB w.heap.size wr (.slice pb l.length cb) l ∧ Hid (l ++ rdig k = rdig m) ∧ k ≤ m ∧ l.length + (rdig k).length ≤ 20 ∧ Below w.heap.size w wr) (fun vb _ _ => match vb with | .slice _ n _ => 20 - n | _ => 0)
  case atStart => exact ⟨m, [], A1, cp1, none, 0, rfl, rfl, hU1, World.ownsRow_nil _ _ _ _, Lib.hid rfl, Nat.le_refl _, by simpa using hlen, b1⟩
  case round =>
    obtain ⟨k, l, A2, cp2, pb, cb, rfl, rfl, hU2, own, HX, hkm, hl20, hbw⟩ := hrel
    by_cases hk : k = 0
    · subst hk
      have hl0 : l = rdig m := by have := HX.out; rw [rdig_zero, List.append_nil] at this; exact this
      have hc := hc0.out wr hbw
      have hrp : 1 ≤ l.length := by rw [hl0, rdig_pos hm]; simp
      have hw0 : ((wl 0).length : Int) = 0 := by rw [wl_zero]; rfl
      have hll : l.length ≤ 20 := by omega
      cases neg with
      | false =>
        have HAns : Hid (l.reverse = decDigits m) := Lib.hid (by rw [hl0, rdig_dec m m (Nat.le_refl _) hm])
        obtain ⟨g, cg, e⟩ : ∃ g cg, Value.slice pb l.length cb = .slice (some ⟨g, 0, none⟩) l.length cg := by
          rcases own.2 with ⟨-, h0⟩ | ⟨g, cg, cur, h0, -⟩
          · omega
          · exact ⟨g, cg, h0⟩
        injection e with e1 _ e2
        subst e1 e2
        obtain ⟨L, hL⟩ : ∃ L, L = l := ⟨_, rfl⟩
        subst hL
        have ownL := own
        have BL := hbw
        clear hl0 HX own hbw hU2 hl20
        generalize hw1 : (wl 0).length = w0 at *
        clear hw1
        go_wp2_with fail
        go_loopw [8, 9] (fun iv jv wr => ∃ (i : Nat) (R : List UInt8), 2 * i ≤ L.length ∧ iv = .int .i64 i ∧ jv = .int .i64 ((L.length : Int) - 1 - i) ∧ Hid (Rv L R i) ∧ R.length = L.length ∧ wr.ownsRow w.heap.size 5 1 (.slice (some ⟨g, 0, none⟩) L.length cb) L.length (bys R) ∧ Below w.heap.size w wr) (fun iv _ _ => L.length - (intOf iv).toNat)
        case atStart => exact ⟨0, L, by omega, rfl, by go_num, Lib.hid (Rv.start L), rfl, ownL, BL⟩
        case round =>
          obtain ⟨i, R, hi2, rfl, rfl, HV, hRl, oR, hbR⟩ := hrel
          clear ownL BL
          by_cases hlt : 2 * i + 1 < L.length
          · obtain ⟨j, hj⟩ : ∃ j, j = L.length - 1 - i := ⟨_, rfl⟩
            have ej : (L.length : Int) - 1 - (i : Int) = (j : Int) := by omega
            have hijI : (i : Int) < (j : Int) := by omega
            have hjL : (j : Int) < (L.length : Int) := by omega
            have hiL : (i : Int) < (L.length : Int) := by omega
            have hne1 : ¬ i = j := by omega
            have hne2 : ¬ j = i := by omega
            have HV2 := Lib.hid (HV.out.step hlt)
            rw [← hj] at HV2
            have ci := (oR.cellAt i (by omega)).trans (bys_at (R := R) (t := i) (by omega))
            have cj := (oR.cellAt j (by omega)).trans (bys_at (R := R) (t := j) (by omega))
            have f0 := oR.frozenAt
            have hgw := (oR.lt g rfl).1
            obtain ⟨oR1, -⟩ := oR.stored i (.int .u8 ((R.getD j 0).toNat : Int))
            rw [bys_set] at oR1
            have f1 := oR1.frozenAt
            obtain ⟨oR2, -⟩ := oR1.stored j (.int .u8 ((R.getD i 0).toNat : Int))
            rw [bys_set] at oR2
            have cj1 := (oR1.cellAt j (by omega)).trans (bys_at (R := R.set i (R.getD j 0)) (t := j) (by simp; omega))
            have B2 : Below w.heap.size w ((wr.setCell ⟨g, i, none⟩ (.int .u8 ((R.getD j 0).toNat : Int))).setCell ⟨g, j, none⟩ (.int .u8 ((R.getD i 0).toNat : Int))) := (hbR.setCell (p := ⟨g, i, none⟩) hgw _).setCell (p := ⟨g, j, none⟩) hgw _
            simp only [ej]
            have HJ := Lib.hid hj
            have HEJ := Lib.hid ej
            clear HV hj ej
            generalize hx : (R.getD i 0) = x at *
            generalize hy : (R.getD j 0) = y at *
            clear hx hy
            go_wp2_with fail
            go_roundw
            case rel => exact ⟨i + 1, _, by omega, by go_num, by have := HEJ.out; simp; omega, HV2, by simpa using hRl, oR2, B2⟩
            case measure => simp [intOf]; omega
          · have hijI : ¬ (i : Int) < (L.length : Int) - 1 - i := by omega
            have hcv := bytes_conv oR hRl.symm
            have HE := Lib.hid (HV.out.done hlt hi2)
            go_wp2_with fail
            go_ret
            have hE := HE.out.trans HAns.out
            subst hE
            exact ⟨rfl, hbR⟩
      | true =>
        have HAns0 : Hid ((l ++ [45]).reverse = 45 :: decDigits m) := Lib.hid (by rw [List.reverse_append, hl0, rdig_dec m m (Nat.le_refl _) hm]; rfl)
        have hs2 : w.heap.size ≤ wr.heap.size := hbw.size
        clear hl0 HX hU2 hl20
        generalize hw1 : (wl 0).length = w0 at *
        clear hw1
        go_wp2_with (at_builtin; refine wpList_append_own _ rfl _ _ 81 rfl w.heap.size 5 i0 (.int .u8 0) 1 1 Tryz.underlying81 hi hz0 hz1 hz2 rfl (by decide) _ _ _ rfl (own.alloc _) ⟨wr.heap.size, 0, none⟩ 1 1 [.int .u8 45] rfl rfl (by intro j u' hj; match j, hj with | 0, hj => simp at hj; subst hj; simp [Addr.add]) (by intro u' hu'; simp at hu'; subst hu'; rfl) (by unfold maxLen; omega) (by omega) (by simp; omega) ?_)
        intro v3 u3 o3 g3 _
        refine Hid.out ?_
        refine Lib.hid ?_
        have own3 : OwB w.heap.size u3 v3 (l ++ [45]) := owb_snoc (c := 45) o3
        have BL : Below w.heap.size w u3 := (hbw.alloc hs2 _).grown g3 (by simp; omega) (fun j hj => by have := (own.lt j hj).1; omega)
        obtain ⟨L, hL⟩ : ∃ L, L = l ++ [45] := ⟨_, rfl⟩
        rw [← hL] at own3
        have HAns : Hid (L.reverse = 45 :: decDigits m) := Lib.hid (by rw [hL]; exact HAns0.out)
        have hL1 : L.length = l.length + 1 := by rw [hL]; simp
        have hLa : 1 ≤ L.length := by omega
        have hLb : L.length ≤ 21 := by omega
        obtain ⟨g, cg, rfl⟩ : ∃ g cg, v3 = .slice (some ⟨g, 0, none⟩) L.length cg := by
          rcases own3.2 with ⟨-, h0⟩ | ⟨g, cg, cur, h0, -⟩
          · omega
          · exact ⟨g, cg, h0⟩
        have ownL := own3
        clear o3 g3 own own3 hL hL1 HAns0 hbw hs2
        go_wp2_with fail
        go_loopw [8, 9] (fun iv jv wr => ∃ (i : Nat) (R : List UInt8), 2 * i ≤ L.length ∧ iv = .int .i64 i ∧ jv = .int .i64 ((L.length : Int) - 1 - i) ∧ Hid (Rv L R i) ∧ R.length = L.length ∧ wr.ownsRow w.heap.size 5 1 (.slice (some ⟨g, 0, none⟩) L.length cg) L.length (bys R) ∧ Below w.heap.size w wr) (fun iv _ _ => L.length - (intOf iv).toNat)
        case atStart => exact ⟨0, L, by omega, rfl, by go_num, Lib.hid (Rv.start L), rfl, ownL, BL⟩
        case round =>
          obtain ⟨i, R, hi2, rfl, rfl, HV, hRl, oR, hbR⟩ := hrel
          clear ownL BL
          by_cases hlt : 2 * i + 1 < L.length
          · obtain ⟨j, hj⟩ : ∃ j, j = L.length - 1 - i := ⟨_, rfl⟩
            have ej : (L.length : Int) - 1 - (i : Int) = (j : Int) := by omega
            have hijI : (i : Int) < (j : Int) := by omega
            have hjL : (j : Int) < (L.length : Int) := by omega
            have hiL : (i : Int) < (L.length : Int) := by omega
            have hne1 : ¬ i = j := by omega
            have hne2 : ¬ j = i := by omega
            have HV2 := Lib.hid (HV.out.step hlt)
            rw [← hj] at HV2
            have ci := (oR.cellAt i (by omega)).trans (bys_at (R := R) (t := i) (by omega))
            have cj := (oR.cellAt j (by omega)).trans (bys_at (R := R) (t := j) (by omega))
            have f0 := oR.frozenAt
            have hgw := (oR.lt g rfl).1
            obtain ⟨oR1, -⟩ := oR.stored i (.int .u8 ((R.getD j 0).toNat : Int))
            rw [bys_set] at oR1
            have f1 := oR1.frozenAt
            obtain ⟨oR2, -⟩ := oR1.stored j (.int .u8 ((R.getD i 0).toNat : Int))
            rw [bys_set] at oR2
            have cj1 := (oR1.cellAt j (by omega)).trans (bys_at (R := R.set i (R.getD j 0)) (t := j) (by simp; omega))
            have B2 : Below w.heap.size w ((wr.setCell ⟨g, i, none⟩ (.int .u8 ((R.getD j 0).toNat : Int))).setCell ⟨g, j, none⟩ (.int .u8 ((R.getD i 0).toNat : Int))) := (hbR.setCell (p := ⟨g, i, none⟩) hgw _).setCell (p := ⟨g, j, none⟩) hgw _
            simp only [ej]
            have HJ := Lib.hid hj
            have HEJ := Lib.hid ej
            clear HV hj ej
            generalize hx : (R.getD i 0) = x at *
            generalize hy : (R.getD j 0) = y at *
            clear hx hy
            go_wp2_with fail
            go_roundw
            case rel => exact ⟨i + 1, _, by omega, by go_num, by have := HEJ.out; simp; omega, HV2, by simpa using hRl, oR2, B2⟩
            case measure => simp [intOf]; omega
          · have hijI : ¬ (i : Int) < (L.length : Int) - 1 - i := by omega
            have hcv := bytes_conv oR hRl.symm
            have HE := Lib.hid (HV.out.done hlt hi2)
            go_wp2_with fail
            go_ret
            have hE := HE.out.trans HAns.out
            subst hE
            exact ⟨rfl, hbR⟩
    · have hp := HPo.out k hk
      have hpI : (0 : Int) < ((wl k).length : Int) := by omega
      have h2 := HL.out k hkm
      have HSm := small_any (ca := cp2) (d := 10) hU2 (wds_wl k) hp (by omega) (by omega) (by omega)
      rw [nv_wl] at HSm
      have hr : k % 10 < 10 := Nat.mod_lt _ (by omega)
      have HX2 : Hid ((l ++ [UInt8.ofNat (48 + k % 10)]) ++ rdig (k / 10) = rdig m) := Lib.hid (by rw [← HX.out, rdig_pos hk]; simp)
      have hl2 : l.length + 1 + (rdig (k / 10)).length ≤ 20 := by rw [rdig_pos hk, List.length_cons] at hl20; omega
      have hk2 : k / 10 ≤ m := by omega
      generalize k % 10 = r at *
      generalize k / 10 = k2 at *
      have hrI : (r : Int) < 10 := by omega
      generalize hW1 : (wl k).length = W1 at *
      clear hW1 HX hl20
      go_wp2_with (go_at_call 147; refine HSm.mono ?_; rintro e u2 ⟨g2, rfl, hg2, hU3, b2⟩; refine Hid.out ?_)
      refine Lib.hid ?_
      have own2 := owb_keep own b2
      have B2 := hbw.trans (b2.mono hbw.size)
      have hs2 : w.heap.size ≤ u2.heap.size := B2.size
      have hcr := Lib.hid (dig_byte r hr)
      have hne : ∀ j, (Value.slice pb l.length cb).ownBlock = some j → j ≠ g2 := fun j hj => by have := (own.lt j hj).2; omega
      clear HSm own b2
      go_wp2_with (at_builtin; refine wpList_append_own _ rfl _ _ 81 rfl w.heap.size 5 i0 (.int .u8 0) 1 1 Tryz.underlying81 hi hz0 hz1 hz2 rfl (by decide) _ _ _ rfl (own2.alloc _) ⟨u2.heap.size, 0, none⟩ 1 1 [.int .u8 (48 + (r : Int))] rfl rfl (by intro j u' hj; match j, hj with | 0, hj => simp at hj; subst hj; simp [Addr.add]) (by intro u' hu'; simp at hu'; subst hu'; rfl) (by unfold maxLen; omega) (by omega) (by simp; omega) ?_)
      intro v3 u3 o3 g3 _
      refine Hid.out ?_
      refine Lib.hid ?_
      rw [hcr.out] at o3
      have own3 := owb_snoc o3
      have hU4 : U32s u3 (some ⟨g2, 0, none⟩) (wl k2) := hU3.blk (fun hlt => by
        rw [g3.block g2 (by simp; omega) (fun e => hne g2 e.symm rfl), Below.heap_alloc _ _ _ hlt])
      have B3 : Below w.heap.size w u3 := (B2.alloc hs2 _).grown g3 (by simp; omega) (fun j hj => by have := (own2.lt j hj).1; omega)
      obtain ⟨p3, c3, rfl⟩ := owb_slice own3
      have hl3 : (l ++ [UInt8.ofNat (48 + r)]).length = l.length + 1 := by simp
      generalize l ++ [UInt8.ofNat (48 + r)] = l3 at *
      clear o3 g3 own2 hU3 B2 hne hcr
      go_wp2_with fail
      go_roundw
      case rel => exact ⟨k2, l3, _, _, p3, c3, rfl, rfl, hU4, own3, HX2, hk2, by omega, B3⟩
      case measure => simp; omega
end Go.Proofs.YtoooninneccfcaaGreatDoor

/- The document's Digits. -/
namespace Go.Proofs.YtoooninneccfcaaGreatDoor
open Go.RowKit
open Go.Lib (decDigits itoa)
set_option linter.unusedVariables false

theorem text_zero {w : World} {b : Nat} {neg : Bool} (hI : IntV w b neg 0) :
    Calls Tryz.prog 116 #[.pointer (some ⟨b, 0, none⟩), .int .i64 10] w fun e w' => e = .returned (.string ⟨(decDigits 0).toArray⟩) ∧ w = w' := by
  obtain ⟨v, hb, A, cap, rfl, -, -⟩ := hI
  have c1 : w.cell? ⟨b, 1, none⟩ = some (.slice A (wl 0).length cap) := by simp [World.cell?, hb]
  rw [wl_zero] at c1
  have hd : decDigits 0 = [48] := by rw [decDigits]; rfl
  rw [hd]
  simp only [List.length_nil] at c1
  clear hb
  go_enter Tryz.func116, Tryz.ntmps116
  go_wp2_with fail
  go_ret
  exact ⟨rfl, rfl⟩
theorem ito_eq (n : Int) : (if decide (n < 0) = true then [45] else []) ++ decDigits n.natAbs = itoa n := by
  unfold itoa
  by_cases h : n < 0
  · rw [if_pos h, if_pos (by simpa using h)]; rfl
  · rw [if_neg h, if_neg (by simpa using h), show n.natAbs = n.toNat by omega]; rfl
theorem text_of {w : World} {b : Nat} {n : Int} (h0 : -9223372036854775808 ≤ n) (h1 : n ≤ 9223372036854775807) (hI : IntV w b (decide (n < 0)) n.natAbs) :
    Calls Tryz.prog 116 #[.pointer (some ⟨b, 0, none⟩), .int .i64 10] w fun e w' => e = .returned (.string (itoB n)) ∧ Below w.heap.size w w' := by
  by_cases hz : n = 0
  · subst hz
    refine (text_zero hI).mono ?_
    rintro e w' ⟨rfl, rfl⟩
    exact ⟨by unfold itoB; rw [← ito_eq]; rfl, Below.refl _ _⟩
  · refine (text_any hI (by omega) (by omega)).mono ?_
    rintro e w' ⟨rfl, hb⟩
    exact ⟨by unfold itoB; rw [← ito_eq], hb⟩
theorem string_of {w : World} {b : Nat} {n : Int} (h0 : -9223372036854775808 ≤ n) (h1 : n ≤ 9223372036854775807) (hI : IntV w b (decide (n < 0)) n.natAbs) :
    Calls Tryz.prog 71 #[.pointer (some ⟨b, 0, none⟩)] w fun e w' => e = .returned (.string (itoB n)) ∧ Below w.heap.size w w' := by
  have H := text_of h0 h1 hI
  clear hI
  go_enter Tryz.func71, Tryz.ntmps71
  go_wp2_with (go_at_call 116; refine H.mono ?_; rintro e u1 ⟨rfl, b1⟩; refine Hid.out ?_)
  refine Lib.hid ?_
  go_wp2_with fail
  go_ret
  exact ⟨rfl, b1⟩
theorem digs_any (w : World) (n : Int) (h0 : -9223372036854775808 ≤ n) (h1 : n ≤ 9223372036854775807) :
    Calls Tryz.prog 33 #[.int .i64 n] w fun e w' => e = .returned (.string (itoB n)) ∧ Below w.heap.size w w' := by
  have H1 := newint_any w n h0 h1
  have H2 := Lib.hid (fun (u : World) (hI : IntV u w.heap.size (decide (n < 0)) n.natAbs) => string_of h0 h1 hI)
  go_enter Tryz.func33, Tryz.ntmps33
  go_wp2_with (go_at_call 37; refine H1.mono ?_; rintro e u1 ⟨rfl, hI, b1⟩; refine Hid.out ?_)
  refine Lib.hid ?_
  have H3 := H2.out u1 hI
  clear H1 H2 hI
  go_wp2_with (go_at_call 71; refine H3.mono ?_; rintro e u2 ⟨rfl, b2⟩; refine Hid.out ?_)
  refine Lib.hid ?_
  go_wp2_with fail
  go_ret
  exact ⟨rfl, b1.trans (b2.mono b1.size)⟩
end Go.Proofs.YtoooninneccfcaaGreatDoor
