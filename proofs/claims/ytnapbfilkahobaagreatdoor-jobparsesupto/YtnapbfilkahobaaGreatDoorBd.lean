/- weirgatebig: a number of decimal digits. -/
import Derived.Test.YtnapbfilkahobaaGreatDoorBc
namespace Go.Proofs.YtnapbfilkahobaaGreatDoor
open Go.RowKit

/-- A number in memory: its sign, and its words. -/
def IntV (w : World) (b : Nat) (neg : Bool) (n : Nat) : Prop := ∃ v, w.heap[b]? = some (.cells #[.bool neg, v] 85 (0, 0)) ∧ Wv w v (wl n)

theorem Wv.fr {w w' : World} {v : Value} {l : List Nat} {b : Nat} {c : Array Value} (h : Wv w v l) (f : Fr [b] w w') (hb : w.heap[b]? = some (.cells c 85 (0, 0))) (hc : ∀ (i : Nat) (x : Int), c[i]? ≠ some (.int .u32 x)) : Wv w' v l := by
  obtain ⟨A, cap, h1, h2, h3⟩ := h
  refine ⟨A, cap, h1, h2, ?_⟩
  rcases h3 with h3 | ⟨b2, o, e, h3⟩
  · exact .inl h3
  · refine .inr ⟨b2, o, e, fun j hj => ?_⟩
    have hcell := h3 j hj
    have hne : b2 ≠ b := by
      intro e2; subst e2
      simp only [World.cell?, hb] at hcell
      simp at hcell
      exact hc _ _ hcell
    rw [f.cell (World.block_lt_of_cell? _ _ hcell) (by simpa using hne)]; exact hcell
theorem two_no {f v0 : Value} {neg : Bool} (hf : f = .bool neg) (hv : ∃ A n c, v0 = .slice A n c) : ∀ (i : Nat) (x : Int), (#[f, v0] : Array Value)[i]? ≠ some (.int .u32 x) := by
  intro i x h
  obtain ⟨A, n, c, rfl⟩ := hv
  subst hf
  match i, h with
  | 0, h => simp at h
  | 1, h => simp at h
  | i + 2, h => simp at h

theorem give_any {w : World} {b : Nat} {neg0 : Bool} {v0 v : Value} {n : Nat} (hb : w.heap[b]? = some (.cells #[.bool neg0, v0] 85 (0, 0))) (hv0 : ∃ A n c, v0 = .slice A n c) (hv : Wv w v (wl n)) :
    Calls Tryz.prog 118 #[.pointer (some ⟨b, 0, none⟩), .bool false, v] w fun e w' => e = .returned (.pointer (some ⟨b, 0, none⟩)) ∧ IntV w' b false n ∧ Fr [b] w w' := by
  have hv' := hv
  obtain ⟨A, cap, rfl, -, -⟩ := hv
  have c0 : w.cell? ⟨b, 0, none⟩ = some (.bool neg0) := by simp [World.cell?, hb]
  have c1 : w.cell? ⟨b, 1, none⟩ = some v0 := by simp [World.cell?, hb]
  have f0 : w.frozen? ⟨b, 0, none⟩ = false := by simp [World.frozen?, hb]
  have f1 : w.frozen? ⟨b, 1, none⟩ = false := by simp [World.frozen?, hb]
  have G : Fr [b] w ((w.setCell ⟨b, 1, none⟩ (.slice A (wl n).length cap)).setCell ⟨b, 0, none⟩ (.bool false)) := ((Fr.refl _ _).setCell (.inl (by simp)) _).setCell (.inl (by simp)) _
  have I : IntV ((w.setCell ⟨b, 1, none⟩ (.slice A (wl n).length cap)).setCell ⟨b, 0, none⟩ (.bool false)) b false n := by
    refine ⟨.slice A (wl n).length cap, ?_, hv'.fr G hb (two_no rfl hv0)⟩
    simp [World.setCell, Array.getElem?_modify, hb]
  go_enter Tryz.func118, Tryz.ntmps118
  go_wp2
  go_ret
  exact ⟨rfl, I, G⟩

theorem val_lt (l : List UInt8) : (∀ c ∈ l, isDg c = true) → valFrom 0 l < 10 ^ l.length := by
  intro h
  induction hn : l.length generalizing l with
  | zero => rw [List.length_eq_zero_iff.1 hn, valFrom_nil]; simp
  | succ n ih =>
    have hne : l ≠ [] := by intro e; rw [e] at hn; simp at hn
    obtain ⟨p, c, rfl⟩ : ∃ p c, l = p ++ [c] := ⟨l.dropLast, l.getLast hne, (List.dropLast_concat_getLast hne).symm⟩
    have := ih p (fun x hx => h x (by simp [hx])) (by simp at hn; exact hn)
    have hc : 48 ≤ c.toNat ∧ c.toNat ≤ 57 := by simpa [isDg] using h c (by simp)
    rw [valFrom_snoc, Nat.pow_succ]
    omega
theorem dig_len (l : List UInt8) (h : ∀ c ∈ l, isDg c = true) (hl : l.length ≤ 120) : (wl (valFrom 0 l)).length ≤ 13 := by
  refine wl_len_le _ _ (Nat.lt_of_lt_of_le (val_lt l h) (Nat.le_trans (Nat.pow_le_pow_right (by omega) hl) (by decide)))

set_option maxHeartbeats 4000000 in
set_option maxRecDepth 100000 in
theorem setstr_none {w : World} (z : Value) (hz : ∃ a, z = .pointer a) : Calls Tryz.prog 202 #[z, .string ⟨#[]⟩, .int .i64 10] w fun e w' => e = .returned (.tuple #[.pointer none, .bool false]) ∧ w = w' := by
  obtain ⟨a, rfl⟩ := hz
  go_enter Tryz.func202, Tryz.ntmps202
  go_wp2_with fail
  go_ret2
  exact ⟨rfl, rfl⟩

set_option maxHeartbeats 8000000 in
set_option maxRecDepth 100000 in
theorem setstr_any {w : World} {b : Nat} {neg0 : Bool} {v0 : Value} (hb : w.heap[b]? = some (.cells #[.bool neg0, v0] 85 (0, 0))) (hv0 : ∃ A n c, v0 = .slice A n c) (s : ByteArray) (hd : ∀ c ∈ s.data.toList, isDg c = true) (hp : 0 < s.size) (hs : s.size ≤ 120) :
    Calls Tryz.prog 202 #[.pointer (some ⟨b, 0, none⟩), .string s, .int .i64 10] w fun e w' => e = .returned (.tuple #[.pointer (some ⟨b, 0, none⟩), .bool true]) ∧ IntV w' b false (valFrom 0 s.data.toList) ∧ Fr [b] w w' := by
  have hlen : s.data.toList.length = s.size := by simp
  have hat : ∀ k (hk : k < s.size), 48 ≤ s[k].toNat ∧ s[k].toNat ≤ 57 := fun k hk => by
    have : s[k] ∈ s.data.toList := by
      have : s[k] = s.data.toList[k]'(by omega) := rfl
      rw [this]; exact List.getElem_mem _
    simpa [isDg] using hd _ this
  have h0 := hat 0 hp
  have hpI : (0 : Int) < s.size := by omega
  have hz0 : ((s.size : Int) == 0) = false := beq_eq_false_iff_ne.2 (by omega)
  have n45 : ((s[0].toNat : Int) == 45) = false := beq_eq_false_iff_ne.2 (by omega)
  have n43 : ((s[0].toNat : Int) == 43) = false := beq_eq_false_iff_ne.2 (by omega)
  have HD := Lib.hid hd
  have HAT := Lib.hid hat
  clear hd hat
  go_enter Tryz.func202, Tryz.ntmps202
  go_wp2_with fail
  go_loopw [9, 10] (fun v i wr => ∃ k : Nat, k ≤ s.size ∧ i = .int .i64 k ∧ Wv wr v (wl (valFrom 0 (s.data.toList.take k))) ∧ Below w.heap.size w wr) (fun _ i _ => s.size - (intOf i).toNat)
  case atStart => exact ⟨0, by omega, rfl, by rw [List.take_zero, valFrom_nil, wl_zero]; exact Wv.nil w, Below.refl _ _⟩
  case round =>
    obtain ⟨k, hk, rfl, hv, hbw⟩ := hrel
    have hsz := hbw.size
    by_cases hlt : k < s.size
    · have hkI : (k : Int) < s.size := by omega
      obtain ⟨c1, c2⟩ := HAT.out k hlt
      have hval : valFrom 0 (s.data.toList.take (k + 1)) = valFrom 0 (s.data.toList.take k) * 10 + (s[k].toNat - 48) := by
        rw [List.take_succ_eq_append_getElem (by omega), valFrom_snoc]; rfl
      have hl1 := dig_len (s.data.toList.take k) (fun c hc => HD.out c (List.mem_of_mem_take hc)) (by simp; omega)
      have c10 : ∀ w1 : World, Calls Tryz.prog 119 #[.int .u64 10] w1 fun e w' => ∃ v, e = .returned v ∧ Wv w' v (wl 10) ∧ Below w1.heap.size w1 w' := fun w1 => words_any 10 w1 (by omega)
      have cd : ∀ w1 : World, Calls Tryz.prog 119 #[.int .u64 ((s[k].toNat : Int) - 48)] w1 fun e w' => ∃ v, e = .returned v ∧ Wv w' v (wl (s[k].toNat - 48)) ∧ Below w1.heap.size w1 w' := fun w1 => by
        have e : ((s[k].toNat : Int) - 48) = ((s[k].toNat - 48 : Nat) : Int) := by omega
        rw [e]; exact words_any _ w1 (by omega)
      have hx := val_lt (s.data.toList.take k) (fun c hc => HD.out c (List.mem_of_mem_take hc))
      have hl2 : (wl (valFrom 0 (s.data.toList.take k) * 10)).length ≤ 1000 := by
        have h1 : valFrom 0 (s.data.toList.take k) * 10 < 10 ^ ((s.data.toList.take k).length + 1) := by rw [Nat.pow_succ]; omega
        have h2 : 10 ^ ((s.data.toList.take k).length + 1) ≤ 10 ^ 120 := Nat.pow_le_pow_right (by omega) (by simp; omega)
        exact Nat.le_trans (wl_len_le _ 13 (Nat.lt_of_lt_of_le (Nat.lt_of_lt_of_le h1 h2) (by decide))) (by omega)
      clear hx
      have w10 : (wl 10).length ≤ 13 := wl_len_le _ _ (by decide)
      have wdl : (wl (s[k].toNat - 48)).length ≤ 13 := wl_len_le _ _ (Nat.lt_of_lt_of_le (show s[k].toNat - 48 < 10 by omega) (by decide))
      have i1 : (48 : Int) ≤ (s[k].toNat : Int) := by omega
      have i2 : (s[k].toNat : Int) ≤ 57 := by omega
      have i3 : ¬ (10 : Int) ≤ (s[k].toNat : Int) - 48 := by omega
      have HV := Lib.hid hval
      have HC10 := Lib.hid c10
      have HCD := Lib.hid cd
      clear hval c10 cd h0 hb
      generalize valFrom 0 (s.data.toList.take k) = x at *
      go_wp2_with (go_at_call 119; refine (HC10.out _).mono ?_; rintro e w1 ⟨v1, rfl, W1, b1⟩; have B1 := hbw.trans (b1.mono hsz); have s1 := B1.size; refine Hid.out ?_)
      refine Lib.hid ?_
      go_wp2_with (go_at_call 216; refine (mul_any (hv.of b1) W1 (wds_wl _) (wds_wl _) (by omega) (by omega)).mono ?_; rw [nv_wl, nv_wl]; rintro e w2 ⟨v2, rfl, W2, b2⟩; have B2 := B1.trans (b2.mono s1); have s2 := B2.size; refine Hid.out ?_)
      refine Lib.hid ?_
      go_wp2_with (go_at_call 119; refine (HCD.out _).mono ?_; rintro e w3 ⟨v3, rfl, W3, b3⟩; have B3 := B2.trans (b3.mono s2); have s3 := B3.size; refine Hid.out ?_)
      refine Lib.hid ?_
      go_wp2_with (go_at_call 215; refine (add_any (W2.of b3) W3 (wds_wl _) (wds_wl _) hl2 (by omega)).mono ?_; rw [nv_wl, nv_wl]; rintro e w4 ⟨v4, rfl, W4, b4⟩; have B4 := B3.trans (b4.mono s3); refine Hid.out ?_)
      refine Lib.hid ?_
      go_wp2_with fail
      exact ⟨⟨k + 1, by omega, by go_num, by rw [HV.out]; exact W4, B4⟩, by simp [intOf]; omega⟩
    · have hk' : k = s.size := by omega
      subst hk'
      have hkI : ¬ (s.size : Int) < s.size := by omega
      have hbk : wr.heap[b]? = some (.cells #[.bool neg0, v0] 85 (0, 0)) := by rw [hbw.block b (some_lt hb)]; exact hb
      rw [List.take_of_length_le (by omega)] at hv
      have cg := give_any hbk hv0 hv
      clear hv hbk hb HD HAT
      go_wp2_with (go_at_call 118; refine cg.mono ?_; rintro e w1 ⟨rfl, I1, f1⟩)
      go_ret2
      exact ⟨rfl, I1, (Fr.below hbw).trans f1⟩
end Go.Proofs.YtnapbfilkahobaaGreatDoor
