/- AuditSums. -/
import Derived.Test.YthcgjbpiiodlgaaBa
namespace Go.Proofs.Ythcgjbpiiodlgaa
open Go.RowKit Mp
set_option linter.unusedVariables false

def ka : ByteArray := ⟨#[97]⟩
theorem ka_size : ka.size ≤ 9223372036854775807 := by decide
theorem neo_of {w0 w : World} {v : Value} {fa : Option Addr} {z : List Int} (h : IntsAt w0 fa z) (hv : ∀ b, v.ownBlock = some b → w0.heap.size ≤ b) (hs : w0.heap.size ≤ w.heap.size) : NeO w v z fa := by
  rcases h with h | ⟨b, o, rfl, hc⟩
  · exact .inl h
  · by_cases hz : z = []
    · exact .inl hz
    · have := cell_lt (hc 0 (List.length_pos_iff.2 hz))
      exact .inr ⟨b, o, rfl, Nat.lt_of_lt_of_le this hs, fun e => by have h7 := hv b e; exact absurd this (Nat.not_lt.2 h7)⟩
theorem LxM.grow {w0 wr u : World} {v : Value} {M : List Ln} (h : LxM w0 wr v M) (hu : Below wr.heap.size wr u) {key : ByteArray} {z : List Int} {fa : Option Addr} {fc : Nat} (hz : IntsAt w0 fa z) (h1 : z.length ≤ fc) (h2 : fc ≤ 9223372036854775807) (h3 : key.size ≤ 9223372036854775807) (hn : M.length ≤ 100000) :
    ∃ A c w1, (Builtin.append_ #[22, 22] 22 #[v, .slice (some ⟨u.heap.size, 0, none⟩) 1 1]).run Try.prog (u.alloc (.cells #[.string key, .slice fa z.length fc] 29)) = .ok (.slice A (M.length + 1) c) w1 ∧ LxM w0 w1 (.slice A (M.length + 1) c) (M ++ [(key, z)]) ∧ M.length + 1 ≤ c := by
  have hb : Below w0.heap.size w0 u := below_after hu h.below
  obtain ⟨X, ⟨_, x2, _⟩, _⟩ := id h
  exact (h.keep hu).put (l := (key, z)) (ints_b hz hb) h1 h2 h3 hn (neo_of hz x2 hb.size)
/-- Two literals in a row, their places as the walk says them. -/
def litA (w : World) (B : Nat) (k : ByteArray) (z : List Int) : World := (w.alloc (.cells (z.map (Value.int .i64)).toArray 3)).alloc (.cells #[.string k, .slice (some ⟨B, 0, none⟩) z.length z.length] 29)
theorem lit_two (w : World) (k k' : ByteArray) (z z' : List Int) : litA (litA w w.heap.size k z) (w.heap.size + 1 + 1) k' z' = litW (litW w k z) k' z' := by
  have : (litW w k z).heap.size = w.heap.size + 1 + 1 := lit_size w k z
  show litA (litW w k z) _ _ _ = _
  rw [← this]; rfl
theorem sums_fact1 (w : World) : Calls Try.prog 8 #[.slice (some ⟨w.heap.size + 1, 0, none⟩) 1 1, .slice (some ⟨w.heap.size + 1 + 1 + 1, 0, none⟩) 1 1] (litA (litA w w.heap.size ka [1]) (w.heap.size + 1 + 1) ka [1]) fun e w' => e = .returned (.tuple #[.int .i64 0, .nilIface]) ∧ Below w.heap.size w w' := by
  rw [lit_two]
  have h1 := lns_b (lit_at w ka [1] ka_size (by decide)) (lit_below (litW w ka [1]) ka [1])
  have h2 := lit_at (litW w ka [1]) ka [1] ka_size (by decide)
  rw [lit_size] at h2
  have ok := ok_one ka [1] (by simp) (by simp)
  obtain ⟨e1, e2⟩ := ls_of ok ok (by decide)
  refine (less_any _ _ _ 1 1 1 1 _ _ h1 h2 rfl rfl (by omega) (by omega)).mono ?_
  rintro e w' ⟨rfl, hb⟩
  refine ⟨by rw [e1, e2]; rfl, below_after hb (below_after (lit_below _ _ _) (lit_below _ _ _))⟩
theorem less_fact2 (w : World) : Calls Try.prog 8 #[.slice (some ⟨w.heap.size + 1, 0, none⟩) 1 1, .slice none 0 0] (litW w ka [1, 2]) fun e w' => e = .returned (.tuple #[.int .i64 2, .nilIface]) ∧ Below w.heap.size w w' := by
  have h1 := lit_at w ka [1, 2] ka_size (by decide)
  have ok := ok_one ka [1, 2] (by simp) (by simp)
  obtain ⟨e1, e2⟩ := ls_of ok ok_nil (by decide)
  refine (less_any _ _ _ 1 0 1 0 _ [] h1 (.inl rfl) rfl rfl (by omega) (by omega)).mono ?_
  rintro e w' ⟨rfl, hb⟩
  refine ⟨by rw [e1, e2]; rfl, below_after hb (lit_below _ _ _)⟩
theorem RgL.set {L : List Ln} (h : RgL L) {i : Nat} {key : ByteArray} {z : List Int} (hz : ∀ x ∈ z, I64 x) : RgL (L.set i (key, z)) := fun l hl => by
  rcases List.mem_or_eq_of_mem_set hl with hl | rfl
  · exact h l hl
  · exact hz
theorem lns_int {w : World} {la : Option Addr} {L : List Ln} (h : LnsAt w la L) (k : Nat) (hk : k < L.length) : L[k].1.size ≤ 9223372036854775807 := by
  obtain ⟨_, _, _, _, _, _, _, _, _, _, h⟩ := ln_at h k hk
  exact h
set_option maxRecDepth 100000 in
set_option maxHeartbeats 4000000 in
theorem sums_walk (w : World) (la : Option Addr) (cap : Nat) (L : List Ln) (at_ many : Int) (h : LnsAt w la L) (hl : L.length < 9223372036854775808) (hr : RgL L) (wa : I64 at_) (wm : I64 many) :
    Calls Try.prog 5 #[.slice la L.length cap, .int .i64 at_, .int .i64 many] w fun e w' => e = .returned (.bool true) ∧ Below w.heap.size w w' := by
  have H := Lib.hid h
  have HR := Lib.hid hr
  clear h hr
  obtain ⟨n, hn⟩ : ∃ n, n = L.length := ⟨_, rfl⟩
  rw [← hn] at hl ⊢
  have HN := Lib.hid hn
  clear hn
  have HF1 := Lib.hid (sums_fact1 w)
  have HF2 := Lib.hid less_fact2
  go_enter Try.func5, Try.ntmps5
  go_wp2_with fail
  refine HF1.out.mono ?_
  rintro e w1 ⟨rfl, b1⟩
  have H2 := Lib.hid (HF2.out w1)
  have B1 := Lib.hid b1
  clear b1 HF1 HF2
  go_wp2_with fail
  refine H2.out.mono ?_
  rintro e w2 ⟨rfl, b2⟩
  have B2 := Lib.hid (below_after b2 B1.out)
  have H3 := Lib.hid (check_any w2 la cap n L (lns_b H.out B2.out) HN.out hl)
  clear b2 B1 H2
  go_wp2_with fail
  by_cases h0 : linesE L = 0
  · have ok := lines_ok h0
    have hn4 : n ≤ 400 := by rw [HN.out]; exact ok.len
    have h3 := H3.out
    rw [h0] at h3
    have HC := Lib.hid h3
    have HOK := Lib.hid ok
    clear H3 h3 h0 hl ok
    have e0 : errV 0 = .nilIface := rfl
    have HM1 : Hid (∀ u, Below w.heap.size w u → Calls Try.prog 10 #[.slice la n cap, .slice none 0 0] u fun e w' => ∃ A cc, e = .returned (.tuple #[.slice A n cc, .nilIface]) ∧ LnsAt w' A L ∧ Below u.heap.size u w') := fun u hu => by
      obtain ⟨q1, q2⟩ := mg_of HOK.out ok_nil (merge_nil L) HOK.out
      refine (merge_any u la none cap 0 n 0 L [] (lns_b H.out hu) (.inl rfl) HN.out rfl (by omega) (by omega)).mono ?_
      rintro e w' ⟨A, cc, rfl, q3, -, q4⟩
      rw [q2] at q3
      exact ⟨A, cc, by rw [q1, q2, ← HN.out]; rfl, q3, q4⟩
    have HM2 : Hid (∀ u, Below w.heap.size w u → Calls Try.prog 10 #[.slice none 0 0, .slice la n cap] u fun e w' => ∃ A cc, e = .returned (.tuple #[.slice A n cc, .nilIface]) ∧ LnsAt w' A L ∧ Below u.heap.size u w') := fun u hu => by
      obtain ⟨q1, q2⟩ := mg_of ok_nil HOK.out (nil_merge L) HOK.out
      refine (merge_any u none la 0 cap 0 n [] L (.inl rfl) (lns_b H.out hu) rfl HN.out (by omega) (by omega)).mono ?_
      rintro e w' ⟨A, cc, rfl, q3, -, q4⟩
      rw [q2] at q3
      exact ⟨A, cc, by rw [q1, q2, ← HN.out]; rfl, q3, q4⟩
    have HS : Hid (∀ u A cc, Below w.heap.size w u → LnsAt u A L → Calls Try.prog 11 #[.slice A n cc, .slice la n cap] u fun e w' => e = .returned (.bool true) ∧ ∃ q, w' = u.drewN q) := fun u A cc hu hA => by
      have := lines_same hA (lns_b H.out hu) cc cap (by have := HN.out; omega)
      rw [← HN.out] at this
      exact this
    refine HC.out.mono ?_
    rintro e w3 ⟨rfl, b3⟩
    have B3 := Lib.hid (below_after b3 B2.out)
    have H4 := Lib.hid (HM1.out w3 B3.out)
    clear b3 B2 HC
    go_wp2_with fail
    refine H4.out.mono ?_
    rintro e w4 ⟨A1, c1, rfl, l1, b4⟩
    have B4 := Lib.hid (below_after b4 B3.out)
    have L1 := Lib.hid l1
    have H5 := Lib.hid (HM2.out w4 B4.out)
    clear b4 B3 H4 l1
    go_wp2_with fail
    refine H5.out.mono ?_
    rintro e w5 ⟨A2, c2, rfl, l2, b5⟩
    have B5 := Lib.hid (below_after b5 B4.out)
    have L2 := Lib.hid (And.intro (lns_b L1.out b5) l2)
    have H6 := Lib.hid (HS.out w5 A1 c1 B5.out L2.out.1)
    clear b5 B4 H5 l2 L1 HM1 HM2
    go_wp2_with fail
    refine H6.out.mono ?_
    rintro e w6 ⟨rfl, q, rfl⟩
    have B6 := Lib.hid (below_drewN B5.out q)
    have H7 := Lib.hid (HS.out (w5.drewN q) A2 c2 B6.out (lns_b L2.out.2 (below_dr w5 q)))
    clear B5 H6 L2 HS
    generalize w5.drewN q = w6 at *
    go_wp2_with fail
    refine H7.out.mono ?_
    rintro e w7 ⟨rfl, q2, rfl⟩
    have B7 := Lib.hid (below_drewN B6.out q2)
    clear B6 H7
    generalize w6.drewN q2 = w7 at *
    by_cases g1 : at_ < 0
    · go_wp2_with fail
      go_ret
      exact ⟨rfl, B7.out⟩
    · by_cases g2 : at_ ≥ (n : Int)
      · have g1' : ¬ at_ < 0 := g1
        go_wp2_with fail
        go_ret
        exact ⟨rfl, B7.out⟩
      · by_cases g3 : many < 1
        · go_wp2_with fail
          go_ret
          exact ⟨rfl, B7.out⟩
        · obtain ⟨i, rfl⟩ : ∃ i : Nat, at_ = (i : Int) := ⟨at_.toNat, by omega⟩
          obtain ⟨m, rfl⟩ : ∃ m : Nat, many = (m : Int) := ⟨many.toNat, by omega⟩
          have hi : i < n := by omega
          have hi0 : i < L.length := by have := HN.out; omega
          have hii : (i : Int) < (n : Int) := by omega
          obtain ⟨b, o, fa, fc, rfl, c0, c1', hI, h5, h6, h7⟩ := ln_at (lns_b H.out B7.out) i hi0
          by_cases g4 : (m : Int) ≥ ((L[i].2.length : Nat) : Int)
          · generalize L[i].2.length = p at *
            generalize L[i].1 = key at *
            clear hI
            go_wp2_with fail
            go_ret
            exact ⟨rfl, B7.out⟩
          · have hp : m < L[i].2.length := by omega
            obtain ⟨s1, s2, s3, s4⟩ := set_less HOK.out hi0 (k := L[i].2.length - m) (by omega) (by omega)
            obtain ⟨S, hS⟩ : ∃ S, S = L.set i (L[i].1, L[i].2.take (L[i].2.length - m)) := ⟨_, rfl⟩
            rw [← hS] at s1 s2 s3 s4
            have HLen : Hid (S.length = n) := by show _ = _; rw [hS, List.length_set, HN.out]
            have HRS : Hid (RgL S) := by
              show RgL S
              rw [hS]
              exact HR.out.set (fun x hx => HR.out _ (List.getElem_mem hi0) x (List.mem_of_mem_take hx))
            have HSat : Hid (∀ j (hj : j < L.length), ∀ hj' : j < S.length, S[j] = if j = i then (L[j].1, L[j].2.take (L[j].2.length - m)) else L[j]) := fun j hj hj' => by
              subst hS
              rw [List.getElem_set]
              by_cases e : i = j
              · subst e; simp
              · rw [if_neg e, if_neg (fun h => e h.symm)]
            have HS1 := Lib.hid s1
            have HS2 := Lib.hid s2
            have HS3 := Lib.hid s3
            have HS4 := Lib.hid s4
            have HL7 : Hid (LnsAt w7 (some ⟨b, o, none⟩) L) := lns_b H.out B7.out
            have H00 : Hid (LxM w7 w7 (.slice none 0 0) (S.take 0)) := LxM.nil w7
            clear s1 s2 s3 s4 hS
            generalize hP : L[i].2.length = p at *
            have HP := Lib.hid hP
            clear hP hI
            generalize hkey : L[i].1 = key at *
            have HKey := Lib.hid hkey
            clear hkey
            go_wp2_with fail
            go_loopw [18, 19, 20] (fun vv vi _ wr => ∃ k : Nat, vi = .int .i64 (k : Int) ∧ k ≤ n ∧ Hid (LxM w7 wr vv (S.take k))) (fun _ vi _ _ => n - (intOf vi).toNat)
            case atStart => exact ⟨0, rfl, by omega, H00⟩
            case round =>
              obtain ⟨k, rfl, hk, hL⟩ := hrel
              by_cases hlt : k < n
              · have hx : (k : Int) < (n : Int) := by omega
                have k1 : k < L.length := by have := HN.out; omega
                have k2 : k < S.length := by have := HLen.out; omega
                have hBr := hL.out.below
                obtain ⟨b', o', fb, fd, e, d0, d1, hI2, j5, j6, j7⟩ := ln_at HL7.out k k1
                injection e with e
                injection e with e1 e2 _
                subst e1; subst e2
                replace d0 := Keeps.of hBr _ _ d0
                replace d1 := Keeps.of hBr _ _ d1
                obtain ⟨A0, c5, rfl, hc1, hc2⟩ := hL.out.slice
                have hMl : (S.take k).length = k := by simp; omega
                have hLo := hL.out
                rw [hMl] at hLo
                have hst := HSat.out k k1 k2
                have htk : S.take (k + 1) = S.take k ++ [S[k]] := List.take_succ_eq_append_getElem k2
                rw [hst] at htk
                rw [hMl]
                by_cases hki : k = i
                · subst hki
                  rw [if_pos rfl] at htk
                  rw [HP.out] at htk d1 j5
                  have hz : (L[k].2.take (p - m)).length = p - m := by rw [List.length_take, HP.out]; omega
                  have hput : ∀ u, Below wr.heap.size wr u → ∃ A c w1, (Builtin.append_ #[22, 22] 22 #[.slice A0 k c5, .slice (some ⟨u.heap.size, 0, none⟩) 1 1]).run Try.prog (u.alloc (.cells #[.string key, .slice fb (p - m : Nat) fd] 29)) = .ok (.slice A (k + 1) c) w1 ∧ LxM w7 w1 (.slice A (k + 1) c) (S.take (k + 1)) := fun u hu => by
                    obtain ⟨A, c, w1, r1, r2, -⟩ := hLo.grow hu (key := L[k].1) (z := L[k].2.take (p - m)) (hI2.take _) (by omega) j6 j7 (by omega)
                    rw [hz, hMl, HKey.out] at r1
                    rw [hMl, ← htk] at r2
                    exact ⟨A, c, w1, r1, r2⟩
                  rw [HKey.out] at d0
                  obtain ⟨b2, o2, rfl, -⟩ := ints_at hI2 0 (by rw [HP.out]; omega)
                  obtain ⟨A9, c9, w9, hrun, hL9⟩ := hput (wr.alloc (.cells #[.string key, .slice (some ⟨b2, o2, none⟩) (p - m) fd] 29)) ((Below.refl _ _).alloc (Nat.le_refl _) _)
                  rw [World.size_alloc] at hrun
                  have HRUN := Lib.hid hrun
                  have HL9 := Lib.hid hL9
                  have hsub : IntKind.i64.wrap ((p : Int) - (m : Int)) = ((p - m : Nat) : Int) := by simp [IntKind.wrap, IntKind.bits, IntKind.signed]; omega
                  have hsl : ((p - m : Nat) : Int) ≤ (fd : Int) := by omega
                  clear hput hrun hL9 hz htk hLo hL hI2 hst hMl hc1 hc2 HSat H00 HS1 HS2 HS3 HS4 HL7 c0 c1'
                  go_wp2_with (at_builtin; refine Lib.wpList_append_run _ rfl _ _ _ _ rfl _ _ rfl rfl _ _ HRUN.out ?_)
                  exact ⟨⟨k + 1, by go_num, by omega, HL9⟩, by simp [intOf]; omega⟩
                · rw [if_neg hki] at htk
                  have hput : ∀ u, Below wr.heap.size wr u → ∃ A c w1, (Builtin.append_ #[22, 22] 22 #[.slice A0 k c5, .slice (some ⟨u.heap.size, 0, none⟩) 1 1]).run Try.prog (u.alloc (.cells #[.string L[k].1, .slice fb L[k].2.length fd] 29)) = .ok (.slice A (k + 1) c) w1 ∧ LxM w7 w1 (.slice A (k + 1) c) (S.take (k + 1)) := fun u hu => by
                    obtain ⟨A, c, w1, r1, r2, -⟩ := hLo.grow hu (key := L[k].1) (z := L[k].2) hI2 j5 j6 j7 (by omega)
                    rw [hMl] at r1
                    rw [hMl, ← htk] at r2
                    exact ⟨A, c, w1, r1, r2⟩
                  obtain ⟨A9, c9, w9, hrun, hL9⟩ := hput (wr.alloc (.cells #[.string L[k].1, .slice fb L[k].2.length fd] 29)) ((Below.refl _ _).alloc (Nat.le_refl _) _)
                  rw [World.size_alloc] at hrun
                  have HRUN := Lib.hid hrun
                  have HL9 := Lib.hid hL9
                  have t1 : ((k : Int) == (i : Int)) = false := by simp; omega
                  clear hput hrun hL9 htk hLo hL hI2 hst hMl hc1 hc2 HSat H00 HS1 HS2 HS3 HS4 HL7 c0 c1' HP HKey
                  generalize L[k].2.length = p2 at *
                  generalize L[k].1 = key2 at *
                  go_wp2_with (at_builtin; refine Lib.wpList_append_run _ rfl _ _ _ _ rfl _ _ rfl rfl _ _ HRUN.out ?_)
                  exact ⟨⟨k + 1, by go_num, by omega, HL9⟩, by simp [intOf]; omega⟩
              · have hx : ¬ (k : Int) < (n : Int) := by omega
                have ht : S.take k = S := List.take_of_length_le (by have := HLen.out; omega)
                rw [ht] at hL
                obtain ⟨A0, c5, hu18, hc1, hc2⟩ := hL.out.slice
                rw [HLen.out] at hu18 hc1
                subst hu18
                have hSl := hL.out.lines HLen.out.symm
                have HBe := Lib.hid (below_after hL.out.below B7.out)
                have HSl := Lib.hid hSl
                have hmany : manyP S + m = manyP L := by have := HS3.out; omega
                obtain ⟨e1, e2⟩ := ls_of HOK.out HS1.out HS2.out
                have e2' : lsN L S = (m : Int) := by rw [e2]; omega
                have HLS := Lib.hid (less_any wr _ A0 cap c5 n n L S (lns_b H.out HBe.out) hSl HN.out HLen.out.symm (by omega) (by omega))
                rw [e1, e2'] at HLS
                have HJD : Hid (∀ u, Below wr.heap.size wr u → Calls Try.prog 6 #[.slice (some ⟨b, o, none⟩) n cap, .slice A0 n c5] u fun e w' => e = .returned (.tuple #[.int .i64 1, .string key, .int .i64 (p - m : Nat), .nilIface]) ∧ Below u.heap.size u w') := fun u hu => by
                  have hj := judge_any u _ A0 cap c5 n n L S (lns_b (lns_b H.out HBe.out) hu) (lns_b HSl.out hu) HN.out HLen.out.symm (by omega) (by omega) HR.out HRS.out
                  rw [jd_of HOK.out HS1.out, HS4.out, both_good HOK.out HS1.out] at hj
                  exact hj
                have hsi := HSat.out i hi0 (by have := HLen.out; omega)
                rw [if_pos rfl, HKey.out, HP.out] at hsi
                have HSI : Hid (∀ u, Below wr.heap.size wr u → ∃ b2 o2 fb fd, A0 = some ⟨b2, o2, none⟩ ∧ u.cell? ⟨b2, o2 + i * 2 + 1, none⟩ = some (.slice fb (p - m) fd) ∧ u.cell? ⟨b, o + i * 2, none⟩ = some (.string key)) := fun u hu => by
                  obtain ⟨b2, o2, fb, fd, q1, q2, q3, -⟩ := ln_at (lns_b HSl.out hu) i (by have := HLen.out; omega)
                  rw [hsi] at q3
                  have hz : (L[i].2.take (p - m)).length = p - m := by rw [List.length_take, HP.out]; omega
                  refine ⟨b2, o2, fb, fd, q1, by rw [q3]; simp only [hz], ?_⟩
                  exact Keeps.of hu _ _ (Keeps.of hL.out.below _ _ c0)
                clear hSl hL hmany e1 e2 e2' hsi ht H00 HS1 HS2 HS3 HS4 HL7 c0 c1' HP HKey HSat HOK
                go_wp2_with fail
                refine HLS.out.mono ?_
                rintro e w8 ⟨rfl, b8⟩
                have HJ := Lib.hid (HJD.out w8 b8)
                have B8 := Lib.hid b8
                clear b8 HLS HJD
                go_wp2_with fail
                refine HJ.out.mono ?_
                rintro e w9 ⟨rfl, b9⟩
                have B9 := Lib.hid (below_after b9 B8.out)
                obtain ⟨b2, o2, fb, fd, rfl, q3, q4⟩ := HSI.out w9 B9.out
                have B10 := Lib.hid (below_after B9.out HBe.out)
                clear b9 B8 B9 HJ HSI
                go_wp2_with fail
                go_ret
                exact ⟨rfl, B10.out⟩
  · obtain ⟨tv, hv⟩ := errV_ne h0
    have h3 := H3.out
    rw [hv] at h3
    have HC := Lib.hid h3
    clear H3 h3 h0 hl hv
    refine HC.out.mono ?_
    rintro e w3 ⟨rfl, b3⟩
    have B3 := Lib.hid (below_after b3 B2.out)
    clear b3
    go_wp2_with fail
    go_ret
    exact ⟨rfl, B3.out⟩
end Go.Proofs.Ythcgjbpiiodlgaa
