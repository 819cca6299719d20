/- SinkOrder's walk. -/
import Derived.Test.YtaicaeokljdjdaaXf
import Derived.Test.YtaicaeokljdjdaaPureSo
namespace Go.Proofs.Ytaicaeokljdjdaa
open Go.ChangeShapes Go.WideShapes Go.RowKit
set_option linter.unusedVariables false
/-- Two sinks side by side. -/
def SkL2 (W w : World) (B1 : Nat) (s1 : Sk Rg) (B2 : Nat) (s2 : Sk Rg) : Prop := Below W.heap.size W w ∧ ∃ F1 F2, SkAt w B1 F1 s1 ∧ SkAt w B2 F2 s2 ∧ (∀ k, F1 k → ¬ F2 k) ∧ (∀ k, F1 k → W.heap.size ≤ k) ∧ ∀ k, F2 k → W.heap.size ≤ k
section
variable {W w : World} {B1 B2 : Nat} {s1 s2 : Sk Rg}
theorem SkL2.swap (h : SkL2 W w B1 s1 B2 s2) : SkL2 W w B2 s2 B1 s1 := by
  obtain ⟨h1, F1, F2, a, b, c, d, e⟩ := h
  exact ⟨h1, F2, F1, b, a, fun k h2 h1 => c k h1 h2, e, d⟩
theorem two_of {F1 F2 : Nat → Prop} {w' : World} {s' : Sk Rg} (hb : Below W.heap.size W w) (h2 : SkAt w B2 F2 s2) (hd : ∀ k, F1 k → ¬ F2 k) (h1 : ∀ k, F1 k → W.heap.size ≤ k) (h3 : ∀ k, F2 k → W.heap.size ≤ k) (hE : SkEnd F1 w B1 s' w') : SkL2 W w' B1 s' B2 s2 := by
  obtain ⟨F', a, b, c⟩ := hE
  obtain ⟨vw, vs, vo, tv, h2⟩ := h2
  refine ⟨hb.trans (b.toBelow h1 hb.size), F', F2, a, ⟨vw, vs, vo, tv, h2.stays (fun k hk => b.block k (h2.flt k hk) (fun e => hd k e hk)) b.size⟩, fun k hk hk2 => ?_, fun k hk => ?_, h3⟩
  · rcases c k hk with h | h
    · exact hd k h hk2
    · have := h2.flt k hk2; omega
  · rcases c k hk with h | h
    · exact h1 k h
    · have := hb.size; omega
theorem new2 (h : SkL W w B1 s1) : Calls Try.prog 5 #[] w fun e w' => ∃ B, e = .returned (.pointer (some ⟨B, 0, none⟩)) ∧ SkL2 W w' B1 s1 B newS := by
  obtain ⟨h1, F, h2, h3⟩ := h
  refine (new_any w).mono ?_
  rintro e w' ⟨B, rfl, h⟩
  exact ⟨B, rfl, (two_of h1 h2 (fun k hk => hk.elim) (fun k hk => hk.elim) h3 h).swap⟩
theorem add2 (h : SkL2 W w B1 s1 B2 s2) (hl : s1.op.length < 400) (k : Nat) : Calls Try.prog 6 #[.pointer (some ⟨B1, 0, none⟩), .agg #[.string ⟨#[]⟩, .int .i64 (k : Nat), .int .i64 0]] w fun e w' => e = .returned .nilIface ∧ SkL2 W w' B1 (addS s1 (rN k)) B2 s2 := by
  obtain ⟨h1, F1, F2, a, b, c, d, f⟩ := h
  refine (add_any a hl (rN k) (by simp [rN, ByteArray.size])).mono ?_
  rintro e w' ⟨rfl, h⟩
  exact ⟨rfl, two_of h1 b c d f h⟩
theorem seal2 (h : SkL2 W w B1 s1 B2 s2) (hl : s1.sl.length ≤ 1000000) (id : Int) (i1 : 1 ≤ id) (i2 : s1.la < id) : Calls Try.prog 7 #[.pointer (some ⟨B1, 0, none⟩), .int .i64 id] w fun e w' => e = .returned .nilIface ∧ SkL2 W w' B1 (sealS s1 id) B2 s2 := by
  obtain ⟨h1, F1, F2, a, b, c, d, f⟩ := h
  refine (seal_ok a hl id i1 i2).mono ?_
  rintro e w' ⟨rfl, h⟩
  exact ⟨rfl, two_of h1 b c d f h⟩
theorem commit2 (h : SkL2 W w B1 s1 B2 s2) (hl : totS s1 ≤ 1000000) (id : Int) (i1 : 1 ≤ id) : Calls Try.prog 8 #[.pointer (some ⟨B1, 0, none⟩), .int .i64 id] w fun e w' => e = .returned (.tuple #[.int .i64 ((comm id s1.sl).1.length : Nat), .nilIface]) ∧ SkL2 W w' B1 (commS s1 id) B2 s2 := by
  obtain ⟨h1, F1, F2, a, b, c, d, f⟩ := h
  refine (commit_ok a hl id i1).mono ?_
  rintro e w' ⟨rfl, h⟩
  exact ⟨rfl, two_of h1 b c d f h⟩
theorem SkL2.below (h : SkL2 W w B1 s1 B2 s2) {w' : World} (hb : Below w.heap.size w w') : SkL2 W w' B1 s1 B2 s2 := by
  obtain ⟨h1, F1, F2, ⟨vw, vs, vo, tv, a⟩, ⟨vw', vs', vo', tv', b⟩, c, d, f⟩ := h
  exact ⟨h1.trans (hb.mono h1.size), F1, F2, ⟨_, _, _, _, a.keep hb⟩, ⟨_, _, _, _, b.keep hb⟩, c, d, f⟩
theorem written2 (h : SkL2 W w B1 s1 B2 s2) (hl : totS s1 ≤ 1000000) : Calls Try.prog 10 #[.pointer (some ⟨B1, 0, none⟩)] w fun e w' => ∃ A c, e = .returned (.slice A s1.wr.length c) ∧ CsAt w' A (rcells s1.wr) ∧ SkL2 W w' B1 s1 B2 s2 ∧ Below w.heap.size w w' := by
  have h' := h
  obtain ⟨h1, F1, F2, a, b, c, d, f⟩ := h
  refine (written_any a hl).mono ?_
  rintro e w' ⟨A, c, rfl, a1, a2, a3⟩
  exact ⟨A, c, rfl, a1.cells, h'.below a3, a3⟩
end
/-- Both, so far: the first has all written, the second all sealed. -/
def soA (c : List Nat) (m : Nat) : Sk Rg := ⟨seqR rN 0 c.sum, [], seqR rN c.sum m, c.length⟩
def soB (c : List Nat) (m : Nat) : Sk Rg := ⟨[], trsG rN 0 0 c, seqR rN c.sum m, c.length⟩
theorem soA_add (c : List Nat) (m : Nat) : addS (soA c m) (rN (c.sum + m)) = soA c (m + 1) := by
  unfold addS soA; simp only; rw [seqR_succ]
theorem soB_add (c : List Nat) (m : Nat) : addS (soB c m) (rN (c.sum + m)) = soB c (m + 1) := by
  unfold addS soB; simp only; rw [seqR_succ]
theorem soA_step (c : List Nat) (m : Nat) : commS (sealS (soA c m) ((c.length : Int) + 1)) ((c.length : Int) + 1) = soA (c ++ [m]) 0 := by
  have h := seqR_app rN 0 c.sum m
  rw [Nat.zero_add] at h
  simp [commS, sealS, soA, comm, h]
  simp [seqR]
theorem soB_step (c : List Nat) (m : Nat) : sealS (soB c m) ((c.length : Int) + 1) = soB (c ++ [m]) 0 := by
  simp [sealS, soB, trsG_append, trsG]
  simp [seqR]
theorem so_end (c : List Nat) (hc : c.length ≤ 20) : comm 1000 (soB c 0).sl = (seqR rN 0 c.sum, []) := by
  unfold soB
  simp only
  rw [comm_all 1000 _ (fun t ht => by have := trsG_ids rN c 0 0 t ht; omega), trsG_flat]
theorem so_tot (c : List Nat) (hc : c.length ≤ 20) (h5 : ∀ x ∈ c, x ≤ 50) : c.sum ≤ 1000 := by
  have := sum_bound c 50 h5; omega
set_option maxRecDepth 100000 in
set_option maxHeartbeats 4000000 in
theorem order_walk (W : World) (a0 : Option Addr) (c0 : Nat) (l : List Int) (hl : IsAt W a0 l) :
    Calls Try.prog 4 #[.slice a0 l.length c0] W fun e w' => e = .returned (.bool true) ∧ Below W.heap.size W w' := by
  have HL := Lib.hid hl
  clear hl
  have HN := new_l (Below.refl W.heap.size W)
  have HS := fun (u : World) (B : Nat) => seal_rng B 0 (by omega) u
  go_enter Try.func4, Try.ntmps4
  go_wp2_with (go_at_call 5; refine HN.mono ?_; rintro e u ⟨B1, rfl, h1⟩; refine Hid.out ?_)
  refine Lib.hid ?_
  have HN2 := new2 h1
  go_wp2_with first | (go_at_call 5; refine HN2.mono ?_; rintro e u2 ⟨B2, rfl, h2⟩) | (go_at_call 7; refine (HS _ _).mono ?_; rintro e u3 ⟨rfl, rfl⟩)
  have H2 := Lib.hid h2
  clear HN HN2 HS h1 h2
  go_loopw [6, 7] (fun t i wr => ∃ k : Nat, k ≤ l.length ∧ k ≤ 20 ∧ i = .int .i64 k ∧ t = .int .i64 ((cs l k).sum : Nat) ∧ Hid ((∀ x ∈ cs l k, x ≤ 50) ∧ SkL2 W wr B1 (soA (cs l k) 0) B2 (soB (cs l k) 0))) (fun _ i _ => 20 - (intOf i).toNat)
  case atStart => exact ⟨0, by omega, by omega, rfl, by simp [cs], Lib.hid ⟨by simp [cs], H2.out⟩⟩
  case round =>
    obtain ⟨k, hk, hk20, rfl, rfl, hX⟩ := hrel
    have hcl := cs_len l k hk
    have hsm := so_tot (cs l k) (by omega) hX.out.1
    by_cases hin : k < l.length ∧ k < 20
    · obtain ⟨hlt, h20⟩ := hin
      have q1 : (k : Int) < (l.length : Int) := by omega
      have q2 : (k : Int) < 20 := by omega
      obtain ⟨b, o, rfl, e0⟩ := HL.out.at hlt
      have HI := Lib.hid (fun (u : World) (h : Below W.heap.size W u) => (show u.cell? ⟨b, o + k, none⟩ = some (.int .i64 l[k]) from by rw [h.cell (p := ⟨b, o + k, none⟩) (cell_lt e0)]; exact e0))
      have e1 := HI.out wr hX.out.2.1
      have HCS := Lib.hid (cs_succ l k hlt)
      have HBW := Lib.hid hX.out.2.1
      clear e0
      by_cases hc0 : l[k] < 0
      · generalize l[k] = z at *
        clear HCS HI hX
        go_wp2_with fail
        go_ret
        exact ⟨rfl, HBW.out⟩
      by_cases hc5 : 50 < l[k]
      · generalize l[k] = z at *
        clear HCS HI hX
        go_wp2_with fail
        go_ret
        exact ⟨rfl, HBW.out⟩
      obtain ⟨m, hm⟩ : ∃ m : Nat, l[k] = m := ⟨l[k].toNat, by omega⟩
      generalize l[k] = z at *
      subst hm
      rw [Int.toNat_natCast] at HCS
      have hm5 : m ≤ 50 := by omega
      obtain ⟨S, hS⟩ : ∃ S, (cs l k).sum = S := ⟨_, rfl⟩
      rw [hS] at hsm
      rw [hS]
      have HSS := Lib.hid hS
      have HKL := Lib.hid (And.intro hcl hX.out.1)
      clear hS hcl
      go_wp2_with fail
      go_loopw [6, 8] (fun t q wr2 => ∃ j : Nat, j ≤ m ∧ q = .int .i64 j ∧ t = .int .i64 ((S + j : Nat) : Nat) ∧ Hid (SkL2 W wr2 B1 (soA (cs l k) j) B2 (soB (cs l k) j))) (fun _ q _ => m - (intOf q).toNat)
      case atStart => exact ⟨0, by omega, rfl, rfl, Lib.hid hX.out.2⟩
      case round =>
        obtain ⟨j, hj, rfl, rfl, hY⟩ := hrel
        rename World => wi
        have e2 := HI.out wi hY.out.1
        by_cases hjm : j < m
        · have r1 : (j : Int) < (m : Int) := by omega
          have HAd := add2 hY.out (by simp [soA, seqR_len]; omega) (S + j)
          have hst := soA_add (cs l k) j
          rw [HSS.out] at hst
          rw [hst] at HAd
          have HBd := fun (u : World) (h : SkL2 W u B1 (soA (cs l k) (j + 1)) B2 (soB (cs l k) j)) => add2 h.swap (by simp [soB, seqR_len]; omega) (S + j)
          have hsu := soB_add (cs l k) j
          rw [HSS.out] at hsu
          simp only [hsu] at HBd
          clear hst hsu
          rw [Int.natCast_add] at *
          go_wp2_with (go_at_call 6; refine HAd.mono ?_; rintro e ui ⟨rfl, hZ⟩; refine Hid.out ?_)
          refine Lib.hid ?_
          go_wp2_with (go_at_call 6; refine (HBd _ hZ).mono ?_; rintro e uj ⟨rfl, hZ2⟩; refine Hid.out ?_)
          refine Lib.hid ?_
          have HZ2 := Lib.hid hZ2.swap
          clear hZ hZ2 HAd HBd
          go_wp2_with fail
          exact ⟨⟨j + 1, by omega, by go_num, by go_num, HZ2⟩, by simp [intOf]; omega⟩
        · have hje : j = m := by omega
          subst hje
          have hK1 := HKL.out.1
          have S1 := seal2 hY.out (by simp [soA]) ((k : Int) + 1) (by omega) (by simp only [soA]; omega)
          have S2 := fun (u : World) (h : SkL2 W u B1 (sealS (soA (cs l k) j) ((k : Int) + 1)) B2 (soB (cs l k) j)) => seal2 h.swap (by simp only [soB, trsG_len]; omega) ((k : Int) + 1) (by omega) (by simp only [soB]; omega)
          have S3 := fun (u : World) (h : SkL2 W u B2 (sealS (soB (cs l k) j) ((k : Int) + 1)) B1 (sealS (soA (cs l k) j) ((k : Int) + 1))) => commit2 h.swap (by rw [tot_seal]; simp only [totS, soA, seqR_len, many]; have := HSS.out; omega) ((k : Int) + 1) (by omega)
          have hstA := soA_step (cs l k) j
          have hstB := soB_step (cs l k) j
          rw [hK1, ← HCS.out] at hstA hstB
          simp only [hstA] at S3
          simp only [hstB] at S2 S3
          have HSN := Lib.hid (show (cs l (k + 1)).sum = S + j from by rw [HCS.out, List.sum_append, HSS.out]; simp)
          have HZ5 := Lib.hid (show ∀ x ∈ cs l (k + 1), x ≤ 50 from fun x hx => by
            rw [HCS.out] at hx
            rcases List.mem_append.1 hx with h | h
            · exact HKL.out.2 x h
            · simp at h; omega)
          generalize ((comm ((k : Int) + 1) (sealS (soA (cs l k) j) ((k : Int) + 1)).sl).1.length : Int) = cm at S3
          clear hstA hstB hK1
          go_wp2_with (go_at_call 7; refine S1.mono ?_; rintro e ui ⟨rfl, g1⟩; refine Hid.out ?_)
          refine Lib.hid ?_
          go_wp2_with (go_at_call 7; refine (S2 _ g1).mono ?_; rintro e uj ⟨rfl, g2⟩; refine Hid.out ?_)
          refine Lib.hid ?_
          go_wp2_with (go_at_call 8; refine (S3 _ g2).mono ?_; rintro e uk ⟨rfl, g3⟩; refine Hid.out ?_)
          refine Lib.hid ?_
          have HZ := Lib.hid (show (∀ x ∈ cs l (k + 1), x ≤ 50) ∧ SkL2 W uk B1 (soA (cs l (k + 1)) 0) B2 (soB (cs l (k + 1)) 0) from ⟨HZ5.out, g3⟩)
          clear g1 g2 g3 S1 S2 S3
          go_wp2_with fail
          exact ⟨⟨k + 1, by omega, by omega, by go_num, by rw [HSN.out, Int.natCast_add], HZ⟩, by simp [intOf]; omega⟩
    · have hcase : (¬ (k : Int) < (l.length : Int)) ∨ ((k : Int) < (l.length : Int) ∧ ¬ (k : Int) < 20) := by omega
      obtain ⟨h50, hSk⟩ := hX.out
      obtain ⟨S, hS⟩ : ∃ S, (cs l k).sum = S := ⟨_, rfl⟩
      rw [hS] at hsm
      rw [hS]
      by_cases hl0 : l.length = 0
      · have q : ¬ (k : Int) < (l.length : Int) := by omega
        have HB := Lib.hid hSk.1
        clear hSk hX h50 hS hcase
        go_wp2_with fail
        go_ret
        exact ⟨rfl, HB.out⟩
      have hz : ¬ (l.length : Int) = 0 := by omega
      have hse := so_end (cs l k) (by omega)
      rw [hS] at hse
      have hLn : (seqR rN 0 S).length = S := seqR_len rN 0 S
      have hLat : ∀ i, i < S → ((seqR rN 0 S)[i]?).map Rg.num = some (i : Int) := fun i h => by rw [List.getElem?_eq_getElem (by omega), seqR_at rN 0 S i h, Nat.zero_add]; rfl
      have hA : soA (cs l k) 0 = ⟨seqR rN 0 S, [], [], (cs l k).length⟩ := by simp [soA, hS, seqR]
      have hB : commS (soB (cs l k) 0) 1000 = ⟨seqR rN 0 S, [], [], (cs l k).length⟩ := by unfold commS; rw [hse]; simp [soB, seqR]
      rw [hA] at hSk
      have C1 := commit2 hSk.swap (by simp only [totS, soB, trsG_many, List.length_nil, seqR_len]; omega) 1000 (by omega)
      rw [hse, hB] at C1
      simp only [hLn] at C1
      generalize ((cs l k).length : Int) = la at *
      generalize seqR rN 0 S = L at *
      have C2 := fun (u : World) (h : SkL2 W u B2 ⟨L, [], [], la⟩ B1 ⟨L, [], [], la⟩) => written2 h.swap (by simp [totS, many]; omega)
      have C3 := fun (u : World) (h : SkL2 W u B1 ⟨L, [], [], la⟩ B2 ⟨L, [], [], la⟩) => written2 h.swap (by simp [totS, many]; omega)
      have C4 := fun (u : World) (A1 A2 : Option Addr) (c1 c2 : Nat) (h1 : CsAt u A1 (rcells L)) (h2 : CsAt u A2 (rcells L)) => sameRecs_any u A1 A2 c1 c2 L h1 h2 (by omega)
      simp only [hLn] at C2 C3 C4
      have HLt := Lib.hid (And.intro hLn hLat)
      clear hSk hX h50 hS hse hLn hLat hA hB hcl HL H2 hin
      rcases hcase with q | ⟨q, q'⟩
      all_goals
        go_wp2_with (go_at_call 8; refine C1.mono ?_; rintro e v1 ⟨rfl, g1⟩; refine Hid.out ?_)
        refine Lib.hid ?_
        go_wp2_with (go_at_call 10; refine (C2 _ g1).mono ?_; rintro e v2 ⟨A1, c1, rfl, g2, g3, -⟩; refine Hid.out ?_)
        refine Lib.hid ?_
        go_wp2_with (go_at_call 10; refine (C3 _ g3).mono ?_; rintro e v3 ⟨A2, c2, rfl, g4, g5, b3⟩; refine Hid.out ?_)
        refine Lib.hid ?_
        have g6 := g2.keep b3
        have C5 := C4 v3 A1 A2 c1 c2 g6 g4
        have hW3 := g5.1
        clear C1 C2 C3 C4 g1 g2 g3 g5 b3
        go_wp2_with (go_at_call 11; refine C5.mono ?_; rintro e v4 ⟨rfl, b4⟩; refine Hid.out ?_)
        refine Lib.hid ?_
        have HG := Lib.hid (And.intro (g6.keep b4) (hW3.trans (b4.mono hW3.size)))
        clear C5 g4 g6 hW3 b4
        go_wp2_with fail
        go_loopw [20] (fun i wr2 => ∃ j : Nat, j ≤ S ∧ i = .int .i64 j ∧ Hid (CsAt wr2 A1 (rcells L) ∧ Below W.heap.size W wr2)) (fun i _ => S - (intOf i).toNat)
        case atStart => exact ⟨0, by omega, rfl, HG⟩
        case round =>
          obtain ⟨j, hj, rfl, hY⟩ := hrel
          rename World => wl
          by_cases hjn : j < S
          · have q3 : (j : Int) < (S : Int) := by omega
            obtain ⟨hLn, hLr⟩ := HLt.out
            obtain ⟨b', o', rfl, -, d1, -⟩ := rcs_at hY.out.1 j (by omega)
            have h9 := hLr j hjn
            rw [List.getElem?_eq_getElem (by omega), Option.map_some] at h9
            injection h9 with h9
            rw [h9] at d1
            clear hLn hLr h9
            go_wp2_with fail
            exact ⟨⟨j + 1, by omega, by go_num, hY⟩, by simp [intOf]; omega⟩
          · have q3 : ¬ (j : Int) < (S : Int) := by omega
            go_wp2_with fail
            go_ret
            exact ⟨rfl, hY.out.2⟩
end Go.Proofs.Ytaicaeokljdjdaa
