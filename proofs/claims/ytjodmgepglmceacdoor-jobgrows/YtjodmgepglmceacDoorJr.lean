/- JobGrows: a Sink more. -/
import Derived.Test.YtjodmgepglmceacDoorJq
namespace Go.Proofs.YtjodmgepglmceacDoor
open Go.RowKit
namespace jobGrows

theorem Tryd.infoNode : (Tryd.prog.info? 28).map (fun i => (i.zero, i.size, i.bytes)) = some (some (.agg #[.int .i64 0, .slice none 0 0, .string ⟨#[]⟩, .int .i64 0]), 4, 56) := by kernel_rfl
theorem add_p (b o i : Nat) : (⟨b, o, none⟩ : Addr).add i = ⟨b, o + i, none⟩ := by
  unfold Addr.add; split <;> simp_all
abbrev sinkC (H : Nat) : Array Value := #[.int .i64 10, .slice (some ⟨H, 0, none⟩) 1 1, .string ⟨#[]⟩, .int .i64 0]
theorem four_new (w : World) (a : Value) (H : Nat) : ∀ j u, (sinkC H).toList[j]? = some u → ((w.alloc (.cells #[a] 3)).alloc (.cells (sinkC H) 28)).cell? ((⟨w.heap.size + 1, 0, none⟩ : Addr).add j) = some u := by
  intro j u hj
  have e : (w.alloc (.cells #[a] 3)).heap.size = w.heap.size + 1 := by simp
  rw [add_p, Nat.zero_add, ← e, World.cell?_alloc_new]
  simpa using hj

/-- Behind both appends: the nodes of the job with a Sink more. -/
theorem grown_nodes {w4 w5 : World} {B i g1 g2 cap2 : Nat} {X : List Nx} {L : List Nd} (hXL : X.map Prod.fst = L) (hX : ∀ x ∈ X, NxOk w5 x)
    (hown : w5.ownsRow B 28 4 (.slice (some ⟨g2, 0, none⟩) (L.length + 1) cap2) (L.length + 1) (ncells X ++ (sinkC w4.heap.size).toList))
    (hgr : ((w4.alloc (.cells #[.int .i64 (i : Int)] 3)).alloc (.cells (sinkC w4.heap.size) 28)).grownBy w5 (some g1)) (hg1 : g1 < w4.heap.size) :
    NdsAt w5 (some ⟨g2, 0, none⟩) (L ++ [sink i]) ∧ L.length + 1 ≤ cap2 := by
  constructor
  · have e1 : L ++ [sink i] = (X ++ [((sink (i : Int), some ⟨w4.heap.size, 0, none⟩, 1) : Nx)]).map Prod.fst := by simp [hXL]
    rw [e1]
    have hlen : X.length = L.length := by rw [← hXL]; simp
    refine nodes_of_cells (fun j u hu => ?_) (fun x hx => ?_)
    · rw [ncells_snoc] at hu
      have hlt := (List.getElem?_eq_some_iff.1 hu).1
      rw [List.length_append, ncells_len] at hlt
      simp at hlt
      rw [hown.cellAt j (by omega)]
      exact hu
    · rcases List.mem_append.1 hx with hx | hx
      · exact hX x hx
      · simp at hx
        subst hx
        refine ⟨.inr ⟨_, 0, rfl, fun j hj => ?_⟩, by simp [sink], by simp [sink]⟩
        have : j = 0 := by simp [sink] at hj; omega
        subst this
        refine hgr.cell (a := ⟨w4.heap.size, 0 + 0, none⟩) ?_ (by simp; omega)
        rw [World.cell?_alloc_lt _ _ _ (by simp), World.cell?_alloc_new]; rfl
  · rcases hown.2 with ⟨h0, _⟩ | ⟨g, cap', cur, h0, hb, hg, hle, _⟩
    · simp at h0
    · simp at h0; omega

theorem check_m {w : World} (hg : Gl w) {la : Option Addr} {M : List Nd} {c m : Nat} (hL : NdsAt w la M) (hm : M.length = m) (hc : m ≤ c) (h0 : jobP M = 0) :
    Calls Tryd.prog 4 #[.slice la m c] w fun e w' => e = .returned .nilIface ∧ Below w.heap.size w w' := by
  subst hm
  have := job_any hg hL hc
  rw [h0, errV_zero] at this
  exact this
theorem sinks_m {w : World} (hg : Gl w) {la : Option Addr} {M : List Nd} {c m : Nat} {zs : List Int} {n : Int} (hL : NdsAt w la M) (hm : M.length = m) (hc : m ≤ c) (h0 : jobP M = 0) (hz : ofP M 10 = zs ++ [n]) :
    Calls Tryd.prog 5 #[.slice la m c] w fun e w' => ∃ gb ob cap, e = .returned (.tuple #[.slice (some ⟨gb, ob, none⟩) (zs.length + 1) cap, .nilIface]) ∧ w'.cell? ⟨gb, ob + zs.length, none⟩ = some (.int .i64 n) ∧ Below w.heap.size w w' := by
  subst hm
  refine (sinks_ok hg hL hc h0).mono ?_
  rintro e w' ⟨A, cap, rfl, hI, hb⟩
  rw [hz] at hI ⊢
  rcases hI with hI | ⟨gb, ob, rfl, hI⟩
  · simp at hI
  · refine ⟨gb, ob, cap, by simp, ?_, hb⟩
    have := hI zs.length (by simp)
    simpa using this
theorem uses_m {w : World} (hg : Gl w) {la : Option Addr} {M : List Nd} {c m : Nat} (hL : NdsAt w la M) (hm : M.length = m) (hc : m ≤ c) (h0 : jobP M = 0) :
    Calls Tryd.prog 6 #[.slice la m c] w fun e w' => ∃ U V, e = .returned (.tuple #[.slice (some ⟨U, 0, none⟩) m m, .nilIface]) ∧ UsI w' w.heap.size U m V (fun i => usP M i) ∧ Below w.heap.size w w' := by
  subst hm
  exact use_ok hg hL hc h0

set_option maxRecDepth 100000 in
set_option maxHeartbeats 8000000 in
theorem walk_main {la : Option Addr} {L : List Nd} {c : Nat} (i : Nat) (w : World) (hg : Gl w) (hL : NdsAt w la L) (hc : L.length ≤ c) (h0 : jobP L = 0) (h1 : L.length ≤ 11) (h2 : i < L.length) (h3 : L[i].k ≠ 10) :
    Calls Tryd.prog 3 #[.slice la L.length c, .int .i64 i] w fun e w' => e = .returned (.bool true) ∧ Below w.heap.size w w' := by
  obtain ⟨i0, hi, hz0, hz1, hz2⟩ := info_parts Tryd.infoNode
  have hM := job_grows h0 h1 h2 h3
  have cL : ∀ w1, Below w.heap.size w w1 → Calls Tryd.prog 4 #[.slice la L.length c] w1 fun e w' => e = .returned .nilIface ∧ Below w1.heap.size w1 w' := by
    intro w1 hb
    have := job_any (hg.below hb) (hL.keep (Keeps.of hb)) hc
    rw [h0, errV_zero] at this
    exact this
  have HC := Lib.hid cL
  have hlM : (L ++ [sink i]).length = L.length + 1 := by simp
  have hof : ofP (L ++ [sink i]) 10 = ofP L 10 ++ [(L.length : Int)] := by rw [of_grow]; simp [sink]
  have hus : ∀ k : Nat, usP (L ++ [sink i]) k = usP L k ++ (if k = i then [(L.length : Int)] else []) := by
    intro k; rw [us_grow]; congr 1
    by_cases hk : k = i
    · simp [sink, hk]
    · have : ¬ (k : Int) = (i : Int) := by omega
      simp [sink, hk, this]
  have HM := Lib.hid hM
  have HLM := Lib.hid hlM
  have HOF := Lib.hid hof
  have HUS := Lib.hid hus
  have HL := Lib.hid hL
  clear cL hM hlM hof hus
  have hn1 : ¬ (11 : Int) < L.length := by omega
  have hn2 : ¬ (i : Int) < 0 := by omega
  have hn3 : ¬ (L.length : Int) ≤ i := by omega
  rcases hL with hL | ⟨b, o, rfl, hL⟩
  · subst hL; simp at h2
  obtain ⟨c0, -⟩ := hL i h2
  have hk10 : (L[i].k == 10) = false := by simpa using h3
  obtain ⟨X, hX1, hX2, hX3⟩ := nodes_cells L o hL
  have hXl : (ncells X).length = L.length * 4 := by rw [ncells_len, ← hX1]; simp
  have HX1 := Lib.hid hX1
  have HX2 := Lib.hid hX2
  have HX3 := Lib.hid hX3
  clear hX1 hX2 hX3 hL h3
  generalize L[i].k = ki at *
  go_enter Tryd.func3, Tryd.ntmps3
  go_wp2_with (go_at_call 4; refine (fact_call hg).mono ?_; rintro e w1 ⟨rfl, b1⟩; have g1 := hg.below b1; refine Hid.out ?_)
  refine Lib.hid ?_
  go_wp2_with (go_at_call 4; refine (none_call g1).mono ?_; rintro e w2 ⟨rfl, b2⟩; have B2 := below_two b1 b2; refine Hid.out ?_)
  refine Lib.hid ?_
  go_wp2_with (go_at_call 4; refine (HC.out _ B2).mono ?_; rintro e w3 ⟨rfl, b3⟩; have B3 := below_two B2 b3; have c3 := Keeps.of B3 _ _ c0; refine Hid.out ?_)
  refine Lib.hid ?_
  have n3 : ∀ j u, (ncells X)[j]? = some u → w3.cell? ((⟨b, o, none⟩ : Addr).add j) = some u := fun j u hu => by rw [add_p]; exact Keeps.of B3 _ _ (HX2.out j u hu)
  have N3 := Lib.hid n3
  have s3 := B3.size
  clear n3 b1 b2 b3 g1 B2
  go_wp2_with (at_builtin; refine wpList_append_lies _ rfl _ _ 22 rfl w.heap.size 28 i0 (.agg #[.int .i64 0, .slice none 0 0, .string ⟨#[]⟩, .int .i64 0]) 4 56 Tryd.underlying22 hi hz0 hz1 hz2 rfl (by decide) _ _ _ rfl (World.ownsRow_nil _ _ _ _) ⟨b, o, none⟩ L.length c (ncells X) rfl hXl N3.out (ncells_one X) (by omega) (by unfold maxLen; omega) (by omega) s3 w3.heap.size rfl ?_; refine Hid.out ?_)
  refine Lib.hid ?_
  intro g1 cap1 w4 hown1 hgr1 _ hlt1
  have B4 : Below w.heap.size w w4 := B3.grown hgr1 s3 (fun k hk => by simp [Value.ownBlock] at hk)
  have s4 := B4.size
  clear hgr1 N3 c3 s3 B3
  go_wp2_with (at_builtin; refine wpList_append_lies _ rfl _ _ 22 rfl w.heap.size 28 i0 (.agg #[.int .i64 0, .slice none 0 0, .string ⟨#[]⟩, .int .i64 0]) 4 56 Tryd.underlying22 hi hz0 hz1 hz2 rfl (by decide) _ _ _ rfl ((hown1.alloc _).alloc _) ⟨w4.heap.size + 1, 0, none⟩ 1 1 (sinkC w4.heap.size).toList rfl rfl (four_new _ _ _) (by intro u hu; simp at hu; rcases hu with rfl | rfl | rfl | rfl <;> rfl) (by decide) (by unfold maxLen; omega) (by omega) (by simp; omega) (w4.heap.size + 2) (by simp) ?_; refine Hid.out ?_)
  refine Lib.hid ?_
  intro g2 cap2 w5 hown2 hgr2 _ hlt2
  have B5 : Below w.heap.size w w5 := ((B4.alloc s4 _).alloc (by simp; omega) _).grown hgr2 (by simp; omega) (fun k hk => (hown1.lt k hk).1)
  obtain ⟨hnM, hcM⟩ := grown_nodes (i := i) (g1 := g1) HX1.out (fun x hx => (HX3.out x hx).keep (Keeps.of B5)) hown2 hgr2 hlt1
  have HN := Lib.hid hnM
  clear hown1 hown2 hgr2 hnM s4 B4 HX1 HX2 HX3 hXl
  go_wp2_with (go_at_call 4; refine (check_m (hg.below B5) HN.out HLM.out hcM HM.out).mono ?_; rintro e w6 ⟨rfl, b6⟩; have B6 := below_two B5 b6; have K6 := Keeps.of b6; refine Hid.out ?_)
  refine Lib.hid ?_
  obtain ⟨zs, hzs⟩ : ∃ zs, zs = ofP L 10 := ⟨_, rfl⟩
  have hzl : zs.length ≤ 11 := by
    rw [hzs]; have := ofTo_len L 10 L.length; rw [ofTo_all] at this; omega
  have HZ := Lib.hid hzs
  clear hzs
  go_wp2_with (go_at_call 5; refine (sinks_ok (hg.below B6) (HL.out.keep (Keeps.of B6)) hc h0).mono ?_; rw [← HZ.out]; rintro e w7 ⟨A1, cc1, rfl, -, b7⟩; have B7 := below_two B6 b7; have K7 := K6.trans (Keeps.of b7); refine Hid.out ?_)
  refine Lib.hid ?_
  go_wp2_with (go_at_call 5; refine (sinks_m (zs := zs) (n := (L.length : Int)) (hg.below B7) (HN.out.keep K7) HLM.out hcM HM.out (by rw [HZ.out]; exact HOF.out)).mono ?_; rintro e w8 ⟨gb, ob, cc2, rfl, c8, b8⟩; have B8 := below_two B7 b8; have K8 := K7.trans (Keeps.of b8); refine Hid.out ?_)
  refine Lib.hid ?_
  have h00 := h0
  clear b6 b7 b8 K6 K7
  go_wp2_with (go_at_call 6; refine (uses_m (hg.below B8) (HL.out.keep (Keeps.of B8)) rfl hc h00).mono ?_; rintro e w9 ⟨U1, V1, rfl, hU1, b9⟩; have B9 := below_two B8 b9; have K9 := K8.trans (Keeps.of b9); refine Hid.out ?_)
  refine Lib.hid ?_
  go_wp2_with (go_at_call 6; refine (uses_m (hg.below B9) (HN.out.keep K9) HLM.out hcM HM.out).mono ?_; rintro e wt ⟨U2, V2, rfl, hU2, bt⟩; have BT := below_two B9 bt; have hU1t := hU1.keep bt; refine Hid.out ?_)
  refine Lib.hid ?_
  clear hi hz0 hz1 hz2 c8 hlt1 hlt2 b9 bt K8 K9
  have HU1 := Lib.hid hU1t
  have HU2 := Lib.hid hU2
  clear hU1 hU1t hU2
  go_wp2_with fail
  go_loopw [15] (fun k wr => ∃ (j n : Nat), j ≤ L.length ∧ k = .int .i64 j ∧ wr = wt.drewN n) (fun k _ => L.length - (intOf k).toNat)
  case atStart => exact ⟨0, 0, by omega, rfl, rfl⟩
  case round =>
    obtain ⟨j, n, hj, rfl, rfl⟩ := hrel
    by_cases hlt : j < L.length
    · have hjI : (j : Int) < L.length := by omega
      obtain ⟨A2, d2, hV2, hI2, hle2, hnil⟩ := HU2.out.ints (i := j) (by omega)
      obtain ⟨A3, d3, hV1, hI1, -⟩ := HU1.out.ints (i := j) hlt
      have cU2 := HU2.out.cell j (by omega)
      have cU1 := HU1.out.cell j hlt
      rw [hV2] at cU2
      rw [hV1] at cU1
      rw [HUS.out j] at cU2 hI2 hle2
      have hzl2 : (usP L j).length ≤ 11 := by have := usTo_len L j L.length; rw [usTo_all] at this; omega
      generalize usP L j = z at *
      clear hV2 hV1
      have cI : ∀ m, Calls Tryd.prog 7 #[.slice A3 z.length d3, .slice A2 z.length d2] (wt.drewN (n + m)) fun e w' => e = .returned (.bool true) ∧ ∃ k, w' = wt.drewN (n + k) := fun m =>
        (ints_same (w := wt.drewN (n + m)) hI1 hI2.pre d3 d2 (by omega)).mono fun e w' ⟨he, k, hk⟩ => ⟨he, m + k, by rw [hk, World.drewN_drewN, Nat.add_assoc]⟩
      by_cases hji : j = i
      · subst hji
        rw [if_pos rfl] at cU2 hI2 hle2
        simp only [List.length_append, List.length_cons, List.length_nil, Nat.zero_add] at cU2 hle2
        have hjj : ((j : Int) == (j : Int)) = true := by simp
        rcases hI2 with hI2 | ⟨g3, o3, rfl, hI2⟩
        · simp at hI2
        have cz := hI2 z.length (by simp)
        simp only [List.getElem_append_right (Nat.le_refl _), Nat.sub_self, List.getElem_cons_zero] at cz
        have hz1 : ¬ ((z.length : Int) + 1 = 0) := by omega
        have q1 : (z.length : Int) ≤ (d2 : Int) := by omega
        have q2 : ¬ (d2 : Int) < (z.length : Int) := by omega
        have q3 : (0 : Int) ≤ (z.length : Int) := by omega
        have q4 : ¬ (z.length : Int) < 0 := by omega
        have q5 : ((z.length : Int)).toNat = z.length := by omega
        clear hI2 hI1
        go_wp2_with fail
        go_quiet ((go_at_call 7; exact cI _))
        go_wp2_with fail
        exact ⟨⟨j + 1, n + nq, by omega, by go_num, rfl⟩, by simp [intOf]; omega⟩
      · rw [if_neg hji] at cU2 hI2 hle2
        simp only [List.append_nil] at cU2 hI2 hle2
        have hjj : ((j : Int) == (i : Int)) = false := by simp; omega
        have q1 : (z.length : Int) ≤ (d2 : Int) := by omega
        have q2 : ¬ (d2 : Int) < (z.length : Int) := by omega
        have q3 : (0 : Int) ≤ (z.length : Int) := by omega
        have q4 : ¬ (z.length : Int) < 0 := by omega
        have q5 : ((z.length : Int)).toNat = z.length := by omega
        clear hI1 hI2
        cases A2 with
        | none =>
          have hd := hnil rfl
          subst hd
          obtain rfl : z = [] := List.length_eq_zero_iff.1 (by omega)
          simp only [List.length_nil] at cU2 cU1 cI
          clear q1 q2 q3 q4 q5 hnil hle2 hzl2
          go_wp2_with fail
          go_quiet ((go_at_call 7; exact cI _))
          go_wp2_with fail
          exact ⟨⟨j + 1, n + nq, by omega, by go_num, rfl⟩, by simp [intOf]; omega⟩
        | some ad =>
          clear hnil
          go_wp2_with fail
          go_quiet ((go_at_call 7; exact cI _))
          go_wp2_with fail
          exact ⟨⟨j + 1, n + nq, by omega, by go_num, rfl⟩, by simp [intOf]; omega⟩
    · have hjI : ¬ (j : Int) < L.length := by omega
      go_wp2
      go_ret
      exact ⟨rfl, below_drewN BT n⟩

theorem walk {la : Option Addr} {L : List Nd} {c : Nat} (at_ : Int) (w : World) (hg : Gl w) (hL : NdsAt w la L) (hc : L.length ≤ c) :
    Calls Tryd.prog 3 #[.slice la L.length c, .int .i64 at_] w fun e w' => e = .returned (.bool true) ∧ Below w.heap.size w w' := by
  by_cases h0 : jobP L = 0
  · by_cases h1 : 11 < L.length
    · exact walk_full at_ w hg hL hc h0 h1
    · by_cases h2 : at_ < 0
      · exact walk_neg at_ w hg hL hc h0 h1 h2
      · by_cases h3 : (L.length : Int) ≤ at_
        · exact walk_past at_ w hg hL hc h0 h1 h3
        · obtain ⟨i, rfl⟩ : ∃ i : Nat, at_ = i := ⟨at_.toNat, by omega⟩
          by_cases h4 : (L[i]'(by omega)).k = 10
          · exact walk_sink i w hg hL hc h0 h1 i rfl (by omega) h4
          · exact walk_main i w hg hL hc h0 (by omega) (by omega) h4
  · exact walk_bad at_ w hg hL hc h0
end jobGrows
end Go.Proofs.YtjodmgepglmceacDoor
