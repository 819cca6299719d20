/-
  Whatever the text and the two numbers are, weirlaw1.ExprChecks returns true and leaves its arguments as they were: whether a text is an expression, where it is wrong and how, its shortest text and what it comes to are the document's. Condition: the listed variables of the library hold what their own initialisers lay (the tied card).
-/
import Derived.Test.YtoooninneccfcaaGreatDoorGq
import Derived.Test.YtoooninneccfcaaGreatDoorGr
import Derived.Test.YtoooninneccfcaaGreatDoorPureI
import Derived.Test.YtoooninneccfcaaGreatDoorLaid
import Derived.Lib.LaidTab
import Derived.Test.YtoooninneccfcaaGreatDoorCards
import Derived.Test.YtoooninneccfcaaGreatDoorTie
import Derived.SevenTiedAt
import Derived.ShutString
import Derived.ChangeOld
import Derived.SizedLaws
namespace Go.Proofs.YtoooninneccfcaaGreatDoor
open Go.ChangeShapes Go.WideShapes Go.RowKit
open Go.ChangeMaps (open_string shut_string)
namespace exprChecks

theorem short_of {s : ByteArray} (h : s.data.toList.length ≤ reachBytes) : s.size ≤ 140737488355328 := by
  have h2 := reachBytes_lt
  have e1 : s.size = s.data.size := rfl
  have e2 : s.data.toList.length = s.data.size := Array.length_toList
  have e3 : (2 : Nat) ^ 47 = 140737488355328 := by decide
  omega

theorem gT : Tryz.prog.globalNamed "internal/strconv.uint64pow10" = some 5 := by kernel_rfl
theorem gTType : (Tryz.prog.globals[5]?).map (·.type) = some 281 := by kernel_rfl
theorem cellsT : Tryz.prog.cellsOf 281 = 20 := by kernel_rfl
theorem cellsU : Tryz.prog.cellsOf 132 = 1 := by kernel_rfl
theorem tab_of_laid {W : World} (h : laidMet Tryz.prog laidN W) : TabOK W :=
  Lib.tabIs_of_head gT gTType Tryz.underlying281 Tryz.underlying132 cellsU cellsT (h.tail.tail)
theorem below_step {w w1 w2 : World} (h : Below w.heap.size w w1) (k : Below w1.heap.size w1 w2) : Below w.heap.size w w2 := h.trans (k.mono h.size)
theorem bool_true {b : Bool} (h : b = true) : Ending.returned (.bool b) = .returned (.bool true) := by rw [h]

set_option maxRecDepth 100000 in
set_option maxHeartbeats 8000000 in
theorem walk (x : ByteArray) (n s : Int) (w : World) (hL : laidMetH Tryz.prog laidL w) (_ : x.size ≤ maxLen) (hn : (Lit.int .i64 n).wf = true) (hs : (Lit.int .i64 s).wf = true) (zx : x.size ≤ 140737488355328) :
    Calls Tryz.prog 3 #[.string x, .int .i64 n, .int .i64 s] w fun e w' => e = .returned (.bool true) ∧ Below w.heap.size w w' := by
  have hg := gl_of_laid hL
  have het := handle_of_laid hL
  have hT := tab_of_laid (laid_parts hL).1
  clear hL
  have hpa := parse_any x w
  have xmax : x.size ≤ 9223372036854775807 := by omega
  have hxl : x.data.toList.length = x.size := by simp
  cases hx : readP x.data.toList with
  | bad pl er =>
    rw [hx] at hpa
    have hpos := read_bad_pos hx
    have HC := Lib.hid (fun (u : World) (hu : Below w.heap.size w u) => (show Calls Tryz.prog 8 #[.string x] u fun e w' => e = .returned (.tuple #[.int .i64 ((x.size - pl : Nat) : Int), .iface 76 (.int .i64 er)]) ∧ Below u.heap.size u w' from by
      have h := check_any (hg.below hu) xmax
      unfold ckP at h
      rw [hx, hxl] at h
      exact h))
    have HP := Lib.hid (fun (u : World) (hu : Below w.heap.size w u) => print_bad hx (hg.below hu) xmax)
    have HV := Lib.hid (fun (u : World) (hu : Below w.heap.size w u) => eval_bad hx (hg.below hu) xmax n s)
    have HE := Lib.hid (fun (u : World) (hu : Below w.heap.size w u) => error_hit (er : Int) u (et_below het hu))
    have hne : ((er : Int) == 0) = false := by simpa using hpos
    have hpa : Calls Tryz.prog 7 #[.string x] w fun e w' => e = .returned (.tuple #[.agg #[.int .i64 0, .int .i64 0, .slice none 0 0], .int .i64 ((x.size - pl : Nat) : Int), .int .i64 (er : Nat)]) ∧ Below w.heap.size w w' := hpa
    generalize x.size - pl = at_ at *
    clear hx hxl hpos hT
    go_enter Tryz.func3, Tryz.ntmps3
    go_wp2_with (go_at_call 7; refine hpa.mono ?_; rintro e u1 ⟨rfl, b1⟩; refine Hid.out ?_)
    refine Lib.hid ?_
    have B1 : Below w.heap.size w (u1.alloc (.cells #[.int .i64 0, .int .i64 0, .slice none 0 0] 24)) := b1.trans (((Below.refl _ _).alloc (Nat.le_refl _) _).mono b1.size)
    clear b1 hpa
    have H2 := HC.out _ B1
    go_wp2_with (go_at_call 8; refine H2.mono ?_; rintro e w2 ⟨rfl, b2⟩; refine Hid.out ?_)
    refine Lib.hid ?_
    have B2 : Below w.heap.size w w2 := below_step B1 b2
    clear H2 b2
    have H3 := HE.out _ B2
    go_wp2_with (go_at_call 9; refine H3.mono ?_; rintro e w3 ⟨rfl, b3⟩; refine Hid.out ?_)
    refine Lib.hid ?_
    have B3 : Below w.heap.size w w3 := below_step B2 b3
    clear H3 b3
    have H4 := HP.out _ B3
    go_wp2_with (go_at_call 12; refine H4.mono ?_; rintro e w4 ⟨rfl, b4⟩; refine Hid.out ?_)
    refine Lib.hid ?_
    have B4 : Below w.heap.size w w4 := below_step B3 b4
    clear H4 b4
    have H5 := HE.out _ B4
    go_wp2_with (go_at_call 9; refine H5.mono ?_; rintro e w5 ⟨rfl, b5⟩; refine Hid.out ?_)
    refine Lib.hid ?_
    have B5 : Below w.heap.size w w5 := below_step B4 b5
    clear H5 b5
    have H6 := HV.out _ B5
    go_wp2_with (go_at_call 13; refine H6.mono ?_; rintro e w6 ⟨rfl, b6⟩; refine Hid.out ?_)
    refine Lib.hid ?_
    have B6 : Below w.heap.size w w6 := below_step B5 b6
    clear H6 b6
    have H7 := HE.out _ B6
    go_wp2_with (go_at_call 9; refine H7.mono ?_; rintro e w7 ⟨rfl, b7⟩; refine Hid.out ?_)
    refine Lib.hid ?_
    have B7 : Below w.heap.size w w7 := below_step B6 b7
    clear H7 b7
    go_wp2_with fail
    all_goals
      go_ret
      refine ⟨?_, B7⟩
    all_goals first | rfl | exact bool_true (by simp)
  | ok t u =>
    obtain rfl := (read_ok hx).2.1
    rw [hx] at hpa
    have hov := gr_okv (read_ok hx).2.2
    have hle := (print_ok hx).2
    have yx : x.size ≤ 120 := by have := (read_ok hx).1; simpa using this
    have htx := txt_any t (okv_okt t hov) (by omega)
    have HX := Lib.hid (fun (u : World) (v : Tv) (hu : TrV (fun p => w.heap.size ≤ p) u t v) => htx _ u v hu)
    have hvl := val_any (wf_bd hn) (wf_bd hs) t hov
    have HU := Lib.hid (fun (u : World) (v : Tv) (hu : TrV (fun p => w.heap.size ≤ p) u t v) => hvl _ u v hu)
    have HC := Lib.hid (fun (u : World) (hu : Below w.heap.size w u) => check_ok hx (hg.below hu))
    have HP := Lib.hid (fun (u : World) (hu : Below w.heap.size w u) => print_ok' hx (hg.below hu) (hT.below hu))
    have HV := Lib.hid (fun (u : World) (hu : Below w.heap.size w u) => eval_ok hx (hg.below hu) n s)
    have hbb : (⟨(prt t).toArray⟩ : ByteArray) = bb (prt t) := rfl
    rw [hbb] at HP
    have hpa : Calls Tryz.prog 7 #[.string x] w fun e w' => ∃ (a b : Int) (A : Option Addr) (n c : Nat), e = .returned (.tuple #[.agg #[.int .i64 a, .int .i64 b, .slice A n c], .int .i64 0, .int .i64 0]) ∧ TrV (fun p => w.heap.size ≤ p) w' t ⟨a, b, A, n, c⟩ ∧ Below w.heap.size w w' := hpa
    simp only [tvV] at HX HU
    generalize bb (prt t) = pt at *
    generalize ev n s t = vt at *
    clear hx hxl hT hov hle htx hvl hbb
    go_enter Tryz.func3, Tryz.ntmps3
    go_wp2_with (go_at_call 7; refine hpa.mono ?_; rintro e u1 ⟨ta, tb, tA, tn, tc, rfl, T1, b1⟩; refine Hid.out ?_)
    refine Lib.hid ?_
    have bA : Below u1.heap.size u1 (u1.alloc (.cells #[.int .i64 ta, .int .i64 tb, .slice tA tn tc] 24)) := (Below.refl _ _).alloc (Nat.le_refl _) _
    have B1 : Below w.heap.size w (u1.alloc (.cells #[.int .i64 ta, .int .i64 tb, .slice tA tn tc] 24)) := b1.trans (bA.mono b1.size)
    have hkA : (u1.alloc (.cells #[.int .i64 ta, .int .i64 tb, .slice tA tn tc] 24)).heap[u1.heap.size]? = some (.cells #[.int .i64 ta, .int .i64 tb, .slice tA tn tc] 24 (0, 0)) := heap_alloc_new u1 _
    have TA := T1.bel bA
    clear b1 hpa T1 bA
    have H2 := HC.out _ B1
    go_wp2_with (go_at_call 8; refine H2.mono ?_; rintro e w2 ⟨rfl, b2⟩; refine Hid.out ?_)
    refine Lib.hid ?_
    have B2 : Below w.heap.size w w2 := below_step B1 b2
    have B2B := b2
    clear H2 b2
    have H3 := error_nil w2
    go_wp2_with (go_at_call 9; refine H3.mono ?_; rintro e w3 ⟨rfl, rfl⟩; refine Hid.out ?_)
    refine Lib.hid ?_
    clear H3
    have hk2 := (B2B.block _ (some_lt hkA)).trans hkA
    obtain ⟨g, hgg⟩ : ∃ g, g = u1.heap.size := ⟨_, rfl⟩
    rw [← hgg] at hk2 ⊢
    have d0 : w2.cell? ⟨g, 0, none⟩ = some (.int .i64 ta) := by simp [World.cell?, hk2]
    have d1 : w2.cell? ⟨g, 1, none⟩ = some (.int .i64 tb) := by simp [World.cell?, hk2]
    have d2 : w2.cell? ⟨g, 2, none⟩ = some (.slice tA tn tc) := by simp [World.cell?, hk2]
    have T2 := TA.bel B2B
    clear hgg hkA TA
    have H3 := HX.out _ _ T2
    go_wp2_with (go_at_call 10; refine H3.mono ?_; rintro e w3 ⟨rfl, b3⟩; refine Hid.out ?_)
    refine Lib.hid ?_
    have B3 : Below w.heap.size w w3 := below_step B2 b3
    have B3B := b3
    clear H3 b3
    have hk3 := (B3B.block _ (some_lt hk2)).trans hk2
    have e0 : w3.cell? ⟨g, 0, none⟩ = some (.int .i64 ta) := by simp [World.cell?, hk3]
    have e1 : w3.cell? ⟨g, 1, none⟩ = some (.int .i64 tb) := by simp [World.cell?, hk3]
    have e2 : w3.cell? ⟨g, 2, none⟩ = some (.slice tA tn tc) := by simp [World.cell?, hk3]
    have T3 := T2.bel B3B
    clear hk2 T2 d0 d1 d2
    have H4 := HU.out _ _ T3
    go_wp2_with (go_at_call 11; refine H4.mono ?_; rintro e w4 ⟨rfl, b4⟩; refine Hid.out ?_)
    refine Lib.hid ?_
    have B4 : Below w.heap.size w w4 := below_step B3 b4
    clear H4 b4
    clear T3 e0 e1 e2 hk3
    have H5 := HP.out _ B4
    go_wp2_with (go_at_call 12; refine H5.mono ?_; rintro e w5 ⟨rfl, b5⟩; refine Hid.out ?_)
    refine Lib.hid ?_
    have B5 : Below w.heap.size w w5 := below_step B4 b5
    clear H5 b5
    have H6 := error_nil w5
    go_wp2_with (go_at_call 9; refine H6.mono ?_; rintro e w6 ⟨rfl, rfl⟩; refine Hid.out ?_)
    refine Lib.hid ?_
    clear H6
    have H6 := HV.out _ B5
    go_wp2_with (go_at_call 13; refine H6.mono ?_; rintro e w6 ⟨rfl, b6⟩; refine Hid.out ?_)
    refine Lib.hid ?_
    have B6 : Below w.heap.size w w6 := below_step B5 b6
    clear H6 b6
    have H7 := error_nil w6
    go_wp2_with (go_at_call 9; refine H7.mono ?_; rintro e w7 ⟨rfl, rfl⟩; refine Hid.out ?_)
    refine Lib.hid ?_
    clear H7
    go_wp2_with fail
    all_goals
      go_ret
      refine ⟨?_, B6⟩
    all_goals first | rfl | exact bool_true (by simp)

set_option maxRecDepth 100000 in
theorem lifted (os : Os) (started : os.Started) (H : Type) (enc : TypeId × Value → H) :
    ReturnsInHanded {} Tryz.checked os 3 .any (fun w args => (Rows.exprChecksSpec.pre enc Tryz.prog Tryz.f3 [] false w args ∧ laidMetH Tryz.prog laidL w) ∧ sizedMet enc Tryz.prog Tryz.f3 (OpenSpec.ofChange Rows.exprChecksSpec) false w args)
      (Rows.exprChecksSpec.post enc Tryz.prog Tryz.f3 false true false false) := by
  refine returnsInHanded_of_change_and (C := Tryz.checked) (X := fun w _ => laidMetH Tryz.prog laidL w) (fun _ _ _ hh h => h.of_heap hh) Tryz.own started (by kernel_rfl) Tryz.func3
    (ChangeSpec.witness_at (enc := enc) (C := Tryz.checked) (os := os) (X := fun w _ => laidMetH Tryz.prog laidL w) false (laidAt (World.holding Tryz.prog os ⟨ownBlocks, #[], []⟩)) #[.string ByteArray.empty, .int .i64 0, .int .i64 0] 8 rfl (by kernel_rfl) (by kernel_rfl) (by kernel_rfl) (by kernel_rfl) (by kernel_rfl) (laidWorld_met os _)) ?_
  intro W base args ds gs before hval0 hW _ hsz0 hL _
  have hsz : (DataW.weightsEach Tryz.prog (Tryz.f3.params.toList ++ Rows.exprChecksSpec.plain.varTypes Tryz.prog) (ds ++ gs)).all (· ≤ reachBytes) = true := hsz0
  clear hsz0
  have hval : ∀ (j : Nat) t v, Tryz.f3.params[j]? = some t → args[j]? = some v → Value.okWide Tryz.prog W .any base t v := hval0
  have hW' := hW
  obtain ⟨p, q, hA0, hV0, rfl, hfz, hnd⟩ := hW
  have hA : DataW.TrodAll enc Tryz.prog W 0 (fun _ => true) true Tryz.f3.params.toList args.toList ds p := hA0
  have hV : DataW.TrodVars enc Tryz.prog W (fun _ => true) [] gs q := hV0
  rw [Tryz.params3] at hA hval hsz
  obtain ⟨v0, vs0, d0, ds0, p0, q0, hargs, rfl, rfl, h0, r0⟩ := trodAll_cons hA
  obtain ⟨v1, vs1, d1, ds1, p1, q1, rfl, rfl, rfl, h1, r1⟩ := trodAll_cons r0
  obtain ⟨v2, vs2, d2, ds2, p2, q2, rfl, rfl, rfl, h2, r2⟩ := trodAll_cons r1
  obtain ⟨rfl, rfl, rfl⟩ := trodAll_nil r2
  obtain rfl : args = #[v0, v1, v2] := by cases args; simp_all
  obtain ⟨a0, rfl, rfl, rfl, w0⟩ := open_string Tryz.underlying9 (hval 0 9 v0 rfl rfl) h0
  obtain ⟨a1, rfl, rfl, rfl, w1⟩ := open_int Tryz.underlying3 (hval 1 3 v1 rfl rfl) h1
  obtain ⟨a2, rfl, rfl, rfl, w2⟩ := open_int Tryz.underlying3 (hval 2 3 v2 rfl rfl) h2
  have z0 : a0.size ≤ 140737488355328 := short_of (sized_string hsz (j := 0) (t := 9) rfl rfl)
  have hg := gl_of_laid hL
  have hld := hL
  obtain ⟨rfl, rfl⟩ : gs = [] ∧ q = [] := by
    cases gs with
    | nil => exact ⟨rfl, hV⟩
    | cons g r => exact absurd hV (by intro h; cases h)
  clear hA0 hval0
  refine (walk a0 a1 a2 W hL w0 w1 w2 z0).mono fun e W' ⟨he, bel⟩ => ?_
  subst he
  exact ⟨_, rfl, _, _, _, [], [], [], hW', trodAll_mk1 (shut_bool Tryz.underlying4 true), trodAll_cons_mk (shut_string Tryz.underlying9 w0) (trodAll_cons_mk (shut_int Tryz.underlying3 w1) (trodAll_cons_mk (shut_int Tryz.underlying3 w2) trodAll_mk0)), rfl, bel.frame _, fun h => by cases h⟩

theorem over : Rows.ExprChecksSaid :=
  OpenClaim.holds_of_wide 3 Tryz.f3 rfl rfl rfl rfl rfl rfl rfl ⟨rfl, rfl, rfl, rfl, rfl⟩ rfl rfl rfl rfl rfl (by kernel_rfl) Tryz.func3 (by kernel_rfl)
    (of_decide_eq_true (by kernel_rfl)) (by unfold Func.isWrapper; rw [if_neg (of_decide_eq_false (by kernel_rfl))]; exact ⟨rfl, rfl⟩)
    (fun os started H enc _ => lifted os started H enc)
end exprChecks

theorem exprChecks_holds : Rows.ExprChecksCardSaid :=
  Claim7.holds_tied_plain_at .later [] [.data, .data, .data, .handle, .sentinel, .sentinel] true (true, "25c8ba4680c3482b960332268415bf9ee887c276246c110432089e6a0c51b317") true
    exprChecks.over (fun _ h => by cases h) (by kernel_rfl) (fun _ h => by cases h) exprChecks_row_tie rfl ⟨rfl, rfl⟩ (by kernel_rfl) rfl
    (fun f fn hf hfn => by
      obtain rfl : f = 3 := Option.some.inj ((show Tryz.prog.funcNamed Tryz.f3.name = some 3 by kernel_rfl).symm.trans hf) |>.symm
      obtain rfl : fn = Tryz.f3 := (Option.some.inj (Tryz.func3.symm.trans hfn)).symm
      exact ⟨by kernel_rfl, fun j t ht => by
        rw [Tryz.params3] at ht
        match j, ht with
        | 0, ht =>
          obtain rfl : t = 9 := by simpa using ht.symm
          exact (show Tryz.prog.wantsStandIn 9 = false by kernel_rfl)
        | 1, ht =>
          obtain rfl : t = 3 := by simpa using ht.symm
          exact (show Tryz.prog.wantsStandIn 3 = false by kernel_rfl)
        | 2, ht =>
          obtain rfl : t = 3 := by simpa using ht.symm
          exact (show Tryz.prog.wantsStandIn 3 = false by kernel_rfl)
        | n + 3, ht => simp at ht⟩)
    (by kernel_rfl)
#print axioms exprChecks_holds
end Go.Proofs.YtoooninneccfcaaGreatDoor
