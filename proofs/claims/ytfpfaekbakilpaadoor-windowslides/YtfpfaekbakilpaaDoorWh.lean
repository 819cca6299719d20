/- Slide, Tumble. -/
import Derived.Test.YtfpfaekbakilpaaDoorWg
namespace Go.Proofs.YtfpfaekbakilpaaDoor
open Go.RowKit
set_option linter.unusedVariables false

theorem check1 (w : World) (la : Option Addr) (c : Nat) (l : List Rg) (h : CsAt w la (rcells l)) (hn : l.length ≤ 9223372036854775807) (hks : ∀ r ∈ l, r.key.size ≤ 9223372036854775807) :
    Calls Tryd.prog 17 #[.slice (some ⟨w.heap.size, 0, none⟩) 1 1] (w.alloc (.cells #[.slice la l.length c] 22)) fun e w' => e = .returned (errV (recsE l)) ∧ Below w.heap.size w w' := by
  have e0 : allR [⟨la, c, l⟩] = l := by simp [allR]
  have hb : Below w.heap.size w (w.alloc (.cells #[.slice la l.length c] 22)) := (Below.refl _ _).alloc (Nat.le_refl _) _
  have := check_any (w.alloc (.cells #[.slice la l.length c] 22)) (some ⟨w.heap.size, 0, none⟩) 1 [⟨la, c, l⟩] (.inr ⟨_, _, rfl, fun j u hu => by
    match j, hu with
    | 0, hu => simp [liV] at hu; subst hu; simp
    | j + 1, hu => simp at hu⟩) (fun x hx => by simp at hx; subst hx; exact h.keep hb) (by simp) (by rw [e0]; exact hn) (by rw [e0]; exact hks)
  rw [e0] at this
  refine Calls.mono this ?_
  rintro e w' ⟨h1, h2⟩
  exact ⟨h1, below_after h2 hb⟩
theorem errV_ne {e : Nat} (h : e ≠ 0) : errV e = .iface 52 (.int .i64 e) := by unfold errV; rw [if_neg h]
theorem errV_0 : errV 0 = .nilIface := rfl
set_option maxRecDepth 100000 in
set_option maxHeartbeats 2000000 in
theorem slide_recs (w : World) (la : Option Addr) (c : Nat) (l : List Rg) (size by_ slack : Int) (h : CsAt w la (rcells l)) (hn : l.length ≤ 9223372036854775807) (hks : ∀ r ∈ l, r.key.size ≤ 9223372036854775807) (hE : recsE l ≠ 0) :
    Calls Tryd.prog 7 #[.slice la l.length c, .int .i64 size, .int .i64 by_, .int .i64 slack] w fun e w' => e = .returned (.tuple #[.slice none 0 0, errV (recsE l)]) ∧ Below w.heap.size w w' := by
  have HC := check1 w la c l h hn hks
  rw [errV_ne hE] at HC ⊢
  generalize recsE l = E at *
  clear h hks
  go_enter Tryd.func7, Tryd.ntmps7
  go_wp2_with (go_at_call 17; refine HC.mono ?_; rintro e w' ⟨rfl, hb⟩)
  go_ret2
  exact ⟨rfl, hb⟩
set_option maxRecDepth 100000 in
set_option maxHeartbeats 2000000 in
theorem slide_args (w : World) (la : Option Addr) (c : Nat) (l : List Rg) (size by_ slack : Int) (h : CsAt w la (rcells l)) (hn : l.length ≤ 9223372036854775807) (hks : ∀ r ∈ l, r.key.size ≤ 9223372036854775807) (hE : recsE l = 0) (hA : (spanB size && spanB by_ && slackB slack && decide (size ≤ 16 * by_)) = false) :
    Calls Tryd.prog 7 #[.slice la l.length c, .int .i64 size, .int .i64 by_, .int .i64 slack] w fun e w' => e = .returned (.tuple #[.slice none 0 0, errV 1]) ∧ Below w.heap.size w w' := by
  have HC := check1 w la c l h hn hks
  rw [hE, errV_0] at HC
  have H1 := fun u => span_any size u
  have H2 := fun u => span_any by_ u
  have H3 := fun u => slack_any slack u
  have hb16 : spanB by_ = true → 1 ≤ by_ ∧ by_ ≤ 1000000 := fun h => by unfold spanB at h; simpa using h
  have HB := Lib.hid hb16
  clear h hks hE hb16
  cases hs1 : spanB size with
  | false =>
    rw [hs1] at H1
    clear hA H2 H3 HB hs1
    go_enter Tryd.func7, Tryd.ntmps7
    go_wp2_with (first | (go_at_call 17; refine HC.mono ?_; rintro e w' ⟨rfl, hb⟩) | (go_at_call 18; refine (H1 _).mono ?_; rintro e w'' ⟨rfl, rfl⟩))
    go_ret2
    exact ⟨rfl, hb⟩
  | true =>
    rw [hs1] at H1 hA
    clear hs1
    cases hs2 : spanB by_ with
    | false =>
      rw [hs2] at H2
      clear hA H3 HB hs2
      go_enter Tryd.func7, Tryd.ntmps7
      go_wp2_with (first | (go_at_call 17; refine HC.mono ?_; rintro e w' ⟨rfl, hb⟩) | (go_at_call 18; refine (H1 _).mono ?_; rintro e w'' ⟨rfl, rfl⟩; refine Hid.out ?_))
      refine Lib.hid ?_
      go_wp2_with (go_at_call 18; refine (H2 _).mono ?_; rintro e w'' ⟨rfl, rfl⟩)
      go_ret2
      exact ⟨rfl, hb⟩
    | true =>
      obtain ⟨b0, b1⟩ := HB.out hs2
      rw [hs2] at H2 hA
      clear hs2 HB
      cases hs3 : slackB slack with
      | false =>
        rw [hs3] at H3
        clear hA hs3
        go_enter Tryd.func7, Tryd.ntmps7
        go_wp2_with (first | (go_at_call 17; refine HC.mono ?_; rintro e w' ⟨rfl, hb⟩) | (go_at_call 18; refine (H1 _).mono ?_; rintro e w'' ⟨rfl, rfl⟩; refine Hid.out ?_))
        refine Lib.hid ?_
        go_wp2_with (first | (go_at_call 18; refine (H2 _).mono ?_; rintro e w'' ⟨rfl, rfl⟩) | (go_at_call 19; refine (H3 _).mono ?_; rintro e w'' ⟨rfl, rfl⟩))
        go_ret2
        exact ⟨rfl, hb⟩
      | true =>
        rw [hs3] at H3 hA
        have h4 : ¬ size ≤ 16 * by_ := by simpa using hA
        have h5 : 16 * by_ < size := by omega
        clear hA hs3 h4
        go_enter Tryd.func7, Tryd.ntmps7
        go_wp2_with (first | (go_at_call 17; refine HC.mono ?_; rintro e w' ⟨rfl, hb⟩) | (go_at_call 18; refine (H1 _).mono ?_; rintro e w'' ⟨rfl, rfl⟩; refine Hid.out ?_))
        refine Lib.hid ?_
        go_wp2_with (first | (go_at_call 18; refine (H2 _).mono ?_; rintro e w'' ⟨rfl, rfl⟩) | (go_at_call 19; refine (H3 _).mono ?_; rintro e w'' ⟨rfl, rfl⟩))
        go_ret2
        exact ⟨rfl, hb⟩
theorem recs_ok {l : List Rg} (h : recsE l = 0) : l.length ≤ 400 ∧ ∀ r ∈ l, r.key.size ≤ 40 ∧ 0 ≤ r.tm ∧ r.tm ≤ 1000000 := by
  unfold recsE at h
  split at h
  · omega
  · split at h
    · omega
    · rename_i h1 h2
      refine ⟨by omega, fun r hr => ?_⟩
      have : badR r = false := by
        cases hb : badR r with
        | false => rfl
        | true => exact absurd (List.any_eq_true.2 ⟨r, hr, hb⟩) (by simpa using h2)
      unfold badR at this
      simpa [and_assoc] using this
set_option maxRecDepth 100000 in
set_option maxHeartbeats 4000000 in
theorem slide_yes (w : World) (la : Option Addr) (c : Nat) (l : List Rg) (size by_ slack : Int) (h : CsAt w la (rcells l)) (hE : recsE l = 0) (s1 : spanB size = true) (s2 : spanB by_ = true) (s3 : slackB slack = true) (s4 : size ≤ 16 * by_) :
    Calls Tryd.prog 7 #[.slice la l.length c, .int .i64 size, .int .i64 by_, .int .i64 slack] w fun e w' => ∃ A cap, e = .returned (.tuple #[.slice A (slideP size by_ slack l).length cap, .nilIface]) ∧ HsAt w' w.heap.size A (slideP size by_ slack l) ∧ (slideP size by_ slack l).length ≤ cap ∧ Below w.heap.size w w' := by
  obtain ⟨hn, hr⟩ := recs_ok hE
  have HC := check1 w la c l h (by omega) (fun r hr' => by have := (hr r hr').1; omega)
  rw [hE, errV_0] at HC
  have H1 := fun u => span_any size u
  have H2 := fun u => span_any by_ u
  have H3 := fun u => slack_any slack u
  rw [s1] at H1
  rw [s2] at H2
  rw [s3] at H3
  have a1 : 1 ≤ size ∧ size ≤ 1000000 := by unfold spanB at s1; simpa using s1
  have a2 : 1 ≤ by_ ∧ by_ ≤ 1000000 := by unfold spanB at s2; simpa using s2
  have a3 : 0 ≤ slack ∧ slack ≤ 1000000 := by unfold slackB at s3; simpa using s3
  obtain ⟨z0, z1⟩ := a1
  obtain ⟨b0, b1⟩ := a2
  obtain ⟨k0, k1⟩ := a3
  have s4' : ¬ 16 * by_ < size := by omega
  have hmm := @run_makeMap Tryd.prog
  have HM := fun u => newMark_any slack u
  have hP : slideP size by_ slack l = (slS size by_ slack (l.take l.length)).1 := by rw [List.take_length]; rfl
  have hlen := fun k => slS_len (slack := slack) b0 s4 (l.take k)
  have hst := slS_take size by_ slack l
  have HR := Lib.hid hr
  have HL := Lib.hid hlen
  have HST := Lib.hid hst
  have HP := Lib.hid hP
  have hS0 : slS size by_ slack (l.take 0) = ([], 0) := rfl
  have HS0 := Lib.hid hS0
  generalize slideP size by_ slack l = PP at *
  generalize slS size by_ slack = SS at *
  clear hlen hst hP hr hE s1 s2 s3 hS0
  go_enter Tryd.func7, Tryd.ntmps7
  go_wp2_with (first | (go_at_call 17; refine HC.mono ?_; rintro e u1 ⟨rfl, hb⟩) | (go_at_call 18; refine (H1 _).mono ?_; rintro e w'' ⟨rfl, rfl⟩; refine Hid.out ?_))
  refine Lib.hid ?_
  clear HC
  go_wp2_with (first | (go_at_call 18; refine (H2 _).mono ?_; rintro e w'' ⟨rfl, rfl⟩) | (go_at_call 19; refine (H3 _).mono ?_; rintro e w'' ⟨rfl, rfl⟩) | (go_at_call 20; refine (HM _).mono ?_; rintro e w'' ⟨rfl, rfl⟩))
  have hsz := hb.size
  generalize hM : u1.heap.size = M at *
  have hM' := Lib.hid hM
  have hw0 : ∃ w0, w0 = ((u1.alloc (.map #[] 0)).alloc (.cells #[.int .i64 slack] 3)).alloc (.cells #[.int .i64 0] 3) := ⟨_, rfl⟩
  have hstart : (((u1.alloc (.map #[] 0)).alloc (.cells #[.int .i64 slack] 3)).alloc (.cells #[.int .i64 0] 3)).heap[M + 1]? = some (.cells #[.int .i64 slack] 3 (0, 0)) ∧ (((u1.alloc (.map #[] 0)).alloc (.cells #[.int .i64 slack] 3)).alloc (.cells #[.int .i64 0] 3)).heap[M + 2]? = some (.cells #[.int .i64 0] 3 (0, 0)) ∧ MpAt (((u1.alloc (.map #[] 0)).alloc (.cells #[.int .i64 slack] 3)).alloc (.cells #[.int .i64 0] 3)) M [] ∧ Below w.heap.size w (((u1.alloc (.map #[] 0)).alloc (.cells #[.int .i64 slack] 3)).alloc (.cells #[.int .i64 0] 3)) := by
    subst hM
    refine ⟨?_, ?_, ?_, ?_⟩
    · rw [Below.heap_alloc _ _ _ (by simp)]
      have e : u1.heap.size + 1 = (u1.alloc (.map #[] 0)).heap.size := by simp
      rw [e]; exact alloc_new _ _
    · have e : u1.heap.size + 2 = ((u1.alloc (.map #[] 0)).alloc (.cells #[.int .i64 slack] 3)).heap.size := by simp
      rw [e]; exact alloc_new _ _
    · exact (mp_new u1).block (by rw [Below.heap_alloc _ _ _ (by simp; omega), Below.heap_alloc _ _ _ (by simp)])
    · exact ((hb.alloc hsz _).alloc (by simp; omega) _).alloc (by simp; omega) _
  have HSt := Lib.hid hstart
  clear hstart hw0 hM hb H1 H2 H3 HM hmm
  generalize ((u1.alloc (.map #[] 0)).alloc (.cells #[.int .i64 slack] 3)).alloc (.cells #[.int .i64 0] 3) = w0 at *
  go_loopw [13, 47] (fun m i wr => ∃ k : Nat, k ≤ l.length ∧ i = .int .i64 k ∧ m = .int .i64 (SS (l.take k)).2 ∧ MpAt wr M (SS (l.take k)).1 ∧ wr.heap[M + 1]? = some (.cells #[.int .i64 slack] 3 (0, 0)) ∧ wr.heap[M + 2]? = some (.cells #[.int .i64 (SS (l.take k)).2] 3 (0, 0)) ∧ Below w.heap.size w wr) (fun _ i _ => l.length - (intOf i).toNat)
  case atStart =>
    obtain ⟨q1, q2, q3, q4⟩ := HSt.out
    exact ⟨0, by omega, rfl, by rw [HS0.out], by rw [HS0.out]; exact q3, q1, by rw [HS0.out]; exact q2, q4⟩
  case round =>
    obtain ⟨k, hk, rfl, rfl, hm, hsb, hmb, hb⟩ := hrel
    by_cases hlt : k < l.length
    · obtain ⟨b, o, rfl, c0, c1, c2⟩ := rcs_at (h.keep hb) k hlt
      obtain ⟨r0, r1, r2⟩ := HR.out _ (List.getElem_mem hlt)
      have hst := HST.out k hlt
      have hl := HL.out k
      rw [List.length_take] at hl
      generalize l[k] = r at *
      generalize SS (l.take k) = S1 at *
      obtain ⟨P1, m1⟩ := S1
      have HS1 := Lib.hid hst
      clear hst
      simp only at hm hmb hl HS1
      have hMl := hm.lt
      have hsl := some_lt hsb
      have hml := some_lt hmb
      have hBz := hb.size
      obtain ⟨key, num, tm⟩ := r
      simp only at c0 c1 c2 r0 r1 r2
      have HT := take_any (wr.alloc (.cells #[.string key, .int .i64 num, .int .i64 tm] 47)) M P1 (hm.block (Below.heap_alloc _ _ _ hMl)) ⟨key, num, tm⟩ size by_ m1 r1 r2 z0 z1 b0 b1 s4 r0 (by omega)
      simp only [rV] at HT
      have HSb := Lib.hid hsb
      have HMb := Lib.hid hmb
      clear hsb hmb hm
      go_wp2_with (go_at_call 21; refine HT.mono ?_; rintro e u2 ⟨rfl, hm2, f2⟩; refine Hid.out ?_)
      refine Lib.hid ?_
      clear HT
      have hs2 := f2.size
      simp at hs2
      have t2 : u2.cell? ⟨wr.heap.size, 2, none⟩ = some (.int .i64 tm) := by
        rw [f2.cell (p := ⟨wr.heap.size, 2, none⟩) (by simp) (by simp; omega)]; simp
      have hsb2 : u2.heap[M + 1]? = some (.cells #[.int .i64 slack] 3 (0, 0)) := by
        rw [f2.block (M + 1) (by simp; omega) (by simp), Below.heap_alloc _ _ _ hsl]; exact HSb.out
      have hmb2 : u2.heap[M + 2]? = some (.cells #[.int .i64 m1] 3 (0, 0)) := by
        rw [f2.block (M + 2) (by simp; omega) (by simp), Below.heap_alloc _ _ _ hml]; exact HMb.out
      have hb2 : Below w.heap.size w u2 := (hb.alloc hBz _).trans (f2.toBelow (by simp; omega) (by simp; omega))
      have HK := mark_any u2 (M + 2) (M + 1) m1 slack tm hmb2 hsb2 (by omega) r1 r2 k0 k1
      have hfin : ∀ v, (u2.setCell ⟨M + 2, 0, none⟩ v).heap[M + 2]? = some (.cells #[v] 3 (0, 0)) := fun v => heap_set_same u2 (M + 2) 0 _ _ _ hmb2 v
      have HFin := Lib.hid hfin
      have HM2 := Lib.hid hm2
      have HSb2 := Lib.hid hsb2
      clear hm2 hsb2 hmb2 hfin f2
      go_wp2_with (go_at_call 31; refine HK.mono ?_; rintro e u3 ⟨rfl, rfl⟩; refine Hid.out ?_)
      refine Lib.hid ?_
      clear HK
      go_wp2_with fail
      go_roundw
      case rel => exact ⟨k + 1, by omega, by go_num, by rw [HS1.out], by rw [HS1.out]; exact HM2.out.block (Below.heap_setCell _ _ _ _ (by simp)), by rw [Below.heap_setCell _ _ _ _ (by simp)]; exact HSb2.out, by rw [HS1.out]; exact HFin.out _, hb2.setCell (by simp; omega) _⟩
      case measure => simp [intOf]; omega
    · have ek : k = l.length := by omega
      subst ek
      have hl := HL.out l.length
      rw [List.length_take] at hl
      have hp := HP.out
      rw [← hp] at hm hl
      have HSo := stsorted_any wr M PP hm (by omega)
      have hBz := hb.size
      clear hm hp
      go_wp2_with (go_at_call 22; refine HSo.mono ?_; rintro e u2 ⟨A2, c2, rfl, hC2, hcap, b2⟩; refine Hid.out ?_)
      refine Lib.hid ?_
      have hC3 : HsAt u2 w.heap.size A2 PP := ⟨hC2.cs, fun a ha => ⟨(hC2.off a ha).1, Nat.le_trans hBz (hC2.off a ha).2.1, (hC2.off a ha).2.2⟩⟩
      have HC3 := Lib.hid hC3
      have B2 := hb.trans (b2.mono hBz)
      clear hC2 hC3 HSo b2
      go_wp2_with fail
      go_ret2
      exact ⟨A2, c2, rfl, HC3.out, hcap, B2⟩
set_option maxRecDepth 100000 in
set_option maxHeartbeats 2000000 in
theorem tumble_recs (w : World) (la : Option Addr) (c : Nat) (l : List Rg) (size slack : Int) (h : CsAt w la (rcells l)) (hn : l.length ≤ 9223372036854775807) (hks : ∀ r ∈ l, r.key.size ≤ 9223372036854775807) (hE : recsE l ≠ 0) :
    Calls Tryd.prog 10 #[.slice la l.length c, .int .i64 size, .int .i64 slack] w fun e w' => e = .returned (.tuple #[.slice none 0 0, errV (recsE l)]) ∧ Below w.heap.size w w' := by
  have H := slide_recs w la c l size size slack h hn hks hE
  clear h hks hE
  go_enter Tryd.func10, Tryd.ntmps10
  go_wp2_with (go_at_call 7; refine H.mono ?_; rintro e w' ⟨rfl, hb⟩)
  go_ret2
  exact ⟨rfl, hb⟩
set_option maxRecDepth 100000 in
set_option maxHeartbeats 2000000 in
theorem tumble_args (w : World) (la : Option Addr) (c : Nat) (l : List Rg) (size slack : Int) (h : CsAt w la (rcells l)) (hn : l.length ≤ 9223372036854775807) (hks : ∀ r ∈ l, r.key.size ≤ 9223372036854775807) (hE : recsE l = 0) (hA : (spanB size && slackB slack) = false) :
    Calls Tryd.prog 10 #[.slice la l.length c, .int .i64 size, .int .i64 slack] w fun e w' => e = .returned (.tuple #[.slice none 0 0, errV 1]) ∧ Below w.heap.size w w' := by
  have H := slide_args w la c l size size slack h hn hks hE (by cases h1 : spanB size <;> simp_all)
  clear h hks hE hA
  go_enter Tryd.func10, Tryd.ntmps10
  go_wp2_with (go_at_call 7; refine H.mono ?_; rintro e w' ⟨rfl, hb⟩)
  go_ret2
  exact ⟨rfl, hb⟩
set_option maxRecDepth 100000 in
set_option maxHeartbeats 2000000 in
theorem tumble_yes (w : World) (la : Option Addr) (c : Nat) (l : List Rg) (size slack : Int) (h : CsAt w la (rcells l)) (hE : recsE l = 0) (s1 : spanB size = true) (s3 : slackB slack = true) :
    Calls Tryd.prog 10 #[.slice la l.length c, .int .i64 size, .int .i64 slack] w fun e w' => ∃ A cap, e = .returned (.tuple #[.slice A (slideP size size slack l).length cap, .nilIface]) ∧ HsAt w' w.heap.size A (slideP size size slack l) ∧ (slideP size size slack l).length ≤ cap ∧ Below w.heap.size w w' := by
  have a1 : 1 ≤ size ∧ size ≤ 1000000 := by unfold spanB at s1; simpa using s1
  have H := slide_yes w la c l size size slack h hE s1 s1 s3 (by omega)
  clear h hE s1 s3 a1
  generalize slideP size size slack l = PP at *
  go_enter Tryd.func10, Tryd.ntmps10
  go_wp2_with (go_at_call 7; refine H.mono ?_; rintro e w' ⟨A2, c2, rfl, h1, h2, h3⟩)
  go_ret2
  exact ⟨A2, c2, rfl, h1, h2, h3⟩
end Go.Proofs.YtfpfaekbakilpaaDoor
