/- DiskKeeps, walked. -/
import Derived.Test.YthlaccicdbbeeaaDk
import Derived.Test.YthlaccicdbbeeaaPureDl
namespace Go.Proofs.Ythlaccicdbbeeaa
open Go.RowKit
set_option linter.unusedVariables false

set_option maxRecDepth 100000 in
set_option maxHeartbeats 4000000 in
theorem keeps_big (w : World) (pa pb : Option Addr) (ca cb : Nat) (a b : List UInt8) (ha : BsAt w pa a) (hb : BsAt w pb b) (hal : a.length ≤ 140737488355328) (hbl : b.length ≤ 140737488355328) (keep : Int) (hbig : 60000 < a.length ∨ 60000 < b.length) :
    Calls Try.prog 3 #[.slice pa a.length ca, .slice pb b.length cb, .int .i64 keep] w fun e w' => e = .returned (.bool true) ∧ Below w.heap.size w w' := by
  go_enter Try.func3, Try.ntmps3
  go_wp2_with fail
  refine (new_any w).mono ?_
  rintro e w1 ⟨rfl, h1, b1⟩
  go_wp2_with fail
  refine (write_lo h1 Sm.new (by omega) (by omega) nA (by decide) b1 pa ca a ha rfl _ rfl hal).mono ?_
  rintro e w2 ⟨he, uv2, h2, b2⟩
  change e = .returned (erV (k1 a).1) at he
  generalize erV _ = v1 at he
  subst he
  have b2' := b1.trans b2
  go_wp2_with fail
  refine (sync_lo h2 (Sm.new.wr nA a) (by omega)).mono ?_
  rintro e w3 ⟨he, uv3, h3, b3⟩
  change e = .returned (erV (k2 a).1) at he
  generalize erV _ = v2 at he
  subst he
  have b3' := b2'.trans b3
  go_wp2_with fail
  refine (write_lo h3 (Sm.new.wr nA a).sy (by omega) (by omega) nB (by decide) b3' pb cb b hb rfl _ rfl hbl).mono ?_
  rintro e w4 ⟨he, uv4, h4, b4⟩
  change e = .returned (erV (k3 a b).1) at he
  generalize erV _ = v3 at he
  subst he
  have b4' := b3'.trans b4
  go_wp2_with fail
  refine (rename_lo h4 ((Sm.new.wr nA a).sy.wr nB b) (by omega) (by omega) nA nC (by decide) (by decide)).mono ?_
  rintro e w5 ⟨he, uv5, h5, b5⟩
  change e = .returned (erV (k4 a b).1) at he
  generalize erV _ = v4 at he
  subst he
  have b5' := b4'.trans b5
  go_wp2_with fail
  refine (remove_lo h5 (((Sm.new.wr nA a).sy.wr nB b).rn nA nC) (by omega) (by omega) nB (by decide)).mono ?_
  rintro e w6 ⟨he, uv6, h6, b6⟩
  change e = .returned (erV (k5 a b).1) at he
  generalize erV _ = v5 at he
  subst he
  have b6' := b5'.trans b6
  change DkS w.heap.size w6 _ _ uv6 (k5 a b).2 _ at h6
  go_wp2_with fail
  refine (crash_lo h6 ((((Sm.new.wr nA a).sy.wr nB b).rn nA nC).rm nB) (by omega) (by omega) keep).mono ?_
  rintro e w7 ⟨⟨v7, rfl⟩, ⟨uv7, h7⟩, b7⟩
  have b7' := b6'.trans b7
  go_wp2_with fail
  refine (names_any h7 (by omega)).mono ?_
  rintro e w8 ⟨A, cap, l, rfl, hA, hN, hln, hAn, b8⟩
  have b8' := b7'.trans (b8.mono (by have := b7'.size; omega))
  clear h1 h2 h3 h4 h5 h6 b1 b2 b3 b4 b5 b6 b7 b2' b3' b4' b5' b6'
  by_cases h6 : 60000 < a.length
  · have h6' : (60000 : Int) < a.length := by omega
    go_wp2
    go_ret
    exact ⟨rfl, b8'⟩
  · have h6' : ¬ (60000 : Int) < a.length := by omega
    have h6'' : (60000 : Int) < b.length := by omega
    go_wp2
    go_ret
    exact ⟨rfl, b8'⟩

theorem ss_1 (w : World) (k : ByteArray) : SsAt (w.alloc (.cells #[.string k] 9)) (some ⟨w.heap.size, 0, none⟩) [k] := ss1 w k

set_option maxRecDepth 100000 in
set_option maxHeartbeats 4000000 in
theorem keeps_small (w : World) (pa pb : Option Addr) (ca cb : Nat) (a b : List UInt8) (ha : BsAt w pa a) (hb : BsAt w pb b) (hal : a.length ≤ 140737488355328) (hbl : b.length ≤ 140737488355328) (keep : Int) (ha6 : a.length ≤ 60000) (hb6 : b.length ≤ 60000) :
    Calls Try.prog 3 #[.slice pa a.length ca, .slice pb b.length cb, .int .i64 keep] w fun e w' => e = .returned (.bool true) ∧ Below w.heap.size w w' := by
  obtain ⟨⟨z1, z2, z3, z4, z5⟩, -⟩ := keeps_five ha6 hb6
  obtain ⟨p1, p2, p3⟩ := keeps_pure ha6 hb6 keep
  have na6 : ¬ (60000 : Int) < a.length := by omega
  have nb6 : ¬ (60000 : Int) < b.length := by omega
  go_enter Try.func3, Try.ntmps3
  go_wp2_with fail
  refine (new_any w).mono ?_
  rintro e w1 ⟨rfl, h1, b1⟩
  go_wp2_with fail
  refine (write_lo h1 Sm.new (by omega) (by omega) nA (by decide) b1 pa ca a ha rfl _ rfl hal).mono ?_
  rintro e w2 ⟨he, uv2, h2, b2⟩
  change e = .returned (erV (k1 a).1) at he
  rw [z1, erV_0] at he
  subst he
  have b2' := b1.trans b2
  go_wp2_with fail
  refine (sync_lo h2 (Sm.new.wr nA a) (by omega)).mono ?_
  rintro e w3 ⟨he, uv3, h3, b3⟩
  change e = .returned (erV (k2 a).1) at he
  rw [z2, erV_0] at he
  subst he
  have b3' := b2'.trans b3
  go_wp2_with fail
  refine (write_lo h3 (Sm.new.wr nA a).sy (by omega) (by omega) nB (by decide) b3' pb cb b hb rfl _ rfl hbl).mono ?_
  rintro e w4 ⟨he, uv4, h4, b4⟩
  change e = .returned (erV (k3 a b).1) at he
  rw [z3, erV_0] at he
  subst he
  have b4' := b3'.trans b4
  go_wp2_with fail
  refine (rename_lo h4 ((Sm.new.wr nA a).sy.wr nB b) (by omega) (by omega) nA nC (by decide) (by decide)).mono ?_
  rintro e w5 ⟨he, uv5, h5, b5⟩
  change e = .returned (erV (k4 a b).1) at he
  rw [z4, erV_0] at he
  subst he
  have b5' := b4'.trans b5
  go_wp2_with fail
  refine (remove_lo h5 (((Sm.new.wr nA a).sy.wr nB b).rn nA nC) (by omega) (by omega) nB (by decide)).mono ?_
  rintro e w6 ⟨he, uv6, h6, b6⟩
  change e = .returned (erV (k5 a b).1) at he
  rw [z5, erV_0] at he
  subst he
  have b6' := b5'.trans b6
  change DkS w.heap.size w6 _ _ uv6 (k5 a b).2 _ at h6
  go_wp2_with fail
  refine (crash_lo h6 ((((Sm.new.wr nA a).sy.wr nB b).rn nA nC).rm nB) (by omega) (by omega) keep).mono ?_
  rintro e w7 ⟨⟨v7, rfl⟩, ⟨uv7, h7⟩, b7⟩
  have b7' := b6'.trans b7
  go_wp2_with fail
  refine (names_any h7 (by omega)).mono ?_
  rintro e w8 ⟨A, cap, l, rfl, hA, hN, hln, hAn, b8⟩
  have b8' := b7'.trans (b8.mono (by have := b7'.size; omega))
  clear h1 h2 h3 h4 h5 h6 b1 b2 b3 b4 b5 b6 b7 b2' b3' b4' b5' b6'
  have hl : l = wantK keep := hN.unique p1
  have hlen : l.length ≤ 1000000000 := by omega
  have h8 := h7.keep b8
  have hlo8 : w.heap.size ≤ w8.heap.size := b8'.size
  have ha8 : BsAt w8 pa a := ha.keep b8'
  clear h7 hN b8 hln
  have HR : ∀ w9 : World, Below w8.heap.size w8 w9 → ∀ nm, nm = nameK keep → Calls Try.prog 13 #[.pointer (some ⟨w.heap.size + 1, 0, none⟩), .string nm] w9 fun e w10 => ∃ A cap, e = .returned (.tuple #[.slice A a.length cap, .nilIface]) ∧ BsAt w10 A a ∧ Below w9.heap.size w9 w10 := by
    rintro w9 b9 nm rfl
    refine (read_any (h8.keep b9) (nameK keep) (by unfold nameK; split <;> decide)).mono ?_
    rintro e w10 ⟨hb10, hr⟩
    rw [p2, if_pos rfl, p3] at hr
    obtain ⟨A, cap, h1, h2, _⟩ := hr
    exact ⟨A, cap, h1, h2, hb10⟩
  have HT : ∀ (w9 : World) (q : Option Addr) (e m : Nat), Below w8.heap.size w8 w9 → SsAt w9 q (wantK keep) → m = (wantK keep).length → Calls Try.prog 14 #[.slice A l.length cap, .slice q m e] w9 fun e w' => e = .returned (.bool true) ∧ ∃ k, w' = w9.drewN k := fun w9 q e m b9 hq hm =>
    texts_same w9 A q cap e l (hA.below b9) (by rw [hl]; exact hq) hlen l.length m rfl (by rw [hl]; exact hm)
  clear h8 hA
  generalize l.length = ll at *
  clear hl
  by_cases k1' : keep = 1
  · subst k1'
    have b9 : Below w8.heap.size w8 ((w8.alloc (.cells #[.string nA] 9)).alloc (.cells #[.string nA, .string nB] 9)) := (((Below.refl _ w8).alloc (by simp) _).alloc (by simp) _)
    have hw : wantK 1 = [nA, nB] := by unfold wantK; rfl
    have hnm : nA = nameK 1 := by unfold nameK; rw [if_neg (by omega)]
    have hss : SsAt ((w8.alloc (.cells #[.string nA] 9)).alloc (.cells #[.string nA, .string nB] 9)) (some ⟨w8.heap.size + 1, 0, none⟩) (wantK 1) := by
      have h0 := ss2 (w8.alloc (.cells #[.string nA] 9)) nA nB
      rw [World.size_alloc] at h0
      rw [hw]; exact h0
    have hml : 2 = (wantK 1).length := by rw [hw]; rfl
    have HR9 := HR _ b9 _ hnm
    have HML := Lib.hid hml
    clear hnm hw hml
    go_wp2_with fail
    refine HR9.mono ?_
    rintro e w10 ⟨A2, cap2, rfl, hA2, b10⟩
    have b10' : Below w8.heap.size w8 w10 := b9.trans (b10.mono b9.size)
    have ha10 : BsAt w10 pa a := ha8.keep b10'
    have hT := HT w10 (some ⟨w8.heap.size + 1, 0, none⟩) 2 2 b10' (hss.below b10) HML.out
    go_wp2_with fail
    refine hT.mono ?_
    rintro e w11 ⟨rfl, k11, rfl⟩
    have cv1 : (convert 22 9 (.slice A2 a.length cap2)).run Try.prog (w10.drewN k11) = .ok (.string ⟨a.toArray⟩) (w10.drewN k11) := BsAt.convert (w := w10.drewN k11) hA2 _ _ rfl
    have cv2 : (convert 22 9 (.slice pa a.length ca)).run Try.prog (w10.drewN k11) = .ok (.string ⟨a.toArray⟩) (w10.drewN k11) := BsAt.convert (w := w10.drewN k11) ha10 _ _ rfl
    go_wp2
    go_ret
    exact ⟨ret_bool (by simp), b8'.trans ((b10'.mono hlo8).trans ⟨rfl, rfl, rfl, Nat.le_refl _, fun _ _ => rfl⟩)⟩
  by_cases k2' : keep = 2
  · subst k2'
    have b9 : Below w8.heap.size w8 ((w8.alloc (.cells #[.string nA] 9)).alloc (.cells #[.string nB, .string nC] 9)) := (((Below.refl _ w8).alloc (by simp) _).alloc (by simp) _)
    have hw : wantK 2 = [nB, nC] := by unfold wantK; rfl
    have hnm : nC = nameK 2 := by unfold nameK; rw [if_pos (by omega)]
    have hss : SsAt ((w8.alloc (.cells #[.string nA] 9)).alloc (.cells #[.string nB, .string nC] 9)) (some ⟨w8.heap.size + 1, 0, none⟩) (wantK 2) := by
      have h0 := ss2 (w8.alloc (.cells #[.string nA] 9)) nB nC
      rw [World.size_alloc] at h0
      rw [hw]; exact h0
    have hml : 2 = (wantK 2).length := by rw [hw]; rfl
    have HR9 := HR _ b9 _ hnm
    have HML := Lib.hid hml
    clear hnm hw hml
    go_wp2_with fail
    refine HR9.mono ?_
    rintro e w10 ⟨A2, cap2, rfl, hA2, b10⟩
    have b10' : Below w8.heap.size w8 w10 := b9.trans (b10.mono b9.size)
    have ha10 : BsAt w10 pa a := ha8.keep b10'
    have hT := HT w10 (some ⟨w8.heap.size + 1, 0, none⟩) 2 2 b10' (hss.below b10) HML.out
    go_wp2_with fail
    refine hT.mono ?_
    rintro e w11 ⟨rfl, k11, rfl⟩
    have cv1 : (convert 22 9 (.slice A2 a.length cap2)).run Try.prog (w10.drewN k11) = .ok (.string ⟨a.toArray⟩) (w10.drewN k11) := BsAt.convert (w := w10.drewN k11) hA2 _ _ rfl
    have cv2 : (convert 22 9 (.slice pa a.length ca)).run Try.prog (w10.drewN k11) = .ok (.string ⟨a.toArray⟩) (w10.drewN k11) := BsAt.convert (w := w10.drewN k11) ha10 _ _ rfl
    go_wp2
    go_ret
    exact ⟨ret_bool (by simp), b8'.trans ((b10'.mono hlo8).trans ⟨rfl, rfl, rfl, Nat.le_refl _, fun _ _ => rfl⟩)⟩
  by_cases k3' : 2 < keep
  · have k4' : 1 < keep := by omega
    have b9 : Below w8.heap.size w8 ((w8.alloc (.cells #[.string nA] 9)).alloc (.cells #[.string nC] 9)) := (((Below.refl _ w8).alloc (by simp) _).alloc (by simp) _)
    have hw : wantK keep = [nC] := by unfold wantK; rw [if_pos k3']
    have hnm : nC = nameK keep := by unfold nameK; rw [if_pos (by omega)]
    have hss : SsAt ((w8.alloc (.cells #[.string nA] 9)).alloc (.cells #[.string nC] 9)) (some ⟨w8.heap.size + 1, 0, none⟩) (wantK keep) := by
      have h0 := ss1 (w8.alloc (.cells #[.string nA] 9)) nC
      rw [World.size_alloc] at h0
      rw [hw]; exact h0
    have hml : 1 = (wantK keep).length := by rw [hw]; rfl
    have HR9 := HR _ b9 _ hnm
    have HML := Lib.hid hml
    clear hnm hw hml
    go_wp2_with fail
    refine HR9.mono ?_
    rintro e w10 ⟨A2, cap2, rfl, hA2, b10⟩
    have b10' : Below w8.heap.size w8 w10 := b9.trans (b10.mono b9.size)
    have ha10 : BsAt w10 pa a := ha8.keep b10'
    have hT := HT w10 (some ⟨w8.heap.size + 1, 0, none⟩) 1 1 b10' (hss.below b10) HML.out
    go_wp2_with fail
    refine hT.mono ?_
    rintro e w11 ⟨rfl, k11, rfl⟩
    have cv1 : (convert 22 9 (.slice A2 a.length cap2)).run Try.prog (w10.drewN k11) = .ok (.string ⟨a.toArray⟩) (w10.drewN k11) := BsAt.convert (w := w10.drewN k11) hA2 _ _ rfl
    have cv2 : (convert 22 9 (.slice pa a.length ca)).run Try.prog (w10.drewN k11) = .ok (.string ⟨a.toArray⟩) (w10.drewN k11) := BsAt.convert (w := w10.drewN k11) ha10 _ _ rfl
    go_wp2
    go_ret
    exact ⟨ret_bool (by simp), b8'.trans ((b10'.mono hlo8).trans ⟨rfl, rfl, rfl, Nat.le_refl _, fun _ _ => rfl⟩)⟩
  · have k4' : ¬ 1 < keep := by omega
    have b9 : Below w8.heap.size w8 (w8.alloc (.cells #[.string nA] 9)) := ((Below.refl _ w8).alloc (by simp) _)
    have hw : wantK keep = [nA] := by unfold wantK; rw [if_neg k3', if_neg k2', if_neg k1']
    have hnm : nA = nameK keep := by unfold nameK; rw [if_neg (by omega)]
    have hss : SsAt (w8.alloc (.cells #[.string nA] 9)) (some ⟨w8.heap.size, 0, none⟩) (wantK keep) := by
      have h0 := ss1 w8 nA
      skip
      rw [hw]; exact h0
    have hml : 1 = (wantK keep).length := by rw [hw]; rfl
    have HR9 := HR _ b9 _ hnm
    have HML := Lib.hid hml
    clear hnm hw hml
    go_wp2_with fail
    refine HR9.mono ?_
    rintro e w10 ⟨A2, cap2, rfl, hA2, b10⟩
    have b10' : Below w8.heap.size w8 w10 := b9.trans (b10.mono b9.size)
    have ha10 : BsAt w10 pa a := ha8.keep b10'
    have hT := HT w10 (some ⟨w8.heap.size, 0, none⟩) 1 1 b10' (hss.below b10) HML.out
    go_wp2_with fail
    refine hT.mono ?_
    rintro e w11 ⟨rfl, k11, rfl⟩
    have cv1 : (convert 22 9 (.slice A2 a.length cap2)).run Try.prog (w10.drewN k11) = .ok (.string ⟨a.toArray⟩) (w10.drewN k11) := BsAt.convert (w := w10.drewN k11) hA2 _ _ rfl
    have cv2 : (convert 22 9 (.slice pa a.length ca)).run Try.prog (w10.drewN k11) = .ok (.string ⟨a.toArray⟩) (w10.drewN k11) := BsAt.convert (w := w10.drewN k11) ha10 _ _ rfl
    go_wp2
    go_ret
    exact ⟨ret_bool (by simp), b8'.trans ((b10'.mono hlo8).trans ⟨rfl, rfl, rfl, Nat.le_refl _, fun _ _ => rfl⟩)⟩

theorem keeps_walk (w : World) (pa pb : Option Addr) (ca cb : Nat) (a b : List UInt8) (ha : BsAt w pa a) (hb : BsAt w pb b) (hal : a.length ≤ 140737488355328) (hbl : b.length ≤ 140737488355328) (keep : Int) :
    Calls Try.prog 3 #[.slice pa a.length ca, .slice pb b.length cb, .int .i64 keep] w fun e w' => e = .returned (.bool true) ∧ Below w.heap.size w w' := by
  by_cases h : a.length ≤ 60000 ∧ b.length ≤ 60000
  · exact keeps_small w pa pb ca cb a b ha hb hal hbl keep h.1 h.2
  · exact keeps_big w pa pb ca cb a b ha hb hal hbl keep (by omega)
end Go.Proofs.Ythlaccicdbbeeaa
