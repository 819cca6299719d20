/- The document's side: Open. -/
import Derived.Test.YtbppiiomjmpjkaaDoorGh0
import Derived.Test.YtbppiiomjmpjkaaDoorGe
namespace Go.Proofs.YtbppiiomjmpjkaaDoor
open Go.RowKit

/-- How the document's Open ends. -/
def SoEnd (w : World) (r : Option (List UInt8 × Nat)) (e : Ending) (w' : World) : Prop :=
  (match r with
   | none => e = .returned (.tuple #[.slice none 0 0, .int .i64 0, .bool false])
   | some (x, k) => ∃ A cap, e = .returned (.tuple #[.slice A x.length cap, .int .i64 k, .bool true]) ∧ BsAt w' A x) ∧ Below w.heap.size w w'
set_option maxRecDepth 100000 in
set_option maxHeartbeats 2000000 in
theorem sopen_any (w : World) (p : Option Addr) (c : Nat) (l : List UInt8) (hl : BsAt w p l) (hlen : l.length + 14 ≤ 140737488355328) (hcap : l.length ≤ c) (hcm : c ≤ 9223372036854775807) :
    Calls Tryd.prog 16 #[.slice p l.length c] w fun e w' => SoEnd w (openB l) e w' := by
  have hR0 : DdB w.heap.size (w.alloc (.cells #[.slice p l.length c, .int .i64 0, .bool false] 62)) w.heap.size l (some l) := by
    refine ⟨p, c, 0, false, ?_, hl.keep ((Below.refl _ _).alloc (Nat.le_refl _) _), ?_, hcap, hcm, by omega, by omega, .inr ⟨rfl, rfl⟩⟩
    · unfold Db; show (w.heap.push _)[w.heap.size]? = _; simp
    · intro a ha hne
      obtain ⟨b, o, h1, h2⟩ := hl.lt hne
      rw [h1] at ha; simp at ha; subst ha; exact h2
  have HM := dnum_any w.heap.size w.heap.size _ l _ hR0 (Nat.le_refl _)
  have hB1 : (w.alloc (.cells #[.slice p l.length c, .int .i64 0, .bool false] 62)).heap.size = w.heap.size + 1 := by simp
  have hbA : Below w.heap.size w (w.alloc (.cells #[.slice p l.length c, .int .i64 0, .bool false] 62)) := (Below.refl _ _).alloc (by omega) _
  have hkeep : ∀ u, Below w.heap.size w u → BsAt u p l := fun u h => hl.keep h
  have hX : ∀ u, openB l = none → Below w.heap.size w u → SoEnd w (openB l) (.returned (.tuple #[.slice none 0 0, .int .i64 0, .bool false])) u := fun u h hb => by rw [h]; exact ⟨rfl, hb⟩
  have HX := Lib.hid hX
  clear hR0 hX
  cases hf : fstN l with
  | none =>
    have hI : nI (some l) = (0, none) := by unfold nI; simp only [fst_rdI.1 hf]
    rw [hI] at HM
    have ho : openB l = none := by unfold openB; rw [hf]
    have HX' := Lib.hid (fun u => HX.out u ho)
    clear HX hf hI ho hkeep hl
    go_enter Tryd.func16, Tryd.ntmps16
    go_wp2_with (go_at_call 28; refine HM.mono ?_; rintro e w1 ⟨rfl, r1, f1⟩; refine Hid.out ?_)
    refine Lib.hid ?_
    have b1 : Below w.heap.size w w1 := hbA.trans (f1.toBelow (by omega) (by simp))
    obtain ⟨p', c', a, bad, hd, -, -, -, -, -, -, hst⟩ := r1
    have hb : bad = true := by
      rcases hst with ⟨-, h⟩ | ⟨h, -⟩
      · exact h
      · cases h
    subst hb
    have g2 := hd.c2
    clear hst HM f1 hbA hB1 hd
    go_wp2_with fail
    exact bodyPost_ret (v := .tuple #[.slice none 0 0, .int .i64 0, .bool false]) (by simp [results, Tryd.results16, go_sem]) rfl (HX'.out _ b1)
  | some pr =>
    obtain ⟨n, k⟩ := pr
    obtain ⟨-, f2, f3, f4, f5, f6⟩ := fstN_some hf
    have hI : nI (some l) = (n, some (l.drop k)) := by unfold nI; simp only [fst_rdI.2 n k hf]
    rw [hI] at HM
    simp only at HM
    obtain ⟨b, o, rfl, hcc⟩ : ∃ b o, p = some ⟨b, o, none⟩ ∧ ∀ i (h : i < l.length), w.cell? ⟨b, o + i, none⟩ = some (.int .u8 l[i].toNat) := by
      rcases hl with rfl | h
      · simp at f5; omega
      · exact h
    have hnk : ∀ u, DdB w.heap.size u w.heap.size l (some (l.drop k)) → ∃ v, Db u w.heap.size v (k : Nat) false := fun u h => by
      obtain ⟨p', c', a, bad, hd, -, -, -, -, -, hal, hst⟩ := h
      rcases hst with ⟨h, -⟩ | ⟨h, hb⟩
      · cases h
      · injection h with h
        have := congrArg List.length h
        simp at this
        have e : a = k := by omega
        subst e hb
        exact ⟨_, hd⟩
    by_cases hbad : n < 0 ∨ (l.length : Int) - k - 4 < n
    · have ho : openB l = none := by unfold openB; rw [hf]; simp only; rw [if_pos hbad]
      have HX' := Lib.hid (fun u => HX.out u ho)
      clear HX hf hI ho hkeep hl hcc
      by_cases hn0 : n < 0
      all_goals
        first
          | have hn1 : (l.length : Int) - k - 4 < n := by omega
          | skip
        go_enter Tryd.func16, Tryd.ntmps16
        go_wp2_with (go_at_call 28; refine HM.mono ?_; rintro e w1 ⟨rfl, r1, f1⟩; refine Hid.out ?_)
        refine Lib.hid ?_
        have b1 : Below w.heap.size w w1 := hbA.trans (f1.toBelow (by omega) (by simp))
        obtain ⟨v9, hd⟩ := hnk w1 r1
        have g1 := hd.c1
        have g2 := hd.c2
        clear HM f1 hbA hB1 hd r1 hnk
        go_wp2_with fail
        exact bodyPost_ret (v := .tuple #[.slice none 0 0, .int .i64 0, .bool false]) (by simp [results, Tryd.results16, go_sem]) rfl (HX'.out _ b1)
    · obtain ⟨m, rfl⟩ : ∃ m : Nat, n = (m : Int) := ⟨n.toNat, by omega⟩
      have hkm : k + m + 4 ≤ l.length := by omega
      have hn0 : ¬ (m : Int) < 0 := by omega
      have hn1 : ¬ (l.length : Int) - k - 4 < (m : Int) := by omega
      have hop := open_by_seal hf hkm
      have hxl : ((l.drop k).take m).length = m := by simp; omega
      have hpc : ∀ u, Below w.heap.size w u → BsAt u (some ⟨b, o + k, none⟩) ((l.drop k).take m) := fun u hu => by
        have h0 := hkeep u hu
        rcases h0 with h | ⟨b', o', e, hc'⟩
        · exact .inl (by rw [h]; simp)
        · simp only [Option.some.injEq, Addr.mk.injEq, and_true] at e
          obtain ⟨rfl, rfl⟩ := e
          refine .inr ⟨b, o + k, rfl, fun i hi => ?_⟩
          have hi' : i < m := by simp at hi; omega
          rw [Nat.add_assoc, hc' (k + i) (by omega)]
          simp
      have htk : ∀ u, Below w.heap.size w u → ∀ cc, (convert 23 9 (.slice (some ⟨b, o, none⟩) (k + m + 4) cc)).run Tryd.prog u = .ok (.string ⟨(l.take (k + m + 4)).toArray⟩) u := fun u hu cc => by
        have hz : Bz u (some ⟨b, o, none⟩) c l := ⟨hkeep u hu, hcap, hcm⟩
        exact (bz_take hz (k + m + 4)).1.convert _ cc (by simp; omega)
      have HS := fun (u : World) (hu : Below w.heap.size w u) => sseal_any u (some ⟨b, o + k, none⟩) (c - k) ((l.drop k).take m) (hpc u hu) (by omega) (by intro h; cases h)
      rw [hxl] at HS
      have hck : ¬ c = k := by omega
      have hY : sealB ((l.drop k).take m) = l.take (k + m + 4) → ∀ u, Below w.heap.size w u → SoEnd w (openB l) (.returned (.tuple #[.slice (some ⟨b, o + k, none⟩) m (c - k), .int .i64 ((k + m + 4 : Nat) : Int), .bool true])) u := fun hs u hu => by
        rw [hop, if_pos hs]
        exact ⟨⟨_, _, by rw [hxl], hpc u hu⟩, hu⟩
      have hN : ¬ sealB ((l.drop k).take m) = l.take (k + m + 4) → ∀ u, Below w.heap.size w u → SoEnd w (openB l) (.returned (.tuple #[.slice none 0 0, .int .i64 0, .bool false])) u := fun hs u hu => HX.out u (by rw [hop, if_neg hs]) hu
      have HPC := Lib.hid hpc
      have HTK := Lib.hid htk
      have HSS := Lib.hid HS
      have HNK := Lib.hid hnk
      have HYY := Lib.hid hY
      have HNN := Lib.hid hN
      clear hf hI hkeep hl hcc hop hpc htk HS hnk hbad hY hN HX hxl f2 f3 f6
      generalize sealB ((l.drop k).take m) = sl at *
      generalize l.take (k + m + 4) = tl at *
      go_enter Tryd.func16, Tryd.ntmps16
      go_wp2_with (go_at_call 28; refine HM.mono ?_; rintro e w1 ⟨rfl, r1, f1⟩; refine Hid.out ?_)
      refine Lib.hid ?_
      have b1 : Below w.heap.size w w1 := hbA.trans (f1.toBelow (by omega) (by simp))
      have z1 : w.heap.size < w1.heap.size := by have := f1.size; omega
      obtain ⟨v9, hd⟩ := HNK.out w1 r1
      have g1 := hd.c1
      have g2 := hd.c2
      clear HM f1 hbA hB1 r1 HNK
      go_wp2_with fail
      have hkI : (k : Int) ≤ (l.length : Int) := by omega
      have hkm2 : (k : Int) + (m : Int) ≤ (c : Int) := by omega
      have hkm3 : (k : Int) + (m : Int) + 4 ≤ (c : Int) := by omega
      go_quiet (fail)
      have hd2 : Db (w1.drewN nq) w.heap.size v9 (k : Nat) false := hd
      have b2 : Below w.heap.size w (w1.drewN nq) := ⟨b1.os, b1.tape, b1.output, b1.size, b1.block⟩
      have z2 : w.heap.size < (w1.drewN nq).heap.size := z1
      clear hd b1 z1 g1 g2
      generalize w1.drewN nq = w2 at *
      go_wp2_with (go_at_call 38; refine (HSS.out w2 b2).mono ?_; rintro e w3 ⟨v3, rfl, o3, b3⟩; refine Hid.out ?_)
      refine Lib.hid ?_
      have B3 : Below w.heap.size w w3 := b2.trans (b3.mono b2.size)
      have hd3 : Db w3 w.heap.size v9 (k : Nat) false := by unfold Db; rw [b3.block _ z2]; exact hd2
      have g1 := hd3.c1
      obtain ⟨A3, c3, rfl⟩ := own_slice o3
      have cv1 : ∀ n, (convert 23 9 (.slice A3 sl.length c3)).run Tryd.prog (w3.drewN n) = .ok (.string ⟨sl.toArray⟩) (w3.drewN n) := fun n => BsAt.convert (w := w3.drewN n) (own_bs o3 rfl).1 sl.length c3 rfl
      have cv2 : ∀ n cc, (convert 23 9 (.slice (some ⟨b, o, none⟩) (k + m + 4) cc)).run Tryd.prog (w3.drewN n) = .ok (.string ⟨tl.toArray⟩) (w3.drewN n) := fun n cc => HTK.out (w3.drewN n) ⟨B3.os, B3.tape, B3.output, B3.size, B3.block⟩ cc
      have hB3q : ∀ n, Below w.heap.size w (w3.drewN n) := fun n => ⟨B3.os, B3.tape, B3.output, B3.size, B3.block⟩
      clear b3 hd2 hd3 o3 HSS HTK HPC
      by_cases hs : sl = tl
      · have HY' := Lib.hid (HYY.out hs)
        subst hs
        go_wp2_with fail
        go_quiet (fail)
        have B4 := hB3q nq
        go_wp2_with fail
        refine bodyPost_ret (v := .tuple #[.slice (some ⟨b, o + k, none⟩) m (c - k), .int .i64 ((k + m + 4 : Nat) : Int), .bool true]) (by simp [results, Tryd.results16, go_sem]) rfl (HY'.out _ B4)
      · have HN' := Lib.hid (HNN.out hs)
        have hbq : (sl == tl) = false := by simpa using hs
        go_wp2_with fail
        go_quiet (fail)
        have B4 := hB3q nq
        go_wp2_with fail
        all_goals exact bodyPost_ret (v := .tuple #[.slice none 0 0, .int .i64 0, .bool false]) (by simp [results, Tryd.results16, go_sem]) rfl (HN'.out _ B4)
theorem sopen_yes (u : World) (p : Option Addr) (c : Nat) (l x : List UInt8) (k : Nat) (h : Bz u p c l) (hlen : l.length + 14 ≤ 140737488355328) (_hc : p = none → c = 0) (ho : openB l = some (x, k)) :
    Calls Tryd.prog 16 #[.slice p l.length c] u fun e u' => ∃ A cap, e = .returned (.tuple #[.slice A x.length cap, .int .i64 k, .bool true]) ∧ BsAt u' A x ∧ Below u.heap.size u u' := by
  refine (sopen_any u p c l h.1 hlen h.2.1 h.2.2).mono ?_
  rintro e u' ⟨h1, hb⟩
  rw [ho] at h1
  obtain ⟨A, cap, he, hz⟩ := h1
  exact ⟨A, cap, he, hz, hb⟩
theorem sopen_no (u : World) (p : Option Addr) (c : Nat) (l : List UInt8) (h : Bz u p c l) (hlen : l.length + 14 ≤ 140737488355328) (_hc : p = none → c = 0) (ho : openB l = none) :
    Calls Tryd.prog 16 #[.slice p l.length c] u fun e u' => e = .returned (.tuple #[.slice none 0 0, .int .i64 0, .bool false]) ∧ Below u.heap.size u u' := by
  refine (sopen_any u p c l h.1 hlen h.2.1 h.2.2).mono ?_
  rintro e u' ⟨h1, hb⟩
  rw [ho] at h1
  exact ⟨h1, hb⟩
end Go.Proofs.YtbppiiomjmpjkaaDoor
