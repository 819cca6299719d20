/- All keys of both. -/
import Derived.Test.YthcgjbpiiodlgaaDoorAm
namespace Go.Proofs.YthcgjbpiiodlgaaDoor
open Go.RowKit Mp Go.Sort
set_option linter.unusedVariables false

theorem enc_kb (k : ByteArray) : encStr (kb k) = .string k := rfl
theorem lcells_append : ∀ A B : List Lx, lcells (A ++ B) = lcells A ++ lcells B
  | [], B => rfl
  | x :: A, B => by rw [List.cons_append, lcells, lcells, lcells_append A B]; rfl
theorem lcells_len : ∀ A : List Lx, (lcells A).length = A.length * 2
  | [] => rfl
  | x :: A => by rw [lcells, List.length_cons, List.length_cons, lcells_len A, List.length_cons]; omega
theorem lcells_one : ∀ A : List Lx, ∀ u ∈ lcells A, u.oneCell' = true
  | [], u, h => by simp [lcells] at h
  | x :: A, u, h => by
    simp only [lcells, List.mem_cons] at h
    rcases h with rfl | rfl | h
    · rfl
    · rfl
    · exact lcells_one A u h
/-- Lines in memory, with where their numbers lie. -/
theorem lines_x {w : World} {la : Option Addr} {L : List Ln} (h : LnsAt w la L) : ∃ X : List Lx, X.map Prod.fst = L ∧ CsAt w la (lcells X) ∧ ∀ x ∈ X, LxOk w x := by
  rcases h with h | ⟨b, o, rfl, hc⟩
  · subst h; exact ⟨[], rfl, .inl rfl, by simp⟩
  · have H : ∀ k, k ≤ L.length → ∃ X : List Lx, X.map Prod.fst = L.take k ∧ (∀ j u, (lcells X)[j]? = some u → w.cell? ⟨b, o + j, none⟩ = some u) ∧ ∀ x ∈ X, LxOk w x := by
      intro k
      induction k with
      | zero => intro _; exact ⟨[], by simp, by simp [lcells], by simp⟩
      | succ k ih =>
        intro hk
        obtain ⟨X, h1, h2, h3⟩ := ih (by omega)
        obtain ⟨c0, ⟨fa, fc, c1, c2, c3, c4⟩, c5⟩ := hc k (by omega)
        have hX : X.length = k := by
          have := congrArg List.length h1
          simp at this; omega
        refine ⟨X ++ [(L[k], fa, fc)], ?_, ?_, ?_⟩
        · rw [List.map_append, h1, List.take_succ_eq_append_getElem (by omega)]; rfl
        · intro j u hu
          rw [lcells_append, List.getElem?_append] at hu
          split at hu
          · exact h2 j u hu
          · rename_i hlt
            rw [lcells_len, hX] at hlt hu
            simp only [lcells] at hu
            by_cases e0 : j = k * 2
            · subst e0
              simp at hu
              subst hu; exact c0
            · by_cases e1 : j = k * 2 + 1
              · subst e1
                rw [show k * 2 + 1 - k * 2 = 1 from by omega] at hu
                simp at hu
                subst hu; exact c1
              · rw [List.getElem?_eq_none (by simp; omega)] at hu; cases hu
        · intro x hx
          rcases List.mem_append.1 hx with h | h
          · exact h3 x h
          · simp at h; subst h; exact ⟨c2, c3, c4, c5⟩
    obtain ⟨X, h1, h2, h3⟩ := H L.length (Nat.le_refl _)
    rw [List.take_length] at h1
    exact ⟨X, h1, .inr ⟨b, o, rfl, h2⟩, h3⟩
theorem CsAt.lines {w : World} {la : Option Addr} {X : List Lx} (h : CsAt w la (lcells X)) (hx : ∀ x ∈ X, LxOk w x) : LnsAt w la (X.map Prod.fst) := by
  rcases h with h | ⟨b, o, rfl, hc⟩
  · have : X.length = 0 := by
      have := lcells_len X
      rw [h] at this; simp at this; omega
    exact .inl (by simp [List.eq_nil_of_length_eq_zero this])
  · exact lines_of_cells hc hx
theorem lx_b {w w' : World} {x : Lx} (h : LxOk w x) (hb : Below w.heap.size w w') : LxOk w' x := h.keep (Keeps.of hb)

/-- Texts. -/
theorem ks_info : (Tryd.prog.info? 9).map (fun i => (i.zero, i.size, i.bytes)) = some (some (.string ⟨#[]⟩), 1, 16) := by kernel_rfl
theorem ks_app {u : World} {v x : Value} {n m : Nat} {a b : List Value} (h : RwAt u 9 1 v n a) (hs : Src Tryd.prog 1 49 x m b u) (hl : n + m ≤ 1000000000) :
    ∃ A c w1, (Builtin.append_ #[49, 49] 49 #[v, x]).run Tryd.prog u = .ok (.slice A (n + m) c) w1 ∧ RwAt w1 9 1 (.slice A (n + m) c) (n + m) (a ++ b) ∧ u.grownBy w1 v.ownBlock ∧ (∀ b, Value.ownBlock (.slice A (n + m) c) = some b → v.ownBlock = some b ∨ u.heap.size ≤ b) := by
  obtain ⟨i0, hi, hz0, hz1, hz2⟩ := info_parts ks_info
  obtain ⟨A, c, w1, hrun, hown, hgr, hat⟩ := rw_append h 49 49 49 i0 _ 16 Tryd.underlying49 hi hz0 hz1 hz2 rfl x m b hs (by unfold maxLen; omega) (by omega)
  exact ⟨A, c, w1, hrun, hown, hgr, hat⟩
theorem ks_src {u : World} {g : Nat} {s : ByteArray} (hg : u.heap[g]? = some (.cells #[.string s] 9 (0, 0))) : Src Tryd.prog 1 49 (.slice (some ⟨g, 0, none⟩) 1 1) 1 [.string s] u :=
  Src.ofSlice _ Tryd.underlying49 _ 1 1 [.string s] rfl (World.news_of_block (cs := #[.string s]) hg) (fun x hx => by simp at hx; subst hx; rfl)
def kcells (l : List ByteArray) : List Value := l.map Value.string
theorem kcells_enc (l : List ByteArray) : kcells l = (l.map kb).map encStr := by simp [kcells, kb]
theorem kcells_take (l : List ByteArray) (k : Nat) (h : k < l.length) : kcells (l.take (k + 1)) = kcells (l.take k) ++ [.string l[k]] := by
  unfold kcells
  rw [List.take_succ_eq_append_getElem h, List.map_append]; rfl
set_option maxRecDepth 100000 in
set_option maxHeartbeats 2000000 in
theorem allKeys_any (w : World) (la lb : Option Addr) (c d n m : Nat) (a b : List Ln) (ha : LnsAt w la a) (hb : LnsAt w lb b) (hn : n = a.length) (hm : m = b.length) (hl : n ≤ 400) (hl2 : m ≤ 400) (hra : Ris a) (hrb : Ris b) :
    Calls Tryd.prog 20 #[.slice la n c, .slice lb m d] w fun e w' => ∃ A cc, e = .returned (.slice A (keysOf (mergeP a b)).length cc) ∧ CsAt w' A (kcells (keysOf (mergeP a b))) ∧ (keysOf (mergeP a b)).length ≤ cc ∧ Below w.heap.size w w' := by
  obtain ⟨Xa, ea, csa, oka⟩ := lines_x ha
  obtain ⟨Xb, eb, csb, okb⟩ := lines_x hb
  have hxa : Xa.length = n := by rw [hn, ← ea, List.length_map]
  have hxb : Xb.length = m := by rw [hm, ← eb, List.length_map]
  have hB0 : Below w.heap.size w (w.alloc (.cells #[.slice la n c, .slice lb m d] 22)) := (Below.refl _ _).alloc (Nat.le_refl _) _
  have HC := Lib.hid (ln_concat (w.alloc (.cells #[.slice la n c, .slice lb m d] 22)) (some ⟨w.heap.size, 0, none⟩) 2 2 [⟨la, n, c, lcells Xa⟩, ⟨lb, m, d, lcells Xb⟩]
    (.inr ⟨_, _, rfl, fun j u hu => by rw [Nat.zero_add]; exact cell_new _ _ _ (by simpa [slV] using hu)⟩) rfl (by omega)
    (by
      intro X hX u hu
      simp only [List.mem_cons, List.not_mem_nil, or_false] at hX
      rcases hX with rfl | rfl
      · exact src_cs Tryd.underlying22 ((csa.keep hB0).keep hu) (by rw [lcells_len, hxa]) (by omega) (lcells_one _)
      · exact src_cs Tryd.underlying22 ((csb.keep hB0).keep hu) (by rw [lcells_len, hxb]) (by omega) (lcells_one _))
    (by simp [allN]; omega))
  have e1 : allN [⟨la, n, c, lcells Xa⟩, ⟨lb, m, d, lcells Xb⟩] = n + m := by simp [allN]
  have e2 : allC [⟨la, n, c, lcells Xa⟩, ⟨lb, m, d, lcells Xb⟩] = lcells (Xa ++ Xb) := by simp [allC, lcells_append]
  rw [e1, e2] at HC
  have hK : keysOf (a ++ b) = (Xa ++ Xb).map (·.1.1) := by rw [← ea, ← eb]; simp [keysOf, Function.comp_def]
  have HK := Lib.hid hK
  have HKA := Lib.hid (keys_all hra hrb)
  have HKL : Hid ((keysOf (a ++ b)).length = n + m) := by show _ = _; simp [keysOf]; omega
  obtain ⟨X, hX⟩ : ∃ X, Xa ++ Xb = X := ⟨_, rfl⟩
  have hXl : X.length = n + m := by rw [← hX, List.length_append, hxa, hxb]
  have HXL := Lib.hid hXl
  rw [hX] at HC HK
  have HB0 := Lib.hid hB0
  clear ha hb csa csb oka okb ea eb hxa hxb e1 e2 hX hK hXl hn hm hra hrb hB0
  generalize keysOf (a ++ b) = KK at *
  generalize keysOf (mergeP a b) = KM at *
  obtain ⟨N, hN⟩ : ∃ N, n + m = N := ⟨_, rfl⟩
  have hN4 : N ≤ 800 := by omega
  rw [hN] at HC HXL HKL
  clear hN
  go_enter Tryd.func20, Tryd.ntmps20
  go_wp2_with fail
  refine HC.out.mono ?_
  rintro e u ⟨v, rfl, hT⟩
  obtain ⟨A0, c0, rfl, hle, hmx⟩ := hT.1.slice
  have HT := Lib.hid hT
  have HBu : Hid (Below w.heap.size w u) := HB0.out.trans (hT.2.2.mono (by simp))
  clear hT
  have H0 : Hid (Made w u 9 1 (.slice none 0 0) 0 (kcells (KK.take 0)) ∧ Below u.heap.size u u) := ⟨⟨by simp [kcells]; exact RwAt.nil _ _ _, by simp [Value.ownBlock], HBu.out⟩, Below.refl _ _⟩
  go_wp2_with fail
  go_loopw [5, 7, 13] (fun vv _ vi wr => ∃ k : Nat, vi = .int .i64 (k : Int) ∧ k ≤ N ∧ Hid (Made u wr 9 1 vv k (kcells (KK.take k)))) (fun _ _ vi _ => N - (intOf vi).toNat)
  case atStart => exact ⟨0, rfl, by omega, ⟨H0.out.1.1, by simp [Value.ownBlock], Below.refl _ _⟩⟩
  case round =>
    obtain ⟨k, rfl, hk, hM⟩ := hrel
    by_cases hlt : k < N
    · have hi : (k : Int) < (N : Int) := by omega
      have k1 : k < X.length := by have := HXL.out; omega
      have k2 : k < KK.length := by have := HKL.out; omega
      have hrow := HT.out.1.keep hM.out.2.2
      rcases hrow.cells with h0 | ⟨b', o', rfl, hc⟩
      · have := lcells_len X
        rw [h0] at this; simp at this; omega
      obtain ⟨e0, e1⟩ := lcells_at X k k1
      have c0 := hc _ _ e0
      have c1 := hc _ _ e1
      rw [← Nat.add_assoc] at c1
      have hkey : KK[k] = X[k].1.1 := by
        have := HK.out
        subst this; simp
      rw [← hkey] at c0
      have ht := kcells_take KK k k2
      have hW1 : Below wr.heap.size wr (wr.alloc (.cells #[.string KK[k], .slice X[k].2.1 X[k].1.2.length X[k].2.2] 39)) := (Below.refl _ _).alloc (Nat.le_refl _) _
      have hW2 : Below wr.heap.size wr ((wr.alloc (.cells #[.string KK[k], .slice X[k].2.1 X[k].1.2.length X[k].2.2] 39)).alloc (.cells #[.string KK[k]] 9)) := hW1.alloc (by simp) _
      obtain ⟨A1, cc1, w1, hrun, h1, h2, h3⟩ := ks_app (hM.out.1.keep hW2) (ks_src (g := wr.heap.size + 1) (s := KK[k]) (by
        have : ((wr.alloc (.cells #[.string KK[k], .slice X[k].2.1 X[k].1.2.length X[k].2.2] 39))).heap.size = wr.heap.size + 1 := by simp
        rw [← this]; exact heap_alloc_new _ _)) (by omega)
      obtain ⟨A0', cc', rfl, -, -⟩ := hM.out.1.slice
      have HR := Lib.hid hrun
      have HE : Hid (Made u w1 9 1 (.slice A1 (k + 1) cc1) (k + 1) (kcells (KK.take (k + 1)))) := by
        rw [← ht] at h1
        refine ⟨h1, fun b hb => ?_, below_grown (below_after hW2 hM.out.2.2) h2 hM.out.2.1⟩
        rcases h3 b hb with h | h
        · exact hM.out.2.1 b h
        · exact Nat.le_trans hM.out.2.2.size (Nat.le_trans hW2.size h)
      clear hrun h1 h2 h3 hM hW1 hW2 ht hrow hc e0 e1 hkey
      generalize X[k].2.1 = fa at *
      generalize X[k].2.2 = fc at *
      generalize X[k].1.2.length = q at *
      generalize KK[k] = key at *
      go_wp2_with (at_builtin; refine Lib.wpList_append_run _ rfl _ _ _ _ rfl _ _ rfl rfl _ _ HR.out ?_)
      exact ⟨⟨k + 1, by go_num, by omega, HE⟩, by simp [intOf]; omega⟩
    · have hi : ¬ (k : Int) < (N : Int) := by omega
      have ht : KK.take k = KK := List.take_of_length_le (by have := HKL.out; omega)
      rw [ht] at hM
      have hkN : k = N := by omega
      rw [hkN] at hM
      have hsr : SrtAt wr u5 (KK.map kb) := rw_srt (by have := hM.out.1; rw [kcells_enc] at this; exact this) (by rw [List.length_map, HKL.out])
      have HS := Lib.hid (sort_any wr u5 _ hsr (by rw [List.length_map, HKL.out]; omega))
      have hBr : Below w.heap.size w wr := below_after hM.out.2.2 HBu.out
      have hvb : ∀ b, u5.ownBlock = some b → w.heap.size ≤ b := fun b hb => Nat.le_trans HBu.out.size (hM.out.2.1 b hb)
      have HBr := Lib.hid hBr
      have HVB := Lib.hid hvb
      clear ht hM hkN hsr hBr hvb
      go_wp2_with fail
      refine HS.out.mono ?_
      rintro e u2 ⟨rfl, hs2, ho2⟩
      have HCo := Lib.hid (comp_any u2 u5 _ hs2 (by rw [sortB_len, List.length_map, HKL.out]; omega))
      have HB2 : Hid (Below w.heap.size w u2) := ho2.below HBr.out HVB.out
      rw [HKA.out] at HCo
      rw [List.length_map, ← kcells_enc] at HCo
      clear hs2 ho2
      go_wp2_with fail
      refine HCo.out.mono ?_
      rintro e u3 ⟨A3, c3, rfl, hc3, hl3, ho3⟩
      have HE : Hid (CsAt u3 A3 (kcells KM) ∧ KM.length ≤ c3 ∧ Below w.heap.size w u3) := ⟨hc3, hl3, ho3.below HB2.out HVB.out⟩
      clear hc3 hl3 ho3
      go_wp2_with fail
      go_ret
      exact ⟨A3, c3, rfl, HE.out⟩
end Go.Proofs.YthcgjbpiiodlgaaDoor
