/- The document's Slide. -/
import Derived.Test.YtfpfaekbakilpaaDoorOg
import Derived.Test.YtfpfaekbakilpaaDoorPureWn
namespace Go.Proofs.YtfpfaekbakilpaaDoor
open Go.RowKit
set_option linter.unusedVariables false

def slE (l : List Rg) (size by_ slack : Int) : Nat := if 400 < l.length then 4 else if l.any badR then 1 else if spanB size && spanB by_ && slackB slack && decide (size ≤ 16 * by_) then 0 else 1
def SlEnd (w : World) (D : List Pn) (E : Nat) (e : Ending) (w' : World) : Prop :=
  (E ≠ 0 ∧ e = .returned (.tuple #[.slice none 0 0, .int .i64 (E : Nat)]) ∧ Below w.heap.size w w') ∨
  (E = 0 ∧ ∃ A cap, e = .returned (.tuple #[.slice A D.length cap, .int .i64 0]) ∧ CsAt w' A (pcells D) ∧ Below w.heap.size w w')
theorem SlEnd.no {w : World} {D : List Pn} {E : Nat} {e : Ending} {w' : World} (h0 : E ≠ 0) (he : e = .returned (.tuple #[.slice none 0 0, .int .i64 (E : Nat)])) (hb : Below w.heap.size w w') : SlEnd w D E e w' := .inl ⟨h0, he, hb⟩
theorem pcells_set (f : Pn → Pn) (x : Value) (j : Nat) (hj : j < 6) : ∀ (M : List Pn) (i : Nat) (h : i < M.length) (q : Pn), (∀ t, pcells (q :: t) = (pcells (M[i] :: t)).set j x) → pcells (M.set i q) = (pcells M).set (i * 6 + j) x
  | [], i, h, _, _ => by simp at h
  | p :: M, 0, h, q, hq => by
    rw [List.set_cons_zero, Nat.zero_mul, Nat.zero_add]
    exact hq M
  | p :: M, i + 1, h, q, hq => by
    have ih := pcells_set f x j hj M i (by simpa using h) q (by simpa using hq)
    rw [List.set_cons_succ]
    show .string p.key :: .int .i64 p.fr :: .int .i64 p.to :: .int .i64 p.mn :: .int .i64 p.sm :: .int .i64 p.lt :: pcells (M.set i q) = _
    rw [ih]
    have e : (i + 1) * 6 + j = i * 6 + j + 6 := by omega
    rw [e]
    rfl
/-- A cell of a row is set. -/
theorem PnR.setc {w : World} {g o n c : Nat} {M : List Pn} (h : PnR w (.slice (some ⟨g, o, none⟩) n c) M) (i : Nat) (hi : i < M.length) (j : Nat) (hj : j < 6) (q : Pn) (x : Value) (hq : ∀ t, pcells (q :: t) = (pcells (M[i] :: t)).set j x) :
    PnR (w.setCell ⟨g, o + i * 6 + j, none⟩ x) (.slice (some ⟨g, o, none⟩) n c) (M.set i q) := by
  have hp := pcells_set (fun p => p) x j hj M i hi q hq
  unfold PnR at h ⊢
  rw [List.length_set, hp]
  obtain ⟨h1, h2⟩ := h
  refine ⟨by rw [List.length_set]; exact h1, ?_⟩
  rcases h2 with ⟨h2, -⟩ | ⟨g', o', cap, cur, hv, hc, hle, hm, hr, ht⟩
  · cases h2
  · injection hv with e1 e2 e3
    injection e1 with e1
    injection e1 with e1 e4
    subst e1 e2 e3 e4
    refine .inr ⟨g, o, c, cur.setIfInBounds (o + i * 6 + j) x, rfl, heap_set_s w g (o + i * 6 + j) cur _ _ hc x, hle, hm, by simpa using hr, ?_⟩
    rw [Array.toList_setIfInBounds]
    rw [← ht]
    have e5 : o + i * 6 + j = o + (i * 6 + j) := by omega
    rw [e5, List.drop_set, if_neg (by omega)]
    have e6 : o + (i * 6 + j) - o = i * 6 + j := by omega
    rw [e6, List.take_set]
theorem PnR.blk {w : World} {g o n c : Nat} {M : List Pn} (h : PnR w (.slice (some ⟨g, o, none⟩) n c) M) : ∃ cur, w.heap[g]? = some (.cells cur 49 (0, 0)) := by
  rcases h.2 with ⟨h2, -⟩ | ⟨g', o', cap, cur, hv, hc, -⟩
  · cases h2
  · injection hv with e1 e2 e3
    injection e1 with e1
    injection e1 with e1 e4
    subst e1
    exact ⟨cur, hc⟩
set_option maxRecDepth 100000 in
set_option maxHeartbeats 8000000 in
theorem sslide_any (w : World) (la : Option Addr) (c : Nat) (l : List Rg) (size by_ slack : Int) (h : CsAt w la (rcells l)) (hn : l.length ≤ 9223372036854775807) (hks : ∀ r ∈ l, r.key.size ≤ 9223372036854775807) :
    Calls Tryd.prog 6 #[.slice la l.length c, .int .i64 size, .int .i64 by_, .int .i64 slack] w fun e w' => SlEnd w (slideP size by_ slack l) (slE l size by_ slack) e w' := by
  obtain ⟨E, hE⟩ : ∃ E, E = slE l size by_ slack := ⟨_, rfl⟩
  rw [← hE]
  have HE := Lib.hid hE
  clear hE
  have H := Lib.hid h
  have HK := Lib.hid hks
  clear h hks
  by_cases hmany : 400 < l.length
  · have hm' : (400 : Int) < l.length := by omega
    have e4 : E = 4 := by rw [HE.out]; unfold slE; rw [if_pos hmany]
    subst e4
    go_enter Tryd.func6, Tryd.ntmps6
    go_wp2_with fail
    go_ret2
    exact SlEnd.no (by decide) rfl (Below.refl _ _)
  have hm' : ¬ (400 : Int) < l.length := by omega
  have e4 : E = if l.any badR then 1 else if spanB size && spanB by_ && slackB slack && decide (size ≤ 16 * by_) then 0 else 1 := by rw [HE.out]; unfold slE; rw [if_neg hmany]
  have HE' := Lib.hid e4
  clear e4 HE
  go_enter Tryd.func6, Tryd.ntmps6
  go_upto_block 0 with fail
  go_cut [10] (fun n wc => l.any badR = false ∧ Below w.heap.size w wc)
  case first =>
    go_wp2_with fail
    go_loopw [10] (fun i wr => ∃ j : Nat, j ≤ l.length ∧ i = .int .i64 j ∧ (l.take j).any badR = false ∧ Below w.heap.size w wr) (fun i _ => l.length - (intOf i).toNat)
    case atStart => exact ⟨0, by omega, rfl, by simp, Below.refl _ _⟩
    case round =>
      obtain ⟨j, hj, rfl, hno2, hb2⟩ := hrel
      by_cases hlt2 : j < l.length
      · obtain ⟨b, o, rfl, c0, c1, c2⟩ := rcs_at ((H.out).keep hb2) j hlt2
        have hat := fun hf => any_at (f := badR) j hlt2 hf
        have hsn := any_snoc badR l j hlt2
        have hkk := HK.out _ (List.getElem_mem hlt2)
        have hBz := hb2.size
        rw [hno2, Bool.false_or] at hsn
        generalize l[j] = r at *
        have HC := fun u => srec_any r u hkk
        obtain ⟨key, num, tm⟩ := r
        simp only [rV] at c0 c1 c2 hkk HC
        generalize badR ⟨key, num, tm⟩ = bb at *
        cases bb with
        | true =>
          have e1 : E = 1 := by rw [HE'.out, if_pos (hat rfl)]
          subst e1
          clear hat hsn hno2
          go_wp2_with (go_at_call 16; refine (HC _).mono ?_; rintro e w' ⟨rfl, hb3⟩)
          go_ret2
          exact SlEnd.no (by decide) rfl (hb2.trans (hb3.mono hBz))
        | false =>
          have HSN := Lib.hid hsn
          clear hat hsn hno2
          go_wp2_with (go_at_call 16; refine (HC _).mono ?_; rintro e w' ⟨rfl, hb3⟩)
          go_roundw
          case rel => exact ⟨j + 1, by omega, by go_num, HSN.out, hb2.trans (hb3.mono hBz)⟩
          case measure => simp [intOf]; omega
      · have e : l.take j = l := List.take_of_length_le (by omega)
        rw [e] at hno2
        have HN2 := Lib.hid hno2
        clear hno2 e
        go_wp2_with fail
        go_meet
        exact ⟨HN2.out, hb2⟩
  case rest =>
    obtain ⟨hall, hb⟩ := hcut
    have e5 : E = if spanB size && spanB by_ && slackB slack && decide (size ≤ 16 * by_) then 0 else 1 := by rw [HE'.out, hall]; rfl
    have HAL := Lib.hid hall
    have HE2 := Lib.hid e5
    clear hall e5 HE'
    rename World => W
    by_cases hs1 : size < 1
    · have e1 : E = 1 := by
        rw [HE2.out, if_neg]
        unfold spanB slackB; simp; omega
      subst e1
      go_wp2_with fail
      go_ret2
      exact SlEnd.no (by decide) rfl hb
    by_cases hs2 : 1000000 < size
    · have e1 : E = 1 := by
        rw [HE2.out, if_neg]
        unfold spanB slackB; simp; omega
      subst e1
      go_wp2_with fail
      go_ret2
      exact SlEnd.no (by decide) rfl hb
    by_cases hs3 : by_ < 1
    · have e1 : E = 1 := by
        rw [HE2.out, if_neg]
        unfold spanB slackB; simp; omega
      subst e1
      go_wp2_with fail
      go_ret2
      exact SlEnd.no (by decide) rfl hb
    by_cases hs4 : 1000000 < by_
    · have e1 : E = 1 := by
        rw [HE2.out, if_neg]
        unfold spanB slackB; simp; omega
      subst e1
      go_wp2_with fail
      go_ret2
      exact SlEnd.no (by decide) rfl hb
    by_cases hs5 : slack < 0
    · have e1 : E = 1 := by
        rw [HE2.out, if_neg]
        unfold spanB slackB; simp; omega
      subst e1
      go_wp2_with fail
      go_ret2
      exact SlEnd.no (by decide) rfl hb
    by_cases hs6 : 1000000 < slack
    · have e1 : E = 1 := by
        rw [HE2.out, if_neg]
        unfold spanB slackB; simp; omega
      subst e1
      go_wp2_with fail
      go_ret2
      exact SlEnd.no (by decide) rfl hb
    by_cases hs7 : 16 * by_ < size
    · have e1 : E = 1 := by
        rw [HE2.out, if_neg]
        unfold spanB slackB; simp; omega
      subst e1
      go_wp2_with fail
      go_ret2
      exact SlEnd.no (by decide) rfl hb
    have z1 : 1 ≤ size := by omega
    have z2 : size ≤ 1000000 := by omega
    have z3 : 1 ≤ by_ := by omega
    have z4 : by_ ≤ 1000000 := by omega
    have z5 : 0 ≤ slack := by omega
    have z6 : slack ≤ 1000000 := by omega
    have z7 : size ≤ 16 * by_ := by omega
    have e1 : E = 0 := by
      rw [HE2.out, if_pos]
      unfold spanB slackB
      simp
      omega
    subst e1
    clear HE2
    have hgood : ∀ r ∈ l, 0 ≤ r.tm ∧ r.tm ≤ 1000000 := fun r h1 => by
      have h2 : badR r = false := by
        cases hb : badR r with
        | false => rfl
        | true => have := List.any_eq_true.2 ⟨r, h1, hb⟩; rw [HAL.out] at this; cases this
      unfold badR at h2
      simp only [Bool.not_eq_false', Bool.and_eq_true, decide_eq_true_eq] at h2
      omega
    have HG := Lib.hid hgood
    have HSL := Lib.hid (slS_take size by_ slack l)
    have HSR := Lib.hid (fun k => slS_ris size by_ slack (l.take k))
    have HSN := Lib.hid (fun k => slS_len (slack := slack) z3 z7 (l.take k))
    have HSM := Lib.hid (fun k => slS_mark (size := size) (by_ := by_) (slack := slack) (l.take k) (fun r hr => (hgood r (List.mem_of_mem_take hr)).2) z5)
    have HST : Hid (∀ k, ∀ p ∈ (slS size by_ slack (l.take k)).1, p.to = p.fr + size) := Lib.hid (fun k => (sl_iv (slack := slack) z3 z7 (l.take k) (by rw [List.length_take]; omega)).1.to)
    have HS0 : Hid (slS size by_ slack (l.take 0) = ([], 0)) := Lib.hid rfl
    have HSE : Hid (slideP size by_ slack l = (slS size by_ slack (l.take l.length)).1) := by rw [List.take_length]; exact Lib.hid rfl
    clear hgood HAL hmany
    generalize slS size by_ slack = SS at *
    go_wp2_with fail
    go_loopw [12, 13, 14] (fun v mk i wr => ∃ (k : Nat), k ≤ l.length ∧ i = .int .i64 k ∧ mk = .int .i64 (SS (l.take k)).2 ∧ PnR wr v (SS (l.take k)).1 ∧ (∀ b, Value.ownBlock v = some b → W.heap.size ≤ b) ∧ Below W.heap.size W wr) (fun _ _ i _ => l.length - (intOf i).toNat)
    case atStart => exact ⟨0, by omega, rfl, by rw [HS0.out], by rw [HS0.out]; exact PnR.nil _, by simp [Value.ownBlock], Below.refl _ _⟩
    case round =>
      rename World => wo
      obtain ⟨k, hk, rfl, rfl, hrow, hown, hb4⟩ := hrel
      by_cases hlt : k < l.length
      · obtain ⟨b, o, rfl, c0, c1, c2⟩ := rcs_at ((H.out).keep (hb.trans (hb4.mono hb.size))) k hlt
        have hln := HSN.out k
        have hrs := HSR.out k
        obtain ⟨m0, m1⟩ := HSM.out k
        have hto := HST.out k
        have hgr := HG.out _ (List.getElem_mem hlt)
        have hnx := HSL.out k hlt
        rw [List.length_take] at hln
        generalize SS (l.take k) = S at *
        obtain ⟨L, mark⟩ := S
        generalize l[k] = r at *
        obtain ⟨key, num, tm⟩ := r
        simp only at c0 c1 c2 hgr hln hrs m0 m1 hto hnx hrow
        obtain ⟨t0, t1⟩ := hgr
        obtain ⟨d0, d1, d2, d3, d4⟩ := div_bd z3 t0
        have HDT := Lib.hid (fun m hm h => docTo_upd (size := size) (by_ := by_) (mark := mark) (r := ⟨key, num, tm⟩) (L := L) z3 t0 z1 m hm h)
        have HDS := Lib.hid (fun m hm h => docTo_skip (size := size) (by_ := by_) (mark := mark) (r := ⟨key, num, tm⟩) (L := L) z3 t0 z1 m hm h)
        have HDR := Lib.hid (fun m => docTo_ris (size := size) (by_ := by_) (mark := mark) (r := ⟨key, num, tm⟩) hrs m)
        have HDL := Lib.hid (fun m => docTo_len (size := size) (by_ := by_) (mark := mark) (r := ⟨key, num, tm⟩) hrs m)
        have HDO := Lib.hid (fun m => docTo_to (by_ := by_) (mark := mark) (r := ⟨key, num, tm⟩) hto m)
        have HD0 : Hid (docTo size by_ mark ⟨key, num, tm⟩ L 0 = L) := Lib.hid rfl
        rw [← doc_take (size := size) (mark := mark) (r := ⟨key, num, tm⟩) hrs z3 z7] at hnx
        have HNX := Lib.hid hnx
        have HFB := Lib.hid (fun m hm => frmM_bd z3 z4 t0 t1 m hm)
        have HFS := Lib.hid (fun m => frmM_succ tm by_ m)
        have hf0 := frmM_zero tm by_
        have HF0 := Lib.hid hf0
        have HROW := Lib.hid hrow
        have HOWN := Lib.hid hown
        have hbz := hb4.size
        clear hnx hrs hto hf0 hrow hown
        simp only at HDT HDS HFB HFS HF0
        generalize hDT : docTo size by_ mark ⟨key, num, tm⟩ L = DT at *
        clear hDT
        generalize hFM : frmM tm by_ = FM at *
        clear hFM
        have hq : tm / by_ * by_ - 17 * by_ = FM 0 := HF0.out
        have HRB : Hid (∀ u : World, u.heap[wo.heap.size]? = some (.cells #[.string key, .int .i64 num, .int .i64 tm] 47 (0, 0)) → u.cell? ⟨wo.heap.size, 0, none⟩ = some (.string key) ∧ u.cell? ⟨wo.heap.size, 1, none⟩ = some (.int .i64 num) ∧ u.cell? ⟨wo.heap.size, 2, none⟩ = some (.int .i64 tm)) := Lib.hid (fun u hu => by simp [World.cell?, hu])
        have hblk0 := heap_new wo (.cells #[.string key, .int .i64 num, .int .i64 tm] 47)
        have hb40 : Below W.heap.size W (wo.alloc (.cells #[.string key, .int .i64 num, .int .i64 tm] 47)) := hb4.alloc hbz _
        have hr40 : PnR (wo.alloc (.cells #[.string key, .int .i64 num, .int .i64 tm] 47)) u12 (DT 0) := by rw [HD0.out]; exact HROW.out.keep ((Below.refl _ _).alloc (Nat.le_refl _) _)
        have HBK0 := Lib.hid hblk0
        have HB40 := Lib.hid hb40
        have HR40 := Lib.hid hr40
        clear hblk0 hb40 hr40 HROW
        go_upto_block 4 with fail
        go_cut [12] (fun v wy => PnR wy v (DT 18) ∧ (∀ b, Value.ownBlock v = some b → W.heap.size ≤ b) ∧ wy.heap[wo.heap.size]? = some (.cells #[.string key, .int .i64 num, .int .i64 tm] 47 (0, 0)) ∧ Below W.heap.size W wy)
        case first =>
          go_wp2_with fail
          go_loopw [12, 17] (fun v f wz => ∃ m : Nat, m ≤ 18 ∧ f = .int .i64 (FM m) ∧ PnR wz v (DT m) ∧ (∀ b, Value.ownBlock v = some b → W.heap.size ≤ b) ∧ wz.heap[wo.heap.size]? = some (.cells #[.string key, .int .i64 num, .int .i64 tm] 47 (0, 0)) ∧ Below W.heap.size W wz) (fun _ f _ => (2000001 - intOf f).toNat)
          case atStart => exact ⟨0, by omega, rfl, HR40.out, HOWN.out, HBK0.out, HB40.out⟩
          case round =>
            rename World => wz
            obtain ⟨m, hm, rfl, hrow, hown, hblk, hb5⟩ := hrel
            obtain ⟨r0, r1, r2⟩ := HRB.out wz hblk
            obtain ⟨f0, f1, f2, f3⟩ := HFB.out m hm
            have hfs := HFS.out m
            by_cases hm17 : m ≤ 17
            · have f4 := f2 hm17
              have hdt := HDT.out m hm17
              have hds := HDS.out m hm17
              have hdl := HDL.out m
              have hto := HDO.out m
              have hdr := HDR.out m
              generalize FM m = f at *
              generalize DT m = L1 at *
              have HDT1 := Lib.hid hdt
              have HDS1 := Lib.hid hds
              have HROW1 := Lib.hid hrow
              have HOW1 := Lib.hid hown
              have HBLK := Lib.hid hblk
              have HFS1 := Lib.hid hfs
              have HTO := Lib.hid hto
              have HRI := Lib.hid hdr
              have hlz := some_lt hblk
              clear hdt hds hrow hown hblk hfs f2 f3 hto hdr
              by_cases hf0 : f < 0
              · clear r0 r1
                go_wp2_with fail
                exact ⟨⟨m + 1, by omega, by rw [HFS1.out], by rw [HDS1.out (fun e => by omega)]; exact HROW1.out, HOW1.out, HBLK.out, hb5⟩, by simp [intOf]; omega⟩
              by_cases hf1 : f + size ≤ tm
              · clear r0 r1
                go_wp2_with fail
                exact ⟨⟨m + 1, by omega, by rw [HFS1.out], by rw [HDS1.out (fun e => by omega)]; exact HROW1.out, HOW1.out, HBLK.out, hb5⟩, by simp [intOf]; omega⟩
              have hdt := HDT1.out ⟨by omega, by omega⟩
              have HDT2 := Lib.hid hdt
              clear hdt HDT1 HDS1
              obtain ⟨AK, cK, rfl, hcK, hcKm⟩ := HROW1.out.slice
              have hLb : L1.length ≤ 100000 := by omega
              have hpl := plcP_le L1 (z0 key f size)
              have HLT : Hid (∀ i x, i < plcP L1 (z0 key f size) → L1[i]? = some x → Ah x (z0 key f size)) := Lib.hid (fun i x hi hx => by
                obtain ⟨h1, h2⟩ := List.getElem?_eq_some_iff.1 hx
                rw [← h2]; exact plcP_lt HRI.out _ i hi)
              have HGE : Hid (∀ x, L1[plcP L1 (z0 key f size)]? = some x → ¬ Ah x (z0 key f size)) := Lib.hid (fun x hx => by
                obtain ⟨h1, h2⟩ := List.getElem?_eq_some_iff.1 hx
                rw [← h2]; exact plcP_ge HRI.out _ h1)
              have HUF : Hid (∀ q, L1[plcP L1 (z0 key f size)]? = some q → q.key = key → q.fr = f → upd size mark ⟨key, num, tm⟩ L1 f = L1.set (plcP L1 (z0 key f size)) (bump size mark ⟨key, num, tm⟩ f q)) := Lib.hid (fun q hq h1 h2 => by
                obtain ⟨h3, h4⟩ := List.getElem?_eq_some_iff.1 hq
                have := upd_found (mark := mark) (r := ⟨key, num, tm⟩) HRI.out HTO.out f h3 ⟨by rw [h4]; exact h1, by rw [h4]; exact h2⟩
                rw [h4] at this; exact this)
              have HUN : Hid ((∀ q, L1[plcP L1 (z0 key f size)]? = some q → ¬ (q.key = key ∧ q.fr = f)) → upd size mark ⟨key, num, tm⟩ L1 f = (L1.take (plcP L1 (z0 key f size)) ++ z0 key f size :: L1.drop (plcP L1 (z0 key f size))).set (plcP L1 (z0 key f size)) (bump size mark ⟨key, num, tm⟩ f (z0 key f size))) := Lib.hid (fun hn => upd_new (mark := mark) (r := ⟨key, num, tm⟩) HRI.out f (fun hk => hn _ (List.getElem?_eq_getElem hk)))
              clear HRI
              generalize plcP L1 (z0 key f size) = N at *
              have hff0 : ¬ f < 0 := hf0
              go_upto_block 6 with fail
              go_cut [18] (fun v wx => v = .int .i64 (N : Nat) ∧ Below wz.heap.size wz wx)
              case first =>
                as_aux_lemma =>
                  go_wp2_with fail
                  go_loopw [18] (fun i wx => ∃ p : Nat, p ≤ N ∧ i = .int .i64 p ∧ Below wz.heap.size wz wx) (fun i _ => L1.length + 1 - (intOf i).toNat)
                  case atStart => exact ⟨0, by omega, rfl, Below.refl _ _⟩
                  case round =>
                    rename World => wx
                    obtain ⟨p, hp, rfl, hbx⟩ := hrel
                    have hbl := (hbx.block wo.heap.size hlz).trans HBLK.out
                    have p0 : wx.cell? ⟨wo.heap.size, 0, none⟩ = some (.string key) := by simp [World.cell?, hbl]
                    by_cases hpn : p < N
                    · obtain ⟨g, og, rfl, q0, q1, -⟩ := pns_at (HROW1.out.keep hbx).cs p (by omega)
                      have hA := HLT.out p _ hpn (List.getElem?_eq_getElem (by omega))
                      have hki : (p : Int) < (L1.length : Int) := by omega
                      generalize L1[p]'(by omega) = x at *
                      obtain ⟨qk, qf, qt, qm, qs, ql⟩ := x
                      simp only at q0 q1
                      have HBX := Lib.hid hbx
                      clear hbl hbx r0 r1 r2
                      rcases hA with h1 | ⟨h1, h2⟩
                      · have hl := less_kb h1
                        simp only [z0] at hl
                        clear h1
                        go_wp2_with fail
                        go_quiet (fail)
                        go_wp2_with fail
                        exact ⟨⟨p + 1, by omega, by go_num, ⟨HBX.out.os, HBX.out.tape, HBX.out.output, HBX.out.size, HBX.out.block⟩⟩, by simp [intOf]; omega⟩
                      · simp only [z0] at h1 h2
                        subst h1
                        have hl := less_kbn (List.lt_irrefl (kb qk))
                        go_wp2_with fail
                        go_quiet (fail)
                        go_wp2_with fail
                        exact ⟨⟨p + 1, by omega, by go_num, ⟨HBX.out.os, HBX.out.tape, HBX.out.output, HBX.out.size, HBX.out.block⟩⟩, by simp [intOf]; omega⟩
                    · have epn : p = N := by omega
                      subst epn
                      by_cases hpK : p < L1.length
                      · obtain ⟨g, og, rfl, q0, q1, -⟩ := pns_at (HROW1.out.keep hbx).cs p hpK
                        have hA := HGE.out _ (List.getElem?_eq_getElem hpK)
                        have hki : (p : Int) < (L1.length : Int) := by omega
                        clear HUF HUN HLT HGE
                        generalize L1[p] = x at *
                        obtain ⟨qk, qf, qt, qm, qs, ql⟩ := x
                        simp only at q0 q1
                        unfold Ah AhK at hA
                        simp only [z0] at hA
                        have hl := less_kbn (a := qk) (b := key) (fun e => hA (.inl e))
                        have HBX := Lib.hid hbx
                        clear hbl hbx r0 r1 r2
                        by_cases h1 : qk = key
                        · subst h1
                          have h2 : ¬ qf < f := fun e => hA (.inr ⟨rfl, e⟩)
                          have h3 : decide (qf < f) = false := by simp; omega
                          clear hA
                          go_wp2_with fail
                          go_quiet (fail)
                          go_wp2_with fail
                          go_meet
                          exact ⟨rfl, ⟨HBX.out.os, HBX.out.tape, HBX.out.output, HBX.out.size, HBX.out.block⟩⟩
                        · have h3 := str_ne2 h1
                          clear hA
                          go_wp2_with fail
                          go_quiet (fail)
                          go_wp2_with fail
                          go_meet
                          exact ⟨rfl, ⟨HBX.out.os, HBX.out.tape, HBX.out.output, HBX.out.size, HBX.out.block⟩⟩
                      · have epk : p = L1.length := by omega
                        have hki : ¬ (p : Int) < (L1.length : Int) := by omega
                        have hkd : decide ((p : Int) < (L1.length : Int)) = false := by simp; omega
                        have HBX := Lib.hid hbx
                        clear hbl hbx r0 r1 r2
                        go_wp2_with fail
                        go_quiet (fail)
                        go_wp2_with fail
                        go_meet
                        exact ⟨by rw [epk], ⟨HBX.out.os, HBX.out.tape, HBX.out.output, HBX.out.size, HBX.out.block⟩⟩
              case rest =>
                obtain ⟨rfl, hbx⟩ := hcut
                rename World => wx
                have hKx := HROW1.out.keep hbx
                have hBx := hb5.trans (hbx.mono hb5.size)
                have hblx := (hbx.block wo.heap.size hlz).trans HBLK.out
                obtain ⟨x0, x1, x2⟩ := HRB.out wx hblx
                have HBX := Lib.hid hBx
                have HBLX := Lib.hid hblx
                have HKX := Lib.hid hKx
                clear hKx hBx hblx HROW1 HBLK hb5 hbx r0 r1 r2 HLT HGE
                obtain ⟨fnd, hfnd⟩ : ∃ fnd : Bool, (fnd = true → ∃ q, L1[N]? = some q ∧ q.key = key ∧ q.fr = f) ∧ (fnd = false → ∀ q, L1[N]? = some q → ¬ (q.key = key ∧ q.fr = f)) := by
                  by_cases h : ∃ q, L1[N]? = some q ∧ q.key = key ∧ q.fr = f
                  · exact ⟨true, fun _ => h, fun e => by cases e⟩
                  · exact ⟨false, (fun e => by cases e), fun _ q hq e => h ⟨q, hq, e⟩⟩
                have HFND := Lib.hid hfnd
                clear hfnd
                go_upto_region 25 with fail
                go_cut [158] (fun v wv => v = .bool (!fnd) ∧ Below wx.heap.size wx wv)
                case first =>
                  as_aux_lemma =>
                    cases hfc : fnd with
                    | true =>
                      obtain ⟨q, hq, q1, q2⟩ := HFND.out.1 hfc
                      obtain ⟨hNl, hq2⟩ := List.getElem?_eq_some_iff.1 hq
                      obtain ⟨g, og, rfl, y0, y1, -⟩ := pns_at HKX.out.cs N hNl
                      rw [hq2, q1] at y0
                      rw [hq2, q2] at y1
                      have hki : (N : Int) < (L1.length : Int) := by omega
                      have hkn : ((N : Int) == (L1.length : Int)) = false := by simp; omega
                      have hkn2 : ¬ (N : Int) = (L1.length : Int) := by omega
                      clear hq hq2 q1 q2
                      go_quiet (fail)
                      go_wp2_with fail
                      go_meet
                      exact ⟨by rw [hfc]; first | rfl | (simp; done) | (simp; exact h2), ⟨rfl, rfl, rfl, Nat.le_refl _, fun _ _ => rfl⟩⟩
                    | false =>
                      have hno := HFND.out.2 hfc
                      by_cases hNl : N < L1.length
                      · obtain ⟨g, og, rfl, y0, y1, -⟩ := pns_at HKX.out.cs N hNl
                        have hno1 := hno _ (List.getElem?_eq_getElem hNl)
                        have hki : (N : Int) < (L1.length : Int) := by omega
                        have hkn : ((N : Int) == (L1.length : Int)) = false := by simp; omega
                        have hkn2 : ¬ (N : Int) = (L1.length : Int) := by omega
                        clear hno HUF HUN HFND
                        generalize L1[N] = x at *
                        obtain ⟨qk, qf, qt, qm, qs, ql⟩ := x
                        simp only at y0 y1 hno1
                        by_cases h1 : qk = key
                        · subst h1
                          have h2 : ¬ qf = f := fun e => hno1 ⟨rfl, e⟩
                          have h3 : (qf == f) = false := by simpa using h2
                          clear hno1
                          go_quiet (fail)
                          go_wp2_with fail
                          go_meet
                          exact ⟨by rw [hfc]; first | rfl | (simp; done) | (simp; exact h2), ⟨rfl, rfl, rfl, Nat.le_refl _, fun _ _ => rfl⟩⟩
                        · have h3 := str_ne2 h1
                          clear hno1
                          go_quiet (fail)
                          go_wp2_with fail
                          go_meet
                          exact ⟨by rw [hfc]; first | rfl | (simp; done) | (simp; exact h2), ⟨rfl, rfl, rfl, Nat.le_refl _, fun _ _ => rfl⟩⟩
                      · have hkn : ((N : Int) == (L1.length : Int)) = true := by simp; omega
                        clear hno HUF HUN HFND
                        go_quiet (fail)
                        go_wp2_with fail
                        go_meet
                        exact ⟨by rw [hfc]; first | rfl | (simp; done) | (simp; exact h2), ⟨rfl, rfl, rfl, Nat.le_refl _, fun _ _ => rfl⟩⟩
                case rest =>
                  obtain ⟨rfl, hbv⟩ := hcut
                  rename World => wv
                  have hKv := HKX.out.keep hbv
                  have hBv := HBX.out.trans (hbv.mono HBX.out.size)
                  have hblv := (hbv.block wo.heap.size (some_lt HBLX.out)).trans HBLX.out
                  have HBV := Lib.hid hBv
                  have HBLV := Lib.hid hblv
                  have HKV := Lib.hid hKv
                  clear hKv hBv hblv HKX HBX HBLX hbv x0 x1 x2
                  go_upto_if 158 with fail
                  go_cut [12] (fun v wt => ∃ g o c M q, v = .slice (some ⟨g, o, none⟩) M.length c ∧ PnR wt (.slice (some ⟨g, o, none⟩) M.length c) M ∧ M[N]? = some q ∧ q.key = key ∧ q.fr = f ∧ q.to = f + size ∧ upd size mark ⟨key, num, tm⟩ L1 f = M.set N (bump size mark ⟨key, num, tm⟩ f q) ∧ W.heap.size ≤ g ∧ wt.heap[wo.heap.size]? = some (.cells #[.string key, .int .i64 num, .int .i64 tm] 47 (0, 0)) ∧ Below W.heap.size W wt)
                  case first =>
                    have hN0 : (0 : Int) ≤ (N : Int) := by omega
                    have hNc : (N : Int) ≤ (cK : Int) := by omega
                    have hNK : (N : Int) ≤ (L1.length : Int) := by omega
                    cases fnd with
                    | true =>
                      obtain ⟨q, hq, q1, q2⟩ := HFND.out.1 rfl
                      obtain ⟨hNl, hq2⟩ := List.getElem?_eq_some_iff.1 hq
                      obtain ⟨g, og, rfl, -⟩ := pns_at HKV.out.cs N hNl
                      have hto := HTO.out q (List.mem_of_getElem? hq)
                      rw [q2] at hto
                      have HEND := Lib.hid (show ∃ g' o c M q, Value.slice (some ⟨g, og, none⟩) L1.length cK = .slice (some ⟨g', o, none⟩) M.length c ∧ PnR wv (.slice (some ⟨g', o, none⟩) M.length c) M ∧ M[N]? = some q ∧ q.key = key ∧ q.fr = f ∧ q.to = f + size ∧ upd size mark ⟨key, num, tm⟩ L1 f = M.set N (bump size mark ⟨key, num, tm⟩ f q) ∧ W.heap.size ≤ g' ∧ wv.heap[wo.heap.size]? = some (.cells #[.string key, .int .i64 num, .int .i64 tm] 47 (0, 0)) ∧ Below W.heap.size W wv from
                        ⟨g, og, cK, L1, q, rfl, HKV.out, hq, q1, q2, hto, HUF.out q hq q1 q2, HOW1.out g rfl, HBLV.out, HBV.out⟩)
                      clear hq hq2 hto q1 q2
                      go_wp2_with fail
                      go_meet
                      exact HEND.out
                    | false =>
                      have hlo := run_lo HKV.out hpl
                      obtain ⟨x3, hhi, hx3⟩ := run_hi HKV.out hpl
                      obtain ⟨A1, d1, w1, A2, d2, w2, A3, d3, w3, r1, r2, r3, hro3, hown3, b1, b2, b3⟩ := pn_ins HKV.out (z0 key f size) (p := N) (by first | omega | simp) (by first | omega | simp) (x3 := x3) (hx3)
                      have hblw := (b1.block wo.heap.size (some_lt HBLV.out)).trans HBLV.out
                      have s0 : w1.cell? ⟨wo.heap.size, 0, none⟩ = some (.string key) := by simp [World.cell?, hblw]
                      have hbl3 := (b3.block wo.heap.size (some_lt HBLV.out)).trans HBLV.out
                      have hML : (L1.take N ++ z0 key f size :: L1.drop N).length = L1.length + 1 := by simp; try omega
                      have hMN : (L1.take N ++ z0 key f size :: L1.drop N)[N]? = some (z0 key f size) := by
                        rw [List.getElem?_append_right (by rw [List.length_take]; omega), List.length_take, Nat.min_eq_left (by first | omega | simp), Nat.sub_self]; rfl
                      obtain ⟨g3, o3, hg3, -⟩ := pns_at hro3.cs N (by rw [hML]; omega)
                      subst hg3
                      have hg3W : W.heap.size ≤ g3 := Nat.le_trans HBV.out.size (hown3 g3 rfl)
                      have hun := HUN.out (by first | exact HFND.out.2 rfl | exact HFND.out.2 trivial | exact HFND.out.2)
                      have hro4 : PnR w3 (.slice (some ⟨g3, o3, none⟩) (L1.take N ++ z0 key f size :: L1.drop N).length d3) (L1.take N ++ z0 key f size :: L1.drop N) := by rw [hML]; exact hro3
                      have hsl : Value.slice (some ⟨g3, o3, none⟩) (L1.length + 1) d3 = Value.slice (some ⟨g3, o3, none⟩) (L1.take N ++ z0 key f size :: L1.drop N).length d3 := by rw [hML]
                      simp only [pc1, z0] at r2
                      have HR1 := Lib.hid r1
                      have HR2 := Lib.hid r2
                      have HR3 := Lib.hid r3
                      have HEND := Lib.hid (show ∃ g o c M q, Value.slice (some ⟨g3, o3, none⟩) (L1.length + 1) d3 = .slice (some ⟨g, o, none⟩) M.length c ∧ PnR w3 (.slice (some ⟨g, o, none⟩) M.length c) M ∧ M[N]? = some q ∧ q.key = key ∧ q.fr = f ∧ q.to = f + size ∧ upd size mark ⟨key, num, tm⟩ L1 f = M.set N (bump size mark ⟨key, num, tm⟩ f q) ∧ W.heap.size ≤ g ∧ w3.heap[wo.heap.size]? = some (.cells #[.string key, .int .i64 num, .int .i64 tm] 47 (0, 0)) ∧ Below W.heap.size W w3 from
                        ⟨g3, o3, d3, _, _, hsl, hro4, hMN, rfl, rfl, rfl, hun, hg3W, hbl3, HBV.out.trans (b3.mono HBV.out.size)⟩)
                      clear r1 r2 r3 hx3 hro3 hown3 b1 b2 b3 hblw hbl3 hML hMN hg3W hun hro4 hsl
                      go_wp2_with (at_builtin; refine wpList_append_run (by rfl) _ _ 23 (by rfl) (.slice none 0 0) (.slice AK N cK) (.slice A1 N d1) w1 (by rfl) (by rfl) (by exact HR1.out) ?_; refine Hid.out ?_)
                      refine Lib.hid ?_
                      go_wp2_with (at_builtin; refine wpList_append_run (by rfl) _ _ 23 (by rfl) (.slice A1 N d1) (.slice (some ⟨w1.heap.size, 0, none⟩) 1 1) (.slice A2 (N + 1) d2) w2 (by rfl) (by rfl) (by exact HR2.out) ?_; refine Hid.out ?_)
                      refine Lib.hid ?_
                      go_wp2_with (at_builtin; refine wpList_append_run (by rfl) _ _ 23 (by rfl) (.slice A2 (N + 1) d2) x3 (.slice (some ⟨g3, o3, none⟩) (L1.length + 1) d3) w3 (by rfl) (by rfl) (by exact HR3.out) ?_; refine Hid.out ?_)
                      refine Lib.hid ?_
                      go_wp2_with fail
                      go_meet
                      exact HEND.out
                  case rest =>
                    obtain ⟨g, og, cM, M, q, rfl, hrM, hMN, q1, q2, q3, hud, hgW, hblt, hbt⟩ := hcut
                    rename World => wt
                    obtain ⟨qk, qf, qt, qm, qs, ql⟩ := q
                    simp only at q1 q2 q3
                    subst q1 q2 q3
                    obtain ⟨hNM, hMN2⟩ := List.getElem?_eq_some_iff.1 hMN
                    obtain ⟨g', og', eg, y0, y1, y2, y3, y4, y5⟩ := pns_at hrM.cs N hNM
                    simp only [Option.some.injEq, Addr.mk.injEq, and_true] at eg
                    obtain ⟨eg1, eg2⟩ := eg
                    subst eg1 eg2
                    rw [hMN2] at y0 y1 y2 y3 y4 y5
                    simp only at y0 y1 y2 y3 y4 y5
                    obtain ⟨cur, hcur⟩ := hrM.blk
                    have hgB : ¬ g = wo.heap.size := fun e => by rw [e, hblt] at hcur; injection hcur with e1; injection e1 with _ e2; exact absurd e2 (by decide)
                    have hgB2 : ¬ wo.heap.size = g := fun e => hgB e.symm
                    have x2 := (HRB.out wt hblt).2.1
                    have hlz2 := some_lt hblt
                    have hlg := some_lt hcur
                    have fz3 : wt.frozen? ⟨g, og + N * 6 + 3, none⟩ = false := by simp [World.frozen?, hcur]
                    have fz4 : wt.frozen? ⟨g, og + N * 6 + 4, none⟩ = false := by simp [World.frozen?, hcur]
                    have fz5 : wt.frozen? ⟨g, og + N * 6 + 5, none⟩ = false := by simp [World.frozen?, hcur]
                    have hNM0 : (0 : Int) ≤ (N : Int) := by omega
                    have hNMi : (N : Int) < (M.length : Int) := by omega
                    have em := w64_eq (qm + 1)
                    have es := w64_eq (qs + num)
                    have el := w64_eq (ql + 1)
                    clear HFND HUF HUN HKV HBV HBLV HOW1
                    by_cases hlate : qf + size ≤ mark
                    · have hbp : bump size mark ⟨qk, num, tm⟩ qf ⟨qk, qf, qf + size, qm, qs, ql⟩ = ⟨qk, qf, qf + size, qm, qs, w64 (ql + 1)⟩ := by unfold bump; rw [if_pos (by omega)]
                      rw [hbp] at hud
                      have hset := hrM.setc N hNM 5 (by omega) ⟨qk, qf, qf + size, qm, qs, w64 (ql + 1)⟩ (.int .i64 (w64 (ql + 1))) (fun t => by rw [hMN2]; rfl)
                      have hown2 : ∀ b, Value.ownBlock (.slice (some ⟨g, og, none⟩) M.length cM) = some b → W.heap.size ≤ b := fun b hb => by simp [Value.ownBlock] at hb; omega
                      have HEND := Lib.hid (show PnR (wt.setCell ⟨g, og + N * 6 + 5, none⟩ (.int .i64 (w64 (ql + 1)))) (.slice (some ⟨g, og, none⟩) M.length cM) (DT (m + 1)) ∧ (∀ b, Value.ownBlock (.slice (some ⟨g, og, none⟩) M.length cM) = some b → W.heap.size ≤ b) ∧ (wt.setCell ⟨g, og + N * 6 + 5, none⟩ (.int .i64 (w64 (ql + 1)))).heap[wo.heap.size]? = some (.cells #[.string qk, .int .i64 num, .int .i64 tm] 47 (0, 0)) ∧ Below W.heap.size W (wt.setCell ⟨g, og + N * 6 + 5, none⟩ (.int .i64 (w64 (ql + 1)))) from
                        ⟨by rw [HDT2.out, hud]; exact hset, hown2, by rw [Below.heap_setCell _ _ _ _ (by simpa using hgB2)]; exact hblt, hbt.setCell (by simpa using hgW) _⟩)
                      clear hrM hud hset hown2 hblt hbt hcur hMN2 hMN hbp em es
                      go_wp2_with fail
                      exact ⟨⟨m + 1, by omega, by rw [HFS1.out], HEND.out⟩, by simp [intOf]; omega⟩
                    · have hbp : bump size mark ⟨qk, num, tm⟩ qf ⟨qk, qf, qf + size, qm, qs, ql⟩ = ⟨qk, qf, qf + size, w64 (qm + 1), w64 (qs + num), ql⟩ := by unfold bump; rw [if_neg (by omega)]
                      rw [hbp] at hud
                      have hset := hrM.setc N hNM 3 (by omega) ⟨qk, qf, qf + size, w64 (qm + 1), qs, ql⟩ (.int .i64 (w64 (qm + 1))) (fun t => by rw [hMN2]; rfl)
                      have hset2 := hset.setc N (by simpa using hNM) 4 (by omega) ⟨qk, qf, qf + size, w64 (qm + 1), w64 (qs + num), ql⟩ (.int .i64 (w64 (qs + num))) (fun t => by rw [List.getElem_set_self]; rfl)
                      rw [List.set_set] at hset2
                      have hown2 : ∀ b, Value.ownBlock (.slice (some ⟨g, og, none⟩) M.length cM) = some b → W.heap.size ≤ b := fun b hb => by simp [Value.ownBlock] at hb; omega
                      have HEND := Lib.hid (fun (u : World) (h1 : u.heap = ((wt.setCell ⟨g, og + N * 6 + 3, none⟩ (.int .i64 (w64 (qm + 1)))).setCell ⟨g, og + N * 6 + 4, none⟩ (.int .i64 (w64 (qs + num)))).heap) (h2 : u.os = wt.os) (h3 : u.tape = wt.tape) (h4 : u.output = wt.output) => (show PnR u (.slice (some ⟨g, og, none⟩) M.length cM) (DT (m + 1)) ∧ (∀ b, Value.ownBlock (.slice (some ⟨g, og, none⟩) M.length cM) = some b → W.heap.size ≤ b) ∧ u.heap[wo.heap.size]? = some (.cells #[.string qk, .int .i64 num, .int .i64 tm] 47 (0, 0)) ∧ Below W.heap.size W u from by
                        have hbs := (hbt.setCell (p := ⟨g, og + N * 6 + 3, none⟩) (by simpa using hgW) (.int .i64 (w64 (qm + 1)))).setCell (p := ⟨g, og + N * 6 + 4, none⟩) (by simpa using hgW) (.int .i64 (w64 (qs + num)))
                        refine ⟨?_, hown2, ?_, ⟨by rw [h2]; exact hbt.os, by rw [h3]; exact hbt.tape, by rw [h4]; exact hbt.output, by rw [h1]; exact hbs.size, fun k hk => by rw [h1]; exact hbs.block k hk⟩⟩
                        · rw [HDT2.out, hud]
                          exact RwAt.block hset2 (fun b _ => by rw [h1])
                        · rw [h1, Below.heap_setCell _ _ _ _ (by simpa using hgB2), Below.heap_setCell _ _ _ _ (by simpa using hgB2)]; exact hblt))
                      clear hrM hud hset hset2 hown2 hblt hbt hcur hMN2 hMN hbp el
                      go_wp2_with fail
                      go_region
                      all_goals
                        go_wp2_with fail
                        exact ⟨⟨m + 1, by omega, by rw [HFS1.out], HEND.out _ rfl rfl rfl rfl⟩, by simp [intOf]; omega⟩
            · have em : m = 18 := by omega
              subst em
              have f4 := f3 rfl
              have HROW1 := Lib.hid hrow
              have HOW1 := Lib.hid hown
              have HBLK := Lib.hid hblk
              clear hrow hown hblk f2 f3 hfs
              go_wp2_with fail
              go_meet
              exact ⟨HROW1.out, HOW1.out, HBLK.out, hb5⟩
        case rest =>
          obtain ⟨hrow, hown, hblk, hb6⟩ := hcut
          rename World => wy
          obtain ⟨r0, r1, r2⟩ := HRB.out wy hblk
          have HRW := Lib.hid hrow
          have HOW := Lib.hid hown
          have HB6 := Lib.hid hb6
          clear hrow hown hblk hb6 hb4 hbz
          have hmx : mark < tm - slack → max mark (tm - slack) = tm - slack := fun h => by omega
          have hmn : ¬ mark < tm - slack → max mark (tm - slack) = mark := fun h => by omega
          have HMX := Lib.hid hmx
          have HMN := Lib.hid hmn
          clear hmx hmn
          by_cases hmk : mark < tm - slack
          · have e9 := HMX.out hmk
            have HE9 := Lib.hid e9
            clear e9
            go_wp2_with fail
            exact ⟨⟨k + 1, by omega, by go_num, by rw [HNX.out, HE9.out], by rw [HNX.out]; exact HRW.out, HOW.out, HB6.out⟩, by simp [intOf]; omega⟩
          · have e9 := HMN.out hmk
            have HE9 := Lib.hid e9
            clear e9
            go_wp2_with fail
            exact ⟨⟨k + 1, by omega, by go_num, by rw [HNX.out, HE9.out], by rw [HNX.out]; exact HRW.out, HOW.out, HB6.out⟩, by simp [intOf]; omega⟩
      · have ek : k = l.length := by omega
        subst ek
        have hf := HSE.out
        rw [← hf] at hrow
        clear hf
        generalize hPP : slideP size by_ slack l = PP at *
        have HPP := Lib.hid hPP
        clear hPP
        obtain ⟨A0, cap0, rfl, -, -⟩ := hrow.slice
        have HC := Lib.hid hrow.cs
        clear hrow
        go_wp2_with fail
        go_ret2
        rw [HPP.out]
        exact .inr ⟨rfl, A0, cap0, rfl, HC.out, below_after hb4 hb⟩
end Go.Proofs.YtfpfaekbakilpaaDoor
