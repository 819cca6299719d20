import Derived.Test.YthadeccnibnioaaGreatDoorDe
import Derived.Test.YthadeccnibnioaaGreatDoorKl
import Derived.Test.YthadeccnibnioaaGreatDoorDd
import Derived.Test.YthadeccnibnioaaGreatDoorKz2
import Derived.Test.YthadeccnibnioaaGreatDoorAz
/- Lists of lines in memory. -/
namespace Go.Proofs.YthadeccnibnioaaGreatDoor
open Go.RowKit
set_option linter.unusedVariables false
theorem LnO.other {w w' : World} {base : Nat} {v : Value} {tv : List (ByteArray × Value)} {ls : List Ln} (h : LnO w base v tv ls) (hk : ∀ b, (∃ cur, w.heap[b]? = some (.cells cur 168 (0, 0)) ∨ w.heap[b]? = some (.cells cur 3 (0, 0))) → b < w.heap.size → w'.heap[b]? = w.heap[b]?) : LnO w' base v tv ls :=
  ⟨h.row.block (fun b hb => hk b ((h.row.lt hb).2.imp fun _ hc => .inl hc) (h.row.lt hb).1), fa_map h.tr (fun t l _ hp => ⟨hp.1, hp.2.block (fun b hb => hk b ((hp.2.lt hb).2.imp fun _ hc => .inr hc) (hp.2.lt hb).1)⟩), h.ne, h.bs⟩
theorem ns_ints {w : World} {A : Option Addr} {c : Nat} {l : List Int} (h : NsAt w (.slice A l.length c) l) : IntsAt w A l ∧ l.length ≤ c ∧ c ≤ 9223372036854775807 := by
  obtain ⟨A', c', e, h1, h2⟩ := h.slice
  injection e with e1 e2 e3
  subst e3
  refine ⟨?_, h1, h2⟩
  rcases h.cells with h0 | ⟨b, o, rfl, hc⟩
  · left
    have : (iv l).length = 0 := by rw [h0]; rfl
    exact List.eq_nil_of_length_eq_zero (by simpa [iv] using this)
  · exact .inr ⟨b, o, rfl, fun j hj => hc j _ (by simp [iv, hj])⟩
theorem LnO.lns {w : World} {base n : Nat} {A : Option Addr} {c : Nat} {tv : List (ByteArray × Value)} {ls : List Ln} (h : LnO w base (.slice A n c) tv ls) (hk : ∀ l ∈ ls, l.1.size ≤ 9223372036854775807) : LnsAt w A ls ∧ ls.length ≤ c := by
  have hle : ls.length ≤ c := by
    obtain ⟨A', c', e, h1, -⟩ := h.row.slice
    injection e with e1 e2 e3
    subst e3
    have := fa_len h.tr
    omega
  refine ⟨?_, hle⟩
  by_cases h0 : ls = []
  · exact .inl h0
  · have hpos : 0 < ls.length := List.length_pos_iff.2 h0
    obtain ⟨g, o, -, -, -, rfl, -⟩ := h.at hpos
    refine .inr ⟨g, o, rfl, fun i hi => ?_⟩
    obtain ⟨g', o', An, cn, cur, hA, -, y0, y1, -, -, hns⟩ := h.at hi
    injection hA with hA
    injection hA with e1 e2 e3
    subst e1 e2
    obtain ⟨i1, i2, i3⟩ := ns_ints hns
    exact ⟨y0, ⟨An, cn, y1, i1, i2, i3⟩, hk _ (List.getElem_mem hi)⟩
theorem lnAdd_keys (r : Rc) : ∀ (ls : List Ln), ∀ l ∈ lnAdd r ls, l.1 = r.key ∨ ∃ l' ∈ ls, l.1 = l'.1
  | [], l, h => by simp [lnAdd] at h; subst h; exact .inl rfl
  | (q, ns) :: t, l, h => by
    rw [lnAdd] at h
    split at h
    · rcases List.mem_cons.1 h with rfl | h
      · exact .inr ⟨_, List.mem_cons_self, rfl⟩
      · rcases lnAdd_keys r t l h with e | ⟨l', hl', e⟩
        · exact .inl e
        · exact .inr ⟨l', List.mem_cons_of_mem _ hl', e⟩
    · split at h
      · rcases List.mem_cons.1 h with rfl | h
        · exact .inr ⟨_, List.mem_cons_self, rfl⟩
        · exact .inr ⟨l, List.mem_cons_of_mem _ h, rfl⟩
      · rcases List.mem_cons.1 h with rfl | h
        · exact .inl rfl
        · exact .inr ⟨l, h, rfl⟩
theorem docLines_keys (L : List Rc) (hL : ∀ r ∈ L, RcOk r) : ∀ l ∈ docLines L, l.1.size ≤ 40 := by
  have H : ∀ R : List Rc, (∀ r ∈ R, RcOk r) → ∀ l ∈ docLines R.reverse, l.1.size ≤ 40 := by
    intro R
    induction R with
    | nil => intro _ l hl; simp [docLines] at hl
    | cons x R ih =>
      intro hR l hl
      rw [List.reverse_cons, docLines_snoc] at hl
      rcases lnAdd_keys x _ l hl with e | ⟨l', hl', e⟩
      · rw [e]; exact (hR x List.mem_cons_self).1
      · rw [e]; exact ih (fun r hr => hR r (List.mem_cons_of_mem _ hr)) l' hl'
  have := H L.reverse (fun r hr => hL r (by simpa using hr))
  simpa using this
/-- Lists of lines behind a slice that is owned. -/
def SkO (w : World) (base : Nat) (v : Value) (LL : List (List Ln)) : Prop := ∃ tv : List Value, RwAt w 110 1 v tv.length tv ∧ Fa2 (fun t l => ∃ A c tvl, t = .slice A l.length c ∧ LnO w base (.slice A l.length c) tvl l) tv LL ∧ ∀ b, v.ownBlock = some b → base ≤ b
theorem sk_nil (w : World) (base : Nat) : SkO w base (.slice none 0 0) [] := ⟨[], RwAt.nil _ _ _, .nil, fun b hb => by simp [Value.ownBlock] at hb⟩
theorem SkO.keep {w w' : World} {base : Nat} {v : Value} {LL : List (List Ln)} (h : SkO w base v LL) (hb : Below w.heap.size w w') : SkO w' base v LL := by
  obtain ⟨tv, h1, h2, h3⟩ := h
  exact ⟨tv, h1.keep hb, fa_map h2 (fun t l _ ⟨A, c, tvl, e, hp⟩ => ⟨A, c, tvl, e, hp.keep hb⟩), h3⟩
theorem sk_app {u : World} {base : Nat} {v : Value} {A0 : Option Addr} {c0 : Nat} {tvl : List (ByteArray × Value)} {LL : List (List Ln)} {l : List Ln} (h : SkO u base v LL) (hm : LnO u base (.slice A0 l.length c0) tvl l) (hbs : base ≤ u.heap.size) {g : Nat} (hg : u.heap[g]? = some (.cells #[.slice A0 l.length c0] 110 (0, 0))) (hl : LL.length ≤ 1000000) :
    ∃ A c w1, (Builtin.append_ #[62, 62] 62 #[v, .slice (some ⟨g, 0, none⟩) 1 1]).run Tryz.prog u = .ok (.slice A (LL.length + 1) c) w1 ∧ SkO w1 base (.slice A (LL.length + 1) c) (LL ++ [l]) ∧ Below base u w1 := by
  obtain ⟨tv, h1, h2, h3⟩ := h
  have htl := fa_len h2
  obtain ⟨i0, hi, hz0, hz1, hz2⟩ := info_parts Tryz.infoLs
  obtain ⟨A, c, w1, hrun, hown, hgr, hat⟩ := rw_append h1 62 62 62 i0 _ 24 Tryz.underlying62 hi hz0 hz1 hz2 rfl (.slice (some ⟨g, 0, none⟩) 1 1) 1 [.slice A0 l.length c0]
    (Src.ofSlice _ Tryz.underlying62 _ 1 1 [.slice A0 l.length c0] rfl (World.news_of_block (cs := #[.slice A0 l.length c0]) hg) (fun x hx => by simp at hx; subst hx; rfl)) (by unfold maxLen; omega) (by omega)
  have hrow : ∀ (A : Option Addr) (c : Nat) (tvl : List (ByteArray × Value)) (x : List Ln), LnO u base (.slice A x.length c) tvl x → LnO w1 base (.slice A x.length c) tvl x := fun A c tvl x hp => hp.other (fun b hb hlt => hgr.block b hlt (fun e => by
    obtain ⟨-, cur', hc'⟩ := h1.lt e.symm
    obtain ⟨cur, hc | hc⟩ := hb <;> (rw [hc] at hc'; simp at hc')))
  rw [htl] at hrun
  refine ⟨A, c, w1, hrun, ⟨tv ++ [.slice A0 l.length c0], ?_, fa_append (fa_map h2 (fun t x _ ⟨A, c, tvl, e, hp⟩ => ⟨A, c, tvl, e, hrow _ _ _ _ hp⟩)) (.cons ⟨A0, c0, tvl, rfl, hrow _ _ _ _ hm⟩ .nil), ?_⟩, ⟨hgr.os, hgr.tape, hgr.output, hgr.size, fun k hk => hgr.block k (by omega) (fun e => by have := h3 k e.symm; omega)⟩⟩
  · rw [List.length_append, List.length_singleton, ← htl]; exact hown
  · intro b hb
    rw [← htl] at hb
    rcases hat b hb with e | e
    · exact h3 b e
    · omega
theorem SkO.sks {w : World} {base n : Nat} {A : Option Addr} {c : Nat} {LL : List (List Ln)} (h : SkO w base (.slice A n c) LL) (hk : ∀ ls ∈ LL, ∀ l ∈ ls, l.1.size ≤ 9223372036854775807) : SksAt w A LL ∧ LL.length ≤ c := by
  obtain ⟨tv, h1, h2, h3⟩ := h
  have htl := fa_len h2
  have hle : LL.length ≤ c := by
    obtain ⟨A', c', e, h4, -⟩ := h1.slice
    injection e with e1 e2 e3
    subst e3
    omega
  refine ⟨?_, hle⟩
  by_cases h0 : LL = []
  · exact .inl h0
  · have hpos : 0 < LL.length := List.length_pos_iff.2 h0
    obtain ⟨A', c', e', -, -⟩ := h1.slice
    injection e' with e1 e2 e3
    subst e2
    rcases h1.cells with hn | ⟨b, o, rfl, hc⟩
    · rw [hn] at htl; simp at htl; omega
    · refine .inr ⟨b, o, rfl, fun i hi => ?_⟩
      obtain ⟨Ai, ci, tvl, e, hp⟩ := fa_get h2 i (by omega) hi
      obtain ⟨l1, l2⟩ := hp.lns (hk _ (List.getElem_mem hi))
      have hti : i < tv.length := by omega
      exact ⟨Ai, ci, (hc i tv[i] (List.getElem?_eq_getElem hti)).trans (by rw [e]), l1, l2⟩
end Go.Proofs.YthadeccnibnioaaGreatDoor

/- The document's Den; weirsame.Sinks of two that are the same. -/
namespace Go.Proofs.YthadeccnibnioaaGreatDoor
open Go.RowKit
set_option linter.unusedVariables false
def DnEnd (w : World) (er : Nat) (LL : List (List Ln)) (e : Ending) (w' : World) : Prop :=
  if er ≠ 0 then e = .returned (.tuple #[.slice none 0 0, .int .i64 (er : Nat)]) ∧ Below w.heap.size w w'
  else ∃ A cap, e = .returned (.tuple #[.slice A LL.length cap, .int .i64 0]) ∧ SksAt w' A LL ∧ LL.length ≤ cap ∧ Below w.heap.size w w'
set_option maxRecDepth 100000 in
set_option maxHeartbeats 8000000 in
theorem dden_any {w : World} {la : Option Addr} {L : List Nd} {c : Nat} (hL : NdsAt w la L) {da : Option Addr} {D : List (List Rc)} {dc : Nat} (hD : RssAt w da D) (hl : D.length ≤ 9223372036854775807) (hll : ∀ l ∈ D, l.length ≤ 9223372036854775807) (hk : ∀ l ∈ D, ∀ r ∈ l, r.key.size ≤ 9223372036854775807) (hn : ∀ l ∈ D, ∀ r ∈ l, Rng r.num) :
    Calls Tryz.prog 27 #[.slice la L.length c, .slice da D.length dc] w (DnEnd w (denE L D) (denV L D)) := by
  have HA := dall_any (c := c) (dc := dc) hL hD hl hll hk hn
  generalize hR : DnEnd w (denE L D) (denV L D) = R
  have HR := Lib.hid hR
  clear hR
  by_cases hE : dataE L D = 0
  · have h0 : jobP L = 0 := by
      unfold dataE at hE
      split at hE
      · rename_i h; exact absurd hE h
      · rename_i h; simpa using h
    have h1 : checkP D (srcs L) = 0 := by
      unfold dataE at hE
      rw [if_neg (by simp [h0])] at hE
      exact hE
    have hdl : D.length = srcs L := by
      unfold checkP at h1
      split at h1
      · cases h1
      · rename_i h2; simpa using h2
    have hdp : dataP D = 0 := by
      unfold checkP at h1
      split at h1
      · cases h1
      · exact h1
    obtain ⟨hok, h300⟩ := data_ok hdp hn
    have hj := job_ok h0
    have hfl := doc_flow L [] D [] hj.2.1 hdl hok h300 (by simp) (by simp)
    cases hf : flowP L D [] with
    | none =>
      replace HA : Calls Tryz.prog 58 #[.slice la L.length c, .slice da D.length dc] w (fun e w' => e = .returned (.tuple #[.slice none 0 0, .int .i64 4]) ∧ Below w.heap.size w w') := HA.mono (fun e w' h => by
        unfold DAll at h
        rw [if_neg (by simp [hE]), hfl, hf] at h
        exact h)
      have HQ := Lib.hid (show ∀ u, Below w.heap.size w u → R (.returned (.tuple #[.slice none 0 0, .int .i64 4])) u from fun u hu => by
        rw [← HR.out]
        have e : denE L D = 4 := by unfold denE; simp [h0, h1, hf]
        unfold DnEnd
        rw [e, if_pos (by decide)]
        exact ⟨rfl, hu⟩)
      clear hL hD hfl hf hj hok h300 HR hdl hdp h0 h1 hE hn hk hll
      go_enter Tryz.func27, Tryz.ntmps27
      go_wp2_with (go_at_call 58; refine HA.mono ?_; rintro e u ⟨rfl, hb⟩; refine Hid.out ?_)
      refine Lib.hid ?_
      have HQ2 := Lib.hid (HQ.out u hb)
      clear HA HQ hb
      go_wp2_with fail
      exact HQ2.out
    | some hs =>
      replace HA : Calls Tryz.prog 58 #[.slice la L.length c, .slice da D.length dc] w (fun e w' => ∃ A c, e = .returned (.tuple #[.slice A hs.length c, .int .i64 0]) ∧ OuAt w' w.heap.size (.slice A hs.length c) hs ∧ Below w.heap.size w w') := HA.mono (fun e w' h => by
        unfold DAll at h
        rw [if_neg (by simp [hE]), hfl, hf] at h
        exact h)
      have hlen : hs.length = L.length := by have := flow_len L D [] hs hf; simpa using this
      have hfo := flow_ok L D [] (fun l hl' => ⟨hok l hl', Nat.le_trans (h300 l hl') (by omega)⟩) (by simp) hf
      have hss := doc_sinks L hs hlen.symm
      have HQ := Lib.hid (show ∀ (u : World) (bs : Nat) (A : Option Addr) (cc : Nat), SkO u bs (.slice A (ofP L 10).length cc) ((ofP L 10).map fun i => docLines (hs.getD i.toNat [])) → Below w.heap.size w u → R (.returned (.tuple #[.slice A (ofP L 10).length cc, .int .i64 0])) u from fun u bs A cc hsk hu => by
        rw [← HR.out]
        have e : denE L D = 0 := by unfold denE; simp [h0, h1, hf]
        have e2 : denV L D = (ofP L 10).map fun i => docLines (hs.getD i.toNat []) := by unfold denV; simp only [h0, h1, hf, ne_eq, not_true_eq_false, if_false]; exact hss.symm
        unfold DnEnd
        rw [e, e2, if_neg (by decide)]
        have hs2 := hsk.sks (fun ls hls l hl' => by
          obtain ⟨i, hi, rfl⟩ := List.mem_map.1 hls
          have hlt := of_lt hi
          have hmem : hs.getD i.toNat [] ∈ hs := by simp only [List.getD, List.getElem?_eq_getElem (show i.toNat < hs.length by omega), Option.getD_some]; exact List.getElem_mem _
          have := docLines_keys _ (hfo _ hmem).1 l hl'
          omega)
        exact ⟨A, cc, by simp, hs2.1, by simpa using hs2.2, hu⟩)
      have HO := Lib.hid (fun (u : World) (hu : Below w.heap.size w u) => dof_any (c := c) (hL.keep (Keeps.of hu)) 10 hj.1)
      have HFO := Lib.hid hfo
      have HLT := Lib.hid (fun (i : Int) (h : i ∈ ofP L 10) => (show 0 ≤ i ∧ i.toNat < hs.length from ⟨by unfold ofP at h; obtain ⟨j, -, rfl⟩ := List.mem_map.1 h; omega, by have := of_lt h; omega⟩))
      have h12 : L.length ≤ 12 := hj.1
      have hsl : (ofP L 10).length ≤ 12 := by
        unfold ofP
        rw [List.length_map]
        have := List.length_filter_le (fun i => (L.getD i (sink 0)).k == 10) (List.range L.length)
        rw [List.length_range] at this
        omega
      clear hL hD hfl hf hj hok h300 HR hss hfo hn hk hll hdl hdp h0 h1 hE hlen
      generalize ofP L 10 = S at *
      go_enter Tryz.func27, Tryz.ntmps27
      go_wp2_with (go_at_call 58; refine HA.mono ?_; rintro e u1 ⟨A6, c6, rfl, hou, hb1⟩; refine Hid.out ?_)
      refine Lib.hid ?_
      have HO2 := HO.out u1 hb1
      clear HA HO
      go_wp2_with (go_at_call 18; refine HO2.mono ?_; rintro e u2 ⟨v, rfl, hv, hb2⟩; refine Hid.out ?_)
      refine Lib.hid ?_
      obtain ⟨A8, c8, rfl⟩ := own_fm hv
      have hI8 := (own_ints2 (w' := u2) hv rfl (fun _ _ _ h => h)).1
      have HOU := Lib.hid (hou.block (Nat.le_refl _) hb2)
      have HI8 := Lib.hid hI8
      have HB2 := Lib.hid (show Below w.heap.size w u2 from hb1.trans (hb2.mono hb1.size))
      clear HO2 hv hI8 hou hb1 hb2
      go_wp2_with fail
      go_loopw [9, 10] (fun v9 v10 wr => ∃ (p : Nat) (A : Option Addr) (cc : Nat), p ≤ S.length ∧ v10 = .int .i64 p ∧ v9 = .slice A p cc ∧ Hid (SkO wr u2.heap.size (.slice A p cc) ((S.take p).map fun i => docLines (hs.getD i.toNat [])) ∧ Below u2.heap.size u2 wr)) (fun _ v10 _ => S.length - (intOf v10).toNat)
      case atStart => exact ⟨0, none, 0, by omega, rfl, rfl, Lib.hid ⟨by simpa using sk_nil _ _, Below.refl _ _⟩⟩
      case round =>
        obtain ⟨p, A, cc, hp, rfl, rfl, hI⟩ := hrel
        rename World => wr
        by_cases hlt : p < S.length
        · have hpi : (p : Int) < (S.length : Int) := by omega
          have hsp := HLT.out S[p] (List.getElem_mem hlt)
          obtain ⟨fn, hfn⟩ : ∃ fn : Nat, S[p] = (fn : Int) := ⟨S[p].toNat, by omega⟩
          have hfl : fn < hs.length := by have := hsp.2; rw [hfn] at this; simpa using this
          obtain ⟨sb, so, rfl, s0⟩ : ∃ sb so, A8 = some ⟨sb, so, none⟩ ∧ u2.cell? ⟨sb, so + p, none⟩ = some (.int .i64 (fn : Int)) := by
            rcases HI8.out with h | ⟨sb, so, h1, h2⟩
            · rw [h] at hlt; simp at hlt
            · have := h2 p hlt; rw [hfn] at this; exact ⟨sb, so, h1, this⟩
          obtain ⟨ob, oo, Ax, cx, rfl, o0, orr, olt⟩ := HOU.out.at hfl
          have hbr := hI.out.2
          have s1 : wr.cell? ⟨sb, so + p, none⟩ = some (.int .i64 (fn : Int)) := by rw [hbr.cell (p := ⟨sb, so + p, none⟩) (World.block_lt_of_cell? _ _ s0)]; exact s0
          have o1 : wr.cell? ⟨ob, oo + fn, none⟩ = some (.slice Ax hs[fn].length cx) := by rw [hbr.cell (p := ⟨ob, oo + fn, none⟩) olt]; exact o0
          have hfni : (fn : Int) < (hs.length : Int) := by omega
          have hxo := HFO.out hs[fn] (List.getElem_mem hfl)
          have HLI := dlines_any (c := cx) (rr_rcs (orr.keep hbr)) hxo.2
          have hnx : (S.take (p + 1)).map (fun i => docLines (hs.getD i.toNat [])) = (S.take p).map (fun i => docLines (hs.getD i.toNat [])) ++ [docLines hs[fn]] := by
            rw [List.take_succ_eq_append_getElem hlt, List.map_append, hfn]
            simp [List.getD, hfl]
          have HNX := Lib.hid hnx
          have hlx : ((S.take p).map (fun i => docLines (hs.getD i.toNat []))).length = p := by rw [List.length_map, List.length_take]; omega
          have HLX := Lib.hid hlx
          generalize hs[fn] = X at *
          clear hnx hlx o0 orr s0 hsp hfn
          go_wp2_with (go_at_call 59; refine HLI.mono ?_; rintro e u3 ⟨A3, c3, tv3, rfl, hln, hb3⟩; refine Hid.out ?_)
          refine Lib.hid ?_
          have hbA : Below u3.heap.size u3 (u3.alloc (.cells #[.slice A3 (docLines X).length c3] 110)) := (Below.refl _ _).alloc (Nat.le_refl _) _
          have hwS : u2.heap.size ≤ wr.heap.size := hbr.size
          have hln2 : LnO u3 u2.heap.size (.slice A3 (docLines X).length c3) tv3 (docLines X) := ⟨hln.row, hln.tr, hln.ne, fun x hx b hb => Nat.le_trans hwS (hln.bs x hx b hb)⟩
          obtain ⟨A4, c4, w4, hrun4, hsk4, hb4⟩ := sk_app ((hI.out.1.keep hb3).keep hbA) (hln2.keep hbA) (by have := hb3.size; have := hbA.size; omega) (g := u3.heap.size) (heap_alloc_new u3 _) (by rw [HLX.out]; omega)
          rw [HLX.out] at hrun4 hsk4
          have HR4 := Lib.hid hrun4
          have HI4 := Lib.hid (show SkO w4 u2.heap.size (.slice A4 (p + 1) c4) ((S.take (p + 1)).map fun i => docLines (hs.getD i.toNat [])) ∧ Below u2.heap.size u2 w4 from ⟨by rw [HNX.out]; exact hsk4, hbr.trans (((hb3.mono hwS).trans (hbA.mono (Nat.le_trans hwS hb3.size))).trans hb4)⟩)
          clear hrun4 hsk4 hb4 hbA hln hln2 HLI hb3
          go_wp2_with (at_builtin; refine wpList_append_run (by rfl) _ _ 62 (by rfl) (.slice A p cc) (.slice (some ⟨u3.heap.size, 0, none⟩) 1 1) (.slice A4 (p + 1) c4) w4 (by rfl) (by rfl) (by exact HR4.out) ?_; refine Hid.out ?_)
          refine Lib.hid ?_
          go_wp2_with fail
          exact ⟨⟨p + 1, A4, c4, by omega, by go_num, rfl, HI4⟩, by simp [intOf]; omega⟩
        · have hpi : ¬ (p : Int) < (S.length : Int) := by omega
          obtain rfl : p = S.length := by omega
          have HQ2 := Lib.hid (HQ.out wr _ A cc (by have := hI.out.1; rw [List.take_length] at this; exact this) (HB2.out.trans (hI.out.2.mono HB2.out.size)))
          clear HQ hI
          go_wp2_with fail
          exact HQ2.out
  · replace HA : Calls Tryz.prog 58 #[.slice la L.length c, .slice da D.length dc] w (fun e w' => e = .returned (.tuple #[.slice none 0 0, .int .i64 (dataE L D : Nat)]) ∧ Below w.heap.size w w') := HA.mono (fun e w' h => by
      unfold DAll at h
      rw [if_pos hE] at h
      exact h)
    have hne : ¬ ((dataE L D : Nat) : Int) = 0 := by omega
    have HQ := Lib.hid (show ∀ u, Below w.heap.size w u → R (.returned (.tuple #[.slice none 0 0, .int .i64 (dataE L D : Nat)])) u from fun u hu => by
      rw [← HR.out]
      have e : denE L D = dataE L D := by
        unfold denE
        unfold dataE at hE ⊢
        by_cases h0 : jobP L = 0
        · simp only [h0, ne_eq, not_true_eq_false, if_false] at hE ⊢
          rw [if_pos hE]
        · simp only [ne_eq, h0, not_false_eq_true, if_true]
      unfold DnEnd
      rw [e, if_pos hE]
      exact ⟨rfl, hu⟩)
    generalize dataE L D = de at *
    clear HR hL hD hn hk hll
    go_enter Tryz.func27, Tryz.ntmps27
    go_wp2_with (go_at_call 58; refine HA.mono ?_; rintro e u ⟨rfl, hb⟩; refine Hid.out ?_)
    refine Lib.hid ?_
    have HQ2 := Lib.hid (HQ.out u hb)
    clear HA HQ hb
    go_wp2_with fail
    exact HQ2.out
end Go.Proofs.YthadeccnibnioaaGreatDoor

/- DenAll: the walk. -/
namespace Go.Proofs.YthadeccnibnioaaGreatDoor
open Go.RowKit
set_option linter.unusedVariables false
theorem docV_len {L : List Nd} {D : List (List Rc)} (hd : dataP D = 0) (hn : ∀ l ∈ D, ∀ r ∈ l, Rng r.num) {hs : List (List Rc)} (hf : flowP L D [] = some hs) : ∀ l ∈ sinksP L hs, l.length ≤ 9223372036854775807 := by
  obtain ⟨hok, h300⟩ := data_ok hd hn
  have hfo := flow_ok L D [] (fun l hl' => ⟨hok l hl', Nat.le_trans (h300 l hl') (by omega)⟩) (by simp) hf
  have hlen : hs.length = L.length := by have := flow_len L D [] hs hf; simpa using this
  rw [← doc_sinks L hs hlen.symm]
  intro l hl
  obtain ⟨i, hi, rfl⟩ := List.mem_map.1 hl
  have hlt := of_lt hi
  have hmem : hs.getD i.toNat [] ∈ hs := by simp only [List.getD, List.getElem?_eq_getElem (show i.toNat < hs.length by omega), Option.getD_some]; exact List.getElem_mem _
  have h1 := (hfo _ hmem).2
  have h2 := docLines_len (hs.getD i.toNat [])
  omega
theorem denV_len {L : List Nd} {D : List (List Rc)} (hn : ∀ l ∈ D, ∀ r ∈ l, Rng r.num) : (denV L D).length ≤ 9223372036854775807 ∧ ∀ l ∈ denV L D, l.length ≤ 9223372036854775807 := by
  unfold denV
  by_cases h0 : jobP L = 0
  · rw [if_neg (by simp [h0])]
    by_cases h1 : checkP D (srcs L) = 0
    · rw [if_neg (by simp [h1])]
      cases hf : flowP L D [] with
      | none => simp
      | some hs =>
        have hdp : dataP D = 0 := by
          unfold checkP at h1
          split at h1
          · cases h1
          · exact h1
        refine ⟨?_, docV_len hdp hn hf⟩
        have hlen : hs.length = L.length := by have := flow_len L D [] hs hf; simpa using this
        have h12 := (job_ok h0).1
        have := sinks_len L hs
        show (sinksP L hs).length ≤ _
        omega
    · rw [if_pos h1]; simp
  · rw [if_pos h0]; simp
set_option maxRecDepth 100000 in
set_option maxHeartbeats 4000000 in
theorem denAll_walk (w : World) (hg : Gd w) (het : w.cell? ⟨1, 0, none⟩ = some ET) {la : Option Addr} {L : List Nd} {c : Nat} (hL : NdsAt w la L) (hc : L.length ≤ c)
    {da : Option Addr} {dc : Nat} {D : List (List Rc)} (hD : RssAt w da D) (hdc : D.length ≤ dc) (hdm : dc ≤ 9223372036854775807) (hll : ∀ l ∈ D, l.length ≤ 9223372036854775807) (hX : ∀ l ∈ D, ∀ r ∈ l, r.key.size ≤ 9223372036854775807 ∧ Rng r.num) :
    Calls Tryz.prog 7 #[.slice la L.length c, .slice da D.length dc] w fun e w' => e = .returned (.bool true) ∧ Below w.heap.size w w' := by
  have hk : ∀ l ∈ D, ∀ r ∈ l, r.key.size ≤ 9223372036854775807 := fun l h r hr => (hX l h r hr).1
  have hn : ∀ l ∈ D, ∀ r ∈ l, Rng r.num := fun l h r hr => (hX l h r hr).2
  have HD1 := dden_any (c := c) (dc := dc) hL hD (by omega) hll hk hn
  have HAL := Lib.hid (fun (u : World) (hb : Below w.heap.size w u) => all_any (hg.below hb) (hL.keep (Keeps.of hb)) hc (hD.keep (Keeps.of hb)) hdc hdm hll hk hn)
  have hetc := Lib.hid (fun (u : World) (hu : Below w.heap.size w u) => (hu.cell (p := ⟨1, 0, none⟩) (World.block_lt_of_cell? _ _ het)).trans het)
  obtain ⟨hv1, hv2⟩ := denV_len (L := L) hn
  have HV := Lib.hid (And.intro hv1 hv2)
  clear hg hL hD hk hn hX hll het hv1 hv2
  generalize denE L D = er at *
  generalize denV L D = V at *
  by_cases h0 : er = 0
  · subst h0
    replace HD1 : Calls Tryz.prog 27 #[.slice la L.length c, .slice da D.length dc] w (fun e w' => ∃ A cap, e = .returned (.tuple #[.slice A V.length cap, .int .i64 0]) ∧ SksAt w' A V ∧ V.length ≤ cap ∧ Below w.heap.size w w') := HD1.mono (fun e w' h => by
      unfold DnEnd at h
      rw [if_neg (by simp)] at h
      exact h)
    replace HAL := Lib.hid (fun (u : World) (hb : Below w.heap.size w u) => show Calls Tryz.prog 28 #[.slice la L.length c, .slice da D.length dc] u (fun e w' => ∃ A cap, e = .returned (.tuple #[.slice A V.length cap, .nilIface]) ∧ SksAt w' A V ∧ V.length ≤ cap ∧ Below u.heap.size u w') from (HAL.out u hb).mono (fun e w' h => by
      unfold AllEnd at h
      rw [if_neg (by simp)] at h
      exact h))
    go_enter Tryz.func7, Tryz.ntmps7
    go_wp2_with (go_at_call 27; refine HD1.mono ?_; rintro e u1 ⟨A1, c1, rfl, hs1, hc1, hb1⟩; refine Hid.out ?_)
    refine Lib.hid ?_
    have HA2 := HAL.out u1 hb1
    clear HD1 HAL
    go_wp2_with (go_at_call 28; refine HA2.mono ?_; rintro e u2 ⟨A2, c2, rfl, hs2, hc2, hb2⟩; refine Hid.out ?_)
    refine Lib.hid ?_
    have hb02 : Below w.heap.size w u2 := hb1.trans (hb2.mono hb1.size)
    have HE := error_nil u2
    have HS := sinks_same hs2 (hs1.keep (Keeps.of hb2)) c2 c1 HV.out.1 HV.out.2
    clear HA2 hs1 hs2
    go_wp2_with (go_at_call 10; refine HE.mono ?_; rintro e u3 ⟨rfl, rfl⟩; refine Hid.out ?_)
    refine Lib.hid ?_
    clear HE
    go_wp2_with (go_at_call 29; refine HS.mono ?_; rintro e u4 ⟨rfl, n, rfl⟩; refine Hid.out ?_)
    refine Lib.hid ?_
    have HB := Lib.hid (show Below w.heap.size w (u2.drewN n) from ⟨hb02.os, hb02.tape, hb02.output, hb02.size, hb02.block⟩)
    clear HS hb1 hb2 hb02
    go_wp2_with fail
    go_ret
    exact ⟨rfl, HB.out⟩
  · replace HD1 : Calls Tryz.prog 27 #[.slice la L.length c, .slice da D.length dc] w (fun e w' => e = .returned (.tuple #[.slice none 0 0, .int .i64 (er : Nat)]) ∧ Below w.heap.size w w') := HD1.mono (fun e w' h => by
      unfold DnEnd at h
      rw [if_pos h0] at h
      exact h)
    replace HAL := Lib.hid (fun (u : World) (hb : Below w.heap.size w u) => show Calls Tryz.prog 28 #[.slice la L.length c, .slice da D.length dc] u (fun e w' => e = .returned (.tuple #[.slice none 0 0, .iface 77 (.int .i64 er)]) ∧ Below u.heap.size u w') from (HAL.out u hb).mono (fun e w' h => by
      unfold AllEnd at h
      rw [if_pos h0, errV_pos h0] at h
      exact h))
    have HS := Lib.hid (fun (u : World) => sinks_same (w := u) (la := none) (lb := none) (LL := []) (.inl rfl) (.inl rfl) 0 0 (by simp) (by simp))
    go_enter Tryz.func7, Tryz.ntmps7
    go_wp2_with (go_at_call 27; refine HD1.mono ?_; rintro e u1 ⟨rfl, hb1⟩; refine Hid.out ?_)
    refine Lib.hid ?_
    have HA2 := HAL.out u1 hb1
    clear HD1 HAL
    go_wp2_with (go_at_call 28; refine HA2.mono ?_; rintro e u2 ⟨rfl, hb2⟩; refine Hid.out ?_)
    refine Lib.hid ?_
    have hb02 : Below w.heap.size w u2 := hb1.trans (hb2.mono hb1.size)
    have HE := error_hit er u2 (hetc.out u2 hb02)
    clear HA2
    go_wp2_with (go_at_call 10; refine HE.mono ?_; rintro e u3 ⟨rfl, hb3⟩; refine Hid.out ?_)
    refine Lib.hid ?_
    have hb03 : Below w.heap.size w u3 := hb02.trans (hb3.mono hb02.size)
    have HS2 := HS.out u3
    simp only [List.length_nil] at HS2
    clear HE HS
    go_wp2_with (go_at_call 29; refine HS2.mono ?_; rintro e u4 ⟨rfl, n, rfl⟩; refine Hid.out ?_)
    refine Lib.hid ?_
    have HB := Lib.hid (show Below w.heap.size w (u3.drewN n) from ⟨hb03.os, hb03.tape, hb03.output, hb03.size, hb03.block⟩)
    clear HS2 hb1 hb2 hb3 hb02 hb03
    go_wp2_with fail
    go_ret
    exact ⟨rfl, HB.out⟩
end Go.Proofs.YthadeccnibnioaaGreatDoor
