/- Those that are dead, struck; Merge without them. -/
import Derived.Test.YtpjjjelibpoohabDoorTh
import Derived.Maps.RangeWalk
namespace Go.Proofs.YtpjjjelibpoohabDoor
open Go.RowKit
open Go.Maps (string_keyed)
open Go.Shelf Go.Sort
set_option linter.unusedVariables false

theorem MapIs.del {D : DataW Unit} {σ : ByteArray → Option En} (h : MapIs D σ) (k : ByteArray) : MapIs (D.del (.string k.data.toList)) (fun q => if q.data.toList = k.data.toList then none else σ q) := by
  refine ⟨h.map.del _, fun q => ?_, fun q => ?_⟩
  · by_cases hq : q.data.toList = k.data.toList
    · rw [hq, Maps.has_del_same, if_pos rfl]; rfl
    · rw [Maps.has_del_other (fun e => hq (by injection e)), if_neg hq]; exact h.has q
  · by_cases hq : q.data.toList = k.data.toList
    · rw [hq, Maps.atKey_del_same, if_pos rfl]; rfl
    · rw [Maps.atKey_del_other (fun e => hq (by injection e)), if_neg hq]; exact h.at_ q
theorem MapIs.one {D : DataW Unit} {σ : ByteArray → Option En} (h : MapIs D σ) {k : ByteArray} {e : En} (hat : ∀ zd, D.atKey (.string k.data.toList) zd = enD e) : σ k = some e := by
  have h1 := Maps.has_true_of_atKey hat
  have h3 := h.has k
  have h4 := h.at_ k
  rw [h1] at h3
  cases hx : σ k with
  | none => rw [hx] at h3; cases h3
  | some y => rw [hx, hat] at h4; rw [enD_inj h4]; rfl
/-- What is there while the dead are struck. -/
def leftE (l : List En) (left : Lit → Bool) (k : ByteArray) : Option En := (stE l k).filter fun e => left (.string k.data.toList) || !e.dead
def liveE (l : List En) (k : ByteArray) : Option En := (stE l k).filter fun e => !e.dead
theorem leftE_step {l : List En} {left : Lit → Bool} {kb : ByteArray} {e : En} (hσ : leftE l left kb = some e) :
    leftE l (fun z => left z && !z.sameKey (.string kb.data.toList)) = if e.dead = true then (fun q => if q.data.toList = kb.data.toList then none else leftE l left q) else leftE l left := by
  have hse : stE l kb = some e := by
    unfold leftE at hσ
    cases hx : stE l kb with
    | none => rw [hx] at hσ; cases hσ
    | some y =>
      rw [hx] at hσ
      simp only [Option.filter] at hσ
      split at hσ
      · exact hσ
      · cases hσ
  have hself : Lit.sameKey (.string kb.data.toList) (.string kb.data.toList) = true := WideAt.sameKey_self trivial
  cases hd : e.dead with
  | true =>
    rw [if_pos rfl]
    funext q
    by_cases hq : q.data.toList = kb.data.toList
    · have e1 : stE l q = some e := by rw [← hse]; unfold stE; rw [hq]
      unfold leftE
      rw [e1, hq, if_pos rfl]
      simp [Option.filter, hself, hd]
    · rw [if_neg hq]
      have hsk : (Lit.string q.data.toList).sameKey (Lit.string kb.data.toList) = false := Maps.sameKey_ne (fun e2 => hq (by injection e2))
      unfold leftE
      simp only [hsk, Bool.not_false, Bool.and_true]
  | false =>
    rw [if_neg (by decide)]
    funext q
    by_cases hq : q.data.toList = kb.data.toList
    · have e1 : stE l q = some e := by rw [← hse]; unfold stE; rw [hq]
      unfold leftE
      rw [e1]
      simp [Option.filter, hd]
    · have hsk : (Lit.string q.data.toList).sameKey (Lit.string kb.data.toList) = false := Maps.sameKey_ne (fun e2 => hq (by injection e2))
      unfold leftE
      simp only [hsk, Bool.not_false, Bool.and_true]
theorem strike2 (left : Lit → Bool) (k : Lit) : (fun z : Lit => (left z && !z.sameKey k) && !z.sameKey k) = fun z => left z && !z.sameKey k := by
  funext z; cases left z <;> cases z.sameKey k <;> rfl
theorem merge1_any (key : ByteArray) (e : En) (w : World) : Calls Tryd.prog 31 #[.string key, enV e] w fun r w' => r = .returned (.bool e.dead) ∧ w' = w.alloc (.cells #[.string e.key, .string e.val, .bool e.dead] 34) := by
  obtain ⟨k, v, d⟩ := e
  simp only [enV]
  go_enter Tryd.func31, Tryd.ntmps31
  go_wp2_with fail
  go_ret
  exact ⟨rfl, rfl⟩

set_option maxRecDepth 100000 in
set_option maxHeartbeats 1000000 in
theorem del_any (w : World) (b n : Nat) (D : DataW Unit) (l : List En) (hown : w.ownsMap Tryd.prog 9 enR b n D) (hD : MapIs D (stE l)) :
    Calls Tryd.prog 30 #[.map (some b), .func (.func 31) #[] #[]] w fun e w' => e = .returned (.tuple #[]) ∧ (∃ D', w'.ownsMap Tryd.prog 9 enR b n D' ∧ MapIs D' (liveE l)) ∧ Fr [b] w w' := by
  have hK := string_keyed (P := Tryd.prog) (k := 9) Tryd.underlying9
  have hst : MapIs D (leftE l (Maps.has D)) := by
    have e : leftE l (Maps.has D) = stE l := by
      funext k
      unfold leftE
      have := hD.has k
      rw [this]
      cases stE l k <;> simp
    rw [e]; exact hD
  have HST := Lib.hid hst
  clear hst hD
  go_enter Tryd.func30, Tryd.ntmps30
  go_wp2_with (first
    | (at_range; refine wpList_range_own _ rfl _ 63 rfl 9 34 hK Tryd.underlying63 enR b n _ rfl hown ?_; intro w0 hrg0 hg0 hs0)
    | go_in)
  go_frame
  have f0 : Fr [b] w w0 := ⟨hg0.os, hg0.tape, hg0.output, hg0.size, fun k hk hx => hg0.block k hk (by simp)⟩
  go_loopw [4, 5] (fun _ _ wr => ∃ (D1 : DataW Unit) (left : Lit → Bool) (cnt : Nat), wr.ranges Tryd.prog 9 enR b w.heap.size n D1 left cnt ∧ MapIs D1 (leftE l left) ∧ Fr [b] w wr)
    (fun _ _ wr => wr.rangeLeft b w.heap.size)
  case atStart => exact ⟨_, _, _, hrg0, HST.out, f0⟩
  case round =>
    obtain ⟨D1, left, cnt, hrg, hD1, f1⟩ := hrel
    clear f0
    go_wp2_with (first
      | (at_next; refine wpList_next_ranges _ rfl _ rfl 9 hK enR encStr enV (fun key kl hk => by obtain ⟨x, hx, _⟩ := Maps.keyOf_str Tryd.underlying9 hk; exact ⟨x, hx⟩) (fun v y hv => by obtain ⟨c, rfl, _⟩ := enR_any hv; exact ⟨c, rfl⟩) b w.heap.size n _ _ _ rfl hrg ?_ ?_)
      | go_in)
    · intro _ hl0
      have hE : MapIs D1 (liveE l) := by
        have e : liveE l = leftE l left := by funext k; unfold liveE leftE; rw [hl0]; simp
        rw [e]; exact hD1
      have HE := Lib.hid hE
      go_wp2_with fail
      go_end0
      exact ⟨rfl, ⟨_, hrg.owns, HE.out⟩, f1⟩
    · intro x c kl yd yp w2 cnt2 hkey hlk hv hat hrg2 hlt hg2 hs2 hen
      obtain ⟨x', ex, rfl, _⟩ := Maps.keyOf_str Tryd.underlying9 hkey
      obtain rfl : x = x' := encStr_inj ex
      rw [enR_mk] at hv
      injection hv with hv
      injection hv with hv1 hv2
      subst hv1
      obtain ⟨ck, cv, cd⟩ := c
      obtain ⟨kb, hkb⟩ : ∃ kb : ByteArray, kb = ⟨x.toArray⟩ := ⟨_, rfl⟩
      have hx : x = kb.data.toList := by rw [hkb]
      have hes : encStr x = .string kb := by subst hkb; rfl
      rw [hx] at hat hlk hkey hrg2
      have hσ := hD1.one (k := kb) hat
      have hls := leftE_step hσ
      have hmd := hD1.del kb
      have hkey' : keyOf Tryd.prog 9 (.string kb) = some (.string kb.data.toList) := by rw [← hes, hx]; exact hkey
      have f2 : Fr [b] w w2 := ⟨hg2.os.trans f1.os, hg2.tape.trans f1.tape, hg2.output.trans f1.output, Nat.le_trans f1.size hg2.size, fun k hk hxx => (hg2.block k (Nat.lt_of_lt_of_le hk f1.size) (fun e => by injection e with e; omega)).trans (f1.block k hk hxx)⟩
      have hrg3 := hrg2.of_walks (KeepsWalks.alloc w2 (.cells #[.string ck, .string cv, .bool cd] 34))
      have hc := merge1_any kb ⟨ck, cv, cd⟩ (w2.alloc (.cells #[.string ck, .string cv, .bool cd] 34))
      have hrg4 := hrg3.of_walks (KeepsWalks.alloc _ (.cells #[.string ck, .string cv, .bool cd] 34))
      have f4 := (f2.alloc (.cells #[.string ck, .string cv, .bool cd] 34)).alloc (.cells #[.string ck, .string cv, .bool cd] 34)
      rw [hes] at hen ⊢
      simp only [enV] at hen hc ⊢
      simp only at hls
      have HLS := Lib.hid hls
      have HMD := Lib.hid hmd
      have HD1 := Lib.hid hD1
      clear hs2 hat hkey ex hx hkb hes hls hmd hD1 hσ hrg2 hrg3 f2
      cases cd with
      | false =>
        go_wp2_with (go_at_call 31; refine hc.mono ?_; rintro e u ⟨rfl, rfl⟩)
        go_roundw
        case rel => exact ⟨_, _, cnt2, hrg4, by have := HLS.out; rw [if_neg (by decide)] at this; rw [this]; exact HD1.out, f4⟩
        case measure => rw [hrg4.left_eq, hrg.left_eq]; exact hlt
      | true =>
        go_wp2_with (first
          | (go_at_call 31; refine hc.mono ?_; rintro e u ⟨rfl, rfl⟩)
          | (at_delete; refine wpList_delete_ranges _ rfl _ _ 63 9 rfl 34 hK Tryd.underlying63 enR b w.heap.size n _ _ _ rfl hrg4 _ _ rfl hkey' ?_; intro w3 cnt3 hrg5 hle hturn; go_frame)
          | go_in)
        rw [strike2] at hrg5
        have f5 : Fr [b] w w3 := f4.trans ⟨hturn.grown.os, hturn.grown.tape, hturn.grown.output, hturn.grown.size, fun k hk hxx => hturn.grown.block k hk (fun e => hxx (by injection e with e; simp [e]))⟩
        go_roundw
        case rel => exact ⟨_, _, cnt3, hrg5, by have := HLS.out; rw [if_pos (by trivial)] at this; rw [this]; exact HMD.out, f5⟩
        case measure => rw [hrg5.left_eq, hrg.left_eq]; omega

/-- What a map says, as a list that rises. -/
structure Says (σ : ByteArray → Option En) (R : List En) : Prop where
  key : ∀ k e, σ k = some e → kl e = k.data.toList
  ris : Ris R
  mem : ∀ e, e ∈ R ↔ σ e.key = some e
theorem says_live (l : List En) : Says (liveE l) ((firE l).filter fun e => !e.dead) := by
  refine ⟨fun k e h => ?_, ris_filter (firE_ris l) _, fun e => ?_⟩
  · unfold liveE at h
    cases hx : stE l k with
    | none => rw [hx] at h; cases h
    | some y =>
      rw [hx] at h
      simp only [Option.filter] at h
      split at h
      · injection h with h; subst h
        have := List.find?_some hx
        simpa using this
      · cases h
  · rw [List.mem_filter, firE_iff]
    unfold liveE
    constructor
    · rintro ⟨h1, h2⟩
      have h3 : stE l e.key = some e := h1
      rw [h3]
      simp only [Option.filter, h2, if_true]
    · intro h
      cases hx : stE l e.key with
      | none => rw [hx] at h; cases h
      | some y =>
        rw [hx] at h
        simp only [Option.filter] at h
        split at h
        · rename_i hd
          injection h with h; subst h
          exact ⟨hx, hd⟩
        · cases h
theorem sorted_gen {D0 : DataW Unit} {σ : ByteArray → Option En} {R : List En} {ps : List (List UInt8 × En)} {ys : List En} (hall : AllOf D0 ps) (hD : MapIs D0 σ) (hS : Says σ R) (hp : ys.Perm (ps.map (·.2))) (hs : ys.Pairwise (fun a b => ¬ kl b < kl a)) : ys = R := by
  have hone : ∀ p ∈ ps, σ ⟨p.1.toArray⟩ = some p.2 := by
    intro p hpm
    exact hD.one (k := ⟨p.1.toArray⟩) (fun zd => by have := hall.2.2.1 p hpm zd; simpa using this)
  have hkey : ∀ p ∈ ps, kl p.2 = p.1 := fun p hpm => by have := hS.key _ _ (hone p hpm); simpa using this
  have hmem : ∀ e, e ∈ ps.map (·.2) ↔ σ e.key = some e := by
    intro e
    constructor
    · intro he
      obtain ⟨p, hpm, rfl⟩ := List.mem_map.1 he
      have e0 : p.2.key = ⟨p.1.toArray⟩ := WideShapes.bytes_inj (by have := hkey p hpm; unfold kl at this; simpa using this)
      rw [e0]; exact hone p hpm
    · intro he
      have h1 := hD.has e.key
      rw [he] at h1
      obtain ⟨p, hpm, hp1⟩ := List.mem_map.1 ((hall.2.1 _).2 h1)
      have h2 := hone p hpm
      have e0 : (⟨p.1.toArray⟩ : ByteArray) = e.key := WideShapes.bytes_inj (by simp [hp1])
      rw [e0, he] at h2
      injection h2 with h2
      exact List.mem_map.2 ⟨p, hpm, h2.symm⟩
  have hnd : (ys.map kl).Nodup := by
    refine (hp.map kl).nodup_iff.2 ?_
    have e : (ps.map (·.2)).map kl = ps.map (·.1) := by
      rw [List.map_map]; exact List.map_congr_left (fun p hpm => hkey p hpm)
    rw [e]
    exact hall.1
  have hris : Ris ys := by
    have h2 := List.pairwise_map.1 hnd
    refine (hs.and h2).imp ?_
    rintro a b ⟨h3, h4⟩
    rcases kl_tri (kl a) (kl b) with h | h | h
    · exact h
    · exact absurd h h4
    · exact absurd h h3
  exact ris_ext hris hS.ris (fun e => by rw [hp.mem_iff, hmem, hS.mem])
theorem collect_gen (Bm b nn : Nat) (D0 : DataW Unit) (σ : ByteArray → Option En) (R : List En) (hS : Says σ R) (w : World) (hBm : Bm < w.heap.size) (hm : w.cell? ⟨Bm, 0, none⟩ = some (.map (some b))) (hown : w.ownsMap Tryd.prog 9 enR b nn D0) (hn : nn ≤ 1000000000) (hD : MapIs D0 σ) :
    Calls Tryd.prog 47 #[.func (.func 49) #[] #[.pointer (some ⟨Bm, 0, none⟩)]] w fun e w' => (∃ (xs : List En) (A : Option Addr) (cap : Nat), e = .returned (.slice A xs.length cap) ∧ (∀ ys : List En, ys.Perm xs → ys.Pairwise (fun a b => ¬ kl b < kl a) → ys = R) ∧ xs.length ≤ 1000000000 ∧ w'.ownsRow w.heap.size 34 3 (.slice A xs.length cap) xs.length (ecells xs)) ∧ Below w.heap.size w w' := by
  have hsz := hown.size_le
  refine (collect_any Bm b nn D0 w hBm hm hown (by omega)).mono ?_
  rintro e w' ⟨⟨v, ps, rfl, h1, h2⟩, hb⟩
  obtain ⟨A, cap, rfl⟩ := row_slice h2
  have hk := h1.2.2.2
  exact ⟨⟨_, A, cap, rfl, fun ys hp hs => sorted_gen h1 hD hS hp hs, by rw [List.length_map]; omega, h2⟩, hb⟩
set_option maxRecDepth 100000 in
set_option maxHeartbeats 1000000 in
theorem sortedG_any (Bm b nn : Nat) (D0 : DataW Unit) (σ : ByteArray → Option En) (R : List En) (hS : Says σ R) (w : World) (hBm : Bm < w.heap.size) (hm : w.cell? ⟨Bm, 0, none⟩ = some (.map (some b))) (hown : w.ownsMap Tryd.prog 9 enR b nn D0) (hn : nn ≤ 1000000000) (hD : MapIs D0 σ) :
    Calls Tryd.prog 32 #[.func (.func 49) #[] #[.pointer (some ⟨Bm, 0, none⟩)], .func (.func 34) #[] #[]] w fun e w' => ∃ A cap, e = .returned (.slice A R.length cap) ∧ CsAt w' A (ecells R) ∧ Below w.heap.size w w' := by
  have H := collect_gen Bm b nn D0 σ R hS w hBm hm hown hn hD
  clear hm hD hown hS
  go_enter Tryd.func32, Tryd.ntmps32
  go_wp2_with (go_at_call 47; refine H.mono ?_; rintro e w1 ⟨⟨xs, A, cap, rfl, hF, hlen, h2⟩, hb⟩; refine Hid.out ?_)
  refine Lib.hid ?_
  have HS := sort_any w1 w.heap.size A cap xs h2 hb.size hlen
  have HF := Lib.hid hF
  clear H h2 hF
  go_wp2_with (go_at_call 48; refine HS.mono ?_; rintro e w2 ⟨rfl, ⟨ys, hp, hs, hc⟩, hb2⟩; refine Hid.out ?_)
  refine Lib.hid ?_
  have ey := HF.out ys hp hs
  have el : xs.length = R.length := by rw [← ey]; exact hp.length_eq.symm
  rw [ey] at hc
  have B2 := hb.trans hb2
  have HEl := Lib.hid el
  clear HS HF hp hs el ey
  go_wp2_with fail
  go_ret
  exact ⟨A, cap, by rw [HEl.out]; rfl, hc, B2⟩
set_option maxRecDepth 100000 in
set_option maxHeartbeats 1000000 in
theorem merge_false (w : World) (la : Option Addr) (c : Nat) (T : List Tab) (hC : CsAt w la (T.map tabV)) (hT : ∀ t ∈ T, TabOk w t) (hn : T.length ≤ 1000) :
    Calls Tryd.prog 16 #[.slice la T.length c, .bool false] w fun e w' => MgEnd w ((allR T).map fun Ls => mergeP Ls false) e w' := by
  have hmm := @run_makeMap Tryd.prog
  have hmx : maxLen = 9223372036854775807 := rfl
  have hml : (w.alloc (.map #[] 0)).ownsMap Tryd.prog 9 enR w.heap.size 0 (.map []) := World.ownsMap_made w Tryd.prog 9 enR
  have hB0 : Below w.heap.size w (w.alloc (.map #[] 0)) := (Below.refl _ w).alloc (Nat.le_refl _) _
  have kC := Lib.hid (fun (u : World) (hb : Below w.heap.size w u) => hC.keep hb)
  have kT := Lib.hid (fun (u : World) (hb : Below w.heap.size w u) (t : Tab) (ht : t ∈ T) => (hT t ht).keep hb)
  have s0 : w.heap.size < (w.alloc (.map #[] 0)).heap.size := by simp
  clear hC hT
  go_enter Tryd.func16, Tryd.ntmps16
  go_wp2_with fail
  go_loopw [14] (fun i wr => ∃ (k n : Nat) (D : DataW Unit) (Ls : List (List En)), k ≤ T.length ∧ i = .int .i64 k ∧ allR (T.take k) = some Ls ∧ n ≤ 400 * k ∧ wr.ownsMap Tryd.prog 9 enR w.heap.size n D ∧ MapIs D (stE Ls.flatten) ∧ Below w.heap.size w wr ∧ w.heap.size < wr.heap.size) (fun i _ => T.length - (intOf i).toNat)
  case atStart => exact ⟨0, 0, .map [], [], by omega, rfl, rfl, by omega, hml, mapIs_nil, hB0, s0⟩
  case round =>
    obtain ⟨k, n, D, Ls, hk, rfl, ha, hn', ho, hD, hb, hs⟩ := hrel
    clear hml hB0 s0
    by_cases hlt : k < T.length
    · have hC1 := kC.out wr hb
      obtain ⟨b, o, rfl, hcell⟩ := hC1.at (fun e => by have h0 := congrArg List.length e; rw [List.length_map] at h0; simp only [List.length_nil] at h0; omega)
      have c0 := hcell k (tabV T[k]) (by simp [hlt])
      have hok := kT.out wr hb _ (List.getElem_mem hlt)
      have HRd := read_any wr T[k].1 T[k].2.1 T[k].2.2 hok.1 hok.2.1 hok.2.2.1 hok.2.2.2
      cases hr : readTb T[k].2.2 with
      | none =>
        have HNo := Lib.hid (allR_bad hlt hr)
        rw [hr] at HRd
        simp only [RtEnd] at HRd
        generalize T[k] = t at *
        obtain ⟨tp, tc, tl⟩ := t
        simp only [tabV] at c0 HRd
        clear hcell hok hr ha hD ho
        go_wp2_with (go_at_call 9; refine HRd.mono ?_; rintro e u1 ⟨rfl, b1⟩)
        go_ret2
        exact MgEnd.no (by rw [HNo.out]; rfl) (hb.trans (b1.mono hb.size))
      | some x =>
        have HNx := Lib.hid (allR_next hlt ha hr)
        obtain ⟨hx4, hxf, hxr⟩ := ents_zero (readTb_some hr).1
        have hxk : ∀ e ∈ x, e.key.size ≤ maxLen := fun e he => by have := (en_len (hxf e he).1).2.1; omega
        rw [hr] at HRd
        simp only [RtEnd] at HRd
        generalize T[k] = t at *
        obtain ⟨tp, tc, tl⟩ := t
        simp only [tabV] at c0 HRd
        clear hcell hok hr ha hxf hxr
        go_wp2_with (go_at_call 9; refine HRd.mono ?_; rintro e u1 ⟨⟨v1, rfl, own1⟩, b1⟩; obtain ⟨A1, c1, rfl⟩ := row_slice own1; refine Hid.out ?_)
        refine Lib.hid ?_
        have ho1 : u1.ownsMap Tryd.prog 9 enR w.heap.size n D := own_block ho (b1.block _ hs)
        have hCx := (own_cs own1 (ecells_len x)).1
        have hoff : ∀ a, A1 = some a → a.block ≠ w.heap.size := fun a ha => by
          have := (own1.lt a.block (by rw [ha]; rcases own1.2 with ⟨e0, -⟩ | ⟨g, cap, cur, e0, -⟩
                                       · rw [ha] at e0; cases e0
                                       · rw [ha] at e0; simp only [Value.slice.injEq] at e0; obtain ⟨e1, -⟩ := e0; injection e1 with e1; rw [e1]; rfl)).1
          omega
        have hs1 : w.heap.size < u1.heap.size := Nat.lt_of_lt_of_le hs b1.size
        have HAd := addNew_any u1 w.heap.size n D Ls.flatten A1 c1 x ho1 hD hs1 hCx hoff hx4 (by omega) hxk
        have B1 := hb.trans (b1.mono hb.size)
        clear HRd own1 hCx hoff hD ho ho1 b1
        go_wp2_with (go_at_call 29; refine HAd.mono ?_; rintro e u2 ⟨rfl, ⟨n2, D2, hn2, ho2, hD2⟩, f2⟩; refine Hid.out ?_)
        refine Lib.hid ?_
        have B2 : Below w.heap.size w u2 := B1.trans (f2.toBelow B1.size (by simp))
        have hs2 : w.heap.size < u2.heap.size := Nat.lt_of_lt_of_le hs1 f2.size
        clear HAd f2 B1
        go_wp2_with fail
        go_roundw
        case rel => exact ⟨k + 1, n2, D2, Ls ++ [x], by omega, by go_num, HNx.out, by omega, ho2, by simpa using hD2, B2, hs2⟩
        case measure => simp [intOf]; omega
    · have e : T.take k = T := List.take_of_length_le (by omega)
      rw [e] at ha
      have HDe := del_any wr w.heap.size n D Ls.flatten ho hD
      have hfine := allR_fine ha
      have hfk : ∀ r ∈ (firE Ls.flatten).filter fun e => !e.dead, r.key.size ≤ 9223372036854775807 ∧ r.val.size ≤ 9223372036854775807 := fun r hr => by
        have := en_len (hfine r (firE_sub _ r (List.mem_filter.1 hr).1)).1
        omega
      have hfl : ((firE Ls.flatten).filter fun e => !e.dead).length ≤ 9223372036854775807 := by
        have h1 := firE_len Ls.flatten []
        have h2 := allR_len ha
        have h3 := List.length_filter_le (fun e : En => !e.dead) (firE Ls.flatten)
        unfold firE at h3 ⊢
        simp only [List.length_nil, Nat.zero_add] at h1
        omega
      have HMg : Hid ((allR T).map (fun Ls => mergeP Ls false) = some ((firE Ls.flatten).filter fun e => !e.dead)) := Lib.hid (by rw [ha]; simp [mergeP])
      have hSy := says_live Ls.flatten
      have HSy := Lib.hid hSy
      generalize (firE Ls.flatten).filter (fun e => !e.dead) = R at *
      clear ha ho hD hfine e hSy
      go_wp2_with (go_at_call 30; refine HDe.mono ?_; rintro e u0 ⟨rfl, ⟨D1, ho1, hD1⟩, f0⟩; refine Hid.out ?_)
      refine Lib.hid ?_
      have B0 : Below w.heap.size w u0 := hb.trans (f0.toBelow hb.size (by simp))
      have HV := vals_any w.heap.size u0
      have B1 : Below w.heap.size w (u0.alloc (.cells #[.map (some w.heap.size)] 63)) := B0.alloc B0.size _
      have ho2 : (u0.alloc (.cells #[.map (some w.heap.size)] 63)).ownsMap Tryd.prog 9 enR w.heap.size n D1 := ho1.alloc _
      have HSo := sortedG_any u0.heap.size w.heap.size n D1 (liveE Ls.flatten) R HSy.out (u0.alloc (.cells #[.map (some w.heap.size)] 63)) (by simp) (by simp) ho2 (by omega) hD1
      clear HDe f0 ho1 hD1 ho2 hb
      go_wp2_with (first | (go_at_call 33; refine HV.mono ?_; rintro e u1 ⟨rfl, rfl⟩) | (go_at_call 32; refine HSo.mono ?_; rintro e u2 ⟨A2, c2, rfl, hC2, b2⟩; refine Hid.out ?_))
      refine Lib.hid ?_
      have B2 := B1.trans (b2.mono B1.size)
      have HBu := build_any u2 A2 c2 R hC2 hfl hfk
      clear HV HSo b2 B1 hC2
      go_wp2_with (go_at_call 7; refine HBu.mono ?_; intro e u3 hE; obtain ⟨v3, i3, rfl⟩ := bdEnd_ret hE; refine Hid.out ?_)
      refine Lib.hid ?_
      have HE := Lib.hid (MgEnd.yes HMg.out hE B2)
      clear HBu hE
      go_wp2_with fail
      go_ret2
      exact HE.out
end Go.Proofs.YtpjjjelibpoohabDoor
