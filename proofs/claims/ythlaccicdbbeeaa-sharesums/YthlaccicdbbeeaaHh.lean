/- What is shared is counted once each: the walk. -/
import Derived.Test.YthlaccicdbbeeaaHg
import Derived.Test.YthlaccicdbbeeaaHi
namespace Go.Proofs.Ythlaccicdbbeeaa
open Go.RowKit
open Go.Maps (string_keyed int_keyed)
open Go.Sort Go.Shelf
open Classical
set_option linter.unusedVariables false

def aB : ByteArray := ⟨#[97]⟩
theorem aB_size : aB.size ≤ maxLen := by
  have h1 : aB.size = 1 := rfl
  unfold maxLen; omega
theorem aa_ok : takeE [] 3 [aB, aB] = 0 := by
  unfold takeE
  rw [if_neg (by decide), if_neg (by decide), if_neg (by decide)]
  unfold onceE
  rw [if_neg (by have := dis_le [aB, aB]; simp at this; omega), if_pos (by decide)]
theorem aa_cnt {own : List ByteArray} (hm : ∀ f, f ∈ own ↔ f ∈ [aB, aB]) : cntP [(3, own)] aB = 1 := by
  rw [cnt_cons, if_pos ((hm aB).2 List.mem_cons_self)]; rfl
theorem aa_drop (own : List ByteArray) : dropP [(3, own)] 3 = [] := by simp [dropP]
theorem cnt_nil : cntP [] = fun _ => 0 := by funext f; rfl
theorem allF_le {L : List Pic} (h : ∀ p ∈ L, p.2.length ≤ 400) : allF L ≤ 400 * L.length := by
  induction L with
  | nil => simp [allF]
  | cons p L ih =>
    have h1 := h p List.mem_cons_self
    have h2 := ih (fun q hq => h q (List.mem_cons_of_mem _ hq))
    simp only [allF, List.map_cons, List.sum_cons, List.length_cons] at *
    omega
theorem sum_take (l : List Nat) (k : Nat) : (l.take k).sum ≤ l.sum := by
  have : l.sum = (l.take k).sum + (l.drop k).sum := by rw [← List.sum_append, List.take_append_drop]
  omega
theorem sum_next {l : List ByteArray} {g : ByteArray → Nat} {k : Nat} (h : k < l.length) : ((l.take (k + 1)).map g).sum = ((l.take k).map g).sum + g l[k] := by
  rw [List.take_succ_eq_append_getElem h, List.map_append, List.sum_append]; simp
theorem str_eq {a b : ByteArray} (h : a = b) : (a.toList == b.toList) = true := by subst h; simp
theorem str_ne {a b : ByteArray} (h : a ≠ b) : (a.toList == b.toList) = false := by
  have : a.toList ≠ b.toList := fun e => h (by
    have e' : a.data.toList = b.data.toList := by rw [← Lib.toList_data, ← Lib.toList_data, e]
    cases a; cases b; congr 1; exact Array.toList_inj.1 e')
  simpa using this
noncomputable def notIn (l : List ByteArray) (x : ByteArray) : Bool := decide (x ∉ l)
theorem notIn_next {l : List ByteArray} {j : Nat} (h : j < l.length) (x : ByteArray) : notIn (l.take (j + 1)) x = (notIn (l.take j) x && !decide (l[j] = x)) := by
  unfold notIn
  rw [List.take_succ_eq_append_getElem h, Bool.eq_iff_iff]
  simp only [List.mem_append, List.mem_singleton, decide_eq_true_eq, Bool.and_eq_true, Bool.not_eq_true', decide_eq_false_iff_not, not_or]
  exact ⟨fun h => ⟨h.1, fun e => h.2 e.symm⟩, fun h => ⟨h.1, fun e => h.2 e.symm⟩⟩
theorem notIn_len {l : List ByteArray} {k : Nat} (h : k < l.length) : (disL (l.take (k + 1))).length = (disL (l.take k)).length + if notIn (l.take k) l[k] = true then 1 else 0 := by
  rw [dis_next_len h]
  unfold notIn
  by_cases e : l[k] ∈ l.take k <;> simp [e]
theorem SssAt.at {w : World} {p : Option Addr} {S : List (List ByteArray)} (h : SssAt w p S) {i : Nat} (hi : i < S.length) : ∃ b o q c, p = some ⟨b, o, none⟩ ∧ w.cell? ⟨b, o + i, none⟩ = some (.slice q S[i].length c) ∧ SsAt w q S[i] := by
  rcases h with h | ⟨b, o, h1, h2⟩
  · subst h; simp at hi
  · obtain ⟨q, c, h3, h4⟩ := h2 i hi
    exact ⟨b, o, q, c, h1, h3, h4⟩
theorem below_cell {w w' : World} {p : Addr} {v : Value} (hb : Below w.heap.size w w') (h : w.cell? p = some v) : w'.cell? p = some v := by
  rw [hb.cell (p := p) (block_lt_of_cell h)]; exact h
theorem ss_below {w w' : World} {p : Option Addr} {l : List ByteArray} (h : SsAt w p l) (hb : Below w.heap.size w w') : SsAt w' p l := h.keepM (Fr.below (xs := []) hb) (by simp)

theorem new_two (w : World) : Calls Try.prog 15 #[] w fun e w' => ∃ B P C, e = .returned (.pointer (some ⟨B, 0, none⟩)) ∧ ShS w' B P C 0 [] ∧ Below w.heap.size w w' ∧ w.heap.size ≤ P ∧ w.heap.size ≤ C := by
  refine (new_any w).mono ?_
  rintro e w' ⟨rfl, h1, h2⟩
  exact ⟨_, _, _, rfl, by unfold ShS; rw [cnt_nil]; exact h1, h2, Nat.le_refl _, by omega⟩
theorem below_drewN {B : Nat} {a w : World} (h : Below B a w) (n : Nat) : Below B a (w.drewN n) := h.trans ⟨rfl, rfl, rfl, Nat.le_refl _, fun _ _ => rfl⟩
set_option maxRecDepth 100000 in
set_option maxHeartbeats 4000000 in
theorem sums_walk (W : World) (a0 : Option Addr) (cap : Nat) (S : List (List ByteArray)) (hS : SssAt W a0 S) (hlen : S.length ≤ 9223372036854775807) (hl : ∀ l ∈ S, l.length ≤ 9223372036854775807) (hz : ∀ l ∈ S, ∀ x ∈ l, x.size ≤ maxLen) :
    Calls Try.prog 5 #[.slice a0 S.length cap] W fun e w' => e = .returned (.bool true) ∧ Below W.heap.size W w' := by
  have HN := Lib.hid (new_two W)
  have HS := Lib.hid hS
  have HL := Lib.hid hl
  have HZ := Lib.hid hz
  clear hS hl hz
  go_enter Try.func5, Try.ntmps5
  go_wp2_with (go_at_call 15; refine Hid.out ?_)
  refine Lib.hid ?_
  refine HN.out.mono ?_
  rintro e w1 ⟨B, P, C, rfl, h1, b1, hP, hC⟩
  have hPC : Hid (∀ {w w' : World}, W.heap.size ≤ w.heap.size → Fr [P, C] w w' → Below W.heap.size w w') := fun hs f => f.toBelow hs (by simp; exact ⟨hP, hC⟩)
  have H1 := Lib.hid h1
  clear h1 HN
  go_wp2_with (go_at_call 16; refine Hid.out ?_)
  refine Lib.hid ?_
  have bA : Below w1.heap.size w1 (w1.alloc (.cells #[.string aB, .string aB] 9)) := (Below.refl _ _).alloc (Nat.le_refl _) _
  have HT := take_any (H1.out.keep bA) POk.nil (by omega) (k := 3) (by constructor <;> decide) (la := some ⟨w1.heap.size, 0, none⟩) (l := [aB, aB]) 2 (.inr ⟨w1.heap.size, 0, rfl, fun i hi => by
    match i, hi with
    | 0, _ => simp
    | 1, _ => simp⟩) (by decide) (fun x hx => by simp at hx; subst hx; exact aB_size)
  refine HT.mono ?_
  clear HT
  rintro e w2 ⟨rfl, f2, -, h2⟩
  rw [aa_ok, erV_0]
  obtain ⟨own, hnd, hmem, hS2⟩ := h2 aa_ok
  have ok2 := POk.nil.take aa_ok hnd hmem
  have b2 : Below W.heap.size W w2 := b1.trans ((bA.mono b1.size).trans (hPC.out (by have := b1.size; simp; omega) f2))
  have HC := count_any hS2 aB aB_size
  rw [aa_cnt hmem] at HC
  have HD := Lib.hid (drop_yes hS2 ok2 (by omega) (k := 3) (by constructor <;> decide) (by simp [hasP]))
  rw [aa_drop] at HD
  clear f2 h2 hnd hmem hS2 ok2 bA b1 H1
  go_wp2_with (go_at_call 17; refine HC.mono ?_; rintro e w' ⟨rfl, rfl⟩; refine Hid.out ?_)
  refine Lib.hid ?_
  go_wp2_with (go_at_call 18; refine Hid.out ?_)
  refine Lib.hid ?_
  refine HD.out.mono ?_
  rintro e w3 ⟨rfl, h3, f3⟩
  have b3 : Below W.heap.size W w3 := b2.trans (hPC.out b2.size f3)
  clear HC HD f3 b2
  go_wp2_with fail
  go_loopw [7, 8] (fun t i wr => ∃ (j : Nat) (L : List Pic), j ≤ S.length ∧ j ≤ 30 ∧ i = .int .i64 j ∧ t = .int .i64 (allF L : Nat) ∧ ShS wr B P C (400 * (j + 1)) L ∧ POk L ∧ Below W.heap.size W wr) (fun _ i _ => S.length - (intOf i).toNat)
  case atStart => exact ⟨0, [], by omega, by omega, rfl, rfl, h3.up (by omega), POk.nil, b3⟩
  case round =>
    clear h3 b3
    obtain ⟨j, L, hj, hj30, rfl, rfl, hSh, ok, hb⟩ := hrel
    have hall := allF_le ok.le
    have hLl := ok.len
    generalize hA : allF L = A0 at *
    have HA := Lib.hid hA
    clear hA
    by_cases hlt : j < S.length ∧ j < 30
    · obtain ⟨hlt, h30⟩ := hlt
      have hi : (j : Int) < S.length := by omega
      have hi30 : (j : Int) < 30 := by omega
      obtain ⟨b, o, q, c, rfl, k0, hss⟩ := HS.out.at hlt
      have hmemS := List.getElem_mem hlt
      have HT := Lib.hid (take_any hSh ok (by omega) (k := (j : Int)) ⟨by omega, by omega⟩ c (ss_below hss hb) (HL.out _ hmemS) (HZ.out _ hmemS))
      have hll := HL.out _ hmemS
      have k1 := below_cell hb k0
      obtain ⟨l, hl⟩ : ∃ l, S[j] = l := ⟨_, rfl⟩
      rw [hl] at k0 k1 hss HT hll
      have HSS := Lib.hid hss
      have HOk := Lib.hid ok
      clear hmemS hl hss ok
      go_wp2_with (go_at_call 16; refine Hid.out ?_)
      refine Lib.hid ?_
      refine HT.out.mono ?_
      clear HT
      rintro e w4 ⟨rfl, f4, hno, hyes⟩
      have b4 : Below W.heap.size W w4 := hb.trans (hPC.out hb.size f4)
      have k4 := below_cell b4 k0
      have HK0 := Lib.hid k0
      clear k0 k1 hSh hb f4
      by_cases hE : takeE L j l = 0
      · obtain ⟨own, hnd, hmem, hS4⟩ := hyes hE
        have ok4 := HOk.out.take hE hnd hmem
        have hol : (disL l).length ≤ 400 := by rw [← own_len hnd hmem]; exact ok4.le _ List.mem_cons_self
        have hfin : allF ((j, own) :: L) = A0 + (disL l).length := by
          rw [← own_len hnd hmem, ← HA.out]; simp only [allF, List.map_cons, List.sum_cons]; omega
        have ss4 := ss_below HSS.out b4
        rw [hE, erV_0]
        have HF := Lib.hid hfin
        have HS4 := Lib.hid hS4
        have HO4 := Lib.hid ok4
        clear hno hyes hE hnd hmem hfin hS4 ok4
        go_wp2_with fail
        go_loopw [7, 10] (fun t i wr => ∃ k m : Nat, k ≤ l.length ∧ i = .int .i64 k ∧ t = .int .i64 ((A0 + (disL (l.take k)).length : Nat)) ∧ wr = w4.drewN m) (fun _ i _ => l.length - (intOf i).toNat)
        case atStart => exact ⟨0, 0, by omega, rfl, by simp [disL], rfl⟩
        case round =>
          obtain ⟨k, m, hk, rfl, rfl, rfl⟩ := hrel
          have hdk := dis_take l k
          by_cases hkl : k < l.length
          · have hki : (k : Int) < l.length := by omega
            have HNL := Lib.hid (notIn_len hkl)
            rcases ss4 with ss4 | ⟨bq, oq, rfl, ss4⟩
            · subst ss4; simp at hkl
            have kx := ss4 k hkl
            obtain ⟨x, hx⟩ : ∃ x, l[k] = x := ⟨_, rfl⟩
            rw [hx] at kx HNL
            generalize hd : (disL (l.take k)).length = dk at *
            have HSs := Lib.hid ss4
            clear hd hx ss4
            go_wp2_with fail
            go_loopw [11, 12] (fun fst i wr => ∃ jj m : Nat, jj ≤ k ∧ i = .int .i64 jj ∧ fst = .bool (notIn (l.take jj) x) ∧ wr = w4.drewN m) (fun _ i _ => k - (intOf i).toNat)
            case atStart => exact ⟨0, m, by omega, rfl, by simp [notIn], rfl⟩
            case round =>
              obtain ⟨jj, m', hjj, rfl, rfl, rfl⟩ := hrel
              by_cases hjk : jj < k
              · have hjl : jj < l.length := by omega
                have hji : (jj : Int) < k := by omega
                have hji2 : (jj : Int) < l.length := by omega
                have ky := HSs.out jj hjl
                have hnx := notIn_next hjl x
                obtain ⟨y, hy⟩ : ∃ y, l[jj] = y := ⟨_, rfl⟩
                rw [hy] at ky hnx
                have HX := Lib.hid hnx
                clear hy hnx
                generalize hv : notIn (l.take jj) x = v at *
                clear hv
                by_cases he : y = x
                · have hq := str_eq he
                  have HE := Lib.hid he
                  clear he
                  cases v with
                  | false =>
                    go_wp2_with fail
                    go_quiet (fail)
                    go_wp2_with fail
                    go_roundw
                    case rel => exact ⟨jj + 1, _, by omega, by go_num, by rw [HX.out]; rfl, rfl⟩
                    case measure => simp [intOf]; omega
                  | true =>
                    go_wp2_with fail
                    go_quiet (fail)
                    go_wp2_with fail
                    go_roundw
                    case rel => exact ⟨jj + 1, _, by omega, by go_num, by rw [HX.out, decide_eq_true HE.out]; rfl, rfl⟩
                    case measure => simp [intOf]; omega
                · have hq := str_ne he
                  have HE := Lib.hid he
                  clear he
                  cases v with
                  | false =>
                    go_wp2_with fail
                    go_quiet (fail)
                    go_wp2_with fail
                    go_roundw
                    case rel => exact ⟨jj + 1, _, by omega, by go_num, by rw [HX.out]; rfl, rfl⟩
                    case measure => simp [intOf]; omega
                  | true =>
                    go_wp2_with fail
                    go_quiet (fail)
                    go_wp2_with fail
                    go_roundw
                    case rel => exact ⟨jj + 1, _, by omega, by go_num, by rw [HX.out, decide_eq_false HE.out]; rfl, rfl⟩
                    case measure => simp [intOf]; omega
              · obtain rfl : jj = k := by omega
                have hji : ¬ (jj : Int) < jj := by omega
                generalize hv : notIn (l.take jj) x = v at *
                have HV := Lib.hid hv
                clear hv
                cases v with
                | false =>
                  go_wp2_with fail
                  go_roundw
                  case rel => exact ⟨jj + 1, _, by omega, by go_num, by have := HNL.out; rw [if_neg (by decide)] at this; rw [this]; rfl, rfl⟩
                  case measure => simp [intOf]; omega
                | true =>
                  go_wp2_with fail
                  go_roundw
                  case rel => exact ⟨jj + 1, _, by omega, by go_num, by have := HNL.out; rw [if_pos rfl] at this; rw [this]; go_num, rfl⟩
                  case measure => simp [intOf]; omega
          · obtain rfl : k = l.length := by omega
            have hki : ¬ (l.length : Int) < l.length := by omega
            rw [List.take_length]
            go_wp2_with fail
            go_roundw
            case rel => exact ⟨j + 1, _, by omega, by omega, by go_num, by rw [HF.out], ((HS4.out.drewN m).up (by omega)), HO4.out, below_drewN b4 m⟩
            case measure => simp [intOf]; omega
      · have hv : ∃ z : Int, erV (takeE L j l) = .iface 53 (.int .i64 z) := ⟨takeE L j l, by unfold erV; rw [if_neg hE]⟩
        obtain ⟨z, hv⟩ := hv
        have HS4 := Lib.hid (hno hE)
        rw [hv]
        clear hv hno hyes hE
        go_wp2_with fail
        go_roundw
        case rel => exact ⟨j + 1, L, by omega, by omega, by go_num, by rw [HA.out], HS4.out.up (by omega), HOk.out, b4⟩
        case measure => simp [intOf]; omega
    · have HLv := Lib.hid (live_any hSh (by omega))
      have HCn := Lib.hid (fun (w' : World) (h : Below wr.heap.size wr w') (f : ByteArray) (hf : isNm f = true) => count_any (hSh.keep h) f (nm_size hf))
      have HSh := Lib.hid hSh
      have HOk := Lib.hid ok
      have hout : ¬ (j : Int) < S.length ∨ ((j : Int) < S.length ∧ ¬ (j : Int) < 30) := by omega
      clear hSh ok hlt
      rcases hout with ho | ⟨ho, ho2⟩
      all_goals
        go_wp2_with (go_at_call 19; refine Hid.out ?_)
        refine Lib.hid ?_
        refine HLv.out.mono ?_
        rintro e w5 ⟨A5, c5, live, rfl, hs5, hnd5, hm5, -, hl5, b5⟩
        have hnm : ∀ f ∈ live, isNm f = true := fun f hf => by
          obtain ⟨p, hp, hfp⟩ := cnt_pos.1 (Nat.pos_of_ne_zero ((hm5 f).1 hf))
          exact HOk.out.nm p hp f hfp
        have hsum : (live.map (cntP L)).sum = A0 := by
          rw [← HA.out]
          exact cnt_sum hnd5 L HOk.out.nf (fun p hp f hf => (hm5 f).2 (Nat.ne_of_gt (cnt_pos.2 ⟨p, hp, hf⟩)))
        have HNm := Lib.hid hnm
        have HSum := Lib.hid hsum
        have HM5 := Lib.hid hm5
        have HS5 := Lib.hid hs5
        have hB5 : Below W.heap.size W w5 := hb.trans (b5.mono hb.size)
        clear hnm hsum hm5 hnd5 hs5 HLv hb
        go_wp2_with fail
        go_loop [14, 15] (fun t i => ∃ k : Nat, k ≤ live.length ∧ i = .int .i64 k ∧ t = .int .i64 (((live.take k).map (cntP L)).sum : Nat)) (fun _ i => live.length - (intOf i).toNat)
        case atStart => exact ⟨0, by omega, rfl, rfl⟩
        case round =>
          obtain ⟨k, hk, rfl, rfl⟩ := hrel
          have htk : ((live.take k).map (cntP L)).sum ≤ A0 := by rw [← HSum.out, List.map_take]; exact sum_take _ _
          by_cases hkl : k < live.length
          · have hki : (k : Int) < live.length := by omega
            have hfm := List.getElem_mem hkl
            have HC := HCn.out w5 b5 _ (HNm.out _ hfm)
            have hc1 := (HM5.out _).1 hfm
            have hc2 := cnt_le L live[k]
            have HNx := Lib.hid (sum_next (g := cntP L) hkl)
            have hs5 := HS5.out
            rcases hs5 with hs5 | ⟨bl, ol, rfl, hs5⟩
            · subst hs5; simp at hkl
            have kf := hs5 k hkl
            clear hs5 hfm
            generalize ((live.take k).map (cntP L)).sum = sk at *
            obtain ⟨y, hy⟩ : ∃ y, cntP L live[k] = y := ⟨_, rfl⟩
            rw [hy] at HC hc1 hc2 HNx
            obtain ⟨f, hf⟩ : ∃ f, live[k] = f := ⟨_, rfl⟩
            rw [hf] at HC kf
            have hy1 : ¬ (y : Int) < 1 := by omega
            clear hy hf
            go_wp2_with (go_at_call 17; refine HC.mono ?_; rintro e w' ⟨rfl, rfl⟩)
            go_round
            case rel => exact ⟨k + 1, by omega, by go_num, by rw [HNx.out]; go_num⟩
            case measure => simp [intOf]; omega
          · obtain rfl : k = live.length := by omega
            have hki : ¬ (live.length : Int) < live.length := by omega
            have e1 : ((live.take live.length).map (cntP L)).sum = A0 := by rw [List.take_length]; exact HSum.out
            rw [e1]
            have HP := Lib.hid (pics_any (HSh.out.keep b5) HOk.out)
            clear e1 htk HCn
            go_wp2_with (go_at_call 20; refine Hid.out ?_)
            refine Lib.hid ?_
            refine HP.out.mono ?_
            rintro e w6 ⟨A6, c6, p, rfl, hs6, hp6, -, hi6, hc6, b6⟩
            have HS6 := Lib.hid ((HSh.out.keep b5).keep b6)
            have hpl : p.length = L.length := by rw [hp6.length_eq, List.length_map]
            have HPl := Lib.hid hpl
            have hp4 : p.length ≤ 400 := by omega
            have hB6 : Below W.heap.size W w6 := hB5.trans (b6.mono hB5.size)
            have HP6 := Lib.hid hp6
            have HI6 := Lib.hid hi6
            have HN6 := Lib.hid hs6
            clear hpl hp6 hi6 hs6 HP b6
            go_wp2_with fail
            go_loopw [18] (fun i wr => ∃ (t : Nat) (L' : List Pic), 2 * t ≤ p.length + 1 ∧ i = .int .i64 (2 * t : Nat) ∧ ShS wr B P C (400 * (j + 1)) L' ∧ POk L' ∧ Fr [P, C] w6 wr ∧ L'.length + t = L.length ∧ ∀ x (hx : x < p.length), 2 * t ≤ x → hasP L' p[x] = true) (fun i _ => p.length + 1 - (intOf i).toNat)
            case atStart => exact ⟨0, L, by omega, rfl, HS6.out, HOk.out, Fr.refl _ _, rfl, fun x hx _ => perm_has HP6.out hx⟩
            case round =>
              obtain ⟨t, L', ht, rfl, hS', ok', hF, hle, hall'⟩ := hrel
              by_cases htl : 2 * t < p.length
              · have hti : ((2 * t : Nat) : Int) < p.length := by omega
                have hns := HN6.out.keepM hF HS6.out.maps
                rcases hns with hns | ⟨bp, op, rfl, hns⟩
                · subst hns; simp at htl
                have kp := hns (2 * t) htl
                have hhas := hall' (2 * t) htl (Nat.le_refl _)
                have hnd : p.Nodup := HP6.out.nodup_iff.2 HOk.out.nd
                have HX := Lib.hid (has_next hnd htl hall')
                have HD := Lib.hid (drop_yes hS' ok' (by omega) (HI6.out _ (List.getElem_mem htl)) hhas)
                have HLn := Lib.hid (drop_len ok'.nd (has_mem.1 hhas))
                have HOk' := Lib.hid (ok'.drop p[2 * t])
                have HF := Lib.hid hF
                have HLe := Lib.hid hle
                clear hns hall' hhas hnd hS' ok' hF hle
                obtain ⟨x, hx⟩ : ∃ x, p[2 * t] = x := ⟨_, rfl⟩
                rw [hx] at kp HD HX HLn HOk'
                clear hx
                generalize hu : 2 * t = u at *
                have HU := Lib.hid hu
                clear hu
                go_wp2_with (go_at_call 18; refine Hid.out ?_)
                refine Lib.hid ?_
                refine HD.out.mono ?_
                rintro e w7 ⟨rfl, h7, f7⟩
                go_wp2_with fail
                go_roundw
                case rel =>
                  have hu := HU.out
                  refine ⟨t + 1, _, by omega, ?_, h7, HOk'.out, HF.out.trans f7, by have := HLn.out; have := HLe.out; omega, fun x hx hxx => HX.out x hx (by omega)⟩
                  rw [show (2 * (t + 1) : Nat) = u + 2 from by omega]; go_num
                case measure => simp [intOf]; omega
              · have hti : ¬ ((2 * t : Nat) : Int) < p.length := by omega
                have hB7 : Below W.heap.size W wr := hB6.trans (hPC.out hB6.size hF)
                have HK := Lib.hid (keep0_any hS' ok' (by omega))
                have hql : (L'.length : Int) = (p.length : Int) / 2 := by have := HPl.out; omega
                generalize hu : 2 * t = u at *
                generalize hv : L'.length = lv at *
                clear hu hv hS' ok' hall' hF hle
                go_wp2_with (go_at_call 21; refine Hid.out ?_)
                refine Lib.hid ?_
                refine HK.out.mono ?_
                rintro e w8 ⟨A8, c8, rfl, h8, -, f8⟩
                have hB8 : Below W.heap.size W w8 := hB7.trans (hPC.out hB7.size f8)
                have HL8 := Lib.hid (live_any h8 (by omega))
                have HQ : ((lv : Int) == (p.length : Int) / 2) = true := by rw [hql]; simp
                have H8 := Lib.hid h8
                clear hql f8 HK h8
                go_wp2_with (go_at_call 19; refine Hid.out ?_)
                refine Lib.hid ?_
                refine HL8.out.mono ?_
                rintro e w9 ⟨A9, c9, l9, rfl, -, -, hm9, -, -, b9⟩
                have h90 : l9 = [] := by
                  cases l9 with
                  | nil => rfl
                  | cons a r => exact absurd rfl ((hm9 a).1 List.mem_cons_self)
                subst h90
                have HP9 := Lib.hid (pics_any (H8.out.keep b9) POk.nil)
                have hB9 : Below W.heap.size W w9 := hB8.trans (b9.mono hB8.size)
                clear hm9 HL8
                go_wp2_with (go_at_call 20; refine Hid.out ?_)
                refine Lib.hid ?_
                refine HP9.out.mono ?_
                rintro e w10 ⟨A10, c10, l10, rfl, -, hp10, -, -, -, b10⟩
                have h100 : l10 = [] := by simpa using hp10
                subst h100
                go_wp2_with fail
                go_ret
                exact ⟨rfl, hB9.trans (b10.mono hB9.size)⟩
end Go.Proofs.Ythlaccicdbbeeaa
