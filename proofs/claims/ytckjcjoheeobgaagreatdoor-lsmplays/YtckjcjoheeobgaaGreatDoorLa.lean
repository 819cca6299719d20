/- Tables in memory; the map of entries, without the dead. -/
import Derived.Test.YtckjcjoheeobgaaGreatDoorTo
import Derived.Test.YtckjcjoheeobgaaGreatDoorPureLa
import Derived.Test.YtckjcjoheeobgaaGreatDoorIter
import Derived.Maps.RangeWalk
namespace Go.Proofs.YtckjcjoheeobgaaGreatDoor
open Go.RowKit
open Go.Maps (string_keyed)
open Go.Shelf Go.Sort
set_option linter.unusedVariables false

/-- A table: where its bytes lie, how much room there is, what they are. -/
abbrev Tab := Option Addr × Nat × List UInt8
def tabV (t : Tab) : Value := .slice t.1 t.2.2.length t.2.1
def TabOk (w : World) (t : Tab) : Prop := BsAt w t.1 t.2.2 ∧ t.2.2.length ≤ 140737488355328 ∧ t.2.2.length ≤ t.2.1 ∧ t.2.1 ≤ 9223372036854775807
theorem TabOk.keep {w w' : World} {t : Tab} (h : TabOk w t) (hb : Below w.heap.size w w') : TabOk w' t := ⟨h.1.keep hb, h.2⟩
/-- A byte slice with what it holds. -/
def Bz (u : World) (A : Option Addr) (cap : Nat) (l : List UInt8) : Prop := BsAt u A l ∧ l.length ≤ cap ∧ cap ≤ 9223372036854775807
theorem Bz.keep {u u' : World} {A : Option Addr} {cap : Nat} {l : List UInt8} (h : Bz u A cap l) (hb : Below u.heap.size u u') : Bz u' A cap l := ⟨h.1.keep hb, h.2⟩
theorem own_bz {w : World} {B : Nat} {v : Value} {l : List UInt8} (h : Own B w v l) : ∃ A cap, v = .slice A l.length cap ∧ Bz w A cap l := by
  have hml : maxLen = 9223372036854775807 := rfl
  rcases h.2 with ⟨h0, h1⟩ | ⟨g, cap, cur, h0, hb, hg, hle, hm, hs, ht⟩
  · have e := List.eq_nil_of_length_eq_zero h1
    subst e
    exact ⟨none, 0, h0, .inl rfl, by simp, by omega⟩
  · have h' := h
    rw [h0] at h'
    exact ⟨_, cap, h0, (own_bs h' rfl).1, hle, by omega⟩

theorem bld_len {L : List En} (h : entsE L = 0) : (buildB L).length ≤ 140737488355328 := by
  have h1 := lst_len h
  have h2 := num_ten (n := ((lstB enB L).length : Int)) (by omega) (by omega)
  unfold buildB
  rw [seal_len]
  omega
theorem read_yes (u : World) (A : Option Addr) (c : Nat) (L : List En) (hz : Bz u A c (buildB L)) (hE : entsE L = 0) :
    Calls Tryz.prog 39 #[.slice A (buildB L).length c] u fun e u' => ∃ A' c', e = .returned (.tuple #[.slice A' L.length c', .nilIface]) ∧ CsAt u' A' (ecells L) ∧ Below u.heap.size u u' := by
  refine (read_any u A c _ hz.1 (bld_len hE) hz.2.1 hz.2.2).mono ?_
  rintro e u' ⟨h1, hb⟩
  rw [read_build hE] at h1
  obtain ⟨v, rfl, ho⟩ := h1
  obtain ⟨A', c', rfl⟩ := row_slice ho
  exact ⟨A', c', rfl, (own_cs ho (ecells_len L)).1, hb⟩

theorem tab_ok {u : World} {A : Option Addr} {c : Nat} {L : List En} (hz : Bz u A c (buildB L)) (hE : entsE L = 0) : TabOk u (A, c, buildB L) := ⟨hz.1, bld_len hE, hz.2.1, hz.2.2⟩
theorem ecells_one (l : List En) : ∀ u ∈ ecells l, u.oneCell' = true := by
  induction l with
  | nil => simp [ecells]
  | cons r l ih =>
    intro u hu
    simp only [ecells, List.mem_cons] at hu
    rcases hu with rfl | rfl | rfl | hu
    · rfl
    · rfl
    · rfl
    · exact ih u hu
/-- Where a row of elements of a type lies. -/
def LyAt (w : World) (p : Option Addr) (e : TypeId) : Prop := p = none ∨ ∃ (g : Nat) (cur : Array Value), p = some ⟨g, 0, none⟩ ∧ w.heap[g]? = some (.cells cur e (0, 0))
theorem LyAt.below {w w' : World} {p : Option Addr} {e : TypeId} (h : LyAt w p e) (hb : Below w.heap.size w w') : LyAt w' p e := by
  rcases h with h | ⟨g, cur, h1, h2⟩
  · exact .inl h
  · exact .inr ⟨g, cur, h1, by rw [hb.block g (some_lt h2)]; exact h2⟩
theorem LyAt.of {w : World} {B n m cap : Nat} {e : TypeId} {p : Option Addr} {cs : List Value} (h : w.ownsRow B e m (.slice p n cap) n cs) : LyAt w p e := by
  rcases h.2 with ⟨h0, -⟩ | ⟨g, cap, cur, h0, hb, hg, -⟩
  · simp at h0; exact .inl h0.1
  · simp at h0; exact .inr ⟨g, cur, h0.1, hg⟩
theorem build_yt (u : World) (la : Option Addr) (c : Nat) (L : List En) (h : CsAt u la (ecells L)) (hlen : L.length ≤ 9223372036854775807) (hok : ∀ r ∈ L, OkEn r) (hE : entsE L = 0) :
    Calls Tryz.prog 29 #[.slice la L.length c] u fun e u' => ∃ A cap, e = .returned (.tuple #[.slice A (buildB L).length cap, .nilIface]) ∧ Bz u' A cap (buildB L) ∧ LyAt u' A 5 ∧ Below u.heap.size u u' := by
  refine (build_any u la c L h hlen (fun r hr => by have := hok r hr; exact ⟨by have := this.1; omega, by have := this.2; omega⟩)).mono ?_
  rintro e u' ⟨h1, hb⟩
  rw [if_pos hE] at h1
  obtain ⟨v, rfl, ho⟩ := h1
  obtain ⟨A, cap, rfl, hz⟩ := own_bz ho
  exact ⟨A, cap, rfl, hz, LyAt.of ho, hb⟩
theorem infoBs : (Tryz.prog.info? 56).map (fun i => (i.zero, i.size, i.bytes)) = some (some (.slice none 0 0), 1, 24) := by kernel_rfl
theorem MapIs.del {D : DataW Unit} {σ : ByteArray → Option En} (h : MapIs D σ) (k : ByteArray) : MapIs (D.del (.string k.data.toList)) (fun q => if q.data.toList = k.data.toList then none else σ q) := by
  refine ⟨h.map.del _, fun q => ?_, fun q => ?_⟩
  · by_cases hq : q.data.toList = k.data.toList
    · rw [hq, Maps.has_del_same, if_pos rfl]; rfl
    · rw [Maps.has_del_other (fun e => hq (by injection e)), if_neg hq]; exact h.has q
  · by_cases hq : q.data.toList = k.data.toList
    · rw [hq, Maps.atKey_del_same, if_pos rfl]; rfl
    · rw [Maps.atKey_del_other (fun e => hq (by injection e)), if_neg hq]; exact h.at_ q
theorem MapIs.one {D : DataW Unit} {σ : ByteArray → Option En} (h : MapIs D σ) {k : ByteArray} {e : En} (hat : ∀ zd, D.atKey (.string k.data.toList) zd = enD e) : σ k = some e := by
  have h1 := Maps.has_true_of_atKey hat
  have h3 := h.has k
  have h4 := h.at_ k
  rw [h1] at h3
  cases hx : σ k with
  | none => rw [hx] at h3; cases h3
  | some y => rw [hx, hat] at h4; rw [enD_inj h4]; rfl
/-- What is there while the dead are struck. -/
def leftE (l : List En) (left : Lit → Bool) (k : ByteArray) : Option En := (stE l k).filter fun e => left (.string k.data.toList) || !e.dead
def liveE (l : List En) (k : ByteArray) : Option En := (stE l k).filter fun e => !e.dead
theorem leftE_step {l : List En} {left : Lit → Bool} {kb : ByteArray} {e : En} (hσ : leftE l left kb = some e) :
    leftE l (fun z => left z && !z.sameKey (.string kb.data.toList)) = if e.dead = true then (fun q => if q.data.toList = kb.data.toList then none else leftE l left q) else leftE l left := by
  have hse : stE l kb = some e := by
    unfold leftE at hσ
    cases hx : stE l kb with
    | none => rw [hx] at hσ; cases hσ
    | some y =>
      rw [hx] at hσ
      simp only [Option.filter] at hσ
      split at hσ
      · exact hσ
      · cases hσ
  have hself : Lit.sameKey (.string kb.data.toList) (.string kb.data.toList) = true := WideAt.sameKey_self trivial
  cases hd : e.dead with
  | true =>
    rw [if_pos rfl]
    funext q
    by_cases hq : q.data.toList = kb.data.toList
    · have e1 : stE l q = some e := by rw [← hse]; unfold stE; rw [hq]
      unfold leftE
      rw [e1, hq, if_pos rfl]
      simp [Option.filter, hself, hd]
    · rw [if_neg hq]
      have hsk : (Lit.string q.data.toList).sameKey (Lit.string kb.data.toList) = false := Maps.sameKey_ne (fun e2 => hq (by injection e2))
      unfold leftE
      simp only [hsk, Bool.not_false, Bool.and_true]
  | false =>
    rw [if_neg (by decide)]
    funext q
    by_cases hq : q.data.toList = kb.data.toList
    · have e1 : stE l q = some e := by rw [← hse]; unfold stE; rw [hq]
      unfold leftE
      rw [e1]
      simp [Option.filter, hd]
    · have hsk : (Lit.string q.data.toList).sameKey (Lit.string kb.data.toList) = false := Maps.sameKey_ne (fun e2 => hq (by injection e2))
      unfold leftE
      simp only [hsk, Bool.not_false, Bool.and_true]
theorem strike2 (left : Lit → Bool) (k : Lit) : (fun z : Lit => (left z && !z.sameKey k) && !z.sameKey k) = fun z => left z && !z.sameKey k := by
  funext z; cases left z <;> cases z.sameKey k <;> rfl
theorem comp1_any (key : ByteArray) (e : En) (w : World) : Calls Tryz.prog 34 #[.string key, enV e] w fun r w' => r = .returned (.bool e.dead) ∧ w' = w.alloc (.cells #[.string e.key, .string e.val, .bool e.dead] 40) := by
  obtain ⟨k, v, d⟩ := e
  simp only [enV]
  go_enter Tryz.func34, Tryz.ntmps34
  go_wp2_with fail
  go_ret
  exact ⟨rfl, rfl⟩

set_option maxRecDepth 100000 in
set_option maxHeartbeats 1000000 in
theorem del_any (w : World) (b n : Nat) (D : DataW Unit) (l : List En) (hown : w.ownsMap Tryz.prog 9 enR b n D) (hD : MapIs D (stE l)) :
    Calls Tryz.prog 33 #[.map (some b), .func (.func 34) #[] #[]] w fun e w' => e = .returned (.tuple #[]) ∧ (∃ D', w'.ownsMap Tryz.prog 9 enR b n D' ∧ MapIs D' (liveE l)) ∧ Fr [b] w w' := by
  have hK := string_keyed (P := Tryz.prog) (k := 9) Tryz.underlying9
  have hst : MapIs D (leftE l (Maps.has D)) := by
    have e : leftE l (Maps.has D) = stE l := by
      funext k
      unfold leftE
      have := hD.has k
      rw [this]
      cases stE l k <;> simp
    rw [e]; exact hD
  have HST := Lib.hid hst
  clear hst hD
  go_enter Tryz.func33, Tryz.ntmps33
  go_wp2_with (first
    | (at_range; refine wpList_range_own _ rfl _ 63 rfl 9 40 hK Tryz.underlying63 enR b n _ rfl hown ?_; intro w0 hrg0 hg0 hs0)
    | go_in)
  go_frame
  have f0 : Fr [b] w w0 := ⟨hg0.os, hg0.tape, hg0.output, hg0.size, fun k hk hx => hg0.block k hk (by simp)⟩
  go_loopw [4, 5] (fun _ _ wr => ∃ (D1 : DataW Unit) (left : Lit → Bool) (cnt : Nat), wr.ranges Tryz.prog 9 enR b w.heap.size n D1 left cnt ∧ MapIs D1 (leftE l left) ∧ Fr [b] w wr)
    (fun _ _ wr => wr.rangeLeft b w.heap.size)
  case atStart => exact ⟨_, _, _, hrg0, HST.out, f0⟩
  case round =>
    obtain ⟨D1, left, cnt, hrg, hD1, f1⟩ := hrel
    clear f0
    go_wp2_with (first
      | (at_next; refine wpList_next_ranges _ rfl _ rfl 9 hK enR encStr enV (fun key kl hk => by obtain ⟨x, hx, _⟩ := Maps.keyOf_str Tryz.underlying9 hk; exact ⟨x, hx⟩) (fun v y hv => by obtain ⟨c, rfl, _⟩ := enR_any hv; exact ⟨c, rfl⟩) b w.heap.size n _ _ _ rfl hrg ?_ ?_)
      | go_in)
    · intro _ hl0
      have hE : MapIs D1 (liveE l) := by
        have e : liveE l = leftE l left := by funext k; unfold liveE leftE; rw [hl0]; simp
        rw [e]; exact hD1
      have HE := Lib.hid hE
      go_wp2_with fail
      go_end0
      exact ⟨rfl, ⟨_, hrg.owns, HE.out⟩, f1⟩
    · intro x c kl yd yp w2 cnt2 hkey hlk hv hat hrg2 hlt hg2 hs2 hen
      obtain ⟨x', ex, rfl, _⟩ := Maps.keyOf_str Tryz.underlying9 hkey
      obtain rfl : x = x' := encStr_inj ex
      rw [enR_mk] at hv
      injection hv with hv
      injection hv with hv1 hv2
      subst hv1
      obtain ⟨ck, cv, cd⟩ := c
      obtain ⟨kb, hkb⟩ : ∃ kb : ByteArray, kb = ⟨x.toArray⟩ := ⟨_, rfl⟩
      have hx : x = kb.data.toList := by rw [hkb]
      have hes : encStr x = .string kb := by subst hkb; rfl
      rw [hx] at hat hlk hkey hrg2
      have hσ := hD1.one (k := kb) hat
      have hls := leftE_step hσ
      have hmd := hD1.del kb
      have hkey' : keyOf Tryz.prog 9 (.string kb) = some (.string kb.data.toList) := by rw [← hes, hx]; exact hkey
      have f2 : Fr [b] w w2 := ⟨hg2.os.trans f1.os, hg2.tape.trans f1.tape, hg2.output.trans f1.output, Nat.le_trans f1.size hg2.size, fun k hk hxx => (hg2.block k (Nat.lt_of_lt_of_le hk f1.size) (fun e => by injection e with e; omega)).trans (f1.block k hk hxx)⟩
      have hrg3 := hrg2.of_walks (KeepsWalks.alloc w2 (.cells #[.string ck, .string cv, .bool cd] 40))
      have hc := comp1_any kb ⟨ck, cv, cd⟩ (w2.alloc (.cells #[.string ck, .string cv, .bool cd] 40))
      have hrg4 := hrg3.of_walks (KeepsWalks.alloc _ (.cells #[.string ck, .string cv, .bool cd] 40))
      have f4 := (f2.alloc (.cells #[.string ck, .string cv, .bool cd] 40)).alloc (.cells #[.string ck, .string cv, .bool cd] 40)
      rw [hes] at hen ⊢
      simp only [enV] at hen hc ⊢
      simp only at hls
      have HLS := Lib.hid hls
      have HMD := Lib.hid hmd
      have HD1 := Lib.hid hD1
      clear hs2 hat hkey ex hx hkb hes hls hmd hD1 hσ hrg2 hrg3 f2
      cases cd with
      | false =>
        go_wp2_with (go_at_call 34; refine hc.mono ?_; rintro e u ⟨rfl, rfl⟩)
        go_roundw
        case rel => exact ⟨_, _, cnt2, hrg4, by have := HLS.out; rw [if_neg (by decide)] at this; rw [this]; exact HD1.out, f4⟩
        case measure => rw [hrg4.left_eq, hrg.left_eq]; exact hlt
      | true =>
        go_wp2_with (first
          | (go_at_call 34; refine hc.mono ?_; rintro e u ⟨rfl, rfl⟩)
          | (at_delete; refine wpList_delete_ranges _ rfl _ _ 63 9 rfl 40 hK Tryz.underlying63 enR b w.heap.size n _ _ _ rfl hrg4 _ _ rfl hkey' ?_; intro w3 cnt3 hrg5 hle hturn; go_frame)
          | go_in)
        rw [strike2] at hrg5
        have f5 : Fr [b] w w3 := f4.trans ⟨hturn.grown.os, hturn.grown.tape, hturn.grown.output, hturn.grown.size, fun k hk hxx => hturn.grown.block k hk (fun e => hxx (by injection e with e; simp [e]))⟩
        go_roundw
        case rel => exact ⟨_, _, cnt3, hrg5, by have := HLS.out; rw [if_pos (by trivial)] at this; rw [this]; exact HMD.out, f5⟩
        case measure => rw [hrg5.left_eq, hrg.left_eq]; omega

end Go.Proofs.YtckjcjoheeobgaaGreatDoor
