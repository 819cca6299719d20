/- The files of a picture, each once. -/
import Derived.Test.YthlaccicdbbeeaaHc
namespace Go.Proofs.Ythlaccicdbbeeaa
open Go.RowKit
open Go.Maps (string_keyed int_keyed)
open Go.Sort Go.Shelf
set_option linter.unusedVariables false

/-- A row of strings that is one's own. -/
def OwnS (lo : Nat) (w : World) (A : Option Addr) (l : List ByteArray) : Prop :=
  l = [] ∨ ∃ g cur, A = some ⟨g, 0, none⟩ ∧ lo ≤ g ∧ w.heap[g]? = some (.cells cur 9 (0, 0)) ∧ ∀ i (h : i < l.length), cur[i]? = some (.string l[i])
theorem OwnS.ss {lo : Nat} {w : World} {A : Option Addr} {l : List ByteArray} (h : OwnS lo w A l) : SsAt w A l := by
  rcases h with h | ⟨g, cur, rfl, -, hg, hc⟩
  · exact .inl h
  · refine .inr ⟨g, 0, rfl, fun i hi => ?_⟩
    simp [World.cell?, hg, hc i hi]
theorem OwnS.of {lo : Nat} {w : World} {A : Option Addr} {l : List ByteArray} (h : SsAt w A l) (hn : ∀ a, A = some a → lo ≤ a.block ∧ a.off = 0 ∧ ∃ cur, w.heap[a.block]? = some (.cells cur 9 (0, 0))) : OwnS lo w A l := by
  rcases h with h | ⟨b, o, rfl, hc⟩
  · exact .inl h
  · obtain ⟨h1, h2, cur, h3⟩ := hn _ rfl
    simp only at h1 h2 h3
    subst h2
    refine .inr ⟨b, cur, rfl, h1, h3, fun i hi => ?_⟩
    have := hc i hi
    simpa [World.cell?, h3] using this
theorem OwnS.below {lo : Nat} {w w' : World} {A : Option Addr} {l : List ByteArray} (h : OwnS lo w A l) (hb : Below w.heap.size w w') : OwnS lo w' A l := by
  rcases h with h | ⟨g, cur, rfl, h1, hg, hc⟩
  · exact .inl h
  · exact .inr ⟨g, cur, rfl, h1, (hb.block g (some_lt hg)).trans hg, hc⟩
/-- What is written there again. -/
theorem OwnS.again {lo : Nat} {w : World} {A : Option Addr} {l : List ByteArray} (h : OwnS lo w A l) {k : Nat} (hk : k < l.length) : ∃ g, A = some ⟨g, 0, none⟩ ∧ lo ≤ g ∧ g < w.heap.size ∧ w.cell? ⟨g, k, none⟩ = some (.string l[k]) ∧ w.frozen? ⟨g, k, none⟩ = false ∧ OwnS lo (w.setCell ⟨g, k, none⟩ (.string l[k])) A l := by
  rcases h with h | ⟨g, cur, rfl, h1, hg, hc⟩
  · subst h; simp at hk
  · refine ⟨g, rfl, h1, some_lt hg, by simp [World.cell?, hg, hc k hk], by simp [World.frozen?, hg], .inr ⟨g, cur.set! k (.string l[k]), rfl, h1, ?_, fun i hi => ?_⟩⟩
    · simp [World.setCell, Array.getElem?_modify, hg]
    · by_cases e : i = k
      · subst e
        have := (Array.getElem?_eq_some_iff.1 (hc i hi)).1
        simp [this]
      · simp only [Array.set!_eq_setIfInBounds]
        rw [Array.getElem?_setIfInBounds_ne (by omega)]; exact hc i hi

def OnceEnd (w : World) (l : List ByteArray) (e : Ending) (w' : World) : Prop :=
  Below w.heap.size w w' ∧ if onceE l = 0 then ∃ A cap own, e = .returned (.tuple #[.slice A own.length cap, .nilIface]) ∧ SsAt w' A own ∧ own.Nodup ∧ ∀ f, f ∈ own ↔ f ∈ l
    else e = .returned (.tuple #[.slice none 0 0, erV (onceE l)])
theorem OnceEnd.full {w w' : World} {l : List ByteArray} (h : 400 < (disL l).length) (hb : Below w.heap.size w w') : OnceEnd w l (.returned (.tuple #[.slice none 0 0, erV 4])) w' := by
  have e : onceE l = 4 := by unfold onceE; rw [if_pos h]
  refine ⟨hb, ?_⟩
  rw [e, if_neg (by decide)]
theorem OnceEnd.bad {w w' : World} {l : List ByteArray} (h : ¬ 400 < (disL l).length) (ha : l.all isNm = false) (hb : Below w.heap.size w w') : OnceEnd w l (.returned (.tuple #[.slice none 0 0, erV 2])) w' := by
  have e : onceE l = 2 := by unfold onceE; rw [if_neg h, if_neg (by rw [ha]; decide)]
  refine ⟨hb, ?_⟩
  rw [e, if_neg (by decide)]
theorem OnceEnd.good {w w' : World} {l own : List ByteArray} {A : Option Addr} {cap : Nat} (h : ¬ 400 < (disL l).length) (ha : l.all isNm = true) (hb : Below w.heap.size w w') (hs : SsAt w' A own) (hn : own.Nodup) (hm : ∀ f, f ∈ own ↔ f ∈ l) : OnceEnd w l (.returned (.tuple #[.slice A own.length cap, .nilIface])) w' := by
  have e : onceE l = 0 := by unfold onceE; rw [if_neg h, if_pos ha]
  refine ⟨hb, ?_⟩
  rw [e, if_pos rfl]
  exact ⟨A, cap, own, rfl, hs, hn, hm⟩

set_option maxRecDepth 100000 in
set_option maxHeartbeats 2000000 in
theorem once_any {w : World} {la : Option Addr} {l : List ByteArray} (hl : SsAt w la l) (c : Nat) (hlen : l.length ≤ 9223372036854775807) (hz : ∀ x ∈ l, x.size ≤ maxLen) :
    Calls Try.prog 32 #[.slice la l.length c] w (OnceEnd w l) := by
  have hmm := @run_makeMap Try.prog
  have HF := Lib.hid (fun w' => OnceEnd.full (w := w) (w' := w') (l := l))
  have HB := Lib.hid (fun w' => OnceEnd.bad (w := w) (w' := w') (l := l))
  have HG := Lib.hid (fun w' own A cap => OnceEnd.good (w := w) (w' := w') (l := l) (own := own) (A := A) (cap := cap))
  rw [erV_4] at HF
  rw [erV_2] at HB
  generalize OnceEnd w l = R at *
  have HT0 := TIs.nil w
  go_enter Try.func32, Try.ntmps32
  go_wp2
  go_loopw [13] (fun i wr => ∃ k : Nat, k ≤ l.length ∧ i = .int .i64 k ∧ (disL (l.take k)).length ≤ 400 ∧ TIs wr w.heap.size (l.take k) ∧ Below w.heap.size w wr) (fun i _ => l.length - (intOf i).toNat)
  case atStart => exact ⟨0, by omega, rfl, by simp [disL], by simpa using HT0, (Below.refl _ _).alloc (Nat.le_refl _) _⟩
  case round =>
    clear HT0
    obtain ⟨k, hk, rfl, hle, hT, hb⟩ := hrel
    by_cases hlt : k < l.length
    · have hsk := hz _ (List.getElem_mem hlt)
      obtain ⟨w2, hrun, hT2, hF2⟩ := hT.put hle l[k] hsk
      rw [← List.take_succ_eq_append_getElem hlt] at hT2
      have hln := hT2.len
      have hb2 : Below w.heap.size w w2 := hb.trans (hF2.toBelow hb.size (by simp))
      have hl' := hl.keepM (Fr.below (xs := []) hb) (by simp)
      rcases hl' with hl' | ⟨b, o, rfl, hl'⟩
      · subst hl'; simp at hlt
      have c0 := hl' k hlt
      have HT2 := Lib.hid hT2
      clear hl' hl hz hT hT2 hF2 hb
      by_cases h4 : 400 < (disL (l.take (k + 1))).length
      · have h4' : (400 : Int) < ((disL (l.take (k + 1))).length : Int) := by omega
        have HD := Lib.hid (Nat.lt_of_lt_of_le h4 (dis_take l (k + 1)))
        clear h4 HT2
        generalize l[k] = x at *
        generalize disL (l.take (k + 1)) = d at *
        go_wp2
        exact HF.out w2 HD.out hb2
      · have h4' : ¬ (400 : Int) < ((disL (l.take (k + 1))).length : Int) := by omega
        have HD := Lib.hid h4
        clear h4
        generalize l[k] = x at *
        have HK := Lib.hid (show (disL (l.take (k + 1))).length ≤ 400 by have := HD.out; omega)
        generalize (disL (l.take (k + 1))).length = d at h4' hln
        go_wp2
        go_roundw
        case rel => exact ⟨k + 1, by omega, by go_num, HK.out, HT2.out, hb2⟩
        case measure => simp [intOf]; omega
    · obtain rfl : k = l.length := by omega
      rw [List.take_length] at hT hle
      have hN : ¬ 400 < (disL l).length := by omega
      have HN := Lib.hid hN
      have HSo := Lib.hid (sortedT_any hT hle)
      have hdl := hle
      have HLe := Lib.hid hle
      clear hN hT hle
      go_wp2_with (go_at_call 44; refine (keysT_any _ _).mono ?_; rintro e w1 ⟨rfl, rfl⟩; refine Hid.out ?_)
      refine Lib.hid ?_
      go_wp2_with (go_at_call 29; refine Hid.out ?_)
      refine Lib.hid ?_
      refine HSo.out.mono ?_
      rintro e w2 ⟨A, cap, own, rfl, hA, hnd, hmem, hnew, hb2⟩
      have hb3 : Below w.heap.size w w2 := hb.trans (hb2.mono hb.size)
      have hol : own.length ≤ 400 := by rw [own_len hnd hmem]; exact HLe.out
      have hoz : ∀ x ∈ own, x.size ≤ maxLen := fun x hx => hz x ((hmem x).1 hx)
      have HC := contains_any (c := cap) hA (by omega) hoz
      rw [all_same hmem] at HC
      have hO : OwnS w.heap.size w2 A own := OwnS.of hA (fun a ha => by obtain ⟨q1, q2⟩ := hnew a ha; exact ⟨Nat.le_trans hb.size q1, q2⟩)
      have HM := Lib.hid hmem
      have HZ := Lib.hid hoz
      clear hA hnew hb2 HSo hmem hdl hz hl hoz hb
      cases hall : l.all isNm with
      | false =>
        rw [hall] at HC
        go_wp2_with (go_at_call 45; refine HC.mono ?_; rintro e w' ⟨rfl, rfl⟩)
        exact HB.out _ HN.out hall hb3
      | true =>
        rw [hall] at HC
        have HAll := Lib.hid hall
        clear hall
        go_wp2_with (go_at_call 45; refine HC.mono ?_; rintro e w' ⟨rfl, rfl⟩)
        clear HC
        go_loopw [33] (fun i wr => ∃ k : Nat, k ≤ own.length ∧ i = .int .i64 k ∧ OwnS w.heap.size wr A own ∧ Below w.heap.size w wr) (fun i _ => own.length - (intOf i).toNat)
        case atStart => exact ⟨0, by omega, rfl, hO, hb3⟩
        case round =>
          clear hO hb3
          obtain ⟨k, hk, rfl, hO, hb⟩ := hrel
          by_cases hlt : k < own.length
          · have hsk : own[k].size ≤ 20 := (isNm_size (List.all_eq_true.1 HAll.out _ ((HM.out _).1 (List.getElem_mem hlt)))).2
            have hss := hO.ss
            obtain ⟨g, rfl, hg1, hg2, c0, -, -⟩ := hO.again hlt
            have HCl := cloneStr_any own[k] wr (by omega)
            have HO := Lib.hid hO
            clear hss hO
            obtain ⟨x, hx⟩ : ∃ x, own[k] = x := ⟨_, rfl⟩
            rw [hx] at hsk c0 HCl
            have HX := Lib.hid hx
            clear hx
            go_wp2_with (go_at_call 23; refine Hid.out ?_)
            refine Lib.hid ?_
            refine HCl.mono ?_
            rintro e w4 ⟨rfl, hb4⟩
            obtain ⟨g', e', -, -, d0, d1, d2⟩ := (HO.out.below hb4).again hlt
            simp only [Option.some.injEq, Addr.mk.injEq, and_true] at e'
            subst e'
            rw [HX.out] at d0 d2
            have HO2 := Lib.hid d2
            have hb5 : Below w.heap.size w w4 := hb.trans (hb4.mono hb.size)
            clear d2 hb4 hb c0
            go_wp2
            go_roundw
            case rel => exact ⟨k + 1, by omega, by go_num, HO2.out, hb5.setCell (by exact hg1) _⟩
            case measure => simp [intOf]; omega
          · go_wp2
            exact HG.out _ _ _ _ HN.out HAll.out hb hO.ss hnd HM.out
end Go.Proofs.Ythlaccicdbbeeaa
