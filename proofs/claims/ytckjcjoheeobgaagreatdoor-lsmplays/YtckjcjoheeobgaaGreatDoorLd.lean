/- Keys, sorted; the entries of keys; Scan. -/
import Derived.Test.YtckjcjoheeobgaaGreatDoorLc
namespace Go.Proofs.YtckjcjoheeobgaaGreatDoor
open Go.RowKit
open Go.Maps (string_keyed)
open Go.Shelf Go.Sort
set_option linter.unusedVariables false

def keyEn (x : List UInt8) : En := ⟨⟨x.toArray⟩, ⟨#[]⟩, false⟩
theorem keyEn_kl (x : List UInt8) : kl (keyEn x) = x := by simp [kl, keyEn]
/-- Two that rise and have the same. -/
theorem lt_ext {a b : List (List UInt8)} (ha : a.Pairwise (· < ·)) (hb : b.Pairwise (· < ·)) (h : ∀ x, x ∈ a ↔ x ∈ b) : a = b := by
  have key : ∀ c : List (List UInt8), c.Pairwise (· < ·) → Ris (c.map keyEn) := fun c hc => by
    unfold Ris
    rw [List.pairwise_map]
    exact hc.imp (fun {x y} h => by rw [keyEn_kl, keyEn_kl]; exact h)
  have e : a.map keyEn = b.map keyEn := ris_ext (key a ha) (key b hb) (fun e => by
    rw [List.mem_map, List.mem_map]
    constructor
    · rintro ⟨x, hx, rfl⟩; exact ⟨x, (h x).1 hx, rfl⟩
    · rintro ⟨x, hx, rfl⟩; exact ⟨x, (h x).2 hx, rfl⟩)
  have e2 := congrArg (List.map kl) e
  rw [List.map_map, List.map_map] at e2
  have e3 : (kl ∘ keyEn) = id := by funext x; exact keyEn_kl x
  rw [e3] at e2
  simpa using e2
def leB (x y : List UInt8) : Bool := decide (x ≤ y)
theorem keys_es {ss ks : List (List UInt8)} {es : List En} (hp : ss.Perm ks) (hnd : ks.Nodup) (hr : Ris es) (hm : ∀ x, x ∈ ks ↔ ∃ e ∈ es, kl e = x) : ss.mergeSort leB = es.map kl := by
  have tr : ∀ a b c : List UInt8, leB a b = true → leB b c = true → leB a c = true := fun a b c h1 h2 => by simp only [leB, decide_eq_true_eq] at *; exact List.le_trans h1 h2
  have to : ∀ a b : List UInt8, (leB a b || leB b a) = true := fun a b => by simp only [leB, Bool.or_eq_true, decide_eq_true_eq]; exact List.le_total a b
  have hpm : (ss.mergeSort leB).Perm ks := (List.mergeSort_perm ss leB).trans hp
  refine lt_ext ?_ ?_ (fun x => ?_)
  · have h1 := List.pairwise_mergeSort tr to ss
    have h2 := hpm.nodup_iff.2 hnd
    refine (h1.and h2).imp ?_
    rintro a b ⟨h3, h4⟩
    rcases kl_tri a b with h | h | h
    · exact h
    · exact absurd h h4
    · simp only [leB, decide_eq_true_eq] at h3; exact absurd h (List.not_lt.2 h3)
  · rw [List.pairwise_map]; exact hr
  · rw [hpm.mem_iff, hm, List.mem_map]
theorem enc_key (e : En) : encStr (kl e) = .string e.key := by simp [encStr, kl]
def keysV (es : List En) : List Value := es.map fun e => .string e.key
theorem keysV_at {w : World} {A : Option Addr} {es : List En} (h : CsAt w A (keysV es)) (k : Nat) (hk : k < es.length) : ∃ b o, A = some ⟨b, o, none⟩ ∧ w.cell? ⟨b, o + k, none⟩ = some (.string es[k].key) := by
  obtain ⟨b, o, rfl, hc⟩ := h.at (fun e => by have := congrArg List.length e; simp [keysV] at this; subst this; simp at hk)
  exact ⟨b, o, rfl, hc k _ (by simp [keysV, hk])⟩
theorem sorted_post {w' : World} {v : Value} {ss : List (List UInt8)} {B : Nat} {es : List En} (he : ss.mergeSort leB = es.map kl) (hrow : w'.ownsRow B 9 1 v ss.length ((ss.mergeSort (fun x y => decide (x ≤ y))).map encStr)) : ∃ A cap, v = .slice A es.length cap ∧ CsAt w' A (keysV es) := by
  have e1 : (ss.mergeSort (fun x y => decide (x ≤ y))).map encStr = keysV es := by
    show (ss.mergeSort leB).map encStr = _
    rw [he, List.map_map]
    exact List.map_congr_left (fun e _ => enc_key e)
  have e2 : ss.length = es.length := by
    have := congrArg List.length he
    simpa using this
  rw [e1, e2] at hrow
  obtain ⟨A, cap, rfl⟩ := row_slice hrow
  exact ⟨A, cap, rfl, (own_cs hrow (by simp [keysV])).1⟩

theorem sortedL_any {w : World} {M : Nat} {l : List En} (h : LastIs w M l) (hr : Ris l) (hl : l.length ≤ 400) :
    Calls Tryz.prog 49 #[.func (.func 51) #[] #[.pointer (some ⟨w.heap.size, 0, none⟩)]] (w.alloc (.cells #[.map (some M)] 63)) fun e w' => ∃ A cap, e = .returned (.slice A l.length cap) ∧ CsAt w' A (keysV l) ∧ Below (w.alloc (.cells #[.map (some M)] 63)).heap.size (w.alloc (.cells #[.map (some M)] 63)) w' := by
  obtain ⟨D, h1, h2⟩ := h
  have hs := last_len h1 h2 hr
  obtain ⟨k1, k2, k3⟩ := strKeys_facts h1 hKs Tryz.underlying9
  have hmx : maxLen = 9223372036854775807 := rfl
  refine (callsIn_wide.1 (Tryz.slices_Sorted_keys_49_35 M _ D enR w h1 (by omega) (by omega))).mono ?_
  rintro e w' ⟨v, ss, rfl, hp, hrow, -, hb⟩
  have he := keys_es hp k1 hr (fun x => by
    have := h2.has ⟨x.toArray⟩
    rw [mk_key] at this
    rw [k2, this, stE_at, mk_key]
    constructor
    · intro h
      obtain ⟨e, he⟩ := Option.isSome_iff_exists.1 h
      exact ⟨e, atK_mem he⟩
    · rintro ⟨e, he, rfl⟩
      rw [(mem_at hr e).1 he]; rfl)
  obtain ⟨A, cap, rfl, hc⟩ := sorted_post he hrow
  exact ⟨A, cap, rfl, hc, hb⟩
theorem sortedF_any {w : World} {M : Nat} {s : Sto} (h : FrIs w M s.fr) (ok : SOk s) :
    Calls Tryz.prog 49 #[.func (.func 50) #[] #[.pointer (some ⟨w.heap.size, 0, none⟩)]] (w.alloc (.cells #[.map (some M)] 64)) fun e w' => ∃ A cap, e = .returned (.slice A (frE s).length cap) ∧ CsAt w' A (keysV (frE s)) ∧ Below (w.alloc (.cells #[.map (some M)] 64)).heap.size (w.alloc (.cells #[.map (some M)] 64)) w' := by
  obtain ⟨D, h1, h2⟩ := h
  have hs := fr_len h1 h2 ok.nd
  obtain ⟨k1, k2, k3⟩ := strKeys_facts h1 hKs Tryz.underlying9
  have hmx : maxLen = 9223372036854775807 := rfl
  have hm : ∀ x, x ∈ strKeys D ↔ ∃ e ∈ frE s, kl e = x := fun x => by
    rw [k2, h2]
    simp only [decide_eq_true_eq, frE, List.mem_filter]
    constructor
    · intro hx
      obtain ⟨e, he⟩ := Option.isSome_iff_exists.1 (ok.has x hx)
      obtain ⟨e1, e2⟩ := atK_mem he
      exact ⟨e, ⟨e1, by rw [e2]; exact hx⟩, e2⟩
    · rintro ⟨e, ⟨-, e2⟩, rfl⟩; exact e2
  have hfl : s.fr.length ≤ 400 := by
    have e1 : s.fr.length = ((frE s).map kl).length := nd_len ok.nd (ris_nd (ris_filter ok.ris _)) (fun x => by
      rw [List.mem_map, ← hm x, k2, h2]; simp)
    rw [e1, List.length_map]
    exact Nat.le_trans (List.length_filter_le _ _) ok.len
  refine (callsIn_wide.1 (Tryz.slices_Sorted_keys_49_31 M _ D unitElem w h1 (by omega) (by omega))).mono ?_
  rintro e w' ⟨v, ss, rfl, hp, hrow, -, hb⟩
  have he := keys_es hp k1 (ris_filter ok.ris _) hm
  obtain ⟨A, cap, rfl, hc⟩ := sorted_post he hrow
  exact ⟨A, cap, rfl, hc, hb⟩
section
variable {lo : Nat} {S Ml Mf : Nat} {v : Value} {s : Sto}

theorem cell3_new3 (w : World) (o o' : Obj) (a b c : Value) (t : TypeId) : ∀ j u, [a, b, c][j]? = some u → (((w.alloc o).alloc o').alloc (.cells #[a, b, c] t)).cell? ((⟨w.heap.size + 2, 0, none⟩ : Addr).add j) = some u := by
  intro j u hj
  have h := cell3_new ((w.alloc o).alloc o') a b c t j u hj
  rw [show ((w.alloc o).alloc o').heap.size = w.heap.size + 2 from by simp] at h
  exact h

set_option maxRecDepth 100000 in
set_option maxHeartbeats 2000000 in
theorem entries_scan (u : World) (h : StAt lo u S Ml Mf v s) (es : List En) (hes : ∀ e ∈ es, atK s.all (kl e) = some e ∧ e.key.size ≤ 120) (hlen : es.length ≤ 400) (kf kb : Nat) (low high : ByteArray) (bl bh : Nat) (h1 : u.cell? ⟨bl, 0, none⟩ = some (.string low)) (h2 : u.cell? ⟨bh, 0, none⟩ = some (.string high))
    (HS : Calls Tryz.prog 49 #[.func (.func kf) #[] #[.pointer (some ⟨kb, 0, none⟩)]] u fun e w' => ∃ A cap, e = .returned (.slice A es.length cap) ∧ CsAt w' A (keysV es) ∧ Below u.heap.size u w') :
    Calls Tryz.prog 30 #[.pointer (some ⟨S, 0, none⟩), .func (.func kf) #[] #[.pointer (some ⟨kb, 0, none⟩)], .func (.func 36) #[] #[.pointer (some ⟨bl, 0, none⟩), .pointer (some ⟨bh, 0, none⟩)]] u fun e w' => ∃ A cap, e = .returned (.slice A (es.filter (fitE low high)).length cap) ∧ CsAt w' A (ecells (es.filter (fitE low high))) ∧ Below u.heap.size u w' := by
  obtain ⟨i0, hi, hz0, hz1, hz2⟩ := info_parts infoEn
  have HSt := Lib.hid h
  have HEs := Lib.hid hes
  have HSo := Lib.hid HS
  have hmx : maxLen = 9223372036854775807 := rfl
  clear h hes HS
  go_enter Tryz.func30, Tryz.ntmps30
  go_wp2_with (go_at_call 49; refine Hid.out ?_)
  refine Lib.hid ?_
  refine HSo.out.mono ?_
  rintro e w1 ⟨A1, cap1, rfl, hC, b1⟩
  obtain ⟨B, hB⟩ : ∃ B, B = w1.heap.size := ⟨_, rfl⟩
  have HK := Lib.hid (fun (x : World) (hb : Below B w1 x) => hC.keep (by rw [← hB]; exact hb))
  have HT := Lib.hid (fun (x : World) (hb : Below B w1 x) => (HSt.out.keep b1).keep (by rw [← hB]; exact hb))
  have hBu : u.heap.size ≤ B := by rw [hB]; exact b1.size
  have hB1 : B ≤ w1.heap.size := by omega
  have HB1 := Lib.hid b1
  have HL := Lib.hid (fun (x : World) (hb : Below B w1 x) => (show x.cell? ⟨bl, 0, none⟩ = some (.string low) from by rw [hb.cell (p := ⟨bl, 0, none⟩) (Nat.lt_of_lt_of_le (cell_lt h1) hBu), b1.cell (p := ⟨bl, 0, none⟩) (cell_lt h1)]; exact h1))
  have HH := Lib.hid (fun (x : World) (hb : Below B w1 x) => (show x.cell? ⟨bh, 0, none⟩ = some (.string high) from by rw [hb.cell (p := ⟨bh, 0, none⟩) (Nat.lt_of_lt_of_le (cell_lt h2) hBu), b1.cell (p := ⟨bh, 0, none⟩) (cell_lt h2)]; exact h2))
  clear h1 h2
  clear hC hB b1 HSo HSt
  go_wp2_with fail
  go_loopw [7, 14] (fun y i wr => ∃ k : Nat, k ≤ es.length ∧ i = .int .i64 k ∧ wr.ownsRow B 40 3 y ((es.take k).filter (fitE low high)).length (ecells ((es.take k).filter (fitE low high))) ∧ Below B w1 wr) (fun _ i _ => es.length - (intOf i).toNat)
  case atStart => exact ⟨0, by omega, rfl, World.ownsRow_nil _ _ _ _, Below.refl _ _⟩
  case round =>
    obtain ⟨k, hk, rfl, hown, hb⟩ := hrel
    have hbz := hb.size
    by_cases hlt : k < es.length
    · obtain ⟨b, o, rfl, c0⟩ := keysV_at (HK.out _ hb) k hlt
      have hS := HT.out _ hb
      obtain ⟨d0, d1, d2, d3⟩ := hS.cell
      obtain ⟨q1, q2⟩ := HEs.out _ (List.getElem_mem hlt)
      have hlk := hS.last.look1 es[k].key (by omega) wr rfl
      rw [show es[k].key.data.toList = kl es[k] from rfl, q1, Option.getD_some] at hlk
      have hsn := filt_snoc (fitE low high) es k hlt
      have hfl := filt_le (fitE low high) es k
      generalize (es.take k).filter (fitE low high) = ys at *
      generalize hfe : es[k] = r at *
      obtain ⟨key, val, dead⟩ := r
      simp only [enV] at c0 hlk
      have hBr : B ≤ wr.heap.size := by omega
      have bA : Below B w1 (wr.alloc (.cells #[.string key, .string val, .bool dead] 40)) := hb.alloc hBr _
      have bB := bA.alloc (by simp; omega) (.cells #[.string key, .string val, .bool dead] 40)
      have oB := (hown.alloc (.cells #[.string key, .string val, .bool dead] 40)).alloc (.cells #[.string key, .string val, .bool dead] 40)
      have HCl := Lib.hid (scan1_any (wr.alloc (.cells #[.string key, .string val, .bool dead] 40)) ⟨key, val, dead⟩ low high bl bh (HL.out _ bA) (HH.out _ bA))
      clear hS q1 q2 hfe d0 d2 d3
      cases hft : (fitE low high) ⟨key, val, dead⟩ with
      | true =>
        rw [hft] at HCl
        rw [hft, if_pos rfl] at hsn
        have HSN := Lib.hid hsn
        clear hsn hft
        go_wp2_with (go_at_call 36; refine HCl.out.mono ?_; rintro e w2 ⟨rfl, rfl⟩; refine Hid.out ?_)
        refine Lib.hid ?_
        go_wp2_with (at_builtin; refine Hid.out ?_)
        refine Lib.hid ?_
        refine wpList_append_own _ rfl _ _ 30 rfl B 40 i0 (.agg #[.string ⟨#[]⟩, .string ⟨#[]⟩, .bool false]) 3 40 Tryz.underlying30 hi hz0 hz1 hz2 rfl (by decide) _ _ _ rfl (oB.alloc _) ⟨wr.heap.size + 2, 0, none⟩ 1 1 [.string key, .string val, .bool dead] rfl rfl (cell3_new3 _ _ _ _ _ _ _) (by intro u hu; simp at hu; rcases hu with rfl | rfl | rfl <;> rfl) (by unfold maxLen; omega) (by omega) (by simp; omega) ?_
        intro v' w3 hown' hgrow _
        have own3 : w3.ownsRow B 40 3 v' (ys ++ [(⟨key, val, dead⟩ : En)]).length (ecells (ys ++ [(⟨key, val, dead⟩ : En)])) := by rw [ecells_append, List.length_append]; exact hown'
        have b3 : Below B w1 w3 := (bB.alloc (by simp; omega) _).grown hgrow (by simp; omega) (fun j hj => by have := (hown.lt j hj).1; omega)
        clear hown' hgrow
        go_wp2_with fail
        go_roundw
        case rel => exact ⟨k + 1, by omega, by go_num, by rw [HSN.out]; exact own3, b3⟩
        case measure => simp [intOf]; omega
      | false =>
        rw [hft] at HCl
        rw [hft, if_neg (by decide), List.append_nil] at hsn
        have HSN := Lib.hid hsn
        clear hsn hft
        go_wp2_with (go_at_call 36; refine HCl.out.mono ?_; rintro e w2 ⟨rfl, rfl⟩; refine Hid.out ?_)
        refine Lib.hid ?_
        go_wp2_with fail
        go_roundw
        case rel => exact ⟨k + 1, by omega, by go_num, by rw [HSN.out]; exact oB, bB⟩
        case measure => simp [intOf]; omega
    · have e : es.take k = es := List.take_of_length_le (by omega)
      rw [e] at hown
      obtain ⟨A0, cap0, rfl⟩ := row_slice hown
      have hcs := (own_cs hown (ecells_len _)).1
      have hB2 := HB1.out.trans (hb.mono hBu)
      clear hown e
      go_wp2_with fail
      go_ret
      exact ⟨A0, cap0, rfl, hcs, hB2⟩

set_option maxRecDepth 100000 in
set_option maxHeartbeats 2000000 in
theorem entries_flush (u : World) (h : StAt lo u S Ml Mf v s) (es : List En) (hes : ∀ e ∈ es, atK s.all (kl e) = some e ∧ e.key.size ≤ 120) (hlen : es.length ≤ 400) (kf kb : Nat)
    (HS : Calls Tryz.prog 49 #[.func (.func kf) #[] #[.pointer (some ⟨kb, 0, none⟩)]] u fun e w' => ∃ A cap, e = .returned (.slice A es.length cap) ∧ CsAt w' A (keysV es) ∧ Below u.heap.size u w') :
    Calls Tryz.prog 30 #[.pointer (some ⟨S, 0, none⟩), .func (.func kf) #[] #[.pointer (some ⟨kb, 0, none⟩)], .func (.func 32) #[] #[]] u fun e w' => ∃ A cap, e = .returned (.slice A (es.filter (fun _ => true)).length cap) ∧ CsAt w' A (ecells (es.filter (fun _ => true))) ∧ Below u.heap.size u w' := by
  obtain ⟨i0, hi, hz0, hz1, hz2⟩ := info_parts infoEn
  have HSt := Lib.hid h
  have HEs := Lib.hid hes
  have HSo := Lib.hid HS
  have hmx : maxLen = 9223372036854775807 := rfl
  clear h hes HS
  go_enter Tryz.func30, Tryz.ntmps30
  go_wp2_with (go_at_call 49; refine Hid.out ?_)
  refine Lib.hid ?_
  refine HSo.out.mono ?_
  rintro e w1 ⟨A1, cap1, rfl, hC, b1⟩
  obtain ⟨B, hB⟩ : ∃ B, B = w1.heap.size := ⟨_, rfl⟩
  have HK := Lib.hid (fun (x : World) (hb : Below B w1 x) => hC.keep (by rw [← hB]; exact hb))
  have HT := Lib.hid (fun (x : World) (hb : Below B w1 x) => (HSt.out.keep b1).keep (by rw [← hB]; exact hb))
  have hBu : u.heap.size ≤ B := by rw [hB]; exact b1.size
  have hB1 : B ≤ w1.heap.size := by omega
  have HB1 := Lib.hid b1

  clear hC hB b1 HSo HSt
  go_wp2_with fail
  go_loopw [7, 14] (fun y i wr => ∃ k : Nat, k ≤ es.length ∧ i = .int .i64 k ∧ wr.ownsRow B 40 3 y ((es.take k).filter (fun _ => true)).length (ecells ((es.take k).filter (fun _ => true))) ∧ Below B w1 wr) (fun _ i _ => es.length - (intOf i).toNat)
  case atStart => exact ⟨0, by omega, rfl, World.ownsRow_nil _ _ _ _, Below.refl _ _⟩
  case round =>
    obtain ⟨k, hk, rfl, hown, hb⟩ := hrel
    have hbz := hb.size
    by_cases hlt : k < es.length
    · obtain ⟨b, o, rfl, c0⟩ := keysV_at (HK.out _ hb) k hlt
      have hS := HT.out _ hb
      obtain ⟨d0, d1, d2, d3⟩ := hS.cell
      obtain ⟨q1, q2⟩ := HEs.out _ (List.getElem_mem hlt)
      have hlk := hS.last.look1 es[k].key (by omega) wr rfl
      rw [show es[k].key.data.toList = kl es[k] from rfl, q1, Option.getD_some] at hlk
      have hsn := filt_snoc (fun _ => true) es k hlt
      have hfl := filt_le (fun _ => true) es k
      generalize (es.take k).filter (fun _ => true) = ys at *
      generalize hfe : es[k] = r at *
      obtain ⟨key, val, dead⟩ := r
      simp only [enV] at c0 hlk
      have hBr : B ≤ wr.heap.size := by omega
      have bA : Below B w1 (wr.alloc (.cells #[.string key, .string val, .bool dead] 40)) := hb.alloc hBr _
      have bB := bA.alloc (by simp; omega) (.cells #[.string key, .string val, .bool dead] 40)
      have oB := (hown.alloc (.cells #[.string key, .string val, .bool dead] 40)).alloc (.cells #[.string key, .string val, .bool dead] 40)
      have HCl := Lib.hid (flush1_any (wr.alloc (.cells #[.string key, .string val, .bool dead] 40)) ⟨key, val, dead⟩)
      clear hS q1 q2 hfe d0 d2 d3
      rw [if_pos rfl] at hsn
      have HSN := Lib.hid hsn
      clear hsn
      go_wp2_with (go_at_call 32; refine HCl.out.mono ?_; rintro e w2 ⟨rfl, rfl⟩; refine Hid.out ?_)
      refine Lib.hid ?_
      go_wp2_with (at_builtin; refine Hid.out ?_)
      refine Lib.hid ?_
      refine wpList_append_own _ rfl _ _ 30 rfl B 40 i0 (.agg #[.string ⟨#[]⟩, .string ⟨#[]⟩, .bool false]) 3 40 Tryz.underlying30 hi hz0 hz1 hz2 rfl (by decide) _ _ _ rfl (oB.alloc _) ⟨wr.heap.size + 2, 0, none⟩ 1 1 [.string key, .string val, .bool dead] rfl rfl (cell3_new3 _ _ _ _ _ _ _) (by intro u hu; simp at hu; rcases hu with rfl | rfl | rfl <;> rfl) (by unfold maxLen; omega) (by omega) (by simp; omega) ?_
      intro v' w3 hown' hgrow _
      have own3 : w3.ownsRow B 40 3 v' (ys ++ [(⟨key, val, dead⟩ : En)]).length (ecells (ys ++ [(⟨key, val, dead⟩ : En)])) := by rw [ecells_append, List.length_append]; exact hown'
      have b3 : Below B w1 w3 := (bB.alloc (by simp; omega) _).grown hgrow (by simp; omega) (fun j hj => by have := (hown.lt j hj).1; omega)
      clear hown' hgrow
      go_wp2_with fail
      go_roundw
      case rel => exact ⟨k + 1, by omega, by go_num, by rw [HSN.out]; exact own3, b3⟩
      case measure => simp [intOf]; omega
    · have e : es.take k = es := List.take_of_length_le (by omega)
      rw [e] at hown
      obtain ⟨A0, cap0, rfl⟩ := row_slice hown
      have hcs := (own_cs hown (ecells_len _)).1
      have hB2 := HB1.out.trans (hb.mono hBu)
      clear hown e
      go_wp2_with fail
      go_ret
      exact ⟨A0, cap0, rfl, hcs, hB2⟩

theorem keysE_any (mb : Option Nat) (W : World) : Calls Tryz.prog 35 #[.map mb] W fun e w' => e = .returned (.func (.func 51) #[] #[.pointer (some ⟨W.heap.size, 0, none⟩)]) ∧ w' = W.alloc (.cells #[.map mb] 63) :=
  callsIn_wide.1 (Tryz.maps_Keys_35 mb W)
theorem keysF_any (mb : Option Nat) (W : World) : Calls Tryz.prog 31 #[.map mb] W fun e w' => e = .returned (.func (.func 50) #[] #[.pointer (some ⟨W.heap.size, 0, none⟩)]) ∧ w' = W.alloc (.cells #[.map mb] 64) :=
  callsIn_wide.1 (Tryz.maps_Keys_31 mb W)
theorem scan_fit (s : Sto) (low high : ByteArray) : s.all.filter (fitE low high) = scanS s low.data.toList high.data.toList := by
  unfold scanS livE
  rw [part_in, List.filter_filter]
  congr 1
  funext e
  unfold fitE
  rw [Bool.and_comm]
theorem ok_at {s : Sto} (ok : SOk s) : ∀ e ∈ s.all, atK s.all (kl e) = some e ∧ e.key.size ≤ 120 := fun e he => ⟨(mem_at ok.ris e).1 he, (en_len (ok.fine e he).1).2.1⟩
set_option maxHeartbeats 1000000 in
theorem scan_any {w : World} (h : StAt lo w S Ml Mf v s) (ok : SOk s) (low high : ByteArray) :
    Calls Tryz.prog 18 #[.pointer (some ⟨S, 0, none⟩), .string low, .string high] w fun e w' => ∃ A cap, e = .returned (.slice A (scanS s low.data.toList high.data.toList).length cap) ∧ CsAt w' A (ecells (scanS s low.data.toList high.data.toList)) ∧ Below w.heap.size w w' := by
  obtain ⟨c0, c1, c2, c3⟩ := h.cell
  have l1 := h.lt.1
  have B2 : Below w.heap.size w ((w.alloc (.cells #[.string low] 9)).alloc (.cells #[.string high] 9)) := ((Below.refl _ w).alloc (Nat.le_refl _) _).alloc (by simp) _
  have h2 := h.keep B2
  have hl2 : (((w.alloc (.cells #[.string low] 9)).alloc (.cells #[.string high] 9))).heap.size = w.heap.size + 2 := by simp
  have HSo := sortedL_any h2.last ok.ris ok.len
  have B3 := B2.alloc (by rw [hl2]; omega) (.cells #[.map (some Ml)] 63)
  have h3 := h.keep B3
  have HE := entries_scan _ h3 s.all (ok_at ok) ok.len _ _ low high w.heap.size (w.heap.size + 1) (by simp [go_sem]) (by simp [go_sem]) HSo
  rw [scan_fit, hl2] at HE
  have HEn := Lib.hid HE
  generalize scanS s low.data.toList high.data.toList = R at *
  clear HE HSo h2 h3 h c0 c2 c3 hl2
  go_enter Tryz.func18, Tryz.ntmps18
  go_wp2_with (go_at_call 35; refine (keysE_any _ _).mono ?_; rintro e w1 ⟨rfl, rfl⟩; refine Hid.out ?_)
  refine Lib.hid ?_
  go_wp2_with (go_at_call 30; refine Hid.out ?_)
  refine Lib.hid ?_
  refine HEn.out.mono ?_
  rintro e w2 ⟨A, cap, rfl, hc, hb⟩
  have hB := B3.trans (hb.mono (by simp; omega))
  clear hb
  go_wp2_with fail
  go_ret
  exact ⟨A, cap, rfl, hc, hB⟩
end
end Go.Proofs.YtckjcjoheeobgaaGreatDoor
