/- The document's side: records written. -/
import Derived.Test.YtbppiiomjmpjkaaDoorGb
import Derived.Test.YtbppiiomjmpjkaaDoorFc
import Derived.Test.YtbppiiomjmpjkaaDoorFm
namespace Go.Proofs.YtbppiiomjmpjkaaDoor
open Go.RowKit

set_option maxRecDepth 100000 in
set_option maxHeartbeats 1000000 in
theorem srecord_any (r : Rc) (w : World) (hk : r.key.size ≤ 9223372036854775807) : Calls Tryd.prog 19 #[rcV r] w fun e w' => e = .returned (.bool (!badRc r)) ∧ Below w.heap.size w w' := by
  obtain ⟨bb, hbb⟩ : ∃ bb, bb = badRc r := ⟨_, rfl⟩
  obtain ⟨key, num, time⟩ := r
  have hbd : badRc ⟨key, num, time⟩ = (decide (40 < key.size) || decide (time < 0) || decide (1000000 < time)) := rfl
  rw [← hbb] at hbd ⊢
  simp only [rcV] at *
  clear hbb
  have HB := (Below.refl w.heap.size w).alloc (Nat.le_refl _) (.cells #[.string key, .int .i64 num, .int .i64 time] 53)
  by_cases h1 : (40 : Int) < (key.size : Nat)
  · have e : bb = true := by rw [hbd]; simp; omega
    subst e
    clear hbd
    have h1' : ¬ ((key.size : Nat) : Int) ≤ 40 := by omega
    go_enter Tryd.func19, Tryd.ntmps19
    go_wp2_with fail
    go_ret
    exact ⟨rfl, HB⟩
  · have h1' : ((key.size : Nat) : Int) ≤ 40 := by omega
    by_cases h2 : time < 0
    · have e : bb = true := by rw [hbd]; simp; omega
      subst e
      clear hbd
      have h2' : ¬ 0 ≤ time := by omega
      go_enter Tryd.func19, Tryd.ntmps19
      go_wp2_with fail
      go_ret
      exact ⟨rfl, HB⟩
    · have h2' : 0 ≤ time := by omega
      by_cases h3 : 1000000 < time
      · have e : bb = true := by rw [hbd]; simp; omega
        subst e
        clear hbd
        have h3' : ¬ time ≤ 1000000 := by omega
        go_enter Tryd.func19, Tryd.ntmps19
        go_wp2_with fail
        go_ret
        exact ⟨rfl, HB⟩
      · have e : bb = false := by rw [hbd]; simp; omega
        subst e
        clear hbd
        have h3' : time ≤ 1000000 := by omega
        go_enter Tryd.func19, Tryd.ntmps19
        go_wp2_with fail
        go_ret
        exact ⟨rfl, HB⟩

/-- How the document's Records and Helds end. -/
def SwEnd (w : World) (E : Nat) (l : List UInt8) (e : Ending) (w' : World) : Prop :=
  (if E = 0 then ∃ v, e = .returned (.tuple #[v, .int .i64 0]) ∧ Own w.heap.size w' v l else e = .returned (.tuple #[.slice none 0 0, .int .i64 E])) ∧ Below w.heap.size w w'
theorem own_base {B : Nat} {u u' : World} {v : Value} {l : List UInt8} (hu : B ≤ u.heap.size) (h : Own u.heap.size u' v l) : Own B u' v l :=
  ⟨h.1, h.2.imp id fun ⟨g, cap, cur, h0, h1, h2⟩ => ⟨g, cap, cur, h0, Nat.le_trans hu h1, h2⟩⟩
theorem not_bad {r : Rc} (h : badRc r = false) : r.key.size ≤ 40 := by simp [badRc] at h; omega
/-- A piece that a callee made, put behind what is owned: one call and one append. -/
theorem piece {B : Nat} {wr u : World} {v v1 : Value} {q x : List UInt8} (hown : Own B wr v q) (b : Below wr.heap.size wr u) (o : Own wr.heap.size u v1 x) : Own B u v q ∧ ∃ A cap, v1 = .slice A x.length cap ∧ BsAt u A x ∧ (A = none → cap = 0) := by
  refine ⟨own_keep hown b, ?_⟩
  obtain ⟨A, cap, rfl⟩ := own_slice o
  exact ⟨A, cap, rfl, (own_bs o rfl).1, (own_bs o rfl).2.2.1⟩

set_option maxRecDepth 100000 in
set_option maxHeartbeats 1000000 in
theorem srecords_any (w : World) (la : Option Addr) (c : Nat) (L : List Rc) (h : CsAt w la (rcells L)) (hlen : L.length ≤ 9223372036854775807) (hok : ∀ r ∈ L, OkRc r) :
    Calls Tryd.prog 5 #[.slice la L.length c] w fun e w' => SwEnd w (recsE L) (lstB rcB L) e w' := by
  by_cases hmany : 400 < L.length
  · have hm' : (400 : Int) < L.length := by omega
    have e4 : recsE L = 4 := by unfold recsE; rw [if_pos hmany]
    rw [e4]
    go_enter Tryd.func5, Tryd.ntmps5
    go_wp2_with fail
    go_ret2
    exact ⟨by rw [if_neg (by omega)]; rfl, Below.refl _ _⟩
  · have hm' : ¬ (400 : Int) < L.length := by omega
    have eE : recsE L = if L.any badRc then 1 else 0 := by unfold recsE; rw [if_neg hmany]
    obtain ⟨E, hE⟩ : ∃ E, E = recsE L := ⟨_, rfl⟩
    rw [← hE] at eE ⊢
    have HE := Lib.hid eE
    clear eE hE
    have hten := num_ten (n := (L.length : Int)) (by omega) (by omega)
    have HN := fun (u : World) => snum_any u (L.length : Int) ⟨by omega, by omega⟩
    have HP0 : Hid (∀ v w', E = 0 → Own w.heap.size w' v (lstB rcB L) → Below w.heap.size w w' → SwEnd w E (lstB rcB L) (.returned (.tuple #[v, .int .i64 0])) w') := Lib.hid (fun v w' e0 ho hb => ⟨by rw [if_pos e0]; exact ⟨v, rfl, ho⟩, hb⟩)
    have HP1 : Hid (∀ w', E = 1 → Below w.heap.size w w' → SwEnd w E (lstB rcB L) (.returned (.tuple #[.slice none 0 0, .int .i64 1])) w') := Lib.hid (fun w' e1 hb => ⟨by rw [if_neg (by omega), e1]; rfl, hb⟩)
    obtain ⟨B, hB⟩ : ∃ B, B = w.heap.size := ⟨_, rfl⟩
    have hB' : B ≤ w.heap.size := by omega
    have hkeep : ∀ w', Below B w w' → CsAt w' la (rcells L) := fun w' hb => h.keep (by rw [← hB]; exact hb)
    rw [← hB] at HP0 HP1
    have HN0 := HN w
    rw [← hB] at HN0
    clear hB h HN
    go_enter Tryd.func5, Tryd.ntmps5
    go_wp2_with (go_at_call 18; refine HN0.mono ?_; rintro e w2 ⟨v2, rfl, o2, b2⟩; refine Hid.out ?_)
    refine Lib.hid ?_
    clear HN0
    go_wp2_with fail
    go_loopw [4, 5] (fun v i wr => ∃ k : Nat, k ≤ L.length ∧ i = .int .i64 k ∧ (L.take k).any badRc = false ∧ Own B wr v (numB L.length ++ allB rcB (L.take k)) ∧ Below B w wr) (fun _ i _ => L.length - (intOf i).toNat)
    case atStart => exact ⟨0, by omega, rfl, by simp, by simpa [allB] using o2, b2⟩
    case round =>
      obtain ⟨k, hk, rfl, hno, hown, hb⟩ := hrel
      have hBz := hb.size
      have hBr : B ≤ wr.heap.size := by omega
      by_cases hlt : k < L.length
      · obtain ⟨b, o, rfl, c0, c1, c2⟩ := rcs_at (hkeep _ hb) k hlt
        have hcell : ∀ u, Below B w u → u.cell? ⟨b, o + k * 3, none⟩ = some (.string L[k].key) ∧ u.cell? ⟨b, o + k * 3 + 1, none⟩ = some (.int .i64 L[k].num) ∧ u.cell? ⟨b, o + k * 3 + 2, none⟩ = some (.int .i64 L[k].time) := fun u hu => by
          obtain ⟨b', o', e, d⟩ := rcs_at (hkeep _ hu) k hlt
          simp only [Option.some.injEq, Addr.mk.injEq, and_true] at e
          obtain ⟨rfl, rfl⟩ := e
          exact d
        have hok1 := hok _ (List.getElem_mem hlt)
        cases hbad : badRc L[k] with
        | true =>
          have e1 : E = 1 := by rw [HE.out, if_pos (any_at k hlt hbad)]
          have HR := srecord_any L[k] wr (by have := hok1.1; omega)
          rw [hbad] at HR
          have HP := Lib.hid (fun w' => HP1.out w' e1)
          clear HP0 HP1 HE hno hok hbad hok1 e1
          generalize L[k] = r at *
          obtain ⟨key, num, time⟩ := r
          simp only [rcV] at c0 c1 c2 HR
          go_wp2_with (go_at_call 19; refine HR.mono ?_; rintro e u1 ⟨rfl, b1⟩)
          go_ret2
          exact HP.out _ (hb.trans (b1.mono hBr))
        | false =>
          have hsnA := any_snoc badRc L k hlt
          rw [hno, hbad] at hsnA
          have hk40 := not_bad hbad
          have HR := srecord_any L[k] wr (by omega)
          rw [hbad] at HR
          have hsn := allB_snoc rcB L k hlt
          have hsz : (allB rcB (L.take k)).length ≤ 28000 := by
            have h1 := allB_le rcB 70 (L.take k) (fun r hr => rcB_le (hok r (List.mem_of_mem_take hr)) (not_bad (by
              cases hbr : badRc r with
              | false => rfl
              | true => exact absurd (List.any_eq_true.2 ⟨r, hr, hbr⟩) (by rw [hno]; simp))))
            have h2 : (L.take k).length ≤ 400 := by simp; omega
            exact Nat.le_trans h1 (by omega)
          clear hno hok hbad
          generalize L[k] = r at *
          obtain ⟨key, num, time⟩ := r
          obtain ⟨ok1, ok2, ok3⟩ := hok1
          simp only [rcV, rcB] at c0 c1 c2 HR hsn hk40 ok1 ok2 ok3
          have HSA := Lib.hid hsnA
          have HSN := Lib.hid hsn
          clear hsnA hsn
          generalize allB rcB (L.take k) = q at *
          have hql : (numB L.length ++ q).length ≤ 28010 := by simp; omega
          generalize hl0 : numB L.length ++ q = l0 at *
          have HL0 := Lib.hid hl0
          clear hl0
          have hkt := num_ten (n := (key.size : Int)) (by omega) (by omega)
          have hkl : (kB key).length ≤ 50 := by have := kB_len key; omega
          have hnt := num_ten ok2.1 ok2.2
          have htt := num_ten ok3.1 ok3.2
          have hle1 : l0.length + (kB key).length ≤ 140737488355328 := by omega
          obtain ⟨l1, hl1⟩ : ∃ l1, l1 = l0 ++ kB key := ⟨_, rfl⟩
          obtain ⟨l2, hl2⟩ : ∃ l2, l2 = l1 ++ numB num := ⟨_, rfl⟩
          obtain ⟨l3, hl3⟩ : ∃ l3, l3 = l2 ++ numB time := ⟨_, rfl⟩
          have hle2 : l1.length + (numB num).length ≤ 140737488355328 := by rw [hl1]; simp only [List.length_append]; omega
          have hle3 : l2.length + (numB time).length ≤ 140737488355328 := by rw [hl2, hl1]; simp only [List.length_append]; omega
          have HL1 := Lib.hid hl1
          have HL2 := Lib.hid hl2
          have HL3 := Lib.hid hl3
          clear hl1 hl2 hl3
          simp only at hcell
          have HT := fun (u : World) => stext_any u key (by omega)
          have HN1 := fun (u : World) => snum_any u num ok2
          have HN2 := fun (u : World) => snum_any u time ok3
          clear c0 c1 c2
          obtain ⟨c0, c1, c2⟩ := hcell wr hb
          go_wp2_with (go_at_call 19; refine HR.mono ?_; rintro e u1 ⟨rfl, b1⟩; refine Hid.out ?_)
          refine Lib.hid ?_
          have hw1 := own_keep hown b1
          have hB1 : Below B w u1 := hb.trans (b1.mono hBr)
          have hz1 : B ≤ u1.heap.size := Nat.le_trans hBr b1.size
          obtain ⟨g10, g11, g12⟩ := hcell u1 hB1
          clear b1 hown HR
          go_wp2_with (go_at_call 20; refine (HT u1).mono ?_; rintro e u2 ⟨v2, rfl, o2, b2⟩; refine Hid.out ?_)
          refine Lib.hid ?_
          obtain ⟨w2, A2, c2', rfl, s2, n2⟩ := piece hw1 b2 o2
          have hz2 : B ≤ u2.heap.size := Nat.le_trans hz1 b2.size
          go_wp2_with (at_builtin; refine append_bs rfl _ _ rfl B _ l0 rfl w2 A2 _ c2' (kB key) rfl rfl s2 n2 hle1 hz2 ?_)
          intro v3 u3 hw3 b3
          rw [← HL1.out] at hw3
          have hB3 : Below B w u3 := (hB1.trans (b2.mono hz1)).trans b3
          have hz3 : B ≤ u3.heap.size := Nat.le_trans hz2 b3.size
          clear b2 b3 o2 w2 s2 n2 hw1
          have hcl3 := hcell u3 hB3
          obtain ⟨g30, g31, g32⟩ := hcl3
          go_wp2_with (go_at_call 18; refine (HN1 u3).mono ?_; rintro e u4 ⟨v4, rfl, o4, b4⟩; refine Hid.out ?_)
          refine Lib.hid ?_
          obtain ⟨w4, A4, c4', rfl, s4, n4⟩ := piece hw3 b4 o4
          have hz4 : B ≤ u4.heap.size := Nat.le_trans hz3 b4.size
          go_wp2_with (at_builtin; refine append_bs rfl _ _ rfl B _ l1 rfl w4 A4 _ c4' (numB num) rfl rfl s4 n4 hle2 hz4 ?_)
          intro v5 u5 hw5 b5
          rw [← HL2.out] at hw5
          have hB5 : Below B w u5 := (hB3.trans (b4.mono hz3)).trans b5
          have hz5 : B ≤ u5.heap.size := Nat.le_trans hz4 b5.size
          clear b4 b5 o4 w4 s4 n4 hw3
          have hcl5 := hcell u5 hB5
          obtain ⟨g50, g51, g52⟩ := hcl5
          go_wp2_with (go_at_call 18; refine (HN2 u5).mono ?_; rintro e u6 ⟨v6, rfl, o6, b6⟩; refine Hid.out ?_)
          refine Lib.hid ?_
          obtain ⟨w6, A6, c6', rfl, s6, n6⟩ := piece hw5 b6 o6
          have hz6 : B ≤ u6.heap.size := Nat.le_trans hz5 b6.size
          go_wp2_with (at_builtin; refine append_bs rfl _ _ rfl B _ l2 rfl w6 A6 _ c6' (numB time) rfl rfl s6 n6 hle3 hz6 ?_)
          intro v7 u7 hw7 b7
          rw [← HL3.out] at hw7
          have hB7 : Below B w u7 := (hB5.trans (b6.mono hz5)).trans b7
          have hz7 : B ≤ u7.heap.size := Nat.le_trans hz6 b7.size
          clear b6 b7 o6 w6 s6 n6 hw5
          go_wp2_with fail
          go_roundw
          case rel => exact ⟨k + 1, by omega, by go_num, HSA.out, by rw [HSN.out]; rw [HL3.out, HL2.out, HL1.out, ← HL0.out] at hw7; simpa using hw7, hB7⟩
          case measure => simp [intOf]; omega
      · have e : L.take k = L := List.take_of_length_le (by omega)
        rw [e] at hown hno
        have e0 : E = 0 := by rw [HE.out, hno]; rfl
        have HP := Lib.hid (fun v w' => HP0.out v w' e0)
        clear HP0 HP1 HE e0
        go_wp2_with fail
        go_ret2
        exact HP.out _ _ hown hb
end Go.Proofs.YtbppiiomjmpjkaaDoor
