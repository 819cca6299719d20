import Derived.Test.YtbppiiomjmpjkabGreatDoorGb
import Derived.Test.YtbppiiomjmpjkabGreatDoorFc
import Derived.Test.YtbppiiomjmpjkabGreatDoorFm
import Derived.Test.YtbppiiomjmpjkabGreatDoorFn
import Derived.Test.YtbppiiomjmpjkabGreatDoorFs
import Derived.Sort.Walk0
import Derived.Deep.RegionHeld3
import Derived.Test.YtbppiiomjmpjkabGreatDoorFt
/- The document's side: records written. -/
namespace Go.Proofs.YtbppiiomjmpjkabGreatDoor
open Go.RowKit

/-- How the document's Records and Helds end. -/
def SwEnd (w : World) (E : Nat) (l : List UInt8) (e : Ending) (w' : World) : Prop :=
  (if E = 0 then ∃ v, e = .returned (.tuple #[v, .int .i64 0]) ∧ Own w.heap.size w' v l else e = .returned (.tuple #[.slice none 0 0, .int .i64 E])) ∧ Below w.heap.size w w'
theorem own_base {B : Nat} {u u' : World} {v : Value} {l : List UInt8} (hu : B ≤ u.heap.size) (h : Own u.heap.size u' v l) : Own B u' v l :=
  ⟨h.1, h.2.imp id fun ⟨g, cap, cur, h0, h1, h2⟩ => ⟨g, cap, cur, h0, Nat.le_trans hu h1, h2⟩⟩
theorem not_bad {r : Rc} (h : badRc r = false) : r.key.size ≤ 40 := by simp [badRc] at h; omega
/-- A piece that a callee made, put behind what is owned: one call and one append. -/
theorem piece {B : Nat} {wr u : World} {v v1 : Value} {q x : List UInt8} (hown : Own B wr v q) (b : Below wr.heap.size wr u) (o : Own wr.heap.size u v1 x) : Own B u v q ∧ ∃ A cap, v1 = .slice A x.length cap ∧ BsAt u A x ∧ (A = none → cap = 0) := by
  refine ⟨own_keep hown b, ?_⟩
  obtain ⟨A, cap, rfl⟩ := own_slice o
  exact ⟨A, cap, rfl, (own_bs o rfl).1, (own_bs o rfl).2.2.1⟩

end Go.Proofs.YtbppiiomjmpjkabGreatDoor

/- The document's side: records read. -/
namespace Go.Proofs.YtbppiiomjmpjkabGreatDoor
open Go.RowKit

/-- A block of a record. -/
theorem DdB.set {N : Nat} {w : World} {R q o : Nat} {l : List UInt8} {st : St} (h : DdB N w R l st) (hN : N ≤ q) (hR : q ≠ R) (x : Value) : DdB N (w.setCell ⟨q, o, none⟩ x) R l st :=
  h.keep (Below.heap_setCell _ _ _ _ (by simpa using hR.symm)) (fun k hk => Below.heap_setCell _ _ _ _ (by simp; omega))
theorem DdB.alloc {N : Nat} {w : World} {R : Nat} {l : List UInt8} {st : St} (h : DdB N w R l st) (hNR : N ≤ R) (o : Obj) : DdB N (w.alloc o) R l st :=
  h.keep (Below.heap_alloc _ _ _ h.lt) (fun k hk => Below.heap_alloc _ _ _ (by have := h.lt; omega))

def goodR (xs : List Rc) : Prop := xs.any badRc = false
theorem goodR_pre (xs : List Rc) (x : Rc) (h : goodR (xs ++ [x])) : goodR xs := by
  unfold goodR at *; rw [List.any_append] at h; simp at h; simpa using h.1
theorem goodR_snoc {xs : List Rc} {x : Rc} : goodR (xs ++ [x]) ↔ goodR xs ∧ badRc x = false := by
  unfold goodR; rw [List.any_append]; simp
theorem nextR {l : St} {i : Nat} {q : List UInt8} {xs : List Rc} (h : CameG goodR rdRc l i (some q) xs) : CameG goodR rdRc l (i + 1) (nRcS (some q)).2 (xs ++ [(nRcS (some q)).1]) := by
  have hgood : goodR xs := by obtain ⟨r, -, -, h⟩ := h; exact h
  refine h.next _ _ ?_ ?_
  · intro q' hq'
    cases hr : rdRc q with
    | none =>
      have := nRcS_no q (by intro r q2 e; rw [hr] at e; cases e)
      rw [this] at hq'; cases hq'
    | some p =>
      obtain ⟨r, q2⟩ := p
      cases hb : badRc r with
      | true =>
        have := nRcS_no q (by intro r' q3 e; rw [hr] at e; injection e with e; injection e with e1 e2; rw [← e1]; exact hb)
        rw [this] at hq'; cases hq'
      | false =>
        have := nRcS_yes q r q2 hr hb
        rw [this] at hq' ⊢
        injection hq' with hq'
        subst hq'
        exact ⟨rfl, goodR_snoc.2 ⟨hgood, hb⟩⟩
  · intro hn y q' hy hg
    have hb := (goodR_snoc.1 hg).2
    have := nRcS_yes q y q' hy hb
    rw [this] at hn; cases hn
theorem readR_yes {l : List UInt8} {xs : List Rc} (h : rdAll rdRc l = some xs) (hg : goodR xs) : readRcs l = some xs := by
  rw [read_rc h, if_pos]
  have h4 := (rdAll_some (Ok := OkRc) (g := rcB) (fun x l q h => rdRc_some h) h).2.2
  unfold recsE
  rw [if_neg (by omega), hg]; rfl
theorem readR_no {l : List UInt8} (h : ∀ ys, rdAll rdRc l = some ys → ¬ goodR ys) : readRcs l = none := by
  cases hr : rdAll rdRc l with
  | none => exact read_none hr
  | some xs =>
    rw [read_rc hr, if_neg]
    intro he
    refine h xs hr ?_
    unfold recsE at he
    split at he
    · cases he
    · split at he
      · cases he
      · rename_i hx; exact Bool.eq_false_iff.2 hx

theorem cell_three_at (w : World) (q : Nat) (hq : q = w.heap.size) (a b c : Value) (t : TypeId) : ∀ j u, [a, b, c][j]? = some u → (w.alloc (.cells #[a, b, c] t)).cell? ((⟨q, 0, none⟩ : Addr).add j) = some u := by
  subst hq; exact cell_three_new w a b c t
end Go.Proofs.YtbppiiomjmpjkabGreatDoor

/- The document's side: a state, and which of two stands ahead. -/
namespace Go.Proofs.YtbppiiomjmpjkabGreatDoor
open Go.RowKit
open Go.Lib (compareBytes)

theorem cmp_lt : ∀ (a b : List UInt8), compareBytes a b < 0 ↔ a < b
  | [], [] => by simp [compareBytes]
  | [], y :: b => by simp [compareBytes]
  | x :: a, [] => by simp [compareBytes]
  | x :: a, y :: b => by
    unfold compareBytes
    rw [List.cons_lt_cons_iff]
    by_cases h1 : x < y
    · simp [h1]
    · by_cases h2 : y < x
      · have hne : x ≠ y := fun e => by subst e; exact h1 h2
        simp [h1, h2, hne]
      · have he : x = y := by
          have a1 : ¬ x.toNat < y.toNat := h1
          have a2 : ¬ y.toNat < x.toNat := h2
          exact UInt8.toNat_inj.1 (by omega)
        simp [he, cmp_lt a b]
theorem ltH_node {a b : Hd} (h : a.nd ≠ b.nd) : ltH a b = decide (a.nd < b.nd) := by
  unfold ltH cmpH orI cmpI
  by_cases h1 : a.nd < b.nd
  · simp [h1]
  · have h2 : b.nd < a.nd := by omega
    simp [h1, h2]
theorem ltH_key {a b : Hd} (h : a.nd = b.nd) : ltH a b = decide (a.key.data.toList < b.key.data.toList) := by
  unfold ltH cmpH orI cmpI
  rw [h]
  simp only [Int.lt_irrefl, if_false, if_true]
  exact decide_eq_decide.2 (cmp_lt _ _)

set_option maxRecDepth 100000 in
set_option maxHeartbeats 1000000 in
theorem ahead_any (a b : Hd) (w : World) : Calls Tryz.prog 25 #[hdV a, hdV b] w fun e w' => e = .returned (.bool (ltH a b)) ∧ Below w.heap.size w w' := by
  obtain ⟨an, ak, aa, ab⟩ := a
  obtain ⟨bn, bk, ba, bb⟩ := b
  have HB := (((Below.refl w.heap.size w).alloc (Nat.le_refl _) (.cells #[.int .i64 an, .string ak, .int .i64 aa, .int .i64 ab] 27)).alloc (by simp) (.cells #[.int .i64 bn, .string bk, .int .i64 ba, .int .i64 bb] 27))
  by_cases h : an = bn
  · rw [ltH_key (by exact h)]
    subst h
    simp only [hdV]
    go_enter Tryz.func25, Tryz.ntmps25
    go_wp2_with fail
    go_ret
    exact ⟨ret_bool (by rw [bytesLess_eq, Lib.toList_data, Lib.toList_data]), HB⟩
  · rw [ltH_node (by exact h)]
    simp only [hdV]
    go_enter Tryz.func25, Tryz.ntmps25
    go_wp2_with fail
    go_ret
    exact ⟨rfl, HB⟩

set_option maxRecDepth 100000 in
set_option maxHeartbeats 1000000 in
theorem sheld_any (r : Hd) (w : World) (hk : r.key.size ≤ 9223372036854775807) : Calls Tryz.prog 6 #[hdV r] w fun e w' => e = .returned (.bool (!badHd r)) ∧ Below w.heap.size w w' := by
  obtain ⟨bb, hbb⟩ : ∃ bb, bb = badHd r := ⟨_, rfl⟩
  obtain ⟨nd, key, a, b⟩ := r
  have hbd : badHd ⟨nd, key, a, b⟩ = (decide (nd < 0) || decide (12 ≤ nd) || decide (40 < key.size)) := rfl
  rw [← hbb] at hbd ⊢
  simp only [hdV] at *
  clear hbb
  have HB := (Below.refl w.heap.size w).alloc (Nat.le_refl _) (.cells #[.int .i64 nd, .string key, .int .i64 a, .int .i64 b] 27)
  by_cases h1 : nd < 0
  · have e : bb = true := by rw [hbd]; simp; omega
    subst e
    clear hbd
    have h1' : ¬ 0 ≤ nd := by omega
    go_enter Tryz.func6, Tryz.ntmps6
    go_wp2_with fail
    go_ret
    exact ⟨rfl, HB⟩
  · have h1' : 0 ≤ nd := by omega
    by_cases h2 : 12 ≤ nd
    · have e : bb = true := by rw [hbd]; simp; omega
      subst e
      clear hbd
      have h2' : ¬ nd < 12 := by omega
      go_enter Tryz.func6, Tryz.ntmps6
      go_wp2_with fail
      go_ret
      exact ⟨rfl, HB⟩
    · have h2' : nd < 12 := by omega
      by_cases h3 : (40 : Int) < (key.size : Nat)
      · have e : bb = true := by rw [hbd]; simp; omega
        subst e
        clear hbd
        have h3' : ¬ ((key.size : Nat) : Int) ≤ 40 := by omega
        go_enter Tryz.func6, Tryz.ntmps6
        go_wp2_with fail
        go_ret
        exact ⟨rfl, HB⟩
      · have e : bb = false := by rw [hbd]; simp; omega
        subst e
        clear hbd
        have h3' : ((key.size : Nat) : Int) ≤ 40 := by omega
        go_enter Tryz.func6, Tryz.ntmps6
        go_wp2_with fail
        go_ret
        exact ⟨rfl, HB⟩
end Go.Proofs.YtbppiiomjmpjkabGreatDoor

/- The document's side: states written. -/
namespace Go.Proofs.YtbppiiomjmpjkabGreatDoor
open Go.RowKit

theorem not_badH {r : Hd} (h : badHd r = false) : r.key.size ≤ 40 := by simp [badHd] at h; omega

set_option maxRecDepth 100000 in
set_option maxHeartbeats 2000000 in
theorem shelds_any (w : World) (la : Option Addr) (c : Nat) (L : List Hd) (h : CsAt w la (hcells L)) (hlen : L.length ≤ 9223372036854775807) (hok : ∀ r ∈ L, OkHd r) :
    Calls Tryz.prog 15 #[.slice la L.length c] w fun e w' => SwEnd w (heldsE ltH L) (lstB hdB L) e w' := by
  by_cases hmany : 400 < L.length
  · have hm' : (400 : Int) < L.length := by omega
    have e4 : heldsE ltH L = 4 := by unfold heldsE; rw [if_pos hmany]
    rw [e4]
    go_enter Tryz.func15, Tryz.ntmps15
    go_wp2_with fail
    go_ret2
    exact ⟨by rw [if_neg (by omega)]; rfl, Below.refl _ _⟩
  · have hm' : ¬ (400 : Int) < L.length := by omega
    have eE : heldsE ltH L = hdsE ltH none L := by unfold heldsE; rw [if_neg hmany]
    obtain ⟨E, hE⟩ : ∃ E, E = heldsE ltH L := ⟨_, rfl⟩
    rw [← hE] at eE ⊢
    have HE := Lib.hid eE
    clear eE hE
    have hten := num_ten (n := (L.length : Int)) (by omega) (by omega)
    have HN := fun (u : World) => snum_any u (L.length : Int) ⟨by omega, by omega⟩
    have HP0 : Hid (∀ v w', E = 0 → Own w.heap.size w' v (lstB hdB L) → Below w.heap.size w w' → SwEnd w E (lstB hdB L) (.returned (.tuple #[v, .int .i64 0])) w') := Lib.hid (fun v w' e0 ho hb => ⟨by rw [if_pos e0]; exact ⟨v, rfl, ho⟩, hb⟩)
    have HP1 : Hid (∀ w', E = 1 → Below w.heap.size w w' → SwEnd w E (lstB hdB L) (.returned (.tuple #[.slice none 0 0, .int .i64 1])) w') := Lib.hid (fun w' e1 hb => ⟨by rw [if_neg (by omega), e1]; rfl, hb⟩)
    have HP5 : Hid (∀ w', E = 5 → Below w.heap.size w w' → SwEnd w E (lstB hdB L) (.returned (.tuple #[.slice none 0 0, .int .i64 5])) w') := Lib.hid (fun w' e1 hb => ⟨by rw [if_neg (by omega), e1]; rfl, hb⟩)
    obtain ⟨B, hB⟩ : ∃ B, B = w.heap.size := ⟨_, rfl⟩
    have hB' : B ≤ w.heap.size := by omega
    have hkeep : ∀ w', Below B w w' → CsAt w' la (hcells L) := fun w' hb => h.keep (by rw [← hB]; exact hb)
    rw [← hB] at HP0 HP1 HP5
    have HN0 := HN w
    rw [← hB] at HN0
    clear hB h HN
    go_enter Tryz.func15, Tryz.ntmps15
    go_wp2_with (go_at_call 32; refine HN0.mono ?_; rintro e w2 ⟨v2, rfl, o2, b2⟩; refine Hid.out ?_)
    refine Lib.hid ?_
    clear HN0
    go_wp2_with fail
    go_loopw [4, 5] (fun v i wr => ∃ k : Nat, k ≤ L.length ∧ i = .int .i64 k ∧ E = hdsE ltH (pv L k) (L.drop k) ∧ Own B wr v (numB L.length ++ allB hdB (L.take k)) ∧ (∀ r ∈ L.take k, r.key.size ≤ 40) ∧ Below B w wr) (fun _ i _ => L.length - (intOf i).toNat)
    case atStart => exact ⟨0, by omega, rfl, by rw [HE.out]; exact hdsE_zero L, by simpa [allB] using o2, by simp, b2⟩
    case round =>
      obtain ⟨k, hk, rfl, hno, hown, hkk, hb⟩ := hrel
      clear HE o2 b2
      have hBz := hb.size
      have hBr : B ≤ wr.heap.size := by omega
      by_cases hlt : k < L.length
      · have hok1 := hok _ (List.getElem_mem hlt)
        obtain ⟨b, o, rfl, c0, c1, c2, c3⟩ := hds_at (hkeep _ hb) k hlt
        have hcellA : ∀ (j : Nat) (hj : j < L.length) (u : World), Below B w u → u.cell? ⟨b, o + j * 4, none⟩ = some (.int .i64 L[j].nd) ∧ u.cell? ⟨b, o + j * 4 + 1, none⟩ = some (.string L[j].key) ∧ u.cell? ⟨b, o + j * 4 + 2, none⟩ = some (.int .i64 L[j].a) ∧ u.cell? ⟨b, o + j * 4 + 3, none⟩ = some (.int .i64 L[j].b) := fun j hj u hu => by
          obtain ⟨b', o', e, d⟩ := hds_at (hkeep _ hu) j hj
          simp only [Option.some.injEq, Addr.mk.injEq, and_true] at e
          obtain ⟨rfl, rfl⟩ := e
          exact d
        cases hbad : badHd L[k] with
        | true =>
          have e1 : E = 1 := by rw [hno]; exact hdsE_bad hlt hbad
          have HR := sheld_any L[k] wr (by have := hok1.2.1; omega)
          rw [hbad] at HR
          have HP := Lib.hid (fun w' => HP1.out w' e1)
          clear HP0 HP1 HP5 hno hok hbad hok1 e1 hcellA hkk
          generalize L[k] = r at *
          obtain ⟨nd, key, a, bv⟩ := r
          simp only [hdV] at c0 c1 c2 c3 HR
          go_wp2_with (go_at_call 6; refine HR.mono ?_; rintro e u1 ⟨rfl, b1⟩)
          go_ret2
          exact HP.out _ (hb.trans (b1.mono hBr))
        | false =>
          have HR := sheld_any L[k] wr (by have := hok1.2.1; omega)
          rw [hbad] at HR
          have hcell := hcellA k hlt
          cases k with
          | zero =>
            have HN := Lib.hid (hno.trans (hdsE_first hlt hbad))
            have hsn := allB_snoc hdB L 0 hlt
            have hsz : (allB hdB (L.take 0)).length ≤ 32000 := by
              have h1 := allB_le hdB 80 (L.take 0) (fun r hr => hdB_le (hok r (List.mem_of_mem_take hr)) (hkk r hr))
              have h2 : (L.take 0).length ≤ 400 := by rw [List.length_take]; omega
              exact Nat.le_trans h1 (by omega)
            have hk40 := not_badH hbad
            have HKK : Hid (∀ r ∈ L.take (0 + 1), r.key.size ≤ 40) := Lib.hid (by
              rw [List.take_succ_eq_append_getElem hlt]
              intro r hr
              rcases List.mem_append.1 hr with h | h
              · exact hkk r h
              · simp at h; subst h; exact hk40)
            clear hno hok hbad hcellA hkk
            generalize L[0] = r at *
            obtain ⟨nd, key, a, bv⟩ := r
            obtain ⟨ok0, ok1, ok2, ok3⟩ := hok1
            simp only [Nat.zero_mul, Nat.add_zero] at hcell c0 c1 c2 c3
            simp only [hdV, hdB] at hcell c0 c1 c2 c3 HR hsn hk40 ok0 ok1 ok2 ok3
            have HSN := Lib.hid hsn
            clear hsn
            generalize allB hdB (L.take 0) = q at *
            have hql : (numB L.length ++ q).length ≤ 32010 := by simp; omega
            generalize hl0 : numB L.length ++ q = l0 at *
            have HL0 := Lib.hid hl0
            clear hl0
            have hkt := num_ten (n := (key.size : Int)) (by omega) (by omega)
            have hkl : (kB key).length ≤ 50 := by have := kB_len key; omega
            have hnd := num_ten ok0.1 ok0.2
            have hnt := num_ten ok2.1 ok2.2
            have htt := num_ten ok3.1 ok3.2
            have hle1 : l0.length + (numB nd).length ≤ 140737488355328 := by omega
            obtain ⟨l1, hl1⟩ : ∃ l1, l1 = l0 ++ numB nd := ⟨_, rfl⟩
            obtain ⟨l2, hl2⟩ : ∃ l2, l2 = l1 ++ kB key := ⟨_, rfl⟩
            obtain ⟨l3, hl3⟩ : ∃ l3, l3 = l2 ++ numB a := ⟨_, rfl⟩
            obtain ⟨l4, hl4⟩ : ∃ l4, l4 = l3 ++ numB bv := ⟨_, rfl⟩
            have hle2 : l1.length + (kB key).length ≤ 140737488355328 := by rw [hl1]; simp only [List.length_append]; omega
            have hle3 : l2.length + (numB a).length ≤ 140737488355328 := by rw [hl2, hl1]; simp only [List.length_append]; omega
            have hle4 : l3.length + (numB bv).length ≤ 140737488355328 := by rw [hl3, hl2, hl1]; simp only [List.length_append]; omega
            have HL1 := Lib.hid hl1
            have HL2 := Lib.hid hl2
            have HL3 := Lib.hid hl3
            have HL4 := Lib.hid hl4
            clear hl1 hl2 hl3 hl4
            have HT := fun (u : World) => stext_any u key (by omega)
            have HN0 := fun (u : World) => snum_any u nd ok0
            have HN1 := fun (u : World) => snum_any u a ok2
            have HN2 := fun (u : World) => snum_any u bv ok3
            go_wp2_with (go_at_call 6; refine HR.mono ?_; rintro e u1 ⟨rfl, b1⟩; refine Hid.out ?_)
            refine Lib.hid ?_
            have hw1 := own_keep hown b1
            have hB1 : Below B w u1 := hb.trans (b1.mono hBr)
            have hz1 : B ≤ u1.heap.size := Nat.le_trans hBr b1.size
            obtain ⟨g10, g11, g12, g13⟩ := hcell u1 hB1
            clear b1 hown HR
            go_wp2_with fail
            go_quiet (fail)
            have hw3 : Own B (u1.drewN nq) _ l0 := hw1
            have hB3 : Below B w (u1.drewN nq) := ⟨hB1.os, hB1.tape, hB1.output, hB1.size, hB1.block⟩
            have hz3 : B ≤ (u1.drewN nq).heap.size := hz1
            clear hw1 hB1 hz1 g10 g11 g12 g13
            generalize u1.drewN nq = u3 at *
            obtain ⟨g30, g31, g32, g33⟩ := hcell u3 hB3
            go_wp2_with (go_at_call 32; refine (HN0 u3).mono ?_; rintro e u4 ⟨v4, rfl, o4, b4⟩; refine Hid.out ?_)
            refine Lib.hid ?_
            obtain ⟨w4, A4, c4', rfl, s4, n4⟩ := piece hw3 b4 o4
            have hz4 : B ≤ u4.heap.size := Nat.le_trans hz3 b4.size
            go_wp2_with (at_builtin; refine append_bs rfl _ _ rfl B _ l0 rfl w4 A4 _ c4' (numB nd) rfl rfl s4 n4 hle1 hz4 ?_)
            intro v5 u5 hw5 b5
            rw [← HL1.out] at hw5
            have hB5 : Below B w u5 := (hB3.trans (b4.mono hz3)).trans b5
            have hz5 : B ≤ u5.heap.size := Nat.le_trans hz4 b5.size
            clear b4 b5 o4 w4 s4 n4 hw3
            obtain ⟨g50, g51, g52, g53⟩ := hcell u5 hB5
            go_wp2_with (go_at_call 33; refine (HT u5).mono ?_; rintro e u6 ⟨v6, rfl, o6, b6⟩; refine Hid.out ?_)
            refine Lib.hid ?_
            obtain ⟨w6, A6, c6', rfl, s6, n6⟩ := piece hw5 b6 o6
            have hz6 : B ≤ u6.heap.size := Nat.le_trans hz5 b6.size
            go_wp2_with (at_builtin; refine append_bs rfl _ _ rfl B _ l1 rfl w6 A6 _ c6' (kB key) rfl rfl s6 n6 hle2 hz6 ?_)
            intro v7 u7 hw7 b7
            rw [← HL2.out] at hw7
            have hB7 : Below B w u7 := (hB5.trans (b6.mono hz5)).trans b7
            have hz7 : B ≤ u7.heap.size := Nat.le_trans hz6 b7.size
            clear b6 b7 o6 w6 s6 n6 hw5
            obtain ⟨g70, g71, g72, g73⟩ := hcell u7 hB7
            go_wp2_with (go_at_call 32; refine (HN1 u7).mono ?_; rintro e u8 ⟨v8, rfl, o8, b8⟩; refine Hid.out ?_)
            refine Lib.hid ?_
            obtain ⟨w8, A8, c8', rfl, s8, n8⟩ := piece hw7 b8 o8
            have hz8 : B ≤ u8.heap.size := Nat.le_trans hz7 b8.size
            go_wp2_with (at_builtin; refine append_bs rfl _ _ rfl B _ l2 rfl w8 A8 _ c8' (numB a) rfl rfl s8 n8 hle3 hz8 ?_)
            intro v9 u9 hw9 b9
            rw [← HL3.out] at hw9
            have hB9 : Below B w u9 := (hB7.trans (b8.mono hz7)).trans b9
            have hz9 : B ≤ u9.heap.size := Nat.le_trans hz8 b9.size
            clear b8 b9 o8 w8 s8 n8 hw7
            obtain ⟨g90, g91, g92, g93⟩ := hcell u9 hB9
            go_wp2_with (go_at_call 32; refine (HN2 u9).mono ?_; rintro e u10 ⟨v10, rfl, o10, b10⟩; refine Hid.out ?_)
            refine Lib.hid ?_
            obtain ⟨w10, A10, c10', rfl, s10, n10⟩ := piece hw9 b10 o10
            have hz10 : B ≤ u10.heap.size := Nat.le_trans hz9 b10.size
            go_wp2_with (at_builtin; refine append_bs rfl _ _ rfl B _ l3 rfl w10 A10 _ c10' (numB bv) rfl rfl s10 n10 hle4 hz10 ?_)
            intro v11 u11 hw11 b11
            rw [← HL4.out] at hw11
            have hB11 : Below B w u11 := (hB9.trans (b10.mono hz9)).trans b11
            have hz11 : B ≤ u11.heap.size := Nat.le_trans hz10 b11.size
            clear b10 b11 o10 w10 s10 n10 hw9
            go_wp2_with fail
            go_roundw
            case rel => exact ⟨1, by omega, by go_num, HN.out, by rw [HSN.out]; rw [HL4.out, HL3.out, HL2.out, HL1.out, ← HL0.out] at hw11; simpa using hw11, HKK.out, hB11⟩
            case measure => simp [intOf]; omega
          | succ k =>
            have hlt0 : k < L.length := by omega
            have hcell0 := hcellA k hlt0
            have HLo := fun hc => hno.trans (hdsE_low hlt hbad hc)
            have HNx := fun hc => hno.trans (hdsE_next hlt hbad hc)
            have HC := fun w' => ahead_any L[k] L[k + 1] w'
            have hsn := allB_snoc hdB L (k + 1) hlt
            have hsz : (allB hdB (L.take (k + 1))).length ≤ 32000 := by
              have h1 := allB_le hdB 80 (L.take (k + 1)) (fun r hr => hdB_le (hok r (List.mem_of_mem_take hr)) (hkk r hr))
              have h2 : (L.take (k + 1)).length ≤ 400 := by rw [List.length_take]; omega
              exact Nat.le_trans h1 (by omega)
            have hk40 := not_badH hbad
            have HKK : Hid (∀ r ∈ L.take ((k + 1) + 1), r.key.size ≤ 40) := Lib.hid (by
              rw [List.take_succ_eq_append_getElem hlt]
              intro r hr
              rcases List.mem_append.1 hr with h | h
              · exact hkk r h
              · simp at h; subst h; exact hk40)
            have hlz : ltH L[k] L[k + 1] = decide (cmpH L[k] L[k + 1] < 0) := rfl
            rw [hlz] at HC
            clear hno hok hbad hcellA hkk hlz
            generalize cmpH L[k] L[k + 1] = z at *
            generalize L[k + 1] = r at *
            generalize L[k] = r' at *
            obtain ⟨nd, key, a, bv⟩ := r
            obtain ⟨nd', key', a', bv'⟩ := r'
            obtain ⟨ok0, ok1, ok2, ok3⟩ := hok1
            simp only [hdV] at hcell0 HC
            simp only [hdV, hdB] at hcell c0 c1 c2 c3 HR hsn hk40 ok0 ok1 ok2 ok3
            have HSN := Lib.hid hsn
            clear hsn
            generalize allB hdB (L.take (k + 1)) = q at *
            have hql : (numB L.length ++ q).length ≤ 32010 := by simp; omega
            generalize hl0 : numB L.length ++ q = l0 at *
            have HL0 := Lib.hid hl0
            clear hl0
            have hkt := num_ten (n := (key.size : Int)) (by omega) (by omega)
            have hkl : (kB key).length ≤ 50 := by have := kB_len key; omega
            have hnd := num_ten ok0.1 ok0.2
            have hnt := num_ten ok2.1 ok2.2
            have htt := num_ten ok3.1 ok3.2
            have hle1 : l0.length + (numB nd).length ≤ 140737488355328 := by omega
            obtain ⟨l1, hl1⟩ : ∃ l1, l1 = l0 ++ numB nd := ⟨_, rfl⟩
            obtain ⟨l2, hl2⟩ : ∃ l2, l2 = l1 ++ kB key := ⟨_, rfl⟩
            obtain ⟨l3, hl3⟩ : ∃ l3, l3 = l2 ++ numB a := ⟨_, rfl⟩
            obtain ⟨l4, hl4⟩ : ∃ l4, l4 = l3 ++ numB bv := ⟨_, rfl⟩
            have hle2 : l1.length + (kB key).length ≤ 140737488355328 := by rw [hl1]; simp only [List.length_append]; omega
            have hle3 : l2.length + (numB a).length ≤ 140737488355328 := by rw [hl2, hl1]; simp only [List.length_append]; omega
            have hle4 : l3.length + (numB bv).length ≤ 140737488355328 := by rw [hl3, hl2, hl1]; simp only [List.length_append]; omega
            have HL1 := Lib.hid hl1
            have HL2 := Lib.hid hl2
            have HL3 := Lib.hid hl3
            have HL4 := Lib.hid hl4
            clear hl1 hl2 hl3 hl4
            have HT := fun (u : World) => stext_any u key (by omega)
            have HN0 := fun (u : World) => snum_any u nd ok0
            have HN1 := fun (u : World) => snum_any u a ok2
            have HN2 := fun (u : World) => snum_any u bv ok3
            go_wp2_with (go_at_call 6; refine HR.mono ?_; rintro e u1 ⟨rfl, b1⟩; refine Hid.out ?_)
            refine Lib.hid ?_
            have hw1 := own_keep hown b1
            have hB1 : Below B w u1 := hb.trans (b1.mono hBr)
            have hz1 : B ≤ u1.heap.size := Nat.le_trans hBr b1.size
            obtain ⟨g10, g11, g12, g13⟩ := hcell u1 hB1
            clear b1 hown HR
            have hlA : ∀ v w' : World, v.heap = u1.heap → Below v.heap.size v w' → w'.cell? ⟨b, o + k * 4, none⟩ = some (.int .i64 nd') ∧ w'.cell? ⟨b, o + k * 4 + 1, none⟩ = some (.string key') ∧ w'.cell? ⟨b, o + k * 4 + 2, none⟩ = some (.int .i64 a') ∧ w'.cell? ⟨b, o + k * 4 + 3, none⟩ = some (.int .i64 bv') ∧ w'.cell? ⟨b, o + (k + 1) * 4, none⟩ = some (.int .i64 nd) ∧ w'.cell? ⟨b, o + (k + 1) * 4 + 1, none⟩ = some (.string key) ∧ w'.cell? ⟨b, o + (k + 1) * 4 + 2, none⟩ = some (.int .i64 a) ∧ w'.cell? ⟨b, o + (k + 1) * 4 + 3, none⟩ = some (.int .i64 bv) := by
              intro v w' hv hvb
              have hbb : b < u1.heap.size := cell_lt g10
              obtain ⟨p0, p1, p2, p3⟩ := hcell0 u1 hB1
              have kk : ∀ (oo : Nat) (x : Value), u1.cell? ⟨b, oo, none⟩ = some x → w'.cell? ⟨b, oo, none⟩ = some x := fun oo x hx => by
                rw [hvb.cell (p := ⟨b, oo, none⟩) (by rw [hv]; exact hbb), World.cell?_of_block (w := u1) (by rw [hv])]; exact hx
              exact ⟨kk _ _ p0, kk _ _ p1, kk _ _ p2, kk _ _ p3, kk _ _ g10, kk _ _ g11, kk _ _ g12, kk _ _ g13⟩
            have hi0 : (0 : Int) ≤ (k : Int) := by omega
            have hi1 : (k : Int) < (L.length : Int) := by omega
            have hi2 : (k : Int) + 1 < (L.length : Int) := by omega
            have hi4 : (k : Int) + 1 ≤ 400 := by omega
            have hi5 : IntKind.i64.wrap (k : Int) = (k : Int) := by simp [IntKind.wrap, IntKind.bits, IntKind.signed]; omega
            have hi6 : (0 : Int) ≤ (k : Int) + 1 := by omega
            have hi7 : (k : Int) + 1 ≤ (L.length : Int) := by omega
            have hi8 : IntKind.i64.wrap ((k : Int) + 1) = (k : Int) + 1 := by simp [IntKind.wrap, IntKind.bits, IntKind.signed]; omega
            have hk1 : (0 : Int) < ((k + 1 : Nat) : Int) := by omega
            by_cases hz : 0 ≤ z
            · have HP := Lib.hid (fun w' => HP5.out w' (HLo (by omega)))
              have hdz : decide (z < 0) = false := by simp; omega
              rw [hdz] at HC
              clear HLo HNx HP0 HP1 HP5 HN0 HN1 HN2 HT hdz
              go_wp2_with fail
              have HO := hlA _ _ rfl (Below.refl _ u1)
              go_region_held3 (fun w' => w'.cell? ⟨b, o + k * 4, none⟩ = some (.int .i64 nd') ∧ w'.cell? ⟨b, o + k * 4 + 1, none⟩ = some (.string key') ∧ w'.cell? ⟨b, o + k * 4 + 2, none⟩ = some (.int .i64 a') ∧ w'.cell? ⟨b, o + k * 4 + 3, none⟩ = some (.int .i64 bv') ∧ w'.cell? ⟨b, o + (k + 1) * 4, none⟩ = some (.int .i64 nd) ∧ w'.cell? ⟨b, o + (k + 1) * 4 + 1, none⟩ = some (.string key) ∧ w'.cell? ⟨b, o + (k + 1) * 4 + 2, none⟩ = some (.int .i64 a) ∧ w'.cell? ⟨b, o + (k + 1) * 4 + 3, none⟩ = some (.int .i64 bv)) (first | go_keep | exact HO | exact hlA u1.drew w2 rfl b2) ((go_at_call 25; refine (HC _).mono ?_; rintro e w2 ⟨rfl, b2⟩))
              all_goals
                go_wp2_with fail
                go_ret2
                exact HP.out _ (hB1.drew.trans (b2.mono hz1))
            · have HN := Lib.hid (HNx (by omega))
              have hdz : decide (z < 0) = true := by simp; omega
              rw [hdz] at HC
              clear HLo HNx HP0 HP1 HP5 hdz
              go_wp2_with fail
              have HO := hlA _ _ rfl (Below.refl _ u1)
              go_region_held3 (fun w' => w'.cell? ⟨b, o + k * 4, none⟩ = some (.int .i64 nd') ∧ w'.cell? ⟨b, o + k * 4 + 1, none⟩ = some (.string key') ∧ w'.cell? ⟨b, o + k * 4 + 2, none⟩ = some (.int .i64 a') ∧ w'.cell? ⟨b, o + k * 4 + 3, none⟩ = some (.int .i64 bv') ∧ w'.cell? ⟨b, o + (k + 1) * 4, none⟩ = some (.int .i64 nd) ∧ w'.cell? ⟨b, o + (k + 1) * 4 + 1, none⟩ = some (.string key) ∧ w'.cell? ⟨b, o + (k + 1) * 4 + 2, none⟩ = some (.int .i64 a) ∧ w'.cell? ⟨b, o + (k + 1) * 4 + 3, none⟩ = some (.int .i64 bv)) (first | go_keep | exact HO | exact hlA u1.drew w2 rfl b2) ((go_at_call 25; refine (HC _).mono ?_; rintro e w2 ⟨rfl, b2⟩))
              have hw3 : Own B w2 _ l0 := own_keep (w := u1.drew) hw1 b2
              have hB3 : Below B w w2 := hB1.drew.trans (b2.mono hz1)
              have hz3 : B ≤ w2.heap.size := Nat.le_trans hz1 b2.size
              clear hw1 hB1 hz1 g10 g11 g12 g13 HC HO hlA hcell0 b2
              generalize w2 = u3 at *
              obtain ⟨g30, g31, g32, g33⟩ := hcell u3 hB3
              go_wp2_with (go_at_call 32; refine (HN0 u3).mono ?_; rintro e u4 ⟨v4, rfl, o4, b4⟩; refine Hid.out ?_)
              refine Lib.hid ?_
              obtain ⟨w4, A4, c4', rfl, s4, n4⟩ := piece hw3 b4 o4
              have hz4 : B ≤ u4.heap.size := Nat.le_trans hz3 b4.size
              go_wp2_with (at_builtin; refine append_bs rfl _ _ rfl B _ l0 rfl w4 A4 _ c4' (numB nd) rfl rfl s4 n4 hle1 hz4 ?_)
              intro v5 u5 hw5 b5
              rw [← HL1.out] at hw5
              have hB5 : Below B w u5 := (hB3.trans (b4.mono hz3)).trans b5
              have hz5 : B ≤ u5.heap.size := Nat.le_trans hz4 b5.size
              clear b4 b5 o4 w4 s4 n4 hw3
              obtain ⟨g50, g51, g52, g53⟩ := hcell u5 hB5
              go_wp2_with (go_at_call 33; refine (HT u5).mono ?_; rintro e u6 ⟨v6, rfl, o6, b6⟩; refine Hid.out ?_)
              refine Lib.hid ?_
              obtain ⟨w6, A6, c6', rfl, s6, n6⟩ := piece hw5 b6 o6
              have hz6 : B ≤ u6.heap.size := Nat.le_trans hz5 b6.size
              go_wp2_with (at_builtin; refine append_bs rfl _ _ rfl B _ l1 rfl w6 A6 _ c6' (kB key) rfl rfl s6 n6 hle2 hz6 ?_)
              intro v7 u7 hw7 b7
              rw [← HL2.out] at hw7
              have hB7 : Below B w u7 := (hB5.trans (b6.mono hz5)).trans b7
              have hz7 : B ≤ u7.heap.size := Nat.le_trans hz6 b7.size
              clear b6 b7 o6 w6 s6 n6 hw5
              obtain ⟨g70, g71, g72, g73⟩ := hcell u7 hB7
              go_wp2_with (go_at_call 32; refine (HN1 u7).mono ?_; rintro e u8 ⟨v8, rfl, o8, b8⟩; refine Hid.out ?_)
              refine Lib.hid ?_
              obtain ⟨w8, A8, c8', rfl, s8, n8⟩ := piece hw7 b8 o8
              have hz8 : B ≤ u8.heap.size := Nat.le_trans hz7 b8.size
              go_wp2_with (at_builtin; refine append_bs rfl _ _ rfl B _ l2 rfl w8 A8 _ c8' (numB a) rfl rfl s8 n8 hle3 hz8 ?_)
              intro v9 u9 hw9 b9
              rw [← HL3.out] at hw9
              have hB9 : Below B w u9 := (hB7.trans (b8.mono hz7)).trans b9
              have hz9 : B ≤ u9.heap.size := Nat.le_trans hz8 b9.size
              clear b8 b9 o8 w8 s8 n8 hw7
              obtain ⟨g90, g91, g92, g93⟩ := hcell u9 hB9
              go_wp2_with (go_at_call 32; refine (HN2 u9).mono ?_; rintro e u10 ⟨v10, rfl, o10, b10⟩; refine Hid.out ?_)
              refine Lib.hid ?_
              obtain ⟨w10, A10, c10', rfl, s10, n10⟩ := piece hw9 b10 o10
              have hz10 : B ≤ u10.heap.size := Nat.le_trans hz9 b10.size
              go_wp2_with (at_builtin; refine append_bs rfl _ _ rfl B _ l3 rfl w10 A10 _ c10' (numB bv) rfl rfl s10 n10 hle4 hz10 ?_)
              intro v11 u11 hw11 b11
              rw [← HL4.out] at hw11
              have hB11 : Below B w u11 := (hB9.trans (b10.mono hz9)).trans b11
              have hz11 : B ≤ u11.heap.size := Nat.le_trans hz10 b11.size
              clear b10 b11 o10 w10 s10 n10 hw9
              go_wp2_with fail
              go_roundw
              case rel => exact ⟨k + 2, by omega, by go_num, HN.out, by rw [HSN.out]; rw [HL4.out, HL3.out, HL2.out, HL1.out, ← HL0.out] at hw11; simpa using hw11, HKK.out, hB11⟩
              case measure => simp [intOf]; omega
      · have e : L.take k = L := List.take_of_length_le (by omega)
        have e0 : E = 0 := by rw [hno]; exact hdsE_end (by omega)
        rw [e] at hown
        have HP := Lib.hid (fun v w' => HP0.out v w' e0)
        clear HP0 HP1 HP5 e0 hno
        go_wp2_with fail
        go_ret2
        exact HP.out _ _ hown hb
end Go.Proofs.YtbppiiomjmpjkabGreatDoor

/- The document's side: states read. -/
namespace Go.Proofs.YtbppiiomjmpjkabGreatDoor
open Go.RowKit

/-- A block of a state. -/
def C4 (w : World) (q : Nat) (a b c d : Value) : Prop := w.heap[q]? = some (.cells #[a, b, c, d] 27)
theorem C4.c0 {w : World} {q : Nat} {a b c d : Value} (h : C4 w q a b c d) : w.cell? ⟨q, 0, none⟩ = some a := by unfold C4 at h; simp [World.cell?, h]
theorem C4.c1 {w : World} {q : Nat} {a b c d : Value} (h : C4 w q a b c d) : w.cell? ⟨q, 1, none⟩ = some b := by unfold C4 at h; simp [World.cell?, h]
theorem C4.c2 {w : World} {q : Nat} {a b c d : Value} (h : C4 w q a b c d) : w.cell? ⟨q, 2, none⟩ = some c := by unfold C4 at h; simp [World.cell?, h]
theorem C4.c3 {w : World} {q : Nat} {a b c d : Value} (h : C4 w q a b c d) : w.cell? ⟨q, 3, none⟩ = some d := by unfold C4 at h; simp [World.cell?, h]
theorem C4.fz {w : World} {q : Nat} {a b c d : Value} (h : C4 w q a b c d) (o : Nat) : w.frozen? ⟨q, o, none⟩ = false := by unfold C4 at h; simp [World.frozen?, h]
theorem C4.set0 {w : World} {q : Nat} {a b c d : Value} (h : C4 w q a b c d) (x : Value) : C4 (w.setCell ⟨q, 0, none⟩ x) q x b c d := by
  unfold C4 at h ⊢; simp [World.setCell, Array.getElem?_modify, h]
theorem C4.set1 {w : World} {q : Nat} {a b c d : Value} (h : C4 w q a b c d) (x : Value) : C4 (w.setCell ⟨q, 1, none⟩ x) q a x c d := by
  unfold C4 at h ⊢; simp [World.setCell, Array.getElem?_modify, h]
theorem C4.set2 {w : World} {q : Nat} {a b c d : Value} (h : C4 w q a b c d) (x : Value) : C4 (w.setCell ⟨q, 2, none⟩ x) q a b x d := by
  unfold C4 at h ⊢; simp [World.setCell, Array.getElem?_modify, h]
theorem C4.set3 {w : World} {q : Nat} {a b c d : Value} (h : C4 w q a b c d) (x : Value) : C4 (w.setCell ⟨q, 3, none⟩ x) q a b c x := by
  unfold C4 at h ⊢; simp [World.setCell, Array.getElem?_modify, h]
theorem C4.blk {w w' : World} {q : Nat} {a b c d : Value} (h : C4 w q a b c d) (e : w'.heap[q]? = w.heap[q]?) : C4 w' q a b c d := by
  unfold C4 at h ⊢; rw [e]; exact h
theorem C4.fr {w w' : World} {q R : Nat} {a b c d : Value} (h : C4 w q a b c d) (f : Fr [R] w w') (hne : q ≠ R) : C4 w' q a b c d :=
  h.blk (f.block _ (some_lt h) (by simpa using hne))
theorem DdB.below {N : Nat} {w w' : World} {R : Nat} {l : List UInt8} {st : St} (h : DdB N w R l st) (hNR : N ≤ R) (hb : Below w.heap.size w w') : DdB N w' R l st :=
  h.keep (hb.block _ h.lt) (fun k hk => hb.block _ (by have := h.lt; omega))

def goodH (xs : List Hd) : Prop := hdsE ltH none xs = 0
def lastP (p : Option Hd) (xs : List Hd) : Option Hd := match xs.getLast? with
  | some q => some q
  | none => p
theorem lastP_cons (p : Option Hd) (x : Hd) (xs : List Hd) : lastP (some x) xs = lastP p (x :: xs) := by
  unfold lastP
  cases xs with
  | nil => rfl
  | cons y ys =>
    obtain ⟨z, hz⟩ : ∃ z, (y :: ys).getLast? = some z := ⟨_, List.getLast?_eq_some_getLast (by simp)⟩
    rw [List.getLast?_cons_cons, hz]
theorem hdsE_app : ∀ (xs : List Hd) (p : Option Hd) (x : Hd), hdsE ltH p (xs ++ [x]) = 0 ↔ hdsE ltH p xs = 0 ∧ badHd x = false ∧ (∀ q, lastP p xs = some q → ltH q x = true)
  | [], p, x => by
    have e : hdsE ltH p [] = 0 := by cases p <;> rfl
    have el : lastP p [] = p := rfl
    rw [List.nil_append, el]
    cases p with
    | none =>
      rw [hdsE_n]
      cases hb : badHd x with
      | true => simp
      | false => simp [e]; rfl
    | some q =>
      rw [hdsE_s]
      cases hb : badHd x with
      | true => simp
      | false =>
        cases hl : ltH q x with
        | true => simp [e, hl]; rfl
        | false => simp [hl]
  | y :: xs, p, x => by
    have ih := hdsE_app xs (some y) x
    rw [List.cons_append, ← lastP_cons p y xs]
    cases p with
    | none =>
      rw [hdsE_n, hdsE_n]
      cases hb : badHd y with
      | true => simp
      | false => simpa using ih
    | some q =>
      rw [hdsE_s, hdsE_s]
      cases hb : badHd y with
      | true => simp
      | false =>
        cases hl : ltH q y with
        | true => simpa using ih
        | false => simp
theorem goodH_pre (xs : List Hd) (x : Hd) (h : goodH (xs ++ [x])) : goodH xs := ((hdsE_app xs none x).1 h).1
/-- The state behind the look at the order. -/
def stH (xs : List Hd) (x : Hd) (s : St) : St := match xs.getLast? with
  | none => s
  | some q => if ltH q x then s else none
theorem nextH {l : St} {i : Nat} {q : List UInt8} {xs : List Hd} (h : CameG goodH rdHd l i (some q) xs) : CameG goodH rdHd l (i + 1) (stH xs (nHdS (some q)).1 (nHdS (some q)).2) (xs ++ [(nHdS (some q)).1]) := by
  have hgood : goodH xs := by obtain ⟨r, -, -, h⟩ := h; exact h
  have hlp : ∀ y, lastP none xs = some y ↔ xs.getLast? = some y := by
    intro y; unfold lastP; cases xs.getLast? <;> simp
  refine h.next _ _ ?_ ?_
  · intro q' hq'
    have hs : (nHdS (some q)).2 = some q' ∧ (∀ y, xs.getLast? = some y → ltH y (nHdS (some q)).1 = true) := by
      unfold stH at hq'
      cases hl : xs.getLast? with
      | none => rw [hl] at hq'; exact ⟨hq', fun y e => by cases e⟩
      | some y =>
        rw [hl] at hq'
        simp only at hq'
        split at hq'
        · rename_i ht; exact ⟨hq', fun z e => by injection e with e; subst e; exact ht⟩
        · cases hq'
    cases hr : rdHd q with
    | none =>
      have := nHdS_no q (by intro r q2 e; rw [hr] at e; cases e)
      rw [this] at hs; cases hs.1
    | some pr =>
      obtain ⟨r, q2⟩ := pr
      cases hb : badHd r with
      | true =>
        have := nHdS_no q (by intro r' q3 e; rw [hr] at e; injection e with e; injection e with e1 e2; rw [← e1]; exact hb)
        rw [this] at hs; cases hs.1
      | false =>
        have e := nHdS_yes q r q2 hr hb
        rw [e] at hs ⊢
        obtain ⟨h1, h2⟩ := hs
        injection h1 with h1
        subst h1
        exact ⟨rfl, (hdsE_app xs none r).2 ⟨hgood, hb, fun y hy => h2 y ((hlp y).1 hy)⟩⟩
  · intro hn y q' hy hg
    obtain ⟨-, hb, ho⟩ := (hdsE_app xs none y).1 hg
    have e := nHdS_yes q y q' hy hb
    rw [e] at hn
    unfold stH at hn
    cases hl : xs.getLast? with
    | none => rw [hl] at hn; cases hn
    | some z =>
      rw [hl] at hn
      simp only at hn
      rw [if_pos (ho z ((hlp z).2 hl))] at hn
      cases hn
theorem readH_yes {l : List UInt8} {xs : List Hd} (h : rdAll rdHd l = some xs) (hg : goodH xs) : readHds ltH l = some xs := by
  rw [read_hd h, if_pos]
  have h4 := (rdAll_some (Ok := OkHd) (g := hdB) (fun x l q h => rdHd_some h) h).2.2
  unfold heldsE
  rw [if_neg (by omega)]; exact hg
theorem readH_no {l : List UInt8} (h : ∀ ys, rdAll rdHd l = some ys → ¬ goodH ys) : readHds ltH l = none := by
  cases hr : rdAll rdHd l with
  | none => exact read_hnone hr
  | some xs =>
    rw [read_hd hr, if_neg]
    intro he
    refine h xs hr ?_
    unfold heldsE at he
    split at he
    · cases he
    · exact he
theorem readHds_ok {l : List UInt8} {xs : List Hd} (h : readHds ltH l = some xs) : heldsE ltH xs = 0 := by
  unfold readHds at h
  split at h
  · cases h
  · split at h
    · rename_i he; injection h with h; subst h; exact he
    · cases h
theorem cell_four_at (w : World) (q : Nat) (hq : q = w.heap.size) (a b c d : Value) (t : TypeId) : ∀ j u, [a, b, c, d][j]? = some u → (w.alloc (.cells #[a, b, c, d] t)).cell? ((⟨q, 0, none⟩ : Addr).add j) = some u := by
  subst hq; exact cell_four_new w a b c d t
/-- How the document's ReadHelds ends. -/
def ShEnd (w : World) (r : Option (List Hd)) (e : Ending) (w' : World) : Prop :=
  (match r with
   | none => e = .returned (.tuple #[.slice none 0 0, .bool false])
   | some xs => ∃ v, e = .returned (.tuple #[v, .bool true]) ∧ w'.ownsRow w.heap.size 27 4 v xs.length (hcells xs)) ∧ Below w.heap.size w w'

set_option maxRecDepth 100000 in
set_option maxHeartbeats 2000000 in
theorem sreadHds_any (w : World) (p : Option Addr) (c : Nat) (l : List UInt8) (hl : BsAt w p l) (hlen : l.length ≤ 140737488355328) (hcap : l.length ≤ c) (hcm : c ≤ 9223372036854775807) :
    Calls Tryz.prog 19 #[.slice p l.length c] w fun e w' => ShEnd w (readHds ltH l) e w' := by
  obtain ⟨i0, hi, hz0, hz1, hz2⟩ := info_parts infoHd
  have hbd := nU_bd 400 (some l) (by omega)
  have hR0 : DdB w.heap.size (w.alloc (.cells #[.slice p l.length c, .int .i64 0, .bool false] 79)) w.heap.size l (some l) := by
    refine ⟨p, c, 0, false, ?_, hl.keep ((Below.refl _ _).alloc (Nat.le_refl _) _), ?_, hcap, hcm, hlen, by omega, .inr ⟨rfl, rfl⟩⟩
    · unfold Db; show (w.heap.push _)[w.heap.size]? = _; simp
    · intro a ha hne
      obtain ⟨b, o, h1, h2⟩ := hl.lt hne
      rw [h1] at ha; simp at ha; subst ha; exact h2
  have HM := dupto_any w.heap.size w.heap.size _ l _ 400 (by omega) hR0 (Nat.le_refl _)
  have hB1 : (w.alloc (.cells #[.slice p l.length c, .int .i64 0, .bool false] 79)).heap.size = w.heap.size + 1 := by simp
  have hbA : Below w.heap.size w (w.alloc (.cells #[.slice p l.length c, .int .i64 0, .bool false] 79)) := (Below.refl _ _).alloc (by omega) _
  have HA := Lib.hid (fun st xs (h : CameG goodH rdHd (nU 400 (some l)).2 (nU 400 (some l)).1.toNat st xs) => h.all)
  have HZ := Lib.hid (CameG.zero (good := goodH) rdHd (nU 400 (some l)).2 rfl)
  generalize (nU 400 (some l)).2 = st0 at *
  obtain ⟨n, hn⟩ : ∃ n : Nat, (nU 400 (some l)).1 = (n : Int) := ⟨(nU 400 (some l)).1.toNat, by omega⟩
  rw [hn] at HM HA hbd
  have hn4 : n ≤ 400 := by omega
  rw [Int.toNat_natCast] at HA
  have HY : Hid (∀ xs v w', rdAll rdHd l = some xs → goodH xs → w'.ownsRow w.heap.size 27 4 v xs.length (hcells xs) → Below w.heap.size w w' → ShEnd w (readHds ltH l) (.returned (.tuple #[v, .bool true])) w') := Lib.hid (fun xs v w' h1 h2 h3 h4 => by rw [readH_yes h1 h2]; exact ⟨⟨v, rfl, h3⟩, h4⟩)
  have HX : Hid (∀ w', (∀ ys, rdAll rdHd l = some ys → ¬ goodH ys) → Below w.heap.size w w' → ShEnd w (readHds ltH l) (.returned (.tuple #[.slice none 0 0, .bool false])) w') := Lib.hid (fun w' h1 h4 => by rw [readH_no h1]; exact ⟨rfl, h4⟩)
  clear hn hbd hR0 hl
  go_enter Tryz.func19, Tryz.ntmps19
  go_wp2_with (go_at_call 39; refine HM.mono ?_; rintro e w1 ⟨rfl, r1, f1⟩; refine Hid.out ?_)
  refine Lib.hid ?_
  have b1 : Below w.heap.size w w1 := hbA.trans (f1.toBelow (by omega) (by simp))
  have z1 : w.heap.size + 1 ≤ w1.heap.size := by have := f1.size; omega
  clear HM f1 hbA hB1
  go_wp2_with fail
  go_loopw [6, 7] (fun v i wr => ∃ (k : Nat) (st : St) (xs : List Hd), k ≤ n ∧ i = .int .i64 k ∧ xs.length = k ∧ CameG goodH rdHd st0 k st xs ∧ DdB w.heap.size wr w.heap.size l st ∧ wr.ownsRow (w.heap.size + 1) 27 4 v k (hcells xs) ∧ Below w.heap.size w wr ∧ w.heap.size + 1 ≤ wr.heap.size) (fun _ i _ => n - (intOf i).toNat)
  case atStart => exact ⟨0, st0, [], by omega, rfl, rfl, HZ.out, r1, World.ownsRow_nil _ _ _ _, b1, z1⟩
  case round =>
    obtain ⟨k, st, xs, hk, rfl, hxl, hcame, hrd, hown, hb, hz⟩ := hrel
    clear b1 z1 r1
    have hrd' := hrd
    obtain ⟨p', c', a9, bad, hd, hl', hN', hlc', hcm', hlen', hal, hst⟩ := hrd'
    have g2 := hd.c2
    have g1 := hd.c1
    by_cases hgo : k < n ∧ bad = false
    · obtain ⟨hlt, rfl⟩ := hgo
      obtain ⟨q, rfl⟩ : ∃ q, st = some q := by
        rcases hst with ⟨-, h⟩ | ⟨h, -⟩
        · cases h
        · exact ⟨_, h⟩
      clear hl' hN' hst hal hlc' hcm' hlen' hd g1
      have hnx0 := nextH hcame
      obtain ⟨nd, s0, e0⟩ : ∃ k s1, nU 11 (some q) = (k, s1) := ⟨_, _, rfl⟩
      obtain ⟨key, s1, e1⟩ : ∃ k s1, nX 40 s0 = (k, s1) := ⟨_, _, rfl⟩
      obtain ⟨a, s2, e2⟩ : ∃ n s2, nI s1 = (n, s2) := ⟨_, _, rfl⟩
      obtain ⟨bv, s3, e3⟩ : ∃ t s3, nI s2 = (t, s3) := ⟨_, _, rfl⟩
      have er : nHdS (some q) = (⟨nd, key, a, bv⟩, s3) := by unfold nHdS; rw [e0]; simp only; rw [e1]; simp only; rw [e2]; simp only; rw [e3]
      rw [er] at hnx0
      simp only at hnx0
      have H0 := fun (u : World) (hu : DdB w.heap.size u w.heap.size l (some q)) => dupto_any _ _ u l (some q) 11 (by omega) hu (Nat.le_refl _)
      have H1 := fun (u : World) (hu : DdB w.heap.size u w.heap.size l (s0)) => dtext_any _ _ u l s0 40 (by omega) hu (Nat.le_refl _)
      have H2 := fun (u : World) (hu : DdB w.heap.size u w.heap.size l (s1)) => dnum_any _ _ u l s1 hu (Nat.le_refl _)
      have H3 := fun (u : World) (hu : DdB w.heap.size u w.heap.size l (s2)) => dnum_any _ _ u l s2 hu (Nat.le_refl _)
      rw [e0] at H0
      rw [e1] at H1
      rw [e2] at H2
      rw [e3] at H3
      simp only at H0 H1 H2 H3
      clear e0 e1 e2 e3 er hcame
      have d0 := hrd.alloc (Nat.le_refl _) (.cells #[.int .i64 0, .string ⟨#[]⟩, .int .i64 0, .int .i64 0] 27)
      have F0 := (Fr.refl [w.heap.size] wr).alloc (.cells #[.int .i64 0, .string ⟨#[]⟩, .int .i64 0, .int .i64 0] 27)
      have t0 : C4 (wr.alloc (.cells #[.int .i64 0, .string ⟨#[]⟩, .int .i64 0, .int .i64 0] 27)) wr.heap.size (.int .i64 0) (.string ⟨#[]⟩) (.int .i64 0) (.int .i64 0) := by
        unfold C4; show (wr.heap.push _)[wr.heap.size]? = _; simp
      have hne : wr.heap.size ≠ w.heap.size := by omega
      have hsnoc := Lib.hid (show hcells (xs ++ [⟨nd, key, a, bv⟩]) = hcells xs ++ [.int .i64 nd, .string key, .int .i64 a, .int .i64 bv] from by rw [hcells_append]; rfl)
      go_wp2_with (go_at_call 39; refine (H0 _ d0).mono ?_; rintro e u1 ⟨rfl, d1, f1⟩; refine Hid.out ?_)
      refine Lib.hid ?_
      have F1 := F0.trans f1
      have t1 := t0.fr f1 hne
      have gf1 := t1.fz
      have gc1 := t1.c0
      clear t0 d0 F0 H0 g2 f1
      have t1' := t1.set0 (.int .i64 nd)
      have d1' : DdB w.heap.size (u1.setCell ⟨wr.heap.size, 0, none⟩ (.int .i64 nd)) w.heap.size l s0 := d1.set (by omega) hne _
      have F1' := F1.setCell (p := ⟨wr.heap.size, 0, none⟩) (.inr (by simp)) (.int .i64 nd)
      go_wp2_with (go_at_call 40; refine (H1 _ d1').mono ?_; rintro e u2 ⟨rfl, d2, f2⟩; refine Hid.out ?_)
      refine Lib.hid ?_
      have F2 := F1'.trans f2
      have t2 := t1'.fr f2 hne
      have gf2 := t2.fz
      have gc2 := t2.c1
      clear t1 t1' d1 d1' F1 F1' H1 gf1 gc1 f2
      have t2' := t2.set1 (.string key)
      have d2' : DdB w.heap.size (u2.setCell ⟨wr.heap.size, 1, none⟩ (.string key)) w.heap.size l s1 := d2.set (by omega) hne _
      have F2' := F2.setCell (p := ⟨wr.heap.size, 1, none⟩) (.inr (by simp)) (.string key)
      go_wp2_with (go_at_call 41; refine (H2 _ d2').mono ?_; rintro e u3 ⟨rfl, d3, f3⟩; refine Hid.out ?_)
      refine Lib.hid ?_
      have F3 := F2'.trans f3
      have t3 := t2'.fr f3 hne
      have gf3 := t3.fz
      have gc3 := t3.c2
      clear t2 t2' d2 d2' F2 F2' H2 gf2 gc2 f3
      have t3' := t3.set2 (.int .i64 a)
      have d3' : DdB w.heap.size (u3.setCell ⟨wr.heap.size, 2, none⟩ (.int .i64 a)) w.heap.size l s2 := d3.set (by omega) hne _
      have F3' := F3.setCell (p := ⟨wr.heap.size, 2, none⟩) (.inr (by simp)) (.int .i64 a)
      go_wp2_with (go_at_call 41; refine (H3 _ d3').mono ?_; rintro e u4 ⟨rfl, d4, f4⟩; refine Hid.out ?_)
      refine Lib.hid ?_
      have F4 := F3'.trans f4
      have t4 := t3'.fr f4 hne
      have gf4 := t4.fz
      have gc4 := t4.c3
      clear t3 t3' d3 d3' F3 F3' H3 gf3 gc3 f4
      have t4' := t4.set3 (.int .i64 bv)
      have d4' : DdB w.heap.size (u4.setCell ⟨wr.heap.size, 3, none⟩ (.int .i64 bv)) w.heap.size l s3 := d4.set (by omega) hne _
      have F4' := F4.setCell (p := ⟨wr.heap.size, 3, none⟩) (.inr (by simp)) (.int .i64 bv)
      have ownU := rows_keep hown F4' (by omega)
      have bU : Below w.heap.size w (u4.setCell ⟨wr.heap.size, 3, none⟩ (.int .i64 bv)) := hb.trans (F4'.toBelow (by omega) (by simp))
      have zU : w.heap.size + 1 ≤ (u4.setCell ⟨wr.heap.size, 3, none⟩ (.int .i64 bv)).heap.size := by have := F4'.size; omega
      have zq : wr.heap.size < (u4.setCell ⟨wr.heap.size, 3, none⟩ (.int .i64 bv)).heap.size := some_lt t4'
      go_wp2_with fail
      clear F4 F4' d4 t4 hb hown hrd gf4 gc4
      generalize u4.setCell ⟨wr.heap.size, 3, none⟩ (.int .i64 bv) = U at *
      cases k with
      | zero =>
        have hx0 : xs = [] := List.eq_nil_of_length_eq_zero hxl
        have hnx := Lib.hid (show CameG goodH rdHd st0 (0 + 1) s3 (xs ++ [⟨nd, key, a, bv⟩]) from by
          have h := hnx0
          rw [show stH xs ⟨nd, key, a, bv⟩ s3 = s3 from by rw [hx0]; rfl] at h
          exact h)
        clear hnx0 hx0
        have hv0 := ownU
        obtain ⟨Av, cv, rfl⟩ := row_slice ownU
        go_quiet (fail)
        have own1 : (U.drewN nq).ownsRow (w.heap.size + 1) 27 4 _ 0 (hcells xs) := ownU
        have d1 : DdB w.heap.size (U.drewN nq) w.heap.size l s3 := d4'
        have t : C4 (U.drewN nq) wr.heap.size (.int .i64 nd) (.string key) (.int .i64 a) (.int .i64 bv) := t4'
        have b1 : Below w.heap.size w (U.drewN nq) := ⟨bU.os, bU.tape, bU.output, bU.size, bU.block⟩
        have z1 : w.heap.size + 1 ≤ (U.drewN nq).heap.size := zU
        clear ownU d4' t4' bU zU hv0 zq
        generalize U.drewN nq = U2 at *
        have k0 := t.c0
        have k1 := t.c1
        have k2 := t.c2
        have k3 := t.c3
        go_wp2_with (at_builtin; refine wpList_append_own _ rfl _ _ 22 rfl (w.heap.size + 1) 27 i0 (.agg #[.int .i64 0, .string ⟨#[]⟩, .int .i64 0, .int .i64 0]) 4 40 Tryz.underlying22 hi hz0 hz1 hz2 rfl (by decide) _ _ _ rfl (own1.alloc _) ⟨_, 0, none⟩ 1 1 [.int .i64 nd, .string key, .int .i64 a, .int .i64 bv] rfl rfl (cell_four_at _ _ rfl _ _ _ _ _) (by intro u hu; simp at hu; rcases hu with rfl | rfl | rfl | rfl <;> rfl) (by unfold maxLen; omega) (by omega) (by simp; omega) ?_)
        intro v' w3 hown' hgrow _
        have own3 : w3.ownsRow (w.heap.size + 1) 27 4 v' (0 + 1) (hcells (xs ++ [⟨nd, key, a, bv⟩])) := by rw [hsnoc.out]; exact hown'
        have b3 : Below w.heap.size w w3 := (b1.alloc (by omega) _).grown hgrow (by simp; omega) (fun j hj => by have := (own1.lt j hj).1; omega)
        have r3 : DdB w.heap.size w3 w.heap.size l s3 := by
          have hne2 : ∀ j, j ≤ w.heap.size → w3.heap[j]? = U2.heap[j]? := fun j hj => by
            rw [hgrow.block j (by simp; omega) (fun e => by have := (own1.lt j e.symm).1; omega), Below.heap_alloc _ _ _ (by omega)]
          exact d1.keep (hne2 _ (Nat.le_refl _)) (fun j hj => hne2 j (by omega))
        have z3 : w.heap.size + 1 ≤ w3.heap.size := by have := hgrow.size; simp at this; omega
        clear hown' hgrow own1 b1 d1 t k0 k1 k2 k3
        go_wp2_with fail
        go_roundw
        case rel => exact ⟨0 + 1, s3, xs ++ [⟨nd, key, a, bv⟩], by omega, by go_num, by simp [hxl], hnx.out, r3, own3, b3, z3⟩
        case measure => simp [intOf]; omega
      | succ m =>
        have hm : m < xs.length := by omega
        have hgl : xs.getLast? = some xs[m] := by rw [List.getLast?_eq_getElem?, hxl]; simp [hm]
        have hst' : stH xs ⟨nd, key, a, bv⟩ s3 = if ltH xs[m] ⟨nd, key, a, bv⟩ then s3 else none := by unfold stH; rw [hgl]
        rw [hst'] at hnx0
        obtain ⟨Av, cv, rfl⟩ := row_slice ownU
        have hcs := (own_cs ownU (by rw [hcells_len, hxl])).1
        obtain ⟨g, go, rfl, p0, p1, p2, p3⟩ := hds_at hcs m hm
        have HC := fun w' => ahead_any xs[m] ⟨nd, key, a, bv⟩ w'
        have hgU : g < U.heap.size := cell_lt p0
        clear hst' hgl hcs
        generalize ltH xs[m] ⟨nd, key, a, bv⟩ = lt at *
        generalize xs[m] = y at *
        obtain ⟨nd', key', a', bv'⟩ := y
        simp only [hdV] at p0 p1 p2 p3 HC
        have hlA : ∀ v w' : World, v.heap = U.heap → Below v.heap.size v w' → w'.cell? ⟨g, go + m * 4, none⟩ = some (.int .i64 nd') ∧ w'.cell? ⟨g, go + m * 4 + 1, none⟩ = some (.string key') ∧ w'.cell? ⟨g, go + m * 4 + 2, none⟩ = some (.int .i64 a') ∧ w'.cell? ⟨g, go + m * 4 + 3, none⟩ = some (.int .i64 bv') ∧ w'.cell? ⟨wr.heap.size, 0, none⟩ = some (.int .i64 nd) ∧ w'.cell? ⟨wr.heap.size, 1, none⟩ = some (.string key) ∧ w'.cell? ⟨wr.heap.size, 2, none⟩ = some (.int .i64 a) ∧ w'.cell? ⟨wr.heap.size, 3, none⟩ = some (.int .i64 bv) := by
          intro v w' hv hvb
          have kk : ∀ (bb oo : Nat) (x : Value), bb < U.heap.size → U.cell? ⟨bb, oo, none⟩ = some x → w'.cell? ⟨bb, oo, none⟩ = some x := fun bb oo x hb2 hx => by
            rw [hvb.cell (p := ⟨bb, oo, none⟩) (by rw [hv]; exact hb2), World.cell?_of_block (w := U) (by rw [hv])]; exact hx
          exact ⟨kk _ _ _ hgU p0, kk _ _ _ hgU p1, kk _ _ _ hgU p2, kk _ _ _ hgU p3, kk _ _ _ zq t4'.c0, kk _ _ _ zq t4'.c1, kk _ _ _ zq t4'.c2, kk _ _ _ zq t4'.c3⟩
        have hi0 : (0 : Int) ≤ (m : Int) := by omega
        have hi1 : (0 : Int) < (m : Int) + 1 := by omega
        have hi5 : IntKind.i64.wrap (m : Int) = (m : Int) := by simp [IntKind.wrap, IntKind.bits, IntKind.signed]; omega
        have hi6 : (m : Int) < (m : Int) + 1 := by omega
        have hi7 : (m : Int) ≤ (m : Int) + 1 := by omega
        cases lt with
        | true =>
          have hnx := Lib.hid (show CameG goodH rdHd st0 (m + 1 + 1) s3 (xs ++ [⟨nd, key, a, bv⟩]) from by simpa using hnx0)
          clear hnx0
          have HO := hlA _ _ rfl (Below.refl _ U)
          go_region_held3 (fun w' => w'.cell? ⟨g, go + m * 4, none⟩ = some (.int .i64 nd') ∧ w'.cell? ⟨g, go + m * 4 + 1, none⟩ = some (.string key') ∧ w'.cell? ⟨g, go + m * 4 + 2, none⟩ = some (.int .i64 a') ∧ w'.cell? ⟨g, go + m * 4 + 3, none⟩ = some (.int .i64 bv') ∧ w'.cell? ⟨wr.heap.size, 0, none⟩ = some (.int .i64 nd) ∧ w'.cell? ⟨wr.heap.size, 1, none⟩ = some (.string key) ∧ w'.cell? ⟨wr.heap.size, 2, none⟩ = some (.int .i64 a) ∧ w'.cell? ⟨wr.heap.size, 3, none⟩ = some (.int .i64 bv)) (first | go_keep | exact HO | exact hlA U.drew w2 rfl b2) ((go_at_call 25; refine (HC _).mono ?_; rintro e w2 ⟨rfl, b2⟩))
          have b2' : Below U.heap.size U w2 := (Below.refl _ U).drew.trans b2
          have own1 := own_keep ownU b2'
          have d1 := d4'.below (Nat.le_refl _) b2'
          have t := t4'.blk (b2'.block _ zq)
          have b1 : Below w.heap.size w w2 := bU.trans (b2'.mono (by omega))
          have z1 : w.heap.size + 1 ≤ w2.heap.size := Nat.le_trans zU b2'.size
          clear ownU d4' t4' bU zU b2 b2' HC HO hlA zq
          have k0 := t.c0
          have k1 := t.c1
          have k2 := t.c2
          have k3 := t.c3
          go_wp2_with (at_builtin; refine wpList_append_own _ rfl _ _ 22 rfl (w.heap.size + 1) 27 i0 (.agg #[.int .i64 0, .string ⟨#[]⟩, .int .i64 0, .int .i64 0]) 4 40 Tryz.underlying22 hi hz0 hz1 hz2 rfl (by decide) _ _ _ rfl (own1.alloc _) ⟨_, 0, none⟩ 1 1 [.int .i64 nd, .string key, .int .i64 a, .int .i64 bv] rfl rfl (cell_four_at _ _ rfl _ _ _ _ _) (by intro u hu; simp at hu; rcases hu with rfl | rfl | rfl | rfl <;> rfl) (by unfold maxLen; omega) (by omega) (by simp; omega) ?_)
          intro v' w3 hown' hgrow _
          have own3 : w3.ownsRow (w.heap.size + 1) 27 4 v' ((m + 1) + 1) (hcells (xs ++ [⟨nd, key, a, bv⟩])) := by rw [hsnoc.out]; exact hown'
          have b3 : Below w.heap.size w w3 := (b1.alloc (by omega) _).grown hgrow (by simp; omega) (fun j hj => by have := (own1.lt j hj).1; omega)
          have r3 : DdB w.heap.size w3 w.heap.size l s3 := by
            have hne2 : ∀ j, j ≤ w.heap.size → w3.heap[j]? = w2.heap[j]? := fun j hj => by
              rw [hgrow.block j (by simp; omega) (fun e => by have := (own1.lt j e.symm).1; omega), Below.heap_alloc _ _ _ (by omega)]
            exact d1.keep (hne2 _ (Nat.le_refl _)) (fun j hj => hne2 j (by omega))
          have z3 : w.heap.size + 1 ≤ w3.heap.size := by have := hgrow.size; simp at this; omega
          clear hown' hgrow own1 b1 d1 t k0 k1 k2 k3
          go_wp2_with fail
          go_roundw
          case rel => exact ⟨(m + 1) + 1, s3, xs ++ [⟨nd, key, a, bv⟩], by omega, by go_num, by simp [hxl], hnx.out, r3, own3, b3, z3⟩
          case measure => simp [intOf]; omega
        | false =>
          have hnx := Lib.hid (show CameG goodH rdHd st0 (m + 1 + 1) none (xs ++ [⟨nd, key, a, bv⟩]) from by simpa using hnx0)
          clear hnx0
          have HO := hlA _ _ rfl (Below.refl _ U)
          go_region_held3 (fun w' => w'.cell? ⟨g, go + m * 4, none⟩ = some (.int .i64 nd') ∧ w'.cell? ⟨g, go + m * 4 + 1, none⟩ = some (.string key') ∧ w'.cell? ⟨g, go + m * 4 + 2, none⟩ = some (.int .i64 a') ∧ w'.cell? ⟨g, go + m * 4 + 3, none⟩ = some (.int .i64 bv') ∧ w'.cell? ⟨wr.heap.size, 0, none⟩ = some (.int .i64 nd) ∧ w'.cell? ⟨wr.heap.size, 1, none⟩ = some (.string key) ∧ w'.cell? ⟨wr.heap.size, 2, none⟩ = some (.int .i64 a) ∧ w'.cell? ⟨wr.heap.size, 3, none⟩ = some (.int .i64 bv)) (first | go_keep | exact HO | exact hlA U.drew w2 rfl b2) ((go_at_call 25; refine (HC _).mono ?_; rintro e w2 ⟨rfl, b2⟩))
          have b2' : Below U.heap.size U w2 := (Below.refl _ U).drew.trans b2
          have ownV := own_keep ownU b2'
          have dV := d4'.below (Nat.le_refl _) b2'
          have tV := t4'.blk (b2'.block _ zq)
          have bV : Below w.heap.size w w2 := bU.trans (b2'.mono (by omega))
          have zV : w.heap.size + 1 ≤ w2.heap.size := Nat.le_trans zU b2'.size
          clear ownU d4' t4' bU zU b2 b2' HC HO hlA zq
          obtain ⟨p5, c5, a5, bad5, hd5, hl5, hN5, hlc5, hcm5, hlen5, hal5, -⟩ := dV
          have g5f := hd5.fz
          have g52 := hd5.c2
          have d1 : DdB w.heap.size (w2.setCell ⟨w.heap.size, 2, none⟩ (.bool true)) w.heap.size l none := ⟨p5, c5, a5, true, hd5.set2 true, hl5.blocks (fun x hx hne5 => Below.heap_setCell _ _ _ _ (by have := hN5 x hx hne5; simp; omega)), hN5, hlc5, hcm5, hlen5, hal5, .inl ⟨rfl, rfl⟩⟩
          have own1 := rows_keep ownV ((Fr.refl [w.heap.size] w2).setCell (p := ⟨w.heap.size, 2, none⟩) (by simp) (.bool true)) (by omega)
          have t := tV.blk (w' := w2.setCell ⟨w.heap.size, 2, none⟩ (.bool true)) (Below.heap_setCell _ _ _ _ (by simpa using hne))
          have b1 : Below w.heap.size w (w2.setCell ⟨w.heap.size, 2, none⟩ (.bool true)) := bV.setCell (by simp) _
          have z1 : w.heap.size + 1 ≤ (w2.setCell ⟨w.heap.size, 2, none⟩ (.bool true)).heap.size := by simpa using zV
          clear ownV tV bV zV hl5 hN5
          have k0 := t.c0
          have k1 := t.c1
          have k2 := t.c2
          have k3 := t.c3
          go_wp2_with (at_builtin; refine Hid.out ?_)
          refine Lib.hid ?_
          have hVs : w2.heap.size = (w2.setCell ⟨w.heap.size, 2, none⟩ (.bool true)).heap.size := by simp
          generalize w2.setCell ⟨w.heap.size, 2, none⟩ (.bool true) = V at *
          refine wpList_append_own _ rfl _ _ 22 rfl (w.heap.size + 1) 27 i0 (.agg #[.int .i64 0, .string ⟨#[]⟩, .int .i64 0, .int .i64 0]) 4 40 Tryz.underlying22 hi hz0 hz1 hz2 rfl (by decide) _ _ _ rfl (own1.alloc _) ⟨_, 0, none⟩ 1 1 [.int .i64 nd, .string key, .int .i64 a, .int .i64 bv] rfl rfl (cell_four_at _ _ hVs _ _ _ _ _) (by intro u hu; simp at hu; rcases hu with rfl | rfl | rfl | rfl <;> rfl) (by unfold maxLen; omega) (by omega) (by simp; omega) ?_
          intro v' w3 hown' hgrow _
          have own3 : w3.ownsRow (w.heap.size + 1) 27 4 v' ((m + 1) + 1) (hcells (xs ++ [⟨nd, key, a, bv⟩])) := by rw [hsnoc.out]; exact hown'
          have b3 : Below w.heap.size w w3 := (b1.alloc (by omega) _).grown hgrow (by simp; omega) (fun j hj => by have := (own1.lt j hj).1; omega)
          have r3 : DdB w.heap.size w3 w.heap.size l none := by
            have hne2 : ∀ j, j ≤ w.heap.size → w3.heap[j]? = V.heap[j]? := fun j hj => by
              rw [hgrow.block j (by simp; omega) (fun e => by have := (own1.lt j e.symm).1; omega), Below.heap_alloc _ _ _ (by omega)]
            exact d1.keep (hne2 _ (Nat.le_refl _)) (fun j hj => hne2 j (by omega))
          have z3 : w.heap.size + 1 ≤ w3.heap.size := by have := hgrow.size; simp at this; omega
          clear hown' hgrow own1 b1 d1 t k0 k1 k2 k3
          go_wp2_with fail
          go_roundw
          case rel => exact ⟨(m + 1) + 1, none, xs ++ [⟨nd, key, a, bv⟩], by omega, by go_num, by simp [hxl], hnx.out, r3, own3, b3, z3⟩
          case measure => simp [intOf]; omega
    · cases bad with
      | true =>
        have hs : st = none := by
          rcases hst with ⟨h, -⟩ | ⟨-, h⟩
          · exact h
          · cases h
        subst hs
        have hfar := CameG.far goodH_pre (ys := xs) (n - k) k hcame
        rw [show k + (n - k) = n from by omega] at hfar
        have hno := (HA.out none xs hfar).2 (by simp)
        have HX' := Lib.hid (fun w' => HX.out w' hno)
        clear HA HX HY HZ hcame hfar hno hst hl' hrd
        by_cases hlt : (k : Int) < (n : Int)
        · go_wp2_with fail
          go_ret2
          exact HX'.out _ hb
        · go_wp2_with fail
          go_ret2
          exact HX'.out _ hb
      | false =>
        have hkn : k = n := by
          rcases Nat.lt_or_ge k n with h | h
          · exact absurd ⟨h, rfl⟩ hgo
          · omega
        have hs : st = some (l.drop a9) := by
          rcases hst with ⟨-, h⟩ | ⟨h, -⟩
          · cases h
          · exact h
        subst hs
        rw [hkn] at hcame
        have hall := HA.out _ xs hcame
        have hlt : ¬ (k : Int) < (n : Int) := by omega
        by_cases hend : a9 = l.length
        · have hy := hall.1 (by rw [hend, List.drop_length])
          have hown2 := hown.mono (base' := w.heap.size) (by omega)
          rw [← hxl] at hown2
          have HY' := Lib.hid (HY.out xs _ wr hy.1 hy.2 hown2 hb)
          have hend' : (a9 : Int) = (l.length : Int) := by omega
          clear HA HX HY HZ hcame hall hy hst hl' hrd hend hgo hkn
          go_wp2_with fail
          go_ret2
          exact HY'.out
        · have hno := hall.2 (by
            intro e
            injection e with e
            have := congrArg List.length e
            simp at this
            omega)
          have HX' := Lib.hid (fun w' => HX.out w' hno)
          have hend' : ¬ (a9 : Int) = (l.length : Int) := by omega
          clear HA HX HY HZ hcame hall hno hst hl' hrd hend hgo hkn
          go_wp2_with fail
          go_ret2
          exact HX'.out _ hb
end Go.Proofs.YtbppiiomjmpjkabGreatDoor
