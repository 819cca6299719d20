/- The document's side: records read. -/
import Derived.Test.YtbppiiomjmpjkaaDoorGc
import Derived.Test.YtbppiiomjmpjkaaDoorFn
namespace Go.Proofs.YtbppiiomjmpjkaaDoor
open Go.RowKit

/-- A block of a record. -/
def C3 (w : World) (q : Nat) (a b c : Value) : Prop := w.heap[q]? = some (.cells #[a, b, c] 53)
theorem C3.c0 {w : World} {q : Nat} {a b c : Value} (h : C3 w q a b c) : w.cell? ⟨q, 0, none⟩ = some a := by unfold C3 at h; simp [World.cell?, h]
theorem C3.c1 {w : World} {q : Nat} {a b c : Value} (h : C3 w q a b c) : w.cell? ⟨q, 1, none⟩ = some b := by unfold C3 at h; simp [World.cell?, h]
theorem C3.c2 {w : World} {q : Nat} {a b c : Value} (h : C3 w q a b c) : w.cell? ⟨q, 2, none⟩ = some c := by unfold C3 at h; simp [World.cell?, h]
theorem C3.fz {w : World} {q : Nat} {a b c : Value} (h : C3 w q a b c) (o : Nat) : w.frozen? ⟨q, o, none⟩ = false := by unfold C3 at h; simp [World.frozen?, h]
theorem C3.set0 {w : World} {q : Nat} {a b c : Value} (h : C3 w q a b c) (x : Value) : C3 (w.setCell ⟨q, 0, none⟩ x) q x b c := by
  unfold C3 at h ⊢; simp [World.setCell, Array.getElem?_modify, h]
theorem C3.set1 {w : World} {q : Nat} {a b c : Value} (h : C3 w q a b c) (x : Value) : C3 (w.setCell ⟨q, 1, none⟩ x) q a x c := by
  unfold C3 at h ⊢; simp [World.setCell, Array.getElem?_modify, h]
theorem C3.set2 {w : World} {q : Nat} {a b c : Value} (h : C3 w q a b c) (x : Value) : C3 (w.setCell ⟨q, 2, none⟩ x) q a b x := by
  unfold C3 at h ⊢; simp [World.setCell, Array.getElem?_modify, h]
theorem C3.fr {w w' : World} {q R : Nat} {a b c : Value} (h : C3 w q a b c) (f : Fr [R] w w') (hne : q ≠ R) : C3 w' q a b c := by
  unfold C3 at h ⊢; rw [f.block _ (some_lt h) (by simpa using hne)]; exact h
theorem DdB.set {N : Nat} {w : World} {R q o : Nat} {l : List UInt8} {st : St} (h : DdB N w R l st) (hN : N ≤ q) (hR : q ≠ R) (x : Value) : DdB N (w.setCell ⟨q, o, none⟩ x) R l st :=
  h.keep (Below.heap_setCell _ _ _ _ (by simpa using hR.symm)) (fun k hk => Below.heap_setCell _ _ _ _ (by simp; omega))
theorem DdB.alloc {N : Nat} {w : World} {R : Nat} {l : List UInt8} {st : St} (h : DdB N w R l st) (hNR : N ≤ R) (o : Obj) : DdB N (w.alloc o) R l st :=
  h.keep (Below.heap_alloc _ _ _ h.lt) (fun k hk => Below.heap_alloc _ _ _ (by have := h.lt; omega))

def goodR (xs : List Rc) : Prop := xs.any badRc = false
theorem goodR_pre (xs : List Rc) (x : Rc) (h : goodR (xs ++ [x])) : goodR xs := by
  unfold goodR at *; rw [List.any_append] at h; simp at h; simpa using h.1
theorem goodR_snoc {xs : List Rc} {x : Rc} : goodR (xs ++ [x]) ↔ goodR xs ∧ badRc x = false := by
  unfold goodR; rw [List.any_append]; simp
theorem nextR {l : St} {i : Nat} {q : List UInt8} {xs : List Rc} (h : CameG goodR rdRc l i (some q) xs) : CameG goodR rdRc l (i + 1) (nRcS (some q)).2 (xs ++ [(nRcS (some q)).1]) := by
  have hgood : goodR xs := by obtain ⟨r, -, -, h⟩ := h; exact h
  refine h.next _ _ ?_ ?_
  · intro q' hq'
    cases hr : rdRc q with
    | none =>
      have := nRcS_no q (by intro r q2 e; rw [hr] at e; cases e)
      rw [this] at hq'; cases hq'
    | some p =>
      obtain ⟨r, q2⟩ := p
      cases hb : badRc r with
      | true =>
        have := nRcS_no q (by intro r' q3 e; rw [hr] at e; injection e with e; injection e with e1 e2; rw [← e1]; exact hb)
        rw [this] at hq'; cases hq'
      | false =>
        have := nRcS_yes q r q2 hr hb
        rw [this] at hq' ⊢
        injection hq' with hq'
        subst hq'
        exact ⟨rfl, goodR_snoc.2 ⟨hgood, hb⟩⟩
  · intro hn y q' hy hg
    have hb := (goodR_snoc.1 hg).2
    have := nRcS_yes q y q' hy hb
    rw [this] at hn; cases hn
theorem readR_yes {l : List UInt8} {xs : List Rc} (h : rdAll rdRc l = some xs) (hg : goodR xs) : readRcs l = some xs := by
  rw [read_rc h, if_pos]
  have h4 := (rdAll_some (Ok := OkRc) (g := rcB) (fun x l q h => rdRc_some h) h).2.2
  unfold recsE
  rw [if_neg (by omega), hg]; rfl
theorem readR_no {l : List UInt8} (h : ∀ ys, rdAll rdRc l = some ys → ¬ goodR ys) : readRcs l = none := by
  cases hr : rdAll rdRc l with
  | none => exact read_none hr
  | some xs =>
    rw [read_rc hr, if_neg]
    intro he
    refine h xs hr ?_
    unfold recsE at he
    split at he
    · cases he
    · split at he
      · cases he
      · rename_i hx; exact Bool.eq_false_iff.2 hx

theorem cell_three_at (w : World) (q : Nat) (hq : q = w.heap.size) (a b c : Value) (t : TypeId) : ∀ j u, [a, b, c][j]? = some u → (w.alloc (.cells #[a, b, c] t)).cell? ((⟨q, 0, none⟩ : Addr).add j) = some u := by
  subst hq; exact cell_three_new w a b c t
/-- How the document's ReadRecords ends. -/
def SrEnd (w : World) (r : Option (List Rc)) (e : Ending) (w' : World) : Prop :=
  (match r with
   | none => e = .returned (.tuple #[.slice none 0 0, .bool false])
   | some xs => ∃ v, e = .returned (.tuple #[v, .bool true]) ∧ w'.ownsRow w.heap.size 53 3 v xs.length (rcells xs)) ∧ Below w.heap.size w w'

set_option maxRecDepth 100000 in
set_option maxHeartbeats 1000000 in
theorem sreadRecs_any (w : World) (p : Option Addr) (c : Nat) (l : List UInt8) (hl : BsAt w p l) (hlen : l.length ≤ 140737488355328) (hcap : l.length ≤ c) (hcm : c ≤ 9223372036854775807) :
    Calls Tryd.prog 8 #[.slice p l.length c] w fun e w' => SrEnd w (readRcs l) e w' := by
  obtain ⟨i0, hi, hz0, hz1, hz2⟩ := info_parts infoRc
  have hbd := nU_bd 400 (some l) (by omega)
  have hR0 : DdB w.heap.size (w.alloc (.cells #[.slice p l.length c, .int .i64 0, .bool false] 62)) w.heap.size l (some l) := by
    refine ⟨p, c, 0, false, ?_, hl.keep ((Below.refl _ _).alloc (Nat.le_refl _) _), ?_, hcap, hcm, hlen, by omega, .inr ⟨rfl, rfl⟩⟩
    · unfold Db; show (w.heap.push _)[w.heap.size]? = _; simp
    · intro a ha hne
      obtain ⟨b, o, h1, h2⟩ := hl.lt hne
      rw [h1] at ha; simp at ha; subst ha; exact h2
  have HM := dupto_any w.heap.size w.heap.size _ l _ 400 (by omega) hR0 (Nat.le_refl _)
  have hB1 : (w.alloc (.cells #[.slice p l.length c, .int .i64 0, .bool false] 62)).heap.size = w.heap.size + 1 := by simp
  have hbA : Below w.heap.size w (w.alloc (.cells #[.slice p l.length c, .int .i64 0, .bool false] 62)) := (Below.refl _ _).alloc (by omega) _
  have HA := Lib.hid (fun st xs (h : CameG goodR rdRc (nU 400 (some l)).2 (nU 400 (some l)).1.toNat st xs) => h.all)
  have HZ := Lib.hid (CameG.zero (good := goodR) rdRc (nU 400 (some l)).2 rfl)
  generalize (nU 400 (some l)).2 = st0 at *
  obtain ⟨n, hn⟩ : ∃ n : Nat, (nU 400 (some l)).1 = (n : Int) := ⟨(nU 400 (some l)).1.toNat, by omega⟩
  rw [hn] at HM HA hbd
  have hn4 : n ≤ 400 := by omega
  rw [Int.toNat_natCast] at HA
  have HY : Hid (∀ xs v w', rdAll rdRc l = some xs → goodR xs → w'.ownsRow w.heap.size 53 3 v xs.length (rcells xs) → Below w.heap.size w w' → SrEnd w (readRcs l) (.returned (.tuple #[v, .bool true])) w') := Lib.hid (fun xs v w' h1 h2 h3 h4 => by rw [readR_yes h1 h2]; exact ⟨⟨v, rfl, h3⟩, h4⟩)
  have HX : Hid (∀ w', (∀ ys, rdAll rdRc l = some ys → ¬ goodR ys) → Below w.heap.size w w' → SrEnd w (readRcs l) (.returned (.tuple #[.slice none 0 0, .bool false])) w') := Lib.hid (fun w' h1 h4 => by rw [readR_no h1]; exact ⟨rfl, h4⟩)
  clear hn hbd hR0 hl
  go_enter Tryd.func8, Tryd.ntmps8
  go_wp2_with (go_at_call 26; refine HM.mono ?_; rintro e w1 ⟨rfl, r1, f1⟩; refine Hid.out ?_)
  refine Lib.hid ?_
  have b1 : Below w.heap.size w w1 := hbA.trans (f1.toBelow (by omega) (by simp))
  have z1 : w.heap.size + 1 ≤ w1.heap.size := by have := f1.size; omega
  clear HM f1 hbA hB1
  go_wp2_with fail
  go_loopw [6, 7] (fun v i wr => ∃ (k : Nat) (st : St) (xs : List Rc), k ≤ n ∧ i = .int .i64 k ∧ xs.length = k ∧ CameG goodR rdRc st0 k st xs ∧ DdB w.heap.size wr w.heap.size l st ∧ wr.ownsRow (w.heap.size + 1) 53 3 v k (rcells xs) ∧ Below w.heap.size w wr ∧ w.heap.size + 1 ≤ wr.heap.size) (fun _ i _ => n - (intOf i).toNat)
  case atStart => exact ⟨0, st0, [], by omega, rfl, rfl, HZ.out, r1, World.ownsRow_nil _ _ _ _, b1, z1⟩
  case round =>
    obtain ⟨k, st, xs, hk, rfl, hxl, hcame, hrd, hown, hb, hz⟩ := hrel
    clear b1 z1 r1
    have hrd' := hrd
    obtain ⟨p', c', a, bad, hd, hl', hN', hlc', hcm', hlen', hal, hst⟩ := hrd'
    have g2 := hd.c2
    have g1 := hd.c1
    by_cases hgo : k < n ∧ bad = false
    · obtain ⟨hlt, rfl⟩ := hgo
      obtain ⟨q, rfl⟩ : ∃ q, st = some q := by
        rcases hst with ⟨-, h⟩ | ⟨h, -⟩
        · cases h
        · exact ⟨_, h⟩
      clear hl' hN' hst hal hlc' hcm' hlen' hd g1
      have hnx := Lib.hid (nextR hcame)
      obtain ⟨key, s1, e1⟩ : ∃ k s1, nX 40 (some q) = (k, s1) := ⟨_, _, rfl⟩
      obtain ⟨num, s2, e2⟩ : ∃ n s2, nI s1 = (n, s2) := ⟨_, _, rfl⟩
      obtain ⟨time, s3, e3⟩ : ∃ t s3, nU 1000000 s2 = (t, s3) := ⟨_, _, rfl⟩
      have er : nRcS (some q) = (⟨key, num, time⟩, s3) := by unfold nRcS; rw [e1]; simp only; rw [e2]; simp only; rw [e3]
      rw [er] at hnx
      simp only at hnx
      have HT := fun (u : World) (hu : DdB w.heap.size u w.heap.size l (some q)) => dtext_any _ _ u l _ 40 (by omega) hu (Nat.le_refl _)
      have H1 := fun (u : World) (hu : DdB w.heap.size u w.heap.size l s1) => dnum_any _ _ u l s1 hu (Nat.le_refl _)
      have H2 := fun (u : World) (hu : DdB w.heap.size u w.heap.size l s2) => dupto_any _ _ u l s2 1000000 (by omega) hu (Nat.le_refl _)
      rw [e1] at HT
      rw [e2] at H1
      rw [e3] at H2
      simp only at HT H1 H2
      clear e1 e2 e3 er hcame
      have d0 := hrd.alloc (Nat.le_refl _) (.cells #[.string ⟨#[]⟩, .int .i64 0, .int .i64 0] 53)
      have F0 := (Fr.refl [w.heap.size] wr).alloc (.cells #[.string ⟨#[]⟩, .int .i64 0, .int .i64 0] 53)
      have t0 : C3 (wr.alloc (.cells #[.string ⟨#[]⟩, .int .i64 0, .int .i64 0] 53)) wr.heap.size (.string ⟨#[]⟩) (.int .i64 0) (.int .i64 0) := by
        unfold C3; show (wr.heap.push _)[wr.heap.size]? = _; simp
      have hne : wr.heap.size ≠ w.heap.size := by omega
      have hsnoc := Lib.hid (show rcells (xs ++ [⟨key, num, time⟩]) = rcells xs ++ [.string key, .int .i64 num, .int .i64 time] from by rw [rcells_append]; rfl)
      go_wp2_with (go_at_call 27; refine (HT _ d0).mono ?_; rintro e u1 ⟨rfl, d1, f1⟩; refine Hid.out ?_)
      refine Lib.hid ?_
      have F1 := F0.trans f1
      have t1 := t0.fr f1 hne
      have gf1 := t1.fz
      have gc1 := t1.c0
      clear t0 d0 F0 f1 HT g2
      have t1' := t1.set0 (.string key)
      have d1' : DdB w.heap.size (u1.setCell ⟨wr.heap.size, 0, none⟩ (.string key)) w.heap.size l s1 := d1.set (by omega) hne _
      have F1' := F1.setCell (p := ⟨wr.heap.size, 0, none⟩) (.inr (by simp)) (.string key)
      go_wp2_with (go_at_call 28; refine (H1 _ d1').mono ?_; rintro e u2 ⟨rfl, d2, f2⟩; refine Hid.out ?_)
      refine Lib.hid ?_
      have F2 := F1'.trans (f2.more (fun _ _ h => h))
      have t2 := t1'.fr f2 hne
      have gf2 := t2.fz
      have gc2 := t2.c1
      clear t1 t1' d1 d1' F1 F1' f2 H1 gf1 gc1
      have t2' := t2.set1 (.int .i64 num)
      have d2' : DdB w.heap.size (u2.setCell ⟨wr.heap.size, 1, none⟩ (.int .i64 num)) w.heap.size l s2 := d2.set (by omega) hne _
      have F2' := F2.setCell (p := ⟨wr.heap.size, 1, none⟩) (.inr (by simp)) (.int .i64 num)
      go_wp2_with (go_at_call 26; refine (H2 _ d2').mono ?_; rintro e u3 ⟨rfl, d3, f3⟩; refine Hid.out ?_)
      refine Lib.hid ?_
      have F3 := F2'.trans f3
      have t3 := t2'.fr f3 hne
      have gf3 := t3.fz
      have gc3 := t3.c2
      clear t2 t2' d2 d2' F2 F2' f3 H2 gf2 gc2
      have t3' := t3.set2 (.int .i64 time)
      have d3' : DdB w.heap.size (u3.setCell ⟨wr.heap.size, 2, none⟩ (.int .i64 time)) w.heap.size l s3 := d3.set (by omega) hne _
      have F3' := F3.setCell (p := ⟨wr.heap.size, 2, none⟩) (.inr (by simp)) (.int .i64 time)
      have k0 := t3.c0
      have k1 := t3.c1
      have own1 := rows_keep hown F3' (by omega)
      have b1 : Below w.heap.size w (u3.setCell ⟨wr.heap.size, 2, none⟩ (.int .i64 time)) := hb.trans (F3'.toBelow (by omega) (by simp))
      have z1 : w.heap.size + 1 ≤ (u3.setCell ⟨wr.heap.size, 2, none⟩ (.int .i64 time)).heap.size := by have := F3'.size; omega
      clear F3 d3 hb hown hrd
      go_wp2_with (at_builtin; refine Hid.out ?_)
      refine Lib.hid ?_
      refine wpList_append_own _ rfl _ _ 22 rfl (w.heap.size + 1) 53 i0 (.agg #[.string ⟨#[]⟩, .int .i64 0, .int .i64 0]) 3 32 Tryd.underlying22 hi hz0 hz1 hz2 rfl (by decide) _ _ _ rfl (own1.alloc _) ⟨_, 0, none⟩ 1 1 [.string key, .int .i64 num, .int .i64 time] rfl rfl (cell_three_at _ _ (by simp) _ _ _ _) (by intro u hu; simp at hu; rcases hu with rfl | rfl | rfl <;> rfl) (by unfold maxLen; omega) (by omega) (by simp; simp at z1; omega) ?_
      intro v' w3 hown' hgrow _
      have own3 : w3.ownsRow (w.heap.size + 1) 53 3 v' (k + 1) (rcells (xs ++ [⟨key, num, time⟩])) := by rw [hsnoc.out]; exact hown'
      generalize u3.setCell ⟨wr.heap.size, 2, none⟩ (.int .i64 time) = U at *
      have b3 : Below w.heap.size w w3 := (b1.alloc (by omega) _).grown hgrow (by simp; omega) (fun j hj => by have := (own1.lt j hj).1; omega)
      have r3 : DdB w.heap.size w3 w.heap.size l s3 := by
        have hne2 : ∀ j, j ≤ w.heap.size → w3.heap[j]? = U.heap[j]? := fun j hj => by
          rw [hgrow.block j (by simp; omega) (fun e => by have := (own1.lt j e.symm).1; omega), Below.heap_alloc _ _ _ (by omega)]
        exact d3'.keep (hne2 _ (Nat.le_refl _)) (fun j hj => hne2 j (by omega))
      have z3 : w.heap.size + 1 ≤ w3.heap.size := by have := hgrow.size; simp at this; omega
      clear hown' hgrow own1 b1 d3' t3 t3' gf3 gc3 k0 k1
      go_wp2_with fail
      go_roundw
      case rel => exact ⟨k + 1, s3, xs ++ [⟨key, num, time⟩], by omega, by go_num, by simp [hxl], hnx.out, r3, own3, b3, z3⟩
      case measure => simp [intOf]; omega
    · cases bad with
      | true =>
        have hs : st = none := by
          rcases hst with ⟨h, -⟩ | ⟨-, h⟩
          · exact h
          · cases h
        subst hs
        have hfar := CameG.far goodR_pre (ys := xs) (n - k) k hcame
        rw [show k + (n - k) = n from by omega] at hfar
        have hno := (HA.out none xs hfar).2 (by simp)
        have HX' := Lib.hid (fun w' => HX.out w' hno)
        clear HA HX HY HZ hcame hfar hno hst hl' hrd
        by_cases hlt : (k : Int) < (n : Int)
        · go_wp2_with fail
          go_ret2
          exact HX'.out _ hb
        · go_wp2_with fail
          go_ret2
          exact HX'.out _ hb
      | false =>
        have hkn : k = n := by
          rcases Nat.lt_or_ge k n with h | h
          · exact absurd ⟨h, rfl⟩ hgo
          · omega
        have hs : st = some (l.drop a) := by
          rcases hst with ⟨-, h⟩ | ⟨h, -⟩
          · cases h
          · exact h
        subst hs
        rw [hkn] at hcame
        have hall := HA.out _ xs hcame
        have hlt : ¬ (k : Int) < (n : Int) := by omega
        by_cases hend : a = l.length
        · have hy := hall.1 (by rw [hend, List.drop_length])
          have hown2 := hown.mono (base' := w.heap.size) (by omega)
          rw [← hxl] at hown2
          have HY' := Lib.hid (HY.out xs _ wr hy.1 hy.2 hown2 hb)
          have hend' : (a : Int) = (l.length : Int) := by omega
          clear HA HX HY HZ hcame hall hy hst hl' hrd hend hgo hkn
          go_wp2_with fail
          go_ret2
          exact HY'.out
        · have hno := hall.2 (by
            intro e
            injection e with e
            have := congrArg List.length e
            simp at this
            omega)
          have HX' := Lib.hid (fun w' => HX.out w' hno)
          have hend' : ¬ (a : Int) = (l.length : Int) := by omega
          clear HA HX HY HZ hcame hall hno hst hl' hrd hend hgo hkn
          go_wp2_with fail
          go_ret2
          exact HX'.out _ hb
end Go.Proofs.YtbppiiomjmpjkaaDoor
