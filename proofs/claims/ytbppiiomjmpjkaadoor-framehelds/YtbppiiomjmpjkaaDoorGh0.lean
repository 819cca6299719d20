/- The document's side: states read. -/
import Derived.Test.YtbppiiomjmpjkaaDoorGg
import Derived.Test.YtbppiiomjmpjkaaDoorFt
namespace Go.Proofs.YtbppiiomjmpjkaaDoor
open Go.RowKit

/-- A block of a state. -/
def C4 (w : World) (q : Nat) (a b c d : Value) : Prop := w.heap[q]? = some (.cells #[a, b, c, d] 72)
theorem C4.c0 {w : World} {q : Nat} {a b c d : Value} (h : C4 w q a b c d) : w.cell? ⟨q, 0, none⟩ = some a := by unfold C4 at h; simp [World.cell?, h]
theorem C4.c1 {w : World} {q : Nat} {a b c d : Value} (h : C4 w q a b c d) : w.cell? ⟨q, 1, none⟩ = some b := by unfold C4 at h; simp [World.cell?, h]
theorem C4.c2 {w : World} {q : Nat} {a b c d : Value} (h : C4 w q a b c d) : w.cell? ⟨q, 2, none⟩ = some c := by unfold C4 at h; simp [World.cell?, h]
theorem C4.c3 {w : World} {q : Nat} {a b c d : Value} (h : C4 w q a b c d) : w.cell? ⟨q, 3, none⟩ = some d := by unfold C4 at h; simp [World.cell?, h]
theorem C4.fz {w : World} {q : Nat} {a b c d : Value} (h : C4 w q a b c d) (o : Nat) : w.frozen? ⟨q, o, none⟩ = false := by unfold C4 at h; simp [World.frozen?, h]
theorem C4.set0 {w : World} {q : Nat} {a b c d : Value} (h : C4 w q a b c d) (x : Value) : C4 (w.setCell ⟨q, 0, none⟩ x) q x b c d := by
  unfold C4 at h ⊢; simp [World.setCell, Array.getElem?_modify, h]
theorem C4.set1 {w : World} {q : Nat} {a b c d : Value} (h : C4 w q a b c d) (x : Value) : C4 (w.setCell ⟨q, 1, none⟩ x) q a x c d := by
  unfold C4 at h ⊢; simp [World.setCell, Array.getElem?_modify, h]
theorem C4.set2 {w : World} {q : Nat} {a b c d : Value} (h : C4 w q a b c d) (x : Value) : C4 (w.setCell ⟨q, 2, none⟩ x) q a b x d := by
  unfold C4 at h ⊢; simp [World.setCell, Array.getElem?_modify, h]
theorem C4.set3 {w : World} {q : Nat} {a b c d : Value} (h : C4 w q a b c d) (x : Value) : C4 (w.setCell ⟨q, 3, none⟩ x) q a b c x := by
  unfold C4 at h ⊢; simp [World.setCell, Array.getElem?_modify, h]
theorem C4.blk {w w' : World} {q : Nat} {a b c d : Value} (h : C4 w q a b c d) (e : w'.heap[q]? = w.heap[q]?) : C4 w' q a b c d := by
  unfold C4 at h ⊢; rw [e]; exact h
theorem C4.fr {w w' : World} {q R : Nat} {a b c d : Value} (h : C4 w q a b c d) (f : Fr [R] w w') (hne : q ≠ R) : C4 w' q a b c d :=
  h.blk (f.block _ (some_lt h) (by simpa using hne))
theorem DdB.below {N : Nat} {w w' : World} {R : Nat} {l : List UInt8} {st : St} (h : DdB N w R l st) (hNR : N ≤ R) (hb : Below w.heap.size w w') : DdB N w' R l st :=
  h.keep (hb.block _ h.lt) (fun k hk => hb.block _ (by have := h.lt; omega))

def goodH (xs : List Hd) : Prop := hdsE ltH none xs = 0
def lastP (p : Option Hd) (xs : List Hd) : Option Hd := match xs.getLast? with
  | some q => some q
  | none => p
theorem lastP_cons (p : Option Hd) (x : Hd) (xs : List Hd) : lastP (some x) xs = lastP p (x :: xs) := by
  unfold lastP
  cases xs with
  | nil => rfl
  | cons y ys =>
    obtain ⟨z, hz⟩ : ∃ z, (y :: ys).getLast? = some z := ⟨_, List.getLast?_eq_some_getLast (by simp)⟩
    rw [List.getLast?_cons_cons, hz]
theorem hdsE_app : ∀ (xs : List Hd) (p : Option Hd) (x : Hd), hdsE ltH p (xs ++ [x]) = 0 ↔ hdsE ltH p xs = 0 ∧ badHd x = false ∧ (∀ q, lastP p xs = some q → ltH q x = true)
  | [], p, x => by
    have e : hdsE ltH p [] = 0 := by cases p <;> rfl
    have el : lastP p [] = p := rfl
    rw [List.nil_append, el]
    cases p with
    | none =>
      rw [hdsE_n]
      cases hb : badHd x with
      | true => simp
      | false => simp [e]; rfl
    | some q =>
      rw [hdsE_s]
      cases hb : badHd x with
      | true => simp
      | false =>
        cases hl : ltH q x with
        | true => simp [e, hl]; rfl
        | false => simp [hl]
  | y :: xs, p, x => by
    have ih := hdsE_app xs (some y) x
    rw [List.cons_append, ← lastP_cons p y xs]
    cases p with
    | none =>
      rw [hdsE_n, hdsE_n]
      cases hb : badHd y with
      | true => simp
      | false => simpa using ih
    | some q =>
      rw [hdsE_s, hdsE_s]
      cases hb : badHd y with
      | true => simp
      | false =>
        cases hl : ltH q y with
        | true => simpa using ih
        | false => simp
theorem goodH_pre (xs : List Hd) (x : Hd) (h : goodH (xs ++ [x])) : goodH xs := ((hdsE_app xs none x).1 h).1
/-- The state behind the look at the order. -/
def stH (xs : List Hd) (x : Hd) (s : St) : St := match xs.getLast? with
  | none => s
  | some q => if ltH q x then s else none
theorem nextH {l : St} {i : Nat} {q : List UInt8} {xs : List Hd} (h : CameG goodH rdHd l i (some q) xs) : CameG goodH rdHd l (i + 1) (stH xs (nHdS (some q)).1 (nHdS (some q)).2) (xs ++ [(nHdS (some q)).1]) := by
  have hgood : goodH xs := by obtain ⟨r, -, -, h⟩ := h; exact h
  have hlp : ∀ y, lastP none xs = some y ↔ xs.getLast? = some y := by
    intro y; unfold lastP; cases xs.getLast? <;> simp
  refine h.next _ _ ?_ ?_
  · intro q' hq'
    have hs : (nHdS (some q)).2 = some q' ∧ (∀ y, xs.getLast? = some y → ltH y (nHdS (some q)).1 = true) := by
      unfold stH at hq'
      cases hl : xs.getLast? with
      | none => rw [hl] at hq'; exact ⟨hq', fun y e => by cases e⟩
      | some y =>
        rw [hl] at hq'
        simp only at hq'
        split at hq'
        · rename_i ht; exact ⟨hq', fun z e => by injection e with e; subst e; exact ht⟩
        · cases hq'
    cases hr : rdHd q with
    | none =>
      have := nHdS_no q (by intro r q2 e; rw [hr] at e; cases e)
      rw [this] at hs; cases hs.1
    | some pr =>
      obtain ⟨r, q2⟩ := pr
      cases hb : badHd r with
      | true =>
        have := nHdS_no q (by intro r' q3 e; rw [hr] at e; injection e with e; injection e with e1 e2; rw [← e1]; exact hb)
        rw [this] at hs; cases hs.1
      | false =>
        have e := nHdS_yes q r q2 hr hb
        rw [e] at hs ⊢
        obtain ⟨h1, h2⟩ := hs
        injection h1 with h1
        subst h1
        exact ⟨rfl, (hdsE_app xs none r).2 ⟨hgood, hb, fun y hy => h2 y ((hlp y).1 hy)⟩⟩
  · intro hn y q' hy hg
    obtain ⟨-, hb, ho⟩ := (hdsE_app xs none y).1 hg
    have e := nHdS_yes q y q' hy hb
    rw [e] at hn
    unfold stH at hn
    cases hl : xs.getLast? with
    | none => rw [hl] at hn; cases hn
    | some z =>
      rw [hl] at hn
      simp only at hn
      rw [if_pos (ho z ((hlp z).2 hl))] at hn
      cases hn
theorem readH_yes {l : List UInt8} {xs : List Hd} (h : rdAll rdHd l = some xs) (hg : goodH xs) : readHds ltH l = some xs := by
  rw [read_hd h, if_pos]
  have h4 := (rdAll_some (Ok := OkHd) (g := hdB) (fun x l q h => rdHd_some h) h).2.2
  unfold heldsE
  rw [if_neg (by omega)]; exact hg
theorem readH_no {l : List UInt8} (h : ∀ ys, rdAll rdHd l = some ys → ¬ goodH ys) : readHds ltH l = none := by
  cases hr : rdAll rdHd l with
  | none => exact read_hnone hr
  | some xs =>
    rw [read_hd hr, if_neg]
    intro he
    refine h xs hr ?_
    unfold heldsE at he
    split at he
    · cases he
    · exact he
theorem readHds_ok {l : List UInt8} {xs : List Hd} (h : readHds ltH l = some xs) : heldsE ltH xs = 0 := by
  unfold readHds at h
  split at h
  · cases h
  · split at h
    · rename_i he; injection h with h; subst h; exact he
    · cases h
theorem cell_four_at (w : World) (q : Nat) (hq : q = w.heap.size) (a b c d : Value) (t : TypeId) : ∀ j u, [a, b, c, d][j]? = some u → (w.alloc (.cells #[a, b, c, d] t)).cell? ((⟨q, 0, none⟩ : Addr).add j) = some u := by
  subst hq; exact cell_four_new w a b c d t
/-- How the document's ReadHelds ends. -/
def ShEnd (w : World) (r : Option (List Hd)) (e : Ending) (w' : World) : Prop :=
  (match r with
   | none => e = .returned (.tuple #[.slice none 0 0, .bool false])
   | some xs => ∃ v, e = .returned (.tuple #[v, .bool true]) ∧ w'.ownsRow w.heap.size 72 4 v xs.length (hcells xs)) ∧ Below w.heap.size w w'

set_option maxRecDepth 100000 in
set_option maxHeartbeats 2000000 in
theorem sreadHds_any (w : World) (p : Option Addr) (c : Nat) (l : List UInt8) (hl : BsAt w p l) (hlen : l.length ≤ 140737488355328) (hcap : l.length ≤ c) (hcm : c ≤ 9223372036854775807) :
    Calls Tryd.prog 13 #[.slice p l.length c] w fun e w' => ShEnd w (readHds ltH l) e w' := by
  obtain ⟨i0, hi, hz0, hz1, hz2⟩ := info_parts infoHd
  have hbd := nU_bd 400 (some l) (by omega)
  have hR0 : DdB w.heap.size (w.alloc (.cells #[.slice p l.length c, .int .i64 0, .bool false] 62)) w.heap.size l (some l) := by
    refine ⟨p, c, 0, false, ?_, hl.keep ((Below.refl _ _).alloc (Nat.le_refl _) _), ?_, hcap, hcm, hlen, by omega, .inr ⟨rfl, rfl⟩⟩
    · unfold Db; show (w.heap.push _)[w.heap.size]? = _; simp
    · intro a ha hne
      obtain ⟨b, o, h1, h2⟩ := hl.lt hne
      rw [h1] at ha; simp at ha; subst ha; exact h2
  have HM := dupto_any w.heap.size w.heap.size _ l _ 400 (by omega) hR0 (Nat.le_refl _)
  have hB1 : (w.alloc (.cells #[.slice p l.length c, .int .i64 0, .bool false] 62)).heap.size = w.heap.size + 1 := by simp
  have hbA : Below w.heap.size w (w.alloc (.cells #[.slice p l.length c, .int .i64 0, .bool false] 62)) := (Below.refl _ _).alloc (by omega) _
  have HA := Lib.hid (fun st xs (h : CameG goodH rdHd (nU 400 (some l)).2 (nU 400 (some l)).1.toNat st xs) => h.all)
  have HZ := Lib.hid (CameG.zero (good := goodH) rdHd (nU 400 (some l)).2 rfl)
  generalize (nU 400 (some l)).2 = st0 at *
  obtain ⟨n, hn⟩ : ∃ n : Nat, (nU 400 (some l)).1 = (n : Int) := ⟨(nU 400 (some l)).1.toNat, by omega⟩
  rw [hn] at HM HA hbd
  have hn4 : n ≤ 400 := by omega
  rw [Int.toNat_natCast] at HA
  have HY : Hid (∀ xs v w', rdAll rdHd l = some xs → goodH xs → w'.ownsRow w.heap.size 72 4 v xs.length (hcells xs) → Below w.heap.size w w' → ShEnd w (readHds ltH l) (.returned (.tuple #[v, .bool true])) w') := Lib.hid (fun xs v w' h1 h2 h3 h4 => by rw [readH_yes h1 h2]; exact ⟨⟨v, rfl, h3⟩, h4⟩)
  have HX : Hid (∀ w', (∀ ys, rdAll rdHd l = some ys → ¬ goodH ys) → Below w.heap.size w w' → ShEnd w (readHds ltH l) (.returned (.tuple #[.slice none 0 0, .bool false])) w') := Lib.hid (fun w' h1 h4 => by rw [readH_no h1]; exact ⟨rfl, h4⟩)
  clear hn hbd hR0 hl
  go_enter Tryd.func13, Tryd.ntmps13
  go_wp2_with (go_at_call 26; refine HM.mono ?_; rintro e w1 ⟨rfl, r1, f1⟩; refine Hid.out ?_)
  refine Lib.hid ?_
  have b1 : Below w.heap.size w w1 := hbA.trans (f1.toBelow (by omega) (by simp))
  have z1 : w.heap.size + 1 ≤ w1.heap.size := by have := f1.size; omega
  clear HM f1 hbA hB1
  go_wp2_with fail
  go_loopw [6, 7] (fun v i wr => ∃ (k : Nat) (st : St) (xs : List Hd), k ≤ n ∧ i = .int .i64 k ∧ xs.length = k ∧ CameG goodH rdHd st0 k st xs ∧ DdB w.heap.size wr w.heap.size l st ∧ wr.ownsRow (w.heap.size + 1) 72 4 v k (hcells xs) ∧ Below w.heap.size w wr ∧ w.heap.size + 1 ≤ wr.heap.size) (fun _ i _ => n - (intOf i).toNat)
  case atStart => exact ⟨0, st0, [], by omega, rfl, rfl, HZ.out, r1, World.ownsRow_nil _ _ _ _, b1, z1⟩
  case round =>
    obtain ⟨k, st, xs, hk, rfl, hxl, hcame, hrd, hown, hb, hz⟩ := hrel
    clear b1 z1 r1
    have hrd' := hrd
    obtain ⟨p', c', a9, bad, hd, hl', hN', hlc', hcm', hlen', hal, hst⟩ := hrd'
    have g2 := hd.c2
    have g1 := hd.c1
    by_cases hgo : k < n ∧ bad = false
    · obtain ⟨hlt, rfl⟩ := hgo
      obtain ⟨q, rfl⟩ : ∃ q, st = some q := by
        rcases hst with ⟨-, h⟩ | ⟨h, -⟩
        · cases h
        · exact ⟨_, h⟩
      clear hl' hN' hst hal hlc' hcm' hlen' hd g1
      have hnx0 := nextH hcame
      obtain ⟨nd, s0, e0⟩ : ∃ k s1, nU 11 (some q) = (k, s1) := ⟨_, _, rfl⟩
      obtain ⟨key, s1, e1⟩ : ∃ k s1, nX 40 s0 = (k, s1) := ⟨_, _, rfl⟩
      obtain ⟨a, s2, e2⟩ : ∃ n s2, nI s1 = (n, s2) := ⟨_, _, rfl⟩
      obtain ⟨bv, s3, e3⟩ : ∃ t s3, nI s2 = (t, s3) := ⟨_, _, rfl⟩
      have er : nHdS (some q) = (⟨nd, key, a, bv⟩, s3) := by unfold nHdS; rw [e0]; simp only; rw [e1]; simp only; rw [e2]; simp only; rw [e3]
      rw [er] at hnx0
      simp only at hnx0
      have H0 := fun (u : World) (hu : DdB w.heap.size u w.heap.size l (some q)) => dupto_any _ _ u l (some q) 11 (by omega) hu (Nat.le_refl _)
      have H1 := fun (u : World) (hu : DdB w.heap.size u w.heap.size l (s0)) => dtext_any _ _ u l s0 40 (by omega) hu (Nat.le_refl _)
      have H2 := fun (u : World) (hu : DdB w.heap.size u w.heap.size l (s1)) => dnum_any _ _ u l s1 hu (Nat.le_refl _)
      have H3 := fun (u : World) (hu : DdB w.heap.size u w.heap.size l (s2)) => dnum_any _ _ u l s2 hu (Nat.le_refl _)
      rw [e0] at H0
      rw [e1] at H1
      rw [e2] at H2
      rw [e3] at H3
      simp only at H0 H1 H2 H3
      clear e0 e1 e2 e3 er hcame
      have d0 := hrd.alloc (Nat.le_refl _) (.cells #[.int .i64 0, .string ⟨#[]⟩, .int .i64 0, .int .i64 0] 72)
      have F0 := (Fr.refl [w.heap.size] wr).alloc (.cells #[.int .i64 0, .string ⟨#[]⟩, .int .i64 0, .int .i64 0] 72)
      have t0 : C4 (wr.alloc (.cells #[.int .i64 0, .string ⟨#[]⟩, .int .i64 0, .int .i64 0] 72)) wr.heap.size (.int .i64 0) (.string ⟨#[]⟩) (.int .i64 0) (.int .i64 0) := by
        unfold C4; show (wr.heap.push _)[wr.heap.size]? = _; simp
      have hne : wr.heap.size ≠ w.heap.size := by omega
      have hsnoc := Lib.hid (show hcells (xs ++ [⟨nd, key, a, bv⟩]) = hcells xs ++ [.int .i64 nd, .string key, .int .i64 a, .int .i64 bv] from by rw [hcells_append]; rfl)
      go_wp2_with (go_at_call 26; refine (H0 _ d0).mono ?_; rintro e u1 ⟨rfl, d1, f1⟩; refine Hid.out ?_)
      refine Lib.hid ?_
      have F1 := F0.trans f1
      have t1 := t0.fr f1 hne
      have gf1 := t1.fz
      have gc1 := t1.c0
      clear t0 d0 F0 H0 g2 f1
      have t1' := t1.set0 (.int .i64 nd)
      have d1' : DdB w.heap.size (u1.setCell ⟨wr.heap.size, 0, none⟩ (.int .i64 nd)) w.heap.size l s0 := d1.set (by omega) hne _
      have F1' := F1.setCell (p := ⟨wr.heap.size, 0, none⟩) (.inr (by simp)) (.int .i64 nd)
      go_wp2_with (go_at_call 27; refine (H1 _ d1').mono ?_; rintro e u2 ⟨rfl, d2, f2⟩; refine Hid.out ?_)
      refine Lib.hid ?_
      have F2 := F1'.trans f2
      have t2 := t1'.fr f2 hne
      have gf2 := t2.fz
      have gc2 := t2.c1
      clear t1 t1' d1 d1' F1 F1' H1 gf1 gc1 f2
      have t2' := t2.set1 (.string key)
      have d2' : DdB w.heap.size (u2.setCell ⟨wr.heap.size, 1, none⟩ (.string key)) w.heap.size l s1 := d2.set (by omega) hne _
      have F2' := F2.setCell (p := ⟨wr.heap.size, 1, none⟩) (.inr (by simp)) (.string key)
      go_wp2_with (go_at_call 28; refine (H2 _ d2').mono ?_; rintro e u3 ⟨rfl, d3, f3⟩; refine Hid.out ?_)
      refine Lib.hid ?_
      have F3 := F2'.trans f3
      have t3 := t2'.fr f3 hne
      have gf3 := t3.fz
      have gc3 := t3.c2
      clear t2 t2' d2 d2' F2 F2' H2 gf2 gc2 f3
      have t3' := t3.set2 (.int .i64 a)
      have d3' : DdB w.heap.size (u3.setCell ⟨wr.heap.size, 2, none⟩ (.int .i64 a)) w.heap.size l s2 := d3.set (by omega) hne _
      have F3' := F3.setCell (p := ⟨wr.heap.size, 2, none⟩) (.inr (by simp)) (.int .i64 a)
      go_wp2_with (go_at_call 28; refine (H3 _ d3').mono ?_; rintro e u4 ⟨rfl, d4, f4⟩; refine Hid.out ?_)
      refine Lib.hid ?_
      have F4 := F3'.trans f4
      have t4 := t3'.fr f4 hne
      have gf4 := t4.fz
      have gc4 := t4.c3
      clear t3 t3' d3 d3' F3 F3' H3 gf3 gc3 f4
      have t4' := t4.set3 (.int .i64 bv)
      have d4' : DdB w.heap.size (u4.setCell ⟨wr.heap.size, 3, none⟩ (.int .i64 bv)) w.heap.size l s3 := d4.set (by omega) hne _
      have F4' := F4.setCell (p := ⟨wr.heap.size, 3, none⟩) (.inr (by simp)) (.int .i64 bv)
      have ownU := rows_keep hown F4' (by omega)
      have bU : Below w.heap.size w (u4.setCell ⟨wr.heap.size, 3, none⟩ (.int .i64 bv)) := hb.trans (F4'.toBelow (by omega) (by simp))
      have zU : w.heap.size + 1 ≤ (u4.setCell ⟨wr.heap.size, 3, none⟩ (.int .i64 bv)).heap.size := by have := F4'.size; omega
      have zq : wr.heap.size < (u4.setCell ⟨wr.heap.size, 3, none⟩ (.int .i64 bv)).heap.size := some_lt t4'
      go_wp2_with fail
      clear F4 F4' d4 t4 hb hown hrd gf4 gc4
      generalize u4.setCell ⟨wr.heap.size, 3, none⟩ (.int .i64 bv) = U at *
      cases k with
      | zero =>
        have hx0 : xs = [] := List.eq_nil_of_length_eq_zero hxl
        have hnx := Lib.hid (show CameG goodH rdHd st0 (0 + 1) s3 (xs ++ [⟨nd, key, a, bv⟩]) from by
          have h := hnx0
          rw [show stH xs ⟨nd, key, a, bv⟩ s3 = s3 from by rw [hx0]; rfl] at h
          exact h)
        clear hnx0 hx0
        have hv0 := ownU
        obtain ⟨Av, cv, rfl⟩ := row_slice ownU
        go_quiet (fail)
        have own1 : (U.drewN nq).ownsRow (w.heap.size + 1) 72 4 _ 0 (hcells xs) := ownU
        have d1 : DdB w.heap.size (U.drewN nq) w.heap.size l s3 := d4'
        have t : C4 (U.drewN nq) wr.heap.size (.int .i64 nd) (.string key) (.int .i64 a) (.int .i64 bv) := t4'
        have b1 : Below w.heap.size w (U.drewN nq) := ⟨bU.os, bU.tape, bU.output, bU.size, bU.block⟩
        have z1 : w.heap.size + 1 ≤ (U.drewN nq).heap.size := zU
        clear ownU d4' t4' bU zU hv0 zq
        generalize U.drewN nq = U2 at *
        have k0 := t.c0
        have k1 := t.c1
        have k2 := t.c2
        have k3 := t.c3
        go_wp2_with (at_builtin; refine wpList_append_own _ rfl _ _ 37 rfl (w.heap.size + 1) 72 i0 (.agg #[.int .i64 0, .string ⟨#[]⟩, .int .i64 0, .int .i64 0]) 4 40 Tryd.underlying37 hi hz0 hz1 hz2 rfl (by decide) _ _ _ rfl (own1.alloc _) ⟨_, 0, none⟩ 1 1 [.int .i64 nd, .string key, .int .i64 a, .int .i64 bv] rfl rfl (cell_four_at _ _ rfl _ _ _ _ _) (by intro u hu; simp at hu; rcases hu with rfl | rfl | rfl | rfl <;> rfl) (by unfold maxLen; omega) (by omega) (by simp; omega) ?_)
        intro v' w3 hown' hgrow _
        have own3 : w3.ownsRow (w.heap.size + 1) 72 4 v' (0 + 1) (hcells (xs ++ [⟨nd, key, a, bv⟩])) := by rw [hsnoc.out]; exact hown'
        have b3 : Below w.heap.size w w3 := (b1.alloc (by omega) _).grown hgrow (by simp; omega) (fun j hj => by have := (own1.lt j hj).1; omega)
        have r3 : DdB w.heap.size w3 w.heap.size l s3 := by
          have hne2 : ∀ j, j ≤ w.heap.size → w3.heap[j]? = U2.heap[j]? := fun j hj => by
            rw [hgrow.block j (by simp; omega) (fun e => by have := (own1.lt j e.symm).1; omega), Below.heap_alloc _ _ _ (by omega)]
          exact d1.keep (hne2 _ (Nat.le_refl _)) (fun j hj => hne2 j (by omega))
        have z3 : w.heap.size + 1 ≤ w3.heap.size := by have := hgrow.size; simp at this; omega
        clear hown' hgrow own1 b1 d1 t k0 k1 k2 k3
        go_wp2_with fail
        go_roundw
        case rel => exact ⟨0 + 1, s3, xs ++ [⟨nd, key, a, bv⟩], by omega, by go_num, by simp [hxl], hnx.out, r3, own3, b3, z3⟩
        case measure => simp [intOf]; omega
      | succ m =>
        have hm : m < xs.length := by omega
        have hgl : xs.getLast? = some xs[m] := by rw [List.getLast?_eq_getElem?, hxl]; simp [hm]
        have hst' : stH xs ⟨nd, key, a, bv⟩ s3 = if ltH xs[m] ⟨nd, key, a, bv⟩ then s3 else none := by unfold stH; rw [hgl]
        rw [hst'] at hnx0
        obtain ⟨Av, cv, rfl⟩ := row_slice ownU
        have hcs := (own_cs ownU (by rw [hcells_len, hxl])).1
        obtain ⟨g, go, rfl, p0, p1, p2, p3⟩ := hds_at hcs m hm
        have HC := fun w' => ahead_any xs[m] ⟨nd, key, a, bv⟩ w'
        have hgU : g < U.heap.size := cell_lt p0
        clear hst' hgl hcs
        generalize ltH xs[m] ⟨nd, key, a, bv⟩ = lt at *
        generalize xs[m] = y at *
        obtain ⟨nd', key', a', bv'⟩ := y
        simp only [hdV] at p0 p1 p2 p3 HC
        have hlA : ∀ v w' : World, v.heap = U.heap → Below v.heap.size v w' → w'.cell? ⟨g, go + m * 4, none⟩ = some (.int .i64 nd') ∧ w'.cell? ⟨g, go + m * 4 + 1, none⟩ = some (.string key') ∧ w'.cell? ⟨g, go + m * 4 + 2, none⟩ = some (.int .i64 a') ∧ w'.cell? ⟨g, go + m * 4 + 3, none⟩ = some (.int .i64 bv') ∧ w'.cell? ⟨wr.heap.size, 0, none⟩ = some (.int .i64 nd) ∧ w'.cell? ⟨wr.heap.size, 1, none⟩ = some (.string key) ∧ w'.cell? ⟨wr.heap.size, 2, none⟩ = some (.int .i64 a) ∧ w'.cell? ⟨wr.heap.size, 3, none⟩ = some (.int .i64 bv) := by
          intro v w' hv hvb
          have kk : ∀ (bb oo : Nat) (x : Value), bb < U.heap.size → U.cell? ⟨bb, oo, none⟩ = some x → w'.cell? ⟨bb, oo, none⟩ = some x := fun bb oo x hb2 hx => by
            rw [hvb.cell (p := ⟨bb, oo, none⟩) (by rw [hv]; exact hb2), World.cell?_of_block (w := U) (by rw [hv])]; exact hx
          exact ⟨kk _ _ _ hgU p0, kk _ _ _ hgU p1, kk _ _ _ hgU p2, kk _ _ _ hgU p3, kk _ _ _ zq t4'.c0, kk _ _ _ zq t4'.c1, kk _ _ _ zq t4'.c2, kk _ _ _ zq t4'.c3⟩
        have hi0 : (0 : Int) ≤ (m : Int) := by omega
        have hi1 : (0 : Int) < (m : Int) + 1 := by omega
        have hi5 : IntKind.i64.wrap (m : Int) = (m : Int) := by simp [IntKind.wrap, IntKind.bits, IntKind.signed]; omega
        have hi6 : (m : Int) < (m : Int) + 1 := by omega
        have hi7 : (m : Int) ≤ (m : Int) + 1 := by omega
        cases lt with
        | true =>
          have hnx := Lib.hid (show CameG goodH rdHd st0 (m + 1 + 1) s3 (xs ++ [⟨nd, key, a, bv⟩]) from by simpa using hnx0)
          clear hnx0
          have HO := hlA _ _ rfl (Below.refl _ U)
          go_region_held3 (fun w' => w'.cell? ⟨g, go + m * 4, none⟩ = some (.int .i64 nd') ∧ w'.cell? ⟨g, go + m * 4 + 1, none⟩ = some (.string key') ∧ w'.cell? ⟨g, go + m * 4 + 2, none⟩ = some (.int .i64 a') ∧ w'.cell? ⟨g, go + m * 4 + 3, none⟩ = some (.int .i64 bv') ∧ w'.cell? ⟨wr.heap.size, 0, none⟩ = some (.int .i64 nd) ∧ w'.cell? ⟨wr.heap.size, 1, none⟩ = some (.string key) ∧ w'.cell? ⟨wr.heap.size, 2, none⟩ = some (.int .i64 a) ∧ w'.cell? ⟨wr.heap.size, 3, none⟩ = some (.int .i64 bv)) (first | go_keep | exact HO | exact hlA U.drew w2 rfl b2) ((go_at_call 34; refine (HC _).mono ?_; rintro e w2 ⟨rfl, b2⟩))
          have b2' : Below U.heap.size U w2 := (Below.refl _ U).drew.trans b2
          have own1 := own_keep ownU b2'
          have d1 := d4'.below (Nat.le_refl _) b2'
          have t := t4'.blk (b2'.block _ zq)
          have b1 : Below w.heap.size w w2 := bU.trans (b2'.mono (by omega))
          have z1 : w.heap.size + 1 ≤ w2.heap.size := Nat.le_trans zU b2'.size
          clear ownU d4' t4' bU zU b2 b2' HC HO hlA zq
          have k0 := t.c0
          have k1 := t.c1
          have k2 := t.c2
          have k3 := t.c3
          go_wp2_with (at_builtin; refine wpList_append_own _ rfl _ _ 37 rfl (w.heap.size + 1) 72 i0 (.agg #[.int .i64 0, .string ⟨#[]⟩, .int .i64 0, .int .i64 0]) 4 40 Tryd.underlying37 hi hz0 hz1 hz2 rfl (by decide) _ _ _ rfl (own1.alloc _) ⟨_, 0, none⟩ 1 1 [.int .i64 nd, .string key, .int .i64 a, .int .i64 bv] rfl rfl (cell_four_at _ _ rfl _ _ _ _ _) (by intro u hu; simp at hu; rcases hu with rfl | rfl | rfl | rfl <;> rfl) (by unfold maxLen; omega) (by omega) (by simp; omega) ?_)
          intro v' w3 hown' hgrow _
          have own3 : w3.ownsRow (w.heap.size + 1) 72 4 v' ((m + 1) + 1) (hcells (xs ++ [⟨nd, key, a, bv⟩])) := by rw [hsnoc.out]; exact hown'
          have b3 : Below w.heap.size w w3 := (b1.alloc (by omega) _).grown hgrow (by simp; omega) (fun j hj => by have := (own1.lt j hj).1; omega)
          have r3 : DdB w.heap.size w3 w.heap.size l s3 := by
            have hne2 : ∀ j, j ≤ w.heap.size → w3.heap[j]? = w2.heap[j]? := fun j hj => by
              rw [hgrow.block j (by simp; omega) (fun e => by have := (own1.lt j e.symm).1; omega), Below.heap_alloc _ _ _ (by omega)]
            exact d1.keep (hne2 _ (Nat.le_refl _)) (fun j hj => hne2 j (by omega))
          have z3 : w.heap.size + 1 ≤ w3.heap.size := by have := hgrow.size; simp at this; omega
          clear hown' hgrow own1 b1 d1 t k0 k1 k2 k3
          go_wp2_with fail
          go_roundw
          case rel => exact ⟨(m + 1) + 1, s3, xs ++ [⟨nd, key, a, bv⟩], by omega, by go_num, by simp [hxl], hnx.out, r3, own3, b3, z3⟩
          case measure => simp [intOf]; omega
        | false =>
          have hnx := Lib.hid (show CameG goodH rdHd st0 (m + 1 + 1) none (xs ++ [⟨nd, key, a, bv⟩]) from by simpa using hnx0)
          clear hnx0
          have HO := hlA _ _ rfl (Below.refl _ U)
          go_region_held3 (fun w' => w'.cell? ⟨g, go + m * 4, none⟩ = some (.int .i64 nd') ∧ w'.cell? ⟨g, go + m * 4 + 1, none⟩ = some (.string key') ∧ w'.cell? ⟨g, go + m * 4 + 2, none⟩ = some (.int .i64 a') ∧ w'.cell? ⟨g, go + m * 4 + 3, none⟩ = some (.int .i64 bv') ∧ w'.cell? ⟨wr.heap.size, 0, none⟩ = some (.int .i64 nd) ∧ w'.cell? ⟨wr.heap.size, 1, none⟩ = some (.string key) ∧ w'.cell? ⟨wr.heap.size, 2, none⟩ = some (.int .i64 a) ∧ w'.cell? ⟨wr.heap.size, 3, none⟩ = some (.int .i64 bv)) (first | go_keep | exact HO | exact hlA U.drew w2 rfl b2) ((go_at_call 34; refine (HC _).mono ?_; rintro e w2 ⟨rfl, b2⟩))
          have b2' : Below U.heap.size U w2 := (Below.refl _ U).drew.trans b2
          have ownV := own_keep ownU b2'
          have dV := d4'.below (Nat.le_refl _) b2'
          have tV := t4'.blk (b2'.block _ zq)
          have bV : Below w.heap.size w w2 := bU.trans (b2'.mono (by omega))
          have zV : w.heap.size + 1 ≤ w2.heap.size := Nat.le_trans zU b2'.size
          clear ownU d4' t4' bU zU b2 b2' HC HO hlA zq
          obtain ⟨p5, c5, a5, bad5, hd5, hl5, hN5, hlc5, hcm5, hlen5, hal5, -⟩ := dV
          have g5f := hd5.fz
          have g52 := hd5.c2
          have d1 : DdB w.heap.size (w2.setCell ⟨w.heap.size, 2, none⟩ (.bool true)) w.heap.size l none := ⟨p5, c5, a5, true, hd5.set2 true, hl5.blocks (fun x hx hne5 => Below.heap_setCell _ _ _ _ (by have := hN5 x hx hne5; simp; omega)), hN5, hlc5, hcm5, hlen5, hal5, .inl ⟨rfl, rfl⟩⟩
          have own1 := rows_keep ownV ((Fr.refl [w.heap.size] w2).setCell (p := ⟨w.heap.size, 2, none⟩) (by simp) (.bool true)) (by omega)
          have t := tV.blk (w' := w2.setCell ⟨w.heap.size, 2, none⟩ (.bool true)) (Below.heap_setCell _ _ _ _ (by simpa using hne))
          have b1 : Below w.heap.size w (w2.setCell ⟨w.heap.size, 2, none⟩ (.bool true)) := bV.setCell (by simp) _
          have z1 : w.heap.size + 1 ≤ (w2.setCell ⟨w.heap.size, 2, none⟩ (.bool true)).heap.size := by simpa using zV
          clear ownV tV bV zV hl5 hN5
          have k0 := t.c0
          have k1 := t.c1
          have k2 := t.c2
          have k3 := t.c3
          go_wp2_with (at_builtin; refine Hid.out ?_)
          refine Lib.hid ?_
          have hVs : w2.heap.size = (w2.setCell ⟨w.heap.size, 2, none⟩ (.bool true)).heap.size := by simp
          generalize w2.setCell ⟨w.heap.size, 2, none⟩ (.bool true) = V at *
          refine wpList_append_own _ rfl _ _ 37 rfl (w.heap.size + 1) 72 i0 (.agg #[.int .i64 0, .string ⟨#[]⟩, .int .i64 0, .int .i64 0]) 4 40 Tryd.underlying37 hi hz0 hz1 hz2 rfl (by decide) _ _ _ rfl (own1.alloc _) ⟨_, 0, none⟩ 1 1 [.int .i64 nd, .string key, .int .i64 a, .int .i64 bv] rfl rfl (cell_four_at _ _ hVs _ _ _ _ _) (by intro u hu; simp at hu; rcases hu with rfl | rfl | rfl | rfl <;> rfl) (by unfold maxLen; omega) (by omega) (by simp; omega) ?_
          intro v' w3 hown' hgrow _
          have own3 : w3.ownsRow (w.heap.size + 1) 72 4 v' ((m + 1) + 1) (hcells (xs ++ [⟨nd, key, a, bv⟩])) := by rw [hsnoc.out]; exact hown'
          have b3 : Below w.heap.size w w3 := (b1.alloc (by omega) _).grown hgrow (by simp; omega) (fun j hj => by have := (own1.lt j hj).1; omega)
          have r3 : DdB w.heap.size w3 w.heap.size l none := by
            have hne2 : ∀ j, j ≤ w.heap.size → w3.heap[j]? = V.heap[j]? := fun j hj => by
              rw [hgrow.block j (by simp; omega) (fun e => by have := (own1.lt j e.symm).1; omega), Below.heap_alloc _ _ _ (by omega)]
            exact d1.keep (hne2 _ (Nat.le_refl _)) (fun j hj => hne2 j (by omega))
          have z3 : w.heap.size + 1 ≤ w3.heap.size := by have := hgrow.size; simp at this; omega
          clear hown' hgrow own1 b1 d1 t k0 k1 k2 k3
          go_wp2_with fail
          go_roundw
          case rel => exact ⟨(m + 1) + 1, none, xs ++ [⟨nd, key, a, bv⟩], by omega, by go_num, by simp [hxl], hnx.out, r3, own3, b3, z3⟩
          case measure => simp [intOf]; omega
    · cases bad with
      | true =>
        have hs : st = none := by
          rcases hst with ⟨h, -⟩ | ⟨-, h⟩
          · exact h
          · cases h
        subst hs
        have hfar := CameG.far goodH_pre (ys := xs) (n - k) k hcame
        rw [show k + (n - k) = n from by omega] at hfar
        have hno := (HA.out none xs hfar).2 (by simp)
        have HX' := Lib.hid (fun w' => HX.out w' hno)
        clear HA HX HY HZ hcame hfar hno hst hl' hrd
        by_cases hlt : (k : Int) < (n : Int)
        · go_wp2_with fail
          go_ret2
          exact HX'.out _ hb
        · go_wp2_with fail
          go_ret2
          exact HX'.out _ hb
      | false =>
        have hkn : k = n := by
          rcases Nat.lt_or_ge k n with h | h
          · exact absurd ⟨h, rfl⟩ hgo
          · omega
        have hs : st = some (l.drop a9) := by
          rcases hst with ⟨-, h⟩ | ⟨h, -⟩
          · cases h
          · exact h
        subst hs
        rw [hkn] at hcame
        have hall := HA.out _ xs hcame
        have hlt : ¬ (k : Int) < (n : Int) := by omega
        by_cases hend : a9 = l.length
        · have hy := hall.1 (by rw [hend, List.drop_length])
          have hown2 := hown.mono (base' := w.heap.size) (by omega)
          rw [← hxl] at hown2
          have HY' := Lib.hid (HY.out xs _ wr hy.1 hy.2 hown2 hb)
          have hend' : (a9 : Int) = (l.length : Int) := by omega
          clear HA HX HY HZ hcame hall hy hst hl' hrd hend hgo hkn
          go_wp2_with fail
          go_ret2
          exact HY'.out
        · have hno := hall.2 (by
            intro e
            injection e with e
            have := congrArg List.length e
            simp at this
            omega)
          have HX' := Lib.hid (fun w' => HX.out w' hno)
          have hend' : ¬ (a9 : Int) = (l.length : Int) := by omega
          clear HA HX HY HZ hcame hall hno hst hl' hrd hend hgo hkn
          go_wp2_with fail
          go_ret2
          exact HX'.out _ hb
end Go.Proofs.YtbppiiomjmpjkaaDoor
