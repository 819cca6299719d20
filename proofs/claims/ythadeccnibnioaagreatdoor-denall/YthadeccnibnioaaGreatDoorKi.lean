import Derived.Test.YthadeccnibnioaaGreatDoorKg
import Derived.Test.YthadeccnibnioaaGreatDoorHp
import Derived.Maps.AppendAt
import Derived.Deep.RegionLaw
/- checkData. -/
namespace Go.Proofs.YthadeccnibnioaaGreatDoor
open Go.RowKit
set_option linter.unusedVariables false

theorem isrec_any (r : Rc) (w : World) (hk : r.key.size ≤ 9223372036854775807) :
    Calls Tryz.prog 134 #[.agg #[.string r.key, .int .i64 r.num, .int .i64 r.time]] w fun e w' => e = .returned (.bool (!badRc r)) ∧ Below w.heap.size w w' := by
  obtain ⟨key, num, time⟩ := r
  simp only [badRc] at *
  have bel : Below w.heap.size w (w.alloc (.cells #[.string key, .int .i64 num, .int .i64 time] 164)) := (Below.refl _ _).alloc (Nat.le_refl _) _
  by_cases h1 : 40 < key.size
  · have h1' : ¬ ((key.size : Nat) : Int) ≤ 40 := by omega
    rw [decide_eq_true h1, Bool.true_or, Bool.true_or]
    go_enter Tryz.func134, Tryz.ntmps134
    go_wp2
    go_ret
    exact ⟨rfl, bel⟩
  · have h1' : ((key.size : Nat) : Int) ≤ 40 := by omega
    rw [decide_eq_false h1, Bool.false_or]
    by_cases h2 : time < 0
    · have h2' : ¬ (0 : Int) ≤ time := by omega
      rw [decide_eq_true h2, Bool.true_or]
      go_enter Tryz.func134, Tryz.ntmps134
      go_wp2
      go_ret
      exact ⟨rfl, bel⟩
    · have h2' : (0 : Int) ≤ time := by omega
      rw [decide_eq_false h2, Bool.false_or]
      by_cases h3 : 1000000 < time
      · have h3' : ¬ time ≤ 1000000 := by omega
        rw [decide_eq_true h3]
        go_enter Tryz.func134, Tryz.ntmps134
        go_wp2
        go_ret
        exact ⟨rfl, bel⟩
      · have h3' : time ≤ 1000000 := by omega
        rw [decide_eq_false h3]
        go_enter Tryz.func134, Tryz.ntmps134
        go_wp2
        go_ret
        exact ⟨rfl, bel⟩

theorem any_step {L : List Rc} {j : Nat} (h : j < L.length) : (L.drop j).any badRc = (badRc L[j] || (L.drop (j + 1)).any badRc) := by
  rw [List.drop_eq_getElem_cons h, List.any_cons]

theorem data_step {D : List (List Rc)} {j : Nat} (h : j < D.length) : dataP (D.drop j) = if 300 < D[j].length then 4 else if D[j].any badRc then 1 else dataP (D.drop (j + 1)) := by
  rw [List.drop_eq_getElem_cons h, dataP]

set_option maxRecDepth 100000 in
set_option maxHeartbeats 2000000 in
theorem checkData_any {w : World} {da : Option Addr} {D : List (List Rc)} {dc : Nat} (hD : RssAt w da D) (hl : D.length ≤ 9223372036854775807) (hll : ∀ l ∈ D, l.length ≤ 9223372036854775807) (hk : ∀ l ∈ D, ∀ r ∈ l, r.key.size ≤ 9223372036854775807) (n : Nat) :
    Calls Tryz.prog 99 #[.slice da D.length dc, .int .i64 n] w fun e w' => e = .returned (errV (checkP D n)) ∧ Below w.heap.size w w' := by
  unfold checkP
  have b1 : errV 1 = .iface 77 (.int .i64 1) := errV_pos (by decide)
  have b3 : errV 3 = .iface 77 (.int .i64 3) := errV_pos (by decide)
  have b4 : errV 4 = .iface 77 (.int .i64 4) := errV_pos (by decide)
  by_cases hn : D.length = n
  · have hne : ((D.length : Int) != (n : Int)) = false := by simp [hn]
    rw [if_neg (by simpa using hn)]
    clear hn
    generalize hr : dataP D = r at *
    have HR : Hid (dataP D = r) := hr
    clear hr
    generalize hv : errV r = rv
    have HV := Lib.hid hv
    clear hv
    have B1 := Lib.hid b1
    have B4 := Lib.hid b4
    clear b1 b3 b4
    go_enter Tryz.func99, Tryz.ntmps99
    go_wp2_with fail
    go_loopw [16] (fun i wr => ∃ j : Nat, j ≤ D.length ∧ i = .int .i64 j ∧ dataP (D.drop j) = r ∧ Below w.heap.size w wr) (fun i _ => D.length - (intOf i).toNat)
    case atStart => exact ⟨0, by omega, rfl, by simpa using HR.out, Below.refl _ _⟩
    case round =>
      obtain ⟨j, hj, rfl, hrj, hb⟩ := hrel
      rename World => wo
      by_cases hlt : j < D.length
      · rcases hD with hD | ⟨b, o, rfl, hD⟩
        · subst hD; simp at hlt
        have hi : (j : Int) < D.length := by omega
        obtain ⟨la, lc, e1, e2, e3⟩ := hD j hlt
        have d0 := Keeps.of hb _ _ e1
        rw [data_step hlt] at hrj
        have hS := hb.size
        have hlj := hll _ (List.getElem_mem hlt)
        have eL := e2.keep (Keeps.of hb)
        have hkj := hk _ (List.getElem_mem hlt)
        generalize D[j] = L at *
        have HJ := Lib.hid hrj
        clear hrj hD e1 e2
        by_cases h3 : 300 < L.length
        · have h3' : (300 : Int) < L.length := by omega
          have HF : Hid (rv = .iface 77 (.int .i64 4)) := Lib.hid (by rw [← HV.out, ← HJ.out, if_pos h3]; exact B4.out)
          go_wp2_with fail
          go_ret
          exact ⟨by rw [HF.out]; rfl, hb⟩
        · have h3' : ¬ (300 : Int) < L.length := by omega
          have HL : Hid (L.any badRc = true → rv = .iface 77 (.int .i64 1)) := Lib.hid (fun he => by rw [← HV.out, ← HJ.out, if_neg h3, if_pos he]; exact B1.out)
          have HN : Hid (L.any badRc = false → dataP (D.drop (j + 1)) = r) := Lib.hid (fun he => by have := HJ.out; rw [if_neg h3, he] at this; simpa using this)
          clear HJ
          go_wp2_with fail
          go_loopw [26] (fun i wi => ∃ k : Nat, k ≤ L.length ∧ i = .int .i64 k ∧ (L.drop k).any badRc = L.any badRc ∧ Below wo.heap.size wo wi) (fun i _ => L.length - (intOf i).toNat)
          case atStart => exact ⟨0, by omega, rfl, by simp, Below.refl _ _⟩
          case round =>
            obtain ⟨k, hk', rfl, hrk, hbk⟩ := hrel
            by_cases hlk : k < L.length
            · rcases eL with eL | ⟨b2, o2, rfl, eL⟩
              · subst eL; simp at hlk
              have hik : (k : Int) < L.length := by omega
              obtain ⟨r0, r1, r2⟩ := rcells_at L k hlk
              have d0 := Keeps.of hbk _ _ (eL _ _ r0)
              have d1 := Keeps.of hbk _ _ (eL _ _ r1)
              have d2 := Keeps.of hbk _ _ (eL _ _ r2)
              rw [← Nat.add_assoc] at d1 d2
              rw [any_step hlk] at hrk
              have hSk := hbk.size
              have hkk := hkj _ (List.getElem_mem hlk)
              generalize L[k] = x at *
              have HK := Lib.hid hrk
              have hb3 : Below wo.heap.size wo (wr.alloc (.cells #[.string x.key, .int .i64 x.num, .int .i64 x.time] 164)) := hbk.alloc hSk _
              have cE := isrec_any x (wr.alloc (.cells #[.string x.key, .int .i64 x.num, .int .i64 x.time] 164)) hkk
              clear hrk eL r0 r1 r2
              by_cases he : badRc x = true
              · rw [he] at cE
                have HF : Hid (rv = .iface 77 (.int .i64 1)) := Lib.hid (HL.out (by rw [← HK.out, he]; rfl))
                go_wp2_with (go_at_call 134; refine cE.mono ?_; rintro e w' ⟨rfl, hb2⟩)
                go_ret
                exact ⟨by rw [HF.out]; rfl, below_two' hb hS (below_two' hb3 hb3.size hb2)⟩
              · have he' : badRc x = false := by simpa using he
                rw [he'] at cE
                go_wp2_with (go_at_call 134; refine cE.mono ?_; rintro e w' ⟨rfl, hb2⟩)
                exact ⟨⟨k + 1, by omega, by go_num, by have := HK.out; rw [he', Bool.false_or] at this; exact this, below_two' hb3 hb3.size hb2⟩, by simp [intOf]; omega⟩
            · have hik : ¬ (k : Int) < L.length := by omega
              have hk2 : k = L.length := by omega
              have HN2 : Hid (dataP (D.drop (j + 1)) = r) := Lib.hid (HN.out (by rw [← hrk, hk2, List.drop_length]; rfl))
              clear hk2 hrk
              go_wp2
              exact ⟨⟨j + 1, by omega, by go_num, HN2.out, below_two' hb hS hbk⟩, by simp [intOf]; omega⟩
      · have hi : ¬ (j : Int) < D.length := by omega
        have HF : Hid (rv = .nilIface) := Lib.hid (by rw [← HV.out, ← hrj, List.drop_of_length_le (by omega)]; exact errV_zero)
        clear hrj
        go_wp2
        go_ret
        exact ⟨by rw [HF.out]; rfl, hb⟩
  · have hne : ((D.length : Int) != (n : Int)) = true := by simp; omega
    rw [if_pos (by simpa using hn), b3]
    clear hn b1 b3 b4
    go_enter Tryz.func99, Tryz.ntmps99
    go_wp2_with fail
    go_ret
    exact ⟨rfl, Below.refl _ _⟩
end Go.Proofs.YthadeccnibnioaaGreatDoor

/- lines: records by their keys; the rows that are built. -/
namespace Go.Proofs.YthadeccnibnioaaGreatDoor
open Go.RowKit
open Go.Maps (string_keyed)
set_option linter.unusedVariables false

/-- A map that says where each key's line is. -/
structure PMap (D : DataW Unit) (ks : List ByteArray) : Prop where
  map : Maps.IsMap D
  has : ∀ k : ByteArray, Maps.has D (.string k.data.toList) = (posF k 0 ks).isSome
  at_ : ∀ k : ByteArray, D.atKey (.string k.data.toList) (.lit (.int .i64 0)) = .lit (.int .i64 (((posF k 0 ks).getD 0 : Nat) : Int))
theorem pmap_nil : PMap (.map []) [] := ⟨Maps.isMap_empty, fun _ => rfl, fun _ => rfl⟩
theorem PMap.put {D : DataW Unit} {ks : List ByteArray} (h : PMap D ks) {k : ByteArray} (hk : posF k 0 ks = none) : PMap (D.put (.string k.data.toList) (.lit (.int .i64 (ks.length : Int)))) (ks ++ [k]) := by
  refine ⟨h.map.put _ _, fun q => ?_, fun q => ?_⟩
  · rw [posF_snoc]
    by_cases hq : q = k
    · subst hq
      rw [Maps.has_put_same h.map (show WideAt.IsKeyLit (.string _) from trivial), hk]; simp
    · rw [Maps.has_put_other (fun e => hq (by injection e with e; exact WideShapes.bytes_inj e)), h.has q]
      cases posF q 0 ks with
      | none => simp [Ne.symm hq]
      | some a => rfl
  · rw [posF_snoc]
    by_cases hq : q = k
    · subst hq
      rw [Maps.atKey_put_same h.map (show WideAt.IsKeyLit (.string _) from trivial), hk]; simp
    · rw [Maps.atKey_put_other (fun e => hq (by injection e with e; exact WideShapes.bytes_inj e)), h.at_ q]
      cases posF q 0 ks with
      | none => simp [Ne.symm hq]
      | some a => rfl

/-- A line's two cells, and those of several. -/
def lcs (V : Nat → Value) : Nat → List ByteArray → List Value
  | _, [] => []
  | i, k :: r => .string k :: V i :: lcs V (i + 1) r
theorem lcs_snoc (V : Nat → Value) (q : ByteArray) : ∀ (ks : List ByteArray) (i : Nat), lcs V i (ks ++ [q]) = lcs V i ks ++ [.string q, V (i + ks.length)]
  | [], i => by simp [lcs]
  | k :: r, i => by
    simp only [List.cons_append, lcs, lcs_snoc V q r (i + 1), List.length_cons]
    rw [show i + 1 + r.length = i + (r.length + 1) from by omega]
theorem lcs_at (V : Nat → Value) : ∀ (ks : List ByteArray) (i a : Nat) (h : a < ks.length), (lcs V i ks)[a * 2]? = some (.string ks[a]) ∧ (lcs V i ks)[a * 2 + 1]? = some (V (i + a))
  | [], i, a, h => by simp at h
  | k :: r, i, 0, h => by simp [lcs]
  | k :: r, i, a + 1, h => by
    have := lcs_at V r (i + 1) a (by simpa using h)
    rw [show (a + 1) * 2 = a * 2 + 2 from by omega, show i + (a + 1) = i + 1 + a from by omega]
    simpa [lcs] using this
theorem lcs_set (V : Nat → Value) (u : Value) : ∀ (ks : List ByteArray) (i a : Nat) (h : a < ks.length), (lcs V i ks).set (a * 2 + 1) u = lcs (fun j => if j = i + a then u else V j) i ks
  | [], i, a, h => by simp at h
  | k :: r, i, 0, h => by
    simp only [lcs, Nat.zero_mul, Nat.zero_add, Nat.add_zero, List.set_cons_succ, List.set_cons_zero, if_true]
    congr 2
    have : ∀ (r : List ByteArray) (m : Nat), i < m → lcs V m r = lcs (fun j => if j = i then u else V j) m r := by
      intro r
      induction r with
      | nil => intro m _; rfl
      | cons x r ih => intro m hm; simp only [lcs]; rw [if_neg (by omega), ← ih (m + 1) (by omega)]
    exact this r (i + 1) (by omega)
  | k :: r, i, a + 1, h => by
    rw [show (a + 1) * 2 + 1 = (a * 2 + 1) + 2 from by omega]
    simp only [lcs, List.set_cons_succ]
    rw [lcs_set V u r (i + 1) a (by simpa using h), if_neg (by omega)]
    simp only [show i + 1 + a = i + (a + 1) from by omega]
theorem lcs_congr {V V' : Nat → Value} : ∀ (ks : List ByteArray) (i : Nat), (∀ j, i ≤ j → j < i + ks.length → V j = V' j) → lcs V i ks = lcs V' i ks
  | [], i, h => rfl
  | k :: r, i, h => by
    simp only [lcs]
    rw [h i (Nat.le_refl _) (by simp), lcs_congr r (i + 1) (fun j h1 h2 => h j (by omega) (by simp; omega))]

/-- Lines that a call builds: each line's numbers in a row of its own. -/
structure LnI (w : World) (B : Nat) (v : Value) (ks : List ByteArray) (V : Nat → Value) (F : Nat → List Int) : Prop where
  outer : w.ownsRow B 168 2 v ks.length (lcs V 0 ks)
  row : ∀ i, i < ks.length → w.ownsRow B 3 1 (V i) (F i).length (iv (F i))
  apart : ∀ i, i < ks.length → (V i).ownBlock = none ∨ (V i).ownBlock ≠ v.ownBlock
  alone : ∀ i j, i < ks.length → j < ks.length → i ≠ j → (V i).ownBlock = none ∨ (V i).ownBlock ≠ (V j).ownBlock
theorem LnI.start (w : World) (B : Nat) : LnI w B (.slice none 0 0) [] (fun _ => .slice none 0 0) (fun _ => []) :=
  ⟨World.ownsRow_nil _ _ _ _, fun i hi => by simp at hi, fun i hi => by simp at hi, fun i j hi => by simp at hi⟩
theorem LnI.keep {w w' : World} {B : Nat} {v : Value} {ks : List ByteArray} {V : Nat → Value} {F : Nat → List Int} (h : LnI w B v ks V F) {xs : List Nat} (f : Fr xs w w') (hx : ∀ k ∈ xs, k < B) : LnI w' B v ks V F :=
  ⟨own_fr h.outer f hx, fun i hi => own_fr (h.row i hi) f hx, h.apart, h.alone⟩
theorem LnI.lt {w : World} {B : Nat} {v : Value} {ks : List ByteArray} {V : Nat → Value} {F : Nat → List Int} (h : LnI w B v ks V F) (i : Nat) (hi : i < ks.length) : ∀ k, (V i).ownBlock = some k → B ≤ k ∧ k < w.heap.size := (h.row i hi).lt
/-- A line more, with no numbers yet. -/
theorem LnI.more {w w' : World} {B : Nat} {v v' : Value} {ks : List ByteArray} {V : Nat → Value} {F : Nat → List Int} (h : LnI w B v ks V F) (q : ByteArray)
    (ho : w'.ownsRow B 168 2 v' (ks.length + 1) (lcs V 0 ks ++ [.string q, .slice none 0 0])) (hg : w.grownBy w' v.ownBlock) (hat : v'.ownBlock = v.ownBlock ∨ ∃ m, w.heap.size ≤ m ∧ v'.ownBlock = some m) :
    LnI w' B v' (ks ++ [q]) (fun i => if i < ks.length then V i else .slice none 0 0) (fun i => if i < ks.length then F i else []) := by
  have hV : ∀ i, i < ks.length → (V i).ownBlock = none ∨ (V i).ownBlock ≠ v.ownBlock := h.apart
  refine ⟨?_, fun i hi => ?_, fun i hi => ?_, fun i j hi hj hij => ?_⟩
  · rw [lcs_snoc, List.length_append, Nat.zero_add, if_neg (by omega), ← lcs_congr (V := V) ks 0 (fun j _ hj => by rw [if_pos (by omega)])]; exact ho
  · by_cases hk : i < ks.length
    · simp only [hk, if_true]; exact (h.row i hk).kept hg (hV i hk)
    · simp only [hk, if_false]; exact World.ownsRow_nil _ _ _ _
  · by_cases hk : i < ks.length
    · simp only [hk, if_true]
      rcases hat with e | ⟨m, hm, e⟩
      · rw [e]; exact hV i hk
      · rw [e]
        right
        intro e2
        have := (h.lt i hk m e2).2
        omega
    · simp only [hk, if_false]; left; rfl
  · by_cases hk : i < ks.length
    · by_cases hk2 : j < ks.length
      · simp only [hk, hk2, if_true]; exact h.alone i j hk hk2 hij
      · simp only [hk, hk2, if_true, if_false]
        cases e : (V i).ownBlock with
        | none => exact .inl rfl
        | some m => right; simp [Value.ownBlock]
    · simp only [hk, if_false]; left; rfl
end Go.Proofs.YthadeccnibnioaaGreatDoor

