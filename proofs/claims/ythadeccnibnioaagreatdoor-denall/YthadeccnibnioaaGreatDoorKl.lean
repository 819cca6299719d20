import Derived.Test.YthadeccnibnioaaGreatDoorKi
import Derived.Test.YthadeccnibnioaaGreatDoorHp
import Derived.Test.YthadeccnibnioaaGreatDoorShz
/- lines: the loop over the records. -/
namespace Go.Proofs.YthadeccnibnioaaGreatDoor
open Go.RowKit
open Go.Maps (string_keyed)
set_option linter.unusedVariables false

/-- append as one step of a region, with where the new row lies. -/
theorem step_append_at {P : Program} {ops : Array Oper} {o : Oper} {a : Act} {w : World} {K : Act → World → Prop} {Q : Exit → Act → World → Prop} {E : Prop} (hg : o.guard = none) (s x : Operand) (t : TypeId)
    (ho : o.op = .call { callee := .builtin .append, args := #[s, x], argTypes := #[t, t] })
    (base : Nat) (e : TypeId) (i : TypeInfo) (z : Value) (size bytes : Nat) (ht : P.underlying t = some (.slice e)) (hi : P.info? e = some i) (hz : i.zero = some z)
    (hsize : i.size = size) (hby : i.bytes = bytes) (hzs : z.cells.size = size) (hsz : 0 < size)
    (v : Value) (n : Nat) (xs : List Value) (hs : a.eval s = v) (hown : w.ownsRow base e size v n xs)
    (ad : Addr) (m c : Nat) (news : List Value) (hx : a.eval x = .slice (some ad) m c) (hl : news.length = m * size) (hnews : ∀ j u, news[j]? = some u → w.cell? (ad.add j) = some u) (h1 : ∀ u ∈ news, u.oneCell' = true)
    (h63 : n + m ≤ maxLen) (hbytes : (n + m) * bytes ≤ 140737488355328) (hbase : base ≤ w.heap.size)
    (h : ∀ v' w', w'.ownsRow base e size v' (n + m) (xs ++ news) → w.grownBy w' v.ownBlock → (v'.ownBlock = v.ownBlock ∨ v'.ownBlock = some w.heap.size) → K (a.put o.dst v') w') :
    if Region.wanted o (yielded ops a.tmps) = true then Oper.wp P o a w K Q else E := by
  have hw : Region.wanted o (yielded ops a.tmps) = true := by simp [Region.wanted, hg]
  rw [if_pos hw]
  obtain ⟨v', w', hr, h2, h3, h4, h5⟩ := run_append_own_at (P := P) w base t o.type e i z size bytes ht hi hz hsize hby hzs hsz v n xs hown ad m c news hl hnews h1 h63 hbytes hbase
  unfold Oper.wp execOp
  simp only [ho, resolve, invoke, builtin, Sem.run_bind, Sem.run_pure, Result.andThen_ok, List.map_toArray, List.map_cons, List.map_nil, hs, hx, hr]
  exact h v' w' h2 h3 h5

/-- A look-up whose answer is known. -/
theorem wpList_lookup_known {P : Program} (w : World) {ops : Array Oper} {rest : List Oper} {o : Oper} {a : Act} {Q : Exit → Act → World → Prop} (hg : o.guard = none) (m x : Operand) (t : TypeId) (hop : o.op = Op.lookup t m x true)
    (k e : TypeId) (q : IntKind) (K : Maps.Keyed P k) (ht : P.underlying t = some (.map k e)) (he : P.underlying e = some (.int q)) (hz : (zeroValue e).run P w = .ok (.int q 0) w) (b n : Nat) (D : DataW Unit)
    (hm : a.eval m = .map (some b)) (hown : w.ownsMap P k (plainElem P e) b n D) (key : Value) (kl : Lit) (hx : a.eval x = key) (hkey : keyOf P k key = some kl) (c : Int) (r : Bool) (hat : D.atKey kl (.lit (.int q 0)) = .lit (.int q c)) (hhas : Maps.has D kl = r)
    (hK : wpList P ops Q rest (a.put o.dst (.tuple #[.int q c, .bool r])) w) :
    wpList P ops Q (o :: rest) a w :=
  wpList_lookup_own_ok_int w hg m x t hop k e q K ht he hz b n D hm hown key kl hx hkey (fun c' hat' _ => by
    rw [hat] at hat'
    injection hat' with h1
    injection h1 with _ h2
    rw [← h2, hhas]; exact hK)

theorem iv_snoc' (l : List Int) (z : Int) : iv (l ++ [z]) = iv l ++ [.int .i64 z] := by simp [iv]

/-- A number more in a line. -/
theorem LnI.add {w w1 w3 : World} {B g cap : Nat} {ks : List ByteArray} {V : Nat → Value} {F : Nat → List Int} (h : LnI w B (.slice (some ⟨g, 0, none⟩) ks.length cap) ks V F) {a : Nat} (ha : a < ks.length) (f1 : Fr [] w w1) {u' : Value} {num : Int}
    (ho : w3.ownsRow B 3 1 u' ((F a).length + 1) (iv (F a) ++ [.int .i64 num])) (hg : w1.grownBy w3 (V a).ownBlock) (hat : u'.ownBlock = (V a).ownBlock ∨ u'.ownBlock = some w1.heap.size) :
    LnI (w3.setCell ⟨g, a * 2 + 1, none⟩ u') B (.slice (some ⟨g, 0, none⟩) ks.length cap) ks (fun j => if j = a then u' else V j) (fun j => if j = a then F a ++ [num] else F j) := by
  have h1 := h.keep f1 (by simp)
  have hgb : (Value.slice (some ⟨g, 0, none⟩) ks.length cap).ownBlock = some g := rfl
  have hgl : g < w.heap.size := (h.outer.lt g hgb).2
  have hap := h.apart a ha
  have hne : (Value.slice (some ⟨g, 0, none⟩) ks.length cap).ownBlock = none ∨ (Value.slice (some ⟨g, 0, none⟩) ks.length cap).ownBlock ≠ (V a).ownBlock := by
    right
    rcases hap with e | e
    · rw [e, hgb]; simp
    · exact Ne.symm e
  have o3 := h1.outer.kept hg hne
  obtain ⟨s1, s2⟩ := o3.stored (a * 2 + 1) u'
  have hu : u'.ownBlock ≠ some g := by
    rcases hat with e | e
    · rw [e]
      rcases hap with e2 | e2
      · rw [e2]; simp
      · rw [hgb] at e2; exact e2
    · rw [e]; intro e2; injection e2 with e2; have := f1.size; omega
  refine ⟨?_, fun i hi => ?_, fun i hi => ?_, fun i j hi hj hij => ?_⟩
  · rw [lcs_set V u' ks 0 a ha] at s1
    simpa using s1
  · by_cases hia : i = a
    · subst hia
      simp only [if_true]
      rw [iv_snoc', List.length_append]
      exact ho.kept s2 (.inr hu)
    · simp only [hia, if_false]
      exact ((h1.row i hi).kept hg (h1.alone i a hi ha hia)).kept s2 (h.apart i hi)
  · by_cases hia : i = a
    · subst hia
      simp only [if_true]
      right; rw [hgb]; exact hu
    · simp only [hia, if_false]; exact h.apart i hi
  · have new : ∀ j, j < ks.length → j ≠ a → (V j).ownBlock = none ∨ (V j).ownBlock ≠ u'.ownBlock := by
      intro j hj hja
      rcases hat with e | e
      · rw [e]; exact h.alone j a hj ha hja
      · cases e2 : (V j).ownBlock with
        | none => exact .inl rfl
        | some m =>
          right
          have := (h.lt j hj m e2).2
          rw [e]; intro e3; injection e3 with e3; have := f1.size; omega
    by_cases hia : i = a
    · by_cases hja : j = a
      · omega
      · simp only [hia, hja, if_true, if_false]
        rcases hat with e | e
        · rw [e]; exact h.alone a j ha hj (by omega)
        · right
          rw [e]
          intro e3
          have := (h.lt j hj _ e3.symm).2
          have := f1.size
          omega
    · by_cases hja : j = a
      · simp only [hia, hja, if_true, if_false]; exact new i hi hia
      · simp only [hia, hja, if_false]; exact h.alone i j hi hj hij

theorem nums_len {L : List Rc} {j : Nat} {k : ByteArray} (hj : j ≤ L.length) (hl : L.length ≤ 2000) : (numsP (L.take j) k).length ≤ 2000 := by
  unfold numsP
  rw [List.length_map]
  have h1 := List.length_filter_le (fun r : Rc => decide (r.key = k)) (L.take j)
  have h2 : (L.take j).length ≤ j := List.length_take_le _ _
  omega
theorem keep_cell {W w3 : World} {row : Option Nat} (hg : W.grownBy w3 row) {p : Addr} {v : Value} (hp : W.cell? p = some v) (hne : some p.block ≠ row) : w3.cell? p = some v := by
  rw [World.cell?_of_block (w := W) (hg.block p.block (cell_lt hp) hne)]; exact hp
theorem keep_frz {W w3 : World} {row : Option Nat} (hg : W.grownBy w3 row) {p : Addr} {v : Value} (hp : W.cell? p = some v) (hf : W.frozen? p = false) (hne : some p.block ≠ row) : w3.frozen? p = false := by
  rw [World.frozen?_of_block (w := W) (hg.block p.block (cell_lt hp) hne)]; exact hf
theorem alloc_cell {w : World} (o : Obj) {p : Addr} {v : Value} {n : Nat} (h : w.cell? p = some v) : ((w.drewN n).alloc o).cell? p = some v := Keeps.alloc (w.drewN n) o p v h
theorem alloc_frz {w : World} (o : Obj) {p : Addr} {v : Value} {n : Nat} (h : w.cell? p = some v) (hf : w.frozen? p = false) : ((w.drewN n).alloc o).frozen? p = false :=
  (Below.frozen ((Below.refl _ (w.drewN n)).alloc (Nat.le_refl _) o) (p := p) (cell_lt (w := w) h)).trans hf
theorem Tryz.infoLn : (Tryz.prog.info? 168).map (fun i => (i.zero, i.size, i.bytes)) = some (some (.agg #[.string ⟨#[]⟩, .slice none 0 0]), 2, 40) := by kernel_rfl

theorem cell_two_new (w : World) (a b : Value) (t : TypeId) : ∀ j u, [a, b][j]? = some u → (w.alloc (.cells #[a, b] t)).cell? ((⟨w.heap.size, 0, none⟩ : Addr).add j) = some u := by
  intro j u hj
  match j, hj with
  | 0, hj => simp at hj; subst hj; simp [Addr.add]
  | 1, hj => simp at hj; subst hj; simp [Addr.add]
theorem LnI.congr {w : World} {B : Nat} {v : Value} {ks : List ByteArray} {V : Nat → Value} {F F' : Nat → List Int} (h : LnI w B v ks V F) (he : ∀ i, i < ks.length → F i = F' i) : LnI w B v ks V F' :=
  ⟨h.outer, fun i hi => by rw [← he i hi]; exact h.row i hi, h.apart, h.alone⟩
theorem nodup_at {ks : List ByteArray} (h : ks.Nodup) {i a : Nat} (hi : i < ks.length) (ha : a < ks.length) (e : ks[i] = ks[a]) : i = a := by
  have hp := List.pairwise_iff_getElem.1 h
  rcases Nat.lt_trichotomy i a with h1 | h1 | h1
  · exact absurd e (hp i a hi ha h1)
  · exact h1
  · exact absurd e.symm (hp a i ha hi h1)
theorem lines_old {l : List Rc} {r : Rc} {a : Nat} (hp : posF r.key 0 (firstsP l) = some a) (i : Nat) (hi : i < (firstsP l).length) :
    (if i = a then numsP l ((firstsP l).getD a ByteArray.empty) ++ [r.num] else numsP l ((firstsP l).getD i ByteArray.empty)) = numsP (l ++ [r]) ((firstsP l).getD i ByteArray.empty) := by
  obtain ⟨-, ha, hka⟩ := posF_some hp
  simp only [Nat.sub_zero] at ha hka
  have e1 : (firstsP l).getD i ByteArray.empty = (firstsP l)[i] := by simp [List.getD, hi]
  have e2 : (firstsP l).getD a ByteArray.empty = (firstsP l)[a] := by simp [List.getD, ha]
  rw [nums_snoc, e1, e2]
  by_cases hia : i = a
  · subst hia; simp [hka]
  · rw [if_neg hia, if_neg (fun e => hia (nodup_at (firsts_nodup l) hi ha (by rw [hka, ← e]))), List.append_nil]
theorem lines_new {l : List Rc} {r : Rc} (hp : posF r.key 0 (firstsP l) = none) (i : Nat) (hi : i < (firstsP l ++ [r.key]).length) :
    (if i = (firstsP l).length then (if (firstsP l).length < (firstsP l).length then numsP l ((firstsP l).getD (firstsP l).length ByteArray.empty) else []) ++ [r.num] else (if i < (firstsP l).length then numsP l ((firstsP l).getD i ByteArray.empty) else [])) = numsP (l ++ [r]) ((firstsP l ++ [r.key]).getD i ByteArray.empty) := by
  have hno := posF_none hp
  rw [nums_snoc]
  by_cases hia : i = (firstsP l).length
  · subst hia
    have e1 : (firstsP l ++ [r.key]).getD (firstsP l).length ByteArray.empty = r.key := by simp [List.getD]
    have e2 : numsP l r.key = [] := by
      unfold numsP
      rw [List.map_eq_nil_iff, List.filter_eq_nil_iff]
      intro x hx
      simp
      intro e
      exact hno _ (firsts_mem.2 ⟨x, hx, e⟩) rfl
    rw [e1, e2]; simp
  · have hi2 : i < (firstsP l).length := by simp at hi; omega
    have e1 : (firstsP l ++ [r.key]).getD i ByteArray.empty = (firstsP l)[i] := by simp [List.getD, hi2, List.getElem?_append_left hi2]
    have e2 : (firstsP l).getD i ByteArray.empty = (firstsP l)[i] := by simp [List.getD, hi2]
    rw [if_neg hia, if_pos hi2, e1, e2, if_neg (fun e => hno _ (List.getElem_mem hi2) e.symm), List.append_nil]

/-- How lines ends, ahead of the sort. -/
def LnsEnd (w : World) (L : List Rc) (wr : World) (v : Value) (V : Nat → Value) : Prop :=
  LnI wr (w.heap.size + 1) v (firstsP L) V (fun i => numsP L ((firstsP L).getD i ByteArray.empty)) ∧ Below w.heap.size w wr ∧ w.heap.size + 1 ≤ wr.heap.size

theorem firsts_len (l : List Rc) : (firstsP l).length ≤ l.length := by
  have h : ∀ R : List Rc, (firstsP R.reverse).length ≤ R.length := by
    intro R
    induction R with
    | nil => simp [firstsP]
    | cons r R ih =>
      rw [List.reverse_cons, firsts_snoc]
      split
      · simp; omega
      · simp; omega
  have := h l.reverse
  rwa [List.reverse_reverse, List.length_reverse] at this

set_option maxRecDepth 100000 in
set_option maxHeartbeats 8000000 in
theorem lines_any {w : World} {la : Option Addr} {L : List Rc} {c : Nat} (hL : RcsAt w la L) (hl : L.length ≤ 2000) (hk : ∀ r ∈ L, RcOk r) (R : Ending → World → Prop)
    (hsort : ∀ wr A cap V, LnsEnd w L wr (.slice A (firstsP L).length cap) V → Calls Tryz.prog 101 #[.slice A (firstsP L).length cap, .func (.func 102) #[] #[]] wr fun e w' => e = .returned (.tuple #[]) ∧ R (.returned (.slice A (firstsP L).length cap)) w') :
    Calls Tryz.prog 62 #[.slice la L.length c] w R := by
  obtain ⟨i0, hi0, hz0, hz1, hz2⟩ := info_parts Tryz.infoInt
  obtain ⟨j0, hj0, jz0, jz1, jz2⟩ := info_parts Tryz.infoLn
  have hmm := @run_makeMap Tryz.prog
  have hK := string_keyed (P := Tryz.prog) (k := 9) Tryz.underlying9
  have oM := World.ownsMap_made w Tryz.prog 9 (plainElem (H := Unit) Tryz.prog 3)
  have hB0 : Below w.heap.size w (w.alloc (.map #[] 0)) := (Below.refl _ w).alloc (Nat.le_refl _) _
  have hz : w.heap.size + 1 ≤ (w.alloc (.map #[] 0)).heap.size := by simp
  have HSO := Lib.hid hsort
  clear hsort
  go_enter Tryz.func62, Tryz.ntmps62
  go_wp2_with fail
  generalize w.alloc (.map #[] 0) = w1 at *
  go_loopw [4, 12] (fun v i wr => ∃ (j : Nat) (V : Nat → Value) (D : DataW Unit), j ≤ L.length ∧ i = .int .i64 j ∧ LnI wr (w.heap.size + 1) v (firstsP (L.take j)) V (fun i => numsP (L.take j) ((firstsP (L.take j)).getD i ByteArray.empty)) ∧ PMap D (firstsP (L.take j)) ∧ wr.ownsMap Tryz.prog 9 (plainElem (H := Unit) Tryz.prog 3) w.heap.size j D ∧ Below w.heap.size w wr ∧ w.heap.size + 1 ≤ wr.heap.size) (fun _ i _ => L.length - (intOf i).toNat)
  case atStart => exact ⟨0, _, _, by omega, rfl, LnI.start _ _, pmap_nil, oM, hB0, hz⟩
  case round =>
    clear oM hB0 hz
    obtain ⟨j, V, D, hj, rfl, hI, hP, hM, hB, hsz⟩ := hrel
    by_cases hlt : j < L.length
    · rcases hL with hL | ⟨lb, lo, rfl, hL⟩
      · subst hL; simp at hlt
      have hi : (j : Int) < L.length := by omega
      obtain ⟨r0, r1, r2⟩ := rcells_at L j hlt
      have d0 := Keeps.of hB _ _ (hL _ _ r0)
      have d1 := Keeps.of hB _ _ (hL _ _ r1)
      have d2 := Keeps.of hB _ _ (hL _ _ r2)
      rw [← Nat.add_assoc] at d1 d2
      have hrk := hk _ (List.getElem_mem hlt)
      have HTK : Hid (L.take (j + 1) = L.take j ++ [L[j]]) := List.take_succ_eq_append_getElem hlt
      have hfl2 : (firstsP (L.take j)).length ≤ 2000 := Nat.le_trans (firsts_len _) (by simp; omega)
      have hh := hP.has L[j].key
      have hat := hP.at_ L[j].key
      have hfs := firsts_snoc (L.take j) L[j]
      have hold := fun a => @lines_old (L.take j) L[j] a
      have hnew := @lines_new (L.take j) L[j]
      have hnl := fun k => nums_len (k := k) hj hl
      generalize L[j] = r at *
      obtain ⟨key, num, time⟩ := r
      simp only at d0 d1 d2 hfs hh hat hold hnew
      have hkey : keyOf Tryz.prog 9 (.string key) = some (.string key.data.toList) := WideMaps.keyOf_string_mk Tryz.underlying9 (by have := hrk.key; simp only at this; unfold maxLen; omega)
      clear r0 r1 r2 hL
      generalize hlj : L.take j = lj at *
      have HLJ := Lib.hid hlj
      clear hlj
      cases hp : posF key 0 (firstsP lj) with
      | some a =>
        rw [hp] at hh hat hfs
        simp only [Option.isSome_some, Option.getD_some, if_true] at hh hat hfs
        have HH := Lib.hid hh
        have HT := Lib.hid hat
        have HF2 : Hid (firstsP (L.take (j + 1)) = firstsP lj) := Lib.hid (by rw [HTK.out, hfs])
        have HFF := Lib.hid (hold a hp)
        clear hh hat hfs hold hnew
        obtain ⟨-, ha, hka⟩ := posF_some hp
        rw [Nat.sub_zero] at ha
        clear hka hp
        obtain ⟨A4, cap4, rfl⟩ := own_fm hI.outer
        have hA4 : ∃ g, A4 = some ⟨g, 0, none⟩ := by
          rcases hI.outer.2 with ⟨e0, e1⟩ | ⟨g, cap', cur, e0, _⟩
          · omega
          · simp at e0; exact ⟨g, e0.1⟩
        obtain ⟨g, rfl⟩ := hA4
        have hrow := hI.row a ha
        have hfl := hnl ((firstsP lj).getD a ByteArray.empty)
        obtain ⟨A5, cap5, hV⟩ := own_fm hrow
        have hcell := hI.outer.cellAt (a * 2 + 1) (by omega)
        rw [(lcs_at V _ 0 a ha).2, Nat.zero_add, hV] at hcell
        have hfz := hI.outer.frozenAt (a * 2 + 1)
        have hai : (a : Int) < (firstsP lj).length := by omega
        rw [hV] at hrow
        generalize hFa : numsP lj ((firstsP lj).getD a ByteArray.empty) = fa at *
        have HFA := Lib.hid hFa
        clear hFa
        go_wp2_with (at_lookup; refine wpList_lookup_known _ rfl _ _ 172 rfl 9 3 .i64 hK Tryz.underlying172 Tryz.underlying3 (Tryz.zeroValue3 _) w.heap.size j D rfl (hM.alloc _) _ _ rfl hkey a true HT.out HH.out ?_)
        clear HH HT
        refine wp_world (fun w' => LnI w' (w.heap.size + 1) (.slice (some ⟨g, 0, none⟩) (firstsP lj).length cap4) (firstsP lj) V (fun i => numsP lj ((firstsP lj).getD i ByteArray.empty)) ∧ w'.cell? ⟨g, a * 2 + 1, none⟩ = some (.slice A5 fa.length cap5) ∧ w'.frozen? ⟨g, a * 2 + 1, none⟩ = false ∧ w'.cell? ⟨wr.heap.size, 1, none⟩ = some (.int .i64 num) ∧ w'.ownsRow (w.heap.size + 1) 3 1 (.slice A5 fa.length cap5) fa.length (iv fa) ∧ w'.ownsMap Tryz.prog 9 (plainElem (H := Unit) Tryz.prog 3) w.heap.size (j + 1) D ∧ Below w.heap.size w w' ∧ w.heap.size + 1 ≤ w'.heap.size) ?_ ?_
        · exact ⟨hI.keep ((Fr.refl [] _).alloc _) (by simp), Keeps.alloc _ _ _ _ hcell, (Below.frozen ((Below.refl _ wr).alloc (Nat.le_refl _) _) (cell_lt hcell)).trans hfz, cell_new _ _ _ rfl, hrow.alloc _, (hM.alloc _).mono (by omega), hB.alloc (by omega) _, by simp; omega⟩
        have hP2 := hP
        generalize D = D2 at *
        clear hI hcell hfz hrow hM hB hsz hP
        rintro w2 ⟨hI2, q0, q1, q2, hrow2, hM2, hB2, hsz2⟩
        have hgl : g < w2.heap.size := cell_lt q0
        have hgne : some g ≠ (Value.slice A5 fa.length cap5).ownBlock := by
          rw [← hV]
          rcases hI2.apart a ha with e | e
          · rw [e]; simp
          · exact Ne.symm e
        go_region_law (refine step_append_at (by rfl) _ _ 41 (by rfl) (w.heap.size + 1) 3 i0 (.int .i64 0) 1 8 Tryz.underlying41 hi0 hz0 hz1 hz2 rfl (by decide) (.slice A5 fa.length cap5) fa.length (iv fa) (by rfl) (by exact World.ownsRow.alloc (by exact hrow2) _) ⟨w2.heap.size, 0, none⟩ 1 1 [.int .i64 num] (by rfl) rfl (by exact cell_one_new _ _ _) (by intro u hu; simp at hu; subst hu; rfl) (by unfold maxLen; omega) (by omega) (by simp; omega) ?_; intro v' w3 own' grow hat; obtain ⟨A6, cap6, rfl⟩ := own_fm own'; have k0 := keep_cell grow (p := ⟨g, a * 2 + 1, none⟩) (v := .slice A5 fa.length cap5) (by exact alloc_cell _ q0) hgne; have k1 := keep_frz grow (p := ⟨g, a * 2 + 1, none⟩) (v := .slice A5 fa.length cap5) (by exact alloc_cell _ q0) (by exact alloc_frz _ q0 q1) hgne)
        all_goals
          have f1 : Fr [] w2 ((w2.drewN 1).alloc (.cells #[.int .i64 num] 3)) := ((Fr.refl [] w2).drewN 1).alloc _
          have hb3 : Below w.heap.size w ((w2.drewN 1).alloc (.cells #[.int .i64 num] 3)) := (below_drewN hB2 1).alloc (by show _ ≤ w2.heap.size; omega) _
          have hIn := hI2.add (num := num) ha f1 (by rw [HFA.out]; exact own') (by rw [hV]; exact grow) (by rw [hV]; exact hat)
          have hBn : Below w.heap.size w (w3.setCell ⟨g, a * 2 + 1, none⟩ (.slice A6 (fa.length + 1) cap6)) := ((hb3.grown grow (by simp; omega) (fun k hk => by have := (hrow2.lt k hk).1; omega)).setCell (p := ⟨g, a * 2 + 1, none⟩) (by have := (hI2.outer.lt g rfl).1; show _ ≤ g; omega) _)
          have hMn : (w3.setCell ⟨g, a * 2 + 1, none⟩ (.slice A6 (fa.length + 1) cap6)).ownsMap Tryz.prog 9 (plainElem (H := Unit) Tryz.prog 3) w.heap.size (j + 1) D2 := own_block (own_block hM2 ((grow.block w.heap.size (by simp; omega) (fun e => by have := (hrow2.lt _ e.symm).1; omega)).trans (Below.heap_alloc _ _ _ (by show _ < w2.heap.size; omega)))) (Below.heap_setCell _ _ _ _ (by have := (hI2.outer.lt g rfl).1; show _ ≠ g; omega))
          have hzn : w.heap.size + 1 ≤ (w3.setCell ⟨g, a * 2 + 1, none⟩ (.slice A6 (fa.length + 1) cap6)).heap.size := by have := grow.size; simp at this ⊢; omega
          clear own' grow hat k0 k1
          go_wp2
          refine ⟨⟨j + 1, (fun q => if q = a then .slice A6 (fa.length + 1) cap6 else V q), D2, by omega, by go_num, ?_, ?_, hMn, hBn, hzn⟩, by simp [intOf]; omega⟩
          · rw [HF2.out, HTK.out]
            refine hIn.congr ?_
            rw [HFA.out]
            exact HFF.out
          · rw [HF2.out]; exact hP2
      | none =>
        rw [hp] at hh hat hfs
        simp only [Option.isSome_none, Option.getD_none, Bool.false_eq_true, if_false] at hh hat hfs
        have HH := Lib.hid hh
        have HT := Lib.hid hat
        have HF2 : Hid (firstsP (L.take (j + 1)) = firstsP lj ++ [key]) := Lib.hid (by rw [HTK.out, hfs])
        have HFF := Lib.hid (hnew hp)
        have hP2 := hP.put hp
        clear hh hat hfs hold hnew hp
        have hwf : (Lit.int .i64 ((firstsP lj).length : Int)).wf = true := WalkArith.wf_i64 (by omega)
        have hmx : j < maxLen := by unfold maxLen; omega
        obtain ⟨A4, cap4, rfl⟩ := own_fm hI.outer
        generalize hD2 : D.put (.string key.data.toList) (.lit (.int .i64 ((firstsP lj).length : Int))) = D2 at *
        have HD2 := Lib.hid hD2
        clear hD2
        have hI1 := hI.keep ((Fr.refl [] _).alloc (.cells #[.string key, .int .i64 num, .int .i64 time] 164)) (by simp)
        have hB1 : Below w.heap.size w (wr.alloc (.cells #[.string key, .int .i64 num, .int .i64 time] 164)) := hB.alloc (by omega) _
        have hbx : (wr.alloc (.cells #[.string key, .int .i64 num, .int .i64 time] 164)).cell? ⟨wr.heap.size, 1, none⟩ = some (.int .i64 num) := cell_new _ _ _ rfl
        have hbk : (wr.alloc (.cells #[.string key, .int .i64 num, .int .i64 time] 164)).cell? ⟨wr.heap.size, 0, none⟩ = some (.string key) := cell_new _ _ _ rfl
        have hza : w.heap.size + 1 < (wr.alloc (.cells #[.string key, .int .i64 num, .int .i64 time] 164)).heap.size := by simp; omega
        have hzb : wr.heap.size < (wr.alloc (.cells #[.string key, .int .i64 num, .int .i64 time] 164)).heap.size := by simp
        have HWR : Hid ((Value.slice A4 (firstsP lj).length cap4).ownBlock ≠ some wr.heap.size) := fun e => by have := (hI.outer.lt _ e).2; omega
        go_wp2_with (first
          | (at_lookup; refine wpList_lookup_known _ rfl _ _ 172 rfl 9 3 .i64 hK Tryz.underlying172 Tryz.underlying3 (Tryz.zeroValue3 _) w.heap.size j D rfl (hM.alloc _) _ _ rfl hkey 0 false HT.out HH.out ?_)
          | (at_mapUpdate; refine wpList_mapUpdate_own _ rfl _ _ _ 172 rfl 9 3 hK Tryz.underlying172 _ w.heap.size j _ rfl (hM.alloc _) hmx _ _ _ rfl rfl hkey _ [] (plainElem_int Tryz.underlying3 hwf) ?_; intro w4 hM4 hg4; refine Hid.out ?_))
        refine Lib.hid ?_
        rw [HD2.out] at hM4
        have k4 : ∀ (p : Addr) (u : Value), p.block ≠ w.heap.size → (wr.alloc (.cells #[.string key, .int .i64 num, .int .i64 time] 164)).cell? p = some u → w4.cell? p = some u := fun p u hp' hu => by
          rw [World.cell?_of_block (w := wr.alloc (.cells #[.string key, .int .i64 num, .int .i64 time] 164)) (hg4.block p.block (cell_lt hu) (fun e => hp' (by injection e)))]; exact hu
        have b4 := k4 _ _ (by show wr.heap.size ≠ _; omega) hbx
        have bk4 := k4 _ _ (by show wr.heap.size ≠ _; omega) hbk
        have F4 : Fr [w.heap.size] (wr.alloc (.cells #[.string key, .int .i64 num, .int .i64 time] 164)) w4 := ⟨hg4.os, hg4.tape, hg4.output, hg4.size, fun k hk' hx => hg4.block k hk' (fun e => hx (by injection e with e; simp [e]))⟩
        have hI4 := hI1.keep F4 (by simp)
        have hB4 : Below w.heap.size w w4 := hB1.grown hg4 (by omega) (fun k e => by injection e with e; omega)
        have hz4 : w.heap.size + 1 < w4.heap.size := Nat.lt_of_lt_of_le hza hg4.size
        have hz4b : wr.heap.size < w4.heap.size := Nat.lt_of_lt_of_le hzb hg4.size
        clear k4 F4 hg4 hI1 hB1 hbx hbk hza hzb hI hM hB HH HT
        go_wp2_with (at_builtin; refine wpList_append_own_at _ rfl _ _ 110 rfl (w.heap.size + 1) 168 j0 (.agg #[.string ⟨#[]⟩, .slice none 0 0]) 2 40 Tryz.underlying110 hj0 jz0 jz1 jz2 rfl (by decide) _ _ _ rfl (hI4.outer.alloc _) ⟨w4.heap.size, 0, none⟩ 1 1 [.string key, .slice none 0 0] rfl rfl (cell_two_new _ _ _ _) (by intro u hu; simp at hu; rcases hu with rfl | rfl <;> rfl) (by unfold maxLen; omega) (by omega) (by simp; omega) ?_; intro v5 w5 hown5 hg5 _ hat5; refine Hid.out ?_)
        refine Lib.hid ?_
        have hI4a := hI4.keep ((Fr.refl [] w4).alloc (.cells #[.string key, .slice none 0 0] 168)) (by simp)
        obtain ⟨V5, F5, hI5, hF5⟩ : ∃ V5 F5, LnI w5 (w.heap.size + 1) v5 (firstsP lj ++ [key]) V5 F5 ∧ F5 = (fun i => if i < (firstsP lj).length then numsP lj ((firstsP lj).getD i ByteArray.empty) else []) :=
          ⟨_, _, hI4a.more key (by simpa using hown5) hg5 (by
            rcases hat5 with e | e
            · exact .inl e
            · exact .inr ⟨_, Nat.le_refl _, e⟩), rfl⟩
        have hB4a : Below w.heap.size w (w4.alloc (.cells #[.string key, .slice none 0 0] 168)) := hB4.alloc (by omega) _
        have hB5 : Below w.heap.size w w5 := hB4a.grown hg5 (by simp; omega) (fun k hk' => by have := (hI4.outer.lt k hk').1; omega)
        have hM5 : w5.ownsMap Tryz.prog 9 (plainElem (H := Unit) Tryz.prog 3) w.heap.size (j + 1) D2 := own_block hM4 ((hg5.block w.heap.size (by simp; omega) (fun e => by have := (hI4.outer.lt _ e.symm).1; omega)).trans (Below.heap_alloc _ _ _ (by omega)))
        have b5 : w5.cell? ⟨wr.heap.size, 1, none⟩ = some (.int .i64 num) := by
          refine keep_cell hg5 (p := ⟨wr.heap.size, 1, none⟩) (Keeps.alloc w4 _ _ _ b4) ?_
          exact fun e => HWR.out e.symm
        have hz5 : w.heap.size + 1 ≤ w5.heap.size := by have := hg5.size; simp at this; omega
        have ha : (firstsP lj).length < (firstsP lj ++ [key]).length := by simp
        have hFF5 : ∀ i, i < (firstsP lj ++ [key]).length → (if i = (firstsP lj).length then F5 (firstsP lj).length ++ [num] else F5 i) = numsP (lj ++ [{ key := key, num := num, time := time }]) ((firstsP lj ++ [key]).getD i ByteArray.empty) := by rw [hF5]; exact HFF.out
        have hfl : (F5 (firstsP lj).length).length ≤ 2000 := by rw [hF5]; simp
        have HFF := Lib.hid hFF5
        clear hFF5 hF5
        obtain ⟨A6', cap6', rfl⟩ := own_fm hI5.outer
        have hA6 : ∃ g, A6' = some ⟨g, 0, none⟩ := by
          rcases hI5.outer.2 with ⟨e0, e1⟩ | ⟨g, cap', cur, e0, _⟩
          · omega
          · simp only [Value.slice.injEq] at e0; exact ⟨g, e0.1⟩
        obtain ⟨g, rfl⟩ := hA6
        have hrow2 := hI5.row _ ha
        obtain ⟨A5, cap5, hV⟩ := own_fm hrow2
        have q0 := hI5.outer.cellAt ((firstsP lj).length * 2 + 1) (by omega)
        rw [(lcs_at V5 _ 0 _ ha).2, Nat.zero_add, hV] at q0
        have q1 := hI5.outer.frozenAt ((firstsP lj).length * 2 + 1)
        rw [hV] at hrow2
        have HLK : Hid ((firstsP lj ++ [key]).length = (firstsP lj).length + 1) := Lib.hid (by simp)
        have hla : ((firstsP lj).length : Int) < ((firstsP lj ++ [key]).length : Nat) := by omega
        generalize hks : firstsP lj ++ [key] = ks5 at *
        generalize hal : (firstsP lj).length = a at *
        generalize hFa : F5 a = fa at *
        have HFA := Lib.hid hFa
        clear hFa hks hal hown5 hg5 hat5 hI4 hI4a b4 bk4 hB4 hB4a hM4 hP HLK
        have q2 := b5
        have hI2 := hI5
        have hM2 := hM5
        have hB2 := hB5
        have hsz2 := hz5
        clear hI5 hM5 hB5 hz5 b5
        generalize w5 = w2 at *
        go_wp2_with fail
        have hgl : g < w2.heap.size := cell_lt q0
        have hgne : some g ≠ (Value.slice A5 fa.length cap5).ownBlock := by
          rw [← hV]
          rcases hI2.apart a ha with e | e
          · rw [e]; simp
          · exact Ne.symm e
        go_region_law (refine step_append_at (by rfl) _ _ 41 (by rfl) (w.heap.size + 1) 3 i0 (.int .i64 0) 1 8 Tryz.underlying41 hi0 hz0 hz1 hz2 rfl (by decide) (.slice A5 fa.length cap5) fa.length (iv fa) (by rfl) (by exact World.ownsRow.alloc (by exact hrow2) _) ⟨w2.heap.size, 0, none⟩ 1 1 [.int .i64 num] (by rfl) rfl (by exact cell_one_new _ _ _) (by intro u hu; simp at hu; subst hu; rfl) (by unfold maxLen; omega) (by omega) (by simp; omega) ?_; intro v' w3 own' grow hat; obtain ⟨A6, cap6, rfl⟩ := own_fm own'; have k0 := keep_cell grow (p := ⟨g, a * 2 + 1, none⟩) (v := .slice A5 fa.length cap5) (by exact alloc_cell _ q0) hgne; have k1 := keep_frz grow (p := ⟨g, a * 2 + 1, none⟩) (v := .slice A5 fa.length cap5) (by exact alloc_cell _ q0) (by exact alloc_frz _ q0 q1) hgne)
        all_goals
          have f1 : Fr [] w2 ((w2.drewN 1).alloc (.cells #[.int .i64 num] 3)) := ((Fr.refl [] w2).drewN 1).alloc _
          have hb3 : Below w.heap.size w ((w2.drewN 1).alloc (.cells #[.int .i64 num] 3)) := (below_drewN hB2 1).alloc (by show _ ≤ w2.heap.size; omega) _
          have hIn := hI2.add (num := num) ha f1 (by rw [HFA.out]; exact own') (by rw [hV]; exact grow) (by rw [hV]; exact hat)
          have hBn : Below w.heap.size w (w3.setCell ⟨g, a * 2 + 1, none⟩ (.slice A6 (fa.length + 1) cap6)) := ((hb3.grown grow (by simp; omega) (fun k hk => by have := (hrow2.lt k hk).1; omega)).setCell (p := ⟨g, a * 2 + 1, none⟩) (by have := (hI2.outer.lt g rfl).1; show _ ≤ g; omega) _)
          have hMn : (w3.setCell ⟨g, a * 2 + 1, none⟩ (.slice A6 (fa.length + 1) cap6)).ownsMap Tryz.prog 9 (plainElem (H := Unit) Tryz.prog 3) w.heap.size (j + 1) D2 := own_block (own_block hM2 ((grow.block w.heap.size (by simp; omega) (fun e => by have := (hrow2.lt _ e.symm).1; omega)).trans (Below.heap_alloc _ _ _ (by show _ < w2.heap.size; omega)))) (Below.heap_setCell _ _ _ _ (by have := (hI2.outer.lt g rfl).1; show _ ≠ g; omega))
          have hzn : w.heap.size + 1 ≤ (w3.setCell ⟨g, a * 2 + 1, none⟩ (.slice A6 (fa.length + 1) cap6)).heap.size := by have := grow.size; simp at this ⊢; omega
          clear own' grow hat k0 k1
          go_wp2
          refine ⟨⟨j + 1, (fun q => if q = a then .slice A6 (fa.length + 1) cap6 else V5 q), D2, by omega, by go_num, ?_, ?_, hMn, hBn, hzn⟩, by simp [intOf]; omega⟩
          · rw [HF2.out, HTK.out]
            refine hIn.congr ?_
            rw [HFA.out]
            exact HFF.out
          · rw [HF2.out]; exact hP2
    · have hi : ¬ (j : Int) < L.length := by omega
      have hjl : L.take j = L := List.take_of_length_le (by omega)
      rw [hjl] at hI hP
      obtain ⟨A4, cap4, rfl⟩ := own_fm hI.outer
      have hso := HSO.out wr A4 cap4 V ⟨hI, hB, hsz⟩
      clear hjl
      go_wp2_with (go_at_call 101; refine hso.mono ?_; rintro e w' ⟨rfl, hR⟩)
      exact hR
end Go.Proofs.YthadeccnibnioaaGreatDoor

/- lines: the sort. -/
namespace Go.Proofs.YthadeccnibnioaaGreatDoor
open Go.RowKit Go.Shelf
open Go.Sort (grow alloc_eq_grow grow_grow putRowK HoldsK size_flatK get_flatK flatK)
set_option linter.unusedVariables false

/-- A line by its number among the keys. -/
def encL (ks : List ByteArray) (V : Nat → Value) (i : Nat) : List Value := [.string (ks.getD i ByteArray.empty), V i]
def cfL (ks : List ByteArray) (i j : Nat) : Int := Lib.compareBytes (ks.getD i ByteArray.empty).data.toList (ks.getD j ByteArray.empty).data.toList
theorem ltL (ks : List ByteArray) (i j : Nat) : ltOf (cfL ks) i j = decide ((ks.getD i ByteArray.empty).data.toList < (ks.getD j ByteArray.empty).data.toList) := by
  unfold ltOf cfL
  exact decide_eq_decide.2 (cmp_lt _ _)
theorem swoL (ks : List ByteArray) : Sort.SWO (ltOf (cfL ks)) where
  irrefl x := by rw [ltL]; exact decide_eq_false (List.lt_irrefl _)
  trans x y z h1 h2 := by
    rw [ltL, decide_eq_true_eq] at *
    exact List.lt_trans h1 h2
  ntrans x y z h1 h2 := by
    rw [ltL, decide_eq_false_iff_not, List.not_lt] at *
    exact List.le_trans h2 h1

set_option maxHeartbeats 1000000 in
theorem cmpL_any (a b : ByteArray) (u v : Value) (A1 A2 : Option Addr) (n1 n2 c1 c2 : Nat) (hu : u = .slice A1 n1 c1) (hv : v = .slice A2 n2 c2) (W : World) :
    Calls Tryz.prog 102 #[.agg #[.string a, u], .agg #[.string b, v]] W fun e w' => e = .returned (.int .i64 (Lib.compareBytes a.data.toList b.data.toList)) ∧ ∃ q os', w' = grow (W.drewN q) os' := by
  have hcon := fun W' => Tryz.strings_Compare a b W'
  generalize Lib.compareBytes a.data.toList b.data.toList = r at hcon ⊢
  subst hu hv
  go_enter Tryz.func102, Tryz.ntmps102
  go_wp2_with (go_at_call 103; refine (hcon _).mono ?_; rintro e w' ⟨rfl, rfl⟩)
  go_ret
  exact ⟨rfl, 0, _, by rw [alloc_eq_grow, alloc_eq_grow, grow_grow]; rfl⟩

theorem LnI.norm {w : World} {B : Nat} {v : Value} {ks : List ByteArray} {V : Nat → Value} {F : Nat → List Int} (h : LnI w B v ks V F) : ∃ V', LnI w B v ks V' F ∧ ∀ i, ∃ A n c, V' i = .slice A n c := by
  refine ⟨fun i => if i < ks.length then V i else .slice none 0 0, ⟨?_, fun i hi => ?_, fun i hi => ?_, fun i j hi hj hij => ?_⟩, fun i => ?_⟩
  · rw [← lcs_congr (V := V) ks 0 (fun j _ hj => by rw [if_pos (by omega)])]; exact h.outer
  · simp only [hi, if_true]; exact h.row i hi
  · simp only [hi, if_true]; exact h.apart i hi
  · simp only [hi, hj, if_true]; exact h.alone i j hi hj hij
  · by_cases hi : i < ks.length
    · obtain ⟨A, c, e⟩ := own_fm (h.row i hi)
      exact ⟨A, _, c, by simp only [hi, if_true]; exact e⟩
    · exact ⟨none, 0, 0, by simp only [hi, if_false]⟩

theorem below_sort {α : Type} [Inhabited α] (enc : α → List Value) (k : Nat) (w : World) (blk off m : Nat) (dk : Array α) (os : Array Obj) {B : Nat} (hB : B ≤ blk) (hw : B ≤ w.heap.size) : Below B w (sortWorldK enc k w blk off m dk os) := by
  refine ⟨rfl, rfl, rfl, ?_, fun b hb => ?_⟩
  · exact size_sortWorldK_c enc k w blk off m dk os
  · unfold sortWorldK
    rw [Sort.heap_grow_old _ _ (by show b < (putRowK enc k (Sort.ahead w m) blk off dk).heap.size; unfold putRowK; rw [Sort.size_putRow]; show b < w.heap.size; omega)]
    unfold putRowK Sort.putRow
    show (Sort.mapBlock (Sort.ahead w m) blk _).heap[b]? = w.heap[b]?
    simp only [Sort.mapBlock, Sort.ahead]
    rw [Array.getElem?_modify]
    rw [if_neg (by omega)]

theorem holds_lines {w : World} {B g cap : Nat} {ks : List ByteArray} {V : Nat → Value} {F : Nat → List Int} (h : LnI w B (.slice (some ⟨g, 0, none⟩) ks.length cap) ks V F) : HoldsK (encL ks V) 2 w g 0 (Array.range ks.length) := by
  intro t ht
  simp only [size_flatK, Array.size_range] at ht
  rw [get_flatK _ _ _ _ (by simpa using ht)]
  have h2 : t / 2 < ks.length := by omega
  refine ⟨?_, by rw [Nat.zero_add]; exact h.outer.frozenAt t⟩
  rw [Nat.zero_add, h.outer.cellAt t ht]
  have e1 : (Array.range ks.length)[t / 2]! = t / 2 := by simp [h2]
  rw [e1]
  obtain ⟨l1, l2⟩ := lcs_at V ks 0 (t / 2) h2
  rcases Nat.mod_two_eq_zero_or_one t with hm | hm
  · rw [hm]
    have et : t = t / 2 * 2 := by omega
    rw [show (lcs V 0 ks)[t]? = (lcs V 0 ks)[t / 2 * 2]? from by rw [← et], l1]
    simp [encL, h2]
  · rw [hm]
    have et : t = t / 2 * 2 + 1 := by omega
    rw [show (lcs V 0 ks)[t]? = (lcs V 0 ks)[t / 2 * 2 + 1]? from by rw [← et], l2]
    simp [encL]
/-- A line's two cells. -/
def LnAt (w : World) (b o : Nat) (l : Ln) : Prop :=
  w.cell? ⟨b, o, none⟩ = some (.string l.1) ∧ (∃ fa fc, w.cell? ⟨b, o + 1, none⟩ = some (.slice fa l.2.length fc) ∧ IntsAt w fa l.2 ∧ l.2.length ≤ fc ∧ fc ≤ 9223372036854775807) ∧ l.1.size ≤ 9223372036854775807
def LnsAt (w : World) (la : Option Addr) (L : List Ln) : Prop :=
  L = [] ∨ ∃ b o, la = some ⟨b, o, none⟩ ∧ ∀ (i : Nat) (h : i < L.length), LnAt w b (o + i * 2) L[i]

theorem LnAt.keep {w w' : World} {b o : Nat} {l : Ln} (h : LnAt w b o l) (k : Keeps w w') : LnAt w' b o l := by
  obtain ⟨h0, ⟨fa, fc, h1, h2, h3⟩, h4⟩ := h
  exact ⟨k _ _ h0, ⟨fa, fc, k _ _ h1, h2.keep k, h3⟩, h4⟩
theorem LnsAt.keep {w w' : World} {la : Option Addr} {L : List Ln} (h : LnsAt w la L) (k : Keeps w w') : LnsAt w' la L := by
  rcases h with h | ⟨b, o, h1, h2⟩
  · exact .inl h
  · exact .inr ⟨b, o, h1, fun i hi => (h2 i hi).keep k⟩

/-- Lines that hold wherever the cells of the blocks from lo up to hi are kept. -/
def LnsK (lo hi : Nat) (w : World) (A : Option Addr) (L : List Ln) : Prop := ∀ w'', (∀ (p : Addr) (v : Value), lo ≤ p.block → p.block < hi → w.cell? p = some v → w''.cell? p = some v) → LnsAt w'' A L
theorem LnsK.here {lo hi : Nat} {w : World} {A : Option Addr} {L : List Ln} (h : LnsK lo hi w A L) : LnsAt w A L := h w (fun _ _ _ _ hv => hv)
theorem LnsK.step {lo hi : Nat} {w w' : World} {A : Option Addr} {L : List Ln} (h : LnsK lo hi w A L) (k : ∀ (p : Addr) (v : Value), lo ≤ p.block → p.block < hi → w.cell? p = some v → w'.cell? p = some v) : LnsK lo hi w' A L :=
  fun w'' k2 => h w'' (fun p v h1 h2 hv => k2 p v h1 h2 (k p v h1 h2 hv))
theorem own_ints2 {w w' : World} {B n cap : Nat} {A : Option Addr} {z : List Int} (h : w.ownsRow B 3 1 (.slice A n cap) n (iv z)) (hn : n = z.length) (hk : ∀ (p : Addr) (u : Value), some p.block = (Value.slice A n cap).ownBlock → w.cell? p = some u → w'.cell? p = some u) : IntsAt w' A z ∧ n ≤ cap ∧ cap ≤ 9223372036854775807 := by
  subst hn
  rcases h.2 with ⟨h0, h1⟩ | ⟨g, cap', cur, h0, hb, hg, hle, hm, hs, ht⟩
  · simp only [Value.slice.injEq] at h0
    exact ⟨.inl (List.length_eq_zero_iff.1 h1), by omega, by omega⟩
  · simp only [Value.slice.injEq, true_and] at h0
    obtain ⟨rfl, rfl⟩ := h0
    refine ⟨.inr ⟨g, 0, rfl, fun j hj => ?_⟩, hle, hm⟩
    rw [Nat.zero_add]
    refine hk ⟨g, j, none⟩ _ rfl ?_
    rw [h.cellAt j (by omega)]
    simp [iv, hj]
theorem range_map (ks : List ByteArray) : (List.range ks.length).map (fun i => ks.getD i ByteArray.empty) = ks := by
  apply List.ext_getElem
  · simp
  · intro i h1 h2
    simp [List.getD, h2]

theorem lines_len (L : List Rc) : (linesP L).length = (firstsP L).length := by
  unfold linesP keysP; rw [List.length_map, List.length_mergeSort]

set_option maxHeartbeats 1000000 in
theorem lines_ok {w : World} {la : Option Addr} {L : List Rc} {c : Nat} (hL : RcsAt w la L) (hl : L.length ≤ 2000) (hk : ∀ r ∈ L, RcOk r) :
    Calls Tryz.prog 62 #[.slice la L.length c] w fun e w' => ∃ A cap, e = .returned (.slice A (linesP L).length cap) ∧ LnsK w.heap.size w'.heap.size w' A (linesP L) ∧ (linesP L).length ≤ cap ∧ Below w.heap.size w w' := by
  refine lines_any hL hl hk _ ?_
  rintro wr A cap V0 ⟨hI0, hB, hsz⟩
  obtain ⟨V, hI, hVs⟩ := hI0.norm
  clear hI0
  have hlen := lines_len L
  have hf2 : (firstsP L).length ≤ 2000 := Nat.le_trans (firsts_len _) hl
  rcases hI.outer.2 with ⟨e0, e1⟩ | ⟨g, cap', cur, e0, hgb, hgc, hle, hm, hs, htk⟩
  · have hA : A = none ∧ cap = 0 := by simp only [Value.slice.injEq] at e0; exact ⟨e0.1, e0.2.2⟩
    obtain ⟨rfl, rfl⟩ := hA
    have h0 : firstsP L = [] := List.length_eq_zero_iff.1 e1
    have hc := AnyF.slices_SortFunc_none Tryz.sortLn none 0 (.func (.func 102) #[] #[]) wr
    change Calls Tryz.prog 101 _ _ _ at hc
    rw [h0]
    refine hc.mono ?_
    rintro e w' ⟨rfl, rfl⟩
    rw [h0] at hlen
    exact ⟨rfl, none, 0, by rw [hlen], fun _ _ => .inl (List.length_eq_zero_iff.1 hlen), by rw [hlen]; exact Nat.le_refl _, hB⟩
  · simp only [Value.slice.injEq] at e0
    obtain ⟨rfl, -, rfl⟩ := e0
    have hH := holds_lines hI
    have hgl : g < wr.heap.size := (hI.outer.lt g rfl).2
    have eg : ∀ args w, (callFunc 102 args).run Tryz.prog w = .ok (.enter 102 args) w := enters_of Tryz.func102 (by kernel_rfl) rfl
    have hcmp : CmpLays Tryz.prog 102 #[] (encL (firstsP L) V) 2 (cfL (firstsP L)) g 0 (Array.range (firstsP L).length).size wr := fun m os dk _ x y => by
      obtain ⟨A1, n1, c1, h1⟩ := hVs x
      obtain ⟨A2, n2, c2, h2⟩ := hVs y
      exact cmpL_any _ _ _ _ A1 A2 n1 n2 c1 c2 h1 h2 _
    have hc := AnyQ.slices_SortFunc Tryz.sortLn 2 Tryz.isAgg168 Tryz.sizeOf168 (encL (firstsP L) V) (fun _ => rfl) (fun x v hv => by
      simp [encL] at hv
      rcases hv with rfl | rfl
      · rfl
      · obtain ⟨A1, n1, c1, h1⟩ := hVs x; rw [h1]; rfl) (cfL (firstsP L)) (swoL _) 102 #[] g 0 cap (Array.range (firstsP L).length) wr eg hcmp hH hgl (by simp; omega)
    change Calls Tryz.prog 101 _ _ _ at hc
    simp only [Array.size_range] at hc
    refine hc.mono ?_
    rintro e w' ⟨rfl, d', m, os, hp, hso, rfl⟩
    obtain ⟨hp1, -, hp3⟩ := hp
    simp only [Array.size_range] at hp1
    have hperm : d'.toList.Perm (List.range (firstsP L).length) := by
      have e1 : d'.extract 0 (firstsP L).length = d' := by rw [← hp1]; simp
      have e2 : (Array.range (firstsP L).length).extract 0 (firstsP L).length = Array.range (firstsP L).length := by
        simp
      rw [e1, e2] at hp3
      simpa using hp3
    have hKp : (d'.toList.map fun i => (firstsP L).getD i ByteArray.empty).Perm (firstsP L) := by
      have := hperm.map (fun i => (firstsP L).getD i ByteArray.empty)
      rwa [range_map] at this
    have hKs : (d'.toList.map fun i => (firstsP L).getD i ByteArray.empty).Pairwise fun a b => kle a b = true := by
      rw [List.pairwise_map, List.pairwise_iff_getElem]
      intro i j hi hj hij
      have hi' : i < d'.size := by simpa using hi
      have hj' : j < d'.size := by simpa using hj
      have := hso i j (Nat.zero_le _) hij (by omega)
      rw [ltL, decide_eq_false_iff_not, List.not_lt] at this
      simp only [getElem!_pos d' i hi', getElem!_pos d' j hj'] at this
      simpa [kle] using this
    have hK := keys_eq hKp hKs
    have hHd := holdsK_sortWorldK_c (encL (firstsP L) V) 2 wr g 0 (Array.range (firstsP L).length) d' m os hH hgl (by simpa using hp1)
    have hBs : Below w.heap.size w (sortWorldK (encL (firstsP L) V) 2 wr g 0 m d' os) := hB.trans ((below_sort _ _ wr g 0 m d' os (by omega) (by omega)))
    refine ⟨rfl, some ⟨g, 0, none⟩, cap, by rw [hlen], fun w'' hw'' => .inr ⟨g, 0, rfl, fun i hi => ?_⟩, by rw [hlen]; exact hle, hBs⟩
    have hKc : ∀ (p : Addr) (v : Value), w.heap.size ≤ p.block → (sortWorldK (encL (firstsP L) V) 2 wr g 0 m d' os).cell? p = some v → w''.cell? p = some v := fun p v h1 h2 => hw'' p v h1 (cell_lt h2) h2
    have hi' : i < d'.size := by rw [hlen] at hi; omega
    have hx : d'[i]! < (firstsP L).length := by
      rw [getElem!_pos d' i hi']
      have := hperm.mem_iff.1 (show d'[i] ∈ d'.toList by simp)
      simpa using this
    have hel : (linesP L)[i] = ((firstsP L).getD d'[i]! ByteArray.empty, numsP L ((firstsP L).getD d'[i]! ByteArray.empty)) := by
      simp only [linesP, ← hK, List.getElem_map, Array.getElem_toList, getElem!_pos d' i hi']
    have c0 := (hHd.cell hi' (show 0 < 2 by omega)).1
    have c1 := (hHd.cell hi' (show 1 < 2 by omega)).1
    obtain ⟨A1, n1, cp1, hv1⟩ := hVs d'[i]!
    have hrow := hI.row _ hx
    obtain ⟨A2, cp2, hv2⟩ := own_fm hrow
    rw [hv2] at hrow
    have hap := hI.apart _ hx
    rw [hv2] at hap
    have hint := own_ints2 (w' := w'') hrow rfl (fun p u hp' hu => by
      refine hKc p u (by have := (hrow.lt p.block hp'.symm).1; omega) ?_
      rw [cell?_sortWorldK_other _ _ _ _ _ _ _ _ _ (fun e => by
        rcases hap with e2 | e2
        · rw [e2] at hp'; cases hp'
        · exact e2 (by rw [← hp', e]; rfl)) (cell_lt hu)]
      exact hu)
    rw [hel]
    simp only [encL, List.getElem!_cons_zero] at c0
    rw [show (encL (firstsP L) V d'[i]!)[1]! = V d'[i]! from rfl, hv2] at c1
    have c0' := hKc _ _ (show w.heap.size ≤ g by omega) c0
    have c1' := hKc _ _ (show w.heap.size ≤ g by omega) c1
    refine ⟨by simpa using c0', ⟨A2, cp2, by simpa using c1', hint.1, hint.2.1, hint.2.2⟩, ?_⟩
    have hmem : (firstsP L).getD d'[i]! ByteArray.empty ∈ firstsP L := by
      have : (firstsP L).getD d'[i]! ByteArray.empty = (firstsP L)[d'[i]!] := by simp [List.getD, hx]
      rw [this]; exact List.getElem_mem hx
    obtain ⟨r, hr, he⟩ := firsts_mem.1 hmem
    have := (hk r hr).key
    show ((firstsP L).getD d'[i]! ByteArray.empty).size ≤ _
    rw [← he]; omega
end Go.Proofs.YthadeccnibnioaaGreatDoor

/- All. -/
namespace Go.Proofs.YthadeccnibnioaaGreatDoor
open Go.RowKit
set_option linter.unusedVariables false

theorem sources_bad {w : World} (hg : Gl w) {la : Option Addr} {L : List Nd} {c : Nat} (hL : NdsAt w la L) (hc : L.length ≤ c) (h0 : jobP L ≠ 0) :
    Calls Tryz.prog 20 #[.slice la L.length c] w fun e w' => e = .returned (.tuple #[.slice none 0 0, errV (jobP L)]) ∧ Below w.heap.size w w' := by
  have ck := ofKind_bad hg hL hc 1 h0
  rw [errV_pos h0] at ck ⊢
  clear hL hg
  go_enter Tryz.func20, Tryz.ntmps20
  go_wp2_with (go_at_call 52; refine ck.mono ?_; rintro e w' ⟨rfl, hb2⟩)
  go_ret2
  exact ⟨rfl, hb2⟩
theorem sources_ok {w : World} (hg : Gl w) {la : Option Addr} {L : List Nd} {c : Nat} (hL : NdsAt w la L) (hc : L.length ≤ c) (h0 : jobP L = 0) :
    Calls Tryz.prog 20 #[.slice la L.length c] w fun e w' => ∃ A cap, e = .returned (.tuple #[.slice A (srcs L) cap, .nilIface]) ∧ Below w.heap.size w w' := by
  have ck := ofKind_ok hg hL hc 1 h0
  have hln := of_len L 1
  clear hL hg
  go_enter Tryz.func20, Tryz.ntmps20
  go_wp2_with (go_at_call 52; refine ck.mono ?_; rintro e w' ⟨v, rfl, hown, hb2⟩)
  go_ret2
  obtain ⟨A, cap, rfl⟩ := own_fm hown
  exact ⟨A, cap, by rw [hln]; rfl, hb2⟩

/-- Lists of lines behind a slice. -/
def SksAt (w : World) (A : Option Addr) (LL : List (List Ln)) : Prop :=
  LL = [] ∨ ∃ b o, A = some ⟨b, o, none⟩ ∧ ∀ (i : Nat) (h : i < LL.length), ∃ la cap, w.cell? ⟨b, o + i, none⟩ = some (.slice la LL[i].length cap) ∧ LnsAt w la LL[i] ∧ LL[i].length ≤ cap
theorem SksAt.keep {w w' : World} {A : Option Addr} {LL : List (List Ln)} (h : SksAt w A LL) (k : Keeps w w') : SksAt w' A LL := by
  rcases h with h | ⟨b, o, h1, h2⟩
  · exact .inl h
  · refine .inr ⟨b, o, h1, fun i hi => ?_⟩
    obtain ⟨la, cap, e1, e2, e3⟩ := h2 i hi
    exact ⟨la, cap, k _ _ e1, e2.keep k, e3⟩

/-- How All ends. -/
def AllEnd (w : World) (er : Nat) (LL : List (List Ln)) (e : Ending) (w' : World) : Prop :=
  if er ≠ 0 then e = .returned (.tuple #[.slice none 0 0, errV er]) ∧ Below w.heap.size w w'
  else ∃ A cap, e = .returned (.tuple #[.slice A LL.length cap, .nilIface]) ∧ SksAt w' A LL ∧ LL.length ≤ cap ∧ Below w.heap.size w w'

theorem Tryz.infoLs : (Tryz.prog.info? 110).map (fun i => (i.zero, i.size, i.bytes)) = some (some (.slice none 0 0), 1, 24) := by kernel_rfl

/-- A list of lines behind a slice, apart from a block. -/
def LsOk (w : World) (gb : Option Nat) (x : Option Addr × Nat × Nat) (l : List Ln) : Prop :=
  x.2.1 = l.length ∧ l.length ≤ x.2.2 ∧ ∃ lo hi, LnsK lo hi w x.1 l ∧ hi ≤ w.heap.size ∧ ∀ g, gb = some g → g < lo ∨ hi ≤ g

theorem LsOk.keep {w w' : World} {gb : Option Nat} {x : Option Addr × Nat × Nat} {l : List Ln} (h : LsOk w gb x l) (k : Keeps w w') (hs : w.heap.size ≤ w'.heap.size) : LsOk w' gb x l := by
  obtain ⟨a1, a2, lo, hi, a3, a4, a5⟩ := h
  exact ⟨a1, a2, lo, hi, a3.step (fun p v _ _ hv => k p v hv), by omega, a5⟩
theorem flow_ok : ∀ (L : List Nd) (D hs : List (List Rc)), (∀ l ∈ D, (∀ r ∈ l, RcOk r) ∧ l.length ≤ 2000) → (∀ l ∈ hs, (∀ r ∈ l, RcOk r) ∧ l.length ≤ 2000) → ∀ {hs' : List (List Rc)}, flowP L D hs = some hs' → ∀ l ∈ hs', (∀ r ∈ l, RcOk r) ∧ l.length ≤ 2000
  | [], D, hs, h1, h2, hs', h => by rw [flowP] at h; injection h with h; subst h; exact h2
  | nd :: L, D, hs, h1, h2, hs', h => by
    cases hh : handP nd (gotP nd D hs) with
    | none => rw [flow_none hh] at h; cases h
    | some o =>
      rw [flow_some hh] at h
      have ho := hand_ok (fun l hl' => got_ok nd (fun l hl => (h1 l hl).1) (fun l hl => (h2 l hl).1) hl') hh
      refine flow_ok L (restP nd D) (hs ++ [o]) (fun l hl => h1 l (rest_mem hl)) (fun l hl => ?_) h
      rcases List.mem_append.1 hl with hl | hl
      · exact h2 l hl
      · rw [List.mem_singleton.1 hl]; exact ho

set_option maxRecDepth 100000 in
set_option maxHeartbeats 2000000 in
theorem check_ok {w : World} (hg : Gd w) {la : Option Addr} {L : List Nd} {c : Nat} (hL : NdsAt w la L) (hc : L.length ≤ c)
    {da : Option Addr} {dc : Nat} {D : List (List Rc)} (hD : RssAt w da D) (hdc : D.length ≤ dc) (hdm : dc ≤ 9223372036854775807) (hll : ∀ l ∈ D, l.length ≤ 9223372036854775807) (hk : ∀ l ∈ D, ∀ r ∈ l, r.key.size ≤ 9223372036854775807) (h0 : jobP L = 0) :
    Calls Tryz.prog 60 #[.slice la L.length c, .slice da D.length dc] w fun e w' => e = .returned (errV (checkP D (srcs L))) ∧ Below w.heap.size w w' := by
  have hs := sources_ok hg.gl hL hc h0
  have hck := fun (w1 : World) (hb : Below w.heap.size w w1) => checkData_any (w := w1) (dc := dc) (hD.keep (Keeps.of hb)) (by omega) hll hk (srcs L)
  generalize errV (checkP D (srcs L)) = v at hck ⊢
  have HCK := Lib.hid hck
  clear hck hL hD hg h0 hll hk
  go_enter Tryz.func60, Tryz.ntmps60
  go_wp2_with fail
  refine hs.mono ?_
  rintro e w1 ⟨A1, c1, rfl, hb1⟩
  clear hs
  go_wp2_with fail
  refine (HCK.out w1 hb1).mono ?_
  rintro e w2 ⟨rfl, hb2⟩
  go_wp2_with fail
  go_ret
  exact ⟨rfl, hb1.trans (hb2.mono hb1.size)⟩
set_option maxRecDepth 100000 in
set_option maxHeartbeats 2000000 in
theorem check_bad {w : World} (hg : Gd w) {la : Option Addr} {L : List Nd} {c : Nat} (hL : NdsAt w la L) (hc : L.length ≤ c)
    {da : Option Addr} {dc n : Nat} (h0 : jobP L ≠ 0) :
    Calls Tryz.prog 60 #[.slice la L.length c, .slice da n dc] w fun e w' => e = .returned (errV (jobP L)) ∧ Below w.heap.size w w' := by
  have hs := sources_bad hg.gl hL hc h0
  rw [errV_pos h0] at hs ⊢
  clear hL hg h0
  go_enter Tryz.func60, Tryz.ntmps60
  go_wp2_with (go_at_call 20; refine hs.mono ?_; rintro e w1 ⟨rfl, hb1⟩)
  go_ret
  exact ⟨rfl, hb1⟩
set_option maxRecDepth 100000 in
set_option maxHeartbeats 8000000 in
theorem all_any {w : World} (hg : Gd w) {la : Option Addr} {L : List Nd} {c : Nat} (hL : NdsAt w la L) (hc : L.length ≤ c)
    {da : Option Addr} {dc : Nat} {D : List (List Rc)} (hD : RssAt w da D) (hdc : D.length ≤ dc) (hdm : dc ≤ 9223372036854775807) (hll : ∀ l ∈ D, l.length ≤ 9223372036854775807) (hk : ∀ l ∈ D, ∀ r ∈ l, r.key.size ≤ 9223372036854775807) (hn : ∀ l ∈ D, ∀ r ∈ l, Rng r.num) :
    Calls Tryz.prog 28 #[.slice la L.length c, .slice da D.length dc] w (AllEnd w (denE L D) (denV L D)) := by
  obtain ⟨i0, hi0, hz0, hz1, hz2⟩ := info_parts Tryz.infoLs
  by_cases h0 : jobP L = 0
  · have hck := check_ok hg hL hc hD hdc hdm hll hk h0
    have hj := job_ok h0
    by_cases h1 : checkP D (srcs L) = 0
    · have hdl : srcs L = D.length := by
        unfold checkP at h1
        split at h1
        · cases h1
        · rename_i h2; simp at h2; exact h2.symm
      have hdp : dataP D = 0 := by
        unfold checkP at h1
        split at h1
        · cases h1
        · exact h1
      obtain ⟨hok, h300⟩ := data_ok hdp hn
      have hfl := fun (w1 : World) (hb : Below w.heap.size w w1) => flow_any (hg.below hb) (hL.keep (Keeps.of hb)) hc hj.1 (job_from h0) (hD.keep (Keeps.of hb)) hdc hdm hok (fun l hl' => Nat.le_trans (h300 l hl') (by omega)) hdl
      rw [h1, errV_zero] at hck
      generalize hR : AllEnd w (denE L D) (denV L D) = R
      have HR := Lib.hid hR
      clear hR
      have HCK := Lib.hid hck
      clear hck
      cases hf : flowP L D [] with
      | none =>
        rw [hf] at hfl
        have HE : Hid (denE L D = 4) := Lib.hid (by unfold denE; simp [h0, h1, hf])
        have HFL := Lib.hid hfl
        clear hfl hf h0 h1 hdl hdp hj hL hD hg hok h300
        go_enter Tryz.func28, Tryz.ntmps28
        go_wp2_with fail
        refine HCK.out.mono ?_
        rintro e w2 ⟨rfl, hB2⟩
        clear HCK
        go_wp2_with fail
        refine (HFL.out w2 hB2).mono ?_
        rintro e w3 ⟨rfl, hb3⟩
        rw [errV_pos (by omega)]
        go_wp2
        rw [← HR.out, HE.out]
        unfold AllEnd
        rw [if_pos (by omega)]
        exact ⟨by rw [errV_pos (by omega)]; rfl, hB2.trans (hb3.mono hB2.size)⟩
      | some hs' =>
        rw [hf] at hfl
        have HE : Hid (denE L D = 0 ∧ denV L D = sinksP L hs') := Lib.hid ⟨by unfold denE; simp [h0, h1, hf], by unfold denV; simp [h0, h1, hf]⟩
        have HFL := Lib.hid hfl
        have HOK : Hid (∀ o ∈ hs', (∀ r ∈ o, RcOk r) ∧ o.length ≤ 2000) := flow_ok L D [] (fun l hl' => ⟨hok l hl', Nat.le_trans (h300 l hl') (by omega)⟩) (by simp) hf
        have hlp : 0 < L.length := by
          rcases Nat.eq_zero_or_pos L.length with e | e
          · rw [List.length_eq_zero_iff.1 e] at hj; simp at hj
          · exact e
        clear hfl h0 h1 hdl hdp hD hok h300
        go_enter Tryz.func28, Tryz.ntmps28
        go_wp2_with fail
        refine HCK.out.mono ?_
        rintro e w2 ⟨rfl, hB2⟩
        clear HCK
        go_wp2_with fail
        refine (HFL.out w2 hB2).mono ?_
        rintro e w3 ⟨rfl, hH, hhl, hb3⟩
        have hB3 : Below w.heap.size w w3 := hB2.trans (hb3.mono hB2.size)
        have hz3 : w2.heap.size < w3.heap.size := by
          obtain ⟨A0, cap0, e0, -⟩ := hH.cell 0 (by omega)
          exact cell_lt e0
        have hLi := hj.1
        clear hf hj hb3 hn hk hll
        go_wp2_with fail
        go_loopw [9, 29] (fun v i wr => ∃ (p : Nat) (X : List (Option Addr × Nat × Nat)), p ≤ L.length ∧ i = .int .i64 p ∧ X.length = (sinksP (L.take p) (hs'.take p)).length ∧ wr.ownsRow w3.heap.size 110 1 v X.length (svs X) ∧ (∀ (t : Nat) (h1 : t < X.length) (h2 : t < (sinksP (L.take p) (hs'.take p)).length), LsOk wr v.ownBlock X[t] (sinksP (L.take p) (hs'.take p))[t]) ∧ Below w3.heap.size w3 wr) (fun _ i _ => L.length - (intOf i).toNat)
        case atStart => exact ⟨0, [], by omega, rfl, by simp [sinksP], World.ownsRow_nil _ _ _ _, fun t h1 => by simp at h1, Below.refl _ _⟩
        case round =>
          obtain ⟨p, X, hp, rfl, hX, hown, hls, hB⟩ := hrel
          have hBw : Below w.heap.size w wr := hB3.trans (hB.mono hB3.size)
          have hS := hB.size
          by_cases hlt : p < L.length
          · have hi : (p : Int) < L.length := by omega
            rcases hL with hL | ⟨nb, no, rfl, hL⟩
            · subst hL; simp at hlt
            obtain ⟨m0, ⟨fa, fc, m1, m2⟩, m3, m4, htx, hfl0⟩ := hL p hlt
            have c0 := Keeps.of hBw _ _ m0
            have c1 := Keeps.of hBw _ _ m1
            have c2 := Keeps.of hBw _ _ m3
            have c3 := Keeps.of hBw _ _ m4
            have hph : p < hs'.length := by omega
            have hsn : sinksP (L.take (p + 1)) (hs'.take (p + 1)) = sinksP (L.take p) (hs'.take p) ++ (if L[p].k = 10 then [linesP hs'[p]] else []) := by
              rw [List.take_succ_eq_append_getElem hlt, List.take_succ_eq_append_getElem hph]
              exact sinks_snoc _ _ _ _ (by simp; omega)
            obtain ⟨Aj, capj, j1, j2, j3, j4⟩ := hH.cell p hph
            have e1 := hB.cell (p := ⟨w2.heap.size, p, none⟩) hz3
            rw [j1] at e1
            have hoo := HOK.out _ (List.getElem_mem hph)
            have hsl := sinks_len (L.take p) (hs'.take p)
            have hsl2 : (L.take p).length ≤ p := List.length_take_le _ _
            generalize L[p] = nd at *
            generalize hs'[p] = o at *
            obtain ⟨k, fs, tx, nn⟩ := nd
            simp only at hsn c0 c1 c2 c3
            generalize sinksP (L.take p) (hs'.take p) = SS at *
            have HSN := Lib.hid hsn
            have HX := Lib.hid hX
            clear hsn m0 m1 m3 m4 hL j1
            have hXi : (X.length : Int) ≤ 12 := by omega
            have hXn : X.length ≤ 12 := by omega
            clear hX
            have hls1 : ∀ (o : Obj) (t : Nat) (h1 : t < X.length) (h2 : t < SS.length), LsOk (wr.alloc o) _ X[t] SS[t] := fun o t h1 h2 => (hls t h1 h2).keep (Keeps.alloc wr o) (by simp)
            by_cases h10 : k = 10
            · subst h10
              have hlc := lines_ok (c := capj) (w := wr.alloc (.cells #[.int .i64 10, .slice fa fs.length fc, .string tx, .int .i64 nn] 52)) ((j2.keep (Keeps.of hB)).keep (Keeps.alloc _ _)) hoo.2 hoo.1
              have hla := hls1 (.cells #[.int .i64 10, .slice fa fs.length fc, .string tx, .int .i64 nn] 52)
              have hoa := hown.alloc (.cells #[.int .i64 10, .slice fa fs.length fc, .string tx, .int .i64 nn] 52)
              have hBa : Below w3.heap.size w3 (wr.alloc (.cells #[.int .i64 10, .slice fa fs.length fc, .string tx, .int .i64 nn] 52)) := hB.alloc hS _
              have hza : wr.heap.size < (wr.alloc (.cells #[.int .i64 10, .slice fa fs.length fc, .string tx, .int .i64 nn] 52)).heap.size := by simp
              have e1a := Keeps.alloc wr (.cells #[.int .i64 10, .slice fa fs.length fc, .string tx, .int .i64 nn] 52) _ _ e1
              have HLC := Lib.hid hlc
              clear hlc hls hls1
              go_wp2_with fail
              refine HLC.out.mono ?_
              clear HLC
              generalize wr.alloc (.cells #[.int .i64 10, .slice fa fs.length fc, .string tx, .int .i64 nn] 52) = wa at *
              rintro e w5 ⟨A5, cap5, rfl, hK5, hc5, hb5⟩
              have hB5 : Below w3.heap.size w3 w5 := hBa.trans (hb5.mono hBa.size)
              have ho5 : w5.ownsRow w3.heap.size 110 1 u9 X.length (svs X) := own_fr hoa (Fr.below (xs := []) hb5) (by simp)
              have hls5 : ∀ (t : Nat) (h1 : t < X.length) (h2 : t < SS.length), LsOk w5 u9.ownBlock X[t] SS[t] := fun t h1 h2 => (hla t h1 h2).keep (Keeps.of hb5) hb5.size
              have hgl : ∀ g, u9.ownBlock = some g → g < wr.heap.size := fun g e => (hown.lt g e).2
              have hs5 := hB5.size
              clear hla hoa hBa hown hB
              generalize hlo : linesP o = LO at *
              go_wp2_with (at_builtin; refine wpList_append_own_at _ rfl _ _ 62 rfl w3.heap.size 110 i0 (.slice none 0 0) 1 24 Tryz.underlying62 hi0 hz0 hz1 hz2 rfl (by decide) _ _ _ rfl (ho5.alloc _) ⟨w5.heap.size, 0, none⟩ 1 1 [.slice A5 LO.length cap5] rfl rfl (cell_one_new _ _ _) (by intro u hu; simp at hu; subst hu; rfl) (by unfold maxLen; omega) (by omega) (by simp; omega) ?_)
              intro v6 w6 hown6 hg6 _ hat6
              have hB6 : Below w3.heap.size w3 w6 := (hB5.alloc hs5 _).grown hg6 (by simp; omega) (fun k hk => (ho5.lt k hk).1)
              have hkp : ∀ (p : Addr) (v : Value), (∀ g, u9.ownBlock = some g → p.block ≠ g) → w5.cell? p = some v → w6.cell? p = some v := fun p v hne hv => keep_cell hg6 (Keeps.alloc w5 _ p v hv) (fun e => hne _ e.symm rfl)
              have hs6 : w5.heap.size + 1 ≤ w6.heap.size := by have := hg6.size; simpa using this
              have hls6 : ∀ (t : Nat) (h1 : t < (X ++ [(A5, LO.length, cap5)]).length) (h2 : t < (SS ++ [LO]).length), LsOk w6 v6.ownBlock (X ++ [(A5, LO.length, cap5)])[t] (SS ++ [LO])[t] := fun t h1 h2 => by
                by_cases ht : t < X.length
                · have ht2 : t < SS.length := by rw [← HX.out]; exact ht
                  rw [List.getElem_append_left ht, List.getElem_append_left ht2]
                  obtain ⟨a1, a2, lo, hi, a3, a4, a5⟩ := hls5 t ht ht2
                  refine ⟨a1, a2, lo, hi, a3.step (fun p v h1 h2 hv => hkp p v (fun g e => by rcases a5 g e with h | h <;> omega) hv), by omega, fun g e => ?_⟩
                  rcases hat6 with h | h
                  · rw [h] at e; exact a5 g e
                  · rw [h] at e; injection e with e; right; have e2 : (w5.alloc (.cells #[.slice A5 LO.length cap5] 110)).heap.size = w5.heap.size + 1 := (by simp); omega
                · have hte : t = X.length := by simp at h1; omega
                  have hte2 : t = SS.length := by rw [← HX.out]; exact hte
                  rw [List.getElem_append_right (by omega), List.getElem_append_right (by omega)]
                  simp only [hte, Nat.sub_self, show X.length - SS.length = 0 by have := HX.out; omega, List.getElem_cons_zero]
                  refine ⟨rfl, hc5, wa.heap.size, w5.heap.size, hK5.step (fun p v h1 h2 hv => hkp p v (fun g e => by have := hgl g e; omega) hv), by omega, fun g e => ?_⟩
                  rcases hat6 with h | h
                  · rw [h] at e; left; have := hgl g e; omega
                  · rw [h] at e; injection e with e; right; have e2 : (w5.alloc (.cells #[.slice A5 LO.length cap5] 110)).heap.size = w5.heap.size + 1 := (by simp); omega
              have ho6 : w6.ownsRow w3.heap.size 110 1 v6 (X ++ [(A5, LO.length, cap5)]).length (svs (X ++ [(A5, LO.length, cap5)])) := by simpa [svs] using hown6
              have HS2 : Hid (sinksP (L.take (p + 1)) (hs'.take (p + 1)) = SS ++ [LO]) := Lib.hid (by rw [HSN.out]; simp)
              clear hown6 hg6 hat6 hkp hls5 ho5
              go_wp2
              exact ⟨⟨p + 1, X ++ [(A5, LO.length, cap5)], by omega, by go_num, by rw [HS2.out]; simp [HX.out], ho6, by rw [HS2.out]; exact hls6, hB6⟩, by simp [intOf]; omega⟩
            · have h10' : (k == 10) = false := by simp [h10]
              have HS2 : Hid (sinksP (L.take (p + 1)) (hs'.take (p + 1)) = SS) := Lib.hid (by rw [HSN.out, if_neg h10, List.append_nil])
              have hla := hls1 (.cells #[.int .i64 k, .slice fa fs.length fc, .string tx, .int .i64 nn] 52)
              have hoa := hown.alloc (.cells #[.int .i64 k, .slice fa fs.length fc, .string tx, .int .i64 nn] 52)
              have hBa : Below w3.heap.size w3 (wr.alloc (.cells #[.int .i64 k, .slice fa fs.length fc, .string tx, .int .i64 nn] 52)) := hB.alloc hS _
              clear hls hls1 h10
              go_wp2
              exact ⟨⟨p + 1, X, by omega, by go_num, by rw [HS2.out]; exact HX.out, hoa, by rw [HS2.out]; exact hla, hBa⟩, by simp [intOf]; omega⟩
          · have hi : ¬ (p : Int) < L.length := by omega
            have t1 : L.take p = L := List.take_of_length_le (by omega)
            have t2 : hs'.take p = hs' := List.take_of_length_le (by omega)
            rw [t1, t2] at hX hls
            obtain ⟨Ag, cg, rfl⟩ := own_fm hown
            clear t1 t2
            have HX := Lib.hid hX
            clear hX
            go_wp2
            rw [← HR.out, HE.out.1, HE.out.2]
            unfold AllEnd
            rw [if_neg (by simp)]
            have hX := HX.out
            refine ⟨Ag, cg, by rw [← hX], ?_, ?_, hBw⟩
            · rcases hown.2 with ⟨h0, h1⟩ | ⟨g, cap', cur, h0, hb', hg', hr'⟩
              · exact .inl (List.length_eq_zero_iff.1 (by omega))
              · simp only [Value.slice.injEq, true_and] at h0
                obtain ⟨rfl, rfl⟩ := h0
                refine .inr ⟨g, 0, rfl, fun i hi' => ?_⟩
                have hi2 : i < X.length := by omega
                obtain ⟨a1, a2, lo, hi3, a3, -⟩ := hls i hi2 hi'
                have hce := hown.cellAt i (by omega)
                rw [Nat.zero_add, hce]
                refine ⟨X[i].1, X[i].2.2, ?_, a3.here, a2⟩
                rw [← a1]; simp [svs, hi2]
            · rcases hown.2 with ⟨h0, h1⟩ | ⟨g, cap', cur, h0, hb', hg', hle', hr'⟩
              · omega
              · simp only [Value.slice.injEq, true_and] at h0
                omega
    · rw [errV_pos h1] at hck
      generalize hR : AllEnd w (denE L D) (denV L D) = R
      have HR := Lib.hid hR
      clear hR
      have HE : Hid (denE L D = checkP D (srcs L)) := Lib.hid (by unfold denE; simp [h0, h1])
      have H1 := Lib.hid h1
      have HCK := Lib.hid hck
      clear hck h0 h1 hj hL hD hg
      go_enter Tryz.func28, Tryz.ntmps28
      go_wp2_with fail
      refine HCK.out.mono ?_
      rintro e w2 ⟨rfl, hB2⟩
      clear HCK
      go_wp2
      rw [← HR.out, HE.out]
      unfold AllEnd
      rw [if_pos H1.out]
      exact ⟨by rw [errV_pos H1.out]; rfl, hB2⟩
  · have hs := check_bad (da := da) (dc := dc) (n := D.length) hg hL hc h0
    rw [errV_pos h0] at hs
    generalize hR : AllEnd w (denE L D) (denV L D) = R
    have HR := Lib.hid hR
    clear hR
    have HE : Hid (denE L D = jobP L) := Lib.hid (by unfold denE; simp [h0])
    have H0 := Lib.hid h0
    clear h0 hL hD hg
    go_enter Tryz.func28, Tryz.ntmps28
    go_wp2_with (go_at_call 60; refine hs.mono ?_; rintro e w1 ⟨rfl, hb1⟩)
    rw [← HR.out, HE.out]
    unfold AllEnd
    rw [if_pos H0.out]
    exact ⟨by rw [errV_pos H0.out]; rfl, hb1⟩
end Go.Proofs.YthadeccnibnioaaGreatDoor

