import Derived.Test.YtnapbfilkahobaaGreatDoorHj
import Derived.Test.YtnapbfilkahobaaGreatDoorHp
import Derived.Deep.OwnRows
import Derived.Deep.AppendLies
/- The numbers of a kind. -/
namespace Go.Proofs.YtnapbfilkahobaaGreatDoor
open Go.RowKit

theorem Tryz.infoInt : (Tryz.prog.info? 3).map (fun i => (i.zero, i.size, i.bytes)) = some (some (.int .i64 0), 1, 8) := by kernel_rfl

/-- Numbers of a kind among the first j. -/
def ofTo (L : List Nd) (k : Int) (j : Nat) : List Int := ((List.range j).filter fun i => (L.getD i (sink 0)).k == k).map fun (i : Nat) => (i : Int)
theorem ofTo_zero (L : List Nd) (k : Int) : ofTo L k 0 = [] := rfl
theorem ofTo_all (L : List Nd) (k : Int) : ofTo L k L.length = ofP L k := rfl
theorem ofTo_step {L : List Nd} {k : Int} {j : Nat} (h : j < L.length) : ofTo L k (j + 1) = ofTo L k j ++ (if L[j].k == k then [(j : Int)] else []) := by
  unfold ofTo
  rw [List.range_succ, List.filter_append, List.map_append]
  congr 1
  have : L.getD j (sink 0) = L[j] := by simp [List.getD, h]
  rw [List.filter_cons, List.filter_nil, this]
  split <;> rfl
theorem ofTo_len (L : List Nd) (k : Int) (j : Nat) : (ofTo L k j).length ≤ j := by
  unfold ofTo; rw [List.length_map]
  exact Nat.le_trans (List.length_filter_le _ _) (by simp)

def iv (l : List Int) : List Value := l.map fun z => .int .i64 z
theorem iv_snoc (l : List Int) (z : Int) : iv (l ++ [z]) = iv l ++ [.int .i64 z] := by simp [iv]

theorem cell_one_new (w : World) (a : Value) (t : TypeId) : ∀ j u, [a][j]? = some u → (w.alloc (.cells #[a] t)).cell? ((⟨w.heap.size, 0, none⟩ : Addr).add j) = some u := by
  intro j u hj
  match j, hj with
  | 0, hj => simp at hj; subst hj; simp [Addr.add]

theorem cell_one_new2 (w : World) (o : Obj) (a : Value) (t : TypeId) : ∀ j u, [a][j]? = some u → ((w.alloc o).alloc (.cells #[a] t)).cell? ((⟨w.heap.size + 1, 0, none⟩ : Addr).add j) = some u := by
  intro j u hj
  have h := cell_one_new (w.alloc o) a t j u hj
  have e : (w.alloc o).heap.size = w.heap.size + 1 := by simp
  rw [e] at h; exact h

set_option maxHeartbeats 1000000 in
theorem ofKind_bad {w : World} (hg : Gl w) {la : Option Addr} {L : List Nd} {c : Nat} (hL : NdsAt w la L) (hc : L.length ≤ c) (kd : Int) (h0 : jobP L ≠ 0) :
    Calls Tryz.prog 51 #[.slice la L.length c, .int .i64 kd] w fun e w' => e = .returned (.tuple #[.slice none 0 0, errV (jobP L)]) ∧ Below w.heap.size w w' := by
  have cj := job_any hg hL hc
  have hV := errV_pos h0
  rw [hV] at cj ⊢
  clear hL hg hV
  go_enter Tryz.func51, Tryz.ntmps51
  go_wp2_with (go_at_call 15; refine cj.mono ?_; rintro e w' ⟨rfl, hb2⟩)
  go_ret2
  exact ⟨rfl, hb2⟩

set_option maxHeartbeats 1000000 in
theorem ofKind_ok {w : World} (hg : Gl w) {la : Option Addr} {L : List Nd} {c : Nat} (hL : NdsAt w la L) (hc : L.length ≤ c) (kd : Int) (h0 : jobP L = 0) :
    Calls Tryz.prog 51 #[.slice la L.length c, .int .i64 kd] w fun e w' => ∃ v, e = .returned (.tuple #[v, .nilIface]) ∧ w'.ownsRow w.heap.size 3 1 v (ofP L kd).length (iv (ofP L kd)) ∧ Below w.heap.size w w' := by
  obtain ⟨i0, hi, hz0, hz1, hz2⟩ := info_parts Tryz.infoInt
  have cj := job_any hg hL hc
  have hl := (job_ok h0).1
  rw [h0, errV_zero] at cj
  clear h0 hg
  rw [← ofTo_all]
  go_enter Tryz.func51, Tryz.ntmps51
  go_wp2_with (go_at_call 15; refine cj.mono ?_; rintro e w1 ⟨rfl, hb1⟩)
  go_loopw [7, 17] (fun v i wr => ∃ j : Nat, j ≤ L.length ∧ i = .int .i64 j ∧ wr.ownsRow w.heap.size 3 1 v (ofTo L kd j).length (iv (ofTo L kd j)) ∧ Below w.heap.size w wr) (fun _ i _ => L.length - (intOf i).toNat)
  case atStart => exact ⟨0, by omega, rfl, World.ownsRow_nil _ _ _ _, hb1⟩
  case round =>
    obtain ⟨j, hj, rfl, hown, hb⟩ := hrel
    have hle := ofTo_len L kd j
    by_cases hlt : j < L.length
    · rcases hL with hL | ⟨b, o, rfl, hL⟩
      · subst hL; simp at hlt
      obtain ⟨c0, ⟨fa, fc, c1, -⟩, c2, c3, -⟩ := (hL j hlt).keep (Keeps.of hb)
      have hS := hb.size
      have hst := ofTo_step (k := kd) hlt
      generalize L[j] = nd at *
      obtain ⟨k, fs, tx, n⟩ := nd
      simp only at *
      by_cases he : (k == kd) = true
      · rw [if_pos he] at hst
        have HS := Lib.hid hst
        clear hst hL cj
        have hb2 := hb.alloc hS (.cells #[.int .i64 k, .slice fa fs.length fc, .string tx, .int .i64 n] 52)
        go_wp2_with (at_builtin; refine wpList_append_own _ rfl _ _ 41 rfl w.heap.size 3 i0 (.int .i64 0) 1 8 Tryz.underlying41 hi hz0 hz1 hz2 rfl (by decide) _ _ _ rfl ((hown.alloc _).alloc _) ⟨wr.heap.size + 1, 0, none⟩ 1 1 [.int .i64 j] rfl rfl (cell_one_new2 _ _ _ _) (by intro u hu; simp at hu; subst hu; rfl) (by unfold maxLen; omega) (by omega) (by simp; omega) ?_)
        intro v' w3 hown' hgrow _
        have hb3 : Below w.heap.size w w3 := (hb2.alloc (by simp; omega) _).grown hgrow (by simp; omega) (fun k hk => (hown.lt k hk).1)
        have ho3 : w3.ownsRow w.heap.size 3 1 v' (ofTo L kd (j + 1)).length (iv (ofTo L kd (j + 1))) := by
          rw [HS.out, iv_snoc]; simpa using hown'
        clear hown' hgrow hown hb hS hb2
        go_wp2
        exact ⟨⟨j + 1, by omega, by go_num, ho3, hb3⟩, by simp [intOf]; omega⟩
      · have he' : (k == kd) = false := by simpa using he
        rw [if_neg he, List.append_nil] at hst
        have HS := Lib.hid hst
        clear hst hL cj
        have hb2 := hb.alloc hS (.cells #[.int .i64 k, .slice fa fs.length fc, .string tx, .int .i64 n] 52)
        have ho2 := hown.alloc (.cells #[.int .i64 k, .slice fa fs.length fc, .string tx, .int .i64 n] 52)
        go_wp2
        exact ⟨⟨j + 1, by omega, by go_num, by rw [HS.out]; exact ho2, hb2⟩, by simp [intOf]; omega⟩
    · have hj' : j = L.length := by omega
      subst hj'
      go_wp2
      go_ret2
      exact ⟨_, rfl, hown, hb⟩
end Go.Proofs.YtnapbfilkahobaaGreatDoor

/- Rows of numbers, each in a block of its own, behind one block of slices. -/
namespace Go.Proofs.YtnapbfilkahobaaGreatDoor
open Go.RowKit

structure UsI (w : World) (B U n : Nat) (V : Nat → Value) (F : Nat → List Int) : Prop where
  base : B ≤ U
  lt : U < w.heap.size
  cell : ∀ i, i < n → w.cell? ⟨U, i, none⟩ = some (V i)
  fz : ∀ i, w.frozen? ⟨U, i, none⟩ = false
  row : ∀ i, i < n → w.ownsRow B 3 1 (V i) (F i).length (iv (F i))
  ne : ∀ i, i < n → (V i).ownBlock ≠ some U
  apart : ∀ i k, i < n → k < n → i ≠ k → (V i).ownBlock = none ∨ (V i).ownBlock ≠ (V k).ownBlock

theorem ownsRow_of_block {w w' : World} {base e size n : Nat} {v : Value} {xs : List Value} (h : w.ownsRow base e size v n xs) (hb : ∀ g, v.ownBlock = some g → w'.heap[g]? = w.heap[g]?) : w'.ownsRow base e size v n xs := by
  refine ⟨h.1, ?_⟩
  rcases h.2 with hn | ⟨g, cap, cur, rfl, hb1, hgg, rest⟩
  · exact .inl hn
  · exact .inr ⟨g, cap, cur, rfl, hb1, by rw [hb g rfl]; exact hgg, rest⟩

theorem UsI.keep {w w' : World} {B U n : Nat} {V : Nat → Value} {F : Nat → List Int} (h : UsI w B U n V F) (hb : Below w.heap.size w w') : UsI w' B U n V F := by
  refine ⟨h.base, Nat.lt_of_lt_of_le h.lt hb.size, fun i hi => ?_, fun i => ?_, fun i hi => ?_, h.ne, h.apart⟩
  · rw [World.cell?_of_block (w := w) (hb.block U h.lt)]; exact h.cell i hi
  · rw [World.frozen?_of_block (w := w) (hb.block U h.lt)]; exact h.fz i
  · exact ownsRow_of_block (h.row i hi) (fun g hg => hb.block g ((h.row i hi).lt g hg).2)

theorem UsI.congr {w : World} {B U n : Nat} {V : Nat → Value} {F G : Nat → List Int} (h : UsI w B U n V F) (hFG : ∀ i, i < n → G i = F i) : UsI w B U n V G :=
  ⟨h.base, h.lt, h.cell, h.fz, fun i hi => by rw [hFG i hi]; exact h.row i hi, h.ne, h.apart⟩

theorem UsI.put {w w1 : World} {B U n x g cap : Nat} {V : Nat → Value} {F : Nat → List Int} {z : Int} (h : UsI w B U n V F) (hx : x < n)
    (hown : w1.ownsRow B 3 1 (.slice (some ⟨g, 0, none⟩) ((F x).length + 1) cap) ((F x).length + 1) (iv (F x) ++ [.int .i64 z])) (hgr : w.grownBy w1 (V x).ownBlock) (hg : (V x).ownBlock = some g ∨ g = w.heap.size) :
    UsI (w1.setCell ⟨U, x, none⟩ (.slice (some ⟨g, 0, none⟩) ((F x).length + 1) cap)) B U n (fun i => if i = x then .slice (some ⟨g, 0, none⟩) ((F x).length + 1) cap else V i) (fun i => if i = x then F x ++ [z] else F i) := by
  have hU := h.lt
  have hgU : g ≠ U := by
    rcases hg with hg | hg
    · intro e; exact h.ne x hx (by rw [hg, e])
    · omega
  have hUne : some U ≠ (V x).ownBlock := fun e => h.ne x hx e.symm
  have hb1 : w1.heap[U]? = w.heap[U]? := hgr.block U hU hUne
  have hs1 := hgr.size
  have hcell1 : ∀ i, i < n → w1.cell? ⟨U, i, none⟩ = some (V i) := fun i hi => by rw [World.cell?_of_block (w := w) hb1]; exact h.cell i hi
  have hfz1 : ∀ i, w1.frozen? ⟨U, i, none⟩ = false := fun i => by rw [World.frozen?_of_block (w := w) hb1]; exact h.fz i
  have hrow1 : ∀ i, i < n → i ≠ x → w1.ownsRow B 3 1 (V i) (F i).length (iv (F i)) := fun i hi hne => (h.row i hi).kept hgr (h.apart i x hi hx hne)
  refine ⟨h.base, by simp; omega, fun i hi => ?_, fun i => ?_, fun i hi => ?_, fun i hi => ?_, fun i k hi hk hik => ?_⟩
  · by_cases he : i = x
    · subst he; rw [if_pos rfl]; exact World.cell?_setCell_same _ _ _ (hcell1 i hi)
    · rw [if_neg he, World.cell?_setCell_other _ _ _ _ (fun e => he (by injection e with _ e2; exact e2.symm))]; exact hcell1 i hi
  · rw [World.frozen?_setCell]; exact hfz1 i
  · by_cases he : i = x
    · subst he
      simp only [if_true]
      rw [iv_snoc]
      have := ownsRow_of_block (w' := w1.setCell ⟨U, i, none⟩ (.slice (some ⟨g, 0, none⟩) ((F i).length + 1) cap)) hown (fun g' hg' => by
        have e : g' = g := by simpa [Value.ownBlock] using hg'.symm
        subst e; exact Below.heap_setCell _ _ _ _ hgU)
      simpa using this
    · simp only [if_neg he]
      exact ownsRow_of_block (hrow1 i hi he) (fun g' hg' => Below.heap_setCell _ _ _ _ (fun e => h.ne i hi (by rw [hg', e])))
  · by_cases he : i = x
    · subst he; simp only [if_true]; simp [Value.ownBlock]; exact hgU
    · simp only [if_neg he]; exact h.ne i hi
  · by_cases he : i = x
    · by_cases hk2 : k = x
      · omega
      · subst he
        simp only [if_true, if_neg hk2]
        right
        rcases hg with hg | hg
        · have := h.apart k i hk hi (by omega)
          rcases this with t | t
          · rw [t]; simp [Value.ownBlock]
          · rw [hg] at t; simp [Value.ownBlock]; exact fun e => t e.symm
        · simp [Value.ownBlock]
          intro e
          have := ((h.row k hk).lt g e.symm).2
          omega
    · simp only [if_neg he]
      by_cases hk2 : k = x
      · subst hk2
        simp only [if_true]
        rcases hg with hg | hg
        · have := h.apart i k hi hk hik
          rcases this with t | t
          · exact .inl t
          · right; rw [hg] at t; simpa [Value.ownBlock] using t
        · right
          intro e
          have := ((h.row i hi).lt g (by rw [e]; rfl)).2
          omega
      · simp only [if_neg hk2]; exact h.apart i k hi hk hik

theorem UsI.start {w : World} {B n : Nat} (hB : B ≤ w.heap.size) : UsI (w.alloc (.cells (madeCells #[.slice none 0 0] n) 41)) B w.heap.size n (fun _ => .slice none 0 0) (fun _ => []) := by
  refine ⟨hB, by simp, fun i hi => ?_, fun i => ?_, fun i hi => ?_, fun i hi => by simp [Value.ownBlock], fun i k _ _ _ => .inl (by simp [Value.ownBlock])⟩
  · rw [World.cell?_alloc_new]; simp [madeCells, hi, Nat.mod_one]
  · exact World.frozen?_alloc_new _ _ _ _
  · exact World.ownsRow_nil _ _ _ _
end Go.Proofs.YtnapbfilkahobaaGreatDoor

/- job.Uses. -/
namespace Go.Proofs.YtnapbfilkahobaaGreatDoor
open Go.RowKit

theorem own_form {w : World} {B e size n : Nat} {v : Value} {xs : List Value} (h : w.ownsRow B e size v n xs) : ∃ A cap, v = .slice A n cap := by
  rcases h.2 with ⟨h0, h1⟩ | ⟨g, cap, cur, h0, _⟩
  · exact ⟨none, 0, by rw [h0, h1]⟩
  · exact ⟨_, _, h0⟩
theorem own_some {w : World} {B e size n cap : Nat} {A : Option Addr} {xs : List Value} (h : w.ownsRow B e size (.slice A n cap) n xs) (hn : 0 < n) : ∃ g, A = some ⟨g, 0, none⟩ := by
  rcases h.2 with ⟨h0, h0'⟩ | ⟨g, cap', cur, h0, _⟩
  · omega
  · simp at h0; exact ⟨g, h0.1⟩
theorem iv_get (l : List Int) (i : Nat) (h : i < l.length) : (iv l)[i]? = some (.int .i64 l[i]) := by simp [iv, h]
theorem iv_len (l : List Int) : (iv l).length = l.length := by simp [iv]

theorem Tryz.infoSl : (Tryz.prog.info? 41).map (fun i => (i.zero, i.size, i.bytes)) = some (some (.slice none 0 0), 1, 24) := by kernel_rfl

theorem use_bad {w : World} (hg : Gl w) {la : Option Addr} {L : List Nd} {c : Nat} (hL : NdsAt w la L) (hc : L.length ≤ c) (h0 : jobP L ≠ 0) :
    Calls Tryz.prog 21 #[.slice la L.length c] w fun e w' => e = .returned (.tuple #[.slice none 0 0, errV (jobP L)]) ∧ Below w.heap.size w w' := by
  have cj := job_any hg hL hc
  have hV := errV_pos h0
  rw [hV] at cj ⊢
  clear hL hg hV
  go_enter Tryz.func21, Tryz.ntmps21
  go_wp2_with (go_at_call 15; refine cj.mono ?_; rintro e w' ⟨rfl, hb2⟩)
  go_ret2
  exact ⟨rfl, hb2⟩

/-- The row x of a family, ready to be read: what its slice looks like, and its last number. -/
theorem UsI.at {w : World} {B U n : Nat} {V : Nat → Value} {F : Nat → List Int} (h : UsI w B U n V F) {x : Nat} (hx : x < n) :
    ∃ A cap, V x = .slice A (F x).length cap ∧ (F x = [] ∨ ∃ g z, A = some ⟨g, 0, none⟩ ∧ 0 < (F x).length ∧ (F x).getLast? = some z ∧ w.cell? ⟨g, (F x).length - 1, none⟩ = some (.int .i64 z)) := by
  have hr := h.row x hx
  obtain ⟨A, cap, hv⟩ := own_form hr
  refine ⟨A, cap, hv, ?_⟩
  by_cases h0 : F x = []
  · exact .inl h0
  · right
    have hp : 0 < (F x).length := List.length_pos_iff.2 h0
    rw [hv] at hr
    obtain ⟨g, rfl⟩ := own_some hr hp
    refine ⟨g, (F x).getLast h0, rfl, hp, by rw [List.getLast?_eq_some_getLast h0], ?_⟩
    rw [hr.cellAt _ (by omega), iv_get _ _ (by omega), List.getLast_eq_getElem]

set_option maxHeartbeats 4000000 in
set_option maxRecDepth 100000 in
theorem use_ok {w : World} (hg : Gl w) {la : Option Addr} {L : List Nd} {c : Nat} (hL : NdsAt w la L) (hc : L.length ≤ c) (h0 : jobP L = 0) :
    Calls Tryz.prog 21 #[.slice la L.length c] w fun e w' => ∃ U V, e = .returned (.tuple #[.slice (some ⟨U, 0, none⟩) L.length L.length, .nilIface]) ∧ UsI w' w.heap.size U L.length V (fun i => usP L i) ∧ Below w.heap.size w w' := by
  obtain ⟨i0, hi, hz0, hz1, hz2⟩ := info_parts Tryz.infoInt
  have cj := job_any hg hL hc
  have hl := (job_ok h0).1
  have hF := job_from h0
  rw [h0, errV_zero] at cj
  clear h0 hg
  have hmk := run_make_row' (P := Tryz.prog) 47 41 (.slice none 0 0) 24 Tryz.underlying47 Tryz.infoSl rfl .i64 .i64 L.length (by omega) (by omega)
  have HF := Lib.hid hF
  clear hF
  go_enter Tryz.func21, Tryz.ntmps21
  go_wp2_with (go_at_call 15; refine cj.mono ?_; rintro e w1 ⟨rfl, hb1⟩)
  have hs1 := hb1.size
  have hU0 : UsI (w1.alloc (.cells (madeCells #[.slice none 0 0] L.length) 41)) w.heap.size w1.heap.size L.length (fun _ => .slice none 0 0) (fun _ => []) := UsI.start hs1
  have hB0 : Below w.heap.size w (w1.alloc (.cells (madeCells #[.slice none 0 0] L.length) 41)) := hb1.alloc hs1 _
  generalize w1.alloc (.cells (madeCells #[.slice none 0 0] L.length) 41) = w3 at *
  generalize w1.heap.size = U at *
  clear hmk cj hb1 hs1
  go_loopw [21] (fun i wr => ∃ (j : Nat) (V : Nat → Value), j ≤ L.length ∧ i = .int .i64 j ∧ UsI wr w.heap.size U L.length V (fun i => usTo L i j) ∧ Below w.heap.size w wr) (fun i _ => L.length - (intOf i).toNat)
  case atStart => exact ⟨0, _, by omega, rfl, hU0, hB0⟩
  case round =>
    obtain ⟨j, V, hj, rfl, hU, hb⟩ := hrel
    clear hU0 hB0
    by_cases hlt : j < L.length
    · rcases hL with hL | ⟨b, o, rfl, hL⟩
      · subst hL; simp at hlt
      have hk := Keeps.of hb
      obtain ⟨c0, ⟨fa, fc, c1, hI⟩, c2, c3, -⟩ := hL j hlt
      have c0 := hk _ _ c0
      have c1 := hk _ _ c1
      have c2 := hk _ _ c2
      have c3 := hk _ _ c3
      have hS := hb.size
      obtain ⟨hfl, hfr⟩ := HF.out j hlt
      have hend := fun i => rowP_end hlt i
      generalize L[j] = nd at *
      obtain ⟨k, fs, tx, n⟩ := nd
      simp only at *
      have hb2 : Below w.heap.size w (wr.alloc (.cells #[.int .i64 k, .slice fa fs.length fc, .string tx, .int .i64 n] 52)) := hb.alloc hS _
      have hU2 : UsI (wr.alloc (.cells #[.int .i64 k, .slice fa fs.length fc, .string tx, .int .i64 n] 52)) w.heap.size U L.length V (rowP L j fs 0) := (hU.keep ((Below.refl _ _).alloc (Nat.le_refl _) _)).congr (fun i _ => rowP_zero L j fs i)
      have HE := Lib.hid hend
      have HFr := Lib.hid hfr
      clear hend hfr hL hU hk hb
      go_wp2_with fail
      generalize wr.alloc (.cells #[.int .i64 k, .slice fa fs.length fc, .string tx, .int .i64 n] 52) = wx at *
      clear c0 c1 c2 c3 hS
      go_loopw [29] (fun i wr2 => ∃ (p : Nat) (V : Nat → Value), p ≤ fs.length ∧ i = .int .i64 p ∧ UsI wr2 w.heap.size U L.length V (rowP L j fs p) ∧ Below w.heap.size w wr2) (fun i _ => fs.length - (intOf i).toNat)
      case atStart => exact ⟨0, V, by omega, rfl, hU2, hb2⟩
      case round =>
        obtain ⟨p, V, hp, rfl, hU, hb⟩ := hrel
        clear hU2 hb2
        by_cases hpl : p < fs.length
        · rcases hI with hI | ⟨b2, o2, rfl, hI⟩
          · subst hI; simp at hpl
          have cp := Keeps.of hb _ _ (hI p hpl)
          have hx0 := HFr.out fs[p] (List.getElem_mem hpl)
          obtain ⟨x, hx⟩ : ∃ x : Nat, fs[p] = (x : Int) := ⟨fs[p].toNat, by omega⟩
          have hxj : x < j := by omega
          have hxn : x < L.length := by omega
          rw [hx] at cp
          have hlen := rowP_len L j fs p x
          have hlast := rowP_last (L := L) (j := j) (fs := fs) (p := p) (i := x)
          have hmore := fun h i => rowP_more (L := L) (j := j) hpl hx h i
          have hsame := fun h i => rowP_same (L := L) (j := j) hpl hx h i
          have cU := hU.cell x hxn
          obtain ⟨A, cap, hV, hA⟩ := hU.at hxn
          have hrow := hU.row x hxn
          have hUlt := hU.lt
          have hS := hb.size
          rw [hV] at cU hrow
          obtain ⟨rx, hrx⟩ : ∃ rx, rx = rowP L j fs p x := ⟨_, rfl⟩
          rw [← hrx] at cU hrow hlen hA hlast hV
          have HRX := Lib.hid hrx
          have HU := Lib.hid hU
          have HV := Lib.hid hV
          have HFr2 := HFr
          clear hU hrx hx hI hx0 hV
          rcases hA with hA | ⟨g0, z, rfl, hpos, hlz, hcz⟩
          · have hc := hlast.1 (.inl hA)
            have HM := Lib.hid (hmore hc)
            subst hA
            clear hmore hsame hlast hc
            simp only [List.length_nil] at cU hrow hlen
            have HV : Hid (V x = .slice A 0 cap) := HV.out
            go_wp2_with (at_builtin; refine wpList_append_lies _ rfl _ _ 41 rfl w.heap.size 3 i0 (.int .i64 0) 1 8 Tryz.underlying41 hi hz0 hz1 hz2 rfl (by decide) _ _ _ rfl (hrow.alloc _) ⟨wr.heap.size, 0, none⟩ 1 1 [.int .i64 j] rfl rfl (cell_one_new _ _ _) (by intro u hu; simp at hu; subst hu; rfl) (by decide) (by unfold maxLen; omega) (by omega) (by simp; omega) (wr.heap.size + 1) (by simp) ?_)
            intro g cap2 w4 hown hgr hg4 hlt4
            have hUw := HU.out.keep ((Below.refl _ _).alloc (Nat.le_refl _) (.cells #[.int .i64 j] 3))
            have cU4 : w4.cell? ⟨U, x, none⟩ = some (.slice A 0 cap) := hgr.cell (by rw [World.cell?_alloc_lt _ _ _ hUlt]; exact cU) (by rw [← HV.out]; exact fun e => hUw.ne x hxn e.symm)
            have fU4 : w4.frozen? ⟨U, x, none⟩ = false := by
              rw [hgr.frozen_far _ (by simp; omega) (by rw [← HV.out]; exact fun e => hUw.ne x hxn e.symm)]; exact hUw.fz x
            have hb4 : Below w.heap.size w w4 := (hb.alloc hS _).grown hgr (by simp; omega) (fun k hk => (hrow.lt k hk).1)
            have hput := hUw.put (z := (j : Int)) (g := g) (cap := cap2) (w1 := w4) hxn (by rw [← HRX.out]; exact hown) (by rw [HV.out]; exact hgr) (by rw [HV.out]; simpa using hg4)
            have ee : (rowP L j fs p x).length = 0 := by rw [← HRX.out]; try rfl
            rw [ee] at hput
            have hfin : ∃ V', UsI (w4.setCell ⟨U, x, none⟩ (.slice (some ⟨g, 0, none⟩) (0 + 1) cap2)) w.heap.size U L.length V' (rowP L j fs (p + 1)) := ⟨_, hput.congr (fun i _ => HM.out i)⟩
            obtain ⟨V', hfin⟩ := hfin
            have hb5 : Below w.heap.size w (w4.setCell ⟨U, x, none⟩ (.slice (some ⟨g, 0, none⟩) (0 + 1) cap2)) := hb4.setCell (by simp; exact HU.out.base) _
            have HFin := Lib.hid hfin
            clear hfin hput hUw hown hgr hg4 hrow
            go_wp2
            exact ⟨⟨p + 1, V', by omega, by go_num, HFin.out, hb5⟩, by simp [intOf]; omega⟩
          · have hposI : ¬ ((rx.length : Int) = 0) := by omega
            have hz1' : ((rx.length : Int) == 0) = false := by simpa using hposI
            by_cases hzj : z = (j : Int)
            · have hc : (fs.take p).contains (x : Int) = true := by
                by_cases hh : (fs.take p).contains (x : Int) = true
                · exact hh
                · exfalso
                  rcases hlast.2 (by simpa using hh) with h | h
                  · rw [h] at hpos; simp at hpos
                  · exact h (by rw [hlz, hzj])
              have HM := Lib.hid (hsame hc)
              subst hzj
              clear hmore hsame hlast hc hrow
              have hln : rx.length - 1 + 1 = rx.length := by omega
              go_wp2
              exact ⟨⟨p + 1, V, by omega, by go_num, HU.out.congr (fun i _ => HM.out i), hb⟩, by simp [intOf]; omega⟩
            · have hc := hlast.1 (.inr (by rw [hlz]; simpa using hzj))
              have HM := Lib.hid (hmore hc)
              have hzb : (z != (j : Int)) = true := by simpa using hzj
              clear hmore hsame hlast hc hlz hzj
              go_wp2_with (at_builtin; refine wpList_append_lies _ rfl _ _ 41 rfl w.heap.size 3 i0 (.int .i64 0) 1 8 Tryz.underlying41 hi hz0 hz1 hz2 rfl (by decide) _ _ _ rfl (hrow.alloc _) ⟨wr.heap.size, 0, none⟩ 1 1 [.int .i64 j] rfl rfl (cell_one_new _ _ _) (by intro u hu; simp at hu; subst hu; rfl) (by decide) (by unfold maxLen; omega) (by omega) (by simp; omega) (wr.heap.size + 1) (by simp) ?_)
              intro g cap2 w4 hown hgr hg4 hlt4
              have hUw := HU.out.keep ((Below.refl _ _).alloc (Nat.le_refl _) (.cells #[.int .i64 j] 3))
              have cU4 : w4.cell? ⟨U, x, none⟩ = some (.slice (some ⟨g0, 0, none⟩) rx.length cap) := hgr.cell (by rw [World.cell?_alloc_lt _ _ _ hUlt]; exact cU) (by rw [← HV.out]; exact fun e => hUw.ne x hxn e.symm)
              have fU4 : w4.frozen? ⟨U, x, none⟩ = false := by
                rw [hgr.frozen_far _ (by simp; omega) (by rw [← HV.out]; exact fun e => hUw.ne x hxn e.symm)]; exact hUw.fz x
              have hb4 : Below w.heap.size w w4 := (hb.alloc hS _).grown hgr (by simp; omega) (fun k hk => (hrow.lt k hk).1)
              have hput := hUw.put (z := (j : Int)) (g := g) (cap := cap2) (w1 := w4) hxn (by rw [← HRX.out]; exact hown) (by rw [HV.out]; exact hgr) (by rw [HV.out]; simpa using hg4)
              have ee : (rowP L j fs p x).length = rx.length := by rw [← HRX.out]; try rfl
              rw [ee] at hput
              have hfin : ∃ V', UsI (w4.setCell ⟨U, x, none⟩ (.slice (some ⟨g, 0, none⟩) (rx.length + 1) cap2)) w.heap.size U L.length V' (rowP L j fs (p + 1)) := ⟨_, hput.congr (fun i _ => HM.out i)⟩
              obtain ⟨V', hfin⟩ := hfin
              have hb5 : Below w.heap.size w (w4.setCell ⟨U, x, none⟩ (.slice (some ⟨g, 0, none⟩) (rx.length + 1) cap2)) := hb4.setCell (by simp; exact HU.out.base) _
              have HFin := Lib.hid hfin
              clear hfin hput hUw hown hgr hg4 hrow
              go_wp2
              exact ⟨⟨p + 1, V', by omega, by go_num, HFin.out, hb5⟩, by simp [intOf]; omega⟩
        · have hp' : p = fs.length := by omega
          subst hp'
          go_wp2
          exact ⟨⟨j + 1, V, by omega, by go_num, hU.congr (fun i _ => (HE.out i).symm), hb⟩, by simp [intOf]; omega⟩
    · have hj' : j = L.length := by omega
      subst hj'
      go_wp2
      go_ret2
      exact ⟨_, V, rfl, hU, hb⟩
end Go.Proofs.YtnapbfilkahobaaGreatDoor

/- weirsame.Ints at two lists that are the same. -/
namespace Go.Proofs.YtnapbfilkahobaaGreatDoor
open Go.RowKit

set_option maxHeartbeats 1000000 in
theorem ints_same {w : World} {la lb : Option Addr} {z : List Int} (ha : IntsAt w la z) (hb : IntsAt w lb z) (ca cb : Nat) (hz : z.length ≤ 9223372036854775807) :
    Calls Tryz.prog 22 #[.slice la z.length ca, .slice lb z.length cb] w fun e w' => e = .returned (.bool true) ∧ ∃ n, w' = w.drewN n := by
  go_enter Tryz.func22, Tryz.ntmps22
  go_wp2_with fail
  go_loopw [5] (fun i wr => ∃ j : Nat, j ≤ z.length ∧ i = .int .i64 j ∧ ∃ n, wr = w.drewN n) (fun i _ => z.length - (intOf i).toNat)
  case atStart => exact ⟨0, by omega, rfl, 0, rfl⟩
  case round =>
    obtain ⟨j, hj, rfl, n, rfl⟩ := hrel
    by_cases hlt : j < z.length
    · have hi : (j : Int) < z.length := by omega
      rcases ha with ha | ⟨b1, o1, rfl, ha⟩
      · subst ha; simp at hlt
      rcases hb with hb | ⟨b2, o2, rfl, hb⟩
      · subst hb; simp at hlt
      have c1 := ha j hlt
      have c2 := hb j hlt
      generalize z[j] = x at *
      clear ha hb
      go_wp2_with fail
      go_quiet (fail)
      go_wp2_with fail
      exact ⟨⟨j + 1, by omega, by go_num, n + nq, rfl⟩, by simp [intOf]; omega⟩
    · have hi : ¬ (j : Int) < z.length := by omega
      go_wp2
      go_ret
      exact ⟨rfl, n, rfl⟩
end Go.Proofs.YtnapbfilkahobaaGreatDoor

/- Nodes as cells in a row; numbers of a row that a call owns. -/
namespace Go.Proofs.YtnapbfilkahobaaGreatDoor
open Go.RowKit

/-- A node and where its numbers lie. -/
abbrev Nx := Nd × Option Addr × Nat
def ncells : List Nx → List Value
  | [] => []
  | x :: r => .int .i64 x.1.k :: .slice x.2.1 x.1.fs.length x.2.2 :: .string x.1.tx :: .int .i64 x.1.n :: ncells r
theorem ncells_len : ∀ X : List Nx, (ncells X).length = X.length * 4
  | [] => rfl
  | x :: r => by simp only [ncells, List.length_cons, ncells_len r]; omega
theorem ncells_snoc : ∀ (X : List Nx) (y : Nx), ncells (X ++ [y]) = ncells X ++ [.int .i64 y.1.k, .slice y.2.1 y.1.fs.length y.2.2, .string y.1.tx, .int .i64 y.1.n]
  | [], y => rfl
  | x :: r, y => by simp only [List.cons_append, ncells, ncells_snoc r y]
theorem ncells_at : ∀ (X : List Nx) (i : Nat) (h : i < X.length), (ncells X)[i * 4]? = some (.int .i64 X[i].1.k) ∧ (ncells X)[i * 4 + 1]? = some (.slice X[i].2.1 X[i].1.fs.length X[i].2.2) ∧ (ncells X)[i * 4 + 2]? = some (.string X[i].1.tx) ∧ (ncells X)[i * 4 + 3]? = some (.int .i64 X[i].1.n)
  | [], i, h => by simp at h
  | x :: r, 0, _ => by simp [ncells]
  | x :: r, i + 1, h => by
    have := ncells_at r i (by simpa using h)
    rw [show (i + 1) * 4 = i * 4 + 4 from by omega]
    simpa [ncells] using this
theorem ncells_one (X : List Nx) : ∀ u ∈ ncells X, u.oneCell' = true := by
  induction X with
  | nil => simp [ncells]
  | cons x r ih =>
    intro u hu
    simp only [ncells, List.mem_cons] at hu
    rcases hu with rfl | rfl | rfl | rfl | hu
    · rfl
    · rfl
    · rfl
    · rfl
    · exact ih u hu

/-- That a node's numbers lie where it says. -/
def NxOk (w : World) (x : Nx) : Prop := IntsAt w x.2.1 x.1.fs ∧ x.1.tx.size ≤ 9223372036854775807 ∧ x.1.fs.length ≤ 9223372036854775807

theorem nodes_cells {w : World} {b : Nat} : ∀ (L : List Nd) (o : Nat), (∀ (i : Nat) (h : i < L.length), NdAt w b (o + i * 4) L[i]) →
    ∃ X : List Nx, X.map Prod.fst = L ∧ (∀ j u, (ncells X)[j]? = some u → w.cell? ⟨b, o + j, none⟩ = some u) ∧ ∀ x ∈ X, NxOk w x
  | [], o, _ => ⟨[], rfl, by simp [ncells], by simp⟩
  | nd :: L, o, h => by
    obtain ⟨X, h1, h2, h3⟩ := nodes_cells L (o + 4) (fun i hi => by
      have := h (i + 1) (by simpa using hi)
      rw [show o + (i + 1) * 4 = o + 4 + i * 4 by omega] at this
      simpa using this)
    obtain ⟨c0, ⟨fa, fc, c1, hI⟩, c2, c3, hz⟩ := h 0 (by simp)
    simp only [List.getElem_cons_zero, Nat.zero_mul, Nat.add_zero] at c0 c1 c2 c3 hI hz
    refine ⟨(nd, fa, fc) :: X, by simp [h1], fun j u hu => ?_, fun x hx => ?_⟩
    · match j, hu with
      | 0, hu => simp [ncells] at hu; subst hu; exact c0
      | 1, hu => simp [ncells] at hu; subst hu; exact c1
      | 2, hu => simp [ncells] at hu; subst hu; exact c2
      | 3, hu => simp [ncells] at hu; subst hu; exact c3
      | j + 4, hu =>
        simp [ncells] at hu
        have := h2 j u hu
        rw [show o + (j + 4) = o + 4 + j by omega]; exact this
    · rcases List.mem_cons.1 hx with rfl | hx
      · exact ⟨hI, hz⟩
      · exact h3 x hx

theorem nodes_of_cells {w : World} {b : Nat} {X : List Nx} (hc : ∀ j u, (ncells X)[j]? = some u → w.cell? ⟨b, j, none⟩ = some u) (hx : ∀ x ∈ X, NxOk w x) : NdsAt w (some ⟨b, 0, none⟩) (X.map Prod.fst) := by
  refine .inr ⟨b, 0, rfl, fun i hi => ?_⟩
  have hi' : i < X.length := by simpa using hi
  obtain ⟨e0, e1, e2, e3⟩ := ncells_at X i hi'
  have hX := hx X[i] (List.getElem_mem hi')
  simp only [Nat.zero_add, List.getElem_map]
  exact ⟨hc _ _ e0, ⟨_, _, hc _ _ e1, hX.1⟩, hc _ _ e2, hc _ _ e3, hX.2⟩

theorem NxOk.keep {w w' : World} {x : Nx} (h : NxOk w x) (k : Keeps w w') : NxOk w' x := ⟨h.1.keep k, h.2⟩

theorem own_ints {w : World} {B n cap : Nat} {A : Option Addr} {z : List Int} (h : w.ownsRow B 3 1 (.slice A n cap) n (iv z)) (hn : n = z.length) : IntsAt w A z ∧ n ≤ cap := by
  subst hn
  rcases h.2 with ⟨h0, h1⟩ | ⟨g, cap', cur, h0, hb, hg, hle, hm, hs, ht⟩
  · exact ⟨.inl (List.length_eq_zero_iff.1 h1), by omega⟩
  · simp at h0
    obtain ⟨rfl, rfl⟩ := h0
    refine ⟨?_, hle⟩
    by_cases hz : z = []
    · exact .inl hz
    · refine .inr ⟨g, 0, rfl, fun j hj => ?_⟩
      rw [Nat.zero_add, h.cellAt j (by omega), iv_get z j hj]
theorem IntsAt.pre {w : World} {A : Option Addr} {z y : List Int} (h : IntsAt w A (z ++ y)) : IntsAt w A z := by
  rcases h with h | ⟨b, o, h1, h2⟩
  · exact .inl (by simp at h; exact h.1)
  · refine .inr ⟨b, o, h1, fun j hj => ?_⟩
    have := h2 j (by simp; omega)
    rw [List.getElem_append_left hj] at this; exact this
theorem UsI.ints {w : World} {B U n : Nat} {V : Nat → Value} {F : Nat → List Int} (h : UsI w B U n V F) {i : Nat} (hi : i < n) : ∃ A cap, V i = .slice A (F i).length cap ∧ IntsAt w A (F i) ∧ (F i).length ≤ cap ∧ (A = none → cap = 0) := by
  have hr := h.row i hi
  obtain ⟨A, cap, hv⟩ := own_form hr
  rw [hv] at hr
  obtain ⟨h1, h2⟩ := own_ints hr rfl
  refine ⟨A, cap, hv, h1, h2, fun hn => ?_⟩
  rcases hr.2 with ⟨e, _⟩ | ⟨g, cap', cur, e, _⟩
  · simp at e; exact e.2.2
  · simp [hn] at e

theorem sinks_ok {w : World} (hg : Gl w) {la : Option Addr} {L : List Nd} {c : Nat} (hL : NdsAt w la L) (hc : L.length ≤ c) (h0 : jobP L = 0) :
    Calls Tryz.prog 20 #[.slice la L.length c] w fun e w' => ∃ A cap, e = .returned (.tuple #[.slice A (ofP L 10).length cap, .nilIface]) ∧ IntsAt w' A (ofP L 10) ∧ Below w.heap.size w w' := by
  have ck := ofKind_ok hg hL hc 10 h0
  clear hL hg
  go_enter Tryz.func20, Tryz.ntmps20
  go_wp2_with (go_at_call 51; refine ck.mono ?_; rintro e w' ⟨v, rfl, hown, hb2⟩)
  go_ret2
  obtain ⟨A, cap, rfl⟩ := own_form hown
  exact ⟨A, cap, rfl, (own_ints hown rfl).1, hb2⟩
end Go.Proofs.YtnapbfilkahobaaGreatDoor
