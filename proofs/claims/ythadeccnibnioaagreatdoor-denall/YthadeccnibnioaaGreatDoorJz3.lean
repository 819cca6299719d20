import Derived.Test.YthadeccnibnioaaGreatDoorJz2
import Derived.Test.YthadeccnibnioaaGreatDoorHp
import Derived.Deep.OwnRows
import Derived.Deep.AppendLies
/- The numbers of a kind. -/
namespace Go.Proofs.YthadeccnibnioaaGreatDoor
open Go.RowKit

theorem Tryz.infoInt : (Tryz.prog.info? 3).map (fun i => (i.zero, i.size, i.bytes)) = some (some (.int .i64 0), 1, 8) := by kernel_rfl

/-- Numbers of a kind among the first j. -/
def ofTo (L : List Nd) (k : Int) (j : Nat) : List Int := ((List.range j).filter fun i => (L.getD i (sink 0)).k == k).map fun (i : Nat) => (i : Int)
theorem ofTo_all (L : List Nd) (k : Int) : ofTo L k L.length = ofP L k := rfl
theorem ofTo_step {L : List Nd} {k : Int} {j : Nat} (h : j < L.length) : ofTo L k (j + 1) = ofTo L k j ++ (if L[j].k == k then [(j : Int)] else []) := by
  unfold ofTo
  rw [List.range_succ, List.filter_append, List.map_append]
  congr 1
  have : L.getD j (sink 0) = L[j] := by simp [List.getD, h]
  rw [List.filter_cons, List.filter_nil, this]
  split <;> rfl
theorem ofTo_len (L : List Nd) (k : Int) (j : Nat) : (ofTo L k j).length ≤ j := by
  unfold ofTo; rw [List.length_map]
  exact Nat.le_trans (List.length_filter_le _ _) (by simp)

def iv (l : List Int) : List Value := l.map fun z => .int .i64 z
theorem iv_snoc (l : List Int) (z : Int) : iv (l ++ [z]) = iv l ++ [.int .i64 z] := by simp [iv]

theorem cell_one_new (w : World) (a : Value) (t : TypeId) : ∀ j u, [a][j]? = some u → (w.alloc (.cells #[a] t)).cell? ((⟨w.heap.size, 0, none⟩ : Addr).add j) = some u := by
  intro j u hj
  match j, hj with
  | 0, hj => simp at hj; subst hj; simp [Addr.add]

theorem cell_one_new2 (w : World) (o : Obj) (a : Value) (t : TypeId) : ∀ j u, [a][j]? = some u → ((w.alloc o).alloc (.cells #[a] t)).cell? ((⟨w.heap.size + 1, 0, none⟩ : Addr).add j) = some u := by
  intro j u hj
  have h := cell_one_new (w.alloc o) a t j u hj
  have e : (w.alloc o).heap.size = w.heap.size + 1 := by simp
  rw [e] at h; exact h

set_option maxHeartbeats 1000000 in
theorem ofKind_bad {w : World} (hg : Gl w) {la : Option Addr} {L : List Nd} {c : Nat} (hL : NdsAt w la L) (hc : L.length ≤ c) (kd : Int) (h0 : jobP L ≠ 0) :
    Calls Tryz.prog 52 #[.slice la L.length c, .int .i64 kd] w fun e w' => e = .returned (.tuple #[.slice none 0 0, errV (jobP L)]) ∧ Below w.heap.size w w' := by
  have cj := job_any hg hL hc
  have hV := errV_pos h0
  rw [hV] at cj ⊢
  clear hL hg hV
  go_enter Tryz.func52, Tryz.ntmps52
  go_wp2_with (go_at_call 16; refine cj.mono ?_; rintro e w' ⟨rfl, hb2⟩)
  go_ret2
  exact ⟨rfl, hb2⟩

set_option maxHeartbeats 1000000 in
theorem ofKind_ok {w : World} (hg : Gl w) {la : Option Addr} {L : List Nd} {c : Nat} (hL : NdsAt w la L) (hc : L.length ≤ c) (kd : Int) (h0 : jobP L = 0) :
    Calls Tryz.prog 52 #[.slice la L.length c, .int .i64 kd] w fun e w' => ∃ v, e = .returned (.tuple #[v, .nilIface]) ∧ w'.ownsRow w.heap.size 3 1 v (ofP L kd).length (iv (ofP L kd)) ∧ Below w.heap.size w w' := by
  obtain ⟨i0, hi, hz0, hz1, hz2⟩ := info_parts Tryz.infoInt
  have cj := job_any hg hL hc
  have hl := (job_ok h0).1
  rw [h0, errV_zero] at cj
  clear h0 hg
  rw [← ofTo_all]
  go_enter Tryz.func52, Tryz.ntmps52
  go_wp2_with (go_at_call 16; refine cj.mono ?_; rintro e w1 ⟨rfl, hb1⟩)
  go_loopw [7, 17] (fun v i wr => ∃ j : Nat, j ≤ L.length ∧ i = .int .i64 j ∧ wr.ownsRow w.heap.size 3 1 v (ofTo L kd j).length (iv (ofTo L kd j)) ∧ Below w.heap.size w wr) (fun _ i _ => L.length - (intOf i).toNat)
  case atStart => exact ⟨0, by omega, rfl, World.ownsRow_nil _ _ _ _, hb1⟩
  case round =>
    obtain ⟨j, hj, rfl, hown, hb⟩ := hrel
    have hle := ofTo_len L kd j
    by_cases hlt : j < L.length
    · rcases hL with hL | ⟨b, o, rfl, hL⟩
      · subst hL; simp at hlt
      obtain ⟨c0, ⟨fa, fc, c1, -⟩, c2, c3, -⟩ := (hL j hlt).keep (Keeps.of hb)
      have hS := hb.size
      have hst := ofTo_step (k := kd) hlt
      generalize L[j] = nd at *
      obtain ⟨k, fs, tx, n⟩ := nd
      simp only at *
      by_cases he : (k == kd) = true
      · rw [if_pos he] at hst
        have HS := Lib.hid hst
        clear hst hL cj
        have hb2 := hb.alloc hS (.cells #[.int .i64 k, .slice fa fs.length fc, .string tx, .int .i64 n] 52)
        go_wp2_with (at_builtin; refine wpList_append_own _ rfl _ _ 41 rfl w.heap.size 3 i0 (.int .i64 0) 1 8 Tryz.underlying41 hi hz0 hz1 hz2 rfl (by decide) _ _ _ rfl ((hown.alloc _).alloc _) ⟨wr.heap.size + 1, 0, none⟩ 1 1 [.int .i64 j] rfl rfl (cell_one_new2 _ _ _ _) (by intro u hu; simp at hu; subst hu; rfl) (by unfold maxLen; omega) (by omega) (by simp; omega) ?_)
        intro v' w3 hown' hgrow _
        have hb3 : Below w.heap.size w w3 := (hb2.alloc (by simp; omega) _).grown hgrow (by simp; omega) (fun k hk => (hown.lt k hk).1)
        have ho3 : w3.ownsRow w.heap.size 3 1 v' (ofTo L kd (j + 1)).length (iv (ofTo L kd (j + 1))) := by
          rw [HS.out, iv_snoc]; simpa using hown'
        clear hown' hgrow hown hb hS hb2
        go_wp2
        exact ⟨⟨j + 1, by omega, by go_num, ho3, hb3⟩, by simp [intOf]; omega⟩
      · have he' : (k == kd) = false := by simpa using he
        rw [if_neg he, List.append_nil] at hst
        have HS := Lib.hid hst
        clear hst hL cj
        have hb2 := hb.alloc hS (.cells #[.int .i64 k, .slice fa fs.length fc, .string tx, .int .i64 n] 52)
        have ho2 := hown.alloc (.cells #[.int .i64 k, .slice fa fs.length fc, .string tx, .int .i64 n] 52)
        go_wp2
        exact ⟨⟨j + 1, by omega, by go_num, by rw [HS.out]; exact ho2, hb2⟩, by simp [intOf]; omega⟩
    · have hj' : j = L.length := by omega
      subst hj'
      go_wp2
      go_ret2
      exact ⟨_, rfl, hown, hb⟩
end Go.Proofs.YthadeccnibnioaaGreatDoor

/- Rows of numbers, each in a block of its own, behind one block of slices. -/
namespace Go.Proofs.YthadeccnibnioaaGreatDoor
open Go.RowKit

structure UsI (w : World) (B U n : Nat) (V : Nat → Value) (F : Nat → List Int) : Prop where
  base : B ≤ U
  lt : U < w.heap.size
  cell : ∀ i, i < n → w.cell? ⟨U, i, none⟩ = some (V i)
  fz : ∀ i, w.frozen? ⟨U, i, none⟩ = false
  row : ∀ i, i < n → w.ownsRow B 3 1 (V i) (F i).length (iv (F i))
  ne : ∀ i, i < n → (V i).ownBlock ≠ some U
  apart : ∀ i k, i < n → k < n → i ≠ k → (V i).ownBlock = none ∨ (V i).ownBlock ≠ (V k).ownBlock

theorem ownsRow_of_block {w w' : World} {base e size n : Nat} {v : Value} {xs : List Value} (h : w.ownsRow base e size v n xs) (hb : ∀ g, v.ownBlock = some g → w'.heap[g]? = w.heap[g]?) : w'.ownsRow base e size v n xs := by
  refine ⟨h.1, ?_⟩
  rcases h.2 with hn | ⟨g, cap, cur, rfl, hb1, hgg, rest⟩
  · exact .inl hn
  · exact .inr ⟨g, cap, cur, rfl, hb1, by rw [hb g rfl]; exact hgg, rest⟩

theorem UsI.keep {w w' : World} {B U n : Nat} {V : Nat → Value} {F : Nat → List Int} (h : UsI w B U n V F) (hb : Below w.heap.size w w') : UsI w' B U n V F := by
  refine ⟨h.base, Nat.lt_of_lt_of_le h.lt hb.size, fun i hi => ?_, fun i => ?_, fun i hi => ?_, h.ne, h.apart⟩
  · rw [World.cell?_of_block (w := w) (hb.block U h.lt)]; exact h.cell i hi
  · rw [World.frozen?_of_block (w := w) (hb.block U h.lt)]; exact h.fz i
  · exact ownsRow_of_block (h.row i hi) (fun g hg => hb.block g ((h.row i hi).lt g hg).2)

theorem UsI.congr {w : World} {B U n : Nat} {V : Nat → Value} {F G : Nat → List Int} (h : UsI w B U n V F) (hFG : ∀ i, i < n → G i = F i) : UsI w B U n V G :=
  ⟨h.base, h.lt, h.cell, h.fz, fun i hi => by rw [hFG i hi]; exact h.row i hi, h.ne, h.apart⟩

theorem UsI.put {w w1 : World} {B U n x g cap : Nat} {V : Nat → Value} {F : Nat → List Int} {z : Int} (h : UsI w B U n V F) (hx : x < n)
    (hown : w1.ownsRow B 3 1 (.slice (some ⟨g, 0, none⟩) ((F x).length + 1) cap) ((F x).length + 1) (iv (F x) ++ [.int .i64 z])) (hgr : w.grownBy w1 (V x).ownBlock) (hg : (V x).ownBlock = some g ∨ g = w.heap.size) :
    UsI (w1.setCell ⟨U, x, none⟩ (.slice (some ⟨g, 0, none⟩) ((F x).length + 1) cap)) B U n (fun i => if i = x then .slice (some ⟨g, 0, none⟩) ((F x).length + 1) cap else V i) (fun i => if i = x then F x ++ [z] else F i) := by
  have hU := h.lt
  have hgU : g ≠ U := by
    rcases hg with hg | hg
    · intro e; exact h.ne x hx (by rw [hg, e])
    · omega
  have hUne : some U ≠ (V x).ownBlock := fun e => h.ne x hx e.symm
  have hb1 : w1.heap[U]? = w.heap[U]? := hgr.block U hU hUne
  have hs1 := hgr.size
  have hcell1 : ∀ i, i < n → w1.cell? ⟨U, i, none⟩ = some (V i) := fun i hi => by rw [World.cell?_of_block (w := w) hb1]; exact h.cell i hi
  have hfz1 : ∀ i, w1.frozen? ⟨U, i, none⟩ = false := fun i => by rw [World.frozen?_of_block (w := w) hb1]; exact h.fz i
  have hrow1 : ∀ i, i < n → i ≠ x → w1.ownsRow B 3 1 (V i) (F i).length (iv (F i)) := fun i hi hne => (h.row i hi).kept hgr (h.apart i x hi hx hne)
  refine ⟨h.base, by simp; omega, fun i hi => ?_, fun i => ?_, fun i hi => ?_, fun i hi => ?_, fun i k hi hk hik => ?_⟩
  · by_cases he : i = x
    · subst he; rw [if_pos rfl]; exact World.cell?_setCell_same _ _ _ (hcell1 i hi)
    · rw [if_neg he, World.cell?_setCell_other _ _ _ _ (fun e => he (by injection e with _ e2; exact e2.symm))]; exact hcell1 i hi
  · rw [World.frozen?_setCell]; exact hfz1 i
  · by_cases he : i = x
    · subst he
      simp only [if_true]
      rw [iv_snoc]
      have := ownsRow_of_block (w' := w1.setCell ⟨U, i, none⟩ (.slice (some ⟨g, 0, none⟩) ((F i).length + 1) cap)) hown (fun g' hg' => by
        have e : g' = g := by simpa [Value.ownBlock] using hg'.symm
        subst e; exact Below.heap_setCell _ _ _ _ hgU)
      simpa using this
    · simp only [if_neg he]
      exact ownsRow_of_block (hrow1 i hi he) (fun g' hg' => Below.heap_setCell _ _ _ _ (fun e => h.ne i hi (by rw [hg', e])))
  · by_cases he : i = x
    · subst he; simp only [if_true]; simp [Value.ownBlock]; exact hgU
    · simp only [if_neg he]; exact h.ne i hi
  · by_cases he : i = x
    · by_cases hk2 : k = x
      · omega
      · subst he
        simp only [if_true, if_neg hk2]
        right
        rcases hg with hg | hg
        · have := h.apart k i hk hi (by omega)
          rcases this with t | t
          · rw [t]; simp [Value.ownBlock]
          · rw [hg] at t; simp [Value.ownBlock]; exact fun e => t e.symm
        · simp [Value.ownBlock]
          intro e
          have := ((h.row k hk).lt g e.symm).2
          omega
    · simp only [if_neg he]
      by_cases hk2 : k = x
      · subst hk2
        simp only [if_true]
        rcases hg with hg | hg
        · have := h.apart i k hi hk hik
          rcases this with t | t
          · exact .inl t
          · right; rw [hg] at t; simpa [Value.ownBlock] using t
        · right
          intro e
          have := ((h.row i hi).lt g (by rw [e]; rfl)).2
          omega
      · simp only [if_neg hk2]; exact h.apart i k hi hk hik

theorem UsI.start {w : World} {B n : Nat} (hB : B ≤ w.heap.size) : UsI (w.alloc (.cells (madeCells #[.slice none 0 0] n) 41)) B w.heap.size n (fun _ => .slice none 0 0) (fun _ => []) := by
  refine ⟨hB, by simp, fun i hi => ?_, fun i => ?_, fun i hi => ?_, fun i hi => by simp [Value.ownBlock], fun i k _ _ _ => .inl (by simp [Value.ownBlock])⟩
  · rw [World.cell?_alloc_new]; simp [madeCells, hi, Nat.mod_one]
  · exact World.frozen?_alloc_new _ _ _ _
  · exact World.ownsRow_nil _ _ _ _
end Go.Proofs.YthadeccnibnioaaGreatDoor
