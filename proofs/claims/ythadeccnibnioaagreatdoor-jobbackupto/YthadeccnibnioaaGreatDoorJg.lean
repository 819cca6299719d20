/- The numbers of a kind. -/
import Derived.Test.YthadeccnibnioaaGreatDoorJf
namespace Go.Proofs.YthadeccnibnioaaGreatDoor
open Go.RowKit

theorem Tryz.infoInt : (Tryz.prog.info? 3).map (fun i => (i.zero, i.size, i.bytes)) = some (some (.int .i64 0), 1, 8) := by kernel_rfl

/-- Numbers of a kind among the first j. -/
def ofTo (L : List Nd) (k : Int) (j : Nat) : List Int := ((List.range j).filter fun i => (L.getD i (sink 0)).k == k).map fun (i : Nat) => (i : Int)
theorem ofTo_zero (L : List Nd) (k : Int) : ofTo L k 0 = [] := rfl
theorem ofTo_all (L : List Nd) (k : Int) : ofTo L k L.length = ofP L k := rfl
theorem ofTo_step {L : List Nd} {k : Int} {j : Nat} (h : j < L.length) : ofTo L k (j + 1) = ofTo L k j ++ (if L[j].k == k then [(j : Int)] else []) := by
  unfold ofTo
  rw [List.range_succ, List.filter_append, List.map_append]
  congr 1
  have : L.getD j (sink 0) = L[j] := by simp [List.getD, h]
  rw [List.filter_cons, List.filter_nil, this]
  split <;> rfl
theorem ofTo_len (L : List Nd) (k : Int) (j : Nat) : (ofTo L k j).length ≤ j := by
  unfold ofTo; rw [List.length_map]
  exact Nat.le_trans (List.length_filter_le _ _) (by simp)

def iv (l : List Int) : List Value := l.map fun z => .int .i64 z
theorem iv_snoc (l : List Int) (z : Int) : iv (l ++ [z]) = iv l ++ [.int .i64 z] := by simp [iv]

theorem cell_one_new (w : World) (a : Value) (t : TypeId) : ∀ j u, [a][j]? = some u → (w.alloc (.cells #[a] t)).cell? ((⟨w.heap.size, 0, none⟩ : Addr).add j) = some u := by
  intro j u hj
  match j, hj with
  | 0, hj => simp at hj; subst hj; simp [Addr.add]

theorem cell_one_new2 (w : World) (o : Obj) (a : Value) (t : TypeId) : ∀ j u, [a][j]? = some u → ((w.alloc o).alloc (.cells #[a] t)).cell? ((⟨w.heap.size + 1, 0, none⟩ : Addr).add j) = some u := by
  intro j u hj
  have h := cell_one_new (w.alloc o) a t j u hj
  have e : (w.alloc o).heap.size = w.heap.size + 1 := by simp
  rw [e] at h; exact h

set_option maxHeartbeats 1000000 in
theorem ofKind_bad {w : World} (hg : Gl w) {la : Option Addr} {L : List Nd} {c : Nat} (hL : NdsAt w la L) (hc : L.length ≤ c) (kd : Int) (h0 : jobP L ≠ 0) :
    Calls Tryz.prog 52 #[.slice la L.length c, .int .i64 kd] w fun e w' => e = .returned (.tuple #[.slice none 0 0, errV (jobP L)]) ∧ Below w.heap.size w w' := by
  have cj := job_any hg hL hc
  have hV := errV_pos h0
  rw [hV] at cj ⊢
  clear hL hg hV
  go_enter Tryz.func52, Tryz.ntmps52
  go_wp2_with (go_at_call 16; refine cj.mono ?_; rintro e w' ⟨rfl, hb2⟩)
  go_ret2
  exact ⟨rfl, hb2⟩

set_option maxHeartbeats 1000000 in
theorem ofKind_ok {w : World} (hg : Gl w) {la : Option Addr} {L : List Nd} {c : Nat} (hL : NdsAt w la L) (hc : L.length ≤ c) (kd : Int) (h0 : jobP L = 0) :
    Calls Tryz.prog 52 #[.slice la L.length c, .int .i64 kd] w fun e w' => ∃ v, e = .returned (.tuple #[v, .nilIface]) ∧ w'.ownsRow w.heap.size 3 1 v (ofP L kd).length (iv (ofP L kd)) ∧ Below w.heap.size w w' := by
  obtain ⟨i0, hi, hz0, hz1, hz2⟩ := info_parts Tryz.infoInt
  have cj := job_any hg hL hc
  have hl := (job_ok h0).1
  rw [h0, errV_zero] at cj
  clear h0 hg
  rw [← ofTo_all]
  go_enter Tryz.func52, Tryz.ntmps52
  go_wp2_with (go_at_call 16; refine cj.mono ?_; rintro e w1 ⟨rfl, hb1⟩)
  go_loopw [7, 17] (fun v i wr => ∃ j : Nat, j ≤ L.length ∧ i = .int .i64 j ∧ wr.ownsRow w.heap.size 3 1 v (ofTo L kd j).length (iv (ofTo L kd j)) ∧ Below w.heap.size w wr) (fun _ i _ => L.length - (intOf i).toNat)
  case atStart => exact ⟨0, by omega, rfl, World.ownsRow_nil _ _ _ _, hb1⟩
  case round =>
    obtain ⟨j, hj, rfl, hown, hb⟩ := hrel
    have hle := ofTo_len L kd j
    by_cases hlt : j < L.length
    · rcases hL with hL | ⟨b, o, rfl, hL⟩
      · subst hL; simp at hlt
      obtain ⟨c0, ⟨fa, fc, c1, -⟩, c2, c3, -⟩ := (hL j hlt).keep (Keeps.of hb)
      have hS := hb.size
      have hst := ofTo_step (k := kd) hlt
      generalize L[j] = nd at *
      obtain ⟨k, fs, tx, n⟩ := nd
      simp only at *
      by_cases he : (k == kd) = true
      · rw [if_pos he] at hst
        have HS := Lib.hid hst
        clear hst hL cj
        have hb2 := hb.alloc hS (.cells #[.int .i64 k, .slice fa fs.length fc, .string tx, .int .i64 n] 52)
        go_wp2_with (at_builtin; refine wpList_append_own _ rfl _ _ 41 rfl w.heap.size 3 i0 (.int .i64 0) 1 8 Tryz.underlying41 hi hz0 hz1 hz2 rfl (by decide) _ _ _ rfl ((hown.alloc _).alloc _) ⟨wr.heap.size + 1, 0, none⟩ 1 1 [.int .i64 j] rfl rfl (cell_one_new2 _ _ _ _) (by intro u hu; simp at hu; subst hu; rfl) (by unfold maxLen; omega) (by omega) (by simp; omega) ?_)
        intro v' w3 hown' hgrow _
        have hb3 : Below w.heap.size w w3 := (hb2.alloc (by simp; omega) _).grown hgrow (by simp; omega) (fun k hk => (hown.lt k hk).1)
        have ho3 : w3.ownsRow w.heap.size 3 1 v' (ofTo L kd (j + 1)).length (iv (ofTo L kd (j + 1))) := by
          rw [HS.out, iv_snoc]; simpa using hown'
        clear hown' hgrow hown hb hS hb2
        go_wp2
        exact ⟨⟨j + 1, by omega, by go_num, ho3, hb3⟩, by simp [intOf]; omega⟩
      · have he' : (k == kd) = false := by simpa using he
        rw [if_neg he, List.append_nil] at hst
        have HS := Lib.hid hst
        clear hst hL cj
        have hb2 := hb.alloc hS (.cells #[.int .i64 k, .slice fa fs.length fc, .string tx, .int .i64 n] 52)
        have ho2 := hown.alloc (.cells #[.int .i64 k, .slice fa fs.length fc, .string tx, .int .i64 n] 52)
        go_wp2
        exact ⟨⟨j + 1, by omega, by go_num, by rw [HS.out]; exact ho2, hb2⟩, by simp [intOf]; omega⟩
    · have hj' : j = L.length := by omega
      subst hj'
      go_wp2
      go_ret2
      exact ⟨_, rfl, hown, hb⟩
end Go.Proofs.YthadeccnibnioaaGreatDoor
