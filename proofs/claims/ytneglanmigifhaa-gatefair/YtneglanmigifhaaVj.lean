/- GateFair's walk. -/
import Derived.Test.YtneglanmigifhaaVi
namespace Go.Proofs.Ytneglanmigifhaa
open Go.ChangeShapes Go.WideShapes Go.RowKit
set_option linter.unusedVariables false
/-- A new row of truth values, so many of which are set. -/
def SnAt (w : World) (S n i : Nat) : Prop := ∃ cur : Array Value, w.heap[S]? = some (.cells cur 4 (0, 0)) ∧ ∀ j, j < n → cur[j]? = some (.bool (decide (j < i)))
theorem SnAt.made (w : World) (n : Nat) : SnAt (w.alloc (.cells (madeCells #[.bool false] n) 4)) w.heap.size n 0 := by
  refine ⟨_, heap_alloc_new w _, fun j hj => ?_⟩
  rw [Array.getElem?_eq_getElem (by rw [size_madeCells]; exact hj)]
  simp [madeCells, Nat.mod_one]
theorem SnAt.cell {w : World} {S n i : Nat} (h : SnAt w S n i) {j : Nat} (hj : j < n) : w.cell? ⟨S, j, none⟩ = some (.bool (decide (j < i))) := by
  obtain ⟨cur, h1, h2⟩ := h
  simp only [World.cell?, h1]; exact h2 j hj
theorem SnAt.fz {w : World} {S n i : Nat} (h : SnAt w S n i) (j : Nat) : w.frozen? ⟨S, j, none⟩ = false := by
  obtain ⟨cur, h1, h2⟩ := h
  simp [World.frozen?, h1]
theorem SnAt.lt {w : World} {S n i : Nat} (h : SnAt w S n i) : S < w.heap.size := by obtain ⟨cur, h1, h2⟩ := h; exact some_lt h1
theorem SnAt.set {w : World} {S n i : Nat} (h : SnAt w S n i) (hi : i < n) : SnAt (w.setCell ⟨S, i, none⟩ (.bool true)) S n (i + 1) := by
  obtain ⟨cur, h1, h2⟩ := h
  refine ⟨_, heap_setCell_same w S i _ _ _ h1, fun j hj => ?_⟩
  have hlt := (Array.getElem?_eq_some_iff.1 (h2 i hi)).1
  by_cases e : j = i
  · subst e; simp [hlt]
  · rw [Array.getElem?_setIfInBounds_ne (by omega), h2 j hj]
    congr 2
    exact decide_eq_decide.2 (by omega)
theorem SnAt.frg {lo : Nat} {w w' : World} {S n i : Nat} (h : SnAt w S n i) (f : FrG lo w w') : SnAt w' S n i := by
  obtain ⟨cur, h1, h2⟩ := h
  exact ⟨cur, f.kept _ _ h1 (notTurns (by decide)), h2⟩
theorem SnAt.keep {w w' : World} {S n i : Nat} (h : SnAt w S n i) (f : Below w.heap.size w w') : SnAt w' S n i := by
  obtain ⟨cur, h1, h2⟩ := h
  exact ⟨cur, (f.block _ (some_lt h1)).trans h1, h2⟩
theorem GX.setS {lo : Nat} {w : World} {B S n i j : Nat} {g : Gt Rg} (h : GX lo w B g) (hs : SnAt w S n i) (v : Value) : GX lo (w.setCell ⟨S, j, none⟩ v) B g := by
  obtain ⟨cur, h1, -⟩ := hs
  refine h.stays (fun k o hk ho => ?_)
  rw [Below.heap_setCell _ _ _ _ (fun e => by subst e; rw [h1] at hk; injection hk with hk; subst hk; exact notTurns (by decide) ho)]; exact hk
theorem infoB : (Try.prog.info? 4).map (fun i => (i.zero, i.size, i.bytes)) = some (some (.bool false), 1, 1) := by kernel_rfl
theorem make_b (w : World) (n : Nat) (hn : n ≤ 20) : (Instr.makeSlice 38 (.int .i64 (n : Int)) (.int .i64 (n : Int))).run Try.prog w = .ok (.slice (some ⟨w.heap.size, 0, none⟩) n n) (w.alloc (.cells (madeCells #[.bool false] n) 4)) := by
  obtain ⟨i0, hi, hz0, hz1, hz2⟩ := info_parts infoB
  have := run_make (P := Try.prog) w 38 4 i0 (.bool false) Try.underlying38 hi hz0 .i64 .i64 n n (by omega) (by omega) (by rw [hz2]; omega) (by omega)
  rw [hz1] at this
  simpa [Value.cells] using this
/-- The fact ahead: two inputs, one record. -/
theorem fact_take : ∃ g', takeG (putG (newG 2) 1 (.one (rN 5))) = some (rN 5, 1, g') := ⟨⟨[[], []], [0, 0], 0⟩, by simp [takeG, findG, putG, newG, hRec]⟩
section
variable (n many : Int) (W : World)
set_option maxRecDepth 100000 in
set_option maxHeartbeats 2000000 in
theorem fair_walk : Calls Try.prog 4 #[.int .i64 n, .int .i64 many] W fun e w' => e = .returned (.bool true) ∧ Below W.heap.size W w' := by
  have HN2 := new_x W 2 (by omega) (by omega)
  obtain ⟨gf, hgf⟩ := fact_take
  have HP := fun (u : World) (B : Nat) (h : GX W.heap.size u B (newG 2)) => push_x h 1 (by rw [newG_len]; omega) (by rw [(newG_at 2 1).1]; simp) (rN 5) (by show (0 : Nat) ≤ _; omega)
  have HX := fun (u : World) (B : Nat) (h : GX W.heap.size u B (putG (newG 2) 1 (.one (rN 5)))) => next_x h hgf
  simp only [rN, rV] at HP HX
  clear hgf
  have HP := Lib.hid HP
  have HX := Lib.hid HX
  go_enter Try.func4, Try.ntmps4
  go_wp2_with (go_at_call 5; refine HN2.mono ?_; rintro e u ⟨B1, rfl, hG1, hb1⟩; refine Hid.out ?_)
  refine Lib.hid ?_
  have HP1 := HP.out u B1 hG1
  clear HN2 HP hG1
  go_wp2_with (go_at_call 8; go_loud (refine HP1.mono ?_); rintro e u2 ⟨rfl, hG2, hf2⟩; refine Hid.out ?_)
  refine Lib.hid ?_
  have HX1 := HX.out u2 B1 hG2
  have hb2 := hb1.trans hf2.toBelow
  clear HP1 HX hG2 hf2 hb1
  go_wp2_with (go_at_call 9; go_loud (refine HX1.mono ?_); rintro e u3 ⟨rfl, hG3, hf3⟩; refine Hid.out ?_)
  refine Lib.hid ?_
  have hb3 := hb2.trans hf3.toBelow
  clear HX1 hG3 hf3 hb2
  have hb4 := hb3.alloc hb3.size (.cells #[.string ⟨#[]⟩, .int .i64 5, .int .i64 0] 33)
  have HB4 := Lib.hid hb4
  clear hb3 hb4
  by_cases h1 : n < 1
  · go_wp2_with fail
    go_ret
    exact ⟨rfl, HB4.out⟩
  by_cases h2 : 20 < n
  · go_wp2_with fail
    go_ret
    exact ⟨rfl, HB4.out⟩
  by_cases h3 : many < 0
  · go_wp2_with fail
    go_ret
    exact ⟨rfl, HB4.out⟩
  by_cases h4 : 20 < many
  · go_wp2_with fail
    go_ret
    exact ⟨rfl, HB4.out⟩
  obtain ⟨N, rfl⟩ : ∃ N : Nat, n = N := ⟨n.toNat, by omega⟩
  obtain ⟨M, rfl⟩ : ∃ M : Nat, many = M := ⟨many.toNat, by omega⟩
  have HNn := fun (w : World) => new_x w N (by omega) (by omega)
  go_wp2_with (go_at_call 5; refine (HNn _).mono ?_; rintro e v ⟨B, rfl, hG5, hb5⟩; refine Hid.out ?_)
  refine Lib.hid ?_
  have hb6 := HB4.out.trans (hb5.mono HB4.out.size)
  have hG6 := hG5.mono HB4.out.size
  have HF6 := Lib.hid (show Fil (newG N) rN N (fun _ => 0) from ⟨newG_len N, rfl, fun j _ => by rw [(newG_at N j).1]; rfl⟩)
  have HG6 := Lib.hid hG6
  have HB6 := Lib.hid hb6
  clear HNn HB4 hb5 hG5 hG6 hb6
  go_wp2_with fail
  go_loopw [12] (fun kv wr => ∃ (k : Nat) (g : Gt Rg), k ≤ M ∧ kv = .int .i64 (k : Nat) ∧ Fil g rN N (fun _ => k) ∧ GX W.heap.size wr B g ∧ Below W.heap.size W wr) (fun kv _ => M - (intOf kv).toNat)
  case atStart => exact ⟨0, _, Nat.zero_le _, rfl, HF6.out, HG6.out, HB6.out⟩
  case round =>
    clear HF6 HG6 HB6
    obtain ⟨k, g, hk, rfl, hF, hG, hB⟩ := hrel
    rename World => wr
    by_cases hlt : k < M
    · have hlt' : (k : Int) < M := by omega
      have HF := Lib.hid (show Fil g rN N (fun j => if j < 0 then k + 1 else k) from hF.ext (fun j _ => by simp))
      have HG := Lib.hid hG
      have HB := Lib.hid hB
      clear hF hG hB
      go_wp2_with fail
      go_loopw [13] (fun iv wr => ∃ (i : Nat) (g : Gt Rg), i ≤ N ∧ iv = .int .i64 (i : Nat) ∧ Fil g rN N (fun j => if j < i then k + 1 else k) ∧ GX W.heap.size wr B g ∧ Below W.heap.size W wr) (fun iv _ => N - (intOf iv).toNat)
      case atStart => exact ⟨0, g, Nat.zero_le _, rfl, HF.out, HG.out, HB.out⟩
      case round =>
        clear HF HG HB
        obtain ⟨i, g, hi, rfl, hF, hG, hB⟩ := hrel
        rename World => wr
        by_cases hlti : i < N
        · have hlti' : (i : Int) < N := by omega
          have hlen : g.ws.length = N := hF.1
          have hat := hF.2.2 i hlti
          simp only [Nat.lt_irrefl, if_false] at hat
          have HP := push_x hG i (by omega) (by rw [hat, lnB_len]; omega) (rN k) (by show (0 : Nat) ≤ _; omega)
          have hF2 := hF.push hlti
          simp only [Nat.lt_irrefl, if_false] at hF2
          have HF2 := Lib.hid (show Fil (putG g i (.one (rN k))) rN N (fun j => if j < i + 1 then k + 1 else k) from hF2.ext (fun j _ => by
            unfold upN
            simp only [Nat.lt_irrefl, if_false]
            by_cases e : j = i
            · rw [if_pos e, if_pos (by omega)]
            · rw [if_neg e]; by_cases e2 : j < i
              · rw [if_pos e2, if_pos (by omega)]
              · rw [if_neg e2, if_neg (by omega)]))
          generalize putG g i (.one (rN k)) = g2 at *
          simp only [rN, rV] at HP
          clear hat hF hF2 hG
          go_wp2_with (go_at_call 8; refine HP.mono ?_; rintro e u5 ⟨rfl, hG2, hf2⟩; refine Hid.out ?_)
          refine Lib.hid ?_
          have HB2 := Lib.hid (hB.trans hf2.toBelow)
          have HG2 := Lib.hid hG2
          clear HP hB hf2 hG2
          go_wp2_with fail
          go_roundw
          case rel => exact ⟨i + 1, g2, by omega, by go_num, HF2.out, HG2.out, HB2.out⟩
          case measure => simp [intOf]; omega
        · have hlti' : ¬ (i : Int) < N := by omega
          have HF2 := Lib.hid (show Fil g rN N (fun _ => k + 1) from hF.ext (fun j hj => by rw [if_pos (by omega)]))
          have HG2 := Lib.hid hG
          have HB2 := Lib.hid hB
          clear hF hG hB
          go_wp2_with fail
          go_roundw
          case rel => exact ⟨k + 1, g, by omega, by go_num, HF2.out, HG2.out, HB2.out⟩
          case measure => simp [intOf]; omega
    · have hlt' : ¬ (k : Int) < M := by omega
      obtain rfl : k = M := by omega
      have HS := Lib.hid (show StB g rN N (fun _ => 0) (fun _ => k) (fun _ => 0) ∧ g.nx = 0 from ⟨hF.stB (by omega), hF.2.1⟩)
      have HG := Lib.hid hG
      have HB := Lib.hid hB
      clear hF hG hB hlt hlt' hk
      go_wp2_with fail
      go_loopw [15] (fun kv wr => ∃ (q : Nat) (g : Gt Rg), q ≤ k ∧ kv = .int .i64 (q : Nat) ∧ StB g rN N (fun _ => 0) (fun _ => k) (fun _ => q) ∧ g.nx = 0 ∧ GX W.heap.size wr B g ∧ Below W.heap.size W wr) (fun kv _ => k - (intOf kv).toNat)
      case atStart => exact ⟨0, g, Nat.zero_le _, rfl, HS.out.1, HS.out.2, HG.out, HB.out⟩
      case round =>
        clear HS HG HB
        obtain ⟨q, g, hq, rfl, hS, hx, hG, hB⟩ := hrel
        rename World => wr
        by_cases hlt : q < k
        · have hlt' : (q : Int) < k := by omega
          have hmk := make_b wr N (by omega)
          have HSn := Lib.hid (SnAt.made wr N)
          have bA : Below wr.heap.size wr (wr.alloc (.cells (madeCells #[.bool false] N) 4)) := (Below.refl _ _).alloc (Nat.le_refl _) _
          have HG := Lib.hid (hG.keep bA)
          have HB := Lib.hid (hB.trans (bA.mono hB.size))
          have HS := Lib.hid (show StB g rN N (fun _ => 0) (fun _ => k) (fun j => if j < 0 then q + 1 else q) from hS.ext (fun j _ => by simp))
          have hWr := hB.size
          clear hS hG hB bA
          go_wp2_with fail
          go_loopw [17] (fun iv u => ∃ (i : Nat) (g : Gt Rg), i ≤ N ∧ iv = .int .i64 (i : Nat) ∧ StB g rN N (fun _ => 0) (fun _ => k) (fun j => if j < i then q + 1 else q) ∧ g.nx = i % N ∧ GX W.heap.size u B g ∧ Below W.heap.size W u ∧ SnAt u wr.heap.size N i ∧ W.heap.size ≤ wr.heap.size) (fun iv _ => N - (intOf iv).toNat)
          case atStart => exact ⟨0, g, Nat.zero_le _, rfl, HS.out, by rw [hx]; simp, HG.out, HB.out, HSn.out, hWr⟩
          case round =>
            clear HS HG HB HSn hmk hWr
            obtain ⟨i, g, hi, rfl, hS, hx, hG, hB, hSn, hWw⟩ := hrel
            rename World => wu
            generalize wr.heap.size = sb at *
            by_cases hlti : i < N
            · have hlti' : (i : Int) < N := by omega
              have hxi : g.nx = i := by rw [hx, Nat.mod_eq_of_lt hlti]
              obtain ⟨g', ht, hS2, hx2⟩ := fair_take hS (by rw [hxi]; simp only [Nat.lt_irrefl, if_false]; omega)
              rw [hxi] at ht hS2 hx2
              simp only [Nat.lt_irrefl, if_false] at ht
              have HX := next_x hG ht
              have HS2 := Lib.hid (show StB g' rN N (fun _ => 0) (fun _ => k) (fun j => if j < i + 1 then q + 1 else q) from hS2.ext (fun j _ => by
                unfold upN
                simp only [Nat.lt_irrefl, if_false]
                by_cases e : j = i
                · rw [if_pos e, if_pos (by omega)]
                · rw [if_neg e]; by_cases e2 : j < i
                  · rw [if_pos e2, if_pos (by omega)]
                  · rw [if_neg e2, if_neg (by omega)]))
              simp only [rN] at HX
              clear ht hS hS2 hG hx hxi
              go_wp2_with (go_at_call 9; refine HX.mono ?_; rintro e u5 ⟨rfl, hG2, hf2⟩; refine Hid.out ?_)
              refine Lib.hid ?_
              have hSn5 := hSn.frg hf2
              have hB5 := hB.trans hf2.toBelow
              have s2 := hSn5.cell hlti
              have s3 := hSn5.fz i
              have s4 := hSn5.lt
              rw [decide_eq_false (by omega)] at s2
              have bA : Below (u5.setCell ⟨sb, i, none⟩ (.bool true)).heap.size (u5.setCell ⟨sb, i, none⟩ (.bool true)) ((u5.setCell ⟨sb, i, none⟩ (.bool true)).alloc (.cells #[.string ⟨#[]⟩, .int .i64 q, .int .i64 0] 33)) := (Below.refl _ _).alloc (Nat.le_refl _) _
              have hB6 := hB5.setCell (p := ⟨sb, i, none⟩) hWw (.bool true)
              have HG3 := Lib.hid ((hG2.setS (j := i) hSn5 (.bool true)).keep bA)
              have HSn3 := Lib.hid ((hSn5.set hlti).keep bA)
              have HB3 := Lib.hid (hB6.trans (bA.mono hB6.size))
              clear HX hB hf2 hG2 hSn hSn5 hB5 hB6 bA
              go_wp2_with fail
              go_roundw
              case rel => exact ⟨i + 1, g', by omega, by go_num, HS2.out, hx2, HG3.out, HB3.out, HSn3.out, hWw⟩
              case measure => simp [intOf]; omega
            · have hlti' : ¬ (i : Int) < N := by omega
              obtain rfl : i = N := by omega
              have HS2 := Lib.hid (show StB g rN i (fun _ => 0) (fun _ => k) (fun _ => q + 1) from hS.ext (fun j hj => by rw [if_pos hj]))
              have hx2 : g.nx = 0 := by rw [hx]; exact Nat.mod_self i
              have HG2 := Lib.hid hG
              have HB2 := Lib.hid hB
              clear hS hG hB hSn hx
              go_wp2_with fail
              go_roundw
              case rel => exact ⟨q + 1, g, by omega, by go_num, HS2.out, hx2, HG2.out, HB2.out⟩
              case measure => simp [intOf]; omega
        · have hlt' : ¬ (q : Int) < k := by omega
          obtain rfl : q = k := by omega
          obtain ⟨t1, t2⟩ := stB_empty hS (fun i _ => by simp)
          have HX := next_no hG t1
          have HW := fun (u : World) (hu : Below wr.heap.size wr u) => waiting_x (hG.keep hu)
          rw [t2] at HW
          clear hS hG t1 t2
          go_wp2_with (go_at_call 9; refine HX.mono ?_; rintro e u5 ⟨rfl, hb5⟩; refine Hid.out ?_)
          refine Lib.hid ?_
          have bA := hb5.alloc hb5.size (.cells #[.string ⟨#[]⟩, .int .i64 0, .int .i64 0] 33)
          have HW1 := HW _ bA
          have hB2 := hB.trans (bA.mono hB.size)
          clear HX HW hb5 hB bA
          go_wp2_with (go_at_call 10; refine HW1.mono ?_; rintro e u6 ⟨rfl, hb6⟩; refine Hid.out ?_)
          refine Lib.hid ?_
          have HB3 := Lib.hid (hB2.trans (hb6.mono hB2.size))
          clear HW1 hb6 hB2
          go_wp2_with fail
          go_ret
          exact ⟨by simp, HB3.out⟩
end
end Go.Proofs.Ytneglanmigifhaa
