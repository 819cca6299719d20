/- Both gates: what each step answers, in one word. -/
import Derived.Test.YtneglanmigifhaaDoorWe
import Derived.Test.YtneglanmigifhaaDoorErr
namespace Go.Proofs.YtneglanmigifhaaDoor
open Go.ChangeShapes Go.WideShapes Go.RowKit
set_option linter.unusedVariables false
def erN (k : Nat) : Value := if k = 0 then .nilIface else erV k
theorem error_any (k : Nat) (w : World) (hg : w.cell? ⟨0, 0, none⟩ = some ET) : Calls Tryd.prog 5 #[erN k, .int .i64 (k : Nat)] w fun e w' => e = .returned (.bool true) ∧ Below w.heap.size w w' := by
  by_cases hk : k = 0
  · subst hk
    refine (error_nil w).mono ?_
    rintro e w' ⟨rfl, rfl⟩
    exact ⟨rfl, Below.refl _ _⟩
  · unfold erN
    rw [if_neg hk]
    exact error_hit k w hg
def pushS (g : Gt Rg) (i : Int) (x : Itm) : Gt Rg := if pushE g i = 0 then putG g i.toNat x else g
def barS (g : Gt Rg) (i id : Int) : Gt Rg := if barE g i id = 0 then lastG (putG g i.toNat (.bar id)) i.toNat id else g
theorem pushS_len (g : Gt Rg) (i : Int) (x : Itm) : (pushS g i x).ws.length = g.ws.length := by unfold pushS; split; exact putG_len _ _ _; rfl
theorem barS_len (g : Gt Rg) (i id : Int) : (barS g i id).ws.length = g.ws.length := by unfold barS; split; exact putG_len _ _ _; rfl
theorem erN_1 : erN 1 = erV 1 := rfl
theorem erN_4 : erN 4 = erV 4 := rfl
theorem erN_5 : erN 5 = erV 5 := rfl
section
variable {lo : Nat} {w : World} {B : Nat} {g : Gt Rg}
theorem gpush_u (h : GX lo w B g) (i : Int) (r : Rg) (hk : r.key.size ≤ 281474976710656) :
    Calls Tryd.prog 6 #[.pointer (some ⟨B, 0, none⟩), .int .i64 i, .agg #[.string r.key, .int .i64 r.num, .int .i64 r.tm]] w fun e w' => e = .returned (erN (pushE g i)) ∧ GX lo w' B (pushS g i (.one r)) ∧ FrG lo w w' := by
  have hlo := h.loW
  obtain ⟨L, t, vs, h⟩ := h
  unfold pushS pushE
  by_cases h1 : i < 0 ∨ (g.ws.length : Int) ≤ i
  · rw [if_pos h1]
    refine (push_rng h i h1 r).mono ?_
    rintro e w' ⟨rfl, hb⟩
    exact ⟨rfl, by rw [if_neg (by decide)]; exact ⟨L, t, vs, h.keep hb⟩, FrG.below hb hlo⟩
  · rw [if_neg h1]
    obtain ⟨k, rfl⟩ : ∃ k : Nat, i = k := ⟨i.toNat, by omega⟩
    rw [Int.toNat_natCast]
    by_cases h2 : 400 ≤ (g.ws.getD k []).length
    · rw [if_pos h2]
      refine (push_full h k (by omega) h2 r).mono ?_
      rintro e w' ⟨rfl, hb⟩
      exact ⟨rfl, by rw [if_neg (by decide)]; exact ⟨L, t, vs, h.keep hb⟩, FrG.below hb hlo⟩
    · rw [if_neg h2]
      refine (push_ok h k (by omega) (by omega) r hk).mono ?_
      rintro e w' ⟨rfl, ⟨vs', h'⟩, hf⟩
      exact ⟨rfl, by rw [if_pos rfl]; exact ⟨L, t, vs', h'⟩, hf⟩
theorem gbar_u (h : GX lo w B g) (i id : Int) :
    Calls Tryd.prog 8 #[.pointer (some ⟨B, 0, none⟩), .int .i64 i, .int .i64 id] w fun e w' => e = .returned (erN (barE g i id)) ∧ GX lo w' B (barS g i id) ∧ FrG lo w w' := by
  have hlo := h.loW
  obtain ⟨L, t, vs, h⟩ := h
  unfold barS barE
  by_cases h1 : i < 0 ∨ (g.ws.length : Int) ≤ i ∨ id < 1
  · rw [if_pos h1]
    refine (bar_rng h i id h1).mono ?_
    rintro e w' ⟨rfl, rfl⟩
    exact ⟨rfl, by rw [if_neg (by decide)]; exact ⟨L, t, vs, h⟩, FrG.refl _ _⟩
  · rw [if_neg h1]
    obtain ⟨k, rfl⟩ : ∃ k : Nat, i = k := ⟨i.toNat, by omega⟩
    rw [Int.toNat_natCast]
    by_cases h2 : 400 ≤ (g.ws.getD k []).length
    · rw [if_pos h2]
      refine (bar_full h k id (by omega) (by omega) h2).mono ?_
      rintro e w' ⟨rfl, rfl⟩
      exact ⟨rfl, by rw [if_neg (by decide)]; exact ⟨L, t, vs, h⟩, FrG.refl _ _⟩
    · rw [if_neg h2]
      by_cases h3 : id ≤ g.last.getD k 0
      · rw [if_pos h3]
        refine (bar_ord h k id (by omega) (by omega) (by omega) h3).mono ?_
        rintro e w' ⟨rfl, rfl⟩
        exact ⟨rfl, by rw [if_neg (by decide)]; exact ⟨L, t, vs, h⟩, FrG.refl _ _⟩
      · rw [if_neg h3]
        refine (bar_ok h k id (by omega) (by omega) (by omega) (by omega)).mono ?_
        rintro e w' ⟨rfl, ⟨vs', h'⟩, hf⟩
        exact ⟨rfl, by rw [if_pos rfl]; exact ⟨L, t, vs', h'⟩, hf⟩
theorem gblocked_ok (h : GX lo w B g) (i : Nat) (hi : i < g.ws.length) : Calls Tryd.prog 14 #[.pointer (some ⟨B, 0, none⟩), .int .i64 i] w fun e w' => e = .returned (.tuple #[.bool (hBar (g.ws.getD i [])).isSome, .nilIface]) ∧ w = w' := by
  obtain ⟨L, t, vs, h⟩ := h
  have HH := has_any h i
  rw [decide_eq_true (by omega)] at HH
  have HF := isBlocked_any (h.l0 hi) (h.own i hi)
  rw [blocked_is (fun id hid => h.ids _ (mem_getD hi) id hid)] at HF
  have c0 := h.c0
  have hiI : (i : Int) < (g.ws.length : Int) := by omega
  generalize (hBar (g.ws.getD i [])).isSome = bb at *
  generalize g.ws.length = n at *
  clear h
  go_enter Tryd.func14, Tryd.ntmps14
  go_wp2_with first | (go_at_call 17; refine HH.mono ?_; rintro e u ⟨rfl, rfl⟩) | (go_at_call 25; refine HF.mono ?_; rintro e u ⟨rfl, rfl⟩)
  exact bodyPost_ret (v := .tuple #[.bool bb, .nilIface]) (by simp [results, Tryd.results14, go_sem]) rfl ⟨rfl, rfl⟩
theorem gblocked_bad (h : GX lo w B g) (i : Int) (hi : i < 0 ∨ (g.ws.length : Int) ≤ i) : Calls Tryd.prog 14 #[.pointer (some ⟨B, 0, none⟩), .int .i64 i] w fun e w' => e = .returned (.tuple #[.bool false, erV 1]) ∧ w = w' := by
  obtain ⟨L, t, vs, h⟩ := h
  have HH := has_any h i
  rw [decide_eq_false (by omega)] at HH
  clear h hi
  go_enter Tryd.func14, Tryd.ntmps14
  go_wp2_with (go_at_call 17; refine HH.mono ?_; rintro e u ⟨rfl, rfl⟩)
  exact bodyPost_ret (v := .tuple #[.bool false, erV 1]) (by simp [results, Tryd.results14, go_sem]) rfl ⟨rfl, rfl⟩
end
def MX (lo : Nat) (w : World) (M WB LB : Nat) (g : Gt Rg) : Prop := ∃ us, MgB lo w M WB LB us g
section
variable {lo : Nat} {w w' : World} {M WB LB : Nat} {g : Gt Rg}
theorem MX.keep (h : MX lo w M WB LB g) (hb : Below w.heap.size w w') : MX lo w' M WB LB g := by obtain ⟨us, h⟩ := h; exact ⟨us, h.keep hb⟩
theorem MX.frg (h : MX lo w M WB LB g) {lo' : Nat} (f : FrG lo' w w') : MX lo w' M WB LB g := by obtain ⟨us, h⟩ := h; exact ⟨us, h.frg f⟩
theorem MX.lo' (h : MX lo w M WB LB g) : lo ≤ w.heap.size := by obtain ⟨us, h⟩ := h; exact h.lo'
theorem mpush_u (h : MX lo w M WB LB g) (i : Int) (r : Rg) :
    Calls Tryd.prog 7 #[.pointer (some ⟨M, 0, none⟩), .int .i64 i, .agg #[.string r.key, .int .i64 r.num, .int .i64 r.tm, .int .i64 0], .bool false] w fun e w' => e = .returned (.int .i64 (pushE g i : Nat)) ∧ MX lo w' M WB LB (pushS g i (.one r)) ∧ FrD lo w w' := by
  have hlo := h.lo'
  obtain ⟨us, h⟩ := h
  show Calls Tryd.prog 7 #[.pointer (some ⟨M, 0, none⟩), .int .i64 i, itV (.one r), .bool false] w _
  unfold pushS pushE
  by_cases h1 : i < 0 ∨ (g.ws.length : Int) ≤ i
  · rw [if_pos h1]
    refine (mpush_rng h i (.one r) false (by omega)).mono ?_
    rintro e w' ⟨rfl, hb⟩
    exact ⟨rfl, by rw [if_neg (by decide)]; exact ⟨us, h.keep hb⟩, FrD.below hb hlo⟩
  · rw [if_neg h1]
    obtain ⟨k, rfl⟩ : ∃ k : Nat, i = k := ⟨i.toNat, by omega⟩
    rw [Int.toNat_natCast]
    by_cases h2 : 400 ≤ (g.ws.getD k []).length
    · rw [if_pos h2]
      refine (mpush_full h k (by omega) (.one r) false (fun e => by cases e) h2).mono ?_
      rintro e w' ⟨rfl, hb⟩
      exact ⟨rfl, by rw [if_neg (by decide)]; exact ⟨us, h.keep hb⟩, FrD.below hb hlo⟩
    · rw [if_neg h2]
      refine (mpush_ok h k _ _ rfl rfl (by omega) (.one r) (fun id e => by cases e) (by omega)).mono ?_
      rintro e w' ⟨rfl, ⟨us', h'⟩, hf⟩
      exact ⟨rfl, by rw [if_pos rfl]; exact ⟨us', h'⟩, hf⟩
theorem mbar_u (h : MX lo w M WB LB g) (i id : Int) :
    Calls Tryd.prog 7 #[.pointer (some ⟨M, 0, none⟩), .int .i64 i, .agg #[.string ⟨#[]⟩, .int .i64 0, .int .i64 0, .int .i64 id], .bool true] w fun e w' => e = .returned (.int .i64 (barE g i id : Nat)) ∧ MX lo w' M WB LB (barS g i id) ∧ FrD lo w w' := by
  have hlo := h.lo'
  obtain ⟨us, h⟩ := h
  show Calls Tryd.prog 7 #[.pointer (some ⟨M, 0, none⟩), .int .i64 i, itV (.bar id), .bool true] w _
  unfold barS barE
  by_cases h1 : i < 0 ∨ (g.ws.length : Int) ≤ i ∨ id < 1
  · rw [if_pos h1]
    refine (mpush_rng h i (.bar id) true (by simpa [idOf] using h1)).mono ?_
    rintro e w' ⟨rfl, hb⟩
    exact ⟨rfl, by rw [if_neg (by decide)]; exact ⟨us, h.keep hb⟩, FrD.below hb hlo⟩
  · rw [if_neg h1]
    obtain ⟨k, rfl⟩ : ∃ k : Nat, i = k := ⟨i.toNat, by omega⟩
    rw [Int.toNat_natCast]
    by_cases h2 : 400 ≤ (g.ws.getD k []).length
    · rw [if_pos h2]
      refine (mpush_full h k (by omega) (.bar id) true (fun _ => by simp only [idOf]; omega) h2).mono ?_
      rintro e w' ⟨rfl, hb⟩
      exact ⟨rfl, by rw [if_neg (by decide)]; exact ⟨us, h.keep hb⟩, FrD.below hb hlo⟩
    · rw [if_neg h2]
      by_cases h3 : id ≤ g.last.getD k 0
      · rw [if_pos h3]
        refine (mbar_ord h k _ _ rfl rfl (by omega) id (by omega) (by omega) h3).mono ?_
        rintro e w' ⟨rfl, hb⟩
        exact ⟨rfl, by rw [if_neg (by decide)]; exact ⟨us, h.keep hb⟩, FrD.below hb hlo⟩
      · rw [if_neg h3]
        refine (mbar_ok h k _ _ rfl rfl (by omega) id (by omega) (by omega) (by omega)).mono ?_
        rintro e w' ⟨rfl, ⟨us', h'⟩, hf⟩
        exact ⟨rfl, by rw [if_pos rfl]; exact ⟨us', h'⟩, hf⟩
theorem mtake_no (h : MX lo w M WB LB g) (ht : takeG g = none) : Calls Tryd.prog 10 #[.pointer (some ⟨M, 0, none⟩)] w fun e w' => e = .returned (.tuple #[.agg #[.string ⟨#[]⟩, .int .i64 0, .int .i64 0], .int .i64 0, .bool false]) ∧ Below w.heap.size w w' := by
  obtain ⟨us, h⟩ := h
  refine (mtake_any h).mono ?_
  rintro e w' (⟨-, h1, h2⟩ | ⟨r, i, g', h1, -⟩)
  · exact ⟨h1, h2⟩
  · rw [ht] at h1; cases h1
theorem mtake_x (h : MX lo w M WB LB g) {r : Rg} {i : Nat} {g' : Gt Rg} (ht : takeG g = some (r, i, g')) : Calls Tryd.prog 10 #[.pointer (some ⟨M, 0, none⟩)] w fun e w' => e = .returned (.tuple #[.agg #[.string r.key, .int .i64 r.num, .int .i64 r.tm], .int .i64 (i : Nat), .bool true]) ∧ MX lo w' M WB LB g' ∧ FrD lo w w' := by
  obtain ⟨us, h⟩ := h
  refine (mtake_any h).mono ?_
  rintro e w' (⟨h1, -⟩ | ⟨r', i', g'', h1, h2, h3, h4⟩)
  · rw [ht] at h1; cases h1
  · rw [ht] at h1
    injection h1 with h1
    injection h1 with e1 h1
    injection h1 with e2 e3
    subst e1 e2 e3
    exact ⟨h2, h3, h4⟩
theorem MX.blocked (h : MX lo w M WB LB g) {i : Nat} (hi : i < g.ws.length) : Calls Tryd.prog 13 #[.pointer (some ⟨M, 0, none⟩), .int .i64 i] w fun e w' => e = .returned (.bool (hBar (g.ws.getD i [])).isSome) ∧ w = w' := by
  obtain ⟨us, h⟩ := h; exact mblocked_any h hi
theorem MX.bound_n (h : MX lo w M WB LB g) (hg : boundG g = none) : Calls Tryd.prog 12 #[.pointer (some ⟨M, 0, none⟩)] w fun e w' => e = .returned (.tuple #[.int .i64 0, .bool false]) ∧ w = w' := by
  obtain ⟨us, h⟩ := h; exact mbound_no h hg
theorem MX.bound_x (h : MX lo w M WB LB g) {m : Int} {g' : Gt Rg} (hg : boundG g = some (m, g')) : Calls Tryd.prog 12 #[.pointer (some ⟨M, 0, none⟩)] w fun e w' => e = .returned (.tuple #[.int .i64 m, .bool true]) ∧ MX lo w' M WB LB g' ∧ FrD lo w w' := by
  obtain ⟨us, h⟩ := h; exact mbound_ok h hg
theorem MX.rows (h : MX lo w M WB LB g) : w.cell? ⟨M, 0, none⟩ = some (.slice (some ⟨WB, 0, none⟩) g.ws.length g.ws.length) ∧ ∀ k, k < g.ws.length → ∃ p c, w.cell? ⟨WB, k, none⟩ = some (.slice p (g.ws.getD k []).length c) := by
  obtain ⟨us, h⟩ := h
  refine ⟨h.c0, fun k hk => ?_⟩
  obtain ⟨p, c, e, -⟩ := h.own k hk
  exact ⟨p, c, by rw [← e]; exact h.w0 hk⟩
theorem MX.len (h : MX lo w M WB LB g) : ∀ i, i < g.ws.length → (g.ws.getD i []).length ≤ 400 := by obtain ⟨us, h⟩ := h; exact h.len
theorem MX.new {n : Nat} (h1 : 1 ≤ n) (h2 : n ≤ 64) (hW : w.heap[WB]? = some (.cells (madeCells #[.slice none 0 0] n) 46 (0, 0))) (hL : w.heap[LB]? = some (.cells (madeCells #[.int .i64 0] n) 3 (0, 0))) (hM : w.heap[M]? = some (.cells #[.slice (some ⟨WB, 0, none⟩) n n, .slice (some ⟨LB, 0, none⟩) n n, .int .i64 0] 33 (0, 0))) (l1 : lo ≤ M) (l2 : lo ≤ WB) (l3 : lo ≤ LB) : MX lo w M WB LB (newG n) := by
  refine ⟨fun _ => .slice none 0 0, by rw [newG_len]; exact hM, ⟨_, hW, fun i hi => ?_⟩, ⟨_, hL, fun i hi => ?_⟩, fun i hi => ?_, fun i hi => ?_, fun l hl id hid => ?_, by simp [newG], by rw [newG_len]; omega, by rw [newG_len]; omega, by rw [newG_len]; exact h1, l1, l2, l3⟩
  · rw [newG_len] at hi
    rw [Array.getElem?_eq_getElem (by rw [size_madeCells]; exact hi)]; simp [madeCells, Nat.mod_one]
  · rw [newG_len] at hi
    rw [(newG_at n i).2, Array.getElem?_eq_getElem (by rw [size_madeCells]; exact hi)]; simp [madeCells, Nat.mod_one]
  · rw [(newG_at n i).1]; exact ⟨none, 0, rfl, by simp, by simp, fun _ => rfl, .inl rfl⟩
  · rw [(newG_at n i).1]; simp
  · simp [newG] at hl; rw [hl.2] at hid; cases hid
end
theorem infoS : (Tryd.prog.info? 46).map (fun i => (i.zero, i.size, i.bytes)) = some (some (.slice none 0 0), 1, 24) := by kernel_rfl
theorem infoZ : (Tryd.prog.info? 3).map (fun i => (i.zero, i.size, i.bytes)) = some (some (.int .i64 0), 1, 8) := by kernel_rfl
theorem make_i (n : Nat) (hn : n ≤ 64) (w : World) : (Instr.makeSlice 31 (.int .i64 (n : Int)) (.int .i64 (n : Int))).run Tryd.prog w = .ok (.slice (some ⟨w.heap.size, 0, none⟩) n n) (w.alloc (.cells (madeCells #[.int .i64 0] n) 3)) := by
  obtain ⟨i0, hi, hz0, hz1, hz2⟩ := info_parts infoZ
  have := run_make (P := Tryd.prog) w 31 3 i0 (.int .i64 0) Tryd.underlying31 hi hz0 .i64 .i64 n n (by omega) (by omega) (by rw [hz2]; omega) (by omega)
  rw [hz1] at this
  simpa [Value.cells] using this
theorem make_s (n : Nat) (hn : n ≤ 64) (w : World) : (Instr.makeSlice 30 (.int .i64 (n : Int)) (.int .i64 (n : Int))).run Tryd.prog w = .ok (.slice (some ⟨w.heap.size, 0, none⟩) n n) (w.alloc (.cells (madeCells #[.slice none 0 0] n) 46)) := by
  obtain ⟨i0, hi, hz0, hz1, hz2⟩ := info_parts infoS
  have := run_make (P := Tryd.prog) w 30 46 i0 (.slice none 0 0) Tryd.underlying30 hi hz0 .i64 .i64 n n (by omega) (by omega) (by rw [hz2]; omega) (by omega)
  rw [hz1] at this
  simpa [Value.cells] using this
end Go.Proofs.YtneglanmigifhaaDoor
