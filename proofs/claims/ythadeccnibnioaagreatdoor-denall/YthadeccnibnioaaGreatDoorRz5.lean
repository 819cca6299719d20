import Derived.Test.YthadeccnibnioaaGreatDoorRz4
/- A text is read: a tree, or a place and an error. -/
namespace Go.Proofs.YthadeccnibnioaaGreatDoor
open Go.RowKit

set_option maxHeartbeats 1000000 in
theorem catch_idle (a b c : Addr) (w : World) :
    CallsD Tryz.prog 68 #[.pointer (some a), .pointer (some b), .pointer (some c)] .returning w fun e u' w' => e = .returned (.tuple #[]) ∧ u' = .returning ∧ w' = w := by
  refine callsD_of_wpS Tryz.func68 rfl fun c₀ cs hu => ?_
  apply wpS_seq
  apply wpS_region
  simp [wpOpsS, go_sem, recoverD, hu, Tryz.ntmps68, Exit.thenS]
  refine wpS_of_wp ?_
  go_wp2_with fail
  cases c₀
  simp_all [bodyPostS, results, Tryz.results68]

theorem run_assert (v : Value) (w : World) : (Instr.typeAssert (.iface 120 v) 20 120 false).run Tryz.prog w = .ok v w := by
  simp [Instr.typeAssert, run_underlying Tryz.underlying120]

set_option maxRecDepth 100000 in
set_option maxHeartbeats 1000000 in
theorem catch_fault (a b c pl er : Nat) (older : List PanicEntry) (w : World) (v0 v1 v2 : Value) (h0 : w.heap[a]? = some (.cells #[v0] 74)) (h1 : w.heap[b]? = some (.cells #[v1] 3)) (h2 : w.heap[c]? = some (.cells #[v2] 28)) (hab : a ≠ b) (hac : a ≠ c) (hbc : b ≠ c) :
    CallsD Tryz.prog 68 #[.pointer (some ⟨a, 0, none⟩), .pointer (some ⟨b, 0, none⟩), .pointer (some ⟨c, 0, none⟩)] (.panicking ({ v := .iface 120 (.agg #[.int .i64 pl, .int .i64 er]), recovered := false } :: older)) w fun e u' w' =>
      e = .returned (.tuple #[]) ∧ u' = .panicking ({ v := .iface 120 (.agg #[.int .i64 pl, .int .i64 er]), recovered := true } :: older) ∧ Fr [a, b, c] w w' ∧ w'.heap[a]? = some (.cells #[.pointer none] 74) ∧ w'.heap[b]? = some (.cells #[.int .i64 pl] 3) ∧ w'.heap[c]? = some (.cells #[.iface 77 (.int .i64 er)] 28) := by
  have hta := run_assert
  have y0 := some_lt h0
  have y1 := some_lt h1
  have y2 := some_lt h2
  have z0 := fun o => cellAl h0 o
  have z1 := fun o => cellAl h1 o
  have z2 := fun o => cellAl h2 o
  have x0 := (cell1 h0).1
  have x1 := (cell1 h1).1
  have x2 := (cell1 h2).1
  have g0 := (cell1 h0).2
  have g1 := (cell1 h1).2
  have g2 := (cell1 h2).2
  have f0 := fun o => (cell1 (heapAl h0 o)).2
  have f1 := fun o => (cell1 (heapAl h1 o)).2
  have f2 := fun o => (cell1 (heapAl h2 o)).2
  have n1 : ¬ w.heap.size = a := by omega
  have n2 : ¬ w.heap.size = b := by omega
  have n3 : ¬ w.heap.size = c := by omega
  refine callsD_of_wpS Tryz.func68 rfl fun c₀ cs hu => ?_
  apply wpS_seq
  apply wpS_region
  simp [wpOpsS, go_sem, recoverD, hu, Tryz.ntmps68, Exit.thenS, Array.replicate]
  refine wpS_of_wp ?_
  go_wp2_with fail
  go_region
  refine ⟨rfl, _, rfl, .tuple #[], by simp [results, Tryz.results68, go_sem], rfl, rfl, ?_, ?_, ?_, ?_⟩
  · exact (((((Fr.refl _ _).setCell (.inl (by simp)) _).setCell (.inl (by simp)) _).setCell (.inl (by simp)) _).alloc _).drewN 1
  · show (World.alloc _ _).heap[a]? = _
    rw [Below.heap_alloc _ _ _ (by simpa using y0), Below.heap_setCell _ _ _ _ hac, Below.heap_setCell _ _ _ _ hab]
    exact heap_set1 h0
  · show (World.alloc _ _).heap[b]? = _
    rw [Below.heap_alloc _ _ _ (by simpa using y1), Below.heap_setCell _ _ _ _ hbc]
    exact heap_set1 (v := v1) (by rw [Below.heap_setCell _ _ _ _ hab.symm]; exact h1)
  · show (World.alloc _ _).heap[c]? = _
    rw [Below.heap_alloc _ _ _ (by simpa using y2)]
    exact heap_set1 (v := v2) (by rw [Below.heap_setCell _ _ _ _ hbc.symm, Below.heap_setCell _ _ _ _ hac.symm]; exact h2)

/-- How a reading of a whole text ends. -/
def OutR (s : ByteArray) (w : World) (r : Res) (e : Ending) (w' : World) : Prop :=
  match r with
  | .ok t _ => ∃ p, e = .returned (.tuple #[.pointer (some ⟨p, 0, none⟩), .int .i64 0, .nilIface]) ∧ Tr w.heap.size w' t p ∧ Below w.heap.size w w'
  | .bad pl er => e = .returned (.tuple #[.pointer none, .int .i64 ((s.size - pl : Nat) : Int), .iface 77 (.int .i64 er)]) ∧ Below w.heap.size w w'

set_option maxHeartbeats 1000000 in
theorem read_long {w : World} {s : ByteArray} (hs : 120 < s.size) (hmax : s.size ≤ 9223372036854775807) : Calls Tryz.prog 32 #[.string s] w (OutR s w (.bad s.size 4)) := by
  have hs' : (120 : Int) < s.size := by omega
  go_enter_defers Tryz.func32, Tryz.ntmps32
  go_wp2_with fail
  refine ⟨.tuple #[.pointer none, .int .i64 0, .iface 77 (.int .i64 4)], by simp [results, Tryz.results32, go_sem], ?_, ?_⟩
  · rw [Nat.sub_self]; rfl
  · exact (Fr.al3 [] _ _ _ _).toBelow (Nat.le_refl _) (by simp)

theorem leave_fault {w wa : World} {s : ByteArray} {pl er : Nat} {tmps : Array Value} {v0 v1 v2 : Value} (hres : ∀ w'' : World, w''.cell? ⟨w.heap.size, 0, none⟩ = some (.pointer none) → w''.cell? ⟨w.heap.size + 1, 0, none⟩ = some (.int .i64 ((s.size - pl : Nat) : Int)) → w''.cell? ⟨w.heap.size + 1 + 1, 0, none⟩ = some (.iface 77 (.int .i64 er)) → (results Tryz.f32 tmps).run Tryz.prog w'' = .ok (.tuple #[.pointer none, .int .i64 ((s.size - pl : Nat) : Int), .iface 77 (.int .i64 er)]) w'')
    (hf : Fr [w.heap.size, w.heap.size + 1, w.heap.size + 2, w.heap.size + 3] w wa) (h0 : wa.heap[w.heap.size]? = some (.cells #[v0] 74)) (h1 : wa.heap[w.heap.size + 1]? = some (.cells #[v1] 3)) (h2 : wa.heap[w.heap.size + 2]? = some (.cells #[v2] 28)) :
    Leaves Tryz.prog Tryz.f32 tmps (OutR s w (.bad pl er)) [{ target := .fn (.func 68) #[.pointer (some ⟨w.heap.size, 0, none⟩), .pointer (some ⟨w.heap.size + 1, 0, none⟩), .pointer (some ⟨w.heap.size + 1 + 1, 0, none⟩)], args := #[] }] (.panicking (flt (s.size - pl) er)) wa := by
  refine leaves_cons (f := 68) (args := #[.pointer (some ⟨w.heap.size, 0, none⟩), .pointer (some ⟨w.heap.size + 1, 0, none⟩), .pointer (some ⟨w.heap.size + 1 + 1, 0, none⟩)]) (by simp) (by simp [go_sem]) ?_
  refine (catch_fault w.heap.size (w.heap.size + 1) (w.heap.size + 1 + 1) (s.size - pl) er [] wa v0 v1 v2 h0 h1 h2 (by omega) (by omega) (by omega)).mono ?_
  rintro e u' w'' ⟨rfl, rfl, hf2, k0, k1, k2⟩
  have c0 := (cell1 k0).1
  have c1 := (cell1 k1).1
  have c2 := (cell1 k2).1
  refine ⟨.tuple #[.pointer none, .int .i64 ((s.size - pl : Nat) : Int), .iface 77 (.int .i64 er)], hres _ c0 c1 c2, rfl, ?_⟩
  · exact (hf.over hf2 (by simp)).toBelow (Nat.le_refl _) (by simp)

set_option maxHeartbeats 1000000 in
theorem read_short {w : World} {s : ByteArray} (hg : Gl w) (hs : s.size ≤ 120) : Calls Tryz.prog 32 #[.string s] w (OutR s w (wholeP s.data.toList)) := by
  have hmf : ∀ (fn : Fn) (first cap : Array Value) (w : World), (Instr.makeFunc fn first cap).run Tryz.prog w = .ok (.func fn first cap) w := fun _ _ _ _ => rfl
  have hs' : ¬ (120 : Int) < s.size := by omega
  have hg0 := hg.1
  have hR : wholeP s.data.toList = wholeP s.data.toList := rfl
  conv at hR => rhs; unfold wholeP
  generalize wholeP s.data.toList = R at hR ⊢
  have hw4 : Fr [] w ((((w.alloc (.cells #[.pointer none] 74)).alloc (.cells #[.int .i64 0] 3)).alloc (.cells #[.nilIface] 28)).alloc (.cells #[.string s, .int .i64 0, .int .i64 0] 123)) := (Fr.al3 _ _ _ _ _).alloc _
  have hcx : Cx ((((w.alloc (.cells #[.pointer none] 74)).alloc (.cells #[.int .i64 0] 3)).alloc (.cells #[.nilIface] 28)).alloc (.cells #[.string s, .int .i64 0, .int .i64 0] 123)) (w.heap.size + 3) s 0 0 :=
    ⟨alloc_at (by simp), hg.fr hw4 (by simp), by omega, by omega, hs⟩
  have hb0 : ((((w.alloc (.cells #[.pointer none] 74)).alloc (.cells #[.int .i64 0] 3)).alloc (.cells #[.nilIface] 28)).alloc (.cells #[.string s, .int .i64 0, .int .i64 0] 123)).heap[w.heap.size]? = some (.cells #[.pointer none] 74) := heapAl (heapAl (heapAl (alloc_at rfl) _) _) _
  have hb1 : ((((w.alloc (.cells #[.pointer none] 74)).alloc (.cells #[.int .i64 0] 3)).alloc (.cells #[.nilIface] 28)).alloc (.cells #[.string s, .int .i64 0, .int .i64 0] 123)).heap[w.heap.size + 1]? = some (.cells #[.int .i64 0] 3) := heapAl (heapAl (alloc_at (by simp)) _) _
  have hb2 : ((((w.alloc (.cells #[.pointer none] 74)).alloc (.cells #[.int .i64 0] 3)).alloc (.cells #[.nilIface] 28)).alloc (.cells #[.string s, .int .i64 0, .int .i64 0] 123)).heap[w.heap.size + 2]? = some (.cells #[.nilIface] 28) := heapAl (alloc_at (by simp)) _
  have hch := (levels 20).1 _ _ _ _ _ hcx rfl
  rw [List.drop_zero] at hch
  cases h1 : chP 20 s.data.toList with
  | bad pl er =>
    rw [h1] at hR hch
    simp only at hR
    subst hR
    clear h1
    go_enter_defers Tryz.func32, Tryz.ntmps32
    go_wp2_with (go_at_call 69; refine hch.mono ?_; rintro e wa ⟨rfl, hfa⟩)
    have hfw : Fr [w.heap.size, w.heap.size + 1, w.heap.size + 2, w.heap.size + 3] w wa := (hw4.more (by simp)).over hfa (by simp)
    exact leave_fault (pl := pl) (er := er) (s := s) (by intro w'' c0 c1 c2; simp [results, Tryz.results32, go_sem, c0, c1, c2]) hfw (heapFr hb0 hfa (by simp)) (heapFr hb1 hfa (by simp)) (heapFr hb2 hfa (by simp))
  | ok t u =>
    rw [h1] at hR hch
    simp only at hR
    have HR := Lib.hid hR
    clear h1 hR
    go_enter_defers Tryz.func32, Tryz.ntmps32
    go_wp2_with (go_at_call 69; refine hch.mono ?_; rintro e wa ⟨pa, ka, rfl, hta, hra, hka, hua, hfa⟩; have ha0 := heapFr hb0 hfa (by simp); have a0 := (cell1 ha0).1; have a0' := (cell1 ha0).2; have a1 := hra.c1; have ha1 := heapFr hb1 hfa (by simp); have ha2 := heapFr hb2 hfa (by simp); have x1 := (cell1 ha1).1; have x1' := (cell1 ha1).2; have x2 := (cell1 ha2).1; have x2' := (cell1 ha2).2; refine Hid.out ?_)
    refine Lib.hid ?_
    subst hua
    have hfw : Fr [w.heap.size, w.heap.size + 1, w.heap.size + 2, w.heap.size + 3] w wa := (hw4.more (by simp)).over hfa (by simp)
    by_cases hk : ka = s.size
    · have hR := HR.out
      rw [if_pos (drop_end (by omega))] at hR
      subst hR
      have hk' : ¬ (ka : Int) < s.size := by omega
      clear HR
      go_wp2_with fail
      refine leaves_cons (f := 68) (args := #[.pointer (some ⟨w.heap.size, 0, none⟩), .pointer (some ⟨w.heap.size + 1, 0, none⟩), .pointer (some ⟨w.heap.size + 1 + 1, 0, none⟩)]) (by simp) (by simp [go_sem]) ?_
      refine (catch_idle _ _ _ _).mono ?_
      rintro e u' w'' ⟨rfl, rfl, rfl⟩
      have hta' : Tr (w.heap.size + 4) wa t pa := by simpa using hta
      refine ⟨.tuple #[.pointer (some ⟨pa, 0, none⟩), .int .i64 0, .nilIface], by simp [results, Tryz.results32, go_sem, a0, x1, x2], pa, rfl, ?_, ?_⟩
      · refine Tr.mono (by omega) _ _ (Tr.fr (xs := [w.heap.size, w.heap.size + 1, w.heap.size + 2]) (((((Fr.refl _ _).setCell (.inl (by simp)) _).setCell (.inl (by simp)) _).setCell (.inl (by simp)) _).setCell (.inl (by simp)) _) (by simp) _ _ hta')
      · exact ((((hfw.setCell (.inl (by simp)) _).setCell (.inl (by simp)) _).setCell (.inl (by simp)) _).setCell (.inl (by simp)) _).toBelow (Nat.le_refl _) (by simp)
    · have hR := HR.out
      rw [if_neg (by intro e; have := congrArg List.length e; rw [drop_len] at this; simp at this; omega), drop_len] at hR
      subst hR
      have hk' : (ka : Int) < s.size := by omega
      clear HR
      have hfs : Fr [w.heap.size, w.heap.size + 1, w.heap.size + 2, w.heap.size + 3] w (wa.setCell ⟨w.heap.size, 0, none⟩ (.pointer (some ⟨pa, 0, none⟩))) := hfw.setCell (.inl (by simp)) _
      have hcs : Cx (wa.setCell ⟨w.heap.size, 0, none⟩ (.pointer (some ⟨pa, 0, none⟩))) (w.heap.size + 3) s ka 0 := ⟨hra.setOther (by show w.heap.size ≠ w.heap.size + 3; omega) _, hg.fr hfs (by simp; omega), by omega, hka, hs⟩
      go_wp2_with (go_at_call 70; refine (refuse_any hcs).mono ?_; rintro e wb ⟨rfl, rfl⟩)
      have e : flt ka 2 = flt (s.size - (s.size - ka)) 2 := by rw [Nat.sub_sub_self hka]
      rw [e]
      exact leave_fault (pl := s.size - ka) (er := 2) (s := s) (by intro w'' c0 c1 c2; simp [results, Tryz.results32, go_sem, c0, c1, c2]) hfs (heap_set1 ha0) (by rw [Below.heap_setCell _ _ _ _ (by show w.heap.size + 1 ≠ w.heap.size; omega)]; exact ha1) (by rw [Below.heap_setCell _ _ _ _ (by show w.heap.size + 2 ≠ w.heap.size; omega)]; exact ha2)

/-- What a text says, or where it is wrong, and how. -/
theorem read_any {w : World} {s : ByteArray} (hg : Gl w) (hmax : s.size ≤ 9223372036854775807) : Calls Tryz.prog 32 #[.string s] w (OutR s w (readP s.data.toList)) := by
  have hl : s.data.toList.length = s.size := by simp
  unfold readP
  rw [hl]
  by_cases h : 120 < s.size
  · rw [if_pos h]; exact read_long h hmax
  · rw [if_neg h]; exact read_short hg (by omega)
end Go.Proofs.YthadeccnibnioaaGreatDoor

/- What a tree comes to. -/
namespace Go.Proofs.YthadeccnibnioaaGreatDoor
open Go.RowKit

theorem wr_eq (x : Int) : wrap64 x = wr x := by unfold wrap64 wr; omega
theorem ret_int {k : IntKind} {a b : Int} (h : a = b) : Ending.returned (.int k a) = .returned (.int k b) := by rw [h]

theorem truth_any (b : Bool) (w : World) : Calls Tryz.prog 123 #[.bool b] w fun e w' => e = .returned (.int .i64 (if b then 1 else 0)) ∧ w = w' := by
  cases b
  · go_enter Tryz.func123, Tryz.ntmps123
    go_wp2_with fail
    go_ret
    exact ⟨rfl, rfl⟩
  · go_enter Tryz.func123, Tryz.ntmps123
    go_wp2_with fail
    go_ret
    exact ⟨rfl, rfl⟩

theorem quotient_any (a b : Int) (w : World) : Calls Tryz.prog 124 #[.int .i64 a, .int .i64 b] w fun e w' => e = .returned (.int .i64 (if b = 0 then 0 else wr (a.tdiv b))) ∧ w = w' := by
  by_cases hb : b = 0
  · subst hb
    go_enter Tryz.func124, Tryz.ntmps124
    go_wp2_with fail
    go_ret
    exact ⟨rfl, rfl⟩
  · go_enter Tryz.func124, Tryz.ntmps124
    go_wp2_with fail
    go_ret
    exact ⟨ret_int (wr_eq _), rfl⟩

theorem rest_any (a b : Int) (w : World) : Calls Tryz.prog 125 #[.int .i64 a, .int .i64 b] w fun e w' => e = .returned (.int .i64 (if b = 0 then 0 else a.tmod b)) ∧ w = w' := by
  by_cases hb : b = 0
  · subst hb
    go_enter Tryz.func125, Tryz.ntmps125
    go_wp2_with fail
    go_ret
    exact ⟨rfl, rfl⟩
  · go_enter Tryz.func125, Tryz.ntmps125
    go_wp2_with fail
    go_ret
    exact ⟨rfl, rfl⟩

def okOps : List UInt8 := [61, 60, 62, 43, 45, 42, 47, 37, 109, 77]

set_option maxHeartbeats 1000000 in
theorem ofTwo_any (op : UInt8) (ho : op ∈ okOps) (a b : Int) (w : World) : Calls Tryz.prog 81 #[.int .u8 op.toNat, .int .i64 a, .int .i64 b] w fun e w' => e = .returned (.int .i64 (of2 op a b)) ∧ w = w' := by
  simp only [okOps, List.mem_cons, List.not_mem_nil, or_false] at ho
  rcases ho with rfl | rfl | rfl | rfl | rfl | rfl | rfl | rfl | rfl | rfl
  all_goals
    go_enter Tryz.func81, Tryz.ntmps81
    go_wp2_with (first | (go_at_call 123; refine (truth_any _ _).mono ?_; rintro e w' ⟨rfl, rfl⟩) | (go_at_call 124; refine (quotient_any _ _ _).mono ?_; rintro e w' ⟨rfl, rfl⟩) | (go_at_call 125; refine (rest_any _ _ _).mono ?_; rintro e w' ⟨rfl, rfl⟩))
  all_goals
    go_ret
    refine ⟨ret_int ?_, rfl⟩
  all_goals first
    | (simp [of2, wr_eq, *]; done)
    | (simp [of2]; omega)
end Go.Proofs.YthadeccnibnioaaGreatDoor

/- What a tree comes to; what a text comes to. -/
namespace Go.Proofs.YthadeccnibnioaaGreatDoor
open Go.RowKit

def OkT : Tm → Prop
  | .num _ => True
  | .vn => True
  | .vs => True
  | .neg a => OkT a
  | .two op a b => op ∈ okOps ∧ OkT a ∧ OkT b
  | .cond a b c => OkT a ∧ OkT b ∧ OkT c

theorem gr_ok {d l : Nat} {s : List UInt8} {t : Tm} (h : Gr d l s t) : OkT t := by
  induction h with
  | num => trivial
  | vn => trivial
  | vs => trivial
  | brk _ ih => exact ih
  | mn _ _ iha ihb => exact ⟨by decide, iha, ihb⟩
  | mx _ _ iha ihb => exact ⟨by decide, iha, ihb⟩
  | neg _ ih => exact ih
  | mul op ho _ _ iha ihb => exact ⟨by simp at ho; rcases ho with rfl | rfl | rfl <;> decide, iha, ihb⟩
  | add op ho _ _ iha ihb => exact ⟨by simp at ho; rcases ho with rfl | rfl <;> decide, iha, ihb⟩
  | cmp op ho _ _ iha ihb => exact ⟨by simp at ho; rcases ho with rfl | rfl | rfl <;> decide, iha, ihb⟩
  | cond _ _ _ iha ihb ihc => exact ⟨iha, ihb, ihc⟩
  | up _ _ ih => exact ih

theorem cellN {w : World} {b i : Nat} {c : Array Value} {t : TypeId} (h : w.heap[b]? = some (.cells c t)) : w.cell? ⟨b, i, none⟩ = c[i]? := by simp [World.cell?, h]

theorem ofTwo_same (op : UInt8) (ho : op ∈ okOps) (a b : Int) (w : World) : Calls Tryz.prog 81 #[.int .u8 op.toNat, .int .i64 a, .int .i64 b] w fun e w' => e = .returned (.int .i64 (of2 op a b)) ∧ w' = w :=
  (ofTwo_any op ho a b w).mono fun _ _ ⟨h1, h2⟩ => ⟨h1, h2.symm⟩

theorem op_facts {op : UInt8} (ho : op ∈ okOps) : ¬ (op.toNat : Int) = 48 ∧ ¬ (op.toNat : Int) = 110 ∧ ¬ (op.toNat : Int) = 115 ∧ ¬ (op.toNat : Int) = 126 ∧ ¬ (op.toNat : Int) = 63 := by
  simp only [okOps, List.mem_cons, List.not_mem_nil, or_false] at ho
  rcases ho with rfl | rfl | rfl | rfl | rfl | rfl | rfl | rfl | rfl | rfl <;> decide

set_option maxHeartbeats 2000000 in
theorem value_any (n s : Int) : ∀ (t : Tm) (p lo : Nat) (w : World), Tr lo w t p → OkT t →
    Calls Tryz.prog 43 #[.pointer (some ⟨p, 0, none⟩), .int .i64 n, .int .i64 s] w fun e w' => e = .returned (.int .i64 (ev n s t)) ∧ ∃ m, w' = w.drewN m := by
  intro t
  induction t with
  | num v =>
    intro p lo w ht _
    obtain ⟨_, hv, h1⟩ := ht
    have c0 : w.cell? ⟨p, 0, none⟩ = some (.int .u8 48) := cellN h1
    have c1 : w.cell? ⟨p, 1, none⟩ = some (.int .i64 v) := cellN h1
    go_enter Tryz.func43, Tryz.ntmps43
    go_wp2_with fail
    go_ret
    exact ⟨rfl, 0, rfl⟩
  | vn =>
    intro p lo w ht _
    obtain ⟨_, h1⟩ := ht
    have c0 : w.cell? ⟨p, 0, none⟩ = some (.int .u8 110) := cellN h1
    go_enter Tryz.func43, Tryz.ntmps43
    go_wp2_with fail
    go_ret
    exact ⟨rfl, 0, rfl⟩
  | vs =>
    intro p lo w ht _
    obtain ⟨_, h1⟩ := ht
    have c0 : w.cell? ⟨p, 0, none⟩ = some (.int .u8 115) := cellN h1
    go_enter Tryz.func43, Tryz.ntmps43
    go_wp2_with fail
    go_ret
    exact ⟨rfl, 0, rfl⟩
  | neg a ih =>
    intro p lo w ht ho
    obtain ⟨_, q, pa, _, h1, h2, h3⟩ := ht
    have c0 : w.cell? ⟨p, 0, none⟩ = some (.int .u8 126) := cellN h1
    have c2 : w.cell? ⟨p, 2, none⟩ = some (.slice (some ⟨q, 0, none⟩) 1 1) := cellN h1
    have d0 : w.cell? ⟨q, 0, none⟩ = some (.pointer (some ⟨pa, 0, none⟩)) := cellN h2
    go_enter Tryz.func43, Tryz.ntmps43
    go_wp2_with (go_at_call 43; refine (ih pa lo w h3 ho).mono ?_; rintro e w' ⟨rfl, m, rfl⟩)
    go_ret
    exact ⟨ret_int (by simp [ev, wr_eq]), m, rfl⟩
  | two op a b iha ihb =>
    intro p lo w ht ho
    obtain ⟨_, q, pa, pb, _, h1, h2, h3, h4⟩ := ht
    obtain ⟨ho1, ho2, ho3⟩ := ho
    obtain ⟨g1, g2, g3, g4, g5⟩ := op_facts ho1
    have c0 : w.cell? ⟨p, 0, none⟩ = some (.int .u8 op.toNat) := cellN h1
    have c2 : w.cell? ⟨p, 2, none⟩ = some (.slice (some ⟨q, 0, none⟩) 2 2) := cellN h1
    have d0 : w.cell? ⟨q, 0, none⟩ = some (.pointer (some ⟨pa, 0, none⟩)) := cellN h2
    have d1 : w.cell? ⟨q, 1, none⟩ = some (.pointer (some ⟨pb, 0, none⟩)) := cellN h2
    have va := iha pa lo
    have vb := ihb pb lo
    have hfr : ∀ m, Fr [] w (w.drewN m) := fun m => (Fr.refl _ _).drewN m
    go_enter Tryz.func43, Tryz.ntmps43
    go_wp2_with fail
    go_quiet (first | (go_at_call_of 43 (Value.pointer (some ⟨pa, 0, none⟩)); refine Calls.quiet_of (va _ ?_ ho2); exact Tr.fr (hfr _) (by simp) _ _ h3) | (go_at_call_of 43 (Value.pointer (some ⟨pb, 0, none⟩)); refine Calls.quiet_of (vb _ ?_ ho3); exact Tr.fr (hfr _) (by simp) _ _ h4) | (go_at_call 81; exact Calls.quiet_of_same (ofTwo_same op ho1 _ _ _)))
    go_wp2_with fail
    go_ret
    exact ⟨rfl, nq, rfl⟩
  | cond a b c iha ihb ihc =>
    intro p lo w ht ho
    obtain ⟨_, q, pa, pb, pc, _, h1, h2, h3, h4, h5⟩ := ht
    obtain ⟨ho1, ho2, ho3⟩ := ho
    have c0 : w.cell? ⟨p, 0, none⟩ = some (.int .u8 63) := cellN h1
    have c2 : w.cell? ⟨p, 2, none⟩ = some (.slice (some ⟨q, 0, none⟩) 3 3) := cellN h1
    have d0 : w.cell? ⟨q, 0, none⟩ = some (.pointer (some ⟨pa, 0, none⟩)) := cellN h2
    have d1 : w.cell? ⟨q, 1, none⟩ = some (.pointer (some ⟨pb, 0, none⟩)) := cellN h2
    have d2 : w.cell? ⟨q, 2, none⟩ = some (.pointer (some ⟨pc, 0, none⟩)) := cellN h2
    have hfr : ∀ m, Fr [] w (w.drewN m) := fun m => (Fr.refl _ _).drewN m
    by_cases hz : ev n s a = 0
    · go_enter Tryz.func43, Tryz.ntmps43
      go_wp2_with (go_at_call 43; refine (iha pa lo w h3 ho1).mono ?_; rintro e w' ⟨rfl, m, rfl⟩; refine Hid.out ?_)
      refine Lib.hid ?_
      go_wp2_with (go_at_call 43; refine (ihc pc lo _ (Tr.fr (hfr _) (by simp) _ _ h5) ho3).mono ?_; rintro e w' ⟨rfl, m2, rfl⟩)
      go_ret
      exact ⟨ret_int (by simp [ev, hz]), m + m2, rfl⟩
    · go_enter Tryz.func43, Tryz.ntmps43
      go_wp2_with (go_at_call 43; refine (iha pa lo w h3 ho1).mono ?_; rintro e w' ⟨rfl, m, rfl⟩; refine Hid.out ?_)
      refine Lib.hid ?_
      go_wp2_with (go_at_call 43; refine (ihb pb lo _ (Tr.fr (hfr _) (by simp) _ _ h4) ho2).mono ?_; rintro e w' ⟨rfl, m2, rfl⟩)
      go_ret
      exact ⟨ret_int (by simp [ev, hz]), m + m2, rfl⟩
end Go.Proofs.YthadeccnibnioaaGreatDoor

/- The face Check. -/
namespace Go.Proofs.YthadeccnibnioaaGreatDoor
open Go.RowKit

def ckP (l : List UInt8) : Value :=
  match readP l with
  | .ok _ _ => .tuple #[.int .i64 0, .nilIface]
  | .bad pl er => .tuple #[.int .i64 ((l.length - pl : Nat) : Int), .iface 77 (.int .i64 er)]


theorem below_drewN {B : Nat} {a w : World} (h : Below B a w) (n : Nat) : Below B a (w.drewN n) := ⟨h.os, h.tape, h.output, h.size, h.block⟩
theorem Gl.below {w w' : World} (h : Gl w) (hb : Below w.heap.size w w') : Gl w' := h.fr (Fr.below (xs := []) hb) (by simp)

set_option maxHeartbeats 1000000 in
theorem check_any {w : World} {x : ByteArray} (hg : Gl w) (hmax : x.size ≤ 9223372036854775807) :
    Calls Tryz.prog 9 #[.string x] w fun e w' => e = .returned (ckP x.data.toList) ∧ Below w.heap.size w w' := by
  have hr := read_any hg hmax
  have hl : x.data.toList.length = x.size := by simp
  unfold ckP
  rw [hl]
  cases hR : readP x.data.toList with
  | ok t u =>
    rw [hR] at hr
    clear hR hl
    go_enter Tryz.func9, Tryz.ntmps9
    go_wp2_with (go_at_call 32; refine hr.mono ?_; rintro e wa ⟨p, rfl, ht, hb⟩)
    go_ret2
    exact ⟨rfl, hb⟩
  | bad pl er =>
    rw [hR] at hr
    clear hR hl
    go_enter Tryz.func9, Tryz.ntmps9
    go_wp2_with (go_at_call 32; refine hr.mono ?_; rintro e wa ⟨rfl, hb⟩)
    go_ret2
    exact ⟨rfl, hb⟩
end Go.Proofs.YthadeccnibnioaaGreatDoor

/- The face Eval. -/
namespace Go.Proofs.YthadeccnibnioaaGreatDoor
open Go.RowKit

/-- What Eval answers: the number and the error. -/
def evP (l : List UInt8) (n s : Int) : Value :=
  match readP l with
  | .ok t _ => .tuple #[.int .i64 (ev n s t), .nilIface]
  | .bad _ er => .tuple #[.int .i64 0, .iface 77 (.int .i64 er)]

set_option maxHeartbeats 1000000 in
theorem eval_any {w : World} {x : ByteArray} (hg : Gl w) (hmax : x.size ≤ 9223372036854775807) (n s : Int) :
    Calls Tryz.prog 14 #[.string x, .int .i64 n, .int .i64 s] w fun e w' => e = .returned (evP x.data.toList n s) ∧ Below w.heap.size w w' := by
  have hr := read_any hg hmax
  unfold evP
  cases hR : readP x.data.toList with
  | ok t u =>
    rw [hR] at hr
    have hok := gr_ok (read_ok hR).2.2
    clear hR
    go_enter Tryz.func14, Tryz.ntmps14
    go_wp2_with (go_at_call 32; refine hr.mono ?_; rintro e wa ⟨p, rfl, ht, hb⟩)
    go_wp2_with (go_at_call 43; refine (value_any n s t p _ wa ht hok).mono ?_; rintro e wb ⟨rfl, m, rfl⟩)
    go_ret2
    exact ⟨rfl, below_drewN hb m⟩
  | bad pl er =>
    rw [hR] at hr
    clear hR
    go_enter Tryz.func14, Tryz.ntmps14
    go_wp2_with (go_at_call 32; refine hr.mono ?_; rintro e wa ⟨rfl, hb⟩)
    go_ret2
    exact ⟨rfl, hb⟩

end Go.Proofs.YthadeccnibnioaaGreatDoor
