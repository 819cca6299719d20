/- A text is read: a tree, or a place and an error. -/
import Derived.Test.YthadeccnibnioaaGreatDoorRl
namespace Go.Proofs.YthadeccnibnioaaGreatDoor
open Go.RowKit

set_option maxHeartbeats 1000000 in
theorem catch_idle (a b c : Addr) (w : World) :
    CallsD Tryz.prog 68 #[.pointer (some a), .pointer (some b), .pointer (some c)] .returning w fun e u' w' => e = .returned (.tuple #[]) ∧ u' = .returning ∧ w' = w := by
  refine callsD_of_wpS Tryz.func68 rfl fun c₀ cs hu => ?_
  apply wpS_seq
  apply wpS_region
  simp [wpOpsS, go_sem, recoverD, hu, Tryz.ntmps68, Exit.thenS]
  refine wpS_of_wp ?_
  go_wp2_with fail
  cases c₀
  simp_all [bodyPostS, results, Tryz.results68]

theorem run_assert (v : Value) (w : World) : (Instr.typeAssert (.iface 120 v) 20 120 false).run Tryz.prog w = .ok v w := by
  simp [Instr.typeAssert, run_underlying Tryz.underlying120]

set_option maxRecDepth 100000 in
set_option maxHeartbeats 1000000 in
theorem catch_fault (a b c pl er : Nat) (older : List PanicEntry) (w : World) (v0 v1 v2 : Value) (h0 : w.heap[a]? = some (.cells #[v0] 74)) (h1 : w.heap[b]? = some (.cells #[v1] 3)) (h2 : w.heap[c]? = some (.cells #[v2] 28)) (hab : a ≠ b) (hac : a ≠ c) (hbc : b ≠ c) :
    CallsD Tryz.prog 68 #[.pointer (some ⟨a, 0, none⟩), .pointer (some ⟨b, 0, none⟩), .pointer (some ⟨c, 0, none⟩)] (.panicking ({ v := .iface 120 (.agg #[.int .i64 pl, .int .i64 er]), recovered := false } :: older)) w fun e u' w' =>
      e = .returned (.tuple #[]) ∧ u' = .panicking ({ v := .iface 120 (.agg #[.int .i64 pl, .int .i64 er]), recovered := true } :: older) ∧ Fr [a, b, c] w w' ∧ w'.heap[a]? = some (.cells #[.pointer none] 74) ∧ w'.heap[b]? = some (.cells #[.int .i64 pl] 3) ∧ w'.heap[c]? = some (.cells #[.iface 77 (.int .i64 er)] 28) := by
  have hta := run_assert
  have y0 := some_lt h0
  have y1 := some_lt h1
  have y2 := some_lt h2
  have z0 := fun o => cellAl h0 o
  have z1 := fun o => cellAl h1 o
  have z2 := fun o => cellAl h2 o
  have x0 := (cell1 h0).1
  have x1 := (cell1 h1).1
  have x2 := (cell1 h2).1
  have g0 := (cell1 h0).2
  have g1 := (cell1 h1).2
  have g2 := (cell1 h2).2
  have f0 := fun o => (cell1 (heapAl h0 o)).2
  have f1 := fun o => (cell1 (heapAl h1 o)).2
  have f2 := fun o => (cell1 (heapAl h2 o)).2
  have n1 : ¬ w.heap.size = a := by omega
  have n2 : ¬ w.heap.size = b := by omega
  have n3 : ¬ w.heap.size = c := by omega
  refine callsD_of_wpS Tryz.func68 rfl fun c₀ cs hu => ?_
  apply wpS_seq
  apply wpS_region
  simp [wpOpsS, go_sem, recoverD, hu, Tryz.ntmps68, Exit.thenS, Array.replicate]
  refine wpS_of_wp ?_
  go_wp2_with fail
  go_region
  refine ⟨rfl, _, rfl, .tuple #[], by simp [results, Tryz.results68, go_sem], rfl, rfl, ?_, ?_, ?_, ?_⟩
  · exact (((((Fr.refl _ _).setCell (.inl (by simp)) _).setCell (.inl (by simp)) _).setCell (.inl (by simp)) _).alloc _).drewN 1
  · show (World.alloc _ _).heap[a]? = _
    rw [Below.heap_alloc _ _ _ (by simpa using y0), Below.heap_setCell _ _ _ _ hac, Below.heap_setCell _ _ _ _ hab]
    exact heap_set1 h0
  · show (World.alloc _ _).heap[b]? = _
    rw [Below.heap_alloc _ _ _ (by simpa using y1), Below.heap_setCell _ _ _ _ hbc]
    exact heap_set1 (v := v1) (by rw [Below.heap_setCell _ _ _ _ hab.symm]; exact h1)
  · show (World.alloc _ _).heap[c]? = _
    rw [Below.heap_alloc _ _ _ (by simpa using y2)]
    exact heap_set1 (v := v2) (by rw [Below.heap_setCell _ _ _ _ hbc.symm, Below.heap_setCell _ _ _ _ hac.symm]; exact h2)

/-- How a reading of a whole text ends. -/
def OutR (s : ByteArray) (w : World) (r : Res) (e : Ending) (w' : World) : Prop :=
  match r with
  | .ok t _ => ∃ p, e = .returned (.tuple #[.pointer (some ⟨p, 0, none⟩), .int .i64 0, .nilIface]) ∧ Tr w.heap.size w' t p ∧ Below w.heap.size w w'
  | .bad pl er => e = .returned (.tuple #[.pointer none, .int .i64 ((s.size - pl : Nat) : Int), .iface 77 (.int .i64 er)]) ∧ Below w.heap.size w w'

set_option maxHeartbeats 1000000 in
theorem read_long {w : World} {s : ByteArray} (hs : 120 < s.size) (hmax : s.size ≤ 9223372036854775807) : Calls Tryz.prog 32 #[.string s] w (OutR s w (.bad s.size 4)) := by
  have hs' : (120 : Int) < s.size := by omega
  go_enter_defers Tryz.func32, Tryz.ntmps32
  go_wp2_with fail
  refine ⟨.tuple #[.pointer none, .int .i64 0, .iface 77 (.int .i64 4)], by simp [results, Tryz.results32, go_sem], ?_, ?_⟩
  · rw [Nat.sub_self]; rfl
  · exact (Fr.al3 [] _ _ _ _).toBelow (Nat.le_refl _) (by simp)

theorem leave_fault {w wa : World} {s : ByteArray} {pl er : Nat} {tmps : Array Value} {v0 v1 v2 : Value} (hres : ∀ w'' : World, w''.cell? ⟨w.heap.size, 0, none⟩ = some (.pointer none) → w''.cell? ⟨w.heap.size + 1, 0, none⟩ = some (.int .i64 ((s.size - pl : Nat) : Int)) → w''.cell? ⟨w.heap.size + 1 + 1, 0, none⟩ = some (.iface 77 (.int .i64 er)) → (results Tryz.f32 tmps).run Tryz.prog w'' = .ok (.tuple #[.pointer none, .int .i64 ((s.size - pl : Nat) : Int), .iface 77 (.int .i64 er)]) w'')
    (hf : Fr [w.heap.size, w.heap.size + 1, w.heap.size + 2, w.heap.size + 3] w wa) (h0 : wa.heap[w.heap.size]? = some (.cells #[v0] 74)) (h1 : wa.heap[w.heap.size + 1]? = some (.cells #[v1] 3)) (h2 : wa.heap[w.heap.size + 2]? = some (.cells #[v2] 28)) :
    Leaves Tryz.prog Tryz.f32 tmps (OutR s w (.bad pl er)) [{ target := .fn (.func 68) #[.pointer (some ⟨w.heap.size, 0, none⟩), .pointer (some ⟨w.heap.size + 1, 0, none⟩), .pointer (some ⟨w.heap.size + 1 + 1, 0, none⟩)], args := #[] }] (.panicking (flt (s.size - pl) er)) wa := by
  refine leaves_cons (f := 68) (args := #[.pointer (some ⟨w.heap.size, 0, none⟩), .pointer (some ⟨w.heap.size + 1, 0, none⟩), .pointer (some ⟨w.heap.size + 1 + 1, 0, none⟩)]) (by simp) (by simp [go_sem]) ?_
  refine (catch_fault w.heap.size (w.heap.size + 1) (w.heap.size + 1 + 1) (s.size - pl) er [] wa v0 v1 v2 h0 h1 h2 (by omega) (by omega) (by omega)).mono ?_
  rintro e u' w'' ⟨rfl, rfl, hf2, k0, k1, k2⟩
  have c0 := (cell1 k0).1
  have c1 := (cell1 k1).1
  have c2 := (cell1 k2).1
  refine ⟨.tuple #[.pointer none, .int .i64 ((s.size - pl : Nat) : Int), .iface 77 (.int .i64 er)], hres _ c0 c1 c2, rfl, ?_⟩
  · exact (hf.over hf2 (by simp)).toBelow (Nat.le_refl _) (by simp)

set_option maxHeartbeats 1000000 in
theorem read_short {w : World} {s : ByteArray} (hg : Gl w) (hs : s.size ≤ 120) : Calls Tryz.prog 32 #[.string s] w (OutR s w (wholeP s.data.toList)) := by
  have hmf : ∀ (fn : Fn) (first cap : Array Value) (w : World), (Instr.makeFunc fn first cap).run Tryz.prog w = .ok (.func fn first cap) w := fun _ _ _ _ => rfl
  have hs' : ¬ (120 : Int) < s.size := by omega
  have hg0 := hg.1
  have hR : wholeP s.data.toList = wholeP s.data.toList := rfl
  conv at hR => rhs; unfold wholeP
  generalize wholeP s.data.toList = R at hR ⊢
  have hw4 : Fr [] w ((((w.alloc (.cells #[.pointer none] 74)).alloc (.cells #[.int .i64 0] 3)).alloc (.cells #[.nilIface] 28)).alloc (.cells #[.string s, .int .i64 0, .int .i64 0] 123)) := (Fr.al3 _ _ _ _ _).alloc _
  have hcx : Cx ((((w.alloc (.cells #[.pointer none] 74)).alloc (.cells #[.int .i64 0] 3)).alloc (.cells #[.nilIface] 28)).alloc (.cells #[.string s, .int .i64 0, .int .i64 0] 123)) (w.heap.size + 3) s 0 0 :=
    ⟨alloc_at (by simp), hg.fr hw4 (by simp), by omega, by omega, hs⟩
  have hb0 : ((((w.alloc (.cells #[.pointer none] 74)).alloc (.cells #[.int .i64 0] 3)).alloc (.cells #[.nilIface] 28)).alloc (.cells #[.string s, .int .i64 0, .int .i64 0] 123)).heap[w.heap.size]? = some (.cells #[.pointer none] 74) := heapAl (heapAl (heapAl (alloc_at rfl) _) _) _
  have hb1 : ((((w.alloc (.cells #[.pointer none] 74)).alloc (.cells #[.int .i64 0] 3)).alloc (.cells #[.nilIface] 28)).alloc (.cells #[.string s, .int .i64 0, .int .i64 0] 123)).heap[w.heap.size + 1]? = some (.cells #[.int .i64 0] 3) := heapAl (heapAl (alloc_at (by simp)) _) _
  have hb2 : ((((w.alloc (.cells #[.pointer none] 74)).alloc (.cells #[.int .i64 0] 3)).alloc (.cells #[.nilIface] 28)).alloc (.cells #[.string s, .int .i64 0, .int .i64 0] 123)).heap[w.heap.size + 2]? = some (.cells #[.nilIface] 28) := heapAl (alloc_at (by simp)) _
  have hch := (levels 20).1 _ _ _ _ _ hcx rfl
  rw [List.drop_zero] at hch
  cases h1 : chP 20 s.data.toList with
  | bad pl er =>
    rw [h1] at hR hch
    simp only at hR
    subst hR
    clear h1
    go_enter_defers Tryz.func32, Tryz.ntmps32
    go_wp2_with (go_at_call 69; refine hch.mono ?_; rintro e wa ⟨rfl, hfa⟩)
    have hfw : Fr [w.heap.size, w.heap.size + 1, w.heap.size + 2, w.heap.size + 3] w wa := (hw4.more (by simp)).over hfa (by simp)
    exact leave_fault (pl := pl) (er := er) (s := s) (by intro w'' c0 c1 c2; simp [results, Tryz.results32, go_sem, c0, c1, c2]) hfw (heapFr hb0 hfa (by simp)) (heapFr hb1 hfa (by simp)) (heapFr hb2 hfa (by simp))
  | ok t u =>
    rw [h1] at hR hch
    simp only at hR
    have HR := Lib.hid hR
    clear h1 hR
    go_enter_defers Tryz.func32, Tryz.ntmps32
    go_wp2_with (go_at_call 69; refine hch.mono ?_; rintro e wa ⟨pa, ka, rfl, hta, hra, hka, hua, hfa⟩; have ha0 := heapFr hb0 hfa (by simp); have a0 := (cell1 ha0).1; have a0' := (cell1 ha0).2; have a1 := hra.c1; have ha1 := heapFr hb1 hfa (by simp); have ha2 := heapFr hb2 hfa (by simp); have x1 := (cell1 ha1).1; have x1' := (cell1 ha1).2; have x2 := (cell1 ha2).1; have x2' := (cell1 ha2).2; refine Hid.out ?_)
    refine Lib.hid ?_
    subst hua
    have hfw : Fr [w.heap.size, w.heap.size + 1, w.heap.size + 2, w.heap.size + 3] w wa := (hw4.more (by simp)).over hfa (by simp)
    by_cases hk : ka = s.size
    · have hR := HR.out
      rw [if_pos (drop_end (by omega))] at hR
      subst hR
      have hk' : ¬ (ka : Int) < s.size := by omega
      clear HR
      go_wp2_with fail
      refine leaves_cons (f := 68) (args := #[.pointer (some ⟨w.heap.size, 0, none⟩), .pointer (some ⟨w.heap.size + 1, 0, none⟩), .pointer (some ⟨w.heap.size + 1 + 1, 0, none⟩)]) (by simp) (by simp [go_sem]) ?_
      refine (catch_idle _ _ _ _).mono ?_
      rintro e u' w'' ⟨rfl, rfl, rfl⟩
      have hta' : Tr (w.heap.size + 4) wa t pa := by simpa using hta
      refine ⟨.tuple #[.pointer (some ⟨pa, 0, none⟩), .int .i64 0, .nilIface], by simp [results, Tryz.results32, go_sem, a0, x1, x2], pa, rfl, ?_, ?_⟩
      · refine Tr.mono (by omega) _ _ (Tr.fr (xs := [w.heap.size, w.heap.size + 1, w.heap.size + 2]) (((((Fr.refl _ _).setCell (.inl (by simp)) _).setCell (.inl (by simp)) _).setCell (.inl (by simp)) _).setCell (.inl (by simp)) _) (by simp) _ _ hta')
      · exact ((((hfw.setCell (.inl (by simp)) _).setCell (.inl (by simp)) _).setCell (.inl (by simp)) _).setCell (.inl (by simp)) _).toBelow (Nat.le_refl _) (by simp)
    · have hR := HR.out
      rw [if_neg (by intro e; have := congrArg List.length e; rw [drop_len] at this; simp at this; omega), drop_len] at hR
      subst hR
      have hk' : (ka : Int) < s.size := by omega
      clear HR
      have hfs : Fr [w.heap.size, w.heap.size + 1, w.heap.size + 2, w.heap.size + 3] w (wa.setCell ⟨w.heap.size, 0, none⟩ (.pointer (some ⟨pa, 0, none⟩))) := hfw.setCell (.inl (by simp)) _
      have hcs : Cx (wa.setCell ⟨w.heap.size, 0, none⟩ (.pointer (some ⟨pa, 0, none⟩))) (w.heap.size + 3) s ka 0 := ⟨hra.setOther (by show w.heap.size ≠ w.heap.size + 3; omega) _, hg.fr hfs (by simp; omega), by omega, hka, hs⟩
      go_wp2_with (go_at_call 70; refine (refuse_any hcs).mono ?_; rintro e wb ⟨rfl, rfl⟩)
      have e : flt ka 2 = flt (s.size - (s.size - ka)) 2 := by rw [Nat.sub_sub_self hka]
      rw [e]
      exact leave_fault (pl := s.size - ka) (er := 2) (s := s) (by intro w'' c0 c1 c2; simp [results, Tryz.results32, go_sem, c0, c1, c2]) hfs (heap_set1 ha0) (by rw [Below.heap_setCell _ _ _ _ (by show w.heap.size + 1 ≠ w.heap.size; omega)]; exact ha1) (by rw [Below.heap_setCell _ _ _ _ (by show w.heap.size + 2 ≠ w.heap.size; omega)]; exact ha2)

/-- What a text says, or where it is wrong, and how. -/
theorem read_any {w : World} {s : ByteArray} (hg : Gl w) (hmax : s.size ≤ 9223372036854775807) : Calls Tryz.prog 32 #[.string s] w (OutR s w (readP s.data.toList)) := by
  have hl : s.data.toList.length = s.size := by simp
  unfold readP
  rw [hl]
  by_cases h : 120 < s.size
  · rw [if_pos h]; exact read_long h hmax
  · rw [if_neg h]; exact read_short hg (by omega)
end Go.Proofs.YthadeccnibnioaaGreatDoor
