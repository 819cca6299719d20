/- take; New. -/
import Derived.Test.YtneglanmigifhaaDoorVc
namespace Go.Proofs.YtneglanmigifhaaDoor
open Go.ChangeShapes Go.WideShapes Go.RowKit
set_option linter.unusedVariables false
theorem below4 (u : World) (N : Nat) (a b c d : Value) : Below N u ((((u.setCell ⟨N, 0, none⟩ a).setCell ⟨N, 1, none⟩ b).setCell ⟨N, 2, none⟩ c).setCell ⟨N, 3, none⟩ d) :=
  ((((Below.refl N u).setCell (p := ⟨N, 0, none⟩) (Nat.le_refl N) a).setCell (p := ⟨N, 1, none⟩) (Nat.le_refl N) b).setCell (p := ⟨N, 2, none⟩) (Nat.le_refl N) c).setCell (p := ⟨N, 3, none⟩) (Nat.le_refl N) d
section
variable {lo : Nat} {w w' : World} {B L t : Nat} {vs : Nat → Value} {g : Gt Rg}
theorem GtB.keepB (h : GtB lo w B L t vs g) {K : Nat} (hb : Below K w w') (hB : B < K) (hL : L < K) (hv : ∀ i b, i < g.ws.length → (vs i).ownBlock = some b → b < K) : GtB lo w' B L t vs g := by
  obtain ⟨cur, h1, h2⟩ := h.rows
  exact ⟨(hb.block _ hB).trans h.blk, ⟨cur, (hb.block _ hL).trans h1, h2⟩, fun i hi => (h.own i hi).block (fun b hb' => hb.block b (hv i b hi hb')), h.ne, h.len, h.ids, h.lst, h.n0, h.n1, h.tn, h.nx, h.loB, h.loL⟩
set_option maxRecDepth 100000 in
set_option maxHeartbeats 1000000 in
theorem take_g (h : GtB lo w B L t vs g) {i : Nat} (hi : i < g.ws.length) {x : Itm} {xs : List Itm} (hx : g.ws.getD i [] = x :: xs) :
    Calls Tryd.prog 22 #[.pointer (some ⟨L, i * 2, none⟩)] w fun e w' => e = .returned (iV x) ∧ (∃ vs', GtB lo w' B L t vs' { g with ws := g.ws.set i xs }) ∧ FrG lo w w' := by
  have c0 := h.l0 hi
  have f0 := h.fL (i * 2)
  have hLt := h.ltL
  have hBt := h.ltB
  have hl := h.own i hi
  have hlen := h.len i hi
  have hneL := fun b (hb : (vs i).ownBlock = some b) => h.neL hi hb
  rw [hx] at hl hlen
  have hids : ∀ id, It.bar id ∈ xs → 0 < id := fun id hid => h.ids _ (mem_getD hi) id (by rw [hx]; exact List.mem_cons_of_mem _ hid)
  rw [List.length_cons] at hlen
  rcases hl.2 with ⟨-, h0⟩ | ⟨b, cap, cur, hv, hlo, hb, hn, hcap, hs, ht⟩
  · simp at h0
  rw [hv] at c0 hneL
  have hbL := hneL b rfl
  have hbt := some_lt hb
  rw [List.length_cons] at hn ht c0
  have hcl : ∀ j u, (icells (x :: xs))[j]? = some u → w.cell? ⟨b, j, none⟩ = some u := fun j u hu => by
    rw [← ht, List.getElem?_take] at hu
    split at hu
    · simp only [World.cell?, hb]; simpa using hu
    · cases hu
  have e0 := hcl 0 (.string (recOf x).key) (by rw [icells, icell_is]; rfl)
  have e1 := hcl 1 (.int .i64 (recOf x).num) (by rw [icells, icell_is]; rfl)
  have e2 := hcl 2 (.int .i64 (recOf x).tm) (by rw [icells, icell_is]; rfl)
  have e3 := hcl 3 (.int .i64 (idOf x)) (by rw [icells, icell_is]; rfl)
  have HD := fun (u : World) (hu : Below w.heap.size w u) => del_any (lo := lo) (w := u) hlo ((hu.block b hbt).trans hb) hn hcap hs x xs rfl ht (by omega)
  -- what is there at the end
  have HE := Lib.hid (show ∀ (u w1 w' : World), Below w.heap.size w u → LnAt lo w1 (.slice (some ⟨b, 0, none⟩) xs.length cap) xs → u.grownBy w1 (some b) → Below w.heap.size (w1.setCell ⟨L, i * 2, none⟩ (.slice (some ⟨b, 0, none⟩) xs.length cap)) w' → (∃ vs', GtB lo w' B L t vs' { g with ws := g.ws.set i xs }) ∧ FrG lo w w' from by
    intro u w1 w' bu hln hgr hb'
    have hG : w.grownBy w1 (vs i).ownBlock := ⟨hgr.os.trans bu.os, hgr.tape.trans bu.tape, hgr.output.trans bu.output, Nat.le_trans bu.size hgr.size, fun k hk hne => (hgr.block k (Nat.lt_of_lt_of_le hk bu.size) (by rw [hv] at hne; exact hne)).trans (bu.block k hk)⟩
    obtain ⟨h1, h2⟩ := h.setLane hi hG hln (fun b' hb'' => .inl (by rw [hv]; exact hb'')) (by omega) hids
    refine ⟨⟨_, h1.keepB hb' hBt hLt ?_⟩, ⟨hb'.os.trans h2.os, hb'.tape.trans h2.tape, hb'.output.trans h2.output, Nat.le_trans h2.size hb'.size, fun k hk => (hb'.block k (by have := h.loW; omega)).trans (h2.low k hk), fun k o hk ho => (hb'.block k (some_lt hk)).trans (h2.kept k o hk ho)⟩⟩
    intro j b' hj hjb
    simp only [List.length_set] at hj
    try simp only at hjb
    by_cases e : j = i
    · rw [if_pos e] at hjb
      simp [Value.ownBlock] at hjb
      subst hjb; exact hbt
    · rw [if_neg e] at hjb
      exact ((h.own j hj).lt hjb).2.1)
  unfold iV
  generalize (recOf x).key = k0 at *
  generalize (recOf x).num = n0 at *
  generalize (recOf x).tm = t0 at *
  generalize idOf x = d0 at *
  have b2 : Below w.heap.size w ((w.alloc (.cells #[.string ⟨#[]⟩, .int .i64 0, .int .i64 0, .int .i64 0] 65)).alloc (.cells #[.string k0, .int .i64 n0, .int .i64 t0, .int .i64 d0] 65)) :=
    ((Below.refl _ _).alloc (Nat.le_refl _) _).alloc (by simp) _
  have HD1 := HD _ b2
  have hLe : (0 : Int) < ((xs.length + 1 : Nat) : Int) := by omega
  generalize xs.length = n at *
  clear HD hl hlen hids hcl ht hs hn hcap hneL hv h hx hlo hb
  go_enter Tryd.func22, Tryd.ntmps22
  go_wp2_with (go_at_call 28; refine HD1.mono ?_; rintro e u ⟨rfl, hln, hgr⟩; refine Hid.out ?_)
  have n1 : some (w.heap.size + 1) ≠ some b := fun e => by injection e with e; omega
  have n2 : some w.heap.size ≠ some b := fun e => by injection e with e; omega
  have n3 : some L ≠ some b := fun e => by injection e with e; exact hbL.1 e.symm
  have hsz : w.heap.size + 1 < u.heap.size := by have := hgr.size; simp at this; omega
  have kB1 : u.heap[w.heap.size + 1]? = some (.cells #[.string k0, .int .i64 n0, .int .i64 t0, .int .i64 d0] 65 (0, 0)) := (hgr.block _ (by simp) n1).trans (heap_alloc2_new w _ _)
  have kB0 : u.heap[w.heap.size]? = some (.cells #[.string ⟨#[]⟩, .int .i64 0, .int .i64 0, .int .i64 0] 65 (0, 0)) := (hgr.block _ (by simp; omega) n2).trans (heap_alloc2_old w _ _)
  have z0 : u.cell? ⟨w.heap.size + 1, 0, none⟩ = some (.string k0) := by simp [World.cell?, kB1]
  have z1 : u.cell? ⟨w.heap.size + 1, 1, none⟩ = some (.int .i64 n0) := by simp [World.cell?, kB1]
  have z2 : u.cell? ⟨w.heap.size + 1, 2, none⟩ = some (.int .i64 t0) := by simp [World.cell?, kB1]
  have z3 : u.cell? ⟨w.heap.size + 1, 3, none⟩ = some (.int .i64 d0) := by simp [World.cell?, kB1]
  have y0 : u.cell? ⟨w.heap.size, 0, none⟩ = some (.string ⟨#[]⟩) := by simp [World.cell?, kB0]
  have y1 : u.cell? ⟨w.heap.size, 1, none⟩ = some (.int .i64 0) := by simp [World.cell?, kB0]
  have y2 : u.cell? ⟨w.heap.size, 2, none⟩ = some (.int .i64 0) := by simp [World.cell?, kB0]
  have y3 : u.cell? ⟨w.heap.size, 3, none⟩ = some (.int .i64 0) := by simp [World.cell?, kB0]
  have yf : ∀ o, u.frozen? ⟨w.heap.size, o, none⟩ = false := fun o => by simp [World.frozen?, kB0]
  have y4 := yf 0
  have y5 := yf 1
  have y6 := yf 2
  have y7 := yf 3
  have x0 : u.cell? ⟨L, i * 2, none⟩ = some (.slice (some ⟨b, 0, none⟩) (n + 1) cap) := hgr.cell ((b2.cell (p := ⟨L, i * 2, none⟩) hLt).trans c0) n3
  have x1 : u.frozen? ⟨L, i * 2, none⟩ = false := (hgr.frozen_far ⟨L, i * 2, none⟩ (by simp only [World.size_alloc]; omega) n3).trans ((b2.frozen (p := ⟨L, i * 2, none⟩) hLt).trans f0)
  have HF := Lib.hid (HE.out _ u ((((((u.setCell ⟨L, i * 2, none⟩ (.slice (some ⟨b, 0, none⟩) n cap)).setCell ⟨w.heap.size, 0, none⟩ (.string k0)).setCell ⟨w.heap.size, 1, none⟩ (.int .i64 n0)).setCell ⟨w.heap.size, 2, none⟩ (.int .i64 t0)).setCell ⟨w.heap.size, 3, none⟩ (.int .i64 d0))) b2 hln hgr (below4 (u.setCell ⟨L, i * 2, none⟩ (.slice (some ⟨b, 0, none⟩) n cap)) w.heap.size (.string k0) (.int .i64 n0) (.int .i64 t0) (.int .i64 d0)))
  refine Lib.hid ?_
  have nLw : L ≠ w.heap.size := by omega
  have nLw1 : L ≠ w.heap.size + 1 := by omega
  clear yf kB1 kB0 hgr hln HD1 b2 c0 f0 e0 e1 e2 e3 HE hLe
  go_wp2_with fail
  exact bodyPost_ret (v := .agg #[.string k0, .int .i64 n0, .int .i64 t0, .int .i64 d0]) (by simp [results, Tryd.results22, go_sem, y0, y1, y2, y3]) rfl ⟨rfl, HF.out⟩
end
theorem new_bad (w : World) (i : Int) (hi : i < 1 ∨ 64 < i) : Calls Tryd.prog 4 #[.int .i64 i] w fun e w' => e = .returned (.tuple #[.pointer none, .iface 52 (.int .i64 1)]) ∧ w = w' := by
  rcases hi with h | h
  · go_enter Tryd.func4, Tryd.ntmps4
    go_wp2
    exact bodyPost_ret (v := .tuple #[.pointer none, .iface 52 (.int .i64 1)]) (by simp [results, Tryd.results4, go_sem]) rfl ⟨rfl, rfl⟩
  · have h1 : ¬ i < 1 := by omega
    go_enter Tryd.func4, Tryd.ntmps4
    go_wp2
    exact bodyPost_ret (v := .tuple #[.pointer none, .iface 52 (.int .i64 1)]) (by simp [results, Tryd.results4, go_sem]) rfl ⟨rfl, rfl⟩
/-- A gate of n inputs, at first. -/
def newG (n : Nat) : Gt Rg := ⟨List.replicate n [], List.replicate n 0, 0⟩
theorem infoL : (Tryd.prog.info? 60).map (fun i => (i.zero, i.size, i.bytes)) = some (some (.agg #[.slice none 0 0, .int .i64 0]), 2, 32) := by kernel_rfl
theorem made_at (n i : Nat) (h : i < n) : (madeCells #[.slice none 0 0, .int .i64 0] (n * 2))[i * 2]? = some (.slice none 0 0) ∧ (madeCells #[.slice none 0 0, .int .i64 0] (n * 2))[i * 2 + 1]? = some (.int .i64 0) := by
  constructor
  · rw [Array.getElem?_eq_getElem (by rw [size_madeCells]; omega)]
    simp [madeCells]
  · rw [Array.getElem?_eq_getElem (by rw [size_madeCells]; omega)]
    simp [madeCells, Nat.mul_add_mod_self_right]
theorem newG_at (n i : Nat) : (newG n).ws.getD i [] = [] ∧ (newG n).last.getD i 0 = 0 := by
  unfold newG
  simp only [List.getD_eq_getElem?_getD, List.getElem?_replicate]
  constructor <;> (split <;> rfl)
theorem newG_len (n : Nat) : (newG n).ws.length = n := by simp [newG]
theorem new_at (w : World) (n : Nat) (h1 : 1 ≤ n) (h2 : n ≤ 64) : GtB w.heap.size ((w.alloc (.cells (madeCells #[.slice none 0 0, .int .i64 0] (n * 2)) 60)).alloc (.cells #[.slice (some ⟨w.heap.size, 0, none⟩) n n, .int .i64 0] 55)) (w.heap.size + 1) w.heap.size 0 (fun _ => .slice none 0 0) (newG n) := by
  refine ⟨by rw [newG_len]; exact heap_alloc2_new w _ _, ⟨_, heap_alloc2_old w _ _, fun i hi => ?_⟩, fun i hi => ?_, fun i j b _ _ _ hb => by simp [Value.ownBlock] at hb, fun i _ => by rw [(newG_at n i).1]; simp, fun l hl id hid => ?_, by simp [newG], by rw [newG_len]; omega, by rw [newG_len]; omega, Nat.zero_le _, by simp [newG], by omega, Nat.le_refl _⟩
  · rw [newG_len] at hi
    rw [(newG_at n i).2]; exact made_at n i hi
  · rw [(newG_at n i).1]; exact World.ownsRow_nil _ _ _ _
  · simp [newG] at hl
    rw [hl.2] at hid; cases hid
theorem new_ok (w : World) (n : Nat) (h1 : 1 ≤ n) (h2 : n ≤ 64) : Calls Tryd.prog 4 #[.int .i64 n] w fun e w' => ∃ B, e = .returned (.tuple #[.pointer (some ⟨B, 0, none⟩), .nilIface]) ∧ (∃ L vs, GtB w.heap.size w' B L 0 vs (newG n)) ∧ Below w.heap.size w w' := by
  have q1 : ¬ (n : Int) < 1 := by omega
  have q2 : ¬ (64 : Int) < (n : Int) := by omega
  have q3 : (0 : Int) ≤ (n : Int) := by omega
  obtain ⟨i0, hi, hz0, hz1, hz2⟩ := info_parts infoL
  have hmk : (Instr.makeSlice 53 (.int .i64 (n : Int)) (.int .i64 (n : Int))).run Tryd.prog w = .ok (.slice (some ⟨w.heap.size, 0, none⟩) n n) (w.alloc (.cells (madeCells #[.slice none 0 0, .int .i64 0] (n * 2)) 60)) := by
    have := run_make (P := Tryd.prog) w 53 60 i0 (.agg #[.slice none 0 0, .int .i64 0]) Tryd.underlying53 hi hz0 .i64 .i64 n n (by omega) (by omega) (by rw [hz2]; omega) (by omega)
    rw [hz1] at this
    simpa [Value.cells] using this
  have hN := Lib.hid (new_at w n h1 h2)
  clear hi hz0 hz1 hz2
  go_enter Tryd.func4, Tryd.ntmps4
  go_wp2_with fail
  exact bodyPost_ret (v := .tuple #[.pointer (some ⟨w.heap.size + 1, 0, none⟩), .nilIface]) (by simp [results, Tryd.results4, go_sem]) rfl ⟨_, rfl, ⟨_, _, hN.out⟩, ((Below.refl _ _).alloc (Nat.le_refl _) _).alloc (by simp) _⟩
end Go.Proofs.YtneglanmigifhaaDoor
