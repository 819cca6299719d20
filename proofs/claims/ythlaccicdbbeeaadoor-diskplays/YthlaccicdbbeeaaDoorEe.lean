/- The document's disk in memory, and what is done on it. -/
import Derived.Test.YthlaccicdbbeeaaDoorEc
namespace Go.Proofs.YthlaccicdbbeeaaDoor
open Go.RowKit
set_option linter.unusedVariables false

theorem infoW : (Tryd.prog.info? 35).map (fun i => (i.zero, i.size, i.bytes)) = some (some (.agg #[.int .i64 0, .string ⟨#[]⟩, .string ⟨#[]⟩, .slice none 0 0, .int .i64 0]), 5, 72) := by kernel_rfl
/-- A thing that was done, as it lies. -/
structure Wn where
  k : Wk
  q : Option Addr
  c : Nat
def wcs (x : Wn) : List Value := [.int .i64 x.k.kind, .string x.k.name, .string x.k.to, .slice x.q x.k.bytes.length x.c, .int .i64 x.k.n]
def wcsl (T : List Wn) : List Value := T.flatMap wcs
theorem wcsl_len (T : List Wn) : (wcsl T).length = T.length * 5 := by
  induction T with
  | nil => rfl
  | cons x l ih => simp only [wcsl, wcs, List.flatMap_cons, List.length_append, List.length_cons, List.length_nil] at ih ⊢; omega
theorem wcsl_get (T : List Wn) (i : Nat) (h : i < T.length) : (wcsl T)[i * 5]? = some (.int .i64 T[i].k.kind) ∧ (wcsl T)[i * 5 + 1]? = some (.string T[i].k.name) ∧ (wcsl T)[i * 5 + 2]? = some (.string T[i].k.to) ∧ (wcsl T)[i * 5 + 3]? = some (.slice T[i].q T[i].k.bytes.length T[i].c) ∧ (wcsl T)[i * 5 + 4]? = some (.int .i64 T[i].k.n) := by
  induction T generalizing i with
  | nil => simp at h
  | cons x l ih =>
    cases i with
    | zero => simp [wcsl, wcs]
    | succ i =>
      have := ih i (by simpa using h)
      have e : (i + 1) * 5 = i * 5 + 5 := by omega
      rw [e]
      simp only [wcsl, wcs, List.flatMap_cons, List.cons_append, List.nil_append, List.getElem?_cons_succ, List.getElem_cons_succ] at this ⊢
      exact this
def WlAt (w : World) (O : Nat → Prop) (p : Option Addr) (T : List Wn) : Prop :=
  T = [] ∨ ∃ b o, p = some ⟨b, o, none⟩ ∧ O b ∧ ∀ i (h : i < T.length), (w.cell? ⟨b, o + i * 5, none⟩ = some (.int .i64 T[i].k.kind) ∧ w.cell? ⟨b, o + i * 5 + 1, none⟩ = some (.string T[i].k.name) ∧ w.cell? ⟨b, o + i * 5 + 2, none⟩ = some (.string T[i].k.to) ∧ w.cell? ⟨b, o + i * 5 + 3, none⟩ = some (.slice T[i].q T[i].k.bytes.length T[i].c) ∧ w.cell? ⟨b, o + i * 5 + 4, none⟩ = some (.int .i64 T[i].k.n)) ∧ BsO w O T[i].q T[i].k.bytes
theorem WlAt.keep {w w' : World} {O O' : Nat → Prop} {p : Option Addr} {T : List Wn} (h : WlAt w O p T) (hk : ∀ b, b < w.heap.size → O b → w'.heap[b]? = w.heap[b]?) (hO : ∀ b, b < w.heap.size → O b → O' b) : WlAt w' O' p T := by
  by_cases hne : T = []
  · exact .inl hne
  rcases h with h | ⟨b, o, rfl, hb, hc⟩
  · exact absurd h hne
  have h0 : 0 < T.length := by cases T with | nil => exact absurd rfl hne | cons => simp
  have hlt : b < w.heap.size := block_lt_of_cell (hc 0 h0).1.1
  have hs : ∀ (i : Nat) (v : Value), w.cell? ⟨b, i, none⟩ = some v → w'.cell? ⟨b, i, none⟩ = some v := fun i v h => (World.cell?_of_block (w := w) (hk b hlt hb)).trans h
  refine .inr ⟨b, o, rfl, hO b hlt hb, fun i hi => ?_⟩
  obtain ⟨⟨h1, h2, h3, h4, h5⟩, h6⟩ := hc i hi
  exact ⟨⟨hs _ _ h1, hs _ _ h2, hs _ _ h3, hs _ _ h4, hs _ _ h5⟩, h6.keep hk hO⟩
/-- The document's disk. -/
structure KAt (w : World) (O : Nat → Prop) (Kb : Nat) (k : Kd) : Prop where
  at_ : ∃ pN cN LN pS cS LS pT cT TT, w.heap[Kb]? = some (.cells #[.slice pN (List.length LN) cN, .slice pS (List.length LS) cS, .slice pT (List.length TT) cT, .int .i64 k.st, .int .i64 k.sp] 30) ∧ FlAt w O pN LN ∧ LN.map En.pr = k.N ∧ FlAt w O pS LS ∧ LS.map En.pr = k.S ∧ WlAt w O pT TT ∧ TT.map Wn.k = k.T ∧ (TT.length ≤ cT ∧ (pT = none → cT = 0))
theorem KAt.keep {w w' : World} {O O' : Nat → Prop} {Kb : Nat} {k : Kd} (h : KAt w O Kb k) (hK : w'.heap[Kb]? = w.heap[Kb]?) (hk : ∀ b, b < w.heap.size → O b → w'.heap[b]? = w.heap[b]?) (hO : ∀ b, b < w.heap.size → O b → O' b) : KAt w' O' Kb k := by
  obtain ⟨pN, cN, LN, pS, cS, LS, pT, cT, TT, h1, h2, h3, h4, h5, h6, h7, h8⟩ := h.at_
  exact ⟨pN, cN, LN, pS, cS, LS, pT, cT, TT, hK.trans h1, h2.keep hk hO, h3, h4.keep hk hO, h5, h6.keep hk hO, h7, h8⟩
theorem KAt.lt {w : World} {O : Nat → Prop} {Kb : Nat} {k : Kd} (h : KAt w O Kb k) : Kb < w.heap.size := by
  obtain ⟨pN, cN, LN, pS, cS, LS, pT, cT, TT, h1, _⟩ := h.at_
  exact (Array.getElem?_eq_some_iff.1 h1).1

/-- How Do ends. -/
def KEnd (w : World) (O : Nat → Prop) (Kb : Nat) (r : Int × Kd) (e : Ending) (w' : World) : Prop := e = .returned (.int .i64 r.1) ∧ KAt w' O Kb r.2 ∧ Fr [Kb] w w'

section
variable {w : World} {O : Nat → Prop} {Kb : Nat} {k : Kd}
/-- What lies where, told anew. -/
theorem kat_of {w' : World} {k' : Kd} (hOK : ∀ b, O b → b ≠ Kb) (f : Fr [Kb] w w') {pN cN LN pS cS LS pT cT TT} (hK : w'.heap[Kb]? = some (.cells #[.slice pN (List.length LN) cN, .slice pS (List.length LS) cS, .slice pT (List.length TT) cT, .int .i64 k'.st, .int .i64 k'.sp] 30))
    (h2 : FlAt w O pN LN) (h3 : LN.map En.pr = k'.N) (h4 : FlAt w O pS LS) (h5 : LS.map En.pr = k'.S) (h6 : WlAt w O pT TT) (h7 : TT.map Wn.k = k'.T) (h8 : TT.length ≤ cT ∧ (pT = none → cT = 0)) : KAt w' O Kb k' := by
  have hk : ∀ b, b < w.heap.size → O b → w'.heap[b]? = w.heap[b]? := fun b hlt ho => f.block b hlt (by simp; exact hOK b ho)
  exact ⟨pN, cN, LN, pS, cS, LS, pT, cT, TT, hK, h2.keep hk (fun _ _ h => h), h3, h4.keep hk (fun _ _ h => h), h5, h6.keep hk (fun _ _ h => h), h7, h8⟩
theorem heap_new_ne {w : World} {o : Obj} {b : Nat} (h : b < w.heap.size) : (w.alloc o).heap[b]? = w.heap[b]? := Below.heap_alloc _ _ _ h

set_option maxRecDepth 100000 in
set_option maxHeartbeats 4000000 in
theorem do_fail (h : KAt w O Kb k) (hO : ∀ b, w.heap.size ≤ b → O b) (hOK : ∀ b, O b → b ≠ Kb) (x : Wk) (q : Option Addr) (qc : Nat) (hx : x.kind = 6) :
    Calls Tryd.prog 14 #[.pointer (some ⟨Kb, 0, none⟩), wkV x q qc] w (KEnd w O Kb (doP k x)) := by
  have hlt := h.lt
  obtain ⟨pN, cN, LN, pS, cS, LS, pT, cT, TT, h1, h2, h3, h4, h5, h6, h7, h8⟩ := h.at_
  obtain ⟨kind, name, to, bs, n⟩ := x
  simp only at hx
  subst hx
  unfold wkV
  simp only
  have hB0 : Below w.heap.size w (w.alloc (.cells #[.int .i64 6, .string name, .string to, .slice q bs.length qc, .int .i64 n] 35)) := (Below.refl _ _).alloc (Nat.le_refl _) _
  have f0 : Fr [Kb] w (w.alloc (.cells #[.int .i64 6, .string name, .string to, .slice q bs.length qc, .int .i64 n] 35)) := Fr.below hB0
  have hh1 : (w.alloc (.cells #[.int .i64 6, .string name, .string to, .slice q bs.length qc, .int .i64 n] 35)).heap[Kb]? = some (.cells #[.slice pN LN.length cN, .slice pS LS.length cS, .slice pT TT.length cT, .int .i64 k.st, .int .i64 k.sp] 30) := (hB0.block Kb hlt).trans h1
  have d0 : (w.alloc (.cells #[.int .i64 6, .string name, .string to, .slice q bs.length qc, .int .i64 n] 35)).cell? ⟨Kb, 0, none⟩ = some (.slice pN LN.length cN) := by simp [World.cell?, hh1]
  have d1 : (w.alloc (.cells #[.int .i64 6, .string name, .string to, .slice q bs.length qc, .int .i64 n] 35)).cell? ⟨Kb, 1, none⟩ = some (.slice pS LS.length cS) := by simp [World.cell?, hh1]
  have d2 : (w.alloc (.cells #[.int .i64 6, .string name, .string to, .slice q bs.length qc, .int .i64 n] 35)).cell? ⟨Kb, 2, none⟩ = some (.slice pT TT.length cT) := by simp [World.cell?, hh1]
  have d3 : (w.alloc (.cells #[.int .i64 6, .string name, .string to, .slice q bs.length qc, .int .i64 n] 35)).cell? ⟨Kb, 3, none⟩ = some (.int .i64 k.st) := by simp [World.cell?, hh1]
  have d4 : (w.alloc (.cells #[.int .i64 6, .string name, .string to, .slice q bs.length qc, .int .i64 n] 35)).cell? ⟨Kb, 4, none⟩ = some (.int .i64 k.sp) := by simp [World.cell?, hh1]
  have e0 : ∀ o, (w.alloc (.cells #[.int .i64 6, .string name, .string to, .slice q bs.length qc, .int .i64 n] 35)).frozen? ⟨Kb, o, none⟩ = false := fun o => by simp [World.frozen?, hh1]
  have c0 : w.cell? ⟨Kb, 0, none⟩ = some (.slice pN LN.length cN) := by simp [World.cell?, h1]
  have c1 : w.cell? ⟨Kb, 1, none⟩ = some (.slice pS LS.length cS) := by simp [World.cell?, h1]
  have c2 : w.cell? ⟨Kb, 2, none⟩ = some (.slice pT TT.length cT) := by simp [World.cell?, h1]
  have c3 : w.cell? ⟨Kb, 3, none⟩ = some (.int .i64 k.st) := by simp [World.cell?, h1]
  have c4 : w.cell? ⟨Kb, 4, none⟩ = some (.int .i64 k.sp) := by simp [World.cell?, h1]
  have g0 : ∀ o, w.frozen? ⟨Kb, o, none⟩ = false := fun o => by simp [World.frozen?, h1]
  have hne : Kb ≠ w.heap.size := by omega
  have FR := Lib.hid (Fr.refl [Kb] w)
  generalize hR : KEnd w O Kb (doP k ⟨6, name, to, bs, n⟩) = R
  have HR := Lib.hid hR
  clear hR
  by_cases hn : n < 0
  · go_enter Tryd.func14, Tryd.ntmps14
    go_wp2
    rw [← HR.out]
    have hd : doP k ⟨6, name, to, bs, n⟩ = (0, { k with sp := -1 }) := by unfold doP; rw [if_neg (show ¬ (6 : Int) = 5 by decide), if_pos rfl, if_pos hn]
    rw [hd]
    refine ⟨rfl, kat_of (cN := cN) (cS := cS) (cT := cT) hOK (((FR.out.setCell (.inl (by simp)) _).setCell (.inl (by simp)) _).alloc _) ?_ h2 h3 h4 h5 h6 h7 h8, ((FR.out.setCell (.inl (by simp)) _).setCell (.inl (by simp)) _).alloc _⟩
    rw [heap_new_ne (by simpa using hlt)]
    simp [World.setCell, Array.getElem?_modify, h1]
  · go_enter Tryd.func14, Tryd.ntmps14
    go_wp2
    rw [← HR.out]
    have hd : doP k ⟨6, name, to, bs, n⟩ = (0, { k with sp := n }) := by unfold doP; rw [if_neg (show ¬ (6 : Int) = 5 by decide), if_pos rfl, if_neg (show ¬ n < 0 by omega)]
    rw [hd]
    refine ⟨rfl, kat_of (cN := cN) (cS := cS) (cT := cT) hOK ((FR.out.setCell (.inl (by simp)) _).alloc _) ?_ h2 h3 h4 h5 h6 h7 h8, (FR.out.setCell (.inl (by simp)) _).alloc _⟩
    rw [heap_new_ne (by simpa using hlt)]
    simp [World.setCell, Array.getElem?_modify, h1]

set_option maxRecDepth 100000 in
set_option maxHeartbeats 4000000 in
theorem do_bars (h : KAt w O Kb k) (hO : ∀ b, w.heap.size ≤ b → O b) (hOK : ∀ b, O b → b ≠ Kb) (x : Wk) (q : Option Addr) (qc : Nat) (hx5 : x.kind ≠ 5) (hx6 : x.kind ≠ 6) (hb : 0 ≤ k.sp ∧ k.sp ≤ k.st) :
    Calls Tryd.prog 14 #[.pointer (some ⟨Kb, 0, none⟩), wkV x q qc] w (KEnd w O Kb (7, k)) := by
  have hlt := h.lt
  obtain ⟨pN, cN, LN, pS, cS, LS, pT, cT, TT, h1, h2, h3, h4, h5, h6, h7, h8⟩ := h.at_
  obtain ⟨kind, name, to, bs, n⟩ := x
  simp only at *
  unfold wkV
  simp only
  have hB0 : Below w.heap.size w (w.alloc (.cells #[.int .i64 kind, .string name, .string to, .slice q bs.length qc, .int .i64 n] 35)) := (Below.refl _ _).alloc (Nat.le_refl _) _
  have f0 : Fr [Kb] w (w.alloc (.cells #[.int .i64 kind, .string name, .string to, .slice q bs.length qc, .int .i64 n] 35)) := Fr.below hB0
  have hh1 : (w.alloc (.cells #[.int .i64 kind, .string name, .string to, .slice q bs.length qc, .int .i64 n] 35)).heap[Kb]? = some (.cells #[.slice pN LN.length cN, .slice pS LS.length cS, .slice pT TT.length cT, .int .i64 k.st, .int .i64 k.sp] 30) := (hB0.block Kb hlt).trans h1
  have d0 : (w.alloc (.cells #[.int .i64 kind, .string name, .string to, .slice q bs.length qc, .int .i64 n] 35)).cell? ⟨Kb, 0, none⟩ = some (.slice pN LN.length cN) := by simp [World.cell?, hh1]
  have d1 : (w.alloc (.cells #[.int .i64 kind, .string name, .string to, .slice q bs.length qc, .int .i64 n] 35)).cell? ⟨Kb, 1, none⟩ = some (.slice pS LS.length cS) := by simp [World.cell?, hh1]
  have d2 : (w.alloc (.cells #[.int .i64 kind, .string name, .string to, .slice q bs.length qc, .int .i64 n] 35)).cell? ⟨Kb, 2, none⟩ = some (.slice pT TT.length cT) := by simp [World.cell?, hh1]
  have d3 : (w.alloc (.cells #[.int .i64 kind, .string name, .string to, .slice q bs.length qc, .int .i64 n] 35)).cell? ⟨Kb, 3, none⟩ = some (.int .i64 k.st) := by simp [World.cell?, hh1]
  have d4 : (w.alloc (.cells #[.int .i64 kind, .string name, .string to, .slice q bs.length qc, .int .i64 n] 35)).cell? ⟨Kb, 4, none⟩ = some (.int .i64 k.sp) := by simp [World.cell?, hh1]
  have e0 : ∀ o, (w.alloc (.cells #[.int .i64 kind, .string name, .string to, .slice q bs.length qc, .int .i64 n] 35)).frozen? ⟨Kb, o, none⟩ = false := fun o => by simp [World.frozen?, hh1]
  have c0 : w.cell? ⟨Kb, 0, none⟩ = some (.slice pN LN.length cN) := by simp [World.cell?, h1]
  have c1 : w.cell? ⟨Kb, 1, none⟩ = some (.slice pS LS.length cS) := by simp [World.cell?, h1]
  have c2 : w.cell? ⟨Kb, 2, none⟩ = some (.slice pT TT.length cT) := by simp [World.cell?, h1]
  have c3 : w.cell? ⟨Kb, 3, none⟩ = some (.int .i64 k.st) := by simp [World.cell?, h1]
  have c4 : w.cell? ⟨Kb, 4, none⟩ = some (.int .i64 k.sp) := by simp [World.cell?, h1]
  have g0 : ∀ o, w.frozen? ⟨Kb, o, none⟩ = false := fun o => by simp [World.frozen?, h1]
  have hne : Kb ≠ w.heap.size := by omega
  have FR := Lib.hid (Fr.refl [Kb] w)
  generalize hR : KEnd w O Kb (7, k) = R
  have HR := Lib.hid hR
  clear hR
  have hd1 : decide (0 ≤ k.sp) = true := by simpa using hb.1
  have hd2 : decide (k.sp ≤ k.st) = true := by simpa using hb.2
  obtain ⟨hb1, hb2⟩ := hb
  go_enter Tryd.func14, Tryd.ntmps14
  go_wp2
  go_quiet (fail)
  go_wp2
  rw [← HR.out]
  exact ⟨rfl, kat_of (cN := cN) (cS := cS) (cT := cT) hOK (f0.drewN nq) hh1 h2 h3 h4 h5 h6 h7 h8, f0.drewN nq⟩

theorem wcsl_append (L T : List Wn) : wcsl (L ++ T) = wcsl L ++ wcsl T := by simp [wcsl]
theorem wcsl_one {u : Value} {T : List Wn} (h : u ∈ wcsl T) : u.oneCell' = true := by
  simp only [wcsl, List.mem_flatMap] at h
  obtain ⟨x, -, hx⟩ := h
  simp [wcs] at hx
  rcases hx with rfl | rfl | rfl | rfl | rfl <;> rfl
/-- append of things to what is owned. -/
theorem append_wns {w : World} {ops : Array Oper} {rest : List Oper} {o : Oper} {a : Act} {Q : Exit → Act → World → Prop} (hgd : o.guard = none) (s x : Operand)
    (ho : o.op = .call { callee := .builtin .append, args := #[s, x], argTypes := #[28, 28] })
    (B : Nat) (v : Value) (L : List Wn) (hs : a.eval s = v) (hown : w.ownsRow B 35 5 v L.length (wcsl L)) (ao : Option Addr) (m c : Nat) (T : List Wn) (hx : a.eval x = .slice ao m c) (hm : m = T.length) (hT : T = [] ∨ ∃ b o, ao = some ⟨b, o, none⟩ ∧ ∀ j (h : j < (wcsl T).length), w.cell? ⟨b, o + j, none⟩ = some (wcsl T)[j]) (hc : ao = none → c = 0)
    (hlim : L.length + T.length ≤ 1000000) (hB : B ≤ w.heap.size)
    (hK : ∀ v' w', w'.ownsRow B 35 5 v' (L ++ T).length (wcsl (L ++ T)) → Below B w w' → wpList Tryd.prog ops Q rest (a.put o.dst v') w') : wpList Tryd.prog ops Q (o :: rest) a w := by
  obtain ⟨i0, hi, hz0, hz1, hz2⟩ := info_parts infoW
  subst hm
  cases ao with
  | none =>
    have hc0 := hc rfl
    subst hc0
    have hT0 : T = [] := by
      rcases hT with h | ⟨b, o, h, -⟩
      · exact h
      · cases h
    subst hT0
    refine wpList_plain hgd fun K hK' => ?_
    have hrun := run_append_owned_none (P := Tryd.prog) w B 28 o.type 35 i0 5 Tryd.underlying28 hi v _ _ hown
    have hx' : a.eval x = .slice none 0 0 := hx
    unfold Oper.wp
    simp [execOp, ho, resolve, invoke, builtin, hs, hx', hrun, Result.andThen]
    exact hK' _ _ (by simpa using hK v w (by simpa using hown) (Below.refl _ _))
  | some ad =>
    refine wpList_append_own w hgd s x 28 ho B 35 i0 (.agg #[.int .i64 0, .string ⟨#[]⟩, .string ⟨#[]⟩, .slice none 0 0, .int .i64 0]) 5 72 Tryd.underlying28 hi hz0 hz1 hz2 rfl (by decide) v L.length (wcsl L) hs hown ad T.length c (wcsl T) hx (wcsl_len T) ?_ (fun u hu => wcsl_one hu) (by unfold maxLen; omega) (by omega) hB ?_
    · intro j u hj
      rcases hT with rfl | ⟨b, o, h, hcell⟩
      · simp [wcsl] at hj
      · simp only [Option.some.injEq] at h
        subst h
        obtain ⟨hlt, rfl⟩ := List.getElem?_eq_some_iff.1 hj
        rw [show (⟨b, o, none⟩ : Addr).add j = ⟨b, o + j, none⟩ from by simp [Addr.add]]
        exact hcell j hlt
    · intro v' w' own' grow _
      refine hK v' w' ?_ ((Below.refl _ _).grown grow hB (fun k hk => (hown.lt k hk).1))
      rw [wcsl_append]
      simpa using own'
set_option maxRecDepth 100000 in
theorem wl_cells {w : World} {O : Nat → Prop} {p : Option Addr} {T : List Wn} (h : WlAt w O p T) : T = [] ∨ ∃ b o, p = some ⟨b, o, none⟩ ∧ ∀ j (h : j < (wcsl T).length), w.cell? ⟨b, o + j, none⟩ = some (wcsl T)[j] := by
  refine h.imp id fun ⟨b, o, e, _, hc⟩ => ⟨b, o, e, fun j hj => ?_⟩
  rw [wcsl_len] at hj
  obtain ⟨⟨a0, a1, a2, a3, a4⟩, _⟩ := hc (j / 5) (by omega)
  obtain ⟨b0, b1, b2, b3, b4⟩ := wcsl_get T (j / 5) (by omega)
  have key : ∀ (r : Nat) (v : Value), j = j / 5 * 5 + r → w.cell? ⟨b, o + j / 5 * 5 + r, none⟩ = some v → (wcsl T)[j / 5 * 5 + r]? = some v → w.cell? ⟨b, o + j, none⟩ = some ((wcsl T)[j]'(by rw [wcsl_len]; omega)) := fun r v hr h1 h2 => by
    rw [← hr] at h2
    obtain ⟨_, h2'⟩ := List.getElem?_eq_some_iff.1 h2
    rw [h2', ← h1]
    congr 2; omega
  have hr : j % 5 = 0 ∨ j % 5 = 1 ∨ j % 5 = 2 ∨ j % 5 = 3 ∨ j % 5 = 4 := by omega
  rcases hr with hr | hr | hr | hr | hr
  · exact key 0 _ (by omega) a0 b0
  · exact key 1 _ (by omega) a1 b1
  · exact key 2 _ (by omega) a2 b2
  · exact key 3 _ (by omega) a3 b3
  · exact key 4 _ (by omega) a4 b4
set_option maxRecDepth 100000 in
theorem wl_own {w : World} {base : Nat} {O : Nat → Prop} {v : Value} {T : List Wn} (h : w.ownsRow base 35 5 v T.length (wcsl T)) (hO : ∀ b, base ≤ b → O b) (hB : ∀ e ∈ T, BsO w O e.q e.k.bytes) : ∃ A c, v = .slice A T.length c ∧ WlAt w O A T ∧ T.length ≤ c ∧ (A = none → c = 0) := by
  rcases h.2 with ⟨h0, h1⟩ | ⟨g, cap, cur, h0, hb, hg, hle, hm, hs, ht⟩
  · exact ⟨none, 0, by rw [h0, h1], .inl (List.length_eq_zero_iff.1 h1), by omega, fun _ => rfl⟩
  · subst h0
    refine ⟨_, _, rfl, .inr ⟨g, 0, rfl, hO g hb, fun i hi => ?_⟩, hle, fun h => by cases h⟩
    obtain ⟨b0, b1, b2, b3, b4⟩ := wcsl_get T i hi
    have hs : ∀ (r : Nat) (v : Value), r < 5 → (wcsl T)[i * 5 + r]? = some v → w.cell? ⟨g, 0 + i * 5 + r, none⟩ = some v := fun r v hr hv => by
      rw [Nat.zero_add, h.cellAt (i * 5 + r) (by omega)]; exact hv
    exact ⟨⟨hs 0 _ (by omega) b0, hs 1 _ (by omega) b1, hs 2 _ (by omega) b2, hs 3 _ (by omega) b3, hs 4 _ (by omega) b4⟩, hB _ (List.getElem_mem hi)⟩
end
end Go.Proofs.YthlaccicdbbeeaaDoor
