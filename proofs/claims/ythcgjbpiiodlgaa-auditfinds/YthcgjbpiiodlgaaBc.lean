/- AuditPrefix: two rows of lines that are made of lines that came in. -/
import Derived.Test.YthcgjbpiiodlgaaBb
namespace Go.Proofs.Ythcgjbpiiodlgaa
open Go.RowKit Mp
set_option linter.unusedVariables false

theorem step_append_runD {P : Program} {ops : Array Oper} {o : Oper} {a : Act} {w : World} {K : Act → World → Prop} {Q : Exit → Act → World → Prop} {E : Prop} (hg : o.guard = none) (s x : Operand) (t : TypeId)
    (hop : o.op = .call { callee := .builtin .append, args := #[s, x], argTypes := #[t, t] }) (T : TypeId) (hT : o.type = T) (v1 v2 r : Value) (w0 w' : World) (hw0 : w = w0) (hs : a.eval s = v1) (hx : a.eval x = v2) (hrun : (Builtin.append_ #[t, t] T #[v1, v2]).run P w0 = .ok r w') (h : K (a.put o.dst r) w') :
    if Region.wanted o (yielded ops a.tmps) = true then Oper.wp P o a w K Q else E := by
  subst hT hw0
  have hw : Region.wanted o (yielded ops a.tmps) = true := by simp [Region.wanted, hg]
  rw [if_pos hw]
  unfold Oper.wp execOp
  simp only [hop, resolve, invoke, builtin, Sem.run_bind, Sem.run_pure, Result.andThen_ok, List.map_toArray, List.map_cons, List.map_nil, hs, hx, hrun]
  exact h
/-- A row of lines whose numbers were there in w0. -/
def LxP (w0 w : World) (v : Value) (L : List Ln) : Prop := ∃ X : List Lx, RwAt w 29 2 v L.length (lcells X) ∧ (∀ b, v.ownBlock = some b → w0.heap.size ≤ b) ∧ X.map Prod.fst = L ∧ ∀ x ∈ X, LxOk w0 x
theorem LxP.nil (w0 w : World) : LxP w0 w (.slice none 0 0) [] := ⟨[], RwAt.nil _ _ _, by simp [Value.ownBlock], rfl, by simp⟩
theorem LxP.block {w0 w w' : World} {v : Value} {L : List Ln} (h : LxP w0 w v L) (hb : ∀ b, v.ownBlock = some b → w'.heap[b]? = w.heap[b]?) : LxP w0 w' v L := by
  obtain ⟨X, h1, h2, h3, h4⟩ := h
  exact ⟨X, h1.block hb, h2, h3, h4⟩
theorem LxP.lt {w0 w : World} {v : Value} {L : List Ln} (h : LxP w0 w v L) {b : Nat} (hb : v.ownBlock = some b) : b < w.heap.size := by
  obtain ⟨X, h1, h2, h3, h4⟩ := h
  exact (h1.lt hb).1
theorem LxP.keep {w0 w w' : World} {v : Value} {L : List Ln} (h : LxP w0 w v L) (hb : Below w.heap.size w w') : LxP w0 w' v L := h.block fun b hv => hb.block b (h.lt hv)
theorem LxP.slice {w0 w : World} {v : Value} {L : List Ln} (h : LxP w0 w v L) : ∃ A c, v = .slice A L.length c ∧ L.length ≤ c ∧ c ≤ maxLen := by
  obtain ⟨X, h1, h2, h3, h4⟩ := h
  exact h1.slice
theorem LxP.lines {w0 w : World} {A : Option Addr} {n c : Nat} {L : List Ln} (h : LxP w0 w (.slice A n c) L) (hn : n = L.length) (hb : Below w0.heap.size w0 w) : LnsAt w A L := by
  obtain ⟨X, h1, h2, h3, h4⟩ := h
  rw [← hn] at h1
  rw [← h3]
  exact CsAt.lines h1.cells (fun x hx => lx_b (h4 x hx) hb)
/-- Two of them, apart. -/
structure TwoP (w0 w : World) (va vb : Value) (A B : List Ln) : Prop where
  a : LxP w0 w va A
  b : LxP w0 w vb B
  ne : ∀ k, va.ownBlock = some k → vb.ownBlock ≠ some k
  be : Below w0.heap.size w0 w
theorem TwoP.swap {w0 w : World} {va vb : Value} {A B : List Ln} (h : TwoP w0 w va vb A B) : TwoP w0 w vb va B A := ⟨h.b, h.a, fun k e1 e2 => h.ne k e2 e1, h.be⟩
theorem TwoP.keep {w0 w w' : World} {va vb : Value} {A B : List Ln} (h : TwoP w0 w va vb A B) (hb : Below w.heap.size w w') : TwoP w0 w' va vb A B := ⟨h.a.keep hb, h.b.keep hb, h.ne, below_after hb h.be⟩
theorem TwoP.put {w0 w u : World} {va vb : Value} {A B : List Ln} (h : TwoP w0 w va vb A B) (hu : Below w.heap.size w u) {key : ByteArray} {z : List Int} {fa : Option Addr} {fc : Nat} (hz : IntsAt w0 fa z) (h1 : z.length ≤ fc) (h2 : fc ≤ 9223372036854775807) (h3 : key.size ≤ 9223372036854775807) (hn : A.length ≤ 100000) :
    ∃ Av c w1, (Builtin.append_ #[22, 22] 22 #[va, .slice (some ⟨u.heap.size, 0, none⟩) 1 1]).run Try.prog (u.alloc (.cells #[.string key, .slice fa z.length fc] 29)) = .ok (.slice Av (A.length + 1) c) w1 ∧ TwoP w0 w1 (.slice Av (A.length + 1) c) vb (A ++ [(key, z)]) B := by
  have hk := h.keep hu
  obtain ⟨X, x1, x2, x3, x4⟩ := hk.a
  have hb : Below u.heap.size u (u.alloc (.cells #[.string key, .slice fa z.length fc] 29)) := (Below.refl _ _).alloc (Nat.le_refl _) _
  obtain ⟨Av, c, w1, hrun, k1, k2, k3⟩ := ln_app (x1.keep hb) (ln_src (g := u.heap.size) (s := key) (x := .slice fa z.length fc) (heap_alloc_new _ _) rfl) (by omega)
  have hsz : u.heap.size < w1.heap.size := by have := k2.size; simp at this; omega
  have hlow : ∀ k, k < u.heap.size → va.ownBlock ≠ some k → w1.heap[k]? = u.heap[k]? := fun k hk1 hk2 => (k2.block k (by simp; omega) (fun e => hk2 e.symm)).trans (hb.block k hk1)
  refine ⟨Av, c, w1, hrun, ⟨⟨X ++ [((key, z), fa, fc)], ?_, fun b hb' => ?_, ?_, ?_⟩, hk.b.block fun k e => hlow k (hk.b.lt e) (fun e2 => hk.ne k e2 e), fun k e1 e2 => ?_, below_grown (below_after hb hk.be) k2 x2⟩⟩
  · rw [lcells_append, List.length_append]; exact k1
  · rcases k3 b hb' with h' | h'
    · exact x2 b h'
    · exact Nat.le_trans hk.be.size (Nat.le_trans hb.size h')
  · rw [List.map_append, x3]; rfl
  · intro x hx
    rcases List.mem_append.1 hx with hx | hx
    · exact x4 x hx
    · simp only [List.mem_singleton] at hx
      subst hx
      exact ⟨hz, h1, h2, h3⟩
  · rcases k3 k e1 with h' | h'
    · exact hk.ne k h' e2
    · have := hk.b.lt e2; simp at h'; omega
theorem IntsAt.drop0 {w : World} {fa : Option Addr} {z : List Int} (h : IntsAt w fa z) (k : Nat) (hk : k < z.length) : ∃ b o, fa = some ⟨b, o, none⟩ ∧ IntsAt w (some ⟨b, o + k, none⟩) (z.drop k) := by
  rcases h with h | ⟨b, o, rfl, hc⟩
  · subst h; simp at hk
  · exact ⟨b, o, rfl, IntsAt.drop (.inr ⟨b, o, rfl, hc⟩) k⟩
theorem RgL.cutA {L : List Ln} (h : RgL L) (k : Nat) : RgL (cutA k L) := fun l hl => by
  obtain ⟨x, hx, rfl, -⟩ := cut_mem (f := (·.take k)) hl
  exact fun y hy => h x hx y (List.mem_of_mem_take hy)
theorem cutA_len (k : Nat) (L : List Ln) : (cutA k L).length ≤ L.length := cut_len (·.take k) L
theorem cutB_len (k : Nat) (L : List Ln) : (cutB k L).length ≤ L.length := cut_len (·.drop k) L
/-- The two rows of a round more. -/
theorem two_none {w0 w : World} {va vb : Value} {K : Nat} {L : List Ln} {j : Nat} (hj : j < L.length) (h : TwoP w0 w va vb (cutA K (L.take j)) (cutB K (L.take j))) (h1 : min K L[j].2.length = 0) (h2 : ¬ min K L[j].2.length < L[j].2.length) : TwoP w0 w va vb (cutA K (L.take (j + 1))) (cutB K (L.take (j + 1))) := by
  rw [cutA_take hj, cutB_take hj, if_pos (by apply List.eq_nil_of_length_eq_zero; rw [List.length_take]; exact h1), if_pos (by apply List.eq_nil_of_length_eq_zero; rw [List.length_drop]; omega), List.append_nil, List.append_nil]
  exact h
end Go.Proofs.Ythcgjbpiiodlgaa
