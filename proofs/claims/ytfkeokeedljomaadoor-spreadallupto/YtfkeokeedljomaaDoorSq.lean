/- Again, Even, Every. -/
import Derived.Test.YtfkeokeedljomaaDoorSo
namespace Go.Proofs.YtfkeokeedljomaaDoor
open Go.RowKit
set_option linter.unusedVariables false

/-- append, as one step of a region. -/
theorem step_append_run {P : Program} {ops : Array Oper} {o : Oper} {a : Act} {w : World} {K : Act → World → Prop} {Q : Exit → Act → World → Prop} {E : Prop} (hg : o.guard = none) (s x : Operand) (t : TypeId)
    (hop : o.op = .call { callee := .builtin .append, args := #[s, x], argTypes := #[t, t] }) (v1 v2 r : Value) (w' : World) (hs : a.eval s = v1) (hx : a.eval x = v2) (hrun : (Builtin.append_ #[t, t] o.type #[v1, v2]).run P w = .ok r w') (h : K (a.put o.dst r) w') :
    if Region.wanted o (yielded ops a.tmps) = true then Oper.wp P o a w K Q else E := by
  have hw : Region.wanted o (yielded ops a.tmps) = true := by simp [Region.wanted, hg]
  rw [if_pos hw]
  unfold Oper.wp execOp
  simp only [hop, resolve, invoke, builtin, Sem.run_bind, Sem.run_pure, Result.andThen_ok, List.map_toArray, List.map_cons, List.map_nil, hs, hx, hrun]
  exact h
theorem src_one {u : World} {g : Nat} {s : ByteArray} (hg : u.heap[g]? = some (.cells #[.string s] 9 (0, 0))) : Src Tryd.prog 1 22 (.slice (some ⟨g, 0, none⟩) 1 1) 1 (tcells [s]) u :=
  Src.ofSlice _ Tryd.underlying22 _ 1 1 (tcells [s]) rfl (World.news_of_block (cs := #[.string s]) hg) (tcells_one [s])
/-- What Again hands back. -/
def RowsEnd (w w' : World) (v : Value) (rows : List (List ByteArray)) : Prop := ∃ B vs, v = .slice (some ⟨B, 0, none⟩) rows.length rows.length ∧ LB w' B w.heap.size rows vs ∧ w.heap.size ≤ B ∧ Below w.heap.size w w'

set_option maxHeartbeats 2000000 in
theorem again_no (w : World) (la : Option Addr) (c n : Nat) (m : Int) (L : List Tl) (h : TlsAt w la L) (hn : n = L.length) (hl : n < 4611686018427387904) (ht : (allT L).length < 4611686018427387904) (he : erC (allT L).length m ≠ 0) :
    Calls Tryd.prog 9 #[.slice la n c, .int .i64 m] w fun e w' => e = .returned (.tuple #[.slice none 0 0, errV (erC (allT L).length m)]) ∧ w' = w := by
  have h1 := inall_any w la c n L h hn hl ht
  have h2 := chk_any ((allT L).length : Nat) m w
  generalize erC (allT L).length m = k at *
  generalize (allT L).length = N at *
  obtain ⟨tv, htv⟩ := errV_ne he
  rw [htv] at h2 ⊢
  clear h hn he htv
  go_enter Tryd.func9, Tryd.ntmps9
  go_wp2_with (first | (go_at_call 14; refine h1.mono ?_; rintro e w' ⟨rfl, rfl⟩) | (go_at_call 13; refine h2.mono ?_; rintro e w' ⟨rfl, rfl⟩))
  go_ret2
  exact ⟨rfl, rfl⟩
set_option maxRecDepth 100000 in
set_option maxHeartbeats 4000000 in
theorem again_yes (w : World) (la : Option Addr) (c n m : Nat) (L : List Tl) (h : TlsAt w la L) (hn : n = L.length) (hl : n < 4611686018427387904) (he : erC (allT L).length m = 0) :
    Calls Tryd.prog 9 #[.slice la n c, .int .i64 (m : Int)] w fun e w' => ∃ v, e = .returned (.tuple #[v, .nilIface]) ∧ RowsEnd w w' v (rowsP m (allT L)) := by
  obtain ⟨m1, m2, m3⟩ := erC_ok he
  have hm1 : 0 < m := by omega
  have hm2 : m ≤ 16 := by omega
  have h1 := inall_any w la c n L h hn hl (by omega)
  have h2 := chk_any ((allT L).length : Nat) m w
  have h3 : errV 0 = .nilIface := rfl
  rw [he, h3] at h2
  have HMK := make_l m hm2
  have HLB := Lib.hid (fun (u : World) (lo : Nat) => LB.made u m lo)
  have HC := Lib.hid (fun (u : World) (hb : Below w.heap.size w u) => concat_any u la c n L (h.keep hb) hn hl (by omega))
  obtain ⟨l, hll⟩ : ∃ l, allT L = l := ⟨_, rfl⟩
  rw [hll] at h1 h2 HC m3 ⊢
  obtain ⟨N, hN⟩ : ∃ N, l.length = N := ⟨_, rfl⟩
  rw [hN] at h1 h2 m3
  have HN := Lib.hid hN
  clear h hn he h3 m1 m2 hll hN
  go_enter Tryd.func9, Tryd.ntmps9
  go_wp2_with (first | (go_at_call 14; refine h1.mono ?_; rintro e w' ⟨rfl, rfl⟩) | (go_at_call 13; refine h2.mono ?_; rintro e w' ⟨rfl, rfl⟩) | (go_at_call 15; refine Hid.out ?_))
  refine Lib.hid ?_
  rename World => w
  have hlb := HLB.out w
  have hB1 : Below w.heap.size w (w.alloc (.cells (madeCells #[.slice none 0 0] m) 22)) := (Below.refl _ _).alloc (Nat.le_refl _) _
  have hs1 : (w.alloc (.cells (madeCells #[.slice none 0 0] m) 22)).heap.size = w.heap.size + 1 := by simp
  have hc := HC.out _ hB1
  rw [hs1] at hc
  obtain ⟨B, hBB⟩ : ∃ B, w.heap.size = B := ⟨_, rfl⟩
  rw [hBB] at hlb hB1 hs1 hc ⊢
  have HBB := Lib.hid hBB
  clear hBB
  generalize w.alloc (.cells (madeCells #[.slice none 0 0] m) 22) = W1 at hlb hB1 hs1 hc ⊢
  refine hc.mono ?_
  rintro e u ⟨v, rfl, hT, hO, hB2⟩
  rw [← hs1] at hB2
  have HL0 : Hid (LB u B u.heap.size (rowsP m (l.take 0)) (List.replicate m (.slice none 0 0))) := by
    show LB _ _ _ _ _
    rw [List.take_zero, rowsP_nil]
    exact (hlb u.heap.size).keep hB2
  have HB2 : Hid (Below B w u) := hB1.trans (hB2.mono (by omega))
  obtain ⟨A0, c0, rfl, -, -⟩ := hT.slice
  have HCS : Hid (CsAt u A0 (tcells l) ∧ (∀ b o, A0 = some ⟨b, o, none⟩ → l ≠ [] → b < u.heap.size ∧ B + 1 ≤ b)) := by
    refine ⟨hT.cs, fun b o e hne => ?_⟩
    subst e
    have := hT.lt (b := b) (by simp [Value.ownBlock])
    exact ⟨this.1, hO b (by simp [Value.ownBlock])⟩
  have HUS : Hid (B + 1 ≤ u.heap.size) := by have := hB2.size; show _ ≤ _; omega
  rw [HN.out]
  clear hT hO hB2 hB1 hs1 hlb hc HLB HC
  go_wp2_with fail
  go_loopw [22] (fun vi wr => ∃ k : Nat, vi = .int .i64 (k : Int) ∧ k ≤ N ∧ Hid (∃ vs, LB wr B u.heap.size (rowsP m (l.take k)) vs) ∧ Hid (Fr [B] u wr)) (fun vi _ => N - (intOf vi).toNat)
  case atStart => exact ⟨0, rfl, by omega, ⟨_, HL0.out⟩, Fr.refl _ _⟩
  case round =>
    obtain ⟨k, rfl, hk, ⟨vs, hL⟩, hF⟩ := hrel
    by_cases hlt : k < N
    · have hz : (k : Int) < (N : Int) := by omega
      have hkl : k < l.length := by have := HN.out; omega
      obtain ⟨b, o, rfl, c1⟩ := tx_at HCS.out.1 k hkl
      have hbb := HCS.out.2 b o rfl (by intro e; rw [e] at hkl; simp at hkl)
      have c1' : wr.cell? ⟨b, o + k, none⟩ = some (.string l[k]) := by rw [hF.out.cell (p := ⟨b, o + k, none⟩) hbb.1 (by simp; omega)]; exact c1
      obtain ⟨jj, hjj⟩ : ∃ jj, jj = k % m := ⟨_, rfl⟩
      have hjm : jj < m := by rw [hjj]; exact Nat.mod_lt _ hm1
      have g1 : (k : Int) % (m : Int) = (jj : Int) := by omega
      have hjv : jj < vs.length := by rw [hL.len, rowsP_len]; exact hjm
      obtain ⟨vj, hvj⟩ := at_lt (l := vs) hjv
      obtain ⟨d1, f1⟩ := hL.cell hvj
      have htk : (l.take k).length = k := by rw [List.length_take]; omega
      have hown := hL.own jj vj _ hvj (rowsP_at m (l.take k) jj hjm)
      have hb2 : Below wr.heap.size wr ((wr.alloc (.cells #[.string l[k]] 9)).drew) := ((Below.refl _ _).alloc (Nat.le_refl _) _).drew
      have hrl := rowP_le m hm1 jj hjm (l.take k)
      obtain ⟨A1, c2, w1, hrun, h4, h5, h6⟩ := tx_app (m := [l[k]]) (hown.keep hb2) (src_one (s := l[k]) (u := (wr.alloc (.cells #[.string l[k]] 9)).drew) (heap_alloc_new wr _)) (by rw [List.length_singleton]; omega)
      obtain ⟨p1, p2, p3⟩ := hL.put hb2 hF.out.size hvj h5 h4 (fun b' hb' => (h6 b' hb').imp id (fun h => by have := hb2.size; omega))
      have hsn : (rowsP m (l.take k)).set jj (rowP m (l.take k) jj ++ [l[k]]) = rowsP m (l.take (k + 1)) := by
        have := rowsP_snoc m hm1 (l.take k) l[k]
        rw [htk, ← hjj] at this
        rw [this, List.take_succ_eq_append_getElem hkl]
      rw [hsn] at p1
      have hln : (rowP m (l.take k) jj ++ [l[k]]).length = (rowP m (l.take k) jj).length + [l[k]].length := by simp
      rw [hln] at p1 p3
      have HR := Lib.hid hrun
      have HP : Hid ((∃ vs, LB (w1.setCell ⟨B, jj, none⟩ (.slice A1 ((rowP m (l.take k) jj).length + [l[k]].length) c2)) B u.heap.size (rowsP m (l.take (k + 1))) vs) ∧ Fr [B] u (w1.setCell ⟨B, jj, none⟩ (.slice A1 ((rowP m (l.take k) jj).length + [l[k]].length) c2))) := ⟨⟨_, p1⟩, p3 u rfl hF.out⟩
      have hHT : Hid (w1.cell? ⟨B, jj, none⟩ = some vj ∧ w1.frozen? ⟨B, jj, none⟩ = false) := by
        obtain ⟨cur, q1, q2⟩ := (hL.keep hb2).blk
        have e : w1.heap[B]? = some (.cells cur 22 (0, 0)) := by rw [h5.block B (some_heap q1) (fun e => (hL.far jj vj B hvj e.symm).2 rfl)]; exact q1
        constructor
        · simp only [World.cell?, e]; exact q2 jj vj hvj
        · simp only [World.frozen?, e]; simp
      have hdz : (jj : Int) < (m : Int) := by omega
      have hmz : ¬ m = 0 := by omega
      have g2 : (k : Int).tmod (m : Int) = (jj : Int) := by rw [Int.tmod_eq_emod_of_nonneg (by omega)]; exact g1
      clear hrun h4 h5 h6 p1 p2 p3 hsn hln hown hrl hb2 htk hL hbb c1 hvj hjv hF hjj
      generalize (rowP m (l.take k) jj).length + [l[k]].length = q at *
      generalize l[k] = x at *
      obtain ⟨e1, e2⟩ := hHT.out
      have d1a : (wr.alloc (.cells #[.string x] 9)).cell? ⟨B, jj, none⟩ = some vj := by
        have hb3 : Below wr.heap.size wr (wr.alloc (.cells #[.string x] 9)) := (Below.refl _ _).alloc (Nat.le_refl _) _
        rw [hb3.cell (p := ⟨B, jj, none⟩) (cell_lt d1)]; exact d1
      go_wp2_with fail
      go_region_law (refine step_append_run (by rfl) _ _ _ (by rfl) _ _ _ _ (by rfl) (by rfl) (by exact HR.out) ?_)
      all_goals go_wp2
      all_goals exact ⟨⟨k + 1, by go_num, by omega, HP.out.1, HP.out.2⟩, by simp [intOf]; omega⟩
    · have hz : ¬ (k : Int) < (N : Int) := by omega
      have ht : l.take k = l := List.take_of_length_le (by have := HN.out; omega)
      rw [ht] at hL
      go_wp2_with fail
      go_ret2
      have hsz := hF.out.size
      have hu := HUS.out
      refine ⟨_, rfl, B, vs, by rw [rowsP_len]; rfl, hL.mono (by have := HBB.out; omega), by have := HBB.out; omega, ?_⟩
      have hb := HB2.out
      rw [HBB.out]
      exact hb.trans (hF.out.toBelow (by omega) (by simp))
end Go.Proofs.YtfkeokeedljomaaDoor
