/- What puts a file there again; what is kept of a thing that was done. -/
import Derived.Test.YtcmnijpcinmbbaaGreatDoorDc
namespace Go.Proofs.YtcmnijpcinmbbaaGreatDoor
open Go.RowKit
open Go.Maps (string_keyed)
theorem fr_turned {w w' : World} {M : Nat} (t : w.drew.mapTurned w' M) : Fr [M] w w' :=
  ⟨t.grown.os, t.grown.tape, t.grown.output, t.grown.size, fun k hk hx => t.grown.block k hk (fun e => hx (by injection e with e; simp [e]))⟩
theorem Fr.toD {M : Nat} {w w' : World} (h : Fr [M] w w') (B : Nat) (uv : Value) : FrD B M uv w w' := ⟨h.os, h.tape, h.output, h.size, fun k hk ho => h.block k hk (by simp; exact ho.2.1)⟩
section
variable {lo : Nat} {w : World} {B M : Nat} {uv : Value} {σ : Fs} {U : List Bk} {s bd : Int} {n : Nat}

set_option maxRecDepth 100000 in
set_option maxHeartbeats 2000000 in
theorem pt_run (h : DkAt lo w B M uv σ U s bd n) {p : Pt} {v : Value} (hp : PtAt w (Oth B M uv) B v p) (hk : isNm p.k = true) (hn : n < maxLen) :
    ∃ bs, v = .func (.func 60) #[] bs ∧ Calls Tryz.prog 60 bs w fun e w' => (∃ v, e = .returned v) ∧ DkAt lo w' B M uv (upd σ p.k p.o) U s bd (n + 1) ∧ Fr [M] w w' := by
  obtain ⟨k, o⟩ := p
  obtain ⟨h0, a, d, m, x, rfl, ⟨o1, o2, o3, o4⟩, c1, c2, c3, c4, c5⟩ := hp
  simp only at hk c1 c3 c5 ⊢
  refine ⟨_, rfl, ?_⟩
  obtain ⟨D, hD, hm⟩ := h.mp
  have hc0 := h.c0
  have hks : k.size ≤ maxLen := by have := isNm_size hk; unfold maxLen; omega
  have hd' := h.drewN 1
  have hk0 := h.fok
  cases o with
  | some bs =>
    obtain ⟨w1, hrun, hown1, ht1⟩ := World.ownsMap.store (w := w.drew) (t := 43) (e := 23) (show w.drew.ownsMap Tryz.prog 9 vR M n D from hD) hK Tryz.underlying43 hn (key_of k hks) (show vR x = some (.held x, []) from rfl)
    have c3' := c3
    obtain ⟨_, pp, cc, hx, _⟩ := c3'
    simp only [Option.getD_some, Option.isSome_some] at *
    have hfin : DkAt lo w1 B M uv (upd σ k (some bs)) U s bd (n + 1) := hd'.turned ht1 hown1 (hm.put hD.isMap k c3) (hk0.upd hk _)
    have hfr : Fr [M] w w1 := fr_turned ht1
    clear ht1 hown1
    subst hx
    go_enter Tryz.func60, Tryz.ntmps60
    go_wp2
    go_region
    go_end0
    exact ⟨⟨_, rfl⟩, hfin, hfr⟩
  | none =>
    obtain ⟨w1, hrun, hown1, ht1⟩ := World.ownsMap.drop (w := w.drew) (t := 43) (e := 23) (show w.drew.ownsMap Tryz.prog 9 vR M n D from hD) hK Tryz.underlying43 (key_of k hks) 0
    simp only [Option.getD_none, Option.isSome_none] at *
    have hfin : DkAt lo w1 B M uv (upd σ k none) U s bd (n + 1) := hd'.turned ht1 (hown1.mono (by omega)) (hm.del k) (hk0.upd hk _)
    have hfr : Fr [M] w w1 := fr_turned ht1
    clear ht1 hown1
    go_enter Tryz.func60, Tryz.ntmps60
    go_wp2
    go_region
    go_end0
    exact ⟨⟨_, rfl⟩, hfin, hfr⟩

set_option maxRecDepth 100000 in
set_option maxHeartbeats 2000000 in
theorem bk_run (h : DkAt lo w B M uv σ U s bd n) {b : Bk} {v : Value} (hp : BkAt w (Oth B M uv) B v b) (hk : BkOk b) (hn : n + 2 < maxLen) :
    ∃ f bs, v = .func (.func f) #[] bs ∧ f = 60 ∧ Calls Tryz.prog f bs w fun e w' => (∃ v, e = .returned v) ∧ DkAt lo w' B M uv (b.run σ) U s bd (n + 2) ∧ Fr [M] w w' := by
  cases b with
  | one p =>
    obtain ⟨bs, rfl, hc⟩ := pt_run h hp hk (by omega)
    refine ⟨_, bs, rfl, rfl, hc.mono ?_⟩
    rintro e w' ⟨he, h1, h2⟩
    obtain ⟨D, hD, hm⟩ := h1.mp
    exact ⟨he, ⟨h1.blk, h1.row, ⟨D, hD.mono (by omega), hm⟩, h1.lo1, h1.lo2, h1.fok, h1.uok⟩, h2⟩
  | two f t => exact hp.elim

set_option maxRecDepth 100000 in
set_option maxHeartbeats 2000000 in
theorem did_any (h : DkAt lo w B M uv σ U s bd n) {b : Bk} {v : Value} (hp : BkAt w (Oth B M uv) B v b) (hk : BkOk b) (hs0 : 0 ≤ s) (hs : s < 9223372036854775806) (hU : U.length < 1000000000) :
    Calls Tryz.prog 36 #[.pointer (some ⟨B, 0, none⟩), v] w fun e w' => (∃ v, e = .returned v) ∧ ∃ uv', DkAt lo w' B M uv' σ (U ++ [b]) (s + 1) bd n ∧ FrD B M uv w w' ∧ Nxt w uv uv' := by
  obtain ⟨i0, hi, hz0, hz1, hz2⟩ := info_parts infoFn
  obtain ⟨f, bs, rfl⟩ := hp.form
  have h2 := h.set2 (s + 1)
  have hc1 := h.c1
  have hc2 := h.c2
  have hf := h.fz 2
  have hf1 := h.fz 1
  have hlt := h.lt
  have hb2 := h2.lt
  obtain ⟨A, c, rfl⟩ := h.form
  obtain ⟨V, hV, hVU⟩ := h2.row
  have hlo : lo ≤ w.heap.size := by have := h.lo1; omega
  have hLl := Lib.hid hU
  clear hU
  have hcn : Hid (∀ j u, [Value.func (.func f) #[] bs][j]? = some u → ((w.setCell ⟨B, 2, none⟩ (.int .i64 (s + 1))).alloc (.cells #[.func (.func f) #[] bs] 1)).cell? ((⟨w.heap.size, 0, none⟩ : Addr).add j) = some u) := by
    have e : (w.setCell ⟨B, 2, none⟩ (.int .i64 (s + 1))).heap.size = w.heap.size := by simp
    have := cell_one_new (w.setCell ⟨B, 2, none⟩ (.int .i64 (s + 1))) (.func (.func f) #[] bs) 1
    rw [e] at this
    exact this
  go_enter Tryz.func36, Tryz.ntmps36
  go_wp2_with (at_builtin; refine Hid.out ?_)
  refine Lib.hid ?_
  refine wpList_append_own_at _ rfl _ _ 44 rfl lo 1 i0 .nilFunc 1 8 Tryz.underlying44 hi hz0 hz1 hz2 rfl (by decide) (.slice A U.length c) U.length V rfl (hV.alloc _) ⟨_, 0, none⟩ 1 1 [.func (.func f) #[] bs] rfl rfl hcn.out (by intro u hu; simp at hu; subst hu; rfl) (by have := hLl.out; unfold maxLen; omega) (by have := hLl.out; omega) (by simp; omega) ?_
  intro v' w1 hown' hgrow _ hat
  have hal : Below w.heap.size w (w.alloc (.cells #[.func (.func f) #[] bs] 1)) := (Below.refl _ _).alloc (Nat.le_refl _) _
  have hal2 : Below w.heap.size (w.setCell ⟨B, 2, none⟩ (.int .i64 (s + 1))) ((w.setCell ⟨B, 2, none⟩ (.int .i64 (s + 1))).alloc (.cells #[.func (.func f) #[] bs] 1)) := (Below.refl _ _).alloc (by simp) _
  have h3 : DkAt lo ((w.setCell ⟨B, 2, none⟩ (.int .i64 (s + 1))).alloc (.cells #[.func (.func f) #[] bs] 1)) B M (.slice A U.length c) σ U (s + 1) bd n := h2.keep (hal2.mono (by simp))
  have hN : Nxt ((w.setCell ⟨B, 2, none⟩ (.int .i64 (s + 1))).alloc (.cells #[.func (.func f) #[] bs] 1)) (.slice A U.length c) v' := fun g hg => by
    rcases hat with e | e
    · exact .inl (by rw [← e]; exact hg)
    · rw [e] at hg; injection hg with hg; exact .inr (by omega)
  have hlen : V.length = U.length := by have := hV.1; simpa using this
  have hpk : BkAt ((w.setCell ⟨B, 2, none⟩ (.int .i64 (s + 1))).alloc (.cells #[.func (.func f) #[] bs] 1)) (Oth B M (.slice A U.length c)) B (.func (.func f) #[] bs) b :=
    (hp.keep (w' := w.setCell ⟨B, 2, none⟩ (.int .i64 (s + 1))) (fun k hk ho => Below.heap_setCell _ _ _ _ ho.1) (fun _ _ h => h)).below (hal2.mono (by simp))
  have hfin := h3.set1 (U' := U ++ [b]) (V' := V ++ [.func (.func f) #[] bs]) hgrow hN (by simpa using hown') (fun i h1 h2' => by
    by_cases hi : i < U.length
    · rw [List.getElem_append_left (by omega), List.getElem_append_left hi]
      exact (hVU i hi (by omega)).below (hal2.mono (by simp))
    · have hie : i = U.length := by simp at h1; omega
      subst hie
      rw [List.getElem_append_right (by omega), List.getElem_append_right (by omega)]
      simp only [hlen, Nat.sub_self, List.getElem_cons_zero]
      exact hpk) (by
    intro x hx
    rcases List.mem_append.1 hx with hx | hx
    · exact h.uok x hx
    · simp at hx; subst hx; exact hk)
  have hfr : FrD B M (.slice A U.length c) w (w1.setCell ⟨B, 1, none⟩ v') := by
    have g1 : FrD B M (.slice A U.length c) w ((w.setCell ⟨B, 2, none⟩ (.int .i64 (s + 1))).alloc (.cells #[.func (.func f) #[] bs] 1)) := ((FrD.refl _ _ _ w).setB 2 _).alloc _
    have g2 : FrD B M (.slice A U.length c) w w1 := ⟨hgrow.os.trans g1.os, hgrow.tape.trans g1.tape, hgrow.output.trans g1.output, Nat.le_trans g1.size hgrow.size, fun k hk ho => (hgrow.block k (Nat.lt_of_lt_of_le hk g1.size) (fun e => ho.2.2 e.symm)).trans (g1.block k hk ho)⟩
    exact g2.setB 1 _
  have hNw : Nxt w (.slice A U.length c) v' := fun g hg => by
    rcases hN g hg with e | e
    · exact .inl e
    · exact .inr (by simp at e; omega)
  obtain ⟨A', c', hv'⟩ : ∃ A' c', v' = .slice A' (U.length + 1) c' := by
    rcases hown'.2 with ⟨_, h1⟩ | ⟨g, cap', cur, h0, _⟩
    · omega
    · exact ⟨_, _, h0⟩
  subst hv'
  have hB1 : w1.heap[B]? = some (.cells #[.map (some M), .slice A U.length c, .int .i64 (s + 1), .int .i64 bd] 46) := (hgrow.block B h3.lt (fun e => h3.neR.1 e.symm)).trans h3.blk
  have k1 : w1.cell? ⟨B, 1, none⟩ = some (.slice A U.length c) := by simp [World.cell?, hB1]
  have k2 : w1.frozen? ⟨B, 1, none⟩ = false := by simp [World.frozen?, hB1]
  clear hown' hgrow hB1 hpk h3 hV hVU h2
  go_wp2
  go_end0
  exact ⟨⟨_, rfl⟩, _, hfin, hfr, hNw⟩
end
end Go.Proofs.YtcmnijpcinmbbaaGreatDoor
