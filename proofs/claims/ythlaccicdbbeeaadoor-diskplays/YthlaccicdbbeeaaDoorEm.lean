/- DiskPlays: small things ahead of its walk. -/
import Derived.Test.YthlaccicdbbeeaaDoorEk
namespace Go.Proofs.YthlaccicdbbeeaaDoor
open Go.RowKit
set_option linter.unusedVariables false

theorem own_box {w : World} {B Wb : Nat} {v : Value} {l : List UInt8} (h : Own B w v l) (hW : Wb < B) (o : Nat) (u : Value) : Own B (w.setCell ⟨Wb, o, none⟩ u) v l := by
  refine h.kept (row := some Wb) ⟨rfl, rfl, rfl, by simp, fun k _ hne => Below.heap_setCell _ _ _ _ (fun e => hne (by rw [e]))⟩ ?_
  rcases h.2 with ⟨h0, h1⟩ | ⟨g, cap, cur, rfl, hb, _⟩
  · left; rw [h0]; rfl
  · right; simp [Value.ownBlock]; omega
theorem own_tail {B : Nat} {w : World} {v : Value} {l : List UInt8} (h : Own B w v ([] ++ l)) : Own B w v l := h
section
variable {lo : Nat} {w : World} {B M Kb : Nat} {uv : Value} {d : Ds} {k : Kd} {n j : Nat}
theorem mid_write2 (h : Both lo w B M Kb uv d k k n j) (hj : j ≤ 100) (x : Wk) (hx : x.kind = 1) (hn : x.name.size ≤ 100) (q : Option Addr) (qc : Nat) (hq : BsAt w q x.bytes) (hqo : ∀ a, q = some a → Oth B M uv a.block) (hqK : ∀ a, q = some a → a.block ≠ Kb) (hl : x.bytes.length ≤ 140737488355328) :
    Calls Tryd.prog 7 #[.pointer (some ⟨B, 0, none⟩), .string x.name, .slice q x.bytes.length qc] w fun e w' => e = .returned (erV (doP k x).1) ∧ Mid lo w B M Kb uv k x j w' ∧ ∀ uv', w'.cell? ⟨B, 1, none⟩ = some uv' → BsO w' (OKb Kb B M uv') q x.bytes := by
  have hs := sm_of h.tie h.bd
  have := h.nb
  refine (write_any h.dk hs.1 (by have := hs.2.1; omega) (by have := hs.2.2; omega) (by unfold maxLen; omega) x.name (by unfold maxLen; omega) q qc x.bytes hq _ rfl hl (fun _ => hqo)).mono ?_
  intro e w' hs'
  obtain ⟨m1, m2⟩ := mid_step h (tie_write h.tie x hx) (by omega) hs'
  refine ⟨m1, m2, ?_⟩
  obtain ⟨_, uv', g2, g3, g4⟩ := hs'
  intro uv2 hc
  have : uv2 = uv' := by have := g2.c1; rw [hc] at this; injection this
  subst this
  exact BsO.keep (w := w) (O := OKb Kb B M uv) ⟨hq, fun _ a ha => ⟨hqK a ha, hqo a ha⟩⟩ (fun b hl ho => g3.block b hl ho.2) (fun b hl ho => ⟨ho.1, ho.2.next g4 hl⟩)
/-- Both read alike. -/
theorem read_tie (h : Both lo w B M Kb uv d k k n j) (nm : ByteArray) (hn : nm.size ≤ maxLen) :
    Calls Tryd.prog 17 #[.pointer (some ⟨B, 0, none⟩), .string nm] w fun e w' => ∃ A c, e = .returned (.tuple #[.slice A (kbs k nm).length c, erV (krd k nm)]) ∧ BsAt w' A (kbs k nm) ∧ Below w.heap.size w w' := by
  refine (read_any h.dk nm hn).mono ?_
  rintro e w' ⟨hb, hr⟩
  have hs : d.σ nm = look k.N nm := (h.tie.now.2 nm).symm
  have hk : rdD d nm = krd k nm := by unfold rdD krd; rw [hs]
  rw [hk, hs] at hr
  by_cases h0 : krd k nm = 0
  · rw [if_pos h0] at hr
    obtain ⟨A, c, r1, r2, _⟩ := hr
    have hb' : kbs k nm = (look k.N nm).getD [] := by unfold kbs; rw [if_pos h0]
    rw [h0, hb', erV_0]
    exact ⟨A, c, r1, r2, hb⟩
  · rw [if_neg h0] at hr
    have hb' : kbs k nm = [] := by unfold kbs; rw [if_neg h0]
    rw [hb']
    exact ⟨none, 0, hr, .inl rfl, hb⟩
/-- What the document's disk shows. -/
theorem both_now (h : Both lo w B M Kb uv d k k n j) : ∃ pN cN, w.cell? ⟨Kb, 0, none⟩ = some (.slice pN k.N.length cN) ∧ w.cell? ⟨Kb, 3, none⟩ = some (.int .i64 k.st) ∧ ∀ t (ht : t < k.N.length), ∃ b o, pN = some ⟨b, o, none⟩ ∧ w.cell? ⟨b, o + t * 2, none⟩ = some (.string k.N[t].1) := by
  obtain ⟨pN, cN, LN, pS, cS, LS, pT, cT, TT, h1, h2, h3, -⟩ := h.ka.at_
  have hl : LN.length = k.N.length := by rw [← h3]; simp
  refine ⟨pN, cN, by simp [World.cell?, h1, hl], by simp [World.cell?, h1], fun t ht => ?_⟩
  rcases h2 with h2 | ⟨b, o, rfl, _, hc⟩
  · rw [h2] at hl; simp at hl; omega
  · obtain ⟨g1, _⟩ := hc t (by omega)
    refine ⟨b, o, rfl, ?_⟩
    rw [g1]
    have : (LN.map En.pr)[t]'(by simp; omega) = k.N[t] := by simp only [h3]
    rw [List.getElem_map] at this
    rw [← this]; rfl
theorem both_names (h : Both lo w B M Kb uv d k k n j) {l : List ByteArray} (hl : NmsIs d.σ l) : l = k.N.map (·.1) := hl.unique h.tie.now.names
end
end Go.Proofs.YthlaccicdbbeeaaDoor
