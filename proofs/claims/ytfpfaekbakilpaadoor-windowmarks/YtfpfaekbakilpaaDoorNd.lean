/- Lists of records that came in, by lists. -/
import Derived.Test.YtfpfaekbakilpaaDoorWu
import Derived.Test.YtfpfaekbakilpaaDoorWc
import Derived.Laws.Cover1
namespace Go.Proofs.YtfpfaekbakilpaaDoor
open Go.ChangeShapes Go.WideShapes Go.RowKit Go.Deep
set_option linter.unusedVariables false

/-- What the datum of a list of records has to say of its length. -/
def LenD {H : Type} (d : DataW H) (n : Nat) : Prop := n = 0 ∨ ∃ es sp, d = .slice es sp ∧ es.length = n
set_option maxRecDepth 100000 in
theorem open_rcs1 {H : Type} {enc : TypeId × Value → H} {W : World} {fuel : Nat} {v : Value} {x : DataW H × List MemPlace} (hf : DataW.trod enc Tryd.prog W 0 (fun _ => true) true fuel 22 [v] = some x) :
    ∃ X : Li, v = liV X ∧ CsAt W X.at_ (rcells X.l) ∧ (∀ r ∈ X.l, OkRc r) ∧ X.l.length ≤ 9223372036854775807 ∧ LenD x.1 X.l.length := by
  have hml : maxLen = 9223372036854775807 := rfl
  rcases open_slice Tryd.underlying22 hf with ⟨h0, hx0⟩ | ⟨a, len', cap', m, n, D, Pl, h0, hb, hl, hm, hmm, hxd, hx⟩
  · simp at h0
    exact ⟨⟨none, 0, []⟩, h0, .inl rfl, by simp, by simp, .inl rfl⟩
  · simp at h0
    obtain ⟨len, hlen0⟩ : ∃ len, len = len' := ⟨_, rfl⟩
    rw [← hlen0] at h0 hl hmm hxd
    clear hlen0
    subst h0
    have hlm : len ≤ m := by rw [hmm]; split <;> omega
    obtain ⟨b, o, spot⟩ := a
    have hLD : LenD x.1 len := .inr ⟨_, _, by rw [hxd], by simp⟩
    by_cases h00 : len = 0
    · subst h00
      exact ⟨⟨some ⟨b, o, spot⟩, cap', []⟩, rfl, .inl rfl, by simp, by simp, .inl rfl⟩
    have hspot : spot = none := by
      obtain ⟨cs', h1, h2⟩ := hx 0 (by omega)
      rw [cellsRc] at h1
      obtain ⟨_, hlen, hcell⟩ := World.cells?_some h1
      have hc := hcell 0 (by omega)
      rw [List.getElem?_eq_getElem (by omega)] at hc
      simpa [Addr.add] using World.cell?_spot hc
    subst hspot
    haveI : Inhabited Rg := ⟨⟨⟨#[]⟩, 0, 0⟩⟩
    obtain ⟨f, hf⟩ := choose_lt (α := Rg) (n := len) (p := fun i r => (W.cell? ⟨b, o + i * 3, none⟩ = some (.string r.key) ∧ W.cell? ⟨b, o + i * 3 + 1, none⟩ = some (.int .i64 r.num) ∧ W.cell? ⟨b, o + i * 3 + 2, none⟩ = some (.int .i64 r.tm)) ∧ OkRc r) (fun i hi => by
      obtain ⟨cs', h1, h2⟩ := hx i (by omega)
      rw [cellsRc] at h1
      obtain ⟨_, hlen, hcell⟩ := World.cells?_some h1
      obtain ⟨xs, k, -, -, -, hxl, hfs⟩ := DataW.trod_struct Tryd.underlying47 h2
      match cs', hlen with
      | [v0, v1, v2], _ =>
        have f0 : DataW.trod enc Tryd.prog W 0 (fun _ => true) true k 9 (([v0, v1, v2].drop 0).take (Tryd.prog.cellsOf 9)) = xs[0]? := hfs 0 _ rfl
        have f1 : DataW.trod enc Tryd.prog W 0 (fun _ => true) true k 3 (([v0, v1, v2].drop 1).take (Tryd.prog.cellsOf 3)) = xs[1]? := hfs 1 _ rfl
        have f2 : DataW.trod enc Tryd.prog W 0 (fun _ => true) true k 3 (([v0, v1, v2].drop 2).take (Tryd.prog.cellsOf 3)) = xs[2]? := hfs 2 _ rfl
        simp only [cellsI, cellsS, List.drop, List.take] at f0 f1 f2
        have hxl3 : xs.length = 3 := hxl
        rw [List.getElem?_eq_getElem (by omega)] at f0 f1 f2
        obtain ⟨x0, e0, -, w0⟩ := DataW.trod_string Tryd.underlying9 f0
        obtain ⟨x1, e1, -, w1⟩ := DataW.trod_int Tryd.underlying3 f1
        obtain ⟨x2, e2, -, w2⟩ := DataW.trod_int Tryd.underlying3 f2
        simp only [List.cons.injEq, and_true] at e0 e1 e2
        subst e0 e1 e2
        have c0 := hcell 0 (by omega)
        have c1 := hcell 1 (by omega)
        have c2 := hcell 2 (by omega)
        simp only [add_at] at c0 c1 c2
        exact ⟨⟨x0, x1, x2⟩, ⟨by simpa using c0, by simpa using c1, by simpa using c2⟩, key_ok w0, i64_wf w1, i64_wf w2⟩)
    refine ⟨⟨some ⟨b, o, none⟩, cap', (List.range len).map f⟩, by simp [liV], ?_, fun r hr => ?_, by simp; omega, by simpa using hLD⟩
    · refine rcs_of (fun i hi => ?_)
      have hi' : i < len := by simpa using hi
      simpa using (hf i hi').1
    · obtain ⟨i, hi, rfl⟩ := List.mem_map.1 hr
      exact (hf i (by simpa using hi)).2
/-- The same of a list of lists. -/
def LensD {H : Type} (d : DataW H) (L : List Li) : Prop := L = [] ∨ ∃ es sp, d = .slice es sp ∧ ∀ i (h : i < L.length), ∃ di, es[i]? = some di ∧ LenD di L[i].l.length
set_option maxRecDepth 100000 in
theorem open_lis {H : Type} {enc : TypeId × Value → H} {W : World} {a0 : Option Addr} {len cap : Nat} {d0 : DataW H} {p : List MemPlace} (h0 : DataW.Trod enc Tryd.prog W 0 (fun _ => true) true 37 (.slice a0 len cap) d0 p) :
    ∃ L : List Li, len = L.length ∧ CsAt W a0 (L.map liV) ∧ (∀ x ∈ L, CsAt W x.at_ (rcells x.l)) ∧ (∀ x ∈ L, (∀ r ∈ x.l, OkRc r) ∧ x.l.length ≤ 9223372036854775807) ∧ L.length ≤ 9223372036854775807 ∧ LensD d0 L := by
  obtain ⟨fuel, hf⟩ := h0
  have hml : maxLen = 9223372036854775807 := rfl
  rcases open_slice1 Tryd.underlying37 (by kernel_rfl) hf with ⟨h0, -⟩ | ⟨a, len', cap', m, n, V, D, Pl, h0, hb, hl, hm, hmm, hxd, hx⟩
  · simp [Value.cells] at h0
    exact ⟨[], h0.2.1, .inl rfl, by simp, by simp, by simp, .inl rfl⟩
  · simp [Value.cells] at h0
    obtain ⟨rfl, rfl, rfl⟩ := h0
    simp only [if_true] at hmm
    haveI : Inhabited Li := ⟨⟨none, 0, []⟩⟩
    obtain ⟨f, hf⟩ := choose_lt (α := Li) (n := len) (p := fun i X => W.cell? (a.add i) = some (liV X) ∧ CsAt W X.at_ (rcells X.l) ∧ (∀ r ∈ X.l, OkRc r) ∧ X.l.length ≤ 9223372036854775807 ∧ LenD (D i) X.l.length) (fun i hi => by
      obtain ⟨h1, h2⟩ := hx i (by omega)
      obtain ⟨X, hz, hcs, hok, hd, hld⟩ := open_rcs1 h2
      exact ⟨X, by rw [h1, hz], hcs, hok, hd, hld⟩)
    refine ⟨(List.range len).map f, by simp, ?_, fun x hx => ?_, fun x hx => ?_, by simp; omega, ?_⟩
    · by_cases h00 : len = 0
      · left; simp [h00]
      · right
        obtain ⟨b, o, spot⟩ := a
        have hspot : spot = none := by
          obtain ⟨h1, -⟩ := hf 0 (by omega)
          simpa [Addr.add] using World.cell?_spot h1
        subst hspot
        refine ⟨b, o, rfl, fun j u hu => ?_⟩
        have hj' : j < len := by
          have := (List.getElem?_eq_some_iff.1 hu).1
          simpa using this
        obtain ⟨h1, -⟩ := hf j hj'
        rw [add_at] at h1
        simp [hj'] at hu
        rw [h1, hu]
    · obtain ⟨i, hi, rfl⟩ := List.mem_map.1 hx
      exact (hf i (by simpa using hi)).2.1
    · obtain ⟨i, hi, rfl⟩ := List.mem_map.1 hx
      exact ⟨(hf i (by simpa using hi)).2.2.1, (hf i (by simpa using hi)).2.2.2.1⟩
    · have hxe := congrArg Prod.fst hxd
      refine .inr ⟨_, _, hxe, fun i hi => ?_⟩
      have hi' : i < len := by simpa using hi
      exact ⟨D i, by simp [hi'], by simpa using (hf i hi').2.2.2.2⟩
theorem mem_weightsAll {H : Type} {P : Program} {e : TypeId} : ∀ {es : List (DataW H)} {d : DataW H} {i n : Nat}, es[i]? = some d → n ∈ d.weights P e → n ∈ DataW.weightsAll P e es
  | [], _, _, _, h, _ => by simp at h
  | x :: es, d, 0, n, h, hn => by
    simp at h; subst h
    rw [DataW.weightsAll]; exact List.mem_append_left _ hn
  | x :: es, d, i + 1, n, h, hn => by
    rw [DataW.weightsAll]; exact List.mem_append_right _ (mem_weightsAll (by simpa using h) hn)
theorem lis_reach {H : Type} {ts : List TypeId} {ds : List (DataW H)} {j : Nat} {d0 : DataW H} {L : List Li} (hsz : (DataW.weightsEach Tryd.prog ts ds).all (· ≤ reachBytes) = true) (ht : ts[j]? = some 37) (hd : ds[j]? = some d0)
    (h : LensD d0 L) : ∀ x ∈ L, x.l.length ≤ reachBytes := by
  intro x hx
  obtain ⟨i, hi, rfl⟩ := List.getElem_of_mem hx
  rcases h with h | ⟨es, sp, rfl, h⟩
  · subst h; simp at hi
  · obtain ⟨di, h1, h2⟩ := h i hi
    rcases h2 with h2 | ⟨es2, sp2, rfl, h2⟩
    · rw [h2]; exact Nat.zero_le _
    · have hm : (es2.length + sp2.length) * Tryd.prog.bytesOf 47 ∈ DataW.weightsEach Tryd.prog ts ds := by
        refine DataW.weights_mem_each ht hd _ ?_
        simp only [DataW.weights, Tryd.underlying37]
        refine List.mem_cons_of_mem _ (List.mem_append_left _ (mem_weightsAll h1 ?_))
        simp [DataW.weights, Tryd.underlying22]
      have := of_decide_eq_true (List.all_eq_true.1 hsz _ hm)
      rw [show Tryd.prog.bytesOf 47 = 32 from by kernel_rfl] at this
      omega
end Go.Proofs.YtfpfaekbakilpaaDoor
