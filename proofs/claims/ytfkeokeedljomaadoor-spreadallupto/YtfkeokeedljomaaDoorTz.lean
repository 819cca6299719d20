/- Lists of lists of strings that came in, with their bulk. -/
import Derived.Test.YtfkeokeedljomaaDoorRows
import Derived.Test.YtfkeokeedljomaaDoorSm
import Derived.Test.YtfkeokeedljomaaDoorSv
import Derived.Deep.Slices
namespace Go.Proofs.YtfkeokeedljomaaDoor
open Go.ChangeShapes Go.WideShapes Go.RowKit Go.Deep
set_option linter.unusedVariables false

theorem bulk_pos {H : Type} (d : DataW H) : 1 ≤ Rows.uptoBulk d := by
  cases d with
  | lit l => cases l <;> simp [Rows.uptoBulk]
  | nil => simp [Rows.uptoBulk]
  | ptr d => simp [Rows.uptoBulk]
  | slice a b => simp [Rows.uptoBulk]
  | agg a => simp [Rows.uptoBulk]
  | iface t d => simp [Rows.uptoBulk]
  | map e => simp [Rows.uptoBulk]
  | held h => simp [Rows.uptoBulk]
theorem bulk_len {H : Type} (l : List (DataW H)) : l.length ≤ Rows.uptoBulkAll l := by
  induction l with
  | nil => simp
  | cons x r ih => have := bulk_pos x; simp only [Rows.uptoBulkAll, List.length_cons]; omega
theorem bulk_ld {H : Type} {d : DataW H} {n : Nat} (h : LenD d n) : n ≤ Rows.uptoBulk d := by
  rcases h with h | ⟨el, sp, rfl, h⟩
  · omega
  · have := bulk_len el
    simp only [Rows.uptoBulk]
    omega
theorem bulk_all {H : Type} (f : Nat → Tl) (D : Nat → DataW H) : ∀ (is : List Nat), (∀ i ∈ is, LenD (D i) (f i).l.length) → (allT (is.map f)).length ≤ Rows.uptoBulkAll (is.map D)
  | [], _ => by simp [allT]
  | i :: r, h => by
    have h1 := bulk_ld (h i (by simp))
    have h2 := bulk_all f D r (fun k hk => h k (by simp [hk]))
    have e : allT ((i :: r).map f) = (f i).l ++ allT (r.map f) := by simp [allT]
    rw [e, List.length_append]
    simp only [List.map_cons, Rows.uptoBulkAll]
    omega

set_option maxRecDepth 100000 in
theorem open_tls {H : Type} {enc : TypeId × Value → H} {W : World} {a0 : Option Addr} {len cap : Nat} {d0 : DataW H} {p : List MemPlace} (h0 : DataW.Trod enc Tryd.prog W 0 (fun _ => true) true 23 (.slice a0 len cap) d0 p) :
    ∃ L : List Tl, len = L.length ∧ TlsAt W a0 L ∧ ∀ B, Rows.uptoBulk d0 ≤ B → L.length ≤ B ∧ (allT L).length ≤ B := by
  obtain ⟨fuel, hf⟩ := h0
  rcases open_slice1 Tryd.underlying23 (by kernel_rfl) hf with ⟨h0, -⟩ | ⟨a, len', cap', m, n, V, D, Pl, h0, hb, hl, hm, hmm, hx0, hx⟩
  · simp [Value.cells] at h0
    exact ⟨[], h0.2.1, ⟨.inl rfl, by simp⟩, fun B _ => ⟨by simp, by simp [allT]⟩⟩
  · simp [Value.cells] at h0
    obtain ⟨rfl, rfl, rfl⟩ := h0
    simp only [if_true] at hmm
    simp only [Prod.mk.injEq] at hx0
    obtain ⟨rfl, -⟩ := hx0
    haveI : Inhabited Tl := ⟨⟨none, 0, []⟩⟩
    obtain ⟨f, hf⟩ := choose_lt (α := Tl) (n := len) (p := fun i X => W.cell? (a.add i) = some (tlV X) ∧ CsAt W X.at_ (tcells X.l) ∧ LenD (D i) X.l.length) (fun i hi => by
      obtain ⟨h1, h2⟩ := hx i (by omega)
      obtain ⟨X, hz, hcs, hld⟩ := open_ts1 h2
      exact ⟨X, by rw [h1, hz], hcs, hld⟩)
    refine ⟨(List.range len).map f, by simp, ⟨?_, fun x hx => ?_⟩, fun B hB => ⟨?_, ?_⟩⟩
    · by_cases h00 : len = 0
      · left; simp [h00]
      · right
        obtain ⟨b, o, spot⟩ := a
        have hspot : spot = none := by
          obtain ⟨h1, -⟩ := hf 0 (by omega)
          simpa [Addr.add] using World.cell?_spot h1
        subst hspot
        refine ⟨b, o, rfl, fun j u hu => ?_⟩
        have hj' : j < len := by
          have := (List.getElem?_eq_some_iff.1 hu).1
          simpa using this
        obtain ⟨h1, -⟩ := hf j hj'
        rw [add_off] at h1
        simp [hj'] at hu
        rw [h1, hu]
    · obtain ⟨i, hi, rfl⟩ := List.mem_map.1 hx
      exact (hf i (by simpa using hi)).2.1
    · have := bulk_len ((List.range len).map D)
      simp only [Rows.uptoBulk, List.length_map, List.length_range] at hB this ⊢
      omega
    · have := bulk_all f D (List.range len) (fun i hi => (hf i (by simpa using hi)).2.2)
      simp only [Rows.uptoBulk] at hB
      omega
end Go.Proofs.YtfkeokeedljomaaDoor
