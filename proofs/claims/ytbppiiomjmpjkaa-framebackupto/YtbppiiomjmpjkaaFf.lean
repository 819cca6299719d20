/- Pieces that came in: a slice of slices of bytes. -/
import Derived.Test.YtbppiiomjmpjkaaRows
import Derived.Test.YtbppiiomjmpjkaaFe
import Derived.Deep.Slices
import Derived.WideKeyArgs
namespace Go.Proofs.Ytbppiiomjmpjkaa
open Go.ChangeShapes Go.WideShapes Go.RowKit Go.Deep

/-- A piece: where it lies, its bytes, its capacity. -/
abbrev Pz := Option Addr × List UInt8 × Nat
def PzOk (w : World) (x : Pz) : Prop := BsAt w x.1 x.2.1 ∧ (x.1 = none → x.2.2 = 0) ∧ x.2.1.length ≤ x.2.2
def BbsAt (w : World) (p : Option Addr) (L : List Pz) : Prop :=
  L = [] ∨ ∃ b o, p = some ⟨b, o, none⟩ ∧ ∀ i (h : i < L.length), w.cell? ⟨b, o + i, none⟩ = some (.slice L[i].1 L[i].2.1.length L[i].2.2) ∧ PzOk w L[i]
theorem PzOk.keep {w w' : World} {x : Pz} (h : PzOk w x) (hb : Below w.heap.size w w') : PzOk w' x := ⟨h.1.keep hb, h.2⟩

theorem bulk_part {H : Type} {d : DataW H} {l : List (DataW H)} (h : d ∈ l) : Rows.uptoBulk d ≤ Rows.uptoBulkAll l := by
  induction l with
  | nil => cases h
  | cons x r ih =>
    simp only [Rows.uptoBulkAll]
    rcases List.mem_cons.1 h with e | e
    · subst e; omega
    · have := ih e; omega
theorem bulk_pos {H : Type} (d : DataW H) : 1 ≤ Rows.uptoBulk d := by
  cases d with
  | lit l => cases l <;> simp [Rows.uptoBulk]
  | nil => simp [Rows.uptoBulk]
  | ptr d => simp [Rows.uptoBulk]
  | slice a b => simp [Rows.uptoBulk]
  | agg a => simp [Rows.uptoBulk]
  | iface t d => simp [Rows.uptoBulk]
  | map e => simp [Rows.uptoBulk]
  | held h => simp [Rows.uptoBulk]
theorem bulk_len {H : Type} (l : List (DataW H)) : l.length ≤ Rows.uptoBulkAll l := by
  induction l with
  | nil => simp
  | cons x r ih => have := bulk_pos x; simp only [Rows.uptoBulkAll, List.length_cons]; omega
theorem bulk_bs {H : Type} {d : DataW H} {len B : Nat} (h : len = 0 ∨ ∃ el sp, d = .slice el sp ∧ el.length = len) (hB : Rows.uptoBulk d ≤ B) : len ≤ B := by
  rcases h with h | ⟨el, sp, rfl, h⟩
  · omega
  · have := bulk_len el
    simp only [Rows.uptoBulk] at hB
    omega

theorem add_pl (b o i : Nat) : (⟨b, o, none⟩ : Addr).add i = ⟨b, o + i, none⟩ := by
  unfold Addr.add; split <;> simp_all
theorem open_bs1 {H : Type} {enc : TypeId × Value → H} {W : World} {fuel : Nat} {v : Value} {x : DataW H × List MemPlace} (h : DataW.trod enc Try.prog W 0 (fun _ => true) true fuel 22 [v] = some x) :
    ∃ z : Pz, v = .slice z.1 z.2.1.length z.2.2 ∧ PzOk W z ∧ (z.2.1.length = 0 ∨ ∃ el sp, x.1 = .slice el sp ∧ el.length = z.2.1.length) := by
  obtain ⟨a0, len, cap, hv, hlc⟩ : ∃ a0 len cap, v = .slice a0 len cap ∧ len ≤ cap := by
    rcases open_ints Try.underlying22 Try.underlying5 (by kernel_rfl) h with ⟨hcs, -⟩ | ⟨a, len', cap', zs, hcs, -, hl, -⟩
    · exact ⟨none, 0, 0, by simpa using hcs, Nat.le_refl _⟩
    · exact ⟨_, _, _, by simpa using hcs, hl⟩
  subst hv
  obtain ⟨l, h1, h2, h3, h4⟩ := open_bs (d0 := x.1) (p := x.2) ⟨fuel, h⟩
  exact ⟨(a0, l, cap), by rw [h1], ⟨h2, h3, by rw [← h1]; exact hlc⟩, by rw [← h1]; exact h4⟩

set_option maxRecDepth 100000 in
theorem open_bbs {H : Type} {enc : TypeId × Value → H} {W : World} {a0 : Option Addr} {len cap : Nat} {d0 : DataW H} {p : List MemPlace} (h0 : DataW.Trod enc Try.prog W 0 (fun _ => true) true 44 (.slice a0 len cap) d0 p) :
    ∃ L : List Pz, len = L.length ∧ BbsAt W a0 L ∧ ∀ B, Rows.uptoBulk d0 ≤ B → L.length ≤ B ∧ ∀ x ∈ L, x.2.1.length ≤ B := by
  obtain ⟨fuel, hf⟩ := h0
  rcases open_slice1 Try.underlying44 (by kernel_rfl) hf with ⟨h0, -⟩ | ⟨a, len', cap', m, n, V, D, Pl, h0, hb, hl, hm, hmm, hx0, hx⟩
  · simp [Value.cells] at h0
    exact ⟨[], h0.2.1, .inl rfl, fun B _ => ⟨by simp, by simp⟩⟩
  · simp [Value.cells] at h0
    obtain ⟨rfl, rfl, rfl⟩ := h0
    simp only [if_true] at hmm
    simp only [Prod.mk.injEq] at hx0
    obtain ⟨rfl, -⟩ := hx0
    haveI : Inhabited Pz := ⟨(none, [], 0)⟩
    obtain ⟨f, hf⟩ := choose_lt (α := Pz) (n := len) (p := fun i z => W.cell? (a.add i) = some (.slice z.1 z.2.1.length z.2.2) ∧ PzOk W z ∧ (z.2.1.length = 0 ∨ ∃ el sp, D i = .slice el sp ∧ el.length = z.2.1.length)) (fun i hi => by
      obtain ⟨h1, h2⟩ := hx i (by omega)
      obtain ⟨z, hz, hok, hd⟩ := open_bs1 h2
      exact ⟨z, by rw [h1, hz], hok, hd⟩)
    refine ⟨(List.range len).map f, by simp, ?_, fun B hB => ⟨?_, fun x hx => ?_⟩⟩
    · by_cases h00 : len = 0
      · left; simp [h00]
      · right
        obtain ⟨b, o, spot⟩ := a
        have hspot : spot = none := by simpa [Addr.add] using World.cell?_spot (hf 0 (by omega)).1
        subst hspot
        refine ⟨b, o, rfl, fun j hj => ?_⟩
        have hj' : j < len := by simpa using hj
        obtain ⟨h1, h2, -⟩ := hf j hj'
        rw [add_pl] at h1
        simpa using And.intro h1 h2
    · have := bulk_len ((List.range len).map D)
      simp only [Rows.uptoBulk, List.length_map, List.length_range] at hB this ⊢
      omega
    · obtain ⟨i, hi, rfl⟩ := List.mem_map.1 hx
      have hi' : i < len := by simpa using hi
      refine bulk_bs (hf i hi').2.2 (Nat.le_trans (bulk_part (l := (List.range len).map D) (List.mem_map.2 ⟨i, hi, rfl⟩)) ?_)
      simp only [Rows.uptoBulk] at hB
      omega
end Go.Proofs.Ytbppiiomjmpjkaa
