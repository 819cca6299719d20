/- Nodes as cells in a row; numbers of a row that a call owns. -/
import Derived.Test.YthadeccnibnioaaGreatDoorJk
import Derived.Test.YthadeccnibnioaaGreatDoorJi
namespace Go.Proofs.YthadeccnibnioaaGreatDoor
open Go.RowKit

/-- A node and where its numbers lie. -/
abbrev Nx := Nd × Option Addr × Nat
def ncells : List Nx → List Value
  | [] => []
  | x :: r => .int .i64 x.1.k :: .slice x.2.1 x.1.fs.length x.2.2 :: .string x.1.tx :: .int .i64 x.1.n :: ncells r
theorem ncells_len : ∀ X : List Nx, (ncells X).length = X.length * 4
  | [] => rfl
  | x :: r => by simp only [ncells, List.length_cons, ncells_len r]; omega
theorem ncells_snoc : ∀ (X : List Nx) (y : Nx), ncells (X ++ [y]) = ncells X ++ [.int .i64 y.1.k, .slice y.2.1 y.1.fs.length y.2.2, .string y.1.tx, .int .i64 y.1.n]
  | [], y => rfl
  | x :: r, y => by simp only [List.cons_append, ncells, ncells_snoc r y]
theorem ncells_at : ∀ (X : List Nx) (i : Nat) (h : i < X.length), (ncells X)[i * 4]? = some (.int .i64 X[i].1.k) ∧ (ncells X)[i * 4 + 1]? = some (.slice X[i].2.1 X[i].1.fs.length X[i].2.2) ∧ (ncells X)[i * 4 + 2]? = some (.string X[i].1.tx) ∧ (ncells X)[i * 4 + 3]? = some (.int .i64 X[i].1.n)
  | [], i, h => by simp at h
  | x :: r, 0, _ => by simp [ncells]
  | x :: r, i + 1, h => by
    have := ncells_at r i (by simpa using h)
    rw [show (i + 1) * 4 = i * 4 + 4 from by omega]
    simpa [ncells] using this
theorem ncells_one (X : List Nx) : ∀ u ∈ ncells X, u.oneCell' = true := by
  induction X with
  | nil => simp [ncells]
  | cons x r ih =>
    intro u hu
    simp only [ncells, List.mem_cons] at hu
    rcases hu with rfl | rfl | rfl | rfl | hu
    · rfl
    · rfl
    · rfl
    · rfl
    · exact ih u hu

/-- That a node's numbers lie where it says. -/
def NxOk (w : World) (x : Nx) : Prop := IntsAt w x.2.1 x.1.fs ∧ x.1.tx.size ≤ 9223372036854775807 ∧ x.1.fs.length ≤ 9223372036854775807

theorem nodes_cells {w : World} {b : Nat} : ∀ (L : List Nd) (o : Nat), (∀ (i : Nat) (h : i < L.length), NdAt w b (o + i * 4) L[i]) →
    ∃ X : List Nx, X.map Prod.fst = L ∧ (∀ j u, (ncells X)[j]? = some u → w.cell? ⟨b, o + j, none⟩ = some u) ∧ ∀ x ∈ X, NxOk w x
  | [], o, _ => ⟨[], rfl, by simp [ncells], by simp⟩
  | nd :: L, o, h => by
    obtain ⟨X, h1, h2, h3⟩ := nodes_cells L (o + 4) (fun i hi => by
      have := h (i + 1) (by simpa using hi)
      rw [show o + (i + 1) * 4 = o + 4 + i * 4 by omega] at this
      simpa using this)
    obtain ⟨c0, ⟨fa, fc, c1, hI⟩, c2, c3, hz⟩ := h 0 (by simp)
    simp only [List.getElem_cons_zero, Nat.zero_mul, Nat.add_zero] at c0 c1 c2 c3 hI hz
    refine ⟨(nd, fa, fc) :: X, by simp [h1], fun j u hu => ?_, fun x hx => ?_⟩
    · match j, hu with
      | 0, hu => simp [ncells] at hu; subst hu; exact c0
      | 1, hu => simp [ncells] at hu; subst hu; exact c1
      | 2, hu => simp [ncells] at hu; subst hu; exact c2
      | 3, hu => simp [ncells] at hu; subst hu; exact c3
      | j + 4, hu =>
        simp [ncells] at hu
        have := h2 j u hu
        rw [show o + (j + 4) = o + 4 + j by omega]; exact this
    · rcases List.mem_cons.1 hx with rfl | hx
      · exact ⟨hI, hz⟩
      · exact h3 x hx

theorem nodes_of_cells {w : World} {b : Nat} {X : List Nx} (hc : ∀ j u, (ncells X)[j]? = some u → w.cell? ⟨b, j, none⟩ = some u) (hx : ∀ x ∈ X, NxOk w x) : NdsAt w (some ⟨b, 0, none⟩) (X.map Prod.fst) := by
  refine .inr ⟨b, 0, rfl, fun i hi => ?_⟩
  have hi' : i < X.length := by simpa using hi
  obtain ⟨e0, e1, e2, e3⟩ := ncells_at X i hi'
  have hX := hx X[i] (List.getElem_mem hi')
  simp only [Nat.zero_add, List.getElem_map]
  exact ⟨hc _ _ e0, ⟨_, _, hc _ _ e1, hX.1⟩, hc _ _ e2, hc _ _ e3, hX.2⟩

theorem NxOk.keep {w w' : World} {x : Nx} (h : NxOk w x) (k : Keeps w w') : NxOk w' x := ⟨h.1.keep k, h.2⟩

theorem own_ints {w : World} {B n cap : Nat} {A : Option Addr} {z : List Int} (h : w.ownsRow B 3 1 (.slice A n cap) n (iv z)) (hn : n = z.length) : IntsAt w A z ∧ n ≤ cap := by
  subst hn
  rcases h.2 with ⟨h0, h1⟩ | ⟨g, cap', cur, h0, hb, hg, hle, hm, hs, ht⟩
  · exact ⟨.inl (List.length_eq_zero_iff.1 h1), by omega⟩
  · simp at h0
    obtain ⟨rfl, rfl⟩ := h0
    refine ⟨?_, hle⟩
    by_cases hz : z = []
    · exact .inl hz
    · refine .inr ⟨g, 0, rfl, fun j hj => ?_⟩
      rw [Nat.zero_add, h.cellAt j (by omega), iv_get z j hj]
theorem IntsAt.pre {w : World} {A : Option Addr} {z y : List Int} (h : IntsAt w A (z ++ y)) : IntsAt w A z := by
  rcases h with h | ⟨b, o, h1, h2⟩
  · exact .inl (by simp at h; exact h.1)
  · refine .inr ⟨b, o, h1, fun j hj => ?_⟩
    have := h2 j (by simp; omega)
    rw [List.getElem_append_left hj] at this; exact this
theorem UsI.ints {w : World} {B U n : Nat} {V : Nat → Value} {F : Nat → List Int} (h : UsI w B U n V F) {i : Nat} (hi : i < n) : ∃ A cap, V i = .slice A (F i).length cap ∧ IntsAt w A (F i) ∧ (F i).length ≤ cap ∧ (A = none → cap = 0) := by
  have hr := h.row i hi
  obtain ⟨A, cap, hv⟩ := own_form hr
  rw [hv] at hr
  obtain ⟨h1, h2⟩ := own_ints hr rfl
  refine ⟨A, cap, hv, h1, h2, fun hn => ?_⟩
  rcases hr.2 with ⟨e, _⟩ | ⟨g, cap', cur, e, _⟩
  · simp at e; exact e.2.2
  · simp [hn] at e

theorem sinks_ok {w : World} (hg : Gl w) {la : Option Addr} {L : List Nd} {c : Nat} (hL : NdsAt w la L) (hc : L.length ≤ c) (h0 : jobP L = 0) :
    Calls Tryz.prog 21 #[.slice la L.length c] w fun e w' => ∃ A cap, e = .returned (.tuple #[.slice A (ofP L 10).length cap, .nilIface]) ∧ IntsAt w' A (ofP L 10) ∧ Below w.heap.size w w' := by
  have ck := ofKind_ok hg hL hc 10 h0
  clear hL hg
  go_enter Tryz.func21, Tryz.ntmps21
  go_wp2_with (go_at_call 52; refine ck.mono ?_; rintro e w' ⟨v, rfl, hown, hb2⟩)
  go_ret2
  obtain ⟨A, cap, rfl⟩ := own_form hown
  exact ⟨A, cap, rfl, (own_ints hown rfl).1, hb2⟩
end Go.Proofs.YthadeccnibnioaaGreatDoor
