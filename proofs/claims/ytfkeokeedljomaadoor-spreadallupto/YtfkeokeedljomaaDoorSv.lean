/- Texts and numbers that came in. -/
import Derived.Test.YtfkeokeedljomaaDoorSm
import Derived.Deep.Slices
import Derived.Deep.Strs
import Derived.WideKeyArgs
import Derived.Laws.Cover1
namespace Go.Proofs.YtfkeokeedljomaaDoor
open Go.ChangeShapes Go.WideShapes Go.RowKit Go.Deep
set_option linter.unusedVariables false

theorem i64_of_wf {a : Int} (h : (Lit.int .i64 a).wf = true) : -9223372036854775808 ≤ a ∧ a ≤ 9223372036854775807 := by
  simp [Lit.wf, IntKind.min, IntKind.max, IntKind.signed, IntKind.bits] at h
  omega
/-- What a datum of a row has to say of its length. -/
def LenD {H : Type} (d : DataW H) (n : Nat) : Prop := n = 0 ∨ ∃ es sp, d = .slice es sp ∧ es.length = n
theorem open_ts1 {H : Type} {enc : TypeId × Value → H} {W : World} {fuel : Nat} {v : Value} {x : DataW H × List MemPlace} (h : DataW.trod enc Tryd.prog W 0 (fun _ => true) true fuel 22 [v] = some x) :
    ∃ X : Tl, v = tlV X ∧ CsAt W X.at_ (tcells X.l) ∧ LenD x.1 X.l.length := by
  rcases open_strs Tryd.underlying22 Tryd.underlying9 (by kernel_rfl) h with ⟨h0, -⟩ | ⟨a, len, cap, m, Sx, h0, hb, hl, hm, hmm, hx0, hx⟩
  · exact ⟨⟨none, 0, []⟩, by simpa [tlV] using h0, .inl rfl, .inl rfl⟩
  · simp only [if_true] at hmm
    refine ⟨⟨some a, cap, (List.range len).map Sx⟩, by simpa [tlV] using h0, ?_, .inr ⟨_, _, by rw [hx0], by simp⟩⟩
    by_cases h00 : len = 0
    · left; simp [h00, tcells]
    · right
      obtain ⟨b, o, spot⟩ := a
      have hspot : spot = none := by
        have h1 := (hx 0 (by omega)).1
        simpa [Addr.add] using World.cell?_spot h1
      subst hspot
      refine ⟨b, o, rfl, fun j u hu => ?_⟩
      have hj' : j < len := by
        have := (List.getElem?_eq_some_iff.1 hu).1
        simpa [tcells] using this
      have h1 := (hx j (by omega)).1
      rw [add_off] at h1
      simp [tcells, hj'] at hu
      rw [h1, hu]
theorem open_ts {H : Type} {enc : TypeId × Value → H} {W : World} {a0 : Option Addr} {len cap : Nat} {d0 : DataW H} {p : List MemPlace} (h0 : DataW.Trod enc Tryd.prog W 0 (fun _ => true) true 22 (.slice a0 len cap) d0 p) :
    ∃ l : List ByteArray, len = l.length ∧ CsAt W a0 (tcells l) ∧ LenD d0 l.length := by
  obtain ⟨fuel, hf⟩ := h0
  obtain ⟨X, e, h1, h2⟩ := open_ts1 hf
  injection e with e1 e2 e3
  subst e1
  exact ⟨X.l, e2, h1, h2⟩
theorem open_is {H : Type} {enc : TypeId × Value → H} {W : World} {a0 : Option Addr} {len cap : Nat} {d0 : DataW H} {p : List MemPlace} (h0 : DataW.Trod enc Tryd.prog W 0 (fun _ => true) true 33 (.slice a0 len cap) d0 p) :
    ∃ l : List Int, len = l.length ∧ CsAt W a0 (icells l) ∧ LenD d0 l.length := by
  obtain ⟨fuel, hf⟩ := h0
  rcases open_ints Tryd.underlying33 Tryd.underlying3 (by kernel_rfl) hf with ⟨hcs, hx⟩ | ⟨a, len', cap', zs, hcs, -, hl, hm, hz, hx, hc, hwz⟩
  · simp [Value.cells] at hcs
    exact ⟨[], hcs.2.1, .inl rfl, .inl rfl⟩
  · simp [Value.cells] at hcs
    obtain ⟨rfl, rfl, rfl⟩ := hcs
    simp only [if_true] at hz
    have hlen : (zs.take len).length = len := by rw [List.length_take]; omega
    refine ⟨zs.take len, hlen.symm, ?_, .inr ⟨lits .i64 (zs.take len), lits .i64 (zs.drop len), by injection hx, by simp [lits]⟩⟩
    by_cases h00 : len = 0
    · left; simp [h00, icells]
    · right
      obtain ⟨b, o, spot⟩ := a
      have hspot : spot = none := by simpa [Addr.add] using World.cell?_spot (hc 0 (by omega))
      subst hspot
      refine ⟨b, o, rfl, fun i u hu => ?_⟩
      have hi' : i < len := by
        have := (List.getElem?_eq_some_iff.1 hu).1
        simp [icells] at this; omega
      have h1 := hc i (by omega)
      rw [add_off] at h1
      have hiz : i < zs.length := by omega
      rw [h1]
      simp [icells, hi', hiz] at hu
      rw [← hu]
      simp [List.getD, hiz]
theorem ts_reach {H : Type} {ts : List TypeId} {ds : List (DataW H)} {j n : Nat} {d0 : DataW H} (hsz : (DataW.weightsEach Tryd.prog ts ds).all (· ≤ reachBytes) = true) (ht : ts[j]? = some 22) (hd : ds[j]? = some d0) (h : LenD d0 n) : n ≤ 140737488355328 := by
  have hr := reachBytes_lt
  have e3 : (2 : Nat) ^ 47 = 140737488355328 := by decide
  rcases h with h | ⟨el, sp, rfl, h⟩
  · rw [h]; exact Nat.zero_le _
  · have := sized_slice hsz ht hd Tryd.underlying22
    rw [show Tryd.prog.bytesOf 9 = 16 from by kernel_rfl] at this
    omega
theorem is_reach {H : Type} {ts : List TypeId} {ds : List (DataW H)} {j n : Nat} {d0 : DataW H} (hsz : (DataW.weightsEach Tryd.prog ts ds).all (· ≤ reachBytes) = true) (ht : ts[j]? = some 33) (hd : ds[j]? = some d0) (h : LenD d0 n) : n ≤ 140737488355328 := by
  have hr := reachBytes_lt
  have e3 : (2 : Nat) ^ 47 = 140737488355328 := by decide
  rcases h with h | ⟨el, sp, rfl, h⟩
  · rw [h]; exact Nat.zero_le _
  · have := sized_slice hsz ht hd Tryd.underlying33
    rw [show Tryd.prog.bytesOf 3 = 8 from by kernel_rfl] at this
    omega
end Go.Proofs.YtfkeokeedljomaaDoor
