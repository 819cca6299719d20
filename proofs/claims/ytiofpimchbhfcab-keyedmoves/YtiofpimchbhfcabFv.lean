/- FrameBack's walk. -/
import Derived.Test.YtiofpimchbhfcabFu
import Derived.Test.YtiofpimchbhfcabFe
namespace Go.Proofs.Ytiofpimchbhfcab
open Go.RowKit Go.ChangeShapes Go.WideShapes

theorem open_bs2 {H : Type} {enc : TypeId × Value → H} {W : World} {a0 : Option Addr} {len cap : Nat} {d0 : DataW H} {p : List MemPlace} (h0 : DataW.Trod enc Try.prog W 0 (fun _ => true) true 35 (.slice a0 len cap) d0 p) : len ≤ cap ∧ cap ≤ 9223372036854775807 := by
  obtain ⟨fuel, hf⟩ := h0
  rcases open_ints Try.underlying35 Try.underlying5 (by kernel_rfl) hf with ⟨hcs, -⟩ | ⟨a, len', cap', zs, hcs, -, hl, hm, -⟩
  · simp [Value.cells] at hcs
    omega
  · simp [Value.cells] at hcs
    obtain ⟨rfl, rfl, rfl⟩ := hcs
    have hml : maxLen = 9223372036854775807 := rfl
    omega

/-- A byte slice with what it holds. -/
def Bz (u : World) (A : Option Addr) (cap : Nat) (l : List UInt8) : Prop := BsAt u A l ∧ l.length ≤ cap ∧ cap ≤ 9223372036854775807
theorem Bz.keep {u u' : World} {A : Option Addr} {cap : Nat} {l : List UInt8} (h : Bz u A cap l) (hb : Below u.heap.size u u') : Bz u' A cap l := ⟨h.1.keep hb, h.2⟩
theorem own_bz {w : World} {B : Nat} {v : Value} {l : List UInt8} (h : Own B w v l) : ∃ A cap, v = .slice A l.length cap ∧ Bz w A cap l := by
  have hml : maxLen = 9223372036854775807 := rfl
  rcases h.2 with ⟨h0, h1⟩ | ⟨g, cap, cur, h0, hb, hg, hle, hm, hs, ht⟩
  · have e := List.eq_nil_of_length_eq_zero h1
    subst e
    exact ⟨none, 0, h0, .inl rfl, by simp, by omega⟩
  · have h' := h
    rw [h0] at h'
    exact ⟨_, cap, h0, (own_bs h' rfl).1, hle, by omega⟩
theorem lst_le {L : List Rc} (h : recsE L = 0) (hok : ∀ r ∈ L, OkRc r) : (lstB rcB L).length ≤ 28010 := by
  obtain ⟨h1, h2⟩ := ok_key h
  have := allB_le rcB 70 L (fun r hr => rcB_le (hok r hr) (h2 r hr))
  have h3 := num_ten (n := (L.length : Int)) (by omega) (by omega)
  unfold lstB
  simp only [List.length_append]
  omega
theorem lsth_le {L : List Hd} (h : heldsE ltH L = 0) (hok : ∀ r ∈ L, OkHd r) : (lstB hdB L).length ≤ 32010 := by
  obtain ⟨h1, h2⟩ := ok_hkey h
  have := allB_le hdB 80 L (fun r hr => hdB_le (hok r hr) (h2 r hr))
  have h3 := num_ten (n := (L.length : Int)) (by omega) (by omega)
  unfold lstB
  simp only [List.length_append]
  omega

/-- Helds, of what is right and of what is not; read again; the same. -/
theorem helds_yes (u : World) (la : Option Addr) (c : Nat) (L : List Hd) (h : CsAt u la (hcells L)) (hlen : L.length ≤ 9223372036854775807) (hok : ∀ r ∈ L, OkHd r) (hE : heldsE ltH L = 0) :
    Calls Try.prog 25 #[.slice la L.length c] u fun e u' => ∃ A cap, e = .returned (.tuple #[.slice A (lstB hdB L).length cap, .nilIface]) ∧ Bz u' A cap (lstB hdB L) ∧ Below u.heap.size u u' := by
  refine (helds_any u la c L h hlen hok).mono ?_
  rintro e u' ⟨h1, hb⟩
  rw [hE, if_pos rfl] at h1
  obtain ⟨v, rfl, ho⟩ := h1
  obtain ⟨A, cap, rfl, hz⟩ := own_bz ho
  exact ⟨A, cap, rfl, hz, hb⟩
theorem helds_no (u : World) (la : Option Addr) (c : Nat) (L : List Hd) (h : CsAt u la (hcells L)) (hlen : L.length ≤ 9223372036854775807) (hok : ∀ r ∈ L, OkHd r) (hE : ¬ heldsE ltH L = 0) :
    Calls Try.prog 25 #[.slice la L.length c] u fun e u' => (∃ z : Int, e = .returned (.tuple #[.slice none 0 0, .iface 54 (.int .i64 z)])) ∧ Below u.heap.size u u' := by
  refine (helds_any u la c L h hlen hok).mono ?_
  rintro e u' ⟨h1, hb⟩
  rw [if_neg hE] at h1
  exact ⟨⟨_, h1⟩, hb⟩
theorem readHds_yes (u : World) (p : Option Addr) (c : Nat) (l : List UInt8) (L : List Hd) (h : Bz u p c l) (hlen : l.length ≤ 140737488355328) (hr : readHds ltH l = some L) :
    Calls Try.prog 27 #[.slice p l.length c] u fun e u' => ∃ A cap, e = .returned (.tuple #[.slice A L.length cap, .nilIface]) ∧ CsAt u' A (hcells L) ∧ Below u.heap.size u u' := by
  refine (readHds_any u p c l h.1 hlen h.2.1 h.2.2).mono ?_
  rintro e u' ⟨h1, hb⟩
  rw [hr] at h1
  obtain ⟨v, rfl, ho⟩ := h1
  obtain ⟨A, cap, rfl⟩ := row_slice ho
  exact ⟨A, cap, rfl, (own_cs ho (hcells_len L)).1, hb⟩
theorem readHds_no (u : World) (p : Option Addr) (c : Nat) (l : List UInt8) (h : Bz u p c l) (hlen : l.length ≤ 140737488355328) (hr : readHds ltH l = none) :
    Calls Try.prog 27 #[.slice p l.length c] u fun e u' => e = .returned (.tuple #[.slice none 0 0, .iface 54 (.int .i64 9)]) ∧ Below u.heap.size u u' := by
  refine (readHds_any u p c l h.1 hlen h.2.1 h.2.2).mono ?_
  rintro e u' ⟨h1, hb⟩
  rw [hr] at h1
  exact ⟨h1, hb⟩

theorem bz_take {u : World} {A : Option Addr} {cap : Nat} {l : List UInt8} (h : Bz u A cap l) (m : Nat) : Bz u A cap (l.take m) := by
  have hl : (l.take m).length ≤ l.length := by simp; omega
  refine ⟨?_, Nat.le_trans hl h.2.1, h.2.2⟩
  rcases h.1 with rfl | ⟨b, o, rfl, hc⟩
  · exact .inl (by simp)
  · exact .inr ⟨b, o, rfl, fun i hi => by
      have hi' : i < l.length := by omega
      rw [hc i hi']; simp⟩
end Go.Proofs.Ytiofpimchbhfcab
