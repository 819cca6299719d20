/- Rows of texts; lists of lists that came in; how many there are; Grow, Concat. -/
import Derived.Test.YtfkeokeedljomaaDoorSj
import Derived.Test.YtfkeokeedljomaaDoorPureSr
import Derived.Test.YtfkeokeedljomaaDoorPureRw
import Derived.Lib.AppendZerosOnto
namespace Go.Proofs.YtfkeokeedljomaaDoor
open Go.RowKit
set_option linter.unusedVariables false

def tcells (l : List ByteArray) : List Value := l.map fun s => .string s
theorem tcells_len (l : List ByteArray) : (tcells l).length = l.length := by simp [tcells]
theorem tcells_at (l : List ByteArray) (k : Nat) (h : k < l.length) : (tcells l)[k]? = some (.string l[k]) := by simp [tcells, h]
theorem tcells_one (l : List ByteArray) : ∀ u ∈ tcells l, u.oneCell' = true := by
  intro u hu
  obtain ⟨s, -, rfl⟩ := List.mem_map.1 hu
  rfl
theorem tcells_append (a b : List ByteArray) : tcells (a ++ b) = tcells a ++ tcells b := by simp [tcells]
/-- A row of texts that a thing owns. -/
abbrev TxR (w : World) (v : Value) (l : List ByteArray) : Prop := RwAt w 9 1 v l.length (tcells l)
theorem tx_at {w : World} {la : Option Addr} {l : List ByteArray} (h : CsAt w la (tcells l)) (k : Nat) (hk : k < l.length) : ∃ b o, la = some ⟨b, o, none⟩ ∧ w.cell? ⟨b, o + k, none⟩ = some (.string l[k]) := by
  obtain ⟨b, o, rfl, hc⟩ := h.at (by intro e; have := tcells_len l; rw [e] at this; simp at this; omega)
  exact ⟨b, o, rfl, hc k _ (tcells_at l k hk)⟩
theorem infoS : (Tryd.prog.info? 9).map (fun i => (i.zero, i.size, i.bytes)) = some (some (.string ⟨#[]⟩), 1, 16) := by kernel_rfl
theorem src_of {u : World} {A : Option Addr} {c : Nat} {l : List ByteArray} (h : CsAt u A (tcells l)) : Src Tryd.prog 1 22 (.slice A l.length c) l.length (tcells l) u := by
  cases A with
  | none =>
    have : l = [] := by
      rcases h with h | ⟨b, o, h, -⟩
      · exact List.eq_nil_of_length_eq_zero (by rw [← tcells_len, h]; rfl)
      · cases h
    subst this
    exact Src.ofNil u Tryd.underlying22 c
  | some a =>
    refine Src.ofSlice u Tryd.underlying22 a l.length c (tcells l) (by rw [tcells_len, Nat.mul_one]) (fun j x hj => ?_) (tcells_one l)
    rcases h with h | ⟨b, o, h, hc⟩
    · rw [h] at hj; simp at hj
    · injection h with h
      subst h
      rw [add_off]; exact hc j x hj
theorem TxR.cs {w : World} {A : Option Addr} {c : Nat} {l : List ByteArray} (h : TxR w (.slice A l.length c) l) : CsAt w A (tcells l) := h.cells
theorem tx_app {u : World} {v x : Value} {l m : List ByteArray} (h : TxR u v l) (hs : Src Tryd.prog 1 22 x m.length (tcells m) u) (hl : l.length + m.length ≤ 1000000000) :
    ∃ A c w1, (Builtin.append_ #[22, 22] 22 #[v, x]).run Tryd.prog u = .ok (.slice A (l.length + m.length) c) w1 ∧ TxR w1 (.slice A (l ++ m).length c) (l ++ m) ∧ u.grownBy w1 v.ownBlock ∧ (∀ b, Value.ownBlock (.slice A (l ++ m).length c) = some b → v.ownBlock = some b ∨ u.heap.size ≤ b) := by
  obtain ⟨i0, hi, hz0, hz1, hz2⟩ := info_parts infoS
  obtain ⟨A, c, w1, hrun, hown, hgr, hat⟩ := rw_append h 22 22 22 i0 _ 16 Tryd.underlying22 hi hz0 hz1 hz2 rfl x m.length (tcells m) hs (by unfold maxLen; omega) (by omega)
  have e : (l ++ m).length = l.length + m.length := by simp
  rw [← tcells_append, ← e] at hown
  refine ⟨A, c, w1, hrun, hown, hgr, ?_⟩
  rw [e]; exact hat

/-- A list of texts as it came in. -/
structure Tl where
  at_ : Option Addr
  cap : Nat
  l : List ByteArray
def tlV (X : Tl) : Value := .slice X.at_ X.l.length X.cap
def allT (L : List Tl) : List ByteArray := (L.map (·.l)).flatten
theorem allT_nil : allT [] = [] := rfl
theorem allT_take (L : List Tl) (k : Nat) (h : k < L.length) : allT (L.take (k + 1)) = allT (L.take k) ++ L[k].l := by
  unfold allT
  rw [List.take_succ_eq_append_getElem h, List.map_append, List.flatten_append]; simp
theorem allT_le (L : List Tl) (k : Nat) : (allT (L.take k)).length ≤ (allT L).length := by
  have : allT L = allT (L.take k) ++ allT (L.drop k) := by
    unfold allT
    rw [← List.flatten_append, ← List.map_append, List.take_append_drop]
  rw [this, List.length_append]; omega
theorem tl_at {w : World} {la : Option Addr} {L : List Tl} (h : CsAt w la (L.map tlV)) (k : Nat) (hk : k < L.length) : ∃ b o, la = some ⟨b, o, none⟩ ∧ w.cell? ⟨b, o + k, none⟩ = some (tlV L[k]) := by
  obtain ⟨b, o, rfl, hc⟩ := h.at (by intro e; have : (L.map tlV).length = L.length := by simp
                                     rw [e] at this; simp at this; omega)
  exact ⟨b, o, rfl, hc k _ (by simp [hk])⟩
/-- Lists that lie in memory, with all that they hold. -/
structure TlsAt (w : World) (la : Option Addr) (L : List Tl) : Prop where
  o : CsAt w la (L.map tlV)
  i : ∀ X ∈ L, CsAt w X.at_ (tcells X.l)
theorem TlsAt.keep {w w' : World} {la : Option Addr} {L : List Tl} (h : TlsAt w la L) (hb : Below w.heap.size w w') : TlsAt w' la L := ⟨h.o.keep hb, fun X hX => (h.i X hX).keep hb⟩

set_option maxHeartbeats 1000000 in
theorem inall_any (w : World) (la : Option Addr) (c n : Nat) (L : List Tl) (h : TlsAt w la L) (hn : n = L.length) (hl : n < 4611686018427387904) (ht : (allT L).length < 4611686018427387904) :
    Calls Tryd.prog 14 #[.slice la n c] w fun e w' => e = .returned (.int .i64 ((allT L).length : Nat)) ∧ w' = w := by
  have H := Lib.hid h
  have HN := Lib.hid hn
  clear h hn
  go_enter Tryd.func14, Tryd.ntmps14
  go_wp2_with fail
  go_loop [3, 8] (fun vs vi => ∃ k : Nat, vi = .int .i64 (k : Int) ∧ k ≤ n ∧ vs = .int .i64 ((allT (L.take k)).length : Nat)) (fun _ vi => n - (intOf vi).toNat)
  case atStart => exact ⟨0, rfl, by omega, rfl⟩
  case round =>
    obtain ⟨k, rfl, hk, rfl⟩ := hrel
    have hle := allT_le L k
    by_cases hlt : k < n
    · have hz : (k : Int) < (n : Int) := by omega
      obtain ⟨b, o, rfl, c0⟩ := tl_at H.out.o k (by have := HN.out; omega)
      have hs := allT_take L k (by have := HN.out; omega)
      have hle2 := allT_le L (k + 1)
      rw [hs, List.length_append] at hle2
      have HS : Hid ((allT (L.take (k + 1))).length = (allT (L.take k)).length + (L[k]'(by have := HN.out; omega)).l.length) := by show _ = _; rw [hs, List.length_append]
      clear hs
      simp only [tlV] at c0
      generalize (L[k]'(by have := HN.out; omega)).l.length = m at *
      generalize (allT (L.take k)).length = q at *
      have hb : (q : Int) + (m : Int) ≤ 4611686018427387904 := by omega
      go_wp2_with fail
      exact ⟨⟨k + 1, by go_num, by omega, by rw [HS.out]; go_num⟩, by simp [intOf]; omega⟩
    · have hz : ¬ (k : Int) < (n : Int) := by omega
      have ht : L.take k = L := List.take_of_length_le (by have := HN.out; omega)
      rw [ht]
      go_wp2_with fail
      go_ret
      exact ⟨rfl, rfl⟩
set_option maxHeartbeats 2000000 in
theorem grow0_any (w : World) : Calls Tryd.prog 21 #[.slice none 0 0, .int .i64 0] w fun e w' => e = .returned (.slice none 0 0) ∧ w' = w := by
  go_enter Tryd.func21, Tryd.ntmps21
  go_wp2
  go_ret
  exact ⟨rfl, rfl⟩
set_option maxHeartbeats 2000000 in
theorem grow_any (n : Nat) (h0 : 0 < n) (hn : n ≤ 1000000000) (w : World) : Calls Tryd.prog 21 #[.slice none 0 0, .int .i64 n] w fun e w' => ∃ v, e = .returned v ∧ TxR w' v [] ∧ (∀ b, v.ownBlock = some b → w.heap.size ≤ b) ∧ Below w.heap.size w w' := by
  obtain ⟨i0, hi, hz0, hz1, hz2⟩ := info_parts infoS
  have hrz : (Builtin.append_ #[22, 3] 22 #[.slice none 0 0, .int .i64 (n : Int)]).run Tryd.prog w = .ok (.slice (some ⟨w.heap.size, 0, none⟩) n (grownCap w n 0 9)) (w.drew.alloc (.cells (#[] ++ Builtin.zeroCells #[.string ⟨#[]⟩] n ++ Builtin.zeroCells #[.string ⟨#[]⟩] (grownCap w n 0 9 - n)) 9)) := by
    have h := Lib.run_append_grow_zeros w 22 3 22 9 i0 _ .i64 .i64 Tryd.underlying22 Tryd.underlying3 hi hz0 none 0 0 [] (run_firstCells_none w.drew i0.size 0 0 0) n h0 (by omega) (by omega) (by omega) (by rw [hz2]; omega)
      (by rw [Nat.zero_add]; exact growslice_fits h0 (by rw [hz2]; omega))
    rw [Nat.zero_add] at h
    simpa [Value.cells] using h
  have hge : n ≤ grownCap w n 0 9 := grownCap_ge w n 0 9
  have hcm : grownCap w n 0 9 ≤ maxLen := grownCap_le_maxLen w n 0 9 (by unfold maxLen; omega)
  generalize grownCap w n 0 9 = G at *
  have hTx : TxR (w.drew.alloc (.cells (#[] ++ Builtin.zeroCells #[.string ⟨#[]⟩] n ++ Builtin.zeroCells #[.string ⟨#[]⟩] (G - n)) 9)) (.slice (some ⟨w.heap.size, 0, none⟩) 0 G) [] := by
    refine ⟨by simp [tcells], .inr ⟨w.heap.size, 0, G, _, rfl, heap_alloc_new w.drew _, by simp, hcm, ?_, by simp [tcells]⟩⟩
    simp [size_zeroCells]; omega
  have hB : Below w.heap.size w (w.drew.alloc (.cells (#[] ++ Builtin.zeroCells #[.string ⟨#[]⟩] n ++ Builtin.zeroCells #[.string ⟨#[]⟩] (G - n)) 9)) := (Below.refl _ _).drew.alloc (Nat.le_refl _) _
  have hGz : (0 : Int) ≤ (G : Int) := by omega
  have hcm2 : G ≤ 9223372036854775807 := by unfold maxLen at hcm; omega
  generalize w.drew.alloc (.cells (#[] ++ Builtin.zeroCells #[.string ⟨#[]⟩] n ++ Builtin.zeroCells #[.string ⟨#[]⟩] (G - n)) 9) = W1 at hrz hTx hB
  have HE : Hid (TxR W1 (.slice (some ⟨w.heap.size, 0, none⟩) 0 G) [] ∧ (∀ b, Value.ownBlock (.slice (some ⟨w.heap.size, 0, none⟩) 0 G) = some b → w.heap.size ≤ b) ∧ Below w.heap.size w W1) := ⟨hTx, fun b hb => by simp [Value.ownBlock] at hb; omega, hB⟩
  clear hTx hB hi hz0 hz1 hz2 hcm
  have h1 : ¬ (n : Int) < 0 := by omega
  have h2 : (n : Int) > 0 := by omega
  have HR := Lib.hid hrz
  clear hrz
  go_enter Tryd.func21, Tryd.ntmps21
  go_wp2_with (at_builtin; refine Lib.wpList_append_run _ rfl _ _ _ _ rfl _ _ rfl rfl _ _ HR.out ?_)
  all_goals (go_ret; exact ⟨_, rfl, HE.out⟩)
end Go.Proofs.YtfkeokeedljomaaDoor
