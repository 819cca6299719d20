/- A Keyed: Del; states put; Put. -/
import Derived.Test.YtiofpimchbhfcabQb
import Derived.Test.YtiofpimchbhfcabFt
namespace Go.Proofs.Ytiofpimchbhfcab
open Go.RowKit
set_option linter.unusedVariables false

/-- Block M lies as it lay. -/
structure KM (w : World) (M : Nat) (w' : World) : Prop where
  lt : M < w.heap.size
  size : w.heap.size ≤ w'.heap.size
  same : w'.heap[M]? = w.heap[M]?
theorem KM.refl {w : World} {M : Nat} (h : M < w.heap.size) : KM w M w := ⟨h, Nat.le_refl _, rfl⟩
theorem KM.alloc {w w' : World} {M : Nat} (h : KM w M w') (o : Obj) : KM w M (w'.alloc o) := ⟨h.lt, by have := h.size; simp; omega, (Below.heap_alloc _ _ _ (by have := h.size; have := h.lt; omega)).trans h.same⟩
theorem KM.drew {w w' : World} {M : Nat} (h : KM w M w') : KM w M w'.drew := ⟨h.lt, h.size, h.same⟩
theorem KM.set {w w' : World} {M : Nat} (h : KM w M w') (p : Addr) (hp : w.heap.size ≤ p.block) (v : Value) : KM w M (w'.setCell p v) := ⟨h.lt, by have := h.size; simpa using this, (Below.heap_setCell _ _ _ _ (by have := h.lt; omega)).trans h.same⟩
theorem KM.below {w w' u : World} {M : Nat} (h : KM w M w') (b : Below w'.heap.size w' u) : KM w M u := ⟨h.lt, Nat.le_trans h.size b.size, (b.block M (Nat.lt_of_lt_of_le h.lt h.size)).trans h.same⟩

theorem del_none {w : World} {R M : Nat} {L : List Hd} (h : KyAt w R M L) (n : Int) (k : ByteArray) (hk : OkK n k) (hf : findH L n k = none) :
    Calls Try.prog 17 #[.pointer (some ⟨R, 0, none⟩), .int .i64 n, .string k] w fun e w' => e = .returned (errV 6) ∧ Below w.heap.size w w' := by
  have c0 := h.c0
  have hlt := h.lt
  have hM := h.ltM
  have hl : ∀ u, KM w M u → (Instr.lookup 50 (.map (some M)) (.agg #[.int .i64 n, .string k]) true).run Try.prog u = .ok (.tuple #[.agg #[.int .i64 0, .string ⟨#[]⟩, .int .i64 0, .int .i64 0], .bool false]) u := fun u hu => by
    have := h.mp.look hk u hu.same
    rw [hf] at this
    exact this
  clear h hf
  go_enter Try.func17, Try.ntmps17
  go_wp2
  have e0 : (w.alloc (.cells #[.int .i64 n, .string k] 57)).cell? ⟨R, 0, none⟩ = some (.map (some M)) := by
    rw [World.cell?_of_block (w := w) (Below.heap_alloc _ _ _ hlt)]; exact c0
  have hKM : KM w M (w.alloc (.cells #[.int .i64 n, .string k] 57)) := (KM.refl hM).alloc _
  go_region_held3 (fun u => KM w M u ∧ u.cell? ⟨R, 0, none⟩ = some (.map (some M)) ∧ u.cell? ⟨w.heap.size, 0, none⟩ = some (.int .i64 n) ∧ u.cell? ⟨w.heap.size, 1, none⟩ = some (.string k)) (first | (refine ⟨?_, ?_, ?_, ?_⟩ <;> (first | exact hKM.drew | ((repeat (first | with_reducible apply KM.drew | with_reducible apply KM.alloc | with_reducible refine KM.set ?_ _ (by simp) _)); exact KM.refl hM) | go_keep))) (fail)
  all_goals go_wp2
  all_goals go_ret
  all_goals exact ⟨rfl, (by repeat (first | with_reducible refine Below.drew ?_ | with_reducible refine Below.setCell ?_ (by simp) _ | with_reducible refine Below.alloc ?_ (by simp) _ | with_reducible exact Below.refl _ _))⟩

set_option maxHeartbeats 1000000 in
theorem del_some {w : World} {R M : Nat} {L : List Hd} (h : KyAt w R M L) (n : Int) (k : ByteArray) (hk : OkK n k) (x : Hd) (hf : findH L n k = some x) :
    Calls Try.prog 17 #[.pointer (some ⟨R, 0, none⟩), .int .i64 n, .string k] w fun e w' => e = .returned (errV 0) ∧ KyAt w' R M (delP L n k) ∧ Fr [M] w w' := by
  have c0 := h.c0
  have hlt := h.lt
  have hM := h.ltM
  have hl : ∀ u, KM w M u → (Instr.lookup 50 (.map (some M)) (.agg #[.int .i64 n, .string k]) true).run Try.prog u = .ok (.tuple #[.agg #[.int .i64 x.nd, .string x.key, .int .i64 x.a, .int .i64 x.b], .bool true]) u := fun u hu => by
    have := h.mp.look hk u hu.same
    rw [hf] at this
    exact this
  have hdr : ∀ u, Below w.heap.size w u → ∃ u', (∀ ty, (Builtin.delete_ #[50, 57] ty #[.map (some M), .agg #[.int .i64 n, .string k]]).run Try.prog u = .ok (.tuple #[]) u') ∧ KyAt u' R M (delP L n k) ∧ Fr [M] w u' := fun u hu => by
    have hk1 := h.keep hu
    obtain ⟨u', e1, e2, e3⟩ := hk1.mp.drop hk 0
    refine ⟨u', fun ty => ?_, hk1.turn e3 e2, (Fr.below hu).trans e3⟩
    exact e1
  have HD := Lib.hid hdr
  clear h hf hdr
  obtain ⟨x0, x1, x2, x3⟩ := x
  simp only at hl
  go_enter Try.func17, Try.ntmps17
  go_wp2
  have e0 : (w.alloc (.cells #[.int .i64 n, .string k] 57)).cell? ⟨R, 0, none⟩ = some (.map (some M)) := by
    rw [World.cell?_of_block (w := w) (Below.heap_alloc _ _ _ hlt)]; exact c0
  have hKM : KM w M (w.alloc (.cells #[.int .i64 n, .string k] 57)) := (KM.refl hM).alloc _
  go_region_held3 (fun u => KM w M u ∧ u.cell? ⟨R, 0, none⟩ = some (.map (some M)) ∧ u.cell? ⟨w.heap.size, 0, none⟩ = some (.int .i64 n) ∧ u.cell? ⟨w.heap.size, 1, none⟩ = some (.string k)) (first | (refine ⟨?_, ?_, ?_, ?_⟩ <;> (first | exact hKM.drew | ((repeat (first | with_reducible apply KM.drew | with_reducible apply KM.alloc | with_reducible refine KM.set ?_ _ (by simp) _)); exact KM.refl hM) | go_keep))) (fail)
  all_goals go_wp2
  all_goals
    obtain ⟨-, s1, s2, s3⟩ := ‹KM w M _ ∧ _›
    obtain ⟨u', hrun, hk', f'⟩ := HD.out (((w.alloc (.cells #[.int .i64 n, .string k] 57)).alloc (.cells #[.int .i64 x0, .string x1, .int .i64 x2, .int .i64 x3] 29)).drew.drew) (by repeat (first | with_reducible refine Below.drew ?_ | with_reducible refine Below.alloc ?_ (by simp) _ | with_reducible exact Below.refl _ _))
    have HK := Lib.hid hk'
    have HF := Lib.hid f'
    clear HD hl hk' f'
    go_region
  all_goals go_wp2
  all_goals go_ret
  all_goals exact ⟨rfl, HK.out, HF.out⟩
set_option maxRecDepth 100000 in
set_option maxHeartbeats 1000000 in
theorem put1_any (w : World) (M : Nat) (L : List Hd) (h : MpAt w M L) (la : Option Addr) (c : Nat) (xs : List Hd) (hxs : CsAt w la (hcells xs)) (hok : ∀ r ∈ xs, OkK r.nd r.key) (hlen : L.length + xs.length < 9223372036854775807) :
    Calls Try.prog 21 #[.map (some M), .slice la xs.length c] w fun e w' => e = .returned (.tuple #[]) ∧ MpAt w' M (putAll L xs) ∧ Fr [M] w w' := by
  have hkeep : ∀ u, Fr [M] w u → CsAt u la (hcells xs) := fun u f => by
    obtain ⟨es, cl, hm⟩ := h.map
    rcases hxs with hx | ⟨b, o, rfl, hc⟩
    · exact .inl hx
    · refine .inr ⟨b, o, rfl, fun j v hv => ?_⟩
      have h1 := hc j v hv
      rw [f.cell (p := ⟨b, o + j, none⟩) (cell_lt h1) (by
        simp only [List.mem_singleton]
        rintro rfl
        simp [World.cell?, hm] at h1)]
      exact h1
  have HK := Lib.hid hkeep
  have hris := h.ris
  have hll : ∀ k, k ≤ xs.length → (putAll L (xs.take k)).length < maxLen := fun k hk => by
    have := putAll_len hris (xs.take k)
    rw [List.length_take] at this
    unfold maxLen
    omega
  have HL := Lib.hid hll
  clear hxs hkeep hll
  go_enter Try.func21, Try.ntmps21
  go_wp2_with fail
  go_loopw [8] (fun i wr => ∃ k : Nat, k ≤ xs.length ∧ i = .int .i64 k ∧ MpAt wr M (putAll L (xs.take k)) ∧ Fr [M] w wr) (fun i _ => xs.length - (intOf i).toNat)
  case atStart => exact ⟨0, by omega, rfl, by simpa [putAll] using h, Fr.refl _ _⟩
  case round =>
    obtain ⟨k, hk, rfl, hm, f⟩ := hrel
    by_cases hlt : k < xs.length
    · obtain ⟨b, o, rfl, c0, c1, c2, c3⟩ := hds_at (HK.out wr f) k hlt
      have hr := hok _ (List.getElem_mem hlt)
      have hsn := putAll_take L xs k hlt
      have hl1 := HL.out k hk
      generalize xs[k] = r at *
      generalize hE : putAll L (xs.take (k + 1)) = L2 at *
      have HE := Lib.hid hE
      clear hE
      generalize putAll L (xs.take k) = L1 at *
      have HP := fun u => place_any r u
      have HS : ∀ u, Below wr.heap.size wr u → ∃ u', (Instr.mapUpdate 50 (.map (some M)) (plV r.nd r.key) (hdV r)).run Try.prog u = .ok () u' ∧ MpAt u' M L2 ∧ Fr [M] wr u' := fun u hu => by
        obtain ⟨u', e1, e2, e3⟩ := (hm.block (hu.block M hm.lt)).store hr hl1
        exact ⟨u', e1, hsn ▸ e2, (Fr.below hu).trans e3⟩
      have HS2 := Lib.hid HS
      clear HS hsn hl1 hm hr
      obtain ⟨nd, key, a, bv⟩ := r
      simp only [hdV, plV] at c0 c1 c2 c3 HP HS2
      have hC : ∀ u, Below (wr.alloc (.cells #[.int .i64 nd, .string key, .int .i64 a, .int .i64 bv] 29)).heap.size (wr.alloc (.cells #[.int .i64 nd, .string key, .int .i64 a, .int .i64 bv] 29)) u → u.cell? ⟨wr.heap.size, 0, none⟩ = some (.int .i64 nd) ∧ u.cell? ⟨wr.heap.size, 1, none⟩ = some (.string key) ∧ u.cell? ⟨wr.heap.size, 2, none⟩ = some (.int .i64 a) ∧ u.cell? ⟨wr.heap.size, 3, none⟩ = some (.int .i64 bv) := fun u hu => by
        have hz : wr.heap.size < (wr.alloc (.cells #[.int .i64 nd, .string key, .int .i64 a, .int .i64 bv] 29)).heap.size := by simp
        exact ⟨by rw [hu.cell (p := ⟨wr.heap.size, 0, none⟩) hz]; simp, by rw [hu.cell (p := ⟨wr.heap.size, 1, none⟩) hz]; simp, by rw [hu.cell (p := ⟨wr.heap.size, 2, none⟩) hz]; simp, by rw [hu.cell (p := ⟨wr.heap.size, 3, none⟩) hz]; simp⟩
      have HC := Lib.hid hC
      have HP1 := HP (wr.alloc (.cells #[.int .i64 nd, .string key, .int .i64 a, .int .i64 bv] 29)).drew
      have hB : Below wr.heap.size wr (wr.alloc (.cells #[.int .i64 nd, .string key, .int .i64 a, .int .i64 bv] 29)) := (Below.refl _ _).alloc (Nat.le_refl _) _
      clear hC HP
      go_wp2_with fail
      go_region_with (go_at_call 19; refine HP1.mono ?_; rintro e u1 ⟨rfl, b1⟩; have b2 : Below (wr.alloc (.cells #[.int .i64 nd, .string key, .int .i64 a, .int .i64 bv] 29)).heap.size (wr.alloc (.cells #[.int .i64 nd, .string key, .int .i64 a, .int .i64 bv] 29)) u1 := ⟨b1.os, b1.tape, b1.output, b1.size, b1.block⟩; obtain ⟨k0, k1, k2, k3⟩ := HC.out u1 b2; obtain ⟨u2, hrun, hm2, f2⟩ := HS2.out u1 (hB.trans (b2.mono hB.size)))
      all_goals
        go_wp2_with fail
        go_roundw
        case rel => exact ⟨k + 1, by omega, by go_num, HE.out ▸ hm2, f.trans f2⟩
        case measure => simp [intOf]; omega
    · have e : xs.take k = xs := List.take_of_length_le (by omega)
      rw [e] at hm
      go_wp2_with fail
      go_end0
      exact ⟨rfl, hm, f⟩
end Go.Proofs.Ytiofpimchbhfcab
