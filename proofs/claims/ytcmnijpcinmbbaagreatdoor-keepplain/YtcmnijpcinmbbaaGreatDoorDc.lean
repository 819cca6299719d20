/- What is kept of a name, and what puts it there again. -/
import Derived.Test.YtcmnijpcinmbbaaGreatDoorDb
import Derived.BigRegion
namespace Go.Proofs.YtcmnijpcinmbbaaGreatDoor
open Go.RowKit
open Go.Maps (string_keyed)

theorem key_of (k : ByteArray) (h : k.size ≤ maxLen) : keyOf Tryz.prog 9 (.string k) = some (kl k) := WideMaps.keyOf_string_mk Tryz.underlying9 h
theorem hK : Maps.Keyed Tryz.prog 9 := string_keyed (P := Tryz.prog) (k := 9) Tryz.underlying9
/-- Block M lies as it lay. -/
structure KM (w : World) (M : Nat) (w' : World) : Prop where
  lt : M < w.heap.size
  size : w.heap.size ≤ w'.heap.size
  same : w'.heap[M]? = w.heap[M]?
theorem KM.refl {w : World} {M : Nat} (h : M < w.heap.size) : KM w M w := ⟨h, Nat.le_refl _, rfl⟩
theorem KM.alloc {w w' : World} {M : Nat} (h : KM w M w') (o : Obj) : KM w M (w'.alloc o) := ⟨h.lt, by have := h.size; simp; omega, (Below.heap_alloc _ _ _ (by have := h.size; have := h.lt; omega)).trans h.same⟩
theorem KM.drew {w w' : World} {M : Nat} (h : KM w M w') : KM w M w'.drew := ⟨h.lt, h.size, h.same⟩
theorem KM.set {w w' : World} {M : Nat} (h : KM w M w') (p : Addr) (hp : w.heap.size ≤ p.block) (v : Value) : KM w M (w'.setCell p v) := ⟨h.lt, by have := h.size; simpa using this, (Below.heap_setCell _ _ _ _ (by have := h.lt; omega)).trans h.same⟩
section
variable {lo : Nat} {w : World} {B M : Nat} {uv : Value} {σ : Fs} {U : List Bk} {s bd : Int} {n : Nat}
/-- A look-up, wherever the map's block lies as it lay. -/
theorem DkAt.look (h : DkAt lo w B M uv σ U s bd n) (k : ByteArray) (hk : k.size ≤ maxLen) : ∃ p c, BsV w (Oth B M uv) (.slice p ((σ k).getD []).length c) ((σ k).getD []) ∧
    ∀ w' : World, KM w M w' → (Instr.lookup 43 (.map (some M)) (.string k) true).run Tryz.prog w' = .ok (.tuple #[.slice p ((σ k).getD []).length c, .bool (σ k).isSome]) w' := by
  obtain ⟨D, hD, hm⟩ := h.mp
  obtain ⟨h1, v, h2, h3⟩ := hm k
  have h3' := h3
  obtain ⟨_, p, c, rfl, _⟩ := h3
  refine ⟨p, c, h3', fun w' hw => ?_⟩
  have hD' : w'.ownsMap Tryz.prog 9 vR M n D := by
    obtain ⟨es, cl, e1, e2⟩ := hD
    exact ⟨es, cl, hw.same.trans e1, e2⟩
  obtain ⟨v', ps, hrun, hv⟩ := hD'.look_ok (e := 23) (t := 43) hK Tryz.underlying43 (Tryz.zeroValue23 w') (zd := vz) (zp := []) rfl (key_of k hk)
  rw [h2] at hv
  rw [hrun, vR_inv hv, h1]

theorem DkAt.oth (h : DkAt lo w B M uv σ U s bd n) {b : Nat} (hb : w.heap.size ≤ b) : Oth B M uv b := by
  have h1 := h.lt
  have h2 := h.ltM
  obtain ⟨V, hV, _⟩ := h.row
  exact ⟨by omega, by omega, fun e => by have := (hV.lt b e).2; omega⟩
theorem BsV.below {w w' : World} {O : Nat → Prop} {v : Value} {bs : List UInt8} (h : BsV w O v bs) (hb : Below w.heap.size w w') : BsV w' O v bs := h.keep (fun b hlt _ => hb.block b hlt) (fun _ _ h => h)
theorem PtAt.below {w w' : World} {O : Nat → Prop} {B : Nat} {v : Value} {p : Pt} (h : PtAt w O B v p) (hb : Below w.heap.size w w') : PtAt w' O B v p := h.keep (fun b hlt _ => hb.block b hlt) (fun _ _ h => h)
theorem BkAt.below {w w' : World} {O : Nat → Prop} {B : Nat} {v : Value} {p : Bk} (h : BkAt w O B v p) (hb : Below w.heap.size w w') : BkAt w' O B v p := h.keep (fun b hlt _ => hb.block b hlt) (fun _ _ h => h)
set_option maxRecDepth 100000 in
set_option maxHeartbeats 2000000 in
theorem back_any (h : DkAt lo w B M uv σ U s bd n) (k : ByteArray) (hk : k.size ≤ maxLen) :
    Calls Tryz.prog 37 #[.pointer (some ⟨B, 0, none⟩), .string k] w fun e w' => ∃ v, e = .returned v ∧ PtAt w' (Oth B M uv) B v ⟨k, σ k⟩ ∧ Below w.heap.size w w' := by
  have h' := (h.keep ((Below.refl _ w).alloc (Nat.le_refl _) (.cells #[.pointer (some ⟨B, 0, none⟩)] 24)))
  obtain ⟨p, c, hv, hl⟩ := h.look k hk
  have hlt := h.lt
  have hltM := h.ltM
  have c0 := h.c0
  generalize hlen : ((σ k).getD []).length = len at *
  generalize hhd : (σ k).isSome = hd at *
  go_enter Tryz.func37, Tryz.ntmps37
  go_wp2
  have e0 : ((w.alloc (.cells #[.pointer (some ⟨B, 0, none⟩)] 24)).alloc (.cells #[.string k] 9)).cell? ⟨B, 0, none⟩ = some (.map (some M)) := by
    rw [World.cell?_of_block (w := w) ((Below.heap_alloc _ _ _ (by simp; omega)).trans (Below.heap_alloc _ _ _ hlt))]; exact c0
  have hKM : KM w M ((w.alloc (.cells #[.pointer (some ⟨B, 0, none⟩)] 24)).alloc (.cells #[.string k] 9)) := ((KM.refl hltM).alloc _).alloc _
  go_region_held3 (fun w' => KM w M w' ∧ w'.cell? ⟨B, 0, none⟩ = some (.map (some M)) ∧ w'.cell? ⟨w.heap.size, 0, none⟩ = some (.pointer (some ⟨B, 0, none⟩)) ∧ w'.cell? ⟨w.heap.size + 1, 0, none⟩ = some (.string k)) (first | (refine ⟨?_, ?_, ?_, ?_⟩ <;> (first | exact hKM.drew | ((repeat (first | with_reducible apply KM.drew | with_reducible apply KM.alloc | with_reducible refine KM.set ?_ _ (by simp) _)); exact KM.refl hltM) | go_keep))) (fail)
  all_goals go_wp2
  all_goals go_ret
  all_goals
    refine (fun (hb : Below w.heap.size w _) => ⟨_, rfl, ⟨_, _, _, _, _, rfl, ⟨h.oth ?_, h.oth ?_, h.oth ?_, h.oth ?_⟩, ?_, ?_, hv.below hb, ?_, ?_⟩, hb⟩) ?_
    all_goals first
      | (with_reducible refine Below.drew ?_; repeat (first | with_reducible refine Below.setCell ?_ (by simp; omega) _ | with_reducible refine Below.alloc ?_ (by simp; omega) _ | with_reducible exact Below.refl _ _))
      | omega
      | (simp [hhd, go_sem]; done)
  all_goals (repeat (first | with_reducible refine Below.alloc ?_ (by simp) _ | with_reducible exact Below.refl _ _))
end
end Go.Proofs.YtcmnijpcinmbbaaGreatDoor
