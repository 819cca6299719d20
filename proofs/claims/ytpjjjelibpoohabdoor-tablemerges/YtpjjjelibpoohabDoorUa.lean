/- Those that are not dead; rows of entries that came in. -/
import Derived.Test.YtpjjjelibpoohabDoorTz
import Derived.Test.YtpjjjelibpoohabDoorTf
namespace Go.Proofs.YtpjjjelibpoohabDoor
open Go.ChangeShapes Go.WideShapes Go.RowKit Go.Deep

set_option maxRecDepth 100000 in
set_option maxHeartbeats 2000000 in
theorem slive_any (w : World) (la : Option Addr) (c : Nat) (xs : List En) (h : CsAt w la (ecells xs)) (hx4 : xs.length ≤ 100000) :
    Calls Tryd.prog 15 #[.slice la xs.length c] w fun e w' => ∃ v, e = .returned v ∧ w'.ownsRow w.heap.size 34 3 v (xs.filter (fun e : En => !e.dead)).length (ecells (xs.filter (fun e : En => !e.dead))) ∧ Below w.heap.size w w' := by
  obtain ⟨i0, hi, hz0, hz1, hz2⟩ := info_parts infoEn
  obtain ⟨B, hB⟩ : ∃ B, B = w.heap.size := ⟨_, rfl⟩
  have hkeep : ∀ w', Below B w w' → CsAt w' la (ecells xs) := fun w' hb => h.keep (by rw [← hB]; exact hb)
  have hBw : B ≤ w.heap.size := by omega
  rw [← hB]
  clear h hB
  go_enter Tryd.func15, Tryd.ntmps15
  go_wp2_with fail
  go_loopw [3, 4] (fun v i wr => ∃ k : Nat, k ≤ xs.length ∧ i = .int .i64 k ∧ wr.ownsRow B 34 3 v ((xs.take k).filter (fun e : En => !e.dead)).length (ecells ((xs.take k).filter (fun e : En => !e.dead))) ∧ Below B w wr) (fun _ i _ => xs.length - (intOf i).toNat)
  case atStart => exact ⟨0, by omega, rfl, World.ownsRow_nil _ _ _ _, Below.refl _ _⟩
  case round =>
    obtain ⟨k, hk, rfl, hown, hb⟩ := hrel
    have hbz := hb.size
    by_cases hlt : k < xs.length
    · obtain ⟨b, o, rfl, c0, c1, c2⟩ := ens_at (hkeep _ hb) k hlt
      have hsn := filt_snoc (fun e : En => !e.dead) xs k hlt
      have hfl := filt_le (fun e : En => !e.dead) xs k
      generalize (xs.take k).filter (fun e : En => !e.dead) = ys at *
      generalize xs[k] = r at *
      obtain ⟨key, val, dead⟩ := r
      simp only at c0 c1 c2
      have hBr : B ≤ wr.heap.size := by omega
      cases dead with
      | true =>
        simp only [Bool.not_true, Bool.false_eq_true, if_false, List.append_nil] at hsn
        have HSN := Lib.hid hsn
        clear hsn
        go_wp2_with fail
        go_roundw
        case rel => exact ⟨k + 1, by omega, by go_num, by rw [HSN.out]; exact hown, hb⟩
        case measure => simp [intOf]; omega
      | false =>
        simp only [Bool.not_false, if_true] at hsn
        have HSN := Lib.hid hsn
        clear hsn
        go_wp2_with (at_builtin; refine wpList_append_own _ rfl _ _ 22 rfl B 34 i0 (.agg #[.string ⟨#[]⟩, .string ⟨#[]⟩, .bool false]) 3 40 Tryd.underlying22 hi hz0 hz1 hz2 rfl (by decide) _ _ _ rfl (hown.alloc _) ⟨_, 0, none⟩ 1 1 [.string key, .string val, .bool false] rfl rfl (cell3_new _ _ _ _ _) (by intro u hu; simp at hu; rcases hu with rfl | rfl | rfl <;> rfl) (by unfold maxLen; omega) (by omega) (by simp; omega) ?_)
        intro v' w3 hown' hgrow _
        have own3 : w3.ownsRow B 34 3 v' (ys ++ [(⟨key, val, false⟩ : En)]).length (ecells (ys ++ [(⟨key, val, false⟩ : En)])) := by rw [ecells_append, List.length_append]; exact hown'
        have b3 : Below B w w3 := (hb.alloc hBr _).grown hgrow (by simp; omega) (fun j hj => by have := (hown.lt j hj).1; omega)
        clear hown' hgrow
        go_wp2_with fail
        go_roundw
        case rel => exact ⟨k + 1, by omega, by go_num, by rw [HSN.out]; exact own3, b3⟩
        case measure => simp [intOf]; omega
    · have e : xs.take k = xs := List.take_of_length_le (by omega)
      rw [e] at hown
      go_wp2_with fail
      go_ret
      exact ⟨_, rfl, hown, hb⟩


set_option maxRecDepth 100000 in
theorem open_ens1 {H : Type} {enc : TypeId × Value → H} {W : World} {fuel : Nat} {v : Value} {x : DataW H × List MemPlace} (hf : DataW.trod enc Tryd.prog W 0 (fun _ => true) true fuel 22 [v] = some x) :
    ∃ (L : List En) (q : Option Addr) (c : Nat), v = .slice q L.length c ∧ CsAt W q (ecells L) ∧ (∀ r ∈ L, OkEn r) ∧ L.length ≤ 9223372036854775807 := by
  have hml : maxLen = 9223372036854775807 := rfl
  rcases open_slice Tryd.underlying22 hf with ⟨h0, -⟩ | ⟨a, len', cap', m, n, D, Pl, h0, hb, hl, hm, hmm, -, hx⟩
  · simp at h0
    exact ⟨[], none, 0, h0, .inl rfl, by simp, by simp⟩
  · simp at h0
    obtain ⟨len, hlen0⟩ : ∃ len, len = len' := ⟨_, rfl⟩
    rw [← hlen0] at h0 hl hmm
    clear hlen0
    subst h0
    have hlm : len ≤ m := by rw [hmm]; split <;> omega
    obtain ⟨b, o, spot⟩ := a
    by_cases h00 : len = 0
    · subst h00
      exact ⟨[], some ⟨b, o, spot⟩, cap', rfl, .inl rfl, by simp, by simp⟩
    have hspot : spot = none := by
      obtain ⟨cs', h1, h2⟩ := hx 0 (by omega)
      rw [cellsEn] at h1
      obtain ⟨_, hlen, hcell⟩ := World.cells?_some h1
      have hc := hcell 0 (by omega)
      rw [List.getElem?_eq_getElem (by omega)] at hc
      simpa [Addr.add] using World.cell?_spot hc
    subst hspot
    haveI : Inhabited En := ⟨⟨⟨#[]⟩, ⟨#[]⟩, false⟩⟩
    obtain ⟨f, hf⟩ := choose_lt (α := En) (n := len) (p := fun i r => (W.cell? ⟨b, o + i * 3, none⟩ = some (.string r.key) ∧ W.cell? ⟨b, o + i * 3 + 1, none⟩ = some (.string r.val) ∧ W.cell? ⟨b, o + i * 3 + 2, none⟩ = some (.bool r.dead)) ∧ OkEn r) (fun i hi => by
      obtain ⟨cs', h1, h2⟩ := hx i (by omega)
      rw [cellsEn] at h1
      obtain ⟨_, hlen, hcell⟩ := World.cells?_some h1
      obtain ⟨xs, k, -, -, -, hxl, hfs⟩ := DataW.trod_struct Tryd.underlying34 h2
      match cs', hlen with
      | [v0, v1, v2], _ =>
        have f0 : DataW.trod enc Tryd.prog W 0 (fun _ => true) true k 9 (([v0, v1, v2].drop 0).take (Tryd.prog.cellsOf 9)) = xs[0]? := hfs 0 _ rfl
        have f1 : DataW.trod enc Tryd.prog W 0 (fun _ => true) true k 9 (([v0, v1, v2].drop 1).take (Tryd.prog.cellsOf 9)) = xs[1]? := hfs 1 _ rfl
        have f2 : DataW.trod enc Tryd.prog W 0 (fun _ => true) true k 4 (([v0, v1, v2].drop 2).take (Tryd.prog.cellsOf 4)) = xs[2]? := hfs 2 _ rfl
        simp only [cellsB, cellsS, List.drop, List.take] at f0 f1 f2
        have hxl3 : xs.length = 3 := hxl
        rw [List.getElem?_eq_getElem (by omega)] at f0 f1 f2
        obtain ⟨x0, e0, -, w0⟩ := DataW.trod_string Tryd.underlying9 f0
        obtain ⟨x1, e1, -, w1⟩ := DataW.trod_string Tryd.underlying9 f1
        obtain ⟨x2, e2, -⟩ := DataW.trod_bool Tryd.underlying4 f2
        simp only [List.cons.injEq, and_true] at e0 e1 e2
        subst e0 e1 e2
        have c0 := hcell 0 (by omega)
        have c1 := hcell 1 (by omega)
        have c2 := hcell 2 (by omega)
        simp only [add_at] at c0 c1 c2
        exact ⟨⟨x0, x1, x2⟩, ⟨by simpa using c0, by simpa using c1, by simpa using c2⟩, key_ok w0, key_ok w1⟩)
    refine ⟨(List.range len).map f, some ⟨b, o, none⟩, cap', by simp, ?_, fun r hr => ?_, by simp; omega⟩
    · refine ens_of (fun i hi => ?_)
      have hi' : i < len := by simpa using hi
      simpa using (hf i hi').1
    · obtain ⟨i, hi, rfl⟩ := List.mem_map.1 hr
      exact (hf i (by simpa using hi)).2


/-- Rows of entries, as they came in. -/
def EsAt (w : World) (p : Option Addr) (S : List (List En)) : Prop := S = [] ∨ ∃ b o, p = some ⟨b, o, none⟩ ∧ ∀ i (h : i < S.length), ∃ q c, w.cell? ⟨b, o + i, none⟩ = some (.slice q S[i].length c) ∧ CsAt w q (ecells S[i])
theorem EsAt.keep {w w' : World} {p : Option Addr} {S : List (List En)} (h : EsAt w p S) (hb : Below w.heap.size w w') : EsAt w' p S := by
  rcases h with h | ⟨b, o, e, h⟩
  · exact .inl h
  · refine .inr ⟨b, o, e, fun i hi => ?_⟩
    obtain ⟨q, c, h1, h2⟩ := h i hi
    exact ⟨q, c, by rw [hb.cell (cell_lt h1)]; exact h1, h2.keep hb⟩
set_option maxRecDepth 100000 in
theorem open_ess {H : Type} {enc : TypeId × Value → H} {W : World} {a0 : Option Addr} {len cap : Nat} {d0 : DataW H} {p : List MemPlace} (h0 : DataW.Trod enc Tryd.prog W 0 (fun _ => true) true 40 (.slice a0 len cap) d0 p) :
    ∃ S : List (List En), len = S.length ∧ EsAt W a0 S ∧ S.length ≤ 9223372036854775807 ∧ ∀ l ∈ S, (∀ r ∈ l, OkEn r) ∧ l.length ≤ 9223372036854775807 := by
  obtain ⟨fuel, hf⟩ := h0
  have hml : maxLen = 9223372036854775807 := rfl
  rcases open_slice1 Tryd.underlying40 (by kernel_rfl) hf with ⟨h0, -⟩ | ⟨a, len', cap', m, n, V, D, Pl, h0, hb, hl, hm, hmm, hx0, hx⟩
  · simp [Value.cells] at h0
    exact ⟨[], h0.2.1, .inl rfl, by simp, by simp⟩
  · simp [Value.cells] at h0
    obtain ⟨rfl, rfl, rfl⟩ := h0
    simp only [if_true] at hmm
    obtain ⟨f, hf⟩ := choose_lt (α := List En) (n := len) (p := fun i l => ∃ q c, W.cell? (a.add i) = some (.slice q l.length c) ∧ CsAt W q (ecells l) ∧ (∀ r ∈ l, OkEn r) ∧ l.length ≤ 9223372036854775807) (fun i hi => by
      obtain ⟨h1, h2⟩ := hx i (by omega)
      obtain ⟨l, q, c, hz, hok, hd⟩ := open_ens1 h2
      exact ⟨l, q, c, by rw [h1, hz], hok, hd⟩)
    refine ⟨(List.range len).map f, by simp, ?_, by simp; omega, fun x hx => ?_⟩
    · by_cases h00 : len = 0
      · left; simp [h00]
      · right
        obtain ⟨b, o, spot⟩ := a
        have hspot : spot = none := by
          obtain ⟨q, c, h1, -⟩ := hf 0 (by omega)
          simpa [Addr.add] using World.cell?_spot h1
        subst hspot
        refine ⟨b, o, rfl, fun j hj => ?_⟩
        have hj' : j < len := by simpa using hj
        obtain ⟨q, c, h1, h2, -⟩ := hf j hj'
        rw [add_at] at h1
        exact ⟨q, c, by simpa using h1, by simpa using h2⟩
    · obtain ⟨i, hi, rfl⟩ := List.mem_map.1 hx
      obtain ⟨q, c, -, -, h3⟩ := hf i (by simpa using hi)
      exact h3
end Go.Proofs.YtpjjjelibpoohabDoor
