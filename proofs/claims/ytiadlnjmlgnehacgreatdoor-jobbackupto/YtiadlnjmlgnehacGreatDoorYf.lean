/- A line read as a node: its blocks; numbers in a row of one's own. -/
import Derived.Test.YtiadlnjmlgnehacGreatDoorYd
import Derived.Laws.AppendOwn
import Derived.Maps.AppendAt
import Derived.Test.YtiadlnjmlgnehacGreatDoorPureYc
namespace Go.Proofs.YtiadlnjmlgnehacGreatDoor
open Go.RowKit
set_option linter.unusedVariables false
theorem cloneS_any (x : ByteArray) (w : World) (hx : x.size ≤ 281474976710656) : Calls Tryz.prog 56 #[.string x] w fun e w' => e = .returned (.string x) ∧ Below w.heap.size w w' := by
  have H := Tryz.stringslite_Clone x w hx
  go_enter Tryz.func56, Tryz.ntmps56
  go_wp2_with (go_at_call 83; refine H.mono ?_; rintro e w' ⟨rfl, hb⟩)
  go_ret
  exact ⟨rfl, hb⟩
/-- A node's own block. -/
def Nb (w : World) (g : Nat) (k : Int) (v : Value) (tx : ByteArray) (n : Int) : Prop := w.heap[g]? = some (.cells #[.int .i64 k, v, .string tx, .int .i64 n] 34 (0, 0))
theorem Nb.below {w w' : World} {B g : Nat} {k : Int} {v : Value} {tx : ByteArray} {n : Int} (h : Nb w g k v tx n) (hb : Below B w w') (hB : g < B) : Nb w' g k v tx n := by
  unfold Nb; rw [hb.block g hB]; exact h
theorem Nb.lt {w : World} {g : Nat} {k : Int} {v : Value} {tx : ByteArray} {n : Int} (h : Nb w g k v tx n) : g < w.heap.size := (Array.getElem?_eq_some_iff.1 h).1
theorem Nb.alloc {w : World} {g : Nat} {k : Int} {v : Value} {tx : ByteArray} {n : Int} (h : Nb w g k v tx n) (o : Obj) : Nb (w.alloc o) g k v tx n := h.below ((Below.refl _ _).alloc (Nat.le_refl _) o) h.lt
theorem Nb.drew {w : World} {g : Nat} {k : Int} {v : Value} {tx : ByteArray} {n : Int} (h : Nb w g k v tx n) (m : Nat) : Nb (w.drewN m) g k v tx n := h
theorem Nb.other {w : World} {g : Nat} {k : Int} {v : Value} {tx : ByteArray} {n : Int} (h : Nb w g k v tx n) {p : Addr} (u : Value) (hp : p.block ≠ g) : Nb (w.setCell p u) g k v tx n := by
  unfold Nb; rw [Below.heap_setCell _ _ _ _ hp.symm]; exact h
theorem Nb.cells {w : World} {g : Nat} {k : Int} {v : Value} {tx : ByteArray} {n : Int} (h : Nb w g k v tx n) : (w.cell? ⟨g, 0, none⟩ = some (.int .i64 k) ∧ w.cell? ⟨g, 1, none⟩ = some v ∧ w.cell? ⟨g, 2, none⟩ = some (.string tx) ∧ w.cell? ⟨g, 3, none⟩ = some (.int .i64 n)) ∧ (w.frozen? ⟨g, 0, none⟩ = false ∧ w.frozen? ⟨g, 1, none⟩ = false ∧ w.frozen? ⟨g, 2, none⟩ = false ∧ w.frozen? ⟨g, 3, none⟩ = false) := by
  unfold Nb at h
  simp [World.cell?, World.frozen?, h]
theorem Nb.put1 {w : World} {g : Nat} {k : Int} {v : Value} {tx : ByteArray} {n : Int} (h : Nb w g k v tx n) (u : Value) : Nb (w.setCell ⟨g, 1, none⟩ u) g k u tx n := by
  unfold Nb at *; simp [World.setCell, Array.getElem?_modify, h]
theorem Nb.put2 {w : World} {g : Nat} {k : Int} {v : Value} {tx : ByteArray} {n : Int} (h : Nb w g k v tx n) (u : ByteArray) : Nb (w.setCell ⟨g, 2, none⟩ (.string u)) g k v u n := by
  unfold Nb at *; simp [World.setCell, Array.getElem?_modify, h]
theorem Nb.put3 {w : World} {g : Nat} {k : Int} {v : Value} {tx : ByteArray} {n : Int} (h : Nb w g k v tx n) (u : Int) : Nb (w.setCell ⟨g, 3, none⟩ (.int .i64 u)) g k v tx u := by
  unfold Nb at *; simp [World.setCell, Array.getElem?_modify, h]
theorem Nb.put0 {w : World} {g : Nat} {k : Int} {v : Value} {tx : ByteArray} {n : Int} (h : Nb w g k v tx n) (u : Int) : Nb (w.setCell ⟨g, 0, none⟩ (.int .i64 u)) g u v tx n := by
  unfold Nb at *; simp [World.setCell, Array.getElem?_modify, h]
theorem Nb.new (w : World) : Nb (w.alloc (.cells #[.int .i64 0, .slice none 0 0, .string ⟨#[]⟩, .int .i64 0] 34)) w.heap.size 0 (.slice none 0 0) ⟨#[]⟩ 0 := Array.getElem?_push_size
theorem split_words (s : ByteArray) (w : World) (hs : s.size ≤ 100000000) {w0 : List UInt8} {ws : List (List UInt8)} (hsp : splitW s.data.toList = w0 :: ws) : Calls Tryz.prog 50 #[.string s, .string ⟨#[32]⟩] w fun e w' => ∃ c, e = .returned (.slice (some ⟨w.heap.size, 0, none⟩) (ws.length + 1) c) ∧ ws.length + 1 ≤ c ∧ w'.cell? ⟨w.heap.size, 0, none⟩ = some (.string ⟨w0.toArray⟩) ∧ (∀ j (h : j < ws.length), w'.cell? ⟨w.heap.size, 1 + j, none⟩ = some (.string ⟨ws[j].toArray⟩)) ∧ Below w.heap.size w w' := by
  refine (split_any s w hs).mono ?_
  rintro e w' ⟨c, rfl, hc, hcell, hb⟩
  have hl : (splitW s.data.toList).length = ws.length + 1 := by rw [hsp]; rfl
  refine ⟨c, by rw [hl], by omega, ?_, fun j hj => ?_, hb⟩
  · have := hcell 0 (by omega)
    simpa only [hsp, List.getElem_cons_zero] using this
  · have := hcell (1 + j) (by omega)
    rw [this]
    simp [hsp, Nat.add_comm 1 j]
def RnEnd (w : World) (l : List UInt8) (e : Ending) (w' : World) : Prop := Below w.heap.size w w' ∧ ((readNd false l = none ∧ ∃ v, e = .returned (.tuple #[v, .bool false])) ∨
  ∃ nd fa fc, readNd false l = some nd ∧ e = .returned (.tuple #[ndV nd fa fc, .bool true]) ∧ IntsAt w' fa nd.fs ∧ nd.fs.length ≤ fc ∧ nd.fs.length ≤ l.length ∧ nd.tx.size ≤ l.length)
set_option maxRecDepth 100000 in
set_option maxHeartbeats 4000000 in
theorem rn_nokind {w : World} (hg : Gj w) (s : ByteArray) (hs : s.size ≤ 100000000) (w0 : List UInt8) (ws : List (List UInt8)) (hsp : splitW s.data.toList = w0 :: ws) (h0 : kindP w0 = 0) : Calls Tryz.prog 26 #[.string s] w fun e w' => Below w.heap.size w w' ∧ e = .returned (.tuple #[.agg #[.int .i64 0, .slice none 0 0, .string ⟨#[]⟩, .int .i64 0], .bool false]) := by
  have HS := split_words s (w.alloc (.cells #[.int .i64 0, .slice none 0 0, .string ⟨#[]⟩, .int .i64 0] 34)) hs hsp
  have hb0 : Below w.heap.size w (w.alloc (.cells #[.int .i64 0, .slice none 0 0, .string ⟨#[]⟩, .int .i64 0] 34)) := (Below.refl _ _).alloc (Nat.le_refl _) _
  have hn0 := Nb.new w
  have hsz : (w.alloc (.cells #[.int .i64 0, .slice none 0 0, .string ⟨#[]⟩, .int .i64 0] 34)).heap.size = w.heap.size + 1 := by simp
  rw [hsz] at HS
  go_enter Tryz.func26, Tryz.ntmps26
  go_wp2_with (first | (go_at_call 50; refine HS.mono ?_; rintro e w1 ⟨c, rfl, hc, cW0, hcell, hb1⟩; have hg1 := (hg.below hb0).below (by rw [hsz]; exact hb1); have HK := kind_any hg1 ⟨w0.toArray⟩; rw [show kindP (⟨w0.toArray⟩ : ByteArray).data.toList = 0 from h0] at HK; have hn1 := hn0.below hb1 (by omega); obtain ⟨⟨n0, n1, n2, n3⟩, f0, f1, f2, f3⟩ := hn1.cells; have hlt := hn1.lt; have hbz := hb0.trans (hb1.mono (by omega)); clear hcell hg hg1 hn0) | (go_at_call 51; refine HK.mono ?_; rintro e w2 ⟨rfl, rfl⟩))
  obtain ⟨⟨q0, q1, q2, q3⟩, -⟩ := (((((hn1.put0 0).put1 (.slice none 0 0)).put2 ⟨#[]⟩).put3 0).alloc (.cells #[.int .i64 0, .slice none 0 0, .string ⟨#[]⟩, .int .i64 0] 34)).cells
  exact bodyPost_ret (v := .tuple #[.agg #[.int .i64 0, .slice none 0 0, .string ⟨#[]⟩, .int .i64 0], .bool false]) (by simp [results, Tryz.results26, go_sem, q0, q1, q2, q3]) rfl ⟨((((hbz.setCell (Nat.le_refl _) _).setCell (Nat.le_refl _) _).setCell (Nat.le_refl _) _).setCell (Nat.le_refl _) _).alloc (by simp; omega) _, rfl⟩
theorem Tryz.infoInt : (Tryz.prog.info? 3).map (fun i => (i.zero, i.size, i.bytes)) = some (some (.int .i64 0), 1, 8) := by kernel_rfl
def iv (l : List Int) : List Value := l.map fun z => .int .i64 z
theorem iv_snoc (l : List Int) (z : Int) : iv (l ++ [z]) = iv l ++ [.int .i64 z] := by simp [iv]
theorem own_form {w : World} {B e size n : Nat} {v : Value} {xs : List Value} (h : w.ownsRow B e size v n xs) : ∃ A cap, v = .slice A n cap := by
  rcases h.2 with ⟨h0, h1⟩ | ⟨g, cap, cur, h0, _⟩
  · exact ⟨none, 0, by rw [h0, h1]⟩
  · exact ⟨_, _, h0⟩
theorem own_some {w : World} {B e size n cap : Nat} {A : Option Addr} {xs : List Value} (h : w.ownsRow B e size (.slice A n cap) n xs) (hn : 0 < n) : ∃ g, A = some ⟨g, 0, none⟩ := by
  rcases h.2 with ⟨h0, h0'⟩ | ⟨g, cap', cur, h0, _⟩
  · omega
  · simp at h0; exact ⟨g, h0.1⟩
theorem iv_get (l : List Int) (i : Nat) (h : i < l.length) : (iv l)[i]? = some (.int .i64 l[i]) := by simp [iv, h]
theorem own_ints {w : World} {B n cap : Nat} {A : Option Addr} {z : List Int} (h : w.ownsRow B 3 1 (.slice A n cap) n (iv z)) (hn : n = z.length) : IntsAt w A z ∧ n ≤ cap := by
  subst hn
  rcases h.2 with ⟨h0, h1⟩ | ⟨g, cap', cur, h0, hb, hg, hle, hm, hs, ht⟩
  · exact ⟨.inl (List.length_eq_zero_iff.1 h1), by omega⟩
  · simp at h0
    obtain ⟨rfl, rfl⟩ := h0
    refine ⟨?_, hle⟩
    by_cases hz : z = []
    · exact .inl hz
    · refine .inr ⟨g, 0, rfl, fun j hj => ?_⟩
      rw [Nat.zero_add, h.cellAt j (by omega), iv_get z j hj]
theorem ownsRow_of_block {w w' : World} {base e size n : Nat} {v : Value} {xs : List Value} (h : w.ownsRow base e size v n xs) (hb : ∀ g, v.ownBlock = some g → w'.heap[g]? = w.heap[g]?) : w'.ownsRow base e size v n xs := by
  refine ⟨h.1, ?_⟩
  rcases h.2 with hn | ⟨g, cap, cur, rfl, hb1, hgg, rest⟩
  · exact .inl hn
  · exact .inr ⟨g, cap, cur, rfl, hb1, by rw [hb g rfl]; exact hgg, rest⟩
theorem own_below {w w' : World} {base e size n : Nat} {v : Value} {xs : List Value} (h : w.ownsRow base e size v n xs) (hb : Below w.heap.size w w') : w'.ownsRow base e size v n xs := ownsRow_of_block h (fun g hg => hb.block g (h.lt g hg).2)
theorem own_base {w : World} {base base' e size n : Nat} {v : Value} {xs : List Value} (h : w.ownsRow base e size v n xs) (hb : base' ≤ base) : w.ownsRow base' e size v n xs := by
  refine ⟨h.1, ?_⟩
  rcases h.2 with h2 | ⟨g, cap, cur, h1, h2, h3⟩
  · exact .inl h2
  · exact .inr ⟨g, cap, cur, h1, Nat.le_trans hb h2, h3⟩
end Go.Proofs.YtiadlnjmlgnehacGreatDoor
