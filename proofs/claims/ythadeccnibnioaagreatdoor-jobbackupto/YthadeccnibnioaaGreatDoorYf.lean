/- A line read as a node: its blocks; numbers in a row of one's own. -/
import Derived.Test.YthadeccnibnioaaGreatDoorYd
import Derived.Test.YthadeccnibnioaaGreatDoorYe
import Derived.Test.YthadeccnibnioaaGreatDoorJp
import Derived.Laws.AppendOwn
import Derived.Maps.AppendAt
import Derived.Test.YthadeccnibnioaaGreatDoorHp
namespace Go.Proofs.YthadeccnibnioaaGreatDoor
open Go.RowKit
set_option linter.unusedVariables false
theorem cloneS_any (x : ByteArray) (w : World) (hx : x.size ≤ 281474976710656) : Calls Tryz.prog 96 #[.string x] w fun e w' => e = .returned (.string x) ∧ Below w.heap.size w w' := by
  have H := Tryz.stringslite_Clone x w hx
  go_enter Tryz.func96, Tryz.ntmps96
  go_wp2_with (go_at_call 132; refine H.mono ?_; rintro e w' ⟨rfl, hb⟩)
  go_ret
  exact ⟨rfl, hb⟩
theorem split_words (s : ByteArray) (w : World) (hs : s.size ≤ 100000000) {w0 : List UInt8} {ws : List (List UInt8)} (hsp : splitW s.data.toList = w0 :: ws) : Calls Tryz.prog 92 #[.string s, .string ⟨#[32]⟩] w fun e w' => ∃ c, e = .returned (.slice (some ⟨w.heap.size, 0, none⟩) (ws.length + 1) c) ∧ ws.length + 1 ≤ c ∧ w'.cell? ⟨w.heap.size, 0, none⟩ = some (.string ⟨w0.toArray⟩) ∧ (∀ j (h : j < ws.length), w'.cell? ⟨w.heap.size, 1 + j, none⟩ = some (.string ⟨ws[j].toArray⟩)) ∧ Below w.heap.size w w' := by
  refine (split_any s w hs).mono ?_
  rintro e w' ⟨c, rfl, hc, hcell, hb⟩
  have hl : (splitW s.data.toList).length = ws.length + 1 := by rw [hsp]; rfl
  refine ⟨c, by rw [hl], by omega, ?_, fun j hj => ?_, hb⟩
  · have := hcell 0 (by omega)
    simpa only [hsp, List.getElem_cons_zero] using this
  · have := hcell (1 + j) (by omega)
    rw [this]
    simp [hsp, Nat.add_comm 1 j]
def RnEnd (w : World) (l : List UInt8) (e : Ending) (w' : World) : Prop := Below w.heap.size w w' ∧ ((readNd false l = none ∧ ∃ v, e = .returned (.tuple #[v, .bool false])) ∨
  ∃ nd fa fc, readNd false l = some nd ∧ e = .returned (.tuple #[ndV nd fa fc, .bool true]) ∧ IntsAt w' fa nd.fs ∧ nd.fs.length ≤ fc ∧ nd.fs.length ≤ l.length ∧ nd.tx.size ≤ l.length)
set_option maxRecDepth 100000 in
set_option maxHeartbeats 4000000 in
theorem rn_nokind {w : World} (hg : Gj w) (s : ByteArray) (hs : s.size ≤ 100000000) (w0 : List UInt8) (ws : List (List UInt8)) (hsp : splitW s.data.toList = w0 :: ws) (h0 : kindP w0 = 0) : Calls Tryz.prog 56 #[.string s] w fun e w' => Below w.heap.size w w' ∧ e = .returned (.tuple #[.agg #[.int .i64 0, .slice none 0 0, .string ⟨#[]⟩, .int .i64 0], .bool false]) := by
  have HS := split_words s (w.alloc (.cells #[.int .i64 0, .slice none 0 0, .string ⟨#[]⟩, .int .i64 0] 52)) hs hsp
  have hb0 : Below w.heap.size w (w.alloc (.cells #[.int .i64 0, .slice none 0 0, .string ⟨#[]⟩, .int .i64 0] 52)) := (Below.refl _ _).alloc (Nat.le_refl _) _
  have hn0 := Nb.new w
  have hsz : (w.alloc (.cells #[.int .i64 0, .slice none 0 0, .string ⟨#[]⟩, .int .i64 0] 52)).heap.size = w.heap.size + 1 := by simp
  rw [hsz] at HS
  go_enter Tryz.func56, Tryz.ntmps56
  go_wp2_with (first | (go_at_call 92; refine HS.mono ?_; rintro e w1 ⟨c, rfl, hc, cW0, hcell, hb1⟩; have hg1 := (hg.below hb0).below (by rw [hsz]; exact hb1); have HK := kind_any hg1 ⟨w0.toArray⟩; rw [show kindP (⟨w0.toArray⟩ : ByteArray).data.toList = 0 from h0] at HK; have hn1 := hn0.below hb1 (by omega); obtain ⟨⟨n0, n1, n2, n3⟩, f0, f1, f2, f3⟩ := hn1.cells; have hlt := hn1.lt; have hbz := hb0.trans (hb1.mono (by omega)); clear hcell hg hg1 hn0) | (go_at_call 93; refine HK.mono ?_; rintro e w2 ⟨rfl, rfl⟩))
  obtain ⟨⟨q0, q1, q2, q3⟩, -⟩ := (((((hn1.put0 0).put1 (.slice none 0 0)).put2 ⟨#[]⟩).put3 0).alloc (.cells #[.int .i64 0, .slice none 0 0, .string ⟨#[]⟩, .int .i64 0] 52)).cells
  exact bodyPost_ret (v := .tuple #[.agg #[.int .i64 0, .slice none 0 0, .string ⟨#[]⟩, .int .i64 0], .bool false]) (by simp [results, Tryz.results56, go_sem, q0, q1, q2, q3]) rfl ⟨((((hbz.setCell (Nat.le_refl _) _).setCell (Nat.le_refl _) _).setCell (Nat.le_refl _) _).setCell (Nat.le_refl _) _).alloc (by simp; omega) _, rfl⟩
theorem own_below {w w' : World} {base e size n : Nat} {v : Value} {xs : List Value} (h : w.ownsRow base e size v n xs) (hb : Below w.heap.size w w') : w'.ownsRow base e size v n xs := ownsRow_of_block h (fun g hg => hb.block g (h.lt g hg).2)
theorem own_base {w : World} {base base' e size n : Nat} {v : Value} {xs : List Value} (h : w.ownsRow base e size v n xs) (hb : base' ≤ base) : w.ownsRow base' e size v n xs := by
  refine ⟨h.1, ?_⟩
  rcases h.2 with h2 | ⟨g, cap, cur, h1, h2, h3⟩
  · exact .inl h2
  · exact .inr ⟨g, cap, cur, h1, Nat.le_trans hb h2, h3⟩
end Go.Proofs.YthadeccnibnioaaGreatDoor
