import Derived.Test.YtnapbfilkahobaaGreatDoorHj
import Derived.Test.YtnapbfilkahobaaGreatDoorHw
import Derived.Test.YtnapbfilkahobaaGreatDoorHl
import Derived.Laws.AppendOwn
import Derived.Maps.AppendAt
import Derived.Test.YtnapbfilkahobaaGreatDoorHp
import Derived.RangeFuncNested
import Derived.RangeFuncBound
import Derived.RangeFuncCalls
import Derived.RangeFuncLeaves
import Derived.Shelf.Abstract
import Derived.Shelf.RegionOpen
import Derived.OwnWalkIn
import Derived.TacticsInMore
import Derived.LoopNIn
import Derived.LoopIn
import Derived.Test.YtnapbfilkahobaaGreatDoorHn
import Derived.Deep.RegionHeld3
/- A node's own block. -/
namespace Go.Proofs.YtnapbfilkahobaaGreatDoor
open Go.RowKit
set_option linter.unusedVariables false
/-- A node's own block. -/
def Nb (w : World) (g : Nat) (k : Int) (v : Value) (tx : ByteArray) (n : Int) : Prop := w.heap[g]? = some (.cells #[.int .i64 k, v, .string tx, .int .i64 n] 52 (0, 0))
theorem Nb.below {w w' : World} {B g : Nat} {k : Int} {v : Value} {tx : ByteArray} {n : Int} (h : Nb w g k v tx n) (hb : Below B w w') (hB : g < B) : Nb w' g k v tx n := by
  unfold Nb; rw [hb.block g hB]; exact h
theorem Nb.lt {w : World} {g : Nat} {k : Int} {v : Value} {tx : ByteArray} {n : Int} (h : Nb w g k v tx n) : g < w.heap.size := (Array.getElem?_eq_some_iff.1 h).1
theorem Nb.alloc {w : World} {g : Nat} {k : Int} {v : Value} {tx : ByteArray} {n : Int} (h : Nb w g k v tx n) (o : Obj) : Nb (w.alloc o) g k v tx n := h.below ((Below.refl _ _).alloc (Nat.le_refl _) o) h.lt
theorem Nb.drew {w : World} {g : Nat} {k : Int} {v : Value} {tx : ByteArray} {n : Int} (h : Nb w g k v tx n) (m : Nat) : Nb (w.drewN m) g k v tx n := h
theorem Nb.other {w : World} {g : Nat} {k : Int} {v : Value} {tx : ByteArray} {n : Int} (h : Nb w g k v tx n) {p : Addr} (u : Value) (hp : p.block ≠ g) : Nb (w.setCell p u) g k v tx n := by
  unfold Nb; rw [Below.heap_setCell _ _ _ _ hp.symm]; exact h
theorem Nb.cells {w : World} {g : Nat} {k : Int} {v : Value} {tx : ByteArray} {n : Int} (h : Nb w g k v tx n) : (w.cell? ⟨g, 0, none⟩ = some (.int .i64 k) ∧ w.cell? ⟨g, 1, none⟩ = some v ∧ w.cell? ⟨g, 2, none⟩ = some (.string tx) ∧ w.cell? ⟨g, 3, none⟩ = some (.int .i64 n)) ∧ (w.frozen? ⟨g, 0, none⟩ = false ∧ w.frozen? ⟨g, 1, none⟩ = false ∧ w.frozen? ⟨g, 2, none⟩ = false ∧ w.frozen? ⟨g, 3, none⟩ = false) := by
  unfold Nb at h
  simp [World.cell?, World.frozen?, h]
theorem Nb.put1 {w : World} {g : Nat} {k : Int} {v : Value} {tx : ByteArray} {n : Int} (h : Nb w g k v tx n) (u : Value) : Nb (w.setCell ⟨g, 1, none⟩ u) g k u tx n := by
  unfold Nb at *; simp [World.setCell, Array.getElem?_modify, h]
theorem Nb.put2 {w : World} {g : Nat} {k : Int} {v : Value} {tx : ByteArray} {n : Int} (h : Nb w g k v tx n) (u : ByteArray) : Nb (w.setCell ⟨g, 2, none⟩ (.string u)) g k v u n := by
  unfold Nb at *; simp [World.setCell, Array.getElem?_modify, h]
theorem Nb.put3 {w : World} {g : Nat} {k : Int} {v : Value} {tx : ByteArray} {n : Int} (h : Nb w g k v tx n) (u : Int) : Nb (w.setCell ⟨g, 3, none⟩ (.int .i64 u)) g k v tx u := by
  unfold Nb at *; simp [World.setCell, Array.getElem?_modify, h]
theorem Nb.put0 {w : World} {g : Nat} {k : Int} {v : Value} {tx : ByteArray} {n : Int} (h : Nb w g k v tx n) (u : Int) : Nb (w.setCell ⟨g, 0, none⟩ (.int .i64 u)) g u v tx n := by
  unfold Nb at *; simp [World.setCell, Array.getElem?_modify, h]
theorem Nb.new (w : World) : Nb (w.alloc (.cells #[.int .i64 0, .slice none 0 0, .string ⟨#[]⟩, .int .i64 0] 52)) w.heap.size 0 (.slice none 0 0) ⟨#[]⟩ 0 := Array.getElem?_push_size
end Go.Proofs.YtnapbfilkahobaaGreatDoor

/- A line read as a node: its blocks; numbers in a row of one's own. -/
namespace Go.Proofs.YtnapbfilkahobaaGreatDoor
open Go.RowKit
set_option linter.unusedVariables false
theorem cloneS_any (x : ByteArray) (w : World) (hx : x.size ≤ 281474976710656) : Calls Tryz.prog 95 #[.string x] w fun e w' => e = .returned (.string x) ∧ Below w.heap.size w w' := by
  have H := Tryz.stringslite_Clone x w hx
  go_enter Tryz.func95, Tryz.ntmps95
  go_wp2_with (go_at_call 132; refine H.mono ?_; rintro e w' ⟨rfl, hb⟩)
  go_ret
  exact ⟨rfl, hb⟩
theorem split_words (s : ByteArray) (w : World) (hs : s.size ≤ 100000000) {w0 : List UInt8} {ws : List (List UInt8)} (hsp : splitW s.data.toList = w0 :: ws) : Calls Tryz.prog 91 #[.string s, .string ⟨#[32]⟩] w fun e w' => ∃ c, e = .returned (.slice (some ⟨w.heap.size, 0, none⟩) (ws.length + 1) c) ∧ ws.length + 1 ≤ c ∧ w'.cell? ⟨w.heap.size, 0, none⟩ = some (.string ⟨w0.toArray⟩) ∧ (∀ j (h : j < ws.length), w'.cell? ⟨w.heap.size, 1 + j, none⟩ = some (.string ⟨ws[j].toArray⟩)) ∧ Below w.heap.size w w' := by
  refine (split_any s w hs).mono ?_
  rintro e w' ⟨c, rfl, hc, hcell, hb⟩
  have hl : (splitW s.data.toList).length = ws.length + 1 := by rw [hsp]; rfl
  refine ⟨c, by rw [hl], by omega, ?_, fun j hj => ?_, hb⟩
  · have := hcell 0 (by omega)
    simpa only [hsp, List.getElem_cons_zero] using this
  · have := hcell (1 + j) (by omega)
    rw [this]
    simp [hsp, Nat.add_comm 1 j]
def RnEnd (w : World) (l : List UInt8) (e : Ending) (w' : World) : Prop := Below w.heap.size w w' ∧ ((readNd false l = none ∧ ∃ v, e = .returned (.tuple #[v, .bool false])) ∨
  ∃ nd fa fc, readNd false l = some nd ∧ e = .returned (.tuple #[ndV nd fa fc, .bool true]) ∧ IntsAt w' fa nd.fs ∧ nd.fs.length ≤ fc ∧ nd.fs.length ≤ l.length ∧ nd.tx.size ≤ l.length)
set_option maxRecDepth 100000 in
set_option maxHeartbeats 4000000 in
theorem rn_nokind {w : World} (hg : Gj w) (s : ByteArray) (hs : s.size ≤ 100000000) (w0 : List UInt8) (ws : List (List UInt8)) (hsp : splitW s.data.toList = w0 :: ws) (h0 : kindP w0 = 0) : Calls Tryz.prog 55 #[.string s] w fun e w' => Below w.heap.size w w' ∧ e = .returned (.tuple #[.agg #[.int .i64 0, .slice none 0 0, .string ⟨#[]⟩, .int .i64 0], .bool false]) := by
  have HS := split_words s (w.alloc (.cells #[.int .i64 0, .slice none 0 0, .string ⟨#[]⟩, .int .i64 0] 52)) hs hsp
  have hb0 : Below w.heap.size w (w.alloc (.cells #[.int .i64 0, .slice none 0 0, .string ⟨#[]⟩, .int .i64 0] 52)) := (Below.refl _ _).alloc (Nat.le_refl _) _
  have hn0 := Nb.new w
  have hsz : (w.alloc (.cells #[.int .i64 0, .slice none 0 0, .string ⟨#[]⟩, .int .i64 0] 52)).heap.size = w.heap.size + 1 := by simp
  rw [hsz] at HS
  go_enter Tryz.func55, Tryz.ntmps55
  go_wp2_with (first | (go_at_call 91; refine HS.mono ?_; rintro e w1 ⟨c, rfl, hc, cW0, hcell, hb1⟩; have hg1 := (hg.below hb0).below (by rw [hsz]; exact hb1); have HK := kind_any hg1 ⟨w0.toArray⟩; rw [show kindP (⟨w0.toArray⟩ : ByteArray).data.toList = 0 from h0] at HK; have hn1 := hn0.below hb1 (by omega); obtain ⟨⟨n0, n1, n2, n3⟩, f0, f1, f2, f3⟩ := hn1.cells; have hlt := hn1.lt; have hbz := hb0.trans (hb1.mono (by omega)); clear hcell hg hg1 hn0) | (go_at_call 92; refine HK.mono ?_; rintro e w2 ⟨rfl, rfl⟩))
  obtain ⟨⟨q0, q1, q2, q3⟩, -⟩ := (((((hn1.put0 0).put1 (.slice none 0 0)).put2 ⟨#[]⟩).put3 0).alloc (.cells #[.int .i64 0, .slice none 0 0, .string ⟨#[]⟩, .int .i64 0] 52)).cells
  exact bodyPost_ret (v := .tuple #[.agg #[.int .i64 0, .slice none 0 0, .string ⟨#[]⟩, .int .i64 0], .bool false]) (by simp [results, Tryz.results55, go_sem, q0, q1, q2, q3]) rfl ⟨((((hbz.setCell (Nat.le_refl _) _).setCell (Nat.le_refl _) _).setCell (Nat.le_refl _) _).setCell (Nat.le_refl _) _).alloc (by simp; omega) _, rfl⟩
theorem own_below {w w' : World} {base e size n : Nat} {v : Value} {xs : List Value} (h : w.ownsRow base e size v n xs) (hb : Below w.heap.size w w') : w'.ownsRow base e size v n xs := ownsRow_of_block h (fun g hg => hb.block g (h.lt g hg).2)
theorem own_base {w : World} {base base' e size n : Nat} {v : Value} {xs : List Value} (h : w.ownsRow base e size v n xs) (hb : base' ≤ base) : w.ownsRow base' e size v n xs := by
  refine ⟨h.1, ?_⟩
  rcases h.2 with h2 | ⟨g, cap, cur, h1, h2, h3⟩
  · exact .inl h2
  · exact .inr ⟨g, cap, cur, h1, Nat.le_trans hb h2, h3⟩
end Go.Proofs.YtnapbfilkahobaaGreatDoor

/- readNode. -/
namespace Go.Proofs.YtnapbfilkahobaaGreatDoor
open Go.RowKit
set_option linter.unusedVariables false
/-- What holds of the world while From is read. -/
structure RnAt (w : World) (g5 : Nat) (k : Int) (fa : Option Addr) (fr : List (List UInt8)) (j : Nat) (wr : World) : Prop where
  below : Below w.heap.size w wr
  res : Nb wr w.heap.size 0 (.slice none 0 0) ⟨#[]⟩ 0
  words : WsAt wr fa fr
  early : fr = [] ∨ ∀ a, fa = some a → a.block < g5
  apart : w.heap.size < g5
  one : ∃ v zs, numsR (fr.take j) = some zs ∧ wr.ownsRow (g5 + 1) 3 1 v zs.length (iv zs) ∧ Nb wr g5 k v ⟨#[]⟩ 0
theorem RnAt.call {w : World} {g5 : Nat} {k : Int} {fa : Option Addr} {fr : List (List UInt8)} {j : Nat} {wr w' : World} (h : RnAt w g5 k fa fr j wr) (hb : Below wr.heap.size wr w') : RnAt w g5 k fa fr j w' := by
  obtain ⟨v, zs, h1, h2, h3⟩ := h.one
  exact ⟨h.below.trans (hb.mono h.below.size), h.res.below hb h.res.lt, h.words.keep (Keeps.of hb), h.early, h.apart, v, zs, h1, own_below h2 hb, h3.below hb h3.lt⟩
theorem RnAt.next {w : World} {g5 : Nat} {k : Int} {fa : Option Addr} {fr : List (List UInt8)} {j : Nat} {wr w3 : World} (h : RnAt w g5 k fa fr j wr) {v v' : Value} {zs : List Int} {n : Int} {o : Obj} (hone : Nb wr g5 k v ⟨#[]⟩ 0) (hown : wr.ownsRow (g5 + 1) 3 1 v zs.length (iv zs)) (hgrow : (wr.alloc o).grownBy w3 v.ownBlock)
    (hnext : numsR (fr.take (j + 1)) = some (zs ++ [n])) (hown' : w3.ownsRow (g5 + 1) 3 1 v' (zs.length + 1) (iv zs ++ [.int .i64 n])) : Nb w3 g5 k v ⟨#[]⟩ 0 ∧ RnAt w g5 k fa fr (j + 1) (w3.setCell ⟨g5, 1, none⟩ v') := by
  have hlt := hone.lt
  have hap := h.apart
  have hbA : Below (g5 + 1) wr (wr.alloc o) := (Below.refl _ _).alloc (by omega) o
  have hbg : Below (g5 + 1) wr w3 := hbA.grown hgrow (by simp; omega) (fun k hk => (hown.lt k hk).1)
  have hbw : Below w.heap.size w w3 := h.below.trans (hbg.mono (by omega))
  have h3 : Nb w3 g5 k v ⟨#[]⟩ 0 := hone.below hbg (by omega)
  refine ⟨h3, hbw.setCell (by simp; omega) _, (h.res.below hbg (by omega)).other _ (by simp; omega), ?_, h.early, hap, v', zs ++ [n], hnext, ?_, h3.put1 v'⟩
  · rcases h.words with he | ⟨b, o2, rfl, hc⟩
    · exact .inl he
    · rcases h.early with he | hb
      · exact .inl he
      · have hb5 : b < g5 := hb _ rfl
        refine .inr ⟨b, o2, rfl, fun i hi => ?_⟩
        rw [World.cell?_of_block (w := w3) (Below.heap_setCell _ _ _ _ (by simp; omega)), World.cell?_of_block (w := wr) (hbg.block b (by omega))]
        exact hc i hi
  · have e : (zs ++ [n]).length = zs.length + 1 := by simp
    rw [e, iv_snoc]
    exact ownsRow_setCell_below hown' (by simp) _
theorem rn_last {w wf : World} {base : Nat} (hb : Below w.heap.size w wf) (hres : Nb wf w.heap.size 0 (.slice none 0 0) ⟨#[]⟩ 0) (hbase : w.heap.size < base) (k : Int) (v : Value) (tx : ByteArray) (n : Int) :
    Nb ((((wf.setCell ⟨w.heap.size, 0, none⟩ (.int .i64 k)).setCell ⟨w.heap.size, 1, none⟩ v).setCell ⟨w.heap.size, 2, none⟩ (.string tx)).setCell ⟨w.heap.size, 3, none⟩ (.int .i64 n)) w.heap.size k v tx n ∧
    Below w.heap.size w ((((wf.setCell ⟨w.heap.size, 0, none⟩ (.int .i64 k)).setCell ⟨w.heap.size, 1, none⟩ v).setCell ⟨w.heap.size, 2, none⟩ (.string tx)).setCell ⟨w.heap.size, 3, none⟩ (.int .i64 n)) ∧
    ∀ vv nn xs, wf.ownsRow base 3 1 vv nn xs → ((((wf.setCell ⟨w.heap.size, 0, none⟩ (.int .i64 k)).setCell ⟨w.heap.size, 1, none⟩ v).setCell ⟨w.heap.size, 2, none⟩ (.string tx)).setCell ⟨w.heap.size, 3, none⟩ (.int .i64 n)).ownsRow base 3 1 vv nn xs :=
  ⟨(((hres.put0 k).put1 v).put2 tx).put3 n, (((hb.setCell (Nat.le_refl _) _).setCell (Nat.le_refl _) _).setCell (Nat.le_refl _) _).setCell (Nat.le_refl _) _,
    fun vv nn xs h => ownsRow_setCell_below (ownsRow_setCell_below (ownsRow_setCell_below (ownsRow_setCell_below h hbase _) hbase _) hbase _) hbase _⟩
theorem Nb.newk (w : World) (k : Int) : Nb (w.alloc (.cells #[.int .i64 k, .slice none 0 0, .string ⟨#[]⟩, .int .i64 0] 52)) w.heap.size k (.slice none 0 0) ⟨#[]⟩ 0 := Array.getElem?_push_size
theorem rn_start {w w1 : World} {k : Int} {fa : Option Addr} {fr : List (List UInt8)} (hbz : Below w.heap.size w w1) (hlt : w.heap.size < w1.heap.size) (hn1 : Nb w1 w.heap.size 0 (.slice none 0 0) ⟨#[]⟩ 0) (hFr : WsAt w1 fa fr) (n : Nat) : RnAt w w1.heap.size k fa fr 0 ((w1.alloc (.cells #[.int .i64 k, .slice none 0 0, .string ⟨#[]⟩, .int .i64 0] 52)).drewN n) where
  below := below_drewN (hbz.alloc (by omega) _) n
  res := (hn1.alloc _).drew n
  words := hFr.keep (Keeps.of (below_drewN ((Below.refl _ _).alloc (Nat.le_refl _) _) n))
  early := by
    by_cases hn : fr = []
    · exact .inl hn
    · rcases hFr with h | ⟨b, o, rfl, h⟩
      · exact absurd h hn
      · right
        intro a ha
        injection ha with ha
        subst ha
        exact cell_lt (h 0 (List.length_pos_iff.2 hn))
  apart := hlt
  one := ⟨.slice none 0 0, [], by rw [List.take_zero]; rfl, World.ownsRow_nil _ _ _ _, (Nb.newk w1 k).drew n⟩
set_option maxRecDepth 100000 in
set_option maxHeartbeats 1000000 in
theorem rn_kind {w : World} (hg : Gj w) (s : ByteArray) (hs : s.size ≤ 100000000) (w0 : List UInt8) (ws : List (List UInt8)) (hsp : splitW s.data.toList = w0 :: ws) (k : Int) (h0 : kindP w0 = k) (hk1 : 1 ≤ k) (hk2 : k ≤ 10) (hwl : ws.length ≤ 100000000) (R : Ending → World → Prop)
    (HRno : Hid (∀ (k n : Int) (A : Option Addr) (ln cp : Nat) (tx : ByteArray) w', Below w.heap.size w w' → readNd false s.data.toList = none → R (.returned (.tuple #[.agg #[.int .i64 k, .slice A ln cp, .string tx, .int .i64 n], .bool false])) w'))
    (HRyes : Hid (∀ nd fa fc w', Below w.heap.size w w' → readNd false s.data.toList = some nd → w'.ownsRow w.heap.size 3 1 (.slice fa nd.fs.length fc) nd.fs.length (iv nd.fs) → R (.returned (.tuple #[ndV nd fa fc, .bool true])) w')) : Calls Tryz.prog 55 #[.string s] w R := by
  have HS := split_words s (w.alloc (.cells #[.int .i64 0, .slice none 0 0, .string ⟨#[]⟩, .int .i64 0] 52)) hs hsp
  have hb0 : Below w.heap.size w (w.alloc (.cells #[.int .i64 0, .slice none 0 0, .string ⟨#[]⟩, .int .i64 0] 52)) := (Below.refl _ _).alloc (Nat.le_refl _) _
  have hn0 := Nb.new w
  have hsz : (w.alloc (.cells #[.int .i64 0, .slice none 0 0, .string ⟨#[]⟩, .int .i64 0] 52)).heap.size = w.heap.size + 1 := by simp
  rw [hsz] at HS
  have hkI : (k == 0) = false := by simpa using (by omega : ¬ k = 0)
  have HG := Lib.hid hg
  obtain ⟨i0, hi0, hz0, hz1, hz2⟩ := info_parts Tryz.infoInt
  go_enter Tryz.func55, Tryz.ntmps55
  go_wp2_with (first | (go_at_call 91; refine HS.mono ?_; rintro e w1 ⟨c, rfl, hc, cW0, hcell, hb1⟩; have hg1 := (hg.below hb0).below (by rw [hsz]; exact hb1); have HK := kind_any hg1 ⟨w0.toArray⟩; rw [show kindP (⟨w0.toArray⟩ : ByteArray).data.toList = k from h0] at HK; have hn1 := hn0.below hb1 (by omega); obtain ⟨⟨n0, n1, n2, n3⟩, f0, f1, f2, f3⟩ := hn1.cells; have hlt := hn1.lt; have hbz := hb0.trans (hb1.mono (by omega)); have HCell := Lib.hid hcell; clear hcell hn0) | (go_at_call 92; refine HK.mono ?_; rintro e w2 ⟨rfl, rfl⟩))
  obtain ⟨wa, cc, hway, hwsat, hcc⟩ : ∃ wa cc, ((c = 1 ∧ wa = some ⟨w.heap.size + 1, 0, none⟩ ∧ cc = 0) ∨ (c ≠ 1 ∧ wa = some ⟨w.heap.size + 1, 1, none⟩ ∧ cc = c - 1)) ∧ WsAt w1 wa ws ∧ ws.length ≤ cc := by
    by_cases hc1 : c = 1
    · exact ⟨_, _, .inl ⟨hc1, rfl, rfl⟩, .inl (List.length_eq_zero_iff.1 (by omega)), by omega⟩
    · exact ⟨_, _, .inr ⟨hc1, rfl, rfl⟩, .inr ⟨_, _, rfl, HCell.out⟩, by omega⟩
  obtain ⟨fa, fc, fr, own, ok, hfc, hfl, hown, hcase, hP⟩ := parted_any hk1 hk2 ws wa cc hcc (by omega)
  have hbA : Below w1.heap.size w1 (w1.alloc (.cells #[.int .i64 k, .slice none 0 0, .string ⟨#[]⟩, .int .i64 0] 52)) := (Below.refl _ _).alloc (Nat.le_refl _) _
  have hWA := hwsat.keep (Keeps.of hbA)
  have hFr := (hP _ hwsat).1
  have HPq := fun n => (hP ((w1.alloc (.cells #[.int .i64 k, .slice none 0 0, .string ⟨#[]⟩, .int .i64 0] 52)).drewN n) hWA).2
  have hRn := rn_start (k := k) hbz hlt hn1 hFr
  have HRn := Lib.hid hRn
  have HCase := Lib.hid hcase
  have HOwn := Lib.hid hown
  have HFl : Hid (fr.length ≤ 100000000) := Nat.le_trans hfl hwl
  clear hP hRn hFr hWA hbA hwsat hn1 hg HCell hcc hcase hown hfc hfl
  rcases hway with ⟨rfl, rfl, rfl⟩ | ⟨hc1, rfl, rfl⟩
  focus (
    obtain rfl : ws = [] := List.length_eq_zero_iff.1 (by omega)
    have HPq : ∀ n, Calls Tryz.prog 93 #[.int .i64 k, .slice (some ⟨w.heap.size + 1, 0, none⟩) 0 0] ((w1.alloc (.cells #[.int .i64 k, .slice none 0 0, .string ⟨#[]⟩, .int .i64 0] 52)).drewN n) fun e w' => e = .returned (.tuple #[.slice fa fr.length fc, .string ⟨own.toArray⟩, .bool ok]) ∧ ∃ m, w' = ((w1.alloc (.cells #[.int .i64 k, .slice none 0 0, .string ⟨#[]⟩, .int .i64 0] 52)).drewN n).drewN m := HPq
    go_quiet ((go_at_call 93; exact Calls.quiet_of (HPq _))))
  rotate_left 1
  focus (
    have hcI : ¬ ((c : Int) = 1) := by omega
    go_quiet ((go_at_call 93; exact Calls.quiet_of (HPq _))))
  all_goals (
    have hA := HRn.out nq
    have hlt := hA.res.lt
    have hap := hA.apart
    have HSp := Lib.hid hsp
    have HKd := Lib.hid h0
    have hlt0 := hlt
    generalize hwq : (w1.alloc (.cells #[.int .i64 k, .slice none 0 0, .string ⟨#[]⟩, .int .i64 0] 52)).drewN nq = wq at hA hlt ⊢
    clear HRn HPq hwq hsp h0 n0 n1 n2 n3 f0 f1 f2 f3 hbz cW0 hc HS hb0 hsz HK hlt0
    rcases HCase.out with ⟨rfl, hpt⟩ | ⟨rfl, hpt⟩
    · obtain ⟨m, hm⟩ : ∃ m, fr.length = m := ⟨_, rfl⟩
      have HM := Lib.hid hm
      simp only [hm]
      clear hm
      go_wp2_with fail
      go_loopw [38] (fun i wr => ∃ j : Nat, j ≤ m ∧ i = .int .i64 j ∧ RnAt w w1.heap.size k fa fr j wr) (fun i _ => m - (intOf i).toNat)
      case atStart => exact ⟨0, by omega, rfl, hA⟩
      case round =>
        obtain ⟨j, hj, rfl, hR⟩ := hrel
        have HPt := Lib.hid hpt
        clear hA hlt hpt
        have hR1 := hR.res.lt
        have hRs := hR.below.size
        by_cases hjm : j < m
        · have hjl : j < fr.length := by rw [HM.out]; exact hjm
          rcases hR.words with hnil | ⟨b, o, rfl, hcells⟩
          · exfalso; rw [hnil] at hjl; simp at hjl
          have cJ := hcells j hjl
          have hxs : fr[j].length ≤ 100000000 := by
            have h1 := (split_lens HSp.out).2.2 _ (part_sizes HPt.out _ (List.getElem_mem hjl))
            have h2 : s.data.toList.length = s.size := Array.length_toList
            omega
          have HNum := rdnum_any (HG.out.below hR.below) ⟨fr[j].toArray⟩ (by simp [ByteArray.size]; omega)
          unfold RdEnd at HNum
          obtain ⟨x, hx⟩ : ∃ x, fr[j] = x := ⟨_, rfl⟩
          have HNone : Hid (numR x = none → readNd false s.data.toList = none) := fun h => rd_nonum HSp.out HKd.out (by omega) HPt.out (nums_none hjl (by rw [hx]; exact h))
          have HTake : Hid (∀ zs n, numsR (fr.take j) = some zs → numR x = some n → numsR (fr.take (j + 1)) = some (zs ++ [n])) := fun zs n h1 h2 => nums_take hjl h1 (by rw [hx]; exact h2)
          rw [hx] at cJ HNum
          have hjI : (j : Int) < m := by omega
          have HR := Lib.hid hR
          clear hx hxs hcells hjl hR
          rename World => wr2
          rcases hnum : numR x with _ | n
          · rw [show numR (⟨x.toArray⟩ : ByteArray).data.toList = none from hnum] at HNum
            simp only [Option.isSome_none] at HNum
            have HNo := Lib.hid (HNone.out hnum)
            clear hnum HNone HTake
            go_wp2_with (go_at_call 94; refine HNum.mono ?_; rintro e w2 ⟨⟨z, rfl, -⟩, hb2⟩; have hR2 := HR.out.call hb2; obtain ⟨⟨n0, n1, n2, n3⟩, f0, f1, f2, f3⟩ := hR2.res.cells; have hlt2 := hR2.res.lt; have HR2 := Lib.hid hR2; clear hR2)
            obtain ⟨⟨q0, q1, q2, q3⟩, -⟩ := ((((HR2.out.res.put0 0).put1 (.slice none 0 0)).put2 ⟨#[]⟩).put3 0).cells
            have hbE := (((HR2.out.below.setCell (p := ⟨w.heap.size, 0, none⟩) (Nat.le_refl _) (.int .i64 0)).setCell (p := ⟨w.heap.size, 1, none⟩) (Nat.le_refl _) (.slice none 0 0)).setCell (p := ⟨w.heap.size, 2, none⟩) (Nat.le_refl _) (.string ⟨#[]⟩)).setCell (p := ⟨w.heap.size, 3, none⟩) (Nat.le_refl _) (.int .i64 0)
            exact bodyPost_ret (v := .tuple #[.agg #[.int .i64 0, .slice none 0 0, .string ⟨#[]⟩, .int .i64 0], .bool false]) (by simp [results, Tryz.results55, go_sem, q0, q1, q2, q3]) rfl (HRno.out _ _ _ _ _ _ _ hbE HNo.out)
          · rw [show numR (⟨x.toArray⟩ : ByteArray).data.toList = some n from hnum] at HNum
            simp only [Option.isSome_some] at HNum
            have HTk := Lib.hid (fun zs h => HTake.out zs n h hnum)
            clear hnum HNone HTake
            have hml : m ≤ 100000000 := by rw [← HM.out]; exact HFl.out
            go_wp2_with (first | (go_at_call 94; refine HNum.mono ?_; rintro e w2 ⟨⟨z, rfl, hz⟩, hb2⟩; obtain rfl := hz n rfl; have hR2 := HR.out.call hb2; obtain ⟨v, zs, hzs, hown2, hone⟩ := hR2.one; obtain ⟨⟨n0, n1, n2, n3⟩, f0, f1, f2, f3⟩ := hone.cells; have hlt2 := hone.lt; have hap2 := hR2.apart; have hzl : zs.length ≤ 100000000 := (by have h1 := nums_len hzs; rw [List.length_take] at h1; omega); have HR2 := Lib.hid hR2; have HOn := Lib.hid hown2; have HZs := Lib.hid hzs; have HNb := Lib.hid hone; clear hR2 hz hzs hown2 hone) | (at_builtin; refine wpList_append_own_at _ rfl _ _ 41 rfl (w1.heap.size + 1) 3 i0 (.int .i64 0) 1 8 Tryz.underlying41 hi0 hz0 hz1 hz2 rfl (by decide) v zs.length (iv zs) rfl (HOn.out.alloc _) ⟨w2.heap.size, 0, none⟩ 1 1 [.int .i64 z] rfl rfl (cell_one_new _ _ _) (by intro u hu; simp at hu; subst hu; rfl) (by unfold maxLen; omega) (by omega) (by simp; omega) ?_))
            intro v' w3 hown' hgrow _ _
            obtain ⟨A', cap', rfl⟩ := own_form hown'
            obtain ⟨h3, hN⟩ := HR2.out.next HNb.out HOn.out hgrow (HTk.out zs HZs.out) hown'
            obtain ⟨⟨n0, n1, n2, n3⟩, f0, f1, f2, f3⟩ := h3.cells
            have hlt3 := h3.lt
            have HNx := Lib.hid hN
            clear hN hown' hgrow h3
            go_wp2
            exact ⟨⟨j + 1, by omega, by go_num, HNx.out⟩, by simp [intOf]; omega⟩
        · obtain rfl : j = m := by omega
          obtain ⟨v, zs, hzs, hown, hone⟩ := hR.one
          rw [List.take_of_length_le (by rw [HM.out]; exact Nat.le_refl _)] at hzs
          obtain ⟨A, cap, rfl⟩ := own_form hown
          rename World => wr2
          have hos : own.length ≤ 100000000 := by
            have h2 : s.data.toList.length = s.size := Array.length_toList
            rcases HOwn.out with h | h
            · rw [h]; simp
            · have h1 := (split_lens HSp.out).2.2 _ h
              omega
          have HHn := fun u => hasN_any k u
          have HHt := fun u => hasT_any k u
          obtain ⟨⟨n0, n1, n2, n3⟩, f0, f1, f2, f3⟩ := hone.cells
          have hlt3 := hone.lt
          have HR := Lib.hid hR
          have HOn := Lib.hid hown
          have HNb := Lib.hid hone
          have HZs := Lib.hid hzs
          have hjI : ¬ ((j : Int) < j) := by omega
          clear hR hown hone hzs hjm
          rcases hN : hasNP k with _ | _
          · rcases hT : hasTP k with _ | _
            · have HRd := Lib.hid (rd_O HSp.out HKd.out (by omega) HPt.out HZs.out hN hT)
              rw [hN] at HHn
              rw [hT] at HHt
              clear hN hT
              obtain ⟨⟨m0, m1, m2, m3⟩, g0, g1, g2, g3⟩ := HR.out.res.cells
              go_wp2_with (first | (go_at_call 87; refine (HHn _).mono ?_; rintro e w' ⟨rfl, rfl⟩) | (go_at_call 88; refine (HHt _).mono ?_; rintro e w' ⟨rfl, rfl⟩))
              obtain ⟨hnF, hbF, hoF⟩ := rn_last (base := w1.heap.size + 1) HR.out.below HR.out.res (by omega) k (.slice A zs.length cap) ⟨#[]⟩ 0
              obtain ⟨⟨q0, q1, q2, q3⟩, -⟩ := hnF.cells
              have hi := own_base (hoF _ _ _ HOn.out) (show w.heap.size ≤ w1.heap.size + 1 by omega)
              exact bodyPost_ret (v := .tuple #[.agg #[.int .i64 k, .slice A zs.length cap, .string ⟨#[]⟩, .int .i64 0], .bool true]) (by simp [results, Tryz.results55, go_sem, q0, q1, q2, q3]) rfl (HRyes.out ⟨k, zs, ByteArray.empty, 0⟩ A cap _ hbF HRd.out hi)
            · have HRd := Lib.hid (rd_T HSp.out HKd.out (by omega) HPt.out HZs.out hN hT)
              rw [hN] at HHn
              rw [hT] at HHt
              clear hN hT
              have HCl := cloneS_any ⟨own.toArray⟩ wr2 (by simp [ByteArray.size]; omega)
              go_wp2_with (first | (go_at_call 87; refine (HHn _).mono ?_; rintro e w' ⟨rfl, rfl⟩) | (go_at_call 88; refine (HHt _).mono ?_; rintro e w' ⟨rfl, rfl⟩) | (go_at_call 95; refine HCl.mono ?_; rintro e w2 ⟨rfl, hb2⟩; have hR2 := HR.out.call hb2; have hone := HNb.out.below hb2 HNb.out.lt; obtain ⟨⟨n0, n1, n2, n3⟩, f0, f1, f2, f3⟩ := hone.cells; obtain ⟨⟨m0, m1, m2, m3⟩, g0, g1, g2, g3⟩ := hR2.res.cells; have hlt2 := hR2.res.lt; have hlt4 := hone.lt; have HOn2 := Lib.hid (own_below HOn.out hb2); have HR2 := Lib.hid hR2; have HNb2 := Lib.hid hone; clear hR2 hone))
              obtain ⟨hnF, hbF, hoF⟩ := rn_last (base := w1.heap.size + 1) (HR2.out.below.setCell (p := ⟨w1.heap.size, 2, none⟩) (by simp; omega) (.string ⟨own.toArray⟩)) (HR2.out.res.other (p := ⟨w1.heap.size, 2, none⟩) _ (by simp; omega)) (by omega) k (.slice A zs.length cap) ⟨own.toArray⟩ 0
              obtain ⟨⟨q0, q1, q2, q3⟩, -⟩ := hnF.cells
              have hi := own_base (hoF _ _ _ (ownsRow_setCell_below HOn2.out (by simp) _)) (show w.heap.size ≤ w1.heap.size + 1 by omega)
              exact bodyPost_ret (v := .tuple #[.agg #[.int .i64 k, .slice A zs.length cap, .string ⟨own.toArray⟩, .int .i64 0], .bool true]) (by simp [results, Tryz.results55, go_sem, q0, q1, q2, q3]) rfl (HRyes.out ⟨k, zs, ⟨own.toArray⟩, 0⟩ A cap _ hbF HRd.out hi)
          · have hT := nt_not hN
            have HNum := rdnum_any (HG.out.below HR.out.below) ⟨own.toArray⟩ (by simp [ByteArray.size]; omega)
            unfold RdEnd at HNum
            rw [hN] at HHn
            rw [hT] at HHt
            have HRd := Lib.hid (rd_N HSp.out HKd.out (by omega) HPt.out HZs.out hN)
            clear hN hT
            rcases hnum : numR own with _ | n
            · rw [show numR (⟨own.toArray⟩ : ByteArray).data.toList = none from hnum] at HNum
              simp only [Option.isSome_none] at HNum
              rw [hnum] at HRd
              clear hnum
              go_wp2_with (first | (go_at_call 87; refine (HHn _).mono ?_; rintro e w' ⟨rfl, rfl⟩) | (go_at_call 88; refine (HHt _).mono ?_; rintro e w' ⟨rfl, rfl⟩) | (go_at_call 94; refine HNum.mono ?_; rintro e w2 ⟨⟨z, rfl, -⟩, hb2⟩; have hR2 := HR.out.call hb2; have hone := HNb.out.below hb2 HNb.out.lt; obtain ⟨⟨n0, n1, n2, n3⟩, f0, f1, f2, f3⟩ := hone.cells; obtain ⟨⟨m0, m1, m2, m3⟩, g0, g1, g2, g3⟩ := hR2.res.cells; have hlt2 := hR2.res.lt; have hlt4 := hone.lt; have HOn2 := Lib.hid (own_below HOn.out hb2); have HR2 := Lib.hid hR2; have HNb2 := Lib.hid hone; clear hR2 hone))
              obtain ⟨hnF, hbF, hoF⟩ := rn_last (base := w1.heap.size + 1) (HR2.out.below.setCell (p := ⟨w1.heap.size, 3, none⟩) (by simp; omega) (.int .i64 z)) (HR2.out.res.other (p := ⟨w1.heap.size, 3, none⟩) _ (by simp; omega)) (by omega) k (.slice A zs.length cap) ⟨#[]⟩ z
              obtain ⟨⟨q0, q1, q2, q3⟩, -⟩ := hnF.cells
              exact bodyPost_ret (v := .tuple #[.agg #[.int .i64 k, .slice A zs.length cap, .string ⟨#[]⟩, .int .i64 z], .bool false]) (by simp [results, Tryz.results55, go_sem, q0, q1, q2, q3]) rfl (HRno.out _ _ _ _ _ _ _ hbF HRd.out)
            · rw [show numR (⟨own.toArray⟩ : ByteArray).data.toList = some n from hnum] at HNum
              simp only [Option.isSome_some] at HNum
              rw [hnum] at HRd
              clear hnum
              go_wp2_with (first | (go_at_call 87; refine (HHn _).mono ?_; rintro e w' ⟨rfl, rfl⟩) | (go_at_call 88; refine (HHt _).mono ?_; rintro e w' ⟨rfl, rfl⟩) | (go_at_call 94; refine HNum.mono ?_; rintro e w2 ⟨⟨z, rfl, hz⟩, hb2⟩; obtain rfl := hz n rfl; clear hz; have hR2 := HR.out.call hb2; have hone := HNb.out.below hb2 HNb.out.lt; obtain ⟨⟨n0, n1, n2, n3⟩, f0, f1, f2, f3⟩ := hone.cells; obtain ⟨⟨m0, m1, m2, m3⟩, g0, g1, g2, g3⟩ := hR2.res.cells; have hlt2 := hR2.res.lt; have hlt4 := hone.lt; have HOn2 := Lib.hid (own_below HOn.out hb2); have HR2 := Lib.hid hR2; have HNb2 := Lib.hid hone; clear hR2 hone))
              obtain ⟨hnF, hbF, hoF⟩ := rn_last (base := w1.heap.size + 1) (HR2.out.below.setCell (p := ⟨w1.heap.size, 3, none⟩) (by simp; omega) (.int .i64 z)) (HR2.out.res.other (p := ⟨w1.heap.size, 3, none⟩) _ (by simp; omega)) (by omega) k (.slice A zs.length cap) ⟨#[]⟩ z
              obtain ⟨⟨q0, q1, q2, q3⟩, -⟩ := hnF.cells
              have hi := own_base (hoF _ _ _ (ownsRow_setCell_below HOn2.out (by simp) _)) (show w.heap.size ≤ w1.heap.size + 1 by omega)
              exact bodyPost_ret (v := .tuple #[.agg #[.int .i64 k, .slice A zs.length cap, .string ⟨#[]⟩, .int .i64 z], .bool true]) (by simp [results, Tryz.results55, go_sem, q0, q1, q2, q3]) rfl (HRyes.out ⟨k, zs, ByteArray.empty, z⟩ A cap _ hbF HRd.out hi)
    · obtain ⟨⟨n0, n1, n2, n3⟩, f0, f1, f2, f3⟩ := hA.res.cells
      obtain ⟨⟨q0, q1, q2, q3⟩, -⟩ := ((((hA.res.put0 0).put1 (.slice none 0 0)).put2 ⟨#[]⟩).put3 0).cells
      have hbE := (((hA.below.setCell (p := ⟨w.heap.size, 0, none⟩) (Nat.le_refl _) (.int .i64 0)).setCell (p := ⟨w.heap.size, 1, none⟩) (Nat.le_refl _) (.slice none 0 0)).setCell (p := ⟨w.heap.size, 2, none⟩) (Nat.le_refl _) (.string ⟨#[]⟩)).setCell (p := ⟨w.heap.size, 3, none⟩) (Nat.le_refl _) (.int .i64 0)
      have HN := Lib.hid (rd_nopart HSp.out HKd.out (by omega) hpt)
      clear hpt hA
      go_wp2_with fail
      exact bodyPost_ret (v := .tuple #[.agg #[.int .i64 0, .slice none 0 0, .string ⟨#[]⟩, .int .i64 0], .bool false]) (by simp [results, Tryz.results55, go_sem, q0, q1, q2, q3]) rfl (HRno.out _ _ _ _ _ _ _ hbE HN.out))
end Go.Proofs.YtnapbfilkahobaaGreatDoor

/- lines, as a range gets them. -/
namespace Go.Proofs.YtnapbfilkahobaaGreatDoor
open Go.RowKit Go.Shelf
set_option linter.unusedVariables false
theorem rn_any {w : World} (hg : Gj w) (s : ByteArray) (hs : s.size ≤ 100000000) : Calls Tryz.prog 55 #[.string s] w fun e w' => Below w.heap.size w w' ∧ ((readNd false s.data.toList = none ∧ ∃ (k n : Int) (A : Option Addr) (ln cp : Nat) (tx : ByteArray), e = .returned (.tuple #[.agg #[.int .i64 k, .slice A ln cp, .string tx, .int .i64 n], .bool false])) ∨
    ∃ nd fa fc, readNd false s.data.toList = some nd ∧ e = .returned (.tuple #[ndV nd fa fc, .bool true]) ∧ w'.ownsRow w.heap.size 3 1 (.slice fa nd.fs.length fc) nd.fs.length (iv nd.fs)) := by
  obtain ⟨w0, ws, hsp⟩ := split_some s.data.toList
  have hl : s.data.toList.length = s.size := Array.length_toList
  have hsl := (split_lens hsp).1
  by_cases hk : kindP w0 = 0
  · refine (rn_nokind hg s hs w0 ws hsp hk).mono ?_
    rintro e w' ⟨hb, rfl⟩
    exact ⟨hb, .inl ⟨rd_nokind hsp hk, _, _, _, _, _, _, rfl⟩⟩
  · obtain ⟨-, h1, h2⟩ := kind_name hk
    refine rn_kind hg s hs w0 ws hsp (kindP w0) rfl h1 h2 (by omega) _ ?_ ?_
    · exact fun k n A ln cp tx w' hb hn => ⟨hb, .inl ⟨hn, _, _, _, _, _, _, rfl⟩⟩
    · exact fun nd fa fc w' hb hn hi => ⟨hb, .inr ⟨nd, fa, fc, hn, rfl, hi⟩⟩
attribute [local go_sem] Oper.semAt_some
/-- A line, as a round gets it. -/
abbrev Li := { x : List UInt8 × Bool // x.1.length ≤ 100000000 }
def encLi (x : Li) : Array Value := #[.string ⟨x.1.1.toArray⟩, .bool x.1.2]
def Kt (W W' : World) : Prop := True
theorem grown_drewN (W : World) (n : Nat) : W.grownBy (W.drewN n) none := ⟨rfl, rfl, rfl, Nat.le_refl _, fun _ _ _ => rfl⟩
set_option maxRecDepth 100000 in
set_option maxHeartbeats 2000000 in
theorem lines1_in (n : Nat) (hn : 1 ≤ n) (l Bs : Nat) (s : ByteArray) (hs : s.size ≤ 100000000) (J Jx : List Li → World → Prop)
    (hJ : ∀ pre W m, J pre W → J pre (W.drewN m))
    (hY : ∀ pre x W, J pre W → pre.length < (linesP s.data.toList).length → YieldAt Fence.wide (n - 1) Tryz.prog l (encLi x) W fun e W' =>
      (e = .returned (.bool true) ∧ J (pre ++ [x]) W' ∧ Kt W W') ∨ (e = .returned (.bool false) ∧ Jx (pre ++ [x]) W'))
    (W : World) (hBs : W.cell? ⟨Bs, 0, none⟩ = some (.string s)) (h0 : J [] W) :
    CallsIn Fence.wide n Tryz.prog 89 #[.func (.yield l) #[] #[], .pointer (some ⟨Bs, 0, none⟩)] W fun e W' => (∃ v, e = .returned v) ∧
      ((∃ ys : List Li, ys.map (·.1) = linesP s.data.toList ∧ J ys W') ∨ (∃ pre : List Li, (∃ suf, linesP s.data.toList = pre.map (·.1) ++ suf) ∧ Jx pre W')) := by
  refine callsIn_of_wp Tryz.func89 rfl trivial ?_ rfl
  simp only [Tryz.ntmps89, List.size_toArray, List.length_cons, List.length_nil, Nat.reduceAdd, Nat.reduceSub, Array.replicate_succ, Array.replicate_zero, List.push_toArray, List.append_toArray, List.nil_append, List.cons_append]
  gi_wp2
  gi_loopw [3] (fun x wr => ∃ (r : ByteArray) (pre : List Li), x = .string r ∧ r.size ≤ 100000000 ∧ linesP s.data.toList = pre.map (·.1) ++ linesP r.data.toList ∧ J pre wr) (fun x _ => match x with | .string r => r.size | _ => 0)
  case atStart => exact ⟨s, [], rfl, hs, rfl, h0⟩
  case round =>
    obtain ⟨r, pre, rfl, hrs, hpr, hJs⟩ := hrel
    by_cases he : r.data.toList = []
    · have e1 : r.toList.isEmpty = true := by rw [Lib.toList_data, he]; rfl
      have e2 : (([] : List UInt8) == r.toList) = true := by rw [Lib.toList_data, he]; rfl
      have e3 : (r.toList == ([] : List UInt8)) = true := by rw [Lib.toList_data, he]; rfl
      have HP : Hid (linesP s.data.toList = pre.map (·.1)) := by
        show linesP s.data.toList = pre.map (·.1)
        rw [hpr, he, lines_nil, List.append_nil]
      clear hpr he
      gi_wp2
      go_end0
      exact ⟨⟨_, rfl⟩, .inl ⟨pre, HP.out.symm, hJs⟩⟩
    · have e1 : r.toList.isEmpty = false := by rw [Lib.toList_data]; exact (match h : r.data.toList with | [] => absurd h he | a :: r => rfl)
      have e2 : (([] : List UInt8) == r.toList) = false := by rw [Lib.toList_data]; exact (match h : r.data.toList with | [] => absurd h he | a :: r => rfl)
      have e3 : (r.toList == ([] : List UInt8)) = false := by rw [Lib.toList_data]; exact (match h : r.data.toList with | [] => absurd h he | a :: r => rfl)
      have hlc := lines_cons he
      have hcl := cut_less _ he
      have hcn := (cut_len r.data.toList).1
      have hrl : r.data.toList.length = r.size := Array.length_toList
      have hlen : pre.length < (linesP s.data.toList).length := by rw [hpr, List.length_append, List.length_map, hlc, List.length_cons]; omega
      have HC := fun (u : World) => cut_any r u (by omega)
      unfold CutV at HC
      have HNx : Hid (linesP s.data.toList = pre.map (·.1) ++ [((cutB r.data.toList).1, (cutB r.data.toList).2.2)] ++ linesP (cutB r.data.toList).2.1) := by
        show linesP s.data.toList = _
        rw [hpr, hlc]; simp
      obtain ⟨a1, ha1⟩ : ∃ a1, (cutB r.data.toList).1 = a1 := ⟨_, rfl⟩
      obtain ⟨a2, ha2⟩ : ∃ a2, (cutB r.data.toList).2.1 = a2 := ⟨_, rfl⟩
      obtain ⟨a3, ha3⟩ : ∃ a3, (cutB r.data.toList).2.2 = a3 := ⟨_, rfl⟩
      rw [ha1, ha2, ha3] at HNx
      simp only [ha1, ha2, ha3] at HC
      rw [ha2] at hcl
      rw [ha1] at hcn
      have ha1l : a1.length ≤ 100000000 := by omega
      have HJ := Lib.hid (fun m => hJ pre wr m hJs)
      have hff : Fence.wide.fn 90 := trivial
      clear hpr hlc he ha1 ha2 ha3
      gi_wp2_with (gi_at_call 90; refine (callsIn_wide.2 (HC _)).mono ?_; rintro e w' ⟨rfl, m, rfl⟩; obtain ⟨fn, tmps, assign, body, hy, hR⟩ := hY pre ⟨(a1, a3), ha1l⟩ (wr.drewN m) (HJ.out m) hlen; simp only [encLi] at hy)
      refine hR.mono ?_
      rintro e W3 (⟨rfl, hJ3, -⟩ | ⟨rfl, hJx3⟩)
      · gi_wp2
        go_roundw
        case rel => exact ⟨⟨a2.toArray⟩, pre ++ [⟨(a1, a3), ha1l⟩], rfl, by simp [ByteArray.size]; omega, by rw [List.map_append]; exact HNx.out, hJ3⟩
        case measure =>
          have h1 : (⟨a2.toArray⟩ : ByteArray).size = a2.length := List.size_toArray
          show (⟨a2.toArray⟩ : ByteArray).size < r.size
          omega
      · gi_wp2
        refine bodyPost_ret (results_none rfl _ _ _) rfl ?_
        exact ⟨⟨_, rfl⟩, .inr ⟨pre ++ [⟨(a1, a3), ha1l⟩], ⟨_, by rw [List.map_append]; exact HNx.out⟩, hJx3⟩⟩
set_option maxHeartbeats 1000000 in
theorem lines_in (n : Nat) (s : ByteArray) (w : World) :
    CallsIn Fence.wide n Tryz.prog 54 #[.string s] w fun e w' => e = .returned (.func (.func 89) #[] #[.pointer (some ⟨w.heap.size, 0, none⟩)]) ∧ w' = w.alloc (.cells #[.string s] 9) := by
  refine callsIn_of_wp Tryz.func54 rfl trivial ?_ rfl
  simp only [Tryz.ntmps54, List.size_toArray, List.length_cons, List.length_nil, Nat.reduceAdd, Nat.reduceSub, Array.replicate_succ, Array.replicate_zero, List.push_toArray, List.append_toArray, List.nil_append, List.cons_append]
  gi_wp2
  go_ret
  exact ⟨rfl, rfl⟩
theorem lines_stops (n : Nat) (hn : 1 ≤ n) (Bs : Nat) (s : ByteArray) (hs : s.size ≤ 100000000) (w : World) (hBs : Bs < w.heap.size) (hc : w.cell? ⟨Bs, 0, none⟩ = some (.string s)) :
    SeqStopsK Fence.wide n Tryz.prog 89 #[.pointer (some ⟨Bs, 0, none⟩)] encLi Kt (fun ys => ys.map (·.1) = linesP s.data.toList) (fun pre => ∃ suf, linesP s.data.toList = pre.map (·.1) ++ suf) (linesP s.data.toList).length w := fun l J Jx W hW hJ _ hY h0 =>
  lines1_in n hn l Bs s hs J Jx (fun pre W' m h => hJ pre W' _ none h (grown_drewN W' m) (fun r e => by cases e)) hY W ((hW.cell (p := ⟨Bs, 0, none⟩) hBs).trans hc) h0
end Go.Proofs.YtnapbfilkahobaaGreatDoor

/- Nodes gathered by Parse. -/
namespace Go.Proofs.YtnapbfilkahobaaGreatDoor
open Go.RowKit Go.Shelf
set_option linter.unusedVariables false
theorem Tryz.infoNode : (Tryz.prog.info? 52).map (fun i => (i.zero, i.size, i.bytes)) = some (some (.agg #[.int .i64 0, .slice none 0 0, .string ⟨#[]⟩, .int .i64 0]), 4, 56) := by kernel_rfl
abbrev Px := Nd × Option Addr × Nat
def ndC (x : Px) : List Value := [.int .i64 x.1.k, .slice x.2.1 x.1.fs.length x.2.2, .string x.1.tx, .int .i64 x.1.n]
theorem ndC_len : ∀ X : List Px, (X.flatMap ndC).length = X.length * 4
  | [] => rfl
  | x :: X => by rw [List.flatMap_cons, List.length_append, ndC_len X]; simp [ndC]; omega
theorem ndC_at : ∀ (X : List Px) (i : Nat) (h : i < X.length) (j : Nat), j < 4 → (X.flatMap ndC)[i * 4 + j]? = (ndC X[i])[j]?
  | [], i, h, _, _ => by simp at h
  | x :: X, 0, h, j, hj => by
    rw [List.flatMap_cons, List.getElem?_append_left (by simp [ndC]; omega)]
    simp
  | x :: X, i + 1, h, j, hj => by
    have e : (ndC x).length = 4 := rfl
    rw [List.flatMap_cons, List.getElem?_append_right (by rw [e]; omega), e, show (i + 1) * 4 + j - 4 = i * 4 + j from by omega]
    exact ndC_at X i (by simpa using h) j hj
theorem cell_four_new (w : World) (a b c d : Value) (t : TypeId) : ∀ j u, [a, b, c, d][j]? = some u → (w.alloc (.cells #[a, b, c, d] t)).cell? ((⟨w.heap.size, 0, none⟩ : Addr).add j) = some u := by
  intro j u hj
  match j, hj with
  | 0, hj => simp at hj; subst hj; simp [Addr.add]
  | 1, hj => simp at hj; subst hj; simp [Addr.add]
  | 2, hj => simp at hj; subst hj; simp [Addr.add]
  | 3, hj => simp at hj; subst hj; simp [Addr.add]
/-- What Parse holds while it reads: three results, and the nodes so far. -/
structure PaAt (w : World) (X : List Px) (A : Option Addr) (cap : Nat) (W : World) : Prop where
  below : Below w.heap.size w W
  size : w.heap.size + 5 ≤ W.heap.size
  r0 : W.heap[w.heap.size]? = some (.cells #[.slice none 0 0] 38 (0, 0))
  r1 : W.heap[w.heap.size + 1]? = some (.cells #[.int .i64 0] 3 (0, 0))
  r2 : W.heap[w.heap.size + 2]? = some (.cells #[.nilIface] 28 (0, 0))
  lb : W.heap[w.heap.size + 3]? = some (.cells #[.slice A X.length cap] 38 (0, 0))
  row : W.ownsRow (w.heap.size + 5) 52 4 (.slice A X.length cap) X.length (X.flatMap ndC)
  fs : ∀ x ∈ X, W.ownsRow (w.heap.size + 5) 3 1 (.slice x.2.1 x.1.fs.length x.2.2) x.1.fs.length (iv x.1.fs)
  sz : ∀ x ∈ X, x.1.tx.size ≤ 100000000 ∧ x.1.fs.length ≤ 100000000
theorem row_block {w : World} {base e size n : Nat} {v : Value} {xs : List Value} (h : w.ownsRow base e size v n xs) {g : Nat} (hg : v.ownBlock = some g) : ∃ cur, w.heap[g]? = some (.cells cur e (0, 0)) := by
  rcases h.2 with ⟨h0, -⟩ | ⟨g', cap', cur, h0, hb, hc, -⟩
  · rw [h0] at hg; simp [Value.ownBlock] at hg
  · rw [h0] at hg; simp [Value.ownBlock] at hg; subst hg; exact ⟨cur, hc⟩
/-- It stays where all blocks of cells stay. -/
theorem PaAt.blocks {w W W' : World} {X : List Px} {A : Option Addr} {cap : Nat} (h : PaAt w X A cap W) (hb : Below w.heap.size w W') (hs : W.heap.size ≤ W'.heap.size) (hk : ∀ (k : Nat) (cur : Array Value) (e : TypeId) (f : Nat × Nat), W.heap[k]? = some (.cells cur e f) → W'.heap[k]? = some (.cells cur e f)) : PaAt w X A cap W' where
  below := hb
  size := Nat.le_trans h.size hs
  r0 := hk _ _ _ _ h.r0
  r1 := hk _ _ _ _ h.r1
  r2 := hk _ _ _ _ h.r2
  lb := hk _ _ _ _ h.lb
  row := ownsRow_of_block h.row (fun g hg => by obtain ⟨cur, hc⟩ := row_block h.row hg; rw [hk _ _ _ _ hc, hc])
  fs := fun x hx => ownsRow_of_block (h.fs x hx) (fun g hg => by obtain ⟨cur, hc⟩ := row_block (h.fs x hx) hg; rw [hk _ _ _ _ hc, hc])
  sz := h.sz
theorem PaAt.call {w W W' : World} {X : List Px} {A : Option Addr} {cap : Nat} (h : PaAt w X A cap W) (hb : Below W.heap.size W W') : PaAt w X A cap W' :=
  h.blocks (h.below.trans (hb.mono h.below.size)) hb.size (fun k cur e f hk => by rw [hb.block k (Array.getElem?_eq_some_iff.1 hk).1]; exact hk)
theorem rows_nodes {W : World} {B : Nat} {X : List Px} {A : Option Addr} {cap : Nat} (hrow : W.ownsRow B 52 4 (.slice A X.length cap) X.length (X.flatMap ndC)) (hfs : ∀ x ∈ X, W.ownsRow B 3 1 (.slice x.2.1 x.1.fs.length x.2.2) x.1.fs.length (iv x.1.fs)) (hsz : ∀ x ∈ X, x.1.tx.size ≤ 100000000 ∧ x.1.fs.length ≤ 100000000) : NdsAt W A (X.map (·.1)) ∧ X.length ≤ cap := by
  rcases hrow.2 with ⟨h0, h1⟩ | ⟨g, cap', cur, h0, hb, hg, hle, hm, hs, ht⟩
  · exact ⟨.inl (by rw [List.length_eq_zero_iff.1 h1]; rfl), by omega⟩
  · simp at h0
    obtain ⟨rfl, rfl⟩ := h0
    refine ⟨?_, hle⟩
    by_cases hn : X = []
    · exact .inl (by rw [hn]; rfl)
    refine .inr ⟨g, 0, rfl, fun i hi => ?_⟩
    have hi' : i < X.length := by simpa using hi
    have hc : ∀ j, j < 4 → W.cell? ⟨g, i * 4 + j, none⟩ = (ndC X[i])[j]? := fun j hj => by
      rw [hrow.cellAt (i * 4 + j) (by omega), ndC_at X i hi' j hj]
    have hfs := hfs X[i] (List.getElem_mem hi')
    have hsz := hsz X[i] (List.getElem_mem hi')
    have e : (X.map (·.1))[i] = X[i].1 := by simp
    rw [e, Nat.zero_add]
    refine ⟨hc 0 (by omega), ⟨X[i].2.1, X[i].2.2, hc 1 (by omega), (own_ints hfs rfl).1⟩, hc 2 (by omega), hc 3 (by omega), by omega, by omega⟩
theorem PaAt.nodes {w W : World} {X : List Px} {A : Option Addr} {cap : Nat} (h : PaAt w X A cap W) : NdsAt W A (X.map (·.1)) ∧ X.length ≤ cap := rows_nodes h.row h.fs h.sz
theorem PaAt.later {w W W' : World} {X : List Px} {A : Option Addr} {cap : Nat} (h : PaAt w X A cap W) (hk : ∀ (k : Nat) (cur : Array Value) (e : TypeId) (f : Nat × Nat), w.heap.size + 5 ≤ k → W.heap[k]? = some (.cells cur e f) → W'.heap[k]? = some (.cells cur e f)) : NdsAt W' A (X.map (·.1)) :=
  (rows_nodes (ownsRow_of_block h.row (fun g hg => by obtain ⟨cur, hc⟩ := row_block h.row hg; rw [hk _ _ _ _ (h.row.lt g hg).1 hc, hc])) (fun x hx => ownsRow_of_block (h.fs x hx) (fun g hg => by obtain ⟨cur, hc⟩ := row_block (h.fs x hx) hg; rw [hk _ _ _ _ ((h.fs x hx).lt g hg).1 hc, hc])) h.sz).1
/-- One node more. -/
theorem PaAt.snoc {w u w3 : World} {X : List Px} {A A' : Option Addr} {cap cap' : Nat} (h : PaAt w X A cap u) {x : Px} (hnd : u.ownsRow (w.heap.size + 5) 3 1 (.slice x.2.1 x.1.fs.length x.2.2) x.1.fs.length (iv x.1.fs)) (hsz : x.1.tx.size ≤ 100000000 ∧ x.1.fs.length ≤ 100000000) {o : Obj}
    (hgrow : (u.alloc o).grownBy w3 (Value.slice A X.length cap).ownBlock) (hown' : w3.ownsRow (w.heap.size + 5) 52 4 (.slice A' (X.length + 1) cap') (X.length + 1) (X.flatMap ndC ++ ndC x)) :
    w3.cell? ⟨w.heap.size + 3, 0, none⟩ = some (.slice A X.length cap) ∧ w3.frozen? ⟨w.heap.size + 3, 0, none⟩ = false ∧ w.heap.size + 3 < w3.heap.size ∧ PaAt w (X ++ [x]) A' cap' (w3.setCell ⟨w.heap.size + 3, 0, none⟩ (.slice A' (X.length + 1) cap')) ∧
    KeepsFrom (w.heap.size + 5) u (w3.setCell ⟨w.heap.size + 3, 0, none⟩ (.slice A' (X.length + 1) cap')) := by
  have hz := h.size
  have hA : ∀ k, k < u.heap.size → (u.alloc o).heap[k]? = u.heap[k]? := fun k hk => ((Below.refl _ _).alloc (Nat.le_refl _) o).block k hk
  have hrb : ∀ b, (Value.slice A X.length cap).ownBlock = some b → w.heap.size + 5 ≤ b ∧ ∃ cur, u.heap[b]? = some (.cells cur 52 (0, 0)) := fun b hb => ⟨(h.row.lt b hb).1, row_block h.row hb⟩
  have hbk : ∀ k, k < u.heap.size → (Value.slice A X.length cap).ownBlock ≠ some k → w3.heap[k]? = u.heap[k]? := fun k hk hn => (hgrow.block k (by simp; omega) (fun e => hn e.symm)).trans (hA k hk)
  have hlow : ∀ k, k < w.heap.size + 5 → w3.heap[k]? = u.heap[k]? := fun k hk => hbk k (by omega) (fun e => by have := (hrb k e).1; omega)
  have hlb := (hlow (w.heap.size + 3) (by omega)).trans h.lb
  have hset : ∀ k, k ≠ w.heap.size + 3 → (w3.setCell ⟨w.heap.size + 3, 0, none⟩ (.slice A' (X.length + 1) cap')).heap[k]? = w3.heap[k]? := fun k hk => Below.heap_setCell _ _ _ _ hk
  have hs3 : (u.alloc o).heap.size ≤ w3.heap.size := hgrow.size
  have hs4 : u.heap.size + 1 ≤ w3.heap.size := by simpa using hs3
  have hint : ∀ (y : Px), u.ownsRow (w.heap.size + 5) 3 1 (.slice y.2.1 y.1.fs.length y.2.2) y.1.fs.length (iv y.1.fs) → (w3.setCell ⟨w.heap.size + 3, 0, none⟩ (.slice A' (X.length + 1) cap')).ownsRow (w.heap.size + 5) 3 1 (.slice y.2.1 y.1.fs.length y.2.2) y.1.fs.length (iv y.1.fs) := fun y hy => by
    refine ownsRow_of_block hy (fun g hg => ?_)
    obtain ⟨cur, hc⟩ := row_block hy hg
    have hlt := hy.lt g hg
    rw [hset g (by omega)]
    refine hbk g hlt.2 (fun e => ?_)
    obtain ⟨-, cur2, hc2⟩ := hrb g e
    rw [hc] at hc2
    injection hc2 with hc2; injection hc2 with _ hc2
    revert hc2; decide
  have hb3 : Below w.heap.size w w3 := (h.below.alloc (by omega) o).grown hgrow (by simp; omega) (fun k hk => by have := (hrb k hk).1; omega)
  refine ⟨by simp [World.cell?, hlb], by simp [World.frozen?, hlb], by omega, ⟨hb3.setCell (by simp) _, ?_, ?_, ?_, ?_, ?_, ?_, ?_, ?_⟩, ⟨?_, ?_⟩⟩
  · simp; omega
  · rw [hset _ (by omega), hlow _ (by omega)]; exact h.r0
  · rw [hset _ (by omega), hlow _ (by omega)]; exact h.r1
  · rw [hset _ (by omega), hlow _ (by omega)]; exact h.r2
  · rw [List.length_append]
    simp [World.setCell, Array.getElem?_modify, hlb]
  · rw [List.length_append, List.flatMap_append]
    have e : [x].flatMap ndC = ndC x := by simp
    rw [e]
    exact ownsRow_setCell_below hown' (by simp) _
  · intro y hy
    rcases List.mem_append.1 hy with hy | hy
    · exact hint y (h.fs y hy)
    · simp at hy; subst hy; exact hint y hnd
  · intro y hy
    rcases List.mem_append.1 hy with hy | hy
    · exact h.sz y hy
    · simp at hy; subst hy; exact hsz
  · simp; omega
  · intro k ob hk1 hk2 hk3
    have hlt : k < u.heap.size := (Array.getElem?_eq_some_iff.1 hk2).1
    rw [hset k (by omega), hbk k hlt (fun e => by
      obtain ⟨-, cur, hc⟩ := hrb k e
      rw [hc] at hk2; injection hk2 with hk2; subst hk2; cases hk3)]
    exact hk2
theorem PaAt.cells {w u : World} {X : List Px} {A : Option Addr} {cap : Nat} (h : PaAt w X A cap u) : (u.cell? ⟨w.heap.size, 0, none⟩ = some (.slice none 0 0) ∧ u.cell? ⟨w.heap.size + 1, 0, none⟩ = some (.int .i64 0) ∧ u.cell? ⟨w.heap.size + 2, 0, none⟩ = some .nilIface ∧ u.cell? ⟨w.heap.size + 3, 0, none⟩ = some (.slice A X.length cap)) ∧
    (u.frozen? ⟨w.heap.size, 0, none⟩ = false ∧ u.frozen? ⟨w.heap.size + 1, 0, none⟩ = false ∧ u.frozen? ⟨w.heap.size + 2, 0, none⟩ = false ∧ u.frozen? ⟨w.heap.size + 3, 0, none⟩ = false) := by
  have h0 := h.r0; have h1 := h.r1; have h2 := h.r2; have h3 := h.lb
  simp [World.cell?, World.frozen?, h0, h1, h2, h3]
end Go.Proofs.YtnapbfilkahobaaGreatDoor

/- Parse. -/
namespace Go.Proofs.YtnapbfilkahobaaGreatDoor
open Go.RowKit Go.Shelf
set_option linter.unusedVariables false
attribute [local go_sem] Oper.semAt_some
/-- Parse has said no. -/
structure PaBad (w : World) (a er : Nat) (W : World) : Prop where
  below : Below w.heap.size w W
  size : w.heap.size + 5 ≤ W.heap.size
  r0 : W.heap[w.heap.size]? = some (.cells #[.slice none 0 0] 38 (0, 0))
  r1 : W.heap[w.heap.size + 1]? = some (.cells #[.int .i64 a] 3 (0, 0))
  r2 : W.heap[w.heap.size + 2]? = some (.cells #[errV er] 28 (0, 0))
def PsEnd (w : World) (l : List UInt8) (e : Ending) (w' : World) : Prop := Below w.heap.size w w' ∧
  ((∃ m A cap, parseP false l = .ok m ∧ e = .returned (.tuple #[.slice A (List.length m) cap, .int .i64 0, .nilIface]) ∧ NdsAt w' A m ∧ List.length m ≤ cap) ∨
   (∃ a er, parseP false l = .bad a er ∧ e = .returned (.tuple #[.slice none 0 0, .int .i64 (a : Nat), errV er])))
theorem pa_three {w W : World} {X : List Px} {A : Option Addr} {cap : Nat} (h : PaAt w X A cap W) (a b c : Value) :
    (((W.setCell ⟨w.heap.size, 0, none⟩ a).setCell ⟨w.heap.size + 1, 0, none⟩ b).setCell ⟨w.heap.size + 2, 0, none⟩ c).heap[w.heap.size]? = some (.cells #[a] 38 (0, 0)) ∧
    (((W.setCell ⟨w.heap.size, 0, none⟩ a).setCell ⟨w.heap.size + 1, 0, none⟩ b).setCell ⟨w.heap.size + 2, 0, none⟩ c).heap[w.heap.size + 1]? = some (.cells #[b] 3 (0, 0)) ∧
    (((W.setCell ⟨w.heap.size, 0, none⟩ a).setCell ⟨w.heap.size + 1, 0, none⟩ b).setCell ⟨w.heap.size + 2, 0, none⟩ c).heap[w.heap.size + 2]? = some (.cells #[c] 28 (0, 0)) ∧
    Below w.heap.size w (((W.setCell ⟨w.heap.size, 0, none⟩ a).setCell ⟨w.heap.size + 1, 0, none⟩ b).setCell ⟨w.heap.size + 2, 0, none⟩ c) ∧
    (((W.setCell ⟨w.heap.size, 0, none⟩ a).setCell ⟨w.heap.size + 1, 0, none⟩ b).setCell ⟨w.heap.size + 2, 0, none⟩ c).heap.size = W.heap.size ∧
    (∀ k, w.heap.size + 3 ≤ k → (((W.setCell ⟨w.heap.size, 0, none⟩ a).setCell ⟨w.heap.size + 1, 0, none⟩ b).setCell ⟨w.heap.size + 2, 0, none⟩ c).heap[k]? = W.heap[k]?) := by
  have h0 := h.r0; have h1 := h.r1; have h2 := h.r2
  have s0 : ∀ (u : World) (p : Addr) (v : Value) (k : Nat), k ≠ p.block → (u.setCell p v).heap[k]? = u.heap[k]? := fun u p v k hk => Below.heap_setCell _ _ _ _ hk
  refine ⟨?_, ?_, ?_, (((h.below.setCell (Nat.le_refl _) _).setCell (by simp) _).setCell (by simp) _), by simp, fun k hk => ?_⟩
  · rw [s0 _ _ _ _ (by simp), s0 _ _ _ _ (by simp)]
    simp [World.setCell, Array.getElem?_modify, h0]
  · rw [s0 _ _ _ _ (by simp)]
    have e : (W.setCell ⟨w.heap.size, 0, none⟩ a).heap[w.heap.size + 1]? = some (.cells #[.int .i64 0] 3 (0, 0)) := by rw [s0 _ _ _ _ (by simp)]; exact h1
    generalize W.setCell ⟨w.heap.size, 0, none⟩ a = u at *
    simp [World.setCell, Array.getElem?_modify, e]
  · have e : ((W.setCell ⟨w.heap.size, 0, none⟩ a).setCell ⟨w.heap.size + 1, 0, none⟩ b).heap[w.heap.size + 2]? = some (.cells #[.nilIface] 28 (0, 0)) := by rw [s0 _ _ _ _ (by simp), s0 _ _ _ _ (by simp)]; exact h2
    generalize (W.setCell ⟨w.heap.size, 0, none⟩ a).setCell ⟨w.heap.size + 1, 0, none⟩ b = u at *
    simp [World.setCell, Array.getElem?_modify, e]
  · rw [s0 _ _ _ _ (by simp; omega), s0 _ _ _ _ (by simp; omega), s0 _ _ _ _ (by simp; omega)]
theorem pa_fin {w W : World} {D : Nat} (o : Obj) {a b c : Value} (hb : Below w.heap.size w W) (hs : w.heap.size + 5 ≤ W.heap.size) (hD : w.heap.size + 5 ≤ D) (r0 : W.heap[w.heap.size]? = some (.cells #[a] 38 (0, 0))) (r1 : W.heap[w.heap.size + 1]? = some (.cells #[b] 3 (0, 0))) (r2 : W.heap[w.heap.size + 2]? = some (.cells #[c] 28 (0, 0))) :
    ((W.putObj D o).cell? ⟨w.heap.size, 0, none⟩ = some a ∧ (W.putObj D o).cell? ⟨w.heap.size + 1, 0, none⟩ = some b ∧ (W.putObj D o).cell? ⟨w.heap.size + 2, 0, none⟩ = some c) ∧ Below w.heap.size w (W.putObj D o) := by
  have hk : ∀ k, k < w.heap.size + 5 → (W.putObj D o).heap[k]? = W.heap[k]? := fun k hk => World.putObj_heap_other (by omega)
  refine ⟨⟨by simp [World.cell?, hk w.heap.size (by omega), r0], by simp [World.cell?, hk (w.heap.size + 1) (by omega), r1], by simp [World.cell?, hk (w.heap.size + 2) (by omega), r2]⟩, hb.grown (grownBy_putObj' W D o) (by omega) (fun k e => by injection e with e; omega)⟩
theorem pa_bad {w W : World} {X : List Px} {A : Option Addr} {cap : Nat} (h : PaAt w X A cap W) (a er : Nat) : PaBad w a er (((W.setCell ⟨w.heap.size, 0, none⟩ (.slice none 0 0)).setCell ⟨w.heap.size + 1, 0, none⟩ (.int .i64 (a : Int))).setCell ⟨w.heap.size + 2, 0, none⟩ (errV er)) := by
  obtain ⟨r0, r1, r2, hb, hs, -⟩ := pa_three h (.slice none 0 0) (.int .i64 (a : Int)) (errV er)
  exact ⟨hb, by rw [hs]; exact h.size, r0, r1, r2⟩
theorem keeps_three {w W0 W : World} {X : List Px} {A : Option Addr} {cap : Nat} (h : PaAt w X A cap W) (a b c : Value) (hk : KeepsFrom (w.heap.size + 5) W0 W) : KeepsFrom (w.heap.size + 5) W0 (((W.setCell ⟨w.heap.size, 0, none⟩ a).setCell ⟨w.heap.size + 1, 0, none⟩ b).setCell ⟨w.heap.size + 2, 0, none⟩ c) := by
  obtain ⟨-, -, -, -, hs, hkk⟩ := pa_three h a b c
  exact hk.trans ⟨by rw [hs]; exact Nat.le_refl _, fun k o hB hk _ => by rw [hkk k (by omega)]; exact hk⟩
theorem keeps_below {B : Nat} {W W1 : World} (hb : Below W.heap.size W W1) : KeepsFrom B W W1 := ⟨hb.size, fun k o _ hk _ => by rw [hb.block k (Array.getElem?_eq_some_iff.1 hk).1]; exact hk⟩
theorem keeps_alloc {B : Nat} {W W1 : World} (h : KeepsFrom B W W1) (o : Obj) : KeepsFrom B W (W1.alloc o) := h.trans (keeps_below ((Below.refl _ _).alloc (Nat.le_refl _) o))
theorem up_alloc0 {w : World} {k : Nat} {ob : Obj} (h : w.heap[k]? = some ob) (o : Obj) : (w.alloc o).heap[k]? = some ob := (((Below.refl _ _).alloc (Nat.le_refl _) o).block k (Array.getElem?_eq_some_iff.1 h).1).trans h
theorem PaBad.alloc {w W : World} {a er : Nat} (h : PaBad w a er W) (o : Obj) : PaBad w a er (W.alloc o) := ⟨h.below.alloc (by have := h.size; omega) o, by have := h.size; simp; omega, up_alloc0 h.r0 o, up_alloc0 h.r1 o, up_alloc0 h.r2 o⟩
theorem cell_four_new2 (w : World) (o : Obj) (a b c d : Value) (t : TypeId) : ∀ j u, [a, b, c, d][j]? = some u → ((w.alloc o).alloc (.cells #[a, b, c, d] t)).cell? ((⟨w.heap.size + 1, 0, none⟩ : Addr).add j) = some u := by
  intro j u hj
  have h := cell_four_new (w.alloc o) a b c d t j u hj
  have e : (w.alloc o).heap.size = w.heap.size + 1 := by simp
  rw [e] at h; exact h
theorem up_alloc {w : World} {k : Nat} {ob : Obj} (h : w.heap[k]? = some ob) (o : Obj) : (w.alloc o).heap[k]? = some ob := (((Below.refl _ _).alloc (Nat.le_refl _) o).block k (Array.getElem?_eq_some_iff.1 h).1).trans h
theorem new_alloc {w : World} {k : Nat} (o : Obj) (h : k = w.heap.size) : (w.alloc o).heap[k]? = some o := by subst h; exact Array.getElem?_push_size
theorem pa_start (w : World) (s : ByteArray) : PaAt w [] none 0 (((((w.alloc (.cells #[.slice none 0 0] 38)).alloc (.cells #[.int .i64 0] 3)).alloc (.cells #[.nilIface] 28)).alloc (.cells #[.slice none 0 0] 38)).alloc (.cells #[.string s] 9)) ∧ (((((w.alloc (.cells #[.slice none 0 0] 38)).alloc (.cells #[.int .i64 0] 3)).alloc (.cells #[.nilIface] 28)).alloc (.cells #[.slice none 0 0] 38)).alloc (.cells #[.string s] 9)).cell? ⟨w.heap.size + 4, 0, none⟩ = some (.string s) ∧ (((((w.alloc (.cells #[.slice none 0 0] 38)).alloc (.cells #[.int .i64 0] 3)).alloc (.cells #[.nilIface] 28)).alloc (.cells #[.slice none 0 0] 38)).alloc (.cells #[.string s] 9)).heap.size = w.heap.size + 5 := by
  refine ⟨⟨?_, by simp, ?_, ?_, ?_, ?_, World.ownsRow_nil _ _ _ _, by simp, by simp⟩, by simp [go_sem], by simp⟩
  · exact ((((((Below.refl _ w).alloc (Nat.le_refl _) _).alloc (by simp) _).alloc (by simp; omega) _).alloc (by simp; omega) _).alloc (by simp; omega) _)
  · exact up_alloc (up_alloc (up_alloc (up_alloc (new_alloc _ rfl) _) _) _) _
  · exact up_alloc (up_alloc (up_alloc (new_alloc _ (by simp)) _) _) _
  · exact up_alloc (up_alloc (new_alloc _ (by simp)) _) _
  · exact up_alloc (new_alloc _ (by simp)) _
set_option maxRecDepth 100000 in
set_option maxHeartbeats 2000000 in
theorem jparse_any {w : World} (hg : Gj w) (s : ByteArray) (hs : s.size ≤ 100000000) : Calls Tryz.prog 24 #[.string s] w (PsEnd w s.data.toList) := by
  refine (callsIn_wide (n := 4)).1 ?_
  have f6 : Fence.wide.fn 54 := trivial
  refine callsIn_of_wp_marks Tryz.func24 rfl trivial ?_ rfl
  simp only [Tryz.ntmps24, List.size_toArray, List.length_cons, List.length_nil, Nat.reduceAdd, Nat.reduceSub, Array.replicate_succ, Array.replicate_zero, List.push_toArray, List.append_toArray, List.nil_append, List.cons_append]
  gi_wp2_with (gi_at_call 54; refine (lines_in 3 _ _).mono ?_; rintro e w' ⟨rfl, rfl⟩)
  obtain ⟨hP0, hc0, hz0⟩ := pa_start w s
  simp only [Nat.add_assoc, Nat.reduceAdd]
  generalize (((((w.alloc (.cells #[.slice none 0 0] 38)).alloc (.cells #[.int .i64 0] 3)).alloc (.cells #[.nilIface] 28)).alloc (.cells #[.slice none 0 0] 38)).alloc (.cells #[.string s] 9)) = w5 at *
  have h1 : 1 ≤ 4 := by omega
  have HG := Lib.hid hg
  clear hg
  refine wpIn_rangeFunc_ownH (F := Fence.wide) (n := 4) (encs := encLi) rfl h1 (gf := 89) (lb := #[.pointer (some ⟨w.heap.size + 4, 0, none⟩)]) rfl trivial (enters_of Tryz.func89 (by kernel_rfl) rfl)
    (lines_stops 3 (by omega) (w.heap.size + 4) s hs w5 (by omega) hc0) (fun _ _ => trivial) ?hKb (Below.refl _ _) (fun _ => rfl)
    (fun pre W => ∃ X A cap, PaAt w X A cap W ∧ stL (pre.map (·.1)) = .ok (X.map (·.1)))
    (fun c pre W => c = .ret ∧ ∃ a er, PaBad w a er W ∧ stL (pre.map (·.1)) = .bad a er) ?hI ?hIx ?h0
    (fun x a' W => a' = { tmps := #[.string s, undef, .pointer (some ⟨w.heap.size, 0, none⟩), .pointer (some ⟨w.heap.size + 1, 0, none⟩), .pointer (some ⟨w.heap.size + 2, 0, none⟩), .pointer (some ⟨w.heap.size + 3, 0, none⟩), .string ⟨x.1.1.toArray⟩, .bool x.1.2, undef, undef, undef, undef, undef, .string s, .func (.func 89) #[] #[.pointer (some ⟨w.heap.size + 4, 0, none⟩)], .string ⟨x.1.1.toArray⟩, .bool x.1.2, undef, undef, undef, undef, undef, undef, undef, undef, undef, undef, undef, undef, undef, undef, undef, undef, undef, undef, undef, undef, undef, undef, undef, undef, undef, undef, undef, undef, undef, undef, undef, undef, undef, undef, undef, undef, undef, undef], defers := [] }) ?hAx ?assign ?body ?done ?stop
  case hKb => exact fun _ _ _ _ _ _ _ _ => trivial
  case hI =>
    rintro p A' B' row ⟨X, A, cap, h, hst⟩ hg' hr
    have hk : ∀ (k : Nat) (cur : Array Value) (e : TypeId) (f : Nat × Nat), A'.heap[k]? = some (.cells cur e f) → B'.heap[k]? = some (.cells cur e f) := fun k cur e f hk => (hg'.block k (Array.getElem?_eq_some_iff.1 hk).1 (fun e => by
      obtain ⟨-, o, ho, hno⟩ := hr k e.symm
      rw [hk] at ho; injection ho with ho; subst ho; cases hno)).trans hk
    exact ⟨X, A, cap, h.blocks (h.below.grown hg' (by have := h.size; omega) (fun k e => by have := (hr k e).1; omega)) hg'.size hk, hst⟩
  case hIx =>
    rintro c p A' B' row ⟨rfl, a, er, h, hst⟩ hg' hr
    have hk : ∀ (k : Nat) (cur : Array Value) (e : TypeId) (f : Nat × Nat), A'.heap[k]? = some (.cells cur e f) → B'.heap[k]? = some (.cells cur e f) := fun k cur e f hk => (hg'.block k (Array.getElem?_eq_some_iff.1 hk).1 (fun e => by
      obtain ⟨-, o, ho, hno⟩ := hr k e.symm
      rw [hk] at ho; injection ho with ho; subst ho; cases hno)).trans hk
    exact ⟨rfl, a, er, ⟨h.below.grown hg' (by have := h.size; omega) (fun k e => by have := (hr k e).1; omega), Nat.le_trans h.size hg'.size, hk _ _ _ _ h.r0, hk _ _ _ _ h.r1, hk _ _ _ _ h.r2⟩, hst⟩
  case h0 => exact ⟨[], none, 0, hP0, stL_nil⟩
  case hAx => exact fun x a' s A' B' row hs _ _ => hs
  case assign =>
    intro l pre x W K hi hK
    unfold encLi
    gi_wp2
    exact hK _ _ (KeepsFrom.refl _ _) trivial hi rfl
  case body =>
    rintro l pre x a' W hl ⟨r, hr⟩ ⟨X, A, cap, h, hst⟩ rfl hlt
    obtain ⟨⟨line, ended⟩, hls⟩ := x
    simp only at hls
    have HRn := rn_any (HG.out.below h.below) ⟨line.toArray⟩ (by simp [ByteArray.size]; omega)
    have hfn : (Fence.wide.inRound l).fn 55 := trivial
    have hfc : (Fence.wide.inRound l).fn 45 := trivial
    have hfn' : Fence.wide.fn 55 := trivial
    have hfc' : Fence.wide.fn 45 := trivial
    obtain ⟨⟨c0, c1, c2, c3⟩, f0, f1, f2, f3⟩ := h.cells
    have hsz := h.size
    have HH := Lib.hid h
    have HSt := Lib.hid hst
    clear h hst
    rcases hrd : readNd false line with _ | nd
    · have HRn' : Calls Tryz.prog 55 #[.string ⟨line.toArray⟩] W fun e w' => Below W.heap.size W w' ∧ ∃ (k n : Int) (A : Option Addr) (ln cp : Nat) (tx : ByteArray), e = .returned (.tuple #[.agg #[.int .i64 k, .slice A ln cp, .string tx, .int .i64 n], .bool false]) := HRn.mono (by
        rintro e w' ⟨hb, ⟨-, hv⟩ | ⟨nd, fa, fc, hcon, -⟩⟩
        · exact ⟨hb, hv⟩
        · exfalso; rw [show (⟨line.toArray⟩ : ByteArray).data.toList = line from rfl, hrd] at hcon; cases hcon)
      clear HRn
      gi_wp2_with (gi_at_call 55; refine (CallsIn.inRound l (callsIn_wide.2 HRn')).mono ?_; rintro e W1 ⟨hb1, k', n', A', ln', cp', tx', rfl⟩; have h1 := HH.out.call hb1; obtain ⟨⟨c0, c1, c2, c3⟩, f0, f1, f2, f3⟩ := h1.cells; have hsz1 := h1.size; have hl0 : w.heap.size < W1.heap.size := (by omega); have hl1 : w.heap.size + 1 < W1.heap.size := (by omega); have hl2 : w.heap.size + 2 < W1.heap.size := (by omega); have hl3 : w.heap.size + 3 < W1.heap.size := (by omega); have HH1 := Lib.hid h1; clear h1)
      have e2 : errV 2 = .iface 76 (.int .i64 2) := errV_pos (by decide)
      exact ⟨by rw [hz0]; exact keeps_alloc (keeps_three HH1.out _ _ _ (keeps_below hb1)) _, rfl, X.length, 2, by rw [← e2]; exact (pa_bad HH1.out X.length 2).alloc _, by rw [List.map_append]; exact (stL_snoc HSt.out _).trans ((st_none hrd).trans (by rw [List.length_map]))⟩
    · have HRn' : Calls Tryz.prog 55 #[.string ⟨line.toArray⟩] W fun e w' => Below W.heap.size W w' ∧ ∃ fa fc, e = .returned (.tuple #[ndV nd fa fc, .bool true]) ∧ w'.ownsRow W.heap.size 3 1 (.slice fa nd.fs.length fc) nd.fs.length (iv nd.fs) := HRn.mono (by
        rintro e w' ⟨hb, ⟨hcon, -⟩ | ⟨nd', fa, fc, hcon, rfl, ho⟩⟩
        · exfalso; rw [show (⟨line.toArray⟩ : ByteArray).data.toList = line from rfl, hrd] at hcon; cases hcon
        · rw [show (⟨line.toArray⟩ : ByteArray).data.toList = line from rfl, hrd] at hcon
          injection hcon with hcon
          subst hcon
          exact ⟨hb, fa, fc, rfl, ho⟩)
      clear HRn
      simp only [ndV] at HRn'
      have HRd := Lib.hid hrd
      have hX12 : X.length ≤ 12 := by have := stL_le (ah := []) (by simp) HSt.out; rwa [List.length_map] at this
      clear hrd
      have e2 : Hid (errV 2 = .iface 76 (.int .i64 2)) := errV_pos (by decide)
      have e4 : Hid (errV 4 = .iface 76 (.int .i64 4)) := errV_pos (by decide)
      cases ended with
      | false =>
        gi_wp2_with (gi_at_call 55; refine (CallsIn.inRound l (callsIn_wide.2 HRn')).mono ?_; rintro e W1 ⟨hb1, fa, fc, rfl, hnd⟩; have h1 := HH.out.call hb1; obtain ⟨⟨c0, c1, c2, c3⟩, f0, f1, f2, f3⟩ := h1.cells; have hsz1 := h1.size; have hl0 : w.heap.size < W1.heap.size := (by omega); have hl1 : w.heap.size + 1 < W1.heap.size := (by omega); have hl2 : w.heap.size + 2 < W1.heap.size := (by omega); have hl3 : w.heap.size + 3 < W1.heap.size := (by omega); have HH1 := Lib.hid h1; have HNd := Lib.hid hnd; clear h1 hnd)
        exact ⟨by rw [hz0]; exact keeps_alloc (keeps_three HH1.out _ _ _ (keeps_below hb1)) _, rfl, X.length, 2, by rw [← e2.out]; exact (pa_bad HH1.out X.length 2).alloc _, by rw [List.map_append]; exact (stL_snoc HSt.out _).trans ((st_open rfl).trans (by rw [List.length_map]))⟩
      | true =>
        by_cases h12 : X.length = 12
        · have h12I : ((X.length : Int) == 12) = true := by rw [h12]; rfl
          have H12 := Lib.hid h12
          clear h12
          gi_wp2_with (gi_at_call 55; refine (CallsIn.inRound l (callsIn_wide.2 HRn')).mono ?_; rintro e W1 ⟨hb1, fa, fc, rfl, hnd⟩; have h1 := HH.out.call hb1; obtain ⟨⟨c0, c1, c2, c3⟩, f0, f1, f2, f3⟩ := h1.cells; have hsz1 := h1.size; have hl0 : w.heap.size < W1.heap.size := (by omega); have hl1 : w.heap.size + 1 < W1.heap.size := (by omega); have hl2 : w.heap.size + 2 < W1.heap.size := (by omega); have hl3 : w.heap.size + 3 < W1.heap.size := (by omega); have HH1 := Lib.hid h1; have HNd := Lib.hid hnd; clear h1 hnd)
          exact ⟨by rw [hz0]; exact keeps_alloc (keeps_three HH1.out _ _ _ (keeps_below hb1)) _, rfl, X.length, 4, by rw [← e4.out]; exact (pa_bad HH1.out X.length 4).alloc _, by rw [List.map_append]; exact (stL_snoc HSt.out _).trans ((st_full HRd.out rfl (by rw [List.length_map]; exact H12.out)).trans (by rw [List.length_map]))⟩
        · have h12I : ((X.length : Int) == 12) = false := by simpa using (by omega : ¬ (X.length : Int) = 12)
          have hns := rd_sizes HRd.out
          have hnd2 : nd.tx.size ≤ 100000000 ∧ nd.fs.length ≤ 100000000 := ⟨by omega, by omega⟩
          have HNs := Lib.hid hnd2
          clear hns hnd2
          obtain ⟨j0, hj0, jz0, jz1, jz2⟩ := info_parts Tryz.infoNode
          gi_wp2_with (first | (gi_at_call 55; refine (CallsIn.inRound l (callsIn_wide.2 HRn')).mono ?_; rintro e W1 ⟨hb1, fa, fc, rfl, hnd⟩; have h1 := HH.out.call hb1; obtain ⟨⟨c0, c1, c2, c3⟩, f0, f1, f2, f3⟩ := h1.cells; have hsz1 := h1.size; have hl0 : w.heap.size < W1.heap.size := (by omega); have hl1 : w.heap.size + 1 < W1.heap.size := (by omega); have hl2 : w.heap.size + 2 < W1.heap.size := (by omega); have hl3 : w.heap.size + 3 < W1.heap.size := (by omega); have HU := Lib.hid (h1.call ((Below.refl _ _).alloc (Nat.le_refl _) (.cells #[.int .i64 nd.k, .slice fa nd.fs.length fc, .string nd.tx, .int .i64 nd.n] 52))); have HNd := Lib.hid (own_below (own_base hnd hsz) ((Below.refl _ _).alloc (Nat.le_refl _) (.cells #[.int .i64 nd.k, .slice fa nd.fs.length fc, .string nd.tx, .int .i64 nd.n] 52))); clear h1 hnd) | (gi_at_builtin; refine wpListIn_append_own _ rfl _ _ 38 rfl (w.heap.size + 5) 52 j0 (.agg #[.int .i64 0, .slice none 0 0, .string ⟨#[]⟩, .int .i64 0]) 4 56 Tryz.underlying38 hj0 jz0 jz1 jz2 rfl (by decide) _ _ _ rfl (HU.out.row.alloc _) ⟨W1.heap.size + 1, 0, none⟩ 1 1 (ndC (nd, fa, fc)) rfl rfl (cell_four_new2 _ _ _ _ _ _ _) (by intro u hu; simp [ndC] at hu; rcases hu with rfl | rfl | rfl | rfl <;> rfl) (by unfold maxLen; omega) (by omega) (by simp; omega) ?_))
          intro v' w3 hown' hgrow _
          obtain ⟨A', cap', rfl⟩ := own_form hown'
          obtain ⟨k3, k4, k5, hP4, hKp⟩ := HU.out.snoc (x := (nd, fa, fc)) HNd.out HNs.out hgrow hown'
          have HNode : Calls Tryz.prog 45 #[.slice A' (X.length + 1) cap', .int .i64 (X.length : Int)] (w3.setCell ⟨w.heap.size + 3, 0, none⟩ (.slice A' (X.length + 1) cap')) fun e w' => e = .returned (errV (nodeP (X.map (·.1)) nd)) ∧ Below (w3.setCell ⟨w.heap.size + 3, 0, none⟩ (.slice A' (X.length + 1) cap')).heap.size (w3.setCell ⟨w.heap.size + 3, 0, none⟩ (.slice A' (X.length + 1) cap')) w' := by
            have e1 : ((X ++ [(nd, fa, fc)]).map (·.1)).length = X.length + 1 := by simp
            have hc4 := hP4.nodes.2
            rw [List.length_append] at hc4
            have h := node_any (c := cap') (HG.out.below hP4.below).gl hP4.nodes.1 X.length (by omega) (by omega) (by rw [e1]; exact hc4)
            have e2 : nodeP (((X ++ [(nd, fa, fc)]).map (·.1)).take X.length) ((X ++ [(nd, fa, fc)]).map (·.1))[X.length] = nodeP (X.map (·.1)) nd := by
              congr 1
              · simp
              · simp
            rw [e2, e1] at h
            exact h
          have HKs : Hid (KeepsFrom (w.heap.size + 5) W (w3.setCell ⟨w.heap.size + 3, 0, none⟩ (.slice A' (X.length + 1) cap'))) := (keeps_alloc (keeps_below hb1) _).trans hKp
          have HP4 := Lib.hid hP4
          have hs4 : (w3.setCell ⟨w.heap.size + 3, 0, none⟩ (.slice A' (X.length + 1) cap')).heap.size = w3.heap.size := by simp
          obtain ⟨er, her⟩ : ∃ er, nodeP (X.map (·.1)) nd = er := ⟨_, rfl⟩
          rw [her] at HNode
          have HEr := Lib.hid her
          clear her hP4 hKp hown' hgrow
          have H12 : Hid ((X.map (·.1)).length ≠ 12) := by
            show (X.map (·.1)).length ≠ 12
            rw [List.length_map]; exact h12
          clear h12
          by_cases he : er = 0
          · subst he
            rw [errV_zero] at HNode
            gi_wp2_with (gi_at_call 45; refine (CallsIn.inRound l (callsIn_wide.2 HNode)).mono ?_; rintro e W5 ⟨rfl, hb5⟩)
            exact ⟨by rw [hz0]; exact HKs.out.trans (keeps_below hb5), trivial, X ++ [(nd, fa, fc)], A', cap', HP4.out.call hb5, by rw [List.map_append, List.map_append]; exact (stL_snoc HSt.out _).trans (st_right HRd.out rfl H12.out HEr.out)⟩
          · rw [errV_pos he] at HNode
            gi_wp2_with (gi_at_call 45; refine (CallsIn.inRound l (callsIn_wide.2 HNode)).mono ?_; rintro e W5 ⟨rfl, hb5⟩; have h5 := HP4.out.call hb5; obtain ⟨⟨c0, c1, c2, c3⟩, f0, f1, f2, f3⟩ := h5.cells; have hsz5 := h5.size; have hl0 : w.heap.size < W5.heap.size := (by omega); have hl1 : w.heap.size + 1 < W5.heap.size := (by omega); have hl2 : w.heap.size + 2 < W5.heap.size := (by omega); have hl3 : w.heap.size + 3 < W5.heap.size := (by omega); have HH5 := Lib.hid h5; clear h5)
            have e5 := errV_pos he
            exact ⟨by rw [hz0]; exact keeps_three HH5.out _ _ _ (HKs.out.trans (keeps_below hb5)), rfl, X.length, er, by rw [← e5]; exact pa_bad HH5.out X.length er, by rw [List.map_append]; exact (stL_snoc HSt.out _).trans ((st_wrong HRd.out rfl H12.out (by rw [HEr.out]; exact he)).trans (by rw [List.length_map, HEr.out]))⟩
  case done =>
    rintro D ys W hD hys ⟨X, A, cap, h, hst⟩ hKD
    rw [hys] at hst
    clear hys
    have hl12 : (X.map (·.1)).length ≤ 12 := stL_le (ah := []) (by simp) hst
    obtain ⟨hN, hcap⟩ := h.nodes
    have HE := ends_any (c := cap) hN hl12
    rw [List.length_map] at HE
    obtain ⟨⟨c0, c1, c2, c3⟩, f0, f1, f2, f3⟩ := h.cells
    have hsz := h.size
    have HH := Lib.hid h
    have HSt := Lib.hid hst
    have HKD := Lib.hid hKD
    have hl := hl12
    rw [List.length_map] at hl
    obtain ⟨er, her⟩ : ∃ er, endsP (X.map (·.1)) = er := ⟨_, rfl⟩
    rw [her] at HE
    have HEr := Lib.hid her
    clear her h hst hKD hN hl12
    by_cases he : er = 0
    · subst he
      rw [errV_zero] at HE
      have ff : Fence.wide.fn 46 := trivial
      gi_wp2_with (gi_at_call 46; refine (callsIn_wide.2 HE).mono ?_; rintro e W2 ⟨rfl, hb2⟩; have h2 := HH.out.call hb2; obtain ⟨⟨c0, c1, c2, c3⟩, f0, f1, f2, f3⟩ := h2.cells; have hsz2 := h2.size; have HH2 := Lib.hid h2; have HK2 := Lib.hid ((hb2.block D (Array.getElem?_eq_some_iff.1 HKD.out).1).trans HKD.out); clear h2)
      obtain ⟨r0, r1, r2, hb3, hs3, hk3⟩ := pa_three HH2.out (.slice A X.length cap) (.int .i64 0) .nilIface
      have hK3 := (hk3 D (by omega)).trans HK2.out
      obtain ⟨⟨q0, q1, q2⟩, hb4⟩ := pa_fin (D := D) (.deferred none) hb3 (by omega) (by omega) r0 r1 r2
      have hN4 := HH2.out.later (W' := ((((W2.setCell ⟨w.heap.size, 0, none⟩ (.slice A X.length cap)).setCell ⟨w.heap.size + 1, 0, none⟩ (.int .i64 0)).setCell ⟨w.heap.size + 2, 0, none⟩ .nilIface).putObj D (.deferred none))) (fun k cur e f hk hc => by
        by_cases hkD : k = D
        · subst hkD; rw [HK2.out] at hc; cases hc
        · rw [World.putObj_heap_other hkD, hk3 k (by omega)]; exact hc)
      refine ⟨by simp, .inl ⟨_, _, rfl, run_takeDeferred hK3, ?_⟩⟩
      refine ⟨.tuple #[.slice A X.length cap, .int .i64 0, .nilIface], by simp [results, Tryz.results24, go_sem, q0, q1, q2], hb4, .inl ⟨X.map (·.1), A, cap, ?_, by rw [List.length_map], hN4, by rw [List.length_map]; exact hcap⟩⟩
      rw [parse_done HSt.out]
      exact if_pos HEr.out
    · rw [errV_pos he] at HE
      have ff : Fence.wide.fn 46 := trivial
      gi_wp2_with (gi_at_call 46; refine (callsIn_wide.2 HE).mono ?_; rintro e W2 ⟨rfl, hb2⟩; have h2 := HH.out.call hb2; obtain ⟨⟨c0, c1, c2, c3⟩, f0, f1, f2, f3⟩ := h2.cells; have hsz2 := h2.size; have HH2 := Lib.hid h2; have HK2 := Lib.hid ((hb2.block D (Array.getElem?_eq_some_iff.1 HKD.out).1).trans HKD.out); clear h2)
      refine wpIn_wide.2 ?_
      go_region
      obtain ⟨r0, r1, r2, hb3, hs3, hk3⟩ := pa_three HH2.out (.slice none 0 0) (.int .i64 (X.length : Int)) (.iface 76 (.int .i64 (er : Int)))
      have hK3 := (hk3 D (by omega)).trans HK2.out
      generalize hW3 : ((W2.setCell ⟨w.heap.size, 0, none⟩ (.slice none 0 0)).setCell ⟨w.heap.size + 1, 0, none⟩ (.int .i64 (X.length : Int))).setCell ⟨w.heap.size + 2, 0, none⟩ (.iface 76 (.int .i64 (er : Int))) = W3 at *
      obtain ⟨⟨q0, q1, q2⟩, hb4⟩ := pa_fin (W := W3.drew) (D := D) (.deferred none) (below_drewN hb3 1) (show w.heap.size + 5 ≤ W3.heap.size by omega) (by omega) r0 r1 r2
      gi_wp2
      refine ⟨by simp, .inl ⟨_, _, rfl, run_takeDeferred (w := W3.drew) hK3, ?_⟩⟩
      refine ⟨.tuple #[.slice none 0 0, .int .i64 (X.length : Int), .iface 76 (.int .i64 (er : Int))], by simp [results, Tryz.results24, go_sem, q0, q1, q2], hb4, .inr ⟨X.length, er, ?_, by rw [errV_pos he]⟩⟩
      rw [parse_done HSt.out]
      have e1 : endL (.ok (X.map (·.1))) = .bad (X.map (·.1)).length (endsP (X.map (·.1))) := if_neg (by rw [HEr.out]; exact he)
      rw [e1, HEr.out, List.length_map]
  case stop =>
    rintro D c pre W hD ⟨suf, hsuf⟩ ⟨rfl, a, er, h, hst⟩ hKD
    have hr0 := h.r0; have hr1 := h.r1; have hr2 := h.r2
    gi_wp2
    refine ⟨by simp, .inl ⟨_, _, rfl, run_takeDeferred hKD, ?_⟩⟩
    have hk : ∀ k, k < w.heap.size + 5 → (W.putObj D (.deferred none)).heap[k]? = W.heap[k]? := fun k hk => World.putObj_heap_other (by omega)
    have q0 : (W.putObj D (.deferred none)).cell? ⟨w.heap.size, 0, none⟩ = some (.slice none 0 0) := by simp [World.cell?, hk w.heap.size (by omega), h.r0]
    have q1 : (W.putObj D (.deferred none)).cell? ⟨w.heap.size + 1, 0, none⟩ = some (.int .i64 a) := by simp [World.cell?, hk (w.heap.size + 1) (by omega), h.r1]
    have q2 : (W.putObj D (.deferred none)).cell? ⟨w.heap.size + 2, 0, none⟩ = some (errV er) := by simp [World.cell?, hk (w.heap.size + 2) (by omega), h.r2]
    exact ⟨.tuple #[.slice none 0 0, .int .i64 a, errV er], by simp [results, Tryz.results24, go_sem, q0, q1, q2], h.below.grown (grownBy_putObj' W D (.deferred none)) (by have := h.size; omega) (fun k e => by injection e with e; omega), .inr ⟨a, er, parse_stop hsuf hst, rfl⟩⟩
end Go.Proofs.YtnapbfilkahobaaGreatDoor

/- weirsame.Node and Jobs of two that are the same. -/
namespace Go.Proofs.YtnapbfilkahobaaGreatDoor
open Go.RowKit
set_option linter.unusedVariables false
set_option maxHeartbeats 1000000 in
theorem node_same {w : World} (nd : Nd) {fa fb : Option Addr} {ca cb : Nat} (ha : IntsAt w fa nd.fs) (hb : IntsAt w fb nd.fs) (hl : nd.fs.length ≤ 9223372036854775807) :
    Calls Tryz.prog 56 #[ndV nd fa ca, ndV nd fb cb] w fun e w' => e = .returned (.bool true) ∧ Below w.heap.size w w' := by
  obtain ⟨k, fs, tx, n⟩ := nd
  simp only [ndV] at *
  have hb2 : Below w.heap.size w ((w.alloc (.cells #[.int .i64 k, .slice fa fs.length ca, .string tx, .int .i64 n] 52)).alloc (.cells #[.int .i64 k, .slice fb fs.length cb, .string tx, .int .i64 n] 52)) := ((Below.refl _ _).alloc (Nat.le_refl _) _).alloc (by simp) _
  have HS := ints_same (ha.keep (Keeps.of hb2)) (hb.keep (Keeps.of hb2)) ca cb hl
  have e1 : (k == k) = true := by simp
  have e2 : (n == n) = true := by simp
  have e3 : (tx.toList == tx.toList) = true := by simp
  go_enter Tryz.func56, Tryz.ntmps56
  go_wp2_with (go_at_call 22; refine HS.mono ?_; rintro e w' ⟨rfl, m, rfl⟩)
  go_ret
  exact ⟨rfl, below_drewN hb2 m⟩
set_option maxRecDepth 100000 in
set_option maxHeartbeats 2000000 in
theorem jobs_same {w : World} {la lb : Option Addr} {L : List Nd} (ha : NdsAt w la L) (hb : NdsAt w lb L) (ca cb : Nat) (hl : L.length ≤ 12) :
    Calls Tryz.prog 25 #[.slice la L.length ca, .slice lb L.length cb] w fun e w' => e = .returned (.bool true) ∧ Below w.heap.size w w' := by
  have HA := Lib.hid ha
  have HB := Lib.hid hb
  clear ha hb
  go_enter Tryz.func25, Tryz.ntmps25
  go_wp2_with fail
  go_loopw [5] (fun i wr => ∃ j : Nat, j ≤ L.length ∧ i = .int .i64 j ∧ Below w.heap.size w wr) (fun i _ => L.length - (intOf i).toNat)
  case atStart => exact ⟨0, by omega, rfl, Below.refl _ _⟩
  case round =>
    obtain ⟨j, hj, rfl, hbr⟩ := hrel
    by_cases hlt : j < L.length
    · have hi : (j : Int) < L.length := by omega
      rename World => wr2
      rcases HA.out with ha | ⟨b1, o1, rfl, ha⟩
      · exfalso; rw [ha] at hlt; simp at hlt
      rcases HB.out with hb | ⟨b2, o2, rfl, hb⟩
      · exfalso; rw [hb] at hlt; simp at hlt
      obtain ⟨c0, ⟨fa, fc, c1, ia⟩, c2, c3, -, hfl⟩ := (ha j hlt).keep (Keeps.of hbr)
      obtain ⟨d0, ⟨fb, gc, d1, ib⟩, d2, d3, -⟩ := (hb j hlt).keep (Keeps.of hbr)
      have HN := fun (u : World) (hu : Keeps wr2 u) => node_same (w := u) (ca := fc) (cb := gc) L[j] (ia.keep hu) (ib.keep hu) hfl
      generalize L[j] = nd at *
      obtain ⟨k, fs, tx, n⟩ := nd
      simp only [ndV] at *
      have HBr := Lib.hid hbr
      clear ha hb ia ib hbr
      go_wp2_with fail
      go_region_held3 (fun u => u.cell? ⟨b1, o1 + j * 4, none⟩ = some (.int .i64 k) ∧ u.cell? ⟨b1, o1 + j * 4 + 1, none⟩ = some (.slice fa fs.length fc) ∧ u.cell? ⟨b1, o1 + j * 4 + 2, none⟩ = some (.string tx) ∧ u.cell? ⟨b1, o1 + j * 4 + 3, none⟩ = some (.int .i64 n) ∧ u.cell? ⟨b2, o2 + j * 4, none⟩ = some (.int .i64 k) ∧ u.cell? ⟨b2, o2 + j * 4 + 1, none⟩ = some (.slice fb fs.length gc) ∧ u.cell? ⟨b2, o2 + j * 4 + 2, none⟩ = some (.string tx) ∧ u.cell? ⟨b2, o2 + j * 4 + 3, none⟩ = some (.int .i64 n))
        (first | go_keep | exact ⟨Keeps.of hb3 _ _ c0, Keeps.of hb3 _ _ c1, Keeps.of hb3 _ _ c2, Keeps.of hb3 _ _ c3, Keeps.of hb3 _ _ d0, Keeps.of hb3 _ _ d1, Keeps.of hb3 _ _ d2, Keeps.of hb3 _ _ d3⟩)
        ((go_at_call 56; refine (HN wr2.drew (fun p v hv => hv)).mono ?_; rintro e w3 ⟨rfl, hb3⟩))
      go_wp2_with fail
      exact ⟨⟨j + 1, by omega, by go_num, HBr.out.trans ((⟨hb3.os, hb3.tape, hb3.output, hb3.size, hb3.block⟩ : Below wr2.heap.size wr2 w3).mono HBr.out.size)⟩, by simp [intOf]; omega⟩
    · have hi : ¬ (j : Int) < L.length := by omega
      go_wp2
      go_ret
      exact ⟨rfl, hbr⟩
end Go.Proofs.YtnapbfilkahobaaGreatDoor
