import Derived.Test.YtbppiiomjmpjkabGreatDoorQp
/- Rows of states that came in; a state among some, and where they lie. -/
namespace Go.Proofs.YtbppiiomjmpjkabGreatDoor
open Go.ChangeShapes Go.WideShapes Go.RowKit Go.Shelf Go.Deep
set_option linter.unusedVariables false

set_option maxRecDepth 100000 in
theorem open_hds1 {H : Type} {enc : TypeId × Value → H} {W : World} {fuel : Nat} {v : Value} {x : DataW H × List MemPlace} (hf : DataW.trod enc Tryz.prog W 0 (fun _ => true) true fuel 22 [v] = some x) :
    ∃ (L : List Hd) (q : Option Addr) (c : Nat), v = .slice q L.length c ∧ CsAt W q (hcells L) ∧ (∀ r ∈ L, OkHd r) ∧ L.length ≤ 9223372036854775807 := by
  have hml : maxLen = 9223372036854775807 := rfl
  rcases open_slice Tryz.underlying22 hf with ⟨h0, -⟩ | ⟨a, len', cap', m, n, D, Pl, h0, hb, hl, hm, hmm, -, hx⟩
  · simp at h0
    exact ⟨[], none, 0, h0, .inl rfl, by simp, by simp⟩
  · simp at h0
    obtain ⟨len, hlen0⟩ : ∃ len, len = len' := ⟨_, rfl⟩
    rw [← hlen0] at h0 hl hmm
    clear hlen0
    subst h0
    have hlm : len ≤ m := by rw [hmm]; split <;> omega
    obtain ⟨b, o, spot⟩ := a
    by_cases h00 : len = 0
    · subst h00
      exact ⟨[], some ⟨b, o, spot⟩, cap', rfl, .inl rfl, by simp, by simp⟩
    have hspot : spot = none := by
      obtain ⟨cs', h1, h2⟩ := hx 0 (by omega)
      rw [cellsHd] at h1
      obtain ⟨_, hlen, hcell⟩ := World.cells?_some h1
      have hc := hcell 0 (by omega)
      rw [List.getElem?_eq_getElem (by omega)] at hc
      simpa [Addr.add] using World.cell?_spot hc
    subst hspot
    haveI : Inhabited Hd := ⟨⟨0, ⟨#[]⟩, 0, 0⟩⟩
    obtain ⟨f, hf⟩ := choose_lt (α := Hd) (n := len) (p := fun i r => (W.cell? ⟨b, o + i * 4, none⟩ = some (.int .i64 r.nd) ∧ W.cell? ⟨b, o + i * 4 + 1, none⟩ = some (.string r.key) ∧ W.cell? ⟨b, o + i * 4 + 2, none⟩ = some (.int .i64 r.a) ∧ W.cell? ⟨b, o + i * 4 + 3, none⟩ = some (.int .i64 r.b)) ∧ OkHd r) (fun i hi => by
      obtain ⟨cs', h1, h2⟩ := hx i (by omega)
      rw [cellsHd] at h1
      obtain ⟨_, hlen, hcell⟩ := World.cells?_some h1
      obtain ⟨xs, k, -, -, -, hxl, hfs⟩ := DataW.trod_struct Tryz.underlying27 h2
      match cs', hlen with
      | [v0, v1, v2, v3], _ =>
        have f0 : DataW.trod enc Tryz.prog W 0 (fun _ => true) true k 3 (([v0, v1, v2, v3].drop 0).take (Tryz.prog.cellsOf 3)) = xs[0]? := hfs 0 _ rfl
        have f1 : DataW.trod enc Tryz.prog W 0 (fun _ => true) true k 9 (([v0, v1, v2, v3].drop 1).take (Tryz.prog.cellsOf 9)) = xs[1]? := hfs 1 _ rfl
        have f2 : DataW.trod enc Tryz.prog W 0 (fun _ => true) true k 3 (([v0, v1, v2, v3].drop 2).take (Tryz.prog.cellsOf 3)) = xs[2]? := hfs 2 _ rfl
        have f3 : DataW.trod enc Tryz.prog W 0 (fun _ => true) true k 3 (([v0, v1, v2, v3].drop 3).take (Tryz.prog.cellsOf 3)) = xs[3]? := hfs 3 _ rfl
        simp only [cellsI, cellsS, List.drop, List.take] at f0 f1 f2 f3
        have hxl3 : xs.length = 4 := hxl
        rw [List.getElem?_eq_getElem (by omega)] at f0 f1 f2 f3
        obtain ⟨x0, e0, -, w0⟩ := DataW.trod_int Tryz.underlying3 f0
        obtain ⟨x1, e1, -, w1⟩ := DataW.trod_string Tryz.underlying9 f1
        obtain ⟨x2, e2, -, w2⟩ := DataW.trod_int Tryz.underlying3 f2
        obtain ⟨x3, e3, -, w3⟩ := DataW.trod_int Tryz.underlying3 f3
        simp only [List.cons.injEq, and_true] at e0 e1 e2 e3
        subst e0 e1 e2 e3
        have c0 := hcell 0 (by omega)
        have c1 := hcell 1 (by omega)
        have c2 := hcell 2 (by omega)
        have c3 := hcell 3 (by omega)
        simp only [add_at] at c0 c1 c2 c3
        exact ⟨⟨x0, x1, x2, x3⟩, ⟨by simpa using c0, by simpa using c1, by simpa using c2, by simpa using c3⟩, i64_wf w0, key_ok w1, i64_wf w2, i64_wf w3⟩)
    refine ⟨(List.range len).map f, some ⟨b, o, none⟩, cap', by simp, ?_, fun r hr => ?_, by simp; omega⟩
    · refine hds_of (fun i hi => ?_)
      have hi' : i < len := by simpa using hi
      simpa using (hf i hi').1
    · obtain ⟨i, hi, rfl⟩ := List.mem_map.1 hr
      exact (hf i (by simpa using hi)).2

/-- Rows of states, as they came in. -/
def HssAt (w : World) (p : Option Addr) (S : List (List Hd)) : Prop := S = [] ∨ ∃ b o, p = some ⟨b, o, none⟩ ∧ ∀ i (h : i < S.length), ∃ q c, w.cell? ⟨b, o + i, none⟩ = some (.slice q S[i].length c) ∧ CsAt w q (hcells S[i])
theorem HssAt.keep {w w' : World} {p : Option Addr} {S : List (List Hd)} (h : HssAt w p S) (hb : Below w.heap.size w w') : HssAt w' p S := by
  rcases h with h | ⟨b, o, e, h⟩
  · exact .inl h
  · refine .inr ⟨b, o, e, fun i hi => ?_⟩
    obtain ⟨q, c, h1, h2⟩ := h i hi
    exact ⟨q, c, by rw [hb.cell (cell_lt h1)]; exact h1, h2.keep hb⟩
set_option maxRecDepth 100000 in
theorem open_hss {H : Type} {enc : TypeId × Value → H} {W : World} {a0 : Option Addr} {len cap : Nat} {d0 : DataW H} {p : List MemPlace} (h0 : DataW.Trod enc Tryz.prog W 0 (fun _ => true) true 46 (.slice a0 len cap) d0 p) :
    ∃ S : List (List Hd), len = S.length ∧ HssAt W a0 S ∧ S.length ≤ 9223372036854775807 ∧ ∀ l ∈ S, (∀ r ∈ l, OkHd r) ∧ l.length ≤ 9223372036854775807 := by
  obtain ⟨fuel, hf⟩ := h0
  have hml : maxLen = 9223372036854775807 := rfl
  rcases open_slice1 Tryz.underlying46 (by kernel_rfl) hf with ⟨h0, -⟩ | ⟨a, len', cap', m, n, V, D, Pl, h0, hb, hl, hm, hmm, hx0, hx⟩
  · simp [Value.cells] at h0
    exact ⟨[], h0.2.1, .inl rfl, by simp, by simp⟩
  · simp [Value.cells] at h0
    obtain ⟨rfl, rfl, rfl⟩ := h0
    simp only [if_true] at hmm
    obtain ⟨f, hf⟩ := choose_lt (α := List Hd) (n := len) (p := fun i l => ∃ q c, W.cell? (a.add i) = some (.slice q l.length c) ∧ CsAt W q (hcells l) ∧ (∀ r ∈ l, OkHd r) ∧ l.length ≤ 9223372036854775807) (fun i hi => by
      obtain ⟨h1, h2⟩ := hx i (by omega)
      obtain ⟨l, q, c, hz, hok, hd⟩ := open_hds1 h2
      exact ⟨l, q, c, by rw [h1, hz], hok, hd⟩)
    refine ⟨(List.range len).map f, by simp, ?_, by simp; omega, fun x hx => ?_⟩
    · by_cases h00 : len = 0
      · left; simp [h00]
      · right
        obtain ⟨b, o, spot⟩ := a
        have hspot : spot = none := by
          obtain ⟨q, c, h1, -⟩ := hf 0 (by omega)
          simpa [Addr.add] using World.cell?_spot h1
        subst hspot
        refine ⟨b, o, rfl, fun j hj => ?_⟩
        have hj' : j < len := by simpa using hj
        obtain ⟨q, c, h1, h2, -⟩ := hf j hj'
        rw [add_at] at h1
        exact ⟨q, c, by simpa using h1, by simpa using h2⟩
    · obtain ⟨i, hi, rfl⟩ := List.mem_map.1 hx
      obtain ⟨q, c, -, -, h3⟩ := hf i (by simpa using hi)
      exact h3
set_option maxRecDepth 100000 in
set_option maxHeartbeats 4000000 in
theorem plc_ly (w : World) (la : Option Addr) (c : Nat) (L : List Hd) (r : Hd) (into : Bool) (h : CsAt w la (hcells L)) (hlen : L.length ≤ 1000000) :
    Calls Tryz.prog 9 #[.slice la L.length c, hdV r, .bool into] w fun e w' => ∃ A cap, e = .returned (.slice A (plc r (!into) L).length cap) ∧ CsAt w' A (hcells (plc r (!into) L)) ∧ LyAt w' A 27 ∧ Below w.heap.size w w' := by
  obtain ⟨i0, hi, hz0, hz1, hz2⟩ := info_parts infoHd
  have HA := fun x u => ahead2_any r x u
  generalize hRs : plc r (!into) L = Rs
  have HRs := Lib.hid hRs
  have HP := Lib.hid (plc_cons r)
  have HPe := Lib.hid (plc_nil r)
  have HSm : Hid (∀ x : Hd, Sm x r ↔ x.nd = r.nd ∧ x.key = r.key) := Lib.hid (fun x => Iff.rfl)
  obtain ⟨rn, rk, ra, rb⟩ := r
  simp only [hdV] at HA ⊢
  have hb0 : Below w.heap.size w (w.alloc (.cells #[.int .i64 rn, .string rk, .int .i64 ra, .int .i64 rb] 27)) := (Below.refl _ _).alloc (Nat.le_refl _) _
  have hz : w.heap.size < (w.alloc (.cells #[.int .i64 rn, .string rk, .int .i64 ra, .int .i64 rb] 27)).heap.size := by simp
  have hh0 : (w.alloc (.cells #[.int .i64 rn, .string rk, .int .i64 ra, .int .i64 rb] 27)).heap[w.heap.size]? = some (.cells #[.int .i64 rn, .string rk, .int .i64 ra, .int .i64 rb] 27) := by show (w.heap.push _)[w.heap.size]? = _; rw [Array.getElem?_push_size]
  have hCW : CsAt (w.alloc (.cells #[.int .i64 rn, .string rk, .int .i64 ra, .int .i64 rb] 27)) la (hcells L) := h.keep hb0
  clear hRs h
  go_enter Tryz.func9, Tryz.ntmps9
  go_wp2_with fail
  generalize w.alloc (.cells #[.int .i64 rn, .string rk, .int .i64 ra, .int .i64 rb] 27) = W0 at *
  go_loopw [7, 8, 9] (fun v d i wr => ∃ (k : Nat) (ys : List Hd) (done : Bool), k ≤ L.length ∧ i = .int .i64 k ∧ d = .bool done ∧ wr.ownsRow W0.heap.size 27 4 v ys.length (hcells ys) ∧ Hid (ys ++ plc ⟨rn, rk, ra, rb⟩ done (L.drop k) = Rs) ∧ ys.length ≤ k + 1 ∧ (done = false → ys.length ≤ k) ∧ Below W0.heap.size W0 wr) (fun _ _ i _ => L.length - (intOf i).toNat)
  case atStart => exact ⟨0, [], !into, by omega, rfl, rfl, World.ownsRow_nil _ _ _ _, Lib.hid (by simpa using HRs.out), by simp, by simp, Below.refl _ _⟩
  case round =>
    clear HRs
    obtain ⟨k, ys, done, hk, rfl, rfl, own, hE, hyl, hyd, hb⟩ := hrel
    have hhw : wr.heap[w.heap.size]? = some (.cells #[.int .i64 rn, .string rk, .int .i64 ra, .int .i64 rb] 27) := (hb.block _ hz).trans hh0
    have r0 : wr.cell? ⟨w.heap.size, 0, none⟩ = some (.int .i64 rn) := by simp [World.cell?, hhw]
    have r1 : wr.cell? ⟨w.heap.size, 1, none⟩ = some (.string rk) := by simp [World.cell?, hhw]
    have r2 : wr.cell? ⟨w.heap.size, 2, none⟩ = some (.int .i64 ra) := by simp [World.cell?, hhw]
    have r3 : wr.cell? ⟨w.heap.size, 3, none⟩ = some (.int .i64 rb) := by simp [World.cell?, hhw]
    by_cases hlt : k < L.length
    · have hlt' : (k : Int) < L.length := by omega
      obtain ⟨b, o, rfl, c0, c1, c2, c3⟩ := hds_at (hCW.keep hb) k hlt
      have hbl : b < W0.heap.size := by
        obtain ⟨b', o', eb, q0, -⟩ := hds_at hCW k hlt
        simp only [Option.some.injEq, Addr.mk.injEq, and_true] at eb
        obtain ⟨rfl, rfl⟩ := eb
        exact cell_lt q0
      have hdr : L.drop k = L[k] :: L.drop (k + 1) := (List.getElem_cons_drop (h := hlt)).symm
      have hE2 := hE.out
      rw [hdr, HP.out] at hE2
      have HA1 := HA L[k]
      have hsm := HSm.out L[k]
      have hXC : ∀ u, Below W0.heap.size W0 u → u.cell? ⟨b, o + k * 4, none⟩ = some (.int .i64 L[k].nd) ∧ u.cell? ⟨b, o + k * 4 + 1, none⟩ = some (.string L[k].key) ∧ u.cell? ⟨b, o + k * 4 + 2, none⟩ = some (.int .i64 L[k].a) ∧ u.cell? ⟨b, o + k * 4 + 3, none⟩ = some (.int .i64 L[k].b) := fun u hu => by
        obtain ⟨b', o', eb, q0, q1, q2, q3⟩ := hds_at (hCW.keep hu) k hlt
        simp only [Option.some.injEq, Addr.mk.injEq, and_true] at eb
        obtain ⟨rfl, rfl⟩ := eb
        exact ⟨q0, q1, q2, q3⟩
      clear hE hdr HP HSm HPe HA
      generalize hLr : L.drop (k + 1) = Lr at *
      have HLr := Lib.hid hLr
      clear hLr
      generalize L[k] = x at *
      obtain ⟨xn, xk, xa, xb⟩ := x
      simp only at c0 c1 c2 c3 hsm hXC
      simp only at HA1
      have hold : ∀ u, Below W0.heap.size W0 u → u.cell? ⟨w.heap.size, 0, none⟩ = some (.int .i64 rn) ∧ u.cell? ⟨w.heap.size, 1, none⟩ = some (.string rk) ∧ u.cell? ⟨w.heap.size, 2, none⟩ = some (.int .i64 ra) ∧ u.cell? ⟨w.heap.size, 3, none⟩ = some (.int .i64 rb) ∧ u.cell? ⟨b, o + k * 4, none⟩ = some (.int .i64 xn) ∧ u.cell? ⟨b, o + k * 4 + 1, none⟩ = some (.string xk) ∧ u.cell? ⟨b, o + k * 4 + 2, none⟩ = some (.int .i64 xa) ∧ u.cell? ⟨b, o + k * 4 + 3, none⟩ = some (.int .i64 xb) := fun u hu => by
        have hd : u.heap[w.heap.size]? = some (.cells #[.int .i64 rn, .string rk, .int .i64 ra, .int .i64 rb] 27) := (hu.block _ hz).trans hh0
        obtain ⟨k1, k2, k3, k4⟩ := hXC u hu
        exact ⟨by simp [World.cell?, hd], by simp [World.cell?, hd], by simp [World.cell?, hd], by simp [World.cell?, hd], k1, k2, k3, k4⟩
      have HO := Lib.hid hold
      clear hold hhw hXC hbl
      by_cases hs : xn = rn ∧ xk = rk
      · obtain ⟨rfl, rfl⟩ := hs
        rw [if_pos (hsm.2 ⟨rfl, rfl⟩)] at hE2
        have HE := Lib.hid hE2
        clear hE2 HA1 hsm
        go_wp2_with fail
        go_quiet (fail)
        go_wp2_with fail
        go_roundw
        case rel => exact ⟨k + 1, ys, done, by omega, by go_num, rfl, row_keep own ⟨rfl, rfl, rfl, Nat.le_refl _, fun _ _ => rfl⟩, Lib.hid (by rw [HLr.out]; exact HE.out), by omega, by intro hd; have := hyd hd; omega, ⟨hb.os, hb.tape, hb.output, hb.size, hb.block⟩⟩
        case measure => simp [intOf]; omega
      · rw [if_neg (fun e => hs (hsm.1 e))] at hE2
        have hcase : (xn == rn) = false ∨ ((xn == rn) = true ∧ (xk.toList == rk.toList) = false) := by
          by_cases h1 : xn = rn
          · exact .inr ⟨by simpa using h1, str_ne (fun h2 => hs ⟨h1, h2⟩)⟩
          · exact .inl (by simpa using h1)
        clear hs hsm
        cases done with
        | true =>
          rw [if_neg (by simp)] at hE2
          have HE := Lib.hid hE2
          clear hE2 HA1
          rcases hcase with hn1 | ⟨hn0, hn1⟩
          all_goals
            go_wp2_with fail
            go_quiet (fail)
            have hbq : Below W0.heap.size W0 (wr.drewN nq) := ⟨hb.os, hb.tape, hb.output, hb.size, hb.block⟩
            have ownq := row_keep own (show Below wr.heap.size wr (wr.drewN nq) from ⟨rfl, rfl, rfl, Nat.le_refl _, fun _ _ => rfl⟩)
            generalize wr.drewN nq = Wq at *
            clear own hb r0 r1 r2 r3 c0 c1 c2 c3
            obtain ⟨r0, r1, r2, r3, c0, c1, c2, c3⟩ := HO.out Wq hbq
            go_wp2_with fail
            go_quiet (fail)
            have hbp : Below W0.heap.size W0 (Wq.drewN nq) := ⟨hbq.os, hbq.tape, hbq.output, hbq.size, hbq.block⟩
            have ownp := row_keep ownq (show Below Wq.heap.size Wq (Wq.drewN nq) from ⟨rfl, rfl, rfl, Nat.le_refl _, fun _ _ => rfl⟩)
            generalize Wq.drewN nq = Wp at *
            clear ownq hbq r0 r1 r2 r3 c0 c1 c2 c3
            obtain ⟨r0, r1, r2, r3, c0, c1, c2, c3⟩ := HO.out Wp hbp
            have BU := hbp
            have ownU := ownp
            obtain ⟨q0, q1, q2, q3, q4, q5, q6, q7⟩ := HO.out _ BU
            generalize Wp = U at *
            clear ownp hbp r0 r1 r2 r3 c0 c1 c2 c3 HO
            have hszU : W0.heap.size ≤ U.heap.size := BU.size
            go_wp2_with (at_builtin; refine wpList_append_own _ rfl _ _ 22 rfl W0.heap.size 27 i0 (.agg #[.int .i64 0, .string ⟨#[]⟩, .int .i64 0, .int .i64 0]) 4 40 Tryz.underlying22 hi hz0 hz1 hz2 rfl (by decide) _ _ _ rfl (ownU.alloc _) ⟨U.heap.size, 0, none⟩ 1 1 [.int .i64 xn, .string xk, .int .i64 xa, .int .i64 xb] rfl rfl (cell_four_new _ _ _ _ _ _) (by intro u' hu'; simp at hu'; rcases hu' with rfl | rfl | rfl | rfl <;> rfl) (by unfold maxLen; omega) (by omega) (by simp; omega) ?_)
            intro v3 U3 o3 g3 _
            refine Hid.out ?_
            refine Lib.hid ?_
            have B3 : Below W0.heap.size W0 U3 := fr_own (BU.alloc BU.size _) (by have := BU.size; simp; omega) g3 (ownU.alloc _)
            have p3 : U3.ownsRow W0.heap.size 27 4 v3 (ys ++ [(⟨xn, xk, xa, xb⟩ : Hd)]).length (hcells (ys ++ [(⟨xn, xk, xa, xb⟩ : Hd)])) := by rw [hcells_append, List.length_append]; exact o3
            clear o3 g3 ownU
            go_wp2_with fail
            go_roundw
            case rel => exact ⟨k + 1, ys ++ [(⟨xn, xk, xa, xb⟩ : Hd)], true, by omega, by go_num, rfl, p3, Lib.hid (by rw [HLr.out, ← HE.out]; simp), by simp; omega, by simp, B3⟩
            case measure => simp [intOf]; omega
        | false =>
          have hyk : ys.length ≤ k := hyd rfl
          clear hyd
          by_cases hah : Ah ⟨rn, rk, ra, rb⟩ ⟨xn, xk, xa, xb⟩
          · rw [if_pos ⟨rfl, hah⟩] at hE2
            have HE := Lib.hid hE2
            rw [decide_eq_true hah] at HA1
            clear hE2 hah
            rcases hcase with hn1 | ⟨hn0, hn1⟩
            all_goals
              go_wp2_with fail
              go_quiet (fail)
              have hbq : Below W0.heap.size W0 (wr.drewN nq) := ⟨hb.os, hb.tape, hb.output, hb.size, hb.block⟩
              have ownq := row_keep own (show Below wr.heap.size wr (wr.drewN nq) from ⟨rfl, rfl, rfl, Nat.le_refl _, fun _ _ => rfl⟩)
              generalize wr.drewN nq = Wq at *
              clear own hb r0 r1 r2 r3 c0 c1 c2 c3
              obtain ⟨r0, r1, r2, r3, c0, c1, c2, c3⟩ := HO.out Wq hbq
              go_wp2_with fail
              go_region_held3 (fun u => u.cell? ⟨w.heap.size, 0, none⟩ = some (.int .i64 rn) ∧ u.cell? ⟨w.heap.size, 1, none⟩ = some (.string rk) ∧ u.cell? ⟨w.heap.size, 2, none⟩ = some (.int .i64 ra) ∧ u.cell? ⟨w.heap.size, 3, none⟩ = some (.int .i64 rb) ∧ u.cell? ⟨b, o + k * 4, none⟩ = some (.int .i64 xn) ∧ u.cell? ⟨b, o + k * 4 + 1, none⟩ = some (.string xk) ∧ u.cell? ⟨b, o + k * 4 + 2, none⟩ = some (.int .i64 xa) ∧ u.cell? ⟨b, o + k * 4 + 3, none⟩ = some (.int .i64 xb)) (first | go_keep | exact HO.out _ hbq.drew | exact HO.out u2 b3) ((go_at_call 25; refine (HA1 Wq.drew).mono ?_; rintro e u2 ⟨rfl, b2⟩; have b3 : Below W0.heap.size W0 u2 := hbq.drew.trans (b2.mono hbq.size)))
              have ownU := row_keep ownq (show Below Wq.heap.size Wq u2 from ⟨b2.os, b2.tape, b2.output, b2.size, b2.block⟩)
              obtain ⟨q0, q1, q2, q3, q4, q5, q6, q7⟩ := HO.out _ b3
              clear ownq r0 r1 r2 r3 c0 c1 c2 c3 HA1 b2
              have hszu2 : W0.heap.size ≤ u2.heap.size := b3.size
              go_wp2_with (at_builtin; refine wpList_append_own _ rfl _ _ 22 rfl W0.heap.size 27 i0 (.agg #[.int .i64 0, .string ⟨#[]⟩, .int .i64 0, .int .i64 0]) 4 40 Tryz.underlying22 hi hz0 hz1 hz2 rfl (by decide) _ _ _ rfl (ownU.alloc _) ⟨u2.heap.size, 0, none⟩ 1 1 [.int .i64 rn, .string rk, .int .i64 ra, .int .i64 rb] rfl rfl (cell_four_new _ _ _ _ _ _) (by intro u' hu'; simp at hu'; rcases hu' with rfl | rfl | rfl | rfl <;> rfl) (by unfold maxLen; omega) (by omega) (by simp; omega) ?_)
              intro v2 U2 o2 g2 _
              refine Hid.out ?_
              refine Lib.hid ?_
              have B2 : Below W0.heap.size W0 U2 := fr_own (b3.alloc b3.size _) (by have := b3.size; simp; omega) g2 (ownU.alloc _)
              have p2 : U2.ownsRow W0.heap.size 27 4 v2 (ys ++ [(⟨rn, rk, ra, rb⟩ : Hd)]).length (hcells (ys ++ [(⟨rn, rk, ra, rb⟩ : Hd)])) := by rw [hcells_append, List.length_append]; exact o2
              clear q0 q1 q2 q3 q4 q5 q6 q7 o2 g2 ownU b3
              obtain ⟨q0, q1, q2, q3, q4, q5, q6, q7⟩ := HO.out _ B2
              have hyl2 : (ys ++ [(⟨rn, rk, ra, rb⟩ : Hd)]).length ≤ k + 1 := by simp; omega
              generalize hy2 : ys ++ [(⟨rn, rk, ra, rb⟩ : Hd)] = y2 at *
              have HY2 := Lib.hid hy2
              clear hy2 HO
              have hszU2 : W0.heap.size ≤ U2.heap.size := B2.size
              go_wp2_with (at_builtin; refine wpList_append_own _ rfl _ _ 22 rfl W0.heap.size 27 i0 (.agg #[.int .i64 0, .string ⟨#[]⟩, .int .i64 0, .int .i64 0]) 4 40 Tryz.underlying22 hi hz0 hz1 hz2 rfl (by decide) _ _ _ rfl (p2.alloc _) ⟨U2.heap.size, 0, none⟩ 1 1 [.int .i64 xn, .string xk, .int .i64 xa, .int .i64 xb] rfl rfl (cell_four_new _ _ _ _ _ _) (by intro u' hu'; simp at hu'; rcases hu' with rfl | rfl | rfl | rfl <;> rfl) (by unfold maxLen; omega) (by omega) (by simp; omega) ?_)
              intro v3 U3 o3 g3 _
              refine Hid.out ?_
              refine Lib.hid ?_
              have B3 : Below W0.heap.size W0 U3 := fr_own (B2.alloc B2.size _) (by have := B2.size; simp; omega) g3 (p2.alloc _)
              have p3 : U3.ownsRow W0.heap.size 27 4 v3 (y2 ++ [(⟨xn, xk, xa, xb⟩ : Hd)]).length (hcells (y2 ++ [(⟨xn, xk, xa, xb⟩ : Hd)])) := by rw [hcells_append, List.length_append]; exact o3
              clear o3 g3 p2
              go_wp2_with fail
              go_roundw
              case rel => exact ⟨k + 1, y2 ++ [(⟨xn, xk, xa, xb⟩ : Hd)], true, by omega, by go_num, rfl, p3, Lib.hid (by rw [HLr.out, ← HY2.out, ← HE.out]; simp), by simp; omega, by simp, B3⟩
              case measure => simp [intOf]; omega
          · rw [if_neg (fun e => hah e.2)] at hE2
            have HE := Lib.hid hE2
            rw [decide_eq_false hah] at HA1
            clear hE2 hah
            rcases hcase with hn1 | ⟨hn0, hn1⟩
            all_goals
              go_wp2_with fail
              go_quiet (fail)
              have hbq : Below W0.heap.size W0 (wr.drewN nq) := ⟨hb.os, hb.tape, hb.output, hb.size, hb.block⟩
              have ownq := row_keep own (show Below wr.heap.size wr (wr.drewN nq) from ⟨rfl, rfl, rfl, Nat.le_refl _, fun _ _ => rfl⟩)
              generalize wr.drewN nq = Wq at *
              clear own hb r0 r1 r2 r3 c0 c1 c2 c3
              obtain ⟨r0, r1, r2, r3, c0, c1, c2, c3⟩ := HO.out Wq hbq
              go_wp2_with fail
              go_region_held3 (fun u => u.cell? ⟨w.heap.size, 0, none⟩ = some (.int .i64 rn) ∧ u.cell? ⟨w.heap.size, 1, none⟩ = some (.string rk) ∧ u.cell? ⟨w.heap.size, 2, none⟩ = some (.int .i64 ra) ∧ u.cell? ⟨w.heap.size, 3, none⟩ = some (.int .i64 rb) ∧ u.cell? ⟨b, o + k * 4, none⟩ = some (.int .i64 xn) ∧ u.cell? ⟨b, o + k * 4 + 1, none⟩ = some (.string xk) ∧ u.cell? ⟨b, o + k * 4 + 2, none⟩ = some (.int .i64 xa) ∧ u.cell? ⟨b, o + k * 4 + 3, none⟩ = some (.int .i64 xb)) (first | go_keep | exact HO.out _ hbq.drew | exact HO.out u2 b3) ((go_at_call 25; refine (HA1 Wq.drew).mono ?_; rintro e u2 ⟨rfl, b2⟩; have b3 : Below W0.heap.size W0 u2 := hbq.drew.trans (b2.mono hbq.size)))
              have ownU := row_keep ownq (show Below Wq.heap.size Wq u2 from ⟨b2.os, b2.tape, b2.output, b2.size, b2.block⟩)
              obtain ⟨q0, q1, q2, q3, q4, q5, q6, q7⟩ := HO.out _ b3
              clear ownq r0 r1 r2 r3 c0 c1 c2 c3 HA1 b2
              clear HO
              have hszu2 : W0.heap.size ≤ u2.heap.size := b3.size
              go_wp2_with (at_builtin; refine wpList_append_own _ rfl _ _ 22 rfl W0.heap.size 27 i0 (.agg #[.int .i64 0, .string ⟨#[]⟩, .int .i64 0, .int .i64 0]) 4 40 Tryz.underlying22 hi hz0 hz1 hz2 rfl (by decide) _ _ _ rfl (ownU.alloc _) ⟨u2.heap.size, 0, none⟩ 1 1 [.int .i64 xn, .string xk, .int .i64 xa, .int .i64 xb] rfl rfl (cell_four_new _ _ _ _ _ _) (by intro u' hu'; simp at hu'; rcases hu' with rfl | rfl | rfl | rfl <;> rfl) (by unfold maxLen; omega) (by omega) (by simp; omega) ?_)
              intro v3 U3 o3 g3 _
              refine Hid.out ?_
              refine Lib.hid ?_
              have B3 : Below W0.heap.size W0 U3 := fr_own (b3.alloc b3.size _) (by have := b3.size; simp; omega) g3 (ownU.alloc _)
              have p3 : U3.ownsRow W0.heap.size 27 4 v3 (ys ++ [(⟨xn, xk, xa, xb⟩ : Hd)]).length (hcells (ys ++ [(⟨xn, xk, xa, xb⟩ : Hd)])) := by rw [hcells_append, List.length_append]; exact o3
              clear o3 g3 ownU
              go_wp2_with fail
              go_roundw
              case rel => exact ⟨k + 1, ys ++ [(⟨xn, xk, xa, xb⟩ : Hd)], false, by omega, by go_num, rfl, p3, Lib.hid (by rw [HLr.out, ← HE.out]; simp), by simp; omega, by intro _; simp; omega, B3⟩
              case measure => simp [intOf]; omega
    · have hkn : ¬ (k : Int) < L.length := by omega
      have hE2 := hE.out
      rw [List.drop_of_length_le (by omega), HPe.out] at hE2
      have hsw : W0.heap.size ≤ wr.heap.size := hb.size
      clear hE HP HSm HPe HA
      cases done with
      | true =>
        have hE3 : ys = Rs := by simpa using hE2
        subst hE3
        obtain ⟨A5, c5, rfl⟩ := row_slice own
        have C5 := (own_cs own (hcells_len ys)).1
        have Y5 := LyAt.of own
        clear own hE2
        go_wp2_with fail
        go_ret
        exact ⟨A5, ⟨c5, rfl⟩, C5, Y5, hb0.trans (hb.mono (Nat.le_of_lt hz))⟩
      | false =>
        have hE3 : ys ++ [(⟨rn, rk, ra, rb⟩ : Hd)] = Rs := by simpa using hE2
        have HE3 := Lib.hid hE3
        clear hE2 hE3
        go_wp2_with (at_builtin; refine wpList_append_own _ rfl _ _ 22 rfl W0.heap.size 27 i0 (.agg #[.int .i64 0, .string ⟨#[]⟩, .int .i64 0, .int .i64 0]) 4 40 Tryz.underlying22 hi hz0 hz1 hz2 rfl (by decide) _ _ _ rfl (own.alloc _) ⟨wr.heap.size, 0, none⟩ 1 1 [.int .i64 rn, .string rk, .int .i64 ra, .int .i64 rb] rfl rfl (cell_four_new _ _ _ _ _ _) (by intro u' hu'; simp at hu'; rcases hu' with rfl | rfl | rfl | rfl <;> rfl) (by unfold maxLen; omega) (by omega) (by simp; omega) ?_)
        intro v2 U2 o2 g2 _
        refine Hid.out ?_
        refine Lib.hid ?_
        have B2 : Below W0.heap.size W0 U2 := fr_own (hb.alloc hsw _) (by simp; omega) g2 (own.alloc _)
        have p2 : U2.ownsRow W0.heap.size 27 4 v2 (ys ++ [(⟨rn, rk, ra, rb⟩ : Hd)]).length (hcells (ys ++ [(⟨rn, rk, ra, rb⟩ : Hd)])) := by rw [hcells_append, List.length_append]; exact o2
        rw [HE3.out] at p2
        obtain ⟨A5, c5, rfl⟩ := row_slice p2
        have C5 := (own_cs p2 (hcells_len Rs)).1
        have Y5 := LyAt.of p2
        clear o2 g2 own p2
        go_wp2_with fail
        go_ret
        exact ⟨A5, c5, rfl, C5, Y5, hb0.trans (B2.mono (Nat.le_of_lt hz))⟩
end Go.Proofs.YtbppiiomjmpjkabGreatDoor

/- KeyedWholes: what is needed for the walk. -/
namespace Go.Proofs.YtbppiiomjmpjkabGreatDoor
open Go.RowKit Go.Shelf
set_option linter.unusedVariables false

theorem infoBs : (Tryz.prog.info? 39).map (fun i => (i.zero, i.size, i.bytes)) = some (some (.slice none 0 0), 1, 24) := by kernel_rfl
/-- Whether two of them are of one node and key. -/
def clE (F : List Hd) : Nat := if (putAll [] F).length < F.length then 8 else 0
theorem clE_nil : clE [] = 0 := by simp [clE, putAll]
theorem clE_or (F : List Hd) : clE F = 0 ∨ clE F = 8 := by unfold clE; split <;> simp
theorem clE_step (F : List Hd) (r : Hd) : clE (F ++ [r]) = if (findH (putAll [] F) r.nd r.key).isSome then 8 else clE F := by
  have h1 := putAll_len (l := []) List.Pairwise.nil F
  have h2 := putP_len (putAll_ris (l := []) List.Pairwise.nil F) r
  simp only [List.length_nil, Nat.zero_add] at h1
  unfold clE
  rw [putAll_snoc, List.length_append, List.length_singleton, h2]
  cases hf : (findH (putAll [] F) r.nd r.key).isSome with
  | true => simp only [if_true]; rw [if_pos (by omega)]
  | false =>
    simp only [Bool.false_eq_true, if_false]
    by_cases hc : (putAll [] F).length < F.length
    · rw [if_pos hc, if_pos (by omega)]
    · rw [if_neg hc, if_neg (by omega)]
theorem clE_zero {F : List Hd} (h : clE F = 0) : ¬ (putAll [] F).length < F.length := by
  unfold clE at h; split at h
  · cases h
  · assumption
theorem clE_eight {F : List Hd} (h : clE F = 8) : (putAll [] F).length < F.length := by
  unfold clE at h; split at h
  · assumption
  · cases h
theorem CsAt.kp {w w' : World} {p : Option Addr} {e : TypeId} {cs : List Value} (h : CsAt w p cs) (ha : LyAt w p e) (hk : KpT w w') (he : e ≠ 39) : CsAt w' p cs := by
  rcases h with h | ⟨b, o, rfl, hc⟩
  · exact .inl h
  · have hs := ha.same hk he _ rfl
    refine .inr ⟨b, o, rfl, fun j u hu => ?_⟩
    have := hc j u hu
    unfold World.cell? at this ⊢
    simp only at hs this ⊢
    rw [hs]; exact this
theorem putAll_good {F : List Hd} (hF : ∀ r ∈ F, badHd r = false ∧ OkHd r) (h4 : (putAll [] F).length ≤ 400) : GoodL (putAll [] F) :=
  ⟨h4, putAll_mem_of (by simp) hF, putAll_ris List.Pairwise.nil F⟩
theorem whole_at (w : World) (pa : Option Addr) (c : Nat) (T : List Pt) (Ls : List (List Hd)) (k : Nat) (hC : CsAt w pa (T.map ptV)) (hT : ∀ t ∈ T, PtOk w t) (hTk : T.length = k) (hk : k ≤ 10) (hLk : Ls.length = k) (hg : ∀ l ∈ Ls, GoodL l) (hTb : ∀ j (h : j < T.length) (h' : j < Ls.length), T[j].2.2 = lstB hdB Ls[j]) :
    Calls Tryz.prog 18 #[.slice pa k c] w fun e w' => WhEnd w Ls.flatten e w' := by
  have H := whole_any w pa c T Ls hC hT (by omega) (by omega) (fun i h h' => by rw [hTb i h h']; exact good_read (hg _ (List.getElem_mem h')))
  rwa [hTk] at H
theorem cs_new4 (u : World) (n : Int) (k : ByteArray) (a b : Int) : CsAt (u.alloc (.cells #[.int .i64 n, .string k, .int .i64 a, .int .i64 b] 27)) (some ⟨u.heap.size, 0, none⟩) (hcells [(⟨n, k, a, b⟩ : Hd)]) :=
  .inr ⟨_, 0, rfl, fun j v hv => by
    have := cell_four_new u (.int .i64 n) (.string k) (.int .i64 a) (.int .i64 b) 27 j v hv
    rw [add_at] at this; exact this⟩
theorem read_any (u : World) (p : Option Addr) (c : Nat) (l : List UInt8) (h : Bz u p c l) (hl : l.length ≤ 140737488355328) :
    Calls Tryz.prog 19 #[.slice p l.length c] u fun e w' => ∃ (A : Option Addr) (n c : Nat) (ok : Bool), e = .returned (.tuple #[.slice A n c, .bool ok]) ∧ Below u.heap.size u w' :=
  (sreadHds_any u p c l h.1 hl h.2.1 h.2.2).mono (fun e w' h => by
    obtain ⟨h1, h2⟩ := h
    cases hX : readHds ltH l with
    | none => rw [hX] at h1; exact ⟨none, 0, 0, false, h1, h2⟩
    | some X =>
      rw [hX] at h1
      obtain ⟨v, h3, ho⟩ := h1
      obtain ⟨A, c, rfl⟩ := row_slice ho
      exact ⟨A, X.length, c, true, h3, h2⟩)
theorem read_no (u : World) (p : Option Addr) (c : Nat) (l : List UInt8) (h : Bz u p c l) (hl : l.length ≤ 140737488355328) (hX : readHds ltH l = none) :
    Calls Tryz.prog 19 #[.slice p l.length c] u fun e w' => e = .returned (.tuple #[.slice none 0 0, .bool false]) ∧ Below u.heap.size u w' :=
  (sreadHds_any u p c l h.1 hl h.2.1 h.2.2).mono (fun e w' h => by
    obtain ⟨h1, h2⟩ := h
    rw [hX] at h1; exact ⟨h1, h2⟩)
theorem read_yes (u : World) (p : Option Addr) (c : Nat) (l : List UInt8) (h : Bz u p c l) (hl : l.length ≤ 140737488355328) {X : List Hd} (hX : readHds ltH l = some X) :
    Calls Tryz.prog 19 #[.slice p l.length c] u fun e w' => ∃ (A : Option Addr) (c : Nat), e = .returned (.tuple #[.slice A X.length c, .bool true]) ∧ CsAt w' A (hcells X) ∧ Below u.heap.size u w' :=
  (sreadHds_any u p c l h.1 hl h.2.1 h.2.2).mono (fun e w' h => by
    obtain ⟨h1, h2⟩ := h
    rw [hX] at h1
    obtain ⟨v, h3, ho⟩ := h1
    obtain ⟨A, c, rfl⟩ := row_slice ho
    exact ⟨A, c, h3, (own_cs ho (hcells_len X)).1, h2⟩)
theorem hcells_nomap (x : Option Nat) : ∀ S : List Hd, Value.map x ∉ hcells S
  | [] => by simp [hcells]
  | h :: l => by simp [hcells, hcells_nomap x l]
theorem csR {w u : World} {A : Option Addr} {S : List Hd} {R M : Nat} {L : List Hd} (h : CsAt w A (hcells S)) (hk : KyAt w R M L) (f : Fr [R] w u) : CsAt u A (hcells S) := by
  rcases h with hx | ⟨b, o, rfl, hc⟩
  · exact .inl hx
  · refine .inr ⟨b, o, rfl, fun j v hv => ?_⟩
    have h1 := hc j v hv
    rw [f.cell (p := ⟨b, o + j, none⟩) (cell_lt h1) (by
      simp only [List.mem_singleton]
      rintro rfl
      have h2 : v = .map (some M) := by
        generalize o + j = n at h1
        match n, h1 with
        | 0, h1 => simp [World.cell?, hk.blk] at h1; exact h1.symm
        | n + 1, h1 => simp [World.cell?, hk.blk] at h1
      exact hcells_nomap (some M) S (h2 ▸ List.mem_of_getElem? hv))]
    exact h1
end Go.Proofs.YtbppiiomjmpjkabGreatDoor
