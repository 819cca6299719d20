/- A Keyed: Put. -/
import Derived.Test.YtiofpimchbhfcabQc
import Derived.Deep.RegionHeld3
namespace Go.Proofs.Ytiofpimchbhfcab
open Go.RowKit
set_option linter.unusedVariables false

theorem sclone_any (x : ByteArray) (w : World) (hx : x.size ≤ 281474976710656) : Calls Try.prog 20 #[.string x] w fun e w' => e = .returned (.string x) ∧ Below w.heap.size w w' := by
  have H := Try.stringslite_Clone x w hx
  go_enter Try.func20, Try.ntmps20
  go_wp2_with (go_at_call 31; refine H.mono ?_; rintro e w' ⟨rfl, hb⟩)
  go_ret
  exact ⟨rfl, hb⟩
set_option maxRecDepth 100000 in
set_option maxHeartbeats 1000000 in
theorem put_bad {w : World} {R M : Nat} {L : List Hd} (h : KyAt w R M L) (r : Hd) (hk : r.key.size ≤ 9223372036854775807) (hb : badHd r = true) :
    Calls Try.prog 6 #[.pointer (some ⟨R, 0, none⟩), hdV r] w fun e w' => e = .returned (errV 1) ∧ Below w.heap.size w w' := by
  have HI := fun u => isHeld_any r u hk
  rw [hb] at HI
  clear h hb
  obtain ⟨nd, key, a, bv⟩ := r
  simp only [hdV, Bool.not_true] at HI ⊢
  go_enter Try.func6, Try.ntmps6
  go_wp2_with (go_at_call 18; refine (HI _).mono ?_; rintro e w' ⟨rfl, rfl⟩)
  go_ret
  exact ⟨rfl, ((Below.refl _ _).alloc (Nat.le_refl _) _).alloc (by simp) _⟩
theorem below_after {W X u : World} (k : Below X.heap.size X u) (h : Below W.heap.size W X) : Below W.heap.size W u := h.trans (k.mono h.size)
theorem new_after {W u : World} {a b c d : Value} {t : TypeId} (k : Below (W.alloc (.cells #[a, b, c, d] t)).drew.heap.size (W.alloc (.cells #[a, b, c, d] t)).drew u) :
    (u.cell? ⟨W.heap.size, 0, none⟩ = some a ∧ u.cell? ⟨W.heap.size, 1, none⟩ = some b ∧ u.cell? ⟨W.heap.size, 2, none⟩ = some c ∧ u.cell? ⟨W.heap.size, 3, none⟩ = some d) ∧ ∀ i, u.frozen? ⟨W.heap.size, i, none⟩ = false := by
  have hz : W.heap.size < (W.alloc (.cells #[a, b, c, d] t)).drew.heap.size := by show _ < (W.heap.push _).size; simp
  have hd : u.heap[W.heap.size]? = some (.cells #[a, b, c, d] t) := (k.block _ hz).trans (by show (W.heap.push _)[W.heap.size]? = _; rw [Array.getElem?_push_size])
  exact ⟨⟨by simp [World.cell?, hd], by simp [World.cell?, hd], by simp [World.cell?, hd], by simp [World.cell?, hd]⟩, fun i => by simp [World.frozen?, hd]⟩
theorem good_key {r : Hd} (h : badHd r = false) : r.key.size ≤ 40 ∧ 0 ≤ r.nd ∧ r.nd < 12 := by
  simp [badHd] at h
  omega
theorem good_ok {r : Hd} (h : badHd r = false) : OkK r.nd r.key := by
  have := good_key h
  exact ⟨⟨by omega, by omega⟩, by unfold maxLen; omega⟩
set_option maxRecDepth 100000 in
set_option maxHeartbeats 1000000 in
theorem put_ok {w : World} {R M : Nat} {L : List Hd} (h : KyAt w R M L) (r : Hd) (hb : badHd r = false) (hf : (findH L r.nd r.key).isSome = true ∨ L.length < 400) (hL : L.length ≤ 400) :
    Calls Try.prog 6 #[.pointer (some ⟨R, 0, none⟩), hdV r] w fun e w' => e = .returned (errV 0) ∧ KyAt w' R M (putP L r) ∧ Fr [M] w w' := by
  have hgk := good_key hb
  have hok := good_ok hb
  have HI := fun u => isHeld_any r u (by omega)
  rw [hb] at HI
  have c0 := h.c0
  have hlt := h.lt
  have hM := h.ltM
  have HNE := Lib.hid h.ne
  have hll : ((L.length : Int) : Int) ≤ 400 := by omega
  have hl : ∀ u, KM w M u → (Instr.lookup 50 (.map (some M)) (plV r.nd r.key) true).run Try.prog u = .ok (.tuple #[hdV ((findH L r.nd r.key).getD hd0), .bool (findH L r.nd r.key).isSome]) u := fun u hu => h.mp.look hok u hu.same
  have hln : ∀ u ty, KM w M u → (Builtin.len_ #[50] ty #[.map (some M)]).run Try.prog u = .ok (.int .i64 L.length) u := fun u ty hu => h.mp.len ty u hu.same
  have HP := fun u => place_any r u
  have HCl := fun u => sclone_any r.key u (by omega)
  have HPu : ∀ u, Below w.heap.size w u → ∀ b, CsAt u (some ⟨b, 0, none⟩) (hcells [r]) → Calls Try.prog 21 #[.map (some M), .slice (some ⟨b, 0, none⟩) 1 1] u fun e w' => e = .returned (.tuple #[]) ∧ KyAt w' R M (putP L r) ∧ Fr [M] u w' := fun u hu b hc => by
    have hk1 := h.keep hu
    refine (put1_any u M L hk1.mp (some ⟨b, 0, none⟩) 1 [r] hc (by simpa using hok) (by simp; omega)).mono ?_
    rintro e w' ⟨e1, e2, e3⟩
    exact ⟨e1, hk1.turn e3 e2, e3⟩
  have HPU := Lib.hid HPu
  clear h hb HPu
  generalize hx : (findH L r.nd r.key).getD hd0 = x at *
  generalize hy : (findH L r.nd r.key).isSome = y at *
  generalize hP : putP L r = L2 at *
  clear hx hy hP
  obtain ⟨nd, key, a, bv⟩ := r
  obtain ⟨x0, x1, x2, x3⟩ := x
  simp only [hdV, plV, Bool.not_false] at HI HP HCl hl HPU hgk hok ⊢
  go_enter Try.func6, Try.ntmps6
  go_wp2_with (go_at_call 18; refine (HI _).mono ?_; rintro e w' ⟨rfl, rfl⟩)
  have HB1 : Below w.heap.size w ((w.alloc (.cells #[.int .i64 nd, .string key, .int .i64 a, .int .i64 bv] 29)).alloc (.cells #[.int .i64 nd, .string key, .int .i64 a, .int .i64 bv] 29)) := ((Below.refl _ _).alloc (Nat.le_refl _) _).alloc (by simp) _
  have d0 : ((w.alloc (.cells #[.int .i64 nd, .string key, .int .i64 a, .int .i64 bv] 29)).alloc (.cells #[.int .i64 nd, .string key, .int .i64 a, .int .i64 bv] 29)).heap[w.heap.size]? = some (.cells #[.int .i64 nd, .string key, .int .i64 a, .int .i64 bv] 29) := by
    rw [Below.heap_alloc _ _ _ (by simp)]; show (w.heap.push _)[w.heap.size]? = _; rw [Array.getElem?_push_size]
  have hz1 : w.heap.size + 1 < ((w.alloc (.cells #[.int .i64 nd, .string key, .int .i64 a, .int .i64 bv] 29)).alloc (.cells #[.int .i64 nd, .string key, .int .i64 a, .int .i64 bv] 29)).heap.size := by simp
  generalize ((w.alloc (.cells #[.int .i64 nd, .string key, .int .i64 a, .int .i64 bv] 29)).alloc (.cells #[.int .i64 nd, .string key, .int .i64 a, .int .i64 bv] 29)) = W at *
  clear HI
  have hS : ∀ u, Below W.heap.size W u → KM w M u ∧ u.cell? ⟨R, 0, none⟩ = some (.map (some M)) ∧ u.cell? ⟨w.heap.size, 0, none⟩ = some (.int .i64 nd) ∧ u.cell? ⟨w.heap.size, 1, none⟩ = some (.string key) ∧ u.cell? ⟨w.heap.size, 2, none⟩ = some (.int .i64 a) ∧ u.cell? ⟨w.heap.size, 3, none⟩ = some (.int .i64 bv) := fun u hu => by
    have hd : u.heap[w.heap.size]? = some (.cells #[.int .i64 nd, .string key, .int .i64 a, .int .i64 bv] 29) := (hu.block _ (by omega)).trans d0
    refine ⟨⟨hM, Nat.le_trans HB1.size hu.size, (hu.block M (by omega)).trans (HB1.block M hM)⟩, ?_, ?_, ?_, ?_, ?_⟩
    · rw [hu.cell (p := ⟨R, 0, none⟩) (show R < _ by omega), HB1.cell (p := ⟨R, 0, none⟩) hlt]; exact c0
    all_goals simp [World.cell?, hd]
  have HS := Lib.hid hS
  have hFz : ∀ u, Below W.heap.size W u → u.frozen? ⟨w.heap.size, 1, none⟩ = false := fun u hu => by
    have hd : u.heap[w.heap.size]? = some (.cells #[.int .i64 nd, .string key, .int .i64 a, .int .i64 bv] 29) := (hu.block _ (by omega)).trans d0
    simp [World.frozen?, hd]
  have HFz := Lib.hid hFz
  clear hFz
  obtain ⟨s0, s1, s2, s3, s4, s5⟩ := hS W (Below.refl _ _)
  clear hS
  go_region_held3 (fun u => KM w M u ∧ u.cell? ⟨R, 0, none⟩ = some (.map (some M)) ∧ u.cell? ⟨w.heap.size, 0, none⟩ = some (.int .i64 nd) ∧ u.cell? ⟨w.heap.size, 1, none⟩ = some (.string key) ∧ u.cell? ⟨w.heap.size, 2, none⟩ = some (.int .i64 a) ∧ u.cell? ⟨w.heap.size, 3, none⟩ = some (.int .i64 bv)) (first | exact ⟨s0.drew, s1, s2, s3, s4, s5⟩ | exact HS.out _ (by repeat (first | assumption | with_reducible refine Below.drew ?_ | with_reducible refine Below.setCell ?_ (by first | exact b2.size | exact Nat.le_refl _ | (simp; done) | (simp; omega)) _ | with_reducible refine Below.alloc ?_ (by first | exact b2.size | exact Nat.le_refl _ | (simp; done) | (simp; omega)) _ | with_reducible exact Below.refl _ _))) ((go_at_call 19; refine (HP _).mono ?_; rintro e u1 ⟨rfl, b1⟩; have b2 : Below W.heap.size W u1 := below_after b1 (by repeat (first | with_reducible refine Below.drew ?_ | with_reducible refine Below.alloc ?_ (by simp) _ | with_reducible exact Below.refl _ _)); try (obtain ⟨⟨z0, z1, z2, z3⟩, zf⟩ := new_after b1; have y0 := zf 0; have y1 := zf 1; have y2 := zf 2; have y3 := zf 3; clear zf); clear b1))
  all_goals first
    | (with_reducible change Exit.then _ _ _ _ (World.alloc _ _)
       have hV := b2.alloc b2.size (.cells #[.int .i64 x0, .string x1, .int .i64 x2, .int .i64 x3] 29)
       generalize u1.alloc (.cells #[.int .i64 x0, .string x1, .int .i64 x2, .int .i64 x3] 29) = V at hV ⊢)
    | (have hV := (((b2.setCell (p := ⟨W.heap.size, 0, none⟩) (Nat.le_refl _) (.int .i64 x0)).setCell (p := ⟨W.heap.size, 1, none⟩) (Nat.le_refl _) (.string x1)).setCell (p := ⟨W.heap.size, 2, none⟩) (Nat.le_refl _) (.int .i64 x2)).setCell (p := ⟨W.heap.size, 3, none⟩) (Nat.le_refl _) (.int .i64 x3)
       generalize (((u1.setCell ⟨W.heap.size, 0, none⟩ (.int .i64 x0)).setCell ⟨W.heap.size, 1, none⟩ (.string x1)).setCell ⟨W.heap.size, 2, none⟩ (.int .i64 x2)).setCell ⟨W.heap.size, 3, none⟩ (.int .i64 x3) = V at hV ⊢)
  all_goals
    clear s0 s1 s2 s3 s4 s5
    obtain ⟨s0, s1, s2, s3, s4, s5⟩ := HS.out V hV
    have f1 := HFz.out V hV
    have hfb : (y = true ∨ (y = false ∧ (L.length : Int) < 400)) := by
      rcases hf with h | h
      · exact .inl h
      · cases y
        · exact .inr ⟨rfl, by omega⟩
        · exact .inl rfl
    clear hf hl
    rcases hfb with rfl | ⟨rfl, hlt4⟩
  all_goals
    go_wp2_with (go_at_call 20; refine (HCl _).mono ?_; rintro e V2 ⟨rfl, b3⟩; refine Hid.out ?_)
  all_goals
    refine Lib.hid ?_
    have hV2 := below_after b3 hV
    obtain ⟨t0, t1, t2, t3, t4, t5⟩ := HS.out V2 hV2
    have f2 := HFz.out V2 hV2
    go_wp2_with fail
    have hV3 : Below w.heap.size w (V2.setCell ⟨w.heap.size, 1, none⟩ (.string key)) := (HB1.trans (hV2.mono HB1.size)).setCell (p := ⟨w.heap.size, 1, none⟩) (Nat.le_refl _) _
    have q0 : (V2.setCell ⟨w.heap.size, 1, none⟩ (.string key)).cell? ⟨R, 0, none⟩ = some (.map (some M)) := by rw [hV3.cell (p := ⟨R, 0, none⟩) hlt]; exact c0
    have q1 : (V2.setCell ⟨w.heap.size, 1, none⟩ (.string key)).cell? ⟨w.heap.size, 0, none⟩ = some (.int .i64 nd) := by simp [go_sem, t2]
    have q2 : (V2.setCell ⟨w.heap.size, 1, none⟩ (.string key)).cell? ⟨w.heap.size, 1, none⟩ = some (.string key) := by simp [go_sem, t3]
    have q3 : (V2.setCell ⟨w.heap.size, 1, none⟩ (.string key)).cell? ⟨w.heap.size, 2, none⟩ = some (.int .i64 a) := by simp [go_sem, t4]
    have q4 : (V2.setCell ⟨w.heap.size, 1, none⟩ (.string key)).cell? ⟨w.heap.size, 3, none⟩ = some (.int .i64 bv) := by simp [go_sem, t5]
    have hzz : w.heap.size < (V2.setCell ⟨w.heap.size, 1, none⟩ (.string key)).heap.size := by have := hV2.size; simp; omega
    generalize V2.setCell ⟨w.heap.size, 1, none⟩ (.string key) = V3 at *
    clear HS HFz s0 s1 s2 s3 s4 s5 t0 t1 t2 t3 t4 t5 f1 f2 hV hV2 b3 b2 hln HP HCl d0 hz1
    have HPW := HPU.out (V3.alloc (.cells #[.int .i64 nd, .string key, .int .i64 a, .int .i64 bv] 29)).drew ((hV3.alloc hV3.size _).drew) V3.heap.size (.inr ⟨V3.heap.size, 0, rfl, fun j v hv => by
      match j, hv with
      | 0, hv => simp [hcells] at hv; subst hv; simp
      | 1, hv => simp [hcells] at hv; subst hv; simp
      | 2, hv => simp [hcells] at hv; subst hv; simp
      | 3, hv => simp [hcells] at hv; subst hv; simp⟩)
    clear HPU
    go_region_held3 (fun u => u.cell? ⟨R, 0, none⟩ = some (.map (some M)) ∧ u.cell? ⟨w.heap.size, 0, none⟩ = some (.int .i64 nd) ∧ u.cell? ⟨w.heap.size, 1, none⟩ = some (.string key) ∧ u.cell? ⟨w.heap.size, 2, none⟩ = some (.int .i64 a) ∧ u.cell? ⟨w.heap.size, 3, none⟩ = some (.int .i64 bv)) (first | go_keep | exact ⟨j0, j1, j2, j3, j4⟩) ((go_at_call 21; refine HPW.mono ?_; rintro e V4 ⟨rfl, hK4, f4⟩; have hne1 : R ≠ M := HNE.out; have hne2 : w.heap.size ≠ M := (by omega); have j0 : V4.cell? ⟨R, 0, none⟩ = some (.map (some M)) := hK4.c0; have hlz : w.heap.size < (V3.alloc (.cells #[.int .i64 nd, .string key, .int .i64 a, .int .i64 bv] 29)).drew.heap.size := (by show _ < (V3.heap.push _).size; simp; omega); have j1 : V4.cell? ⟨w.heap.size, 0, none⟩ = some (.int .i64 nd) := (f4.cell (p := ⟨w.heap.size, 0, none⟩) hlz (by simpa using hne2)).trans (Lib.cell?_alloc_some _ q1); have j2 : V4.cell? ⟨w.heap.size, 1, none⟩ = some (.string key) := (f4.cell (p := ⟨w.heap.size, 1, none⟩) hlz (by simpa using hne2)).trans (Lib.cell?_alloc_some _ q2); have j3 : V4.cell? ⟨w.heap.size, 2, none⟩ = some (.int .i64 a) := (f4.cell (p := ⟨w.heap.size, 2, none⟩) hlz (by simpa using hne2)).trans (Lib.cell?_alloc_some _ q3); have j4 : V4.cell? ⟨w.heap.size, 3, none⟩ = some (.int .i64 bv) := (f4.cell (p := ⟨w.heap.size, 3, none⟩) hlz (by simpa using hne2)).trans (Lib.cell?_alloc_some _ q4)))
  all_goals
    have F4 : Fr [M] w V4 := (Fr.below (xs := [M]) (show Below w.heap.size w (V3.alloc (.cells #[.int .i64 nd, .string key, .int .i64 a, .int .i64 bv] 29)).drew from (hV3.alloc hV3.size _).drew)).trans f4
    have HF := Lib.hid F4
    clear f4 F4 j0 j1 j2 j3 j4 HPW
    go_wp2_with fail
    go_ret
    exact ⟨rfl, hK4, HF.out⟩
end Go.Proofs.Ytiofpimchbhfcab
