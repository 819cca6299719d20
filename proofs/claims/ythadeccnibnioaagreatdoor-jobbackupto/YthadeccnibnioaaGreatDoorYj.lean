/- Parse. -/
import Derived.Test.YthadeccnibnioaaGreatDoorYi
namespace Go.Proofs.YthadeccnibnioaaGreatDoor
open Go.RowKit Go.Shelf
set_option linter.unusedVariables false
attribute [local go_sem] Oper.semAt_some
/-- Parse has said no. -/
structure PaBad (w : World) (a er : Nat) (W : World) : Prop where
  below : Below w.heap.size w W
  size : w.heap.size + 5 ≤ W.heap.size
  r0 : W.heap[w.heap.size]? = some (.cells #[.slice none 0 0] 38 (0, 0))
  r1 : W.heap[w.heap.size + 1]? = some (.cells #[.int .i64 a] 3 (0, 0))
  r2 : W.heap[w.heap.size + 2]? = some (.cells #[errV er] 28 (0, 0))
def PsEnd (w : World) (l : List UInt8) (e : Ending) (w' : World) : Prop := Below w.heap.size w w' ∧
  ((∃ m A cap, parseP false l = .ok m ∧ e = .returned (.tuple #[.slice A (List.length m) cap, .int .i64 0, .nilIface]) ∧ NdsAt w' A m ∧ List.length m ≤ cap) ∨
   (∃ a er, parseP false l = .bad a er ∧ e = .returned (.tuple #[.slice none 0 0, .int .i64 (a : Nat), errV er])))
theorem pa_three {w W : World} {X : List Px} {A : Option Addr} {cap : Nat} (h : PaAt w X A cap W) (a b c : Value) :
    (((W.setCell ⟨w.heap.size, 0, none⟩ a).setCell ⟨w.heap.size + 1, 0, none⟩ b).setCell ⟨w.heap.size + 2, 0, none⟩ c).heap[w.heap.size]? = some (.cells #[a] 38 (0, 0)) ∧
    (((W.setCell ⟨w.heap.size, 0, none⟩ a).setCell ⟨w.heap.size + 1, 0, none⟩ b).setCell ⟨w.heap.size + 2, 0, none⟩ c).heap[w.heap.size + 1]? = some (.cells #[b] 3 (0, 0)) ∧
    (((W.setCell ⟨w.heap.size, 0, none⟩ a).setCell ⟨w.heap.size + 1, 0, none⟩ b).setCell ⟨w.heap.size + 2, 0, none⟩ c).heap[w.heap.size + 2]? = some (.cells #[c] 28 (0, 0)) ∧
    Below w.heap.size w (((W.setCell ⟨w.heap.size, 0, none⟩ a).setCell ⟨w.heap.size + 1, 0, none⟩ b).setCell ⟨w.heap.size + 2, 0, none⟩ c) ∧
    (((W.setCell ⟨w.heap.size, 0, none⟩ a).setCell ⟨w.heap.size + 1, 0, none⟩ b).setCell ⟨w.heap.size + 2, 0, none⟩ c).heap.size = W.heap.size ∧
    (∀ k, w.heap.size + 3 ≤ k → (((W.setCell ⟨w.heap.size, 0, none⟩ a).setCell ⟨w.heap.size + 1, 0, none⟩ b).setCell ⟨w.heap.size + 2, 0, none⟩ c).heap[k]? = W.heap[k]?) := by
  have h0 := h.r0; have h1 := h.r1; have h2 := h.r2
  have s0 : ∀ (u : World) (p : Addr) (v : Value) (k : Nat), k ≠ p.block → (u.setCell p v).heap[k]? = u.heap[k]? := fun u p v k hk => Below.heap_setCell _ _ _ _ hk
  refine ⟨?_, ?_, ?_, (((h.below.setCell (Nat.le_refl _) _).setCell (by simp) _).setCell (by simp) _), by simp, fun k hk => ?_⟩
  · rw [s0 _ _ _ _ (by simp), s0 _ _ _ _ (by simp)]
    simp [World.setCell, Array.getElem?_modify, h0]
  · rw [s0 _ _ _ _ (by simp)]
    have e : (W.setCell ⟨w.heap.size, 0, none⟩ a).heap[w.heap.size + 1]? = some (.cells #[.int .i64 0] 3 (0, 0)) := by rw [s0 _ _ _ _ (by simp)]; exact h1
    generalize W.setCell ⟨w.heap.size, 0, none⟩ a = u at *
    simp [World.setCell, Array.getElem?_modify, e]
  · have e : ((W.setCell ⟨w.heap.size, 0, none⟩ a).setCell ⟨w.heap.size + 1, 0, none⟩ b).heap[w.heap.size + 2]? = some (.cells #[.nilIface] 28 (0, 0)) := by rw [s0 _ _ _ _ (by simp), s0 _ _ _ _ (by simp)]; exact h2
    generalize (W.setCell ⟨w.heap.size, 0, none⟩ a).setCell ⟨w.heap.size + 1, 0, none⟩ b = u at *
    simp [World.setCell, Array.getElem?_modify, e]
  · rw [s0 _ _ _ _ (by simp; omega), s0 _ _ _ _ (by simp; omega), s0 _ _ _ _ (by simp; omega)]
theorem pa_fin {w W : World} {D : Nat} (o : Obj) {a b c : Value} (hb : Below w.heap.size w W) (hs : w.heap.size + 5 ≤ W.heap.size) (hD : w.heap.size + 5 ≤ D) (r0 : W.heap[w.heap.size]? = some (.cells #[a] 38 (0, 0))) (r1 : W.heap[w.heap.size + 1]? = some (.cells #[b] 3 (0, 0))) (r2 : W.heap[w.heap.size + 2]? = some (.cells #[c] 28 (0, 0))) :
    ((W.putObj D o).cell? ⟨w.heap.size, 0, none⟩ = some a ∧ (W.putObj D o).cell? ⟨w.heap.size + 1, 0, none⟩ = some b ∧ (W.putObj D o).cell? ⟨w.heap.size + 2, 0, none⟩ = some c) ∧ Below w.heap.size w (W.putObj D o) := by
  have hk : ∀ k, k < w.heap.size + 5 → (W.putObj D o).heap[k]? = W.heap[k]? := fun k hk => World.putObj_heap_other (by omega)
  refine ⟨⟨by simp [World.cell?, hk w.heap.size (by omega), r0], by simp [World.cell?, hk (w.heap.size + 1) (by omega), r1], by simp [World.cell?, hk (w.heap.size + 2) (by omega), r2]⟩, hb.grown (grownBy_putObj' W D o) (by omega) (fun k e => by injection e with e; omega)⟩
theorem pa_bad {w W : World} {X : List Px} {A : Option Addr} {cap : Nat} (h : PaAt w X A cap W) (a er : Nat) : PaBad w a er (((W.setCell ⟨w.heap.size, 0, none⟩ (.slice none 0 0)).setCell ⟨w.heap.size + 1, 0, none⟩ (.int .i64 (a : Int))).setCell ⟨w.heap.size + 2, 0, none⟩ (errV er)) := by
  obtain ⟨r0, r1, r2, hb, hs, -⟩ := pa_three h (.slice none 0 0) (.int .i64 (a : Int)) (errV er)
  exact ⟨hb, by rw [hs]; exact h.size, r0, r1, r2⟩
theorem keeps_three {w W0 W : World} {X : List Px} {A : Option Addr} {cap : Nat} (h : PaAt w X A cap W) (a b c : Value) (hk : KeepsFrom (w.heap.size + 5) W0 W) : KeepsFrom (w.heap.size + 5) W0 (((W.setCell ⟨w.heap.size, 0, none⟩ a).setCell ⟨w.heap.size + 1, 0, none⟩ b).setCell ⟨w.heap.size + 2, 0, none⟩ c) := by
  obtain ⟨-, -, -, -, hs, hkk⟩ := pa_three h a b c
  exact hk.trans ⟨by rw [hs]; exact Nat.le_refl _, fun k o hB hk _ => by rw [hkk k (by omega)]; exact hk⟩
theorem keeps_below {B : Nat} {W W1 : World} (hb : Below W.heap.size W W1) : KeepsFrom B W W1 := ⟨hb.size, fun k o _ hk _ => by rw [hb.block k (Array.getElem?_eq_some_iff.1 hk).1]; exact hk⟩
theorem keeps_alloc {B : Nat} {W W1 : World} (h : KeepsFrom B W W1) (o : Obj) : KeepsFrom B W (W1.alloc o) := h.trans (keeps_below ((Below.refl _ _).alloc (Nat.le_refl _) o))
theorem up_alloc0 {w : World} {k : Nat} {ob : Obj} (h : w.heap[k]? = some ob) (o : Obj) : (w.alloc o).heap[k]? = some ob := (((Below.refl _ _).alloc (Nat.le_refl _) o).block k (Array.getElem?_eq_some_iff.1 h).1).trans h
theorem PaBad.alloc {w W : World} {a er : Nat} (h : PaBad w a er W) (o : Obj) : PaBad w a er (W.alloc o) := ⟨h.below.alloc (by have := h.size; omega) o, by have := h.size; simp; omega, up_alloc0 h.r0 o, up_alloc0 h.r1 o, up_alloc0 h.r2 o⟩
theorem cell_four_new2 (w : World) (o : Obj) (a b c d : Value) (t : TypeId) : ∀ j u, [a, b, c, d][j]? = some u → ((w.alloc o).alloc (.cells #[a, b, c, d] t)).cell? ((⟨w.heap.size + 1, 0, none⟩ : Addr).add j) = some u := by
  intro j u hj
  have h := cell_four_new (w.alloc o) a b c d t j u hj
  have e : (w.alloc o).heap.size = w.heap.size + 1 := by simp
  rw [e] at h; exact h
theorem up_alloc {w : World} {k : Nat} {ob : Obj} (h : w.heap[k]? = some ob) (o : Obj) : (w.alloc o).heap[k]? = some ob := (((Below.refl _ _).alloc (Nat.le_refl _) o).block k (Array.getElem?_eq_some_iff.1 h).1).trans h
theorem new_alloc {w : World} {k : Nat} (o : Obj) (h : k = w.heap.size) : (w.alloc o).heap[k]? = some o := by subst h; exact Array.getElem?_push_size
theorem pa_start (w : World) (s : ByteArray) : PaAt w [] none 0 (((((w.alloc (.cells #[.slice none 0 0] 38)).alloc (.cells #[.int .i64 0] 3)).alloc (.cells #[.nilIface] 28)).alloc (.cells #[.slice none 0 0] 38)).alloc (.cells #[.string s] 9)) ∧ (((((w.alloc (.cells #[.slice none 0 0] 38)).alloc (.cells #[.int .i64 0] 3)).alloc (.cells #[.nilIface] 28)).alloc (.cells #[.slice none 0 0] 38)).alloc (.cells #[.string s] 9)).cell? ⟨w.heap.size + 4, 0, none⟩ = some (.string s) ∧ (((((w.alloc (.cells #[.slice none 0 0] 38)).alloc (.cells #[.int .i64 0] 3)).alloc (.cells #[.nilIface] 28)).alloc (.cells #[.slice none 0 0] 38)).alloc (.cells #[.string s] 9)).heap.size = w.heap.size + 5 := by
  refine ⟨⟨?_, by simp, ?_, ?_, ?_, ?_, World.ownsRow_nil _ _ _ _, by simp, by simp⟩, by simp [go_sem], by simp⟩
  · exact ((((((Below.refl _ w).alloc (Nat.le_refl _) _).alloc (by simp) _).alloc (by simp; omega) _).alloc (by simp; omega) _).alloc (by simp; omega) _)
  · exact up_alloc (up_alloc (up_alloc (up_alloc (new_alloc _ rfl) _) _) _) _
  · exact up_alloc (up_alloc (up_alloc (new_alloc _ (by simp)) _) _) _
  · exact up_alloc (up_alloc (new_alloc _ (by simp)) _) _
  · exact up_alloc (new_alloc _ (by simp)) _
set_option maxRecDepth 100000 in
set_option maxHeartbeats 2000000 in
theorem jparse_any {w : World} (hg : Gj w) (s : ByteArray) (hs : s.size ≤ 100000000) : Calls Tryz.prog 25 #[.string s] w (PsEnd w s.data.toList) := by
  refine (callsIn_wide (n := 4)).1 ?_
  have f6 : Fence.wide.fn 55 := trivial
  refine callsIn_of_wp_marks Tryz.func25 rfl trivial ?_ rfl
  simp only [Tryz.ntmps25, List.size_toArray, List.length_cons, List.length_nil, Nat.reduceAdd, Nat.reduceSub, Array.replicate_succ, Array.replicate_zero, List.push_toArray, List.append_toArray, List.nil_append, List.cons_append]
  gi_wp2_with (gi_at_call 55; refine (lines_in 3 _ _).mono ?_; rintro e w' ⟨rfl, rfl⟩)
  obtain ⟨hP0, hc0, hz0⟩ := pa_start w s
  simp only [Nat.add_assoc, Nat.reduceAdd]
  generalize (((((w.alloc (.cells #[.slice none 0 0] 38)).alloc (.cells #[.int .i64 0] 3)).alloc (.cells #[.nilIface] 28)).alloc (.cells #[.slice none 0 0] 38)).alloc (.cells #[.string s] 9)) = w5 at *
  have h1 : 1 ≤ 4 := by omega
  have HG := Lib.hid hg
  clear hg
  refine wpIn_rangeFunc_ownH (F := Fence.wide) (n := 4) (encs := encLi) rfl h1 (gf := 90) (lb := #[.pointer (some ⟨w.heap.size + 4, 0, none⟩)]) rfl trivial (enters_of Tryz.func90 (by kernel_rfl) rfl)
    (lines_stops 3 (by omega) (w.heap.size + 4) s hs w5 (by omega) hc0) (fun _ _ => trivial) ?hKb (Below.refl _ _) (fun _ => rfl)
    (fun pre W => ∃ X A cap, PaAt w X A cap W ∧ stL (pre.map (·.1)) = .ok (X.map (·.1)))
    (fun c pre W => c = .ret ∧ ∃ a er, PaBad w a er W ∧ stL (pre.map (·.1)) = .bad a er) ?hI ?hIx ?h0
    (fun x a' W => a' = { tmps := #[.string s, undef, .pointer (some ⟨w.heap.size, 0, none⟩), .pointer (some ⟨w.heap.size + 1, 0, none⟩), .pointer (some ⟨w.heap.size + 2, 0, none⟩), .pointer (some ⟨w.heap.size + 3, 0, none⟩), .string ⟨x.1.1.toArray⟩, .bool x.1.2, undef, undef, undef, undef, undef, .string s, .func (.func 90) #[] #[.pointer (some ⟨w.heap.size + 4, 0, none⟩)], .string ⟨x.1.1.toArray⟩, .bool x.1.2, undef, undef, undef, undef, undef, undef, undef, undef, undef, undef, undef, undef, undef, undef, undef, undef, undef, undef, undef, undef, undef, undef, undef, undef, undef, undef, undef, undef, undef, undef, undef, undef, undef, undef, undef, undef, undef, undef], defers := [] }) ?hAx ?assign ?body ?done ?stop
  case hKb => exact fun _ _ _ _ _ _ _ _ => trivial
  case hI =>
    rintro p A' B' row ⟨X, A, cap, h, hst⟩ hg' hr
    have hk : ∀ (k : Nat) (cur : Array Value) (e : TypeId) (f : Nat × Nat), A'.heap[k]? = some (.cells cur e f) → B'.heap[k]? = some (.cells cur e f) := fun k cur e f hk => (hg'.block k (Array.getElem?_eq_some_iff.1 hk).1 (fun e => by
      obtain ⟨-, o, ho, hno⟩ := hr k e.symm
      rw [hk] at ho; injection ho with ho; subst ho; cases hno)).trans hk
    exact ⟨X, A, cap, h.blocks (h.below.grown hg' (by have := h.size; omega) (fun k e => by have := (hr k e).1; omega)) hg'.size hk, hst⟩
  case hIx =>
    rintro c p A' B' row ⟨rfl, a, er, h, hst⟩ hg' hr
    have hk : ∀ (k : Nat) (cur : Array Value) (e : TypeId) (f : Nat × Nat), A'.heap[k]? = some (.cells cur e f) → B'.heap[k]? = some (.cells cur e f) := fun k cur e f hk => (hg'.block k (Array.getElem?_eq_some_iff.1 hk).1 (fun e => by
      obtain ⟨-, o, ho, hno⟩ := hr k e.symm
      rw [hk] at ho; injection ho with ho; subst ho; cases hno)).trans hk
    exact ⟨rfl, a, er, ⟨h.below.grown hg' (by have := h.size; omega) (fun k e => by have := (hr k e).1; omega), Nat.le_trans h.size hg'.size, hk _ _ _ _ h.r0, hk _ _ _ _ h.r1, hk _ _ _ _ h.r2⟩, hst⟩
  case h0 => exact ⟨[], none, 0, hP0, stL_nil⟩
  case hAx => exact fun x a' s A' B' row hs _ _ => hs
  case assign =>
    intro l pre x W K hi hK
    unfold encLi
    gi_wp2
    exact hK _ _ (KeepsFrom.refl _ _) trivial hi rfl
  case body =>
    rintro l pre x a' W hl ⟨r, hr⟩ ⟨X, A, cap, h, hst⟩ rfl hlt
    obtain ⟨⟨line, ended⟩, hls⟩ := x
    simp only at hls
    have HRn := rn_any (HG.out.below h.below) ⟨line.toArray⟩ (by simp [ByteArray.size]; omega)
    have hfn : (Fence.wide.inRound l).fn 56 := trivial
    have hfc : (Fence.wide.inRound l).fn 46 := trivial
    have hfn' : Fence.wide.fn 56 := trivial
    have hfc' : Fence.wide.fn 46 := trivial
    obtain ⟨⟨c0, c1, c2, c3⟩, f0, f1, f2, f3⟩ := h.cells
    have hsz := h.size
    have HH := Lib.hid h
    have HSt := Lib.hid hst
    clear h hst
    rcases hrd : readNd false line with _ | nd
    · have HRn' : Calls Tryz.prog 56 #[.string ⟨line.toArray⟩] W fun e w' => Below W.heap.size W w' ∧ ∃ (k n : Int) (A : Option Addr) (ln cp : Nat) (tx : ByteArray), e = .returned (.tuple #[.agg #[.int .i64 k, .slice A ln cp, .string tx, .int .i64 n], .bool false]) := HRn.mono (by
        rintro e w' ⟨hb, ⟨-, hv⟩ | ⟨nd, fa, fc, hcon, -⟩⟩
        · exact ⟨hb, hv⟩
        · exfalso; rw [show (⟨line.toArray⟩ : ByteArray).data.toList = line from rfl, hrd] at hcon; cases hcon)
      clear HRn
      gi_wp2_with (gi_at_call 56; refine (CallsIn.inRound l (callsIn_wide.2 HRn')).mono ?_; rintro e W1 ⟨hb1, k', n', A', ln', cp', tx', rfl⟩; have h1 := HH.out.call hb1; obtain ⟨⟨c0, c1, c2, c3⟩, f0, f1, f2, f3⟩ := h1.cells; have hsz1 := h1.size; have hl0 : w.heap.size < W1.heap.size := (by omega); have hl1 : w.heap.size + 1 < W1.heap.size := (by omega); have hl2 : w.heap.size + 2 < W1.heap.size := (by omega); have hl3 : w.heap.size + 3 < W1.heap.size := (by omega); have HH1 := Lib.hid h1; clear h1)
      have e2 : errV 2 = .iface 77 (.int .i64 2) := errV_pos (by decide)
      exact ⟨by rw [hz0]; exact keeps_alloc (keeps_three HH1.out _ _ _ (keeps_below hb1)) _, rfl, X.length, 2, by rw [← e2]; exact (pa_bad HH1.out X.length 2).alloc _, by rw [List.map_append]; exact (stL_snoc HSt.out _).trans ((st_none hrd).trans (by rw [List.length_map]))⟩
    · have HRn' : Calls Tryz.prog 56 #[.string ⟨line.toArray⟩] W fun e w' => Below W.heap.size W w' ∧ ∃ fa fc, e = .returned (.tuple #[ndV nd fa fc, .bool true]) ∧ w'.ownsRow W.heap.size 3 1 (.slice fa nd.fs.length fc) nd.fs.length (iv nd.fs) := HRn.mono (by
        rintro e w' ⟨hb, ⟨hcon, -⟩ | ⟨nd', fa, fc, hcon, rfl, ho⟩⟩
        · exfalso; rw [show (⟨line.toArray⟩ : ByteArray).data.toList = line from rfl, hrd] at hcon; cases hcon
        · rw [show (⟨line.toArray⟩ : ByteArray).data.toList = line from rfl, hrd] at hcon
          injection hcon with hcon
          subst hcon
          exact ⟨hb, fa, fc, rfl, ho⟩)
      clear HRn
      simp only [ndV] at HRn'
      have HRd := Lib.hid hrd
      have hX12 : X.length ≤ 12 := by have := stL_le (ah := []) (by simp) HSt.out; rwa [List.length_map] at this
      clear hrd
      have e2 : Hid (errV 2 = .iface 77 (.int .i64 2)) := errV_pos (by decide)
      have e4 : Hid (errV 4 = .iface 77 (.int .i64 4)) := errV_pos (by decide)
      cases ended with
      | false =>
        gi_wp2_with (gi_at_call 56; refine (CallsIn.inRound l (callsIn_wide.2 HRn')).mono ?_; rintro e W1 ⟨hb1, fa, fc, rfl, hnd⟩; have h1 := HH.out.call hb1; obtain ⟨⟨c0, c1, c2, c3⟩, f0, f1, f2, f3⟩ := h1.cells; have hsz1 := h1.size; have hl0 : w.heap.size < W1.heap.size := (by omega); have hl1 : w.heap.size + 1 < W1.heap.size := (by omega); have hl2 : w.heap.size + 2 < W1.heap.size := (by omega); have hl3 : w.heap.size + 3 < W1.heap.size := (by omega); have HH1 := Lib.hid h1; have HNd := Lib.hid hnd; clear h1 hnd)
        exact ⟨by rw [hz0]; exact keeps_alloc (keeps_three HH1.out _ _ _ (keeps_below hb1)) _, rfl, X.length, 2, by rw [← e2.out]; exact (pa_bad HH1.out X.length 2).alloc _, by rw [List.map_append]; exact (stL_snoc HSt.out _).trans ((st_open rfl).trans (by rw [List.length_map]))⟩
      | true =>
        by_cases h12 : X.length = 12
        · have h12I : ((X.length : Int) == 12) = true := by rw [h12]; rfl
          have H12 := Lib.hid h12
          clear h12
          gi_wp2_with (gi_at_call 56; refine (CallsIn.inRound l (callsIn_wide.2 HRn')).mono ?_; rintro e W1 ⟨hb1, fa, fc, rfl, hnd⟩; have h1 := HH.out.call hb1; obtain ⟨⟨c0, c1, c2, c3⟩, f0, f1, f2, f3⟩ := h1.cells; have hsz1 := h1.size; have hl0 : w.heap.size < W1.heap.size := (by omega); have hl1 : w.heap.size + 1 < W1.heap.size := (by omega); have hl2 : w.heap.size + 2 < W1.heap.size := (by omega); have hl3 : w.heap.size + 3 < W1.heap.size := (by omega); have HH1 := Lib.hid h1; have HNd := Lib.hid hnd; clear h1 hnd)
          exact ⟨by rw [hz0]; exact keeps_alloc (keeps_three HH1.out _ _ _ (keeps_below hb1)) _, rfl, X.length, 4, by rw [← e4.out]; exact (pa_bad HH1.out X.length 4).alloc _, by rw [List.map_append]; exact (stL_snoc HSt.out _).trans ((st_full HRd.out rfl (by rw [List.length_map]; exact H12.out)).trans (by rw [List.length_map]))⟩
        · have h12I : ((X.length : Int) == 12) = false := by simpa using (by omega : ¬ (X.length : Int) = 12)
          have hns := rd_sizes HRd.out
          have hnd2 : nd.tx.size ≤ 100000000 ∧ nd.fs.length ≤ 100000000 := ⟨by omega, by omega⟩
          have HNs := Lib.hid hnd2
          clear hns hnd2
          obtain ⟨j0, hj0, jz0, jz1, jz2⟩ := info_parts Tryz.infoNode
          gi_wp2_with (first | (gi_at_call 56; refine (CallsIn.inRound l (callsIn_wide.2 HRn')).mono ?_; rintro e W1 ⟨hb1, fa, fc, rfl, hnd⟩; have h1 := HH.out.call hb1; obtain ⟨⟨c0, c1, c2, c3⟩, f0, f1, f2, f3⟩ := h1.cells; have hsz1 := h1.size; have hl0 : w.heap.size < W1.heap.size := (by omega); have hl1 : w.heap.size + 1 < W1.heap.size := (by omega); have hl2 : w.heap.size + 2 < W1.heap.size := (by omega); have hl3 : w.heap.size + 3 < W1.heap.size := (by omega); have HU := Lib.hid (h1.call ((Below.refl _ _).alloc (Nat.le_refl _) (.cells #[.int .i64 nd.k, .slice fa nd.fs.length fc, .string nd.tx, .int .i64 nd.n] 52))); have HNd := Lib.hid (own_below (own_base hnd hsz) ((Below.refl _ _).alloc (Nat.le_refl _) (.cells #[.int .i64 nd.k, .slice fa nd.fs.length fc, .string nd.tx, .int .i64 nd.n] 52))); clear h1 hnd) | (gi_at_builtin; refine wpListIn_append_own _ rfl _ _ 38 rfl (w.heap.size + 5) 52 j0 (.agg #[.int .i64 0, .slice none 0 0, .string ⟨#[]⟩, .int .i64 0]) 4 56 Tryz.underlying38 hj0 jz0 jz1 jz2 rfl (by decide) _ _ _ rfl (HU.out.row.alloc _) ⟨W1.heap.size + 1, 0, none⟩ 1 1 (ndC (nd, fa, fc)) rfl rfl (cell_four_new2 _ _ _ _ _ _ _) (by intro u hu; simp [ndC] at hu; rcases hu with rfl | rfl | rfl | rfl <;> rfl) (by unfold maxLen; omega) (by omega) (by simp; omega) ?_))
          intro v' w3 hown' hgrow _
          obtain ⟨A', cap', rfl⟩ := own_form hown'
          obtain ⟨k3, k4, k5, hP4, hKp⟩ := HU.out.snoc (x := (nd, fa, fc)) HNd.out HNs.out hgrow hown'
          have HNode : Calls Tryz.prog 46 #[.slice A' (X.length + 1) cap', .int .i64 (X.length : Int)] (w3.setCell ⟨w.heap.size + 3, 0, none⟩ (.slice A' (X.length + 1) cap')) fun e w' => e = .returned (errV (nodeP (X.map (·.1)) nd)) ∧ Below (w3.setCell ⟨w.heap.size + 3, 0, none⟩ (.slice A' (X.length + 1) cap')).heap.size (w3.setCell ⟨w.heap.size + 3, 0, none⟩ (.slice A' (X.length + 1) cap')) w' := by
            have e1 : ((X ++ [(nd, fa, fc)]).map (·.1)).length = X.length + 1 := by simp
            have hc4 := hP4.nodes.2
            rw [List.length_append] at hc4
            have h := node_any (c := cap') (HG.out.below hP4.below).gl hP4.nodes.1 X.length (by omega) (by omega) (by rw [e1]; exact hc4)
            have e2 : nodeP (((X ++ [(nd, fa, fc)]).map (·.1)).take X.length) ((X ++ [(nd, fa, fc)]).map (·.1))[X.length] = nodeP (X.map (·.1)) nd := by
              congr 1
              · simp
              · simp
            rw [e2, e1] at h
            exact h
          have HKs : Hid (KeepsFrom (w.heap.size + 5) W (w3.setCell ⟨w.heap.size + 3, 0, none⟩ (.slice A' (X.length + 1) cap'))) := (keeps_alloc (keeps_below hb1) _).trans hKp
          have HP4 := Lib.hid hP4
          have hs4 : (w3.setCell ⟨w.heap.size + 3, 0, none⟩ (.slice A' (X.length + 1) cap')).heap.size = w3.heap.size := by simp
          obtain ⟨er, her⟩ : ∃ er, nodeP (X.map (·.1)) nd = er := ⟨_, rfl⟩
          rw [her] at HNode
          have HEr := Lib.hid her
          clear her hP4 hKp hown' hgrow
          have H12 : Hid ((X.map (·.1)).length ≠ 12) := by
            show (X.map (·.1)).length ≠ 12
            rw [List.length_map]; exact h12
          clear h12
          by_cases he : er = 0
          · subst he
            rw [errV_zero] at HNode
            gi_wp2_with (gi_at_call 46; refine (CallsIn.inRound l (callsIn_wide.2 HNode)).mono ?_; rintro e W5 ⟨rfl, hb5⟩)
            exact ⟨by rw [hz0]; exact HKs.out.trans (keeps_below hb5), trivial, X ++ [(nd, fa, fc)], A', cap', HP4.out.call hb5, by rw [List.map_append, List.map_append]; exact (stL_snoc HSt.out _).trans (st_right HRd.out rfl H12.out HEr.out)⟩
          · rw [errV_pos he] at HNode
            gi_wp2_with (gi_at_call 46; refine (CallsIn.inRound l (callsIn_wide.2 HNode)).mono ?_; rintro e W5 ⟨rfl, hb5⟩; have h5 := HP4.out.call hb5; obtain ⟨⟨c0, c1, c2, c3⟩, f0, f1, f2, f3⟩ := h5.cells; have hsz5 := h5.size; have hl0 : w.heap.size < W5.heap.size := (by omega); have hl1 : w.heap.size + 1 < W5.heap.size := (by omega); have hl2 : w.heap.size + 2 < W5.heap.size := (by omega); have hl3 : w.heap.size + 3 < W5.heap.size := (by omega); have HH5 := Lib.hid h5; clear h5)
            have e5 := errV_pos he
            exact ⟨by rw [hz0]; exact keeps_three HH5.out _ _ _ (HKs.out.trans (keeps_below hb5)), rfl, X.length, er, by rw [← e5]; exact pa_bad HH5.out X.length er, by rw [List.map_append]; exact (stL_snoc HSt.out _).trans ((st_wrong HRd.out rfl H12.out (by rw [HEr.out]; exact he)).trans (by rw [List.length_map, HEr.out]))⟩
  case done =>
    rintro D ys W hD hys ⟨X, A, cap, h, hst⟩ hKD
    rw [hys] at hst
    clear hys
    have hl12 : (X.map (·.1)).length ≤ 12 := stL_le (ah := []) (by simp) hst
    obtain ⟨hN, hcap⟩ := h.nodes
    have HE := ends_any (c := cap) hN hl12
    rw [List.length_map] at HE
    obtain ⟨⟨c0, c1, c2, c3⟩, f0, f1, f2, f3⟩ := h.cells
    have hsz := h.size
    have HH := Lib.hid h
    have HSt := Lib.hid hst
    have HKD := Lib.hid hKD
    have hl := hl12
    rw [List.length_map] at hl
    obtain ⟨er, her⟩ : ∃ er, endsP (X.map (·.1)) = er := ⟨_, rfl⟩
    rw [her] at HE
    have HEr := Lib.hid her
    clear her h hst hKD hN hl12
    by_cases he : er = 0
    · subst he
      rw [errV_zero] at HE
      have ff : Fence.wide.fn 47 := trivial
      gi_wp2_with (gi_at_call 47; refine (callsIn_wide.2 HE).mono ?_; rintro e W2 ⟨rfl, hb2⟩; have h2 := HH.out.call hb2; obtain ⟨⟨c0, c1, c2, c3⟩, f0, f1, f2, f3⟩ := h2.cells; have hsz2 := h2.size; have HH2 := Lib.hid h2; have HK2 := Lib.hid ((hb2.block D (Array.getElem?_eq_some_iff.1 HKD.out).1).trans HKD.out); clear h2)
      obtain ⟨r0, r1, r2, hb3, hs3, hk3⟩ := pa_three HH2.out (.slice A X.length cap) (.int .i64 0) .nilIface
      have hK3 := (hk3 D (by omega)).trans HK2.out
      obtain ⟨⟨q0, q1, q2⟩, hb4⟩ := pa_fin (D := D) (.deferred none) hb3 (by omega) (by omega) r0 r1 r2
      have hN4 := HH2.out.later (W' := ((((W2.setCell ⟨w.heap.size, 0, none⟩ (.slice A X.length cap)).setCell ⟨w.heap.size + 1, 0, none⟩ (.int .i64 0)).setCell ⟨w.heap.size + 2, 0, none⟩ .nilIface).putObj D (.deferred none))) (fun k cur e f hk hc => by
        by_cases hkD : k = D
        · subst hkD; rw [HK2.out] at hc; cases hc
        · rw [World.putObj_heap_other hkD, hk3 k (by omega)]; exact hc)
      refine ⟨by simp, .inl ⟨_, _, rfl, run_takeDeferred hK3, ?_⟩⟩
      refine ⟨.tuple #[.slice A X.length cap, .int .i64 0, .nilIface], by simp [results, Tryz.results25, go_sem, q0, q1, q2], hb4, .inl ⟨X.map (·.1), A, cap, ?_, by rw [List.length_map], hN4, by rw [List.length_map]; exact hcap⟩⟩
      rw [parse_done HSt.out]
      exact if_pos HEr.out
    · rw [errV_pos he] at HE
      have ff : Fence.wide.fn 47 := trivial
      gi_wp2_with (gi_at_call 47; refine (callsIn_wide.2 HE).mono ?_; rintro e W2 ⟨rfl, hb2⟩; have h2 := HH.out.call hb2; obtain ⟨⟨c0, c1, c2, c3⟩, f0, f1, f2, f3⟩ := h2.cells; have hsz2 := h2.size; have HH2 := Lib.hid h2; have HK2 := Lib.hid ((hb2.block D (Array.getElem?_eq_some_iff.1 HKD.out).1).trans HKD.out); clear h2)
      refine wpIn_wide.2 ?_
      go_region
      obtain ⟨r0, r1, r2, hb3, hs3, hk3⟩ := pa_three HH2.out (.slice none 0 0) (.int .i64 (X.length : Int)) (.iface 77 (.int .i64 (er : Int)))
      have hK3 := (hk3 D (by omega)).trans HK2.out
      generalize hW3 : ((W2.setCell ⟨w.heap.size, 0, none⟩ (.slice none 0 0)).setCell ⟨w.heap.size + 1, 0, none⟩ (.int .i64 (X.length : Int))).setCell ⟨w.heap.size + 2, 0, none⟩ (.iface 77 (.int .i64 (er : Int))) = W3 at *
      obtain ⟨⟨q0, q1, q2⟩, hb4⟩ := pa_fin (W := W3.drew) (D := D) (.deferred none) (below_drewN hb3 1) (show w.heap.size + 5 ≤ W3.heap.size by omega) (by omega) r0 r1 r2
      gi_wp2
      refine ⟨by simp, .inl ⟨_, _, rfl, run_takeDeferred (w := W3.drew) hK3, ?_⟩⟩
      refine ⟨.tuple #[.slice none 0 0, .int .i64 (X.length : Int), .iface 77 (.int .i64 (er : Int))], by simp [results, Tryz.results25, go_sem, q0, q1, q2], hb4, .inr ⟨X.length, er, ?_, by rw [errV_pos he]⟩⟩
      rw [parse_done HSt.out]
      have e1 : endL (.ok (X.map (·.1))) = .bad (X.map (·.1)).length (endsP (X.map (·.1))) := if_neg (by rw [HEr.out]; exact he)
      rw [e1, HEr.out, List.length_map]
  case stop =>
    rintro D c pre W hD ⟨suf, hsuf⟩ ⟨rfl, a, er, h, hst⟩ hKD
    have hr0 := h.r0; have hr1 := h.r1; have hr2 := h.r2
    gi_wp2
    refine ⟨by simp, .inl ⟨_, _, rfl, run_takeDeferred hKD, ?_⟩⟩
    have hk : ∀ k, k < w.heap.size + 5 → (W.putObj D (.deferred none)).heap[k]? = W.heap[k]? := fun k hk => World.putObj_heap_other (by omega)
    have q0 : (W.putObj D (.deferred none)).cell? ⟨w.heap.size, 0, none⟩ = some (.slice none 0 0) := by simp [World.cell?, hk w.heap.size (by omega), h.r0]
    have q1 : (W.putObj D (.deferred none)).cell? ⟨w.heap.size + 1, 0, none⟩ = some (.int .i64 a) := by simp [World.cell?, hk (w.heap.size + 1) (by omega), h.r1]
    have q2 : (W.putObj D (.deferred none)).cell? ⟨w.heap.size + 2, 0, none⟩ = some (errV er) := by simp [World.cell?, hk (w.heap.size + 2) (by omega), h.r2]
    exact ⟨.tuple #[.slice none 0 0, .int .i64 a, errV er], by simp [results, Tryz.results25, go_sem, q0, q1, q2], h.below.grown (grownBy_putObj' W D (.deferred none)) (by have := h.size; omega) (fun k e => by injection e with e; omega), .inr ⟨a, er, parse_stop hsuf hst, rfl⟩⟩
end Go.Proofs.YthadeccnibnioaaGreatDoor
