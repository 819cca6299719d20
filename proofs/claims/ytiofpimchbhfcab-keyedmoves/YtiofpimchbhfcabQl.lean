/- within, Export, Import. -/
import Derived.Test.YtiofpimchbhfcabQk
namespace Go.Proofs.Ytiofpimchbhfcab
open Go.RowKit Go.Shelf
set_option linter.unusedVariables false

/-- Where a row of elements of a type lies; what is no row of rows of bytes stays. -/
def LyAt (w : World) (p : Option Addr) (e : TypeId) : Prop := p = none ∨ ∃ (g : Nat) (cur : Array Value), p = some ⟨g, 0, none⟩ ∧ w.heap[g]? = some (.cells cur e (0, 0))
theorem LyAt.below {w w' : World} {p : Option Addr} {e : TypeId} (h : LyAt w p e) (hb : Below w.heap.size w w') : LyAt w' p e := by
  rcases h with h | ⟨g, cur, h1, h2⟩
  · exact .inl h
  · exact .inr ⟨g, cur, h1, by rw [hb.block g (some_lt h2)]; exact h2⟩
theorem LyAt.of {w : World} {B n m cap : Nat} {e : TypeId} {p : Option Addr} {cs : List Value} (h : w.ownsRow B e m (.slice p n cap) n cs) : LyAt w p e := by
  rcases h.2 with ⟨h0, -⟩ | ⟨g, cap, cur, h0, hb, hg, -⟩
  · simp at h0; exact .inl h0.1
  · simp at h0; exact .inr ⟨g, cur, h0.1, hg⟩
theorem own_hs {w : World} {B n cap : Nat} {A : Option Addr} {xs : List Hd} (h : w.ownsRow B 29 4 (.slice A n cap) n (hcells xs)) (hn : xs.length = n) : HsAt w B A xs ∧ n ≤ cap := by
  obtain ⟨h1, h2⟩ := own_cs h (by rw [hcells_len, hn])
  refine ⟨⟨h1, fun a ha => ?_⟩, h2⟩
  subst ha
  rcases h.2 with ⟨e0, -⟩ | ⟨g, cap', cur, e0, hg, -⟩
  · simp at e0
  · simp only [Value.slice.injEq, Option.some.injEq] at e0
    obtain ⟨rfl, -⟩ := e0
    exact ⟨rfl, hg, fun i hi => h.frozenAt i⟩

/-- States that Helds writes. -/
def GoodL (L : List Hd) : Prop := L.length ≤ 400 ∧ (∀ r ∈ L, badHd r = false ∧ OkHd r) ∧ RisH L
theorem hdsE_of : ∀ (L : List Hd) (p : Option Hd), (∀ r ∈ L, badHd r = false) → RisH L → (∀ q, p = some q → ∀ r ∈ L, Ah q r) → hdsE ltH p L = 0
  | [], p, _, _, _ => rfl
  | x :: L, p, hb, hr, hp => by
    obtain ⟨r1, r2⟩ := List.pairwise_cons.1 hr
    have hx := hb x (by simp)
    have ih := hdsE_of L (some x) (fun r hr => hb r (List.mem_cons_of_mem _ hr)) r2 (fun q hq r hr => by injection hq with hq; subst hq; exact r1 r hr)
    cases p with
    | none => rw [hdsE_n, hx]; exact ih
    | some q =>
      rw [hdsE_s, hx, ltH_ah, decide_eq_true (hp q rfl x (by simp))]
      exact ih
theorem hdsE_to : ∀ (L : List Hd) (p : Option Hd), hdsE ltH p L = 0 → (∀ r ∈ L, badHd r = false) ∧ RisH L ∧ (∀ q, p = some q → ∀ r ∈ L, Ah q r)
  | [], p, _ => ⟨by simp, List.Pairwise.nil, by simp⟩
  | x :: L, p, h => by
    have key : badHd x = false ∧ hdsE ltH (some x) L = 0 ∧ (∀ q, p = some q → Ah q x) := by
      cases p with
      | none =>
        rw [hdsE_n] at h
        cases hb : badHd x with
        | true => rw [hb] at h; cases h
        | false => rw [hb] at h; exact ⟨rfl, h, by simp⟩
      | some q =>
        rw [hdsE_s] at h
        cases hb : badHd x with
        | true => rw [hb] at h; cases h
        | false =>
          rw [hb] at h
          simp only [Bool.false_eq_true, if_false] at h
          split at h
          · cases h
          · rename_i hl
            refine ⟨rfl, h, fun q' hq => ?_⟩
            injection hq with hq
            subst hq
            rw [ltH_ah] at hl
            simpa using hl
    obtain ⟨h1, h2, h3⟩ := hdsE_to L (some x) key.2.1
    have h4 := h3 x rfl
    refine ⟨fun r hr => ?_, List.pairwise_cons.2 ⟨h4, h2⟩, fun q hq r hr => ?_⟩
    · rcases List.mem_cons.1 hr with rfl | hr
      · exact key.1
      · exact h1 r hr
    · rcases List.mem_cons.1 hr with rfl | hr
      · exact key.2.2 q hq
      · exact (key.2.2 q hq).trans (h4 r hr)
theorem good_zero {L : List Hd} (h : GoodL L) : heldsE ltH L = 0 := by
  unfold heldsE
  rw [if_neg (by have := h.1; omega)]
  exact hdsE_of L none (fun r hr => (h.2.1 r hr).1) h.2.2 (by simp)
theorem zero_good {L : List Hd} (h : heldsE ltH L = 0) (ho : ∀ r ∈ L, OkHd r) : GoodL L := by
  unfold heldsE at h
  split at h
  · cases h
  · obtain ⟨h1, h2, -⟩ := hdsE_to L none h
    exact ⟨by omega, fun r hr => ⟨h1 r hr, ho r hr⟩, h2⟩
theorem GoodL.filter {L : List Hd} (h : GoodL L) (p : Hd → Bool) : GoodL (L.filter p) :=
  ⟨Nat.le_trans (List.length_filter_le _ _) h.1, fun r hr => h.2.1 r (List.mem_filter.1 hr).1, h.2.2.filter p⟩
theorem GoodL.okK {L : List Hd} (h : GoodL L) : ∀ r ∈ L, OkK r.nd r.key := fun r hr => good_ok (h.2.1 r hr).1
theorem read_good {l : List UInt8} {X : List Hd} (h : readHds ltH l = some X) : GoodL X ∧ l = lstB hdB X := by
  unfold readHds at h
  split at h
  · cases h
  · rename_i ys e
    split at h
    · rename_i he
      injection h with h
      subst h
      obtain ⟨a, b, c⟩ := rdAll_some (Ok := OkHd) (g := hdB) (fun x l q h => rdHd_some h) e
      exact ⟨zero_good he a, b⟩
    · cases h
theorem good_read {L : List Hd} (h : GoodL L) : readHds ltH (lstB hdB L) = some L := readHds_all ltH L (fun r hr => (h.2.1 r hr).2) (good_zero h)

/-- The block behind a slice. -/
def blkA (A : Option Addr) : List Nat := match A with | none => [] | some a => [a.block]
set_option maxRecDepth 100000 in
set_option maxHeartbeats 1000000 in
theorem within_any (low high : Int) (B : Nat) (w : World) (A : Option Addr) (cap : Nat) (xs : List Hd) (hs : HsAt w B A xs) (hks : ∀ r ∈ xs, r.key.size ≤ maxLen) (hlen : xs.length ≤ 1000000) (hcap : xs.length ≤ cap) :
    Calls Try.prog 26 #[.slice A xs.length cap, .int .i64 low, .int .i64 high] w fun e w' => e = .returned (.slice A (xs.filter (inR low high)).length cap) ∧ CsAt w' A (hcells (xs.filter (inR low high))) ∧ Fr (blkA A) w w' := by
  have hmf : ∀ (fn : Fn) (first cap : Array Value) (w : World), (Instr.makeFunc fn first cap).run Try.prog w = .ok (.func fn first cap) w := fun _ _ _ _ => rfl
  have hb2 : Below w.heap.size w ((w.alloc (.cells #[.int .i64 low] 3)).alloc (.cells #[.int .i64 high] 3)) := ((Below.refl _ _).alloc (Nat.le_refl _) _).alloc (by simp) _
  have c0 : ((w.alloc (.cells #[.int .i64 low] 3)).alloc (.cells #[.int .i64 high] 3)).cell? ⟨w.heap.size, 0, none⟩ = some (.int .i64 low) := by simp
  have c1 : ((w.alloc (.cells #[.int .i64 low] 3)).alloc (.cells #[.int .i64 high] 3)).cell? ⟨w.heap.size + 1, 0, none⟩ = some (.int .i64 high) := by simp
  have hz : w.heap.size ≤ ((w.alloc (.cells #[.int .i64 low] 3)).alloc (.cells #[.int .i64 high] 3)).heap.size := by simp; omega
  have HD : Calls Try.prog 36 #[.slice A xs.length cap, .func (.func 37) #[] #[.pointer (some ⟨w.heap.size, 0, none⟩), .pointer (some ⟨w.heap.size + 1, 0, none⟩)]] ((w.alloc (.cells #[.int .i64 low] 3)).alloc (.cells #[.int .i64 high] 3)) fun e w' => e = .returned (.slice A (xs.filter (inR low high)).length cap) ∧ CsAt w' A (hcells (xs.filter (inR low high))) ∧ Fr (blkA A) w w' := by
    generalize (w.alloc (.cells #[.int .i64 low] 3)).alloc (.cells #[.int .i64 high] 3) = W at *
    cases hI : idxP (inR low high) xs with
    | none =>
      rw [idxP_all hI]
      refine (delf_none low high w.heap.size (w.heap.size + 1) W A cap xs (hs.cs.keep hb2) hks hlen c0 c1 hI).mono ?_
      rintro e w' ⟨h1, h2⟩
      have h3 := below_after h2 hb2
      exact ⟨h1, hs.cs.keep h3, Fr.below h3⟩
    | some k =>
      obtain ⟨hk, -, -⟩ := idxP_at hI
      obtain ⟨g, o, rfl, hc⟩ := hs.cs.at (fun e => by have := hcells_len xs; rw [e] at this; simp at this; omega)
      obtain ⟨h1, h2, h3⟩ := hs.off _ rfl
      simp only at h1 h2 h3
      subst h1
      have hg : g < w.heap.size := cell_lt (hc 0 _ (List.getElem?_eq_getElem (by rw [hcells_len]; omega)))
      refine (delf_some low high w.heap.size (w.heap.size + 1) W g cap xs (hs.cs.keep hb2) (fun i hi => by rw [World.frozen?_of_block (w := w) (hb2.block g hg)]; exact h3 i hi) hks hlen hcap (by omega) (by omega) c0 c1 k hI).mono ?_
      rintro e w' ⟨e1, e2, e3⟩
      exact ⟨e1, e2, (Fr.below hb2).trans e3⟩
  clear hs c0 c1 hb2 hz
  go_enter Try.func26, Try.ntmps26
  go_wp2_with (go_at_call 36; refine HD.mono ?_; rintro e u ⟨rfl, h1, h2⟩)
  go_ret
  exact ⟨rfl, h1, h2⟩
def rngB (low high : Int) : Bool := decide (0 ≤ low) && decide (low ≤ high) && decide (high ≤ 16)
set_option maxHeartbeats 1000000 in
theorem rng_any (low high : Int) (w : World) : Calls Try.prog 24 #[.int .i64 low, .int .i64 high] w fun e w' => e = .returned (.bool (rngB low high)) ∧ w = w' := by
  unfold rngB
  by_cases h1 : 0 ≤ low
  · by_cases h2 : low ≤ high
    · go_enter Try.func24, Try.ntmps24
      go_wp2_with fail
      go_ret
      exact ⟨ret_bool (by simp [h1, h2]), rfl⟩
    · go_enter Try.func24, Try.ntmps24
      go_wp2_with fail
      go_ret
      exact ⟨ret_bool (by simp; omega), rfl⟩
  · go_enter Try.func24, Try.ntmps24
    go_wp2_with fail
    go_ret
    exact ⟨ret_bool (by simp; omega), rfl⟩
end Go.Proofs.Ytiofpimchbhfcab
