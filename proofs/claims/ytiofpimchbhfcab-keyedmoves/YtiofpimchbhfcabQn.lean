/- States by parts of the groups; what stays over an append. -/
import Derived.Test.YtiofpimchbhfcabQm
import Derived.Test.YtiofpimchbhfcabQg
namespace Go.Proofs.Ytiofpimchbhfcab
open Go.RowKit Go.Shelf
set_option linter.unusedVariables false

/-- What is no row of rows of bytes stays. -/
def KpT (w w' : World) : Prop := ∀ (k : Nat) (o : Obj), w.heap[k]? = some o → (∀ cur, o ≠ .cells cur 35 (0, 0)) → w'.heap[k]? = some o
theorem KpT.grown {w w1 w' : World} {B n : Nat} {v : Value} {xs : List Value} (h : ∀ k, k < w.heap.size → w1.heap[k]? = w.heap[k]?) (hsz : w.heap.size ≤ w1.heap.size) (hg : w1.grownBy w' v.ownBlock) (ho : w1.ownsRow B 35 1 v n xs) : KpT w w' := fun k o hk hx => by
  have hk1 : w1.heap[k]? = some o := by rw [h k (some_lt hk)]; exact hk
  rw [hg.block k (some_lt hk1) ?_]; exact hk1
  intro e
  rcases ho.2 with ⟨h0, -⟩ | ⟨g, cap, cur, h0, -, hc, -⟩
  · rw [h0] at e; simp [Value.ownBlock] at e
  · rw [h0] at e
    simp [Value.ownBlock] at e
    subst e
    rw [hk1] at hc
    injection hc with hc
    exact hx _ hc
theorem KyAt.kp {w w' : World} {R M : Nat} {L : List Hd} (h : KyAt w R M L) (hk : KpT w w') : KyAt w' R M L := by
  obtain ⟨es, cl, hm⟩ := h.mp.map
  refine ⟨hk R _ h.blk (fun c hc => by injection hc with _ hc; exact absurd hc (by decide)), h.mp.block ?_⟩
  rw [hm]
  exact hk M _ hm (fun c hc => by cases hc)
theorem LyAt.same {w w' : World} {p : Option Addr} {e : TypeId} (h : LyAt w p e) (hk : KpT w w') (he : e ≠ 35) (a : Addr) (ha : p = some a) : w'.heap[a.block]? = w.heap[a.block]? := by
  rcases h with h | ⟨g, cur, h1, h2⟩
  · rw [h] at ha; cases ha
  · rw [h1] at ha
    injection ha with ha
    subst ha
    rw [h2]
    exact hk g _ h2 (fun c hc => by injection hc with _ hc; exact he hc)
theorem LyAt.kp {w w' : World} {p : Option Addr} {e : TypeId} (h : LyAt w p e) (hk : KpT w w') (he : e ≠ 35) : LyAt w' p e := by
  rcases h with h | ⟨g, cur, h1, h2⟩
  · exact .inl h
  · exact .inr ⟨g, cur, h1, hk g _ h2 (fun c hc => by injection hc with _ hc; exact he hc)⟩
theorem BsAt.same {w w' : World} {p : Option Addr} {l : List UInt8} (h : BsAt w p l) (hs : ∀ a, p = some a → w'.heap[a.block]? = w.heap[a.block]?) : BsAt w' p l := by
  rcases h with h | ⟨b, o, rfl, hc⟩
  · exact .inl h
  · refine .inr ⟨b, o, rfl, fun i hi => ?_⟩
    have e : w'.heap[b]? = w.heap[b]? := hs _ rfl
    rw [show w'.cell? ⟨b, o + i, none⟩ = w.cell? ⟨b, o + i, none⟩ from World.cell?_of_block (a := ⟨b, o + i, none⟩) e]
    exact hc i hi
theorem PtOk.kp {w w' : World} {t : Pt} (h : PtOk w t) (ha : LyAt w t.1 5) (hk : KpT w w') : PtOk w' t :=
  ⟨⟨h.1.1.same (fun a hp => ha.same hk (by decide) a hp), h.1.2⟩, h.2⟩

theorem part_put {L : List Hd} (hL : RisH L) {b b' : Int} (h1 : b ≤ b') : putAll (L.filter (inR 0 b)) (L.filter (inR b b')) = L.filter (inR 0 b') := by
  have hr := ris_notSm (hL.filter (inR b b'))
  refine ris_ext (putAll_ris (hL.filter _) _) (hL.filter _) (fun x => ?_)
  rw [mem_putAll hr]
  simp only [List.mem_filter, inR, Bool.and_eq_true, decide_eq_true_eq]
  have hx := gH_bd x
  constructor
  · rintro (⟨k1, k2, k3⟩ | ⟨⟨k1, k2, k3⟩, -⟩)
    · exact ⟨k1, by omega, by omega⟩
    · exact ⟨k1, by omega, by omega⟩
  · rintro ⟨k1, k2, k3⟩
    by_cases hb : b ≤ gH x
    · exact .inl ⟨k1, hb, k3⟩
    · refine .inr ⟨⟨k1, k2, by omega⟩, fun y hy hs => ?_⟩
      have e := ris_uniq hL k1 hy.1 hs
      subst e
      omega
theorem part_len (L : List Hd) {b b' : Int} (h0 : 0 ≤ b) (h1 : b ≤ b') : (L.filter (inR 0 b)).length + (L.filter (inR b b')).length = (L.filter (inR 0 b')).length := by
  induction L with
  | nil => rfl
  | cons x L ih =>
    have hx := gH_bd x
    simp only [List.filter_cons]
    by_cases k1 : gH x < b
    · have e1 : inR 0 b x = true := by simp [inR]; omega
      have e2 : inR b b' x = false := by simp [inR]; omega
      have e3 : inR 0 b' x = true := by simp [inR]; omega
      simp only [e1, e2, e3, if_true, Bool.false_eq_true, if_false, List.length_cons]
      omega
    · by_cases k2 : gH x < b'
      · have e1 : inR 0 b x = false := by simp [inR]; omega
        have e2 : inR b b' x = true := by simp [inR]; omega
        have e3 : inR 0 b' x = true := by simp [inR]; omega
        simp only [e1, e2, e3, if_true, Bool.false_eq_true, if_false, List.length_cons]
        omega
      · have e1 : inR 0 b x = false := by simp [inR]; omega
        have e2 : inR b b' x = false := by simp [inR]; omega
        have e3 : inR 0 b' x = false := by simp [inR]; omega
        simp only [e1, e2, e3, Bool.false_eq_true, if_false]
        omega
theorem part_zero (L : List Hd) : L.filter (inR 0 0) = [] := List.filter_eq_nil_iff.2 (fun x _ h => by simp [inR] at h; omega)
theorem part_all (L : List Hd) : L.filter (inR 0 16) = L := List.filter_eq_self.2 (fun x _ => by have := gH_bd x; simp [inR]; omega)
/-- The parts of the first workers. -/
def partsP (L : List Hd) (p : Int) (k : Nat) : List (List Hd) := (List.range k).map (fun i : Nat => L.filter (inR (bgn p i) (bgn p (i + 1))))
theorem partsP_len (L : List Hd) (p : Int) (k : Nat) : (partsP L p k).length = k := by simp [partsP]
theorem partsP_succ (L : List Hd) (p : Int) (k : Nat) : partsP L p (k + 1) = partsP L p k ++ [L.filter (inR (bgn p k) (bgn p (k + 1)))] := by
  simp [partsP, List.range_succ]
theorem parts_all {L : List Hd} (hL : RisH L) {p : Int} (h1 : 1 ≤ p) (h2 : p ≤ 16) : ∀ k : Nat, (k : Int) ≤ p → putAll [] (partsP L p k).flatten = L.filter (inR 0 (bgn p k)) ∧ (partsP L p k).flatten.length = (L.filter (inR 0 (bgn p k))).length
  | 0, _ => by
    have e : bgn p ((0 : Nat) : Int) = 0 := bgn_zero h1 h2
    rw [e, part_zero]
    exact ⟨rfl, rfl⟩
  | k + 1, hk => by
    obtain ⟨i1, i2⟩ := parts_all hL h1 h2 k (by omega)
    have hs := bgn_step (p := p) (i := (k : Int)) h1 h2 (by omega) (by omega)
    rw [partsP_succ, List.flatten_append, show [L.filter (inR (bgn p k) (bgn p (k + 1)))].flatten = L.filter (inR (bgn p k) (bgn p (k + 1))) from by simp, putAll_append, i1, List.length_append, i2]
    have e : (((k + 1 : Nat) : Int)) = (k : Int) + 1 := by omega
    rw [e]
    exact ⟨part_put hL (by omega), part_len L (by omega) (by omega)⟩
theorem stK_mem (L : List Hd) : ∀ k, k ≤ L.length → ∀ r ∈ stK L k, r ∈ L
  | 0, _, r, h => by simp [stK] at h
  | k + 1, hk, r, h => by
    rw [stK_succ L k (by omega)] at h
    unfold goodP at h
    split at h
    · exact stK_mem L k (by omega) r h
    · rcases (mem_putP _ _ _).1 h with rfl | ⟨h1, -⟩
      · exact List.getElem_mem _
      · exact stK_mem L k (by omega) r h1
theorem stK_goodL {L : List Hd} (hok : ∀ r ∈ L, OkHd r) (k : Nat) (hk : k ≤ L.length) (h4 : k ≤ 400) : GoodL (stK L k) :=
  ⟨Nat.le_trans (stK_len L k hk) h4, fun r hr => ⟨stK_good L k hk r hr, hok r (stK_mem L k hk r hr)⟩, stK_ris L k hk⟩
end Go.Proofs.Ytiofpimchbhfcab
