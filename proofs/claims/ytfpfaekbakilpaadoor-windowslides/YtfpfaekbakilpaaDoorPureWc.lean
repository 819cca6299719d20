/- Panes side by side: all later, twice as wide; in another order. Plain mathematics. -/
import Derived.Test.YtfpfaekbakilpaaDoorPureWb
namespace Go.Proofs.YtfpfaekbakilpaaDoor
set_option linter.unusedVariables false

/-- One record more, where none is late. -/
def put1 (size : Int) (L : List Pn) (r : Rg) : List Pn := upd size 0 r L (r.tm / size * size)
def sideP (size : Int) (l : List Rg) : List Pn := l.foldl (put1 size) []
theorem sl_side {size : Int} (h1 : 1 ≤ size) (l : List Rg) (hr : ∀ r ∈ l, 0 ≤ r.tm ∧ r.tm ≤ 1000000) : slS size size 1000000 l = (sideP size l, 0) := by
  have : ∀ (l : List Rg) (L : List Pn), (∀ r ∈ l, 0 ≤ r.tm ∧ r.tm ≤ 1000000) → l.foldl (fun s r => (takeP size size s.2 r s.1, max s.2 (r.tm - 1000000))) (L, 0) = (l.foldl (put1 size) L, 0) := by
    intro l
    induction l with
    | nil => intro L _; rfl
    | cons r l ih =>
      intro L hl
      have h2 := hl r (by simp)
      simp only [List.foldl_cons]
      rw [take_side h1 h2.1, show max (0 : Int) (r.tm - 1000000) = 0 from by omega]
      exact ih _ (fun x hx => hl x (by simp [hx]))
  exact this l [] hr
theorem side_snoc (size : Int) (l : List Rg) (r : Rg) : sideP size (l ++ [r]) = put1 size (sideP size l) r := by unfold sideP; rw [List.foldl_append]; rfl
theorem put1_ris {size : Int} {L : List Pn} (h : RisH L) (r : Rg) : RisH (put1 size L r) := upd_ris h _
theorem side_ris (size : Int) (l : List Rg) : RisH (sideP size l) := by
  refine snoc_ind (P := fun l => RisH (sideP size l)) List.Pairwise.nil (fun l r ih => ?_) l
  rw [side_snoc]; exact put1_ris ih r
/-- Two rows that rise are one where each place has the same. -/
theorem ris_find {l m : List Pn} (hl : RisH l) (hm : RisH m) (h : ∀ n k, findH l n k = findH m n k) : l = m := by
  refine ris_ext hl hm (fun x => ?_)
  have h1 := h x.fr x.key
  constructor
  · intro hx
    exact ((findH_iff hm x.fr x.key x).1 (h1 ▸ (findH_iff hl x.fr x.key x).2 ⟨hx, rfl, rfl⟩)).1
  · intro hx
    exact ((findH_iff hl x.fr x.key x).1 (h1.symm ▸ (findH_iff hm x.fr x.key x).2 ⟨hx, rfl, rfl⟩)).1
theorem find_upd {size mark : Int} {r : Rg} {L : List Pn} (h : RisH L) (fr n : Int) (k : ByteArray) : findH (upd size mark r L fr) n k = if fr = n ∧ r.key = k then some (bump size mark r fr ((findH L fr r.key).getD pn0)) else findH L n k := by
  unfold upd
  rw [find_putP h]
  obtain ⟨b1, b2, b3⟩ := bump_at size mark r fr ((findH L fr r.key).getD pn0)
  rw [b1, b2]
theorem bump_comm (size mark fr : Int) (a b : Rg) (hk : a.key = b.key) (q : Pn) : bump size mark a fr (bump size mark b fr q) = bump size mark b fr (bump size mark a fr q) := by
  unfold bump
  by_cases h : mark ≥ fr + size
  · simp only [if_pos h, hk]
  · simp only [if_neg h, hk, Pn.mk.injEq, true_and, and_true]
    rw [w64_add, w64_add, show q.sm + b.num + a.num = q.sm + a.num + b.num from by omega]
theorem upd_comm {size mark : Int} {L : List Pn} (h : RisH L) (a b : Rg) (fa fb : Int) : upd size mark b (upd size mark a L fa) fb = upd size mark a (upd size mark b L fb) fa := by
  refine ris_find (upd_ris (upd_ris h _) _) (upd_ris (upd_ris h _) _) (fun n k => ?_)
  rw [find_upd (upd_ris h _), find_upd (upd_ris h _), find_upd h, find_upd h, find_upd h, find_upd h]
  by_cases h1 : fa = fb ∧ a.key = b.key
  · obtain ⟨rfl, hk⟩ := h1
    rw [hk]
    by_cases h2 : fa = n ∧ b.key = k
    · simp only [h2, and_self, if_true, Option.getD_some]
      rw [bump_comm size mark n b a hk.symm]
    · simp only [if_neg h2]
  · have h1' : ¬ (fb = fa ∧ b.key = a.key) := fun e => h1 ⟨e.1.symm, e.2.symm⟩
    rw [if_neg h1, if_neg h1']
    by_cases h2 : fa = n ∧ a.key = k
    · by_cases h3 : fb = n ∧ b.key = k
      · exact absurd ⟨h2.1.trans h3.1.symm, h2.2.trans h3.2.symm⟩ h1
      · simp only [if_pos h2, if_neg h3]
    · by_cases h3 : fb = n ∧ b.key = k
      · simp only [if_neg h2, if_pos h3]
      · simp only [if_neg h2, if_neg h3]
theorem put1_comm {size : Int} {L : List Pn} (h : RisH L) (a b : Rg) : put1 size (put1 size L a) b = put1 size (put1 size L b) a := upd_comm h a b _ _
theorem fold_mid {size : Int} : ∀ (l : List Rg) (L : List Pn) (a : Rg), RisH L → l.foldl (put1 size) (put1 size L a) = put1 size (l.foldl (put1 size) L) a
  | [], _, _, _ => rfl
  | b :: l, L, a, h => by
    simp only [List.foldl_cons]
    rw [put1_comm h a b]
    exact fold_mid l (put1 size L b) a (put1_ris h b)
theorem fold_rev {size : Int} : ∀ (l : List Rg) (L : List Pn), RisH L → l.reverse.foldl (put1 size) L = l.foldl (put1 size) L
  | [], _, _ => rfl
  | a :: l, L, h => by
    rw [List.reverse_cons, List.foldl_append, fold_rev l L h]
    simp only [List.foldl_cons, List.foldl_nil]
    rw [fold_mid l L a h]
theorem side_rev (size : Int) (l : List Rg) : sideP size l.reverse = sideP size l := fold_rev l [] List.Pairwise.nil

/-- All later. -/
def lat (d : Int) (p : Pn) : Pn := ⟨p.key, p.fr + d, p.to + d, p.mn, p.sm, p.lt⟩
def latR (d : Int) (r : Rg) : Rg := ⟨r.key, r.num, r.tm + d⟩
theorem ah_lat (d : Int) (a b : Pn) : Ah (lat d a) (lat d b) ↔ Ah a b := by
  unfold Ah AhK lat
  simp only
  constructor
  · rintro (h | ⟨h1, h2⟩)
    · exact .inl h
    · exact .inr ⟨h1, by omega⟩
  · rintro (h | ⟨h1, h2⟩)
    · exact .inl h
    · exact .inr ⟨h1, by omega⟩
theorem put_lat (d : Int) (L : List Pn) (h : Pn) : putP (L.map (lat d)) (lat d h) = (putP L h).map (lat d) := by
  unfold putP
  rw [List.filter_map, List.filter_map, List.map_append, List.map_cons]
  have e1 : ((fun x => decide (Ah x (lat d h))) ∘ lat d) = (fun x => decide (Ah x h)) := by funext x; exact decide_eq_decide.2 (ah_lat d x h)
  have e2 : ((fun x => decide (Ah (lat d h) x)) ∘ lat d) = (fun x => decide (Ah h x)) := by funext x; exact decide_eq_decide.2 (ah_lat d h x)
  rw [e1, e2]
theorem find_lat (d : Int) (L : List Pn) (n : Int) (k : ByteArray) : findH (L.map (lat d)) (n + d) k = (findH L n k).map (lat d) := by
  unfold findH
  rw [List.find?_map]
  have e : (isAt (n + d) k ∘ lat d) = isAt n k := by
    funext x
    unfold isAt lat
    simp only [Function.comp]
    refine decide_eq_decide.2 ⟨fun ⟨h1, h2⟩ => ⟨by omega, h2⟩, fun ⟨h1, h2⟩ => ⟨by omega, h2⟩⟩
  rw [e]
theorem put1_lat {size d j : Int} (h1 : 1 ≤ size) (hd : d = j * size) (hj : 0 ≤ j) (L : List Pn) (r : Rg) (h0 : 0 ≤ r.tm) : put1 size (L.map (lat d)) (latR d r) = (put1 size L r).map (lat d) := by
  have hf0 : 0 ≤ r.tm / size * size := Int.mul_nonneg (Int.ediv_nonneg h0 (by omega)) (by omega)
  have hd0 : 0 ≤ d := by rw [hd]; exact Int.mul_nonneg hj (by omega)
  have e1 : (r.tm + d) / size * size = r.tm / size * size + d := by
    rw [hd, Int.add_mul_ediv_right _ _ (by omega), Int.add_mul]
  unfold put1
  show upd size 0 (latR d r) (L.map (lat d)) ((r.tm + d) / size * size) = _
  rw [e1]
  unfold upd
  show putP (L.map (lat d)) (bump size 0 (latR d r) (r.tm / size * size + d) ((findH (L.map (lat d)) (r.tm / size * size + d) r.key).getD pn0)) = _
  rw [find_lat]
  generalize r.tm / size * size = fr at *
  have e2 : bump size 0 (latR d r) (fr + d) (((findH L fr r.key).map (lat d)).getD pn0) = lat d (bump size 0 r fr ((findH L fr r.key).getD pn0)) := by
    have n1 : ¬ (0 : Int) ≥ fr + d + size := by omega
    have n2 : ¬ (0 : Int) ≥ fr + size := by omega
    unfold bump
    rw [if_neg n1, if_neg n2]
    cases findH L fr r.key with
    | none => simp [lat, latR, pn0]; omega
    | some y => simp [lat, latR]; omega
  rw [e2, put_lat]
theorem side_lat {size d j : Int} (h1 : 1 ≤ size) (hd : d = j * size) (hj : 0 ≤ j) (l : List Rg) (hr : ∀ r ∈ l, 0 ≤ r.tm) : sideP size (l.map (latR d)) = (sideP size l).map (lat d) := by
  revert hr
  refine snoc_ind (P := fun l => (∀ r ∈ l, 0 ≤ r.tm) → sideP size (l.map (latR d)) = (sideP size l).map (lat d)) (fun _ => rfl) (fun l r ih hr => ?_) l
  rw [List.map_append, List.map_cons, List.map_nil, side_snoc, side_snoc, ih (fun x hx => hr x (by simp [hx])), put1_lat h1 hd hj _ _ (hr r (by simp))]

theorem sumF_part {f : Pn → Int} {L : List Pn} (h : ∀ p ∈ L, 0 ≤ f p) (k : Nat) : 0 ≤ sumF f (L.take k) ∧ sumF f (L.take k) ≤ sumF f L := by
  have pos : ∀ M : List Pn, (∀ p ∈ M, 0 ≤ f p) → 0 ≤ sumF f M := by
    intro M
    induction M with
    | nil => intro _; simp [sumF]
    | cons x M ih => intro hM; rw [sumF_cons]; have := ih (fun p hp => hM p (by simp [hp])); have := hM x (by simp); omega
  have e : sumF f L = sumF f (L.take k) + sumF f (L.drop k) := by rw [← sumF_append, List.take_append_drop]
  have h1 := pos (L.take k) (fun p hp => h p (List.mem_of_mem_take hp))
  have h2 := pos (L.drop k) (fun p hp => h p (List.mem_of_mem_drop hp))
  omega
theorem w64_sub {a b : Int} (h : w64 a = w64 b) : w64 (a - b) = 0 := by unfold w64 at *; omega
theorem w64_dif (a b : Int) : w64 (w64 a - b) = w64 (a - b) := by unfold w64; omega
/-- Sums. -/
theorem side_cnt {size : Int} (h1 : 1 ≤ size) (l : List Rg) (hr : ∀ r ∈ l, 0 ≤ r.tm) : l.length ≤ 1000000 → Iv size l.length (sideP size l) ∧ (∀ p ∈ sideP size l, p.lt = 0) ∧ sumF (fun p => p.mn) (sideP size l) = l.length := by
  revert hr
  refine snoc_ind (P := fun l => (∀ r ∈ l, 0 ≤ r.tm) → l.length ≤ 1000000 → Iv size l.length (sideP size l) ∧ (∀ p ∈ sideP size l, p.lt = 0) ∧ sumF (fun p => p.mn) (sideP size l) = l.length) (fun _ _ => ⟨Iv.nil size, by simp [sideP], rfl⟩) (fun l r ih hr hl => ?_) l
  rw [List.length_append] at hl ⊢
  simp only [List.length_cons, List.length_nil] at hl ⊢
  obtain ⟨i1, i2, i3⟩ := ih (fun x hx => hr x (by simp [hx])) (by omega)
  have h0 := hr r (by simp)
  have hf0 : 0 ≤ r.tm / size * size := Int.mul_nonneg (Int.ediv_nonneg h0 (by omega)) (by omega)
  rw [side_snoc]
  unfold put1
  generalize r.tm / size * size = fr at *
  have n2 : ¬ (0 : Int) ≥ fr + size := by omega
  obtain ⟨a1, a2, a3, a4⟩ := i1.find (by omega) fr r.key
  refine ⟨?_, ?_, ?_⟩
  · have := i1.upd (by omega) (by omega) 0 r fr
    rw [Int.natCast_add]; exact this
  · have hq : (bump size 0 r fr ((findH (sideP size l) fr r.key).getD pn0)).lt = 0 := by
      unfold bump
      rw [if_neg n2]
      cases hf : findH (sideP size l) fr r.key with
      | none => rfl
      | some y => exact i2 y ((findH_iff i1.ris fr r.key y).1 hf).1
    exact putP_mem_of i2 hq
  · rw [sumF_upd _ i1.ris _ _ _ _ rfl, i3]
    have : (bump size 0 r fr ((findH (sideP size l) fr r.key).getD pn0)).mn = ((findH (sideP size l) fr r.key).getD pn0).mn + 1 := by
      unfold bump
      rw [if_neg n2]
      exact w64_id (by omega) (by omega)
    omega
def numS (l : List Rg) : Int := (l.map (·.num)).sum
theorem side_sum {size : Int} (h1 : 1 ≤ size) (l : List Rg) (hr : ∀ r ∈ l, 0 ≤ r.tm) : w64 (sumF (fun p => p.sm) (sideP size l)) = w64 (numS l) := by
  revert hr
  refine snoc_ind (P := fun l => (∀ r ∈ l, 0 ≤ r.tm) → w64 (sumF (fun p => p.sm) (sideP size l)) = w64 (numS l)) (fun _ => rfl) (fun l r ih hr => ?_) l
  have i := ih (fun x hx => hr x (by simp [hx]))
  have h0 := hr r (by simp)
  have hf0 : 0 ≤ r.tm / size * size := Int.mul_nonneg (Int.ediv_nonneg h0 (by omega)) (by omega)
  rw [side_snoc]
  unfold put1
  generalize r.tm / size * size = fr at *
  have n2 : ¬ (0 : Int) ≥ fr + size := by omega
  rw [sumF_upd _ (side_ris size l) _ _ _ _ rfl]
  have : (bump size 0 r fr ((findH (sideP size l) fr r.key).getD pn0)).sm = w64 (((findH (sideP size l) fr r.key).getD pn0).sm + r.num) := by
    unfold bump
    rw [if_neg n2]
  rw [this]
  have e : numS (l ++ [r]) = numS l + r.num := by unfold numS; simp
  rw [e]
  generalize ((findH (sideP size l) fr r.key).getD pn0).sm = x at *
  generalize sumF (fun p => p.sm) (sideP size l) = S at *
  unfold w64 at *
  omega
theorem side_len {size : Int} (h1 : 1 ≤ size) (l : List Rg) : (sideP (2 * size) l).length ≤ (sideP size l).length ∧ ∀ x ∈ sideP size l, ∃ y ∈ sideP (2 * size) l, y.key = x.key ∧ y.fr = x.fr / (2 * size) * (2 * size) := by
  refine snoc_ind (P := fun l => (sideP (2 * size) l).length ≤ (sideP size l).length ∧ ∀ x ∈ sideP size l, ∃ y ∈ sideP (2 * size) l, y.key = x.key ∧ y.fr = x.fr / (2 * size) * (2 * size)) ⟨by simp [sideP], by simp [sideP]⟩ (fun l r ih => ?_) l
  obtain ⟨i1, i2⟩ := ih
  rw [side_snoc, side_snoc]
  have hk : r.tm / size * size / (2 * size) = r.tm / (2 * size) := by
    rw [Int.mul_comm 2 size, Int.mul_comm (r.tm / size) size, Int.mul_ediv_mul_of_pos _ _ (by omega), Int.ediv_ediv_of_nonneg (by omega)]
  unfold put1
  constructor
  · unfold upd
    rw [putP_len (side_ris _ _), putP_len (side_ris _ _)]
    obtain ⟨b1, b2, -⟩ := bump_at (2 * size) 0 r (r.tm / (2 * size) * (2 * size)) ((findH (sideP (2 * size) l) (r.tm / (2 * size) * (2 * size)) r.key).getD pn0)
    obtain ⟨c1, c2, -⟩ := bump_at size 0 r (r.tm / size * size) ((findH (sideP size l) (r.tm / size * size) r.key).getD pn0)
    rw [b1, b2, c1, c2]
    by_cases hf : (findH (sideP (2 * size) l) (r.tm / (2 * size) * (2 * size)) r.key).isSome
    · rw [if_pos hf]; split <;> omega
    · have : ¬ (findH (sideP size l) (r.tm / size * size) r.key).isSome = true := fun hs => by
        obtain ⟨x, hx⟩ := Option.isSome_iff_exists.1 hs
        obtain ⟨x1, x2, x3⟩ := (findH_iff (side_ris _ _) _ _ _).1 hx
        obtain ⟨y, y1, y2, y3⟩ := i2 x x1
        rw [x2, hk] at y3
        have := (findH_iff (side_ris (2 * size) l) _ _ y).2 ⟨y1, y3, y2.trans x3⟩
        rw [this] at hf
        exact hf rfl
      rw [if_neg hf, if_neg this]; omega
  · intro x hx
    have hnew : ∃ y ∈ upd (2 * size) 0 r (sideP (2 * size) l) (r.tm / (2 * size) * (2 * size)), y.key = r.key ∧ y.fr = r.tm / (2 * size) * (2 * size) := by
      obtain ⟨b1, b2, -⟩ := bump_at (2 * size) 0 r (r.tm / (2 * size) * (2 * size)) ((findH (sideP (2 * size) l) (r.tm / (2 * size) * (2 * size)) r.key).getD pn0)
      exact ⟨_, (mem_putP _ _ _).2 (.inl rfl), b1, b2⟩
    rcases (mem_putP _ _ _).1 hx with rfl | ⟨hx1, -⟩
    · obtain ⟨c1, c2, -⟩ := bump_at size 0 r (r.tm / size * size) ((findH (sideP size l) (r.tm / size * size) r.key).getD pn0)
      rw [c1, c2, hk]
      exact hnew
    · obtain ⟨y, y1, y2, y3⟩ := i2 x hx1
      by_cases hs : Sm y (bump (2 * size) 0 r (r.tm / (2 * size) * (2 * size)) ((findH (sideP (2 * size) l) (r.tm / (2 * size) * (2 * size)) r.key).getD pn0))
      · obtain ⟨b1, b2, -⟩ := bump_at (2 * size) 0 r (r.tm / (2 * size) * (2 * size)) ((findH (sideP (2 * size) l) (r.tm / (2 * size) * (2 * size)) r.key).getD pn0)
        have s1 := hs.1
        have s2 := hs.2
        rw [b2] at s1
        rw [b1] at s2
        obtain ⟨z, z1, z2, z3⟩ := hnew
        exact ⟨z, z1, by rw [z2, ← s2, y2], by rw [z3, ← s1, y3]⟩
      · exact ⟨y, (mem_putP _ _ _).2 (.inr ⟨y1, hs⟩), y2, y3⟩
end Go.Proofs.YtfpfaekbakilpaaDoor
