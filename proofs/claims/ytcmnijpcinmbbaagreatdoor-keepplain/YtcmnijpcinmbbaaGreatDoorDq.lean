/- The document's digits. -/
import Derived.Test.YtcmnijpcinmbbaaGreatDoorDk
import Derived.Deep.RegionWith
import Derived.Deep.QuietTactic
import Derived.BigQuiet
import Derived.Deep.OwnRows
import Derived.Laws.Bits64b
import Derived.Lib.ItoaNum
import Derived.Laws.BytesArg
/- Natural numbers as words of 32 bits, the lowest first. -/
namespace Go.Proofs.YtcmnijpcinmbbaaGreatDoor.Dg

def nv : List Nat → Nat
  | [] => 0
  | a :: l => a + 4294967296 * nv l

theorem nv_cons (a : Nat) (l : List Nat) : nv (a :: l) = a + 4294967296 * nv l := by rw [nv]
theorem nv_nil : nv [] = 0 := by rw [nv]

theorem nv_append (l r : List Nat) : nv (l ++ r) = nv l + 4294967296 ^ l.length * nv r := by
  induction l with
  | nil => simp [nv_nil]
  | cons a l ih =>
    rw [List.cons_append, nv_cons, nv_cons, ih, List.length_cons, Nat.pow_succ, Nat.mul_add, Nat.mul_comm (4294967296 ^ l.length) 4294967296, Nat.mul_assoc]
    omega
theorem nv_snoc (l : List Nat) (x : Nat) : nv (l ++ [x]) = nv l + 4294967296 ^ l.length * x := by
  rw [nv_append, nv_cons, nv_nil]; simp

theorem nv_lt (l : List Nat) (h : ∀ a ∈ l, a < 4294967296) : nv l < 4294967296 ^ l.length := by
  induction l with
  | nil => simp [nv_nil]
  | cons a l ih =>
    have h1 := h a (by simp)
    have h2 := ih (fun x hx => h x (by simp [hx]))
    rw [nv_cons, List.length_cons, Nat.pow_succ]
    generalize 4294967296 ^ l.length = p at h2
    omega

theorem nv_set (l : List Nat) (k x : Nat) (hk : k < l.length) : nv (l.set k x) + 4294967296 ^ k * l[k] = nv l + 4294967296 ^ k * x := by
  induction l generalizing k with
  | nil => simp at hk
  | cons a l ih =>
    cases k with
    | zero => simp only [List.set_cons_zero, nv_cons, List.getElem_cons_zero, Nat.pow_zero, Nat.one_mul]; omega
    | succ k =>
      have := ih k (by simpa using hk)
      simp only [List.set_cons_succ, nv_cons, List.getElem_cons_succ]
      have e : ∀ y, 4294967296 ^ (k + 1) * y = 4294967296 * (4294967296 ^ k * y) := by
        intro y; rw [Nat.pow_succ, Nat.mul_comm (4294967296 ^ k) 4294967296, Nat.mul_assoc]
      rw [e, e]
      omega

theorem nv_zeros (n : Nat) : nv (List.replicate n 0) = 0 := by
  induction n with
  | zero => rfl
  | succ n ih => rw [List.replicate_succ, nv_cons, ih]

theorem nv_take_succ (l : List Nat) (i : Nat) (hi : i < l.length) : nv (l.take (i + 1)) = nv (l.take i) + 4294967296 ^ i * l[i] := by
  rw [List.take_succ_eq_append_getElem hi, nv_snoc, List.length_take, Nat.min_eq_left (by omega)]

/-- The words of a number, no 0 at the end. -/
def wl (n : Nat) : List Nat := if h : n = 0 then [] else n % 4294967296 :: wl (n / 4294967296)
termination_by n
decreasing_by omega

theorem wl_zero : wl 0 = [] := by rw [wl, dif_pos rfl]
theorem wl_pos {n : Nat} (h : n ≠ 0) : wl n = n % 4294967296 :: wl (n / 4294967296) := by rw [wl, dif_neg h]
theorem wl_step (a m : Nat) (ha : a < 4294967296) (h : a ≠ 0 ∨ m ≠ 0) : wl (a + 4294967296 * m) = a :: wl m := by
  have e1 : (a + 4294967296 * m) % 4294967296 = a := by omega
  have e2 : (a + 4294967296 * m) / 4294967296 = m := by omega
  rw [wl_pos (by omega), e1, e2]
theorem nv_wl (n : Nat) : nv (wl n) = n := by
  induction n using Nat.strongRecOn with
  | _ n ih =>
    by_cases h : n = 0
    · subst h; rw [wl_zero, nv_nil]
    · rw [wl_pos h, nv_cons, ih _ (by omega)]; omega
theorem wl_lt (n : Nat) : ∀ a ∈ wl n, a < 4294967296 := by
  induction n using Nat.strongRecOn with
  | _ n ih =>
    by_cases h : n = 0
    · subst h; rw [wl_zero]; simp
    · rw [wl_pos h]
      intro a ha
      rcases List.mem_cons.1 ha with rfl | ha
      · omega
      · exact ih _ (by omega) a ha

def trimL : List Nat → List Nat
  | [] => []
  | a :: l => if trimL l = [] ∧ a = 0 then [] else a :: trimL l

theorem trim_wl (l : List Nat) (h : ∀ a ∈ l, a < 4294967296) : trimL l = wl (nv l) := by
  induction l with
  | nil => rw [nv_nil, wl_zero]; rfl
  | cons a l ih =>
    have h2 := ih (fun x hx => h x (by simp [hx]))
    have ha := h a (by simp)
    rw [nv_cons]
    unfold trimL
    by_cases hz : nv l = 0
    · have e : trimL l = [] := by rw [h2, hz, wl_zero]
      by_cases h0 : a = 0
      · rw [if_pos ⟨e, h0⟩, h0, hz]; exact wl_zero.symm
      · rw [if_neg (fun h => h0 h.2), wl_step a _ ha (.inl h0), h2]
    · have e : trimL l ≠ [] := by rw [h2, wl_pos hz]; simp
      rw [if_neg (fun h => e h.1), wl_step a _ ha (.inr hz), h2]
theorem trim_zero (l : List Nat) : trimL (l ++ [0]) = trimL l := by
  induction l with
  | nil => simp [trimL]
  | cons a l ih => rw [List.cons_append]; unfold trimL; rw [ih]
theorem trim_keep (l : List Nat) (x : Nat) (hx : x ≠ 0) : trimL (l ++ [x]) = l ++ [x] := by
  induction l with
  | nil => simp [trimL, hx]
  | cons a l ih => rw [List.cons_append]; unfold trimL; rw [ih]; simp

end Go.Proofs.YtcmnijpcinmbbaaGreatDoor.Dg

/- Sums, products and quotients of words of 32 bits, step by step. -/
namespace Go.Proofs.YtcmnijpcinmbbaaGreatDoor.Dg

def wd (l : List Nat) (i : Nat) : Nat := l.getD i 0
def Wds (l : List Nat) : Prop := ∀ a ∈ l, a < 4294967296

theorem wd_get {l : List Nat} {i : Nat} (h : i < l.length) : wd l i = l[i] := by simp [wd, List.getD, h]
theorem wd_lt {l : List Nat} (h : Wds l) (i : Nat) : wd l i < 4294967296 := by
  by_cases hi : i < l.length
  · rw [wd_get hi]; exact h _ (List.getElem_mem hi)
  · simp [wd, List.getD, List.getElem?_eq_none (Nat.le_of_not_lt hi)]
theorem Wds.set {l : List Nat} (h : Wds l) (i : Nat) {x : Nat} (hx : x < 4294967296) : Wds (l.set i x) := by
  intro a ha
  rcases List.mem_or_eq_of_mem_set ha with h' | h'
  · exact h a h'
  · omega
theorem Wds.zeros (n : Nat) : Wds (List.replicate n 0) := by
  intro a ha; have := (List.mem_replicate.1 ha).2; omega
theorem wd_set_ne {l : List Nat} {i j x : Nat} (h : i ≠ j) : wd (l.set i x) j = wd l j := by
  simp [wd, List.getD, h]
theorem wd_zeros (n i : Nat) : wd (List.replicate n 0) i = 0 := by
  simp only [wd, List.getD, List.getElem?_replicate]; split <;> rfl

theorem nv_take_step (l : List Nat) (i : Nat) : nv (l.take (i + 1)) = nv (l.take i) + 4294967296 ^ i * wd l i := by
  by_cases h : i < l.length
  · rw [nv_take_succ l i h, wd_get h]
  · have e : wd l i = 0 := by simp [wd, List.getD, List.getElem?_eq_none (Nat.le_of_not_lt h)]
    rw [e, List.take_of_length_le (by omega), List.take_of_length_le (by omega)]; rfl

theorem nv_put {l : List Nat} {k : Nat} (x : Nat) (hk : k < l.length) : nv (l.set k x) + 4294967296 ^ k * wd l k = nv l + 4294967296 ^ k * x := by
  rw [wd_get hk]; exact nv_set l k x hk

theorem pow_step (k y : Nat) : 4294967296 ^ (k + 1) * y = 4294967296 ^ k * (4294967296 * y) := by rw [Nat.pow_succ, Nat.mul_assoc]

/-- A sum, so far. -/
structure AddI (a b r : List Nat) (i c : Nat) : Prop where
  len : r.length = a.length + 1
  wds : Wds r
  car : c ≤ 1
  zero : ∀ j, i ≤ j → wd r j = 0
  val : nv r + 4294967296 ^ i * c = nv (a.take i) + nv (b.take i)

theorem AddI.start (a b : List Nat) : AddI a b (List.replicate (a.length + 1) 0) 0 0 :=
  ⟨by simp, Wds.zeros _, by omega, fun j _ => wd_zeros _ j, by rw [nv_zeros]; rfl⟩

theorem AddI.step {a b r : List Nat} {i c : Nat} (h : AddI a b r i c) (ha : Wds a) (hb : Wds b) (hi : i < a.length) :
    AddI a b (r.set i ((c + wd a i + wd b i) % 4294967296)) (i + 1) ((c + wd a i + wd b i) / 4294967296) := by
  have h1 := wd_lt ha i
  have h2 := wd_lt hb i
  have hc := h.car
  have hl := h.len
  refine ⟨by simpa using h.len, h.wds.set i (Nat.mod_lt _ (by omega)), by omega, fun j hj => ?_, ?_⟩
  · rw [wd_set_ne (by omega)]; exact h.zero j (by omega)
  · have hp := nv_put (l := r) ((c + wd a i + wd b i) % 4294967296) (show i < r.length by omega)
    rw [h.zero i (by omega)] at hp
    have hv := h.val
    rw [pow_step, nv_take_step, nv_take_step]
    generalize 4294967296 ^ i = p at *
    generalize hs : c + wd a i + wd b i = s at *
    have e : p * s = p * (4294967296 * (s / 4294967296)) + p * (s % 4294967296) := by rw [← Nat.mul_add, Nat.div_add_mod]
    have e2 : p * s = p * c + p * wd a i + p * wd b i := by rw [← hs, Nat.mul_add, Nat.mul_add]
    rw [Nat.mul_zero] at hp
    omega

theorem AddI.done {a b r : List Nat} {c : Nat} (h : AddI a b r a.length c) (hb : b.length ≤ a.length) : Wds (r.set a.length c) ∧ nv (r.set a.length c) = nv a + nv b := by
  have hc := h.car
  have hl := h.len
  refine ⟨h.wds.set _ (by omega), ?_⟩
  have hp := nv_put (l := r) c (show a.length < r.length by omega)
  have hv := h.val
  rw [h.zero _ (Nat.le_refl _)] at hp
  rw [List.take_of_length_le (Nat.le_refl _), List.take_of_length_le hb] at hv
  omega

/-- A product, so far: rows done, and of this row the words done. -/
structure MulI (a b r : List Nat) (i j c : Nat) : Prop where
  len : r.length = a.length + b.length
  wds : Wds r
  car : c < 4294967296
  zero : ∀ k, i + b.length ≤ k → wd r k = 0
  val : nv r + 4294967296 ^ (i + j) * c = nv (a.take i) * nv b + 4294967296 ^ i * wd a i * nv (b.take j)

theorem MulI.start (a b : List Nat) : MulI a b (List.replicate (a.length + b.length) 0) 0 0 0 :=
  ⟨by simp, Wds.zeros _, by omega, fun j _ => wd_zeros _ j, by rw [nv_zeros]; simp [nv_nil]⟩

theorem MulI.step {a b r : List Nat} {i j c : Nat} (h : MulI a b r i j c) (ha : Wds a) (hb : Wds b) (hi : i < a.length) (hj : j < b.length) :
    MulI a b (r.set (i + j) ((c + (wd a i * wd b j + wd r (i + j))) % 4294967296)) i (j + 1) ((c + (wd a i * wd b j + wd r (i + j))) / 4294967296) := by
  have h1 := wd_lt ha i
  have h2 := wd_lt hb j
  have h3 := wd_lt h.wds (i + j)
  have hc := h.car
  have hl := h.len
  have hm : wd a i * wd b j ≤ 4294967295 * 4294967295 := Nat.mul_le_mul (by omega) (by omega)
  refine ⟨by simpa using h.len, h.wds.set _ (Nat.mod_lt _ (by omega)), by omega, fun k hk => ?_, ?_⟩
  · rw [wd_set_ne (by omega)]; exact h.zero k hk
  · have hp := nv_put (l := r) ((c + (wd a i * wd b j + wd r (i + j))) % 4294967296) (show i + j < r.length by omega)
    have hv := h.val
    rw [show i + (j + 1) = (i + j) + 1 by omega, pow_step, nv_take_step]
    have e3 : 4294967296 ^ i * wd a i * (nv (b.take j) + 4294967296 ^ j * wd b j) = 4294967296 ^ i * wd a i * nv (b.take j) + 4294967296 ^ (i + j) * (wd a i * wd b j) := by
      rw [Nat.mul_add, Nat.pow_add, Nat.mul_assoc, Nat.mul_assoc, Nat.mul_assoc]
      congr 2
      rw [← Nat.mul_assoc, Nat.mul_comm (wd a i) (4294967296 ^ j), Nat.mul_assoc]
    rw [e3]
    generalize 4294967296 ^ (i + j) = p at *
    generalize wd a i * wd b j = m at *
    generalize 4294967296 ^ i * wd a i * nv (b.take j) = y at *
    generalize nv (a.take i) * nv b = z at *
    generalize wd r (i + j) = q at *
    generalize hs : c + (m + q) = s at *
    have e : p * s = p * (4294967296 * (s / 4294967296)) + p * (s % 4294967296) := by rw [← Nat.mul_add, Nat.div_add_mod]
    have e2 : p * s = p * c + (p * m + p * q) := by rw [← hs, Nat.mul_add, Nat.mul_add]
    omega

theorem MulI.row {a b r : List Nat} {i c : Nat} (h : MulI a b r i b.length c) (hi : i < a.length) : MulI a b (r.set (i + b.length) c) (i + 1) 0 0 := by
  have hl := h.len
  refine ⟨by simpa using h.len, h.wds.set _ h.car, by omega, fun k hk => ?_, ?_⟩
  · rw [wd_set_ne (by omega)]; exact h.zero k (by omega)
  · have hp := nv_put (l := r) c (show i + b.length < r.length by omega)
    have hv := h.val
    rw [h.zero _ (Nat.le_refl _), Nat.mul_zero, Nat.add_zero] at hp
    rw [List.take_of_length_le (Nat.le_refl _), ← hp] at hv
    rw [nv_take_step, Nat.add_mul, hv, List.take_zero, nv_nil, Nat.mul_zero, Nat.mul_zero]

theorem MulI.done {a b r : List Nat} (h : MulI a b r a.length 0 0) : nv r = nv a * nv b := by
  have hv := h.val
  rw [List.take_of_length_le (Nat.le_refl _)] at hv
  simpa [nv_nil] using hv

/-- A quotient by one word, so far: from above down to word i. -/
structure SmI (a q : List Nat) (d i r : Nat) : Prop where
  len : q.length = a.length
  wds : Wds q
  rest : r < d
  zero : ∀ k, k < i → wd q k = 0
  val : nv q * d + 4294967296 ^ i * r + nv (a.take i) = nv a

theorem SmI.start (a : List Nat) {d : Nat} (hd : 0 < d) : SmI a (List.replicate a.length 0) d a.length 0 :=
  ⟨by simp, Wds.zeros _, hd, fun j _ => wd_zeros _ j, by rw [nv_zeros, List.take_of_length_le (Nat.le_refl _)]; simp⟩

theorem SmI.step {a q : List Nat} {d i r : Nat} (h : SmI a q d (i + 1) r) (ha : Wds a) (hd : d < 4294967296) (hi : i < a.length) :
    SmI a (q.set i ((r * 4294967296 + wd a i) / d)) d i ((r * 4294967296 + wd a i) % d) := by
  have h1 := wd_lt ha i
  have hr := h.rest
  have hl := h.len
  have hq : (r * 4294967296 + wd a i) / d < 4294967296 := by
    rw [Nat.div_lt_iff_lt_mul (by omega)]
    have : (r + 1) * 4294967296 ≤ d * 4294967296 := Nat.mul_le_mul (by omega) (Nat.le_refl _)
    rw [Nat.mul_comm 4294967296 d]; omega
  refine ⟨by simpa using h.len, h.wds.set _ hq, Nat.mod_lt _ (by omega), fun k hk => ?_, ?_⟩
  · rw [wd_set_ne (by omega)]; exact h.zero k (by omega)
  · have hp := nv_put (l := q) ((r * 4294967296 + wd a i) / d) (show i < q.length by omega)
    rw [h.zero i (by omega), Nat.mul_zero, Nat.add_zero] at hp
    have hv := h.val
    rw [pow_step, nv_take_step] at hv
    rw [hp, Nat.add_mul]
    generalize hs : r * 4294967296 + wd a i = s at *
    have e : 4294967296 ^ i * s = 4294967296 ^ i * (s / d) * d + 4294967296 ^ i * (s % d) := by
      rw [Nat.mul_assoc, ← Nat.mul_add, Nat.mul_comm (s / d) d, Nat.div_add_mod]
    have e2 : 4294967296 ^ i * s = 4294967296 ^ i * (4294967296 * r) + 4294967296 ^ i * wd a i := by rw [← hs, Nat.mul_add, Nat.mul_comm 4294967296 r]
    omega

theorem SmI.done {a q : List Nat} {d r : Nat} (h : SmI a q d 0 r) : nv q = nv a / d ∧ r = nv a % d := by
  have hv := h.val
  have hr := h.rest
  simp only [List.take_zero, nv_nil, Nat.pow_zero, Nat.one_mul, Nat.add_zero] at hv
  have e : nv a = r + d * nv q := by rw [Nat.mul_comm d]; omega
  constructor
  · rw [e, Nat.add_mul_div_left _ _ (by omega), Nat.div_eq_of_lt hr]; omega
  · rw [e, Nat.add_mul_mod_self_left, Nat.mod_eq_of_lt hr]

theorem wl_len_le (n k : Nat) (h : n < 4294967296 ^ k) : (wl n).length ≤ k := by
  induction k generalizing n with
  | zero => simp at h; subst h; rw [wl_zero]; simp
  | succ k ih =>
    by_cases h0 : n = 0
    · subst h0; rw [wl_zero]; simp
    · rw [wl_pos h0, List.length_cons]
      have := ih (n / 4294967296) (by rw [Nat.div_lt_iff_lt_mul (by omega), Nat.mul_comm]; rw [Nat.pow_succ] at h; omega)
      omega
theorem wds_wl (n : Nat) : Wds (wl n) := wl_lt n
end Go.Proofs.YtcmnijpcinmbbaaGreatDoor.Dg

/- weirgatebig: words of 32 bits in memory; trim, words. -/
namespace Go.Proofs.YtcmnijpcinmbbaaGreatDoor.Dg
open Go.RowKit

/-- Words in memory, behind a slice. -/
def U32s (w : World) (A : Option Addr) (l : List Nat) : Prop :=
  l = [] ∨ ∃ b o, A = some ⟨b, o, none⟩ ∧ ∀ (j : Nat) (h : j < l.length), w.cell? ⟨b, o + j, none⟩ = some (.int .u32 ((l[j] : Nat) : Int))
def Wv (w : World) (v : Value) (l : List Nat) : Prop := ∃ A cap, v = .slice A l.length cap ∧ l.length ≤ cap ∧ U32s w A l
/-- A block of words, whole. -/
def uv (l : List Nat) : Array Value := (l.map fun (x : Nat) => Value.int .u32 (x : Int)).toArray
def RowU (w : World) (g : Nat) (l : List Nat) : Prop := w.heap[g]? = some (.cells (uv l) 103 (0, 0))

theorem U32s.of {w w' : World} {A : Option Addr} {l : List Nat} (h : U32s w A l) (hb : Below w.heap.size w w') : U32s w' A l := by
  rcases h with h | ⟨b, o, h1, h2⟩
  · exact .inl h
  · refine .inr ⟨b, o, h1, fun j hj => ?_⟩
    have hc := h2 j hj
    have := World.block_lt_of_cell? _ _ hc
    rw [World.cell?_of_block (w := w) (hb.block _ this)]; exact hc
theorem Wv.of {w w' : World} {v : Value} {l : List Nat} (h : Wv w v l) (hb : Below w.heap.size w w') : Wv w' v l := by
  obtain ⟨A, cap, h1, h2, h3⟩ := h
  exact ⟨A, cap, h1, h2, h3.of hb⟩
theorem Wv.nil (w : World) : Wv w (.slice none 0 0) [] := ⟨none, 0, rfl, by simp, .inl rfl⟩
theorem U32s.drewN {w : World} {A : Option Addr} {l : List Nat} (h : U32s w A l) (n : Nat) : U32s (w.drewN n) A l := h

theorem RowU.lt {w : World} {g : Nat} {l : List Nat} (h : RowU w g l) : g < w.heap.size := some_lt h
theorem RowU.cell {w : World} {g : Nat} {l : List Nat} (h : RowU w g l) (j : Nat) (hj : j < l.length) : w.cell? ⟨g, j, none⟩ = some (.int .u32 ((wd l j : Nat) : Int)) := by
  unfold RowU at h
  simp [World.cell?, h, uv, wd_get hj, hj]
theorem RowU.fz {w : World} {g : Nat} {l : List Nat} (h : RowU w g l) (j : Nat) : w.frozen? ⟨g, j, none⟩ = false := by
  unfold RowU at h; simp [World.frozen?, h]
theorem RowU.set {w : World} {g : Nat} {l : List Nat} (h : RowU w g l) (j x : Nat) : RowU (w.setCell ⟨g, j, none⟩ (.int .u32 (x : Int))) g (l.set j x) := by
  unfold RowU at h ⊢
  simp [World.setCell, Array.getElem?_modify, h, uv]
theorem RowU.u {w : World} {g : Nat} {l : List Nat} (h : RowU w g l) : U32s w (some ⟨g, 0, none⟩) l := by
  refine .inr ⟨g, 0, rfl, fun j hj => ?_⟩
  rw [Nat.zero_add, h.cell j hj, wd_get hj]
theorem RowU.of {w w' : World} {g : Nat} {l : List Nat} (h : RowU w g l) (hb : Below w.heap.size w w') : RowU w' g l := by
  have := h.lt; unfold RowU at h ⊢; rw [hb.block _ this]; exact h
theorem RowU.made (w : World) (n : Nat) : RowU (w.alloc (.cells (madeCells #[.int .u32 0] n) 103)) w.heap.size (List.replicate n 0) := by
  unfold RowU
  rw [heap_alloc_new]
  congr 2
  apply Array.ext
  · simp [madeCells, uv]
  · intro i h1 h2
    simp [madeCells, uv, Nat.mod_one]
theorem U32s.at {w : World} {A : Option Addr} {l : List Nat} (h : U32s w A l) (hl : 0 < l.length) : ∃ b o, A = some ⟨b, o, none⟩ ∧ ∀ j, j < l.length → w.cell? ⟨b, o + j, none⟩ = some (.int .u32 ((wd l j : Nat) : Int)) := by
  rcases h with h | ⟨b, o, h1, h2⟩
  · subst h; simp at hl
  · exact ⟨b, o, h1, fun j hj => by rw [wd_get hj]; exact h2 j hj⟩
theorem U32s.take {w : World} {A : Option Addr} {l : List Nat} (h : U32s w A l) (k : Nat) : U32s w A (l.take k) := by
  rcases h with h | ⟨b, o, h1, h2⟩
  · subst h; exact .inl (by simp)
  · refine .inr ⟨b, o, h1, fun j hj => ?_⟩
    have h3 : j < l.length := by simp at hj; omega
    rw [List.getElem_take]; exact h2 j h3

theorem trim_take (l : List Nat) (k : Nat) (h : trimL (l.take k) = trimL l) : k ≤ l.length → (k = 0 → trimL l = []) ∧ (0 < k → wd l (k - 1) = 0 → trimL (l.take (k - 1)) = trimL l) ∧ (0 < k → wd l (k - 1) ≠ 0 → trimL l = l.take k) := by
  intro hk
  refine ⟨fun h0 => by subst h0; rw [← h]; simp [trimL], fun hp h0 => ?_, fun hp h0 => ?_⟩
  · obtain ⟨m, rfl⟩ : ∃ m, k = m + 1 := ⟨k - 1, by omega⟩
    rw [Nat.add_sub_cancel] at h0 ⊢
    rw [← h, List.take_succ_eq_append_getElem (by omega), ← wd_get (by omega), h0, trim_zero]
  · obtain ⟨m, rfl⟩ : ∃ m, k = m + 1 := ⟨k - 1, by omega⟩
    rw [Nat.add_sub_cancel] at h0
    rw [← h, List.take_succ_eq_append_getElem (by omega), ← wd_get (by omega), trim_keep _ _ h0]

set_option maxHeartbeats 1000000 in
theorem trim_any (g cap : Nat) (l : List Nat) (w : World) (h : U32s w (some ⟨g, 0, none⟩) l) (hl : l.length ≤ 1000000) (hc : l.length ≤ cap) :
    Calls Tryz.prog 117 #[.slice (some ⟨g, 0, none⟩) l.length cap] w fun e w' => ∃ v, e = .returned v ∧ Wv w v (trimL l) ∧ w = w' := by
  go_enter Tryz.func117, Tryz.ntmps117
  go_wp2
  go_loopw [3] (fun t wr => ∃ k : Nat, k ≤ l.length ∧ t = .int .i64 k ∧ Hid (trimL (l.take k) = trimL l) ∧ w = wr) (fun t _ => (intOf t).toNat)
  case atStart => exact ⟨l.length, Nat.le_refl _, rfl, by show _ = _; rw [List.take_length], rfl⟩
  case round =>
    obtain ⟨k, hk, rfl, HK, rfl⟩ := hrel
    obtain ⟨t1, t2, t3⟩ := trim_take l k HK.out hk
    have fin : ∀ n, trimL l = l.take n → n ≤ l.length → Wv w (.slice (some ⟨g, 0, none⟩) n cap) (trimL l) := fun n hn hle => by
      rw [hn]; exact ⟨_, cap, by simp; omega, by simp; omega, h.take n⟩
    rcases Nat.eq_zero_or_pos k with rfl | hp
    · have W := fin 0 (by rw [t1 rfl]; simp) (by omega)
      clear t1 t2 t3 HK fin
      go_wp2
      go_ret
      exact ⟨_, rfl, W, rfl⟩
    · obtain ⟨b, o, e, hat⟩ := h.at (by omega)
      simp at e
      obtain ⟨rfl, rfl⟩ := e
      obtain ⟨m, rfl⟩ : ∃ m, k = m + 1 := ⟨k - 1, by omega⟩
      have hcell := hat m (by omega)
      rw [Nat.zero_add] at hcell
      rw [Nat.add_sub_cancel] at t2 t3
      by_cases hz : wd l m = 0
      · have HZ := Lib.hid (t2 hp hz)
        rw [hz] at hcell
        clear t1 t2 t3 HK fin hz hat
        go_wp2
        exact ⟨⟨m, by omega, by go_num, HZ.out, by trivial⟩, by simp [intOf]⟩
      · have W := fin (m + 1) (t3 hp hz) hk
        have hz' : (((wd l m : Nat) : Int) == 0) = false := by simp; omega
        clear t1 t2 t3 HK fin hat
        go_wp2
        go_ret
        exact ⟨_, rfl, W, rfl⟩

theorem words_wl (x : Nat) (h : x < 18446744073709551616) : trimL [x % 4294967296, x / 4294967296] = wl x := by
  rw [trim_wl _ (by intro a ha; simp at ha; omega)]
  congr 1
  simp only [nv_cons, nv_nil]; omega

theorem words_any (x : Nat) (w : World) (h1 : x < 18446744073709551616) :
    Calls Tryz.prog 97 #[.int .u64 x] w fun e w' => ∃ v, e = .returned v ∧ Wv w' v (wl x) ∧ Below w.heap.size w w' := by
  have R : RowU (w.alloc (.cells #[.int .u32 ((x % 4294967296 : Nat) : Int), .int .u32 ((x / 4294967296 : Nat) : Int)] 103)) w.heap.size [x % 4294967296, x / 4294967296] := by
    unfold RowU; rw [heap_alloc_new]; rfl
  have c := trim_any w.heap.size 2 [x % 4294967296, x / 4294967296] _ R.u (by simp) (by simp)
  rw [words_wl x h1] at c
  have B : Below w.heap.size w (w.alloc (.cells #[.int .u32 ((x % 4294967296 : Nat) : Int), .int .u32 ((x / 4294967296 : Nat) : Int)] 103)) := (Below.refl _ _).alloc (Nat.le_refl _) _
  have i0 : (0 : Int) ≤ x := by omega
  have i1 : (x : Int) < 18446744073709551616 := by omega
  simp only [Int.natCast_emod, Int.natCast_ediv, List.length_cons, List.length_nil] at c B
  go_enter Tryz.func97, Tryz.ntmps97
  go_wp2_with (go_at_call 117; refine c.mono ?_; rintro e w' ⟨v, rfl, hW, rfl⟩)
  go_ret
  exact ⟨_, rfl, hW, B⟩
end Go.Proofs.YtcmnijpcinmbbaaGreatDoor.Dg

/- weirgatebig: sums. -/
namespace Go.Proofs.YtcmnijpcinmbbaaGreatDoor.Dg
open Go.RowKit

theorem Tryz.infoU : (Tryz.prog.info? 103).map (fun i => (i.zero, i.size, i.bytes)) = some (some (.int .u32 0), 1, 4) := by kernel_rfl

end Go.Proofs.YtcmnijpcinmbbaaGreatDoor.Dg

/- weirgatebig: products. -/
namespace Go.Proofs.YtcmnijpcinmbbaaGreatDoor.Dg
open Go.RowKit

theorem bel_dr {B : Nat} {a w : World} (h : Below B a w) (n : Nat) : Below B a (w.drewN n) := ⟨h.os, h.tape, h.output, h.size, h.block⟩

end Go.Proofs.YtcmnijpcinmbbaaGreatDoor.Dg

/- weirgatebig: a number of decimal digits. -/
namespace Go.Proofs.YtcmnijpcinmbbaaGreatDoor.Dg
open Go.RowKit

/-- A number in memory: its sign, and its words. -/
def IntV (w : World) (b : Nat) (neg : Bool) (n : Nat) : Prop := ∃ v, w.heap[b]? = some (.cells #[.bool neg, v] 119 (0, 0)) ∧ Wv w v (wl n)

theorem Wv.fr {w w' : World} {v : Value} {l : List Nat} {b : Nat} {c : Array Value} (h : Wv w v l) (f : Fr [b] w w') (hb : w.heap[b]? = some (.cells c 119 (0, 0))) (hc : ∀ (i : Nat) (x : Int), c[i]? ≠ some (.int .u32 x)) : Wv w' v l := by
  obtain ⟨A, cap, h1, h2, h3⟩ := h
  refine ⟨A, cap, h1, h2, ?_⟩
  rcases h3 with h3 | ⟨b2, o, e, h3⟩
  · exact .inl h3
  · refine .inr ⟨b2, o, e, fun j hj => ?_⟩
    have hcell := h3 j hj
    have hne : b2 ≠ b := by
      intro e2; subst e2
      simp only [World.cell?, hb] at hcell
      simp at hcell
      exact hc _ _ hcell
    rw [f.cell (World.block_lt_of_cell? _ _ hcell) (by simpa using hne)]; exact hcell
theorem two_no {f v0 : Value} {neg : Bool} (hf : f = .bool neg) (hv : ∃ A n c, v0 = .slice A n c) : ∀ (i : Nat) (x : Int), (#[f, v0] : Array Value)[i]? ≠ some (.int .u32 x) := by
  intro i x h
  obtain ⟨A, n, c, rfl⟩ := hv
  subst hf
  match i, h with
  | 0, h => simp at h
  | 1, h => simp at h
  | i + 2, h => simp at h

theorem give_any {w : World} {b : Nat} {neg0 : Bool} {v0 v : Value} {n : Nat} (hb : w.heap[b]? = some (.cells #[.bool neg0, v0] 119 (0, 0))) (hv0 : ∃ A n c, v0 = .slice A n c) (hv : Wv w v (wl n)) :
    Calls Tryz.prog 96 #[.pointer (some ⟨b, 0, none⟩), .bool false, v] w fun e w' => e = .returned (.pointer (some ⟨b, 0, none⟩)) ∧ IntV w' b false n ∧ Fr [b] w w' := by
  have hv' := hv
  obtain ⟨A, cap, rfl, -, -⟩ := hv
  have c0 : w.cell? ⟨b, 0, none⟩ = some (.bool neg0) := by simp [World.cell?, hb]
  have c1 : w.cell? ⟨b, 1, none⟩ = some v0 := by simp [World.cell?, hb]
  have f0 : w.frozen? ⟨b, 0, none⟩ = false := by simp [World.frozen?, hb]
  have f1 : w.frozen? ⟨b, 1, none⟩ = false := by simp [World.frozen?, hb]
  have G : Fr [b] w ((w.setCell ⟨b, 1, none⟩ (.slice A (wl n).length cap)).setCell ⟨b, 0, none⟩ (.bool false)) := ((Fr.refl _ _).setCell (.inl (by simp)) _).setCell (.inl (by simp)) _
  have I : IntV ((w.setCell ⟨b, 1, none⟩ (.slice A (wl n).length cap)).setCell ⟨b, 0, none⟩ (.bool false)) b false n := by
    refine ⟨.slice A (wl n).length cap, ?_, hv'.fr G hb (two_no rfl hv0)⟩
    simp [World.setCell, Array.getElem?_modify, hb]
  go_enter Tryz.func96, Tryz.ntmps96
  go_wp2
  go_ret
  exact ⟨rfl, I, G⟩


end Go.Proofs.YtcmnijpcinmbbaaGreatDoor.Dg

/- weirgatebig: quotients by one word. -/
namespace Go.Proofs.YtcmnijpcinmbbaaGreatDoor.Dg
open Go.RowKit
set_option linter.unusedVariables false

theorem or_word (r x : Nat) (hr : r < 4294967296) (hx : x < 4294967296) : bits .or .u64 ((r : Int) * 4294967296) (x : Int) = ((r * 4294967296 + x : Nat) : Int) := by
  have h := bits_or_u64_nat (r * 4294967296) x (by omega) (by omega)
  have e : r * 4294967296 ||| x = r * 4294967296 + x := by
    have := Nat.two_pow_add_eq_or_of_lt (i := 32) (b := x) (by omega) r
    rw [show (2 : Nat) ^ 32 = 4294967296 from by decide, Nat.mul_comm] at this
    exact this.symm
  rw [e] at h
  rw [← h]; simp

set_option maxHeartbeats 1000000 in
theorem trim_at (g cap : Nat) (l : List Nat) (w : World) (h : U32s w (some ⟨g, 0, none⟩) l) (hl : l.length ≤ 1000000) (hc : l.length ≤ cap) :
    Calls Tryz.prog 117 #[.slice (some ⟨g, 0, none⟩) l.length cap] w fun e w' => e = .returned (.slice (some ⟨g, 0, none⟩) (trimL l).length cap) ∧ w = w' := by
  go_enter Tryz.func117, Tryz.ntmps117
  go_wp2
  go_loopw [3] (fun t wr => ∃ k : Nat, k ≤ l.length ∧ t = .int .i64 k ∧ Hid (trimL (l.take k) = trimL l) ∧ w = wr) (fun t _ => (intOf t).toNat)
  case atStart => exact ⟨l.length, Nat.le_refl _, rfl, by show _ = _; rw [List.take_length], rfl⟩
  case round =>
    obtain ⟨k, hk, rfl, HK, rfl⟩ := hrel
    obtain ⟨t1, t2, t3⟩ := trim_take l k HK.out hk
    have fin : ∀ n, trimL l = l.take n → n ≤ l.length → n = (trimL l).length := fun n hn hle => by
      rw [hn]; simp; omega
    rcases Nat.eq_zero_or_pos k with rfl | hp
    · have W := Lib.hid (fin 0 (by rw [t1 rfl]; simp) (by omega))
      clear t1 t2 t3 HK fin
      go_wp2
      go_ret
      exact ⟨by rw [← W.out]; rfl, rfl⟩
    · obtain ⟨b, o, e, hat⟩ := h.at (by omega)
      simp at e
      obtain ⟨rfl, rfl⟩ := e
      obtain ⟨m, rfl⟩ : ∃ m, k = m + 1 := ⟨k - 1, by omega⟩
      have hcell := hat m (by omega)
      rw [Nat.zero_add] at hcell
      rw [Nat.add_sub_cancel] at t2 t3
      by_cases hz : wd l m = 0
      · have HZ := Lib.hid (t2 hp hz)
        rw [hz] at hcell
        clear t1 t2 t3 HK fin hz hat
        go_wp2
        exact ⟨⟨m, by omega, by go_num, HZ.out, by trivial⟩, by simp [intOf]⟩
      · have W := Lib.hid (fin (m + 1) (t3 hp hz) hk)
        have hz' : (((wd l m : Nat) : Int) == 0) = false := by simp; omega
        clear t1 t2 t3 HK fin hat
        go_wp2
        go_ret
        exact ⟨by rw [← W.out]; rfl, rfl⟩

theorem u_trim {w : World} {A : Option Addr} {l : List Nat} (h : U32s w A l) : U32s w A (trimL l) := by
  have : ∃ k, trimL l = l.take k := by
    clear h
    induction l with
    | nil => exact ⟨0, rfl⟩
    | cons a l ih =>
      obtain ⟨k, hk⟩ := ih
      unfold trimL
      split
      · exact ⟨0, by simp⟩
      · exact ⟨k + 1, by rw [List.take_succ_cons, hk]⟩
  obtain ⟨k, hk⟩ := this
  rw [hk]; exact h.take k

set_option maxRecDepth 100000 in
set_option maxHeartbeats 1000000 in
theorem small_any {w : World} {A : Option Addr} {a : List Nat} {ca d : Nat} (ha : U32s w A a) (wa : Wds a) (h1 : 0 < a.length) (hs1 : a.length ≤ 1000) (hd : 0 < d) (hd2 : d < 4294967296) :
    Calls Tryz.prog 99 #[.slice A a.length ca, .int .u32 d] w fun e w' => ∃ g, e = .returned (.tuple #[.slice (some ⟨g, 0, none⟩) (wl (nv a / d)).length a.length, .int .u32 ((nv a % d : Nat) : Int)]) ∧ w.heap.size ≤ g ∧ U32s w' (some ⟨g, 0, none⟩) (wl (nv a / d)) ∧ Below w.heap.size w w' := by
  have hmk : ∀ w : World, (Instr.makeSlice 117 (.int .i64 (a.length : Int)) (.int .i64 (a.length : Int))).run Tryz.prog w = .ok (.slice (some ⟨w.heap.size, 0, none⟩) a.length a.length) (w.alloc (.cells (madeCells #[.int .u32 0] a.length) 103)) :=
    fun w => run_make_row' (P := Tryz.prog) 117 103 (.int .u32 0) 4 Tryz.underlying117 Tryz.infoU rfl .i64 .i64 a.length (by omega) (by omega) w
  have hR : RowU (w.alloc (.cells (madeCells #[.int .u32 0] a.length) 103)) w.heap.size (List.replicate a.length 0) := RowU.made w _
  have hB : Below w.heap.size w (w.alloc (.cells (madeCells #[.int .u32 0] a.length) 103)) := (Below.refl _ _).alloc (Nat.le_refl _) _
  obtain ⟨ba, oa, rfl, cA⟩ := ha.at h1
  have la : ba < w.heap.size := World.block_lt_of_cell? _ _ (cA 0 h1)
  have HA := Lib.hid cA
  have hd0 : ¬ (d : Int) = 0 := by omega
  clear cA ha
  go_enter Tryz.func99, Tryz.ntmps99
  go_wp2_with fail
  generalize w.alloc (.cells (madeCells #[.int .u32 0] a.length) 103) = w1 at *
  obtain ⟨g, hg⟩ : ∃ g, g = w.heap.size := ⟨_, rfl⟩
  have hgB : w.heap.size ≤ g := by omega
  rw [← hg] at hR ⊢
  clear hg hmk
  go_loopw [7, 8] (fun r i wr => ∃ (k rr : Nat) (q : List Nat), k ≤ a.length ∧ i = .int .i64 ((k : Int) - 1) ∧ r = .int .u64 rr ∧ Hid (SmI a q d k rr) ∧ rr < d ∧ q.length = a.length ∧ RowU wr g q ∧ Below w.heap.size w wr) (fun _ i _ => (intOf i + 1).toNat)
  case atStart => exact ⟨a.length, 0, _, Nat.le_refl _, by go_num, rfl, Lib.hid (SmI.start a hd), hd, by simp, hR, hB⟩
  case round =>
    obtain ⟨k, rr, q, hk, rfl, rfl, HI, hrr, hql, hr, hbw⟩ := hrel
    clear hR hB
    by_cases hk0 : k = 0
    · subst hk0
      have HD := HI.out.done
      have hwq : trimL q = wl (nv a / d) := by rw [trim_wl q HI.out.wds, HD.1]
      have HR := Lib.hid HD.2
      have HT := trim_at g a.length q wr hr.u (by omega) (by omega)
      have hU := u_trim hr.u
      rw [hwq] at hU
      rw [hql, hwq] at HT
      generalize hWW : wl (nv a / d) = W at *
      have HWW := Lib.hid hWW
      clear hWW
      clear HD hwq HI
      go_wp2_with (go_at_call 117; refine HT.mono ?_; rintro e w' ⟨rfl, rfl⟩; refine Hid.out ?_)
      refine Lib.hid ?_
      go_wp2_with fail
      go_ret2
      exact ⟨g, by rw [← HR.out, HWW.out]; rfl, hgB, by rw [HWW.out]; exact hU, hbw⟩
    · obtain ⟨m, rfl⟩ : ∃ m, k = m + 1 := ⟨k - 1, by omega⟩
      have ca' : wr.cell? ⟨ba, oa + m, none⟩ = some (.int .u32 ((wd a m : Nat) : Int)) := by rw [World.cell?_of_block (w := w) (hbw.block _ la)]; exact HA.out m (by omega)
      have cq := hr.cell m (by omega)
      have fq := hr.fz m
      have xa := wd_lt wa m
      have HS := Lib.hid (HI.out.step wa hd2 (by omega))
      have hor := or_word rr (wd a m) (by omega) xa
      generalize wd a m = x at *
      have e1 : ((m + 1 : Nat) : Int) - 1 = (m : Int) := by omega
      simp only [e1]
      clear HI
      go_wp2_with fail
      have hq : (rr * 4294967296 + x) / d < 4294967296 := by
        rw [Nat.div_lt_iff_lt_mul (by omega)]
        have : (rr + 1) * 4294967296 ≤ d * 4294967296 := Nat.mul_le_mul (by omega) (Nat.le_refl _)
        rw [Nat.mul_comm 4294967296 d]; omega
      have e0 : (rr : Int) * 4294967296 + (x : Int) = ((rr * 4294967296 + x : Nat) : Int) := by rw [Int.natCast_add, Int.natCast_mul]; rfl
      have e3 : ((rr : Int) * 4294967296 + (x : Int)) / (d : Int) = (((rr * 4294967296 + x) / d : Nat) : Int) := by rw [e0, Int.natCast_ediv]
      have e4 : ((rr : Int) * 4294967296 + (x : Int)) % (d : Int) = (((rr * 4294967296 + x) % d : Nat) : Int) := by rw [e0, Int.natCast_emod]
      have e2 : ((rr : Int) * 4294967296 + (x : Int)) / (d : Int) % 4294967296 = (((rr * 4294967296 + x) / d : Nat) : Int) := by
        rw [e3]
        clear e0 e3 e4 HS
        generalize (rr * 4294967296 + x) / d = X at hq ⊢
        omega
      rw [e2, e4]
      exact ⟨⟨m, _, _, by omega, rfl, rfl, HS, Nat.mod_lt _ hd, by simpa using hql, hr.set m _, hbw.setCell (p := ⟨g, m, none⟩) hgB _⟩, by simp [intOf]⟩
end Go.Proofs.YtcmnijpcinmbbaaGreatDoor.Dg

/- weirgatebig: a number out of a word. -/
namespace Go.Proofs.YtcmnijpcinmbbaaGreatDoor.Dg
open Go.RowKit
set_option linter.unusedVariables false

theorem give_neg {w : World} {b : Nat} {neg0 : Bool} {v0 v : Value} {n : Nat} (hb : w.heap[b]? = some (.cells #[.bool neg0, v0] 119 (0, 0))) (hv0 : ∃ A n c, v0 = .slice A n c) (hv : Wv w v (wl n)) (hn : n ≠ 0) :
    Calls Tryz.prog 96 #[.pointer (some ⟨b, 0, none⟩), .bool true, v] w fun e w' => e = .returned (.pointer (some ⟨b, 0, none⟩)) ∧ IntV w' b true n ∧ Fr [b] w w' := by
  have hv' := hv
  have hl : (0 : Int) < ((wl n).length : Int) := by rw [wl_pos hn]; simp
  obtain ⟨A, cap, rfl, -, -⟩ := hv
  have c0 : w.cell? ⟨b, 0, none⟩ = some (.bool neg0) := by simp [World.cell?, hb]
  have c1 : w.cell? ⟨b, 1, none⟩ = some v0 := by simp [World.cell?, hb]
  have f0 : w.frozen? ⟨b, 0, none⟩ = false := by simp [World.frozen?, hb]
  have f1 : w.frozen? ⟨b, 1, none⟩ = false := by simp [World.frozen?, hb]
  have G : Fr [b] w ((w.setCell ⟨b, 1, none⟩ (.slice A (wl n).length cap)).setCell ⟨b, 0, none⟩ (.bool true)) := ((Fr.refl _ _).setCell (.inl (by simp)) _).setCell (.inl (by simp)) _
  have I : IntV ((w.setCell ⟨b, 1, none⟩ (.slice A (wl n).length cap)).setCell ⟨b, 0, none⟩ (.bool true)) b true n := by
    refine ⟨.slice A (wl n).length cap, ?_, hv'.fr G hb (two_no rfl hv0)⟩
    simp [World.setCell, Array.getElem?_modify, hb]
  generalize (wl n).length = k at *
  go_enter Tryz.func96, Tryz.ntmps96
  go_wp2
  go_ret
  rw [show decide (0 < k) = true from by simpa using hl]
  exact ⟨rfl, I, G⟩

set_option maxRecDepth 100000 in
theorem setint_any {w : World} {b : Nat} {neg0 : Bool} {v0 : Value} (hb : w.heap[b]? = some (.cells #[.bool neg0, v0] 119 (0, 0))) (hv0 : ∃ A n c, v0 = .slice A n c) (n : Int) (h0 : -9223372036854775808 ≤ n) (h1 : n ≤ 9223372036854775807) :
    Calls Tryz.prog 72 #[.pointer (some ⟨b, 0, none⟩), .int .i64 n] w fun e w' => e = .returned (.pointer (some ⟨b, 0, none⟩)) ∧ IntV w' b (decide (n < 0)) n.natAbs ∧ Fr [b] w w' := by
  have hbl : b < w.heap.size := some_lt hb
  by_cases hn : n < 0
  · have HW := words_any n.natAbs w (by omega)
    have e1 : ((n.natAbs : Nat) : Int) = -n := by omega
    rw [e1] at HW
    have HG := Lib.hid (fun (u : World) (v : Value) (hu : u.heap[b]? = some (.cells #[.bool neg0, v0] 119 (0, 0))) (hv : Wv u v (wl n.natAbs)) => give_neg hu hv0 hv (by omega))
    have hu1 : IntKind.u64.wrap n = n + 18446744073709551616 := by rw [IntKind.wrap_u64]; omega
    have hu2 : IntKind.u64.wrap (-(n + 18446744073709551616)) = -n := by rw [IntKind.wrap_u64]; omega
    have hd : decide (n < 0) = true := by simpa using hn
    rw [hd]
    generalize n.natAbs = N at *
    clear e1 hd
    go_enter Tryz.func72, Tryz.ntmps72
    go_wp2_with (go_at_call 97; refine HW.mono ?_; rintro e u1 ⟨v, rfl, hv, b1⟩; refine Hid.out ?_)
    refine Lib.hid ?_
    have HGG := HG.out u1 v (by rw [b1.block b hbl]; exact hb) hv
    go_wp2_with (go_at_call 96; refine HGG.mono ?_; rintro e u2 ⟨rfl, hI, f2⟩; refine Hid.out ?_)
    refine Lib.hid ?_
    go_wp2_with fail
    go_ret
    exact ⟨rfl, hI, (Fr.below b1).trans f2⟩
  · have HW := words_any n.toNat w (by omega)
    have e1 : ((n.toNat : Nat) : Int) = n := by omega
    have e2 : n.natAbs = n.toNat := by omega
    rw [e1] at HW
    rw [e2]
    have HG := Lib.hid (fun (u : World) (v : Value) (hu : u.heap[b]? = some (.cells #[.bool neg0, v0] 119 (0, 0))) (hv : Wv u v (wl n.toNat)) => give_any hu hv0 hv)
    have hu1 : IntKind.u64.wrap n = n := by rw [IntKind.wrap_u64]; omega
    have hd : decide (n < 0) = false := by simpa using hn
    rw [hd]
    generalize n.toNat = N at *
    clear e1 e2 hd
    go_enter Tryz.func72, Tryz.ntmps72
    go_wp2_with (go_at_call 97; refine HW.mono ?_; rintro e u1 ⟨v, rfl, hv, b1⟩; refine Hid.out ?_)
    refine Lib.hid ?_
    have HGG := HG.out u1 v (by rw [b1.block b hbl]; exact hb) hv
    go_wp2_with (go_at_call 96; refine HGG.mono ?_; rintro e u2 ⟨rfl, hI, f2⟩; refine Hid.out ?_)
    refine Lib.hid ?_
    go_wp2_with fail
    go_ret
    exact ⟨rfl, hI, (Fr.below b1).trans f2⟩

set_option maxRecDepth 100000 in
theorem newint_any (w : World) (n : Int) (h0 : -9223372036854775808 ≤ n) (h1 : n ≤ 9223372036854775807) :
    Calls Tryz.prog 51 #[.int .i64 n] w fun e w' => e = .returned (.pointer (some ⟨w.heap.size, 0, none⟩)) ∧ IntV w' w.heap.size (decide (n < 0)) n.natAbs ∧ Below w.heap.size w w' := by
  have hb : (w.alloc (.cells #[.bool false, .slice none 0 0] 119)).heap[w.heap.size]? = some (.cells #[.bool false, .slice none 0 0] 119 (0, 0)) := by rw [heap_alloc_new]
  have H := setint_any hb ⟨none, 0, 0, rfl⟩ n h0 h1
  have B1 : Below w.heap.size w (w.alloc (.cells #[.bool false, .slice none 0 0] 119)) := (Below.refl _ _).alloc (Nat.le_refl _) _
  go_enter Tryz.func51, Tryz.ntmps51
  go_wp2_with (go_at_call 72; refine H.mono ?_; rintro e u2 ⟨rfl, hI, f2⟩; refine Hid.out ?_)
  refine Lib.hid ?_
  go_wp2_with fail
  go_ret
  exact ⟨rfl, hI, B1.trans (f2.toBelow (by simp) (by simp))⟩
end Go.Proofs.YtcmnijpcinmbbaaGreatDoor.Dg

/- weirgatebig: a number's digits. -/
namespace Go.Proofs.YtcmnijpcinmbbaaGreatDoor.Dg
open Go.RowKit
open Go.Lib (decDigits itoa)
set_option linter.unusedVariables false

/-- Digits, the low ones first. -/
def rdig (m : Nat) : List UInt8 := if h : m = 0 then [] else UInt8.ofNat (48 + m % 10) :: rdig (m / 10)
termination_by m
decreasing_by omega
theorem rdig_zero : rdig 0 = [] := by rw [rdig, dif_pos rfl]
theorem rdig_pos {m : Nat} (h : m ≠ 0) : rdig m = UInt8.ofNat (48 + m % 10) :: rdig (m / 10) := by rw [rdig, dif_neg h]
theorem rdig_dec : ∀ (n m : Nat), m ≤ n → m ≠ 0 → (rdig m).reverse = decDigits m
  | 0, m, h, h0 => absurd (by omega) h0
  | n + 1, m, h, h0 => by
    rw [rdig_pos h0, decDigits, List.reverse_cons]
    by_cases h1 : m < 10
    · rw [dif_pos h1, show m / 10 = 0 by omega, rdig_zero, Nat.mod_eq_of_lt h1]; rfl
    · rw [dif_neg h1, rdig_dec n (m / 10) (by omega) (by omega)]
theorem rdig_len : ∀ (k m : Nat), m < 10 ^ k → (rdig m).length ≤ k
  | 0, m, h => by
    have : m = 0 := by simpa using h
    subst this; rw [rdig_zero]; simp
  | k + 1, m, h => by
    by_cases h0 : m = 0
    · subst h0; rw [rdig_zero]; simp
    · rw [rdig_pos h0, List.length_cons]
      have := rdig_len k (m / 10) (by rw [Nat.div_lt_iff_lt_mul (by omega), ← Nat.pow_succ]; exact h)
      omega
theorem infoB8 : (Tryz.prog.info? 5).map (fun i => (i.zero, i.size, i.bytes)) = some (some (.int .u8 0), 1, 1) := by kernel_rfl
def bys (l : List UInt8) : List Value := l.map fun c => .int .u8 c.toNat
abbrev OwB (B : Nat) (w : World) (v : Value) (l : List UInt8) : Prop := w.ownsRow B 5 1 v l.length (bys l)
theorem owb_snoc {B : Nat} {w : World} {v : Value} {l : List UInt8} {c : UInt8} (h : w.ownsRow B 5 1 v (l.length + 1) (bys l ++ [.int .u8 c.toNat])) : OwB B w v (l ++ [c]) := by
  have e1 : (l ++ [c]).length = l.length + 1 := by simp
  have e2 : bys (l ++ [c]) = bys l ++ [.int .u8 c.toNat] := by simp [bys]
  unfold OwB; rw [e1, e2]; exact h
theorem owb_keep {w w' : World} {B n e m : Nat} {v : Value} {xs : List Value} (h : w.ownsRow B e m v n xs) (hb : Below w.heap.size w w') : w'.ownsRow B e m v n xs := by
  refine ⟨h.1, ?_⟩
  rcases h.2 with h0 | ⟨g, cap, cur, h0, h1, h2, h3⟩
  · exact .inl h0
  · exact .inr ⟨g, cap, cur, h0, h1, by rw [hb.block g (some_lt h2)]; exact h2, h3⟩
theorem owb_slice {w : World} {B n e m : Nat} {v : Value} {xs : List Value} (h : w.ownsRow B e m v n xs) : ∃ A cap, v = .slice A n cap := by
  rcases h.2 with ⟨h0, h1⟩ | ⟨g, cap, cur, h0, -⟩
  · exact ⟨none, 0, by rw [h0, h1]⟩
  · exact ⟨_, _, h0⟩
theorem U32s.blk {w w' : World} {g : Nat} {l : List Nat} (h : U32s w (some ⟨g, 0, none⟩) l) (he : g < w.heap.size → w'.heap[g]? = w.heap[g]?) : U32s w' (some ⟨g, 0, none⟩) l := by
  rcases h with h | ⟨b, o, e, h⟩
  · exact .inl h
  · by_cases h0 : l = []
    · exact .inl h0
    have hl : 0 < l.length := List.length_pos_iff.2 h0
    injection e with e
    injection e with e1 e2
    subst e1 e2
    have hlt := World.block_lt_of_cell? _ _ (h 0 hl)
    refine .inr ⟨g, 0, rfl, fun j hj => ?_⟩
    rw [World.cell?_of_block (w := w) (he hlt)]; exact h j hj
theorem dig_byte (r : Nat) (h : r < 10) : (48 + (r : Int)) = (((UInt8.ofNat (48 + r)).toNat : Nat) : Int) := by
  rw [UInt8.toNat_ofNat']; omega
/-- twin: the words, once more. -/
theorem twin_any {w : World} {A : Option Addr} {l : List Nat} {c : Nat} (h : U32s w A l) (hl : 0 < l.length) (hl2 : l.length ≤ 1000) :
    Calls Tryz.prog 98 #[.slice A l.length c] w fun e w' => ∃ A' c', e = .returned (.slice A' l.length c') ∧ U32s w' A' l ∧ Below w.heap.size w w' := by
  obtain ⟨i0, hi, hz0, hz1, hz2⟩ := info_parts Tryz.infoU
  obtain ⟨b, o, rfl, hat⟩ := h.at hl
  have hcs : ∀ (j : Nat) (u : Value), (l.map fun (x : Nat) => Value.int .u32 (x : Int))[j]? = some u → w.cell? ((⟨b, o, none⟩ : Addr).add j) = some u := by
    intro j u hj
    have hj' : j < l.length := by have := (List.getElem?_eq_some_iff.1 hj).1; simpa using this
    have h2 := hat j hj'
    rw [show (⟨b, o, none⟩ : Addr).add j = ⟨b, o + j, none⟩ from by unfold Addr.add; split <;> simp_all, h2]
    rw [List.getElem?_map, List.getElem?_eq_getElem hj'] at hj
    rw [wd_get hj']; simpa using hj
  go_enter Tryz.func98, Tryz.ntmps98
  go_wp2_with (at_builtin; refine wpList_append_own _ rfl _ _ 117 rfl w.heap.size 103 i0 (.int .u32 0) 1 4 Tryz.underlying117 hi hz0 hz1 hz2 rfl (by decide) (.slice none 0 0) 0 [] rfl (World.ownsRow_nil _ _ _ _) ⟨b, o, none⟩ l.length c (l.map fun (x : Nat) => Value.int .u32 (x : Int)) rfl (by simp) hcs (by intro u hu; obtain ⟨x, -, rfl⟩ := List.mem_map.1 hu; rfl) (by unfold maxLen; omega) (by omega) (Nat.le_refl _) ?_)
  intro v1 w1 o1 g1 _
  have B1 : Below w.heap.size w w1 := (Below.refl _ _).grown g1 (Nat.le_refl _) (fun j hj => by simp [Value.ownBlock] at hj)
  have o1' := o1
  rcases o1.2 with ⟨-, h0⟩ | ⟨g, cap, cur, h0, -⟩
  · omega
  subst h0
  go_wp2_with fail
  go_ret
  refine ⟨some ⟨g, 0, none⟩, cap, rfl, .inr ⟨g, 0, rfl, fun j hj => ?_⟩, B1⟩
  rw [Nat.zero_add, o1'.cellAt j (by omega), List.getElem?_map, List.getElem?_eq_getElem hj]
  rfl
/-- A list turned round as far as i. -/
def Rv (L R : List UInt8) (i : Nat) : Prop := R.length = L.length ∧ ∀ t, t < L.length → R.getD t 0 = if t < i ∨ L.length < t + i + 1 then L.getD (L.length - 1 - t) 0 else L.getD t 0
theorem Rv.start (L : List UInt8) : Rv L L 0 := ⟨rfl, fun t ht => by rw [if_neg (by omega)]⟩
theorem getD_set {R : List UInt8} {a t : Nat} {x : UInt8} (h : t < R.length) : (R.set a x).getD t 0 = if a = t then x else R.getD t 0 := by
  rw [List.getD_eq_getElem?_getD, List.getD_eq_getElem?_getD, List.getElem?_set]
  by_cases e : a = t
  · subst e; simp [h]
  · simp [e]
theorem Rv.step {L R : List UInt8} {i : Nat} (h : Rv L R i) (hi : 2 * i + 1 < L.length) : Rv L ((R.set i (R.getD (L.length - 1 - i) 0)).set (L.length - 1 - i) (R.getD i 0)) (i + 1) := by
  obtain ⟨h1, h2⟩ := h
  refine ⟨by simpa using h1, fun t ht => ?_⟩
  rw [getD_set (by simp; omega), getD_set (by omega)]
  have a1 := h2 i (by omega)
  have a2 := h2 (L.length - 1 - i) (by omega)
  rw [if_neg (by omega)] at a1 a2
  by_cases e1 : L.length - 1 - i = t
  · rw [if_pos e1, if_pos (by omega), a1, show L.length - 1 - t = i by omega]
  · rw [if_neg e1]
    by_cases e2 : i = t
    · rw [if_pos e2, if_pos (by omega), a2, show L.length - 1 - i = L.length - 1 - t by omega]
    · rw [if_neg e2, h2 t ht]
      by_cases e3 : t < i ∨ L.length < t + i + 1
      · rw [if_pos e3, if_pos (by omega)]
      · rw [if_neg e3, if_neg (by omega)]
theorem Rv.done {L R : List UInt8} {i : Nat} (h : Rv L R i) (hi : ¬ 2 * i + 1 < L.length) (hj : 2 * i ≤ L.length) : R = L.reverse := by
  obtain ⟨h1, h2⟩ := h
  refine List.ext_getElem (by simp [h1]) fun t a b => ?_
  have h3 := h2 t (by omega)
  rw [List.getElem_reverse]
  rw [List.getD_eq_getElem?_getD, List.getElem?_eq_getElem a] at h3
  simp only [Option.getD_some] at h3
  rw [h3]
  by_cases e : t < i ∨ L.length < t + i + 1
  · rw [if_pos e, List.getD_eq_getElem?_getD, List.getElem?_eq_getElem (by omega)]; rfl
  · rw [if_neg e, List.getD_eq_getElem?_getD, List.getElem?_eq_getElem (by omega)]
    simp only [Option.getD_some]
    congr 1
    omega
theorem bys_at {R : List UInt8} {t : Nat} (h : t < R.length) : (bys R)[t]? = some (.int .u8 ((R.getD t 0).toNat : Int)) := by
  unfold bys
  rw [List.getElem?_map, List.getElem?_eq_getElem h, List.getD_eq_getElem?_getD, List.getElem?_eq_getElem h]; rfl
theorem bys_set (R : List UInt8) (t : Nat) (x : UInt8) : (bys R).set t (.int .u8 (x.toNat : Int)) = bys (R.set t x) := by
  unfold bys; rw [List.map_set]
theorem bytes_conv {w : World} {g B n c : Nat} {R : List UInt8} (h : w.ownsRow B 5 1 (.slice (some ⟨g, 0, none⟩) n c) n (bys R)) (hn : n = R.length) : (convert 23 9 (.slice (some ⟨g, 0, none⟩) n c)).run Tryz.prog w = .ok (.string ⟨R.toArray⟩) w := by
  subst hn
  exact run_convert_bytes_back (P := Tryz.prog) w 23 9 5 ⟨g, 0, none⟩ c R Tryz.underlying23 Tryz.underlying5 Tryz.underlying9 (fun j hj => by
    rw [show (⟨g, 0, none⟩ : Addr).add j = ⟨g, j, none⟩ from by simp [Addr.add]; intro h; omega, h.cellAt j (by omega), bys_at hj, List.getD_eq_getElem?_getD, List.getElem?_eq_getElem hj]; rfl)
set_option maxRecDepth 100000 in
set_option maxHeartbeats 1000000 in
theorem text_any {w : World} {b : Nat} {neg : Bool} {m : Nat} (hI : IntV w b neg m) (hm : m ≠ 0) (hm2 : m < 18446744073709551616) :
    Calls Tryz.prog 73 #[.pointer (some ⟨b, 0, none⟩), .int .i64 10] w fun e w' => e = .returned (.string ⟨((if neg = true then [45] else []) ++ decDigits m).toArray⟩) ∧ Below w.heap.size w w' := by
  obtain ⟨i0, hi, hz0, hz1, hz2⟩ := info_parts infoB8
  obtain ⟨v, hb, A, cap, rfl, hcap, hU⟩ := hI
  have hbl : b < w.heap.size := some_lt hb
  have hwl : ∀ k, k ≤ m → (wl k).length ≤ 2 := fun k hk => wl_len_le k 2 (by omega)
  have hwp : ∀ k, k ≠ 0 → 0 < (wl k).length := fun k hk => by rw [wl_pos hk]; simp
  have hlen := rdig_len 20 m (by omega)
  have c0 : w.cell? ⟨b, 0, none⟩ = some (.bool neg) := by simp [World.cell?, hb]
  have c1 : w.cell? ⟨b, 1, none⟩ = some (.slice A (wl m).length cap) := by simp [World.cell?, hb]
  have HTw := twin_any (c := cap) hU (hwp m hm) (by have := hwl m (Nat.le_refl _); omega)
  have hp := hwp m hm
  have hpI : (0 : Int) < ((wl m).length : Int) := by omega
  have hp0 : (((wl m).length : Int) == 0) = false := beq_eq_false_iff_ne.2 (by omega)
  have HL := Lib.hid hwl
  have HPo := Lib.hid hwp
  clear hwl hwp hb hU
  go_enter Tryz.func73, Tryz.ntmps73
  go_wp2_with (go_at_call 98; refine HTw.mono ?_; rintro e u1 ⟨A1, cp1, rfl, hU1, b1⟩; refine Hid.out ?_)
  refine Lib.hid ?_
  have hc0 := Lib.hid (fun (u : World) (hu : Below w.heap.size w u) => (hu.cell (p := ⟨b, 0, none⟩) hbl).trans c0)
  clear HTw c0 c1 hpI hp0 hp
  go_wp2_with fail
  go_loopw [5, 6] (fun vb va wr => ∃ (k : Nat) (l : List UInt8) (A : Option Addr) (c : Nat) (pb : Option Addr) (cb : Nat), vb = .slice pb l.length cb ∧ va = .slice A (wl k).length c ∧ U32s wr A (wl k) ∧ OwB w.heap.size wr (.slice pb l.length cb) l ∧ Hid (l ++ rdig k = rdig m) ∧ k ≤ m ∧ l.length + (rdig k).length ≤ 20 ∧ Below w.heap.size w wr) (fun vb _ _ => match vb with | .slice _ n _ => 20 - n | _ => 0)
  case atStart => exact ⟨m, [], A1, cp1, none, 0, rfl, rfl, hU1, World.ownsRow_nil _ _ _ _, Lib.hid rfl, Nat.le_refl _, by simpa using hlen, b1⟩
  case round =>
    obtain ⟨k, l, A2, cp2, pb, cb, rfl, rfl, hU2, own, HX, hkm, hl20, hbw⟩ := hrel
    by_cases hk : k = 0
    · subst hk
      have hl0 : l = rdig m := by have := HX.out; rw [rdig_zero, List.append_nil] at this; exact this
      have hc := hc0.out wr hbw
      have hrp : 1 ≤ l.length := by rw [hl0, rdig_pos hm]; simp
      have hw0 : ((wl 0).length : Int) = 0 := by rw [wl_zero]; rfl
      have hll : l.length ≤ 20 := by omega
      cases neg with
      | false =>
        have HAns : Hid (l.reverse = decDigits m) := Lib.hid (by rw [hl0, rdig_dec m m (Nat.le_refl _) hm])
        obtain ⟨g, cg, e⟩ : ∃ g cg, Value.slice pb l.length cb = .slice (some ⟨g, 0, none⟩) l.length cg := by
          rcases own.2 with ⟨-, h0⟩ | ⟨g, cg, cur, h0, -⟩
          · omega
          · exact ⟨g, cg, h0⟩
        injection e with e1 _ e2
        subst e1 e2
        obtain ⟨L, hL⟩ : ∃ L, L = l := ⟨_, rfl⟩
        subst hL
        have ownL := own
        have BL := hbw
        clear hl0 HX own hbw hU2 hl20
        generalize hw1 : (wl 0).length = w0 at *
        clear hw1
        go_wp2_with fail
        go_loopw [8, 9] (fun iv jv wr => ∃ (i : Nat) (R : List UInt8), 2 * i ≤ L.length ∧ iv = .int .i64 i ∧ jv = .int .i64 ((L.length : Int) - 1 - i) ∧ Hid (Rv L R i) ∧ R.length = L.length ∧ wr.ownsRow w.heap.size 5 1 (.slice (some ⟨g, 0, none⟩) L.length cb) L.length (bys R) ∧ Below w.heap.size w wr) (fun iv _ _ => L.length - (intOf iv).toNat)
        case atStart => exact ⟨0, L, by omega, rfl, by go_num, Lib.hid (Rv.start L), rfl, ownL, BL⟩
        case round =>
          obtain ⟨i, R, hi2, rfl, rfl, HV, hRl, oR, hbR⟩ := hrel
          clear ownL BL
          by_cases hlt : 2 * i + 1 < L.length
          · obtain ⟨j, hj⟩ : ∃ j, j = L.length - 1 - i := ⟨_, rfl⟩
            have ej : (L.length : Int) - 1 - (i : Int) = (j : Int) := by omega
            have hijI : (i : Int) < (j : Int) := by omega
            have hjL : (j : Int) < (L.length : Int) := by omega
            have hiL : (i : Int) < (L.length : Int) := by omega
            have hne1 : ¬ i = j := by omega
            have hne2 : ¬ j = i := by omega
            have HV2 := Lib.hid (HV.out.step hlt)
            rw [← hj] at HV2
            have ci := (oR.cellAt i (by omega)).trans (bys_at (R := R) (t := i) (by omega))
            have cj := (oR.cellAt j (by omega)).trans (bys_at (R := R) (t := j) (by omega))
            have f0 := oR.frozenAt
            have hgw := (oR.lt g rfl).1
            obtain ⟨oR1, -⟩ := oR.stored i (.int .u8 ((R.getD j 0).toNat : Int))
            rw [bys_set] at oR1
            have f1 := oR1.frozenAt
            obtain ⟨oR2, -⟩ := oR1.stored j (.int .u8 ((R.getD i 0).toNat : Int))
            rw [bys_set] at oR2
            have cj1 := (oR1.cellAt j (by omega)).trans (bys_at (R := R.set i (R.getD j 0)) (t := j) (by simp; omega))
            have B2 : Below w.heap.size w ((wr.setCell ⟨g, i, none⟩ (.int .u8 ((R.getD j 0).toNat : Int))).setCell ⟨g, j, none⟩ (.int .u8 ((R.getD i 0).toNat : Int))) := (hbR.setCell (p := ⟨g, i, none⟩) hgw _).setCell (p := ⟨g, j, none⟩) hgw _
            simp only [ej]
            have HJ := Lib.hid hj
            have HEJ := Lib.hid ej
            clear HV hj ej
            generalize hx : (R.getD i 0) = x at *
            generalize hy : (R.getD j 0) = y at *
            clear hx hy
            go_wp2_with fail
            go_roundw
            case rel => exact ⟨i + 1, _, by omega, by go_num, by have := HEJ.out; simp; omega, HV2, by simpa using hRl, oR2, B2⟩
            case measure => simp [intOf]; omega
          · have hijI : ¬ (i : Int) < (L.length : Int) - 1 - i := by omega
            have hcv := bytes_conv oR hRl.symm
            have HE := Lib.hid (HV.out.done hlt hi2)
            go_wp2_with fail
            go_ret
            have hE := HE.out.trans HAns.out
            subst hE
            exact ⟨rfl, hbR⟩
      | true =>
        have HAns0 : Hid ((l ++ [45]).reverse = 45 :: decDigits m) := Lib.hid (by rw [List.reverse_append, hl0, rdig_dec m m (Nat.le_refl _) hm]; rfl)
        have hs2 : w.heap.size ≤ wr.heap.size := hbw.size
        clear hl0 HX hU2 hl20
        generalize hw1 : (wl 0).length = w0 at *
        clear hw1
        go_wp2_with (at_builtin; refine wpList_append_own _ rfl _ _ 23 rfl w.heap.size 5 i0 (.int .u8 0) 1 1 Tryz.underlying23 hi hz0 hz1 hz2 rfl (by decide) _ _ _ rfl (own.alloc _) ⟨wr.heap.size, 0, none⟩ 1 1 [.int .u8 45] rfl rfl (by intro j u' hj; match j, hj with | 0, hj => simp at hj; subst hj; simp [Addr.add]) (by intro u' hu'; simp at hu'; subst hu'; rfl) (by unfold maxLen; omega) (by omega) (by simp; omega) ?_)
        intro v3 u3 o3 g3 _
        refine Hid.out ?_
        refine Lib.hid ?_
        have own3 : OwB w.heap.size u3 v3 (l ++ [45]) := owb_snoc (c := 45) o3
        have BL : Below w.heap.size w u3 := (hbw.alloc hs2 _).grown g3 (by simp; omega) (fun j hj => by have := (own.lt j hj).1; omega)
        obtain ⟨L, hL⟩ : ∃ L, L = l ++ [45] := ⟨_, rfl⟩
        rw [← hL] at own3
        have HAns : Hid (L.reverse = 45 :: decDigits m) := Lib.hid (by rw [hL]; exact HAns0.out)
        have hL1 : L.length = l.length + 1 := by rw [hL]; simp
        have hLa : 1 ≤ L.length := by omega
        have hLb : L.length ≤ 21 := by omega
        obtain ⟨g, cg, rfl⟩ : ∃ g cg, v3 = .slice (some ⟨g, 0, none⟩) L.length cg := by
          rcases own3.2 with ⟨-, h0⟩ | ⟨g, cg, cur, h0, -⟩
          · omega
          · exact ⟨g, cg, h0⟩
        have ownL := own3
        clear o3 g3 own own3 hL hL1 HAns0 hbw hs2
        go_wp2_with fail
        go_loopw [8, 9] (fun iv jv wr => ∃ (i : Nat) (R : List UInt8), 2 * i ≤ L.length ∧ iv = .int .i64 i ∧ jv = .int .i64 ((L.length : Int) - 1 - i) ∧ Hid (Rv L R i) ∧ R.length = L.length ∧ wr.ownsRow w.heap.size 5 1 (.slice (some ⟨g, 0, none⟩) L.length cg) L.length (bys R) ∧ Below w.heap.size w wr) (fun iv _ _ => L.length - (intOf iv).toNat)
        case atStart => exact ⟨0, L, by omega, rfl, by go_num, Lib.hid (Rv.start L), rfl, ownL, BL⟩
        case round =>
          obtain ⟨i, R, hi2, rfl, rfl, HV, hRl, oR, hbR⟩ := hrel
          clear ownL BL
          by_cases hlt : 2 * i + 1 < L.length
          · obtain ⟨j, hj⟩ : ∃ j, j = L.length - 1 - i := ⟨_, rfl⟩
            have ej : (L.length : Int) - 1 - (i : Int) = (j : Int) := by omega
            have hijI : (i : Int) < (j : Int) := by omega
            have hjL : (j : Int) < (L.length : Int) := by omega
            have hiL : (i : Int) < (L.length : Int) := by omega
            have hne1 : ¬ i = j := by omega
            have hne2 : ¬ j = i := by omega
            have HV2 := Lib.hid (HV.out.step hlt)
            rw [← hj] at HV2
            have ci := (oR.cellAt i (by omega)).trans (bys_at (R := R) (t := i) (by omega))
            have cj := (oR.cellAt j (by omega)).trans (bys_at (R := R) (t := j) (by omega))
            have f0 := oR.frozenAt
            have hgw := (oR.lt g rfl).1
            obtain ⟨oR1, -⟩ := oR.stored i (.int .u8 ((R.getD j 0).toNat : Int))
            rw [bys_set] at oR1
            have f1 := oR1.frozenAt
            obtain ⟨oR2, -⟩ := oR1.stored j (.int .u8 ((R.getD i 0).toNat : Int))
            rw [bys_set] at oR2
            have cj1 := (oR1.cellAt j (by omega)).trans (bys_at (R := R.set i (R.getD j 0)) (t := j) (by simp; omega))
            have B2 : Below w.heap.size w ((wr.setCell ⟨g, i, none⟩ (.int .u8 ((R.getD j 0).toNat : Int))).setCell ⟨g, j, none⟩ (.int .u8 ((R.getD i 0).toNat : Int))) := (hbR.setCell (p := ⟨g, i, none⟩) hgw _).setCell (p := ⟨g, j, none⟩) hgw _
            simp only [ej]
            have HJ := Lib.hid hj
            have HEJ := Lib.hid ej
            clear HV hj ej
            generalize hx : (R.getD i 0) = x at *
            generalize hy : (R.getD j 0) = y at *
            clear hx hy
            go_wp2_with fail
            go_roundw
            case rel => exact ⟨i + 1, _, by omega, by go_num, by have := HEJ.out; simp; omega, HV2, by simpa using hRl, oR2, B2⟩
            case measure => simp [intOf]; omega
          · have hijI : ¬ (i : Int) < (L.length : Int) - 1 - i := by omega
            have hcv := bytes_conv oR hRl.symm
            have HE := Lib.hid (HV.out.done hlt hi2)
            go_wp2_with fail
            go_ret
            have hE := HE.out.trans HAns.out
            subst hE
            exact ⟨rfl, hbR⟩
    · have hp := HPo.out k hk
      have hpI : (0 : Int) < ((wl k).length : Int) := by omega
      have h2 := HL.out k hkm
      have HSm := small_any (ca := cp2) (d := 10) hU2 (wds_wl k) hp (by omega) (by omega) (by omega)
      rw [nv_wl] at HSm
      have hr : k % 10 < 10 := Nat.mod_lt _ (by omega)
      have HX2 : Hid ((l ++ [UInt8.ofNat (48 + k % 10)]) ++ rdig (k / 10) = rdig m) := Lib.hid (by rw [← HX.out, rdig_pos hk]; simp)
      have hl2 : l.length + 1 + (rdig (k / 10)).length ≤ 20 := by rw [rdig_pos hk, List.length_cons] at hl20; omega
      have hk2 : k / 10 ≤ m := by omega
      generalize k % 10 = r at *
      generalize k / 10 = k2 at *
      have hrI : (r : Int) < 10 := by omega
      generalize hW1 : (wl k).length = W1 at *
      clear hW1 HX hl20
      go_wp2_with (go_at_call 99; refine HSm.mono ?_; rintro e u2 ⟨g2, rfl, hg2, hU3, b2⟩; refine Hid.out ?_)
      refine Lib.hid ?_
      have own2 := owb_keep own b2
      have B2 := hbw.trans (b2.mono hbw.size)
      have hs2 : w.heap.size ≤ u2.heap.size := B2.size
      have hcr := Lib.hid (dig_byte r hr)
      have hne : ∀ j, (Value.slice pb l.length cb).ownBlock = some j → j ≠ g2 := fun j hj => by have := (own.lt j hj).2; omega
      clear HSm own b2
      go_wp2_with (at_builtin; refine wpList_append_own _ rfl _ _ 23 rfl w.heap.size 5 i0 (.int .u8 0) 1 1 Tryz.underlying23 hi hz0 hz1 hz2 rfl (by decide) _ _ _ rfl (own2.alloc _) ⟨u2.heap.size, 0, none⟩ 1 1 [.int .u8 (48 + (r : Int))] rfl rfl (by intro j u' hj; match j, hj with | 0, hj => simp at hj; subst hj; simp [Addr.add]) (by intro u' hu'; simp at hu'; subst hu'; rfl) (by unfold maxLen; omega) (by omega) (by simp; omega) ?_)
      intro v3 u3 o3 g3 _
      refine Hid.out ?_
      refine Lib.hid ?_
      rw [hcr.out] at o3
      have own3 := owb_snoc o3
      have hU4 : U32s u3 (some ⟨g2, 0, none⟩) (wl k2) := hU3.blk (fun hlt => by
        rw [g3.block g2 (by simp; omega) (fun e => hne g2 e.symm rfl), Below.heap_alloc _ _ _ hlt])
      have B3 : Below w.heap.size w u3 := (B2.alloc hs2 _).grown g3 (by simp; omega) (fun j hj => by have := (own2.lt j hj).1; omega)
      obtain ⟨p3, c3, rfl⟩ := owb_slice own3
      have hl3 : (l ++ [UInt8.ofNat (48 + r)]).length = l.length + 1 := by simp
      generalize l ++ [UInt8.ofNat (48 + r)] = l3 at *
      clear o3 g3 own2 hU3 B2 hne hcr
      go_wp2_with fail
      go_roundw
      case rel => exact ⟨k2, l3, _, _, p3, c3, rfl, rfl, hU4, own3, HX2, hk2, by omega, B3⟩
      case measure => simp; omega
end Go.Proofs.YtcmnijpcinmbbaaGreatDoor.Dg

/- The document's Digits. -/
namespace Go.Proofs.YtcmnijpcinmbbaaGreatDoor.Dg
open Go.RowKit
open Go.Lib (decDigits itoa)
set_option linter.unusedVariables false

def itoB (x : Int) : ByteArray := ⟨(itoa x).toArray⟩
theorem text_zero {w : World} {b : Nat} {neg : Bool} (hI : IntV w b neg 0) :
    Calls Tryz.prog 73 #[.pointer (some ⟨b, 0, none⟩), .int .i64 10] w fun e w' => e = .returned (.string ⟨(decDigits 0).toArray⟩) ∧ w = w' := by
  obtain ⟨v, hb, A, cap, rfl, -, -⟩ := hI
  have c1 : w.cell? ⟨b, 1, none⟩ = some (.slice A (wl 0).length cap) := by simp [World.cell?, hb]
  rw [wl_zero] at c1
  have hd : decDigits 0 = [48] := by rw [decDigits]; rfl
  rw [hd]
  simp only [List.length_nil] at c1
  clear hb
  go_enter Tryz.func73, Tryz.ntmps73
  go_wp2_with fail
  go_ret
  exact ⟨rfl, rfl⟩
theorem ito_eq (n : Int) : (if decide (n < 0) = true then [45] else []) ++ decDigits n.natAbs = itoa n := by
  unfold itoa
  by_cases h : n < 0
  · rw [if_pos h, if_pos (by simpa using h)]; rfl
  · rw [if_neg h, if_neg (by simpa using h), show n.natAbs = n.toNat by omega]; rfl
theorem text_of {w : World} {b : Nat} {n : Int} (h0 : -9223372036854775808 ≤ n) (h1 : n ≤ 9223372036854775807) (hI : IntV w b (decide (n < 0)) n.natAbs) :
    Calls Tryz.prog 73 #[.pointer (some ⟨b, 0, none⟩), .int .i64 10] w fun e w' => e = .returned (.string (itoB n)) ∧ Below w.heap.size w w' := by
  by_cases hz : n = 0
  · subst hz
    refine (text_zero hI).mono ?_
    rintro e w' ⟨rfl, rfl⟩
    exact ⟨by unfold itoB; rw [← ito_eq]; rfl, Below.refl _ _⟩
  · refine (text_any hI (by omega) (by omega)).mono ?_
    rintro e w' ⟨rfl, hb⟩
    exact ⟨by unfold itoB; rw [← ito_eq], hb⟩
theorem string_of {w : World} {b : Nat} {n : Int} (h0 : -9223372036854775808 ≤ n) (h1 : n ≤ 9223372036854775807) (hI : IntV w b (decide (n < 0)) n.natAbs) :
    Calls Tryz.prog 52 #[.pointer (some ⟨b, 0, none⟩)] w fun e w' => e = .returned (.string (itoB n)) ∧ Below w.heap.size w w' := by
  have H := text_of h0 h1 hI
  clear hI
  go_enter Tryz.func52, Tryz.ntmps52
  go_wp2_with (go_at_call 73; refine H.mono ?_; rintro e u1 ⟨rfl, b1⟩; refine Hid.out ?_)
  refine Lib.hid ?_
  go_wp2_with fail
  go_ret
  exact ⟨rfl, b1⟩
theorem digs_any (w : World) (n : Int) (h0 : -9223372036854775808 ≤ n) (h1 : n ≤ 9223372036854775807) :
    Calls Tryz.prog 31 #[.int .i64 n] w fun e w' => e = .returned (.string (itoB n)) ∧ Below w.heap.size w w' := by
  have H1 := newint_any w n h0 h1
  have H2 := Lib.hid (fun (u : World) (hI : IntV u w.heap.size (decide (n < 0)) n.natAbs) => string_of h0 h1 hI)
  go_enter Tryz.func31, Tryz.ntmps31
  go_wp2_with (go_at_call 51; refine H1.mono ?_; rintro e u1 ⟨rfl, hI, b1⟩; refine Hid.out ?_)
  refine Lib.hid ?_
  have H3 := H2.out u1 hI
  clear H1 H2 hI
  go_wp2_with (go_at_call 52; refine H3.mono ?_; rintro e u2 ⟨rfl, b2⟩; refine Hid.out ?_)
  refine Lib.hid ?_
  go_wp2_with fail
  go_ret
  exact ⟨rfl, b1.trans (b2.mono b1.size)⟩
end Go.Proofs.YtcmnijpcinmbbaaGreatDoor.Dg

