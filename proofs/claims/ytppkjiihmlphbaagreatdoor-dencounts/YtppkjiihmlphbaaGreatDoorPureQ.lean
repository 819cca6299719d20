import Derived.Test.YtppkjiihmlphbaaGreatDoorPureN
import Derived.Lib.Bytealg
/- Records by their keys. -/
namespace Go.Proofs.YtppkjiihmlphbaaGreatDoor

def posF (k : ByteArray) : Nat → List ByteArray → Option Nat
  | _, [] => none
  | i, q :: r => if q = k then some i else posF k (i + 1) r
theorem posF_snoc (k q : ByteArray) : ∀ (ks : List ByteArray) (i : Nat), posF k i (ks ++ [q]) = (match posF k i ks with | some a => some a | none => if q = k then some (i + ks.length) else none)
  | [], i => by simp [posF]
  | x :: ks, i => by
    simp only [List.cons_append, posF]
    by_cases h : x = k
    · simp [h]
    · simp only [h, if_false, posF_snoc k q ks (i + 1), List.length_cons]
      rw [show i + 1 + ks.length = i + (ks.length + 1) from by omega]
theorem posF_some {k : ByteArray} : ∀ {ks : List ByteArray} {i a : Nat}, posF k i ks = some a → i ≤ a ∧ ∃ h : a - i < ks.length, ks[a - i] = k
  | [], i, a, h => by simp [posF] at h
  | x :: ks, i, a, h => by
    unfold posF at h
    split at h
    · rename_i hx
      simp at h; subst h
      exact ⟨Nat.le_refl _, by simp, by simpa using hx⟩
    · obtain ⟨h1, h2, h3⟩ := posF_some h
      refine ⟨by omega, by simp; omega, ?_⟩
      have : a - i = (a - (i + 1)) + 1 := by omega
      simp only [this, List.getElem_cons_succ]; exact h3
theorem posF_none {k : ByteArray} : ∀ {ks : List ByteArray} {i : Nat}, posF k i ks = none → ∀ q ∈ ks, q ≠ k
  | [], i, h => by simp
  | x :: ks, i, h => by
    unfold posF at h
    split at h
    · simp at h
    · rename_i hx
      intro q hq
      rcases List.mem_cons.1 hq with rfl | hq
      · exact hx
      · exact posF_none h q hq
theorem firsts_snoc (l : List Rc) (r : Rc) : firstsP (l ++ [r]) = if (posF r.key 0 (firstsP l)).isSome then firstsP l else firstsP l ++ [r.key] := by
  have h : ((firstsP l).any fun k => decide (k = r.key)) = (posF r.key 0 (firstsP l)).isSome := by
    cases e : posF r.key 0 (firstsP l) with
    | none => simp; exact fun q hq => posF_none e q hq
    | some a =>
      obtain ⟨_, h2, h3⟩ := posF_some e
      simp; exact h3 ▸ List.getElem_mem h2
  have h2 : firstsP (l ++ [r]) = if ((firstsP l).any fun k => decide (k = r.key)) then firstsP l else firstsP l ++ [r.key] := by
    unfold firstsP
    rw [List.foldl_append]
    rfl
  rw [h2, h]
theorem nums_snoc (l : List Rc) (r : Rc) (k : ByteArray) : numsP (l ++ [r]) k = numsP l k ++ (if r.key = k then [r.num] else []) := by
  unfold numsP
  rw [List.filter_append, List.map_append]
  by_cases h : r.key = k <;> simp [h]
theorem firsts_nodup (l : List Rc) : (firstsP l).Nodup := by
  have h : ∀ R : List Rc, (firstsP R.reverse).Nodup := by
    intro R
    induction R with
    | nil => simp [firstsP]
    | cons r R ih =>
      rw [List.reverse_cons, firsts_snoc]
      split
      · exact ih
      · rename_i hn
        rw [List.nodup_append]
        refine ⟨ih, by simp, fun a ha b hb => ?_⟩
        have e : posF r.key 0 (firstsP R.reverse) = none := by simpa using hn
        have := posF_none e a ha
        simp at hb; subst hb; exact this
  have := h l.reverse
  rwa [List.reverse_reverse] at this
theorem firsts_mem {l : List Rc} {k : ByteArray} : k ∈ firstsP l ↔ ∃ r ∈ l, r.key = k := by
  have h : ∀ R : List Rc, k ∈ firstsP R.reverse ↔ ∃ r ∈ R.reverse, r.key = k := by
    intro R
    induction R with
    | nil => simp [firstsP]
    | cons r R ih =>
      rw [List.reverse_cons, firsts_snoc]
      simp only [List.mem_append, List.mem_singleton]
      split
      · rename_i hs
        constructor
        · intro hk
          obtain ⟨x, hx, he⟩ := ih.1 hk
          exact ⟨x, .inl hx, he⟩
        · rintro ⟨x, hx | hx, he⟩
          · exact ih.2 ⟨x, hx, he⟩
          · subst hx
            obtain ⟨a, ha⟩ := Option.isSome_iff_exists.1 hs
            obtain ⟨_, h2, h3⟩ := posF_some ha
            rw [← he, ← h3]; exact List.getElem_mem _
      · simp only [List.mem_append, List.mem_singleton]
        constructor
        · rintro (hk | hk)
          · obtain ⟨x, hx, he⟩ := ih.1 hk
            exact ⟨x, .inl hx, he⟩
          · exact ⟨r, .inr rfl, hk.symm⟩
        · rintro ⟨x, hx | hx, he⟩
          · exact .inl (ih.2 ⟨x, hx, he⟩)
          · subst hx; exact .inr he.symm
  have := h l.reverse
  rwa [List.reverse_reverse] at this
end Go.Proofs.YtppkjiihmlphbaaGreatDoor

/- Lines by their keys' bytes. -/
namespace Go.Proofs.YtppkjiihmlphbaaGreatDoor
open Go.Lib (compareBytes)

theorem cmp_lt : ∀ (a b : List UInt8), compareBytes a b < 0 ↔ a < b
  | [], [] => by simp [compareBytes]
  | [], y :: b => by simp [compareBytes]
  | x :: a, [] => by simp [compareBytes]
  | x :: a, y :: b => by
    unfold compareBytes
    rw [List.cons_lt_cons_iff]
    by_cases h1 : x < y
    · simp [h1]
    · by_cases h2 : y < x
      · have hne : x ≠ y := fun e => by subst e; exact h1 h2
        simp [h1, h2, hne]
      · have he : x = y := by
          have a1 : ¬ x.toNat < y.toNat := h1
          have a2 : ¬ y.toNat < x.toNat := h2
          exact UInt8.toNat_inj.1 (by omega)
        simp [he, cmp_lt a b]
def kle (a b : ByteArray) : Bool := decide (a.data.toList ≤ b.data.toList)
theorem kle_trans (a b c : ByteArray) (h1 : kle a b = true) (h2 : kle b c = true) : kle a c = true := by
  simp only [kle, decide_eq_true_eq] at *; exact List.le_trans h1 h2
theorem kle_total (a b : ByteArray) : (kle a b || kle b a) = true := by
  simp only [kle, Bool.or_eq_true, decide_eq_true_eq]; exact List.le_total _ _
theorem kle_anti {a b : ByteArray} (h1 : kle a b = true) (h2 : kle b a = true) : a = b := by
  simp only [kle, decide_eq_true_eq] at *
  have := List.le_antisymm h1 h2
  cases a; cases b
  congr 1
  exact Array.toList_inj.1 this
/-- The keys of records, by their bytes; the lines. -/
def keysP (l : List Rc) : List ByteArray := (firstsP l).mergeSort kle
def linesP (l : List Rc) : List Ln := (keysP l).map fun k => (k, numsP l k)
theorem keys_eq {l : List Rc} {K : List ByteArray} (hp : K.Perm (firstsP l)) (hs : K.Pairwise fun a b => kle a b = true) : K = keysP l :=
  List.Perm.eq_of_pairwise (le := fun a b => kle a b = true) (fun _ _ _ _ h1 h2 => kle_anti h1 h2) hs (List.pairwise_mergeSort kle_trans kle_total _) (hp.trans (List.mergeSort_perm _ _).symm)
end Go.Proofs.YtppkjiihmlphbaaGreatDoor

/- What comes of a job: all of it. -/
namespace Go.Proofs.YtppkjiihmlphbaaGreatDoor

/-- What the Sinks among some nodes get. -/
def sinksP : List Nd → List (List Rc) → List (List Ln)
  | nd :: L, o :: hs => if nd.k = 10 then linesP o :: sinksP L hs else sinksP L hs
  | _, _ => []
theorem sinks_snoc : ∀ (L : List Nd) (hs : List (List Rc)) (nd : Nd) (o : List Rc), L.length = hs.length → sinksP (L ++ [nd]) (hs ++ [o]) = sinksP L hs ++ (if nd.k = 10 then [linesP o] else [])
  | [], [], nd, o, _ => by simp only [List.nil_append, sinksP]
  | [], x :: hs, nd, o, h => by simp at h
  | x :: L, [], nd, o, h => by simp at h
  | x :: L, y :: hs, nd, o, h => by
    simp only [List.cons_append, sinksP]
    have ih := sinks_snoc L hs nd o (by simpa using h)
    split
    · rw [ih]; rfl
    · rw [ih]
theorem sinks_len : ∀ (L : List Nd) (hs : List (List Rc)), (sinksP L hs).length ≤ L.length
  | [], hs => by cases hs <;> simp [sinksP]
  | x :: L, [] => by simp [sinksP]
  | x :: L, y :: hs => by
    simp only [sinksP]
    split
    · simp; exact sinks_len L hs
    · have := sinks_len L hs; simp; omega
/-- The error, and what the Sinks get. -/
def denE (L : List Nd) (D : List (List Rc)) : Nat :=
  if jobP L ≠ 0 then jobP L else if checkP D (srcs L) ≠ 0 then checkP D (srcs L) else
    match flowP L D [] with
    | none => 4
    | some _ => 0
def denV (L : List Nd) (D : List (List Rc)) : List (List Ln) :=
  if jobP L ≠ 0 then [] else if checkP D (srcs L) ≠ 0 then [] else
    match flowP L D [] with
    | none => []
    | some hs => sinksP L hs
theorem data_ok {D : List (List Rc)} (h : dataP D = 0) (hn : ∀ l ∈ D, ∀ r ∈ l, Rng r.num) : (∀ l ∈ D, ∀ r ∈ l, RcOk r) ∧ ∀ l ∈ D, l.length ≤ 300 := by
  induction D with
  | nil => simp
  | cons l D ih =>
    unfold dataP at h
    split at h
    · cases h
    · rename_i h1
      split at h
      · cases h
      · rename_i h2
        obtain ⟨i1, i2⟩ := ih h (fun l' hl' => hn l' (by simp [hl']))
        refine ⟨fun x hx => ?_, fun x hx => ?_⟩
        · rcases List.mem_cons.1 hx with rfl | hx
          · intro r hr
            have hb : badRc r = false := by
              cases hb : badRc r with
              | false => rfl
              | true => exact absurd (List.any_eq_true.2 ⟨r, hr, hb⟩) h2
            simp only [badRc, Bool.or_eq_false_iff, decide_eq_false_iff_not] at hb
            refine ⟨by omega, hn _ (by simp) r hr, ?_⟩
            unfold Rng; omega
          · exact i1 x hx
        · rcases List.mem_cons.1 hx with rfl | hx
          · omega
          · exact i2 x hx
end Go.Proofs.YtppkjiihmlphbaaGreatDoor

/- Nodes without states; jobs of one way. -/
namespace Go.Proofs.YtppkjiihmlphbaaGreatDoor

def gP (nd : Nd) (r : Rc) (i : Int) : List Rc := copP (turnedP nd r i).1 (turnedP nd r i).2
theorem run_plain {nd : Nd} (h : hasStP nd.k = false) (xs : List (Rc × Int)) : runP nd xs = (xs.flatMap (fun x => gP nd x.1 x.2), fun _ => none) := by
  have key : ∀ R : List (Rc × Int), runP nd R.reverse = (R.reverse.flatMap (fun x => gP nd x.1 x.2), fun _ => none) := by
    intro R
    induction R with
    | nil => rfl
    | cons x R ih =>
      rw [List.reverse_cons, runP_snoc, ih, List.flatMap_append]
      simp [stepP, appP, h, gP]
  have := key xs.reverse
  rwa [List.reverse_reverse] at this
theorem hand_plain {nd : Nd} (h : hasStP nd.k = false) (G : List (List Rc)) : handP nd G = if 2000 < ((tagP 0 G).flatMap (fun x => gP nd x.1 x.2)).length then none else some ((tagP 0 G).flatMap (fun x => gP nd x.1 x.2)) := by
  unfold handP; rw [run_plain h]
theorem tag_one (l : List Rc) : tagP 0 [l] = l.map fun x => (x, 0) := by simp [tagP]
/-- A node that makes one record of each. -/
theorem hand_map {nd : Nd} (h : hasStP nd.k = false) {l : List Rc} {f : Rc → Rc} (hf : ∀ r ∈ l, gP nd r 0 = [f r]) (hl : l.length ≤ 2000) : handP nd [l] = some (l.map f) := by
  have e : (tagP 0 [l]).flatMap (fun x => gP nd x.1 x.2) = l.map f := by
    rw [tag_one, List.flatMap_map]
    induction l with
    | nil => rfl
    | cons x r ih =>
      simp only [List.flatMap_cons, List.map_cons]
      rw [hf x (by simp), ih (fun y hy => hf y (by simp [hy])) (by simp at hl; omega)]; rfl
  rw [hand_plain h, e, if_neg (by simp; omega)]
theorem hand_nil {nd : Nd} (h : hasStP nd.k = false) {l : List Rc} (hf : ∀ r ∈ l, gP nd r 0 = []) : handP nd [l] = some [] := by
  have e : (tagP 0 [l]).flatMap (fun x => gP nd x.1 x.2) = [] := by
    rw [tag_one, List.flatMap_map, List.flatMap_eq_nil_iff]
    exact hf
  rw [hand_plain h, e]; rfl
theorem cop_one {r : Rc} (h : r.key.size ≤ 40) : copP r 1 = [r] := by
  unfold copP; rw [if_neg (by omega)]; rfl
theorem cop_zero (r : Rc) : copP r 0 = [] := by unfold copP; split <;> rfl

def mapR (tx : ByteArray) (r : Rc) : Rc := ⟨r.key, valP tx r.num 0, r.time⟩
theorem g_same {k : Int} (hk : k = 1 ∨ k = 10) (fs : List Int) (tx : ByteArray) (n : Int) {r : Rc} (h : r.key.size ≤ 40) : gP ⟨k, fs, tx, n⟩ r 0 = [r] := by
  unfold gP turnedP; simp only [hk, if_true]; exact cop_one h
theorem g_map (fs : List Int) (tx : ByteArray) (n : Int) {r : Rc} (h : r.key.size ≤ 40) : gP ⟨2, fs, tx, n⟩ r 0 = [mapR tx r] := by
  unfold gP turnedP; simp [mapR]; exact cop_one h
theorem g_yes (fs : List Int) {tx : ByteArray} (n : Int) {r : Rc} (h : r.key.size ≤ 40) (hv : valP tx r.num 0 ≠ 0) : gP ⟨3, fs, tx, n⟩ r 0 = [r] := by
  unfold gP turnedP; simp [hv]; exact cop_one h
theorem g_no (fs : List Int) {tx : ByteArray} (n : Int) {r : Rc} (hv : valP tx r.num 0 = 0) : gP ⟨3, fs, tx, n⟩ r 0 = [] := by
  unfold gP turnedP; simp [hv]; exact cop_zero r
theorem g_copy1 (fs : List Int) (tx : ByteArray) {r : Rc} (h : r.key.size ≤ 40) : gP ⟨5, fs, tx, 1⟩ r 0 = [r] := by
  unfold gP turnedP; simp; exact cop_one h

def tx1 : ByteArray := ⟨#[49]⟩
def txn : ByteArray := ⟨#[110]⟩
def tx0 : ByteArray := ⟨#[48]⟩
def emp : ByteArray := ⟨#[]⟩
theorem rd_1 : readP [49] = .ok (.num 1) [] := read_of (by decide) ((Gr.num 20 [49] (by simp) (by decide) (by decide) (by decide)).down 0 (by omega) (by omega))
theorem rd_0 : readP [48] = .ok (.num 0) [] := read_of (by decide) ((Gr.num 20 [48] (by simp) (by decide) (by decide) (by decide)).down 0 (by omega) (by omega))
theorem rd_n : readP [110] = .ok .vn [] := read_of (by decide) ((Gr.vn 20).down 0 (by omega) (by omega))
theorem val_1 (n s : Int) : valP tx1 n s = 1 := by unfold valP; rw [show tx1.data.toList = [49] from rfl, rd_1]; rfl
theorem val_0 (n s : Int) : valP tx0 n s = 0 := by unfold valP; rw [show tx0.data.toList = [48] from rfl, rd_0]; rfl
theorem val_n (n s : Int) : valP txn n s = n := by unfold valP; rw [show txn.data.toList = [110] from rfl, rd_n]; rfl
theorem txp_1 : txP tx1.data.toList = 0 := by unfold txP; rw [show tx1.data.toList = [49] from rfl, rd_1]
theorem txp_0 : txP tx0.data.toList = 0 := by unfold txP; rw [show tx0.data.toList = [48] from rfl, rd_0]
theorem txp_n : txP txn.data.toList = 0 := by unfold txP; rw [show txn.data.toList = [110] from rfl, rd_n]

def jPlain (tx : ByteArray) : List Nd := [⟨1, [], emp, 2⟩, ⟨2, [0], tx, 0⟩, ⟨10, [1], emp, 0⟩]
def jOne : List Nd := [⟨1, [], emp, 2⟩]
def jLong (tx : ByteArray) : List Nd := [⟨1, [], emp, 2⟩, ⟨3, [0], tx1, 0⟩, ⟨2, [1], txn, 0⟩, ⟨5, [2], emp, 1⟩, ⟨2, [3], tx, 0⟩, ⟨10, [4], emp, 0⟩, ⟨3, [4], tx0, 0⟩, ⟨10, [6], emp, 0⟩]

theorem own_src : ownP ⟨1, [], emp, 2⟩ = 0 := by unfold ownP; simp [hasNP, hasTP, bdLo, bdHi, emp]; rfl
theorem own_sink (f : Int) : ownP ⟨10, [f], emp, 0⟩ = 0 := by unfold ownP; simp [hasNP, hasTP, bdLo, bdHi, emp]; rfl
theorem own_map (f : Int) (tx : ByteArray) : ownP ⟨2, [f], tx, 0⟩ = txP tx.data.toList := by unfold ownP; simp [hasTP, bdLo, bdHi]
theorem own_flt (f : Int) (tx : ByteArray) : ownP ⟨3, [f], tx, 0⟩ = txP tx.data.toList := by unfold ownP; simp [hasTP, bdLo, bdHi]
theorem own_copy (f : Int) : ownP ⟨5, [f], emp, 1⟩ = 0 := by unfold ownP; simp [hasNP, hasTP, bdLo, bdHi, emp]; rfl
theorem job_one : jobP jOne = 6 := by
  unfold jobP jOne allP nodeP
  simp [inLo, inHi, fromP, own_src, allP, endsP]
theorem job_plain (tx : ByteArray) : jobP (jPlain tx) = txP tx.data.toList := by
  unfold jobP jPlain
  simp [allP, nodeP, inLo, inHi, fromP, fromOne, kindAt, own_src, own_map, own_sink, endsP]
  by_cases h : txP tx.data.toList = 0 <;> simp [h]
theorem job_long (tx : ByteArray) : jobP (jLong tx) = txP tx.data.toList := by
  unfold jobP jLong
  simp [allP, nodeP, inLo, inHi, fromP, fromOne, kindAt, own_src, own_map, own_sink, own_flt, own_copy, txp_1, txp_n, txp_0, endsP]
  by_cases h : txP tx.data.toList = 0 <;> simp [h]

theorem flowS {nd : Nd} {l : List Nd} {D hs : List (List Rc)} {o : List Rc} (h : handP nd (gotP nd D hs) = some o) : flowP (nd :: l) D hs = flowP l (restP nd D) (hs ++ [o]) := by rw [flowP, h]
theorem rest_oth {nd : Nd} {D : List (List Rc)} (h : nd.k ≠ 1) : restP nd D = D := by unfold restP; rw [if_neg h]
theorem hand_id {nd : Nd} (h : hasStP nd.k = false) {l : List Rc} (hf : ∀ r ∈ l, gP nd r 0 = [r]) (hl : l.length ≤ 2000) : handP nd [l] = some l := by
  have := hand_map (f := id) h hf hl
  simpa using this
theorem flow_plain (tx : ByteArray) {d : List Rc} (hd : ∀ r ∈ d, RcOk r) (hl : d.length ≤ 2000) : flowP (jPlain tx) [d] [] = some [d, d.map (mapR tx), d.map (mapR tx)] := by
  have hm : ∀ r ∈ d.map (mapR tx), r.key.size ≤ 40 := fun r hr => by obtain ⟨x, hx, rfl⟩ := List.mem_map.1 hr; exact (hd x hx).key
  unfold jPlain
  rw [flowS (o := d) (by rw [got_src rfl]; exact hand_id rfl (fun r hr => g_same (.inl rfl) _ _ _ (hd r hr).key) hl)]
  rw [flowS (o := d.map (mapR tx)) (by rw [got_oth (show (2 : Int) ≠ 1 by decide)]; exact hand_map rfl (fun r hr => g_map _ _ _ (hd r hr).key) hl)]
  rw [flowS (o := d.map (mapR tx)) (by rw [got_oth (by decide)]; exact hand_id rfl (fun r hr => g_same (.inr rfl) _ _ _ (hm r hr)) (by simpa using hl))]
  rfl
theorem mapn (d : List Rc) : d.map (mapR txn) = d := by
  rw [show mapR txn = id from funext fun r => by cases r; simp [mapR, val_n]]
  simp
theorem flow_long (tx : ByteArray) {d : List Rc} (hd : ∀ r ∈ d, RcOk r) (hl : d.length ≤ 2000) : flowP (jLong tx) [d] [] = some [d, d, d, d, d.map (mapR tx), d.map (mapR tx), [], []] := by
  have hm : ∀ r ∈ d.map (mapR tx), r.key.size ≤ 40 := fun r hr => by obtain ⟨x, hx, rfl⟩ := List.mem_map.1 hr; exact (hd x hx).key
  unfold jLong
  rw [flowS (o := d) (by rw [got_src rfl]; exact hand_id rfl (fun r hr => g_same (.inl rfl) _ _ _ (hd r hr).key) hl)]
  rw [flowS (o := d) (by rw [got_oth (by decide)]; exact hand_id rfl (fun r hr => g_yes _ _ (hd r hr).key (by rw [val_1]; decide)) hl)]
  rw [flowS (o := d) (by rw [got_oth (by decide)]; have := hand_map (nd := ⟨2, [1], txn, 0⟩) rfl (fun r hr => g_map [1] txn 0 (hd r hr).key) hl; rw [mapn] at this; exact this)]
  rw [flowS (o := d) (by rw [got_oth (by decide)]; exact hand_id rfl (fun r hr => g_copy1 _ _ (hd r hr).key) hl)]
  rw [flowS (o := d.map (mapR tx)) (by rw [got_oth (show (2 : Int) ≠ 1 by decide)]; exact hand_map rfl (fun r hr => g_map _ _ _ (hd r hr).key) hl)]
  rw [flowS (o := d.map (mapR tx)) (by rw [got_oth (by decide)]; exact hand_id rfl (fun r hr => g_same (.inr rfl) _ _ _ (hm r hr)) (by simpa using hl))]
  rw [flowS (o := []) (by rw [got_oth (by decide)]; exact hand_nil rfl (fun r hr => g_no _ _ (by rw [val_0])))]
  rw [flowS (o := []) (by rw [got_oth (by decide)]; exact hand_nil rfl (fun r hr => by simp at hr))]
  rfl
theorem lines_nil : linesP [] = [] := by simp [linesP, keysP, firstsP]
/-- What DenFilters leans on. -/
theorem filters_pure (tx : ByteArray) (d : List Rc) (hn : ∀ r ∈ d, Rng r.num) : denE (jPlain tx) [d] = denE (jLong tx) [d] ∧ (denE (jPlain tx) [d] = 0 → denV (jPlain tx) [d] = [linesP (d.map (mapR tx))] ∧ denV (jLong tx) [d] = [linesP (d.map (mapR tx)), []]) := by
  have s1 : srcs (jPlain tx) = 1 := rfl
  have s2 : srcs (jLong tx) = 1 := rfl
  by_cases h0 : txP tx.data.toList = 0
  · by_cases h1 : checkP [d] 1 = 0
    · have hdp : dataP [d] = 0 := by
        unfold checkP at h1
        simpa using h1
      obtain ⟨ok, le⟩ := data_ok hdp (fun l hl => by rw [List.mem_singleton.1 hl]; exact hn)
      have f1 := flow_plain tx (ok d (by simp)) (Nat.le_trans (le d (by simp)) (by omega))
      have f2 := flow_long tx (ok d (by simp)) (Nat.le_trans (le d (by simp)) (by omega))
      unfold denE denV
      rw [job_plain, job_long, s1, s2, f1, f2]
      simp only [h0, h1, ne_eq, not_true_eq_false, if_false, true_and, forall_const]
      exact ⟨rfl, by simp [jLong, sinksP, lines_nil]⟩
    · unfold denE denV
      rw [job_plain, job_long, s1, s2]
      simp [h0, h1]
  · unfold denE
    rw [job_plain, job_long]
    simp [h0]
theorem one_pure : denE jOne [] = 6 ∧ denV jOne [] = [] := by
  unfold denE denV
  rw [job_one]
  simp
end Go.Proofs.YtppkjiihmlphbaaGreatDoor

