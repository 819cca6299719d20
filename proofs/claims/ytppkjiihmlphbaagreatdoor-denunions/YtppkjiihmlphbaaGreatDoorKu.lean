import Derived.Test.YtppkjiihmlphbaaGreatDoorPureQ
import Derived.Test.YtppkjiihmlphbaaGreatDoorKm
import Derived.Test.YtppkjiihmlphbaaGreatDoorRp
import Derived.Test.YtppkjiihmlphbaaGreatDoorRows
import Derived.ChangeSame
import Derived.ChangeVars
import Derived.JoinedOf
import Derived.RowKit
import Derived.RowKitTokens
import Derived.LaidLaws
import Derived.LaidHandle
import Derived.Stop.Joined
import Derived.Stop.LaidErr
/- Two Sources put together. -/
namespace Go.Proofs.YtppkjiihmlphbaaGreatDoor

def h0 : ByteArray := ⟨#[48, 58]⟩
def h1 : ByteArray := ⟨#[49, 58]⟩
theorem ito0 : itoB 0 ++ (⟨#[58]⟩ : ByteArray) = h0 := by decide +kernel
theorem ito1 : itoB 1 ++ (⟨#[58]⟩ : ByteArray) = h1 := by decide +kernel
theorem ba_inj {h a b : ByteArray} (e : h ++ a = h ++ b) : a = b := by
  have := congrArg (fun x => x.data.toList) e
  simp only [ByteArray.data_append, Array.toList_append] at this
  have := List.append_cancel_left this
  cases a; cases b; simp_all
theorem ba_01 (a b : ByteArray) : h0 ++ a ≠ h1 ++ b := by
  intro e
  have := congrArg (fun x => x.data.toList) e
  simp [ByteArray.data_append, h0, h1] at this
theorem h0_size (a : ByteArray) : (h0 ++ a).size = 2 + a.size := by rw [ByteArray.size_append]; rfl
theorem h1_size (a : ByteArray) : (h1 ++ a).size = 2 + a.size := by rw [ByteArray.size_append]; rfl

def uR (h : ByteArray) (r : Rc) : Rc := ⟨h ++ r.key, r.num, r.time⟩
def few (h : ByteArray) (l : List Rc) : List Rc := (l.map (uR h)).filter fun r => decide (r.key.size ≤ 40)
def uniP (a b : List Rc) : List Rc := few h0 a ++ few h1 b
def jUn : List Nd := [⟨1, [], emp, 2⟩, ⟨1, [], emp, 1⟩, ⟨6, [0, 1], emp, 0⟩, ⟨10, [2], emp, 0⟩, ⟨10, [0], emp, 0⟩, ⟨10, [1], emp, 0⟩]

theorem g_un {i : Int} {h : ByteArray} (hi : itoB i ++ (⟨#[58]⟩ : ByteArray) = h) (fs : List Int) (r : Rc) : gP ⟨6, fs, emp, 0⟩ r i = if (uR h r).key.size ≤ 40 then [uR h r] else [] := by
  unfold gP turnedP
  simp [hi]
  unfold copP uR
  by_cases hc : 40 < (h ++ r.key).size
  · rw [if_pos (.inl hc), if_neg (by simp only; omega)]
  · rw [if_neg (by simp only; omega), if_pos (by simp only; omega)]; rfl
theorem flat_un {i : Int} {h : ByteArray} (hi : itoB i ++ (⟨#[58]⟩ : ByteArray) = h) (fs : List Int) (l : List Rc) : (l.map fun x => (x, i)).flatMap (fun x => gP ⟨6, fs, emp, 0⟩ x.1 x.2) = few h l := by
  unfold few
  induction l with
  | nil => rfl
  | cons x r ih =>
    simp only [List.map_cons, List.flatMap_cons]
    rw [ih, g_un hi, List.filter_cons]
    by_cases hs : (uR h x).key.size ≤ 40 <;> simp [hs]
theorem few_len (h : ByteArray) (l : List Rc) : (few h l).length ≤ l.length := by
  unfold few; exact Nat.le_trans (List.length_filter_le _ _) (by simp)
theorem hand_un {a b : List Rc} (ha : a.length ≤ 300) (hb : b.length ≤ 300) : handP ⟨6, [0, 1], emp, 0⟩ [a, b] = some (uniP a b) := by
  have e : (tagP 0 [a, b]).flatMap (fun x => gP ⟨6, [0, 1], emp, 0⟩ x.1 x.2) = uniP a b := by
    simp only [tagP, List.append_nil, List.flatMap_append]
    rw [show ((0 : Nat) : Int) = 0 from rfl, show ((0 + 1 : Nat) : Int) = 1 from rfl, flat_un ito0, flat_un ito1]; rfl
  rw [hand_plain rfl, e, if_neg]
  have := few_len h0 a; have := few_len h1 b
  simp [uniP]; omega
theorem few_ok {h : ByteArray} {l : List Rc} : ∀ r ∈ few h l, r.key.size ≤ 40 := fun r hr => by
  have := (List.mem_filter.1 hr).2
  simpa using this
theorem job_un : jobP jUn = 0 := by decide +kernel
theorem flow_un {a b : List Rc} (ha : ∀ r ∈ a, RcOk r) (hb : ∀ r ∈ b, RcOk r) (la : a.length ≤ 300) (lb : b.length ≤ 300) : flowP jUn [a, b] [] = some [a, b, uniP a b, uniP a b, a, b] := by
  have lu : (uniP a b).length ≤ 2000 := by
    have := few_len h0 a; have := few_len h1 b
    simp [uniP]; omega
  have ku : ∀ r ∈ uniP a b, r.key.size ≤ 40 := fun r hr => by
    rcases List.mem_append.1 hr with h | h <;> exact few_ok r h
  unfold jUn
  rw [flowS (o := a) (by rw [got_src rfl]; exact hand_id rfl (fun r hr => g_same (.inl rfl) _ _ _ (ha r hr).key) (by omega))]
  rw [flowS (o := b) (by rw [got_src rfl]; exact hand_id rfl (fun r hr => g_same (.inl rfl) _ _ _ (hb r hr).key) (by omega))]
  rw [flowS (o := uniP a b) (by rw [got_oth (show (6 : Int) ≠ 1 by decide)]; exact hand_un la lb)]
  rw [flowS (o := uniP a b) (by rw [got_oth (by decide)]; exact hand_id rfl (fun r hr => g_same (.inr rfl) _ _ _ (ku r hr)) lu)]
  rw [flowS (o := a) (by rw [got_oth (by decide)]; exact hand_id rfl (fun r hr => g_same (.inr rfl) _ _ _ (ha r hr).key) (show a.length ≤ 2000 by omega))]
  rw [flowS (o := b) (by rw [got_oth (by decide)]; exact hand_id rfl (fun r hr => g_same (.inr rfl) _ _ _ (hb r hr).key) (show b.length ≤ 2000 by omega))]
  rfl
theorem unions_pure (a b : List Rc) (ha : ∀ r ∈ a, Rng r.num) (hb : ∀ r ∈ b, Rng r.num) (h : denE jUn [a, b] = 0) : denV jUn [a, b] = [linesP (uniP a b), linesP a, linesP b] := by
  have s : srcs jUn = 2 := rfl
  by_cases h1 : checkP [a, b] 2 = 0
  · have hdp : dataP [a, b] = 0 := by
      unfold checkP at h1
      simpa using h1
    obtain ⟨ok, le⟩ := data_ok hdp (fun l hl => by rcases List.mem_cons.1 hl with rfl | hl; exact ha; rw [List.mem_singleton.1 hl]; exact hb)
    have f := flow_un (ok a (by simp)) (ok b (by simp)) (le a (by simp)) (le b (by simp))
    unfold denV
    rw [f, job_un, s, h1]
    rfl
  · unfold denE at h
    rw [job_un, s] at h
    simp [h1] at h
/-- Two records alone. -/
def ka : ByteArray := ⟨#[97]⟩
def k0a : ByteArray := ⟨#[48, 58, 97]⟩
theorem un_fact : denE jUn [[⟨ka, 2, 0⟩], []] = 0 ∧ denV jUn [[⟨ka, 2, 0⟩], []] = [[(k0a, [2])], [(ka, [2])], []] := by
  have f := flow_un (a := [⟨ka, 2, 0⟩]) (b := []) (fun r hr => by rw [List.mem_singleton.1 hr]; exact ⟨by decide, by unfold Rng; decide, by unfold Rng; decide⟩) (by simp) (by decide) (by decide)
  have s : srcs jUn = 2 := rfl
  have hE : denE jUn [[⟨ka, 2, 0⟩], []] = 0 := by
    unfold denE
    rw [job_un, s, f]
    simp only [show checkP [[⟨ka, 2, 0⟩], []] 2 = 0 by decide]
    rfl
  refine ⟨hE, ?_⟩
  rw [unions_pure _ _ (fun r hr => by rw [List.mem_singleton.1 hr]; unfold Rng; decide) (by simp) hE]
  have e : uniP [⟨ka, 2, 0⟩] [] = [⟨k0a, 2, 0⟩] := by
    have e1 : h0 ++ ka = k0a := by decide +kernel
    simp only [uniP, few, uR, List.map_cons, List.map_nil, List.filter_cons, List.filter_nil, e1]
    rfl
  rw [e, lines_nil]
  simp [linesP, keysP, firstsP, numsP]

open Classical in
theorem firsts_snoc' (l : List Rc) (r : Rc) : firstsP (l ++ [r]) = if r.key ∈ firstsP l then firstsP l else firstsP l ++ [r.key] := by
  have e : firstsP (l ++ [r]) = if ((firstsP l).any fun k => decide (k = r.key)) then firstsP l else firstsP l ++ [r.key] := by
    unfold firstsP
    rw [List.foldl_append]
    simp only [List.foldl_cons, List.foldl_nil]
  rw [e]
  by_cases h : r.key ∈ firstsP l
  · rw [if_pos h, if_pos]
    simp only [List.any_eq_true, decide_eq_true_eq]; exact ⟨_, h, rfl⟩
  · rw [if_neg h, if_neg]
    simp only [List.any_eq_true, decide_eq_true_eq]
    rintro ⟨k, hk, rfl⟩; exact h hk
theorem snoc_ind {α : Type} {P : List α → Prop} (h0 : P []) (hs : ∀ l x, P l → P (l ++ [x])) : ∀ l, P l := by
  intro l
  have : ∀ R : List α, P R.reverse := by
    intro R
    induction R with
    | nil => exact h0
    | cons x R ih => rw [List.reverse_cons]; exact hs _ _ ih
  have := this l.reverse
  rwa [List.reverse_reverse] at this
def ksOf (h : ByteArray) (l : List Rc) : List ByteArray := ((firstsP l).filter fun k => decide (2 + k.size ≤ 40)).map (h ++ ·)
open Classical in
theorem firsts_few {h : ByteArray} (hz : ∀ a : ByteArray, (h ++ a).size = 2 + a.size) (X : List Rc) (hX : ∀ k, h ++ k ∉ firstsP X) (l : List Rc) : firstsP (X ++ few h l) = firstsP X ++ ksOf h l := by
  induction l using snoc_ind with
  | h0 => simp [few, ksOf, firstsP]
  | hs l r ih =>
    have e : few h (l ++ [r]) = few h l ++ (if 2 + r.key.size ≤ 40 then [uR h r] else []) := by
      unfold few
      rw [List.map_append, List.filter_append, List.map_singleton, List.filter_cons]
      have : (uR h r).key.size = 2 + r.key.size := hz _
      by_cases hc : 2 + r.key.size ≤ 40 <;> simp [this, hc]
    rw [e]
    by_cases hc : 2 + r.key.size ≤ 40
    · rw [if_pos hc, ← List.append_assoc, firsts_snoc', ih]
      have hm : (uR h r).key ∈ firstsP X ++ ksOf h l ↔ r.key ∈ firstsP l := by
        constructor
        · intro hh
          rcases List.mem_append.1 hh with h' | h'
          · exact absurd h' (hX _)
          · obtain ⟨k, hk, he⟩ := List.mem_map.1 h'
            rw [ba_inj he] at hk
            exact (List.mem_filter.1 hk).1
        · intro hh
          exact List.mem_append.2 (.inr (List.mem_map.2 ⟨r.key, List.mem_filter.2 ⟨hh, by simpa using hc⟩, rfl⟩))
      by_cases hk : r.key ∈ firstsP l
      · rw [if_pos (hm.2 hk)]
        unfold ksOf; rw [firsts_snoc', if_pos hk]
      · rw [if_neg (fun c => hk (hm.1 c)), List.append_assoc]
        congr 1
        unfold ksOf; rw [firsts_snoc', if_neg hk, List.filter_append, List.map_append, List.filter_cons]
        simp [hc, uR]
    · rw [if_neg hc, List.append_nil, ih]
      congr 1
      unfold ksOf; rw [firsts_snoc']
      by_cases hk : r.key ∈ firstsP l
      · rw [if_pos hk]
      · rw [if_neg hk, List.filter_append, List.filter_cons]; simp [hc]
/-- How many of a list's keys are short. -/
def cntP (L : List Ln) : Nat := (L.filter fun x => decide (2 + x.1.size ≤ 40)).length
theorem cnt_lines (l : List Rc) : cntP (linesP l) = ((firstsP l).filter fun k => decide (2 + k.size ≤ 40)).length := by
  unfold cntP linesP keysP
  rw [List.filter_map, List.length_map]
  exact ((List.mergeSort_perm _ _).filter _).length_eq
theorem uni_len (a b : List Rc) : (linesP (uniP a b)).length = cntP (linesP a) + cntP (linesP b) := by
  have e1 := firsts_few h0_size [] (fun k => by simp [firstsP]) a
  rw [List.nil_append, show firstsP [] = [] from rfl, List.nil_append] at e1
  have e2 := firsts_few h1_size (few h0 a) (fun k hk => by
    rw [e1] at hk
    obtain ⟨x, _, he⟩ := List.mem_map.1 hk
    exact ba_01 _ _ he) b
  rw [lines_len, cnt_lines, cnt_lines, uniP, e2, e1]
  simp [ksOf]
/-- A key's numbers among lines. -/
def lookP (k : ByteArray) : List Ln → List Int
  | [] => []
  | x :: r => if x.1 = k then x.2 else lookP k r
open Classical in
theorem look_map (l : List Rc) (k : ByteArray) : ∀ K : List ByteArray, lookP k (K.map fun q => (q, numsP l q)) = if k ∈ K then numsP l k else []
  | [] => by simp [lookP]
  | q :: K => by
    simp only [List.map_cons, lookP]
    rw [look_map l k K]
    by_cases h : q = k
    · subst h; simp
    · have : ¬ k = q := fun c => h c.symm
      simp [h, this]
theorem look_lines (l : List Rc) (k : ByteArray) : lookP k (linesP l) = numsP l k := by
  unfold linesP
  rw [look_map]
  by_cases h : k ∈ keysP l
  · rw [if_pos h]
  · rw [if_neg h]
    symm
    unfold numsP
    rw [List.map_eq_nil_iff, List.filter_eq_nil_iff]
    intro r hr he
    exact h ((List.mergeSort_perm _ _).mem_iff.2 (firsts_mem.2 ⟨r, hr, by simpa using he⟩))
theorem nums_few {h : ByteArray} (hz : ∀ a : ByteArray, (h ++ a).size = 2 + a.size) (l : List Rc) {k : ByteArray} (hk : 2 + k.size ≤ 40) : numsP (few h l) (h ++ k) = numsP l k := by
  unfold numsP few
  induction l with
  | nil => rfl
  | cons x r ih =>
    simp only [List.map_cons, List.filter_cons]
    have hs : (uR h x).key.size = 2 + x.key.size := hz _
    by_cases hx : x.key = k
    · have h1 : (uR h x).key = h ++ k := by rw [← hx]; rfl
      have h2 : (uR h x).key.size ≤ 40 := by rw [hs, hx]; exact hk
      rw [if_pos (by simpa using h2), if_pos (by simpa using hx), List.filter_cons, if_pos (by simpa using h1), List.map_cons, List.map_cons, ih]; rfl
    · have h1 : (uR h x).key ≠ h ++ k := fun c => hx (ba_inj c)
      by_cases h2 : (uR h x).key.size ≤ 40
      · rw [if_pos (by simpa using h2), if_neg (by simpa using hx), List.filter_cons, if_neg (by simpa using h1)]
        exact ih
      · rw [if_neg (by simpa using h2), if_neg (by simpa using hx)]
        exact ih
theorem nums_out {h : ByteArray} {q : ByteArray} (hq : ∀ a : ByteArray, h ++ a ≠ q) (l : List Rc) : numsP (few h l) q = [] := by
  unfold numsP
  rw [List.map_eq_nil_iff, List.filter_eq_nil_iff]
  intro r hr he
  obtain ⟨x, _, rfl⟩ := List.mem_map.1 (List.mem_filter.1 hr).1
  exact hq _ (of_decide_eq_true he)
theorem nums_app (x y : List Rc) (k : ByteArray) : numsP (x ++ y) k = numsP x k ++ numsP y k := by simp [numsP]
theorem uni_0 (a b : List Rc) {k : ByteArray} (hk : 2 + k.size ≤ 40) : lookP (h0 ++ k) (linesP (uniP a b)) = numsP a k := by
  rw [look_lines, uniP, nums_app, nums_few h0_size a hk, nums_out (fun x => (ba_01 k x).symm) b, List.append_nil]
theorem uni_1 (a b : List Rc) {k : ByteArray} (hk : 2 + k.size ≤ 40) : lookP (h1 ++ k) (linesP (uniP a b)) = numsP b k := by
  rw [look_lines, uniP, nums_app, nums_few h1_size b hk, nums_out (fun x => ba_01 x k) a, List.nil_append]
theorem lines_get (l : List Rc) {i : Nat} (hi : i < (linesP l).length) : (linesP l)[i].2 = numsP l (linesP l)[i].1 := by
  simp [linesP]
end Go.Proofs.YtppkjiihmlphbaaGreatDoor

/- weirlaw6.nums. -/
namespace Go.Proofs.YtppkjiihmlphbaaGreatDoor
open Go.RowKit
set_option linter.unusedVariables false

theorem look_pos (k : ByteArray) : ∀ L : List Ln, ∃ p, p ≤ L.length ∧ (∀ i (h : i < L.length), i < p → L[i].1 ≠ k) ∧ (∀ h : p < L.length, L[p].1 = k ∧ lookP k L = L[p].2) ∧ (p = L.length → lookP k L = [])
  | [] => ⟨0, by simp, by simp, by simp, fun _ => rfl⟩
  | x :: r => by
    by_cases h : x.1 = k
    · exact ⟨0, by simp, fun i _ hi => by omega, fun _ => ⟨h, by simp [lookP, h]⟩, fun c => by simp at c⟩
    · obtain ⟨p, h1, h2, h3, h4⟩ := look_pos k r
      refine ⟨p + 1, by simp; omega, fun i hi hp => ?_, fun hp => ?_, fun c => ?_⟩
      · rcases i with _ | i
        · exact h
        · exact h2 i (by simpa using hi) (by omega)
      · have := h3 (by simpa using hp)
        simp [lookP, h]; exact this
      · simp [lookP, h]; exact h4 (by simpa using c)

theorem str_ne {a b : ByteArray} (h : a ≠ b) : (a.toList == b.toList) = false := by
  simp only [beq_eq_false_iff_ne, ne_eq]
  intro c
  rw [ByteArray.toList_eq, ByteArray.toList_eq] at c
  exact h (WideShapes.bytes_inj c)

theorem nums_hit {w : World} {b o : Nat} {L : List Ln} (hL : ∀ (i : Nat) (h : i < L.length), LnAt w b (o + i * 2) L[i]) (ca : Nat) (hl : L.length ≤ 9223372036854775807) {k : ByteArray} {p : Nat} (hp : p < L.length) (h2 : ∀ i (h : i < L.length), i < p → L[i].1 ≠ k) {fa : Option Addr} {z fc : Nat} (p0 : w.cell? ⟨b, o + p * 2, none⟩ = some (.string k)) (p1 : w.cell? ⟨b, o + p * 2 + 1, none⟩ = some (.slice fa z fc)) :
    Calls Tryz.prog 14 #[.slice (some ⟨b, o, none⟩) L.length ca, .string k] w fun e w' => e = .returned (.slice fa z fc) ∧ ∃ n, w' = w.drewN n := by
  have H2 := Lib.hid h2
  clear h2
  go_enter Tryz.func14, Tryz.ntmps14
  go_wp2_with fail
  go_loopw [5] (fun i wr => ∃ j : Nat, j ≤ p ∧ i = .int .i64 j ∧ wr = w) (fun i _ => L.length - (intOf i).toNat)
  case atStart => exact ⟨0, by omega, rfl, rfl⟩
  case round =>
    obtain ⟨j, hj, rfl, rfl⟩ := hrel
    have hi : (j : Int) < L.length := by omega
    by_cases hlt : j < p
    · obtain ⟨c0, _, c5⟩ := hL j (by omega)
      have hne := str_ne (H2.out j (by omega) hlt)
      generalize L[j].1 = x1 at *
      go_wp2
      exact ⟨⟨j + 1, by omega, by go_num, trivial⟩, by simp [intOf]; omega⟩
    · have : j = p := by omega
      subst this
      go_wp2
      go_ret
      exact ⟨rfl, 0, rfl⟩
theorem nums_none {w : World} {la : Option Addr} {L : List Ln} (hL : LnsAt w la L) (ca : Nat) (hl : L.length ≤ 9223372036854775807) {k : ByteArray} (h2 : ∀ i (h : i < L.length), L[i].1 ≠ k) :
    Calls Tryz.prog 14 #[.slice la L.length ca, .string k] w fun e w' => e = .returned (.slice none 0 0) ∧ ∃ n, w' = w.drewN n := by
  have H2 := Lib.hid h2
  clear h2
  go_enter Tryz.func14, Tryz.ntmps14
  go_wp2_with fail
  go_loopw [5] (fun i wr => ∃ j : Nat, j ≤ L.length ∧ i = .int .i64 j ∧ wr = w) (fun i _ => L.length - (intOf i).toNat)
  case atStart => exact ⟨0, by omega, rfl, rfl⟩
  case round =>
    obtain ⟨j, hj, rfl, rfl⟩ := hrel
    by_cases hlt : j < L.length
    · have hi : (j : Int) < L.length := by omega
      rcases hL with hL | ⟨b, o, rfl, hL⟩
      · subst hL; simp at hlt
      obtain ⟨c0, _, c5⟩ := hL j (by omega)
      have hne := str_ne (H2.out j (by omega))
      generalize L[j].1 = x1 at *
      go_wp2
      exact ⟨⟨j + 1, by omega, by go_num, trivial⟩, by simp [intOf]; omega⟩
    · have hi : ¬ (j : Int) < L.length := by omega
      go_wp2
      go_ret
      exact ⟨rfl, 0, rfl⟩
/-- The numbers of a key. -/
theorem nums_any {w : World} {la : Option Addr} {L : List Ln} (hL : LnsAt w la L) (ca : Nat) (hl : L.length ≤ 9223372036854775807) (k : ByteArray) :
    ∃ fa fc, IntsAt w fa (lookP k L) ∧ (lookP k L).length ≤ fc ∧ fc ≤ 9223372036854775807 ∧
      ∀ m, Calls Tryz.prog 14 #[.slice la L.length ca, .string k] (w.drewN m) fun e w' => e = .returned (.slice fa (lookP k L).length fc) ∧ ∃ n, w' = (w.drewN m).drewN n := by
  obtain ⟨p, h1, h2, h3, h4⟩ := look_pos k L
  by_cases hp : p < L.length
  · rcases hL with hL | ⟨b, o, rfl, hL⟩
    · subst hL; simp at hp
    obtain ⟨e1, e2⟩ := h3 hp
    obtain ⟨p0, ⟨fa, fc, p1, p2, p3, p4⟩, p5⟩ := hL p hp
    rw [e1] at p0
    rw [← e2] at p1 p2 p3
    exact ⟨fa, fc, p2, p3, p4, fun m => nums_hit (w := w.drewN m) (fun i hi => (hL i hi).keep (fun _ _ h => h)) ca hl hp h2 p0 p1⟩
  · rw [h4 (by omega)]
    exact ⟨none, 0, .inl rfl, by simp, by omega, fun m => nums_none (w := w.drewN m) (hL.keep (fun _ _ h => h)) ca hl (fun i hi => h2 i hi (by omega))⟩
end Go.Proofs.YtppkjiihmlphbaaGreatDoor

/- From the rows' condition on the listed variables to the cells that the walks read; a world that meets it. -/
namespace Go.Proofs.YtppkjiihmlphbaaGreatDoor
open Go.ChangeShapes Go.WideShapes Go.RowKit

def laidL : List (String × DataW Unit) := [("math/bits.deBruijn32tab", Rows.laid_math_bits_deBruijn32tab), ("math/bits.deBruijn64tab", Rows.laid_math_bits_deBruijn64tab), ("internal/strconv.uint64pow10", Rows.laid_internal_strconv_uint64pow10), ("strconv.ErrRange", Rows.laid_strconv_ErrRange), ("strconv.ErrSyntax", Rows.laid_strconv_ErrSyntax)]
theorem Tryz.own : ownKnob Tryz.prog.godebug = none := by kernel_rfl
theorem Tryz.cellsES : Tryz.prog.cellsOf 184 = 1 := by kernel_rfl
theorem Tryz.cells9 : Tryz.prog.cellsOf 9 = 1 := by kernel_rfl
theorem Tryz.star : "*" ++ "errors.errorString" = "*errors.errorString" := by decide
theorem Tryz.rowES (u : TypeId) (h : Tryz.prog.typeName? 3 u = some "*errors.errorString") : u = 182 :=
  typeName_ptr_named (nm := "errors.errorString") (by rw [Tryz.star]; kernel_rfl) (by kernel_rfl) (by decide) u (by rw [Tryz.star]; exact h)
theorem Tryz.gES : Tryz.prog.globalNamed "strconv.ErrSyntax" = some 4 := by kernel_rfl
theorem Tryz.gESType : (Tryz.prog.globals[4]?).map (·.type) = some 29 := by kernel_rfl
theorem Tryz.gER : Tryz.prog.globalNamed "strconv.ErrRange" = some 5 := by kernel_rfl
theorem Tryz.gERType : (Tryz.prog.globals[5]?).map (·.type) = some 29 := by kernel_rfl

theorem lt_of_cell {w : World} {p : Addr} {v : Value} (h : w.cell? p = some v) : p.block < w.heap.size := by
  rcases Nat.lt_or_ge p.block w.heap.size with h' | h'
  · exact h'
  · unfold World.cell? at h; rw [Array.getElem?_eq_none h'] at h; cases h

/-- What the condition gives a walk: the two errors' cells. -/
theorem gl_of_laid {W : World} (h : laidMet Tryz.prog laidL W) : Gl W := by
  have h' := h
  obtain ⟨a0, s0, hv0, -, -, -⟩ := laid_sentinel (h'.tail.tail.tail.tail) Tryz.gES Tryz.gESType Tryz.underlying29 Tryz.rowES Tryz.underlying182 Tryz.underlying184 rfl rfl Tryz.underlying9 Tryz.cellsES Tryz.cells9
  obtain ⟨a1, s1, hv1, -, -, -⟩ := laid_sentinel (h'.tail.tail.tail) Tryz.gER Tryz.gERType Tryz.underlying29 Tryz.rowES Tryz.underlying182 Tryz.underlying184 rfl rfl Tryz.underlying9 Tryz.cellsES Tryz.cells9
  have c0 : W.cell? ⟨4, 0, none⟩ = some (.iface 182 (.pointer (some a0))) := by
    have h0 := World.var?_cell Tryz.gES hv0 0; simpa using h0
  have c1 : W.cell? ⟨5, 0, none⟩ = some (.iface 182 (.pointer (some a1))) := by
    have h0 := World.var?_cell Tryz.gER hv1 0; simpa using h0
  have l0 := lt_of_cell c0
  have l1 := lt_of_cell c1
  exact ⟨by simp at l0 l1; omega, ⟨_, c0, .inr ⟨_, _, rfl⟩⟩, ⟨_, c1, .inr ⟨_, _, rfl⟩⟩⟩
def lay2 : Obj → Obj
  | .cells _ t frozen => .cells #[.int .u8 0, .int .u8 1, .int .u8 28, .int .u8 2, .int .u8 29, .int .u8 14, .int .u8 24, .int .u8 3, .int .u8 30, .int .u8 22, .int .u8 20, .int .u8 15, .int .u8 25, .int .u8 17, .int .u8 4, .int .u8 8, .int .u8 31, .int .u8 27, .int .u8 13, .int .u8 23, .int .u8 21, .int .u8 19, .int .u8 16, .int .u8 7, .int .u8 26, .int .u8 12, .int .u8 18, .int .u8 6, .int .u8 11, .int .u8 5, .int .u8 10, .int .u8 9] t frozen
  | o => o
def lay3 : Obj → Obj
  | .cells _ t frozen => .cells #[.int .u8 0, .int .u8 1, .int .u8 56, .int .u8 2, .int .u8 57, .int .u8 49, .int .u8 28, .int .u8 3, .int .u8 61, .int .u8 58, .int .u8 42, .int .u8 50, .int .u8 38, .int .u8 29, .int .u8 17, .int .u8 4, .int .u8 62, .int .u8 47, .int .u8 59, .int .u8 36, .int .u8 45, .int .u8 43, .int .u8 51, .int .u8 22, .int .u8 53, .int .u8 39, .int .u8 33, .int .u8 30, .int .u8 24, .int .u8 18, .int .u8 12, .int .u8 5, .int .u8 63, .int .u8 55, .int .u8 48, .int .u8 27, .int .u8 60, .int .u8 41, .int .u8 37, .int .u8 16, .int .u8 46, .int .u8 35, .int .u8 44, .int .u8 21, .int .u8 52, .int .u8 32, .int .u8 23, .int .u8 11, .int .u8 54, .int .u8 26, .int .u8 40, .int .u8 15, .int .u8 34, .int .u8 20, .int .u8 31, .int .u8 10, .int .u8 25, .int .u8 14, .int .u8 19, .int .u8 9, .int .u8 13, .int .u8 8, .int .u8 7, .int .u8 6] t frozen
  | o => o
def lay1 : Obj → Obj
  | .cells _ t frozen => .cells #[.int .u64 1, .int .u64 10, .int .u64 100, .int .u64 1000, .int .u64 10000, .int .u64 100000, .int .u64 1000000, .int .u64 10000000, .int .u64 100000000, .int .u64 1000000000, .int .u64 10000000000, .int .u64 100000000000, .int .u64 1000000000000, .int .u64 10000000000000, .int .u64 100000000000000, .int .u64 1000000000000000, .int .u64 10000000000000000, .int .u64 100000000000000000, .int .u64 1000000000000000000, .int .u64 10000000000000000000] t frozen
  | o => o
def lay5 (n : Nat) : Obj → Obj
  | .cells _ t frozen => .cells #[.iface 182 (.pointer (some ⟨n + 0, 0, none⟩))] t frozen
  | o => o
def lay4 (n : Nat) : Obj → Obj
  | .cells _ t frozen => .cells #[.iface 182 (.pointer (some ⟨n + 1, 0, none⟩))] t frozen
  | o => o
/-- A world with the listed variables laid; its last blocks are the errors' own. -/
def laidAt (w : World) : World := { w with heap := (((((w.heap).modify 2 (lay2)).modify 3 (lay3)).modify 1 (lay1)).modify 5 (lay5 (w.heap.size - 2))).modify 4 (lay4 (w.heap.size - 2)) }
def ownBlocks : Array Obj := #[.cells #[.string ⟨#[118, 97, 108, 117, 101, 32, 111, 117, 116, 32, 111, 102, 32, 114, 97, 110, 103, 101]⟩] 184, .cells #[.string ⟨#[105, 110, 118, 97, 108, 105, 100, 32, 115, 121, 110, 116, 97, 120]⟩] 184]
theorem laidWorld_met (os : Os) (args : Array Value) : laidMetH Tryz.prog laidL ((laidAt (World.holding Tryz.prog os ⟨ownBlocks, #[], []⟩)).forCall (fun _ _ => 0) ⟨#[], args, []⟩).memory :=
  laidMetH_of_parts (laidMet_of_run' 8 (by kernel_rfl) (by kernel_rfl)) (by kernel_rfl)
end Go.Proofs.YtppkjiihmlphbaaGreatDoor

/- The walk of DenUnions. -/
namespace Go.Proofs.YtppkjiihmlphbaaGreatDoor
open Go.RowKit
set_option linter.unusedVariables false

theorem rss_two (w : World) {la lb : Option Addr} {a b : List Rc} {c d : Nat} (ha : RcsAt w la a) (hb : RcsAt w lb b) (hc : a.length ≤ c) (hd : b.length ≤ d) (t : TypeId) : RssAt (w.alloc (.cells #[.slice la a.length c, .slice lb b.length d] t)) (some ⟨w.heap.size, 0, none⟩) [a, b] := by
  refine .inr ⟨_, 0, rfl, fun i hi => ?_⟩
  rcases i with _ | i
  · exact ⟨la, c, cell_new _ _ _ rfl, ha.keep (Keeps.alloc _ _), hc⟩
  · obtain rfl : i = 0 := by simp at hi; omega
    exact ⟨lb, d, cell_new _ _ _ rfl, hb.keep (Keeps.alloc _ _), hd⟩
theorem rcs_new (w : World) (r : Rc) (t : TypeId) : RcsAt (w.alloc (.cells #[.string r.key, .int .i64 r.num, .int .i64 r.time] t)) (some ⟨w.heap.size, 0, none⟩) [r] :=
  .inr ⟨_, 0, rfl, fun j u hu => by rw [Nat.zero_add]; exact cell_new _ _ _ (by simpa [rcells] using hu)⟩
theorem cnt_take {L : List Ln} {j : Nat} (h : j < L.length) : cntP (L.take (j + 1)) = cntP (L.take j) + if 2 + L[j].1.size ≤ 40 then 1 else 0 := by
  unfold cntP
  rw [List.take_succ_eq_append_getElem h, List.filter_append, List.length_append, List.filter_cons]
  by_cases hc : 2 + L[j].1.size ≤ 40 <;> simp [hc]
theorem cnt_le (L : List Ln) (j : Nat) : cntP (L.take j) ≤ j :=
  Nat.le_trans (List.length_filter_le _ _) (by simp; omega)
theorem un_small {a b : List Rc} (h : denE jUn [a, b] = 0) : a.length ≤ 300 ∧ b.length ≤ 300 := by
  by_cases h1 : checkP [a, b] 2 = 0
  · have hdp : dataP [a, b] = 0 := by
      unfold checkP at h1
      simpa using h1
    simp only [dataP] at hdp
    split at hdp
    · omega
    · split at hdp
      · omega
      · split at hdp <;> omega
  · unfold denE at h
    rw [job_un, show srcs jUn = 2 from rfl] at h
    simp [h1] at h
theorem un_keys {a b : List Rc} (h : denE jUn [a, b] = 0) : (∀ r ∈ a, r.key.size ≤ 40) ∧ (∀ r ∈ b, r.key.size ≤ 40) := by
  have key : ∀ (l : List Rc), l.any badRc = false → ∀ r ∈ l, r.key.size ≤ 40 := fun l hl r hr => by
    have : badRc r = false := by
      cases hb : badRc r with
      | false => rfl
      | true => exact absurd (List.any_eq_true.2 ⟨r, hr, hb⟩) (by rw [hl]; simp)
    simp [badRc] at this
    omega
  by_cases h1 : checkP [a, b] 2 = 0
  · have hdp : dataP [a, b] = 0 := by
      unfold checkP at h1
      simpa using h1
    simp only [dataP] at hdp
    split at hdp
    · omega
    · split at hdp
      · omega
      · rename_i ha
        split at hdp
        · omega
        · split at hdp
          · omega
          · rename_i hb
            exact ⟨key a (by simpa using ha), key b (by simpa using hb)⟩
  · unfold denE at h
    rw [job_un, show srcs jUn = 2 from rfl] at h
    simp [h1] at h
theorem line_key {l : List Rc} (h : ∀ r ∈ l, r.key.size ≤ 40) (i : Nat) (hi : i < (linesP l).length) : (linesP l)[i].1.size ≤ 40 := by
  have e : (linesP l)[i].1 = (keysP l)[i]'(by simpa [linesP] using hi) := by simp [linesP]
  rw [e]
  have hm : (keysP l)[i]'(by simpa [linesP] using hi) ∈ firstsP l := by
    have := List.getElem_mem (l := keysP l) (n := i) (by simpa [linesP] using hi)
    unfold keysP at this ⊢
    exact List.mem_mergeSort.1 this
  obtain ⟨r, hr, he⟩ := firsts_mem.1 hm
  rw [← he]; exact h r hr
theorem cnt_len (L : List Ln) : cntP L ≤ L.length := List.length_filter_le _ _

set_option maxRecDepth 100000 in
theorem lit_un (w : World) : NdsAt (((((w.alloc (.cells #[.int .i64 0, .int .i64 1] 3)).alloc (.cells #[.int .i64 2] 3)).alloc (.cells #[.int .i64 0] 3)).alloc (.cells #[.int .i64 1] 3)).alloc (.cells #[.int .i64 1, .slice none 0 0, .string ⟨#[]⟩, .int .i64 2, .int .i64 1, .slice none 0 0, .string ⟨#[]⟩, .int .i64 1, .int .i64 6, .slice (some ⟨w.heap.size, 0, none⟩) 2 2, .string ⟨#[]⟩, .int .i64 0, .int .i64 10, .slice (some ⟨w.heap.size + 1, 0, none⟩) 1 1, .string ⟨#[]⟩, .int .i64 0, .int .i64 10, .slice (some ⟨w.heap.size + 1 + 1, 0, none⟩) 1 1, .string ⟨#[]⟩, .int .i64 0, .int .i64 10, .slice (some ⟨w.heap.size + 1 + 1 + 1, 0, none⟩) 1 1, .string ⟨#[]⟩, .int .i64 0] 26)) (some ⟨w.heap.size + 1 + 1 + 1 + 1, 0, none⟩) (jUn) ∧ Below w.heap.size w (((((w.alloc (.cells #[.int .i64 0, .int .i64 1] 3)).alloc (.cells #[.int .i64 2] 3)).alloc (.cells #[.int .i64 0] 3)).alloc (.cells #[.int .i64 1] 3)).alloc (.cells #[.int .i64 1, .slice none 0 0, .string ⟨#[]⟩, .int .i64 2, .int .i64 1, .slice none 0 0, .string ⟨#[]⟩, .int .i64 1, .int .i64 6, .slice (some ⟨w.heap.size, 0, none⟩) 2 2, .string ⟨#[]⟩, .int .i64 0, .int .i64 10, .slice (some ⟨w.heap.size + 1, 0, none⟩) 1 1, .string ⟨#[]⟩, .int .i64 0, .int .i64 10, .slice (some ⟨w.heap.size + 1 + 1, 0, none⟩) 1 1, .string ⟨#[]⟩, .int .i64 0, .int .i64 10, .slice (some ⟨w.heap.size + 1 + 1 + 1, 0, none⟩) 1 1, .string ⟨#[]⟩, .int .i64 0] 26)) := by
  have i0 : IntsAt ((((w.alloc (.cells #[.int .i64 0, .int .i64 1] 3)).alloc (.cells #[.int .i64 2] 3)).alloc (.cells #[.int .i64 0] 3)).alloc (.cells #[.int .i64 1] 3)) (some ⟨w.heap.size, 0, none⟩) [0, 1] := by
    have h := ints_new (w) [0, 1] 3
    exact (((h).keep (Keeps.alloc _ _)).keep (Keeps.alloc _ _)).keep (Keeps.alloc _ _)
  have i1 : IntsAt ((((w.alloc (.cells #[.int .i64 0, .int .i64 1] 3)).alloc (.cells #[.int .i64 2] 3)).alloc (.cells #[.int .i64 0] 3)).alloc (.cells #[.int .i64 1] 3)) (some ⟨w.heap.size + 1, 0, none⟩) [2] := by
    have h := ints_new (w.alloc (.cells #[.int .i64 0, .int .i64 1] 3)) [2] 3
    rw [World.size_alloc] at h
    exact ((h).keep (Keeps.alloc _ _)).keep (Keeps.alloc _ _)
  have i2 : IntsAt ((((w.alloc (.cells #[.int .i64 0, .int .i64 1] 3)).alloc (.cells #[.int .i64 2] 3)).alloc (.cells #[.int .i64 0] 3)).alloc (.cells #[.int .i64 1] 3)) (some ⟨w.heap.size + 1 + 1, 0, none⟩) [0] := by
    have h := ints_new ((w.alloc (.cells #[.int .i64 0, .int .i64 1] 3)).alloc (.cells #[.int .i64 2] 3)) [0] 3
    rw [World.size_alloc, World.size_alloc] at h
    exact (h).keep (Keeps.alloc _ _)
  have i3 : IntsAt ((((w.alloc (.cells #[.int .i64 0, .int .i64 1] 3)).alloc (.cells #[.int .i64 2] 3)).alloc (.cells #[.int .i64 0] 3)).alloc (.cells #[.int .i64 1] 3)) (some ⟨w.heap.size + 1 + 1 + 1, 0, none⟩) [1] := by
    have h := ints_new (((w.alloc (.cells #[.int .i64 0, .int .i64 1] 3)).alloc (.cells #[.int .i64 2] 3)).alloc (.cells #[.int .i64 0] 3)) [1] 3
    rw [World.size_alloc, World.size_alloc, World.size_alloc] at h
    exact h
  have hn := nodes_new ((((w.alloc (.cells #[.int .i64 0, .int .i64 1] 3)).alloc (.cells #[.int .i64 2] 3)).alloc (.cells #[.int .i64 0] 3)).alloc (.cells #[.int .i64 1] 3)) [((⟨1, [], emp, 2⟩ : Nd), (none : Option Addr), 0), ((⟨1, [], emp, 1⟩ : Nd), (none : Option Addr), 0), ((⟨6, [0, 1], emp, 0⟩ : Nd), some ⟨w.heap.size, 0, none⟩, 2), ((⟨10, [2], emp, 0⟩ : Nd), some ⟨w.heap.size + 1, 0, none⟩, 1), ((⟨10, [0], emp, 0⟩ : Nd), some ⟨w.heap.size + 1 + 1, 0, none⟩, 1), ((⟨10, [1], emp, 0⟩ : Nd), some ⟨w.heap.size + 1 + 1 + 1, 0, none⟩, 1)] 26 (by
    intro x hx
    simp only [List.mem_cons, List.not_mem_nil, or_false] at hx
    rcases hx with rfl | rfl | rfl | rfl | rfl | rfl
    · exact ⟨.inl rfl, (show emp.size ≤ _ by decide), by simp⟩
    · exact ⟨.inl rfl, (show emp.size ≤ _ by decide), by simp⟩
    · exact ⟨i0, (show emp.size ≤ _ by decide), by simp⟩
    · exact ⟨i1, (show emp.size ≤ _ by decide), by simp⟩
    · exact ⟨i2, (show emp.size ≤ _ by decide), by simp⟩
    · exact ⟨i3, (show emp.size ≤ _ by decide), by simp⟩)
  rw [World.size_alloc, World.size_alloc, World.size_alloc, World.size_alloc] at hn
  exact ⟨hn, (((((Below.refl _ w).alloc (by simp <;> omega) _).alloc (by simp <;> omega) _).alloc (by simp <;> omega) _).alloc (by simp <;> omega) _).alloc (by simp <;> omega) _⟩

set_option maxRecDepth 100000 in
set_option maxHeartbeats 1500000 in
theorem unions_walk (w : World) (hg : Gd w) {aa ab : Option Addr} {a b : List Rc} {ac bc : Nat} (ha : RcsAt w aa a) (hac : a.length ≤ ac) (ham : ac ≤ 9223372036854775807) (hXa : ∀ r ∈ a, r.key.size ≤ 9223372036854775807 ∧ Rng r.num) (hb : RcsAt w ab b) (hbc : b.length ≤ bc) (hbm : bc ≤ 9223372036854775807) (hXb : ∀ r ∈ b, r.key.size ≤ 9223372036854775807 ∧ Rng r.num) :
    Calls Tryz.prog 7 #[.slice aa a.length ac, .slice ab b.length bc] w fun e w' => e = .returned (.bool true) ∧ Below w.heap.size w w' := by
  obtain ⟨lu1, lu2⟩ := lit_un w
  have hf : ∀ W, Gd W → ∀ {la : Option Addr}, NdsAt W la jUn → ∀ {ga : Option Addr}, RssAt W ga [[⟨ka, 2, 0⟩], []] → Calls Tryz.prog 9 #[.slice la 6 6, .slice ga 2 2] W (AllEnd W 0 [[(k0a, [2])], [(ka, [2])], []]) := fun W hW la h1 ga h2 => by
    have h := all_any hW h1 (Nat.le_refl _) h2 (Nat.le_refl _) (by decide) (fun l hl => by simp at hl; rcases hl with rfl | rfl <;> simp) (fun l hl r hr => by simp at hl; rcases hl with rfl | rfl; (rw [List.mem_singleton.1 hr]; decide); simp at hr) (fun l hl r hr => by simp at hl; rcases hl with rfl | rfl; (rw [List.mem_singleton.1 hr]; unfold Rng; decide); simp at hr)
    rw [un_fact.1, un_fact.2] at h
    exact h
  have hx : ∀ W, Gd W → ∀ {la : Option Addr}, NdsAt W la jUn → ∀ {ga : Option Addr}, RssAt W ga [a, b] → Calls Tryz.prog 9 #[.slice la 6 6, .slice ga 2 2] W (AllEnd W (denE jUn [a, b]) (denV jUn [a, b])) := fun W hW la h1 ga h2 =>
    all_any hW h1 (Nat.le_refl _) h2 (Nat.le_refl _) (by decide) (fun l hl => by simp at hl; rcases hl with rfl | rfl <;> omega) (fun l hl => by simp at hl; rcases hl with rfl | rfl; exact fun r hr => (hXa r hr).1; exact fun r hr => (hXb r hr).1) (fun l hl => by simp at hl; rcases hl with rfl | rfl; exact fun r hr => (hXa r hr).2; exact fun r hr => (hXb r hr).2)
  have pV := unions_pure a b (fun r hr => (hXa r hr).2) (fun r hr => (hXb r hr).2)
  have ra : ∀ W, Below w.heap.size w W → RcsAt W aa a := fun W hw => ha.keep (Keeps.of hw)
  have rb : ∀ W, Below w.heap.size w W → RcsAt W ab b := fun W hw => hb.keep (Keeps.of hw)
  have lr := rcs_new (((((w.alloc (.cells #[.int .i64 0, .int .i64 1] 3)).alloc (.cells #[.int .i64 2] 3)).alloc (.cells #[.int .i64 0] 3)).alloc (.cells #[.int .i64 1] 3)).alloc (.cells #[.int .i64 1, .slice none 0 0, .string ⟨#[]⟩, .int .i64 2, .int .i64 1, .slice none 0 0, .string ⟨#[]⟩, .int .i64 1, .int .i64 6, .slice (some ⟨w.heap.size, 0, none⟩) 2 2, .string ⟨#[]⟩, .int .i64 0, .int .i64 10, .slice (some ⟨w.heap.size + 1, 0, none⟩) 1 1, .string ⟨#[]⟩, .int .i64 0, .int .i64 10, .slice (some ⟨w.heap.size + 1 + 1, 0, none⟩) 1 1, .string ⟨#[]⟩, .int .i64 0, .int .i64 10, .slice (some ⟨w.heap.size + 1 + 1 + 1, 0, none⟩) 1 1, .string ⟨#[]⟩, .int .i64 0] 26)) ⟨ka, 2, 0⟩ 33
  have hr1 : RssAt (((((((w.alloc (.cells #[.int .i64 0, .int .i64 1] 3)).alloc (.cells #[.int .i64 2] 3)).alloc (.cells #[.int .i64 0] 3)).alloc (.cells #[.int .i64 1] 3)).alloc (.cells #[.int .i64 1, .slice none 0 0, .string ⟨#[]⟩, .int .i64 2, .int .i64 1, .slice none 0 0, .string ⟨#[]⟩, .int .i64 1, .int .i64 6, .slice (some ⟨w.heap.size, 0, none⟩) 2 2, .string ⟨#[]⟩, .int .i64 0, .int .i64 10, .slice (some ⟨w.heap.size + 1, 0, none⟩) 1 1, .string ⟨#[]⟩, .int .i64 0, .int .i64 10, .slice (some ⟨w.heap.size + 1 + 1, 0, none⟩) 1 1, .string ⟨#[]⟩, .int .i64 0, .int .i64 10, .slice (some ⟨w.heap.size + 1 + 1 + 1, 0, none⟩) 1 1, .string ⟨#[]⟩, .int .i64 0] 26)).alloc (.cells #[.string ⟨#[97]⟩, .int .i64 2, .int .i64 0] 33)).alloc (.cells #[.slice (some ⟨w.heap.size + 1 + 1 + 1 + 1 + 1, 0, none⟩) 1 1, .slice none 0 0] 34)) (some ⟨w.heap.size + 1 + 1 + 1 + 1 + 1 + 1, 0, none⟩) [[⟨ka, 2, 0⟩], []] := by
    have h := rss_two ((((((w.alloc (.cells #[.int .i64 0, .int .i64 1] 3)).alloc (.cells #[.int .i64 2] 3)).alloc (.cells #[.int .i64 0] 3)).alloc (.cells #[.int .i64 1] 3)).alloc (.cells #[.int .i64 1, .slice none 0 0, .string ⟨#[]⟩, .int .i64 2, .int .i64 1, .slice none 0 0, .string ⟨#[]⟩, .int .i64 1, .int .i64 6, .slice (some ⟨w.heap.size, 0, none⟩) 2 2, .string ⟨#[]⟩, .int .i64 0, .int .i64 10, .slice (some ⟨w.heap.size + 1, 0, none⟩) 1 1, .string ⟨#[]⟩, .int .i64 0, .int .i64 10, .slice (some ⟨w.heap.size + 1 + 1, 0, none⟩) 1 1, .string ⟨#[]⟩, .int .i64 0, .int .i64 10, .slice (some ⟨w.heap.size + 1 + 1 + 1, 0, none⟩) 1 1, .string ⟨#[]⟩, .int .i64 0] 26)).alloc (.cells #[.string ⟨#[97]⟩, .int .i64 2, .int .i64 0] 33)) (lb := none) (b := []) lr (.inl rfl) (c := 1) (d := 0) (by simp) (by simp) 34
    simp only [World.size_alloc] at h
    exact h
  have ln1 := (lu1.keep (Keeps.alloc (((((w.alloc (.cells #[.int .i64 0, .int .i64 1] 3)).alloc (.cells #[.int .i64 2] 3)).alloc (.cells #[.int .i64 0] 3)).alloc (.cells #[.int .i64 1] 3)).alloc (.cells #[.int .i64 1, .slice none 0 0, .string ⟨#[]⟩, .int .i64 2, .int .i64 1, .slice none 0 0, .string ⟨#[]⟩, .int .i64 1, .int .i64 6, .slice (some ⟨w.heap.size, 0, none⟩) 2 2, .string ⟨#[]⟩, .int .i64 0, .int .i64 10, .slice (some ⟨w.heap.size + 1, 0, none⟩) 1 1, .string ⟨#[]⟩, .int .i64 0, .int .i64 10, .slice (some ⟨w.heap.size + 1 + 1, 0, none⟩) 1 1, .string ⟨#[]⟩, .int .i64 0, .int .i64 10, .slice (some ⟨w.heap.size + 1 + 1 + 1, 0, none⟩) 1 1, .string ⟨#[]⟩, .int .i64 0] 26)) (.cells #[.string ⟨#[97]⟩, .int .i64 2, .int .i64 0] 33))).keep (Keeps.alloc ((((((w.alloc (.cells #[.int .i64 0, .int .i64 1] 3)).alloc (.cells #[.int .i64 2] 3)).alloc (.cells #[.int .i64 0] 3)).alloc (.cells #[.int .i64 1] 3)).alloc (.cells #[.int .i64 1, .slice none 0 0, .string ⟨#[]⟩, .int .i64 2, .int .i64 1, .slice none 0 0, .string ⟨#[]⟩, .int .i64 1, .int .i64 6, .slice (some ⟨w.heap.size, 0, none⟩) 2 2, .string ⟨#[]⟩, .int .i64 0, .int .i64 10, .slice (some ⟨w.heap.size + 1, 0, none⟩) 1 1, .string ⟨#[]⟩, .int .i64 0, .int .i64 10, .slice (some ⟨w.heap.size + 1 + 1, 0, none⟩) 1 1, .string ⟨#[]⟩, .int .i64 0, .int .i64 10, .slice (some ⟨w.heap.size + 1 + 1 + 1, 0, none⟩) 1 1, .string ⟨#[]⟩, .int .i64 0] 26)).alloc (.cells #[.string ⟨#[97]⟩, .int .i64 2, .int .i64 0] 33)) (.cells #[.slice (some ⟨w.heap.size + 1 + 1 + 1 + 1 + 1, 0, none⟩) 1 1, .slice none 0 0] 34))
  have lb1 := (lu2.alloc (by simp <;> omega) (.cells #[.string ⟨#[97]⟩, .int .i64 2, .int .i64 0] 33)).alloc (by simp <;> omega) (.cells #[.slice (some ⟨w.heap.size + 1 + 1 + 1 + 1 + 1, 0, none⟩) 1 1, .slice none 0 0] 34)
  have HF := Lib.hid hf
  have HX := Lib.hid hx
  have HV := Lib.hid pV
  clear hf hx pV lu1 lu2 lr hXa hXb ha hb
  go_enter Tryz.func7, Tryz.ntmps7
  go_wp2_with fail
  generalize ((((((w.alloc (.cells #[.int .i64 0, .int .i64 1] 3)).alloc (.cells #[.int .i64 2] 3)).alloc (.cells #[.int .i64 0] 3)).alloc (.cells #[.int .i64 1] 3)).alloc (.cells #[.int .i64 1, .slice none 0 0, .string ⟨#[]⟩, .int .i64 2, .int .i64 1, .slice none 0 0, .string ⟨#[]⟩, .int .i64 1, .int .i64 6, .slice (some ⟨w.heap.size, 0, none⟩) 2 2, .string ⟨#[]⟩, .int .i64 0, .int .i64 10, .slice (some ⟨w.heap.size + 1, 0, none⟩) 1 1, .string ⟨#[]⟩, .int .i64 0, .int .i64 10, .slice (some ⟨w.heap.size + 1 + 1, 0, none⟩) 1 1, .string ⟨#[]⟩, .int .i64 0, .int .i64 10, .slice (some ⟨w.heap.size + 1 + 1 + 1, 0, none⟩) 1 1, .string ⟨#[]⟩, .int .i64 0] 26)).alloc (.cells #[.string ⟨#[97]⟩, .int .i64 2, .int .i64 0] 33)).alloc (.cells #[.slice (some ⟨w.heap.size + 1 + 1 + 1 + 1 + 1, 0, none⟩) 1 1, .slice none 0 0] 34) = w1 at *
  refine (HF.out w1 (hg.below lb1) ln1 hr1).mono ?_
  rintro e w2 he
  unfold AllEnd at he
  rw [if_neg (by simp)] at he
  obtain ⟨Af, cf, rfl, hsf, hcf, hb2⟩ := he
  have B2 : Below w.heap.size w w2 := lb1.trans (hb2.mono lb1.size)
  rcases hsf with hsf | ⟨fb, fo, rfl, hsf⟩
  · simp at hsf
  obtain ⟨f0, d0, q0, r0, s0⟩ := hsf 0 (by simp)
  simp only [List.getElem_cons_zero, Nat.add_zero, List.length_cons, List.length_nil, Nat.zero_add] at q0 r0
  rcases r0 with r0 | ⟨fb2, fo2, rfl, r0⟩
  · simp at r0
  have z0 := (r0 0 (by simp)).1
  simp only [List.getElem_cons_zero, Nat.zero_mul, Nat.add_zero] at z0
  have z1 : w2.cell? ⟨fb2, fo2, none⟩ = some (.string ⟨#[48, 58, 97]⟩) := z0
  have hr2 := rss_two w2 (ra _ B2) (rb _ B2) hac hbc 34
  have ln3 := (ln1.keep (Keeps.of hb2)).keep (Keeps.alloc w2 (.cells #[.slice aa a.length ac, .slice ab b.length bc] 34))
  have lb3 := B2.alloc B2.size (.cells #[.slice aa a.length ac, .slice ab b.length bc] 34)
  clear hsf r0 z0 HF ln1 hr1
  go_wp2_with fail
  generalize w2.alloc (.cells #[.slice aa a.length ac, .slice ab b.length bc] 34) = w3 at *
  by_cases hE : denE jUn [a, b] = 0
  · have hxc := HX.out w3 (hg.below lb3) ln3 hr2
    rw [hE, HV.out hE] at hxc
    have H1 : Hid (∀ (j : Nat) (h : j < (linesP a).length), 2 + (linesP a)[j].1.size ≤ 40 → lookP ((⟨#[48, 58]⟩ : ByteArray) ++ (linesP a)[j].1) (linesP (uniP a b)) = (linesP a)[j].2) := Lib.hid (fun j h hs => by rw [lines_get a h]; exact uni_0 a b hs)
    have H2 : Hid (∀ (j : Nat) (h : j < (linesP b).length), 2 + (linesP b)[j].1.size ≤ 40 → lookP ((⟨#[49, 58]⟩ : ByteArray) ++ (linesP b)[j].1) (linesP (uniP a b)) = (linesP b)[j].2) := Lib.hid (fun j h hs => by rw [lines_get b h]; exact uni_1 a b hs)
    have HK1 := Lib.hid (line_key (un_keys hE).1)
    have HK2 := Lib.hid (line_key (un_keys hE).2)
    have hN := uni_len a b
    have hA := un_small hE
    obtain ⟨hla, hlb⟩ : (linesP a).length ≤ 300 ∧ (linesP b).length ≤ 300 := by
      rw [lines_len, lines_len]
      exact ⟨Nat.le_trans (firsts_len _) hA.1, Nat.le_trans (firsts_len _) hA.2⟩
    generalize linesP (uniP a b) = L0 at *
    generalize linesP a = L1 at *
    generalize linesP b = L2 at *
    refine hxc.mono ?_
    rintro e w4 he
    unfold AllEnd at he
    rw [if_neg (by simp)] at he
    obtain ⟨Ag, cg, rfl, hsg, hcg, hb4⟩ := he
    have B4 : Below w.heap.size w w4 := lb3.trans (hb4.mono lb3.size)
    rcases hsg with hsg | ⟨gb, go, rfl, hsg⟩
    · simp at hsg
    obtain ⟨l0, c0, e0, n0, m0⟩ := hsg 0 (by simp)
    obtain ⟨l1, c1, e1, n1, m1⟩ := hsg 1 (by simp)
    obtain ⟨l2, c2, e2, n2, m2⟩ := hsg 2 (by simp)
    simp only [List.getElem_cons_zero, List.getElem_cons_succ, Nat.add_zero] at e0 e1 e2 n0 n1 n2 m0 m1 m2
    have c1l := cnt_len L1
    have c2l := cnt_len L2
    have hl0 : L0.length ≤ 9223372036854775807 := by omega
    have HNN := Lib.hid hN
    clear hN
    clear hsg hxc HX HV hE hA ln3 hr2 q0 z1
    go_wp2_with fail
    go_loopw [10, 11] (fun n i wr => ∃ q : Int, 1 ≤ q ∧ q ≤ 3 ∧ i = .int .i64 q ∧ n = .int .i64 ((if q = 1 then 0 else if q = 2 then cntP L1 else cntP L1 + cntP L2 : Nat) : Int) ∧ ∃ m, wr = w4.drewN m) (fun _ i _ => 3 - (intOf i).toNat)
    case atStart => exact ⟨1, by omega, by omega, rfl, rfl, 0, rfl⟩
    case round =>
      obtain ⟨q, hq1, hq3, rfl, rfl, m, rfl⟩ := hrel
      by_cases h1 : q = 1
      · subst h1
        go_wp2_with fail
        go_loopw [10, 13] (fun n k wr => ∃ j : Nat, j ≤ L1.length ∧ k = .int .i64 j ∧ n = .int .i64 ((0 + cntP (L1.take j) : Nat) : Int) ∧ ∃ m, wr = w4.drewN m) (fun _ k _ => L1.length - (intOf k).toNat)
        case atStart => exact ⟨0, by omega, rfl, by simp [cntP], m, rfl⟩
        case round =>
          obtain ⟨j, hj, rfl, rfl, m, rfl⟩ := hrel
          have k1 : (w4.drewN m).cell? ⟨gb, go + 1, none⟩ = some (.slice l1 L1.length c1) := e1
          have k0 : (w4.drewN m).cell? ⟨gb, go, none⟩ = some (.slice l0 L0.length c0) := e0
          by_cases hlt : j < L1.length
          · have hi : (j : Int) < L1.length := by omega
            rcases n1 with n1 | ⟨b1, o1, rfl, n1⟩
            · subst n1; simp at hlt
            obtain ⟨x0, ⟨fa, fc, x1, x2, x3, x4⟩, x5⟩ := n1 j hlt
            have y0 : (w4.drewN m).cell? ⟨b1, o1 + j * 2, none⟩ = some (.string L1[j].1) := x0
            have y1 : (w4.drewN m).cell? ⟨b1, o1 + j * 2 + 1, none⟩ = some (.slice fa L1[j].2.length fc) := x1
            have hsz : ((⟨#[48, 58]⟩ : ByteArray) ++ L1[j].1).size = 2 + L1[j].1.size := by rw [ByteArray.size_append]; rfl
            have hct := cnt_take hlt
            have hcl := cnt_le L1 j
            have hcs := H1.out j hlt
            have hk40 := HK1.out j hlt
            generalize L1[j] = x at *
            obtain ⟨xk, xn⟩ := x
            simp only at *
            have HB : Hid (∀ mm, ∃ n', (w4.drewN m).drewN mm = w4.drewN n') := fun mm => ⟨m + mm, by simp⟩
            generalize hcn : cntP (L1.take (j + 1)) = cn at *
            have HCN := Lib.hid hcn
            clear hcn
            generalize cntP (L1.take j) = cm at *
            by_cases hc : 2 + xk.size ≤ 40
            · have hgt : ¬ (40 : Int) < 2 + (xk.size : Int) := by omega
              rw [if_pos hc] at hct
              subst hct
              obtain ⟨ga, gc, g1, g2, g3, g4⟩ := nums_any n0 c0 hl0 ((⟨#[48, 58]⟩ : ByteArray) ++ xk)
              rw [hcs hc] at g1 g2 g4
              have HN : Hid (∀ mm, Calls Tryz.prog 14 #[.slice l0 L0.length c0, .string ((⟨#[48, 58]⟩ : ByteArray) ++ xk)] ((w4.drewN m).drewN mm) fun e w' => e = .returned (.slice ga xn.length gc) ∧ ∃ n, w' = ((w4.drewN m).drewN mm).drewN n) := fun mm => by
                have h := g4 (m + mm)
                rwa [← World.drewN_drewN] at h
              have HI : Hid (∀ mm, Calls Tryz.prog 15 #[.slice ga xn.length gc, .slice fa xn.length fc] ((w4.drewN m).drewN mm) fun e w' => e = .returned (.bool true) ∧ ∃ n, w' = ((w4.drewN m).drewN mm).drewN n) := fun mm => ints_same (w := (w4.drewN m).drewN mm) (g1.keep (fun _ _ h => h)) (x2.keep (fun _ _ h => h)) gc fc (by omega)
              clear g1 g4 x2 x0 x1 n1 n0 hcs
              generalize w4.drewN m = wq at *
              go_wp2_with fail
              go_quiet ((first | (go_at_call 14; exact Calls.quiet_of (HN.out _)) | (go_at_call 15; exact Calls.quiet_of (HI.out _))))
              go_wp2_with fail
              exact ⟨⟨j + 1, by omega, by go_num, by rw [HCN.out]; go_num, by simpa using HB.out _⟩, by simp [intOf]; omega⟩
            · have hgt : (40 : Int) < 2 + (xk.size : Int) := by omega
              rw [if_neg hc] at hct
              subst hct
              clear x2 x0 x1 n1 n0 hcs
              generalize w4.drewN m = wq at *
              go_wp2_with fail
              exact ⟨⟨j + 1, by omega, by go_num, by first | (rw [HCN.out]; done) | (rw [HCN.out]; go_num), by obtain ⟨n', h'⟩ := HB.out 0; exact ⟨n', h'⟩⟩, by simp [intOf]; omega⟩
          · have hi : ¬ (j : Int) < L1.length := by omega
            have : j = L1.length := by omega
            subst this
            have hck : cntP (L1.take L1.length) = cntP L1 := by rw [List.take_length]
            go_wp2_with fail
            exact ⟨⟨1 + 1, by omega, by omega, by go_num, by rw [hck]; simp, m, rfl⟩, by simp [intOf]⟩
      by_cases h2 : q = 2
      · subst h2
        go_wp2_with fail
        go_loopw [10, 13] (fun n k wr => ∃ j : Nat, j ≤ L2.length ∧ k = .int .i64 j ∧ n = .int .i64 ((cntP L1 + cntP (L2.take j) : Nat) : Int) ∧ ∃ m, wr = w4.drewN m) (fun _ k _ => L2.length - (intOf k).toNat)
        case atStart => exact ⟨0, by omega, rfl, by simp [cntP], m, rfl⟩
        case round =>
          obtain ⟨j, hj, rfl, rfl, m, rfl⟩ := hrel
          have k2 : (w4.drewN m).cell? ⟨gb, go + 2, none⟩ = some (.slice l2 L2.length c2) := e2
          have k0 : (w4.drewN m).cell? ⟨gb, go, none⟩ = some (.slice l0 L0.length c0) := e0
          by_cases hlt : j < L2.length
          · have hi : (j : Int) < L2.length := by omega
            rcases n2 with n2 | ⟨b1, o1, rfl, n2⟩
            · subst n2; simp at hlt
            obtain ⟨x0, ⟨fa, fc, x1, x2, x3, x4⟩, x5⟩ := n2 j hlt
            have y0 : (w4.drewN m).cell? ⟨b1, o1 + j * 2, none⟩ = some (.string L2[j].1) := x0
            have y1 : (w4.drewN m).cell? ⟨b1, o1 + j * 2 + 1, none⟩ = some (.slice fa L2[j].2.length fc) := x1
            have hsz : ((⟨#[49, 58]⟩ : ByteArray) ++ L2[j].1).size = 2 + L2[j].1.size := by rw [ByteArray.size_append]; rfl
            have hct := cnt_take hlt
            have hcl := cnt_le L2 j
            have hcs := H2.out j hlt
            have hk40 := HK2.out j hlt
            generalize L2[j] = x at *
            obtain ⟨xk, xn⟩ := x
            simp only at *
            have HB : Hid (∀ mm, ∃ n', (w4.drewN m).drewN mm = w4.drewN n') := fun mm => ⟨m + mm, by simp⟩
            generalize hcn : cntP (L2.take (j + 1)) = cn at *
            have HCN := Lib.hid hcn
            clear hcn
            generalize cntP (L2.take j) = cm at *
            by_cases hc : 2 + xk.size ≤ 40
            · have hgt : ¬ (40 : Int) < 2 + (xk.size : Int) := by omega
              rw [if_pos hc] at hct
              subst hct
              obtain ⟨ga, gc, g1, g2, g3, g4⟩ := nums_any n0 c0 hl0 ((⟨#[49, 58]⟩ : ByteArray) ++ xk)
              rw [hcs hc] at g1 g2 g4
              have HN : Hid (∀ mm, Calls Tryz.prog 14 #[.slice l0 L0.length c0, .string ((⟨#[49, 58]⟩ : ByteArray) ++ xk)] ((w4.drewN m).drewN mm) fun e w' => e = .returned (.slice ga xn.length gc) ∧ ∃ n, w' = ((w4.drewN m).drewN mm).drewN n) := fun mm => by
                have h := g4 (m + mm)
                rwa [← World.drewN_drewN] at h
              have HI : Hid (∀ mm, Calls Tryz.prog 15 #[.slice ga xn.length gc, .slice fa xn.length fc] ((w4.drewN m).drewN mm) fun e w' => e = .returned (.bool true) ∧ ∃ n, w' = ((w4.drewN m).drewN mm).drewN n) := fun mm => ints_same (w := (w4.drewN m).drewN mm) (g1.keep (fun _ _ h => h)) (x2.keep (fun _ _ h => h)) gc fc (by omega)
              clear g1 g4 x2 x0 x1 n2 n0 hcs
              generalize w4.drewN m = wq at *
              go_wp2_with fail
              go_quiet ((first | (go_at_call 14; exact Calls.quiet_of (HN.out _)) | (go_at_call 15; exact Calls.quiet_of (HI.out _))))
              go_wp2_with fail
              exact ⟨⟨j + 1, by omega, by go_num, by rw [HCN.out]; go_num, by simpa using HB.out _⟩, by simp [intOf]; omega⟩
            · have hgt : (40 : Int) < 2 + (xk.size : Int) := by omega
              rw [if_neg hc] at hct
              subst hct
              clear x2 x0 x1 n2 n0 hcs
              generalize w4.drewN m = wq at *
              go_wp2_with fail
              exact ⟨⟨j + 1, by omega, by go_num, by first | (rw [HCN.out]; done) | (rw [HCN.out]; go_num), by obtain ⟨n', h'⟩ := HB.out 0; exact ⟨n', h'⟩⟩, by simp [intOf]; omega⟩
          · have hi : ¬ (j : Int) < L2.length := by omega
            have : j = L2.length := by omega
            subst this
            have hck : cntP (L2.take L2.length) = cntP L2 := by rw [List.take_length]
            go_wp2_with fail
            exact ⟨⟨2 + 1, by omega, by omega, by go_num, by rw [hck]; simp, m, rfl⟩, by simp [intOf]⟩
      · obtain rfl : q = 3 := by omega
        have k0 : (w4.drewN m).cell? ⟨gb, go, none⟩ = some (.slice l0 L0.length c0) := e0
        go_wp2
        go_ret
        exact ⟨by simp [HNN.out], below_drewN B4 _⟩
  · have HE := Lib.hid hE
    have hxc := HX.out w3 (hg.below lb3) ln3 hr2
    generalize denE jUn [a, b] = E at *
    generalize denV jUn [a, b] = V at *
    refine hxc.mono ?_
    rintro e w4 he
    unfold AllEnd at he
    rw [if_pos HE.out, errV_pos HE.out] at he
    obtain ⟨rfl, hb4⟩ := he
    have B4 : Below w.heap.size w w4 := lb3.trans (hb4.mono lb3.size)
    go_wp2_with fail
    go_ret
    exact ⟨rfl, B4⟩
end Go.Proofs.YtppkjiihmlphbaaGreatDoor

