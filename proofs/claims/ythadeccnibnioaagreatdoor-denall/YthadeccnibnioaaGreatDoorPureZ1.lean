import Derived.Test.YthadeccnibnioaaGreatDoorHp
import Derived.Deep.AppendSrc
import Derived.Deep.AppendLies
import Derived.Below
/- Lines as the document lays them: each record put among those that rise. And its Apply. The plain half of DenAll, begun. -/
namespace Go.Proofs.YthadeccnibnioaaGreatDoor
set_option linter.unusedVariables false

def klt (a b : ByteArray) : Bool := !kle b a
theorem kle_self (a : ByteArray) : kle a a = true := by have := kle_total a a; simpa using this
theorem klt_irrefl (a : ByteArray) : klt a a = false := by unfold klt; rw [kle_self]; rfl
theorem klt_trans {a b c : ByteArray} (h1 : klt a b = true) (h2 : klt b c = true) : klt a c = true := by
  unfold klt at *
  cases h : kle c a with
  | false => rfl
  | true =>
    have h3 : kle a b = true := by
      have := kle_total a b
      cases h4 : kle b a with
      | true => rw [h4] at h1; cases h1
      | false => rw [h4] at this; simpa using this
    have h5 := kle_trans _ _ _ h h3
    rw [h5] at h2; cases h2
theorem klt_tri {q k : ByteArray} (h : klt q k = false) (hn : q ≠ k) : klt k q = true := by
  unfold klt at *
  cases h1 : kle q k with
  | false => rfl
  | true =>
    cases h2 : kle k q with
    | false => rw [h2] at h; cases h
    | true => exact absurd (kle_anti h1 h2) hn
theorem klt_ne {a b : ByteArray} (h : klt a b = true) : a ≠ b := fun e => by subst e; rw [klt_irrefl] at h; cases h
def Strict (K : List ByteArray) : Prop := K.Pairwise fun a b => klt a b = true
def kIns (k : ByteArray) : List ByteArray → List ByteArray
  | [] => [k]
  | q :: t => if klt q k then q :: kIns k t else if q = k then q :: t else k :: q :: t
theorem kins_mem {k x : ByteArray} : ∀ {K : List ByteArray}, x ∈ kIns k K ↔ x = k ∨ x ∈ K
  | [] => by simp [kIns]
  | q :: t => by
    rw [kIns]
    split
    · rw [List.mem_cons, kins_mem, List.mem_cons]
      constructor
      · rintro (h | h | h)
        · exact .inr (.inl h)
        · exact .inl h
        · exact .inr (.inr h)
      · rintro (h | h | h)
        · exact .inr (.inl h)
        · exact .inl h
        · exact .inr (.inr h)
    · split
      · rename_i h
        subst h
        simp
      · simp
theorem kins_strict {k : ByteArray} : ∀ {K : List ByteArray}, Strict K → Strict (kIns k K)
  | [], _ => by simp [kIns, Strict]
  | q :: t, h => by
    obtain ⟨h1, h2⟩ := List.pairwise_cons.1 h
    rw [kIns]
    split
    · rename_i hq
      refine List.pairwise_cons.2 ⟨fun b hb => ?_, kins_strict h2⟩
      rcases kins_mem.1 hb with rfl | hb
      · exact hq
      · exact h1 b hb
    · split
      · exact h
      · rename_i hq hn
        have hk := klt_tri (by simpa using hq) hn
        refine List.pairwise_cons.2 ⟨fun b hb => ?_, h⟩
        rcases List.mem_cons.1 hb with rfl | hb
        · exact hk
        · exact klt_trans hk (h1 b hb)
theorem strict_nodup {K : List ByteArray} (h : Strict K) : K.Nodup := List.Pairwise.imp (fun h => klt_ne h) h
theorem strict_kle {K : List ByteArray} (h : Strict K) : K.Pairwise fun a b => kle a b = true := List.Pairwise.imp (fun {a b} h => by
  have := kle_total a b
  unfold klt at h
  cases h4 : kle b a with
  | true => rw [h4] at h; cases h
  | false => rw [h4] at this; simpa using this) h
theorem keys_strict (l : List Rc) : Strict (keysP l) := by
  have h1 : (keysP l).Pairwise fun a b => kle a b = true := List.pairwise_mergeSort kle_trans kle_total _
  have h2 : (keysP l).Nodup := (List.mergeSort_perm _ _).nodup_iff.2 (firsts_nodup l)
  refine List.Pairwise.imp ?_ (List.Pairwise.and h1 h2)
  rintro a b ⟨h3, h4⟩
  unfold klt
  cases h5 : kle b a with
  | false => rfl
  | true => exact absurd (kle_anti h3 h5) h4
theorem keysD_mem {l : List Rc} {k : ByteArray} : k ∈ keysP l ↔ ∃ r ∈ l, r.key = k := by
  rw [← firsts_mem]; exact (List.mergeSort_perm _ _).mem_iff
theorem keys_snoc (l : List Rc) (r : Rc) : keysP (l ++ [r]) = kIns r.key (keysP l) := by
  have hs := kins_strict (k := r.key) (keys_strict l)
  refine (keys_eq ((List.perm_ext_iff_of_nodup (strict_nodup hs) (firsts_nodup _)).2 fun x => ?_) (strict_kle hs)).symm
  rw [kins_mem, keysD_mem, firsts_mem]
  constructor
  · rintro (rfl | ⟨y, hy, e⟩)
    · exact ⟨r, by simp, rfl⟩
    · exact ⟨y, by simp [hy], e⟩
  · rintro ⟨y, hy, e⟩
    rcases List.mem_append.1 hy with hy | hy
    · exact .inr ⟨y, hy, e⟩
    · rw [List.mem_singleton] at hy; subst hy; exact .inl e.symm
/-- One record more, among lines that rise. -/
def lnAdd (r : Rc) : List Ln → List Ln
  | [] => [(r.key, [r.num])]
  | (q, ns) :: t => if klt q r.key then (q, ns) :: lnAdd r t else if q = r.key then (q, ns ++ [r.num]) :: t else (r.key, [r.num]) :: (q, ns) :: t
theorem lnAdd_map (r : Rc) (F : ByteArray → List Int) : ∀ K : List ByteArray, Strict K → (r.key ∉ K → F r.key = []) → lnAdd r (K.map fun k => (k, F k)) = (kIns r.key K).map fun k => (k, F k ++ (if r.key = k then [r.num] else []))
  | [], _, h => by
    have := h (by simp)
    simp [lnAdd, kIns, this]
  | q :: t, hs, h => by
    obtain ⟨h1, h2⟩ := List.pairwise_cons.1 hs
    have off : ∀ T : List ByteArray, r.key ∉ T → (T.map fun k => (k, F k)) = T.map fun k => (k, F k ++ (if r.key = k then [r.num] else [])) := fun T hT =>
      List.map_congr_left fun k hk => by rw [if_neg (fun e => hT (by rw [e]; exact hk)), List.append_nil]
    rw [List.map_cons, lnAdd, kIns]
    split
    · rename_i hq
      have hne := klt_ne hq
      rw [List.map_cons, lnAdd_map r F t h2 (fun hm => h (fun hm' => by
        rcases List.mem_cons.1 hm' with e | e
        · exact hne e.symm
        · exact hm e)), if_neg (fun e => hne e.symm), List.append_nil]
    · rename_i hq
      split
      · rename_i he
        subst he
        rw [List.map_cons, if_pos rfl, ← off t (fun hm => klt_ne (h1 _ hm) rfl)]
      · rename_i hn
        have hk := klt_tri (by simpa using hq) hn
        have hni : r.key ∉ q :: t := fun hm => by
          rcases List.mem_cons.1 hm with e | e
          · exact hn e.symm
          · exact klt_ne (klt_trans hk (h1 _ e)) rfl
        rw [List.map_cons, ← off (q :: t) hni, if_pos rfl, h hni]
        rfl
theorem lines_snoc (l : List Rc) (r : Rc) : linesP (l ++ [r]) = lnAdd r (linesP l) := by
  unfold linesP
  rw [lnAdd_map r (numsP l) (keysP l) (keys_strict l) ?_, keys_snoc]
  · exact List.map_congr_left fun k _ => by rw [nums_snoc]
  · intro hm
    unfold numsP
    rw [List.map_eq_nil_iff, List.filter_eq_nil_iff]
    intro y hy he
    exact hm (keysD_mem.2 ⟨y, hy, by simpa using he⟩)
def docLines (l : List Rc) : List Ln := l.foldl (fun o r => lnAdd r o) []
theorem doc_lines (l : List Rc) : docLines l = linesP l := by
  have h : ∀ R : List Rc, docLines R.reverse = linesP R.reverse := by
    intro R
    induction R with
    | nil => rw [List.reverse_nil, lines_nil]; rfl
    | cons x R ih => rw [List.reverse_cons, lines_snoc, ← ih]; simp [docLines]
  have := h l.reverse
  rwa [List.reverse_reverse] at this

/-- The document's Apply. -/
def docA (nd : Nd) (h : Hd) (has : Bool) (r : Rc) (input : Int) : List Rc × Hd × Bool :=
  let a := if has then h.a else 0
  let b := if has then h.b else 0
  let end_ (out : Rc) (many : Int) (a b : Int) (has : Bool) : List Rc × Hd × Bool :=
    (if out.key.size ≤ 40 then List.replicate many.toNat out else [], if has then ⟨0, r.key, a, b⟩ else hd0, has)
  if nd.k = 2 then end_ ⟨r.key, valP nd.tx r.num 0, r.time⟩ 1 a b has
  else if nd.k = 3 then end_ r (if valP nd.tx r.num 0 = 0 then 0 else 1) a b has
  else if nd.k = 4 then end_ ⟨r.key ++ (⟨#[47]⟩ ++ itoB (valP nd.tx r.num 0)), r.num, r.time⟩ 1 a b has
  else if nd.k = 5 then end_ r nd.n a b has
  else if nd.k = 6 then end_ ⟨itoB input ++ ⟨#[58]⟩ ++ r.key, r.num, r.time⟩ 1 a b has
  else if nd.k = 7 then end_ ⟨r.key, valP nd.tx r.num a, r.time⟩ 1 (valP nd.tx r.num a) b true
  else if nd.k = 8 then
    if wr (a + 1) < nd.n then end_ r 0 (wr (a + 1)) (wr (b + r.num)) true
    else end_ ⟨r.key, wr (b + r.num), r.time⟩ 1 0 0 true
  else if nd.k = 9 then end_ r (if has then 0 else 1) 1 b true
  else end_ r 1 a b has
theorem cop_doc (r : Rc) {m : Int} (h : m ≤ 1000) : copP r m = if r.key.size ≤ 40 then List.replicate m.toNat r else [] := by
  unfold copP
  by_cases hk : r.key.size ≤ 40
  · rw [if_pos hk, if_neg (by omega)]
  · rw [if_neg hk, if_pos (by omega)]
theorem full_doc {a n : Int} (h : a < n ∨ wr (a + 1) = a + 1) : fullP a n = decide (¬ wr (a + 1) < n) := by
  unfold fullP
  by_cases h1 : wr (a + 1) < n
  · have h2 : ¬ n ≤ a := by omega
    have h3 : ¬ n ≤ wr (a + 1) := by omega
    simp [h1, h2, h3]
  · have h3 : n ≤ wr (a + 1) := by omega
    simp [h1, h3]
/-- Where no count is at the end of all numbers, both are one. -/
theorem doc_app {nd : Nd} (hk : 1 ≤ nd.k ∧ nd.k ≤ 10) (hn : nd.n ≤ 1000) {h : Hd} {has : Bool} (ha : has = true → nd.k = 8 → h.a < nd.n ∨ wr (h.a + 1) = h.a + 1) (r : Rc) (input : Int) : docA nd h has r input = appP nd h has r input := by
  unfold docA appP
  rcases (show nd.k = 1 ∨ nd.k = 2 ∨ nd.k = 3 ∨ nd.k = 4 ∨ nd.k = 5 ∨ nd.k = 6 ∨ nd.k = 7 ∨ nd.k = 8 ∨ nd.k = 9 ∨ nd.k = 10 by omega) with e | e | e | e | e | e | e | e | e | e
  all_goals simp only [e, hasStP]
  all_goals cases has <;> simp [turnedP, countedP, e, cop_doc, hn, hd0]
  · rw [cop_doc _ (by split <;> omega)]
  · rw [cop_doc _ (by split <;> omega)]
  · have hf := full_doc (a := 0) (n := nd.n) (.inr (by decide))
    rw [show (0 : Int) + 1 = 1 from rfl] at hf
    rw [hf]
    by_cases h1 : wr 1 < nd.n
    · simp [h1, cop_zero]
    · simp [h1, cop_doc]
  · have hf := full_doc (a := h.a) (n := nd.n) (ha rfl e)
    rw [hf]
    by_cases h1 : wr (h.a + 1) < nd.n
    · simp [h1, cop_zero]
    · simp [h1, cop_doc]

def docStep (nd : Nd) (acc : List Rc × Sts) (x : Rc × Int) : List Rc × Sts :=
  let p := docA nd ((acc.2 x.1.key).getD hd0) (acc.2 x.1.key).isSome x.1 x.2
  (acc.1 ++ p.1, if p.2.2 then fun k => if k = x.1.key then some p.2.1 else acc.2 k else acc.2)
def docRun (nd : Nd) (xs : List (Rc × Int)) : List Rc × Sts := xs.foldl (docStep nd) ([], fun _ => none)
theorem node_bd {ah : List Nd} {nd : Nd} (h : nodeP ah nd = 0) : (1 ≤ nd.k ∧ nd.k ≤ 10) ∧ nd.n ≤ 1000 ∧ (nd.k = 8 → 1 ≤ nd.n) ∧ (nd.k ≠ 1 → nd.k ≠ 6 → nd.fs.length = 1) := by
  unfold nodeP at h
  split at h
  · cases h
  · rename_i h1
    split at h
    · cases h
    · rename_i h2
      split at h
      · unfold ownP at h
        split at h
        · cases h
        · split at h
          · cases h
          · rename_i h5
            refine ⟨by omega, ?_, fun h8 => ?_, fun h1' h6 => ?_⟩
            · have : bdHi nd.k ≤ 400 := by
                unfold bdHi
                repeat' split
                all_goals omega
              omega
            · unfold bdLo at h5
              rw [h8] at h5
              simp at h5
              omega
            · unfold inLo inHi at h2
              rw [if_neg h1', if_neg h1', if_neg h6] at h2
              omega
      · rename_i h3
        exact absurd h h3
/-- No count of an Every comes to its N. -/
theorem run_cnt {nd : Nd} (h1 : nd.k = 8) (hn : 1 ≤ nd.n) (xs : List (Rc × Int)) : ∀ k h, (runP nd xs).2 k = some h → h.a < nd.n := by
  have H : ∀ R : List (Rc × Int), ∀ k h, (runP nd R.reverse).2 k = some h → h.a < nd.n := by
    intro R
    induction R with
    | nil => intro k h e; cases e
    | cons x R ih =>
      intro k h e
      rw [List.reverse_cons, runP_snoc] at e
      simp only [stepP] at e
      split at e
      · simp only [] at e
        split at e
        · injection e with e
          subst e
          unfold appP
          simp only [h1, hasStP, countedP]
          generalize (if ((runP nd R.reverse).2 x.1.key).isSome = true then ((runP nd R.reverse).2 x.1.key).getD hd0 else hd0) = st
          by_cases hf : fullP st.a nd.n = true
          · simp [hf]; omega
          · have hf' := hf
            unfold fullP at hf'
            simp at hf'
            simp [hf]; omega
        · exact ih k h e
      · exact ih k h e
  have := H xs.reverse
  rwa [List.reverse_reverse] at this
theorem doc_run {ah : List Nd} {nd : Nd} (hd : nodeP ah nd = 0) (xs : List (Rc × Int)) : docRun nd xs = runP nd xs := by
  obtain ⟨hk, hn, h8, -⟩ := node_bd hd
  have H : ∀ R : List (Rc × Int), docRun nd R.reverse = runP nd R.reverse := by
    intro R
    induction R with
    | nil => rfl
    | cons x R ih =>
      rw [List.reverse_cons, runP_snoc, ← ih]
      have e : docRun nd (R.reverse ++ [x]) = docStep nd (docRun nd R.reverse) x := by simp [docRun]
      rw [e, ih]
      unfold docStep stepP
      rw [doc_app hk hn]
      intro hs hk8
      left
      cases hst : (runP nd R.reverse).2 x.1.key with
      | none => rw [hst] at hs; cases hs
      | some st => exact run_cnt hk8 (h8 hk8) _ _ _ hst
  have := H xs.reverse
  rwa [List.reverse_reverse] at this
/-- The document's way through the nodes. -/
def docFlow : List Nd → List (List Rc) → List (List Rc) → Option (List (List Rc))
  | [], _, handed => some handed
  | nd :: l, data, handed =>
    let mine := if nd.k = 1 then data.headD [] else (docRun nd (tagP 0 (fromsP nd handed))).1
    if nd.k ≠ 1 ∧ nd.k ≠ 10 ∧ 2000 < mine.length then none else docFlow l (restP nd data) (handed ++ [mine])
theorem src_id {nd : Nd} (hk : nd.k = 1 ∨ nd.k = 10) {x : List Rc} (hx : ∀ r ∈ x, RcOk r) (hl : x.length ≤ 2000) : handP nd [x] = some x := by
  obtain ⟨k, fs, tx, n⟩ := nd
  refine hand_id ?_ (fun r hr => g_same hk fs tx n (hx r hr).1) hl
  rcases hk with e | e
  · simp only at e; subst e; rfl
  · simp only at e; subst e; rfl
theorem doc_flow : ∀ (L ah : List Nd) (D H : List (List Rc)), allP ah L = 0 → D.length = srcs L → (∀ l ∈ D, ∀ r ∈ l, RcOk r) → (∀ l ∈ D, l.length ≤ 300) → (∀ l ∈ H, ∀ r ∈ l, RcOk r) → (∀ l ∈ H, l.length ≤ 2000) → docFlow L D H = flowP L D H
  | [], ah, D, H, _, _, _, _, _, _ => rfl
  | nd :: L, ah, D, H, ha, hs, hD, hD3, hH, hH2 => by
    rw [allP] at ha
    split at ha
    · rename_i hn
      have hrest : ∀ l ∈ restP nd D, l ∈ D := fun l hl => rest_mem hl
      rw [srcs_cons] at hs
      have hsr : (restP nd D).length = srcs L := by
        unfold restP
        split
        · rename_i hk; rw [if_pos hk] at hs; rw [List.length_drop]; omega
        · rename_i hk; rw [if_neg hk] at hs; omega
      have go : ∀ o : List Rc, handP nd (gotP nd D H) = some o → docFlow L (restP nd D) (H ++ [o]) = flowP (nd :: L) D H := fun o ho => by
        have hok := hand_ok (fun l hl r hr => by
          rcases got_mem hl with h | h | h
          · exact hD l h r hr
          · exact hH l h r hr
          · subst h; simp at hr) ho
        rw [flowP, ho]
        refine doc_flow L (ah ++ [nd]) _ _ ha hsr (fun l hl => hD l (hrest l hl)) (fun l hl => hD3 l (hrest l hl)) (fun l hl => ?_) (fun l hl => ?_)
        · rcases List.mem_append.1 hl with h | h
          · exact hH l h
          · rw [List.mem_singleton] at h; subst h; exact hok.1
        · rcases List.mem_append.1 hl with h | h
          · exact hH2 l h
          · rw [List.mem_singleton] at h; subst h; exact hok.2
      rw [docFlow]
      by_cases hk : nd.k = 1
      · rw [if_pos hk] at hs
        obtain ⟨d, D', rfl⟩ : ∃ d D', D = d :: D' := by
          cases D with
          | nil => simp at hs; omega
          | cons d D' => exact ⟨d, D', rfl⟩
        simp only [hk, if_true, List.headD_cons]
        rw [if_neg (by simp)]
        refine go d ?_
        rw [got_src hk]
        exact src_id (.inl hk) (hD d List.mem_cons_self) (by have := hD3 d List.mem_cons_self; omega)
      · simp only [hk, if_false]
        rw [doc_run hn]
        by_cases h10 : nd.k = 10
        · rw [if_neg (by simp [h10])]
          refine go _ ?_
          have hf := (node_bd hn).2.2.2 hk (by omega)
          obtain ⟨f, hfs⟩ : ∃ f, nd.fs = [f] := by
            match hm : nd.fs with
            | [] => rw [hm] at hf; simp at hf
            | [f] => exact ⟨f, rfl⟩
            | _ :: _ :: _ => rw [hm] at hf; simp at hf
          have hg : gotP nd D H = [H.getD f.toNat []] := by rw [got_oth hk]; unfold fromsP; rw [hfs]; rfl
          have hx : ∀ r ∈ H.getD f.toNat [], RcOk r := by
            by_cases hl : f.toNat < H.length
            · intro r hr
              exact hH H[f.toNat] (List.getElem_mem hl) r (by simpa [List.getD, hl] using hr)
            · intro r hr
              simp [List.getD, Nat.le_of_not_lt hl] at hr
          have hx2 : (H.getD f.toNat []).length ≤ 2000 := by
            by_cases hl : f.toNat < H.length
            · have := hH2 H[f.toNat] (List.getElem_mem hl)
              simpa [List.getD, hl] using this
            · simp [List.getD, Nat.le_of_not_lt hl]
          have hh := src_id (nd := nd) (.inr h10) hx hx2
          rw [← got_oth (D := D) hk, hg]
          have hh2 := hh
          unfold handP at hh2
          split at hh2
          · cases hh2
          · injection hh2 with hh2
            rw [hh2, hh]
        · rw [← got_oth (D := D) hk]
          by_cases hlen : 2000 < (runP nd (tagP 0 (gotP nd D H))).1.length
          · rw [if_pos ⟨hk, h10, hlen⟩, flowP]
            have : handP nd (gotP nd D H) = none := by unfold handP; rw [if_pos hlen]
            rw [this]
          · rw [if_neg (fun h => hlen h.2.2)]
            refine go _ ?_
            unfold handP
            rw [if_neg hlen]
    · rename_i hn
      exact absurd ha hn

theorem flow_len : ∀ (L : List Nd) (D H o : List (List Rc)), flowP L D H = some o → o.length = H.length + L.length
  | [], D, H, o, h => by rw [flowP] at h; injection h with h; subst h; simp
  | nd :: L, D, H, o, h => by
    rw [flowP] at h
    split at h
    · cases h
    · rename_i x hx
      have := flow_len L _ _ o h
      simp at this ⊢; omega
theorem of_lt {L : List Nd} {k i : Int} (h : i ∈ ofP L k) : i.toNat < L.length := by
  unfold ofP at h
  obtain ⟨j, hj, rfl⟩ := List.mem_map.1 h
  have := (List.mem_filter.1 hj).1
  rw [List.mem_range] at this
  simpa using this
/-- What the Sinks get, as the document lays it. -/
theorem doc_sinks (L : List Nd) (hs : List (List Rc)) (h : L.length = hs.length) : ((ofP L 10).map fun i => docLines (hs.getD i.toNat [])) = sinksP L hs := by
  have H : ∀ (R : List Nd) (S : List (List Rc)), R.length = S.length → ((ofP R.reverse 10).map fun i => docLines (S.reverse.getD i.toNat [])) = sinksP R.reverse S.reverse := by
    intro R
    induction R with
    | nil => intro S hS; cases S with
      | nil => rfl
      | cons y S => simp at hS
    | cons x R ih =>
      intro S hS
      cases S with
      | nil => simp at hS
      | cons y S =>
        have hl : R.length = S.length := by simpa using hS
        have ih' := ih S hl
        rw [List.reverse_cons, List.reverse_cons, of_grow, sinks_snoc _ _ _ _ (by simpa using hl), List.map_append, ← ih']
        congr 1
        · refine List.map_congr_left fun i hi => ?_
          have hb := of_lt hi
          rw [List.getD_eq_getElem?_getD, List.getD_eq_getElem?_getD, List.getElem?_append_left (by simp at hb ⊢; omega)]
        · by_cases hx : x.k = 10
          · simp [hx, hl, doc_lines]
          · simp [hx]
  have := H L.reverse hs.reverse (by simpa using h)
  simpa using this
end Go.Proofs.YthadeccnibnioaaGreatDoor

/- Rows that a thing owns, which may begin within their block; append, and what is cut off ahead. -/
namespace Go.Proofs.YthadeccnibnioaaGreatDoor
open Go Go.RowKit
set_option linter.unusedVariables false

def RwAt (w : World) (e : TypeId) (size : Nat) (v : Value) (n : Nat) (xs : List Value) : Prop :=
  xs.length = n * size ∧ ((v = .slice none 0 0 ∧ n = 0) ∨
    ∃ g o cap cur, v = .slice (some ⟨g, o, none⟩) n cap ∧ w.heap[g]? = some (.cells cur e (0, 0)) ∧ n ≤ cap ∧ cap ≤ maxLen ∧ o + cap * size ≤ cur.size ∧ (cur.toList.drop o).take (n * size) = xs)
section
variable {P : Program} {w w' : World} {e : TypeId} {size : Nat} {v : Value} {n : Nat} {xs : List Value}
theorem RwAt.nil (w : World) (e : TypeId) (size : Nat) : RwAt w e size (.slice none 0 0) 0 [] := ⟨by simp, .inl ⟨rfl, rfl⟩⟩
theorem RwAt.lt (h : RwAt w e size v n xs) {b : Nat} (hb : v.ownBlock = some b) : b < w.heap.size ∧ ∃ cur, w.heap[b]? = some (.cells cur e (0, 0)) := by
  rcases h.2 with ⟨rfl, _⟩ | ⟨g, o, cap, cur, rfl, h2, _⟩
  · simp [Value.ownBlock] at hb
  · simp [Value.ownBlock] at hb
    subst hb
    exact ⟨(Array.getElem?_eq_some_iff.1 h2).1, cur, h2⟩
theorem RwAt.block (h : RwAt w e size v n xs) (hb : ∀ b, v.ownBlock = some b → w'.heap[b]? = w.heap[b]?) : RwAt w' e size v n xs := by
  refine ⟨h.1, ?_⟩
  rcases h.2 with hn | ⟨g, o, cap, cur, rfl, h2, h3⟩
  · exact .inl hn
  · exact .inr ⟨g, o, cap, cur, rfl, by rw [hb g rfl]; exact h2, h3⟩
theorem RwAt.keep (h : RwAt w e size v n xs) (hb : Below w.heap.size w w') : RwAt w' e size v n xs := h.block fun b hv => hb.block b (h.lt hv).1
theorem RwAt.slice (h : RwAt w e size v n xs) : ∃ A c, v = .slice A n c ∧ n ≤ c ∧ c ≤ maxLen := by
  rcases h.2 with ⟨rfl, h0⟩ | ⟨g, o, cap, cur, rfl, h2, h3, h4, _⟩
  · exact ⟨none, 0, by rw [h0], by omega, by simp⟩
  · exact ⟨_, cap, rfl, h3, h4⟩
theorem add_off (b o j : Nat) : (⟨b, o, none⟩ : Addr).add j = ⟨b, o + j, none⟩ := by unfold Addr.add; split <;> simp_all
/-- Its cells. -/
theorem RwAt.cells {A : Option Addr} {c : Nat} (h : RwAt w e size (.slice A n c) n xs) : xs = [] ∨ ∃ b o, A = some ⟨b, o, none⟩ ∧ ∀ j u, xs[j]? = some u → w.cell? ⟨b, o + j, none⟩ = some u := by
  rcases h.2 with ⟨hv, h0⟩ | ⟨g, o, cap, cur, hv, h2, h3, h4, h5, h6⟩
  · left
    exact List.eq_nil_of_length_eq_zero (by rw [h.1, h0, Nat.zero_mul])
  · right
    injection hv with e1 e2 e3
    subst e1
    refine ⟨g, o, rfl, fun j u hu => ?_⟩
    rw [← h6, List.getElem?_take] at hu
    split at hu
    · simp only [World.cell?, h2]
      simpa using hu
    · cases hu
theorem RwAt.src (h : RwAt w e size v n xs) {tx e' : TypeId} (hk : P.underlying tx = some (.slice e')) (h1 : ∀ u ∈ xs, u.oneCell' = true) : Src P size tx v n xs w := by
  obtain ⟨A, c, rfl, -, -⟩ := h.slice
  cases A with
  | none =>
    rcases h.2 with ⟨hv, h0⟩ | ⟨g, o, cap, cur, hv, _⟩
    · subst h0
      have : xs = [] := List.eq_nil_of_length_eq_zero (by rw [h.1, Nat.zero_mul])
      subst this
      exact Src.ofNil w hk c
    · cases hv
  | some a =>
    refine Src.ofSlice w hk a n c xs h.1 (fun j u hu => ?_) h1
    rcases h.cells with h0 | ⟨b, o, hA, hc⟩
    · subst h0; cases hu
    · injection hA with hA
      subst hA
      rw [add_off]; exact hc j u hu
theorem run_append_room_off (w : World) (t tx ty e : TypeId) (i : TypeInfo) (ht : P.underlying t = some (.slice e)) (hi : P.info? e = some i) (g o sLen sCap : Nat) (cur : Array Value) (hg : w.heap[g]? = some (.cells cur e (0, 0)))
    (x : Value) (m : Nat) (news : List Value) (hs : Src P i.size tx x m news w) (hroom : sLen + m ≤ sCap) (hfit : o + sLen * i.size + news.length ≤ cur.size) :
    (Builtin.append_ #[t, tx] ty #[.slice (some ⟨g, o, none⟩) sLen sCap, x]).run P w =
      .ok (.slice (some ⟨g, o, none⟩) (sLen + m) sCap) (w.setRow g (cur.toList.take (o + sLen * i.size) ++ news ++ cur.toList.drop (o + sLen * i.size + news.length)).toArray) := by
  have hst := run_storeCells_at P g (o + sLen * i.size) e news 0 cur w hg (by simpa using hfit) hs.one
  simp only [Nat.add_zero] at hst
  rcases hs.kind with ⟨e', hk⟩ | hk <;> simp [Builtin.append_, run_underlying ht, run_underlying hk, sizeOf, typeInfo, hi, hs.len, hroom, hs.cells, Addr.add_lit, hst]
/-- append onto a row of its own. -/
theorem rw_append (h : RwAt w e size v n xs) (t tx ty : TypeId) (i : TypeInfo) (z : Value) (bytes : Nat) (ht : P.underlying t = some (.slice e)) (hi : P.info? e = some i) (hz : i.zero = some z)
    (hsize : i.size = size) (hby : i.bytes = bytes) (hzs : z.cells.size = size)
    (x : Value) (m : Nat) (news : List Value) (hs : Src P size tx x m news w) (h63 : n + m ≤ maxLen) (hbytes : (n + m) * bytes ≤ 140737488355328) :
    ∃ A c w', (Builtin.append_ #[t, tx] ty #[v, x]).run P w = .ok (.slice A (n + m) c) w' ∧ RwAt w' e size (.slice A (n + m) c) (n + m) (xs ++ news) ∧ w.grownBy w' v.ownBlock ∧ (∀ b, Value.ownBlock (.slice A (n + m) c) = some b → v.ownBlock = some b ∨ w.heap.size ≤ b) := by
  subst hsize
  subst hby
  have hsmall : n + m ≤ 9223372036854775807 := by simp only [maxLen] at h63; omega
  have hlen : (xs ++ news).length = (n + m) * i.size := by rw [List.length_append, h.1, hs.newsLen, Nat.add_mul]
  have grown : ∀ (old : Nat) (row : Option Nat), RwAt (w.drew.alloc (.cells ((xs ++ news).toArray ++ Builtin.zeroCells z.cells (grownCap w (n + m) old e - (n + m))) e)) e i.size
        (.slice (some ⟨w.heap.size, 0, none⟩) (n + m) (grownCap w (n + m) old e)) (n + m) (xs ++ news) ∧
      w.grownBy (w.drew.alloc (.cells ((xs ++ news).toArray ++ Builtin.zeroCells z.cells (grownCap w (n + m) old e - (n + m))) e)) row ∧
      (∀ b, Value.ownBlock (.slice (some ⟨w.heap.size, 0, none⟩) (n + m) (grownCap w (n + m) old e)) = some b → v.ownBlock = some b ∨ w.heap.size ≤ b) := by
    intro old row
    have hge := grownCap_ge w (n + m) old e
    have hcm : grownCap w (n + m) old e ≤ maxLen := grownCap_le_maxLen w (n + m) old e h63
    refine ⟨⟨hlen, .inr ⟨w.heap.size, 0, _, _, rfl, heap_alloc_new w.drew _, hge, hcm, ?_, ?_⟩⟩, ⟨rfl, rfl, rfl, by simp, fun k hk _ => heap_alloc_old w.drew _ k hk⟩, fun b hb => ?_⟩
    · simp only [Array.size_append, List.size_toArray, size_zeroCells, hzs, hlen, ← Nat.add_mul, Nat.zero_add]
      exact Nat.mul_le_mul_right _ (by omega)
    · simp only [Array.toList_append, List.drop_zero]
      rw [← hlen]
      exact List.take_left
    · simp [Value.ownBlock] at hb
      exact .inr (by omega)
  rcases h.2 with ⟨rfl, rfl⟩ | ⟨g, o, cap, cur, rfl, hg, hnc, hcm, hcs, htake⟩
  · have hx : xs = [] := List.eq_nil_of_length_eq_zero (by simpa using h.1)
    subst hx
    by_cases hm : m = 0
    · subst hm
      have hn : news = [] := List.eq_nil_of_length_eq_zero (by simpa using hs.newsLen)
      subst hn
      refine ⟨none, 0, w, ?_, RwAt.nil w e i.size, ⟨rfl, rfl, rfl, Nat.le_refl _, fun _ _ _ => rfl⟩, fun b hb => by simp [Value.ownBlock] at hb⟩
      have hc := hs.cells
      rcases hs.kind with ⟨e', hk⟩ | hk <;> simp [Builtin.append_, run_underlying ht, run_underlying hk, sizeOf, typeInfo, hi, hs.len, hc]
    · have hr := run_append_grow_src (P := P) w t tx ty e i z ht hi hz none 0 0 [] (run_firstCells_none w.drew i.size 0 0 0) x m news hs (by omega) (by omega) (growslice_fits (by omega) hbytes)
      obtain ⟨g1, g2, g3⟩ := grown 0 (Value.ownBlock (.slice none 0 0))
      exact ⟨_, _, _, hr, g1, g2, g3⟩
  · by_cases hroom : n + m ≤ cap
    · have hmul : (n + m) * i.size ≤ cap * i.size := Nat.mul_le_mul_right _ hroom
      rw [Nat.add_mul] at hmul
      have hnl := hs.newsLen
      have hfit : o + n * i.size + news.length ≤ cur.size := by rw [hs.newsLen]; omega
      have hr := run_append_room_off (P := P) w t tx ty e i ht hi g o n cap cur hg x m news hs hroom hfit
      refine ⟨_, _, _, hr, ⟨hlen, .inr ⟨g, o, cap, _, rfl, setRow_heap w g cur _ e _ hg, hroom, hcm, ?_, ?_⟩⟩, ⟨rfl, rfl, rfl, by simp, fun k _ hk => setRow_other w g k _ (fun e => hk (by simp [Value.ownBlock, e]))⟩, fun b hb => .inl hb⟩
      · simp only [List.size_toArray, List.length_append, List.length_take, List.length_drop, Array.length_toList]
        omega
      · have hco : o ≤ cur.toList.length := by simp; omega
        have e1 : cur.toList.take (o + n * i.size) = cur.toList.take o ++ xs := by
          rw [← htake, List.take_add]
        show ((cur.toList.take (o + n * i.size) ++ news ++ cur.toList.drop (o + n * i.size + news.length)).drop o).take ((n + m) * i.size) = xs ++ news
        rw [e1, List.append_assoc, List.append_assoc, List.drop_append_of_le_length (by rw [List.length_take]; omega)]
        have e2 : (cur.toList.take o).drop o = [] := List.drop_eq_nil_of_le (by rw [List.length_take]; omega)
        rw [e2, List.nil_append, ← List.append_assoc, ← hlen]
        exact List.take_left
    · have hcl : ∀ j u, xs[j]? = some u → w.drew.cell? ((⟨g, o, none⟩ : Addr).add j) = some u := fun j u hu => by
        rcases h.cells with h0 | ⟨b, o', hA, hc⟩
        · subst h0; cases hu
        · injection hA with hA
          injection hA with e1 e2 e3
          subst e1 e2
          rw [add_off]; exact hc j u hu
      have hr := run_append_grow_src (P := P) w t tx ty e i z ht hi hz (some ⟨g, o, none⟩) n cap xs (run_firstCells_some w.drew i.size n ⟨g, o, none⟩ n cap xs h.1 hcl) x m news hs (by omega) (by omega) (growslice_fits (by omega) hbytes)
      obtain ⟨g1, g2, g3⟩ := grown cap (Value.ownBlock (.slice (some ⟨g, o, none⟩) n cap))
      exact ⟨_, _, _, hr, g1, g2, g3⟩
/-- What is behind the first. -/
theorem RwAt.tail {g o c : Nat} {hd tl : List Value} (h : RwAt w e size (.slice (some ⟨g, o, none⟩) (n + 1) c) (n + 1) (hd ++ tl)) (hh : hd.length = size) : RwAt w e size (.slice (some (if c = 1 then ⟨g, o, none⟩ else ⟨g, o + size, none⟩)) n (c - 1)) n tl := by
  have hl := h.1
  rw [List.length_append, hh, Nat.add_mul, Nat.one_mul] at hl
  rcases h.2 with ⟨hv, _⟩ | ⟨g', o', cap, cur, hv, h2, h3, h4, h5, h6⟩
  · cases hv
  · injection hv with e1 e2 e3
    injection e1 with e1
    injection e1 with e1 e4 e5
    subst e1 e3 e4
    refine ⟨by omega, .inr ?_⟩
    have hms : c * size = (c - 1) * size + size := by
      rw [← Nat.succ_mul]; congr 1; omega
    have hc : (cur.toList.drop o).take ((n + 1) * size) = hd ++ tl := h6
    by_cases hc1 : c = 1
    · rw [if_pos hc1]
      have hn0 : n = 0 := by omega
      subst hn0
      have : tl = [] := List.eq_nil_of_length_eq_zero (by omega)
      subst this
      refine ⟨g, o, c - 1, cur, rfl, h2, by omega, by omega, by omega, by simp⟩
    · rw [if_neg hc1]
      refine ⟨g, o + size, c - 1, cur, rfl, h2, by omega, by omega, by omega, ?_⟩
      have e7 : (cur.toList.drop (o + size)).take (n * size) = ((cur.toList.drop o).take ((n + 1) * size)).drop size := by
        rw [List.drop_take, List.drop_drop, Nat.add_mul, Nat.one_mul, Nat.add_sub_cancel]
      rw [e7, hc, ← hh]
      exact List.drop_left
end
end Go.Proofs.YthadeccnibnioaaGreatDoor

/- The document's All, plain: states in a row; how a node runs. -/
namespace Go.Proofs.YthadeccnibnioaaGreatDoor
set_option linter.unusedVariables false
inductive Fa2 {α β : Type} (R : α → β → Prop) : List α → List β → Prop where
  | nil : Fa2 R [] []
  | cons {a : α} {b : β} {l : List α} {m : List β} (h : R a b) (t : Fa2 R l m) : Fa2 R (a :: l) (b :: m)
theorem fa_map {α β : Type} {R S : α → β → Prop} {a : List α} {b : List β} (h : Fa2 R a b) (hs : ∀ x y, x ∈ a → R x y → S x y) : Fa2 S a b := by
  induction h with
  | nil => exact .nil
  | cons h1 _ ih => exact .cons (hs _ _ (by simp) h1) (ih (fun x y hx => hs x y (by simp [hx])))
theorem fa_len {α β : Type} {R : α → β → Prop} {a : List α} {b : List β} (h : Fa2 R a b) : a.length = b.length := by
  induction h with
  | nil => rfl
  | cons _ _ ih => simp [ih]
theorem fa_append {α β : Type} {R : α → β → Prop} {a c : List α} {b d : List β} (h : Fa2 R a b) (h' : Fa2 R c d) : Fa2 R (a ++ c) (b ++ d) := by
  induction h with
  | nil => exact h'
  | cons h1 _ ih => exact .cons h1 ih
theorem fa_get {α β : Type} {R : α → β → Prop} : ∀ {a : List α} {b : List β}, Fa2 R a b → ∀ (i : Nat) (h : i < a.length) (h' : i < b.length), R a[i] b[i]
  | _, _, .nil, i, h, _ => by simp at h
  | _, _, .cons h1 _, 0, _, _ => h1
  | _, _, .cons _ t, i + 1, h, h' => fa_get t i (by simpa using h) (by simpa using h')
/-- Where the state of a key stands, or -1. -/
def atH (key : ByteArray) (HL : List Hd) : Nat → Int
  | 0 => -1
  | t + 1 => if (HL.getD t hd0).key = key then (t : Int) else atH key HL t
structure StIs (HL : List Hd) (σ : Sts) : Prop where
  yes : ∀ (i : Nat) (h : i < HL.length), σ HL[i].key = some HL[i]
  no : ∀ k, (∀ h ∈ HL, h.key ≠ k) → σ k = none
theorem stIs_nil : StIs [] (fun _ => none) := ⟨fun i h => by simp at h, fun _ _ => rfl⟩
theorem atH_le (key : ByteArray) (HL : List Hd) : ∀ t, t ≤ HL.length → (atH key HL t = -1 ∧ ∀ i (h : i < HL.length), i < t → HL[i].key ≠ key) ∨ ∃ (i : Nat) (h : i < HL.length), i < t ∧ atH key HL t = i ∧ HL[i].key = key
  | 0, _ => .inl ⟨rfl, fun i h h' => by omega⟩
  | t + 1, ht => by
    rw [atH]
    have e : HL.getD t hd0 = HL[t]'(by omega) := by simp [List.getD, show t < HL.length by omega]
    rw [e]
    split
    · rename_i hk
      exact .inr ⟨t, by omega, by omega, rfl, hk⟩
    · rename_i hk
      rcases atH_le key HL t (by omega) with ⟨h1, h2⟩ | ⟨i, h, h1, h2, h3⟩
      · refine .inl ⟨h1, fun i h h' => ?_⟩
        by_cases hi : i = t
        · subst hi; exact hk
        · exact h2 i h (by omega)
      · exact .inr ⟨i, h, by omega, h2, h3⟩
theorem stIs_at {HL : List Hd} {σ : Sts} (h : StIs HL σ) (key : ByteArray) : (atH key HL HL.length = -1 ∧ σ key = none) ∨ ∃ (i : Nat) (hi : i < HL.length), atH key HL HL.length = i ∧ HL[i].key = key ∧ σ key = some HL[i] := by
  rcases atH_le key HL HL.length (Nat.le_refl _) with ⟨h1, h2⟩ | ⟨i, hi, h1, h2, h3⟩
  · refine .inl ⟨h1, h.no key (fun x hx => ?_)⟩
    obtain ⟨i, hi, rfl⟩ := List.getElem_of_mem hx
    exact h2 i hi hi
  · exact .inr ⟨i, hi, h2, h3, by rw [← h3]; exact h.yes i hi⟩
/-- A state more. -/
theorem stIs_app {HL : List Hd} {σ : Sts} (h : StIs HL σ) {x : Hd} (hn : σ x.key = none) : StIs (HL ++ [x]) (fun k => if k = x.key then some x else σ k) := by
  refine ⟨fun i hi => ?_, fun k hk => ?_⟩
  · by_cases hl : i < HL.length
    · rw [List.getElem_append_left hl]
      rw [if_neg (fun e => by have := h.yes i hl; rw [e, hn] at this; cases this)]
      exact h.yes i hl
    · have : i = HL.length := by rw [List.length_append, List.length_singleton] at hi; omega
      subst this
      simp
  · rw [if_neg (fun e => hk x (by simp) e.symm)]
    exact h.no k (fun y hy => hk y (by simp [hy]))
/-- A state anew. -/
theorem stIs_set {HL : List Hd} {σ : Sts} (h : StIs HL σ) {i : Nat} (hi : i < HL.length) {x : Hd} (hk : x.key = HL[i].key) (hu : ∀ (a b : Nat) (ha : a < HL.length) (hb : b < HL.length), HL[a].key = HL[b].key → a = b) : StIs (HL.set i x) (fun k => if k = x.key then some x else σ k) := by
  refine ⟨fun j hj => ?_, fun k hk' => ?_⟩
  · rw [List.length_set] at hj
    rw [List.getElem_set]
    by_cases e : i = j
    · subst e; simp
    · rw [if_neg e]
      rw [if_neg (fun e' => e (hu i j hi hj (by rw [← hk, e'])))]
      exact h.yes j hj
  · have hkx : x.key ≠ k := hk' x (List.mem_set hi _)
    rw [if_neg (fun e => hkx e.symm)]
    refine h.no k (fun y hy => ?_)
    obtain ⟨j, hj, rfl⟩ := List.getElem_of_mem hy
    by_cases e : i = j
    · subst e; rw [← hk]; exact hkx
    · have h9 := hk' HL[j] (by
        have : (HL.set i x)[j]'(by rw [List.length_set]; exact hj) = HL[j] := by rw [List.getElem_set, if_neg e]
        rw [← this]; exact List.getElem_mem _)
      exact h9
def UqH (HL : List Hd) : Prop := ∀ (a b : Nat) (ha : a < HL.length) (hb : b < HL.length), HL[a].key = HL[b].key → a = b
theorem uq_app {HL : List Hd} {σ : Sts} (h : StIs HL σ) (hu : UqH HL) {x : Hd} (hn : σ x.key = none) : UqH (HL ++ [x]) := by
  intro a b ha hb e
  rw [List.length_append, List.length_singleton] at ha hb
  by_cases h1 : a < HL.length
  · rw [List.getElem_append_left h1] at e
    by_cases h2 : b < HL.length
    · rw [List.getElem_append_left h2] at e
      exact hu a b h1 h2 e
    · have : b = HL.length := by omega
      subst this
      simp at e
      have := h.yes a h1
      rw [e, hn] at this; cases this
  · have : a = HL.length := by omega
    subst this
    by_cases h2 : b < HL.length
    · rw [List.getElem_append_left h2] at e
      simp at e
      have := h.yes b h2
      rw [← e, hn] at this; cases this
    · omega
theorem uq_set {HL : List Hd} (hu : UqH HL) {i : Nat} (hi : i < HL.length) {x : Hd} (hk : x.key = HL[i].key) : UqH (HL.set i x) := by
  have hkey : ∀ (j : Nat) (hj : j < HL.length), ((HL.set i x)[j]'(by rw [List.length_set]; exact hj)).key = HL[j].key := fun j hj => by
    rw [List.getElem_set]
    by_cases e : i = j
    · subst e; rw [if_pos rfl]; exact hk
    · rw [if_neg e]
  intro a b ha hb e
  rw [List.length_set] at ha hb
  rw [hkey a ha, hkey b hb] at e
  exact hu a b ha hb e
theorem docRun_snoc (nd : Nd) (xs : List (Rc × Int)) (x : Rc × Int) : docRun nd (xs ++ [x]) = docStep nd (docRun nd xs) x := by simp [docRun]
theorem tag_next (G : List (List Rc)) (k : Nat) (h : k < G.length) : tagP 0 (G.take (k + 1)) = tagP 0 (G.take k) ++ G[k].map (fun x => (x, (k : Int))) := by
  rw [List.take_succ_eq_append_getElem h, tag_append, List.length_take, Nat.min_eq_left (by omega), Nat.zero_add]
  simp [tagP]
theorem docA_len {nd : Nd} (hn : nd.n ≤ 1000) (h : Hd) (has : Bool) (r : Rc) (i : Int) : (docA nd h has r i).1.length ≤ 1000 := by
  unfold docA
  repeat' split
  all_goals simp only
  all_goals (repeat' split)
  all_goals (simp <;> omega)
theorem docRun_len {nd : Nd} (hn : nd.n ≤ 1000) (xs : List (Rc × Int)) : (docRun nd xs).1.length ≤ 1000 * xs.length := by
  have H : ∀ R : List (Rc × Int), (docRun nd R.reverse).1.length ≤ 1000 * R.length := by
    intro R
    induction R with
    | nil => simp [docRun]
    | cons x R ih =>
      rw [List.reverse_cons, docRun_snoc]
      unfold docStep
      simp only [List.length_append, List.length_cons]
      have := docA_len hn (((docRun nd R.reverse).2 x.1.key).getD hd0) ((docRun nd R.reverse).2 x.1.key).isSome x.1 x.2
      omega
  have := H xs.reverse
  simpa using this
theorem doc_more {ah : List Nd} {nd : Nd} (hd : nodeP ah nd = 0) (xs ys : List (Rc × Int)) : (docRun nd xs).1.length ≤ (docRun nd (xs ++ ys)).1.length := by
  rw [doc_run hd, doc_run hd]; exact run_len nd xs ys
theorem doc_ok {ah : List Nd} {nd : Nd} (hd : nodeP ah nd = 0) (xs : List (Rc × Int)) (h : ∀ x ∈ xs, RcOk x.1) : (∀ y ∈ (docRun nd xs).1, RcOk y) ∧ StOk (docRun nd xs).2 := by
  rw [doc_run hd]; exact run_ok nd xs h
theorem docA_key (nd : Nd) (h : Hd) (has : Bool) (r : Rc) (i : Int) (hs : (docA nd h has r i).2.2 = true) : (docA nd h has r i).2.1.key = r.key := by
  unfold docA at *
  repeat' split
  all_goals first | (simp_all; done) | (simp_all; split <;> rfl)
theorem docA_has (nd : Nd) (h : Hd) (r : Rc) (i : Int) : (docA nd h true r i).2.2 = true := by
  unfold docA
  repeat' split
  all_goals first | rfl | (dsimp only; split <;> rfl)
theorem docFlow_some {nd : Nd} {l : List Nd} {D hs : List (List Rc)} {mine : List Rc} (hm : mine = if nd.k = 1 then D.headD [] else (docRun nd (tagP 0 (fromsP nd hs))).1) (hc : ¬ (nd.k ≠ 1 ∧ nd.k ≠ 10 ∧ 2000 < mine.length)) : docFlow (nd :: l) D hs = docFlow l (restP nd D) (hs ++ [mine]) := by
  rw [docFlow, ← hm, if_neg hc]
theorem docFlow_none {nd : Nd} {l : List Nd} {D hs : List (List Rc)} (h1 : nd.k ≠ 1) (h2 : nd.k ≠ 10) (h3 : 2000 < (docRun nd (tagP 0 (fromsP nd hs))).1.length) : docFlow (nd :: l) D hs = none := by
  rw [docFlow, if_neg h1, if_pos ⟨h1, h2, h3⟩]
end Go.Proofs.YthadeccnibnioaaGreatDoor

/- The document's Lines, plain: by places. -/
namespace Go.Proofs.YthadeccnibnioaaGreatDoor
set_option linter.unusedVariables false
/-- How many lines ahead have lesser keys. -/
def ltC (key : ByteArray) : List Ln → Nat
  | [] => 0
  | l :: t => if klt l.1 key then ltC key t + 1 else 0
theorem ltC_le (key : ByteArray) : ∀ ls : List Ln, ltC key ls ≤ ls.length
  | [] => Nat.le_refl _
  | l :: t => by
    rw [ltC]
    split
    · have := ltC_le key t; simp; omega
    · simp
theorem ltC_lt {key : ByteArray} : ∀ {ls : List Ln} {k : Nat}, k < ltC key ls → ∃ h : k < ls.length, klt ls[k].1 key = true
  | [], k, h => by simp [ltC] at h
  | l :: t, k, h => by
    rw [ltC] at h
    split at h
    · rename_i hl
      cases k with
      | zero => exact ⟨by simp, hl⟩
      | succ k =>
        obtain ⟨h1, h2⟩ := ltC_lt (key := key) (ls := t) (k := k) (by omega)
        exact ⟨by simpa using h1, by simpa using h2⟩
    · omega
theorem ltC_at {key : ByteArray} : ∀ {ls : List Ln} (h : ltC key ls < ls.length), klt ls[ltC key ls].1 key = false
  | [], h => by simp at h
  | l :: t, h => by
    by_cases hl : klt l.1 key = true
    · have e : ltC key (l :: t) = ltC key t + 1 := by rw [ltC, if_pos hl]
      have h' : ltC key t < t.length := by rw [e] at h; simpa using h
      have := ltC_at (key := key) (ls := t) h'
      simp only [e, List.getElem_cons_succ]
      exact this
    · have e : ltC key (l :: t) = 0 := by rw [ltC, if_neg hl]
      simp only [e, List.getElem_cons_zero]
      simpa using hl
def insL (p : Nat) (key : ByteArray) (ls : List Ln) : List Ln := ls.take p ++ (key, []) :: ls.drop p
theorem lnAdd_new (r : Rc) : ∀ (ls : List Ln), (∀ h : ltC r.key ls < ls.length, ls[ltC r.key ls].1 ≠ r.key) → lnAdd r ls = (insL (ltC r.key ls) r.key ls).set (ltC r.key ls) (r.key, [r.num])
  | [], _ => by simp [lnAdd, insL, ltC]
  | l :: t, hn => by
    by_cases hl : klt l.1 r.key = true
    · have e : ltC r.key (l :: t) = ltC r.key t + 1 := by rw [ltC, if_pos hl]
      have ih := lnAdd_new r t (fun h => by
        have := hn (by rw [e]; simpa using h)
        simpa only [e, List.getElem_cons_succ] using this)
      obtain ⟨q, ns⟩ := l
      rw [lnAdd, if_pos hl, ih, e]
      simp [insL]
    · have e : ltC r.key (l :: t) = 0 := by rw [ltC, if_neg hl]
      have hne := hn (by rw [e]; simp)
      simp only [e, List.getElem_cons_zero] at hne
      obtain ⟨q, ns⟩ := l
      rw [lnAdd, if_neg hl, if_neg hne, e]
      simp [insL]
theorem lnAdd_old (r : Rc) : ∀ (ls : List Ln) (h : ltC r.key ls < ls.length), ls[ltC r.key ls].1 = r.key → lnAdd r ls = ls.set (ltC r.key ls) (r.key, ls[ltC r.key ls].2 ++ [r.num])
  | [], h, _ => by simp at h
  | l :: t, h, hk => by
    by_cases hl : klt l.1 r.key = true
    · have e : ltC r.key (l :: t) = ltC r.key t + 1 := by rw [ltC, if_pos hl]
      have h' : ltC r.key t < t.length := by rw [e] at h; simpa using h
      have hk' : t[ltC r.key t].1 = r.key := by simpa only [e, List.getElem_cons_succ] using hk
      have ih := lnAdd_old r t h' hk'
      obtain ⟨q, ns⟩ := l
      rw [lnAdd, if_pos hl, ih]
      simp only [e, List.set_cons_succ, List.getElem_cons_succ]
    · have e : ltC r.key (l :: t) = 0 := by rw [ltC, if_neg hl]
      simp only [e, List.getElem_cons_zero] at hk
      obtain ⟨q, ns⟩ := l
      simp only at hk
      rw [lnAdd, if_neg hl, if_pos hk]
      simp only [e, List.set_cons_zero, List.getElem_cons_zero]
      rw [hk]
theorem insL_at (p : Nat) (key : ByteArray) (ls : List Ln) (hp : p ≤ ls.length) : ∃ h : p < (insL p key ls).length, (insL p key ls)[p] = (key, []) := by
  have hl : (ls.take p).length = p := by rw [List.length_take]; omega
  refine ⟨by simp [insL]; omega, ?_⟩
  unfold insL
  rw [List.getElem_append_right (by omega)]
  simp [hl]
theorem docLines_snoc (l : List Rc) (r : Rc) : docLines (l ++ [r]) = lnAdd r (docLines l) := by simp [docLines]
theorem lnAdd_len (r : Rc) : ∀ ls : List Ln, (lnAdd r ls).length ≤ ls.length + 1
  | [] => by simp [lnAdd]
  | (q, ns) :: t => by
    rw [lnAdd]
    split
    · have := lnAdd_len r t; simp; omega
    · split <;> simp
theorem docLines_len (l : List Rc) : (docLines l).length ≤ l.length := by
  have H : ∀ R : List Rc, (docLines R.reverse).length ≤ R.length := by
    intro R
    induction R with
    | nil => simp [docLines]
    | cons x R ih =>
      rw [List.reverse_cons, docLines_snoc]
      have := lnAdd_len x (docLines R.reverse)
      simp; omega
  have := H l.reverse
  simpa using this
end Go.Proofs.YthadeccnibnioaaGreatDoor
