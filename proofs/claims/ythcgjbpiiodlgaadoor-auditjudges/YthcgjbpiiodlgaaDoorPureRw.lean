/- Rows that a thing owns, which may begin within their block; append, and what is cut off ahead. -/
import Derived.Deep.AppendSrc
import Derived.Deep.AppendLies
import Derived.Below
namespace Go.Proofs.YthcgjbpiiodlgaaDoor
open Go Go.RowKit
set_option linter.unusedVariables false

def RwAt (w : World) (e : TypeId) (size : Nat) (v : Value) (n : Nat) (xs : List Value) : Prop :=
  xs.length = n * size ∧ ((v = .slice none 0 0 ∧ n = 0) ∨
    ∃ g o cap cur, v = .slice (some ⟨g, o, none⟩) n cap ∧ w.heap[g]? = some (.cells cur e (0, 0)) ∧ n ≤ cap ∧ cap ≤ maxLen ∧ o + cap * size ≤ cur.size ∧ (cur.toList.drop o).take (n * size) = xs)
section
variable {P : Program} {w w' : World} {e : TypeId} {size : Nat} {v : Value} {n : Nat} {xs : List Value}
theorem RwAt.nil (w : World) (e : TypeId) (size : Nat) : RwAt w e size (.slice none 0 0) 0 [] := ⟨by simp, .inl ⟨rfl, rfl⟩⟩
theorem RwAt.lt (h : RwAt w e size v n xs) {b : Nat} (hb : v.ownBlock = some b) : b < w.heap.size ∧ ∃ cur, w.heap[b]? = some (.cells cur e (0, 0)) := by
  rcases h.2 with ⟨rfl, _⟩ | ⟨g, o, cap, cur, rfl, h2, _⟩
  · simp [Value.ownBlock] at hb
  · simp [Value.ownBlock] at hb
    subst hb
    exact ⟨(Array.getElem?_eq_some_iff.1 h2).1, cur, h2⟩
theorem RwAt.block (h : RwAt w e size v n xs) (hb : ∀ b, v.ownBlock = some b → w'.heap[b]? = w.heap[b]?) : RwAt w' e size v n xs := by
  refine ⟨h.1, ?_⟩
  rcases h.2 with hn | ⟨g, o, cap, cur, rfl, h2, h3⟩
  · exact .inl hn
  · exact .inr ⟨g, o, cap, cur, rfl, by rw [hb g rfl]; exact h2, h3⟩
theorem RwAt.keep (h : RwAt w e size v n xs) (hb : Below w.heap.size w w') : RwAt w' e size v n xs := h.block fun b hv => hb.block b (h.lt hv).1
theorem RwAt.slice (h : RwAt w e size v n xs) : ∃ A c, v = .slice A n c ∧ n ≤ c ∧ c ≤ maxLen := by
  rcases h.2 with ⟨rfl, h0⟩ | ⟨g, o, cap, cur, rfl, h2, h3, h4, _⟩
  · exact ⟨none, 0, by rw [h0], by omega, by simp⟩
  · exact ⟨_, cap, rfl, h3, h4⟩
theorem add_off (b o j : Nat) : (⟨b, o, none⟩ : Addr).add j = ⟨b, o + j, none⟩ := by unfold Addr.add; split <;> simp_all
/-- Its cells. -/
theorem RwAt.cells {A : Option Addr} {c : Nat} (h : RwAt w e size (.slice A n c) n xs) : xs = [] ∨ ∃ b o, A = some ⟨b, o, none⟩ ∧ ∀ j u, xs[j]? = some u → w.cell? ⟨b, o + j, none⟩ = some u := by
  rcases h.2 with ⟨hv, h0⟩ | ⟨g, o, cap, cur, hv, h2, h3, h4, h5, h6⟩
  · left
    exact List.eq_nil_of_length_eq_zero (by rw [h.1, h0, Nat.zero_mul])
  · right
    injection hv with e1 e2 e3
    subst e1
    refine ⟨g, o, rfl, fun j u hu => ?_⟩
    rw [← h6, List.getElem?_take] at hu
    split at hu
    · simp only [World.cell?, h2]
      simpa using hu
    · cases hu
theorem RwAt.src (h : RwAt w e size v n xs) {tx e' : TypeId} (hk : P.underlying tx = some (.slice e')) (h1 : ∀ u ∈ xs, u.oneCell' = true) : Src P size tx v n xs w := by
  obtain ⟨A, c, rfl, -, -⟩ := h.slice
  cases A with
  | none =>
    rcases h.2 with ⟨hv, h0⟩ | ⟨g, o, cap, cur, hv, _⟩
    · subst h0
      have : xs = [] := List.eq_nil_of_length_eq_zero (by rw [h.1, Nat.zero_mul])
      subst this
      exact Src.ofNil w hk c
    · cases hv
  | some a =>
    refine Src.ofSlice w hk a n c xs h.1 (fun j u hu => ?_) h1
    rcases h.cells with h0 | ⟨b, o, hA, hc⟩
    · subst h0; cases hu
    · injection hA with hA
      subst hA
      rw [add_off]; exact hc j u hu
theorem run_append_room_off (w : World) (t tx ty e : TypeId) (i : TypeInfo) (ht : P.underlying t = some (.slice e)) (hi : P.info? e = some i) (g o sLen sCap : Nat) (cur : Array Value) (hg : w.heap[g]? = some (.cells cur e (0, 0)))
    (x : Value) (m : Nat) (news : List Value) (hs : Src P i.size tx x m news w) (hroom : sLen + m ≤ sCap) (hfit : o + sLen * i.size + news.length ≤ cur.size) :
    (Builtin.append_ #[t, tx] ty #[.slice (some ⟨g, o, none⟩) sLen sCap, x]).run P w =
      .ok (.slice (some ⟨g, o, none⟩) (sLen + m) sCap) (w.setRow g (cur.toList.take (o + sLen * i.size) ++ news ++ cur.toList.drop (o + sLen * i.size + news.length)).toArray) := by
  have hst := run_storeCells_at P g (o + sLen * i.size) e news 0 cur w hg (by simpa using hfit) hs.one
  simp only [Nat.add_zero] at hst
  rcases hs.kind with ⟨e', hk⟩ | hk <;> simp [Builtin.append_, run_underlying ht, run_underlying hk, sizeOf, typeInfo, hi, hs.len, hroom, hs.cells, Addr.add_lit, hst]
/-- append onto a row of its own. -/
theorem rw_append (h : RwAt w e size v n xs) (t tx ty : TypeId) (i : TypeInfo) (z : Value) (bytes : Nat) (ht : P.underlying t = some (.slice e)) (hi : P.info? e = some i) (hz : i.zero = some z)
    (hsize : i.size = size) (hby : i.bytes = bytes) (hzs : z.cells.size = size)
    (x : Value) (m : Nat) (news : List Value) (hs : Src P size tx x m news w) (h63 : n + m ≤ maxLen) (hbytes : (n + m) * bytes ≤ 140737488355328) :
    ∃ A c w', (Builtin.append_ #[t, tx] ty #[v, x]).run P w = .ok (.slice A (n + m) c) w' ∧ RwAt w' e size (.slice A (n + m) c) (n + m) (xs ++ news) ∧ w.grownBy w' v.ownBlock ∧ (∀ b, Value.ownBlock (.slice A (n + m) c) = some b → v.ownBlock = some b ∨ w.heap.size ≤ b) := by
  subst hsize
  subst hby
  have hsmall : n + m ≤ 9223372036854775807 := by simp only [maxLen] at h63; omega
  have hlen : (xs ++ news).length = (n + m) * i.size := by rw [List.length_append, h.1, hs.newsLen, Nat.add_mul]
  have grown : ∀ (old : Nat) (row : Option Nat), RwAt (w.drew.alloc (.cells ((xs ++ news).toArray ++ Builtin.zeroCells z.cells (grownCap w (n + m) old e - (n + m))) e)) e i.size
        (.slice (some ⟨w.heap.size, 0, none⟩) (n + m) (grownCap w (n + m) old e)) (n + m) (xs ++ news) ∧
      w.grownBy (w.drew.alloc (.cells ((xs ++ news).toArray ++ Builtin.zeroCells z.cells (grownCap w (n + m) old e - (n + m))) e)) row ∧
      (∀ b, Value.ownBlock (.slice (some ⟨w.heap.size, 0, none⟩) (n + m) (grownCap w (n + m) old e)) = some b → v.ownBlock = some b ∨ w.heap.size ≤ b) := by
    intro old row
    have hge := grownCap_ge w (n + m) old e
    have hcm : grownCap w (n + m) old e ≤ maxLen := grownCap_le_maxLen w (n + m) old e h63
    refine ⟨⟨hlen, .inr ⟨w.heap.size, 0, _, _, rfl, heap_alloc_new w.drew _, hge, hcm, ?_, ?_⟩⟩, ⟨rfl, rfl, rfl, by simp, fun k hk _ => heap_alloc_old w.drew _ k hk⟩, fun b hb => ?_⟩
    · simp only [Array.size_append, List.size_toArray, size_zeroCells, hzs, hlen, ← Nat.add_mul, Nat.zero_add]
      exact Nat.mul_le_mul_right _ (by omega)
    · simp only [Array.toList_append, List.drop_zero]
      rw [← hlen]
      exact List.take_left
    · simp [Value.ownBlock] at hb
      exact .inr (by omega)
  rcases h.2 with ⟨rfl, rfl⟩ | ⟨g, o, cap, cur, rfl, hg, hnc, hcm, hcs, htake⟩
  · have hx : xs = [] := List.eq_nil_of_length_eq_zero (by simpa using h.1)
    subst hx
    by_cases hm : m = 0
    · subst hm
      have hn : news = [] := List.eq_nil_of_length_eq_zero (by simpa using hs.newsLen)
      subst hn
      refine ⟨none, 0, w, ?_, RwAt.nil w e i.size, ⟨rfl, rfl, rfl, Nat.le_refl _, fun _ _ _ => rfl⟩, fun b hb => by simp [Value.ownBlock] at hb⟩
      have hc := hs.cells
      rcases hs.kind with ⟨e', hk⟩ | hk <;> simp [Builtin.append_, run_underlying ht, run_underlying hk, sizeOf, typeInfo, hi, hs.len, hc]
    · have hr := run_append_grow_src (P := P) w t tx ty e i z ht hi hz none 0 0 [] (run_firstCells_none w.drew i.size 0 0 0) x m news hs (by omega) (by omega) (growslice_fits (by omega) hbytes)
      obtain ⟨g1, g2, g3⟩ := grown 0 (Value.ownBlock (.slice none 0 0))
      exact ⟨_, _, _, hr, g1, g2, g3⟩
  · by_cases hroom : n + m ≤ cap
    · have hmul : (n + m) * i.size ≤ cap * i.size := Nat.mul_le_mul_right _ hroom
      rw [Nat.add_mul] at hmul
      have hnl := hs.newsLen
      have hfit : o + n * i.size + news.length ≤ cur.size := by rw [hs.newsLen]; omega
      have hr := run_append_room_off (P := P) w t tx ty e i ht hi g o n cap cur hg x m news hs hroom hfit
      refine ⟨_, _, _, hr, ⟨hlen, .inr ⟨g, o, cap, _, rfl, setRow_heap w g cur _ e _ hg, hroom, hcm, ?_, ?_⟩⟩, ⟨rfl, rfl, rfl, by simp, fun k _ hk => setRow_other w g k _ (fun e => hk (by simp [Value.ownBlock, e]))⟩, fun b hb => .inl hb⟩
      · simp only [List.size_toArray, List.length_append, List.length_take, List.length_drop, Array.length_toList]
        omega
      · have hco : o ≤ cur.toList.length := by simp; omega
        have e1 : cur.toList.take (o + n * i.size) = cur.toList.take o ++ xs := by
          rw [← htake, List.take_add]
        show ((cur.toList.take (o + n * i.size) ++ news ++ cur.toList.drop (o + n * i.size + news.length)).drop o).take ((n + m) * i.size) = xs ++ news
        rw [e1, List.append_assoc, List.append_assoc, List.drop_append_of_le_length (by rw [List.length_take]; omega)]
        have e2 : (cur.toList.take o).drop o = [] := List.drop_eq_nil_of_le (by rw [List.length_take]; omega)
        rw [e2, List.nil_append, ← List.append_assoc, ← hlen]
        exact List.take_left
    · have hcl : ∀ j u, xs[j]? = some u → w.drew.cell? ((⟨g, o, none⟩ : Addr).add j) = some u := fun j u hu => by
        rcases h.cells with h0 | ⟨b, o', hA, hc⟩
        · subst h0; cases hu
        · injection hA with hA
          injection hA with e1 e2 e3
          subst e1 e2
          rw [add_off]; exact hc j u hu
      have hr := run_append_grow_src (P := P) w t tx ty e i z ht hi hz (some ⟨g, o, none⟩) n cap xs (run_firstCells_some w.drew i.size n ⟨g, o, none⟩ n cap xs h.1 hcl) x m news hs (by omega) (by omega) (growslice_fits (by omega) hbytes)
      obtain ⟨g1, g2, g3⟩ := grown cap (Value.ownBlock (.slice (some ⟨g, o, none⟩) n cap))
      exact ⟨_, _, _, hr, g1, g2, g3⟩
/-- What is behind the first. -/
theorem RwAt.tail {g o c : Nat} {hd tl : List Value} (h : RwAt w e size (.slice (some ⟨g, o, none⟩) (n + 1) c) (n + 1) (hd ++ tl)) (hh : hd.length = size) : RwAt w e size (.slice (some (if c = 1 then ⟨g, o, none⟩ else ⟨g, o + size, none⟩)) n (c - 1)) n tl := by
  have hl := h.1
  rw [List.length_append, hh, Nat.add_mul, Nat.one_mul] at hl
  rcases h.2 with ⟨hv, _⟩ | ⟨g', o', cap, cur, hv, h2, h3, h4, h5, h6⟩
  · cases hv
  · injection hv with e1 e2 e3
    injection e1 with e1
    injection e1 with e1 e4 e5
    subst e1 e3 e4
    refine ⟨by omega, .inr ?_⟩
    have hms : c * size = (c - 1) * size + size := by
      rw [← Nat.succ_mul]; congr 1; omega
    have hc : (cur.toList.drop o).take ((n + 1) * size) = hd ++ tl := h6
    by_cases hc1 : c = 1
    · rw [if_pos hc1]
      have hn0 : n = 0 := by omega
      subst hn0
      have : tl = [] := List.eq_nil_of_length_eq_zero (by omega)
      subst this
      refine ⟨g, o, c - 1, cur, rfl, h2, by omega, by omega, by omega, by simp⟩
    · rw [if_neg hc1]
      refine ⟨g, o + size, c - 1, cur, rfl, h2, by omega, by omega, by omega, ?_⟩
      have e7 : (cur.toList.drop (o + size)).take (n * size) = ((cur.toList.drop o).take ((n + 1) * size)).drop size := by
        rw [List.drop_take, List.drop_drop, Nat.add_mul, Nat.one_mul, Nat.add_sub_cancel]
      rw [e7, hc, ← hh]
      exact List.drop_left
/-- The first cells anew: the rest stays. -/
theorem RwAt.set0 {g o c : Nat} {hd hd' tl : List Value} (h : RwAt w e size (.slice (some ⟨g, o, none⟩) (n + 1) c) (n + 1) (hd ++ tl)) (hh : hd.length = size) (hh' : hd'.length = size)
    (hw : ∃ cur cur', w.heap[g]? = some (.cells cur e (0, 0)) ∧ w'.heap[g]? = some (.cells cur' e (0, 0)) ∧ cur'.size = cur.size ∧ (∀ j, j < size → cur'[o + j]? = hd'[j]?) ∧ ∀ j, o + size ≤ j → cur'[j]? = cur[j]?) :
    RwAt w' e size (.slice (some ⟨g, o, none⟩) (n + 1) c) (n + 1) (hd' ++ tl) := by
  obtain ⟨cur, cur', hg, hg', hs, hj, hk⟩ := hw
  rcases h.2 with ⟨hv, _⟩ | ⟨g', o', cap, cur2, hv, h2, h3, h4, h5, h6⟩
  · cases hv
  · injection hv with e1 e2 e3
    injection e1 with e1
    injection e1 with e1 e4 e5
    subst e1 e3 e4
    rw [hg] at h2
    injection h2 with h2
    injection h2 with h2
    subst h2
    refine ⟨by have := h.1; rw [List.length_append] at *; omega, .inr ⟨g, o, c, cur', rfl, hg', h3, h4, by omega, ?_⟩⟩
    apply List.ext_getElem?
    intro j
    have e9 : ((cur.toList.drop o).take ((n + 1) * size))[j]? = (hd ++ tl)[j]? := by rw [h6]
    rw [List.getElem?_take] at e9 ⊢
    by_cases hlt : j < (n + 1) * size
    · rw [if_pos hlt] at e9 ⊢
      rw [List.getElem?_drop, Array.getElem?_toList] at e9 ⊢
      by_cases hj0 : j < size
      · rw [hj j hj0, List.getElem?_append_left (by omega)]
      · rw [hk (o + j) (by omega), e9, List.getElem?_append_right (by omega), List.getElem?_append_right (by omega), hh, hh']
    · rw [if_neg hlt]
      symm
      rw [List.getElem?_eq_none]
      have := h.1
      rw [List.length_append] at *
      omega
end
end Go.Proofs.YthcgjbpiiodlgaaDoor
