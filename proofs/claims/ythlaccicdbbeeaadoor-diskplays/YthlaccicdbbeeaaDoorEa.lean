/- The document's files in memory; named, find. -/
import Derived.Test.YthlaccicdbbeeaaDoorDa
import Derived.Test.YthlaccicdbbeeaaDoorPureDn
namespace Go.Proofs.YthlaccicdbbeeaaDoor
open Go.RowKit
set_option linter.unusedVariables false

set_option maxRecDepth 100000 in
set_option maxHeartbeats 1000000 in
theorem named_any (s : ByteArray) (w : World) (hs : s.size ≤ maxLen) : Calls Tryd.prog 37 #[.string s] w fun e w' => e = .returned (.bool (isNm s)) ∧ w = w' := by
  unfold maxLen at hs
  obtain ⟨b, hb⟩ : ∃ b, b = isNm s := ⟨_, rfl⟩
  rw [← hb]
  have HB := Lib.hid hb
  clear hb
  by_cases h1 : 1 ≤ s.size ∧ s.size ≤ 20
  · obtain ⟨h1, h2⟩ := h1
    have h1' : s.toList.isEmpty = false := by rw [ByteArray.toList_eq]; cases hd : s.data.toList with
      | nil => exfalso; have : s.size = 0 := by show s.data.size = 0; rw [← Array.length_toList, hd]; rfl
               omega
      | cons => rfl
    have h2' : ¬ (20 : Int) < s.size := by omega
    go_enter Tryd.func37, Tryd.ntmps37
    go_wp2
    go_loop [3] (fun i => ∃ k : Nat, k ≤ s.size ∧ i = .int .i64 k ∧ ∀ j (h : j < s.size), j < k → nmB s[j] = true) (fun i => s.size - (intOf i).toNat)
    case atStart => exact ⟨0, Nat.zero_le _, rfl, fun j _ h => by omega⟩
    case round =>
      obtain ⟨k, hk, rfl, hall⟩ := hrel
      have HA := Lib.hid hall
      clear hall
      by_cases hlt : k < s.size
      · have hi : (k : Int) < s.size := by omega
        have hr : (s[k].toNat : Int) < 256 := by have := s[k].toNat_lt; omega
        cases hc : nmB s[k] with
        | true =>
          have HC : Hid (∀ j (h : j < s.size), j < k + 1 → nmB s[j] = true) := fun j h hj => by
            by_cases e : j = k
            · subst e; exact hc
            · exact HA.out j h (by omega)
          have hcc := (nm_iff s[k]).1 hc
          clear hc
          rcases hcc with ⟨g1, g2⟩ | ⟨g1, g2⟩ | g1
          all_goals
            go_wp2
            all_goals first
              | (exfalso; omega)
              | (go_round
                 case rel => exact ⟨k + 1, by omega, by go_num, HC.out⟩
                 case measure => simp [intOf]; omega)
        | false =>
          have HC := Lib.hid (isNm_false hlt hc)
          have hcc : ¬ ((97 ≤ (s[k].toNat : Int) ∧ (s[k].toNat : Int) ≤ 122) ∨ (48 ≤ (s[k].toNat : Int) ∧ (s[k].toNat : Int) ≤ 57) ∨ (s[k].toNat : Int) = 45) := fun h => by rw [(nm_iff s[k]).2 h] at hc; cases hc
          clear hc
          have g0 : ¬ (s[k].toNat : Int) = 45 := by omega
          have g1 : (s[k].toNat : Int) < 48 ∨ 57 < (s[k].toNat : Int) := by omega
          have g2 : (s[k].toNat : Int) < 97 ∨ 122 < (s[k].toNat : Int) := by omega
          clear hcc
          rcases g1 with g1 | g1 <;> rcases g2 with g2 | g2
          all_goals first
            | (exfalso; omega)
            | (go_wp2
               go_ret
               exact ⟨ret_bool (by rw [HB.out, HC.out]), rfl⟩)
      · have hi : ¬ (k : Int) < s.size := by omega
        go_wp2
        go_ret
        exact ⟨ret_bool (by rw [HB.out, isNm_true h1 h2 (fun j h => HA.out j h (by omega))]), rfl⟩
  · have hF : isNm s = false := by
      unfold isNm; rw [decide_eq_false h1]; rfl
    by_cases h2 : s.size < 1
    · have hs0 : s = ⟨#[]⟩ := ByteArray.ext (Array.eq_empty_of_size_eq_zero (show s.data.size = 0 by have : s.size = s.data.size := rfl; omega))
      subst hs0
      go_enter Tryd.func37, Tryd.ntmps37
      go_wp2
      go_ret
      exact ⟨ret_bool (by rw [HB.out, hF]), rfl⟩
    · have h3' : (20 : Int) < s.size := by omega
      go_enter Tryd.func37, Tryd.ntmps37
      go_wp2
      all_goals go_ret
      all_goals exact ⟨ret_bool (by rw [HB.out, hF]), rfl⟩

theorem str_ne {x y : ByteArray} (h : x ≠ y) : (x.toList == y.toList) = false := by
  rw [ByteArray.toList_eq, ByteArray.toList_eq, beq_eq_false_iff_ne]
  exact fun e => h (bytes_ext e)
/-- A file as it lies: its name, its bytes, where these lie. -/
structure En where
  n : ByteArray
  bs : List UInt8
  q : Option Addr
  c : Nat
def En.pr (e : En) : ByteArray × List UInt8 := (e.n, e.bs)
def BsO (w : World) (O : Nat → Prop) (q : Option Addr) (bs : List UInt8) : Prop := BsAt w q bs ∧ (bs ≠ [] → ∀ a, q = some a → O a.block)
theorem BsO.keep {w w' : World} {O O' : Nat → Prop} {q : Option Addr} {bs : List UInt8} (h : BsO w O q bs) (hk : ∀ b, b < w.heap.size → O b → w'.heap[b]? = w.heap[b]?) (hO : ∀ b, b < w.heap.size → O b → O' b) : BsO w' O' q bs := by
  by_cases hne : bs = []
  · exact ⟨.inl hne, fun h => absurd hne h⟩
  · obtain ⟨h1, h2⟩ := h
    obtain ⟨b, o, rfl, hlt⟩ := h1.lt hne
    have hb := h2 hne _ rfl
    refine ⟨?_, fun _ a ha => by injection ha with ha; subst ha; exact hO _ hlt hb⟩
    rcases h1 with h1 | ⟨b', o', e, hc⟩
    · exact absurd h1 hne
    · injection e with e
      injection e with e1 e2 _
      subst e1; subst e2
      exact .inr ⟨b, o, rfl, fun i hi => by rw [World.cell?_of_block (w := w) (hk b hlt hb)]; exact hc i hi⟩
theorem BsO.below {w w' : World} {O : Nat → Prop} {q : Option Addr} {bs : List UInt8} (h : BsO w O q bs) (hb : Below w.heap.size w w') : BsO w' O q bs := h.keep (fun b hlt _ => hb.block b hlt) (fun _ _ h => h)
theorem BsO.nil (w : World) (O : Nat → Prop) (q : Option Addr) : BsO w O q [] := ⟨.inl rfl, fun h => absurd rfl h⟩

/-- Files behind a slice. -/
def FlAt (w : World) (O : Nat → Prop) (p : Option Addr) (L : List En) : Prop :=
  L = [] ∨ ∃ b o, p = some ⟨b, o, none⟩ ∧ O b ∧ ∀ i (h : i < L.length), w.cell? ⟨b, o + i * 2, none⟩ = some (.string L[i].n) ∧ w.cell? ⟨b, o + i * 2 + 1, none⟩ = some (.slice L[i].q L[i].bs.length L[i].c) ∧ BsO w O L[i].q L[i].bs
theorem FlAt.keep {w w' : World} {O O' : Nat → Prop} {p : Option Addr} {L : List En} (h : FlAt w O p L) (hk : ∀ b, b < w.heap.size → O b → w'.heap[b]? = w.heap[b]?) (hO : ∀ b, b < w.heap.size → O b → O' b) : FlAt w' O' p L := by
  by_cases hne : L = []
  · exact .inl hne
  rcases h with h | ⟨b, o, rfl, hb, hc⟩
  · exact absurd h hne
  have h0 : 0 < L.length := by cases L with | nil => exact absurd rfl hne | cons => simp
  have hlt : b < w.heap.size := block_lt_of_cell (hc 0 h0).1
  refine .inr ⟨b, o, rfl, hO b hlt hb, fun i hi => ?_⟩
  obtain ⟨h1, h2, h3⟩ := hc i hi
  exact ⟨(World.cell?_of_block (w := w) (hk b hlt hb)).trans h1, (World.cell?_of_block (w := w) (hk b hlt hb)).trans h2, h3.keep hk hO⟩
theorem FlAt.below {w w' : World} {O : Nat → Prop} {p : Option Addr} {L : List En} (h : FlAt w O p L) (hb : Below w.heap.size w w') : FlAt w' O p L := h.keep (fun b hlt _ => hb.block b hlt) (fun _ _ h => h)

theorem find_take (k : ByteArray) : ∀ (l : Fl) (i j : Nat) (h : j < l.length), (∀ m (hm : m < l.length), m < j → l[m].1 ≠ k) → l[j].1 = k → findP k i l = ((i + j : Nat) : Int)
  | x :: l, i, 0, h, h1, h2 => by rw [findP, if_pos (show x.1 = k from h2)]; simp
  | x :: l, i, j + 1, h, h1, h2 => by
    rw [findP, if_neg (show ¬ x.1 = k from h1 0 (by simp) (by omega)), find_take k l (i + 1) j (by simpa using h) (fun m hm hlt => h1 (m + 1) (by simp; omega) (by omega)) (by simpa using h2)]
    congr 1; omega
theorem find_out (k : ByteArray) (l : Fl) (i : Nat) (h : ∀ m (hm : m < l.length), l[m].1 ≠ k) : findP k i l = -1 := find_none k l i (look_none fun x hx => by
  obtain ⟨m, hm, rfl⟩ := List.getElem_of_mem hx
  exact h m hm)

set_option maxRecDepth 100000 in
set_option maxHeartbeats 1000000 in
theorem find_any (w : World) (O : Nat → Prop) (p : Option Addr) (c : Nat) (L : List En) (hL : FlAt w O p L) (hl : L.length ≤ 1000000000) (m : Nat) (hm : m = L.length) (k : ByteArray) :
    Calls Tryd.prog 38 #[.slice p m c, .string k] w fun e w' => e = .returned (.int .i64 (findP k 0 (L.map En.pr))) ∧ w = w' := by
  subst hm
  obtain ⟨r, hr⟩ : ∃ r, r = findP k 0 (L.map En.pr) := ⟨_, rfl⟩
  rw [← hr]
  have HR := Lib.hid hr
  clear hr
  go_enter Tryd.func38, Tryd.ntmps38
  go_wp2
  go_loop [5] (fun i => ∃ j : Nat, j ≤ L.length ∧ i = .int .i64 j ∧ ∀ m (hm : m < L.length), m < j → L[m].n ≠ k) (fun i => L.length - (intOf i).toNat)
  case atStart => exact ⟨0, Nat.zero_le _, rfl, fun m hm h => by omega⟩
  case round =>
    obtain ⟨j, hj, rfl, hall⟩ := hrel
    have HA := Lib.hid hall
    clear hall
    by_cases hlt : j < L.length
    · have hi : (j : Int) < L.length := by omega
      rcases hL with hL | ⟨b, o, rfl, hb, hL⟩
      · subst hL; simp at hlt
      obtain ⟨c1, -, -⟩ := hL j hlt
      by_cases e : L[j].n = k
      · have HF := Lib.hid (find_take k (L.map En.pr) 0 j (by simpa using hlt) (fun m hm h => by have := HA.out m (by simpa using hm) h; simpa [En.pr] using this) (by simpa [En.pr] using e))
        rw [e] at c1
        clear hL
        go_wp2
        go_ret
        exact ⟨by rw [HR.out, HF.out]; simp, rfl⟩
      · have e' := str_ne e
        have HC : Hid (∀ m (hm : m < L.length), m < j + 1 → L[m].n ≠ k) := fun m hm h => by
          by_cases hmj : m = j
          · subst hmj; exact e
          · exact HA.out m hm (by omega)
        clear hL
        generalize L[j].n = x at *
        go_wp2
        go_round
        case rel => exact ⟨j + 1, by omega, by go_num, HC.out⟩
        case measure => simp [intOf]; omega
    · have hi : ¬ (j : Int) < L.length := by omega
      have HF := Lib.hid (find_out k (L.map En.pr) 0 (fun m hm => by have := HA.out m (by simpa using hm) (by simp at hm; omega); simpa [En.pr] using this))
      go_wp2
      go_ret
      exact ⟨by rw [HR.out, HF.out]; rfl, rfl⟩
end Go.Proofs.YthlaccicdbbeeaaDoor
