/- Saves and cleanings that a disk stops, and crashes behind them, plain. -/
import Derived.Test.YtcmnijpcinmbbaaGreatDoorPureKs
namespace Go.Proofs.YtcmnijpcinmbbaaGreatDoor
open Go.Lib (itoa)
set_option linter.unusedVariables false
theorem crD_none {d : Ds} {P : Pc} (h : KpIs d.σ P) (hU : d.U = []) (keep : Int) : KpD (crD d keep) P := by
  refine ⟨?_, UkOk.nil⟩
  show KpIs (backs (d.U.drop (keepN d.U keep)) d.σ) P
  rw [hU]; simpa [backs] using h
/-- A save, stopped or not, and a crash. -/
theorem save_crash {d : Ds} {P : Pc} (h : KpD d P) (hU : d.U = []) {id : Int} (hid : IdOk id) (hP : P id = none) {x : List UInt8} (hx : x.length ≤ 50000) (keep : Int) :
    ∃ P', KpD (crD (saveR d P id x).2 keep) P' ∧ ((saveR d P id x).1 = 0 ∧ P' = updK P id (some x) ∨ (saveR d P id x).1 ≠ 0 ∧ (P' = P ∨ P' = updK P id (some x))) := by
  have hs : saveR d P id x = if (wrD d (nmK id) (sealB x)).1 ≠ 0 then wrD d (nmK id) (sealB x) else syD (wrD d (nmK id) (sealB x)).2 := by
    unfold saveR; rw [if_neg (by simpa using hid), if_neg (by rw [hP]; decide)]
  rw [hs, wr_pic h hid hx]
  by_cases hb : 0 ≤ d.bd ∧ d.bd ≤ d.s
  · rw [if_pos hb, if_pos (by simp)]
    exact ⟨P, crD_none h.kp hU keep, .inr ⟨by simp, .inl rfl⟩⟩
  · rw [if_neg hb, if_neg (by simp), sy_pic]
    have hk := h.wr hid hx (d.s + 1) d.bd
    by_cases hb2 : 0 ≤ d.bd ∧ d.bd ≤ d.s + 1
    · rw [if_pos hb2]
      refine (fun (hh : KpD (crD ⟨upd d.σ (nmK id) (some (sealB x)), d.U ++ [.one ⟨nmK id, (P id).map sealB⟩], d.s + 1, d.bd⟩ keep) P ∨ KpD (crD ⟨upd d.σ (nmK id) (some (sealB x)), d.U ++ [.one ⟨nmK id, (P id).map sealB⟩], d.s + 1, d.bd⟩ keep) (updK P id (some x))) => ?_) ?_
      · rcases hh with hh | hh
        · exact ⟨P, hh, .inr ⟨by simp, .inl rfl⟩⟩
        · exact ⟨_, hh, .inr ⟨by simp, .inr rfl⟩⟩
      · rw [hU, hP]
        show KpD ⟨backs (([] ++ [Bk.one ⟨nmK id, Option.map sealB none⟩]).drop (keepN ([] ++ [Bk.one ⟨nmK id, Option.map sealB none⟩]) keep)) (upd d.σ (nmK id) (some (sealB x))), [], 0, -1⟩ P ∨ KpD ⟨backs (([] ++ [Bk.one ⟨nmK id, Option.map sealB none⟩]).drop (keepN ([] ++ [Bk.one ⟨nmK id, Option.map sealB none⟩]) keep)) (upd d.σ (nmK id) (some (sealB x))), [], 0, -1⟩ (updK P id (some x))
        have hkn : keepN ([] ++ [Bk.one ⟨nmK id, Option.map sealB none⟩]) keep = 0 ∨ keepN ([] ++ [Bk.one ⟨nmK id, Option.map sealB none⟩]) keep = 1 := by unfold keepN; simp; omega
        rcases hkn with e | e
        · left
          rw [e]
          refine ⟨?_, UkOk.nil⟩
          have h2 := hk.kp.upd hid none (fun y hy => by cases hy)
          have e2 : updK (updK P id (some x)) id none = P := by
            funext j
            by_cases ej : j = id
            · subst ej; rw [updK_same, hP]
            · rw [updK_other _ _ ej, updK_other _ _ ej]
          rw [e2] at h2
          exact h2
        · right
          rw [e]
          exact ⟨hk.kp, UkOk.nil⟩
    · rw [if_neg hb2]
      exact ⟨updK P id (some x), crD_none (d := ⟨upd d.σ (nmK id) (some (sealB x)), [], d.s + 1 + 1, d.bd⟩) hk.kp rfl keep, .inl ⟨rfl, rfl⟩⟩
/-- What takes the removal of a picture back. -/
def bkOf (P : Pc) (i : Int) : Bk := .one ⟨nmK i, (P i).map sealB⟩
theorem updAll_snoc_back {P : Pc} {a : List Int} {i : Int} (hi : i ∉ a) : updK (updAll P (a ++ [i])) i (P i) = updAll P a := by
  funext j
  by_cases e : j = i
  · subst e; rw [updK_same]; unfold updAll; rw [if_neg hi]
  · rw [updK_other _ _ e]; unfold updAll; simp [e]
theorem backs_all {P : Pc} (hok : ∀ id, (P id).isSome = true → IdOk id) (hfew : ∀ id x, P id = some x → x.length ≤ 50000) : ∀ (k : Nat) (b a : List Int) (σ : Fs), b.length = k → (a ++ b).Nodup → (∀ i ∈ b, (P i).isSome = true) → KpIs σ (updAll P (a ++ b)) → KpIs (backs (b.map (bkOf P)) σ) (updAll P a)
  | 0, b, a, σ, hk, _, _, h => by
    have : b = [] := List.length_eq_zero_iff.1 hk
    subst this
    simpa [backs] using h
  | k + 1, b, a, σ, hk, hnd, hm, h => by
    obtain ⟨b', i, rfl⟩ : ∃ b' i, b = b' ++ [i] := by
      have hne : b ≠ [] := fun e => by rw [e] at hk; simp at hk
      exact ⟨b.dropLast, b.getLast hne, (List.dropLast_concat_getLast hne).symm⟩
    rw [List.map_append, show List.map (bkOf P) [i] = [bkOf P i] from rfl, backs_snoc]
    have hnd2 : ((a ++ b') ++ [i]).Nodup := by rw [List.append_assoc]; exact hnd
    have hni : i ∉ a ++ b' := fun hm => (List.nodup_append.1 hnd2).2.2 i hm i (by simp) rfl
    have hi := hm i (by simp)
    refine backs_all hok hfew k b' a _ (by simpa using hk) (List.nodup_append.1 hnd2).1 (fun j hj => hm j (by simp [hj])) ?_
    have h2 := h.upd (hok i hi) (P i) (fun x hx => hfew i x hx)
    rw [← List.append_assoc, updAll_snoc_back hni] at h2
    exact h2
/-- Removals, stopped or not. -/
theorem rem_some : ∀ (L : List Int) {d : Ds} {P : Pc}, KpD d P → L.Nodup → (∀ i ∈ L, (P i).isSome = true) →
    ∃ j, j ≤ L.length ∧ KpIs (remAll d L).2.σ (updAll P (L.take j)) ∧ (remAll d L).2.U = d.U ++ (L.take j).map (bkOf P)
  | [], d, P, h, _, _ => ⟨0, by simp, by simpa [remAll, updAll_nil] using h.kp, by simp [remAll]⟩
  | i :: L, d, P, h, hnd, hm => by
    rw [List.nodup_cons] at hnd
    have hi := hm i List.mem_cons_self
    have hr := rm_pic h hi
    by_cases hb : 0 ≤ d.bd ∧ d.bd ≤ d.s
    · rw [if_pos hb] at hr
      have e : remAll d (i :: L) = (7, d) := by
        show (if (rmD d (nmK i)).1 ≠ 0 then rmD d (nmK i) else remAll (rmD d (nmK i)).2 L) = _
        rw [hr, if_pos (by simp)]
      rw [e]
      exact ⟨0, by simp, by simpa [updAll_nil] using h.kp, by simp⟩
    · rw [if_neg hb] at hr
      have hk := h.rm (h.kp.ok i hi) (d.s + 1) d.bd
      have hm2 : ∀ j ∈ L, (updK P i none j).isSome = true := fun j hj => by
        have hne : j ≠ i := fun e => hnd.1 (by rw [← e]; exact hj)
        rw [updK_other P none hne]; exact hm j (List.mem_cons_of_mem _ hj)
      obtain ⟨j, h1, h2, h3⟩ := rem_some L hk hnd.2 hm2
      have e : remAll d (i :: L) = remAll ⟨upd d.σ (nmK i) none, d.U ++ [.one ⟨nmK i, (P i).map sealB⟩], d.s + 1, d.bd⟩ L := by
        show (if (rmD d (nmK i)).1 ≠ 0 then rmD d (nmK i) else remAll (rmD d (nmK i)).2 L) = _
        rw [hr, if_neg (by simp)]
      rw [e]
      refine ⟨j + 1, by simp; omega, by rw [List.take_succ_cons, ← updAll_cons]; exact h2, ?_⟩
      rw [h3, List.take_succ_cons, List.map_cons]
      have hmap : (L.take j).map (bkOf (updK P i none)) = (L.take j).map (bkOf P) := List.map_congr_left fun x hx => by
        have hxL := List.mem_of_mem_take hx
        have hne : x ≠ i := fun e => hnd.1 (by rw [← e]; exact hxL)
        unfold bkOf; rw [updK_other P none hne]
      rw [hmap]; simp [bkOf]
/-- A cleaning, stopped or not, and a crash: the last ones are left. -/
theorem clean_crash {d : Ds} {P : Pc} (h : KpD d P) (hU : d.U = []) {l : List Int} (hl : IdsIs P l) {many : Int} (hm : 1 ≤ many) (keep : Int) :
    ∃ K, K ≤ l.length - many.toNat ∧ KpD (crD (cleanR d l many).2 keep) (updAll P (l.take K)) := by
  obtain ⟨K0, hK0⟩ : ∃ K0, K0 = l.length - many.toNat := ⟨_, rfl⟩
  have hnd0 : l.Nodup := hl.1.imp (fun hab => by omega : ∀ {a b : Int}, a < b → a ≠ b)
  have hnd : (l.take K0).Nodup := hnd0.sublist (List.take_sublist _ _)
  have hmem : ∀ i ∈ l.take K0, (P i).isSome = true := fun i hi => (hl.2 i).1 (List.mem_of_mem_take hi)
  obtain ⟨j, h1, h2, h3⟩ := rem_some (l.take K0) h hnd hmem
  rw [← hK0]
  have hjl : j ≤ K0 := by have := List.length_take_le K0 l; omega
  have htt : (l.take K0).take j = l.take j := by rw [List.take_take, Nat.min_eq_left hjl]
  rw [htt] at h2 h3
  rw [hU, List.nil_append] at h3
  have hcase : (cleanR d l many).2 = (remAll d (l.take K0)).2 ∨ ((cleanR d l many).2.σ = (remAll d (l.take K0)).2.σ ∧ (cleanR d l many).2.U = []) := by
    unfold cleanR
    rw [if_neg (by omega), ← hK0]
    by_cases he : (remAll d (l.take K0)).1 ≠ 0
    · rw [if_pos he]; exact .inl rfl
    · rw [if_neg he, sy_pic]
      split
      · exact .inl rfl
      · exact .inr ⟨rfl, rfl⟩
  rcases hcase with e | ⟨e1, e2⟩
  · rw [e]
    obtain ⟨kk, hkk⟩ : ∃ kk, kk = keepN (remAll d (l.take K0)).2.U keep := ⟨_, rfl⟩
    refine ⟨min kk j, by omega, ⟨?_, UkOk.nil⟩⟩
    show KpIs (backs ((remAll d (l.take K0)).2.U.drop (keepN (remAll d (l.take K0)).2.U keep)) (remAll d (l.take K0)).2.σ) _
    rw [← hkk, h3, ← List.map_drop]
    have hsp : l.take j = l.take (min kk j) ++ (l.take j).drop kk := by
      have h4 := List.take_append_drop kk (l.take j)
      rw [List.take_take] at h4
      exact h4.symm
    refine backs_all h.kp.ok h.kp.few _ ((l.take j).drop kk) (l.take (min kk j)) _ rfl ?_ (fun i hi => (hl.2 i).1 (List.mem_of_mem_take (List.mem_of_mem_drop hi))) ?_
    · rw [← hsp]; exact hnd0.sublist (List.take_sublist _ _)
    · rw [← hsp]; exact h2
  · exact ⟨j, hjl, crD_none (by rw [e1]; exact h2) e2 keep⟩
/-- The text of a picture. -/
def txP (id : Int) : List UInt8 := [112, 105, 99, 116, 117, 114, 101, 32] ++ itoa id ++ [32, 111, 102, 32, 115, 111, 109, 101, 32, 108, 101, 110, 103, 116, 104, 44, 32, 115, 111, 32, 116, 104, 97, 116, 32, 105, 116, 32, 109, 97, 121, 32, 98, 101, 32, 116, 111, 114, 110]
theorem txP_len {id : Int} (h0 : 0 ≤ id) (h1 : id ≤ 1000000000) : (txP id).length ≤ 1000 := by
  have := ito_len h0 h1
  simp [txP]; omega
/-- What holds between events. -/
structure Jk (P : Pc) (l : List Int) (safe given : Int) : Prop where
  ids : IdsIs P l
  tx : ∀ id x, P id = some x → id ≤ given ∧ x = txP id
  s0 : 0 ≤ safe
  sg : safe ≤ given
  last : 0 < safe → ∃ r m, l = r ++ [m] ∧ safe ≤ m
theorem Jk.start : Jk (fun _ => none) [] 0 0 := ⟨ids_nil, fun _ _ h => (by cases h), by omega, by omega, fun h => by omega⟩
theorem Jk.fresh {P : Pc} {l : List Int} {safe given : Int} (h : Jk P l safe given) : P (given + 1) = none := by
  cases hp : P (given + 1) with
  | none => rfl
  | some x => have := (h.tx _ x hp).1; omega
theorem Jk.put {P : Pc} {l : List Int} {safe given : Int} (h : Jk P l safe given) (safe' : Int) (hs : safe' = safe ∨ safe' = given + 1) : Jk (updK P (given + 1) (some (txP (given + 1)))) (l ++ [given + 1]) safe' (given + 1) := by
  have hs0 := h.s0
  have hsg := h.sg
  refine ⟨ids_put (a := l) (b := []) (by rw [List.append_nil]; exact h.ids) (fun i hi => ?_) (by simp) _, fun id x hx => ?_, by omega, by omega, fun _ => ⟨l, given + 1, rfl, by omega⟩⟩
  · obtain ⟨x, hx⟩ := Option.isSome_iff_exists.1 ((h.ids.2 i).1 hi)
    have := (h.tx i x hx).1; omega
  · by_cases e : id = given + 1
    · subst e; rw [updK_same] at hx; injection hx with hx; exact ⟨by omega, hx.symm⟩
    · rw [updK_other _ _ e] at hx
      obtain ⟨h1, h2⟩ := h.tx id x hx
      exact ⟨by omega, h2⟩
theorem Jk.miss {P : Pc} {l : List Int} {safe given : Int} (h : Jk P l safe given) : Jk P l safe (given + 1) :=
  ⟨h.ids, fun id x hx => ⟨by have := (h.tx id x hx).1; omega, (h.tx id x hx).2⟩, h.s0, by have := h.sg; omega, h.last⟩
theorem Jk.less {P : Pc} {l : List Int} {safe given : Int} (h : Jk P l safe given) {K : Nat} {many : Int} (hm : 1 ≤ many) (hK : K ≤ l.length - many.toNat) : Jk (updAll P (l.take K)) (l.drop K) safe given := by
  refine ⟨ids_left h.ids K, fun id x hx => h.tx id x ?_, h.s0, h.sg, fun hs => ?_⟩
  · unfold updAll at hx
    split at hx
    · cases hx
    · exact hx
  · obtain ⟨r, m, e, hsm⟩ := h.last hs
    refine ⟨r.drop K, m, ?_, hsm⟩
    rw [e, List.length_append] at hK
    simp at hK
    rw [e, List.drop_append_of_le_length (by omega)]
theorem Jk.len {P : Pc} {l : List Int} {safe given : Int} (h : Jk P l safe given) (hok : ∀ id, (P id).isSome = true → IdOk id) (g : Nat) (hg : given = g) : l.length ≤ g := by
  have hb : ∀ (l : List Int) (n : Int) (g : Nat), n = g → l.Pairwise (· < ·) → (∀ i ∈ l, 1 ≤ i ∧ i ≤ n) → l.length ≤ g := by
    intro l
    induction l with
    | nil => intros; simp
    | cons a r ih =>
      intro n g hn hp hb
      rw [List.pairwise_cons] at hp
      have ha := hb a (by simp)
      have hr : ∀ i ∈ r.map (· - a), 1 ≤ i ∧ i ≤ n - a := fun i hi => by
        obtain ⟨x, hx, rfl⟩ := List.mem_map.1 hi
        have h1 := hp.1 x hx
        have h2 := hb x (by simp [hx])
        omega
      have := ih
      have h3 : r.length ≤ g - 1 := by
        by_cases hrn : r = []
        · subst hrn; simp
        · exact Nat.le_trans (Nat.le_of_eq (by simp : r.length = r.length)) (by
            have key : ∀ (r : List Int) (a n : Int), r.Pairwise (· < ·) → (∀ i ∈ r, a < i ∧ i ≤ n) → (r.length : Int) ≤ n - a ∨ r = [] := by
              intro r
              induction r with
              | nil => intros; exact .inr rfl
              | cons b t iht =>
                intro a n hp hb
                rw [List.pairwise_cons] at hp
                have hb0 := hb b (by simp)
                rcases iht b n hp.2 (fun i hi => ⟨hp.1 i hi, (hb i (by simp [hi])).2⟩) with h | h
                · left; simp; omega
                · subst h; left; simp; omega
            rcases key r a n hp.2 (fun i hi => ⟨hp.1 i hi, (hb i (by simp [hi])).2⟩) with h | h
            · omega
            · exact absurd h hrn)
      have : 1 ≤ g := by omega
      simp; omega
  exact hb l given g hg h.ids.1 (fun i hi => by
    obtain ⟨x, hx⟩ := Option.isSome_iff_exists.1 ((h.ids.2 i).1 hi)
    exact ⟨(hok i (by rw [hx]; rfl)).1, (h.tx i x hx).1⟩)
end Go.Proofs.YtcmnijpcinmbbaaGreatDoor
