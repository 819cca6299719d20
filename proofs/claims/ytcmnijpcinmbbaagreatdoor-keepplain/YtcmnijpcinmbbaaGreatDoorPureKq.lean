/- What Save and Clean do, plain. -/
import Derived.Test.YtcmnijpcinmbbaaGreatDoorPureKp
namespace Go.Proofs.YtcmnijpcinmbbaaGreatDoor
set_option linter.unusedVariables false
open Classical in
noncomputable def saveR (d : Ds) (P : Pc) (id : Int) (x : List UInt8) : Int × Ds :=
  if ¬ IdOk id then (1, d) else if (P id).isSome = true then (8, d) else if (wrD d (nmK id) (sealB x)).1 ≠ 0 then wrD d (nmK id) (sealB x) else syD (wrD d (nmK id) (sealB x)).2
/-- Pictures are removed, one by one, till one fails. -/
def remAll : Ds → List Int → Int × Ds
  | d, [] => (0, d)
  | d, i :: r => if (rmD d (nmK i)).1 ≠ 0 then rmD d (nmK i) else remAll (rmD d (nmK i)).2 r
def cleanR (d : Ds) (l : List Int) (many : Int) : Int × Ds :=
  if many < 1 then (1, d) else if (remAll d (l.take (l.length - many.toNat))).1 ≠ 0 then remAll d (l.take (l.length - many.toNat)) else syD (remAll d (l.take (l.length - many.toNat))).2
/-- What may be taken back are pictures. -/
def UkOk (U : List Bk) : Prop := ∀ b ∈ U, ∃ id o, IdOk id ∧ (∀ x, o = some x → x.length ≤ 50000) ∧ b = .one ⟨nmK id, o.map sealB⟩
theorem UkOk.nil : UkOk [] := fun b h => by simp at h
theorem UkOk.snoc {U : List Bk} (h : UkOk U) {id : Int} {o : Option (List UInt8)} (hid : IdOk id) (ho : ∀ x, o = some x → x.length ≤ 50000) : UkOk (U ++ [.one ⟨nmK id, o.map sealB⟩]) := fun b hb => by
  rcases List.mem_append.1 hb with hb | hb
  · exact h b hb
  · simp at hb; exact ⟨id, o, hid, ho, hb⟩
/-- A disk that has pictures alone. -/
structure KpD (d : Ds) (P : Pc) : Prop where
  kp : KpIs d.σ P
  uk : UkOk d.U
theorem KpD.new : KpD newD (fun _ => none) := ⟨KpIs.none, UkOk.nil⟩
theorem chk_nm (s bd : Int) {id : Int} (hid : IdOk id) : chkP s bd [nmK id] = if 0 ≤ bd ∧ bd ≤ s then 7 else 0 := by
  unfold chkP; simp [nmK_ok hid]
theorem chk_none (s bd : Int) : chkP s bd [] = if 0 ≤ bd ∧ bd ≤ s then 7 else 0 := by
  unfold chkP; simp
/-- A picture is written. -/
theorem wr_pic {d : Ds} {P : Pc} (h : KpD d P) {id : Int} (hid : IdOk id) {x : List UInt8} (hx : x.length ≤ 50000) :
    wrD d (nmK id) (sealB x) = if 0 ≤ d.bd ∧ d.bd ≤ d.s then (7, d) else (0, ⟨upd d.σ (nmK id) (some (sealB x)), d.U ++ [.one ⟨nmK id, (P id).map sealB⟩], d.s + 1, d.bd⟩) := by
  unfold wrD
  rw [chk_nm d.s d.bd hid, h.kp.at_ id hid]
  have := seal_few x hx
  by_cases hb : 0 ≤ d.bd ∧ d.bd ≤ d.s
  · simp only [if_pos hb]; rw [if_pos (by decide)]
  · simp only [if_neg hb]; rw [if_neg (by decide), if_neg (by omega)]
theorem KpD.wr {d : Ds} {P : Pc} (h : KpD d P) {id : Int} (hid : IdOk id) {x : List UInt8} (hx : x.length ≤ 50000) (s bd : Int) :
    KpD ⟨upd d.σ (nmK id) (some (sealB x)), d.U ++ [.one ⟨nmK id, (P id).map sealB⟩], s, bd⟩ (updK P id (some x)) :=
  ⟨h.kp.upd hid (some x) (fun y hy => by injection hy with hy; subst hy; exact hx), h.uk.snoc hid (fun y hy => h.kp.few id y hy)⟩
theorem sy_pic (d : Ds) : syD d = if 0 ≤ d.bd ∧ d.bd ≤ d.s then (7, d) else (0, ⟨d.σ, [], d.s + 1, d.bd⟩) := by
  unfold syD
  rw [chk_none]
  by_cases hb : 0 ≤ d.bd ∧ d.bd ≤ d.s
  · simp only [if_pos hb]; rw [if_pos (by decide)]
  · simp only [if_neg hb]; rw [if_neg (by decide)]
theorem rm_pic {d : Ds} {P : Pc} (h : KpD d P) {id : Int} (hP : (P id).isSome = true) :
    rmD d (nmK id) = if 0 ≤ d.bd ∧ d.bd ≤ d.s then (7, d) else (0, ⟨upd d.σ (nmK id) none, d.U ++ [.one ⟨nmK id, (P id).map sealB⟩], d.s + 1, d.bd⟩) := by
  have hid := h.kp.ok id hP
  unfold rmD
  rw [chk_nm d.s d.bd hid, h.kp.at_ id hid]
  have hs : ((P id).map sealB).isSome = true := by simpa using hP
  rw [hs]
  by_cases hb : 0 ≤ d.bd ∧ d.bd ≤ d.s
  · simp only [if_pos hb]; rw [if_pos (by decide)]
  · simp only [if_neg hb]; rw [if_neg (by decide), if_neg (by decide)]
theorem KpD.rm {d : Ds} {P : Pc} (h : KpD d P) {id : Int} (hid : IdOk id) (s bd : Int) :
    KpD ⟨upd d.σ (nmK id) none, d.U ++ [.one ⟨nmK id, (P id).map sealB⟩], s, bd⟩ (updK P id none) :=
  ⟨h.kp.upd hid none (fun y hy => by cases hy), h.uk.snoc hid (fun y hy => h.kp.few id y hy)⟩
theorem remAll_app : ∀ (a b : List Int) (d : Ds), remAll d (a ++ b) = if (remAll d a).1 ≠ 0 then remAll d a else remAll (remAll d a).2 b
  | [], b, d => by simp [remAll]
  | i :: a, b, d => by
    show (if (rmD d (nmK i)).1 ≠ 0 then rmD d (nmK i) else remAll (rmD d (nmK i)).2 (a ++ b)) = _
    by_cases h : (rmD d (nmK i)).1 ≠ 0
    · have e : remAll d (i :: a) = rmD d (nmK i) := by show (if _ then _ else _) = _; rw [if_pos h]
      rw [if_pos h, e, if_pos h]
    · have e : remAll d (i :: a) = remAll (rmD d (nmK i)).2 a := by show (if _ then _ else _) = _; rw [if_neg h]
      rw [if_neg h, remAll_app a b, e]
theorem remAll_snoc {d d' : Ds} {a : List Int} (h : remAll d a = (0, d')) (i : Int) : remAll d (a ++ [i]) = rmD d' (nmK i) := by
  rw [remAll_app, h, if_neg (by simp)]
  show (if (rmD d' (nmK i)).1 ≠ 0 then rmD d' (nmK i) else (0, (rmD d' (nmK i)).2)) = _
  split
  · rfl
  · rename_i hh
    have : (rmD d' (nmK i)).1 = 0 := Decidable.not_not.1 hh
    rw [← this]
theorem remAll_bad {d : Ds} {a b : List Int} {e : Int} {d' : Ds} (h : remAll d a = (e, d')) (he : e ≠ 0) : remAll d (a ++ b) = (e, d') := by
  rw [remAll_app, h, if_pos he]
/-- Which are to stay. -/
theorem stays_iff {l : List Int} (h : l.Pairwise (· < ·)) (K k : Nat) (hk : k < l.length) : (l.drop K).contains l[k] = decide (K ≤ k) := by
  by_cases hK : K ≤ k
  · have : l[k] ∈ l.drop K := by
      rw [List.mem_iff_getElem]
      exact ⟨k - K, by simp; omega, by rw [List.getElem_drop]; congr 1; omega⟩
    simp [hK, this]
  · have : l[k] ∉ l.drop K := fun hm => by
      obtain ⟨j, hj, e⟩ := List.getElem_of_mem hm
      rw [List.getElem_drop] at e
      have := List.pairwise_iff_getElem.1 h k (K + j) hk (by simp at hj; omega) (by omega)
      omega
    simp [hK, this]
end Go.Proofs.YtcmnijpcinmbbaaGreatDoor
