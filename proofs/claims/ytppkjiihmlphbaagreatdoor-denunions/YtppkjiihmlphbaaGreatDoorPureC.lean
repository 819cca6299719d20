/- What follows the grammar is read as it says. -/
import Derived.Test.YtppkjiihmlphbaaGreatDoorPureB
namespace Go.Proofs.YtppkjiihmlphbaaGreatDoor

def stp (l : Nat) (c : UInt8) : Prop := isDg c = false ∧ (l ≤ 3 → c ∉ [42, 47, 37]) ∧ (l ≤ 2 → c ∉ [43, 45]) ∧ (l ≤ 1 → c ∉ [61, 60, 62]) ∧ (l = 0 → c ≠ 63)
def Stop (l : Nat) (r : List UInt8) : Prop := ∀ c, r.head? = some c → stp l c

theorem Stop.mono {l k : Nat} {r : List UInt8} (h : Stop l r) (hk : l ≤ k) : Stop k r := by
  intro c hc
  obtain ⟨h1, h2, h3, h4, h5⟩ := h c hc
  exact ⟨h1, fun h => h2 (by omega), fun h => h3 (by omega), fun h => h4 (by omega), fun h => h5 (by omega)⟩

theorem Stop.cons {l : Nat} {c : UInt8} {r : List UInt8} (h : stp l c) : Stop l (c :: r) := by
  intro x hx; simp at hx; exact hx ▸ h

theorem opAt_none {ops : List UInt8} {r : List UInt8} (h : ∀ c, r.head? = some c → c ∉ ops) : opAt ops r = none := by
  cases r with
  | nil => rfl
  | cons a t => simp [opAt, h a rfl]

theorem opAt_cons {ops : List UInt8} {c : UInt8} {r : List UInt8} (h : c ∈ ops) : opAt ops (c :: r) = some c := by simp [opAt, h]

theorem loop_stop {ops : List UInt8} {part : List UInt8 → Res} {r : List UInt8} (h : ∀ c, r.head? = some c → c ∉ ops) (f : Nat) (t : Tm) : loopF ops part f t r = .ok t r := by
  unfold loopF; rw [opAt_none h]

def Shr (f : List UInt8 → Res) : Prop := ∀ u t v, f u = .ok t v → v.length ≤ u.length
theorem Snd.shr {d l : Nat} {f : List UInt8 → Res} (h : Snd d l f) : Shr f := by
  intro u t v hf; obtain ⟨s, hs, _⟩ := h u t v hf; rw [hs]; simp

theorem loop_fuel {ops : List UInt8} {part : List UInt8 → Res} (hp : Shr part) : ∀ f f' t v, v.length ≤ f → v.length ≤ f' → loopF ops part f t v = loopF ops part f' t v := by
  intro f
  induction f with
  | zero =>
    intro f' t v h h'
    have : v = [] := List.length_eq_zero_iff.1 (by omega)
    subst this
    unfold loopF; simp [opAt]
  | succ f ih =>
    intro f' t v h h'
    cases hv : opAt ops v with
    | none => unfold loopF; simp [hv]
    | some c =>
      obtain ⟨hu, _⟩ := opAt_some hv
      have hl : v.length = (v.drop 1).length + 1 := by conv => lhs; rw [hu]
                                                       simp
      cases f' with
      | zero => omega
      | succ f' =>
        unfold loopF
        simp only [hv]
        cases hb : part (v.drop 1) with
        | bad p e => rfl
        | ok b v2 =>
          have := hp _ _ _ hb
          simp only
          exact ih f' _ _ (by omega) (by omega)

theorem loop_cons {ops : List UInt8} {part : List UInt8 → Res} (hp : Shr part) {c : UInt8} (hc : c ∈ ops) {u r : List UInt8} {t b : Tm} (hb : part u = .ok b r) :
    loopF ops part (c :: u).length t (c :: u) = loopF ops part r.length (.two c t b) r := by
  conv => lhs; unfold loopF
  rw [opAt_cons hc]
  simp only [List.length_cons, List.drop_succ_cons, List.drop_zero, hb]
  have := hp _ _ _ hb
  exact loop_fuel hp _ _ _ _ (by omega) (by omega)

theorem gr5_head {d : Nat} {s : List UInt8} {t : Tm} (h : Gr d 5 s t) : ∃ c r, s = c :: r ∧ c ≠ 45 := by
  cases h with
  | num _ _ h hd _ _ =>
    cases s with
    | nil => exact absurd rfl h
    | cons c r =>
      refine ⟨c, r, rfl, ?_⟩
      intro hc; subst hc
      have := hd 45 (by simp); simp [isDg] at this
  | vn => exact ⟨_, _, rfl, by decide⟩
  | vs => exact ⟨_, _, rfl, by decide⟩
  | brk h => exact ⟨_, _, rfl, by decide⟩
  | mn _ _ => exact ⟨_, _, rfl, by decide⟩
  | mx _ _ => exact ⟨_, _, rfl, by decide⟩
  | up hl _ => omega

theorem digs_of {s r : List UInt8} (h : s ≠ []) (hd : ∀ c ∈ s, isDg c = true) (h0 : s.head? = some 48 → s = [48]) (hr : Stop 5 r) : digs (s ++ r) = s := by
  cases s with
  | nil => exact absurd rfl h
  | cons c s =>
    unfold digs
    by_cases hc : c = 48
    · subst hc
      rw [h0 rfl]; simp
    · rw [if_neg (by simpa using hc)]
      have h1 : ∀ x ∈ c :: s, isDg x = true := hd
      rw [List.takeWhile_append_of_pos h1]
      have : r.takeWhile isDg = [] := by
        cases r with
        | nil => rfl
        | cons a t => have := (hr a rfl).1; simp [this]
      rw [this]; simp

def Mot (d : Nat) : Nat → List UInt8 → Tm → Prop
  | 5, s, t => ∀ r, Stop 5 r → singleF (inCh d) (s ++ r) = .ok t r
  | 4, s, t => ∀ r, Stop 4 r → sgP d (s ++ r) = .ok t r
  | 3, s, t => ∀ r, Stop 4 r → prP d (s ++ r) = loopF [42, 47, 37] (sgP d) r.length t r
  | 2, s, t => ∀ r, Stop 3 r → smP d (s ++ r) = loopF [43, 45] (prP d) r.length t r
  | 1, s, t => ∀ r, Stop 1 r → cpP d (s ++ r) = .ok t r
  | 0, s, t => ∀ r, Stop 0 r → chP d (s ++ r) = .ok t r
  | _, _, _ => True

theorem shr_sg (d : Nat) : Shr (sgP d) := (snd_lev d).2.shr
theorem snd_pr (d : Nat) : Snd d 3 (prP d) := snd_row (by omega) (fun op a b ta tb ho => .mul op ho) (snd_lev d).2
theorem shr_pr (d : Nat) : Shr (prP d) := (snd_pr d).shr
theorem snd_sm (d : Nat) : Snd d 2 (smP d) := snd_row (by omega) (fun op a b ta tb ho => .add op ho) (snd_pr d)

theorem stop3_mul {r : List UInt8} {l : Nat} (h : Stop l r) (hl : l ≤ 3) : ∀ c, r.head? = some c → c ∉ [42, 47, 37] := fun c hc => (h c hc).2.1 hl
theorem stop2_add {r : List UInt8} {l : Nat} (h : Stop l r) (hl : l ≤ 2) : ∀ c, r.head? = some c → c ∉ [43, 45] := fun c hc => (h c hc).2.2.1 hl
theorem stop1_cmp {r : List UInt8} {l : Nat} (h : Stop l r) (hl : l ≤ 1) : ∀ c, r.head? = some c → c ∉ [61, 60, 62] := fun c hc => (h c hc).2.2.2.1 hl
theorem stop0 {r : List UInt8} (h : Stop 0 r) : r.head? ≠ some 63 := fun hc => (h 63 hc).2.2.2.2 rfl rfl

theorem cpl {d l : Nat} {s : List UInt8} {t : Tm} (h : Gr d l s t) : Mot d l s t := by
  induction h with
  | num d s h hd h0 hv =>
    intro r hr
    have e := digs_of h hd h0 hr
    cases s with
    | nil => exact absurd rfl h
    | cons c s =>
      have hc := hd c (by simp)
      have hc' : 48 ≤ c.toNat ∧ c.toNat ≤ 57 := by simpa [isDg] using hc
      have g : ∀ x : UInt8, (x.toNat < 48 ∨ 57 < x.toNat) → ¬ c = x := by intro x hx e; subst e; omega
      unfold singleF
      rw [if_neg (by simpa using g 110 (by decide)), if_neg (by simpa using g 115 (by decide)), if_neg (by simpa using g 40 (by decide)), if_neg (by simpa using fun h => (g 109 (by decide) h.symm).elim), if_neg (by simpa using fun h => (g 109 (by decide) h.symm).elim)]
      unfold numF
      rw [e, if_pos ⟨h, hv⟩]; simp
  | vn d => intro r hr; simp [singleF]
  | vs d => intro r hr; simp [singleF]
  | @brk d s t h ih =>
    intro r hr
    have := ih (41 :: r) (Stop.cons (by simp [stp, isDg]))
    simp only [Mot] at *
    simp [singleF, brkF, inCh_succ, this]
  | @mn d a b ta tb ha hb iha ihb =>
    intro r hr
    have h1 := iha (44 :: (b ++ 41 :: r)) (Stop.cons (by simp [stp, isDg]))
    have h2 := ihb (41 :: r) (Stop.cons (by simp [stp, isDg]))
    simp only [Mot] at *
    simp [singleF, pairF, inCh_succ, h1, h2]
  | @mx d a b ta tb ha hb iha ihb =>
    intro r hr
    have h1 := iha (44 :: (b ++ 41 :: r)) (Stop.cons (by simp [stp, isDg]))
    have h2 := ihb (41 :: r) (Stop.cons (by simp [stp, isDg]))
    simp only [Mot] at *
    simp [singleF, pairF, inCh_succ, h1, h2]
  | @neg d s t h ih =>
    intro r hr
    have e : sgP d (s ++ r) = .ok t r := ih r hr
    show sgP (d + 1) _ = _
    rw [sgP_eq]
    simp [signF, negF, inSg_succ, e]
  | @mul d a b ta tb op ho ha hb iha ihb =>
    intro r hr
    have hs : Stop 4 (op :: (b ++ r)) := Stop.cons (by
      simp at ho; rcases ho with rfl | rfl | rfl <;> simp [stp, isDg])
    have h1 := iha _ hs
    have h2 := ihb r hr
    simp only [List.append_assoc, List.cons_append]
    rw [h1]
    exact loop_cons (shr_sg d) ho h2
  | @add d a b ta tb op ho ha hb iha ihb =>
    intro r hr
    have hs : Stop 3 (op :: (b ++ r)) := Stop.cons (by
      simp at ho; rcases ho with rfl | rfl <;> simp [stp, isDg])
    have h1 := iha _ hs
    have h2 : prP d (b ++ r) = .ok tb r := by
      rw [ihb r (hr.mono (by omega))]; exact loop_stop (stop3_mul hr (by omega)) _ _
    simp only [List.append_assoc, List.cons_append]
    rw [h1]
    exact loop_cons (shr_pr d) ho h2
  | @cmp d a b ta tb op ho ha hb iha ihb =>
    intro r hr
    have hs : Stop 2 (op :: (b ++ r)) := Stop.cons (by
      simp at ho; rcases ho with rfl | rfl | rfl <;> simp [stp, isDg])
    have h1 : smP d (a ++ op :: (b ++ r)) = .ok ta (op :: (b ++ r)) := by
      rw [iha _ (hs.mono (by omega))]; exact loop_stop (stop2_add hs (by omega)) _ _
    have h2 : smP d (b ++ r) = .ok tb r := by
      rw [ihb r (hr.mono (by omega))]; exact loop_stop (stop2_add hr (by omega)) _ _
    simp only [List.append_assoc, List.cons_append]
    unfold cpP cmpF
    rw [h1]; simp only
    rw [opAt_cons ho]
    simp [h2]
  | @cond d a b c ta tb tc ha hb hc iha ihb ihc =>
    intro r hr
    have h1 := iha (63 :: (b ++ 58 :: (c ++ r))) (Stop.cons (by simp [stp, isDg]))
    have h2 := ihb (58 :: (c ++ r)) (Stop.cons (by simp [stp, isDg]))
    have h3 := ihc r hr
    simp only [Mot] at *
    rw [chP_eq]
    simp only [List.append_assoc, List.cons_append]
    unfold choF
    rw [h1]
    simp [inCh_succ, h2, h3]
  | @up d l s t hl h ih =>
    match l, hl, h, ih with
    | 0, _, h, ih =>
      intro r hr
      have := ih r (hr.mono (by omega))
      rw [chP_eq]; unfold choF; rw [this]
      simp [stop0 hr]
    | 1, _, h, ih =>
      intro r hr
      have : smP d (s ++ r) = .ok t r := by
        rw [ih r (hr.mono (by omega))]; exact loop_stop (stop2_add hr (by omega)) _ _
      unfold cpP cmpF
      rw [this]; simp only
      rw [opAt_none (stop1_cmp hr (by omega))]
    | 2, _, h, ih =>
      intro r hr
      have : prP d (s ++ r) = .ok t r := by
        rw [ih r (hr.mono (by omega))]; exact loop_stop (stop3_mul hr (by omega)) _ _
      unfold smP rowF
      rw [this]
    | 3, _, h, ih =>
      intro r hr
      have := ih r hr
      unfold prP rowF
      rw [this]
    | 4, _, h, ih =>
      intro r hr
      have := ih r (hr.mono (by omega))
      obtain ⟨c, s', rfl, hc⟩ := gr5_head h
      rw [sgP_eq]; unfold signF
      rw [if_neg (by simpa using hc)]
      exact this

theorem cpl0 {d : Nat} {s : List UInt8} {t : Tm} (h : Gr d 0 s t) (r : List UInt8) (hr : Stop 0 r) : chP d (s ++ r) = .ok t r := cpl h r hr

theorem gr_more {d l : Nat} {s : List UInt8} {t : Tm} (h : Gr d l s t) : Gr (d + 1) l s t := by
  induction h with
  | num d s h hd h0 hv => exact .num _ s h hd h0 hv
  | vn d => exact .vn _
  | vs d => exact .vs _
  | brk _ ih => exact .brk ih
  | mn _ _ iha ihb => exact .mn iha ihb
  | mx _ _ iha ihb => exact .mx iha ihb
  | neg _ ih => exact .neg ih
  | mul op ho _ _ iha ihb => exact .mul op ho iha ihb
  | add op ho _ _ iha ihb => exact .add op ho iha ihb
  | cmp op ho _ _ iha ihb => exact .cmp op ho iha ihb
  | cond _ _ _ iha ihb ihc => exact .cond iha ihb ihc
  | up hl _ ih => exact .up hl ih

/-- A text is read whole, just where it follows the grammar. -/
theorem whole_ok {l : List UInt8} {t : Tm} {v : List UInt8} (h : wholeP l = .ok t v) : v = [] ∧ Gr 20 0 l t := by
  unfold wholeP at h
  split at h
  · cases h
  · rename_i t' v' hc
    split at h
    · rename_i hv
      cases h
      obtain ⟨s, hs, hg⟩ := (snd_lev 20).1 _ _ _ hc
      subst hv
      refine ⟨rfl, ?_⟩
      simp at hs; exact hs ▸ hg
    · cases h

theorem whole_of {l : List UInt8} {t : Tm} (h : Gr 20 0 l t) : wholeP l = .ok t [] := by
  have := cpl0 h [] (by intro c hc; simp at hc)
  simp at this
  simp [wholeP, this]

theorem read_ok {l : List UInt8} {t : Tm} {v : List UInt8} (h : readP l = .ok t v) : l.length ≤ 120 ∧ v = [] ∧ Gr 20 0 l t := by
  unfold readP at h
  split at h
  · cases h
  · rename_i hl
    exact ⟨by omega, whole_ok h⟩

theorem read_of {l : List UInt8} {t : Tm} (hl : l.length ≤ 120) (h : Gr 20 0 l t) : readP l = .ok t [] := by
  unfold readP; rw [if_neg (by omega)]; exact whole_of h

/-- A text within another one, ended by what ends it: if it is right by itself and there too, it says the same there. -/
theorem inner_eq {d : Nat} {a r : List UInt8} {ta t' : Tm} {v : List UInt8} (ha : Gr (d + 1) 0 a ta) (hr : Stop 0 r) (hv : Stop 0 v) (h : chP d (a ++ r) = .ok t' v) : t' = ta ∧ v = r ∧ Gr d 0 a ta := by
  obtain ⟨s, hs, hg⟩ := (snd_lev d).1 _ _ _ h
  have h1 := cpl0 (gr_more hg) v hv
  have h2 := cpl0 ha r hr
  rw [hs, h1] at h2
  injection h2 with e1 e2
  subst e1 e2
  have : s = a := by simpa using hs.symm
  subst this
  exact ⟨rfl, rfl, hg⟩

end Go.Proofs.YtppkjiihmlphbaaGreatDoor
