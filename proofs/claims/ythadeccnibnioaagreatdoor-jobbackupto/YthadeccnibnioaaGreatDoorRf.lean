/- Two expressions a level deeper. -/
import Derived.Test.YthadeccnibnioaaGreatDoorRe
namespace Go.Proofs.YthadeccnibnioaaGreatDoor
open Go.RowKit

inductive Res2 where
  | ok (a b : Tm) (u : List UInt8)
  | bad (pl : Nat) (e : Nat)

def pinF (ch : List UInt8 → Res) (r : List UInt8) : Res2 :=
  match ch r with
  | .bad p e => .bad p e
  | .ok a v =>
    if v.head? = some 44 then
      match ch (v.drop 1) with
      | .bad p e => .bad p e
      | .ok b v2 => .ok a b v2
    else .bad v.length 2

def inPr : Nat → Nat → List UInt8 → Res2
  | 0 => fun pl _ => .bad pl 4
  | d + 1 => fun _ u => pinF (chP d) u

theorem pairF_eq (d : Nat) (op : UInt8) (pl : Nat) (r : List UInt8) : pairF (inCh d) op pl r =
    match inPr d pl r with
    | .bad p e => .bad p e
    | .ok a b v => if v.head? = some 41 then .ok (.two op a b) (v.drop 1) else .bad v.length 2 := by
  cases d with
  | zero => rfl
  | succ d =>
    show pairF (fun _ u => chP d u) op pl r = _
    unfold pairF inPr pinF
    simp only
    cases chP d r with
    | bad p e => rfl
    | ok a v =>
      simp only
      split
      · cases chP d (v.drop 1) <;> rfl
      · rfl

def OutW (rb c1 c2 : Nat) (s : ByteArray) (dp : Nat) (w : World) (r : Res2) (e : Ending) (w' : World) : Prop :=
  match r with
  | .ok a b u => ∃ p q k, e = .returned (.tuple #[]) ∧ Tr w.heap.size w' a p ∧ Tr w.heap.size w' b q ∧ w'.heap[c1]? = some (.cells #[.pointer (some ⟨p, 0, none⟩)] 74) ∧ w'.heap[c2]? = some (.cells #[.pointer (some ⟨q, 0, none⟩)] 74) ∧ Rd w' rb s k dp ∧ k ≤ s.size ∧ u = s.data.toList.drop k ∧ Fr [rb, c1, c2] w w'
  | .bad pl er => e = .panicked (flt (s.size - pl) er) ∧ Fr [rb, c1, c2] w w'

theorem drop_drop1 (s : ByteArray) (k : Nat) : (s.data.toList.drop k).drop 1 = s.data.toList.drop (k + 1) := by rw [List.drop_drop]
theorem head_lt {s : ByteArray} {k : Nat} {c : UInt8} (h : (s.data.toList.drop k).head? = some c) : k + 1 ≤ s.size := by
  rcases Nat.lt_or_ge k s.size with h' | h'
  · exact h'
  · rw [drop_end h'] at h; simp at h
theorem pre44 : (⟨#[44]⟩ : ByteArray).data.toList = [44] := rfl
theorem pre41 : (⟨#[41]⟩ : ByteArray).data.toList = [41] := rfl
theorem Fr.w1 {rb c1 c2 : Nat} {a b : World} (h : Fr [rb] a b) : Fr [rb, c1, c2] a b := h.more (fun k _ hm => by simp at hm; simp [hm])
theorem Fr.w2 {rb c1 c2 : Nat} {a b : World} (h : Fr [c1] a b) : Fr [rb, c1, c2] a b := h.more (fun k _ hm => by simp at hm; simp [hm])

set_option maxHeartbeats 1000000 in
theorem clo_pair {d : Nat} (hC : ChOK d) {w : World} {rb bx c1 c2 k dp : Nat} {s : ByteArray} {v0 v1 : Value} (h : Cx w rb s k dp) (hd : dp + d = 20)
    (hbx : w.heap[bx]? = some (.cells #[.pointer (some ⟨rb, 0, none⟩)] 121)) (hc1 : w.heap[c1]? = some (.cells #[v0] 74)) (hc2 : w.heap[c2]? = some (.cells #[v1] 74)) (hr1 : c1 ≠ rb) (hr2' : c2 ≠ rb) (hg1 : 10 ≤ c1) (hg2 : 10 ≤ c2) (hbr : bx ≠ rb) (hb1 : bx ≠ c1) (h12 : c1 ≠ c2) :
    Calls Tryz.prog 231 #[.pointer (some ⟨bx, 0, none⟩), .pointer (some ⟨c1, 0, none⟩), .pointer (some ⟨c2, 0, none⟩)] w (OutW rb c1 c2 s dp w (pinF (chP d) (s.data.toList.drop k))) := by
  have b1 := (cell1 hbx).1
  have l1 := some_lt hc1
  have l2 := some_lt hc2
  have lb := some_lt hbx
  have hch := hC w rb s k dp h hd
  have hpin : pinF (chP d) (s.data.toList.drop k) = pinF (chP d) (s.data.toList.drop k) := rfl
  conv at hpin => rhs; unfold pinF
  generalize pinF (chP d) (s.data.toList.drop k) = pr at hpin ⊢
  generalize chP d (s.data.toList.drop k) = r at hch hpin
  cases r with
  | bad pl er =>
    simp only at hpin
    subst hpin
    go_enter Tryz.func231, Tryz.ntmps231
    go_wp2_with (go_at_call 69; refine hch.mono ?_; rintro e w' ⟨rfl, hf⟩)
    exact ⟨rfl, rfl, hf.w1⟩
  | ok t u =>
    simp only at hpin
    have HP := Lib.hid hpin
    clear hpin
    go_enter Tryz.func231, Tryz.ntmps231
    go_wp2_with (go_at_call 69; refine hch.mono ?_; rintro e wa ⟨p, ka, rfl, ht, hr, hk', hu, hf⟩; have hca : wa.heap[c1]? = some (.cells #[v0] 74) := (by rw [hf.block c1 l1 (by simpa using hr1)]; exact hc1); have a2 := (cell1 hca).1; have a3 := (cell1 hca).2; have hba : wa.heap[bx]? = some (.cells #[.pointer (some ⟨rb, 0, none⟩)] 121) := (by rw [hf.block bx lb (by simpa using hbr)]; exact hbx); have a4 := (cell1 hba).1)
    have hfb : Fr [rb, c1, c2] w (wa.setCell ⟨c1, 0, none⟩ (.pointer (some ⟨p, 0, none⟩))) := hf.w1.setCell (.inl (by simp)) _
    have hrb := hr.setOther (p := ⟨c1, 0, none⟩) hr1 (.pointer (some ⟨p, 0, none⟩))
    have htb : Tr w.heap.size (wa.setCell ⟨c1, 0, none⟩ (.pointer (some ⟨p, 0, none⟩))) t p := Tr.fr (xs := [c1]) ((Fr.refl _ _).setCell (.inl (by simp)) _) (by simpa using l1) _ _ ht
    have hcb := heap_set1 (u := .pointer (some ⟨p, 0, none⟩)) hca
    have hc2b : (wa.setCell ⟨c1, 0, none⟩ (.pointer (some ⟨p, 0, none⟩))).heap[c2]? = some (.cells #[v1] 74) := by rw [Below.heap_setCell _ _ _ _ h12.symm, hf.block c2 l2 (by simpa using hr2')]; exact hc2
    have hbb : (wa.setCell ⟨c1, 0, none⟩ (.pointer (some ⟨p, 0, none⟩))).heap[bx]? = some (.cells #[.pointer (some ⟨rb, 0, none⟩)] 121) := by rw [Below.heap_setCell _ _ _ _ hb1]; exact hba
    generalize wa.setCell ⟨c1, 0, none⟩ (.pointer (some ⟨p, 0, none⟩)) = wb at hfb hrb htb hcb hbb hc2b ⊢
    have hcx : Cx wb rb s ka dp := h.frx hfb (by intro x hx; simp at hx; have := h.lo; have := h.gl.1; rcases hx with rfl | rfl | rfl; exact h.lo; exact hg1; exact hg2) hrb hk'
    subst hu
    have hsb := hfb.size
    clear a2 a3 a4 hca hba hf hr ht
    by_cases hm : (s.data.toList.drop ka).head? = some 44
    · have hka := head_lt hm
      have hp := HP.out
      rw [if_pos hm, drop_drop1] at hp
      clear HP
      cases hr2 : chP d (s.data.toList.drop (ka + 1)) with
      | bad pl er =>
        rw [hr2] at hp
        have HP := Lib.hid hp
        have HR := Lib.hid hr2
        clear hr2 hp
        go_wp2_with (first | (go_at_call 110; refine (hcx.mustOut (p := ⟨#[44]⟩) ((pre_one pre44 _).2 hm)).mono ?_; rintro e wc ⟨rfl, hrc, hfc⟩; have hbc : wc.heap[bx]? = some (.cells #[.pointer (some ⟨rb, 0, none⟩)] 121) := (by rw [hfc.block bx (some_lt hbb) (by simpa using hbr)]; exact hbb); have c4 := (cell1 hbc).1) | (go_at_call 69; refine (hC wc rb s (ka + 1) dp (hcx.fr hfc hrc hka) hd).mono ?_; rw [HR.out]; rintro e wd ⟨rfl, hfd⟩))
        refine ⟨rfl, ?_⟩
        rw [HP.out]
        exact ⟨rfl, (hfb.trans hfc.w1).trans hfd.w1⟩
      | ok b v2 =>
        rw [hr2] at hp
        have HP := Lib.hid hp
        have HR := Lib.hid hr2
        clear hr2 hp
        go_wp2_with (first | (go_at_call 110; refine (hcx.mustOut (p := ⟨#[44]⟩) ((pre_one pre44 _).2 hm)).mono ?_; rintro e wc ⟨rfl, hrc, hfc⟩; have hbc : wc.heap[bx]? = some (.cells #[.pointer (some ⟨rb, 0, none⟩)] 121) := (by rw [hfc.block bx (some_lt hbb) (by simpa using hbr)]; exact hbb); have c4 := (cell1 hbc).1) | (go_at_call 69; refine (hC wc rb s (ka + 1) dp (hcx.fr hfc hrc hka) hd).mono ?_; rw [HR.out]; rintro e wd ⟨q, kd, rfl, htd, hrd, hkd, hud, hfd⟩; have hsc := hfc.size; have hcd : wd.heap[c2]? = some (.cells #[v1] 74) := (by rw [hfd.block c2 (by omega) (by simpa using hr2'), hfc.block c2 (by omega) (by simpa using hr2')]; exact hc2b); have d1 := (cell1 hcd).1; have d2 := (cell1 hcd).2))
        go_end0
        have hsc := hfc.size
        have hsd := hfd.size
        rw [HP.out]
        refine ⟨p, q, kd, rfl, ?_, ?_, ?_, heap_set1 hcd, hrd.setOther hr2' _, hkd, hud, ?_⟩
        · exact Tr.fr (xs := [rb, c2]) ((hfc.one.trans hfd.one).setCell (.inl (by simp)) _) (by have := h.rd.lt; simp; omega) _ _ htb
        · exact Tr.mono (by omega) _ _ (Tr.fr (xs := [c2]) ((Fr.refl _ _).setCell (.inl (by simp)) _) (by simp; omega) _ _ htd)
        · rw [Below.heap_setCell _ _ _ _ h12, hfd.block c1 (by omega) (by simpa using hr1), hfc.block c1 (by omega) (by simpa using hr1)]; exact hcb
        · exact (((hfb.trans hfc.w1).trans hfd.w1)).setCell (.inl (by simp)) _
    · have hp := HP.out
      rw [if_neg hm] at hp
      clear HP
      subst hp
      go_wp2_with (go_at_call 110; refine (hcx.mustNot (p := ⟨#[44]⟩) (fun hp => hm ((pre_one pre44 _).1 hp))).mono ?_; rintro e wc ⟨rfl, hfc⟩)
      exact ⟨rfl, by first | rw [at_of hk'] | rw [Nat.sub_sub_self hk'], hfb.trans hfc.w1⟩

theorem deep_pair {d : Nat} (hin : ∀ e, d = e + 1 → ChOK e) {w : World} {rb bx c1 c2 k dp pl : Nat} {s : ByteArray} {v0 v1 : Value} (h : Cx w rb s k dp) (hd : dp + d = 20) (hpl : pl ≤ s.size)
    (hbx : w.heap[bx]? = some (.cells #[.pointer (some ⟨rb, 0, none⟩)] 121)) (hc1 : w.heap[c1]? = some (.cells #[v0] 74)) (hc2 : w.heap[c2]? = some (.cells #[v1] 74)) (hr1 : c1 ≠ rb) (hr2' : c2 ≠ rb) (hg1 : 10 ≤ c1) (hg2 : 10 ≤ c2) (hbr : bx ≠ rb) (hb1 : bx ≠ c1) (h12 : c1 ≠ c2) :
    Calls Tryz.prog 108 #[.pointer (some ⟨rb, 0, none⟩), .int .i64 pl, .func (.func 231) #[] #[.pointer (some ⟨bx, 0, none⟩), .pointer (some ⟨c1, 0, none⟩), .pointer (some ⟨c2, 0, none⟩)]] w (OutW rb c1 c2 s dp w (inPr d (s.size - pl) (s.data.toList.drop k))) := by
  cases d with
  | zero =>
    have : dp = 20 := by omega
    subst this
    refine (deeper_full h pl _ _ _).mono ?_
    rintro e w' ⟨rfl, rfl⟩
    exact ⟨by rw [Nat.sub_sub_self hpl], Fr.refl _ _⟩
  | succ d =>
    show Calls _ _ _ _ (OutW rb c1 c2 s dp w (pinF (chP d) (s.data.toList.drop k)))
    have hdp : dp < 20 := by omega
    have h2 := h.rd.c2
    have fz := h.rd.fz 2
    have hf1 : Fr [rb] w (w.setCell ⟨rb, 2, none⟩ (.int .i64 ((dp + 1 : Nat) : Int))) := (Fr.refl _ _).setCell (.inl (by simp)) _
    have hclo := clo_pair (hin d rfl) (w := w.setCell ⟨rb, 2, none⟩ (.int .i64 ((dp + 1 : Nat) : Int))) (bx := bx) (c1 := c1) (c2 := c2) (v0 := v0) (v1 := v1) (h.fr hf1 (h.rd.set2 _) h.le) (by omega)
      (by rw [hf1.block bx (some_lt hbx) (by simpa using hbr)]; exact hbx) (by rw [hf1.block c1 (some_lt hc1) (by simpa using hr1)]; exact hc1) (by rw [hf1.block c2 (some_lt hc2) (by simpa using hr2')]; exact hc2) hr1 hr2' hg1 hg2 hbr hb1 h12
    generalize pinF (chP d) (s.data.toList.drop k) = r at hclo ⊢
    have hdq : ¬ (dp : Int) = 20 := by omega
    cases r with
    | ok a b u =>
      go_enter Tryz.func108, Tryz.ntmps108
      go_wp2_with (go_at_call 231; refine hclo.mono ?_; rintro e w' ⟨p, q, k', rfl, ht, htq, hcv', hcq', hr, hk', hu, hf⟩; have c2' := hr.c2; have f2 := hr.fz 2)
      go_end0
      refine ⟨p, q, k', rfl, ?_, ?_, ?_, ?_, hr.set2 dp, hk', hu, ?_⟩
      · have ht' : Tr w.heap.size w' a p := by simpa using ht
        exact Tr.fr (xs := [rb]) ((Fr.refl _ _).setCell (.inl (by simp)) _) (by simpa using h.rd.lt) _ _ ht'
      · have ht' : Tr w.heap.size w' b q := by simpa using htq
        exact Tr.fr (xs := [rb]) ((Fr.refl _ _).setCell (.inl (by simp)) _) (by simpa using h.rd.lt) _ _ ht'
      · rw [Below.heap_setCell _ _ _ _ hr1]; exact hcv'
      · rw [Below.heap_setCell _ _ _ _ hr2']; exact hcq'
      · exact (hf1.w1.trans hf).setCell (.inl (by simp)) _
    | bad pl er =>
      go_enter Tryz.func108, Tryz.ntmps108
      go_wp2_with (go_at_call 231; refine hclo.mono ?_; rintro e w' ⟨rfl, hf⟩)
      exact ⟨rfl, rfl, hf1.w1.trans hf⟩
end Go.Proofs.YthadeccnibnioaaGreatDoor
