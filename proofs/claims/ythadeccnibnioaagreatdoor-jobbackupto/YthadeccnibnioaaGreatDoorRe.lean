/- A level deeper. -/
import Derived.Test.YthadeccnibnioaaGreatDoorRd
namespace Go.Proofs.YthadeccnibnioaaGreatDoor
open Go.RowKit

/-- Reading an expression with d levels left. -/
def ChOK (d : Nat) : Prop := ∀ (w : World) (rb : Nat) (s : ByteArray) (k dp : Nat), Cx w rb s k dp → dp + d = 20 →
  Calls Tryz.prog 69 #[.pointer (some ⟨rb, 0, none⟩)] w (Out rb s dp w (chP d (s.data.toList.drop k)))
def SgOK (d : Nat) : Prop := ∀ (w : World) (rb : Nat) (s : ByteArray) (k dp : Nat), Cx w rb s k dp → dp + d = 20 →
  Calls Tryz.prog 203 #[.pointer (some ⟨rb, 0, none⟩)] w (Out rb s dp w (sgP d (s.data.toList.drop k)))

theorem Fr.one {rb cv : Nat} {a b : World} (h : Fr [rb] a b) : Fr [rb, cv] a b := h.more (fun k _ hm => by simp at hm; simp [hm])
theorem Fr.onec {rb cv : Nat} {a b : World} (h : Fr [rb, cv] a b) (hc : a.heap.size ≤ cv) : Fr [rb] a b := h.more (fun k hk hm => by simp at hm; rcases hm with rfl | rfl; simp; omega)

theorem deeper_full {w : World} {rb k : Nat} {s : ByteArray} (h : Cx w rb s k 20) (pl : Nat) (G : Fn) (f c : Array Value) :
    Calls Tryz.prog 108 #[.pointer (some ⟨rb, 0, none⟩), .int .i64 pl, .func G f c] w fun e w' => e = .panicked (flt pl 4) ∧ w = w' := by
  have h2 := h.rd.c2
  have hpn := run_panic
  go_enter Tryz.func108, Tryz.ntmps108
  go_wp2_with fail
  exact ⟨rfl, rfl, rfl⟩

theorem clo_choice1 {d : Nat} (hC : ChOK d) {w : World} {rb bx cv k dp : Nat} {s : ByteArray} {v0 : Value} (h : Cx w rb s k dp) (hd : dp + d = 20)
    (hbx : w.heap[bx]? = some (.cells #[.pointer (some ⟨rb, 0, none⟩)] 121)) (hcv : w.heap[cv]? = some (.cells #[v0] 74)) (hcr : cv ≠ rb) :
    Calls Tryz.prog 109 #[.pointer (some ⟨bx, 0, none⟩), .pointer (some ⟨cv, 0, none⟩)] w (OutV rb cv s dp w (chP d (s.data.toList.drop k))) := by
  have c1 := (cell1 hbx).1
  have hlt := some_lt hcv
  have hch := hC w rb s k dp h hd
  generalize chP d (s.data.toList.drop k) = r at hch ⊢
  cases r with
  | ok t u =>
    go_enter Tryz.func109, Tryz.ntmps109
    go_wp2_with (go_at_call 69; refine hch.mono ?_; rintro e w' ⟨p, k', rfl, ht, hr, hk', hu, hf⟩; have hcv' : w'.heap[cv]? = some (.cells #[v0] 74) := (by rw [hf.block cv hlt (by simpa using hcr)]; exact hcv); have c2 := (cell1 hcv').1; have c3 := (cell1 hcv').2)
    go_end0
    refine ⟨p, k', rfl, ?_, heap_set1 hcv', hr.setOther hcr _, hk', hu, ?_⟩
    · exact Tr.fr (xs := [cv]) ((Fr.refl _ _).setCell (.inl (by simp)) _) (by simpa using hlt) _ _ ht
    · exact hf.one.setCell (.inl (by simp)) _
  | bad pl er =>
    go_enter Tryz.func109, Tryz.ntmps109
    go_wp2_with (go_at_call 69; refine hch.mono ?_; rintro e w' ⟨rfl, hf⟩)
    exact ⟨rfl, rfl, hf.one⟩

theorem deep_choice1 {d : Nat} (hin : ∀ e, d = e + 1 → ChOK e) {w : World} {rb bx cv k dp pl : Nat} {s : ByteArray} {v0 : Value} (h : Cx w rb s k dp) (hd : dp + d = 20) (hpl : pl ≤ s.size)
    (hbx : w.heap[bx]? = some (.cells #[.pointer (some ⟨rb, 0, none⟩)] 121)) (hcv : w.heap[cv]? = some (.cells #[v0] 74)) (hcr : cv ≠ rb) (hbr : bx ≠ rb) :
    Calls Tryz.prog 108 #[.pointer (some ⟨rb, 0, none⟩), .int .i64 pl, .func (.func 109) #[] #[.pointer (some ⟨bx, 0, none⟩), .pointer (some ⟨cv, 0, none⟩)]] w (OutV rb cv s dp w (inCh d (s.size - pl) (s.data.toList.drop k))) := by
  cases d with
  | zero =>
    have : dp = 20 := by omega
    subst this
    refine (deeper_full h pl _ _ _).mono ?_
    rintro e w' ⟨rfl, rfl⟩
    exact ⟨by rw [Nat.sub_sub_self hpl], Fr.refl _ _⟩
  | succ d =>
    rw [inCh_succ]
    have hdp : dp < 20 := by omega
    have h2 := h.rd.c2
    have fz := h.rd.fz 2
    have hf1 : Fr [rb] w (w.setCell ⟨rb, 2, none⟩ (.int .i64 ((dp + 1 : Nat) : Int))) := (Fr.refl _ _).setCell (.inl (by simp)) _
    have hclo := clo_choice1 (hin d rfl) (w := w.setCell ⟨rb, 2, none⟩ (.int .i64 ((dp + 1 : Nat) : Int))) (bx := bx) (cv := cv) (v0 := v0) (h.fr hf1 (h.rd.set2 _) h.le) (by omega)
      (by rw [hf1.block bx (some_lt hbx) (by simpa using hbr)]; exact hbx) (by rw [hf1.block cv (some_lt hcv) (by simpa using hcr)]; exact hcv) hcr
    generalize chP d (s.data.toList.drop k) = r at hclo ⊢
    have hdq : ¬ (dp : Int) = 20 := by omega
    cases r with
    | ok t u =>
      go_enter Tryz.func108, Tryz.ntmps108
      go_wp2_with (go_at_call 109; refine hclo.mono ?_; rintro e w' ⟨p, k', rfl, ht, hcv', hr, hk', hu, hf⟩; have c2 := hr.c2; have f2 := hr.fz 2)
      go_end0
      refine ⟨p, k', rfl, ?_, ?_, hr.set2 dp, hk', hu, ?_⟩
      · have ht' : Tr w.heap.size w' t p := by simpa using ht
        exact Tr.fr (xs := [rb]) ((Fr.refl _ _).setCell (.inl (by simp)) _) (by simpa using h.rd.lt) _ _ ht'
      · rw [Below.heap_setCell _ _ _ _ hcr]; exact hcv'
      · exact (hf1.one.trans hf).setCell (.inl (by simp)) _
    | bad pl er =>
      go_enter Tryz.func108, Tryz.ntmps108
      go_wp2_with (go_at_call 109; refine hclo.mono ?_; rintro e w' ⟨rfl, hf⟩)
      exact ⟨rfl, rfl, hf1.one.trans hf⟩
theorem clo_choice2 {d : Nat} (hC : ChOK d) {w : World} {rb bx cv k dp : Nat} {s : ByteArray} {v0 : Value} (h : Cx w rb s k dp) (hd : dp + d = 20)
    (hbx : w.heap[bx]? = some (.cells #[.pointer (some ⟨rb, 0, none⟩)] 121)) (hcv : w.heap[cv]? = some (.cells #[v0] 74)) (hcr : cv ≠ rb) :
    Calls Tryz.prog 111 #[.pointer (some ⟨bx, 0, none⟩), .pointer (some ⟨cv, 0, none⟩)] w (OutV rb cv s dp w (chP d (s.data.toList.drop k))) := by
  have c1 := (cell1 hbx).1
  have hlt := some_lt hcv
  have hch := hC w rb s k dp h hd
  generalize chP d (s.data.toList.drop k) = r at hch ⊢
  cases r with
  | ok t u =>
    go_enter Tryz.func111, Tryz.ntmps111
    go_wp2_with (go_at_call 69; refine hch.mono ?_; rintro e w' ⟨p, k', rfl, ht, hr, hk', hu, hf⟩; have hcv' : w'.heap[cv]? = some (.cells #[v0] 74) := (by rw [hf.block cv hlt (by simpa using hcr)]; exact hcv); have c2 := (cell1 hcv').1; have c3 := (cell1 hcv').2)
    go_end0
    refine ⟨p, k', rfl, ?_, heap_set1 hcv', hr.setOther hcr _, hk', hu, ?_⟩
    · exact Tr.fr (xs := [cv]) ((Fr.refl _ _).setCell (.inl (by simp)) _) (by simpa using hlt) _ _ ht
    · exact hf.one.setCell (.inl (by simp)) _
  | bad pl er =>
    go_enter Tryz.func111, Tryz.ntmps111
    go_wp2_with (go_at_call 69; refine hch.mono ?_; rintro e w' ⟨rfl, hf⟩)
    exact ⟨rfl, rfl, hf.one⟩

theorem deep_choice2 {d : Nat} (hin : ∀ e, d = e + 1 → ChOK e) {w : World} {rb bx cv k dp pl : Nat} {s : ByteArray} {v0 : Value} (h : Cx w rb s k dp) (hd : dp + d = 20) (hpl : pl ≤ s.size)
    (hbx : w.heap[bx]? = some (.cells #[.pointer (some ⟨rb, 0, none⟩)] 121)) (hcv : w.heap[cv]? = some (.cells #[v0] 74)) (hcr : cv ≠ rb) (hbr : bx ≠ rb) :
    Calls Tryz.prog 108 #[.pointer (some ⟨rb, 0, none⟩), .int .i64 pl, .func (.func 111) #[] #[.pointer (some ⟨bx, 0, none⟩), .pointer (some ⟨cv, 0, none⟩)]] w (OutV rb cv s dp w (inCh d (s.size - pl) (s.data.toList.drop k))) := by
  cases d with
  | zero =>
    have : dp = 20 := by omega
    subst this
    refine (deeper_full h pl _ _ _).mono ?_
    rintro e w' ⟨rfl, rfl⟩
    exact ⟨by rw [Nat.sub_sub_self hpl], Fr.refl _ _⟩
  | succ d =>
    rw [inCh_succ]
    have hdp : dp < 20 := by omega
    have h2 := h.rd.c2
    have fz := h.rd.fz 2
    have hf1 : Fr [rb] w (w.setCell ⟨rb, 2, none⟩ (.int .i64 ((dp + 1 : Nat) : Int))) := (Fr.refl _ _).setCell (.inl (by simp)) _
    have hclo := clo_choice2 (hin d rfl) (w := w.setCell ⟨rb, 2, none⟩ (.int .i64 ((dp + 1 : Nat) : Int))) (bx := bx) (cv := cv) (v0 := v0) (h.fr hf1 (h.rd.set2 _) h.le) (by omega)
      (by rw [hf1.block bx (some_lt hbx) (by simpa using hbr)]; exact hbx) (by rw [hf1.block cv (some_lt hcv) (by simpa using hcr)]; exact hcv) hcr
    generalize chP d (s.data.toList.drop k) = r at hclo ⊢
    have hdq : ¬ (dp : Int) = 20 := by omega
    cases r with
    | ok t u =>
      go_enter Tryz.func108, Tryz.ntmps108
      go_wp2_with (go_at_call 111; refine hclo.mono ?_; rintro e w' ⟨p, k', rfl, ht, hcv', hr, hk', hu, hf⟩; have c2 := hr.c2; have f2 := hr.fz 2)
      go_end0
      refine ⟨p, k', rfl, ?_, ?_, hr.set2 dp, hk', hu, ?_⟩
      · have ht' : Tr w.heap.size w' t p := by simpa using ht
        exact Tr.fr (xs := [rb]) ((Fr.refl _ _).setCell (.inl (by simp)) _) (by simpa using h.rd.lt) _ _ ht'
      · rw [Below.heap_setCell _ _ _ _ hcr]; exact hcv'
      · exact (hf1.one.trans hf).setCell (.inl (by simp)) _
    | bad pl er =>
      go_enter Tryz.func108, Tryz.ntmps108
      go_wp2_with (go_at_call 111; refine hclo.mono ?_; rintro e w' ⟨rfl, hf⟩)
      exact ⟨rfl, rfl, hf1.one.trans hf⟩
theorem clo_bracket1 {d : Nat} (hC : ChOK d) {w : World} {rb bx cv k dp : Nat} {s : ByteArray} {v0 : Value} (h : Cx w rb s k dp) (hd : dp + d = 20)
    (hbx : w.heap[bx]? = some (.cells #[.pointer (some ⟨rb, 0, none⟩)] 121)) (hcv : w.heap[cv]? = some (.cells #[v0] 74)) (hcr : cv ≠ rb) :
    Calls Tryz.prog 230 #[.pointer (some ⟨bx, 0, none⟩), .pointer (some ⟨cv, 0, none⟩)] w (OutV rb cv s dp w (chP d (s.data.toList.drop k))) := by
  have c1 := (cell1 hbx).1
  have hlt := some_lt hcv
  have hch := hC w rb s k dp h hd
  generalize chP d (s.data.toList.drop k) = r at hch ⊢
  cases r with
  | ok t u =>
    go_enter Tryz.func230, Tryz.ntmps230
    go_wp2_with (go_at_call 69; refine hch.mono ?_; rintro e w' ⟨p, k', rfl, ht, hr, hk', hu, hf⟩; have hcv' : w'.heap[cv]? = some (.cells #[v0] 74) := (by rw [hf.block cv hlt (by simpa using hcr)]; exact hcv); have c2 := (cell1 hcv').1; have c3 := (cell1 hcv').2)
    go_end0
    refine ⟨p, k', rfl, ?_, heap_set1 hcv', hr.setOther hcr _, hk', hu, ?_⟩
    · exact Tr.fr (xs := [cv]) ((Fr.refl _ _).setCell (.inl (by simp)) _) (by simpa using hlt) _ _ ht
    · exact hf.one.setCell (.inl (by simp)) _
  | bad pl er =>
    go_enter Tryz.func230, Tryz.ntmps230
    go_wp2_with (go_at_call 69; refine hch.mono ?_; rintro e w' ⟨rfl, hf⟩)
    exact ⟨rfl, rfl, hf.one⟩

theorem deep_bracket1 {d : Nat} (hin : ∀ e, d = e + 1 → ChOK e) {w : World} {rb bx cv k dp pl : Nat} {s : ByteArray} {v0 : Value} (h : Cx w rb s k dp) (hd : dp + d = 20) (hpl : pl ≤ s.size)
    (hbx : w.heap[bx]? = some (.cells #[.pointer (some ⟨rb, 0, none⟩)] 121)) (hcv : w.heap[cv]? = some (.cells #[v0] 74)) (hcr : cv ≠ rb) (hbr : bx ≠ rb) :
    Calls Tryz.prog 108 #[.pointer (some ⟨rb, 0, none⟩), .int .i64 pl, .func (.func 230) #[] #[.pointer (some ⟨bx, 0, none⟩), .pointer (some ⟨cv, 0, none⟩)]] w (OutV rb cv s dp w (inCh d (s.size - pl) (s.data.toList.drop k))) := by
  cases d with
  | zero =>
    have : dp = 20 := by omega
    subst this
    refine (deeper_full h pl _ _ _).mono ?_
    rintro e w' ⟨rfl, rfl⟩
    exact ⟨by rw [Nat.sub_sub_self hpl], Fr.refl _ _⟩
  | succ d =>
    rw [inCh_succ]
    have hdp : dp < 20 := by omega
    have h2 := h.rd.c2
    have fz := h.rd.fz 2
    have hf1 : Fr [rb] w (w.setCell ⟨rb, 2, none⟩ (.int .i64 ((dp + 1 : Nat) : Int))) := (Fr.refl _ _).setCell (.inl (by simp)) _
    have hclo := clo_bracket1 (hin d rfl) (w := w.setCell ⟨rb, 2, none⟩ (.int .i64 ((dp + 1 : Nat) : Int))) (bx := bx) (cv := cv) (v0 := v0) (h.fr hf1 (h.rd.set2 _) h.le) (by omega)
      (by rw [hf1.block bx (some_lt hbx) (by simpa using hbr)]; exact hbx) (by rw [hf1.block cv (some_lt hcv) (by simpa using hcr)]; exact hcv) hcr
    generalize chP d (s.data.toList.drop k) = r at hclo ⊢
    have hdq : ¬ (dp : Int) = 20 := by omega
    cases r with
    | ok t u =>
      go_enter Tryz.func108, Tryz.ntmps108
      go_wp2_with (go_at_call 230; refine hclo.mono ?_; rintro e w' ⟨p, k', rfl, ht, hcv', hr, hk', hu, hf⟩; have c2 := hr.c2; have f2 := hr.fz 2)
      go_end0
      refine ⟨p, k', rfl, ?_, ?_, hr.set2 dp, hk', hu, ?_⟩
      · have ht' : Tr w.heap.size w' t p := by simpa using ht
        exact Tr.fr (xs := [rb]) ((Fr.refl _ _).setCell (.inl (by simp)) _) (by simpa using h.rd.lt) _ _ ht'
      · rw [Below.heap_setCell _ _ _ _ hcr]; exact hcv'
      · exact (hf1.one.trans hf).setCell (.inl (by simp)) _
    | bad pl er =>
      go_enter Tryz.func108, Tryz.ntmps108
      go_wp2_with (go_at_call 230; refine hclo.mono ?_; rintro e w' ⟨rfl, hf⟩)
      exact ⟨rfl, rfl, hf1.one.trans hf⟩
theorem clo_sign1 {d : Nat} (hC : SgOK d) {w : World} {rb bx cv k dp : Nat} {s : ByteArray} {v0 : Value} (h : Cx w rb s k dp) (hd : dp + d = 20)
    (hbx : w.heap[bx]? = some (.cells #[.pointer (some ⟨rb, 0, none⟩)] 121)) (hcv : w.heap[cv]? = some (.cells #[v0] 74)) (hcr : cv ≠ rb) :
    Calls Tryz.prog 218 #[.pointer (some ⟨bx, 0, none⟩), .pointer (some ⟨cv, 0, none⟩)] w (OutV rb cv s dp w (sgP d (s.data.toList.drop k))) := by
  have c1 := (cell1 hbx).1
  have hlt := some_lt hcv
  have hch := hC w rb s k dp h hd
  generalize sgP d (s.data.toList.drop k) = r at hch ⊢
  cases r with
  | ok t u =>
    go_enter Tryz.func218, Tryz.ntmps218
    go_wp2_with (go_at_call 203; refine hch.mono ?_; rintro e w' ⟨p, k', rfl, ht, hr, hk', hu, hf⟩; have hcv' : w'.heap[cv]? = some (.cells #[v0] 74) := (by rw [hf.block cv hlt (by simpa using hcr)]; exact hcv); have c2 := (cell1 hcv').1; have c3 := (cell1 hcv').2)
    go_end0
    refine ⟨p, k', rfl, ?_, heap_set1 hcv', hr.setOther hcr _, hk', hu, ?_⟩
    · exact Tr.fr (xs := [cv]) ((Fr.refl _ _).setCell (.inl (by simp)) _) (by simpa using hlt) _ _ ht
    · exact hf.one.setCell (.inl (by simp)) _
  | bad pl er =>
    go_enter Tryz.func218, Tryz.ntmps218
    go_wp2_with (go_at_call 203; refine hch.mono ?_; rintro e w' ⟨rfl, hf⟩)
    exact ⟨rfl, rfl, hf.one⟩

theorem deep_sign1 {d : Nat} (hin : ∀ e, d = e + 1 → SgOK e) {w : World} {rb bx cv k dp pl : Nat} {s : ByteArray} {v0 : Value} (h : Cx w rb s k dp) (hd : dp + d = 20) (hpl : pl ≤ s.size)
    (hbx : w.heap[bx]? = some (.cells #[.pointer (some ⟨rb, 0, none⟩)] 121)) (hcv : w.heap[cv]? = some (.cells #[v0] 74)) (hcr : cv ≠ rb) (hbr : bx ≠ rb) :
    Calls Tryz.prog 108 #[.pointer (some ⟨rb, 0, none⟩), .int .i64 pl, .func (.func 218) #[] #[.pointer (some ⟨bx, 0, none⟩), .pointer (some ⟨cv, 0, none⟩)]] w (OutV rb cv s dp w (inSg d (s.size - pl) (s.data.toList.drop k))) := by
  cases d with
  | zero =>
    have : dp = 20 := by omega
    subst this
    refine (deeper_full h pl _ _ _).mono ?_
    rintro e w' ⟨rfl, rfl⟩
    exact ⟨by rw [Nat.sub_sub_self hpl], Fr.refl _ _⟩
  | succ d =>
    rw [inSg_succ]
    have hdp : dp < 20 := by omega
    have h2 := h.rd.c2
    have fz := h.rd.fz 2
    have hf1 : Fr [rb] w (w.setCell ⟨rb, 2, none⟩ (.int .i64 ((dp + 1 : Nat) : Int))) := (Fr.refl _ _).setCell (.inl (by simp)) _
    have hclo := clo_sign1 (hin d rfl) (w := w.setCell ⟨rb, 2, none⟩ (.int .i64 ((dp + 1 : Nat) : Int))) (bx := bx) (cv := cv) (v0 := v0) (h.fr hf1 (h.rd.set2 _) h.le) (by omega)
      (by rw [hf1.block bx (some_lt hbx) (by simpa using hbr)]; exact hbx) (by rw [hf1.block cv (some_lt hcv) (by simpa using hcr)]; exact hcv) hcr
    generalize sgP d (s.data.toList.drop k) = r at hclo ⊢
    have hdq : ¬ (dp : Int) = 20 := by omega
    cases r with
    | ok t u =>
      go_enter Tryz.func108, Tryz.ntmps108
      go_wp2_with (go_at_call 218; refine hclo.mono ?_; rintro e w' ⟨p, k', rfl, ht, hcv', hr, hk', hu, hf⟩; have c2 := hr.c2; have f2 := hr.fz 2)
      go_end0
      refine ⟨p, k', rfl, ?_, ?_, hr.set2 dp, hk', hu, ?_⟩
      · have ht' : Tr w.heap.size w' t p := by simpa using ht
        exact Tr.fr (xs := [rb]) ((Fr.refl _ _).setCell (.inl (by simp)) _) (by simpa using h.rd.lt) _ _ ht'
      · rw [Below.heap_setCell _ _ _ _ hcr]; exact hcv'
      · exact (hf1.one.trans hf).setCell (.inl (by simp)) _
    | bad pl er =>
      go_enter Tryz.func108, Tryz.ntmps108
      go_wp2_with (go_at_call 218; refine hclo.mono ?_; rintro e w' ⟨rfl, hf⟩)
      exact ⟨rfl, rfl, hf1.one.trans hf⟩
end Go.Proofs.YthadeccnibnioaaGreatDoor
