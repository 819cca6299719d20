import Derived.Test.YthadeccnibnioaaGreatDoorRa
import Derived.Test.YthadeccnibnioaaGreatDoorHp
import Derived.Test.YthadeccnibnioaaGreatDoorBz
import Derived.Test.YthadeccnibnioaaGreatDoorRz1
/- The document's reader: its small steps. -/
namespace Go.Proofs.YthadeccnibnioaaGreatDoor
open Go.RowKit

/-- The document's reader: its text, how far it is, within how many levels, where it is wrong, and how (0: it is not). -/
def Rp (w : World) (pb : Nat) (s : ByteArray) (k dp wr bd : Nat) : Prop := w.heap[pb]? = some (.cells #[.string s, .int .i64 k, .int .i64 dp, .int .i64 wr, .int .i64 bd] 71)

section
variable {w : World} {pb k dp wr bd : Nat} {s : ByteArray}
theorem Rp.lt (h : Rp w pb s k dp wr bd) : pb < w.heap.size := some_lt h
theorem Rp.c0 (h : Rp w pb s k dp wr bd) : w.cell? ⟨pb, 0, none⟩ = some (.string s) := by unfold Rp at h; simp [World.cell?, h]
theorem Rp.c1 (h : Rp w pb s k dp wr bd) : w.cell? ⟨pb, 1, none⟩ = some (.int .i64 k) := by unfold Rp at h; simp [World.cell?, h]
theorem Rp.c2 (h : Rp w pb s k dp wr bd) : w.cell? ⟨pb, 2, none⟩ = some (.int .i64 dp) := by unfold Rp at h; simp [World.cell?, h]
theorem Rp.c3 (h : Rp w pb s k dp wr bd) : w.cell? ⟨pb, 3, none⟩ = some (.int .i64 wr) := by unfold Rp at h; simp [World.cell?, h]
theorem Rp.c4 (h : Rp w pb s k dp wr bd) : w.cell? ⟨pb, 4, none⟩ = some (.int .i64 bd) := by unfold Rp at h; simp [World.cell?, h]
theorem Rp.fz (h : Rp w pb s k dp wr bd) (o : Nat) : w.frozen? ⟨pb, o, none⟩ = false := by unfold Rp at h; simp [World.frozen?, h]
theorem Rp.set1 (h : Rp w pb s k dp wr bd) (j : Nat) : Rp (w.setCell ⟨pb, 1, none⟩ (.int .i64 j)) pb s j dp wr bd := by unfold Rp at h ⊢; simp [World.setCell, Array.getElem?_modify, h]
theorem Rp.set2 (h : Rp w pb s k dp wr bd) (j : Nat) : Rp (w.setCell ⟨pb, 2, none⟩ (.int .i64 j)) pb s k j wr bd := by unfold Rp at h ⊢; simp [World.setCell, Array.getElem?_modify, h]
theorem Rp.set3 (h : Rp w pb s k dp wr bd) (j : Nat) : Rp (w.setCell ⟨pb, 3, none⟩ (.int .i64 j)) pb s k dp j bd := by unfold Rp at h ⊢; simp [World.setCell, Array.getElem?_modify, h]
theorem Rp.set4 (h : Rp w pb s k dp wr bd) (j : Nat) : Rp (w.setCell ⟨pb, 4, none⟩ (.int .i64 j)) pb s k dp wr j := by unfold Rp at h ⊢; simp [World.setCell, Array.getElem?_modify, h]
theorem Rp.drewN (h : Rp w pb s k dp wr bd) (n : Nat) : Rp (w.drewN n) pb s k dp wr bd := h
theorem Rp.fr {xs : List Nat} {w' : World} (h : Rp w pb s k dp wr bd) (f : Fr xs w w') (hx : pb ∉ xs) : Rp w' pb s k dp wr bd := by
  have := h.lt; unfold Rp at h ⊢; rw [f.block _ this hx]; exact h

theorem rfail_any (h : Rp w pb s k dp wr 0) (at_ e : Nat) :
    Calls Tryz.prog 31 #[.pointer (some ⟨pb, 0, none⟩), .int .i64 at_, .int .i64 e] w fun e' w' => e' = .returned (.tuple #[]) ∧ Rp w' pb s k dp at_ e ∧ Fr [pb] w w' := by
  have h3 := h.c3
  have h4 := h.c4
  have f3 := h.fz 3
  have f4 := h.fz 4
  go_enter Tryz.func31, Tryz.ntmps31
  go_wp2_with fail
  go_end0
  exact ⟨rfl, (h.set4 e).set3 at_, ((Fr.refl _ _).setCell (.inl (by simp)) _).setCell (.inl (by simp)) _⟩

def pk : List UInt8 → Nat
  | [] => 0
  | c :: _ => c.toNat

theorem rpeek_end (h : Rp w pb s k dp wr bd) (hk : k = s.size) :
    Calls Tryz.prog 65 #[.pointer (some ⟨pb, 0, none⟩)] w fun e w' => e = .returned (.int .i64 0) ∧ Rp w' pb s k dp wr bd ∧ Fr [pb] w w' := by
  have h0 := h.c0
  have h1 := h.c1
  have hk' : ¬ (k : Int) < s.size := by omega
  go_enter Tryz.func65, Tryz.ntmps65
  go_wp2_with fail
  go_quiet (fail)
  go_wp2_with fail
  go_ret
  exact ⟨rfl, h, (Fr.refl _ _).drewN nq⟩

theorem rpeek_at (h : Rp w pb s k dp wr bd) (hk : k < s.size) :
    Calls Tryz.prog 65 #[.pointer (some ⟨pb, 0, none⟩)] w fun e w' => e = .returned (.int .i64 s[k].toNat) ∧ Rp w' pb s k dp wr bd ∧ Fr [pb] w w' := by
  have h0 := h.c0
  have h1 := h.c1
  have hk' : (k : Int) < s.size := by omega
  have hb : (s[k].toNat : Int) < 256 := by have := s[k].toNat_lt; omega
  go_enter Tryz.func65, Tryz.ntmps65
  go_wp2_with fail
  go_quiet (fail)
  go_wp2_with fail
  go_quiet (fail)
  go_wp2_with fail
  go_ret
  exact ⟨rfl, h, ((Fr.refl _ _).drewN _).drewN _⟩

theorem rpeek_any (h : Rp w pb s k dp wr bd) (hk : k ≤ s.size) :
    Calls Tryz.prog 65 #[.pointer (some ⟨pb, 0, none⟩)] w fun e w' => e = .returned (.int .i64 (pk (s.data.toList.drop k))) ∧ Rp w' pb s k dp wr bd ∧ Fr [pb] w w' := by
  by_cases hk' : k = s.size
  · have e : pk (s.data.toList.drop k) = 0 := by
      have : s.data.toList.drop k = [] := by rw [List.drop_eq_nil_iff]; simp; omega
      rw [this]; rfl
    rw [e]; exact rpeek_end h hk'
  · have hlt : k < s.size := by omega
    have e : pk (s.data.toList.drop k) = s[k].toNat := by
      rw [List.drop_eq_getElem_cons (by simpa using hlt)]; rfl
    rw [e]; exact rpeek_at h hlt

theorem rdown_yes (h : Rp w pb s k dp wr bd) (hd : dp < 20) (at_ : Nat) :
    Calls Tryz.prog 66 #[.pointer (some ⟨pb, 0, none⟩), .int .i64 at_] w fun e w' => e = .returned (.bool true) ∧ Rp w' pb s k (dp + 1) wr bd ∧ Fr [pb] w w' := by
  have h2 := h.c2
  have f2 := h.fz 2
  have hq : ¬ (dp : Int) = 20 := by omega
  go_enter Tryz.func66, Tryz.ntmps66
  go_wp2_with fail
  go_ret
  exact ⟨rfl, h.set2 (dp + 1), (Fr.refl _ _).setCell (.inl (by simp)) _⟩
theorem rdown_no (h : Rp w pb s k 20 wr 0) (at_ : Nat) :
    Calls Tryz.prog 66 #[.pointer (some ⟨pb, 0, none⟩), .int .i64 at_] w fun e w' => e = .returned (.bool false) ∧ Rp w' pb s k 20 at_ 4 ∧ Fr [pb] w w' := by
  have h2 := h.c2
  go_enter Tryz.func66, Tryz.ntmps66
  go_wp2_with (go_at_call 31; refine (rfail_any h at_ 4).mono ?_; rintro e w' ⟨rfl, hr, hf⟩)
  go_ret
  exact ⟨rfl, hr, hf⟩

/- a text that comes next -/
set_option maxHeartbeats 2000000 in
theorem ris_long {p : ByteArray} (h : Rp w pb s k dp wr bd) (hk : k ≤ s.size) (hs : s.size ≤ 120) (hp : p.size ≤ 4) (hl : s.size < k + p.size) :
    Calls Tryz.prog 105 #[.pointer (some ⟨pb, 0, none⟩), .string p] w fun e w' => e = .returned (.bool false) ∧ Rp w' pb s k dp wr bd ∧ Fr [pb] w w' := by
  have h0 := h.c0
  have h1 := h.c1
  have hq : decide ((k : Int) + (p.size : Int) ≤ (s.size : Int)) = false := by simp; omega
  go_enter Tryz.func105, Tryz.ntmps105
  go_wp2_with fail
  go_quiet (fail)
  go_wp2_with fail
  go_ret
  exact ⟨rfl, h, (Fr.refl _ _).drewN _⟩
end
end Go.Proofs.YthadeccnibnioaaGreatDoor

/- The document's reader: a text that comes next. -/
namespace Go.Proofs.YthadeccnibnioaaGreatDoor
open Go.RowKit

set_option maxHeartbeats 2000000 in
theorem ris_not {w : World} {pb k dp wr bd : Nat} {s p : ByteArray} (h : Rp w pb s k dp wr bd) (hs : s.size ≤ 120) (hl : k + p.size ≤ s.size) (hE : ((s.extract k (k + p.size)).toList == p.toList) = false) :
    Calls Tryz.prog 105 #[.pointer (some ⟨pb, 0, none⟩), .string p] w fun e w' => e = .returned (.bool false) ∧ Rp w' pb s k dp wr bd ∧ Fr [pb] w w' := by
  have h0 := h.c0
  have h1 := h.c1
  have hq : decide ((k : Int) + (p.size : Int) ≤ (s.size : Int)) = true := by simp; omega
  have hq2 : (k : Int) + (p.size : Int) ≤ (s.size : Int) := by omega
  have hw : IntKind.i64.wrap ((k : Int) + (p.size : Int)) = (k : Int) + (p.size : Int) := by rw [IntKind.wrap_i64]; omega
  have b1 : (0 : Int) ≤ (k : Int) := by omega
  have b2 : (k : Int) ≤ (k : Int) + (p.size : Int) := by omega
  have b3 : ((k : Int) + (p.size : Int)).toNat = k + p.size := by omega
  have b4 : (0 : Int) ≤ (k : Int) + (p.size : Int) := by omega
  have b5 : ¬ (s.size : Int) < (k : Int) + (p.size : Int) := by omega
  have b6 : ¬ (k : Int) + (p.size : Int) < (k : Int) := by omega
  have b7 : ¬ (k : Int) + (p.size : Int) < 0 := by omega
  go_enter Tryz.func105, Tryz.ntmps105
  go_wp2_with fail
  go_quiet (fail)
  go_wp2_with fail
  go_ret
  exact ⟨rfl, h, (Fr.refl _ _).drewN _⟩

set_option maxHeartbeats 2000000 in
theorem ris_yes {w : World} {pb k dp wr bd : Nat} {s p : ByteArray} (h : Rp w pb s k dp wr bd) (hs : s.size ≤ 120) (hl : k + p.size ≤ s.size) (hE : ((s.extract k (k + p.size)).toList == p.toList) = true) :
    Calls Tryz.prog 105 #[.pointer (some ⟨pb, 0, none⟩), .string p] w fun e w' => e = .returned (.bool true) ∧ Rp w' pb s (k + p.size) dp wr bd ∧ Fr [pb] w w' := by
  have h0 := h.c0
  have h1 := h.c1
  have hq : decide ((k : Int) + (p.size : Int) ≤ (s.size : Int)) = true := by simp; omega
  have hq2 : (k : Int) + (p.size : Int) ≤ (s.size : Int) := by omega
  have hw : IntKind.i64.wrap ((k : Int) + (p.size : Int)) = (k : Int) + (p.size : Int) := by rw [IntKind.wrap_i64]; omega
  have b1 : (0 : Int) ≤ (k : Int) := by omega
  have b2 : (k : Int) ≤ (k : Int) + (p.size : Int) := by omega
  have b3 : ((k : Int) + (p.size : Int)).toNat = k + p.size := by omega
  have b4 : (0 : Int) ≤ (k : Int) + (p.size : Int) := by omega
  have b5 : ¬ (s.size : Int) < (k : Int) + (p.size : Int) := by omega
  have b6 : ¬ (k : Int) + (p.size : Int) < (k : Int) := by omega
  have b7 : ¬ (k : Int) + (p.size : Int) < 0 := by omega
  have f1 := h.fz 1
  go_enter Tryz.func105, Tryz.ntmps105
  go_wp2_with fail
  go_quiet (fail)
  go_wp2_with fail
  go_ret
  exact ⟨rfl, (h.drewN _).set1 (k + p.size), ((Fr.refl _ _).drewN _).setCell (.inl (by simp)) _⟩
end Go.Proofs.YthadeccnibnioaaGreatDoor

/- The document's reader: a text that comes next, by its bytes; a text that must come. -/
namespace Go.Proofs.YthadeccnibnioaaGreatDoor
open Go.RowKit

theorem next_iff (s p : ByteArray) (k : Nat) : ((s.extract k (k + p.size)).toList == p.toList) = decide (p.data.toList <+: s.data.toList.drop k) := by
  rw [toList_eq, toList_eq]
  have e : (s.extract k (k + p.size)).data.toList = (s.data.toList.drop k).take p.size := by
    simp
  rw [e]
  have hp : p.data.toList.length = p.size := by simp
  rw [Bool.eq_iff_iff]
  simp only [beq_iff_eq, decide_eq_true_eq]
  rw [List.prefix_iff_eq_take, hp]
  exact eq_comm

section
variable {w : World} {pb k dp wr bd : Nat} {s p : ByteArray}
theorem ris_take (h : Rp w pb s k dp wr bd) (hs : s.size ≤ 120) (hp : p.data.toList <+: s.data.toList.drop k) (hpos : 0 < p.size) :
    Calls Tryz.prog 105 #[.pointer (some ⟨pb, 0, none⟩), .string p] w fun e w' => e = .returned (.bool true) ∧ Rp w' pb s (k + p.size) dp wr bd ∧ Fr [pb] w w' := by
  have hl : k + p.size ≤ s.size := by
    have := hp.length_le
    simp at this
    have e1 : p.data.size = p.size := rfl
    have e2 : s.data.size = s.size := rfl
    omega
  exact ris_yes h hs hl (by rw [next_iff]; simpa using hp)
theorem ris_none (h : Rp w pb s k dp wr bd) (hk : k ≤ s.size) (hs : s.size ≤ 120) (h4 : p.size ≤ 4) (hp : ¬ p.data.toList <+: s.data.toList.drop k) :
    Calls Tryz.prog 105 #[.pointer (some ⟨pb, 0, none⟩), .string p] w fun e w' => e = .returned (.bool false) ∧ Rp w' pb s k dp wr bd ∧ Fr [pb] w w' := by
  by_cases hl : k + p.size ≤ s.size
  · exact ris_not h hs hl (by rw [next_iff]; simpa using hp)
  · exact ris_long h hk hs h4 (by omega)
theorem rwant_yes (h : Rp w pb s k dp wr bd) (hs : s.size ≤ 120) (hp : p.data.toList <+: s.data.toList.drop k) (hpos : 0 < p.size) :
    Calls Tryz.prog 67 #[.pointer (some ⟨pb, 0, none⟩), .string p] w fun e w' => e = .returned (.tuple #[]) ∧ Rp w' pb s (k + p.size) dp wr bd ∧ Fr [pb] w w' := by
  go_enter Tryz.func67, Tryz.ntmps67
  go_wp2_with (go_at_call 105; refine (ris_take h hs hp hpos).mono ?_; rintro e w' ⟨rfl, hr, hf⟩)
  go_end0
  exact ⟨rfl, hr, hf⟩
theorem rwant_no (h : Rp w pb s k dp wr 0) (hk : k ≤ s.size) (hs : s.size ≤ 120) (h4 : p.size ≤ 4) (hp : ¬ p.data.toList <+: s.data.toList.drop k) :
    Calls Tryz.prog 67 #[.pointer (some ⟨pb, 0, none⟩), .string p] w fun e w' => e = .returned (.tuple #[]) ∧ Rp w' pb s k dp k 2 ∧ Fr [pb] w w' := by
  go_enter Tryz.func67, Tryz.ntmps67
  go_wp2_with (first | (go_at_call 105; refine (ris_none h hk hs h4 hp).mono ?_; rintro e w1 ⟨rfl, hr, hf⟩; have c1 := hr.c1) | (go_at_call 31; refine (rfail_any hr k 2).mono ?_; rintro e w2 ⟨rfl, hr2, hf2⟩))
  go_end0
  exact ⟨rfl, hr2, hf.trans hf2⟩
end
end Go.Proofs.YthadeccnibnioaaGreatDoor

/- The document's trees, by value; how its readers end. -/
namespace Go.Proofs.YthadeccnibnioaaGreatDoor
open Go.RowKit

/-- The three cells of a tree's value. -/
structure Tv where
  a : Int
  b : Int
  A : Option Addr
  n : Nat
  c : Nat

/-- A tree as a value, its kids in blocks of S. -/
def TrV (S : Nat → Prop) (w : World) : Tm → Tv → Prop
  | .num n, v => v = ⟨0, n, none, 0, 0⟩ ∧ n < 9223372036854775808
  | .vn, v => v = ⟨110, 0, none, 0, 0⟩
  | .vs, v => v = ⟨115, 0, none, 0, 0⟩
  | .neg a, v => ∃ q x, S q ∧ v = ⟨126, 0, some ⟨q, 0, none⟩, 1, 1⟩ ∧ w.heap[q]? = some (.cells #[.int .i64 x.a, .int .i64 x.b, .slice x.A x.n x.c] 24) ∧ TrV S w a x
  | .two op a b, v => ∃ q x y, S q ∧ v = ⟨op.toNat, 0, some ⟨q, 0, none⟩, 2, 2⟩ ∧ w.heap[q]? = some (.cells #[.int .i64 x.a, .int .i64 x.b, .slice x.A x.n x.c, .int .i64 y.a, .int .i64 y.b, .slice y.A y.n y.c] 24) ∧ TrV S w a x ∧ TrV S w b y
  | .cond a b c, v => ∃ q x y z, S q ∧ v = ⟨63, 0, some ⟨q, 0, none⟩, 3, 3⟩ ∧ w.heap[q]? = some (.cells #[.int .i64 x.a, .int .i64 x.b, .slice x.A x.n x.c, .int .i64 y.a, .int .i64 y.b, .slice y.A y.n y.c, .int .i64 z.a, .int .i64 z.b, .slice z.A z.n z.c] 24) ∧ TrV S w a x ∧ TrV S w b y ∧ TrV S w c z

theorem TrV.keep {S : Nat → Prop} {w w' : World} (key : ∀ (p : Nat) (o : Obj), S p → w.heap[p]? = some o → w'.heap[p]? = some o) : ∀ (t : Tm) (v : Tv), TrV S w t v → TrV S w' t v := by
  intro t
  induction t with
  | num n => intro v h; exact h
  | vn => intro v h; exact h
  | vs => intro v h; exact h
  | neg a ih =>
    intro v h
    obtain ⟨q, x, h1, h2, h3, h4⟩ := h
    exact ⟨q, x, h1, h2, key _ _ h1 h3, ih _ h4⟩
  | two op a b iha ihb =>
    intro v h
    obtain ⟨q, x, y, h1, h2, h3, h4, h5⟩ := h
    exact ⟨q, x, y, h1, h2, key _ _ h1 h3, iha _ h4, ihb _ h5⟩
  | cond a b c iha ihb ihc =>
    intro v h
    obtain ⟨q, x, y, z, h1, h2, h3, h4, h5, h6⟩ := h
    exact ⟨q, x, y, z, h1, h2, key _ _ h1 h3, iha _ h4, ihb _ h5, ihc _ h6⟩
theorem TrV.fr {xs : List Nat} {w w' : World} {S : Nat → Prop} (f : Fr xs w w') (hx : ∀ k ∈ xs, ¬ S k) {t : Tm} {v : Tv} (h : TrV S w t v) : TrV S w' t v :=
  TrV.keep (fun p o hp h => by rw [f.block p (some_lt h) (fun hm => hx p hm hp)]; exact h) t v h
theorem TrV.mono {w : World} {S S' : Nat → Prop} (hl : ∀ p, S p → p < w.heap.size → S' p) : ∀ {t : Tm} {v : Tv}, TrV S w t v → TrV S' w t v := by
  intro t
  induction t with
  | num n => intro v h; exact h
  | vn => intro v h; exact h
  | vs => intro v h; exact h
  | neg a ih =>
    intro v h
    obtain ⟨q, x, h1, h2, h3, h4⟩ := h
    exact ⟨q, x, hl _ h1 (some_lt h3), h2, h3, ih h4⟩
  | two op a b iha ihb =>
    intro v h
    obtain ⟨q, x, y, h1, h2, h3, h4, h5⟩ := h
    exact ⟨q, x, y, hl _ h1 (some_lt h3), h2, h3, iha h4, ihb h5⟩
  | cond a b c iha ihb ihc =>
    intro v h
    obtain ⟨q, x, y, z, h1, h2, h3, h4, h5, h6⟩ := h
    exact ⟨q, x, y, z, hl _ h1 (some_lt h3), h2, h3, iha h4, ihb h5, ihc h6⟩
theorem TrV.alloc {S : Nat → Prop} {w : World} {t : Tm} {v : Tv} (h : TrV S w t v) (o : Obj) : TrV S (w.alloc o) t v := TrV.fr (xs := []) ((Fr.refl _ _).alloc o) (by simp) h

/-- How a reader of the document's ends. -/
def OutT (pb : Nat) (s : ByteArray) (dp : Nat) (w : World) (r : Res) (e : Ending) (w' : World) : Prop :=
  match r with
  | .ok t u => ∃ (a b : Int) (A : Option Addr) (n c k : Nat), e = .returned (.agg #[.int .i64 a, .int .i64 b, .slice A n c]) ∧ TrV (fun p => w.heap.size ≤ p) w' t ⟨a, b, A, n, c⟩ ∧ Rp w' pb s k dp 0 0 ∧ k ≤ s.size ∧ u = s.data.toList.drop k ∧ Fr [pb] w w'
  | .bad pl er => ∃ (a b : Int) (A : Option Addr) (n c k dp' : Nat), e = .returned (.agg #[.int .i64 a, .int .i64 b, .slice A n c]) ∧ Rp w' pb s k dp' (s.size - pl) er ∧ er ≠ 0 ∧ dp ≤ dp' ∧ dp' ≤ 20 ∧ k ≤ s.size ∧ Fr [pb] w w'

/-- A result's own block. -/
def RC (w : World) (R : Nat) (x0 x1 x2 : Value) : Prop := w.heap[R]? = some (.cells #[x0, x1, x2] 24 (0, 0))
section
variable {w w' : World} {R : Nat} {x0 x1 x2 : Value}
theorem RC.c0 (h : RC w R x0 x1 x2) : w.cell? ⟨R, 0, none⟩ = some x0 := by unfold RC at h; simp [World.cell?, h]
theorem RC.c1 (h : RC w R x0 x1 x2) : w.cell? ⟨R, 1, none⟩ = some x1 := by unfold RC at h; simp [World.cell?, h]
theorem RC.c2 (h : RC w R x0 x1 x2) : w.cell? ⟨R, 2, none⟩ = some x2 := by unfold RC at h; simp [World.cell?, h]
theorem RC.fz (h : RC w R x0 x1 x2) (o : Nat) : w.frozen? ⟨R, o, none⟩ = false := by unfold RC at h; simp [World.frozen?, h]
theorem RC.fr {xs : List Nat} (h : RC w R x0 x1 x2) (f : Fr xs w w') (hx : R ∉ xs) : RC w' R x0 x1 x2 := by
  unfold RC at h ⊢; rw [f.block _ (some_lt h) hx]; exact h
theorem RC.lt (h : RC w R x0 x1 x2) : R < w.heap.size := some_lt h
theorem RC.new (w : World) : RC (w.alloc (.cells #[x0, x1, x2] 24)) w.heap.size x0 x1 x2 := heap_alloc_new w _
theorem RC.set3 (h : RC w R x0 x1 x2) (y0 y1 y2 : Value) : RC (((w.setCell ⟨R, 0, none⟩ y0).setCell ⟨R, 1, none⟩ y1).setCell ⟨R, 2, none⟩ y2) R y0 y1 y2 := by
  unfold RC at h ⊢; simp [World.setCell, Array.getElem?_modify, h]
theorem Fr.set3 (w : World) (R : Nat) (y0 y1 y2 : Value) : Fr [R] w (((w.setCell ⟨R, 0, none⟩ y0).setCell ⟨R, 1, none⟩ y1).setCell ⟨R, 2, none⟩ y2) :=
  (((Fr.refl _ _).setCell (.inl (by simp)) _).setCell (.inl (by simp)) _).setCell (.inl (by simp)) _
theorem Fr.over' {xs ys : List Nat} {a b c : World} (h : Fr ys a b) (g : Fr xs b c) (hx : ∀ k ∈ xs, k ∈ ys ∨ a.heap.size ≤ k) : Fr ys a c :=
  ⟨g.os.trans h.os, g.tape.trans h.tape, g.output.trans h.output, Nat.le_trans h.size g.size, fun i hi hy => by
    have := h.size
    rw [g.block i (by omega) (fun hm => by rcases hx i hm with h' | h'; exact hy h'; omega)]; exact h.block i hi hy⟩
end

theorem retT {fn : Func} {R sl : Nat} {tmps : Array Value} {w' : World} {a b : Int} {A : Option Addr} {n c : Nat} {Q : Ending → World → Prop} (hres : fn.results = #[.cell sl 24]) (ht : tmps[sl]? = some (.pointer (some ⟨R, 0, none⟩)))
    (h : RC w' R (.int .i64 a) (.int .i64 b) (.slice A n c)) (hq : Q (.returned (.agg #[.int .i64 a, .int .i64 b, .slice A n c])) w') : bodyPost Tryz.prog fn Q .ret ⟨tmps, []⟩ w' := by
  refine bodyPost_ret (v := .agg #[.int .i64 a, .int .i64 b, .slice A n c]) ?_ rfl hq
  have h0 := h.c0
  have h1 := h.c1
  have h2 := h.c2
  simp only [results, hres]
  simp [go_sem, ht, h0, h1, h2]
end Go.Proofs.YthadeccnibnioaaGreatDoor

/- The document's reader: a '-' ahead. -/
namespace Go.Proofs.YthadeccnibnioaaGreatDoor
open Go.RowKit

def OneOK (d : Nat) : Prop := ∀ (w : World) (pb k dp : Nat) (s : ByteArray), Rp w pb s k dp 0 0 → k ≤ s.size → s.size ≤ 120 → dp + d = 20 → Calls Tryz.prog 174 #[.pointer (some ⟨pb, 0, none⟩)] w (OutT pb s dp w (singleF (inCh d) (s.data.toList.drop k)))
def LessOK (d : Nat) : Prop := ∀ (w : World) (pb k dp : Nat) (s : ByteArray), Rp w pb s k dp 0 0 → k ≤ s.size → s.size ≤ 120 → dp + d = 20 → Calls Tryz.prog 139 #[.pointer (some ⟨pb, 0, none⟩)] w (OutT pb s dp w (sgP d (s.data.toList.drop k)))

theorem lessRes : Tryz.f139.results = #[.cell 2 24] := by kernel_rfl

theorem Fr.al {xs : List Nat} (w : World) (o : Obj) : Fr xs w (w.alloc o) := (Fr.refl _ _).alloc o

abbrev tz : Array Value := #[.int .i64 0, .int .i64 0, .slice none 0 0]

set_option maxHeartbeats 4000000 in
theorem less_one {d : Nat} (h1 : OneOK d) {w : World} {pb k dp : Nat} {s : ByteArray} (h : Rp w pb s k dp 0 0) (hk : k ≤ s.size) (hs : s.size ≤ 120) (hd : dp + d = 20) (hm : ¬ (s.data.toList.drop k).head? = some 45) :
    Calls Tryz.prog 139 #[.pointer (some ⟨pb, 0, none⟩)] w (OutT pb s dp w (sgP d (s.data.toList.drop k))) := by
  have e : sgP d (s.data.toList.drop k) = singleF (inCh d) (s.data.toList.drop k) := by rw [sgP_eq, signF, if_neg hm]
  rw [e]
  have hpre : ¬ (⟨#[45]⟩ : ByteArray).data.toList <+: s.data.toList.drop k := by
    intro hh; apply hm
    obtain ⟨t, ht⟩ := hh
    rw [← ht]; rfl
  have hA : Rp (w.alloc (.cells tz 24)) pb s k dp 0 0 := h.fr (xs := []) ((Fr.refl _ _).alloc _) (by simp)
  have hR : RC (w.alloc (.cells tz 24)) w.heap.size (.int .i64 0) (.int .i64 0) (.slice none 0 0) := RC.new w
  have hpl := h.lt
  have c1 := h.c1
  generalize hres : singleF (inCh d) (s.data.toList.drop k) = res at *
  have HR := Lib.hid hres
  clear hres e
  go_enter Tryz.func139, Tryz.ntmps139
  go_wp2_with (go_at_call 105; refine (ris_none hA hk hs (by decide) hpre).mono ?_; rintro e w1 ⟨rfl, hr1, hf1⟩; refine Hid.out ?_)
  refine Lib.hid ?_
  have hR1 := hR.fr hf1 (by simp; omega)
  have co := h1 w1 pb k dp s hr1 hk hs hd
  rw [HR.out] at co
  cases res with
  | ok t u =>
    go_wp2_with (go_at_call 174; refine co.mono ?_; rintro e w2 ⟨a, b, A, n, c, k2, rfl, ht, hr2, hk2, rfl, hf2⟩; have hR2 := hR1.fr hf2 (by simp; omega); have z0 := hR2.c0; have z1 := hR2.c1; have z2 := hR2.c2; have y0 := hR2.fz 0; have y1 := hR2.fz 1; have y2 := hR2.fz 2)
    have hs1 := hf1.size
    simp at hs1
    have F2 := (Fr.al (xs := [pb]) w (.cells tz 24)).trans (hf1.trans hf2)
    refine retT lessRes rfl (hR2.set3 _ _ _) ?_
    have f3 := Fr.set3 w2 w.heap.size (.int .i64 a) (.int .i64 b) (.slice A n c)
    exact ⟨a, b, A, n, c, k2, rfl, (ht.fr f3 (by simp; omega)).mono (fun p hp _ => by omega), hr2.fr f3 (by simp; omega), hk2, rfl, F2.over' f3 (by simp)⟩
  | bad pl er =>
    go_wp2_with (go_at_call 174; refine co.mono ?_; rintro e w2 ⟨a, b, A, n, c, k2, dp2, rfl, hr2, he2, hd2, hd3, hk2, hf2⟩; have hR2 := hR1.fr hf2 (by simp; omega); have z0 := hR2.c0; have z1 := hR2.c1; have z2 := hR2.c2; have y0 := hR2.fz 0; have y1 := hR2.fz 1; have y2 := hR2.fz 2)
    have F2 := (Fr.al (xs := [pb]) w (.cells tz 24)).trans (hf1.trans hf2)
    refine retT lessRes rfl (hR2.set3 _ _ _) ?_
    have f3 := Fr.set3 w2 w.heap.size (.int .i64 a) (.int .i64 b) (.slice A n c)
    exact ⟨a, b, A, n, c, k2, dp2, rfl, hr2.fr f3 (by simp; omega), he2, hd2, hd3, hk2, F2.over' f3 (by simp)⟩
end Go.Proofs.YthadeccnibnioaaGreatDoor

/- The document's reader: a '-' ahead, a level deeper. -/
namespace Go.Proofs.YthadeccnibnioaaGreatDoor
open Go.RowKit

theorem pre_iff {c : UInt8} {u : List UInt8} (h : u.head? = some c) : [c] <+: u := by
  cases u with
  | nil => simp at h
  | cons a r => simp at h; subst h; exact ⟨r, rfl⟩
theorem len_drop {s : ByteArray} {k : Nat} (hk : k ≤ s.size) : s.size - (s.data.toList.drop k).length = k := by
  have e : s.data.toList.length = s.size := by simp
  rw [List.length_drop, e]; omega
theorem head_le {s : ByteArray} {k : Nat} {c : UInt8} (h : (s.data.toList.drop k).head? = some c) : k + 1 ≤ s.size := by
  have e : s.data.toList.length = s.size := by simp
  rcases Nat.lt_or_ge k s.size with h' | h'
  · omega
  · rw [List.drop_eq_nil_of_le (by omega)] at h; simp at h

set_option maxHeartbeats 4000000 in
theorem less_full {w : World} {pb k : Nat} {s : ByteArray} (h : Rp w pb s k 20 0 0) (hs : s.size ≤ 120) (hm : (s.data.toList.drop k).head? = some 45) :
    Calls Tryz.prog 139 #[.pointer (some ⟨pb, 0, none⟩)] w (OutT pb s 20 w (sgP 0 (s.data.toList.drop k))) := by
  have hk := head_le hm
  have e : sgP 0 (s.data.toList.drop k) = .bad (s.data.toList.drop k).length 4 := by rw [sgP_eq, signF, if_pos hm, negF, inSg_zero]
  rw [e]
  have hpre : (⟨#[45]⟩ : ByteArray).data.toList <+: s.data.toList.drop k := pre_iff hm
  have hA : Rp (w.alloc (.cells tz 24)) pb s k 20 0 0 := h.fr (xs := []) ((Fr.refl _ _).alloc _) (by simp)
  have hR : RC (w.alloc (.cells tz 24)) w.heap.size (.int .i64 0) (.int .i64 0) (.slice none 0 0) := RC.new w
  have hpl := h.lt
  have c1 := h.c1
  have HL := Lib.hid (len_drop (s := s) (k := k) (by omega))
  generalize (s.data.toList.drop k).length = ln at *
  clear e
  go_enter Tryz.func139, Tryz.ntmps139
  go_wp2_with (go_at_call 105; refine (ris_take hA hs hpre (by decide)).mono ?_; rintro e w1 ⟨rfl, hr1, hf1⟩; refine Hid.out ?_)
  refine Lib.hid ?_
  have hR1 := hR.fr hf1 (by simp; omega)
  go_wp2_with (go_at_call 66; refine (rdown_no hr1 k).mono ?_; rintro e w2 ⟨rfl, hr2, hf2⟩; have hR2 := hR1.fr hf2 (by simp; omega); have z0 := hR2.c0; have z1 := hR2.c1; have z2 := hR2.c2; have y0 := hR2.fz 0; have y1 := hR2.fz 1; have y2 := hR2.fz 2)
  have F2 := (Fr.al (xs := [pb]) w (.cells tz 24)).trans (hf1.trans hf2)
  refine retT lessRes rfl (hR2.set3 _ _ _) ?_
  have f3 := Fr.set3 w2 w.heap.size (.int .i64 0) (.int .i64 0) (.slice none 0 0)
  exact ⟨0, 0, none, 0, 0, k + 1, 20, rfl, by rw [HL.out]; exact hr2.fr f3 (by simp; omega), by decide, by omega, by omega, hk, F2.over' f3 (by simp)⟩

set_option maxHeartbeats 8000000 in
theorem less_neg {d : Nat} (ih : LessOK d) {w : World} {pb k dp : Nat} {s : ByteArray} (h : Rp w pb s k dp 0 0) (hs : s.size ≤ 120) (hd : dp + (d + 1) = 20) (hm : (s.data.toList.drop k).head? = some 45) :
    Calls Tryz.prog 139 #[.pointer (some ⟨pb, 0, none⟩)] w (OutT pb s dp w (sgP (d + 1) (s.data.toList.drop k))) := by
  have hk := head_le hm
  have hpre : (⟨#[45]⟩ : ByteArray).data.toList <+: s.data.toList.drop k := pre_iff hm
  have e : sgP (d + 1) (s.data.toList.drop k) = match sgP d (s.data.toList.drop (k + 1)) with | .bad p e => .bad p e | .ok t v => .ok (.neg t) v := by
    rw [sgP_eq, signF, if_pos hm, negF, inSg_succ, List.drop_drop]; rfl
  rw [e]
  have hA : Rp (w.alloc (.cells tz 24)) pb s k dp 0 0 := h.fr (xs := []) ((Fr.refl _ _).alloc _) (by simp)
  have hR : RC (w.alloc (.cells tz 24)) w.heap.size (.int .i64 0) (.int .i64 0) (.slice none 0 0) := RC.new w
  have hpl := h.lt
  have c1 := h.c1
  generalize hres : sgP d (s.data.toList.drop (k + 1)) = res at *
  have HR := Lib.hid hres
  clear hres e
  cases res with
  | ok t u =>
    simp only
    go_enter Tryz.func139, Tryz.ntmps139
    go_wp2_with (go_at_call 105; refine (ris_take hA hs hpre (by decide)).mono ?_; rintro e w1 ⟨rfl, hr1, hf1⟩; refine Hid.out ?_)
    refine Lib.hid ?_
    have hR1 := hR.fr hf1 (by simp; omega)
    go_wp2_with (go_at_call 66; refine (rdown_yes hr1 (by omega) k).mono ?_; rintro e w2 ⟨rfl, hr2, hf2⟩; refine Hid.out ?_)
    refine Lib.hid ?_
    have hR2 := hR1.fr hf2 (by simp; omega)
    have co := ih w2 pb (k + 1) (dp + 1) s hr2 hk hs (by omega)
    rw [HR.out] at co
    go_wp2_with (go_at_call 139; refine co.mono ?_; rintro e w3 ⟨a, b, A, n, c, k3, rfl, ht, hr3, hk3, rfl, hf3⟩; have hR3 := hR2.fr hf3 (by simp; omega); have z0 := hR3.c0; have z1 := hR3.c1; have z2 := hR3.c2; have y0 := hR3.fz 0; have y1 := hR3.fz 1; have y2 := hR3.fz 2; have pl3 := hr3.lt; have rl3 := hR3.lt; have d3 := hr3.c2; have f3 := hr3.fz 2; have npr : pb ≠ w.heap.size := (by omega))
    have hs1 := hf1.size
    have hs2 := hf2.size
    have hs3 := hf3.size
    simp at hs1
    have F3 := (Fr.al (xs := [pb]) w (.cells tz 24)).trans (hf1.trans (hf2.trans hf3))
    have g1 : Fr [pb] w3 (w3.setCell ⟨pb, 2, none⟩ (.int .i64 (dp : Int))) := (Fr.refl _ _).setCell (.inl (by simp)) _
    have g2 := Fr.set3 (w3.setCell ⟨pb, 2, none⟩ (.int .i64 (dp : Int))) w.heap.size (.int .i64 126) (.int .i64 0) (.slice (some ⟨w3.heap.size + 1, 0, none⟩) 1 1)
    have hRp := ((hr3.set2 dp).fr g2 (by simp; omega))
    have hRC := (hR3.fr g1 (by simp; omega)).set3 (.int .i64 126) (.int .i64 0) (.slice (some ⟨w3.heap.size + 1, 0, none⟩) 1 1)
    have hF := (F3.trans g1).over' g2 (by simp)
    have hT := (ht.fr g1 (by simp; omega)).fr g2 (by simp; omega)
    have hsz : ((((w3.setCell ⟨pb, 2, none⟩ (.int .i64 (dp : Int))).setCell ⟨w.heap.size, 0, none⟩ (.int .i64 126)).setCell ⟨w.heap.size, 1, none⟩ (.int .i64 0)).setCell ⟨w.heap.size, 2, none⟩ (.slice (some ⟨w3.heap.size + 1, 0, none⟩) 1 1)).heap.size = w3.heap.size := by simp
    generalize (((w3.setCell ⟨pb, 2, none⟩ (.int .i64 (dp : Int))).setCell ⟨w.heap.size, 0, none⟩ (.int .i64 126)).setCell ⟨w.heap.size, 1, none⟩ (.int .i64 0)).setCell ⟨w.heap.size, 2, none⟩ (.slice (some ⟨w3.heap.size + 1, 0, none⟩) 1 1) = w4 at *
    refine retT lessRes rfl ((hRC.fr (Fr.al (xs := []) _ _) (by simp)).fr (Fr.al (xs := []) _ _) (by simp)) ?_
    refine ⟨126, 0, _, 1, 1, k3, rfl, ⟨w3.heap.size + 1, ⟨a, b, A, n, c⟩, (by show _ ≤ _; omega), rfl, alloc_at (by simp [hsz]), ((hT.alloc _).alloc _).mono (fun p hp _ => by omega)⟩, (hRp.fr (Fr.al (xs := []) _ _) (by simp)).fr (Fr.al (xs := []) _ _) (by simp), hk3, rfl, (hF.alloc _).alloc _⟩
  | bad pl er =>
    simp only
    go_enter Tryz.func139, Tryz.ntmps139
    go_wp2_with (go_at_call 105; refine (ris_take hA hs hpre (by decide)).mono ?_; rintro e w1 ⟨rfl, hr1, hf1⟩; refine Hid.out ?_)
    refine Lib.hid ?_
    have hR1 := hR.fr hf1 (by simp; omega)
    go_wp2_with (go_at_call 66; refine (rdown_yes hr1 (by omega) k).mono ?_; rintro e w2 ⟨rfl, hr2, hf2⟩; refine Hid.out ?_)
    refine Lib.hid ?_
    have hR2 := hR1.fr hf2 (by simp; omega)
    have co := ih w2 pb (k + 1) (dp + 1) s hr2 hk hs (by omega)
    rw [HR.out] at co
    go_wp2_with (go_at_call 139; refine co.mono ?_; rintro e w3 ⟨a, b, A, n, c, k3, dp3, rfl, hr3, he3, hd3, hd4, hk3, hf3⟩; obtain ⟨dq, rfl⟩ : ∃ dq, dp3 = dq + 1 := ⟨dp3 - 1, by omega⟩; have hR3 := hR2.fr hf3 (by simp; omega); have z0 := hR3.c0; have z1 := hR3.c1; have z2 := hR3.c2; have y0 := hR3.fz 0; have y1 := hR3.fz 1; have y2 := hR3.fz 2; have pl3 := hr3.lt; have rl3 := hR3.lt; have d3 := hr3.c2; have f3 := hr3.fz 2; have npr : pb ≠ w.heap.size := (by omega))
    have hs1 := hf1.size
    have hs2 := hf2.size
    have hs3 := hf3.size
    simp at hs1
    have F3 := (Fr.al (xs := [pb]) w (.cells tz 24)).trans (hf1.trans (hf2.trans hf3))
    have g1 : Fr [pb] w3 (w3.setCell ⟨pb, 2, none⟩ (.int .i64 (dq : Int))) := (Fr.refl _ _).setCell (.inl (by simp)) _
    have g2 := Fr.set3 (w3.setCell ⟨pb, 2, none⟩ (.int .i64 (dq : Int))) w.heap.size (.int .i64 126) (.int .i64 0) (.slice (some ⟨w3.heap.size + 1, 0, none⟩) 1 1)
    have hRp := ((hr3.set2 dq).fr g2 (by simp; omega))
    have hRC := (hR3.fr g1 (by simp; omega)).set3 (.int .i64 126) (.int .i64 0) (.slice (some ⟨w3.heap.size + 1, 0, none⟩) 1 1)
    have hF := (F3.trans g1).over' g2 (by simp)
    have hsz : ((((w3.setCell ⟨pb, 2, none⟩ (.int .i64 (dq : Int))).setCell ⟨w.heap.size, 0, none⟩ (.int .i64 126)).setCell ⟨w.heap.size, 1, none⟩ (.int .i64 0)).setCell ⟨w.heap.size, 2, none⟩ (.slice (some ⟨w3.heap.size + 1, 0, none⟩) 1 1)).heap.size = w3.heap.size := by simp
    generalize (((w3.setCell ⟨pb, 2, none⟩ (.int .i64 (dq : Int))).setCell ⟨w.heap.size, 0, none⟩ (.int .i64 126)).setCell ⟨w.heap.size, 1, none⟩ (.int .i64 0)).setCell ⟨w.heap.size, 2, none⟩ (.slice (some ⟨w3.heap.size + 1, 0, none⟩) 1 1) = w4 at *
    refine retT lessRes rfl ((hRC.fr (Fr.al (xs := []) _ _) (by simp)).fr (Fr.al (xs := []) _ _) (by simp)) ?_
    exact ⟨126, 0, _, 1, 1, k3, dq, rfl, (hRp.fr (Fr.al (xs := []) _ _) (by simp)).fr (Fr.al (xs := []) _ _) (by simp), he3, by omega, by omega, hk3, (hF.alloc _).alloc _⟩

theorem less_any {d : Nat} (h1 : OneOK d) (ih : ∀ e, d = e + 1 → LessOK e) : LessOK d := by
  intro w pb k dp s h hk hs hd
  by_cases hm : (s.data.toList.drop k).head? = some 45
  · cases d with
    | zero =>
      obtain rfl : dp = 20 := by omega
      exact less_full h hs hm
    | succ e => exact less_neg (ih e rfl) h hs hd hm
  · exact less_one h1 h hk hs hd hm
end Go.Proofs.YthadeccnibnioaaGreatDoor
