/- What the steps of DiskAgain come to. -/
import Derived.Test.YthlaccicdbbeeaaPureDl
namespace Go.Proofs.Ythlaccicdbbeeaa

def m1 (a : List UInt8) : Int × Ds := wrD newD nA a
def m2 (a b : List UInt8) : Int × Ds := wrD (m1 a).2 nA b
def m3 (a b : List UInt8) (keep : Int) : Ds := crD (m2 a b).2 keep
def m4 (a b : List UInt8) (keep : Int) : Ds := crD (m3 a b keep) 99
def m5 (a b : List UInt8) (keep : Int) : Int × Ds := rnD (m4 a b keep) nA nB
def m6 (a b : List UInt8) (keep : Int) : Int × Ds := rnD (m5 a b keep).2 nB nA
def wantA (a b : List UInt8) (keep : Int) : List UInt8 := if 1 < keep then b else a
def namesA (keep : Int) : List ByteArray := if 0 < keep then [nA] else []

theorem again_two {a b : List UInt8} (ha : a.length ≤ 60000) (hb : b.length ≤ 60000) : ((m1 a).1 = 0 ∧ (m2 a b).1 = 0) ∧ (m2 a b).2 = ⟨upd (upd (fun _ => none) nA (some a)) nA (some b), [.one ⟨nA, none⟩, .one ⟨nA, some a⟩], 2, -1⟩ := by
  have e1 : m1 a = (0, ⟨upd (fun _ => none) nA (some a), [.one ⟨nA, none⟩], 1, -1⟩) := by unfold m1; rw [wr_ok newD rfl nm_a ha]; rfl
  have e2 : m2 a b = (0, ⟨upd (upd (fun _ => none) nA (some a)) nA (some b), [.one ⟨nA, none⟩, .one ⟨nA, some a⟩], 2, -1⟩) := by
    unfold m2; rw [e1, wr_ok _ rfl nm_a hb]
    simp only [upd_same]; rfl
  rw [e1, e2]
  exact ⟨⟨rfl, rfl⟩, rfl⟩
theorem again_read {a b : List UInt8} (ha : a.length ≤ 60000) (hb : b.length ≤ 60000) : rdD (m2 a b).2 nA = 0 ∧ (m2 a b).2.σ nA = some b := by
  rw [(again_two ha hb).2]
  unfold rdD
  simp [upd_same, nm_a]
theorem again_m3 {a b : List UInt8} (ha : a.length ≤ 60000) (hb : b.length ≤ 60000) (keep : Int) : (m3 a b keep).U = [] ∧ (m3 a b keep).bd = -1 ∧ (∀ x, x ≠ nA → (m3 a b keep).σ x = none) ∧ (m3 a b keep).σ nA = if 0 < keep then some (wantA a b keep) else none := by
  unfold m3
  rw [(again_two ha hb).2]
  refine ⟨rfl, rfl, ?_⟩
  unfold crD wantA
  by_cases h0 : keep ≤ 0
  · rw [show keepN [.one ⟨nA, none⟩, .one ⟨nA, some a⟩] keep = 0 from by unfold keepN; omega, if_neg (by omega)]
    simp +contextual [backs, Bk.run, upd]
  by_cases h1 : keep = 1
  · subst h1
    rw [show keepN [.one ⟨nA, none⟩, .one ⟨nA, some a⟩] 1 = 1 from rfl]
    simp +contextual [backs, Bk.run, upd]
  · have e3 : keepN [.one ⟨nA, none⟩, .one ⟨nA, some a⟩] keep = 2 := by unfold keepN; simp; omega
    simp only [e3]
    rw [if_pos (by omega), if_pos (by omega)]
    simp +contextual [backs, upd]
theorem again_m4 (a b : List UInt8) (keep : Int) (hU : (m3 a b keep).U = []) : (m4 a b keep).σ = (m3 a b keep).σ ∧ (m4 a b keep).bd = -1 := by
  unfold m4 crD
  rw [hU]
  exact ⟨rfl, rfl⟩
theorem again_names {a b : List UInt8} (ha : a.length ≤ 60000) (hb : b.length ≤ 60000) (keep : Int) : NmsIs (m3 a b keep).σ (namesA keep) := by
  obtain ⟨_, _, h3, h4⟩ := again_m3 ha hb keep
  unfold namesA
  by_cases h0 : 0 < keep
  · rw [if_pos h0] at h4 ⊢
    refine ⟨by simp, by simp, fun k => ?_⟩
    by_cases e : k = nA
    · subst e; rw [h4]; simp
    · rw [h3 k e]; simp [e]
  · rw [if_neg h0] at h4 ⊢
    refine ⟨by simp, by simp, fun k => ?_⟩
    by_cases e : k = nA
    · subst e; rw [h4]; simp
    · rw [h3 k e]; simp
theorem again_last {a b : List UInt8} (ha : a.length ≤ 60000) (hb : b.length ≤ 60000) {keep : Int} (hk : 0 < keep) : (m5 a b keep).1 = 0 ∧ (m6 a b keep).1 = 0 ∧ rdD (m6 a b keep).2 nA = 0 ∧ (m6 a b keep).2.σ nA = some (wantA a b keep) := by
  obtain ⟨h1, h2, h3, h4⟩ := again_m3 ha hb keep
  rw [if_pos hk] at h4
  obtain ⟨g1, g2⟩ := again_m4 a b keep h1
  have s5 : (m4 a b keep).σ nA = some (wantA a b keep) := by rw [g1]; exact h4
  have e5 : m5 a b keep = (0, ⟨upd (upd (m4 a b keep).σ nA none) nB (some (wantA a b keep)), (m4 a b keep).U ++ [.two ⟨nA, some (wantA a b keep)⟩ ⟨nB, (m4 a b keep).σ nB⟩], (m4 a b keep).s + 1, -1⟩) := by
    unfold m5; rw [rn_ok _ g2 nm_a nm_b (by rw [s5]; rfl), s5]
  have s6 : (m5 a b keep).2.σ nB = some (wantA a b keep) := by rw [e5]; simp only [upd_same]
  have e6 := rn_ok (m5 a b keep).2 (by rw [e5]) nm_b nm_a (by rw [s6]; rfl)
  refine ⟨by rw [e5], by unfold m6; rw [e6], ?_, ?_⟩
  · unfold m6; rw [e6]
    unfold rdD
    rw [if_neg (by rw [nm_a]; decide)]
    rw [if_neg (by simp only [upd_same, s6]; simp)]
  · unfold m6; rw [e6]; simp only [upd_same, s6]
end Go.Proofs.Ythlaccicdbbeeaa
