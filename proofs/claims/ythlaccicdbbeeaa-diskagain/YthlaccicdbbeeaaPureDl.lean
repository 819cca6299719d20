/- What two rows of steps on a disk come to. -/
import Derived.Test.YthlaccicdbbeeaaPureDk
namespace Go.Proofs.Ythlaccicdbbeeaa

def nA : ByteArray := ⟨#[97]⟩
def nB : ByteArray := ⟨#[98]⟩
def nC : ByteArray := ⟨#[99]⟩
theorem nm_a : isNm nA = true := by decide
theorem nm_b : isNm nB = true := by decide
theorem nm_c : isNm nC = true := by decide
theorem ab : nA ≠ nB := by decide
theorem ac : nA ≠ nC := by decide
theorem bc : nB ≠ nC := by decide
theorem le_ab : nA.data.toList ≤ nB.data.toList := by decide
theorem le_bc : nB.data.toList ≤ nC.data.toList := by decide
theorem chk1 (s : Int) {k : ByteArray} (h : isNm k = true) : chkP s (-1) [k] = 0 := by unfold chkP; rw [if_neg (by omega)]; simp [h]
theorem chk2 (s : Int) {k l : ByteArray} (h : isNm k = true) (h' : isNm l = true) : chkP s (-1) [k, l] = 0 := by unfold chkP; rw [if_neg (by omega)]; simp [h, h']
theorem chk0 (s : Int) : chkP s (-1) [] = 0 := by unfold chkP; rw [if_neg (by omega)]; rfl
theorem wr_ok (d : Ds) (hb : d.bd = -1) {k : ByteArray} (hk : isNm k = true) {bs : List UInt8} (h : bs.length ≤ 60000) : wrD d k bs = (0, ⟨upd d.σ k (some bs), d.U ++ [.one ⟨k, d.σ k⟩], d.s + 1, -1⟩) := by
  unfold wrD; rw [hb, chk1 _ hk, if_neg (by decide), if_neg (by omega)]
theorem rm_ok (d : Ds) (hb : d.bd = -1) {k : ByteArray} (hk : isNm k = true) (h : (d.σ k).isSome = true) : rmD d k = (0, ⟨upd d.σ k none, d.U ++ [.one ⟨k, d.σ k⟩], d.s + 1, -1⟩) := by
  unfold rmD; rw [hb, chk1 _ hk, if_neg (by decide), if_neg (by rw [h]; decide)]
theorem rn_ok (d : Ds) (hb : d.bd = -1) {k l : ByteArray} (hk : isNm k = true) (hl : isNm l = true) (h : (d.σ k).isSome = true) : rnD d k l = (0, ⟨upd (upd d.σ k none) l (d.σ k), d.U ++ [.two ⟨k, d.σ k⟩ ⟨l, d.σ l⟩], d.s + 1, -1⟩) := by
  unfold rnD; rw [hb, chk2 _ hk hl, if_neg (by decide), if_neg (by rw [h]; decide)]
theorem sy_ok (d : Ds) (hb : d.bd = -1) : syD d = (0, ⟨d.σ, [], d.s + 1, -1⟩) := by
  unfold syD; rw [hb, chk0, if_neg (by decide)]

/-- The steps of DiskKeeps. -/
def k1 (a : List UInt8) : Int × Ds := wrD newD nA a
def k2 (a : List UInt8) : Int × Ds := syD (k1 a).2
def k3 (a b : List UInt8) : Int × Ds := wrD (k2 a).2 nB b
def k4 (a b : List UInt8) : Int × Ds := rnD (k3 a b).2 nA nC
def k5 (a b : List UInt8) : Int × Ds := rmD (k4 a b).2 nB
def wantK (keep : Int) : List ByteArray := if 2 < keep then [nC] else if keep = 2 then [nB, nC] else if keep = 1 then [nA, nB] else [nA]
def nameK (keep : Int) : ByteArray := if 1 < keep then nC else nA

theorem keeps_five {a b : List UInt8} (ha : a.length ≤ 60000) (hb : b.length ≤ 60000) : ((k1 a).1 = 0 ∧ (k2 a).1 = 0 ∧ (k3 a b).1 = 0 ∧ (k4 a b).1 = 0 ∧ (k5 a b).1 = 0) ∧
    (k5 a b).2 = ⟨upd (upd (upd (upd (upd (fun _ => none) nA (some a)) nB (some b)) nA none) nC (some a)) nB none, [.one ⟨nB, none⟩, .two ⟨nA, some a⟩ ⟨nC, none⟩, .one ⟨nB, some b⟩], 5, -1⟩ := by
  have e1 : k1 a = (0, ⟨upd (fun _ => none) nA (some a), [.one ⟨nA, none⟩], 1, -1⟩) := by unfold k1; rw [wr_ok newD rfl nm_a ha]; rfl
  have e2 : k2 a = (0, ⟨upd (fun _ => none) nA (some a), [], 2, -1⟩) := by unfold k2; rw [e1, sy_ok _ rfl]; rfl
  have e3 : k3 a b = (0, ⟨upd (upd (fun _ => none) nA (some a)) nB (some b), [.one ⟨nB, none⟩], 3, -1⟩) := by
    unfold k3; rw [e2, wr_ok _ rfl nm_b hb]
    simp [upd_other _ _ ab.symm]
  have e4 : k4 a b = (0, ⟨upd (upd (upd (upd (fun _ => none) nA (some a)) nB (some b)) nA none) nC (some a), [.one ⟨nB, none⟩, .two ⟨nA, some a⟩ ⟨nC, none⟩], 4, -1⟩) := by
    unfold k4; rw [e3, rn_ok _ rfl nm_a nm_c (by simp [upd_other _ _ ab, upd_same])]
    simp [upd_other _ _ ab, upd_same, upd_other _ _ bc.symm, upd_other _ _ ac.symm]
  have hB : (upd (upd (upd (upd (fun _ => none) nA (some a)) nB (some b)) nA none) nC (some a)) nB = some b := by rw [upd_other _ _ bc, upd_other _ _ ab.symm, upd_same]
  have e5 : k5 a b = (0, ⟨upd (upd (upd (upd (upd (fun _ => none) nA (some a)) nB (some b)) nA none) nC (some a)) nB none, [.one ⟨nB, none⟩, .two ⟨nA, some a⟩ ⟨nC, none⟩, .one ⟨nB, some b⟩], 5, -1⟩) := by
    unfold k5; rw [e4, rm_ok _ rfl nm_b (by simp only [hB]; rfl)]
    simp only [hB]; rfl
  rw [e1, e2, e3, e4, e5]
  exact ⟨⟨rfl, rfl, rfl, rfl, rfl⟩, rfl⟩

theorem mem_of {σ : Fs} {a b c : Option (List UInt8)} (hA : σ nA = a) (hB : σ nB = b) (hC : σ nC = c) (ho : ∀ x, x ≠ nA → x ≠ nB → x ≠ nC → σ x = none) (l : List ByteArray) (h1 : nA ∈ l ↔ a.isSome = true) (h2 : nB ∈ l ↔ b.isSome = true) (h3 : nC ∈ l ↔ c.isSome = true) (h4 : ∀ x ∈ l, x = nA ∨ x = nB ∨ x = nC) : ∀ k, k ∈ l ↔ (σ k).isSome = true := fun k => by
  by_cases e1 : k = nA
  · subst e1; rw [h1, hA]
  by_cases e2 : k = nB
  · subst e2; rw [h2, hB]
  by_cases e3 : k = nC
  · subst e3; rw [h3, hC]
  rw [ho k e1 e2 e3]
  exact ⟨fun h => by rcases h4 k h with h | h | h <;> contradiction, fun h => by cases h⟩

theorem keeps_pure {a b : List UInt8} (ha : a.length ≤ 60000) (hb : b.length ≤ 60000) (keep : Int) : NmsIs (crD (k5 a b).2 keep).σ (wantK keep) ∧ rdD (crD (k5 a b).2 keep) (nameK keep) = 0 ∧ (crD (k5 a b).2 keep).σ (nameK keep) = some a := by
  rw [(keeps_five ha hb).2]
  have ba := ab.symm; have ca := ac.symm; have cb := bc.symm
  have a_b := ab; have a_c := ac; have b_c := bc
  have fin : ∀ (σ : Fs) (l : List ByteArray) (nm : ByteArray), (l.Pairwise fun a b => a.data.toList ≤ b.data.toList) → l.Nodup → (∀ k, k ∈ l ↔ (σ k).isSome = true) → isNm nm = true → σ nm = some a → NmsIs σ l ∧ rdD ⟨σ, [], 0, -1⟩ nm = 0 ∧ σ nm = some a := fun σ l nm h1 h2 h3 h4 h5 => ⟨⟨h1, h2, h3⟩, by unfold rdD; rw [if_neg (by rw [h4]; decide), if_neg (by simp [h5])], h5⟩
  by_cases h0 : keep ≤ 0
  · have e1 : wantK keep = [nA] := by unfold wantK; rw [if_neg (by omega), if_neg (by omega), if_neg (by omega)]
    have e2 : nameK keep = nA := by unfold nameK; rw [if_neg (by omega)]
    have e3 : ∀ U : List Bk, keepN U keep = 0 := fun U => by unfold keepN; omega
    rw [e1, e2]
    unfold crD
    rw [e3]
    simp only [List.drop_zero, backs, List.foldr_cons, List.foldr_nil, Bk.run]
    refine fin _ [nA] nA (by simp) (by simp) (mem_of (a := some a) (b := none) (c := none) ?_ ?_ ?_ ?_ _ (by simp) (by simp [ba]) (by simp [ca]) (by simp)) nm_a ?_
    all_goals simp +contextual [upd, *]
  by_cases h1 : keep = 1
  · subst h1
    have e1 : wantK 1 = [nA, nB] := rfl
    have e2 : nameK 1 = nA := rfl
    rw [e1, e2]
    unfold crD
    rw [show keepN [.one ⟨nB, none⟩, .two ⟨nA, some a⟩ ⟨nC, none⟩, .one ⟨nB, some b⟩] 1 = 1 from rfl]
    simp only [List.drop_succ_cons, List.drop_zero, backs, List.foldr_cons, List.foldr_nil, Bk.run]
    refine fin _ [nA, nB] nA (List.pairwise_pair.2 le_ab) (by simp [a_b]) (mem_of (a := some a) (b := some b) (c := none) ?_ ?_ ?_ ?_ _ (by simp) (by simp) (by simp [ca, cb]) (by simp)) nm_a ?_
    all_goals simp +contextual [upd, *]
  by_cases h2 : keep = 2
  · subst h2
    have e1 : wantK 2 = [nB, nC] := rfl
    have e2 : nameK 2 = nC := rfl
    rw [e1, e2]
    unfold crD
    rw [show keepN [.one ⟨nB, none⟩, .two ⟨nA, some a⟩ ⟨nC, none⟩, .one ⟨nB, some b⟩] 2 = 2 from rfl]
    simp only [List.drop_succ_cons, List.drop_zero, backs, List.foldr_cons, List.foldr_nil, Bk.run]
    refine fin _ [nB, nC] nC (List.pairwise_pair.2 le_bc) (by simp [b_c]) (mem_of (a := none) (b := some b) (c := some a) ?_ ?_ ?_ ?_ _ (by simp [a_b, a_c]) (by simp) (by simp) (by simp)) nm_c ?_
    all_goals simp +contextual [upd, *]
  · have e1 : wantK keep = [nC] := by unfold wantK; rw [if_pos (by omega)]
    have e2 : nameK keep = nC := by unfold nameK; rw [if_pos (by omega)]
    have e3 : keepN [.one ⟨nB, none⟩, .two ⟨nA, some a⟩ ⟨nC, none⟩, .one ⟨nB, some b⟩] keep = 3 := by unfold keepN; simp; omega
    rw [e1, e2]
    unfold crD
    simp only [e3]
    simp only [List.drop_succ_cons, List.drop_zero, backs, List.foldr_nil]
    refine fin _ [nC] nC (by simp) (by simp) (mem_of (a := none) (b := none) (c := some a) ?_ ?_ ?_ ?_ _ (by simp [a_c]) (by simp [b_c]) (by simp) (by simp)) nm_c ?_
    all_goals simp +contextual [upd, *]
end Go.Proofs.Ythlaccicdbbeeaa
