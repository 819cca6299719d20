/- What is read follows the grammar, and what follows the grammar is read. -/
import Derived.Test.YtppkjiihmlphbaaGreatDoorPureA
namespace Go.Proofs.YtppkjiihmlphbaaGreatDoor

/-- The bytes s, read at a level (0 the loosest, 5 the closest) with d levels left, say t. -/
inductive Gr : Nat → Nat → List UInt8 → Tm → Prop
  | num (d : Nat) (s : List UInt8) (h : s ≠ []) (hd : ∀ c ∈ s, isDg c = true) (h0 : s.head? = some 48 → s = [48]) (hv : valFrom 0 s < 9223372036854775808) : Gr d 5 s (.num (valFrom 0 s))
  | vn (d : Nat) : Gr d 5 [110] .vn
  | vs (d : Nat) : Gr d 5 [115] .vs
  | brk {d : Nat} {s : List UInt8} {t : Tm} (h : Gr d 0 s t) : Gr (d + 1) 5 (40 :: (s ++ [41])) t
  | mn {d : Nat} {a b : List UInt8} {ta tb : Tm} (ha : Gr d 0 a ta) (hb : Gr d 0 b tb) : Gr (d + 1) 5 (109 :: 105 :: 110 :: 40 :: (a ++ 44 :: (b ++ [41]))) (.two 109 ta tb)
  | mx {d : Nat} {a b : List UInt8} {ta tb : Tm} (ha : Gr d 0 a ta) (hb : Gr d 0 b tb) : Gr (d + 1) 5 (109 :: 97 :: 120 :: 40 :: (a ++ 44 :: (b ++ [41]))) (.two 77 ta tb)
  | neg {d : Nat} {s : List UInt8} {t : Tm} (h : Gr d 4 s t) : Gr (d + 1) 4 (45 :: s) (.neg t)
  | mul {d : Nat} {a b : List UInt8} {ta tb : Tm} (op : UInt8) (ho : op ∈ [42, 47, 37]) (ha : Gr d 3 a ta) (hb : Gr d 4 b tb) : Gr d 3 (a ++ op :: b) (.two op ta tb)
  | add {d : Nat} {a b : List UInt8} {ta tb : Tm} (op : UInt8) (ho : op ∈ [43, 45]) (ha : Gr d 2 a ta) (hb : Gr d 3 b tb) : Gr d 2 (a ++ op :: b) (.two op ta tb)
  | cmp {d : Nat} {a b : List UInt8} {ta tb : Tm} (op : UInt8) (ho : op ∈ [61, 60, 62]) (ha : Gr d 2 a ta) (hb : Gr d 2 b tb) : Gr d 1 (a ++ op :: b) (.two op ta tb)
  | cond {d : Nat} {a b c : List UInt8} {ta tb tc : Tm} (ha : Gr (d + 1) 1 a ta) (hb : Gr d 0 b tb) (hc : Gr d 0 c tc) : Gr (d + 1) 0 (a ++ 63 :: (b ++ 58 :: c)) (.cond ta tb tc)
  | up {d l : Nat} {s : List UInt8} {t : Tm} (hl : l < 5) (h : Gr d (l + 1) s t) : Gr d l s t

theorem Gr.down {d l : Nat} {s : List UInt8} {t : Tm} (h : Gr d l s t) : ∀ k, k ≤ l → l ≤ 5 → Gr d k s t := by
  intro k hk hl
  induction hn : l - k generalizing l with
  | zero => have : k = l := by omega
            subst this; exact h
  | succ n ih =>
    cases l with
    | zero => omega
    | succ l => exact ih (.up (by omega) h) (by omega) (by omega) (by omega)

/- soundness -/
def Snd (d l : Nat) (f : List UInt8 → Res) : Prop := ∀ u t v, f u = .ok t v → ∃ s, u = s ++ v ∧ Gr d l s t

theorem head_cons {u : List UInt8} {c : UInt8} (h : u.head? = some c) : u = c :: u.drop 1 := by
  cases u with
  | nil => simp at h
  | cons a r => simp at h; simp [h]

theorem digs_append (u : List UInt8) : u = digs u ++ u.drop (digs u).length := by
  unfold digs
  split
  · rename_i h; rw [head_cons h]; rfl
  · have h := List.takeWhile_append_dropWhile (p := isDg) (l := u)
    have h2 : (u.takeWhile isDg ++ u.dropWhile isDg).drop (u.takeWhile isDg).length = u.dropWhile isDg := List.drop_left ..
    rw [h] at h2
    rw [h2, h]

theorem digs_isDg (u : List UInt8) : ∀ c ∈ digs u, isDg c = true := by
  unfold digs
  split
  · simp [isDg]
  · intro c hc; exact (List.all_takeWhile (p := isDg) (l := u)) |> fun h => by simpa using (List.all_eq_true.1 h) c hc

theorem digs_zero (u : List UInt8) (h : (digs u).head? = some 48) : digs u = [48] := by
  unfold digs at h ⊢
  split
  · rfl
  · rename_i hn
    rw [if_neg hn] at h
    cases u with
    | nil => simp at h
    | cons a r =>
      simp [List.takeWhile_cons] at h hn
      split at h
      · simp at h; exact absurd h hn
      · simp at h

theorem snd_num (d : Nat) : Snd d 5 numF := by
  intro u t v h
  unfold numF at h
  split at h
  · rename_i hc
    cases h
    exact ⟨digs u, digs_append u, .num d _ hc.1 (digs_isDg u) (digs_zero u) hc.2⟩
  · cases h

theorem snd_brk {d : Nat} {inC : Nat → List UInt8 → Res} (hC : ∀ pl, Snd d 0 (inC pl)) (u : List UInt8) (t : Tm) (v : List UInt8) (pl : Nat) (h : brkF inC pl u = .ok t v) : ∃ s, 40 :: u = s ++ v ∧ Gr (d + 1) 5 s t := by
  unfold brkF at h
  split at h
  · cases h
  · rename_i a w hw
    split at h
    · rename_i hh
      cases h
      obtain ⟨s, hs, hg⟩ := hC _ _ _ _ hw
      refine ⟨40 :: (s ++ [41]), ?_, .brk hg⟩
      rw [hs]; simp
      simpa using head_cons hh
    · cases h

theorem snd_pair {d : Nat} {inC : Nat → List UInt8 → Res} (hC : ∀ pl, Snd d 0 (inC pl)) (op : UInt8) (u : List UInt8) (t : Tm) (v : List UInt8) (pl : Nat) (h : pairF inC op pl u = .ok t v) :
    ∃ a b ta tb, u = a ++ 44 :: (b ++ [41]) ++ v ∧ Gr d 0 a ta ∧ Gr d 0 b tb ∧ t = .two op ta tb := by
  unfold pairF at h
  split at h
  · cases h
  · rename_i ta w hw
    split at h
    · rename_i hh
      split at h
      · cases h
      · rename_i tb w2 hw2
        split at h
        · rename_i hh2
          cases h
          obtain ⟨a, ha, hga⟩ := hC _ _ _ _ hw
          obtain ⟨b, hb, hgb⟩ := hC _ _ _ _ hw2
          refine ⟨a, b, ta, tb, ?_, hga, hgb, rfl⟩
          rw [ha, head_cons hh, hb, head_cons hh2]; simp
        · cases h
    · cases h

theorem snd_single {d : Nat} {inC : Nat → List UInt8 → Res} (hC : ∀ pl, Snd d 0 (inC pl)) : Snd (d + 1) 5 (singleF inC) := by
  intro u t v h
  unfold singleF at h
  split at h
  · rename_i hh; cases h; exact ⟨[110], head_cons hh, .vn _⟩
  split at h
  · rename_i hh; cases h; exact ⟨[115], head_cons hh, .vs _⟩
  split at h
  · rename_i hh
    obtain ⟨s, hs, hg⟩ := snd_brk hC _ _ _ _ h
    exact ⟨s, by rw [head_cons hh]; exact hs, hg⟩
  split at h
  · rename_i hp
    obtain ⟨r, hr⟩ := hp
    subst hr
    obtain ⟨a, b, ta, tb, hu, ha, hb, rfl⟩ := snd_pair hC _ _ _ _ _ h
    refine ⟨_, ?_, .mn ha hb⟩
    simp at hu ⊢; exact hu
  split at h
  · rename_i hp
    obtain ⟨r, hr⟩ := hp
    subst hr
    obtain ⟨a, b, ta, tb, hu, ha, hb, rfl⟩ := snd_pair hC _ _ _ _ _ h
    refine ⟨_, ?_, .mx ha hb⟩
    simp at hu ⊢; exact hu
  · exact snd_num _ _ _ _ h

theorem snd_single0 : Snd 0 5 (singleF fun pl _ => .bad pl 4) := by
  intro u t v h
  unfold singleF at h
  split at h
  · rename_i hh; cases h; exact ⟨[110], head_cons hh, .vn _⟩
  split at h
  · rename_i hh; cases h; exact ⟨[115], head_cons hh, .vs _⟩
  split at h
  · simp [brkF] at h
  split at h
  · simp [pairF] at h
  split at h
  · simp [pairF] at h
  · exact snd_num _ _ _ _ h

theorem snd_sign {d : Nat} {inC inS : Nat → List UInt8 → Res} (hC : Snd d 5 (singleF inC)) (hS : ∀ u t v, negF inS u = .ok t v → u.head? = some 45 → ∃ s, u = s ++ v ∧ Gr d 4 s t) : Snd d 4 (signF inC inS) := by
  intro u t v h
  unfold signF at h
  split at h
  · rename_i hh; exact hS _ _ _ h hh
  · obtain ⟨s, hs, hg⟩ := hC _ _ _ h
    exact ⟨s, hs, .up (by omega) hg⟩

theorem opAt_some {ops u : List UInt8} {c : UInt8} (h : opAt ops u = some c) : u = c :: u.drop 1 ∧ c ∈ ops := by
  unfold opAt at h
  cases u with
  | nil => simp at h
  | cons a r =>
    simp only at h
    split at h
    · rename_i hc; cases h; exact ⟨by simp, hc⟩
    · cases h

theorem snd_loop {d l : Nat} {ops : List UInt8} {part : List UInt8 → Res} (mk : ∀ op a b ta tb, op ∈ ops → Gr d l a ta → Gr d (l + 1) b tb → Gr d l (a ++ op :: b) (.two op ta tb))
    (hp : Snd d (l + 1) part) : ∀ f t0 v0 t v s0, loopF ops part f t0 v0 = .ok t v → Gr d l s0 t0 → ∃ s, v0 = s ++ v ∧ Gr d l (s0 ++ s) t := by
  intro f
  induction f with
  | zero =>
    intro t0 v0 t v s0 h hg
    unfold loopF at h
    split at h
    · cases h; exact ⟨[], by simp, by simpa using hg⟩
    · cases h; exact ⟨[], by simp, by simpa using hg⟩
  | succ f ih =>
    intro t0 v0 t v s0 h hg
    unfold loopF at h
    split at h
    · cases h; exact ⟨[], by simp, by simpa using hg⟩
    · rename_i c hc
      simp only at h
      split at h
      · cases h
      · rename_i b v2 hb
        obtain ⟨hu, hm⟩ := opAt_some hc
        obtain ⟨s1, hs1, hg1⟩ := hp _ _ _ hb
        obtain ⟨s2, hs2, hg2⟩ := ih _ _ _ _ (s0 ++ c :: s1) h (mk c _ _ _ _ hm hg hg1)
        refine ⟨c :: s1 ++ s2, ?_, by simpa using hg2⟩
        rw [hu, hs1, hs2]; simp

theorem snd_row {d l : Nat} (hl : l < 5) {ops : List UInt8} {part : List UInt8 → Res} (mk : ∀ op a b ta tb, op ∈ ops → Gr d l a ta → Gr d (l + 1) b tb → Gr d l (a ++ op :: b) (.two op ta tb))
    (hp : Snd d (l + 1) part) : Snd d l (rowF ops part) := by
  intro u t v h
  unfold rowF at h
  split at h
  · cases h
  · rename_i t0 v0 h0
    obtain ⟨s0, hs0, hg0⟩ := hp _ _ _ h0
    obtain ⟨s, hs, hg⟩ := snd_loop mk hp _ _ _ _ _ s0 h (.up hl hg0)
    exact ⟨s0 ++ s, by rw [hs0, hs]; simp, hg⟩

theorem snd_cmp {d : Nat} {sum : List UInt8 → Res} (hp : Snd d 2 sum) : Snd d 1 (cmpF sum) := by
  intro u t v h
  unfold cmpF at h
  split at h
  · cases h
  · rename_i a w hw
    obtain ⟨s0, hs0, hg0⟩ := hp _ _ _ hw
    split at h
    · cases h; exact ⟨s0, hs0, .up (by omega) hg0⟩
    · rename_i c hc
      split at h
      · cases h
      · rename_i b w2 hb
        cases h
        obtain ⟨hu, hm⟩ := opAt_some hc
        obtain ⟨s1, hs1, hg1⟩ := hp _ _ _ hb
        exact ⟨s0 ++ c :: s1, by rw [hs0, hu, hs1]; simp, .cmp c hm hg0 hg1⟩

theorem snd_lev (d : Nat) : Snd d 0 (chP d) ∧ Snd d 4 (sgP d) := by
  induction d with
  | zero =>
    have h4 : Snd 0 4 (sgP 0) := by
      intro u t v h
      rw [sgP_eq] at h
      exact snd_sign (inS := inSg 0) snd_single0 (by intro u t v h; simp [negF, inSg] at h) u t v h
    have h1 : Snd 0 1 (cpP 0) := snd_cmp (snd_row (by omega) (fun op a b ta tb ho => .add op ho) (snd_row (by omega) (fun op a b ta tb ho => .mul op ho) h4))
    refine ⟨?_, h4⟩
    intro u t v h
    rw [chP_eq] at h
    unfold choF at h
    split at h
    · cases h
    · rename_i a w hw
      obtain ⟨s, hs, hg⟩ := h1 _ _ _ hw
      split at h
      · simp [inCh] at h
      · cases h; exact ⟨s, hs, .up (by omega) hg⟩
  | succ d ih =>
    have h4 : Snd (d + 1) 4 (sgP (d + 1)) := by
      intro u t v h
      rw [sgP_eq] at h
      refine snd_sign (inS := inSg (d + 1)) (snd_single (inC := inCh (d + 1)) (fun pl => ih.1)) ?_ u t v h
      intro u t v h hh
      unfold negF at h
      split at h
      · cases h
      · rename_i t' w hw
        cases h
        obtain ⟨s, hs, hg⟩ := ih.2 _ _ _ hw
        exact ⟨45 :: s, by rw [head_cons hh, hs]; simp, .neg hg⟩
    have h1 : Snd (d + 1) 1 (cpP (d + 1)) := snd_cmp (snd_row (by omega) (fun op a b ta tb ho => .add op ho) (snd_row (by omega) (fun op a b ta tb ho => .mul op ho) h4))
    refine ⟨?_, h4⟩
    intro u t v h
    rw [chP_eq] at h
    unfold choF at h
    split at h
    · cases h
    · rename_i a w hw
      obtain ⟨s, hs, hg⟩ := h1 _ _ _ hw
      split at h
      · rename_i hh
        split at h
        · cases h
        · rename_i b w2 hb
          split at h
          · rename_i hh2
            split at h
            · cases h
            · rename_i c w3 hc
              cases h
              obtain ⟨s1, hs1, hg1⟩ := ih.1 _ _ _ hb
              obtain ⟨s2, hs2, hg2⟩ := ih.1 _ _ _ hc
              exact ⟨s ++ 63 :: (s1 ++ 58 :: s2), by rw [hs, head_cons hh, hs1, head_cons hh2, hs2]; simp, .cond hg hg1 hg2⟩
          · cases h
      · cases h; exact ⟨s, hs, .up (by omega) hg⟩

end Go.Proofs.YtppkjiihmlphbaaGreatDoor
