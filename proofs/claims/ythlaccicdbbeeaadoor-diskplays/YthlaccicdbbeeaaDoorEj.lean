/- The document's Do and Read; names by numbers; Fail, Steps. -/
import Derived.Test.YthlaccicdbbeeaaDoorEg
import Derived.Test.YthlaccicdbbeeaaDoorEh
import Derived.Test.YthlaccicdbbeeaaDoorEi
import Derived.Test.YthlaccicdbbeeaaDoorDk
namespace Go.Proofs.YthlaccicdbbeeaaDoor
open Go.RowKit
set_option linter.unusedVariables false

section
variable {w : World} {O : Nat → Prop} {Kb : Nat} {k : Kd}
theorem do_any (h : KAt w O Kb k) (hO : ∀ b, w.heap.size ≤ b → O b) (hOK : ∀ b, O b → b ≠ Kb) (x : Wk) (q : Option Addr) (qc : Nat) (hx : 1 ≤ x.kind ∧ x.kind ≤ 6) (hq : BsO w O q x.bytes) (hn : x.name.size ≤ maxLen) (ht : x.to.size ≤ maxLen) (hN : k.N.length ≤ 10000) (hS : k.S.length ≤ 10000) (hT : k.T.length ≤ 10000) (hst : 0 ≤ k.st ∧ k.st < 1000000000) :
    Calls Tryd.prog 14 #[.pointer (some ⟨Kb, 0, none⟩), wkV x q qc] w (KEnd w O Kb (doP k x)) := by
  by_cases h5 : x.kind = 5
  · exact do_five h hO hOK x q qc h5 hS hT
  by_cases h6 : x.kind = 6
  · exact do_fail h hO hOK x q qc h6
  by_cases hb : 0 ≤ k.sp ∧ k.sp ≤ k.st
  · rw [doP_k k x h5 h6, if_pos hb]
    exact do_bars h hO hOK x q qc h5 h6 hb
  have : x.kind = 1 ∨ x.kind = 2 ∨ x.kind = 3 ∨ x.kind = 4 := by omega
  rcases this with e | e | e | e
  · exact do_one h hO hOK x q qc e hq hn ht hN hT hst hb
  · exact do_two h hO hOK x q qc e hq hn ht hN hT hst hb
  · exact do_three h hO hOK x q qc e hq hn ht hN hT hst hb
  · exact do_four h hO hOK x q qc e hq hn ht hN hT hst hb

/-- What Read answers. -/
def krd (k : Kd) (nm : ByteArray) : Int := if isNm nm = false then 2 else if (look k.N nm).isSome = false then 6 else 0
def kbs (k : Kd) (nm : ByteArray) : List UInt8 := if krd k nm = 0 then (look k.N nm).getD [] else []
set_option maxRecDepth 100000 in
set_option maxHeartbeats 4000000 in
theorem kread_any (h : KAt w O Kb k) (nm : ByteArray) (hn : nm.size ≤ maxLen) (hN : k.N.length ≤ 10000) :
    Calls Tryd.prog 18 #[.pointer (some ⟨Kb, 0, none⟩), .string nm] w fun e w' => (∃ A c, e = .returned (.tuple #[.slice A (kbs k nm).length c, .int .i64 (krd k nm)]) ∧ BsAt w A (kbs k nm)) ∧ w = w' := by
  obtain ⟨pN, cN, LN, pS, cS, LS, pT, cT, TT, h1, h2, h3, h4, h5, h6, h7, h8⟩ := h.at_
  have hlN : LN.length ≤ 10000 := by rw [← List.length_map (f := En.pr), h3]; omega
  have d0 : w.cell? ⟨Kb, 0, none⟩ = some (.slice pN LN.length cN) := by simp [World.cell?, h1]
  have HM := named_any nm w hn
  have HF := find_any w O pN cN LN h2 (by omega) LN.length rfl nm
  rw [h3] at HF
  clear h1 h4 h5 h6 h7 h8
  cases hnm : isNm nm with
  | false =>
    rw [hnm] at HM
    have hr : krd k nm = 2 := by unfold krd; rw [if_pos hnm]
    have hb : kbs k nm = [] := by unfold kbs; rw [hr, if_neg (by decide)]
    rw [hr, hb]
    clear hr hb
    go_enter Tryd.func18, Tryd.ntmps18
    go_wp2_with (go_at_call 37; refine HM.mono ?_; rintro e w' ⟨rfl, rfl⟩)
    go_ret2
    exact ⟨⟨none, 0, rfl, .inl rfl⟩, rfl⟩
  | true =>
    rw [hnm] at HM
    cases hlk : look k.N nm with
    | none =>
      have hr : krd k nm = 6 := by unfold krd; rw [if_neg (by rw [hnm]; decide), hlk]; rfl
      have hb : kbs k nm = [] := by unfold kbs; rw [hr, if_neg (by decide)]
      have hf : findP nm 0 k.N = -1 := find_none nm k.N 0 hlk
      rw [hf] at HF
      rw [hr, hb]
      clear hr hb hf hlk h3
      go_enter Tryd.func18, Tryd.ntmps18
      go_wp2_with (first | (go_at_call 37; refine HM.mono ?_; rintro e w' ⟨rfl, rfl⟩) | (go_at_call 38; refine HF.mono ?_; rintro e w' ⟨rfl, rfl⟩))
      go_ret2
      exact ⟨⟨none, 0, rfl, .inl rfl⟩, rfl⟩
    | some b =>
      have hr : krd k nm = 0 := by unfold krd; rw [if_neg (by rw [hnm]; decide), hlk]; rfl
      have hb : kbs k nm = b := by unfold kbs; rw [hr, if_pos rfl, hlk]; rfl
      obtain ⟨j, hj, f1, f2⟩ := find_some nm k.N 0 b hlk
      have hjL : j < LN.length := by rw [← List.length_map (f := En.pr), h3]; exact hj
      rw [f1, Nat.zero_add] at HF
      rw [hr, hb]
      have f3 : LN[j].pr = (nm, b) := by
        have : (LN.map En.pr)[j]'(by simpa using hjL) = k.N[j] := by simp only [h3]
        rw [List.getElem_map] at this
        rw [this, f2]
      have hbs : LN[j].bs = b := by have := congrArg Prod.snd f3; exact this
      rcases h2 with h2 | ⟨b0, o0, rfl, hb0, h2⟩
      · rw [h2] at hjL; simp at hjL
      obtain ⟨c1, c2, c3⟩ := h2 j hjL
      rw [hbs] at c2 c3
      have hji : (j : Int) < LN.length := by omega
      clear hr hb f1 f2 f3 hlk h3 c1 h2 hbs
      generalize LN[j].q = jq at *
      generalize LN[j].c = jc at *
      go_enter Tryd.func18, Tryd.ntmps18
      go_wp2_with (first | (go_at_call 37; refine HM.mono ?_; rintro e w' ⟨rfl, rfl⟩) | (go_at_call 38; refine HF.mono ?_; rintro e w' ⟨rfl, rfl⟩))
      go_ret2
      exact ⟨⟨jq, jc, rfl, c3.1⟩, rfl⟩
end

def fileP (n : Int) : ByteArray := if n = 0 ∨ n = 1 then ⟨#[97]⟩ else if n = 2 then ⟨#[98, 45, 49]⟩ else if n = 3 then ⟨#[99]⟩ else if n = 4 then ⟨#[]⟩ else ⟨#[65]⟩
theorem file_size (n : Int) : (fileP n).size ≤ 3 := by
  unfold fileP; repeat' split
  all_goals decide
set_option maxHeartbeats 1000000 in
theorem file_any (n : Int) (w : World) : Calls Tryd.prog 6 #[.int .i64 n] w fun e w' => e = .returned (.string (fileP n)) ∧ w = w' := by
  by_cases h0 : n = 0
  · subst h0
    go_enter Tryd.func6, Tryd.ntmps6
    go_wp2
    go_ret
    exact ⟨rfl, rfl⟩
  by_cases h1 : n = 1
  · subst h1
    go_enter Tryd.func6, Tryd.ntmps6
    go_wp2
    go_ret
    exact ⟨rfl, rfl⟩
  by_cases h2 : n = 2
  · subst h2
    go_enter Tryd.func6, Tryd.ntmps6
    go_wp2
    go_ret
    exact ⟨rfl, rfl⟩
  by_cases h3 : n = 3
  · subst h3
    go_enter Tryd.func6, Tryd.ntmps6
    go_wp2
    go_ret
    exact ⟨rfl, rfl⟩
  by_cases h4 : n = 4
  · subst h4
    go_enter Tryd.func6, Tryd.ntmps6
    go_wp2
    go_ret
    exact ⟨rfl, rfl⟩
  · have hf : fileP n = ⟨#[65]⟩ := by unfold fileP; simp [h0, h1, h2, h3, h4]
    rw [hf]
    go_enter Tryd.func6, Tryd.ntmps6
    go_wp2
    go_ret
    exact ⟨rfl, rfl⟩
section
variable {X : Nat → Prop} {lo : Nat} {w : World} {B M : Nat} {uv : Value} {d : Ds} {n : Nat}
theorem fail_any (h : DkS X lo w B M uv d n) (at_ : Int) : Calls Tryd.prog 12 #[.pointer (some ⟨B, 0, none⟩), .int .i64 at_] w fun e w' => (∃ v, e = .returned v) ∧ DkS X lo w' B M uv { d with bd := at_ } n ∧ FrD B M uv w w' := by
  have c3 := h.c3
  have g3 := h.fz 3
  have hf := h.set3 at_
  go_enter Tryd.func12, Tryd.ntmps12
  go_wp2
  go_end0
  exact ⟨⟨_, rfl⟩, hf, (FrD.refl _ _ _ w).setB 3 _⟩
theorem steps_any (h : DkS X lo w B M uv d n) : Calls Tryd.prog 16 #[.pointer (some ⟨B, 0, none⟩)] w fun e w' => e = .returned (.int .i64 d.s) ∧ w = w' := by
  have c2 := h.c2
  go_enter Tryd.func16, Tryd.ntmps16
  go_wp2
  go_ret
  exact ⟨rfl, rfl⟩
/-- Others turn their own blocks alone. -/
theorem DkAt.keepX {σ : Fs} {U : List Bk} {s bd : Int} (h : DkAt X lo w B M uv σ U s bd n) {w' : World} (hs : w.heap.size ≤ w'.heap.size) (hk : ∀ b, b < w.heap.size → ¬ X b → w'.heap[b]? = w.heap[b]?) : DkAt X lo w' B M uv σ U s bd n := by
  have hkO : ∀ b, b < w.heap.size → OthX X B M uv b → w'.heap[b]? = w.heap[b]? := fun b hl ho => hk b hl ho.2
  have hO : ∀ b, b < w.heap.size → OthX X B M uv b → OthX X B M uv b := fun _ _ h => h
  obtain ⟨V, hV, hU⟩ := h.row
  obtain ⟨D, hD, hm⟩ := h.mp
  refine ⟨(hk B h.lt h.xB).trans h.blk, ⟨V, ⟨hV.1, hV.2.imp id fun ⟨g, cap, cur, e0, e1, e2, e3⟩ => ⟨g, cap, cur, e0, e1, (hk g (Array.getElem?_eq_some_iff.1 e2).1 (h.xR g (by rw [e0]; rfl))).trans e2, e3⟩⟩, fun i h1 h2 => (hU i h1 h2).keep hkO hO⟩, ⟨D, ?_, hm.keep hkO hO⟩, h.lo1, h.lo2, h.fok, h.uok, fun b hb => Nat.lt_of_lt_of_le (h.xlt b hb) hs, h.xB, h.xM, h.xR⟩
  obtain ⟨es, cl, e1, e2⟩ := hD
  exact ⟨es, cl, (hk M (Array.getElem?_eq_some_iff.1 e1).1 h.xM).trans e1, e2⟩
/-- A new disk beside what others turn. -/
theorem DkAt.newX {w' : World} {X' : Nat → Prop} (h : DkS X lo w B M (.slice none 0 0) newD n) (hb : Below w.heap.size w w') (hX : ∀ b, X' b → w.heap.size ≤ b ∧ b < w'.heap.size) : DkS X' lo w' B M (.slice none 0 0) newD n := by
  have h' := h.keep hb
  obtain ⟨D, hD, hm⟩ := h'.mp
  have hlt := h.lt
  have hltM := h.ltM
  refine ⟨h'.blk, ⟨[], World.ownsRow_nil _ _ _ _, fun i hi => by simp [newD] at hi⟩, ⟨D, hD, fun k => ?_⟩, h.lo1, h.lo2, h.fok, h.uok, fun b hb' => (hX b hb').2, fun e => by have := (hX B e).1; omega, fun e => by have := (hX M e).1; omega, fun g hg => by simp [Value.ownBlock] at hg⟩
  obtain ⟨h1, v, h2, h3⟩ := hm k
  refine ⟨h1, v, h2, ?_⟩
  obtain ⟨h4, p, c, h5, h6, _⟩ := h3
  exact ⟨h4, p, c, h5, h6, fun hne => absurd rfl hne⟩
end
end Go.Proofs.YthlaccicdbbeeaaDoor
