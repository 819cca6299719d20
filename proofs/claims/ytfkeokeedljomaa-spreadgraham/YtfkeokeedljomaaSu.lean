/- Longest first is nearly best: the law's walk. -/
import Derived.Test.YtfkeokeedljomaaSt
namespace Go.Proofs.Ytfkeokeedljomaa
open Go.RowKit
set_option linter.unusedVariables false

section
variable (W : World) (a0 : Option Addr) (cap0 : Nat) (L : List Int) (wk way : Int) (a3 : Option Addr) (cap3 : Nat) (l : List ByteArray) (p : Int)
set_option maxRecDepth 100000 in
set_option maxHeartbeats 4000000 in
theorem graham_no (h : CsAt W a0 (icells L)) (hl : L.length ≤ 281474976710656) (he : erL L wk ≠ 0 ∨ 8 < L.length) :
    Calls Try.prog 3 #[.slice a0 L.length cap0, .int .i64 wk, .int .i64 way, .slice a3 l.length cap3, .int .i64 p] W fun e w' => e = .returned (.bool true) ∧ Below W.heap.size W w' := by
  have HF := Lib.hid (fact_least W)
  have H := Lib.hid h
  obtain ⟨n, hn⟩ : ∃ n, L.length = n := ⟨_, rfl⟩
  generalize l.length = n3
  rw [hn] at hl he ⊢
  have HN := Lib.hid hn
  clear h hn
  by_cases h0 : erL L wk = 0
  · obtain ⟨q1, q2, q3, q4, q5⟩ := erL_ok h0
    obtain ⟨m, rfl⟩ : ∃ m : Nat, wk = m := ⟨wk.toNat, by omega⟩
    have h8 : (n : Int) > 8 := by omega
    have HE := Lib.hid (fun (u : World) (hb : Below W.heap.size W u) => least_yes u a0 cap0 n m L (H.out.keep hb) HN.out.symm h0)
    clear he h0 q1 q2 q3 q4 q5
    go_enter Try.func3, Try.ntmps3
    go_wp2_with fail
    refine HF.out.mono ?_
    rintro e u ⟨g, rfl, h1, h2, h3, hb⟩
    have he := HE.out u hb
    have HB := Lib.hid hb
    clear hb
    go_wp2_with fail
    refine he.mono ?_
    rintro e w' ⟨C, rfl, k1, k2, k3, hb2⟩
    have HB2 := Lib.hid (below_after hb2 HB.out)
    clear hb2 k1 k2 k3 he h1 h2 h3
    go_wp2_with fail
    go_ret
    exact ⟨rfl, HB2.out⟩
  · have HE := Lib.hid (fun (u : World) (hb : Below W.heap.size W u) => least_no u a0 cap0 n wk L (H.out.keep hb) HN.out.symm (by omega) h0)
    obtain ⟨tv, htv⟩ := errV_ne h0
    rw [htv] at HE
    clear he h0 htv
    go_enter Try.func3, Try.ntmps3
    go_wp2_with fail
    refine HF.out.mono ?_
    rintro e u ⟨g, rfl, h1, h2, h3, hb⟩
    have he := HE.out u hb
    have HB := Lib.hid hb
    clear hb
    go_wp2_with fail
    refine he.mono ?_
    rintro e w' ⟨rfl, rfl⟩
    clear he h1 h2 h3
    go_wp2_with fail
    go_ret
    exact ⟨rfl, HB.out⟩
end
end Go.Proofs.Ytfkeokeedljomaa
