/-
  Whatever the three texts and the two numbers are, weirlaw1.ExprJoins returns true and leaves its arguments as they were: two expressions in brackets with an operator between come to what both come to, and so on. Condition: the listed variables of the library hold what their own initialisers lay (the tied card).
-/
import Derived.Test.YtdegibjfcjkgdabDoorRr
import Derived.Test.YtdegibjfcjkgdabDoorCards
import Derived.Test.YtdegibjfcjkgdabDoorTie
import Derived.SevenTiedAt
import Derived.ShutString
import Derived.ChangeOld
import Derived.SizedLaws
namespace Go.Proofs.YtdegibjfcjkgdabDoor
open Go.ChangeShapes Go.WideShapes Go.RowKit
open Go.ChangeMaps (open_string shut_string)
namespace exprJoins

theorem short_of {s : ByteArray} (h : s.data.toList.length ≤ reachBytes) : s.size ≤ 140737488355328 := by
  have h2 := reachBytes_lt
  have e1 : s.size = s.data.size := rfl
  have e2 : s.data.toList.length = s.data.size := Array.length_toList
  have e3 : (2 : Nat) ^ 47 = 140737488355328 := by decide
  omega

theorem e0 : ev 5 1 (.cond (.two 62 .vn (.num 3)) (.two 42 .vn (.num 2)) (.neg .vs)) = 10 := by decide
theorem gnum (d k : Nat) (s : List UInt8) (h : s ≠ []) (hd : ∀ c ∈ s, isDg c = true) (h0 : s.head? = some 48 → s = [48]) (hv : valFrom 0 s < 9223372036854775808) (hk : k ≤ 5) : Gr d k s (.num (valFrom 0 s)) := (Gr.num d s h hd h0 hv).down k hk (by omega)
theorem rd_fact : readP [110, 62, 51, 63, 110, 42, 50, 58, 45, 115] = .ok (.cond (.two 62 .vn (.num 3)) (.two 42 .vn (.num 2)) (.neg .vs)) [] :=
  read_of (by decide) (Gr.cond (d := 19) (a := [110, 62, 51]) (b := [110, 42, 50]) (c := [45, 115])
    (Gr.cmp (a := [110]) (b := [51]) 62 (by decide) ((Gr.vn 20).down 2 (by omega) (by omega)) (gnum 20 2 [51] (by simp) (by decide) (by decide) (by decide) (by omega)))
    ((Gr.mul (a := [110]) (b := [50]) 42 (by decide) ((Gr.vn 19).down 3 (by omega) (by omega)) (gnum 19 4 [50] (by simp) (by decide) (by decide) (by decide) (by omega))).down 0 (by omega) (by omega))
    ((Gr.neg ((Gr.vs 18).down 4 (by omega) (by omega))).down 0 (by omega) (by omega)))
theorem below_step {w w1 w2 : World} (h : Below w.heap.size w w1) (k : Below w1.heap.size w1 w2) : Below w.heap.size w w2 := h.trans (k.mono h.size)
theorem bool_true {b : Bool} (h : b = true) : Ending.returned (.bool b) = .returned (.bool true) := by rw [h]
theorem eval_gen {w : World} {x : ByteArray} (hg : Gl w) (hmax : x.size ≤ 9223372036854775807) (n s : Int) :
    Calls Tryd.prog 8 #[.string x, .int .i64 n, .int .i64 s] w fun e w' => ∃ (k : Int) (er : Value), e = .returned (.tuple #[.int .i64 k, er]) ∧ Below w.heap.size w w' := by
  refine (eval_any hg hmax n s).mono ?_
  rintro e w' ⟨rfl, hb⟩
  unfold evP
  split
  · exact ⟨_, _, rfl, hb⟩
  · exact ⟨_, _, rfl, hb⟩
theorem not_ok {r : Res} (h : ∀ t v, r ≠ .ok t v) : ∃ pl er, r = .bad pl er := by
  cases r with
  | ok t v => exact absurd rfl (h t v)
  | bad pl er => exact ⟨pl, er, rfl⟩
set_option maxRecDepth 100000 in
set_option maxHeartbeats 4000000 in
theorem long (a b c : ByteArray) (n s : Int) (w : World) (hg : Gl w) (ta tb tc : Tm) (Ha : Hid (readP a.data.toList = .ok ta [])) (Hb : Hid (readP b.data.toList = .ok tb [])) (Hc : Hid (readP c.data.toList = .ok tc [])) (x y z : Int) (EA : Hid (ev n s ta = x)) (EB : Hid (ev n s tb = y)) (EC : Hid (ev n s tc = z)) (ya : a.size ≤ 120) (yb : b.size ≤ 120) (yc : c.size ≤ 120) (hlen : 100 < a.size + b.size + c.size) :
    Calls Tryd.prog 4 #[.string a, .string b, .string c, .int .i64 n, .int .i64 s] w fun e w' => e = .returned (.bool true) ∧ Below w.heap.size w w' := by
  have za : a.size ≤ 140737488355328 := by omega
  have zb : b.size ≤ 140737488355328 := by omega
  have zc : c.size ≤ 140737488355328 := by omega
  have hlen' : (100 : Int) < (a.size : Int) + (b.size : Int) + (c.size : Int) := by omega
  go_enter Tryd.func4, Tryd.ntmps4
  go_wp2_with (go_at_call 8; refine (eval_ok (x := ⟨#[110, 62, 51, 63, 110, 42, 50, 58, 45, 115]⟩) rd_fact hg 5 1).mono ?_; rw [e0]; rintro e w1 ⟨rfl, b1⟩; have g1 := (hg).below b1; refine Hid.out ?_)
  refine Lib.hid ?_
  have B1 : Below w.heap.size w w1 := b1
  go_wp2_with (go_at_call 8; refine (eval_ok (x := _) Ha.out g1 n s).mono ?_; rw [EA.out]; rintro e w2 ⟨rfl, b2⟩; have g2 := (g1).below b2; refine Hid.out ?_)
  refine Lib.hid ?_
  have B2 : Below w.heap.size w w2 := below_step B1 b2
  go_wp2_with (go_at_call 8; refine (eval_ok (x := _) Hb.out g2 n s).mono ?_; rw [EB.out]; rintro e w3 ⟨rfl, b3⟩; have g3 := (g2).below b3; refine Hid.out ?_)
  refine Lib.hid ?_
  have B3 : Below w.heap.size w w3 := below_step B2 b3
  go_wp2_with (go_at_call 8; refine (eval_ok (x := _) Hc.out g3 n s).mono ?_; rw [EC.out]; rintro e w4 ⟨rfl, b4⟩; have g4 := (g3).below b4; refine Hid.out ?_)
  refine Lib.hid ?_
  have B4 : Below w.heap.size w w4 := below_step B3 b4
  go_wp2_with fail
  all_goals
    go_ret
    refine ⟨?_, B4⟩
  all_goals first | rfl | exact bool_true (by simp <;> omega)

set_option maxRecDepth 100000 in
set_option maxHeartbeats 4000000 in
theorem pq_lt_z (a b c : ByteArray) (n s : Int) (w : World) (hg : Gl w) (ta tb tc : Tm) (Ha : Hid (readP a.data.toList = .ok ta [])) (Hb : Hid (readP b.data.toList = .ok tb [])) (Hc : Hid (readP c.data.toList = .ok tc [])) (x y z : Int) (EA : Hid (ev n s ta = x)) (EB : Hid (ev n s tb = y)) (EC : Hid (ev n s tc = z)) (ya : a.size ≤ 120) (yb : b.size ≤ 120) (yc : c.size ≤ 120) (hlen : ¬ 100 < a.size + b.size + c.size) (Hj : Hid (readP (⟨#[40]⟩ ++ a ++ ⟨#[41, 43, 40]⟩ ++ b ++ ⟨#[41]⟩ : ByteArray).data.toList = .ok (.two 43 ta tb) [])) (Hk : Hid (readP (⟨#[40]⟩ ++ a ++ ⟨#[41, 42, 40]⟩ ++ b ++ ⟨#[41]⟩ : ByteArray).data.toList = .ok (.two 42 ta tb) [])) (Hl : Hid (readP (⟨#[40]⟩ ++ a ++ ⟨#[41, 60, 40]⟩ ++ b ++ ⟨#[41]⟩ : ByteArray).data.toList = .ok (.two 60 ta tb) [])) (Hm : Hid (readP (⟨#[109, 105, 110, 40]⟩ ++ a ++ ⟨#[44]⟩ ++ b ++ ⟨#[41]⟩ : ByteArray).data.toList = .ok (.two 109 ta tb) [])) (Hx : Hid (readP (⟨#[109, 97, 120, 40]⟩ ++ a ++ ⟨#[44]⟩ ++ b ++ ⟨#[41]⟩ : ByteArray).data.toList = .ok (.two 77 ta tb) [])) (Hq : Hid (readP (⟨#[40]⟩ ++ a ++ ⟨#[41, 63, 40]⟩ ++ b ++ ⟨#[41, 58, 40]⟩ ++ c ++ ⟨#[41]⟩ : ByteArray).data.toList = .ok (.cond ta tb tc) [])) (hlt : x < y) (hz : x = 0) :
    Calls Tryd.prog 4 #[.string a, .string b, .string c, .int .i64 n, .int .i64 s] w fun e w' => e = .returned (.bool true) ∧ Below w.heap.size w w' := by
  have za : a.size ≤ 140737488355328 := by omega
  have zb : b.size ≤ 140737488355328 := by omega
  have zc : c.size ≤ 140737488355328 := by omega
  have hlen' : ¬ (100 : Int) < (a.size : Int) + (b.size : Int) + (c.size : Int) := by omega
  have E1 : Hid (ev n s (.two 43 ta tb) = wrap64 (x + y)) := by show of2 43 _ _ = _; rw [EA.out, EB.out, wr_eq]; rfl
  have E2 : Hid (ev n s (.two 42 ta tb) = wrap64 (x * y)) := by show of2 42 _ _ = _; rw [EA.out, EB.out, wr_eq]; rfl
  have E3 : Hid (ev n s (.two 60 ta tb) = 1) := by show of2 60 _ _ = _; rw [EA.out, EB.out]; simp [of2, hlt]
  have E5 : Hid (ev n s (.two 109 ta tb) = x) := by show of2 109 _ _ = _; rw [EA.out, EB.out]; simp [of2, hlt]
  have E6 : Hid (ev n s (.two 77 ta tb) = y) := by show of2 77 _ _ = _; rw [EA.out, EB.out]; simp [of2]; omega
  have hle : x ≤ y := by omega
  have E4 : Hid (ev n s (.cond ta tb tc) = z) := by show (if ev n s ta ≠ 0 then _ else _) = _; rw [EA.out, EB.out, EC.out]; simp [hz]
  have hz1 : (x == 0) = true := by simp [hz]
  have hz2 : (x != 0) = false := by simp [hz]
  clear hz
  go_enter Tryd.func4, Tryd.ntmps4
  go_wp2_with (go_at_call 8; refine (eval_ok (x := ⟨#[110, 62, 51, 63, 110, 42, 50, 58, 45, 115]⟩) rd_fact hg 5 1).mono ?_; rw [e0]; rintro e w1 ⟨rfl, b1⟩; have g1 := (hg).below b1; refine Hid.out ?_)
  refine Lib.hid ?_
  have B1 : Below w.heap.size w w1 := b1
  go_wp2_with (go_at_call 8; refine (eval_ok (x := _) Ha.out g1 n s).mono ?_; rw [EA.out]; rintro e w2 ⟨rfl, b2⟩; have g2 := (g1).below b2; refine Hid.out ?_)
  refine Lib.hid ?_
  have B2 : Below w.heap.size w w2 := below_step B1 b2
  go_wp2_with (go_at_call 8; refine (eval_ok (x := _) Hb.out g2 n s).mono ?_; rw [EB.out]; rintro e w3 ⟨rfl, b3⟩; have g3 := (g2).below b3; refine Hid.out ?_)
  refine Lib.hid ?_
  have B3 : Below w.heap.size w w3 := below_step B2 b3
  go_wp2_with (go_at_call 8; refine (eval_ok (x := _) Hc.out g3 n s).mono ?_; rw [EC.out]; rintro e w4 ⟨rfl, b4⟩; have g4 := (g3).below b4; refine Hid.out ?_)
  refine Lib.hid ?_
  have B4 : Below w.heap.size w w4 := below_step B3 b4
  go_wp2_with (go_at_call 8; refine (eval_ok (x := _) Hj.out g4 n s).mono ?_; rw [E1.out]; rintro e w5 ⟨rfl, b5⟩; have g5 := (g4).below b5; refine Hid.out ?_)
  refine Lib.hid ?_
  have B5 : Below w.heap.size w w5 := below_step B4 b5
  go_wp2_with (go_at_call 8; refine (eval_ok (x := _) Hk.out g5 n s).mono ?_; rw [E2.out]; rintro e w6 ⟨rfl, b6⟩; have g6 := (g5).below b6; refine Hid.out ?_)
  refine Lib.hid ?_
  have B6 : Below w.heap.size w w6 := below_step B5 b6
  go_wp2_with (go_at_call 8; refine (eval_ok (x := _) Hl.out g6 n s).mono ?_; rw [E3.out]; rintro e w7 ⟨rfl, b7⟩; have g7 := (g6).below b7; refine Hid.out ?_)
  refine Lib.hid ?_
  have B7 : Below w.heap.size w w7 := below_step B6 b7
  go_wp2_with (go_at_call 8; refine (eval_ok (x := _) Hq.out g7 n s).mono ?_; rw [E4.out]; rintro e w8 ⟨rfl, b8⟩; have g8 := (g7).below b8; refine Hid.out ?_)
  refine Lib.hid ?_
  have B8 : Below w.heap.size w w8 := below_step B7 b8
  go_wp2_with (go_at_call 8; refine (eval_ok (x := _) Hm.out g8 n s).mono ?_; rw [E5.out]; rintro e w9 ⟨rfl, b9⟩; have g9 := (g8).below b9; refine Hid.out ?_)
  refine Lib.hid ?_
  have B9 : Below w.heap.size w w9 := below_step B8 b9
  go_wp2_with (go_at_call 8; refine (eval_ok (x := _) Hx.out g9 n s).mono ?_; rw [E6.out]; rintro e w10 ⟨rfl, b10⟩; have g10 := (g9).below b10; refine Hid.out ?_)
  refine Lib.hid ?_
  have B10 : Below w.heap.size w w10 := below_step B9 b10
  go_wp2_with fail
  all_goals
    go_ret
    refine ⟨?_, B10⟩
  all_goals first | rfl | exact bool_true (by simp <;> omega)

set_option maxRecDepth 100000 in
set_option maxHeartbeats 4000000 in
theorem pq_lt_n (a b c : ByteArray) (n s : Int) (w : World) (hg : Gl w) (ta tb tc : Tm) (Ha : Hid (readP a.data.toList = .ok ta [])) (Hb : Hid (readP b.data.toList = .ok tb [])) (Hc : Hid (readP c.data.toList = .ok tc [])) (x y z : Int) (EA : Hid (ev n s ta = x)) (EB : Hid (ev n s tb = y)) (EC : Hid (ev n s tc = z)) (ya : a.size ≤ 120) (yb : b.size ≤ 120) (yc : c.size ≤ 120) (hlen : ¬ 100 < a.size + b.size + c.size) (Hj : Hid (readP (⟨#[40]⟩ ++ a ++ ⟨#[41, 43, 40]⟩ ++ b ++ ⟨#[41]⟩ : ByteArray).data.toList = .ok (.two 43 ta tb) [])) (Hk : Hid (readP (⟨#[40]⟩ ++ a ++ ⟨#[41, 42, 40]⟩ ++ b ++ ⟨#[41]⟩ : ByteArray).data.toList = .ok (.two 42 ta tb) [])) (Hl : Hid (readP (⟨#[40]⟩ ++ a ++ ⟨#[41, 60, 40]⟩ ++ b ++ ⟨#[41]⟩ : ByteArray).data.toList = .ok (.two 60 ta tb) [])) (Hm : Hid (readP (⟨#[109, 105, 110, 40]⟩ ++ a ++ ⟨#[44]⟩ ++ b ++ ⟨#[41]⟩ : ByteArray).data.toList = .ok (.two 109 ta tb) [])) (Hx : Hid (readP (⟨#[109, 97, 120, 40]⟩ ++ a ++ ⟨#[44]⟩ ++ b ++ ⟨#[41]⟩ : ByteArray).data.toList = .ok (.two 77 ta tb) [])) (Hq : Hid (readP (⟨#[40]⟩ ++ a ++ ⟨#[41, 63, 40]⟩ ++ b ++ ⟨#[41, 58, 40]⟩ ++ c ++ ⟨#[41]⟩ : ByteArray).data.toList = .ok (.cond ta tb tc) [])) (hlt : x < y) (hz : ¬ x = 0) :
    Calls Tryd.prog 4 #[.string a, .string b, .string c, .int .i64 n, .int .i64 s] w fun e w' => e = .returned (.bool true) ∧ Below w.heap.size w w' := by
  have za : a.size ≤ 140737488355328 := by omega
  have zb : b.size ≤ 140737488355328 := by omega
  have zc : c.size ≤ 140737488355328 := by omega
  have hlen' : ¬ (100 : Int) < (a.size : Int) + (b.size : Int) + (c.size : Int) := by omega
  have E1 : Hid (ev n s (.two 43 ta tb) = wrap64 (x + y)) := by show of2 43 _ _ = _; rw [EA.out, EB.out, wr_eq]; rfl
  have E2 : Hid (ev n s (.two 42 ta tb) = wrap64 (x * y)) := by show of2 42 _ _ = _; rw [EA.out, EB.out, wr_eq]; rfl
  have E3 : Hid (ev n s (.two 60 ta tb) = 1) := by show of2 60 _ _ = _; rw [EA.out, EB.out]; simp [of2, hlt]
  have E5 : Hid (ev n s (.two 109 ta tb) = x) := by show of2 109 _ _ = _; rw [EA.out, EB.out]; simp [of2, hlt]
  have E6 : Hid (ev n s (.two 77 ta tb) = y) := by show of2 77 _ _ = _; rw [EA.out, EB.out]; simp [of2]; omega
  have hle : x ≤ y := by omega
  have E4 : Hid (ev n s (.cond ta tb tc) = y) := by show (if ev n s ta ≠ 0 then _ else _) = _; rw [EA.out, EB.out, EC.out]; simp [hz]
  go_enter Tryd.func4, Tryd.ntmps4
  go_wp2_with (go_at_call 8; refine (eval_ok (x := ⟨#[110, 62, 51, 63, 110, 42, 50, 58, 45, 115]⟩) rd_fact hg 5 1).mono ?_; rw [e0]; rintro e w1 ⟨rfl, b1⟩; have g1 := (hg).below b1; refine Hid.out ?_)
  refine Lib.hid ?_
  have B1 : Below w.heap.size w w1 := b1
  go_wp2_with (go_at_call 8; refine (eval_ok (x := _) Ha.out g1 n s).mono ?_; rw [EA.out]; rintro e w2 ⟨rfl, b2⟩; have g2 := (g1).below b2; refine Hid.out ?_)
  refine Lib.hid ?_
  have B2 : Below w.heap.size w w2 := below_step B1 b2
  go_wp2_with (go_at_call 8; refine (eval_ok (x := _) Hb.out g2 n s).mono ?_; rw [EB.out]; rintro e w3 ⟨rfl, b3⟩; have g3 := (g2).below b3; refine Hid.out ?_)
  refine Lib.hid ?_
  have B3 : Below w.heap.size w w3 := below_step B2 b3
  go_wp2_with (go_at_call 8; refine (eval_ok (x := _) Hc.out g3 n s).mono ?_; rw [EC.out]; rintro e w4 ⟨rfl, b4⟩; have g4 := (g3).below b4; refine Hid.out ?_)
  refine Lib.hid ?_
  have B4 : Below w.heap.size w w4 := below_step B3 b4
  go_wp2_with (go_at_call 8; refine (eval_ok (x := _) Hj.out g4 n s).mono ?_; rw [E1.out]; rintro e w5 ⟨rfl, b5⟩; have g5 := (g4).below b5; refine Hid.out ?_)
  refine Lib.hid ?_
  have B5 : Below w.heap.size w w5 := below_step B4 b5
  go_wp2_with (go_at_call 8; refine (eval_ok (x := _) Hk.out g5 n s).mono ?_; rw [E2.out]; rintro e w6 ⟨rfl, b6⟩; have g6 := (g5).below b6; refine Hid.out ?_)
  refine Lib.hid ?_
  have B6 : Below w.heap.size w w6 := below_step B5 b6
  go_wp2_with (go_at_call 8; refine (eval_ok (x := _) Hl.out g6 n s).mono ?_; rw [E3.out]; rintro e w7 ⟨rfl, b7⟩; have g7 := (g6).below b7; refine Hid.out ?_)
  refine Lib.hid ?_
  have B7 : Below w.heap.size w w7 := below_step B6 b7
  go_wp2_with (go_at_call 8; refine (eval_ok (x := _) Hq.out g7 n s).mono ?_; rw [E4.out]; rintro e w8 ⟨rfl, b8⟩; have g8 := (g7).below b8; refine Hid.out ?_)
  refine Lib.hid ?_
  have B8 : Below w.heap.size w w8 := below_step B7 b8
  go_wp2_with (go_at_call 8; refine (eval_ok (x := _) Hm.out g8 n s).mono ?_; rw [E5.out]; rintro e w9 ⟨rfl, b9⟩; have g9 := (g8).below b9; refine Hid.out ?_)
  refine Lib.hid ?_
  have B9 : Below w.heap.size w w9 := below_step B8 b9
  go_wp2_with (go_at_call 8; refine (eval_ok (x := _) Hx.out g9 n s).mono ?_; rw [E6.out]; rintro e w10 ⟨rfl, b10⟩; have g10 := (g9).below b10; refine Hid.out ?_)
  refine Lib.hid ?_
  have B10 : Below w.heap.size w w10 := below_step B9 b10
  go_wp2_with fail
  all_goals
    go_ret
    refine ⟨?_, B10⟩
  all_goals first | rfl | exact bool_true (by simp <;> omega)

set_option maxRecDepth 100000 in
set_option maxHeartbeats 4000000 in
theorem p_lt (a b c : ByteArray) (n s : Int) (w : World) (hg : Gl w) (ta tb tc : Tm) (Ha : Hid (readP a.data.toList = .ok ta [])) (Hb : Hid (readP b.data.toList = .ok tb [])) (Hc : Hid (readP c.data.toList = .ok tc [])) (x y z : Int) (EA : Hid (ev n s ta = x)) (EB : Hid (ev n s tb = y)) (EC : Hid (ev n s tc = z)) (ya : a.size ≤ 120) (yb : b.size ≤ 120) (yc : c.size ≤ 120) (hlen : ¬ 100 < a.size + b.size + c.size) (Hj : Hid (readP (⟨#[40]⟩ ++ a ++ ⟨#[41, 43, 40]⟩ ++ b ++ ⟨#[41]⟩ : ByteArray).data.toList = .ok (.two 43 ta tb) [])) (Hk : Hid (readP (⟨#[40]⟩ ++ a ++ ⟨#[41, 42, 40]⟩ ++ b ++ ⟨#[41]⟩ : ByteArray).data.toList = .ok (.two 42 ta tb) [])) (Hl : Hid (readP (⟨#[40]⟩ ++ a ++ ⟨#[41, 60, 40]⟩ ++ b ++ ⟨#[41]⟩ : ByteArray).data.toList = .ok (.two 60 ta tb) [])) (Hm : Hid (readP (⟨#[109, 105, 110, 40]⟩ ++ a ++ ⟨#[44]⟩ ++ b ++ ⟨#[41]⟩ : ByteArray).data.toList = .ok (.two 109 ta tb) [])) (Hx : Hid (readP (⟨#[109, 97, 120, 40]⟩ ++ a ++ ⟨#[44]⟩ ++ b ++ ⟨#[41]⟩ : ByteArray).data.toList = .ok (.two 77 ta tb) [])) (q1 q2 : Nat) (Hq : Hid (readP (⟨#[40]⟩ ++ a ++ ⟨#[41, 63, 40]⟩ ++ b ++ ⟨#[41, 58, 40]⟩ ++ c ++ ⟨#[41]⟩ : ByteArray).data.toList = .bad q1 q2)) (hlt : x < y) :
    Calls Tryd.prog 4 #[.string a, .string b, .string c, .int .i64 n, .int .i64 s] w fun e w' => e = .returned (.bool true) ∧ Below w.heap.size w w' := by
  have za : a.size ≤ 140737488355328 := by omega
  have zb : b.size ≤ 140737488355328 := by omega
  have zc : c.size ≤ 140737488355328 := by omega
  have hlen' : ¬ (100 : Int) < (a.size : Int) + (b.size : Int) + (c.size : Int) := by omega
  have E1 : Hid (ev n s (.two 43 ta tb) = wrap64 (x + y)) := by show of2 43 _ _ = _; rw [EA.out, EB.out, wr_eq]; rfl
  have E2 : Hid (ev n s (.two 42 ta tb) = wrap64 (x * y)) := by show of2 42 _ _ = _; rw [EA.out, EB.out, wr_eq]; rfl
  have E3 : Hid (ev n s (.two 60 ta tb) = 1) := by show of2 60 _ _ = _; rw [EA.out, EB.out]; simp [of2, hlt]
  have E5 : Hid (ev n s (.two 109 ta tb) = x) := by show of2 109 _ _ = _; rw [EA.out, EB.out]; simp [of2, hlt]
  have E6 : Hid (ev n s (.two 77 ta tb) = y) := by show of2 77 _ _ = _; rw [EA.out, EB.out]; simp [of2]; omega
  have hle : x ≤ y := by omega
  go_enter Tryd.func4, Tryd.ntmps4
  go_wp2_with (go_at_call 8; refine (eval_ok (x := ⟨#[110, 62, 51, 63, 110, 42, 50, 58, 45, 115]⟩) rd_fact hg 5 1).mono ?_; rw [e0]; rintro e w1 ⟨rfl, b1⟩; have g1 := (hg).below b1; refine Hid.out ?_)
  refine Lib.hid ?_
  have B1 : Below w.heap.size w w1 := b1
  go_wp2_with (go_at_call 8; refine (eval_ok (x := _) Ha.out g1 n s).mono ?_; rw [EA.out]; rintro e w2 ⟨rfl, b2⟩; have g2 := (g1).below b2; refine Hid.out ?_)
  refine Lib.hid ?_
  have B2 : Below w.heap.size w w2 := below_step B1 b2
  go_wp2_with (go_at_call 8; refine (eval_ok (x := _) Hb.out g2 n s).mono ?_; rw [EB.out]; rintro e w3 ⟨rfl, b3⟩; have g3 := (g2).below b3; refine Hid.out ?_)
  refine Lib.hid ?_
  have B3 : Below w.heap.size w w3 := below_step B2 b3
  go_wp2_with (go_at_call 8; refine (eval_ok (x := _) Hc.out g3 n s).mono ?_; rw [EC.out]; rintro e w4 ⟨rfl, b4⟩; have g4 := (g3).below b4; refine Hid.out ?_)
  refine Lib.hid ?_
  have B4 : Below w.heap.size w w4 := below_step B3 b4
  go_wp2_with (go_at_call 8; refine (eval_ok (x := _) Hj.out g4 n s).mono ?_; rw [E1.out]; rintro e w5 ⟨rfl, b5⟩; have g5 := (g4).below b5; refine Hid.out ?_)
  refine Lib.hid ?_
  have B5 : Below w.heap.size w w5 := below_step B4 b5
  go_wp2_with (go_at_call 8; refine (eval_ok (x := _) Hk.out g5 n s).mono ?_; rw [E2.out]; rintro e w6 ⟨rfl, b6⟩; have g6 := (g5).below b6; refine Hid.out ?_)
  refine Lib.hid ?_
  have B6 : Below w.heap.size w w6 := below_step B5 b6
  go_wp2_with (go_at_call 8; refine (eval_ok (x := _) Hl.out g6 n s).mono ?_; rw [E3.out]; rintro e w7 ⟨rfl, b7⟩; have g7 := (g6).below b7; refine Hid.out ?_)
  refine Lib.hid ?_
  have B7 : Below w.heap.size w w7 := below_step B6 b7
  go_wp2_with (go_at_call 8; refine (eval_bad (x := _) Hq.out g7 (C_le za zb zc) n s).mono ?_; rintro e w8 ⟨rfl, b8⟩; have g8 := (g7).below b8; refine Hid.out ?_)
  refine Lib.hid ?_
  have B8 : Below w.heap.size w w8 := below_step B7 b8
  go_wp2_with (go_at_call 8; refine (eval_ok (x := _) Hm.out g8 n s).mono ?_; rw [E5.out]; rintro e w9 ⟨rfl, b9⟩; have g9 := (g8).below b9; refine Hid.out ?_)
  refine Lib.hid ?_
  have B9 : Below w.heap.size w w9 := below_step B8 b9
  go_wp2_with (go_at_call 8; refine (eval_ok (x := _) Hx.out g9 n s).mono ?_; rw [E6.out]; rintro e w10 ⟨rfl, b10⟩; have g10 := (g9).below b10; refine Hid.out ?_)
  refine Lib.hid ?_
  have B10 : Below w.heap.size w w10 := below_step B9 b10
  go_wp2_with fail
  all_goals
    go_ret
    refine ⟨?_, B10⟩
  all_goals first | rfl | exact bool_true (by simp <;> omega)

set_option maxRecDepth 100000 in
set_option maxHeartbeats 4000000 in
theorem pq_ge_z (a b c : ByteArray) (n s : Int) (w : World) (hg : Gl w) (ta tb tc : Tm) (Ha : Hid (readP a.data.toList = .ok ta [])) (Hb : Hid (readP b.data.toList = .ok tb [])) (Hc : Hid (readP c.data.toList = .ok tc [])) (x y z : Int) (EA : Hid (ev n s ta = x)) (EB : Hid (ev n s tb = y)) (EC : Hid (ev n s tc = z)) (ya : a.size ≤ 120) (yb : b.size ≤ 120) (yc : c.size ≤ 120) (hlen : ¬ 100 < a.size + b.size + c.size) (Hj : Hid (readP (⟨#[40]⟩ ++ a ++ ⟨#[41, 43, 40]⟩ ++ b ++ ⟨#[41]⟩ : ByteArray).data.toList = .ok (.two 43 ta tb) [])) (Hk : Hid (readP (⟨#[40]⟩ ++ a ++ ⟨#[41, 42, 40]⟩ ++ b ++ ⟨#[41]⟩ : ByteArray).data.toList = .ok (.two 42 ta tb) [])) (Hl : Hid (readP (⟨#[40]⟩ ++ a ++ ⟨#[41, 60, 40]⟩ ++ b ++ ⟨#[41]⟩ : ByteArray).data.toList = .ok (.two 60 ta tb) [])) (Hm : Hid (readP (⟨#[109, 105, 110, 40]⟩ ++ a ++ ⟨#[44]⟩ ++ b ++ ⟨#[41]⟩ : ByteArray).data.toList = .ok (.two 109 ta tb) [])) (Hx : Hid (readP (⟨#[109, 97, 120, 40]⟩ ++ a ++ ⟨#[44]⟩ ++ b ++ ⟨#[41]⟩ : ByteArray).data.toList = .ok (.two 77 ta tb) [])) (Hq : Hid (readP (⟨#[40]⟩ ++ a ++ ⟨#[41, 63, 40]⟩ ++ b ++ ⟨#[41, 58, 40]⟩ ++ c ++ ⟨#[41]⟩ : ByteArray).data.toList = .ok (.cond ta tb tc) [])) (hlt : ¬ x < y) (hz : x = 0) :
    Calls Tryd.prog 4 #[.string a, .string b, .string c, .int .i64 n, .int .i64 s] w fun e w' => e = .returned (.bool true) ∧ Below w.heap.size w w' := by
  have za : a.size ≤ 140737488355328 := by omega
  have zb : b.size ≤ 140737488355328 := by omega
  have zc : c.size ≤ 140737488355328 := by omega
  have hlen' : ¬ (100 : Int) < (a.size : Int) + (b.size : Int) + (c.size : Int) := by omega
  have E1 : Hid (ev n s (.two 43 ta tb) = wrap64 (x + y)) := by show of2 43 _ _ = _; rw [EA.out, EB.out, wr_eq]; rfl
  have E2 : Hid (ev n s (.two 42 ta tb) = wrap64 (x * y)) := by show of2 42 _ _ = _; rw [EA.out, EB.out, wr_eq]; rfl
  have E3 : Hid (ev n s (.two 60 ta tb) = 0) := by show of2 60 _ _ = _; rw [EA.out, EB.out]; simp [of2, hlt]
  have E5 : Hid (ev n s (.two 109 ta tb) = y) := by show of2 109 _ _ = _; rw [EA.out, EB.out]; simp [of2, hlt]
  have E6 : Hid (ev n s (.two 77 ta tb) = x) := by show of2 77 _ _ = _; rw [EA.out, EB.out]; simp [of2]; omega
  have hle : y ≤ x := by omega
  have E4 : Hid (ev n s (.cond ta tb tc) = z) := by show (if ev n s ta ≠ 0 then _ else _) = _; rw [EA.out, EB.out, EC.out]; simp [hz]
  have hz1 : (x == 0) = true := by simp [hz]
  have hz2 : (x != 0) = false := by simp [hz]
  clear hz
  go_enter Tryd.func4, Tryd.ntmps4
  go_wp2_with (go_at_call 8; refine (eval_ok (x := ⟨#[110, 62, 51, 63, 110, 42, 50, 58, 45, 115]⟩) rd_fact hg 5 1).mono ?_; rw [e0]; rintro e w1 ⟨rfl, b1⟩; have g1 := (hg).below b1; refine Hid.out ?_)
  refine Lib.hid ?_
  have B1 : Below w.heap.size w w1 := b1
  go_wp2_with (go_at_call 8; refine (eval_ok (x := _) Ha.out g1 n s).mono ?_; rw [EA.out]; rintro e w2 ⟨rfl, b2⟩; have g2 := (g1).below b2; refine Hid.out ?_)
  refine Lib.hid ?_
  have B2 : Below w.heap.size w w2 := below_step B1 b2
  go_wp2_with (go_at_call 8; refine (eval_ok (x := _) Hb.out g2 n s).mono ?_; rw [EB.out]; rintro e w3 ⟨rfl, b3⟩; have g3 := (g2).below b3; refine Hid.out ?_)
  refine Lib.hid ?_
  have B3 : Below w.heap.size w w3 := below_step B2 b3
  go_wp2_with (go_at_call 8; refine (eval_ok (x := _) Hc.out g3 n s).mono ?_; rw [EC.out]; rintro e w4 ⟨rfl, b4⟩; have g4 := (g3).below b4; refine Hid.out ?_)
  refine Lib.hid ?_
  have B4 : Below w.heap.size w w4 := below_step B3 b4
  go_wp2_with (go_at_call 8; refine (eval_ok (x := _) Hj.out g4 n s).mono ?_; rw [E1.out]; rintro e w5 ⟨rfl, b5⟩; have g5 := (g4).below b5; refine Hid.out ?_)
  refine Lib.hid ?_
  have B5 : Below w.heap.size w w5 := below_step B4 b5
  go_wp2_with (go_at_call 8; refine (eval_ok (x := _) Hk.out g5 n s).mono ?_; rw [E2.out]; rintro e w6 ⟨rfl, b6⟩; have g6 := (g5).below b6; refine Hid.out ?_)
  refine Lib.hid ?_
  have B6 : Below w.heap.size w w6 := below_step B5 b6
  go_wp2_with (go_at_call 8; refine (eval_ok (x := _) Hl.out g6 n s).mono ?_; rw [E3.out]; rintro e w7 ⟨rfl, b7⟩; have g7 := (g6).below b7; refine Hid.out ?_)
  refine Lib.hid ?_
  have B7 : Below w.heap.size w w7 := below_step B6 b7
  go_wp2_with (go_at_call 8; refine (eval_ok (x := _) Hq.out g7 n s).mono ?_; rw [E4.out]; rintro e w8 ⟨rfl, b8⟩; have g8 := (g7).below b8; refine Hid.out ?_)
  refine Lib.hid ?_
  have B8 : Below w.heap.size w w8 := below_step B7 b8
  go_wp2_with (go_at_call 8; refine (eval_ok (x := _) Hm.out g8 n s).mono ?_; rw [E5.out]; rintro e w9 ⟨rfl, b9⟩; have g9 := (g8).below b9; refine Hid.out ?_)
  refine Lib.hid ?_
  have B9 : Below w.heap.size w w9 := below_step B8 b9
  go_wp2_with (go_at_call 8; refine (eval_ok (x := _) Hx.out g9 n s).mono ?_; rw [E6.out]; rintro e w10 ⟨rfl, b10⟩; have g10 := (g9).below b10; refine Hid.out ?_)
  refine Lib.hid ?_
  have B10 : Below w.heap.size w w10 := below_step B9 b10
  go_wp2_with fail
  all_goals
    go_ret
    refine ⟨?_, B10⟩
  all_goals first | rfl | exact bool_true (by simp <;> omega)

set_option maxRecDepth 100000 in
set_option maxHeartbeats 4000000 in
theorem pq_ge_n (a b c : ByteArray) (n s : Int) (w : World) (hg : Gl w) (ta tb tc : Tm) (Ha : Hid (readP a.data.toList = .ok ta [])) (Hb : Hid (readP b.data.toList = .ok tb [])) (Hc : Hid (readP c.data.toList = .ok tc [])) (x y z : Int) (EA : Hid (ev n s ta = x)) (EB : Hid (ev n s tb = y)) (EC : Hid (ev n s tc = z)) (ya : a.size ≤ 120) (yb : b.size ≤ 120) (yc : c.size ≤ 120) (hlen : ¬ 100 < a.size + b.size + c.size) (Hj : Hid (readP (⟨#[40]⟩ ++ a ++ ⟨#[41, 43, 40]⟩ ++ b ++ ⟨#[41]⟩ : ByteArray).data.toList = .ok (.two 43 ta tb) [])) (Hk : Hid (readP (⟨#[40]⟩ ++ a ++ ⟨#[41, 42, 40]⟩ ++ b ++ ⟨#[41]⟩ : ByteArray).data.toList = .ok (.two 42 ta tb) [])) (Hl : Hid (readP (⟨#[40]⟩ ++ a ++ ⟨#[41, 60, 40]⟩ ++ b ++ ⟨#[41]⟩ : ByteArray).data.toList = .ok (.two 60 ta tb) [])) (Hm : Hid (readP (⟨#[109, 105, 110, 40]⟩ ++ a ++ ⟨#[44]⟩ ++ b ++ ⟨#[41]⟩ : ByteArray).data.toList = .ok (.two 109 ta tb) [])) (Hx : Hid (readP (⟨#[109, 97, 120, 40]⟩ ++ a ++ ⟨#[44]⟩ ++ b ++ ⟨#[41]⟩ : ByteArray).data.toList = .ok (.two 77 ta tb) [])) (Hq : Hid (readP (⟨#[40]⟩ ++ a ++ ⟨#[41, 63, 40]⟩ ++ b ++ ⟨#[41, 58, 40]⟩ ++ c ++ ⟨#[41]⟩ : ByteArray).data.toList = .ok (.cond ta tb tc) [])) (hlt : ¬ x < y) (hz : ¬ x = 0) :
    Calls Tryd.prog 4 #[.string a, .string b, .string c, .int .i64 n, .int .i64 s] w fun e w' => e = .returned (.bool true) ∧ Below w.heap.size w w' := by
  have za : a.size ≤ 140737488355328 := by omega
  have zb : b.size ≤ 140737488355328 := by omega
  have zc : c.size ≤ 140737488355328 := by omega
  have hlen' : ¬ (100 : Int) < (a.size : Int) + (b.size : Int) + (c.size : Int) := by omega
  have E1 : Hid (ev n s (.two 43 ta tb) = wrap64 (x + y)) := by show of2 43 _ _ = _; rw [EA.out, EB.out, wr_eq]; rfl
  have E2 : Hid (ev n s (.two 42 ta tb) = wrap64 (x * y)) := by show of2 42 _ _ = _; rw [EA.out, EB.out, wr_eq]; rfl
  have E3 : Hid (ev n s (.two 60 ta tb) = 0) := by show of2 60 _ _ = _; rw [EA.out, EB.out]; simp [of2, hlt]
  have E5 : Hid (ev n s (.two 109 ta tb) = y) := by show of2 109 _ _ = _; rw [EA.out, EB.out]; simp [of2, hlt]
  have E6 : Hid (ev n s (.two 77 ta tb) = x) := by show of2 77 _ _ = _; rw [EA.out, EB.out]; simp [of2]; omega
  have hle : y ≤ x := by omega
  have E4 : Hid (ev n s (.cond ta tb tc) = y) := by show (if ev n s ta ≠ 0 then _ else _) = _; rw [EA.out, EB.out, EC.out]; simp [hz]
  go_enter Tryd.func4, Tryd.ntmps4
  go_wp2_with (go_at_call 8; refine (eval_ok (x := ⟨#[110, 62, 51, 63, 110, 42, 50, 58, 45, 115]⟩) rd_fact hg 5 1).mono ?_; rw [e0]; rintro e w1 ⟨rfl, b1⟩; have g1 := (hg).below b1; refine Hid.out ?_)
  refine Lib.hid ?_
  have B1 : Below w.heap.size w w1 := b1
  go_wp2_with (go_at_call 8; refine (eval_ok (x := _) Ha.out g1 n s).mono ?_; rw [EA.out]; rintro e w2 ⟨rfl, b2⟩; have g2 := (g1).below b2; refine Hid.out ?_)
  refine Lib.hid ?_
  have B2 : Below w.heap.size w w2 := below_step B1 b2
  go_wp2_with (go_at_call 8; refine (eval_ok (x := _) Hb.out g2 n s).mono ?_; rw [EB.out]; rintro e w3 ⟨rfl, b3⟩; have g3 := (g2).below b3; refine Hid.out ?_)
  refine Lib.hid ?_
  have B3 : Below w.heap.size w w3 := below_step B2 b3
  go_wp2_with (go_at_call 8; refine (eval_ok (x := _) Hc.out g3 n s).mono ?_; rw [EC.out]; rintro e w4 ⟨rfl, b4⟩; have g4 := (g3).below b4; refine Hid.out ?_)
  refine Lib.hid ?_
  have B4 : Below w.heap.size w w4 := below_step B3 b4
  go_wp2_with (go_at_call 8; refine (eval_ok (x := _) Hj.out g4 n s).mono ?_; rw [E1.out]; rintro e w5 ⟨rfl, b5⟩; have g5 := (g4).below b5; refine Hid.out ?_)
  refine Lib.hid ?_
  have B5 : Below w.heap.size w w5 := below_step B4 b5
  go_wp2_with (go_at_call 8; refine (eval_ok (x := _) Hk.out g5 n s).mono ?_; rw [E2.out]; rintro e w6 ⟨rfl, b6⟩; have g6 := (g5).below b6; refine Hid.out ?_)
  refine Lib.hid ?_
  have B6 : Below w.heap.size w w6 := below_step B5 b6
  go_wp2_with (go_at_call 8; refine (eval_ok (x := _) Hl.out g6 n s).mono ?_; rw [E3.out]; rintro e w7 ⟨rfl, b7⟩; have g7 := (g6).below b7; refine Hid.out ?_)
  refine Lib.hid ?_
  have B7 : Below w.heap.size w w7 := below_step B6 b7
  go_wp2_with (go_at_call 8; refine (eval_ok (x := _) Hq.out g7 n s).mono ?_; rw [E4.out]; rintro e w8 ⟨rfl, b8⟩; have g8 := (g7).below b8; refine Hid.out ?_)
  refine Lib.hid ?_
  have B8 : Below w.heap.size w w8 := below_step B7 b8
  go_wp2_with (go_at_call 8; refine (eval_ok (x := _) Hm.out g8 n s).mono ?_; rw [E5.out]; rintro e w9 ⟨rfl, b9⟩; have g9 := (g8).below b9; refine Hid.out ?_)
  refine Lib.hid ?_
  have B9 : Below w.heap.size w w9 := below_step B8 b9
  go_wp2_with (go_at_call 8; refine (eval_ok (x := _) Hx.out g9 n s).mono ?_; rw [E6.out]; rintro e w10 ⟨rfl, b10⟩; have g10 := (g9).below b10; refine Hid.out ?_)
  refine Lib.hid ?_
  have B10 : Below w.heap.size w w10 := below_step B9 b10
  go_wp2_with fail
  all_goals
    go_ret
    refine ⟨?_, B10⟩
  all_goals first | rfl | exact bool_true (by simp <;> omega)

set_option maxRecDepth 100000 in
set_option maxHeartbeats 4000000 in
theorem p_ge (a b c : ByteArray) (n s : Int) (w : World) (hg : Gl w) (ta tb tc : Tm) (Ha : Hid (readP a.data.toList = .ok ta [])) (Hb : Hid (readP b.data.toList = .ok tb [])) (Hc : Hid (readP c.data.toList = .ok tc [])) (x y z : Int) (EA : Hid (ev n s ta = x)) (EB : Hid (ev n s tb = y)) (EC : Hid (ev n s tc = z)) (ya : a.size ≤ 120) (yb : b.size ≤ 120) (yc : c.size ≤ 120) (hlen : ¬ 100 < a.size + b.size + c.size) (Hj : Hid (readP (⟨#[40]⟩ ++ a ++ ⟨#[41, 43, 40]⟩ ++ b ++ ⟨#[41]⟩ : ByteArray).data.toList = .ok (.two 43 ta tb) [])) (Hk : Hid (readP (⟨#[40]⟩ ++ a ++ ⟨#[41, 42, 40]⟩ ++ b ++ ⟨#[41]⟩ : ByteArray).data.toList = .ok (.two 42 ta tb) [])) (Hl : Hid (readP (⟨#[40]⟩ ++ a ++ ⟨#[41, 60, 40]⟩ ++ b ++ ⟨#[41]⟩ : ByteArray).data.toList = .ok (.two 60 ta tb) [])) (Hm : Hid (readP (⟨#[109, 105, 110, 40]⟩ ++ a ++ ⟨#[44]⟩ ++ b ++ ⟨#[41]⟩ : ByteArray).data.toList = .ok (.two 109 ta tb) [])) (Hx : Hid (readP (⟨#[109, 97, 120, 40]⟩ ++ a ++ ⟨#[44]⟩ ++ b ++ ⟨#[41]⟩ : ByteArray).data.toList = .ok (.two 77 ta tb) [])) (q1 q2 : Nat) (Hq : Hid (readP (⟨#[40]⟩ ++ a ++ ⟨#[41, 63, 40]⟩ ++ b ++ ⟨#[41, 58, 40]⟩ ++ c ++ ⟨#[41]⟩ : ByteArray).data.toList = .bad q1 q2)) (hlt : ¬ x < y) :
    Calls Tryd.prog 4 #[.string a, .string b, .string c, .int .i64 n, .int .i64 s] w fun e w' => e = .returned (.bool true) ∧ Below w.heap.size w w' := by
  have za : a.size ≤ 140737488355328 := by omega
  have zb : b.size ≤ 140737488355328 := by omega
  have zc : c.size ≤ 140737488355328 := by omega
  have hlen' : ¬ (100 : Int) < (a.size : Int) + (b.size : Int) + (c.size : Int) := by omega
  have E1 : Hid (ev n s (.two 43 ta tb) = wrap64 (x + y)) := by show of2 43 _ _ = _; rw [EA.out, EB.out, wr_eq]; rfl
  have E2 : Hid (ev n s (.two 42 ta tb) = wrap64 (x * y)) := by show of2 42 _ _ = _; rw [EA.out, EB.out, wr_eq]; rfl
  have E3 : Hid (ev n s (.two 60 ta tb) = 0) := by show of2 60 _ _ = _; rw [EA.out, EB.out]; simp [of2, hlt]
  have E5 : Hid (ev n s (.two 109 ta tb) = y) := by show of2 109 _ _ = _; rw [EA.out, EB.out]; simp [of2, hlt]
  have E6 : Hid (ev n s (.two 77 ta tb) = x) := by show of2 77 _ _ = _; rw [EA.out, EB.out]; simp [of2]; omega
  have hle : y ≤ x := by omega
  go_enter Tryd.func4, Tryd.ntmps4
  go_wp2_with (go_at_call 8; refine (eval_ok (x := ⟨#[110, 62, 51, 63, 110, 42, 50, 58, 45, 115]⟩) rd_fact hg 5 1).mono ?_; rw [e0]; rintro e w1 ⟨rfl, b1⟩; have g1 := (hg).below b1; refine Hid.out ?_)
  refine Lib.hid ?_
  have B1 : Below w.heap.size w w1 := b1
  go_wp2_with (go_at_call 8; refine (eval_ok (x := _) Ha.out g1 n s).mono ?_; rw [EA.out]; rintro e w2 ⟨rfl, b2⟩; have g2 := (g1).below b2; refine Hid.out ?_)
  refine Lib.hid ?_
  have B2 : Below w.heap.size w w2 := below_step B1 b2
  go_wp2_with (go_at_call 8; refine (eval_ok (x := _) Hb.out g2 n s).mono ?_; rw [EB.out]; rintro e w3 ⟨rfl, b3⟩; have g3 := (g2).below b3; refine Hid.out ?_)
  refine Lib.hid ?_
  have B3 : Below w.heap.size w w3 := below_step B2 b3
  go_wp2_with (go_at_call 8; refine (eval_ok (x := _) Hc.out g3 n s).mono ?_; rw [EC.out]; rintro e w4 ⟨rfl, b4⟩; have g4 := (g3).below b4; refine Hid.out ?_)
  refine Lib.hid ?_
  have B4 : Below w.heap.size w w4 := below_step B3 b4
  go_wp2_with (go_at_call 8; refine (eval_ok (x := _) Hj.out g4 n s).mono ?_; rw [E1.out]; rintro e w5 ⟨rfl, b5⟩; have g5 := (g4).below b5; refine Hid.out ?_)
  refine Lib.hid ?_
  have B5 : Below w.heap.size w w5 := below_step B4 b5
  go_wp2_with (go_at_call 8; refine (eval_ok (x := _) Hk.out g5 n s).mono ?_; rw [E2.out]; rintro e w6 ⟨rfl, b6⟩; have g6 := (g5).below b6; refine Hid.out ?_)
  refine Lib.hid ?_
  have B6 : Below w.heap.size w w6 := below_step B5 b6
  go_wp2_with (go_at_call 8; refine (eval_ok (x := _) Hl.out g6 n s).mono ?_; rw [E3.out]; rintro e w7 ⟨rfl, b7⟩; have g7 := (g6).below b7; refine Hid.out ?_)
  refine Lib.hid ?_
  have B7 : Below w.heap.size w w7 := below_step B6 b7
  go_wp2_with (go_at_call 8; refine (eval_bad (x := _) Hq.out g7 (C_le za zb zc) n s).mono ?_; rintro e w8 ⟨rfl, b8⟩; have g8 := (g7).below b8; refine Hid.out ?_)
  refine Lib.hid ?_
  have B8 : Below w.heap.size w w8 := below_step B7 b8
  go_wp2_with (go_at_call 8; refine (eval_ok (x := _) Hm.out g8 n s).mono ?_; rw [E5.out]; rintro e w9 ⟨rfl, b9⟩; have g9 := (g8).below b9; refine Hid.out ?_)
  refine Lib.hid ?_
  have B9 : Below w.heap.size w w9 := below_step B8 b9
  go_wp2_with (go_at_call 8; refine (eval_ok (x := _) Hx.out g9 n s).mono ?_; rw [E6.out]; rintro e w10 ⟨rfl, b10⟩; have g10 := (g9).below b10; refine Hid.out ?_)
  refine Lib.hid ?_
  have B10 : Below w.heap.size w w10 := below_step B9 b10
  go_wp2_with fail
  all_goals
    go_ret
    refine ⟨?_, B10⟩
  all_goals first | rfl | exact bool_true (by simp <;> omega)

set_option maxRecDepth 100000 in
set_option maxHeartbeats 4000000 in
theorem none (a b c : ByteArray) (n s : Int) (w : World) (hg : Gl w) (ta tb tc : Tm) (Ha : Hid (readP a.data.toList = .ok ta [])) (Hb : Hid (readP b.data.toList = .ok tb [])) (Hc : Hid (readP c.data.toList = .ok tc [])) (x y z : Int) (EA : Hid (ev n s ta = x)) (EB : Hid (ev n s tb = y)) (EC : Hid (ev n s tc = z)) (ya : a.size ≤ 120) (yb : b.size ≤ 120) (yc : c.size ≤ 120) (hlen : ¬ 100 < a.size + b.size + c.size) (j1 j2 k1 k2 l1 l2 m1 m2 x1 x2 : Nat) (Hj : Hid (readP (⟨#[40]⟩ ++ a ++ ⟨#[41, 43, 40]⟩ ++ b ++ ⟨#[41]⟩ : ByteArray).data.toList = .bad j1 j2)) (Hk : Hid (readP (⟨#[40]⟩ ++ a ++ ⟨#[41, 42, 40]⟩ ++ b ++ ⟨#[41]⟩ : ByteArray).data.toList = .bad k1 k2)) (Hl : Hid (readP (⟨#[40]⟩ ++ a ++ ⟨#[41, 60, 40]⟩ ++ b ++ ⟨#[41]⟩ : ByteArray).data.toList = .bad l1 l2)) (Hm : Hid (readP (⟨#[109, 105, 110, 40]⟩ ++ a ++ ⟨#[44]⟩ ++ b ++ ⟨#[41]⟩ : ByteArray).data.toList = .bad m1 m2)) (Hx : Hid (readP (⟨#[109, 97, 120, 40]⟩ ++ a ++ ⟨#[44]⟩ ++ b ++ ⟨#[41]⟩ : ByteArray).data.toList = .bad x1 x2)) (q1 q2 : Nat) (Hq : Hid (readP (⟨#[40]⟩ ++ a ++ ⟨#[41, 63, 40]⟩ ++ b ++ ⟨#[41, 58, 40]⟩ ++ c ++ ⟨#[41]⟩ : ByteArray).data.toList = .bad q1 q2)) :
    Calls Tryd.prog 4 #[.string a, .string b, .string c, .int .i64 n, .int .i64 s] w fun e w' => e = .returned (.bool true) ∧ Below w.heap.size w w' := by
  have za : a.size ≤ 140737488355328 := by omega
  have zb : b.size ≤ 140737488355328 := by omega
  have zc : c.size ≤ 140737488355328 := by omega
  have hlen' : ¬ (100 : Int) < (a.size : Int) + (b.size : Int) + (c.size : Int) := by omega
  go_enter Tryd.func4, Tryd.ntmps4
  go_wp2_with (go_at_call 8; refine (eval_ok (x := ⟨#[110, 62, 51, 63, 110, 42, 50, 58, 45, 115]⟩) rd_fact hg 5 1).mono ?_; rw [e0]; rintro e w1 ⟨rfl, b1⟩; have g1 := (hg).below b1; refine Hid.out ?_)
  refine Lib.hid ?_
  have B1 : Below w.heap.size w w1 := b1
  go_wp2_with (go_at_call 8; refine (eval_ok (x := _) Ha.out g1 n s).mono ?_; rw [EA.out]; rintro e w2 ⟨rfl, b2⟩; have g2 := (g1).below b2; refine Hid.out ?_)
  refine Lib.hid ?_
  have B2 : Below w.heap.size w w2 := below_step B1 b2
  go_wp2_with (go_at_call 8; refine (eval_ok (x := _) Hb.out g2 n s).mono ?_; rw [EB.out]; rintro e w3 ⟨rfl, b3⟩; have g3 := (g2).below b3; refine Hid.out ?_)
  refine Lib.hid ?_
  have B3 : Below w.heap.size w w3 := below_step B2 b3
  go_wp2_with (go_at_call 8; refine (eval_ok (x := _) Hc.out g3 n s).mono ?_; rw [EC.out]; rintro e w4 ⟨rfl, b4⟩; have g4 := (g3).below b4; refine Hid.out ?_)
  refine Lib.hid ?_
  have B4 : Below w.heap.size w w4 := below_step B3 b4
  go_wp2_with (go_at_call 8; refine (eval_bad (x := _) Hj.out g4 (J_le 43 za zb) n s).mono ?_; rintro e w5 ⟨rfl, b5⟩; have g5 := (g4).below b5; refine Hid.out ?_)
  refine Lib.hid ?_
  have B5 : Below w.heap.size w w5 := below_step B4 b5
  go_wp2_with (go_at_call 8; refine (eval_bad (x := _) Hk.out g5 (J_le 42 za zb) n s).mono ?_; rintro e w6 ⟨rfl, b6⟩; have g6 := (g5).below b6; refine Hid.out ?_)
  refine Lib.hid ?_
  have B6 : Below w.heap.size w w6 := below_step B5 b6
  go_wp2_with (go_at_call 8; refine (eval_bad (x := _) Hl.out g6 (J_le 60 za zb) n s).mono ?_; rintro e w7 ⟨rfl, b7⟩; have g7 := (g6).below b7; refine Hid.out ?_)
  refine Lib.hid ?_
  have B7 : Below w.heap.size w w7 := below_step B6 b7
  go_wp2_with (go_at_call 8; refine (eval_bad (x := _) Hq.out g7 (C_le za zb zc) n s).mono ?_; rintro e w8 ⟨rfl, b8⟩; have g8 := (g7).below b8; refine Hid.out ?_)
  refine Lib.hid ?_
  have B8 : Below w.heap.size w w8 := below_step B7 b8
  go_wp2_with (go_at_call 8; refine (eval_bad (x := _) Hm.out g8 (M_le 105 110 za zb) n s).mono ?_; rintro e w9 ⟨rfl, b9⟩; have g9 := (g8).below b9; refine Hid.out ?_)
  refine Lib.hid ?_
  have B9 : Below w.heap.size w w9 := below_step B8 b9
  go_wp2_with (go_at_call 8; refine (eval_bad (x := _) Hx.out g9 (M_le 97 120 za zb) n s).mono ?_; rintro e w10 ⟨rfl, b10⟩; have g10 := (g9).below b10; refine Hid.out ?_)
  refine Lib.hid ?_
  have B10 : Below w.heap.size w w10 := below_step B9 b10
  go_wp2_with fail
  all_goals
    go_ret
    refine ⟨?_, B10⟩
  all_goals first | rfl | exact bool_true (by simp <;> omega)

theorem walk2 (a b c : ByteArray) (n s : Int) (w : World) (hg : Gl w) (ta tb tc : Tm) (ha : readP a.data.toList = .ok ta []) (hb : readP b.data.toList = .ok tb []) (hc : readP c.data.toList = .ok tc []) (x y z : Int) (EA : Hid (ev n s ta = x)) (EB : Hid (ev n s tb = y)) (EC : Hid (ev n s tc = z)) (ya : a.size ≤ 120) (yb : b.size ≤ 120) (yc : c.size ≤ 120) :
    Calls Tryd.prog 4 #[.string a, .string b, .string c, .int .i64 n, .int .i64 s] w fun e w' => e = .returned (.bool true) ∧ Below w.heap.size w w' := by
  have la : a.data.toList.length = a.size := by simp
  have lb : b.data.toList.length = b.size := by simp
  have lc : c.data.toList.length = c.size := by simp
  by_cases hlen : 100 < a.size + b.size + c.size
  · exact long a b c n s w hg ta tb tc (Lib.hid ha) (Lib.hid hb) (Lib.hid hc) x y z EA EB EC ya yb yc hlen
  by_cases hP : Gr 19 0 a.data.toList ta ∧ Gr 19 0 b.data.toList tb
  · obtain ⟨ga, gb⟩ := hP
    have Hj := Lib.hid ((congrArg readP (J_list 43 a b)).trans (rd_mk_add (by decide) ga gb (by omega)))
    have Hk := Lib.hid ((congrArg readP (J_list 42 a b)).trans (rd_mk_mul (by decide) ga gb (by omega)))
    have Hl := Lib.hid ((congrArg readP (J_list 60 a b)).trans (rd_mk_cmp (by decide) ga gb (by omega)))
    have Hm := Lib.hid ((congrArg readP (M_list 105 110 a b)).trans (rd_mk_min ga gb (by omega)))
    have Hx := Lib.hid ((congrArg readP (M_list 97 120 a b)).trans (rd_mk_max ga gb (by omega)))
    cases hq : readP (cl a.data.toList b.data.toList c.data.toList) with
    | ok t u =>
      obtain ⟨rfl, rfl⟩ := rd_in_cond ha hb hc hq
      have Hq := Lib.hid ((congrArg readP (C_list a b c)).trans hq)
      by_cases hlt : x < y
      · by_cases hz : x = 0
        · exact pq_lt_z a b c n s w hg ta tb tc (Lib.hid ha) (Lib.hid hb) (Lib.hid hc) x y z EA EB EC ya yb yc hlen Hj Hk Hl Hm Hx Hq hlt hz
        · exact pq_lt_n a b c n s w hg ta tb tc (Lib.hid ha) (Lib.hid hb) (Lib.hid hc) x y z EA EB EC ya yb yc hlen Hj Hk Hl Hm Hx Hq hlt hz
      · by_cases hz : x = 0
        · exact pq_ge_z a b c n s w hg ta tb tc (Lib.hid ha) (Lib.hid hb) (Lib.hid hc) x y z EA EB EC ya yb yc hlen Hj Hk Hl Hm Hx Hq hlt hz
        · exact pq_ge_n a b c n s w hg ta tb tc (Lib.hid ha) (Lib.hid hb) (Lib.hid hc) x y z EA EB EC ya yb yc hlen Hj Hk Hl Hm Hx Hq hlt hz
    | bad q1 q2 =>
      have Hq := Lib.hid ((congrArg readP (C_list a b c)).trans hq)
      by_cases hlt : x < y
      · exact p_lt a b c n s w hg ta tb tc (Lib.hid ha) (Lib.hid hb) (Lib.hid hc) x y z EA EB EC ya yb yc hlen Hj Hk Hl Hm Hx q1 q2 Hq hlt
      · exact p_ge a b c n s w hg ta tb tc (Lib.hid ha) (Lib.hid hb) (Lib.hid hc) x y z EA EB EC ya yb yc hlen Hj Hk Hl Hm Hx q1 q2 Hq hlt
  · obtain ⟨j1, j2, hj⟩ := not_ok (r := readP (jl 43 a.data.toList b.data.toList)) (fun t v h => hP (let h' := rd_in_add (by decide) ha hb h; ⟨h'.2.1, h'.2.2.1⟩))
    obtain ⟨k1, k2, hk⟩ := not_ok (r := readP (jl 42 a.data.toList b.data.toList)) (fun t v h => hP (rd_in_mul' (by decide) ha hb h))
    obtain ⟨l1, l2, hl⟩ := not_ok (r := readP (jl 60 a.data.toList b.data.toList)) (fun t v h => hP (rd_in_cmp' (by decide) ha hb h))
    obtain ⟨m1, m2, hm⟩ := not_ok (r := readP (ml 105 110 a.data.toList b.data.toList)) (fun t v h => hP (rd_in_pair' (op := 109) (.inl ⟨rfl, rfl⟩) ha hb h))
    obtain ⟨x1, x2, hx⟩ := not_ok (r := readP (ml 97 120 a.data.toList b.data.toList)) (fun t v h => hP (rd_in_pair' (op := 77) (.inr ⟨rfl, rfl⟩) ha hb h))
    obtain ⟨q1, q2, hq⟩ := not_ok (r := readP (cl a.data.toList b.data.toList c.data.toList)) (fun t v h => hP (rd_in_cond' ha hb hc h))
    exact none a b c n s w hg ta tb tc (Lib.hid ha) (Lib.hid hb) (Lib.hid hc) x y z EA EB EC ya yb yc hlen j1 j2 k1 k2 l1 l2 m1 m2 x1 x2 (Lib.hid ((congrArg readP (J_list 43 a b)).trans hj)) (Lib.hid ((congrArg readP (J_list 42 a b)).trans hk)) (Lib.hid ((congrArg readP (J_list 60 a b)).trans hl)) (Lib.hid ((congrArg readP (M_list 105 110 a b)).trans hm)) (Lib.hid ((congrArg readP (M_list 97 120 a b)).trans hx)) q1 q2 (Lib.hid ((congrArg readP (C_list a b c)).trans hq))


set_option maxRecDepth 100000 in
set_option maxHeartbeats 4000000 in
theorem walk (a b c : ByteArray) (n s : Int) (w : World) (hg : Gl w) (_ : laidMet Tryd.prog laidL w) (_ : a.size ≤ maxLen) (_ : b.size ≤ maxLen) (_ : c.size ≤ maxLen) (_ : (Lit.int .i64 n).wf = true) (_ : (Lit.int .i64 s).wf = true) (za : a.size ≤ 140737488355328) (zb : b.size ≤ 140737488355328) (zc : c.size ≤ 140737488355328) :
    Calls Tryd.prog 4 #[.string a, .string b, .string c, .int .i64 n, .int .i64 s] w fun e w' => e = .returned (.bool true) ∧ Below w.heap.size w w' := by
  have la : a.data.toList.length = a.size := by simp
  have lb : b.data.toList.length = b.size := by simp
  have lc : c.data.toList.length = c.size := by simp
  cases ha : readP a.data.toList with
  | bad pa ea =>
    have Ha := Lib.hid ha
    clear ha la lb lc
    go_enter Tryd.func4, Tryd.ntmps4
    go_wp2_with (go_at_call 8; refine (eval_ok (x := ⟨#[110, 62, 51, 63, 110, 42, 50, 58, 45, 115]⟩) rd_fact hg 5 1).mono ?_; rw [e0]; rintro e w1 ⟨rfl, b1⟩; have g1 := (hg).below b1; refine Hid.out ?_)
    refine Lib.hid ?_
    have B1 : Below w.heap.size w w1 := b1
    go_wp2_with (go_at_call 8; refine (eval_bad (x := _) Ha.out g1 (S_le za) n s).mono ?_; rintro e w2 ⟨rfl, b2⟩; have g2 := (g1).below b2; refine Hid.out ?_)
    refine Lib.hid ?_
    have B2 : Below w.heap.size w w2 := below_step B1 b2
    go_wp2_with (go_at_call 8; refine (eval_gen (x := _) g2 (S_le zb) n s).mono ?_; rintro e w3 ⟨k2, er2, rfl, b3⟩; have g3 := (g2).below b3; refine Hid.out ?_)
    refine Lib.hid ?_
    have B3 : Below w.heap.size w w3 := below_step B2 b3
    go_wp2_with (go_at_call 8; refine (eval_gen (x := _) g3 (S_le zc) n s).mono ?_; rintro e w4 ⟨k3, er3, rfl, b4⟩; have g4 := (g3).below b4; refine Hid.out ?_)
    refine Lib.hid ?_
    have B4 : Below w.heap.size w w4 := below_step B3 b4
    go_wp2_with fail
    all_goals
      go_ret
      refine ⟨?_, B4⟩
    all_goals first | rfl | exact bool_true (by simp <;> omega)
  | ok ta ua =>
    obtain rfl := (read_ok ha).2.1
    cases hb : readP b.data.toList with
    | bad pb eb =>
      have Ha := Lib.hid ha
      have Hb := Lib.hid hb
      clear ha hb la lb lc
      go_enter Tryd.func4, Tryd.ntmps4
      go_wp2_with (go_at_call 8; refine (eval_ok (x := ⟨#[110, 62, 51, 63, 110, 42, 50, 58, 45, 115]⟩) rd_fact hg 5 1).mono ?_; rw [e0]; rintro e w1 ⟨rfl, b1⟩; have g1 := (hg).below b1; refine Hid.out ?_)
      refine Lib.hid ?_
      have B1 : Below w.heap.size w w1 := b1
      go_wp2_with (go_at_call 8; refine (eval_ok (x := _) Ha.out g1 n s).mono ?_; rintro e w2 ⟨rfl, b2⟩; have g2 := (g1).below b2; refine Hid.out ?_)
      refine Lib.hid ?_
      have B2 : Below w.heap.size w w2 := below_step B1 b2
      go_wp2_with (go_at_call 8; refine (eval_bad (x := _) Hb.out g2 (S_le zb) n s).mono ?_; rintro e w3 ⟨rfl, b3⟩; have g3 := (g2).below b3; refine Hid.out ?_)
      refine Lib.hid ?_
      have B3 : Below w.heap.size w w3 := below_step B2 b3
      go_wp2_with (go_at_call 8; refine (eval_gen (x := _) g3 (S_le zc) n s).mono ?_; rintro e w4 ⟨k3, er3, rfl, b4⟩; have g4 := (g3).below b4; refine Hid.out ?_)
      refine Lib.hid ?_
      have B4 : Below w.heap.size w w4 := below_step B3 b4
      go_wp2_with fail
      all_goals
        go_ret
        refine ⟨?_, B4⟩
      all_goals first | rfl | exact bool_true (by simp <;> omega)
    | ok tb ub =>
      obtain rfl := (read_ok hb).2.1
      cases hc : readP c.data.toList with
      | bad pc ec =>
        have Ha := Lib.hid ha
        have Hb := Lib.hid hb
        have Hc := Lib.hid hc
        clear ha hb hc la lb lc
        go_enter Tryd.func4, Tryd.ntmps4
        go_wp2_with (go_at_call 8; refine (eval_ok (x := ⟨#[110, 62, 51, 63, 110, 42, 50, 58, 45, 115]⟩) rd_fact hg 5 1).mono ?_; rw [e0]; rintro e w1 ⟨rfl, b1⟩; have g1 := (hg).below b1; refine Hid.out ?_)
        refine Lib.hid ?_
        have B1 : Below w.heap.size w w1 := b1
        go_wp2_with (go_at_call 8; refine (eval_ok (x := _) Ha.out g1 n s).mono ?_; rintro e w2 ⟨rfl, b2⟩; have g2 := (g1).below b2; refine Hid.out ?_)
        refine Lib.hid ?_
        have B2 : Below w.heap.size w w2 := below_step B1 b2
        go_wp2_with (go_at_call 8; refine (eval_ok (x := _) Hb.out g2 n s).mono ?_; rintro e w3 ⟨rfl, b3⟩; have g3 := (g2).below b3; refine Hid.out ?_)
        refine Lib.hid ?_
        have B3 : Below w.heap.size w w3 := below_step B2 b3
        go_wp2_with (go_at_call 8; refine (eval_bad (x := _) Hc.out g3 (S_le zc) n s).mono ?_; rintro e w4 ⟨rfl, b4⟩; have g4 := (g3).below b4; refine Hid.out ?_)
        refine Lib.hid ?_
        have B4 : Below w.heap.size w w4 := below_step B3 b4
        go_wp2_with fail
        all_goals
          go_ret
          refine ⟨?_, B4⟩
        all_goals first | rfl | exact bool_true (by simp <;> omega)
      | ok tc uc =>
        obtain rfl := (read_ok hc).2.1
        have ya : a.size ≤ 120 := by have := (read_ok ha).1; omega
        have yb : b.size ≤ 120 := by have := (read_ok hb).1; omega
        have yc : c.size ≤ 120 := by have := (read_ok hc).1; omega
        have EA : ∃ x, Hid (ev n s ta = x) := ⟨_, rfl⟩
        have EB : ∃ x, Hid (ev n s tb = x) := ⟨_, rfl⟩
        have EC : ∃ x, Hid (ev n s tc = x) := ⟨_, rfl⟩
        obtain ⟨x, EA⟩ := EA
        obtain ⟨y, EB⟩ := EB
        obtain ⟨z, EC⟩ := EC
        exact walk2 a b c n s w hg ta tb tc ha hb hc x y z EA EB EC ya yb yc

set_option maxRecDepth 100000 in
theorem lifted (os : Os) (started : os.Started) (H : Type) (enc : TypeId × Value → H) :
    ReturnsInHanded {} Tryd.checked os 4 .any (fun w args => (Rows.exprJoinsSpec.pre enc Tryd.prog Tryd.f4 [] false w args ∧ laidMetH Tryd.prog laidL w) ∧ sizedMet enc Tryd.prog Tryd.f4 (OpenSpec.ofChange Rows.exprJoinsSpec) false w args)
      (Rows.exprJoinsSpec.post enc Tryd.prog Tryd.f4 false true false false) := by
  refine returnsInHanded_of_change_and (C := Tryd.checked) (X := fun w _ => laidMetH Tryd.prog laidL w) (fun _ _ _ hh h => h.of_heap hh) Tryd.own started (by kernel_rfl) Tryd.func4
    (ChangeSpec.witness_at (enc := enc) (C := Tryd.checked) (os := os) (X := fun w _ => laidMetH Tryd.prog laidL w) false (laidAt (World.holding Tryd.prog os ⟨ownBlocks, #[], []⟩)) #[.string ByteArray.empty, .string ByteArray.empty, .string ByteArray.empty, .int .i64 0, .int .i64 0] 8 rfl (by kernel_rfl) (by kernel_rfl) (by kernel_rfl) (by kernel_rfl) (by kernel_rfl) (laidWorld_met os _)) ?_
  intro W base args ds gs before hval0 hW _ hsz0 hL _
  have hsz : (DataW.weightsEach Tryd.prog (Tryd.f4.params.toList ++ Rows.exprJoinsSpec.plain.varTypes Tryd.prog) (ds ++ gs)).all (· ≤ reachBytes) = true := hsz0
  clear hsz0
  have hval : ∀ (j : Nat) t v, Tryd.f4.params[j]? = some t → args[j]? = some v → Value.okWide Tryd.prog W .any base t v := hval0
  have hW' := hW
  obtain ⟨p, q, hA0, hV0, rfl, hfz, hnd⟩ := hW
  have hA : DataW.TrodAll enc Tryd.prog W 0 (fun _ => true) true Tryd.f4.params.toList args.toList ds p := hA0
  have hV : DataW.TrodVars enc Tryd.prog W (fun _ => true) [] gs q := hV0
  rw [Tryd.params4] at hA hval hsz
  obtain ⟨v0, vs0, d0, ds0, p0, q0, hargs, rfl, rfl, h0, r0⟩ := trodAll_cons hA
  obtain ⟨v1, vs1, d1, ds1, p1, q1, rfl, rfl, rfl, h1, r1⟩ := trodAll_cons r0
  obtain ⟨v2, vs2, d2, ds2, p2, q2, rfl, rfl, rfl, h2, r2⟩ := trodAll_cons r1
  obtain ⟨v3, vs3, d3, ds3, p3, q3, rfl, rfl, rfl, h3, r3⟩ := trodAll_cons r2
  obtain ⟨v4, vs4, d4, ds4, p4, q4, rfl, rfl, rfl, h4, r4⟩ := trodAll_cons r3
  obtain ⟨rfl, rfl, rfl⟩ := trodAll_nil r4
  obtain rfl : args = #[v0, v1, v2, v3, v4] := by cases args; simp_all
  obtain ⟨a0, rfl, rfl, rfl, w0⟩ := open_string Tryd.underlying9 (hval 0 9 v0 rfl rfl) h0
  obtain ⟨a1, rfl, rfl, rfl, w1⟩ := open_string Tryd.underlying9 (hval 1 9 v1 rfl rfl) h1
  obtain ⟨a2, rfl, rfl, rfl, w2⟩ := open_string Tryd.underlying9 (hval 2 9 v2 rfl rfl) h2
  obtain ⟨a3, rfl, rfl, rfl, w3⟩ := open_int Tryd.underlying3 (hval 3 3 v3 rfl rfl) h3
  obtain ⟨a4, rfl, rfl, rfl, w4⟩ := open_int Tryd.underlying3 (hval 4 3 v4 rfl rfl) h4
  have z0 : a0.size ≤ 140737488355328 := short_of (sized_string hsz (j := 0) (t := 9) rfl rfl)
  have z1 : a1.size ≤ 140737488355328 := short_of (sized_string hsz (j := 1) (t := 9) rfl rfl)
  have z2 : a2.size ≤ 140737488355328 := short_of (sized_string hsz (j := 2) (t := 9) rfl rfl)
  have hg := gl_of_laid hL
  have hld : laidMet Tryd.prog laidL W := hL
  obtain ⟨rfl, rfl⟩ : gs = [] ∧ q = [] := by
    cases gs with
    | nil => exact ⟨rfl, hV⟩
    | cons g r => exact absurd hV (by intro h; cases h)
  clear hA0 hval0
  refine (walk a0 a1 a2 a3 a4 W hg hld w0 w1 w2 w3 w4 z0 z1 z2).mono fun e W' ⟨he, bel⟩ => ?_
  subst he
  exact ⟨_, rfl, _, _, _, [], [], [], hW', trodAll_mk1 (shut_bool Tryd.underlying4 true), trodAll_cons_mk (shut_string Tryd.underlying9 w0) (trodAll_cons_mk (shut_string Tryd.underlying9 w1) (trodAll_cons_mk (shut_string Tryd.underlying9 w2) (trodAll_cons_mk (shut_int Tryd.underlying3 w3) (trodAll_cons_mk (shut_int Tryd.underlying3 w4) trodAll_mk0)))), rfl, bel.frame _, fun h => by cases h⟩

theorem over : Rows.ExprJoinsSaid :=
  OpenClaim.holds_of_wide 4 Tryd.f4 rfl rfl rfl rfl rfl rfl rfl ⟨rfl, rfl, rfl, rfl, rfl⟩ rfl rfl rfl rfl rfl (by kernel_rfl) Tryd.func4 (by kernel_rfl)
    (of_decide_eq_true (by kernel_rfl)) (by unfold Func.isWrapper; rw [if_neg (of_decide_eq_false (by kernel_rfl))]; exact ⟨rfl, rfl⟩)
    (fun os started H enc _ => lifted os started H enc)
end exprJoins

theorem exprJoins_holds : Rows.ExprJoinsCardSaid :=
  Claim7.holds_tied_plain_at .later [] [.data, .data, .data, .sentinel, .sentinel] true (true, "6ba79705c3ab4ae7c2f6e4f1e57e496162f3eb4dafaefe561ba60f516a745a1e") true
    exprJoins.over (fun _ h => by cases h) (by kernel_rfl) (fun _ h => by cases h) exprJoins_row_tie rfl ⟨rfl, rfl⟩ (by kernel_rfl) rfl
    (fun f fn hf hfn => by
      obtain rfl : f = 4 := Option.some.inj ((show Tryd.prog.funcNamed Tryd.f4.name = some 4 by kernel_rfl).symm.trans hf) |>.symm
      obtain rfl : fn = Tryd.f4 := (Option.some.inj (Tryd.func4.symm.trans hfn)).symm
      exact ⟨by kernel_rfl, fun j t ht => by
        rw [Tryd.params4] at ht
        match j, ht with
        | 0, ht =>
          obtain rfl : t = 9 := by simpa using ht.symm
          exact (show Tryd.prog.wantsStandIn 9 = false by kernel_rfl)
        | 1, ht =>
          obtain rfl : t = 9 := by simpa using ht.symm
          exact (show Tryd.prog.wantsStandIn 9 = false by kernel_rfl)
        | 2, ht =>
          obtain rfl : t = 9 := by simpa using ht.symm
          exact (show Tryd.prog.wantsStandIn 9 = false by kernel_rfl)
        | 3, ht =>
          obtain rfl : t = 3 := by simpa using ht.symm
          exact (show Tryd.prog.wantsStandIn 3 = false by kernel_rfl)
        | 4, ht =>
          obtain rfl : t = 3 := by simpa using ht.symm
          exact (show Tryd.prog.wantsStandIn 3 = false by kernel_rfl)
        | n + 5, ht => simp at ht⟩)
    (by kernel_rfl)
#print axioms exprJoins_holds
end Go.Proofs.YtdegibjfcjkgdabDoor
