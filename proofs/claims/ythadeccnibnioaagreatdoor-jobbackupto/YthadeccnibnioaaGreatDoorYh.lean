/- lines, as a range gets them. -/
import Derived.RangeFuncNested
import Derived.RangeFuncBound
import Derived.RangeFuncCalls
import Derived.RangeFuncLeaves
import Derived.Shelf.Abstract
import Derived.Shelf.RegionOpen
import Derived.OwnWalkIn
import Derived.TacticsInMore
import Derived.LoopNIn
import Derived.LoopIn
import Derived.Test.YthadeccnibnioaaGreatDoorYg
import Derived.Test.YthadeccnibnioaaGreatDoorHp
namespace Go.Proofs.YthadeccnibnioaaGreatDoor
open Go.RowKit Go.Shelf
set_option linter.unusedVariables false
theorem rn_any {w : World} (hg : Gj w) (s : ByteArray) (hs : s.size ≤ 100000000) : Calls Tryz.prog 56 #[.string s] w fun e w' => Below w.heap.size w w' ∧ ((readNd false s.data.toList = none ∧ ∃ (k n : Int) (A : Option Addr) (ln cp : Nat) (tx : ByteArray), e = .returned (.tuple #[.agg #[.int .i64 k, .slice A ln cp, .string tx, .int .i64 n], .bool false])) ∨
    ∃ nd fa fc, readNd false s.data.toList = some nd ∧ e = .returned (.tuple #[ndV nd fa fc, .bool true]) ∧ w'.ownsRow w.heap.size 3 1 (.slice fa nd.fs.length fc) nd.fs.length (iv nd.fs)) := by
  obtain ⟨w0, ws, hsp⟩ := split_some s.data.toList
  have hl : s.data.toList.length = s.size := Array.length_toList
  have hsl := (split_lens hsp).1
  by_cases hk : kindP w0 = 0
  · refine (rn_nokind hg s hs w0 ws hsp hk).mono ?_
    rintro e w' ⟨hb, rfl⟩
    exact ⟨hb, .inl ⟨rd_nokind hsp hk, _, _, _, _, _, _, rfl⟩⟩
  · obtain ⟨-, h1, h2⟩ := kind_name hk
    refine rn_kind hg s hs w0 ws hsp (kindP w0) rfl h1 h2 (by omega) _ ?_ ?_
    · exact fun k n A ln cp tx w' hb hn => ⟨hb, .inl ⟨hn, _, _, _, _, _, _, rfl⟩⟩
    · exact fun nd fa fc w' hb hn hi => ⟨hb, .inr ⟨nd, fa, fc, hn, rfl, hi⟩⟩
attribute [local go_sem] Oper.semAt_some
/-- A line, as a round gets it. -/
abbrev Li := { x : List UInt8 × Bool // x.1.length ≤ 100000000 }
def encLi (x : Li) : Array Value := #[.string ⟨x.1.1.toArray⟩, .bool x.1.2]
def Kt (W W' : World) : Prop := True
theorem grown_drewN (W : World) (n : Nat) : W.grownBy (W.drewN n) none := ⟨rfl, rfl, rfl, Nat.le_refl _, fun _ _ _ => rfl⟩
set_option maxRecDepth 100000 in
set_option maxHeartbeats 2000000 in
theorem lines1_in (n : Nat) (hn : 1 ≤ n) (l Bs : Nat) (s : ByteArray) (hs : s.size ≤ 100000000) (J Jx : List Li → World → Prop)
    (hJ : ∀ pre W m, J pre W → J pre (W.drewN m))
    (hY : ∀ pre x W, J pre W → pre.length < (linesP s.data.toList).length → YieldAt Fence.wide (n - 1) Tryz.prog l (encLi x) W fun e W' =>
      (e = .returned (.bool true) ∧ J (pre ++ [x]) W' ∧ Kt W W') ∨ (e = .returned (.bool false) ∧ Jx (pre ++ [x]) W'))
    (W : World) (hBs : W.cell? ⟨Bs, 0, none⟩ = some (.string s)) (h0 : J [] W) :
    CallsIn Fence.wide n Tryz.prog 90 #[.func (.yield l) #[] #[], .pointer (some ⟨Bs, 0, none⟩)] W fun e W' => (∃ v, e = .returned v) ∧
      ((∃ ys : List Li, ys.map (·.1) = linesP s.data.toList ∧ J ys W') ∨ (∃ pre : List Li, (∃ suf, linesP s.data.toList = pre.map (·.1) ++ suf) ∧ Jx pre W')) := by
  refine callsIn_of_wp Tryz.func90 rfl trivial ?_ rfl
  simp only [Tryz.ntmps90, List.size_toArray, List.length_cons, List.length_nil, Nat.reduceAdd, Nat.reduceSub, Array.replicate_succ, Array.replicate_zero, List.push_toArray, List.append_toArray, List.nil_append, List.cons_append]
  gi_wp2
  gi_loopw [3] (fun x wr => ∃ (r : ByteArray) (pre : List Li), x = .string r ∧ r.size ≤ 100000000 ∧ linesP s.data.toList = pre.map (·.1) ++ linesP r.data.toList ∧ J pre wr) (fun x _ => match x with | .string r => r.size | _ => 0)
  case atStart => exact ⟨s, [], rfl, hs, rfl, h0⟩
  case round =>
    obtain ⟨r, pre, rfl, hrs, hpr, hJs⟩ := hrel
    by_cases he : r.data.toList = []
    · have e1 : r.toList.isEmpty = true := by rw [Lib.toList_data, he]; rfl
      have e2 : (([] : List UInt8) == r.toList) = true := by rw [Lib.toList_data, he]; rfl
      have e3 : (r.toList == ([] : List UInt8)) = true := by rw [Lib.toList_data, he]; rfl
      have HP : Hid (linesP s.data.toList = pre.map (·.1)) := by
        show linesP s.data.toList = pre.map (·.1)
        rw [hpr, he, lines_nil, List.append_nil]
      clear hpr he
      gi_wp2
      go_end0
      exact ⟨⟨_, rfl⟩, .inl ⟨pre, HP.out.symm, hJs⟩⟩
    · have e1 : r.toList.isEmpty = false := by rw [Lib.toList_data]; exact (match h : r.data.toList with | [] => absurd h he | a :: r => rfl)
      have e2 : (([] : List UInt8) == r.toList) = false := by rw [Lib.toList_data]; exact (match h : r.data.toList with | [] => absurd h he | a :: r => rfl)
      have e3 : (r.toList == ([] : List UInt8)) = false := by rw [Lib.toList_data]; exact (match h : r.data.toList with | [] => absurd h he | a :: r => rfl)
      have hlc := lines_cons he
      have hcl := cut_less _ he
      have hcn := (cut_len r.data.toList).1
      have hrl : r.data.toList.length = r.size := Array.length_toList
      have hlen : pre.length < (linesP s.data.toList).length := by rw [hpr, List.length_append, List.length_map, hlc, List.length_cons]; omega
      have HC := fun (u : World) => cut_any r u (by omega)
      unfold CutV at HC
      have HNx : Hid (linesP s.data.toList = pre.map (·.1) ++ [((cutB r.data.toList).1, (cutB r.data.toList).2.2)] ++ linesP (cutB r.data.toList).2.1) := by
        show linesP s.data.toList = _
        rw [hpr, hlc]; simp
      obtain ⟨a1, ha1⟩ : ∃ a1, (cutB r.data.toList).1 = a1 := ⟨_, rfl⟩
      obtain ⟨a2, ha2⟩ : ∃ a2, (cutB r.data.toList).2.1 = a2 := ⟨_, rfl⟩
      obtain ⟨a3, ha3⟩ : ∃ a3, (cutB r.data.toList).2.2 = a3 := ⟨_, rfl⟩
      rw [ha1, ha2, ha3] at HNx
      simp only [ha1, ha2, ha3] at HC
      rw [ha2] at hcl
      rw [ha1] at hcn
      have ha1l : a1.length ≤ 100000000 := by omega
      have HJ := Lib.hid (fun m => hJ pre wr m hJs)
      have hff : Fence.wide.fn 91 := trivial
      clear hpr hlc he ha1 ha2 ha3
      gi_wp2_with (gi_at_call 91; refine (callsIn_wide.2 (HC _)).mono ?_; rintro e w' ⟨rfl, m, rfl⟩; obtain ⟨fn, tmps, assign, body, hy, hR⟩ := hY pre ⟨(a1, a3), ha1l⟩ (wr.drewN m) (HJ.out m) hlen; simp only [encLi] at hy)
      refine hR.mono ?_
      rintro e W3 (⟨rfl, hJ3, -⟩ | ⟨rfl, hJx3⟩)
      · gi_wp2
        go_roundw
        case rel => exact ⟨⟨a2.toArray⟩, pre ++ [⟨(a1, a3), ha1l⟩], rfl, by simp [ByteArray.size]; omega, by rw [List.map_append]; exact HNx.out, hJ3⟩
        case measure =>
          have h1 : (⟨a2.toArray⟩ : ByteArray).size = a2.length := List.size_toArray
          show (⟨a2.toArray⟩ : ByteArray).size < r.size
          omega
      · gi_wp2
        refine bodyPost_ret (results_none rfl _ _ _) rfl ?_
        exact ⟨⟨_, rfl⟩, .inr ⟨pre ++ [⟨(a1, a3), ha1l⟩], ⟨_, by rw [List.map_append]; exact HNx.out⟩, hJx3⟩⟩
set_option maxHeartbeats 1000000 in
theorem lines_in (n : Nat) (s : ByteArray) (w : World) :
    CallsIn Fence.wide n Tryz.prog 55 #[.string s] w fun e w' => e = .returned (.func (.func 90) #[] #[.pointer (some ⟨w.heap.size, 0, none⟩)]) ∧ w' = w.alloc (.cells #[.string s] 9) := by
  refine callsIn_of_wp Tryz.func55 rfl trivial ?_ rfl
  simp only [Tryz.ntmps55, List.size_toArray, List.length_cons, List.length_nil, Nat.reduceAdd, Nat.reduceSub, Array.replicate_succ, Array.replicate_zero, List.push_toArray, List.append_toArray, List.nil_append, List.cons_append]
  gi_wp2
  go_ret
  exact ⟨rfl, rfl⟩
theorem lines_stops (n : Nat) (hn : 1 ≤ n) (Bs : Nat) (s : ByteArray) (hs : s.size ≤ 100000000) (w : World) (hBs : Bs < w.heap.size) (hc : w.cell? ⟨Bs, 0, none⟩ = some (.string s)) :
    SeqStopsK Fence.wide n Tryz.prog 90 #[.pointer (some ⟨Bs, 0, none⟩)] encLi Kt (fun ys => ys.map (·.1) = linesP s.data.toList) (fun pre => ∃ suf, linesP s.data.toList = pre.map (·.1) ++ suf) (linesP s.data.toList).length w := fun l J Jx W hW hJ _ hY h0 =>
  lines1_in n hn l Bs s hs J Jx (fun pre W' m h => hJ pre W' _ none h (grown_drewN W' m) (fun r e => by cases e)) hY W ((hW.cell (p := ⟨Bs, 0, none⟩) hBs).trans hc) h0
end Go.Proofs.YthadeccnibnioaaGreatDoor
