/- Numbers and nodes appended. -/
import Derived.Test.YthadeccnibnioaaGreatDoorYa
import Derived.Test.YthadeccnibnioaaGreatDoorHp
import Derived.Lib.AppendIntMem
import Derived.Lib.ItoaLen
import Derived.Lib.ItoaMem
import Derived.Lib.AppendStr
import Derived.Lib.OthersKept
import Derived.Lib.Slices
import Derived.Lib.Hide
import Derived.Laws.IdiomStrings
import Derived.OwnWalk
import Derived.BigCall
namespace Go.Proofs.YthadeccnibnioaaGreatDoor
open Go.RowKit
set_option linter.unusedVariables false
theorem row_blockK {w : World} {base e size n : Nat} {v : Value} {xs : List Value} (h : w.ownsRow base e size v n xs) {g : Nat} (hg : v.ownBlock = some g) : ∃ cur, w.heap[g]? = some (.cells cur e (0, 0)) := by
  rcases h.2 with ⟨h0, -⟩ | ⟨g', cap', cur, h0, hb, hc, -⟩
  · rw [h0] at hg; simp [Value.ownBlock] at hg
  · rw [h0] at hg; simp [Value.ownBlock] at hg; subst hg; exact ⟨cur, hc⟩
theorem infoByte : (Tryz.prog.info? 5).map (fun i => (i.zero, i.size, i.bytes)) = some (some (.int .u8 0), 1, 1) := by kernel_rfl
abbrev OwnB (B : Nat) (w : World) (v : Value) (l : List UInt8) : Prop := w.ownsRow B 5 1 v l.length (Lib.byteCells l)
theorem ownB_snoc {B : Nat} {w : World} {v : Value} {l : List UInt8} {c : UInt8} (h : w.ownsRow B 5 1 v (l.length + 1) (Lib.byteCells l ++ [.int .u8 c.toNat])) : OwnB B w v (l ++ [c]) := by
  have e1 : (l ++ [c]).length = l.length + 1 := by simp
  have e2 : Lib.byteCells (l ++ [c]) = Lib.byteCells l ++ [.int .u8 c.toNat] := by simp [Lib.byteCells]
  unfold OwnB; rw [e1, e2]; exact h
theorem ownB_app {B : Nat} {w : World} {v : Value} {l r : List UInt8} {n : Nat} (h : w.ownsRow B 5 1 v (l.length + n) (Lib.byteCells l ++ Lib.byteCells r)) (hn : n = r.length) : OwnB B w v (l ++ r) := by
  have e1 : (l ++ r).length = l.length + n := by simp [hn]
  have e2 : Lib.byteCells (l ++ r) = Lib.byteCells l ++ Lib.byteCells r := by simp [Lib.byteCells]
  unfold OwnB; rw [e1, e2]; exact h
def Tb (B : Nat) (w : World) : Prop := Lib.TabBelow Tryz.prog B w "internal/strconv.uint64pow10" .u64 Lib.pow10Tab
theorem others_grow {B n : Nat} {w w2 : World} {v : Value} {xs : List Value} (hown : w.ownsRow B 5 1 v n xs) (grow : w.grownBy w2 v.ownBlock) : Lib.OthersKept 5 none w w2 := fun k ob hk _ hne =>
  (grow.block k (Array.getElem?_eq_some_iff.1 hk).1 (fun e => by
    obtain ⟨cur, hc⟩ := row_blockK hown e.symm
    rw [hc] at hk; injection hk with hk; exact hne _ _ hk.symm)).trans hk
theorem others_alloc (w : World) (o : Obj) : Lib.OthersKept 5 none w (w.alloc o) := fun k ob hk _ _ => (((Below.refl _ _).alloc (Nat.le_refl _) o).block k (Array.getElem?_eq_some_iff.1 hk).1).trans hk
set_option maxRecDepth 100000 in
set_option maxHeartbeats 2000000 in
theorem apnum_any {B : Nat} {w1 : World} {v1 : Value} {m1 : List UInt8} (n : Int) (h0 : -9223372036854775808 ≤ n) (h9 : n ≤ 9223372036854775807) (hT : Tb B w1) (hown1 : OwnB B w1 v1 m1) (hBle : B ≤ w1.heap.size) (hlen : m1.length ≤ 1000000000) :
    Calls Tryz.prog 87 #[v1, .int .i64 n] w1 fun e w' => ∃ v', e = .returned v' ∧ OwnB B w' v' (m1 ++ 32 :: Lib.itoa n) ∧ Below B w1 w' ∧ Lib.OthersKept 5 none w1 w' := by
  obtain ⟨i0, hi, hz0, hz1, hz2⟩ := info_parts infoByte
  go_enter Tryz.func87, Tryz.ntmps87
  go_wp2_with (at_builtin; refine wpList_append_own _ rfl _ _ 82 rfl B 5 i0 (.int .u8 0) 1 1 Tryz.underlying82 hi hz0 hz1 hz2 rfl (by decide) _ _ _ rfl (hown1.alloc _) ⟨w1.heap.size, 0, none⟩ 1 1 [Value.int .u8 32] rfl rfl (by intro j u' hj; match j, hj with | 0, hj => simp at hj; subst hj; simp [Addr.add]) (by intro u' hu'; simp at hu'; subst hu'; rfl) (by unfold maxLen; omega) (by omega) (by simp; omega) ?_)
  intro v2 w2 own' grow _
  have hb2 : Below B w1 w2 := ((Below.refl _ _).alloc (by omega) _).grown grow (by simp; omega) (fun k hk => (hown1.lt k hk).1)
  have hown2 : OwnB B w2 v2 (m1 ++ [32]) := ownB_snoc own'
  have HO := Lib.hid ((others_alloc w1 (.cells #[.int .u8 32] 5)).trans (others_grow (hown1.alloc _) grow))
  have hs2 : B ≤ w2.heap.size := Nat.le_trans hBle hb2.size
  have hT2 : Tb B w2 := hT.on hb2
  have hl2 : (m1 ++ [32]).length ≤ 1000000001 := by simp; omega
  obtain ⟨m2, hm2⟩ : ∃ x, m1 ++ [32] = x := ⟨_, rfl⟩
  rw [hm2] at hown2 hl2
  have HM2 := Lib.hid hm2
  clear own' grow hm2
  go_wp2_with (go_at_call 121; refine (Tryz.strconv_AppendInt_10 B m2.length n (by omega) (by omega) v2 _ w2 hown2 hs2 (by omega) hT2).mono ?_; rintro e w3 ⟨v3, rfl, hown3, hb3, hot⟩; refine Hid.out ?_)
  refine Lib.hid ?_
  have hown4 : OwnB B w3 v3 (m2 ++ Lib.itoa n) := ownB_app hown3 rfl
  have e : m2 ++ Lib.itoa n = m1 ++ 32 :: Lib.itoa n := by rw [← HM2.out]; simp
  rw [e] at hown4
  have HO3 := Lib.hid (HO.out.trans hot)
  clear hown3 hot
  go_wp2_with fail
  go_ret
  exact ⟨v3, rfl, hown4, hb2.trans hb3, HO3.out⟩
end Go.Proofs.YthadeccnibnioaaGreatDoor
