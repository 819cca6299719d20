/- KeepAny: the walk. -/
import Derived.Test.YtcmnijpcinmbbaaGreatDoorPi
namespace Go.Proofs.YtcmnijpcinmbbaaGreatDoor
open Go.RowKit
set_option linter.unusedVariables false
theorem str_eqT (x : List UInt8) : ((⟨x.toArray⟩ : ByteArray).toList == (⟨x.toArray⟩ : ByteArray).toList) = true := by simp
set_option maxRecDepth 100000 in
set_option maxHeartbeats 8000000 in
theorem keepAny_walk (w : World) (hT : KT w.heap.size w) (p q : Option Addr) (c1 c2 : Nat) (a b : List UInt8) (ha : BsAt w p a) (hb : BsAt w q b) (hp : p = none → c1 = 0) (hq : q = none → c2 = 0) (id more : Int) :
    Calls Tryz.prog 5 #[.slice p a.length c1, .slice q b.length c2, .int .i64 id, .int .i64 more] w fun e w' => e = .returned (.bool true) ∧ Below w.heap.size w w' := by
  have HN := new_any w
  by_cases hgood : a.length ≤ 50000 ∧ b.length ≤ 50000 ∧ 1 ≤ id ∧ id ≤ 1000000 ∧ 1 ≤ more ∧ more ≤ 1000000
  · obtain ⟨hal, hbl, hi1, hi2, hm1, hm2⟩ := hgood
    have hid : IdOk id := ⟨hi1, by omega⟩
    have hid2 : IdOk (id + more) := ⟨by omega, by omega⟩
    obtain ⟨d1, s1, k1, u1, b1, n1⟩ := save_free KpD.new (by decide) hid rfl hal
    have hP1 : updK (fun _ => none) id (some a) (id + more) = none := updK_other _ _ (by omega)
    obtain ⟨d2, s2, k2, u2, b2, n2⟩ := save_free k1 (by rw [b1]; decide) hid2 hP1 hbl
    have i1 : IdsIs (updK (fun _ => none) id (some a)) ([] ++ [id]) := ids_put (a := []) (b := []) ids_nil (by simp) (by simp) a
    have i2 : IdsIs (updK (updK (fun _ => none) id (some a)) (id + more) (some b)) ([id] ++ [id + more]) := ids_put (a := [id]) (b := []) i1 (by simp; omega) (by simp) b
    have v1 : updK (fun _ => none) id (some a) id = some a := updK_same _ _ _
    have v2 : updK (updK (fun _ => none) id (some a)) (id + more) (some b) (id + more) = some b := updK_same _ _ _
    have hq1 : ((id : Int) == id) = true := by simp
    generalize updK (updK (fun _ => none) id (some a)) (id + more) (some b) = P2 at *
    have HS1 := Lib.hid (fun (w1 : World) (h1 : DkS w.heap.size w1 (w.heap.size + 1) w.heap.size (.slice none 0 0) newD 0) (hb1 : Below w.heap.size w w1) => save_any (P := fun _ => none) h1 KpIs.none (hT.on hb1) (by decide) (by decide) (by decide) (by decide) id p c1 a (ha.keep hb1) hal hp)
    go_enter Tryz.func5, Tryz.ntmps5
    go_wp2_with (go_at_call 6; refine HN.mono ?_; rintro e w1 ⟨rfl, hd1, hb1⟩; refine Hid.out ?_)
    refine Lib.hid ?_
    have HS1' := HS1.out w1 hd1 hb1
    rw [s1] at HS1'
    have hk0 : KpS w.heap.size w1 (w.heap.size + 1) w.heap.size (.slice none 0 0) newD 0 (fun _ => none) := ⟨hd1, KpD.new, hT.on hb1⟩
    clear HS1
    go_wp2_with (go_at_call 8; refine Hid.out ?_)
    refine Lib.hid ?_
    refine HS1'.mono ?_
    intro e w2 hst
    obtain ⟨rfl, uv2, hk2, -, -, hb2⟩ := hk0.step hst k1
    simp only [erV_0]
    have hb02 : Below w.heap.size w w2 := hb1.trans hb2
    have HL2 := lat_some hk2 (by omega) i1 v1
    clear HS1' hst hk0
    go_wp2_with (go_at_call 9; refine Hid.out ?_)
    refine Lib.hid ?_
    refine HL2.mono ?_
    rintro e w3 ⟨A3, c3, rfl, hA3, hb3⟩
    have hk3 := hk2.keep hb3
    have hb03 : Below w.heap.size w w3 := hb02.trans (hb3.mono hb02.size)
    have e1 := hA3.convert a.length c3 rfl
    have e2 := (ha.keep hb03).convert a.length c1 rfl
    have e3 := str_eqT a
    have HS3 := save_any hk3.dk k1.kp hk3.tab (by rw [n1]; decide) (by rw [n1]; decide) (by rw [u1]; decide) (by omega) (id + more) q c2 b (hb.keep hb03) hbl hq
    rw [s2] at HS3
    clear HL2 hA3 hk2
    generalize (⟨a.toArray⟩ : ByteArray) = sa at *
    go_wp2_with (go_at_call 8; refine Hid.out ?_)
    refine Lib.hid ?_
    refine HS3.mono ?_
    intro e w4 hst
    obtain ⟨rfl, uv4, hk4, -, -, hb4⟩ := hk3.step hst k2
    simp only [erV_0]
    have hb04 : Below w.heap.size w w4 := hb03.trans hb4
    have HL4 := lat_some hk4 (by omega) i2 v2
    clear HS3 hst hk3 e1 e2 e3
    go_wp2_with (go_at_call 9; refine Hid.out ?_)
    refine Lib.hid ?_
    refine HL4.mono ?_
    rintro e w5 ⟨A5, c5, rfl, hA5, hb5⟩
    have hk5 := hk4.keep hb5
    have hb05 : Below w.heap.size w w5 := hb04.trans (hb5.mono hb04.size)
    have HLi := list_is hk5 (by omega) i2
    clear HL4 hk4
    go_wp2_with (go_at_call 11; refine Hid.out ?_)
    refine Lib.hid ?_
    refine HLi.mono ?_
    rintro e w6 ⟨A6, c6, rfl, -, hg6, hc6, hb6⟩
    have hb06 : Below w.heap.size w w6 := hb05.trans (hb6.mono hb05.size)
    obtain ⟨g6, rfl, -, -, hcell⟩ := hg6 (by simp)
    have q6 : w6.cell? ⟨g6, 0, none⟩ = some (.int .i64 id) := hcell 0 (by simp)
    have e1 := (hA5.keep hb6).convert b.length c5 rfl
    have e2 := (hb.keep hb06).convert b.length c2 rfl
    have e3 := str_eqT b
    have hl2 : ([id] ++ [id + more]).length = 2 := rfl
    rw [hl2]
    clear HLi hA5 hk5 hg6 hcell hl2
    generalize (⟨b.toArray⟩ : ByteArray) = sb at *
    go_wp2_with fail
    all_goals first
      | (go_ret; exact ⟨rfl, hb06⟩)
      | skip
  · have hT' : True := trivial
    go_enter Tryz.func5, Tryz.ntmps5
    go_wp2_with (go_at_call 6; refine HN.mono ?_; rintro e w1 ⟨rfl, hd1, hb1⟩)
    all_goals first
      | (go_ret; exact ⟨rfl, hb1⟩)
      | (exfalso; exact hgood ⟨by omega, by omega, by omega, by omega, by omega, by omega⟩)
end Go.Proofs.YtcmnijpcinmbbaaGreatDoor
