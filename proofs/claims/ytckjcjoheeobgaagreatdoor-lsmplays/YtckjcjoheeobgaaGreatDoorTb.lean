/- A table's bytes. -/
import Derived.Test.YtckjcjoheeobgaaGreatDoorTa
import Derived.Test.YtckjcjoheeobgaaGreatDoorFe
namespace Go.Proofs.YtckjcjoheeobgaaGreatDoor
open Go.RowKit

/-- append of bytes to what is owned: blocks that hold no bytes stay. -/
theorem append_bk {w : World} {ops : Array Oper} {rest : List Oper} {o : Oper} {a : Act} {Q : Exit → Act → World → Prop} (hgd : o.guard = none) (s x : Operand)
    (ho : o.op = .call { callee := .builtin .append, args := #[s, x], argTypes := #[56, 56] })
    (B : Nat) (v : Value) (l : List UInt8) (hs : a.eval s = v) (hown : Own B w v l) (ao : Option Addr) (m c : Nat) (r : List UInt8) (hx : a.eval x = .slice ao m c) (hm : m = r.length) (hr : BsAt w ao r) (hc : ao = none → c = 0)
    (hlim : l.length + r.length ≤ 140737488355328) (hB : B ≤ w.heap.size)
    (hK : ∀ v' w', Own B w' v' (l ++ r) → Below B w w' → KpB w w' → wpList Tryz.prog ops Q rest (a.put o.dst v') w') : wpList Tryz.prog ops Q (o :: rest) a w := by
  obtain ⟨i0, hi, hz0, hz1, hz2⟩ := info_parts infoByte
  subst hm
  cases ao with
  | none =>
    have hc0 := hc rfl
    subst hc0
    have hr0 : r = [] := by
      rcases hr with h | ⟨b, o, h, -⟩
      · exact h
      · cases h
    subst hr0
    refine wpList_plain hgd fun K hK' => ?_
    have hrun := run_append_owned_none (P := Tryz.prog) w B 56 o.type 5 i0 1 Tryz.underlying56 hi v _ _ hown
    have hx' : a.eval x = .slice none 0 0 := hx
    unfold Oper.wp
    simp [execOp, ho, resolve, invoke, builtin, hs, hx', hrun, Result.andThen]
    exact hK' _ _ (by simpa using hK v w (by simpa using hown) (Below.refl _ _) (KpB.refl _))
  | some ad =>
    refine wpList_append_own w hgd s x 56 ho B 5 i0 (.int .u8 0) 1 1 Tryz.underlying56 hi hz0 hz1 hz2 rfl (by decide) v l.length (bcs l) hs hown ad r.length c (bcs r) hx (by simp [bcs]) ?_ (by intro u hu; simp only [bcs, List.mem_map] at hu; obtain ⟨c8, -, rfl⟩ := hu; rfl) (by unfold maxLen; omega) (by omega) hB ?_
    · intro j u hj
      rcases hr with rfl | ⟨b, o, h, hcell⟩
      · simp [bcs] at hj
      · simp only [Option.some.injEq] at h
        subst h
        simp only [bcs, List.getElem?_map, Option.map_eq_some_iff] at hj
        obtain ⟨c8, h1, rfl⟩ := hj
        obtain ⟨hlt, rfl⟩ := List.getElem?_eq_some_iff.1 h1
        rw [show (⟨b, o, none⟩ : Addr).add j = ⟨b, o + j, none⟩ from by simp [Addr.add]]
        exact hcell j hlt
    · intro v' w' own' grow _
      exact hK v' w' (own_app own' rfl) ((Below.refl _ _).grown grow hB (fun k hk => (hown.lt k hk).1)) ((KpB.refl w).grown grow hown)

set_option maxRecDepth 100000 in
set_option maxHeartbeats 2000000 in
theorem withEntry_any (B : Nat) (w : World) (v : Value) (l0 : List UInt8) (e : En) (ho : Own B w v l0) (hB : B ≤ w.heap.size) (hb : badEn e = false) (hlim : l0.length ≤ 200000) :
    Calls Tryz.prog 47 #[v, enV e] w fun r w' => ∃ v', r = .returned v' ∧ Own B w' v' (l0 ++ enB e) ∧ Below B w w' := by
  obtain ⟨key, val, dead⟩ := e
  have hsz := en_len hb
  simp only [enV, enB] at hsz ⊢
  obtain ⟨hs1, hs2, hs3⟩ := hsz
  have hkl := kB_len key
  have hvl := kB_len val
  have hkt := num_ten (n := (key.size : Int)) (by omega) (by omega)
  have hvt := num_ten (n := (val.size : Int)) (by omega) (by omega)
  have hdt := num_ten (deadI_bd dead).1.1 (deadI_bd dead).1.2
  have HT := fun (u : World) => text_any u key (by omega)
  have HV := fun (u : World) => text_any u val (by omega)
  have HD := fun (u : World) => num_any u (deadI dead) (deadI_bd dead).1
  have C0 := new_block w (.cells #[.string key, .string val, .bool dead] 40)
  have hty : ∀ cur, Obj.cells #[.string key, .string val, .bool dead] 40 ≠ .cells cur 5 (0, 0) := by
    intro cur h; injection h with h1 h2; exact absurd h2 (by decide)
  have o1 : Own B (w.alloc (.cells #[.string key, .string val, .bool dead] 40)) v l0 := ho.alloc _
  have b1 : Below B w (w.alloc (.cells #[.string key, .string val, .bool dead] 40)) := (Below.refl _ _).alloc hB _
  have z1 : B ≤ (w.alloc (.cells #[.string key, .string val, .bool dead] 40)).heap.size := by simp; omega
  generalize hden : deadI dead = dn at *
  have HDN := Lib.hid hden
  clear ho hb hden
  have hrest : ∀ (u : World), u = w.alloc (.cells #[.string key, .string val, .bool dead] 40) → True := fun _ _ => trivial
  clear hrest
  cases dead
  all_goals
    have hdn := HDN.out
    simp only [deadI, Bool.false_eq_true, if_false, if_true] at hdn
    subst hdn
    go_enter Tryz.func47, Tryz.ntmps47
    go_wp2_with (go_at_call 68; refine (HT _).mono ?_; rintro r w2 ⟨t2, rfl, ot, bt⟩; refine Hid.out ?_)
    refine Lib.hid ?_
    obtain ⟨A2, c2, rfl⟩ := own_slice ot
    have C2 := KpB.of_below bt _ _ C0 hty
    have o2 := own_keep o1 bt
    have B2 := b1.trans (bt.mono z1)
    have z2 : B ≤ w2.heap.size := by have := bt.size; omega
    have s2 := own_bs ot rfl
    clear bt o1 b1 C0 ot HT z1
    go_wp2_with (at_builtin; refine append_bk rfl _ _ rfl B v l0 rfl o2 A2 _ c2 (kB key) rfl rfl s2.1 s2.2.2.1 (by omega) z2 ?_)
    intro v3 w3 o3 b3 k3
    have C3 := k3 _ _ C2 hty
    have z3 : B ≤ w3.heap.size := by have := b3.size; omega
    have B3 := B2.trans b3
    clear k3 C2 b3 B2 s2 o2 z2
    go_wp2_with (go_at_call 46; refine (HD _).mono ?_; rintro r w4 ⟨t4, rfl, ot, bt⟩; refine Hid.out ?_)
    refine Lib.hid ?_
    obtain ⟨A4, c4, rfl⟩ := own_slice ot
    have C4 := KpB.of_below bt _ _ C3 hty
    have o4 := own_keep o3 bt
    have B4 := B3.trans (bt.mono z3)
    have z4 : B ≤ w4.heap.size := by have := bt.size; omega
    have s4 := own_bs ot rfl
    clear bt o3 B3 C3 ot HD z3
    go_wp2_with (at_builtin; refine append_bk rfl _ _ rfl B v3 _ rfl o4 A4 _ c4 _ rfl rfl s4.1 s4.2.2.1 (by simp; omega) z4 ?_)
    intro v5 w5 o5 b5 k5
    have C5 := k5 _ _ C4 hty
    have z5 : B ≤ w5.heap.size := by have := b5.size; omega
    have B5 := B4.trans b5
    have g5 : w5.cell? ⟨w.heap.size, 1, none⟩ = some (.string val) := by simp [World.cell?, C5]
    clear k5 C4 b5 B4 s4 o4 z4
    go_wp2_with (go_at_call 68; refine (HV _).mono ?_; rintro r w6 ⟨t6, rfl, ot, bt⟩; refine Hid.out ?_)
    refine Lib.hid ?_
    obtain ⟨A6, c6, rfl⟩ := own_slice ot
    have o6 := own_keep o5 bt
    have B6 := B5.trans (bt.mono z5)
    have z6 : B ≤ w6.heap.size := by have := bt.size; omega
    have s6 := own_bs ot rfl
    clear bt o5 B5 C5 ot HV z5
    go_wp2_with (at_builtin; refine append_bk rfl _ _ rfl B v5 _ rfl o6 A6 _ c6 (kB val) rfl rfl s6.1 s6.2.2.1 (by simp; omega) z6 ?_)
    intro v7 w7 o7 b7 k7
    have B7 := B6.trans b7
    clear k7 b7 B6 s6 o6 z6
    go_wp2_with fail
    go_ret
    exact ⟨v7, rfl, by simpa using o7, B7⟩

/-- How Build ends. -/
def BdEnd (w : World) (L : List En) (e : Ending) (w' : World) : Prop :=
  (if entsE L = 0 then ∃ v, e = .returned (.tuple #[v, .nilIface]) ∧ Own w.heap.size w' v (buildB L) else e = .returned (.tuple #[.slice none 0 0, .iface 54 (.int .i64 (entsE L))])) ∧ Below w.heap.size w w'
set_option maxRecDepth 100000 in
set_option maxHeartbeats 2000000 in
theorem build_any (w : World) (la : Option Addr) (c : Nat) (L : List En) (h : CsAt w la (ecells L)) (hlen : L.length ≤ 9223372036854775807) (hks : ∀ r ∈ L, r.key.size ≤ 9223372036854775807 ∧ r.val.size ≤ 9223372036854775807) :
    Calls Tryz.prog 29 #[.slice la L.length c] w fun e w' => BdEnd w L e w' := by
  have HC := check_any w la c L h hlen hks
  cases hE : entsE L with
  | succ n =>
    rw [hE] at HC
    rw [show errV (n + 1) = .iface 54 (.int .i64 ((n + 1 : Nat) : Int)) from rfl] at HC
    have HP : Hid (∀ w', Below w.heap.size w w' → BdEnd w L (.returned (.tuple #[.slice none 0 0, .iface 54 (.int .i64 ((n + 1 : Nat) : Int))])) w') := Lib.hid (fun w' hb => ⟨by rw [if_neg (by omega), hE], hb⟩)
    generalize ((n + 1 : Nat) : Int) = z at HC HP
    clear h hE
    go_enter Tryz.func29, Tryz.ntmps29
    go_wp2_with (go_at_call 45; refine HC.mono ?_; rintro e w1 ⟨rfl, b1⟩)
    go_ret2
    exact HP.out _ b1
  | zero =>
    rw [hE] at HC
    obtain ⟨hl4, hfi, -⟩ := ents_zero hE
    have hsz := fun k => all_len (l := L.take k) (fun e he => hfi e (List.mem_of_mem_take he))
    have hll := lst_len hE
    have hten := num_ten (n := (L.length : Int)) (by omega) (by omega)
    have HN := fun (u : World) => num_any u (L.length : Int) ⟨by omega, by omega⟩
    have HP : Hid (∀ v w', Own w.heap.size w' v (buildB L) → Below w.heap.size w w' → BdEnd w L (.returned (.tuple #[v, .nilIface])) w') := Lib.hid (fun v w' ho hb => ⟨by rw [if_pos hE]; exact ⟨v, rfl, ho⟩, hb⟩)
    rw [show errV 0 = .nilIface from rfl] at HC
    clear hE
    obtain ⟨B, hB⟩ : ∃ B, B = w.heap.size := ⟨_, rfl⟩
    have hB' : B ≤ w.heap.size := by omega
    have hkeep : ∀ w', Below B w w' → CsAt w' la (ecells L) := fun w' hb => h.keep (by rw [← hB]; exact hb)
    rw [← hB] at HC HP
    clear hB h
    go_enter Tryz.func29, Tryz.ntmps29
    go_wp2_with (go_at_call 45; refine HC.mono ?_; rintro e w1 ⟨rfl, b1⟩; refine Hid.out ?_)
    refine Lib.hid ?_
    have hz1 : B ≤ w1.heap.size := by have := b1.size; omega
    go_wp2_with (go_at_call 46; refine (HN w1).mono ?_; rintro e w2 ⟨v2, rfl, o2, b2⟩; refine Hid.out ?_)
    refine Lib.hid ?_
    have o2' := own_mono o2 hz1
    have b2' := b1.trans (b2.mono hz1)
    clear HC HN o2 b1 b2
    go_wp2_with fail
    go_loopw [5, 18] (fun v i wr => ∃ k : Nat, k ≤ L.length ∧ i = .int .i64 k ∧ Own B wr v (numB L.length ++ allB enB (L.take k)) ∧ Below B w wr) (fun _ i _ => L.length - (intOf i).toNat)
    case atStart => exact ⟨0, by omega, rfl, by simpa [allB] using o2', b2'⟩
    case round =>
      obtain ⟨k, hk, rfl, hown, hb⟩ := hrel
      clear o2' b2'
      by_cases hlt : k < L.length
      · obtain ⟨b, o, rfl, c0, c1, c2⟩ := ens_at (hkeep _ hb) k hlt
        have hsn := allB_snoc enB L k hlt
        have hbad := (hfi _ (List.getElem_mem hlt)).1
        have hszk := hsz k
        have htl : (L.take k).length ≤ 400 := by simp; omega
        have hql : (numB L.length ++ allB enB (L.take k)).length ≤ 200000 := by simp only [List.length_append]; omega
        have hBz := hb.size
        have hBr : B ≤ wr.heap.size := by omega
        have HW := withEntry_any B (wr.alloc (.cells #[.string L[k].key, .string L[k].val, .bool L[k].dead] 40)) _ _ L[k] (hown.alloc _) (by simp; omega) hbad hql
        have bA : Below B w (wr.alloc (.cells #[.string L[k].key, .string L[k].val, .bool L[k].dead] 40)) := hb.alloc hBr _
        have HSN := Lib.hid hsn
        clear hsn hsz hkeep hfi hbad hszk
        generalize hl0 : numB L.length ++ allB enB (L.take k) = l0 at *
        have HL0 := Lib.hid hl0
        clear hl0
        generalize L[k] = r at *
        obtain ⟨key, val, dead⟩ := r
        simp only [enV] at c0 c1 c2 HW bA HSN
        go_wp2_with (go_at_call 47; refine HW.mono ?_; rintro e u1 ⟨v1, rfl, o1, b1⟩; refine Hid.out ?_)
        refine Lib.hid ?_
        have bB := bA.trans b1
        clear b1 bA HW hown
        go_wp2_with fail
        go_roundw
        case rel => exact ⟨k + 1, by omega, by go_num, by rw [HSN.out, ← List.append_assoc, HL0.out]; exact o1, bB⟩
        case measure => simp [intOf]; omega
      · have e : L.take k = L := List.take_of_length_le (by omega)
        rw [e] at hown
        obtain ⟨l1, hl1⟩ : ∃ l1, l1 = numB L.length ++ allB enB L := ⟨_, rfl⟩
        rw [← hl1] at hown
        have hl1n : l1.length + 14 ≤ 140737488355328 := by have := hll; unfold lstB at this; rw [hl1]; omega
        have HB1 := Lib.hid (show buildB L = sealB l1 by rw [hl1]; rfl)
        clear hl1
        have hzr : B ≤ wr.heap.size := by have := hb.size; omega
        obtain ⟨A3, c3, rfl⟩ := own_slice hown
        have s3 := own_bs hown rfl
        have HS := seal_any wr A3 c3 l1 s3.1 hl1n s3.2.2.1
        clear hown s3 hsz hkeep
        go_wp2_with (go_at_call 48; refine HS.mono ?_; rintro e u1 ⟨v1, rfl, o1, b1⟩; refine Hid.out ?_)
        refine Lib.hid ?_
        have bB := hb.trans (b1.mono hzr)
        have oB := own_mono o1 hzr
        clear HS b1 o1
        go_wp2_with fail
        go_ret2
        exact HP.out _ _ (by rw [HB1.out]; exact oB) bB
end Go.Proofs.YtckjcjoheeobgaaGreatDoor
