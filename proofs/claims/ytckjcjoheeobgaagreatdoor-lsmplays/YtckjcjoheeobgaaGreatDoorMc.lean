/- The document's Put. -/
import Derived.Test.YtckjcjoheeobgaaGreatDoorMb
import Derived.Deep.RegionLaw
import Derived.Deep.DeepCutAuto
namespace Go.Proofs.YtckjcjoheeobgaaGreatDoor
open Go.RowKit
set_option linter.unusedVariables false

theorem str_eq {a b : ByteArray} (h : a.data.toList = b.data.toList) : (a.toList == b.toList) = true := by
  rw [Lib.toList_data, Lib.toList_data, h]; simp
theorem str_ne {a b : ByteArray} (h : a.data.toList ≠ b.data.toList) : (a.toList == b.toList) = false := by
  rw [Lib.toList_data, Lib.toList_data]; simpa using h
theorem frV_at {w : World} {A : Option Addr} {F : List ByteArray} (h : CsAt w A (frV F)) (k : Nat) (hk : k < F.length) : ∃ b o, A = some ⟨b, o, none⟩ ∧ w.cell? ⟨b, o + k, none⟩ = some (.string F[k]) := by
  obtain ⟨b, o, rfl, hc⟩ := h.at (fun e => by have := congrArg List.length e; simp [frV] at this; subst this; simp at hk)
  exact ⟨b, o, rfl, hc k _ (by simp [frV, hk])⟩
set_option maxHeartbeats 1000000 in
theorem has_any (w : World) (A : Option Addr) (c : Nat) (F : List ByteArray) (h : CsAt w A (frV F)) (hl : F.length ≤ 1000000) (k : ByteArray) :
    Calls Tryz.prog 28 #[.slice A F.length c, .string k] w fun e w' => e = .returned (.bool (decide (k.data.toList ∈ F.map (·.data.toList)))) ∧ ∃ m, w' = w.drewN m := by
  have HC := Lib.hid h
  obtain ⟨r, hr⟩ : ∃ r, r = decide (k.data.toList ∈ F.map (·.data.toList)) := ⟨_, rfl⟩
  rw [← hr]
  have HR := Lib.hid hr
  clear h hr
  go_enter Tryz.func28, Tryz.ntmps28
  go_wp2_with fail
  go_loop [5] (fun i => ∃ j : Nat, j ≤ F.length ∧ i = .int .i64 j ∧ ∀ t (ht : t < F.length), t < j → F[t].data.toList ≠ k.data.toList) (fun i => F.length - (intOf i).toNat)
  case atStart => exact ⟨0, by omega, rfl, fun t ht h => by omega⟩
  case round =>
    obtain ⟨j, hj, rfl, hall⟩ := hrel
    have HA := Lib.hid hall
    clear hall
    by_cases hlt : j < F.length
    · obtain ⟨b, o, rfl, c0⟩ := frV_at HC.out j hlt
      by_cases he : F[j].data.toList = k.data.toList
      · have hs := str_eq he
        have hin : r = true := by rw [HR.out]; simp only [decide_eq_true_eq, List.mem_map]; exact ⟨F[j], List.getElem_mem hlt, he⟩
        have HI := Lib.hid hin
        generalize F[j] = x at *
        clear he hin
        go_wp2_with fail
        go_ret
        exact ⟨by rw [HI.out]; rfl, 0, rfl⟩
      · have hs := str_ne he
        have HE := Lib.hid he
        generalize hx : F[j] = x at c0 hs
        clear he hx
        go_wp2_with fail
        go_round
        case rel => exact ⟨j + 1, by omega, by go_num, fun t ht h => by
          by_cases e : t = j
          · subst e; exact HE.out
          · exact HA.out t ht (by omega)⟩
        case measure => simp [intOf]; omega
    · have hin : r = false := by
        rw [HR.out]; simp only [decide_eq_false_iff_not, List.mem_map, not_exists, not_and]
        intro x hx e
        obtain ⟨t, ht, rfl⟩ := List.getElem_of_mem hx
        exact HA.out t ht (by omega) e
      have HI := Lib.hid hin
      clear hin
      go_wp2_with fail
      go_ret
      exact ⟨by rw [HI.out]; rfl, 0, rfl⟩

/-- append, as one step of a region. -/
theorem step_append_run {P : Program} {ops : Array Oper} {o : Oper} {a : Act} {w : World} {K : Act → World → Prop} {Q : Exit → Act → World → Prop} {E : Prop} (hg : o.guard = none) (s x : Operand) (t : TypeId)
    (hop : o.op = .call { callee := .builtin .append, args := #[s, x], argTypes := #[t, t] }) (v1 v2 r : Value) (w' : World) (hs : a.eval s = v1) (hx : a.eval x = v2) (hrun : (Builtin.append_ #[t, t] o.type #[v1, v2]).run P w = .ok r w') (h : K (a.put o.dst r) w') :
    if Region.wanted o (yielded ops a.tmps) = true then Oper.wp P o a w K Q else E := by
  have hw : Region.wanted o (yielded ops a.tmps) = true := by simp [Region.wanted, hg]
  rw [if_pos hw]
  unfold Oper.wp execOp
  simp only [hop, resolve, invoke, builtin, Sem.run_bind, Sem.run_pure, Result.andThen_ok, List.map_toArray, List.map_cons, List.map_nil, hs, hx, hrun]
  exact h
theorem infoStr : (Tryz.prog.info? 9).map (fun i => (i.zero, i.size, i.bytes)) = some (some (.string ⟨#[]⟩), 1, 16) := by kernel_rfl

section
variable {lo : Nat} {w w' : World} {B : Nat} {A : Option Addr} {c : Nat} {v v' : Value} {s : Sto} {F : List ByteArray}
def MPEnd (lo B : Nat) (w : World) (s : Sto) (e : En) (r : Ending) (w' : World) : Prop := r = .returned (.int .i64 (setErr s e : Nat)) ∧ (∃ A' c' v' F', MAt lo w' B A' c' v' (putS s e) F') ∧ FrM lo w w'
theorem MPEnd.no (h : MAt lo w B A c v s F) {e : En} {k : Nat} (hk : setErr s e = k) (hk0 : k ≠ 0) (hb : Below w.heap.size w w') : MPEnd lo B w s e (.returned (.int .i64 (k : Nat))) w' := by
  refine ⟨by rw [hk], ⟨A, c, v, F, ?_⟩, FrM.below hb h.loW⟩
  unfold putS
  rw [hk, if_neg hk0]
  exact h.keep hb
set_option maxRecDepth 100000 in
set_option maxHeartbeats 2000000 in
theorem mput_bad (h : MAt lo w B A c v s F) (e : En) (hb : badEn e = true) :
    Calls Tryz.prog 9 #[.pointer (some ⟨B, 0, none⟩), enV e] w (MPEnd lo B w s e) := by
  have hR : setErr s e = 1 := by unfold setErr; rw [if_pos hb]
  have HP := Lib.hid (fun u (hb : Below w.heap.size w u) => MPEnd.no h hR (by decide) hb)
  generalize hQ : MPEnd lo B w s e = Q at *
  have ws := bad_ways e
  rw [hb] at ws
  simp only [Bool.true_eq_false, true_and, false_and, or_false] at ws
  obtain ⟨key, val, dead⟩ := e
  simp only [enV] at *
  clear hb hR h hQ
  rcases ws with ws | ⟨ws1, ws2⟩
  all_goals
    go_enter Tryz.func9, Tryz.ntmps9
    go_wp2_with fail
    exact HP.out _ ((Below.refl _ _).alloc (Nat.le_refl _) _)
theorem has_take {l : List En} {k : List UInt8} (j : Nat) (hj : j < l.length) : hasK (l.take (j + 1)) k = (hasK (l.take j) k || decide (kl l[j] = k)) := by
  unfold hasK
  rw [List.take_succ_eq_append_getElem hj, atK_app]
  cases h : atK (l.take j) k with
  | some x => simp
  | none =>
    rw [Option.none_or, atK_cons]
    by_cases he : kl l[j] = k
    · rw [if_pos he]; simp [he]
    · rw [if_neg he]; simp [he, atK]

set_option maxRecDepth 100000 in
set_option maxHeartbeats 4000000 in
theorem mput_ok (h : MAt lo w B A c v s F) (hl4 : s.all.length ≤ 400) (hF4 : s.fr.length ≤ 400) (hn : s.tabs.length ≤ 100000) (e : En) (hb : badEn e = false) :
    Calls Tryz.prog 9 #[.pointer (some ⟨B, 0, none⟩), enV e] w (MPEnd lo B w s e) := by
  have ws := bad_ways e
  rw [hb] at ws
  simp only [Bool.false_eq_true, false_and, true_and, false_or] at ws
  obtain ⟨ws1, ws2⟩ := ws
  have HM := Lib.hid h
  have hlt := h.lt
  have HN := Lib.hid (fun u (hk : setErr s e = 4) (hb : Below w.heap.size w u) => MPEnd.no h hk (by decide) hb)
  have HE4 : Hid (hasK s.all (kl e) = false → 400 ≤ s.all.length → setErr s e = 4) := Lib.hid (fun h1 h2 => by unfold setErr; rw [if_neg (by rw [hb]; decide), if_pos ⟨h1, h2⟩])
  have HE0 : Hid ((hasK s.all (kl e) = true ∨ s.all.length < 400) → setErr s e = 0) := Lib.hid (fun h1 => by
    unfold setErr; rw [if_neg (by rw [hb]; decide), if_neg ?_]
    rintro ⟨h2, h3⟩
    rcases h1 with h1 | h1
    · rw [h1] at h2; cases h2
    · omega)
  have HY : Hid (∀ u A' c' v' F', setErr s e = 0 → MAt lo u B A' c' v' (setS s e) F' → FrM lo w u → MPEnd lo B w s e (.returned (.int .i64 0)) u) := Lib.hid (fun u A' c' v' F' h0 h1 h2 => ⟨by rw [h0]; rfl, ⟨A', c', v', F', by unfold putS; rw [if_pos h0]; exact h1⟩, h2⟩)
  generalize hQ : MPEnd lo B w s e = Q at *
  obtain ⟨hh, hhe⟩ : ∃ hh, hh = hasK s.all (kl e) := ⟨_, rfl⟩
  have HH := Lib.hid hhe
  have HSe := Lib.hid (fun (u : World) (hW : CsAt u A (ecells s.all)) => sset_any u A c s.all e hW (by omega))
  have HSR : Hid (setR s e = ⟨s.lim, setE s.all e, addF s.fr (kl e), s.tabs⟩) := Lib.hid rfl
  have HSS : Hid (setS s e = if (addF s.fr (kl e)).length < s.lim then setR s e else flushS (setR s e)) := Lib.hid rfl
  have hle5 := setE_le e s.all
  obtain ⟨key, val, dead⟩ := e
  simp only [enV] at *
  clear h hQ hhe hb
  go_enter Tryz.func9, Tryz.ntmps9
  go_wp2_with fail
  go_loopw [5, 6] (fun th i wr => ∃ j : Nat, j ≤ s.all.length ∧ i = .int .i64 j ∧ th = .bool (hasK (s.all.take j) (kl (⟨key, val, dead⟩ : En))) ∧ KE w key val dead wr) (fun _ i _ => s.all.length - (intOf i).toNat)
  case atStart => exact ⟨0, by omega, rfl, rfl, KE.new w key val dead⟩
  case round =>
    obtain ⟨j, hj, rfl, rfl, hke⟩ := hrel
    have hm := HM.out.keep hke.below
    obtain ⟨c0, c1, c2, c3⟩ := hm.cell
    have e0 := hke.c0
    by_cases hjl : j < s.all.length
    · have hjl' : (j : Int) < s.all.length := by omega
      obtain ⟨b, o, rfl, k0, k1, k2⟩ := ens_at hm.all.1 j hjl
      have hnx := has_take (k := kl (⟨key, val, dead⟩ : En)) j hjl
      have HNx := Lib.hid hnx
      cases ht : hasK (s.all.take j) (kl (⟨key, val, dead⟩ : En)) with
      | true =>
        have HT := Lib.hid ht
        clear hnx ht hm c1 c2 c3 k1 k2
        go_wp2_with fail
        go_quiet (fail)
        have hke2 : KE w key val dead (wr.drewN nq) := ⟨hke.os, hke.tape, hke.output, hke.size, hke.block, hke.own⟩
        go_wp2_with fail
        go_roundw
        case rel => exact ⟨j + 1, by omega, by go_num, by rw [HNx.out, HT.out]; rfl, hke2⟩
        case measure => simp [intOf]; omega
      | false =>
        have HT := Lib.hid ht
        by_cases hse : (s.all[j]).key.data.toList = key.data.toList
        · have hsb := str_eq hse
          have hd : decide (kl s.all[j] = kl (⟨key, val, dead⟩ : En)) = true := decide_eq_true hse
          have HD := Lib.hid hd
          generalize hx : (s.all[j]).key = x at k0 hsb
          clear hnx ht hm c1 c2 c3 k1 k2 hse hd hx
          go_wp2_with fail
          go_quiet (fail)
          have hke2 : KE w key val dead (wr.drewN nq) := ⟨hke.os, hke.tape, hke.output, hke.size, hke.block, hke.own⟩
          go_wp2_with fail
          go_roundw
          case rel => exact ⟨j + 1, by omega, by go_num, by rw [HNx.out, HT.out, HD.out]; rfl, hke2⟩
          case measure => simp [intOf]; omega
        · have hsb := str_ne hse
          have hd : decide (kl s.all[j] = kl (⟨key, val, dead⟩ : En)) = false := decide_eq_false hse
          have HD := Lib.hid hd
          generalize hx : (s.all[j]).key = x at k0 hsb
          clear hnx ht hm c1 c2 c3 k1 k2 hse hd hx
          go_wp2_with fail
          go_quiet (fail)
          have hke2 : KE w key val dead (wr.drewN nq) := ⟨hke.os, hke.tape, hke.output, hke.size, hke.block, hke.own⟩
          go_wp2_with fail
          go_roundw
          case rel => exact ⟨j + 1, by omega, by go_num, by rw [HNx.out, HT.out, HD.out]; rfl, hke2⟩
          case measure => simp [intOf]; omega
    · have et : s.all.take j = s.all := List.take_of_length_le (by omega)
      rw [et]
      have hjl' : ¬ (j : Int) < s.all.length := by omega
      rw [← HH.out]
      by_cases hfull : hh = false ∧ 400 ≤ s.all.length
      · obtain ⟨rfl, hf2⟩ := hfull
        have hf3 : (400 : Int) ≤ s.all.length := by omega
        have hE := Lib.hid (HE4.out HH.out.symm hf2)
        clear hm c1 c2 c3 et
        go_wp2_with fail
        exact HN.out _ hE.out hke.below
      · have h0 : setErr s ⟨key, val, dead⟩ = 0 := HE0.out (by
          rw [← HH.out]
          cases hh with
          | true => exact .inl rfl
          | false => exact .inr (by by_cases h4 : s.all.length < 400; exact h4; exact absurd ⟨rfl, by omega⟩ hfull))
        have H0 := Lib.hid h0
        have HMr := Lib.hid hm
        obtain ⟨A2, k2, hv⟩ := hm.form
        subst hv
        have e1 := hke.c1
        have e2 := hke.c2
        have hwd : CsAt wr.drew A (ecells s.all) := hm.all.1
        have HPu := Lib.hid (HSe.out wr.drew hwd)
        have hFl := hm.len
        have hBn : B ≠ w.heap.size := by omega
        have hor : (hh = true ∧ True) ∨ (hh = false ∧ ¬ (400 : Int) ≤ s.all.length) := by
          cases hh with
          | true => exact .inl ⟨rfl, trivial⟩
          | false => exact .inr ⟨rfl, fun h4 => hfull ⟨rfl, by omega⟩⟩
        clear hm c2 c3 et h0 hfull
        have hF5 : F.length ≤ 400 := by omega
        have HFl := Lib.hid hFl
        clear hFl
        rcases hor with ⟨rfl, hl5⟩ | ⟨rfl, hl5⟩
        all_goals
          go_wp2_with fail
          go_region_with (go_at_call 27; refine HPu.out.mono ?_; rintro r u1 ⟨v1, rfl, o1, b1⟩; obtain ⟨A1, k1, rfl⟩ := row_slice o1; have hmu := HMr.out.keep (show Below wr.heap.size wr u1 from ⟨b1.os, b1.tape, b1.output, b1.size, b1.block⟩); have d0 := hmu.cell.1; have f0 := hmu.fz 0; have hWu : WtAt u1 A1 (setE s.all ⟨key, val, dead⟩) := ⟨(own_cs o1 (ecells_len _)).1, LyAt.of o1⟩; have hku := hke.call (show Below wr.heap.size wr u1 from ⟨b1.os, b1.tape, b1.output, b1.size, b1.block⟩); have HMU := Lib.hid hmu; have HWU := Lib.hid hWu; have HKU := Lib.hid hku; clear o1 b1 hmu hWu hku)
          all_goals
            obtain ⟨hX, fX⟩ := HMU.out.set0 (c' := k1) HWU.out
            have FX : FrM lo w (u1.setCell ⟨B, 0, none⟩ (.slice A1 (setE s.all ⟨key, val, dead⟩).length k1)) := (FrM.below HKU.out.below HM.out.loW).trans fX
            have x0 : (u1.setCell ⟨B, 0, none⟩ (.slice A1 (setE s.all ⟨key, val, dead⟩).length k1)).cell? ⟨w.heap.size, 0, none⟩ = some (.string key) := by
              rw [World.cell?_of_block (w := u1) (Below.heap_setCell _ _ _ _ (Ne.symm hBn))]; exact HKU.out.c0
            have xs : w.heap.size < (u1.setCell ⟨B, 0, none⟩ (.slice A1 (setE s.all ⟨key, val, dead⟩).length k1)).heap.size := by have := HKU.out.size; simp; omega
            generalize u1.setCell ⟨B, 0, none⟩ (.slice A1 (setE s.all ⟨key, val, dead⟩).length k1) = X at *
            obtain ⟨p0, p1, p2, p3⟩ := hX.cell
            have hcs : CsAt X A2 (frV F) := (own_cs hX.row (by simp [frV])).1
            have HHs := Lib.hid (fun n => has_any (X.drewN n) A2 k2 F hcs (by omega) key)
            have HX := Lib.hid hX
            clear fX d0 f0 HMU HWU HKU HPu hX c0 e0 e1 e2 hcs
            by_cases hin : key.data.toList ∈ s.fr
            · have hdec : decide (key.data.toList ∈ F.map (·.data.toList)) = true := by rw [HM.out.fr]; simpa using hin
              rw [hdec] at HHs
              have had : addF s.fr (kl (⟨key, val, dead⟩ : En)) = s.fr := by unfold addF; rw [if_pos (show kl (⟨key, val, dead⟩ : En) ∈ s.fr from hin)]
              rw [had] at HSS HSR
              have hq : Hid (setR s ⟨key, val, dead⟩ = ⟨s.lim, setE s.all ⟨key, val, dead⟩, s.fr, s.tabs⟩) := HSR
              clear hdec had hin
              go_wp2_with fail
              go_quiet ((go_at_call 28; exact Calls.quiet_of (HHs.out _)))
              go_wp2_with fail
              have y1 : (X.drewN nq).cell? ⟨B, 1, none⟩ = some (.slice A2 F.length k2) := p1
              have y3 : (X.drewN nq).cell? ⟨B, 3, none⟩ = some (.int .i64 (s.lim : Nat)) := p3
              have HX2 := Lib.hid (HX.out.drewN nq)
              have FX2 : FrM lo w (X.drewN nq) := ⟨FX.os, FX.tape, FX.output, FX.size, FX.low, FX.kept⟩
              clear p0 p1 p2 p3 HHs x0
              generalize X.drewN nq = Y at *
              by_cases hlim : s.fr.length < s.lim
              · have hl6 : ¬ (s.lim : Int) ≤ F.length := by have := HFl.out; omega
                have hset : Hid (setS s ⟨key, val, dead⟩ = setR s ⟨key, val, dead⟩) := Lib.hid (by rw [HSS.out, if_pos hlim])
                go_quiet (fail)
                have HX3 := Lib.hid (HX2.out.drewN nq)
                have FX3 : FrM lo w (Y.drewN nq) := ⟨FX2.os, FX2.tape, FX2.output, FX2.size, FX2.low, FX2.kept⟩
                go_wp2_with fail
                exact HY.out _ A1 k1 _ F H0.out (by rw [hset.out, hq.out]; exact HX3.out) FX3
              · have hl6 : (s.lim : Int) ≤ F.length := by have := HFl.out; omega
                have hset : Hid (setS s ⟨key, val, dead⟩ = flushS (setR s ⟨key, val, dead⟩)) := Lib.hid (by rw [HSS.out, if_neg hlim])
                go_quiet (fail)
                have HX3 := Lib.hid (HX2.out.drewN nq)
                have FX3 : FrM lo w (Y.drewN nq) := ⟨FX2.os, FX2.tape, FX2.output, FX2.size, FX2.low, FX2.kept⟩
                have HMf := Lib.hid (mflush_any HX3.out hn)
                go_wp2_with (go_at_call 12; refine Hid.out ?_)
                refine Lib.hid ?_
                refine HMf.out.mono ?_
                rintro r u4 ⟨rfl, ⟨v4, hm4⟩, f4⟩
                have H4 := Lib.hid hm4
                have F4 := FX3.trans f4
                clear hm4 f4
                go_wp2_with fail
                exact HY.out _ A1 k1 v4 [] H0.out (by rw [hset.out, hq.out]; exact H4.out) F4
            · have hdec : decide (key.data.toList ∈ F.map (·.data.toList)) = false := by rw [HM.out.fr]; simpa using hin
              rw [hdec] at HHs
              have had : addF s.fr (kl (⟨key, val, dead⟩ : En)) = s.fr ++ [key.data.toList] := by unfold addF; rw [if_neg (show ¬ kl (⟨key, val, dead⟩ : En) ∈ s.fr from hin)]; rfl
              rw [had] at HSS HSR
              have hq : Hid (setR s ⟨key, val, dead⟩ = ⟨s.lim, setE s.all ⟨key, val, dead⟩, s.fr ++ [key.data.toList], s.tabs⟩) := HSR
              clear hdec had hin
              obtain ⟨i0, hi, hz0, hz1, hz2⟩ := info_parts infoStr
              go_wp2_with fail
              go_quiet ((go_at_call 28; exact Calls.quiet_of (HHs.out _)))
              go_wp2_with fail
              have y1 : (X.drewN nq).cell? ⟨B, 1, none⟩ = some (.slice A2 F.length k2) := p1
              have y5 : (X.drewN nq).cell? ⟨w.heap.size, 0, none⟩ = some (.string key) := x0
              have HX2 := Lib.hid (HX.out.drewN nq)
              have FX2 : FrM lo w (X.drewN nq) := ⟨FX.os, FX.tape, FX.output, FX.size, FX.low, FX.kept⟩
              have ys : w.heap.size < (X.drewN nq).heap.size := xs
              clear p0 p1 p2 p3 HHs x0 xs
              generalize X.drewN nq = Y at *
              have hBY := HX2.out.lt
              have bA : Below Y.heap.size Y (Y.alloc (.cells #[.string key] 9)).drew := Below.drew ((Below.refl _ Y).alloc (Nat.le_refl _) _)
              have hmA := HX2.out.keep bA
              obtain ⟨v3, w3, hrun, own3, gr3, -, -⟩ := run_append_own_at (P := Tryz.prog) (w := (Y.alloc (.cells #[.string key] 9)).drew) lo 31 31 9 i0 (.string ⟨#[]⟩) 1 16 Tryz.underlying31 hi hz0 hz1 hz2 rfl (by decide) (.slice A2 F.length k2) F.length (frV F) hmA.row ⟨Y.heap.size, 0, none⟩ 1 1 [.string key] rfl (cell_one_new Y _ _) (by intro u' hu; simp at hu; subst hu; rfl) (by unfold maxLen; omega) (by omega) hmA.loW
              obtain ⟨A3, k3, rfl⟩ := row_slice own3
              obtain ⟨hm3, g3⟩ := hmA.grown1 (F' := F ++ [key]) gr3 (by unfold frV at own3 ⊢; rw [List.map_append, List.length_append]; exact own3)
              have z1 : w3.cell? ⟨B, 1, none⟩ = some (.slice A2 F.length k2) ∧ w3.frozen? ⟨B, 1, none⟩ = false := by
                have hb3 : w3.heap[B]? = (Y.alloc (.cells #[.string key] 9)).drew.heap[B]? := gr3.block B hmA.lt (fun e => by
                  rcases hmA.row.2 with ⟨h0, -⟩ | ⟨g', cap, cur, h0, hb', hc, -⟩
                  · rw [h0] at e; simp [Value.ownBlock] at e
                  · rw [h0] at e; simp [Value.ownBlock] at e; subst e; rw [hmA.blk] at hc; injection hc with hc; injection hc with _ hc; revert hc; decide)
                rw [hmA.blk] at hb3
                exact ⟨by simp [World.cell?, hb3], by simp [World.frozen?, hb3]⟩
              obtain ⟨z1, z2⟩ := z1
              have FX3 := (FX2.trans (FrM.below bA HX2.out.loW)).trans g3
              have hfr3 : (F ++ [key]).map (·.data.toList) = s.fr ++ [key.data.toList] := by rw [List.map_append, HM.out.fr]; rfl
              rw [hfr3] at hm3
              obtain ⟨q0, q1, q2, q3⟩ := hm3.cell
              have HM3 := Lib.hid hm3
              have HRn := Lib.hid hrun
              clear hrun own3 gr3 hmA bA hm3 g3 hfr3 FX2 HX2 HX
              go_region_law (refine step_append_run (by rfl) _ _ _ (by rfl) _ _ _ _ (by rfl) (by rfl) (by exact HRn.out) ?_)
              all_goals
                go_wp2_with fail
                generalize w3.setCell ⟨B, 1, none⟩ (.slice A3 (F.length + 1) k3) = Z at *
                by_cases hlim : (s.fr ++ [key.data.toList]).length < s.lim
                · have hl6 : ¬ (s.lim : Int) ≤ (F.length : Int) + 1 := by have := HFl.out; simp at hlim; omega
                  have hset : Hid (setS s ⟨key, val, dead⟩ = setR s ⟨key, val, dead⟩) := Lib.hid (by rw [HSS.out, if_pos hlim])
                  clear hlim
                  go_quiet (fail)
                  have HX3 := Lib.hid (HM3.out.drewN nq)
                  have FX4 : FrM lo w (Z.drewN nq) := ⟨FX3.os, FX3.tape, FX3.output, FX3.size, FX3.low, FX3.kept⟩
                  go_wp2_with fail
                  exact HY.out _ A1 k1 _ (F ++ [key]) H0.out (by rw [hset.out, hq.out]; exact HX3.out) FX4
                · have hl6 : (s.lim : Int) ≤ (F.length : Int) + 1 := by have := HFl.out; simp at hlim; omega
                  have hset : Hid (setS s ⟨key, val, dead⟩ = flushS (setR s ⟨key, val, dead⟩)) := Lib.hid (by rw [HSS.out, if_neg hlim])
                  clear hlim
                  go_quiet (fail)
                  have HX3 := Lib.hid (HM3.out.drewN nq)
                  have FX4 : FrM lo w (Z.drewN nq) := ⟨FX3.os, FX3.tape, FX3.output, FX3.size, FX3.low, FX3.kept⟩
                  have HMf := Lib.hid (mflush_any HX3.out hn)
                  go_wp2_with (go_at_call 12; refine Hid.out ?_)
                  refine Lib.hid ?_
                  refine HMf.out.mono ?_
                  rintro r u4 ⟨rfl, ⟨v4, hm4⟩, f4⟩
                  have H4 := Lib.hid hm4
                  have F4 := FX4.trans f4
                  clear hm4 f4
                  go_wp2_with fail
                  exact HY.out _ A1 k1 v4 [] H0.out (by rw [hset.out, hq.out]; exact H4.out) F4
end
end Go.Proofs.YtckjcjoheeobgaaGreatDoor
