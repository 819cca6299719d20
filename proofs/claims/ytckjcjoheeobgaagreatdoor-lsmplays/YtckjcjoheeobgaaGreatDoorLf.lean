/- Put, Del. -/
import Derived.Test.YtckjcjoheeobgaaGreatDoorLe
import Derived.Deep.RegionHeld3
namespace Go.Proofs.YtckjcjoheeobgaaGreatDoor
open Go.RowKit
open Go.Maps (string_keyed)
open Go.Shelf Go.Sort
set_option linter.unusedVariables false

/-- An entry of its own in memory, all else as it was. -/
structure KE (w : World) (key val : ByteArray) (dead : Bool) (u : World) : Prop where
  os : u.os = w.os
  tape : u.tape = w.tape
  output : u.output = w.output
  size : w.heap.size + 1 ≤ u.heap.size
  block : ∀ k, k < w.heap.size → u.heap[k]? = w.heap[k]?
  own : u.heap[w.heap.size]? = some (.cells #[.string key, .string val, .bool dead] 40 (0, 0))
section
variable {w u u' : World} {key val : ByteArray} {dead : Bool}
theorem KE.new (w : World) (key val : ByteArray) (dead : Bool) : KE w key val dead (w.alloc (.cells #[.string key, .string val, .bool dead] 40)) :=
  ⟨rfl, rfl, rfl, by simp, fun k hk => Below.heap_alloc _ _ _ hk, (MapKept.heap_alloc w _).1⟩
theorem KE.drew (h : KE w key val dead u) : KE w key val dead u.drew := ⟨h.os, h.tape, h.output, h.size, h.block, h.own⟩
theorem KE.alloc (h : KE w key val dead u) (o : Obj) : KE w key val dead (u.alloc o) :=
  ⟨h.os, h.tape, h.output, by have := h.size; simp; omega, fun k hk => (Below.heap_alloc _ _ _ (by have := h.size; omega)).trans (h.block k hk), (Below.heap_alloc _ _ _ (by have := h.size; omega)).trans h.own⟩
theorem KE.call (h : KE w key val dead u) (hb : Below u.heap.size u u') : KE w key val dead u' :=
  ⟨hb.os.trans h.os, hb.tape.trans h.tape, hb.output.trans h.output, Nat.le_trans h.size hb.size, fun k hk => (hb.block k (by have := h.size; omega)).trans (h.block k hk), (hb.block _ (by have := h.size; omega)).trans h.own⟩
theorem KE.set0 (h : KE w key val dead u) : KE w key val dead (u.setCell ⟨w.heap.size, 0, none⟩ (.string key)) :=
  ⟨h.os, h.tape, h.output, by have := h.size; simpa using this, fun k hk => (Below.heap_setCell _ _ _ _ (show k ≠ w.heap.size by omega)).trans (h.block k hk), by simp [World.setCell, Array.getElem?_modify, h.own]⟩
theorem KE.set1 (h : KE w key val dead u) : KE w key val dead (u.setCell ⟨w.heap.size, 1, none⟩ (.string val)) :=
  ⟨h.os, h.tape, h.output, by have := h.size; simpa using this, fun k hk => (Below.heap_setCell _ _ _ _ (show k ≠ w.heap.size by omega)).trans (h.block k hk), by simp [World.setCell, Array.getElem?_modify, h.own]⟩
theorem KE.setN (h : KE w key val dead u) (p : Addr) (hp : w.heap.size + 1 ≤ p.block) (x : Value) : KE w key val dead (u.setCell p x) :=
  ⟨h.os, h.tape, h.output, by have := h.size; simpa using this, fun k hk => (Below.heap_setCell _ _ _ _ (show k ≠ p.block by omega)).trans (h.block k hk), (Below.heap_setCell _ _ _ _ (show w.heap.size ≠ p.block by omega)).trans h.own⟩
theorem KE.c0 (h : KE w key val dead u) : u.cell? ⟨w.heap.size, 0, none⟩ = some (.string key) := by simp [World.cell?, h.own]
theorem KE.c1 (h : KE w key val dead u) : u.cell? ⟨w.heap.size, 1, none⟩ = some (.string val) := by simp [World.cell?, h.own]
theorem KE.c2 (h : KE w key val dead u) : u.cell? ⟨w.heap.size, 2, none⟩ = some (.bool dead) := by simp [World.cell?, h.own]
theorem KE.fz (h : KE w key val dead u) (o : Nat) : u.frozen? ⟨w.heap.size, o, none⟩ = false := by simp [World.frozen?, h.own]
theorem KE.below (h : KE w key val dead u) : Below w.heap.size w u := ⟨h.os, h.tape, h.output, by have := h.size; omega, h.block⟩
end
theorem LastIs.put {w : World} {M : Nat} {l : List En} (h : LastIs w M l) (hr : Ris l) (hl : l.length ≤ 1000000000) (e : En) (hk : e.key.size ≤ maxLen) :
    ∃ w', (Instr.mapUpdate 63 (.map (some M)) (.string e.key) (enV e)).run Tryz.prog w = .ok () w' ∧ LastIs w' M (setE l e) ∧ w.grownBy w' (some M) := by
  obtain ⟨D, h1, h2⟩ := h
  obtain ⟨w', e1, e2, e3⟩ := h1.update (e := 40) (t := 63) hKs Tryz.underlying63 (by unfold maxLen; omega) (key_of e.key hk) (enR_mk e)
  refine ⟨w', e1, LastIs.mk e2 ?_ (setE_ris hr), e3⟩
  have := h2.put e.key e
  have e4 : stE (setE l e) = fun q => if q.data.toList = e.key.data.toList then some e else stE l q := by
    funext q
    rw [stE_at, setE_at hr]; rfl
  rw [e4]; exact this
theorem FrIs.put {w : World} {M : Nat} {fr : List (List UInt8)} (h : FrIs w M fr) (hn : fr.Nodup) (hl : fr.length ≤ 1000) (k : ByteArray) (hk : k.size ≤ maxLen) :
    ∃ w', (Instr.mapUpdate 64 (.map (some M)) (.string k) (.agg #[])).run Tryz.prog w = .ok () w' ∧ FrIs w' M (addF fr k.data.toList) ∧ w.grownBy w' (some M) := by
  obtain ⟨D, h1, h2⟩ := h
  obtain ⟨w', e1, e2, e3⟩ := h1.update (t := 64) hKs Tryz.underlying64 (by unfold maxLen; omega) (key_of k hk) unitElem_mk
  refine ⟨w', e1, FrIs.mk e2 (fun x => ?_) (addF_nd hn), e3⟩
  have hm := h1.isMap
  by_cases hx : x = k.data.toList
  · subst hx
    rw [Maps.has_put_same hm (show WideAt.IsKeyLit (.string _) from trivial)]
    symm
    rw [decide_eq_true_eq, addF_mem]; exact .inl rfl
  · rw [Maps.has_put_other (fun e => hx (by injection e)), h2 x]
    rw [Bool.eq_iff_iff, decide_eq_true_eq, decide_eq_true_eq, addF_mem]
    constructor
    · exact .inr
    · rintro (h3 | h3)
      · exact absurd h3 hx
      · exact h3
theorem fr_small {s : Sto} (ok : SOk s) : s.fr.length ≤ 400 := by
  have e1 : s.fr.length = ((frE s).map kl).length := nd_len ok.nd (ris_nd (ris_filter ok.ris _)) (fun x => by
    rw [List.mem_map]
    simp only [frE, List.mem_filter, decide_eq_true_eq]
    constructor
    · intro hx
      obtain ⟨e, he⟩ := Option.isSome_iff_exists.1 (ok.has x hx)
      obtain ⟨e1, e2⟩ := atK_mem he
      exact ⟨e, ⟨e1, by rw [e2]; exact hx⟩, e2⟩
    · rintro ⟨e, ⟨-, e2⟩, rfl⟩; exact e2)
  rw [e1, List.length_map]
  exact Nat.le_trans (List.length_filter_le _ _) ok.len
theorem bad_ways (e : En) : (badEn e = true ∧ 120 < (e.key.size : Int)) ∨ (badEn e = true ∧ ¬ 120 < (e.key.size : Int) ∧ 120 < (e.val.size : Int)) ∨ (badEn e = false ∧ ¬ 120 < (e.key.size : Int) ∧ ¬ 120 < (e.val.size : Int)) := by
  unfold badEn
  by_cases h1 : 120 < e.key.size
  · left; simp [h1]; omega
  · right
    by_cases h2 : 120 < e.val.size
    · left; simp [h2]; omega
    · right; simp [h1, h2]; omega
section
variable {lo : Nat} {w w' : World} {S Ml Mf : Nat} {v v1 : Value} {s : Sto}
def SetEnd (lo S Ml Mf : Nat) (w : World) (s : Sto) (e : En) (r : Ending) (w' : World) : Prop :=
  r = .returned (errV (setErr s e)) ∧ (∃ v', StAt lo w' S Ml Mf v' (putS s e)) ∧ FrS lo w w'
theorem SetEnd.no (h : StAt lo w S Ml Mf v s) {e : En} {k : Nat} (hk : setErr s e = k) (hk0 : k ≠ 0) (hb : Below w.heap.size w w') : SetEnd lo S Ml Mf w s e (.returned (errV k)) w' := by
  refine ⟨by rw [hk], ⟨v, ?_⟩, FrS.below hb h.loW⟩
  unfold putS
  rw [hk, if_neg hk0]
  exact h.keep hb

set_option maxRecDepth 100000 in
set_option maxHeartbeats 2000000 in
theorem set_bad (h : StAt lo w S Ml Mf v s) (e : En) (hb : badEn e = true) :
    Calls Tryz.prog 26 #[.pointer (some ⟨S, 0, none⟩), enV e] w (SetEnd lo S Ml Mf w s e) := by
  have hR : setErr s e = 1 := by unfold setErr; rw [if_pos hb]
  have HP := Lib.hid (fun u (hb : Below w.heap.size w u) => SetEnd.no h hR (by decide) hb)
  generalize hQ : SetEnd lo S Ml Mf w s e = Q at *
  have ws := bad_ways e
  rw [hb] at ws
  simp only [Bool.true_eq_false, true_and, false_and, or_false] at ws
  obtain ⟨key, val, dead⟩ := e
  simp only [enV] at *
  clear hb hR h hQ
  rcases ws with ws | ⟨ws1, ws2⟩
  all_goals
    go_enter Tryz.func26, Tryz.ntmps26
    go_wp2_with fail
    exact HP.out _ ((Below.refl _ _).alloc (Nat.le_refl _) _)

set_option maxRecDepth 100000 in
set_option maxHeartbeats 2000000 in
theorem set_full (h : StAt lo w S Ml Mf v s) (ok : SOk s) (e : En) (hb : badEn e = false) (hh : hasK s.all (kl e) = false) (hl : 400 ≤ s.all.length) :
    Calls Tryz.prog 26 #[.pointer (some ⟨S, 0, none⟩), enV e] w (SetEnd lo S Ml Mf w s e) := by
  have hR : setErr s e = 4 := by unfold setErr; rw [if_neg (by rw [hb]; decide), if_pos ⟨hh, hl⟩]
  have HP := Lib.hid (fun u (hb : Below w.heap.size w u) => SetEnd.no h hR (by decide) hb)
  generalize hQ : SetEnd lo S Ml Mf w s e = Q at *
  have ws := bad_ways e
  rw [hb] at ws
  simp only [Bool.false_eq_true, false_and, true_and, false_or] at ws
  obtain ⟨ws1, ws2⟩ := ws
  have hks := (en_len hb).2
  obtain ⟨c0, c1, c2, c3⟩ := h.cell
  have lS := h.lt
  obtain ⟨key, val, dead⟩ := e
  have hk1 : key.size ≤ maxLen := by have := hks.1; unfold maxLen; simp only at this; omega
  have hlk := fun (u : World) (hu : KE w key val dead u) => h.last.look key hk1 u (hu.block _ lS.2.1)
  have hln := fun (u : World) (hu : KE w key val dead u) => h.last.len ok.ris u (hu.block _ lS.2.1)
  have hhn : atK s.all key.data.toList = none := by
    have : hasK s.all key.data.toList = false := hh
    unfold hasK at this
    simpa using this
  rw [hhn] at hlk
  simp only [Option.getD_none, Option.isSome_none, enV, en0] at hlk
  have hl4 : (400 : Int) ≤ s.all.length := by omega
  have l1 := lS.1
  simp only [enV] at *
  clear hb hR h hQ hh hhn hks lS c0 c2 c3
  go_enter Tryz.func26, Tryz.ntmps26
  go_wp2_with fail
  have hKE := KE.new w key val dead
  have d1 : (w.alloc (.cells #[.string key, .string val, .bool dead] 40)).cell? ⟨S, 1, none⟩ = some (.map (some Ml)) := by rw [World.cell?_of_block (w := w) (Below.heap_alloc _ _ _ l1)]; exact c1
  go_region_held3 (fun u => KE w key val dead u ∧ u.cell? ⟨S, 1, none⟩ = some (.map (some Ml)) ∧ u.cell? ⟨w.heap.size, 0, none⟩ = some (.string key)) (first | (refine ⟨?_, ?_, ?_⟩ <;> (first | exact hKE.drew | ((repeat (first | with_reducible exact hKE | with_reducible apply KE.drew | with_reducible apply KE.alloc | with_reducible refine KE.setN ?_ _ (by simp) _)); done) | go_keep))) (fail)
  all_goals
    go_wp2_with fail
    exact HP.out _ (Below.drew (((Below.refl _ _).alloc (Nat.le_refl _) _).alloc (by simp) _))

set_option maxRecDepth 100000 in
set_option maxHeartbeats 4000000 in
theorem set_yes (h : StAt lo w S Ml Mf v s) (ok : SOk s) (hn : s.tabs.length ≤ 100000) (e : En) (hb : badEn e = false) (hsh : shapeE e = false) (hh : hasK s.all (kl e) = true ∨ s.all.length < 400) :
    Calls Tryz.prog 26 #[.pointer (some ⟨S, 0, none⟩), enV e] w (SetEnd lo S Ml Mf w s e) := by
  have hR : setErr s e = 0 := by
    unfold setErr; rw [if_neg (by rw [hb]; decide), if_neg ?_]
    rintro ⟨h1, h2⟩
    rcases hh with hh | hh
    · rw [h1] at hh; cases hh
    · omega
  have HP : Hid (∀ u v', StAt lo u S Ml Mf v' (setS s e) → FrS lo w u → SetEnd lo S Ml Mf w s e (.returned .nilIface) u) := Lib.hid (fun u v' h1 h2 => ⟨by rw [hR]; rfl, ⟨v', by unfold putS; rw [if_pos hR]; exact h1⟩, h2⟩)
  have okR := setR_ok ok hR hsh
  generalize hQ : SetEnd lo S Ml Mf w s e = Q at *
  have ws := bad_ways e
  rw [hb] at ws
  simp only [Bool.false_eq_true, false_and, true_and, false_or] at ws
  obtain ⟨ws1, ws2⟩ := ws
  have hks := (en_len hb).2
  obtain ⟨c0, c1, c2, c3⟩ := h.cell
  have lS := h.lt
  obtain ⟨key, val, dead⟩ := e
  have hk1 : key.size ≤ maxLen := by have := hks.1; unfold maxLen; simp only at this; omega
  have hlk := fun (u : World) (hu : KE w key val dead u) => h.last.look key hk1 u (hu.block _ lS.2.1)
  have hln := fun (u : World) (hu : KE w key val dead u) => h.last.len ok.ris u (hu.block _ lS.2.1)
  obtain ⟨y, hy⟩ : ∃ y, y = (atK s.all key.data.toList).getD en0 := ⟨_, rfl⟩
  rw [← hy] at hlk
  obtain ⟨yk, yv, yd⟩ := y
  simp only [enV] at hlk
  have hx : hasK s.all (kl (⟨key, val, dead⟩ : En)) = (atK s.all key.data.toList).isSome := rfl
  rw [hx] at hh
  have l1 := lS.1
  have HS := Lib.hid h
  simp only [enV] at *
  have hkz : key.size ≤ 281474976710656 := by have := hks.1; omega
  have hvz : val.size ≤ 281474976710656 := by have := hks.2; omega
  have hfr := fr_small ok
  have hlim := ok.hi
  have hff : (setR s ⟨key, val, dead⟩).fr = addF s.fr key.data.toList := rfl
  have okS := Lib.hid ok
  have okR' := Lib.hid okR
  have hor : ((atK s.all key.data.toList).isSome = true ∧ True) ∨ ((atK s.all key.data.toList).isSome = false ∧ ¬ (400 : Int) ≤ s.all.length) := by
    cases hb2 : (atK s.all key.data.toList).isSome with
    | true => exact .inl ⟨rfl, trivial⟩
    | false =>
      rw [hb2] at hh
      rcases hh with hh | hh
      · cases hh
      · exact .inr ⟨rfl, by omega⟩
  clear hb hR h hQ hh hx hks lS c0 c2 c3 hy ok okR
  rcases hor with ⟨hb2, hl4⟩ | ⟨hb2, hl4⟩
  all_goals
    rw [hb2] at hlk
    clear hb2
    go_enter Tryz.func26, Tryz.ntmps26
    go_wp2_with fail
    have hKE := KE.new w key val dead
    have d1 : (w.alloc (.cells #[.string key, .string val, .bool dead] 40)).cell? ⟨S, 1, none⟩ = some (.map (some Ml)) := by rw [World.cell?_of_block (w := w) (Below.heap_alloc _ _ _ l1)]; exact c1
    go_region_held3 (fun u => KE w key val dead u ∧ u.cell? ⟨S, 1, none⟩ = some (.map (some Ml)) ∧ u.cell? ⟨w.heap.size, 0, none⟩ = some (.string key)) (first | (refine ⟨?_, ?_, ?_⟩ <;> (first | exact hKE.drew | ((repeat (first | with_reducible exact hKE | with_reducible apply KE.drew | with_reducible apply KE.alloc | with_reducible refine KE.setN ?_ _ (by simp) _)); done) | go_keep))) (fail)
    all_goals (go_wp2_with fail)
    all_goals
      have hU : KE w key val dead ((w.alloc (.cells #[.string key, .string val, .bool dead] 40)).alloc (.cells #[.string yk, .string yv, .bool yd] 40)).drew := (hKE.alloc _).drew
      generalize ((w.alloc (.cells #[.string key, .string val, .bool dead] 40)).alloc (.cells #[.string yk, .string yv, .bool yd] 40)).drew = U at *
      clear hKE d1 hlk hln
      have f0 := hU.fz 0
      have f1 := hU.fz 1
      have e0 := hU.c0
      have e1 := hU.c1
      go_region_held3 (fun u => KE w key val dead u ∧ u.cell? ⟨w.heap.size, 0, none⟩ = some (.string key) ∧ u.cell? ⟨w.heap.size, 1, none⟩ = some (.string val)) (first | (refine (fun hk : KE w key val dead _ => ⟨hk, hk.c0, hk.c1⟩) ?_; (repeat (first | with_reducible assumption | with_reducible apply KE.drew | with_reducible apply KE.set0 | with_reducible apply KE.set1)); done)) (first | (go_at_call 44; refine (cloneStr_any _ _ (by omega)).mono ?_; rintro e u1 ⟨rfl, hbu⟩; have hKu := KE.call (w := w) (key := key) (val := val) (dead := dead) (by (repeat (first | with_reducible assumption | with_reducible apply KE.drew)); done) hbu; have fu0 := hKu.fz 0; have fu1 := hKu.fz 1))
    all_goals
      have hV0 : KE w key val dead ((u1.setCell ⟨w.heap.size, 0, none⟩ (.string key)).setCell ⟨w.heap.size, 1, none⟩ (.string val)) := hKu.set0.set1
      generalize ((u1.setCell ⟨w.heap.size, 0, none⟩ (.string key)).setCell ⟨w.heap.size, 1, none⟩ (.string val)) = V at *
      clear hU hKu fu0 fu1 f0 f1 e0 e1 hbu
      have hSV := HS.out.keep hV0.below
      have hFV := FrS.below hV0.below HS.out.loW
      obtain ⟨p0, p1, p2, p3⟩ := hSV.cell
      have e0 := hV0.c0
      have e1 := hV0.c1
      have e2 := hV0.c2
      obtain ⟨w1, hrun1, hl1, hg1⟩ := (show LastIs V.drew Ml s.all from hSV.last).put okS.out.ris (by have := okS.out.len; omega) ⟨key, val, dead⟩ hk1
      simp only [enV] at hrun1
      obtain ⟨hS1, hF1⟩ := (hSV.drewN 1).turnedL hg1 hl1
      have lM := HS.out.lt
      have nS1 : S ≠ Ml := HS.out.neL
      have q0 : w1.cell? ⟨w.heap.size, 0, none⟩ = some (.string key) := by
        rw [World.cell?_of_block (w := V) (hg1.block w.heap.size (show w.heap.size < V.heap.size from by have := hV0.size; omega) (fun e => by injection e with e; have := lM.2.1; omega))]; exact e0
      obtain ⟨r0, r1, r2, r3⟩ := hS1.cell
      obtain ⟨w2, hrun2, hl2, hg2⟩ := (show FrIs w1.drew Mf s.fr from hS1.fresh).put okS.out.nd (by omega) key hk1
      obtain ⟨hS2, hF2⟩ := (hS1.drewN 1).turnedF hg2 hl2
      have hS2' : StAt lo w2.drew S Ml Mf v (setR s ⟨key, val, dead⟩) := hS2.drewN 1
      have hFin : FrS lo w w2.drew := (hFV.trans (show FrS lo V w1 from ⟨hF1.os, hF1.tape, hF1.output, hF1.size, hF1.low, hF1.kept⟩)).trans (show FrS lo w1 w2.drew from ⟨hF2.os, hF2.tape, hF2.output, hF2.size, hF2.low, hF2.kept⟩)
      have hlF := hS2'.fresh.len okR'.out.nd w2.drew rfl
      obtain ⟨t0, t1, t2, t3⟩ := hS2'.cell
      have HS2 := Lib.hid hS2'
      clear hV0 hSV hl1 hg1 hS1 hF1 hl2 hg2 hS2 hF2 hS2' hFV lM p0 p2 p3 r0 r1 r3 t1 t3
      have hlim' : ((setR s ⟨key, val, dead⟩).lim : Int) = s.lim := rfl
      rw [hlim'] at t0
      clear hlim'
      by_cases hlt : (setR s ⟨key, val, dead⟩).fr.length < s.lim
      · have hset : setS s ⟨key, val, dead⟩ = setR s ⟨key, val, dead⟩ := by unfold setS; rw [if_pos hlt]
        have HSt := Lib.hid hset
        rw [hff] at hlF hlt
        have hlt' : ((addF s.fr key.data.toList).length : Int) < s.lim := by omega
        clear hset hlt
        generalize (addF s.fr key.data.toList).length = m at *
        go_wp2_with fail
        go_region
        go_wp2_with fail
        go_region
        go_wp2_with fail
        go_region
        go_wp2_with fail
        exact HP.out _ v (by rw [HSt.out]; exact HS2.out) hFin
      · have hset : setS s ⟨key, val, dead⟩ = flushS (setR s ⟨key, val, dead⟩) := by unfold setS; rw [if_neg hlt]
        have HSt := Lib.hid hset
        have HFl := Lib.hid (flush_any HS2.out okR'.out hn)
        rw [hff] at hlF hlt
        have hlt' : ¬ ((addF s.fr key.data.toList).length : Int) < s.lim := by omega
        clear hset hlt
        generalize (addF s.fr key.data.toList).length = m at *
        go_wp2_with fail
        go_region
        go_wp2_with fail
        go_region
        go_wp2_with fail
        go_region
        go_wp2_with (go_at_call 11; refine Hid.out ?_)
        refine Lib.hid ?_
        refine HFl.out.mono ?_
        rintro e w3 ⟨rfl, ⟨v3, h3⟩, f3⟩
        go_wp2_with fail
        exact HP.out _ v3 (by rw [HSt.out]; exact h3) (hFin.trans f3)
end
end Go.Proofs.YtckjcjoheeobgaaGreatDoor
