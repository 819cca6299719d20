/- The document's All: the walk. -/
import Derived.Test.YthadeccnibnioaaGreatDoorDz1
import Derived.Test.YthadeccnibnioaaGreatDoorTz
import Derived.Test.YthadeccnibnioaaGreatDoorDbz
import Derived.Deep.DeepCutAuto
import Derived.Deep.CutBlock
import Derived.BigQuiet
import Derived.Deep.RegionHeld3
namespace Go.Proofs.YthadeccnibnioaaGreatDoor
open Go.RowKit
set_option linter.unusedVariables false
def DAll (w : World) (L : List Nd) (D : List (List Rc)) (e : Ending) (w' : World) : Prop :=
  if dataE L D ≠ 0 then e = .returned (.tuple #[.slice none 0 0, .int .i64 (dataE L D : Nat)]) ∧ Below w.heap.size w w'
  else match docFlow L D [] with
    | none => e = .returned (.tuple #[.slice none 0 0, .int .i64 4]) ∧ Below w.heap.size w w'
    | some hs => ∃ A c, e = .returned (.tuple #[.slice A hs.length c, .int .i64 0]) ∧ OuAt w' w.heap.size (.slice A hs.length c) hs ∧ Below w.heap.size w w'
structure MainI (w wr : World) (L : List Nd) (D : List (List Rc)) (i : Nat) (hs : List (List Rc)) (v : Value) : Prop where
  fl : docFlow L D [] = docFlow (L.drop i) (D.drop (srcs (L.take i))) hs
  ou : OuAt wr w.heap.size v hs
  ok : ∀ l ∈ hs, ∀ r ∈ l, RcOk r
  le : ∀ l ∈ hs, l.length ≤ 2000
  b : Below w.heap.size w wr
structure InI (wn wk : World) (nd : Nd) (m0 : List Rc) (xs : List (Rc × Int)) (v11 v12 : Value) (mine : List Rc) (HL : List Hd) : Prop where
  mn : mine = m0 ++ (docRun nd xs).1
  st : StIs HL (docRun nd xs).2
  uq : UqH HL
  hl : HL.length ≤ xs.length
  rr : RrAt wk v11 mine
  he : HeAt wk v12 HL
  o1 : ∀ b, v11.ownBlock = some b → wn.heap.size ≤ b
  o2 : ∀ b, v12.ownBlock = some b → wn.heap.size ≤ b
  b : Below wn.heap.size wn wk
theorem InI.keep {wn wk wk' : World} {nd : Nd} {m0 : List Rc} {xs : List (Rc × Int)} {v11 v12 : Value} {mine : List Rc} {HL : List Hd} (h : InI wn wk nd m0 xs v11 v12 mine HL) (hb : Below wk.heap.size wk wk') : InI wn wk' nd m0 xs v11 v12 mine HL :=
  ⟨h.mn, h.st, h.uq, h.hl, h.rr.keep hb, h.he.keep hb, h.o1, h.o2, h.b.trans (hb.mono h.b.size)⟩
theorem str_neD {a b : ByteArray} (h : a ≠ b) : (a.toList == b.toList) = false := by
  rw [beq_eq_false_iff_ne]
  intro e
  rw [ByteArray.toList_eq, ByteArray.toList_eq] at e
  exact h (Go.WideShapes.bytes_inj e)
theorem in_step {wn w5 : World} {nd : Nd} {xs : List (Rc × Int)} {x : Rc × Int} {v11 v12 got : Value} {mine pl : List Rc} {HL : List Hd} {σ : Sts} (hmn : mine = [] ++ (docRun nd xs).1) (hst : docRun nd (xs ++ [x]) = ((docRun nd xs).1 ++ pl, σ)) (hS : StIs HL σ) (hU : UqH HL) (hl : HL.length ≤ (xs ++ [x]).length) (hR : RrAt w5 v11 mine) (hH : HeAt w5 v12 HL) (o1 : ∀ b, v11.ownBlock = some b → wn.heap.size ≤ b) (o2 : ∀ b, v12.ownBlock = some b → wn.heap.size ≤ b) (hb : Below wn.heap.size wn w5) (hg : RrAt w5 got pl) (hlen : mine.length + pl.length ≤ 1000000000) :
    ∃ A6 c6 w6, (Builtin.append_ #[112, 112] 112 #[v11, got]).run Tryz.prog w5 = .ok (.slice A6 (mine.length + pl.length) c6) w6 ∧ InI wn w6 nd [] (xs ++ [x]) (.slice A6 (mine.length + pl.length) c6) v12 (mine ++ pl) HL := by
  obtain ⟨A6, c6, w6, hrun, hown, hgr, hat⟩ := rr_app hR (hg.src Tryz.underlying112 (rcells_one pl)) hlen
  refine ⟨A6, c6, w6, hrun, ⟨by rw [hst, hmn]; simp, by rw [hst]; exact hS, hU, hl, hown, hH.block (fun b hb' => hgr.block b (hH.lt hb').1 (fun e => ?_)), fun b hb' => ?_, o2, ⟨hgr.os.trans hb.os, hgr.tape.trans hb.tape, hgr.output.trans hb.output, Nat.le_trans hb.size hgr.size, fun k hk => (hgr.block k (by have := hb.size; omega) (fun e => by have := o1 k e.symm; omega)).trans (hb.block k hk)⟩⟩⟩
  · obtain ⟨-, cur, hc⟩ := hH.lt hb'
    obtain ⟨-, cur', hc'⟩ := hR.lt e.symm
    rw [hc] at hc'; simp at hc'
  · rcases hat b hb' with e | e
    · exact o1 b e
    · have := hb.size; omega
theorem froms_at (nd : Nd) (hs : List (List Rc)) (k : Nat) (hk : k < nd.fs.length) {fn : Nat} (hf : nd.fs[k] = (fn : Int)) (hfn : fn < hs.length) : ∃ h : k < (fromsP nd hs).length, (fromsP nd hs)[k] = hs[fn] := by
  refine ⟨by simpa [fromsP] using hk, ?_⟩
  simp [fromsP, hf, List.getD, hfn]
theorem froms_len (nd : Nd) (hs : List (List Rc)) : (fromsP nd hs).length = nd.fs.length := by simp [fromsP]
theorem froms_mem {nd : Nd} {hs : List (List Rc)} {l : List Rc} (h : l ∈ fromsP nd hs) : l ∈ hs ∨ l = [] := by
  unfold fromsP at h
  obtain ⟨f, -, rfl⟩ := List.mem_map.1 h
  by_cases hl : f.toNat < hs.length
  · left; simp [List.getD, hl]
  · right; simp [List.getD, Nat.le_of_not_lt hl]
theorem str_eqD (a : ByteArray) : (a.toList == a.toList) = true := by simp
theorem node_src {ah : List Nd} {nd : Nd} (h : nodeP ah nd = 0) (hk : nd.k = 1) : nd.fs = [] := by
  unfold nodeP at h
  split at h
  · cases h
  · split at h
    · cases h
    · rename_i h2
      unfold inLo inHi at h2
      rw [if_pos hk, if_pos hk] at h2
      exact List.eq_nil_of_length_eq_zero (by omega)
set_option maxRecDepth 100000 in
set_option maxHeartbeats 40000000 in
theorem dall_any {w : World} {la : Option Addr} {L : List Nd} {c : Nat} (hL : NdsAt w la L) {da : Option Addr} {D : List (List Rc)} {dc : Nat} (hD : RssAt w da D) (hl : D.length ≤ 9223372036854775807) (hll : ∀ l ∈ D, l.length ≤ 9223372036854775807) (hk : ∀ l ∈ D, ∀ r ∈ l, r.key.size ≤ 9223372036854775807) (hn : ∀ l ∈ D, ∀ r ∈ l, Rng r.num) :
    Calls Tryz.prog 58 #[.slice la L.length c, .slice da D.length dc] w (DAll w L D) := by
  have HDt := ddata_any (c := c) (dc := dc) hL hD hl hll hk
  generalize hR : DAll w L D = R
  have HR := Lib.hid hR
  clear hR
  by_cases hE : dataE L D = 0
  · have h0 : jobP L = 0 := by
      unfold dataE at hE
      split at hE
      · rename_i h; exact absurd hE h
      · rename_i h; simpa using h
    have h1 : checkP D (srcs L) = 0 := by
      unfold dataE at hE
      rw [if_neg (by simp [h0])] at hE
      exact hE
    have hdl : D.length = srcs L := by
      unfold checkP at h1
      split at h1
      · cases h1
      · rename_i h2; simpa using h2
    have hdp : dataP D = 0 := by
      unfold checkP at h1
      split at h1
      · cases h1
      · exact h1
    obtain ⟨hok, h300⟩ := data_ok hdp hn
    have hj := job_ok h0
    have hnode := all_at hj.2.1
    have hfrom := job_from h0
    rw [hE] at HDt
    have HJ := Lib.hid (show (∀ (j : Nat) (hj : j < L.length), nodeP (L.take j) L[j] = 0) ∧ (∀ (j : Nat) (hj : j < L.length), L[j].fs.length ≤ 4 ∧ ∀ x ∈ L[j].fs, 0 ≤ x ∧ x < j) ∧ L.length ≤ 12 ∧ D.length = srcs L ∧ (∀ l ∈ D, ∀ r ∈ l, RcOk r) ∧ (∀ l ∈ D, l.length ≤ 300) ∧ NdsAt w la L ∧ RssAt w da D from ⟨hnode, hfrom, hj.1, hdl, hok, h300, hL, hD⟩)
    have HE0 := Lib.hid hE
    clear hE h0 h1 hdl hdp hok h300 hj hnode hfrom hL hD hl hll hk hn
    go_enter Tryz.func58, Tryz.ntmps58
    go_wp2_with (go_at_call 97; refine HDt.mono ?_; rintro e u ⟨rfl, hb⟩; refine Hid.out ?_)
    refine Lib.hid ?_
    have HB0 := Lib.hid hb
    clear HDt hb
    go_wp2_with fail
    go_loopw [7, 8, 9] (fun v7 v8 v9 wr => ∃ (i : Nat) (hs : List (List Rc)) (A : Option Addr) (cc : Nat), i ≤ L.length ∧ v9 = .int .i64 i ∧ v8 = .int .i64 (srcs (L.take i) : Nat) ∧ v7 = .slice A i cc ∧ hs.length = i ∧ Hid (MainI w wr L D i hs (.slice A i cc))) (fun _ _ v9 _ => L.length - (intOf v9).toNat)
    case atStart => exact ⟨0, [], none, 0, by omega, rfl, by simp [srcs], rfl, rfl, Lib.hid ⟨by simp [srcs], ou_nil _ _, by simp, by simp, HB0.out⟩⟩
    case round =>
      clear HB0
      obtain ⟨i, hs, A7, c7, hi, rfl, rfl, rfl, hsl, hM⟩ := hrel
      rename World => wr
      by_cases hlt : i < L.length
      · have hii : (i : Int) < (L.length : Int) := by omega
        obtain ⟨hnode, hfrom, h12, hdl, hok, h300, hL, hD⟩ := HJ.out
        have hnd := hnode i hlt
        have hfr := hfrom i hlt
        rcases hL with hL | ⟨lb, lo, rfl, hL⟩
        · subst hL; simp at hlt
        obtain ⟨k0, ⟨fa, fc, k1, kI⟩, k2, k3, ktx, kfs⟩ := hL i hlt
        have K := Keeps.of hM.out.b
        have c0 := K _ _ k0
        have c1 := K _ _ k1
        have c2 := K _ _ k2
        have c3 := K _ _ k3
        have hsrc : srcs (L.take (i + 1)) = srcs (L.take i) + if L[i].k = 1 then 1 else 0 := by
          rw [List.take_succ_eq_append_getElem hlt]
          unfold srcs
          rw [List.filter_append, List.length_append]
          by_cases h : L[i].k = 1
          · simp [h]
          · simp [h]
        have hsle : srcs (L.take (i + 1)) ≤ srcs L := by
          have : srcs L = srcs (L.take (i + 1)) + srcs (L.drop (i + 1)) := by
            conv => lhs; rw [← List.take_append_drop (i + 1) L]
            unfold srcs; rw [List.filter_append, List.length_append]
          omega
        have hdrop : L.drop i = L[i] :: L.drop (i + 1) := List.drop_eq_getElem_cons hlt
        have hfl := hM.out.fl
        rw [hdrop] at hfl
        have HSR := Lib.hid (And.intro hsrc hsle)
        have HFL := Lib.hid hfl
        have HND := Lib.hid (And.intro hnd hfr)
        have HFI := Lib.hid kI
        clear hnode hfrom hL k0 k1 k2 k3 hfl hdrop hsrc hsle hnd hfr kI K
        generalize L[i] = nd at *
        have HDL := Lib.hid hdl
        clear hdl
        obtain ⟨nk, nfs, ntx, nn⟩ := nd
        simp only at c0 c1 c2 c3 ktx kfs
        have hbn : Below wr.heap.size wr (wr.alloc (.cells #[.int .i64 nk, .slice fa nfs.length fc, .string ntx, .int .i64 nn] 52)) := (Below.refl _ _).alloc (Nat.le_refl _) _
        have hNB : (wr.alloc (.cells #[.int .i64 nk, .slice fa nfs.length fc, .string ntx, .int .i64 nn] 52)).heap[wr.heap.size]? = some (.cells #[.int .i64 nk, .slice fa nfs.length fc, .string ntx, .int .i64 nn] 52 (0, 0)) := heap_alloc_new wr _
        have hwn : (wr.alloc (.cells #[.int .i64 nk, .slice fa nfs.length fc, .string ntx, .int .i64 nn] 52)).heap.size = wr.heap.size + 1 := by simp
        by_cases hk1 : nk = 1
        · skip
          subst hk1
          have hk1 : (⟨1, nfs, ntx, nn⟩ : Nd).k = 1 := rfl
          have hfs : nfs = [] := node_src HND.out.1 hk1
          subst hfs
          have hs1 : srcs (L.take (i + 1)) = srcs (L.take i) + 1 := by have := HSR.out.1; simpa using this
          have hsD : srcs (L.take i) < D.length := by have := HSR.out.2; have := HDL.out; omega
          rcases hD with hD | ⟨db, dO, rfl, hD⟩
          · subst hD; simp at hsD
          obtain ⟨lad, capd, d0, d1, d2⟩ := hD _ hsD
          have K := Keeps.of (hM.out.b.trans (hbn.mono hM.out.b.size))
          have e0 := K _ _ d0
          have e1 := d1.keep K
          have hx300 := h300 _ (List.getElem_mem hsD)
          have hxok := hok _ (List.getElem_mem hsD)
          have hdropD : D.drop (srcs (L.take i)) = D[srcs (L.take i)] :: D.drop (srcs (L.take i) + 1) := List.drop_eq_getElem_cons hsD
          have hfl := HFL.out
          rw [docFlow_some (mine := D[srcs (L.take i)]) (by rw [if_pos rfl, hdropD]; rfl) (fun h => h.1 rfl)] at hfl
          have hrest : restP ⟨1, [], ntx, nn⟩ (D.drop (srcs (L.take i))) = D.drop (srcs (L.take (i + 1))) := by
            unfold restP; rw [if_pos rfl, hdropD, hs1]; rfl
          rw [hrest] at hfl
          have hsi : (srcs (L.take i) : Int) < (D.length : Int) := by omega
          have hss : srcs (L.take i) ≤ 1000 := by have : srcs (L.take i) ≤ (L.take i).length := List.length_filter_le _ _; rw [List.length_take] at this; omega
          generalize srcs (L.take i) = s at *
          generalize D[s] = X at *
          obtain ⟨A2, c2, w2, hrun, hown, hgr, hat⟩ := rr_app (l := []) (RwAt.nil (wr.alloc (.cells #[.int .i64 1, .slice fa ([] : List Int).length fc, .string ntx, .int .i64 nn] 52)) _ _) (src_rcs (c := capd) e1) (by simp; omega)
          simp only [List.length_nil, Nat.zero_add, List.nil_append] at hrun hown hat
          have hb2 : Below wr.heap.size wr w2 := hbn.trans ⟨hgr.os, hgr.tape, hgr.output, hgr.size, fun k hk => hgr.block k (by omega) (fun e => by simp [Value.ownBlock] at e)⟩
          have hNB2 : w2.heap[wr.heap.size]? = some (.cells #[.int .i64 1, .slice fa ([] : List Int).length fc, .string ntx, .int .i64 nn] 52 (0, 0)) := (hgr.block _ (by omega) (fun e => by simp [Value.ownBlock] at e)).trans hNB
          have f1 : w2.cell? ⟨wr.heap.size, 1, none⟩ = some (.slice fa 0 fc) := by simp [World.cell?, hNB2]
          have hbm : Below w2.heap.size w2 (w2.alloc (.cells #[.slice A2 X.length c2] 112)) := (Below.refl _ _).alloc (Nat.le_refl _) _
          obtain ⟨A3, c3', w3, hrun3, hou3, hb3⟩ := ou_app (base := w.heap.size) ((hM.out.ou.block (Nat.le_refl _) (hb2.trans (hbm.mono hb2.size)))) (hown.keep hbm) (fun b hb => by
            rcases hat b hb with e | e
            · simp [Value.ownBlock] at e
            · rw [World.size_alloc] at e; have := hM.out.b.size; omega) (by have := hM.out.b.size; have := hb2.size; simp; omega) (g := w2.heap.size) (heap_alloc_new w2 _) (by omega)
          rw [hsl] at hrun3 hou3
          have HN := Lib.hid (show MainI w w3 L D (i + 1) (hs ++ [X]) (.slice A3 (i + 1) c3') from ⟨hfl, hou3, fun l hl => by
              rcases List.mem_append.1 hl with h | h
              · exact hM.out.ok l h
              · simp at h; subst h; exact hxok, fun l hl => by
              rcases List.mem_append.1 hl with h | h
              · exact hM.out.le l h
              · simp at h; subst h; omega, (hM.out.b.trans ((hb2.trans (hbm.mono hb2.size)).mono hM.out.b.size)).trans hb3⟩)
          have HR1 := Lib.hid hrun
          have HR3 := Lib.hid hrun3
          have HLN := Lib.hid (show (hs ++ [X]).length = i + 1 from by simp [hsl])
          have HS1 := Lib.hid hs1
          clear hrun hrun3 hown hgr hat hou3 hb3 hbm hNB2 hNB hM hfl HFL hdropD hrest K HND HSR hxok hD e1 d0 d1 hs1 HFI
          clear hk1 HDL
          simp only [List.length_nil] at *
          go_wp2_with (at_builtin; refine wpList_append_run (by rfl) _ _ _ (by rfl) _ _ _ _ (by rfl) (by rfl) (by exact HR1.out) ?_; refine Hid.out ?_)
          refine Lib.hid ?_
          go_wp2_with fail
          go_loopw [11, 12, 13] (fun v11 v12 v13 wk => v11 = .slice A2 X.length c2 ∧ v12 = .slice none 0 0 ∧ v13 = .int .i64 0 ∧ w2 = wk) (fun _ _ _ _ => 0)
          case atStart => exact ⟨rfl, rfl, rfl, rfl⟩
          case round =>
            obtain ⟨rfl, rfl, rfl, rfl⟩ := hrel
            go_wp2_with (at_builtin; refine wpList_append_run (by rfl) _ _ _ (by rfl) _ _ _ _ (by rfl) (by rfl) (by exact HR3.out) ?_)
            exact ⟨⟨i + 1, hs ++ [X], A3, c3', by omega, by go_num, by rw [HS1.out]; go_num, rfl, HLN.out, HN⟩, by simp [intOf]; omega⟩
        · skip
          have hs2 : srcs (L.take (i + 1)) = srcs (L.take i) := by have := HSR.out.1; simpa [hk1] using this
          obtain ⟨hkb, hnb, -, hf1⟩ := node_bd HND.out.1
          simp only at hkb hnb hf1
          have hG := froms_len ⟨nk, nfs, ntx, nn⟩ hs
          have hGm := fun l (h : l ∈ fromsP ⟨nk, nfs, ntx, nn⟩ hs) => froms_mem h
          have hGat := fun k (hk : k < nfs.length) (fn : Nat) (hf : nfs[k] = (fn : Int)) (hfn : fn < hs.length) => froms_at ⟨nk, nfs, ntx, nn⟩ hs k hk hf hfn
          have hf4 := HND.out.2.1
          simp only at hG hf4
          have hGok : ∀ l ∈ fromsP ⟨nk, nfs, ntx, nn⟩ hs, (∀ r ∈ l, RcOk r) ∧ l.length ≤ 2000 := fun l hl => by
            rcases hGm l hl with h | h
            · exact ⟨hM.out.ok l h, hM.out.le l h⟩
            · subst h; simp
          have HGA := Lib.hid hGat
          have HGO := Lib.hid hGok
          have HS2 := Lib.hid hs2
          have HN0 := Lib.hid (show MainI w wr L D i hs (.slice A7 i c7) from hM.out)
          generalize hGG : fromsP ⟨nk, nfs, ntx, nn⟩ hs = G at *
          have HGG := Lib.hid hGG
          clear hGG hGat hGok hGm hs2 hM hok h300 hD HSR
          go_wp2_with fail
          generalize wr.alloc (.cells #[.int .i64 nk, .slice fa nfs.length fc, .string ntx, .int .i64 nn] 52) = wn at *
          have HBN := Lib.hid (And.intro hbn (And.intro hNB hwn))
          clear hbn hNB hwn c0 c1 c2 c3
          go_loopw [11, 12, 13] (fun v11 v12 v13 wk => ∃ (k : Nat) (mine : List Rc) (HL : List Hd) (A1 : Option Addr) (c1 : Nat) (A2 : Option Addr) (c2 : Nat), k ≤ nfs.length ∧ v13 = .int .i64 k ∧ v11 = .slice A1 mine.length c1 ∧ v12 = .slice A2 HL.length c2 ∧ (nk ≠ 10 → mine.length ≤ 2000) ∧ Hid (InI wn wk ⟨nk, nfs, ntx, nn⟩ [] (tagP 0 (G.take k)) (.slice A1 mine.length c1) (.slice A2 HL.length c2) mine HL)) (fun _ _ v13 _ => nfs.length - (intOf v13).toNat)
          case atStart => exact ⟨0, [], [], none, 0, none, 0, by omega, rfl, rfl, rfl, fun _ => by simp, Lib.hid ⟨rfl, stIs_nil, fun a b ha => by simp at ha, by simp, RwAt.nil _ _ _, RwAt.nil _ _ _, fun b hb => by simp [Value.ownBlock] at hb, fun b hb => by simp [Value.ownBlock] at hb, Below.refl _ _⟩⟩
          case round =>
            obtain ⟨k, mine, HL, A1, c1, A2, c2, hk, rfl, rfl, rfl, hm2, hI⟩ := hrel
            rename World => wk
            obtain ⟨hbn, hNB, hwn⟩ := HBN.out
            have hbk := hI.out.b
            have hNBk : wk.heap[wr.heap.size]? = some (.cells #[.int .i64 nk, .slice fa nfs.length fc, .string ntx, .int .i64 nn] 52 (0, 0)) := (hbk.block _ (by omega)).trans hNB
            have n1 : wk.cell? ⟨wr.heap.size, 1, none⟩ = some (.slice fa nfs.length fc) := by simp [World.cell?, hNBk]
            have hwk : Below wr.heap.size wr wk := hbn.trans (hbk.mono (by omega))
            by_cases hkl : k < nfs.length
            · have hki : (k : Int) < (nfs.length : Int) := by omega
              obtain ⟨fn, hfn⟩ : ∃ fn : Nat, nfs[k] = (fn : Int) := ⟨nfs[k].toNat, by have := HND.out.2.2 nfs[k] (List.getElem_mem hkl); omega⟩
              have hfi : fn < i := by have := HND.out.2.2 nfs[k] (List.getElem_mem hkl); omega
              have hfs' : fn < hs.length := by omega
              obtain ⟨hkG, hX⟩ := HGA.out k hkl fn hfn hfs'
              obtain ⟨ob, oo, Ax, cx, rfl, o0, orr, olt⟩ := HN0.out.ou.at hfs'
              have hXok := HGO.out G[k] (List.getElem_mem hkG)
              have htag := tag_next G k hkG
              rw [← hX] at o0 orr
              have o1 : wk.cell? ⟨ob, oo + fn, none⟩ = some (.slice Ax G[k].length cx) := by rw [hwk.cell (p := ⟨ob, oo + fn, none⟩) olt]; exact o0
              have hfc : ∃ fb fo, fa = some ⟨fb, fo, none⟩ ∧ w.cell? ⟨fb, fo + k, none⟩ = some (.int .i64 (fn : Int)) := by
                rcases HFI.out with h | ⟨fb, fo, h1, h2⟩
                · subst h; simp at hkl
                · have := h2 k hkl; rw [hfn] at this; exact ⟨fb, fo, h1, this⟩
              obtain ⟨fb, fo, rfl, f0⟩ := hfc
              have f1 : wk.cell? ⟨fb, fo + k, none⟩ = some (.int .i64 (fn : Int)) := Keeps.of (HN0.out.b.trans (hwk.mono HN0.out.b.size)) _ _ f0
              have hfni : (fn : Int) < (i : Int) := by omega
              have HXR := Lib.hid orr
              have HTG := Lib.hid htag
              have HXO := Lib.hid hXok
              generalize G[k] = X at *
              have HXX := Lib.hid hX
              have hk100 : k < 100 := by omega
              clear hX orr htag hXok o0 f0
              go_wp2_with fail
              go_loopw [11, 12, 15] (fun v11 v12 v15 wj => ∃ (j : Nat) (mine : List Rc) (HL : List Hd) (A1 : Option Addr) (c1 : Nat) (A2 : Option Addr) (c2 : Nat), j ≤ X.length ∧ v15 = .int .i64 j ∧ v11 = .slice A1 mine.length c1 ∧ v12 = .slice A2 HL.length c2 ∧ (nk ≠ 10 → mine.length ≤ 2000) ∧ Hid (InI wn wj ⟨nk, nfs, ntx, nn⟩ [] (tagP 0 (G.take k) ++ (X.take j).map (fun x => (x, (k : Int)))) (.slice A1 mine.length c1) (.slice A2 HL.length c2) mine HL)) (fun _ _ v15 _ => X.length - (intOf v15).toNat)
              case atStart => exact ⟨0, mine, HL, A1, c1, A2, c2, by omega, rfl, rfl, rfl, hm2, by simpa using hI⟩
              case round =>
                clear hI hm2 n1 hNBk hwk hbk o1 f1
                obtain ⟨j, mine, HL, A1, c1, A2, c2, hj, rfl, rfl, rfl, hm2, hI⟩ := hrel
                rename World => wj
                by_cases hjl : j < X.length
                · have hji : (j : Int) < (X.length : Int) := by omega
                  have hbj := hI.out.b
                  have hwj : Below wr.heap.size wr wj := hbn.trans (hbj.mono (by omega))
                  obtain ⟨xb, xo, rfl, x0, x1, x2⟩ := rc_at (rr_rcs HXR.out) j hjl
                  have xlt := World.block_lt_of_cell? _ _ x0
                  have HXC := Lib.hid (fun (u : World) (hu : Below wr.heap.size wr u) => (show u.cell? ⟨xb, xo + j * 3, none⟩ = some (.string X[j].key) ∧ u.cell? ⟨xb, xo + j * 3 + 1, none⟩ = some (.int .i64 X[j].num) ∧ u.cell? ⟨xb, xo + j * 3 + 2, none⟩ = some (.int .i64 X[j].time) from ⟨by rw [hu.cell (p := ⟨xb, xo + j * 3, none⟩) xlt]; exact x0, by rw [hu.cell (p := ⟨xb, xo + j * 3 + 1, none⟩) xlt]; exact x1, by rw [hu.cell (p := ⟨xb, xo + j * 3 + 2, none⟩) xlt]; exact x2⟩))
                  have hrok := HXO.out.1 X[j] (List.getElem_mem hjl)
                  have htk : tagP 0 (G.take k) ++ (X.take (j + 1)).map (fun x => (x, (k : Int))) = (tagP 0 (G.take k) ++ (X.take j).map (fun x => (x, (k : Int)))) ++ [(X[j], (k : Int))] := by
                    rw [List.take_succ_eq_append_getElem hjl, List.map_append, ← List.append_assoc]; rfl
                  have HTK := Lib.hid htk
                  have hxl : (tagP 0 (G.take k) ++ (X.take j).map (fun x => (x, (k : Int)))).length ≤ 100000 := by
                    have h1 := tag_len (G.take k) 0 2000 (fun l hl => (HGO.out l (List.mem_of_mem_take hl)).2)
                    have h2 : (G.take k).length ≤ 4 := by rw [List.length_take]; omega
                    have h3 := Nat.mul_le_mul_right 2000 h2
                    have h4 := HXO.out.2
                    rw [List.length_append, List.length_map, List.length_take]; omega
                  have hxsok : ∀ x ∈ tagP 0 (G.take k) ++ (X.take j).map (fun x => (x, (k : Int))), RcOk x.1 := fun x hx => by
                    rcases List.mem_append.1 hx with h | h
                    · obtain ⟨l, hl, hxl⟩ := tag_mem _ _ _ h
                      exact (HGO.out l (List.mem_of_mem_take hl)).1 _ hxl
                    · obtain ⟨y, hy, rfl⟩ := List.mem_map.1 h
                      exact HXO.out.1 _ (List.mem_of_mem_take hy)
                  have HXS := Lib.hid hxsok
                  clear hxsok
                  generalize tagP 0 (G.take k) ++ (X.take j).map (fun x => (x, (k : Int))) = xs at *
                  have hhl := hI.out.hl
                  generalize X[j] = r at *
                  obtain ⟨rk, rn, rt⟩ := r
                  simp only at HXC
                  have HRO := Lib.hid hrok
                  clear hrok htk x0 x1 x2 xlt
                  have hHL : HL.length ≤ 100000 := by omega
                  go_upto_block 6 with fail
                  go_cut [16] (fun v16 wm => v16 = .int .i64 (atH rk HL HL.length) ∧ Hid (Below wj.heap.size wj wm))
                  case first =>
                    go_wp2_with fail
                    go_loopw [16, 17] (fun v16 v17 wm => ∃ t : Nat, t ≤ HL.length ∧ v17 = .int .i64 t ∧ v16 = .int .i64 (atH rk HL t) ∧ Hid (Below wj.heap.size wj wm)) (fun _ v17 _ => HL.length - (intOf v17).toNat)
                    case atStart => exact ⟨0, by omega, rfl, rfl, Lib.hid (Below.refl _ _)⟩
                    case round =>
                      obtain ⟨t, ht, rfl, rfl, hbm⟩ := hrel
                      rename World => wm
                      have hIm := hI.out.keep hbm.out
                      have hwm : Below wr.heap.size wr wm := hwj.trans (hbm.out.mono hwj.size)
                      obtain ⟨y0, y1, y2⟩ := HXC.out wm hwm
                      by_cases htl : t < HL.length
                      · have hti : (t : Int) < (HL.length : Int) := by omega
                        obtain ⟨hb9, ho9, cur9, rfl, -, -, -, z1, -, -⟩ := he_at hIm.he htl
                        have hae : atH rk HL (t + 1) = if HL[t].key = rk then (t : Int) else atH rk HL t := by rw [atH]; simp [List.getD, htl]
                        have HAE := Lib.hid hae
                        generalize HL[t].key = hk9 at *
                        clear hae hIm hwm
                        by_cases he : hk9 = rk
                        · subst he
                          have q1 := str_eqD hk9
                          go_wp2_with fail
                          go_quiet (fail)
                          go_wp2_with fail
                          go_roundw
                          case rel => exact ⟨t + 1, by omega, by go_num, by rw [HAE.out]; simp, Lib.hid ⟨hbm.out.os, hbm.out.tape, hbm.out.output, hbm.out.size, hbm.out.block⟩⟩
                          case measure => simp [intOf]; omega
                        · have q1 := str_neD he
                          have HNE := Lib.hid he
                          clear he
                          go_wp2_with fail
                          go_quiet (fail)
                          go_wp2_with fail
                          go_roundw
                          case rel => exact ⟨t + 1, by omega, by go_num, by rw [HAE.out]; simp [HNE.out], Lib.hid ⟨hbm.out.os, hbm.out.tape, hbm.out.output, hbm.out.size, hbm.out.block⟩⟩
                          case measure => simp [intOf]; omega
                      · have hti : ¬ (t : Int) < (HL.length : Int) := by omega
                        obtain rfl : t = HL.length := by omega
                        clear hIm hwm
                        go_wp2_with fail
                        go_meet
                        case rel => exact ⟨rfl, hbm⟩
                  case rest =>
                    obtain ⟨rfl, hbm⟩ := hcut
                    rename World => wm
                    have hIm := hI.out.keep hbm.out
                    have hwm : Below wr.heap.size wr wm := hwj.trans (hbm.out.mono hwj.size)
                    have hNBm : wm.heap[wr.heap.size]? = some (.cells #[.int .i64 nk, .slice (some ⟨fb, fo, none⟩) nfs.length fc, .string ntx, .int .i64 nn] 52 (0, 0)) := (hIm.b.block _ (by omega)).trans hNB
                    have HNC := Lib.hid (fun (u : World) (hu : Below wm.heap.size wm u) => (show u.cell? ⟨wr.heap.size, 0, none⟩ = some (.int .i64 nk) ∧ u.cell? ⟨wr.heap.size, 1, none⟩ = some (.slice (some ⟨fb, fo, none⟩) nfs.length fc) ∧ u.cell? ⟨wr.heap.size, 2, none⟩ = some (.string ntx) ∧ u.cell? ⟨wr.heap.size, 3, none⟩ = some (.int .i64 nn) from by
                      have h := (hu.block wr.heap.size (Array.getElem?_eq_some_iff.1 hNBm).1).trans hNBm
                      simp [World.cell?, h]))
                    have HIM := Lib.hid hIm
                    have HWM := Lib.hid hwm
                    obtain ⟨at9, hat9⟩ : ∃ z, z = atH rk HL HL.length := ⟨_, rfl⟩
                    rw [← hat9]
                    obtain ⟨hd, fnd, hdok, hfnd, hσ, hway⟩ : ∃ (hd : Hd) (fnd : Bool), HdOk hd ∧ decide (0 ≤ at9) = fnd ∧ (docRun ⟨nk, nfs, ntx, nn⟩ xs).2 rk = (if fnd then some hd else none) ∧ ((fnd = false ∧ at9 = -1 ∧ hd = hd0) ∨ (fnd = true ∧ ∃ (q : Nat) (_ : q < HL.length), at9 = q ∧ HL[q].key = rk ∧ HL[q] = hd)) := by
                      rcases stIs_at hI.out.st rk with ⟨ha, hσ⟩ | ⟨q, hq, ha, hkq, hσ⟩
                      · exact ⟨hd0, false, hd0_ok, by rw [hat9, ha]; rfl, by simpa using hσ, .inl ⟨rfl, by rw [hat9, ha], rfl⟩⟩
                      · exact ⟨HL[q], true, (doc_ok HND.out.1 xs HXS.out).2 rk _ hσ, by rw [hat9, ha]; simp, by simpa using hσ, .inr ⟨rfl, q, hq, by rw [hat9, ha], hkq, rfl⟩⟩
                    obtain ⟨sn, sk, sa, sb⟩ := hd
                    have HWAY := Lib.hid hway
                    have HDOK := Lib.hid hdok
                    have HSG := Lib.hid hσ
                    have HFND := Lib.hid hfnd
                    clear hat9 hway hσ hdok hfnd hNBm hIm hwm
                    go_upto_if 89 with fail
                    go_cut [] (fun wc => Hid (wc.heap[wm.heap.size]? = some (.cells #[.int .i64 sn, .string sk, .int .i64 sa, .int .i64 sb] 162 (0, 0)) ∧ Below wm.heap.size wm wc))
                    case first =>
                      rcases HWAY.out with ⟨rfl, rfl, e⟩ | ⟨rfl, q, hq, rfl, hkq, e⟩
                      · simp only [hd0, Hd.mk.injEq] at e
                        obtain ⟨rfl, rfl, rfl, rfl⟩ := e
                        have HF := Lib.hid (show (wm.alloc (.cells #[.int .i64 0, .string ⟨#[]⟩, .int .i64 0, .int .i64 0] 162)).heap[wm.heap.size]? = some (.cells #[.int .i64 0, .string ⟨#[]⟩, .int .i64 0, .int .i64 0] 162 (0, 0)) ∧ Below wm.heap.size wm (wm.alloc (.cells #[.int .i64 0, .string ⟨#[]⟩, .int .i64 0, .int .i64 0] 162)) from ⟨heap_alloc_new wm _, (Below.refl _ _).alloc (Nat.le_refl _) _⟩)
                        go_wp2_with fail
                        go_meet
                        case rel => exact HF
                      · obtain ⟨hb9, ho9, cur9, rfl, hblk9, hsz9, z0, z1, z2, z3⟩ := he_at HIM.out.he hq
                        rw [e] at z0 z1 z2 z3
                        simp only at z0 z1 z2 z3
                        have hqi : (q : Int) < (HL.length : Int) := by omega
                        have hq0 : (0 : Int) ≤ (q : Int) := by omega
                        have hbl : hb9 < wm.heap.size := (Array.getElem?_eq_some_iff.1 hblk9).1
                        have HF := Lib.hid (show (wm.alloc (.cells #[.int .i64 sn, .string sk, .int .i64 sa, .int .i64 sb] 162)).heap[wm.heap.size]? = some (.cells #[.int .i64 sn, .string sk, .int .i64 sa, .int .i64 sb] 162 (0, 0)) ∧ Below wm.heap.size wm (wm.alloc (.cells #[.int .i64 sn, .string sk, .int .i64 sa, .int .i64 sb] 162)) from ⟨heap_alloc_new wm _, (Below.refl _ _).alloc (Nat.le_refl _) _⟩)
                        clear e hkq
                        go_wp2_with fail
                        go_meet
                        case rel => exact HF
                    case rest =>
                      have hcu := hcut
                      rename World => u
                      obtain ⟨hHB, hu0⟩ := hcu.out
                      clear hcu hcut
                      obtain ⟨m0, m1, m2, m3⟩ := HNC.out u hu0
                      obtain ⟨y0, y1, y2⟩ := HXC.out u (HWM.out.trans (hu0.mono HWM.out.size))
                      have h0 : u.cell? ⟨wm.heap.size, 0, none⟩ = some (.int .i64 sn) := by simp [World.cell?, hHB]
                      have h1 : u.cell? ⟨wm.heap.size, 1, none⟩ = some (.string sk) := by simp [World.cell?, hHB]
                      have h2 : u.cell? ⟨wm.heap.size, 2, none⟩ = some (.int .i64 sa) := by simp [World.cell?, hHB]
                      have h3 : u.cell? ⟨wm.heap.size, 3, none⟩ = some (.int .i64 sb) := by simp [World.cell?, hHB]
                      have hlu : wm.heap.size < u.heap.size := (Array.getElem?_eq_some_iff.1 hHB).1
                      have HAp := dapply_any (w := u.drew) ⟨nk, nfs, ntx, nn⟩ (some ⟨fb, fo, none⟩) fc ⟨sn, sk, sa, sb⟩ fnd ⟨rk, rn, rt⟩ k HRO.out HDOK.out ⟨by omega, by omega⟩ hnb
                      obtain ⟨P, hP⟩ : ∃ P, P = docA ⟨nk, nfs, ntx, nn⟩ ⟨sn, sk, sa, sb⟩ fnd ⟨rk, rn, rt⟩ k := ⟨_, rfl⟩
                      rw [← hP] at HAp
                      have HPP := Lib.hid hP
                      have hPl := docA_len (nd := ⟨nk, nfs, ntx, nn⟩) hnb ⟨sn, sk, sa, sb⟩ fnd ⟨rk, rn, rt⟩ k
                      rw [← hP] at hPl
                      clear hP
                      obtain ⟨pl, ⟨pn, pk, pa, pb⟩, ph⟩ := P
                      simp only [ndV, hdV, rcV] at HAp hPl
                      have HCe := Lib.hid (fun (U : World) (hU : Below u.heap.size u U) => (show U.cell? ⟨wm.heap.size, 0, none⟩ = some (.int .i64 sn) ∧ U.cell? ⟨wm.heap.size, 1, none⟩ = some (.string sk) ∧ U.cell? ⟨wm.heap.size, 2, none⟩ = some (.int .i64 sa) ∧ U.cell? ⟨wm.heap.size, 3, none⟩ = some (.int .i64 sb) ∧ (∀ o, U.frozen? ⟨wm.heap.size, o, none⟩ = false) from by
                        have h := (hU.block wm.heap.size hlu).trans hHB
                        refine ⟨by simp [World.cell?, h], by simp [World.cell?, h], by simp [World.cell?, h], by simp [World.cell?, h], fun o => by simp [World.frozen?, h]⟩))
                      have HIU := Lib.hid (fun (U : World) (hU : Below u.heap.size u U) => (show Below wm.heap.size wm U from hu0.trans (hU.mono hu0.size)))
                      have hfd := HFND.out
                      go_upto_region 31 with fail
                      go_cut [19, 20] (fun v19 v20 wc => ∃ (A9 : Option Addr) (c9 : Nat), v19 = .slice A9 pl.length c9 ∧ v20 = .bool ph ∧ Hid (RrAt wc (.slice A9 pl.length c9) pl ∧ wc.heap[wm.heap.size]? = some (.cells #[.int .i64 pn, .string pk, .int .i64 pa, .int .i64 pb] 162 (0, 0)) ∧ Below wm.heap.size wm wc))
                      case first =>
                        clear HIM HXC HNC HPP HTK hI HXR HTG HXO HXX HGA HGO HS2 HN0 HGG HBN HND HFL HDL HR HE0 HJ HXS HWAY HDOK HSG HFND HWM HRO
                        go_region_with (go_at_call 98; refine HAp.mono ?_; rintro e u2 ⟨A9, c9, rfl, hrr, hb2⟩; obtain ⟨i0, i1, i2, i3, i4⟩ := HCe.out u2 ⟨hb2.os, hb2.tape, hb2.output, hb2.size, hb2.block⟩; have i5 := i4 0; have i6 := i4 1; have i7 := i4 2; have i8 := i4 3)
                        all_goals
                          have hHB2 : u2.heap[wm.heap.size]? = some (.cells #[.int .i64 sn, .string sk, .int .i64 sa, .int .i64 sb] 162 (0, 0)) := (hb2.block _ hlu).trans hHB
                          have HFN := Lib.hid (show RrAt ((((u2.setCell ⟨wm.heap.size, 0, none⟩ (.int .i64 pn)).setCell ⟨wm.heap.size, 1, none⟩ (.string pk)).setCell ⟨wm.heap.size, 2, none⟩ (.int .i64 pa)).setCell ⟨wm.heap.size, 3, none⟩ (.int .i64 pb)) (.slice A9 pl.length c9) pl ∧ ((((u2.setCell ⟨wm.heap.size, 0, none⟩ (.int .i64 pn)).setCell ⟨wm.heap.size, 1, none⟩ (.string pk)).setCell ⟨wm.heap.size, 2, none⟩ (.int .i64 pa)).setCell ⟨wm.heap.size, 3, none⟩ (.int .i64 pb)).heap[wm.heap.size]? = some (.cells #[.int .i64 pn, .string pk, .int .i64 pa, .int .i64 pb] 162 (0, 0)) ∧ Below wm.heap.size wm ((((u2.setCell ⟨wm.heap.size, 0, none⟩ (.int .i64 pn)).setCell ⟨wm.heap.size, 1, none⟩ (.string pk)).setCell ⟨wm.heap.size, 2, none⟩ (.int .i64 pa)).setCell ⟨wm.heap.size, 3, none⟩ (.int .i64 pb)) from by
                            refine ⟨hrr.block (fun b hb => ?_), heap_setCell_same _ _ 3 _ _ _ (heap_setCell_same _ _ 2 _ _ _ (heap_setCell_same _ _ 1 _ _ _ (heap_setCell_same u2 _ 0 _ _ _ hHB2))), ((((HIU.out u2 ⟨hb2.os, hb2.tape, hb2.output, hb2.size, hb2.block⟩).setCell (p := ⟨wm.heap.size, 0, none⟩) (Nat.le_refl _) _).setCell (p := ⟨wm.heap.size, 1, none⟩) (Nat.le_refl _) _).setCell (p := ⟨wm.heap.size, 2, none⟩) (Nat.le_refl _) _).setCell (p := ⟨wm.heap.size, 3, none⟩) (Nat.le_refl _) _⟩
                            have hne : b ≠ wm.heap.size := fun e => by
                              obtain ⟨-, cur, hc⟩ := hrr.lt hb
                              rw [e, hHB2] at hc
                              simp at hc
                            rw [Below.heap_setCell _ _ _ _ hne, Below.heap_setCell _ _ _ _ hne, Below.heap_setCell _ _ _ _ hne, Below.heap_setCell _ _ _ _ hne])
                          clear hrr hb2 i0 i1 i2 i3 i4 i5 i6 i7 i8 hHB2
                          go_wp2_with fail
                          go_meet
                          case rel => exact ⟨A9, c9, rfl, rfl, HFN⟩
                      case rest =>
                        obtain ⟨A9, c9, rfl, rfl, hZ⟩ := hcut
                        rename World => wa
                        clear HAp HCe HIU hHB h0 h1 h2 h3 m0 m1 m2 m3 y0 y1 y2 hlu hu0
                        have hpre : ∃ ys, tagP 0 G = (xs ++ [(⟨rk, rn, rt⟩, (k : Int))]) ++ ys := by
                          rw [← HTK.out]
                          have e1 : tagP 0 G = tagP 0 (G.take (k + 1)) ++ tagP (k + 1) (G.drop (k + 1)) := by
                            have := tag_append (G.take (k + 1)) (G.drop (k + 1)) 0
                            rw [List.take_append_drop, List.length_take, Nat.min_eq_left (by omega), Nat.zero_add] at this
                            exact this
                          refine ⟨(X.drop (j + 1)).map (fun x => (x, (k : Int))) ++ tagP (k + 1) (G.drop (k + 1)), ?_⟩
                          rw [e1, HTG.out]
                          have e2 : X.map (fun x => (x, (k : Int))) = (X.take (j + 1)).map (fun x => (x, (k : Int))) ++ (X.drop (j + 1)).map (fun x => (x, (k : Int))) := by rw [← List.map_append, List.take_append_drop]
                          rw [e2]
                          simp only [List.append_assoc]
                        have HPRE := Lib.hid hpre
                        have hst : docRun ⟨nk, nfs, ntx, nn⟩ (xs ++ [(⟨rk, rn, rt⟩, (k : Int))]) = ((docRun ⟨nk, nfs, ntx, nn⟩ xs).1 ++ pl, (if ph then (fun q => if q = rk then some ⟨pn, pk, pa, pb⟩ else (docRun ⟨nk, nfs, ntx, nn⟩ xs).2 q) else (docRun ⟨nk, nfs, ntx, nn⟩ xs).2)) := by
                          rw [docRun_snoc]
                          unfold docStep
                          have e1 : ((docRun ⟨nk, nfs, ntx, nn⟩ xs).2 rk).getD hd0 = ⟨sn, sk, sa, sb⟩ := by
                            rw [HSG.out]
                            rcases HWAY.out with ⟨h, -, e⟩ | ⟨h, -⟩
                            · rw [h]; simp [e]
                            · rw [h]; simp
                          have e2 : ((docRun ⟨nk, nfs, ntx, nn⟩ xs).2 rk).isSome = fnd := by rw [HSG.out]; cases fnd <;> simp
                          simp only [e1, e2]
                          rw [← HPP.out]
                        have HST := Lib.hid hst
                        have hkey : ph = true → pk = rk := fun h => by
                          have h9 := docA_key ⟨nk, nfs, ntx, nn⟩ ⟨sn, sk, sa, sb⟩ fnd ⟨rk, rn, rt⟩ k
                          rw [← HPP.out] at h9
                          exact h9 h
                        have hhas : fnd = true → ph = true := fun h => by
                          subst h
                          have h9 := docA_has ⟨nk, nfs, ntx, nn⟩ ⟨sn, sk, sa, sb⟩ ⟨rk, rn, rt⟩ k
                          rw [← HPP.out] at h9
                          exact h9
                        have HKY := Lib.hid (And.intro hkey hhas)
                        clear hpre hst hkey hhas
                        obtain ⟨b1, hb1⟩ : ∃ b1 : Bool, b1 = (ph && fnd) := ⟨_, rfl⟩
                        have HB1 := Lib.hid hb1
                        clear hb1
                        go_upto_region 32 with fail
                        go_cut [112] (fun v112 wc => v112 = .bool b1 ∧ wa = wc)
                        case first =>
                          have hb1 := HB1.out
                          cases ph
                          · simp only [Bool.false_and] at hb1
                            subst hb1
                            go_wp2_with fail
                            go_meet
                            case rel => exact ⟨rfl, rfl⟩
                          · simp only [Bool.true_and] at hb1
                            subst hb1
                            go_wp2_with fail
                            go_meet
                            case rel => exact ⟨rfl, rfl⟩
                        case rest =>
                         obtain ⟨rfl, rfl⟩ := hcut
                         clear hfd
                         go_upto_if 112 with fail
                         go_cut [12] (fun v12 wc => ∃ (A5 : Option Addr) (c5 : Nat) (HL5 : List Hd), v12 = .slice A5 HL5.length c5 ∧ Hid (StIs HL5 (if ph then (fun q => if q = rk then some ⟨pn, pk, pa, pb⟩ else (docRun ⟨nk, nfs, ntx, nn⟩ xs).2 q) else (docRun ⟨nk, nfs, ntx, nn⟩ xs).2) ∧ UqH HL5 ∧ HL5.length ≤ xs.length + 1 ∧ RrAt wc (.slice A1 mine.length c1) mine ∧ HeAt wc (.slice A5 HL5.length c5) HL5 ∧ (∀ b, Value.ownBlock (.slice A5 HL5.length c5) = some b → wn.heap.size ≤ b) ∧ RrAt wc (.slice A9 pl.length c9) pl ∧ Below wn.heap.size wn wc))
                         case first =>
                           have hIm := HIM.out
                           have hb1 := HB1.out
                           clear HB1
                           have hbA0 := hZ.out.2.2
                           cases ph with
                           | false =>
                             have hff : fnd = false := by
                               cases fnd with
                               | false => rfl
                               | true => have := HKY.out.2 rfl; cases this
                             subst hff
                             simp only [Bool.false_and] at hb1
                             subst hb1
                             have HF := Lib.hid (show StIs HL (docRun ⟨nk, nfs, ntx, nn⟩ xs).2 ∧ UqH HL ∧ HL.length ≤ xs.length + 1 ∧ RrAt wa (.slice A1 mine.length c1) mine ∧ HeAt wa (.slice A2 HL.length c2) HL ∧ (∀ b, Value.ownBlock (.slice A2 HL.length c2) = some b → wn.heap.size ≤ b) ∧ RrAt wa (.slice A9 pl.length c9) pl ∧ Below wn.heap.size wn wa from ⟨hIm.st, hIm.uq, by have := hIm.hl; omega, hIm.rr.keep hbA0, hIm.he.keep hbA0, hIm.o2, hZ.out.1, hIm.b.trans (hbA0.mono hIm.b.size)⟩)
                             clear hIm hbA0
                             go_wp2_with fail
                             go_meet
                             case rel => exact ⟨A2, c2, HL, rfl, HF⟩
                           | true =>
                             have hpk := HKY.out.1 rfl
                             subst hpk
                             simp only [Bool.true_and] at hb1
                             subst hb1
                             have hZ2 := hZ.out.2.1
                             have w0 : wa.cell? ⟨wm.heap.size, 0, none⟩ = some (.int .i64 pn) := by simp [World.cell?, hZ2]
                             have w1 : wa.cell? ⟨wm.heap.size, 1, none⟩ = some (.string pk) := by simp [World.cell?, hZ2]
                             have w2 : wa.cell? ⟨wm.heap.size, 2, none⟩ = some (.int .i64 pa) := by simp [World.cell?, hZ2]
                             have w3 : wa.cell? ⟨wm.heap.size, 3, none⟩ = some (.int .i64 pb) := by simp [World.cell?, hZ2]
                             rcases HWAY.out with ⟨rfl, rfl, e⟩ | ⟨rfl, q, hq, rfl, hkq, e⟩
                             · have hσ : (docRun ⟨nk, nfs, ntx, nn⟩ xs).2 pk = none := by have := HSG.out; simpa using this
                               have hbA : Below wa.heap.size wa (wa.alloc (.cells #[.int .i64 pn, .string pk, .int .i64 pa, .int .i64 pb] 162)) := (Below.refl _ _).alloc (Nat.le_refl _) _
                               obtain ⟨A5, c5, w5, hrun5, hown5, hgr5, hat5⟩ := he_app ((hIm.he.keep hbA0).keep hbA) ⟨pn, pk, pa, pb⟩ (by omega) (g := wa.heap.size) (heap_alloc_new wa _)
                               have hBA := hbA0.trans (hbA.mono hbA0.size)
                               have hrow : ∀ (v : Value) (l : List Rc), RrAt (wa.alloc (.cells #[.int .i64 pn, .string pk, .int .i64 pa, .int .i64 pb] 162)) v l → RrAt w5 v l := fun v l hp => hp.block (fun b hb => hgr5.block b (hp.lt hb).1 (fun e => by
                                 obtain ⟨-, cur, hc⟩ := hp.lt hb
                                 obtain ⟨-, cur', hc'⟩ := ((hIm.he.keep hbA0).keep hbA).lt e.symm
                                 rw [hc] at hc'; simp at hc'))
                               have hhl5 : (HL ++ [(⟨pn, pk, pa, pb⟩ : Hd)]).length = HL.length + 1 := by simp
                               have HF := Lib.hid (show StIs (HL ++ [(⟨pn, pk, pa, pb⟩ : Hd)]) (fun q => if q = pk then some ⟨pn, pk, pa, pb⟩ else (docRun ⟨nk, nfs, ntx, nn⟩ xs).2 q) ∧ UqH (HL ++ [(⟨pn, pk, pa, pb⟩ : Hd)]) ∧ (HL ++ [(⟨pn, pk, pa, pb⟩ : Hd)]).length ≤ xs.length + 1 ∧ RrAt w5 (.slice A1 mine.length c1) mine ∧ HeAt w5 (.slice A5 (HL ++ [(⟨pn, pk, pa, pb⟩ : Hd)]).length c5) (HL ++ [(⟨pn, pk, pa, pb⟩ : Hd)]) ∧ (∀ b, Value.ownBlock (.slice A5 (HL ++ [(⟨pn, pk, pa, pb⟩ : Hd)]).length c5) = some b → wn.heap.size ≤ b) ∧ RrAt w5 (.slice A9 pl.length c9) pl ∧ Below wn.heap.size wn w5 from ⟨stIs_app (x := ⟨pn, pk, pa, pb⟩) hIm.st hσ, uq_app (x := ⟨pn, pk, pa, pb⟩) hIm.st hIm.uq hσ, by rw [hhl5]; have := hIm.hl; omega, hrow _ _ (hIm.rr.keep hBA), by rw [hhl5]; exact hown5, fun b hb => by
                                 rw [hhl5] at hb
                                 rcases hat5 b hb with e | e
                                 · exact hIm.o2 b e
                                 · have := hIm.b.size; have := hBA.size; omega, hrow _ _ (hZ.out.1.keep hbA), (hIm.b.trans (hBA.mono hIm.b.size)).trans ⟨hgr5.os, hgr5.tape, hgr5.output, hgr5.size, fun q hq => hgr5.block q (by have := hIm.b.size; have := hBA.size; omega) (fun e => by have := hIm.o2 q e.symm; omega)⟩⟩)
                               have HR5 := Lib.hid hrun5
                               have HH5 := Lib.hid hhl5
                               clear hrun5 hown5 hgr5 hat5 hrow hBA hbA hZ2 hhl5 hIm hbA0 hσ e
                               go_wp2_with (at_builtin; refine wpList_append_run (by rfl) _ _ 160 (by rfl) (.slice A2 HL.length c2) (.slice (some ⟨wa.heap.size, 0, none⟩) 1 1) (.slice A5 (HL.length + 1) c5) w5 (by rfl) (by rfl) (by exact HR5.out) ?_; refine Hid.out ?_)
                               refine Lib.hid ?_
                               go_wp2_with fail
                               go_meet
                               case rel => exact ⟨A5, c5, HL ++ [⟨pn, pk, pa, pb⟩], by rw [HH5.out], HF⟩
                             · obtain ⟨hb9, ho9, cur9, rfl, hblk9, hsz9, z0, z1, z2, z3⟩ := he_at hIm.he hq
                               have hqi : (q : Int) < (HL.length : Int) := by omega
                               have hq0 : (0 : Int) ≤ (q : Int) := by omega
                               have hbl : hb9 < wm.heap.size := (Array.getElem?_eq_some_iff.1 hblk9).1
                               rw [e] at z0 z1 z2 z3 hkq
                               simp only at z0 z1 z2 z3 hkq
                               have hblA : wa.heap[hb9]? = some (.cells cur9 162 (0, 0)) := (hbA0.block _ hbl).trans hblk9
                               have hHa := hIm.he.keep hbA0
                               have v0 : wa.cell? ⟨hb9, ho9 + q * 4, none⟩ = some (.int .i64 sn) := by rw [hbA0.cell (p := ⟨hb9, ho9 + q * 4, none⟩) hbl]; exact z0
                               have v1 : wa.cell? ⟨hb9, ho9 + q * 4 + 1, none⟩ = some (.string sk) := by rw [hbA0.cell (p := ⟨hb9, ho9 + q * 4 + 1, none⟩) hbl]; exact z1
                               have v2 : wa.cell? ⟨hb9, ho9 + q * 4 + 2, none⟩ = some (.int .i64 sa) := by rw [hbA0.cell (p := ⟨hb9, ho9 + q * 4 + 2, none⟩) hbl]; exact z2
                               have v3 : wa.cell? ⟨hb9, ho9 + q * 4 + 3, none⟩ = some (.int .i64 sb) := by rw [hbA0.cell (p := ⟨hb9, ho9 + q * 4 + 3, none⟩) hbl]; exact z3
                               have vf : ∀ o, wa.frozen? ⟨hb9, o, none⟩ = false := fun o => by simp [World.frozen?, hblA]
                               have vf0 := vf (ho9 + q * 4)
                               have vf1 := vf (ho9 + q * 4 + 1)
                               have vf2 := vf (ho9 + q * 4 + 2)
                               have vf3 := vf (ho9 + q * 4 + 3)
                               have hne9 : hb9 ≠ wm.heap.size := by omega
                               have hkS : pk = HL[q].key := by rw [e]; exact hkq.symm
                               have hfar : ∀ b, b ≠ hb9 → ((((wa.setCell ⟨hb9, ho9 + q * 4, none⟩ (.int .i64 pn)).setCell ⟨hb9, ho9 + q * 4 + 1, none⟩ (.string pk)).setCell ⟨hb9, ho9 + q * 4 + 2, none⟩ (.int .i64 pa)).setCell ⟨hb9, ho9 + q * 4 + 3, none⟩ (.int .i64 pb)).heap[b]? = wa.heap[b]? := fun b hb => by
                                 rw [Below.heap_setCell _ _ _ _ hb, Below.heap_setCell _ _ _ _ hb, Below.heap_setCell _ _ _ _ hb, Below.heap_setCell _ _ _ _ hb]
                               have hrow : ∀ (v : Value) (l : List Rc), RrAt wa v l → RrAt ((((wa.setCell ⟨hb9, ho9 + q * 4, none⟩ (.int .i64 pn)).setCell ⟨hb9, ho9 + q * 4 + 1, none⟩ (.string pk)).setCell ⟨hb9, ho9 + q * 4 + 2, none⟩ (.int .i64 pa)).setCell ⟨hb9, ho9 + q * 4 + 3, none⟩ (.int .i64 pb)) v l := fun v l hp => hp.block (fun b hb => hfar b (fun e => by
                                 obtain ⟨-, cur, hc⟩ := hp.lt hb
                                 rw [e, hblA] at hc; simp at hc))
                               have hBg : wn.heap.size ≤ hb9 := hIm.o2 hb9 rfl
                               have HF := Lib.hid (show StIs (HL.set q ⟨pn, pk, pa, pb⟩) (fun q => if q = pk then some ⟨pn, pk, pa, pb⟩ else (docRun ⟨nk, nfs, ntx, nn⟩ xs).2 q) ∧ UqH (HL.set q ⟨pn, pk, pa, pb⟩) ∧ (HL.set q ⟨pn, pk, pa, pb⟩).length ≤ xs.length + 1 ∧ RrAt ((((wa.setCell ⟨hb9, ho9 + q * 4, none⟩ (.int .i64 pn)).setCell ⟨hb9, ho9 + q * 4 + 1, none⟩ (.string pk)).setCell ⟨hb9, ho9 + q * 4 + 2, none⟩ (.int .i64 pa)).setCell ⟨hb9, ho9 + q * 4 + 3, none⟩ (.int .i64 pb)) (.slice A1 mine.length c1) mine ∧ HeAt ((((wa.setCell ⟨hb9, ho9 + q * 4, none⟩ (.int .i64 pn)).setCell ⟨hb9, ho9 + q * 4 + 1, none⟩ (.string pk)).setCell ⟨hb9, ho9 + q * 4 + 2, none⟩ (.int .i64 pa)).setCell ⟨hb9, ho9 + q * 4 + 3, none⟩ (.int .i64 pb)) (.slice (some ⟨hb9, ho9, none⟩) (HL.set q ⟨pn, pk, pa, pb⟩).length c2) (HL.set q ⟨pn, pk, pa, pb⟩) ∧ (∀ b, Value.ownBlock (.slice (some ⟨hb9, ho9, none⟩) (HL.set q ⟨pn, pk, pa, pb⟩).length c2) = some b → wn.heap.size ≤ b) ∧ RrAt ((((wa.setCell ⟨hb9, ho9 + q * 4, none⟩ (.int .i64 pn)).setCell ⟨hb9, ho9 + q * 4 + 1, none⟩ (.string pk)).setCell ⟨hb9, ho9 + q * 4 + 2, none⟩ (.int .i64 pa)).setCell ⟨hb9, ho9 + q * 4 + 3, none⟩ (.int .i64 pb)) (.slice A9 pl.length c9) pl ∧ Below wn.heap.size wn ((((wa.setCell ⟨hb9, ho9 + q * 4, none⟩ (.int .i64 pn)).setCell ⟨hb9, ho9 + q * 4 + 1, none⟩ (.string pk)).setCell ⟨hb9, ho9 + q * 4 + 2, none⟩ (.int .i64 pa)).setCell ⟨hb9, ho9 + q * 4 + 3, none⟩ (.int .i64 pb)) from ⟨by
                                   have := stIs_set hIm.st hq (x := ⟨pn, pk, pa, pb⟩) hkS hIm.uq
                                   exact this, uq_set hIm.uq hq (x := ⟨pn, pk, pa, pb⟩) hkS, by rw [List.length_set]; have := hIm.hl; omega, hrow _ _ (hIm.rr.keep hbA0), by rw [List.length_set]; exact he_set hHa hq ⟨pn, pk, pa, pb⟩, fun b hb => by rw [List.length_set] at hb; exact hIm.o2 b hb, hrow _ _ hZ.out.1, ((((hIm.b.trans (hbA0.mono hIm.b.size)).setCell (p := ⟨hb9, ho9 + q * 4, none⟩) hBg _).setCell (p := ⟨hb9, ho9 + q * 4 + 1, none⟩) hBg _).setCell (p := ⟨hb9, ho9 + q * 4 + 2, none⟩) hBg _).setCell (p := ⟨hb9, ho9 + q * 4 + 3, none⟩) hBg _⟩)
                               clear hrow hfar hZ2 hIm hbA0 hHa e hkq hkS z0 z1 z2 z3 vf hblk9 hsz9 hblA
                               go_wp2_with fail
                               go_meet
                               case rel => exact ⟨some ⟨hb9, ho9, none⟩, c2, HL.set q ⟨pn, pk, pa, pb⟩, by rw [List.length_set], HF⟩
                         case rest =>
                           obtain ⟨A5, c5, HL5, rfl, hK⟩ := hcut
                           rename World => w5
                           obtain ⟨hS5, hU5, hl5, hR5, hH5, hO5, hG5, hB5⟩ := hK.out
                           have hIm := HIM.out
                           have hX2 : X.length ≤ 2000 := HXO.out.2
                           have hl5' : HL5.length ≤ (xs ++ [((⟨rk, rn, rt⟩ : Rc), (k : Int))]).length := by rw [List.length_append]; exact hl5
                           obtain ⟨A6, c6, w6, hrun6, hI6⟩ := in_step (x := (⟨rk, rn, rt⟩, (k : Int))) hIm.mn HST.out hS5 hU5 hl5' hR5 hH5 hIm.o1 hO5 hB5 hG5 (by
                             have h1 := docRun_len (nd := ⟨nk, nfs, ntx, nn⟩) hnb xs
                             have h2 : mine.length = (docRun ⟨nk, nfs, ntx, nn⟩ xs).1.length := by rw [hIm.mn]; simp
                             omega)
                           have hNB6 : w6.heap[wr.heap.size]? = some (.cells #[.int .i64 nk, .slice (some ⟨fb, fo, none⟩) nfs.length fc, .string ntx, .int .i64 nn] 52 (0, 0)) := (hI6.b.block _ (by omega)).trans hNB
                           have p0 : w6.cell? ⟨wr.heap.size, 0, none⟩ = some (.int .i64 nk) := by simp [World.cell?, hNB6]
                           have HR6 := Lib.hid hrun6
                           have hml : (mine ++ pl).length = mine.length + pl.length := List.length_append
                           have HML := Lib.hid hml
                           have HI6 := Lib.hid (show InI wn w6 ⟨nk, nfs, ntx, nn⟩ [] (tagP 0 (G.take k) ++ (X.take (j + 1)).map (fun x => (x, (k : Int)))) (.slice A6 (mine ++ pl).length c6) (.slice A5 HL5.length c5) (mine ++ pl) HL5 from by rw [HTK.out, hml]; exact hI6)
                           have HQ := Lib.hid (show 2000 < mine.length + pl.length → nk ≠ 10 → R (.returned (.tuple #[.slice none 0 0, .int .i64 4])) w6 from fun h1 h2 => by
                             obtain ⟨ys, hys⟩ := HPRE.out
                             have hmore := doc_more HND.out.1 (xs ++ [(⟨rk, rn, rt⟩, (k : Int))]) ys
                             rw [← hys, HST.out] at hmore
                             have h3 : mine.length = (docRun ⟨nk, nfs, ntx, nn⟩ xs).1.length := by rw [hIm.mn]; simp
                             rw [List.length_append] at hmore
                             have hno := docFlow_none (nd := ⟨nk, nfs, ntx, nn⟩) (l := L.drop (i + 1)) (D := D.drop (srcs (L.take i))) (hs := hs) hk1 h2 (by rw [HGG.out]; omega)
                             rw [← HR.out]
                             unfold DAll
                             rw [if_neg (by simp [HE0.out]), HFL.out, hno]
                             exact ⟨rfl, HN0.out.b.trans ((hbn.trans (hI6.b.mono (by omega))).mono HN0.out.b.size)⟩)
                           clear hrun6 hI6 hNB6 hS5 hU5 hl5 hl5' hR5 hH5 hO5 hB5 hG5 hZ HPRE HST hIm hml hK HIM HXC HNC HPP HTK hI HXR HTG HXO HXX HGA HGO HS2 HN0 HGG HBN HND HFL HDL HR HE0 HJ HXS HWAY HDOK HSG HFND HWM HRO HKY hbm
                           go_wp2_with (at_builtin; refine wpList_append_run (by rfl) _ _ 112 (by rfl) (.slice A1 mine.length c1) (.slice A9 pl.length c9) (.slice A6 (mine.length + pl.length) c6) w6 (by rfl) (by rfl) (by exact HR6.out) ?_; refine Hid.out ?_)
                           refine Lib.hid ?_
                           clear HR6
                           obtain ⟨bb, hbb⟩ : ∃ bb : Bool, bb = (decide (2000 < mine.length + pl.length) && !(nk == 10)) := ⟨_, rfl⟩
                           have HBB := Lib.hid hbb
                           clear hbb
                           go_upto_region 37 with fail
                           go_cut [132] (fun v132 wc => v132 = .bool bb ∧ w6 = wc)
                           case first =>
                             clear HI6 HQ
                             by_cases hbig : 2000 < mine.length + pl.length
                             · have q7 : (2000 : Int) < (mine.length : Int) + (pl.length : Int) := by omega
                               by_cases h10 : nk = 10
                               · have hb : bb = false := by rw [HBB.out, h10]; simp
                                 subst h10
                                 subst hb
                                 clear HBB hbig
                                 go_wp2_with fail
                                 go_meet
                                 case rel => exact ⟨rfl, rfl⟩
                               · have hb : bb = true := by rw [HBB.out]; simp [hbig, h10]
                                 have e10 : (nk == 10) = false := by simpa using h10
                                 subst hb
                                 clear HBB hbig
                                 go_wp2_with fail
                                 go_meet
                                 case rel => exact ⟨by simp [h10], rfl⟩
                             · have q7 : ¬ (2000 : Int) < (mine.length : Int) + (pl.length : Int) := by omega
                               have hb : bb = false := by rw [HBB.out]; simp [hbig]
                               subst hb
                               clear HBB hbig
                               go_wp2_with fail
                               go_meet
                               case rel => exact ⟨rfl, rfl⟩
                           case rest =>
                             obtain ⟨rfl, rfl⟩ := hcut
                             cases bb with
                             | true =>
                               have hb := HBB.out
                               simp at hb
                               have HQ2 := Lib.hid (HQ.out (by omega) hb.2)
                               clear HQ HI6 HBB hb
                               go_wp2_with fail
                               exact HQ2.out
                             | false =>
                               have HN2 := Lib.hid (show nk ≠ 10 → (mine ++ pl).length ≤ 2000 from fun h => by
                                 have hb := HBB.out
                                 rw [HML.out]
                                 simp at hb
                                 exact Nat.le_of_not_lt (fun h' => h (hb h')))
                               clear HQ HBB
                               go_wp2_with fail
                               go_roundw
                               case rel => exact ⟨j + 1, mine ++ pl, HL5, A6, c6, A5, c5, by omega, by go_num, by rw [HML.out], rfl, HN2.out, HI6⟩
                               case measure => simp [intOf]; omega
                · have hji : ¬ (j : Int) < (X.length : Int) := by omega
                  have HI2 := Lib.hid (show InI wn wj ⟨nk, nfs, ntx, nn⟩ [] (tagP 0 (G.take (k + 1))) (.slice A1 mine.length c1) (.slice A2 HL.length c2) mine HL from by
                    rw [HTG.out]
                    have h9 := hI.out
                    have hXj : X.take j = X := List.take_of_length_le (by omega)
                    rw [hXj] at h9
                    exact h9)
                  clear hI HTG HXO HXR HXX
                  go_wp2_with fail
                  exact ⟨⟨k + 1, mine, HL, A1, c1, A2, c2, by omega, by go_num, rfl, rfl, hm2, HI2⟩, by simp [intOf]; omega⟩
            · have hki : ¬ (k : Int) < (nfs.length : Int) := by omega
              have hGk : G.take k = G := List.take_of_length_le (by omega)
              have hI' := hI.out
              rw [hGk] at hI'
              have hmine : mine = (docRun ⟨nk, nfs, ntx, nn⟩ (tagP 0 G)).1 := by have := hI'.mn; simpa using this
              have hGx : ∀ x ∈ tagP 0 G, RcOk x.1 := fun x hx => by
                obtain ⟨l, hl, hxl⟩ := tag_mem _ _ _ hx
                exact (HGO.out l hl).1 _ hxl
              have hmok := (doc_ok HND.out.1 (tagP 0 G) hGx).1
              have hm20 : mine.length ≤ 2000 := by
                by_cases h10 : nk = 10
                · have h1 : nfs.length = 1 := hf1 hk1 (by omega)
                  obtain ⟨x, hx⟩ : ∃ x, G = [x] := List.length_eq_one_iff.1 (by omega)
                  have hxo := HGO.out x (by rw [hx]; simp)
                  have hh := src_id (nd := ⟨nk, nfs, ntx, nn⟩) (.inr h10) hxo.1 hxo.2
                  unfold handP at hh
                  split at hh
                  · cases hh
                  · rw [hmine, doc_run HND.out.1, hx]; omega
                · exact hm2 h10
              have hbm : Below wk.heap.size wk (wk.alloc (.cells #[.slice A1 mine.length c1] 112)) := (Below.refl _ _).alloc (Nat.le_refl _) _
              have hwB := hwk.trans (hbm.mono hwk.size)
              obtain ⟨A3, c3, w3, hrun3, hou3, hb3⟩ := ou_app (base := w.heap.size) (HN0.out.ou.block (Nat.le_refl _) hwB) (hI'.rr.keep hbm) (fun b hb => by have := hI'.o1 b hb; have := HN0.out.b.size; omega) (by have := HN0.out.b.size; have := hwB.size; omega) (g := wk.heap.size) (heap_alloc_new wk _) (by omega)
              rw [hsl] at hrun3 hou3
              have HNX := Lib.hid (show MainI w w3 L D (i + 1) (hs ++ [mine]) (.slice A3 (i + 1) c3) from ⟨by
                  rw [HFL.out, docFlow_some (mine := mine) (by rw [if_neg hk1, HGG.out]; exact hmine) (fun h => by omega), HS2.out]
                  congr 1
                  exact if_neg hk1, hou3, fun l hl => by
                  rcases List.mem_append.1 hl with h | h
                  · exact HN0.out.ok l h
                  · simp at h; subst h; rw [hmine]; exact hmok, fun l hl => by
                  rcases List.mem_append.1 hl with h | h
                  · exact HN0.out.le l h
                  · simp at h; subst h; exact hm20, (HN0.out.b.trans (hwB.mono HN0.out.b.size)).trans hb3⟩)
              have HR3 := Lib.hid hrun3
              have HLN := Lib.hid (show (hs ++ [mine]).length = i + 1 from by simp [hsl])
              have HS3 := Lib.hid HS2.out
              clear hrun3 hou3 hb3 hbm hwB hmok hGx hmine hI' hI hGk hm2 hm20 HFL HN0 HGO HGA HGG HND HFI
              go_wp2_with (at_builtin; refine wpList_append_run (by rfl) _ _ _ (by rfl) _ _ _ _ (by rfl) (by rfl) (by exact HR3.out) ?_)
              exact ⟨⟨i + 1, hs ++ [mine], A3, c3, by omega, by go_num, by rw [HS3.out], rfl, HLN.out, HNX⟩, by simp [intOf]; omega⟩
      · have hii : ¬ (i : Int) < (L.length : Int) := by omega
        have hie : i = L.length := by omega
        have HQ := Lib.hid (show R (.returned (.tuple #[.slice A7 i c7, .int .i64 0])) wr from by
          rw [← HR.out]
          unfold DAll
          rw [if_neg (by simp [HE0.out]), hM.out.fl, hie, List.drop_length, docFlow]
          refine ⟨A7, c7, by rw [hsl, hie], ?_, hM.out.b⟩
          have := hM.out.ou
          rw [hie] at this
          rw [hsl, hie]
          exact this)
        clear hM HR HJ HE0 hie
        go_wp2_with fail
        exact HQ.out
  · have hne : ¬ ((dataE L D : Nat) : Int) = 0 := by omega
    have HQ := Lib.hid (show ∀ u, Below w.heap.size w u → R (.returned (.tuple #[.slice none 0 0, .int .i64 (dataE L D : Nat)])) u from fun u hu => by
      rw [← HR.out]
      unfold DAll
      rw [if_pos hE]
      exact ⟨rfl, hu⟩)
    generalize dataE L D = de at *
    clear HR hL hD
    go_enter Tryz.func58, Tryz.ntmps58
    go_wp2_with (go_at_call 97; refine HDt.mono ?_; rintro e u ⟨rfl, hb⟩; refine Hid.out ?_)
    refine Lib.hid ?_
    have HQ2 := Lib.hid (HQ.out u hb)
    clear HDt HQ hb
    go_wp2_with fail
    exact HQ2.out
end Go.Proofs.YthadeccnibnioaaGreatDoor
