/- A number is read, or refused where it begins. -/
import Derived.Test.YthadeccnibnioaaGreatDoorRc
namespace Go.Proofs.YthadeccnibnioaaGreatDoor
open Go.RowKit

theorem Gl.syn {w : World} (h : Gl w) : ∃ ev, w.cell? ⟨3, 0, none⟩ = some ev ∧ (ev = .nilIface ∨ ∃ te pe, ev = .iface te pe) := h.2.1
theorem Gl.ran {w : World} (h : Gl w) : ∃ ev, w.cell? ⟨4, 0, none⟩ = some ev ∧ (ev = .nilIface ∨ ∃ te pe, ev = .iface te pe) := h.2.2

theorem digs_len (u : List UInt8) : (digs u).length ≤ u.length := by
  have := congrArg List.length (digs_append u)
  simp only [List.length_append] at this; omega

theorem alloc_at {w : World} {o : Obj} {k : Nat} (h : k = w.heap.size) : (w.alloc o).heap[k]? = some o := by
  subst h; show (w.heap.push o)[w.heap.size]? = _; simp

set_option maxHeartbeats 1000000 in
theorem number_ok {w : World} {rb k dp : Nat} {s : ByteArray} (h : Cx w rb s k dp) (hv : digs (s.data.toList.drop k) ≠ [] ∧ valFrom 0 (digs (s.data.toList.drop k)) < 9223372036854775808) :
    Calls Tryz.prog 227 #[.pointer (some ⟨rb, 0, none⟩)] w (Out rb s dp w (.ok (.num (valFrom 0 (digs (s.data.toList.drop k)))) ((s.data.toList.drop k).drop (digs (s.data.toList.drop k)).length))) := by
  have hat := atoi_digits _ (digs_isDg (s.data.toList.drop k))
  rw [if_neg hv.1, if_pos hv.2] at hat
  have hlen := digs_len (s.data.toList.drop k)
  rw [drop_len] at hlen
  generalize valFrom 0 (digs (s.data.toList.drop k)) = v at hat hv ⊢
  have hv2 := hv.2
  clear hv
  have hsh := h.short
  have hle := h.le
  generalize hdg : digs (s.data.toList.drop k) = dg at hat hlen ⊢
  have HDG := Lib.hid hdg
  clear hdg
  go_enter Tryz.func227, Tryz.ntmps227
  go_wp2_with (go_at_call 232; refine (digits_any h).mono ?_; rintro e w' ⟨⟨d, rfl, hd⟩, n, rfl⟩)
  have hds : d.size = dg.length := by rw [← HDG.out, ← hd]; simp
  have hd' : d.data.toList = dg := hd.trans HDG.out
  have hat' : Lib.atoiAll d.data.toList = .ok (v : Int) := by rw [hd']; exact hat
  clear hd hd' hat
  go_wp2_with (go_at_call 130; refine (Tryz.strconv_Atoi_ok d (by omega) v hat' _).mono ?_; rintro e w' ⟨rfl, hw⟩; have hb : Below w.heap.size w w' := (by
    rcases hw with rfl | ⟨t, rfl⟩
    · exact ⟨rfl, rfl, rfl, Nat.le_refl _, fun _ _ => rfl⟩
    · exact Below.trans (b := w.drewN n) ⟨rfl, rfl, rfl, Nat.le_refl _, fun _ _ => rfl⟩ (Lib.bytesWorld_below (w.drewN n) 5 t)); clear hw; have hr' := h.rd.fr (Fr.below (xs := []) hb) (by simp); have c1 := hr'.c1; have fz := hr'.fz 1; have hsz := hb.size)
  go_ret
  refine ⟨w'.heap.size, k + dg.length, rfl, ⟨?_, hv2, ?_⟩, ?_, by omega, by rw [List.drop_drop], ?_⟩
  · exact hsz
  · exact alloc_at (by simp)
  · exact (hr'.set1 (k + dg.length)).alloc _
  · exact ((Fr.below hb).setCell (.inl (by simp)) _).alloc _

set_option maxHeartbeats 1000000 in
theorem number_no {w : World} {rb k dp : Nat} {s : ByteArray} (h : Cx w rb s k dp) (hv : ¬ (digs (s.data.toList.drop k) ≠ [] ∧ valFrom 0 (digs (s.data.toList.drop k)) < 9223372036854775808)) :
    Calls Tryz.prog 227 #[.pointer (some ⟨rb, 0, none⟩)] w fun e w' => e = .panicked (flt k 2) ∧ Fr [rb] w w' := by
  have hat := atoi_digits _ (digs_isDg (s.data.toList.drop k))
  have hat2 : Lib.atoiAll (digs (s.data.toList.drop k)) = .«syntax» ∨ Lib.atoiAll (digs (s.data.toList.drop k)) = .range := by
    rw [hat]
    by_cases h1 : digs (s.data.toList.drop k) = []
    · rw [if_pos h1]; exact .inl rfl
    · rw [if_neg h1, if_neg (fun h2 => hv ⟨h1, h2⟩)]; exact .inr rfl
  have hlen := digs_len (s.data.toList.drop k)
  rw [drop_len] at hlen
  clear hv hat
  have hsh := h.short
  have hle := h.le
  generalize hdg : digs (s.data.toList.drop k) = dg at hat2 hlen
  have HDG := Lib.hid hdg
  clear hdg
  obtain ⟨e1, g1, g1'⟩ := h.gl.syn
  obtain ⟨e2, g2, g2'⟩ := h.gl.ran
  go_enter Tryz.func227, Tryz.ntmps227
  go_wp2_with (go_at_call 232; refine (digits_any h).mono ?_; rintro e w' ⟨⟨d, rfl, hd⟩, n, rfl⟩)
  have hds : d.size = dg.length := by rw [← HDG.out, ← hd]; simp
  have hd' : d.data.toList = dg := hd.trans HDG.out
  rw [← hd'] at hat2
  clear hd hd'
  rcases hat2 with hat | hat
  · go_wp2_with (first | (go_at_call 130; refine (Tryz.strconv_Atoi_syntax d (by omega) hat e1 (w.drewN n) g1 g1').mono ?_; rintro e w' ⟨N, rfl, hN, hblk, hbb⟩; have hb : Below w.heap.size w w' := Below.trans (b := w.drewN n) ⟨rfl, rfl, rfl, Nat.le_refl _, fun _ _ => rfl⟩ hbb; have hr' : Cx w' rb s k dp := h.fr (Fr.below hb) (h.rd.fr (Fr.below (xs := []) hb) (by simp)) h.le; clear hblk) | (go_at_call 70; refine (refuse_any hr').mono ?_; rintro e w2 ⟨rfl, rfl⟩))
    exact ⟨rfl, rfl, Fr.below hb⟩
  · go_wp2_with (first | (go_at_call 130; refine (Tryz.strconv_Atoi_range d (by omega) hat e2 (w.drewN n) g2 g2').mono ?_; rintro e w' ⟨N, rfl, hN, hblk, hbb⟩; have hb : Below w.heap.size w w' := Below.trans (b := w.drewN n) ⟨rfl, rfl, rfl, Nat.le_refl _, fun _ _ => rfl⟩ hbb; have hr' : Cx w' rb s k dp := h.fr (Fr.below hb) (h.rd.fr (Fr.below (xs := []) hb) (by simp)) h.le; clear hblk) | (go_at_call 70; refine (refuse_any hr').mono ?_; rintro e w2 ⟨rfl, rfl⟩))
    exact ⟨rfl, rfl, Fr.below hb⟩

theorem at_of {s : ByteArray} {k : Nat} (hk : k ≤ s.size) : s.size - (s.data.toList.drop k).length = k := by rw [drop_len]; omega

theorem number_any {w : World} {rb k dp : Nat} {s : ByteArray} (h : Cx w rb s k dp) :
    Calls Tryz.prog 227 #[.pointer (some ⟨rb, 0, none⟩)] w (Out rb s dp w (numF (s.data.toList.drop k))) := by
  unfold numF
  split
  · rename_i hv; exact number_ok h hv
  · rename_i hv
    refine (number_no h hv).mono ?_
    rintro e w' ⟨rfl, hf⟩
    exact ⟨by rw [at_of h.le], hf⟩

end Go.Proofs.YthadeccnibnioaaGreatDoor
