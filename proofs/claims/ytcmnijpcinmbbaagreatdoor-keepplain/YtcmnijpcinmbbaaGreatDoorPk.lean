/- Fail, Steps, Crash as a law sees them; the text of a picture. -/
import Derived.Test.YtcmnijpcinmbbaaGreatDoorPi
import Derived.Test.YtcmnijpcinmbbaaGreatDoorPureKt
import Derived.Test.YtcmnijpcinmbbaaGreatDoorDq
namespace Go.Proofs.YtcmnijpcinmbbaaGreatDoor
open Go.RowKit
set_option linter.unusedVariables false
section
variable {lo : Nat} {w : World} {B M : Nat} {uv : Value} {d : Ds} {n : Nat} {P : Pc}
theorem fail_any (h : DkS lo w B M uv d n) (at_ : Int) : Calls Tryz.prog 13 #[.pointer (some ⟨B, 0, none⟩), .int .i64 at_] w fun e w' => (∃ v, e = .returned v) ∧ DkS lo w' B M uv { d with bd := at_ } n ∧ FrD B M uv w w' := by
  have c3 := h.c3
  have g3 := h.fz 3
  have hf := h.set3 at_
  go_enter Tryz.func13, Tryz.ntmps13
  go_wp2
  go_end0
  exact ⟨⟨_, rfl⟩, hf, (FrD.refl _ _ _ w).setB 3 _⟩
theorem steps_any (h : DkS lo w B M uv d n) : Calls Tryz.prog 14 #[.pointer (some ⟨B, 0, none⟩)] w fun e w' => e = .returned (.int .i64 d.s) ∧ w = w' := by
  have c2 := h.c2
  go_enter Tryz.func14, Tryz.ntmps14
  go_wp2
  go_ret
  exact ⟨rfl, rfl⟩
end
theorem txP_str (id : Int) : ((⟨#[112, 105, 99, 116, 117, 114, 101, 32]⟩ : ByteArray) ++ Dg.itoB id) ++ (⟨#[32, 111, 102, 32, 115, 111, 109, 101, 32, 108, 101, 110, 103, 116, 104, 44, 32, 115, 111, 32, 116, 104, 97, 116, 32, 105, 116, 32, 109, 97, 121, 32, 98, 101, 32, 116, 111, 114, 110]⟩ : ByteArray) = ⟨(txP id).toArray⟩ := by
  apply bytes_ext
  simp [txP, Dg.itoB]
set_option maxRecDepth 100000 in
set_option maxHeartbeats 1000000 in
theorem text_any (w : World) {id : Int} (h0 : 0 ≤ id) (h1 : id ≤ 1000000000) :
    Calls Tryz.prog 15 #[.int .i64 id] w fun e w' => ∃ g c, e = .returned (.slice (some ⟨g, 0, none⟩) (txP id).length c) ∧ BsAt w' (some ⟨g, 0, none⟩) (txP id) ∧ Below w.heap.size w w' := by
  have HD := Dg.digs_any w id (by omega) (by omega)
  have hs := txP_str id
  have hl := ito_len h0 h1
  have HS := Lib.hid hs
  clear hs
  go_enter Tryz.func15, Tryz.ntmps15
  go_wp2_with (go_at_call 31; refine Hid.out ?_)
  refine Lib.hid ?_
  refine HD.mono ?_
  rintro e w1 ⟨rfl, hb⟩
  have hds : (Dg.itoB id).size = (Lib.itoa id).length := by simp [Dg.itoB, ByteArray.size]
  have hsz : (Dg.itoB id).size ≤ 10 := by rw [hds]; exact hl
  have htl : (txP id).length = 8 + (Lib.itoa id).length + 39 := by unfold txP; rw [List.length_append, List.length_append]; rfl
  have hC := fun (u : World) => run_bytes_of_string (P := Tryz.prog) u 9 23 5 ⟨(txP id).toArray⟩ Tryz.underlying9 Tryz.underlying23 Tryz.underlying5
  rw [← HS.out] at hC
  generalize Dg.itoB id = di at *
  have hlen : 8 + di.size + 39 = (txP id).length := by rw [htl, hds]
  clear hds htl
  go_wp2_with fail
  go_ret
  refine ⟨w1.heap.size, _, rfl, .inr ⟨_, _, rfl, fun i hi => ?_⟩, ?_⟩
  · rw [HS.out, Nat.zero_add]
    have hb2 := bytesRow_at (⟨(txP id).toArray⟩ : ByteArray) (grownCap w1 (txP id).length 0 5) i (by simpa using hi)
    have hh : ∀ (o : Obj), ((w1.alloc o).drew).heap[w1.heap.size]? = some o := fun o => Array.getElem?_push_size
    simp only [World.cell?, hh]
    simpa using hb2
  · exact (hb.alloc hb.size _).drew
end Go.Proofs.YtcmnijpcinmbbaaGreatDoor
