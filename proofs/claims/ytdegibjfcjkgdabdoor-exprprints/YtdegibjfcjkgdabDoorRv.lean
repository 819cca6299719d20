/- The face Print. -/
import Derived.Test.YtdegibjfcjkgdabDoorRu
namespace Go.Proofs.YtdegibjfcjkgdabDoor
open Go.RowKit

def TabOK (w : World) : Prop := Lib.TabIs Tryd.prog w "internal/strconv.uint64pow10" .u64 Lib.pow10Tab
theorem TabOK.below {w w' : World} (h : TabOK w) (hb : Below w.heap.size w w') : TabOK w' := ((Lib.tabBelow_of_tabIs h).on hb).here
theorem TabOK.tb {w : World} (h : TabOK w) : Tb w.heap.size w := Lib.tabBelow_of_tabIs h

theorem prt_pos (t : Tm) : 0 < (prt t).length := by
  cases t with
  | num v =>
    have : (Lib.decDigits v).length = Lib.nDigits v := Lib.decDigits_length v
    show 0 < (Lib.decDigits v).length
    rw [this]
    unfold Lib.nDigits
    split <;> omega
  | vn => decide
  | vs => decide
  | neg a => simp [prt]
  | cond a b c => simp [prt]; omega
  | two op a b =>
    simp only [prt]
    repeat' split
    all_goals (simp only [List.length_append, List.length_cons]; omega)

set_option maxRecDepth 100000 in
set_option maxHeartbeats 2000000 in
theorem print_ok' {w : World} {x : ByteArray} {t : Tm} (hr : readP x.data.toList = .ok t []) (hg : Gl w) (hT : TabOK w) :
    Calls Tryd.prog 7 #[.string x] w fun e w' => e = .returned (.tuple #[.string ⟨(prt t).toArray⟩, .nilIface]) ∧ Below w.heap.size w w' := by
  have hl := (read_ok hr).1
  have hsz : x.size ≤ 120 := by simpa using hl
  have hrd := read_any (s := x) hg (by omega)
  rw [hr] at hrd
  have hok := gr_ok (read_ok hr).2.2
  have hlen := (print_ok hr).2
  have hpos := prt_pos t
  clear hr hl
  go_enter Tryd.func7, Tryd.ntmps7
  go_wp2_with (go_at_call 10; refine hrd.mono ?_; rintro e wa ⟨p, rfl, ht, hb⟩; refine Hid.out ?_)
  refine Lib.hid ?_
  have hat := print_all (B := wa.heap.size) rfl ((hT.below hb).tb) t p ht hok
  have hz := hat.zero wa (.slice none 0 0) [] (Below.refl _ _) (World.ownsRow_nil _ _ _ _) (by simp at hlen ⊢; omega)
  rw [List.nil_append] at hz
  clear hat hlen
  obtain ⟨l, hl⟩ : ∃ l, l = prt t := ⟨_, rfl⟩
  rw [← hl] at hz hpos
  have HL := Lib.hid hl
  clear hl
  go_wp2_with (go_at_call 11; refine hz.mono ?_; rintro e wb ⟨vb, rfl, hown, hbb⟩; refine Hid.out ?_)
  refine Lib.hid ?_
  rcases hown.2 with ⟨-, h0⟩ | ⟨g, cap, cur, rfl, -, -, -, -, -, -⟩
  · omega
  · have hcv := run_convert_bytes_back (P := Tryd.prog) wb 36 9 5 ⟨g, 0, none⟩ cap l Tryd.underlying36 Tryd.underlying5 Tryd.underlying9 (fun j hj => hown.cells (g := g) rfl j _ (by simp [Lib.byteCells, hj]))
    go_wp2_with fail
    go_ret2
    have hl := HL.out
    subst hl
    exact ⟨rfl, hb.trans (hbb.mono hb.size)⟩

set_option maxHeartbeats 1000000 in
theorem print_bad {w : World} {x : ByteArray} {pl er : Nat} (hr : readP x.data.toList = .bad pl er) (hg : Gl w) (hmax : x.size ≤ 9223372036854775807) :
    Calls Tryd.prog 7 #[.string x] w fun e w' => e = .returned (.tuple #[.string ⟨#[]⟩, .iface 39 (.int .i64 er)]) ∧ Below w.heap.size w w' := by
  have hrd := read_any (s := x) hg hmax
  rw [hr] at hrd
  clear hr
  go_enter Tryd.func7, Tryd.ntmps7
  go_wp2_with (go_at_call 10; refine hrd.mono ?_; rintro e wa ⟨rfl, hb⟩)
  go_ret2
  exact ⟨rfl, hb⟩
end Go.Proofs.YtdegibjfcjkgdabDoor
