/- Steps one behind the other; lists of texts that are the same. -/
import Derived.Test.YtcmnijpcinmbbaaGreatDoorDg
import Derived.Test.YtcmnijpcinmbbaaGreatDoorDh
import Derived.Test.YtcmnijpcinmbbaaGreatDoorDj
namespace Go.Proofs.YtcmnijpcinmbbaaGreatDoor
open Go.RowKit
set_option linter.unusedVariables false

theorem SsAt.keep {w w' : World} {p : Option Addr} {l : List ByteArray} (h : SsAt w p l) (hc : ∀ a u, w.cell? a = some u → (∃ b, p = some b ∧ a.block = b.block) → w'.cell? a = some u) : SsAt w' p l :=
  h.imp id fun ⟨b, o, e, hh⟩ => ⟨b, o, e, fun i hi => hc _ _ (hh i hi) ⟨_, e, rfl⟩⟩
theorem SsAt.below {w w' : World} {p : Option Addr} {l : List ByteArray} (h : SsAt w p l) (hb : Below w.heap.size w w') : SsAt w' p l :=
  h.keep (fun a u hu _ => (hb.cell (block_lt_of_cell hu)).trans hu)

section
variable {lo : Nat} {w : World} {B M : Nat} {uv : Value} {d : Ds} {n : Nat}
theorem DkAt.othLo {σ : Fs} {U : List Bk} {s bd : Int} (h : DkAt lo w B M uv σ U s bd n) {b : Nat} (hb : b < lo) : Oth B M uv b := by
  have h1 := h.lo1
  have h2 := h.lo2
  obtain ⟨V, hV, _⟩ := h.row
  exact ⟨by omega, by omega, fun e => by have := (hV.lt b e).1; omega⟩
theorem FrD.low {σ : Fs} {U : List Bk} {s bd : Int} {w' : World} (f : FrD B M uv w w') (h : DkAt lo w B M uv σ U s bd n) : Below lo w w' :=
  ⟨f.os, f.tape, f.output, f.size, fun k hk => f.block k (by have := h.lo1; have := h.lt; omega) (h.othLo hk)⟩
/-- How a step ends, seen from below. -/
def StepLo (lo : Nat) (w : World) (B M : Nat) (n : Nat) (r : Int × Ds) (e : Ending) (w' : World) : Prop :=
  e = .returned (erV r.1) ∧ ∃ uv', DkS lo w' B M uv' r.2 n ∧ Below lo w w'
theorem StepEnd.low {r : Int × Ds} {e : Ending} {w' : World} {n' : Nat} (h : DkS lo w B M uv d n) (hs : StepEnd lo w B M uv n' r e w') : StepLo lo w B M n' r e w' := by
  obtain ⟨h1, uv', h2, h3, _⟩ := hs
  exact ⟨h1, uv', h2, h3.low h⟩
theorem write_lo {m : Nat} (h : DkS lo w B M uv d n) (hm : Sm m d) (hmm : m ≤ 100000000) (hn : n ≤ 100000000) (k : ByteArray) (hkk : k.size ≤ 100) {w0 : World} (hw : Below lo w0 w) (p : Option Addr) (c : Nat) (bs : List UInt8) (hbs : BsAt w0 p bs) (hlo : lo = w0.heap.size) (q : Nat) (hq : q = bs.length) (hml : bs.length ≤ 140737488355328) :
    Calls Tryz.prog 20 #[.pointer (some ⟨B, 0, none⟩), .string k, .slice p q c] w (StepLo lo w B M (n + 2) (wrD d k bs)) := by
  subst hlo
  refine (write_any h hm.1 (by have := hm.2.1; omega) (by have := hm.2.2; omega) (by unfold maxLen; omega) k (by unfold maxLen; omega) p c bs (hbs.keep hw) q hq hml (fun hne a ha => ?_)).mono (fun e w' hs => hs.low h)
  obtain ⟨b, o, rfl, hlt⟩ := hbs.lt hne
  injection ha with ha
  subst ha
  exact h.othLo hlt
theorem sync_lo {m : Nat} (h : DkS lo w B M uv d n) (hm : Sm m d) (hmm : m ≤ 100000000) : Calls Tryz.prog 23 #[.pointer (some ⟨B, 0, none⟩)] w (StepLo lo w B M n (syD d)) :=
  (sync_any h hm.1 (by have := hm.2.1; omega)).mono (fun e w' hs => hs.low h)
theorem remove_lo {m : Nat} (h : DkS lo w B M uv d n) (hm : Sm m d) (hmm : m ≤ 100000000) (hn : n ≤ 100000000) (k : ByteArray) (hkk : k.size ≤ 100) :
    Calls Tryz.prog 30 #[.pointer (some ⟨B, 0, none⟩), .string k] w (StepLo lo w B M (n + 2) (rmD d k)) :=
  (remove_any h hm.1 (by have := hm.2.1; omega) (by have := hm.2.2; omega) (by unfold maxLen; omega) k (by unfold maxLen; omega)).mono (fun e w' hs => hs.low h)
theorem crash_lo {m : Nat} (h : DkS lo w B M uv d n) (hm : Sm m d) (hmm : m ≤ 100000000) (hn : n ≤ 100000000) (keep : Int) :
    Calls Tryz.prog 16 #[.pointer (some ⟨B, 0, none⟩), .int .i64 keep] w fun e w' => (∃ v, e = .returned v) ∧ (∃ uv', DkS lo w' B M uv' (crD d keep) (n + 2 * m)) ∧ Below lo w w' :=
  (crash_any h keep (by have := hm.2.2; omega) (by have := hm.2.2; unfold maxLen; omega)).mono (fun e w' ⟨he, h1, h2⟩ => ⟨he, ⟨_, h1.up (by have := hm.2.2; omega)⟩, h2.low h⟩)
end
end Go.Proofs.YtcmnijpcinmbbaaGreatDoor
