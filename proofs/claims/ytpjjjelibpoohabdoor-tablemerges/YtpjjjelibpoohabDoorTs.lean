/- Tables put together. -/
import Derived.Test.YtpjjjelibpoohabDoorTr
namespace Go.Proofs.YtpjjjelibpoohabDoor
open Go.RowKit
open Go.Maps (string_keyed)
set_option linter.unusedVariables false

theorem sorted_pure {D0 : DataW Unit} {F : List En} {ps : List (List UInt8 × En)} {ys : List En} (hall : AllOf D0 ps) (hD : MapIs D0 (stE F)) (hp : ys.Perm (ps.map (·.2))) (hs : ys.Pairwise (fun a b => ¬ kl b < kl a)) : ys = firE F := by
  have hone : ∀ p ∈ ps, ∃ e, stE F ⟨p.1.toArray⟩ = some e ∧ p.2 = e ∧ kl e = p.1 := by
    intro p hpm
    have h1 := (hall.2.1 p.1).1 (List.mem_map.2 ⟨p, hpm, rfl⟩)
    have h2 := hall.2.2.1 p hpm (enD en0)
    have e0 : ((⟨p.1.toArray⟩ : ByteArray).data.toList) = p.1 := by simp
    have h3 := hD.has ⟨p.1.toArray⟩
    have h4 := hD.at_ ⟨p.1.toArray⟩
    rw [e0] at h3 h4
    rw [h1] at h3
    cases hx : stE F ⟨p.1.toArray⟩ with
    | none => rw [hx] at h3; cases h3
    | some e =>
      refine ⟨e, rfl, ?_, ?_⟩
      · rw [hx, h2] at h4; exact enD_inj h4
      · have := List.find?_some hx
        simpa using this
  have hkey : ∀ p ∈ ps, kl p.2 = p.1 := fun p hpm => by obtain ⟨e, -, h2, h3⟩ := hone p hpm; rw [h2, h3]
  have hmem : ∀ e, e ∈ ps.map (·.2) ↔ stE F e.key = some e := by
    intro e
    constructor
    · intro he
      obtain ⟨p, hpm, rfl⟩ := List.mem_map.1 he
      obtain ⟨e', h1, h2, h3⟩ := hone p hpm
      have e0 : p.2.key.data.toList = ((⟨p.1.toArray⟩ : ByteArray).data.toList) := by
        have := hkey p hpm; unfold kl at this; simpa using this
      have e1 : stE F p.2.key = stE F ⟨p.1.toArray⟩ := by unfold stE; rw [e0]
      rw [e1, h1, h2]
    · intro he
      have h1 := hD.has e.key
      rw [he] at h1
      obtain ⟨p, hpm, hp1⟩ := List.mem_map.1 ((hall.2.1 _).2 h1)
      obtain ⟨e', h2, h3, h4⟩ := hone p hpm
      have e1 : stE F ⟨p.1.toArray⟩ = stE F e.key := by unfold stE; simp [hp1]
      rw [e1, he] at h2
      injection h2 with h2
      exact List.mem_map.2 ⟨p, hpm, by rw [h3, h2]⟩
  have hnd : (ys.map kl).Nodup := by
    refine (hp.map kl).nodup_iff.2 ?_
    have e : (ps.map (·.2)).map kl = ps.map (·.1) := by
      rw [List.map_map]; exact List.map_congr_left (fun p hpm => hkey p hpm)
    rw [e]
    exact hall.1
  have hris : Ris ys := by
    have h2 := List.pairwise_map.1 hnd
    refine (hs.and h2).imp ?_
    rintro a b ⟨h3, h4⟩
    rcases kl_tri (kl a) (kl b) with h | h | h
    · exact h
    · exact absurd h h4
    · exact absurd h h3
  exact ris_ext hris (firE_ris F) (fun e => by rw [hp.mem_iff, hmem, firE_iff]; exact Iff.rfl)

theorem collect_pure (Bm b nn : Nat) (D0 : DataW Unit) (F : List En) (w : World) (hBm : Bm < w.heap.size) (hm : w.cell? ⟨Bm, 0, none⟩ = some (.map (some b))) (hown : w.ownsMap Tryd.prog 9 enR b nn D0) (hn : nn ≤ 1000000000) (hD : MapIs D0 (stE F)) :
    Calls Tryd.prog 47 #[.func (.func 49) #[] #[.pointer (some ⟨Bm, 0, none⟩)]] w fun e w' => (∃ (xs : List En) (A : Option Addr) (cap : Nat), e = .returned (.slice A xs.length cap) ∧ (∀ ys : List En, ys.Perm xs → ys.Pairwise (fun a b => ¬ kl b < kl a) → ys = firE F) ∧ xs.length ≤ 1000000000 ∧ w'.ownsRow w.heap.size 34 3 (.slice A xs.length cap) xs.length (ecells xs)) ∧ Below w.heap.size w w' := by
  have hsz := hown.size_le
  refine (collect_any Bm b nn D0 w hBm hm hown (by omega)).mono ?_
  rintro e w' ⟨⟨v, ps, rfl, h1, h2⟩, hb⟩
  obtain ⟨A, cap, rfl⟩ := row_slice h2
  have hk := h1.2.2.2
  exact ⟨⟨_, A, cap, rfl, fun ys hp hs => sorted_pure h1 hD hp hs, by rw [List.length_map]; omega, h2⟩, hb⟩
set_option maxRecDepth 100000 in
set_option maxHeartbeats 1000000 in
theorem sorted_any (Bm b nn : Nat) (D0 : DataW Unit) (F : List En) (w : World) (hBm : Bm < w.heap.size) (hm : w.cell? ⟨Bm, 0, none⟩ = some (.map (some b))) (hown : w.ownsMap Tryd.prog 9 enR b nn D0) (hn : nn ≤ 1000000000) (hD : MapIs D0 (stE F)) :
    Calls Tryd.prog 32 #[.func (.func 49) #[] #[.pointer (some ⟨Bm, 0, none⟩)], .func (.func 34) #[] #[]] w fun e w' => ∃ A cap, e = .returned (.slice A (firE F).length cap) ∧ CsAt w' A (ecells (firE F)) ∧ Below w.heap.size w w' := by
  have H := collect_pure Bm b nn D0 F w hBm hm hown hn hD
  generalize firE F = R at *
  clear hm hD hown
  go_enter Tryd.func32, Tryd.ntmps32
  go_wp2_with (go_at_call 47; refine H.mono ?_; rintro e w1 ⟨⟨xs, A, cap, rfl, hF, hlen, h2⟩, hb⟩; refine Hid.out ?_)
  refine Lib.hid ?_
  have HS := sort_any w1 w.heap.size A cap xs h2 hb.size hlen
  have HF := Lib.hid hF
  clear H h2 hF
  go_wp2_with (go_at_call 48; refine HS.mono ?_; rintro e w2 ⟨rfl, ⟨ys, hp, hs, hc⟩, hb2⟩; refine Hid.out ?_)
  refine Lib.hid ?_
  have ey := HF.out ys hp hs
  have el : xs.length = R.length := by rw [← ey]; exact hp.length_eq.symm
  rw [ey] at hc
  have B2 := hb.trans hb2
  have HEl := Lib.hid el
  clear HS HF hp hs el ey
  go_wp2_with fail
  go_ret
  exact ⟨A, cap, by rw [HEl.out]; rfl, hc, B2⟩
end Go.Proofs.YtpjjjelibpoohabDoor
