/- A line's words, parted. -/
import Derived.Test.YthadeccnibnioaaGreatDoorYc
import Derived.Test.YthadeccnibnioaaGreatDoorJb
namespace Go.Proofs.YthadeccnibnioaaGreatDoor
open Go.RowKit
set_option linter.unusedVariables false
/-- Words in memory, behind a slice. -/
def WsAt (w : World) (wa : Option Addr) (W : List (List UInt8)) : Prop := W = [] ∨ ∃ b o, wa = some ⟨b, o, none⟩ ∧ ∀ j (h : j < W.length), w.cell? ⟨b, o + j, none⟩ = some (.string ⟨W[j].toArray⟩)
theorem WsAt.keep {w w' : World} {wa : Option Addr} {W : List (List UInt8)} (h : WsAt w wa W) (k : Keeps w w') : WsAt w' wa W := by
  rcases h with h | ⟨b, o, h1, h2⟩
  · exact .inl h
  · exact .inr ⟨b, o, h1, fun j hj => k _ _ (h2 j hj)⟩
theorem WsAt.front {w : World} {wa : Option Addr} {V : List (List UInt8)} {x : List UInt8} (h : WsAt w wa (V ++ [x])) : ∃ b o, wa = some ⟨b, o, none⟩ ∧ w.cell? ⟨b, o + V.length, none⟩ = some (.string ⟨x.toArray⟩) ∧ WsAt w wa V := by
  rcases h with h | ⟨b, o, h1, h2⟩
  · simp at h
  · refine ⟨b, o, h1, ?_, .inr ⟨b, o, h1, fun j hj => ?_⟩⟩
    · have := h2 V.length (by simp)
      simpa using this
    · have := h2 j (by simp; omega)
      rwa [List.getElem_append_left hj] at this
/-- What parted answers: fr are the words of From, own the own one. -/
def PtIs (k : Int) (W : List (List UInt8)) (wa : Option Addr) (c : Nat) (fa : Option Addr) (fc : Nat) (fr : List (List UInt8)) (own : List UInt8) (ok : Bool) : Prop :=
  fr.length ≤ fc ∧ fr.length ≤ W.length ∧ (own = [] ∨ own ∈ W) ∧ ((ok = true ∧ partP k W = some (fr, own)) ∨ (ok = false ∧ partP k W = none)) ∧ ∀ w, WsAt w wa W → WsAt w fa fr ∧ Calls Tryz.prog 94 #[.int .i64 k, .slice wa W.length c] w fun e w' => e = .returned (.tuple #[.slice fa fr.length fc, .string ⟨own.toArray⟩, .bool ok]) ∧ ∃ n, w' = w.drewN n
theorem part_own {k : Int} {V : List (List UInt8)} {x : List UInt8} (h : (hasNP k || hasTP k) = true) : partP k (V ++ [x]) = if (k = 1 ∧ V = []) ∨ (k ≠ 1 ∧ V.length = 1) then some (V, x) else none := by
  unfold partP
  rw [if_pos h]
  simp
theorem part_nil {k : Int} (h : (hasNP k || hasTP k) = true) : partP k [] = none := by
  unfold partP
  rw [if_pos h]
  simp
theorem part_yes {k : Int} {V : List (List UInt8)} {x : List UInt8} (h : (hasNP k || hasTP k) = true) (hk : k ≠ 1) (hv : V.length = 1) : partP k (V ++ [x]) = some (V, x) := by
  rw [part_own h, if_pos (.inr ⟨hk, hv⟩)]
theorem part_no {k : Int} {V : List (List UInt8)} {x : List UInt8} (h : (hasNP k || hasTP k) = true) (hk : k ≠ 1) (hv : V.length ≠ 1) : partP k (V ++ [x]) = none := by
  rw [part_own h, if_neg]
  rintro (⟨h1, -⟩ | ⟨-, h2⟩)
  · exact hk h1
  · exact hv h2
theorem part_yes1 {V : List (List UInt8)} {x : List UInt8} (hv : V.length = 0) : partP 1 (V ++ [x]) = some (V, x) := by
  rw [part_own rfl, if_pos (.inl ⟨rfl, List.length_eq_zero_iff.1 hv⟩)]
theorem part_no1 {V : List (List UInt8)} {x : List UInt8} (hv : V.length ≠ 0) : partP 1 (V ++ [x]) = none := by
  rw [part_own rfl, if_neg]
  rintro (⟨-, h2⟩ | ⟨h1, -⟩)
  · exact hv (by rw [h2]; rfl)
  · exact h1 rfl
theorem part_bare {k : Int} {W : List (List UInt8)} (h : (hasNP k || hasTP k) = false) : partP k W = if k = 6 ∨ W.length = 1 then some (W, []) else none := by
  unfold partP
  rw [h]
  simp
set_option maxHeartbeats 1000000 in
theorem parted_1 (W : List (List UInt8)) (wa : Option Addr) (c : Nat) (hc : W.length ≤ c) (hl : W.length ≤ 100000001) : ∃ fa fc fr own ok, PtIs 1 W wa c fa fc fr own ok := by
  have HN := fun w => hasN_any 1 w
  have HT := fun w => hasT_any 1 w
  rw [show hasNP 1 = true from rfl] at HN
  rw [show hasTP 1 = false from rfl] at HT
  rcases List.eq_nil_or_concat W with rfl | ⟨V, x, rfl⟩
  · refine ⟨none, 0, [], [], false, Nat.le_refl _, Nat.le_refl _, .inl rfl, .inr ⟨rfl, part_nil rfl⟩, fun w hW => ⟨.inl rfl, ?_⟩⟩
    clear hW
    go_enter Tryz.func94, Tryz.ntmps94
    go_wp2_with (first | (go_at_call 88; refine (HN _).mono ?_; rintro e w' ⟨rfl, rfl⟩) | (go_at_call 89; refine (HT _).mono ?_; rintro e w' ⟨rfl, rfl⟩))
    exact bodyPost_ret (v := .tuple #[.slice none 0 0, .string ⟨#[]⟩, .bool false]) (by simp [results, Tryz.results94, go_sem]) rfl ⟨rfl, 0, rfl⟩
  · rw [List.concat_eq_append] at *
    have hlen : (V ++ [x]).length = V.length + 1 := by simp
    by_cases hk : V.length = 0
    · refine ⟨wa, c, V, x, true, by omega, by omega, .inr (by simp), .inl ⟨rfl, part_yes1 hk⟩, fun w hW => ?_⟩
      obtain ⟨b, o, rfl, hcell, hV⟩ := hW.front
      refine ⟨hV, ?_⟩
      rw [hlen] at hc hl ⊢
      rw [hk] at hcell hc hl ⊢
      simp only [Nat.add_zero] at hcell
      have hc1 : 1 ≤ c := by omega
      clear hV hW hlen hk
      go_enter Tryz.func94, Tryz.ntmps94
      go_wp2_with (first | (go_at_call 88; refine (HN _).mono ?_; rintro e w' ⟨rfl, rfl⟩) | (go_at_call 89; refine (HT _).mono ?_; rintro e w' ⟨rfl, rfl⟩))
      go_quiet (fail)
      go_wp2_with fail
      exact bodyPost_ret (v := .tuple #[.slice (some ⟨b, o, none⟩) 0 c, .string ⟨x.toArray⟩, .bool true]) (by simp [results, Tryz.results94, go_sem]) rfl ⟨rfl, nq, rfl⟩
    · refine ⟨wa, c, V, x, false, by omega, by omega, .inr (by simp), .inr ⟨rfl, part_no1 hk⟩, fun w hW => ?_⟩
      obtain ⟨b, o, rfl, hcell, hV⟩ := hW.front
      refine ⟨hV, ?_⟩
      rw [hlen] at hc hl ⊢
      obtain ⟨m, hm⟩ : ∃ m, V.length = m := ⟨_, rfl⟩
      rw [hm] at hcell hc hl hk ⊢
      have hk' : ((m : Int) == 0) = false := by simpa using (by omega : ¬ (m : Int) = 0)
      clear hV hW hlen hm
      go_enter Tryz.func94, Tryz.ntmps94
      go_wp2_with (first | (go_at_call 88; refine (HN _).mono ?_; rintro e w' ⟨rfl, rfl⟩) | (go_at_call 89; refine (HT _).mono ?_; rintro e w' ⟨rfl, rfl⟩))
      go_quiet (fail)
      go_wp2_with fail
      exact bodyPost_ret (v := .tuple #[.slice (some ⟨b, o, none⟩) m c, .string ⟨x.toArray⟩, .bool false]) (by simp [results, Tryz.results94, go_sem]) rfl ⟨rfl, nq, rfl⟩
set_option maxHeartbeats 1000000 in
theorem parted_2 (W : List (List UInt8)) (wa : Option Addr) (c : Nat) (hc : W.length ≤ c) (hl : W.length ≤ 100000001) : ∃ fa fc fr own ok, PtIs 2 W wa c fa fc fr own ok := by
  have HN := fun w => hasN_any 2 w
  have HT := fun w => hasT_any 2 w
  rw [show hasNP 2 = false from rfl] at HN
  rw [show hasTP 2 = true from rfl] at HT
  rcases List.eq_nil_or_concat W with rfl | ⟨V, x, rfl⟩
  · refine ⟨none, 0, [], [], false, Nat.le_refl _, Nat.le_refl _, .inl rfl, .inr ⟨rfl, part_nil rfl⟩, fun w hW => ⟨.inl rfl, ?_⟩⟩
    clear hW
    go_enter Tryz.func94, Tryz.ntmps94
    go_wp2_with (first | (go_at_call 88; refine (HN _).mono ?_; rintro e w' ⟨rfl, rfl⟩) | (go_at_call 89; refine (HT _).mono ?_; rintro e w' ⟨rfl, rfl⟩))
    exact bodyPost_ret (v := .tuple #[.slice none 0 0, .string ⟨#[]⟩, .bool false]) (by simp [results, Tryz.results94, go_sem]) rfl ⟨rfl, 0, rfl⟩
  · rw [List.concat_eq_append] at *
    have hlen : (V ++ [x]).length = V.length + 1 := by simp
    by_cases hk : V.length = 1
    · refine ⟨wa, c, V, x, true, by omega, by omega, .inr (by simp), .inl ⟨rfl, part_yes (k := 2) rfl (by omega) hk⟩, fun w hW => ?_⟩
      obtain ⟨b, o, rfl, hcell, hV⟩ := hW.front
      refine ⟨hV, ?_⟩
      rw [hlen] at hc hl ⊢
      rw [hk] at hcell hc hl ⊢
      have hc0 := hc
      have hc1 : 1 ≤ c := by omega
      clear hV hW hlen hk
      go_enter Tryz.func94, Tryz.ntmps94
      go_wp2_with (first | (go_at_call 88; refine (HN _).mono ?_; rintro e w' ⟨rfl, rfl⟩) | (go_at_call 89; refine (HT _).mono ?_; rintro e w' ⟨rfl, rfl⟩))
      go_quiet (fail)
      go_wp2_with fail
      exact bodyPost_ret (v := .tuple #[.slice (some ⟨b, o, none⟩) 1 c, .string ⟨x.toArray⟩, .bool true]) (by simp [results, Tryz.results94, go_sem]) rfl ⟨rfl, nq, rfl⟩
    · refine ⟨wa, c, V, x, false, by omega, by omega, .inr (by simp), .inr ⟨rfl, part_no (k := 2) rfl (by omega) hk⟩, fun w hW => ?_⟩
      obtain ⟨b, o, rfl, hcell, hV⟩ := hW.front
      refine ⟨hV, ?_⟩
      rw [hlen] at hc hl ⊢
      obtain ⟨m, hm⟩ : ∃ m, V.length = m := ⟨_, rfl⟩
      rw [hm] at hcell hc hl hk ⊢
      have hk' : ((m : Int) == 1) = false := by simpa using (by omega : ¬ (m : Int) = 1)
      clear hV hW hlen hm
      go_enter Tryz.func94, Tryz.ntmps94
      go_wp2_with (first | (go_at_call 88; refine (HN _).mono ?_; rintro e w' ⟨rfl, rfl⟩) | (go_at_call 89; refine (HT _).mono ?_; rintro e w' ⟨rfl, rfl⟩))
      go_quiet (fail)
      go_wp2_with fail
      exact bodyPost_ret (v := .tuple #[.slice (some ⟨b, o, none⟩) m c, .string ⟨x.toArray⟩, .bool false]) (by simp [results, Tryz.results94, go_sem]) rfl ⟨rfl, nq, rfl⟩
set_option maxHeartbeats 1000000 in
theorem parted_3 (W : List (List UInt8)) (wa : Option Addr) (c : Nat) (hc : W.length ≤ c) (hl : W.length ≤ 100000001) : ∃ fa fc fr own ok, PtIs 3 W wa c fa fc fr own ok := by
  have HN := fun w => hasN_any 3 w
  have HT := fun w => hasT_any 3 w
  rw [show hasNP 3 = false from rfl] at HN
  rw [show hasTP 3 = true from rfl] at HT
  rcases List.eq_nil_or_concat W with rfl | ⟨V, x, rfl⟩
  · refine ⟨none, 0, [], [], false, Nat.le_refl _, Nat.le_refl _, .inl rfl, .inr ⟨rfl, part_nil rfl⟩, fun w hW => ⟨.inl rfl, ?_⟩⟩
    clear hW
    go_enter Tryz.func94, Tryz.ntmps94
    go_wp2_with (first | (go_at_call 88; refine (HN _).mono ?_; rintro e w' ⟨rfl, rfl⟩) | (go_at_call 89; refine (HT _).mono ?_; rintro e w' ⟨rfl, rfl⟩))
    exact bodyPost_ret (v := .tuple #[.slice none 0 0, .string ⟨#[]⟩, .bool false]) (by simp [results, Tryz.results94, go_sem]) rfl ⟨rfl, 0, rfl⟩
  · rw [List.concat_eq_append] at *
    have hlen : (V ++ [x]).length = V.length + 1 := by simp
    by_cases hk : V.length = 1
    · refine ⟨wa, c, V, x, true, by omega, by omega, .inr (by simp), .inl ⟨rfl, part_yes (k := 3) rfl (by omega) hk⟩, fun w hW => ?_⟩
      obtain ⟨b, o, rfl, hcell, hV⟩ := hW.front
      refine ⟨hV, ?_⟩
      rw [hlen] at hc hl ⊢
      rw [hk] at hcell hc hl ⊢
      have hc0 := hc
      have hc1 : 1 ≤ c := by omega
      clear hV hW hlen hk
      go_enter Tryz.func94, Tryz.ntmps94
      go_wp2_with (first | (go_at_call 88; refine (HN _).mono ?_; rintro e w' ⟨rfl, rfl⟩) | (go_at_call 89; refine (HT _).mono ?_; rintro e w' ⟨rfl, rfl⟩))
      go_quiet (fail)
      go_wp2_with fail
      exact bodyPost_ret (v := .tuple #[.slice (some ⟨b, o, none⟩) 1 c, .string ⟨x.toArray⟩, .bool true]) (by simp [results, Tryz.results94, go_sem]) rfl ⟨rfl, nq, rfl⟩
    · refine ⟨wa, c, V, x, false, by omega, by omega, .inr (by simp), .inr ⟨rfl, part_no (k := 3) rfl (by omega) hk⟩, fun w hW => ?_⟩
      obtain ⟨b, o, rfl, hcell, hV⟩ := hW.front
      refine ⟨hV, ?_⟩
      rw [hlen] at hc hl ⊢
      obtain ⟨m, hm⟩ : ∃ m, V.length = m := ⟨_, rfl⟩
      rw [hm] at hcell hc hl hk ⊢
      have hk' : ((m : Int) == 1) = false := by simpa using (by omega : ¬ (m : Int) = 1)
      clear hV hW hlen hm
      go_enter Tryz.func94, Tryz.ntmps94
      go_wp2_with (first | (go_at_call 88; refine (HN _).mono ?_; rintro e w' ⟨rfl, rfl⟩) | (go_at_call 89; refine (HT _).mono ?_; rintro e w' ⟨rfl, rfl⟩))
      go_quiet (fail)
      go_wp2_with fail
      exact bodyPost_ret (v := .tuple #[.slice (some ⟨b, o, none⟩) m c, .string ⟨x.toArray⟩, .bool false]) (by simp [results, Tryz.results94, go_sem]) rfl ⟨rfl, nq, rfl⟩
set_option maxHeartbeats 1000000 in
theorem parted_4 (W : List (List UInt8)) (wa : Option Addr) (c : Nat) (hc : W.length ≤ c) (hl : W.length ≤ 100000001) : ∃ fa fc fr own ok, PtIs 4 W wa c fa fc fr own ok := by
  have HN := fun w => hasN_any 4 w
  have HT := fun w => hasT_any 4 w
  rw [show hasNP 4 = false from rfl] at HN
  rw [show hasTP 4 = true from rfl] at HT
  rcases List.eq_nil_or_concat W with rfl | ⟨V, x, rfl⟩
  · refine ⟨none, 0, [], [], false, Nat.le_refl _, Nat.le_refl _, .inl rfl, .inr ⟨rfl, part_nil rfl⟩, fun w hW => ⟨.inl rfl, ?_⟩⟩
    clear hW
    go_enter Tryz.func94, Tryz.ntmps94
    go_wp2_with (first | (go_at_call 88; refine (HN _).mono ?_; rintro e w' ⟨rfl, rfl⟩) | (go_at_call 89; refine (HT _).mono ?_; rintro e w' ⟨rfl, rfl⟩))
    exact bodyPost_ret (v := .tuple #[.slice none 0 0, .string ⟨#[]⟩, .bool false]) (by simp [results, Tryz.results94, go_sem]) rfl ⟨rfl, 0, rfl⟩
  · rw [List.concat_eq_append] at *
    have hlen : (V ++ [x]).length = V.length + 1 := by simp
    by_cases hk : V.length = 1
    · refine ⟨wa, c, V, x, true, by omega, by omega, .inr (by simp), .inl ⟨rfl, part_yes (k := 4) rfl (by omega) hk⟩, fun w hW => ?_⟩
      obtain ⟨b, o, rfl, hcell, hV⟩ := hW.front
      refine ⟨hV, ?_⟩
      rw [hlen] at hc hl ⊢
      rw [hk] at hcell hc hl ⊢
      have hc0 := hc
      have hc1 : 1 ≤ c := by omega
      clear hV hW hlen hk
      go_enter Tryz.func94, Tryz.ntmps94
      go_wp2_with (first | (go_at_call 88; refine (HN _).mono ?_; rintro e w' ⟨rfl, rfl⟩) | (go_at_call 89; refine (HT _).mono ?_; rintro e w' ⟨rfl, rfl⟩))
      go_quiet (fail)
      go_wp2_with fail
      exact bodyPost_ret (v := .tuple #[.slice (some ⟨b, o, none⟩) 1 c, .string ⟨x.toArray⟩, .bool true]) (by simp [results, Tryz.results94, go_sem]) rfl ⟨rfl, nq, rfl⟩
    · refine ⟨wa, c, V, x, false, by omega, by omega, .inr (by simp), .inr ⟨rfl, part_no (k := 4) rfl (by omega) hk⟩, fun w hW => ?_⟩
      obtain ⟨b, o, rfl, hcell, hV⟩ := hW.front
      refine ⟨hV, ?_⟩
      rw [hlen] at hc hl ⊢
      obtain ⟨m, hm⟩ : ∃ m, V.length = m := ⟨_, rfl⟩
      rw [hm] at hcell hc hl hk ⊢
      have hk' : ((m : Int) == 1) = false := by simpa using (by omega : ¬ (m : Int) = 1)
      clear hV hW hlen hm
      go_enter Tryz.func94, Tryz.ntmps94
      go_wp2_with (first | (go_at_call 88; refine (HN _).mono ?_; rintro e w' ⟨rfl, rfl⟩) | (go_at_call 89; refine (HT _).mono ?_; rintro e w' ⟨rfl, rfl⟩))
      go_quiet (fail)
      go_wp2_with fail
      exact bodyPost_ret (v := .tuple #[.slice (some ⟨b, o, none⟩) m c, .string ⟨x.toArray⟩, .bool false]) (by simp [results, Tryz.results94, go_sem]) rfl ⟨rfl, nq, rfl⟩
set_option maxHeartbeats 1000000 in
theorem parted_5 (W : List (List UInt8)) (wa : Option Addr) (c : Nat) (hc : W.length ≤ c) (hl : W.length ≤ 100000001) : ∃ fa fc fr own ok, PtIs 5 W wa c fa fc fr own ok := by
  have HN := fun w => hasN_any 5 w
  have HT := fun w => hasT_any 5 w
  rw [show hasNP 5 = true from rfl] at HN
  rw [show hasTP 5 = false from rfl] at HT
  rcases List.eq_nil_or_concat W with rfl | ⟨V, x, rfl⟩
  · refine ⟨none, 0, [], [], false, Nat.le_refl _, Nat.le_refl _, .inl rfl, .inr ⟨rfl, part_nil rfl⟩, fun w hW => ⟨.inl rfl, ?_⟩⟩
    clear hW
    go_enter Tryz.func94, Tryz.ntmps94
    go_wp2_with (first | (go_at_call 88; refine (HN _).mono ?_; rintro e w' ⟨rfl, rfl⟩) | (go_at_call 89; refine (HT _).mono ?_; rintro e w' ⟨rfl, rfl⟩))
    exact bodyPost_ret (v := .tuple #[.slice none 0 0, .string ⟨#[]⟩, .bool false]) (by simp [results, Tryz.results94, go_sem]) rfl ⟨rfl, 0, rfl⟩
  · rw [List.concat_eq_append] at *
    have hlen : (V ++ [x]).length = V.length + 1 := by simp
    by_cases hk : V.length = 1
    · refine ⟨wa, c, V, x, true, by omega, by omega, .inr (by simp), .inl ⟨rfl, part_yes (k := 5) rfl (by omega) hk⟩, fun w hW => ?_⟩
      obtain ⟨b, o, rfl, hcell, hV⟩ := hW.front
      refine ⟨hV, ?_⟩
      rw [hlen] at hc hl ⊢
      rw [hk] at hcell hc hl ⊢
      have hc0 := hc
      have hc1 : 1 ≤ c := by omega
      clear hV hW hlen hk
      go_enter Tryz.func94, Tryz.ntmps94
      go_wp2_with (first | (go_at_call 88; refine (HN _).mono ?_; rintro e w' ⟨rfl, rfl⟩) | (go_at_call 89; refine (HT _).mono ?_; rintro e w' ⟨rfl, rfl⟩))
      go_quiet (fail)
      go_wp2_with fail
      exact bodyPost_ret (v := .tuple #[.slice (some ⟨b, o, none⟩) 1 c, .string ⟨x.toArray⟩, .bool true]) (by simp [results, Tryz.results94, go_sem]) rfl ⟨rfl, nq, rfl⟩
    · refine ⟨wa, c, V, x, false, by omega, by omega, .inr (by simp), .inr ⟨rfl, part_no (k := 5) rfl (by omega) hk⟩, fun w hW => ?_⟩
      obtain ⟨b, o, rfl, hcell, hV⟩ := hW.front
      refine ⟨hV, ?_⟩
      rw [hlen] at hc hl ⊢
      obtain ⟨m, hm⟩ : ∃ m, V.length = m := ⟨_, rfl⟩
      rw [hm] at hcell hc hl hk ⊢
      have hk' : ((m : Int) == 1) = false := by simpa using (by omega : ¬ (m : Int) = 1)
      clear hV hW hlen hm
      go_enter Tryz.func94, Tryz.ntmps94
      go_wp2_with (first | (go_at_call 88; refine (HN _).mono ?_; rintro e w' ⟨rfl, rfl⟩) | (go_at_call 89; refine (HT _).mono ?_; rintro e w' ⟨rfl, rfl⟩))
      go_quiet (fail)
      go_wp2_with fail
      exact bodyPost_ret (v := .tuple #[.slice (some ⟨b, o, none⟩) m c, .string ⟨x.toArray⟩, .bool false]) (by simp [results, Tryz.results94, go_sem]) rfl ⟨rfl, nq, rfl⟩
set_option maxHeartbeats 1000000 in
theorem parted_6 (W : List (List UInt8)) (wa : Option Addr) (c : Nat) (hc : W.length ≤ c) (hl : W.length ≤ 100000001) : ∃ fa fc fr own ok, PtIs 6 W wa c fa fc fr own ok := by
  have HN := fun w => hasN_any 6 w
  have HT := fun w => hasT_any 6 w
  rw [show hasNP 6 = false from rfl] at HN
  rw [show hasTP 6 = false from rfl] at HT
  refine ⟨wa, c, W, [], true, hc, Nat.le_refl _, .inl rfl, .inl ⟨rfl, by rw [part_bare rfl]; simp⟩, fun w hW => ⟨hW, ?_⟩⟩
  clear hW
  go_enter Tryz.func94, Tryz.ntmps94
  go_wp2_with (first | (go_at_call 88; refine (HN _).mono ?_; rintro e w' ⟨rfl, rfl⟩) | (go_at_call 89; refine (HT _).mono ?_; rintro e w' ⟨rfl, rfl⟩))
  exact bodyPost_ret (v := .tuple #[.slice wa W.length c, .string ⟨#[]⟩, .bool true]) (by simp [results, Tryz.results94, go_sem]) rfl ⟨rfl, 0, rfl⟩
set_option maxHeartbeats 1000000 in
theorem parted_7 (W : List (List UInt8)) (wa : Option Addr) (c : Nat) (hc : W.length ≤ c) (hl : W.length ≤ 100000001) : ∃ fa fc fr own ok, PtIs 7 W wa c fa fc fr own ok := by
  have HN := fun w => hasN_any 7 w
  have HT := fun w => hasT_any 7 w
  rw [show hasNP 7 = false from rfl] at HN
  rw [show hasTP 7 = true from rfl] at HT
  rcases List.eq_nil_or_concat W with rfl | ⟨V, x, rfl⟩
  · refine ⟨none, 0, [], [], false, Nat.le_refl _, Nat.le_refl _, .inl rfl, .inr ⟨rfl, part_nil rfl⟩, fun w hW => ⟨.inl rfl, ?_⟩⟩
    clear hW
    go_enter Tryz.func94, Tryz.ntmps94
    go_wp2_with (first | (go_at_call 88; refine (HN _).mono ?_; rintro e w' ⟨rfl, rfl⟩) | (go_at_call 89; refine (HT _).mono ?_; rintro e w' ⟨rfl, rfl⟩))
    exact bodyPost_ret (v := .tuple #[.slice none 0 0, .string ⟨#[]⟩, .bool false]) (by simp [results, Tryz.results94, go_sem]) rfl ⟨rfl, 0, rfl⟩
  · rw [List.concat_eq_append] at *
    have hlen : (V ++ [x]).length = V.length + 1 := by simp
    by_cases hk : V.length = 1
    · refine ⟨wa, c, V, x, true, by omega, by omega, .inr (by simp), .inl ⟨rfl, part_yes (k := 7) rfl (by omega) hk⟩, fun w hW => ?_⟩
      obtain ⟨b, o, rfl, hcell, hV⟩ := hW.front
      refine ⟨hV, ?_⟩
      rw [hlen] at hc hl ⊢
      rw [hk] at hcell hc hl ⊢
      have hc0 := hc
      have hc1 : 1 ≤ c := by omega
      clear hV hW hlen hk
      go_enter Tryz.func94, Tryz.ntmps94
      go_wp2_with (first | (go_at_call 88; refine (HN _).mono ?_; rintro e w' ⟨rfl, rfl⟩) | (go_at_call 89; refine (HT _).mono ?_; rintro e w' ⟨rfl, rfl⟩))
      go_quiet (fail)
      go_wp2_with fail
      exact bodyPost_ret (v := .tuple #[.slice (some ⟨b, o, none⟩) 1 c, .string ⟨x.toArray⟩, .bool true]) (by simp [results, Tryz.results94, go_sem]) rfl ⟨rfl, nq, rfl⟩
    · refine ⟨wa, c, V, x, false, by omega, by omega, .inr (by simp), .inr ⟨rfl, part_no (k := 7) rfl (by omega) hk⟩, fun w hW => ?_⟩
      obtain ⟨b, o, rfl, hcell, hV⟩ := hW.front
      refine ⟨hV, ?_⟩
      rw [hlen] at hc hl ⊢
      obtain ⟨m, hm⟩ : ∃ m, V.length = m := ⟨_, rfl⟩
      rw [hm] at hcell hc hl hk ⊢
      have hk' : ((m : Int) == 1) = false := by simpa using (by omega : ¬ (m : Int) = 1)
      clear hV hW hlen hm
      go_enter Tryz.func94, Tryz.ntmps94
      go_wp2_with (first | (go_at_call 88; refine (HN _).mono ?_; rintro e w' ⟨rfl, rfl⟩) | (go_at_call 89; refine (HT _).mono ?_; rintro e w' ⟨rfl, rfl⟩))
      go_quiet (fail)
      go_wp2_with fail
      exact bodyPost_ret (v := .tuple #[.slice (some ⟨b, o, none⟩) m c, .string ⟨x.toArray⟩, .bool false]) (by simp [results, Tryz.results94, go_sem]) rfl ⟨rfl, nq, rfl⟩
set_option maxHeartbeats 1000000 in
theorem parted_8 (W : List (List UInt8)) (wa : Option Addr) (c : Nat) (hc : W.length ≤ c) (hl : W.length ≤ 100000001) : ∃ fa fc fr own ok, PtIs 8 W wa c fa fc fr own ok := by
  have HN := fun w => hasN_any 8 w
  have HT := fun w => hasT_any 8 w
  rw [show hasNP 8 = true from rfl] at HN
  rw [show hasTP 8 = false from rfl] at HT
  rcases List.eq_nil_or_concat W with rfl | ⟨V, x, rfl⟩
  · refine ⟨none, 0, [], [], false, Nat.le_refl _, Nat.le_refl _, .inl rfl, .inr ⟨rfl, part_nil rfl⟩, fun w hW => ⟨.inl rfl, ?_⟩⟩
    clear hW
    go_enter Tryz.func94, Tryz.ntmps94
    go_wp2_with (first | (go_at_call 88; refine (HN _).mono ?_; rintro e w' ⟨rfl, rfl⟩) | (go_at_call 89; refine (HT _).mono ?_; rintro e w' ⟨rfl, rfl⟩))
    exact bodyPost_ret (v := .tuple #[.slice none 0 0, .string ⟨#[]⟩, .bool false]) (by simp [results, Tryz.results94, go_sem]) rfl ⟨rfl, 0, rfl⟩
  · rw [List.concat_eq_append] at *
    have hlen : (V ++ [x]).length = V.length + 1 := by simp
    by_cases hk : V.length = 1
    · refine ⟨wa, c, V, x, true, by omega, by omega, .inr (by simp), .inl ⟨rfl, part_yes (k := 8) rfl (by omega) hk⟩, fun w hW => ?_⟩
      obtain ⟨b, o, rfl, hcell, hV⟩ := hW.front
      refine ⟨hV, ?_⟩
      rw [hlen] at hc hl ⊢
      rw [hk] at hcell hc hl ⊢
      have hc0 := hc
      have hc1 : 1 ≤ c := by omega
      clear hV hW hlen hk
      go_enter Tryz.func94, Tryz.ntmps94
      go_wp2_with (first | (go_at_call 88; refine (HN _).mono ?_; rintro e w' ⟨rfl, rfl⟩) | (go_at_call 89; refine (HT _).mono ?_; rintro e w' ⟨rfl, rfl⟩))
      go_quiet (fail)
      go_wp2_with fail
      exact bodyPost_ret (v := .tuple #[.slice (some ⟨b, o, none⟩) 1 c, .string ⟨x.toArray⟩, .bool true]) (by simp [results, Tryz.results94, go_sem]) rfl ⟨rfl, nq, rfl⟩
    · refine ⟨wa, c, V, x, false, by omega, by omega, .inr (by simp), .inr ⟨rfl, part_no (k := 8) rfl (by omega) hk⟩, fun w hW => ?_⟩
      obtain ⟨b, o, rfl, hcell, hV⟩ := hW.front
      refine ⟨hV, ?_⟩
      rw [hlen] at hc hl ⊢
      obtain ⟨m, hm⟩ : ∃ m, V.length = m := ⟨_, rfl⟩
      rw [hm] at hcell hc hl hk ⊢
      have hk' : ((m : Int) == 1) = false := by simpa using (by omega : ¬ (m : Int) = 1)
      clear hV hW hlen hm
      go_enter Tryz.func94, Tryz.ntmps94
      go_wp2_with (first | (go_at_call 88; refine (HN _).mono ?_; rintro e w' ⟨rfl, rfl⟩) | (go_at_call 89; refine (HT _).mono ?_; rintro e w' ⟨rfl, rfl⟩))
      go_quiet (fail)
      go_wp2_with fail
      exact bodyPost_ret (v := .tuple #[.slice (some ⟨b, o, none⟩) m c, .string ⟨x.toArray⟩, .bool false]) (by simp [results, Tryz.results94, go_sem]) rfl ⟨rfl, nq, rfl⟩
set_option maxHeartbeats 1000000 in
theorem parted_9 (W : List (List UInt8)) (wa : Option Addr) (c : Nat) (hc : W.length ≤ c) (hl : W.length ≤ 100000001) : ∃ fa fc fr own ok, PtIs 9 W wa c fa fc fr own ok := by
  have HN := fun w => hasN_any 9 w
  have HT := fun w => hasT_any 9 w
  rw [show hasNP 9 = false from rfl] at HN
  rw [show hasTP 9 = false from rfl] at HT
  by_cases hk : W.length = 1
  · refine ⟨wa, c, W, [], true, hc, Nat.le_refl _, .inl rfl, .inl ⟨rfl, by rw [part_bare rfl, if_pos (.inr hk)]⟩, fun w hW => ⟨hW, ?_⟩⟩
    rw [hk] at hc hl ⊢
    clear hW hk
    go_enter Tryz.func94, Tryz.ntmps94
    go_wp2_with (first | (go_at_call 88; refine (HN _).mono ?_; rintro e w' ⟨rfl, rfl⟩) | (go_at_call 89; refine (HT _).mono ?_; rintro e w' ⟨rfl, rfl⟩))
    exact bodyPost_ret (v := .tuple #[.slice wa 1 c, .string ⟨#[]⟩, .bool true]) (by simp [results, Tryz.results94, go_sem]) rfl ⟨rfl, 0, rfl⟩
  · refine ⟨wa, c, W, [], false, hc, Nat.le_refl _, .inl rfl, .inr ⟨rfl, by rw [part_bare rfl, if_neg (by rintro (h | h) <;> first | omega | exact hk h)]⟩, fun w hW => ⟨hW, ?_⟩⟩
    obtain ⟨m, hm⟩ : ∃ m, W.length = m := ⟨_, rfl⟩
    rw [hm] at hc hl hk ⊢
    have hk' : ((m : Int) == 1) = false := by simpa using (by omega : ¬ (m : Int) = 1)
    clear hW hm
    go_enter Tryz.func94, Tryz.ntmps94
    go_wp2_with (first | (go_at_call 88; refine (HN _).mono ?_; rintro e w' ⟨rfl, rfl⟩) | (go_at_call 89; refine (HT _).mono ?_; rintro e w' ⟨rfl, rfl⟩))
    exact bodyPost_ret (v := .tuple #[.slice wa m c, .string ⟨#[]⟩, .bool false]) (by simp [results, Tryz.results94, go_sem]) rfl ⟨rfl, 0, rfl⟩
set_option maxHeartbeats 1000000 in
theorem parted_10 (W : List (List UInt8)) (wa : Option Addr) (c : Nat) (hc : W.length ≤ c) (hl : W.length ≤ 100000001) : ∃ fa fc fr own ok, PtIs 10 W wa c fa fc fr own ok := by
  have HN := fun w => hasN_any 10 w
  have HT := fun w => hasT_any 10 w
  rw [show hasNP 10 = false from rfl] at HN
  rw [show hasTP 10 = false from rfl] at HT
  by_cases hk : W.length = 1
  · refine ⟨wa, c, W, [], true, hc, Nat.le_refl _, .inl rfl, .inl ⟨rfl, by rw [part_bare rfl, if_pos (.inr hk)]⟩, fun w hW => ⟨hW, ?_⟩⟩
    rw [hk] at hc hl ⊢
    clear hW hk
    go_enter Tryz.func94, Tryz.ntmps94
    go_wp2_with (first | (go_at_call 88; refine (HN _).mono ?_; rintro e w' ⟨rfl, rfl⟩) | (go_at_call 89; refine (HT _).mono ?_; rintro e w' ⟨rfl, rfl⟩))
    exact bodyPost_ret (v := .tuple #[.slice wa 1 c, .string ⟨#[]⟩, .bool true]) (by simp [results, Tryz.results94, go_sem]) rfl ⟨rfl, 0, rfl⟩
  · refine ⟨wa, c, W, [], false, hc, Nat.le_refl _, .inl rfl, .inr ⟨rfl, by rw [part_bare rfl, if_neg (by rintro (h | h) <;> first | omega | exact hk h)]⟩, fun w hW => ⟨hW, ?_⟩⟩
    obtain ⟨m, hm⟩ : ∃ m, W.length = m := ⟨_, rfl⟩
    rw [hm] at hc hl hk ⊢
    have hk' : ((m : Int) == 1) = false := by simpa using (by omega : ¬ (m : Int) = 1)
    clear hW hm
    go_enter Tryz.func94, Tryz.ntmps94
    go_wp2_with (first | (go_at_call 88; refine (HN _).mono ?_; rintro e w' ⟨rfl, rfl⟩) | (go_at_call 89; refine (HT _).mono ?_; rintro e w' ⟨rfl, rfl⟩))
    exact bodyPost_ret (v := .tuple #[.slice wa m c, .string ⟨#[]⟩, .bool false]) (by simp [results, Tryz.results94, go_sem]) rfl ⟨rfl, 0, rfl⟩
theorem parted_any {k : Int} (h1 : 1 ≤ k) (h2 : k ≤ 10) (W : List (List UInt8)) (wa : Option Addr) (c : Nat) (hc : W.length ≤ c) (hl : W.length ≤ 100000001) : ∃ fa fc fr own ok, PtIs k W wa c fa fc fr own ok := by
  rcases kinds h1 h2 with rfl | rfl | rfl | rfl | rfl | rfl | rfl | rfl | rfl | rfl
  · exact parted_1 W wa c hc hl
  · exact parted_2 W wa c hc hl
  · exact parted_3 W wa c hc hl
  · exact parted_4 W wa c hc hl
  · exact parted_5 W wa c hc hl
  · exact parted_6 W wa c hc hl
  · exact parted_7 W wa c hc hl
  · exact parted_8 W wa c hc hl
  · exact parted_9 W wa c hc hl
  · exact parted_10 W wa c hc hl
end Go.Proofs.YthadeccnibnioaaGreatDoor
