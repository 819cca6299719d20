/- Some entries of a table; two lists of entries that are the same. -/
import Derived.Test.YtckjcjoheeobgaaGreatDoorTc
namespace Go.Proofs.YtckjcjoheeobgaaGreatDoor
open Go.RowKit

/-- Does an entry lie there? -/
def inE (low high : ByteArray) (e : En) : Bool := !decide (kl e < low.data.toList) && (high.data.toList.isEmpty || decide (kl e < high.data.toList))
theorem part_in (L : List En) (low high : ByteArray) : partE L low.data.toList high.data.toList = L.filter (inE low high) := rfl
theorem filt_snoc (p : En → Bool) (L : List En) (k : Nat) (h : k < L.length) : (L.take (k + 1)).filter p = (L.take k).filter p ++ if p L[k] = true then [L[k]] else [] := by
  rw [List.take_succ_eq_append_getElem h, List.filter_append]
  by_cases hp : p L[k] = true
  · rw [if_pos hp, List.filter_cons_of_pos hp]; rfl
  · rw [if_neg hp, List.filter_cons_of_neg hp]; rfl
theorem in_ways (low high : ByteArray) (key val : ByteArray) (dead : Bool) :
    (inE low high ⟨key, val, dead⟩ = false ∧ Op.bytesLess key.toList low.toList = true) ∨
    (inE low high ⟨key, val, dead⟩ = true ∧ Op.bytesLess key.toList low.toList = false ∧ high.toList.isEmpty = true) ∨
    (inE low high ⟨key, val, dead⟩ = true ∧ Op.bytesLess key.toList low.toList = false ∧ high.toList.isEmpty = false ∧ Op.bytesLess key.toList high.toList = true) ∨
    (inE low high ⟨key, val, dead⟩ = false ∧ Op.bytesLess key.toList low.toList = false ∧ high.toList.isEmpty = false ∧ Op.bytesLess key.toList high.toList = false) := by
  rw [bytesLess_eq, bytesLess_eq, Lib.toList_data, Lib.toList_data, Lib.toList_data]
  unfold inE kl
  simp only
  by_cases h1 : key.data.toList < low.data.toList
  · left; simp [h1]
  · right
    cases h2 : high.data.toList.isEmpty with
    | true => left; simp [h1]
    | false =>
      right
      by_cases h3 : key.data.toList < high.data.toList
      · left; simp [h1, h3]
      · right; simp [h1, h3]
theorem cell3_new (w : World) (a b c : Value) (t : TypeId) : ∀ j u, [a, b, c][j]? = some u → (w.alloc (.cells #[a, b, c] t)).cell? ((⟨w.heap.size, 0, none⟩ : Addr).add j) = some u := by
  intro j u hj
  match j, hj with
  | 0, hj => simp at hj; subst hj; simp [Addr.add]
  | 1, hj => simp at hj; subst hj; simp [Addr.add]
  | 2, hj => simp at hj; subst hj; simp [Addr.add]
theorem cell3_new2 (w : World) (o : Obj) (a b c : Value) (t : TypeId) : ∀ j u, [a, b, c][j]? = some u → ((w.alloc o).alloc (.cells #[a, b, c] t)).cell? ((⟨w.heap.size + 1, 0, none⟩ : Addr).add j) = some u := by
  intro j u hj
  have h := cell3_new (w.alloc o) a b c t j u hj
  rw [show (w.alloc o).heap.size = w.heap.size + 1 from by simp] at h
  exact h
theorem filt_le (p : En → Bool) (L : List En) (k : Nat) : ((L.take k).filter p).length ≤ L.length := Nat.le_trans (List.length_filter_le _ _) (by simp; omega)

/-- How Scan ends. -/
def ScEnd (w : World) (r : Option (List En)) (low high : ByteArray) (e : Ending) (w' : World) : Prop :=
  (match r with
   | none => e = .returned (.tuple #[.slice none 0 0, .iface 54 (.int .i64 9)])
   | some xs => ∃ v, e = .returned (.tuple #[v, .nilIface]) ∧ w'.ownsRow w.heap.size 40 3 v (xs.filter (inE low high)).length (ecells (xs.filter (inE low high)))) ∧ Below w.heap.size w w'
set_option maxRecDepth 100000 in
set_option maxHeartbeats 2000000 in
theorem spart_any (w : World) (la : Option Addr) (c : Nat) (xs : List En) (low high : ByteArray) (h : CsAt w la (ecells xs)) (hx4 : xs.length ≤ 400) :
    Calls Tryz.prog 19 #[.slice la xs.length c, .string low, .string high] w fun e w' => ∃ v, e = .returned v ∧ w'.ownsRow w.heap.size 40 3 v (xs.filter (inE low high)).length (ecells (xs.filter (inE low high))) ∧ Below w.heap.size w w' := by
  obtain ⟨i0, hi, hz0, hz1, hz2⟩ := info_parts infoEn
  obtain ⟨B, hB⟩ : ∃ B, B = w.heap.size := ⟨_, rfl⟩
  have hkeep : ∀ w', Below B w w' → CsAt w' la (ecells xs) := fun w' hb => h.keep (by rw [← hB]; exact hb)
  have hBw : B ≤ w.heap.size := by omega
  rw [← hB]
  clear h hB
  go_enter Tryz.func19, Tryz.ntmps19
  go_wp2_with fail
  go_loopw [7, 8] (fun v i wr => ∃ k : Nat, k ≤ xs.length ∧ i = .int .i64 k ∧ wr.ownsRow B 40 3 v ((xs.take k).filter (inE low high)).length (ecells ((xs.take k).filter (inE low high))) ∧ Below B w wr) (fun _ i _ => xs.length - (intOf i).toNat)
  case atStart => exact ⟨0, by omega, rfl, World.ownsRow_nil _ _ _ _, Below.refl _ _⟩
  case round =>
    obtain ⟨k, hk, rfl, hown, hb⟩ := hrel
    have hbz := hb.size
    by_cases hlt : k < xs.length
    · obtain ⟨b, o, rfl, c0, c1, c2⟩ := ens_at (hkeep _ hb) k hlt
      have hsn := filt_snoc (inE low high) xs k hlt
      have hfl := filt_le (inE low high) xs k
      generalize (xs.take k).filter (inE low high) = ys at *
      generalize xs[k] = r at *
      obtain ⟨key, val, dead⟩ := r
      simp only at c0 c1 c2
      have hBr : B ≤ wr.heap.size := by omega
      rcases in_ways low high key val dead with ⟨hin, hx⟩ | ⟨hin, hx⟩ | ⟨hin, hx⟩ | ⟨hin, hx⟩
      · rw [hin, if_neg (by decide), List.append_nil] at hsn
        have HSN := Lib.hid hsn
        clear hsn hin
        go_wp2_with fail
        go_roundw
        case rel => exact ⟨k + 1, by omega, by go_num, by rw [HSN.out]; exact hown, hb⟩
        case measure => simp [intOf]; omega
      · obtain ⟨hx1, hx2⟩ := hx
        rw [hin, if_pos rfl] at hsn
        have HSN := Lib.hid hsn
        clear hsn hin
        go_wp2_with (at_builtin; refine wpList_append_own _ rfl _ _ 30 rfl B 40 i0 (.agg #[.string ⟨#[]⟩, .string ⟨#[]⟩, .bool false]) 3 40 Tryz.underlying30 hi hz0 hz1 hz2 rfl (by decide) _ _ _ rfl (hown.alloc _) ⟨_, 0, none⟩ 1 1 [.string key, .string val, .bool dead] rfl rfl (cell3_new _ _ _ _ _) (by intro u hu; simp at hu; rcases hu with rfl | rfl | rfl <;> rfl) (by unfold maxLen; omega) (by omega) (by simp; omega) ?_)
        intro v' w3 hown' hgrow _
        have own3 : w3.ownsRow B 40 3 v' (ys ++ [(⟨key, val, dead⟩ : En)]).length (ecells (ys ++ [(⟨key, val, dead⟩ : En)])) := by rw [ecells_append, List.length_append]; exact hown'
        have b3 : Below B w w3 := (hb.alloc hBr _).grown hgrow (by simp; omega) (fun j hj => by have := (hown.lt j hj).1; omega)
        clear hown' hgrow
        go_wp2_with fail
        go_roundw
        case rel => exact ⟨k + 1, by omega, by go_num, by rw [HSN.out]; exact own3, b3⟩
        case measure => simp [intOf]; omega
      · obtain ⟨hx1, hx2, hx3⟩ := hx
        rw [hin, if_pos rfl] at hsn
        have HSN := Lib.hid hsn
        clear hsn hin
        go_wp2_with (at_builtin; refine wpList_append_own _ rfl _ _ 30 rfl B 40 i0 (.agg #[.string ⟨#[]⟩, .string ⟨#[]⟩, .bool false]) 3 40 Tryz.underlying30 hi hz0 hz1 hz2 rfl (by decide) _ _ _ rfl (hown.alloc _) ⟨_, 0, none⟩ 1 1 [.string key, .string val, .bool dead] rfl rfl (cell3_new _ _ _ _ _) (by intro u hu; simp at hu; rcases hu with rfl | rfl | rfl <;> rfl) (by unfold maxLen; omega) (by omega) (by simp; omega) ?_)
        intro v' w3 hown' hgrow _
        have own3 : w3.ownsRow B 40 3 v' (ys ++ [(⟨key, val, dead⟩ : En)]).length (ecells (ys ++ [(⟨key, val, dead⟩ : En)])) := by rw [ecells_append, List.length_append]; exact hown'
        have b3 : Below B w w3 := (hb.alloc hBr _).grown hgrow (by simp; omega) (fun j hj => by have := (hown.lt j hj).1; omega)
        clear hown' hgrow
        go_wp2_with fail
        go_roundw
        case rel => exact ⟨k + 1, by omega, by go_num, by rw [HSN.out]; exact own3, b3⟩
        case measure => simp [intOf]; omega
      · obtain ⟨hx1, hx2, hx3⟩ := hx
        rw [hin, if_neg (by decide), List.append_nil] at hsn
        have HSN := Lib.hid hsn
        clear hsn hin
        go_wp2_with fail
        go_roundw
        case rel => exact ⟨k + 1, by omega, by go_num, by rw [HSN.out]; exact hown, hb⟩
        case measure => simp [intOf]; omega
    · have e : xs.take k = xs := List.take_of_length_le (by omega)
      rw [e] at hown
      go_wp2_with fail
      go_ret
      exact ⟨_, rfl, hown, hb⟩

set_option maxRecDepth 100000 in
set_option maxHeartbeats 1000000 in
theorem sameEns_any (w : World) (la lb : Option Addr) (c d : Nat) (L : List En) (ha : CsAt w la (ecells L)) (hb : CsAt w lb (ecells L)) (hlen : L.length ≤ 9223372036854775807) :
    Calls Tryz.prog 17 #[.slice la L.length c, .slice lb L.length d] w fun e w' => e = .returned (.bool true) ∧ Below w.heap.size w w' := by
  go_enter Tryz.func17, Tryz.ntmps17
  go_wp2_with fail
  go_loopw [5] (fun i wr => ∃ k : Nat, k ≤ L.length ∧ i = .int .i64 k ∧ Below w.heap.size w wr) (fun i _ => L.length - (intOf i).toNat)
  case atStart => exact ⟨0, by omega, rfl, Below.refl _ _⟩
  case round =>
    obtain ⟨k, hk, rfl, hbl⟩ := hrel
    by_cases hlt : k < L.length
    · obtain ⟨b, o, rfl, c0, c1, c2⟩ := ens_at (ha.keep hbl) k hlt
      obtain ⟨b', o', rfl, d0, d1, d2⟩ := ens_at (hb.keep hbl) k hlt
      generalize L[k] = r at *
      obtain ⟨key, val, dead⟩ := r
      simp only at c0 c1 c2 d0 d1 d2
      go_wp2_with fail
      go_quiet (fail)
      go_wp2_with fail
      go_roundw
      case rel => exact ⟨k + 1, by omega, by go_num, by exact ⟨hbl.os, hbl.tape, hbl.output, hbl.size, hbl.block⟩⟩
      case measure => simp [intOf]; omega
    · go_wp2_with fail
      go_ret
      exact ⟨rfl, hbl⟩
end Go.Proofs.YtckjcjoheeobgaaGreatDoor
