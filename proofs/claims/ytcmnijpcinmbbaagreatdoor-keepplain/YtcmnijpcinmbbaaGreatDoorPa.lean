/- Names of pictures' files; what is read of one. -/
import Derived.Test.YtcmnijpcinmbbaaGreatDoorDk
import Derived.Test.YtcmnijpcinmbbaaGreatDoorPureKp
import Derived.Lib.AppendIntMem
namespace Go.Proofs.YtcmnijpcinmbbaaGreatDoor
open Go.RowKit
set_option linter.unusedVariables false
/-- The table of powers, whatever turns from lo on. -/
def KT (lo : Nat) (w : World) : Prop := Lib.TabBelow Tryz.prog lo w "internal/strconv.uint64pow10" .u64 Lib.pow10Tab
theorem KT.on {lo : Nat} {w w' : World} (h : KT lo w) (hb : Below lo w w') : KT lo w' := Lib.TabBelow.on h hb
theorem itoa_of {lo : Nat} {w : World} (hT : KT lo w) {n : Int} (h0 : -9223372036854775808 ≤ n) (h1 : n ≤ 9223372036854775807) :
    Calls Tryz.prog 39 #[.int .i64 n] w fun e w' => e = .returned (.string ⟨(Lib.itoa n).toArray⟩) ∧ Below w.heap.size w w' :=
  (Tryz.strconv_Itoa n h0 h1 w hT.here).mono fun e w' ⟨h, k, os, hw⟩ => ⟨h, by rw [hw]; exact Lib.below_grow _ _ (Nat.le_refl _) _ _⟩
theorem nmK_str (id : Int) : (⟨#[112, 105, 99, 116, 117, 114, 101, 45]⟩ : ByteArray) ++ ⟨(Lib.itoa id).toArray⟩ = nmK id := by
  apply bytes_ext
  rw [nmK_list]
  simp [preK]
set_option maxHeartbeats 1000000 in
theorem nameOf_any {lo : Nat} {w : World} (hT : KT lo w) {id : Int} (hid : IdOk id) :
    Calls Tryz.prog 21 #[.int .i64 id] w fun e w' => e = .returned (.string (nmK id)) ∧ Below w.heap.size w w' := by
  have HI := itoa_of hT (n := id) (by have := hid.1; omega) (by have := hid.2; omega)
  have hs := nmK_str id
  have hl := ito_len (n := id) (by have := hid.1; omega) hid.2
  have HS := Lib.hid hs
  clear hs
  go_enter Tryz.func21, Tryz.ntmps21
  go_wp2_with (go_at_call 39; refine HI.mono ?_; rintro e w' ⟨rfl, hb⟩)
  go_ret
  exact ⟨by rw [HS.out]; rfl, hb⟩
set_option maxHeartbeats 1000000 in
theorem isID_any (w : World) (id : Int) : Calls Tryz.prog 18 #[.int .i64 id] w fun e w' => e = .returned (.bool (decide (1 ≤ id) && decide (id ≤ 1000000000))) ∧ w = w' := by
  go_enter Tryz.func18, Tryz.ntmps18
  go_wp2
  all_goals go_ret
  all_goals refine ⟨ret_bool ?_, rfl⟩
  all_goals simp
  all_goals omega
/-- A picture's name is read as its number. -/
theorem cut_nmK (id : Int) : Lib.trimPrefix (nmK id).data.toList preK = Lib.itoa id ∧ Lib.hasPrefix (nmK id).data.toList preK = true := by
  have h : Lib.hasPrefix (nmK id).data.toList preK = true := by
    unfold Lib.hasPrefix
    rw [nmK_list, List.isPrefixOf_iff_prefix]
    exact List.prefix_append _ _
  refine ⟨?_, h⟩
  unfold Lib.trimPrefix
  rw [h, if_pos rfl, nmK_list, List.drop_left]
set_option maxRecDepth 100000 in
set_option maxHeartbeats 4000000 in
theorem idOf_any {lo : Nat} {w : World} (hT : KT lo w) (hlo : lo ≤ w.heap.size) {id : Int} (hid : IdOk id) :
    Calls Tryz.prog 44 #[.string (nmK id)] w fun e w' => e = .returned (.tuple #[.int .i64 id, .bool true]) ∧ Below w.heap.size w w' := by
  have hC := Tryz.strings_CutPrefix (nmK id) ⟨#[112, 105, 99, 116, 117, 114, 101, 45]⟩ w
  have hc := cut_nmK id
  rw [show (⟨#[112, 105, 99, 116, 117, 114, 101, 45]⟩ : ByteArray).data.toList = preK from rfl, hc.1, hc.2] at hC
  have hl := ito_len (n := id) (by have := hid.1; omega) hid.2
  have HA := Tryz.strconv_Atoi_ok ⟨(Lib.itoa id).toArray⟩ (by simp [ByteArray.size]; omega) id (by simpa using ato_ito (n := id) (by have := hid.1; omega) hid.2) w
  have HD := isID_any
  have hd1 : decide (1 ≤ id) = true := by simp; exact hid.1
  have hd2 : decide (id ≤ 1000000000) = true := by simp; exact hid.2
  have HB : ∀ w1, (w1 = w ∨ ∃ t, w1 = Lib.bytesWorld w 5 t) → Below w.heap.size w w1 := fun w1 h => by
    rcases h with rfl | ⟨t, rfl⟩
    · exact Below.refl _ _
    · exact Lib.bytesWorld_below w 5 t
  have HB := Lib.hid HB
  have HN := Lib.hid (fun (w1 : World) (hb : Below w.heap.size w w1) => nameOf_any (hT.on (hb.mono hlo)) hid)
  have hst : ((nmK id).toList == (nmK id).toList) = true := by simp
  clear hc hl
  generalize nmK id = nm at *
  generalize Lib.itoa id = ds at *
  go_enter Tryz.func44, Tryz.ntmps44
  go_wp2_with (first
    | (go_at_call 65; refine hC.mono ?_; rintro e w' ⟨rfl, rfl⟩)
    | (go_at_call 66; refine Hid.out ?_))
  refine Lib.hid ?_
  refine HA.mono ?_
  rintro e w1 ⟨rfl, hw1⟩
  have hb1 := HB.out w1 hw1
  have HN1 := HN.out w1 hb1
  have HD1 := HD w1 id
  rw [hd1, hd2] at HD1
  clear hw1
  go_wp2_with (first
    | (go_at_call 18; refine HD1.mono ?_; rintro e w' ⟨rfl, rfl⟩)
    | (go_at_call 21; refine HN1.mono ?_; rintro e w' ⟨rfl, hb2⟩))
  refine bodyPost_ret (v := .tuple #[.int .i64 id, .bool true]) (by simp [results, Tryz.results44, go_sem]) rfl ?_
  exact ⟨rfl, hb1.trans (hb2.mono hb1.size)⟩
/-- How a picture is read. -/
def RkEnd (w : World) (o : Option (List UInt8)) (e : Ending) (w' : World) : Prop := Below w.heap.size w w' ∧ match o with
  | none => e = .returned (.tuple #[.slice none 0 0, erV 6])
  | some x => ∃ v', e = .returned (.tuple #[v', .nilIface]) ∧ Own w.heap.size w' v' x
section
variable {lo : Nat} {w : World} {B M : Nat} {uv : Value} {d : Ds} {n : Nat} {P : Pc}
theorem DkAt.lole {σ : Fs} {U : List Bk} {s bd : Int} (h : DkAt lo w B M uv σ U s bd n) : lo ≤ w.heap.size := by
  have h1 := h.lo1
  have h2 := h.lt
  omega
set_option maxRecDepth 100000 in
set_option maxHeartbeats 4000000 in
theorem readK_any (h : DkS lo w B M uv d n) (hk : KpIs d.σ P) (hT : KT lo w) {id : Int} (hid : IdOk id) :
    Calls Tryz.prog 26 #[.pointer (some ⟨B, 0, none⟩), .int .i64 id] w (RkEnd w (P id)) := by
  have HN := nameOf_any hT hid
  have hnm := nmK_ok hid
  have hz := nmK_size id hid
  have hσ := hk.at_ id hid
  have HR := Lib.hid (fun (w1 : World) (hb : Below w.heap.size w w1) => read_any (h.keep hb) (nmK id) (by unfold maxLen; omega))
  obtain ⟨R, hR⟩ : ∃ R, R = RkEnd w (P id) := ⟨_, rfl⟩
  rw [← hR]
  have HE := Lib.hid hR
  clear hR
  generalize nmK id = nm at *
  cases hP : P id with
  | none =>
    rw [hP] at hσ
    have hr : rdD d nm = 6 := by unfold rdD; rw [if_neg (by rw [hnm]; decide), if_pos (by rw [hσ]; rfl)]
    clear hz hnm hσ
    go_enter Tryz.func26, Tryz.ntmps26
    go_wp2_with (first | (go_at_call 21; refine HN.mono ?_; rintro e w1 ⟨rfl, hb1⟩) | (go_at_call 46; refine Hid.out ?_))
    refine Lib.hid ?_
    refine (HR.out _ hb1).mono ?_
    rintro e w2 ⟨hb2, he⟩
    rw [hr, if_neg (by decide)] at he
    subst he
    rw [erV_6]
    go_wp2
    rw [HE.out, hP]
    exact ⟨hb1.trans (hb2.mono hb1.size), rfl⟩
  | some x =>
    rw [hP] at hσ
    have hx := hk.few id x hP
    have hr : rdD d nm = 0 := by unfold rdD; rw [if_neg (by rw [hnm]; decide), if_neg (by rw [hσ]; simp)]
    have hg : (d.σ nm).getD [] = sealB x := by rw [hσ]; rfl
    have hfew := seal_few x hx
    have HO := Lib.hid (fun (w2 : World) (A : Option Addr) (cap : Nat) (hA : BsAt w2 A (sealB x)) (h1 : (sealB x).length ≤ cap) (h2 : cap ≤ maxLen) => open_any w2 A cap (sealB x) hA (by omega) h1 h2)
    have hopen := open_whole x hx
    clear hz hnm hσ
    generalize sealB x = bs at *
    go_enter Tryz.func26, Tryz.ntmps26
    go_wp2_with (first | (go_at_call 21; refine HN.mono ?_; rintro e w1 ⟨rfl, hb1⟩) | (go_at_call 46; refine Hid.out ?_))
    refine Lib.hid ?_
    refine (HR.out _ hb1).mono ?_
    rintro e w2 ⟨hb2, he⟩
    rw [hr, if_pos rfl, hg] at he
    obtain ⟨A, cap, rfl, hA, hAn, hc1, hc2⟩ := he
    have HO2 := HO.out w2 A cap hA hc1 hc2
    rw [hopen] at HO2
    clear hA hAn hc1 hc2
    go_wp2_with (go_at_call 47; refine Hid.out ?_)
    refine Lib.hid ?_
    refine HO2.mono ?_
    rintro e w3 ⟨v3, rfl, ho3, hb3⟩
    obtain ⟨A3, c3, rfl⟩ := own_slice ho3
    go_wp2
    rw [HE.out, hP]
    have hb12 := hb1.trans (hb2.mono hb1.size)
    exact ⟨hb12.trans (hb3.mono hb12.size), _, rfl, own_mono ho3 hb12.size⟩
set_option maxHeartbeats 4000000 in
theorem whole_any (h : DkS lo w B M uv d n) (hk : KpIs d.σ P) (hT : KT lo w) {id : Int} (hid : IdOk id) :
    Calls Tryz.prog 19 #[.pointer (some ⟨B, 0, none⟩), .int .i64 id] w fun e w' => e = .returned (.bool (P id).isSome) ∧ Below w.heap.size w w' := by
  have H := readK_any h hk hT hid
  cases hP : P id with
  | none =>
    rw [hP] at H
    go_enter Tryz.func19, Tryz.ntmps19
    go_wp2_with (go_at_call 26; refine H.mono ?_; rintro e w1 ⟨hb1, rfl⟩; rw [erV_6])
    go_ret
    exact ⟨rfl, hb1⟩
  | some x =>
    rw [hP] at H
    go_enter Tryz.func19, Tryz.ntmps19
    go_wp2_with (go_at_call 26; refine H.mono ?_; rintro e w1 ⟨hb1, v, rfl, ho⟩; obtain ⟨A3, c3, rfl⟩ := own_slice ho)
    go_ret
    exact ⟨rfl, hb1⟩
end
end Go.Proofs.YtcmnijpcinmbbaaGreatDoor
