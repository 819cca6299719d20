/- Texts put together in brackets: what is read of them. -/
import Derived.Test.YtdegibjfcjkgdabDoorRq
namespace Go.Proofs.YtdegibjfcjkgdabDoor
open Go.RowKit

def jl (op : UInt8) (a b : List UInt8) : List UInt8 := 40 :: (a ++ 41 :: op :: 40 :: (b ++ [41]))
def ml (y z : UInt8) (a b : List UInt8) : List UInt8 := 109 :: y :: z :: 40 :: (a ++ 44 :: (b ++ [41]))
def cl (a b c : List UInt8) : List UInt8 := 40 :: (a ++ 41 :: 63 :: 40 :: (b ++ 41 :: 58 :: 40 :: (c ++ [41])))

theorem J_list (op : UInt8) (a b : ByteArray) : (⟨#[40]⟩ ++ a ++ ⟨#[41, op, 40]⟩ ++ b ++ ⟨#[41]⟩ : ByteArray).data.toList = jl op a.data.toList b.data.toList := by
  simp [jl]
theorem M_list (y z : UInt8) (a b : ByteArray) : (⟨#[109, y, z, 40]⟩ ++ a ++ ⟨#[44]⟩ ++ b ++ ⟨#[41]⟩ : ByteArray).data.toList = ml y z a.data.toList b.data.toList := by
  simp [ml]
theorem C_list (a b c : ByteArray) : (⟨#[40]⟩ ++ a ++ ⟨#[41, 63, 40]⟩ ++ b ++ ⟨#[41, 58, 40]⟩ ++ c ++ ⟨#[41]⟩ : ByteArray).data.toList = cl a.data.toList b.data.toList c.data.toList := by
  simp [cl]

theorem sz_list (x : ByteArray) : x.size = x.data.toList.length := by simp
theorem J_le (op : UInt8) {a b : ByteArray} (za : a.size ≤ 140737488355328) (zb : b.size ≤ 140737488355328) : (⟨#[40]⟩ ++ a ++ ⟨#[41, op, 40]⟩ ++ b ++ ⟨#[41]⟩ : ByteArray).size ≤ 9223372036854775807 := by
  rw [sz_list, J_list]
  have ea : a.data.toList.length = a.size := by simp
  have eb : b.data.toList.length = b.size := by simp
  simp only [jl, List.length_cons, List.length_append, List.length_nil]; omega
theorem M_le (y z : UInt8) {a b : ByteArray} (za : a.size ≤ 140737488355328) (zb : b.size ≤ 140737488355328) : (⟨#[109, y, z, 40]⟩ ++ a ++ ⟨#[44]⟩ ++ b ++ ⟨#[41]⟩ : ByteArray).size ≤ 9223372036854775807 := by
  rw [sz_list, M_list]
  have ea : a.data.toList.length = a.size := by simp
  have eb : b.data.toList.length = b.size := by simp
  simp only [ml, List.length_cons, List.length_append, List.length_nil]; omega
theorem C_le {a b c : ByteArray} (za : a.size ≤ 140737488355328) (zb : b.size ≤ 140737488355328) (zc : c.size ≤ 140737488355328) : (⟨#[40]⟩ ++ a ++ ⟨#[41, 63, 40]⟩ ++ b ++ ⟨#[41, 58, 40]⟩ ++ c ++ ⟨#[41]⟩ : ByteArray).size ≤ 9223372036854775807 := by
  rw [sz_list, C_list]
  have ea : a.data.toList.length = a.size := by simp
  have eb : b.data.toList.length = b.size := by simp
  have ec : c.data.toList.length = c.size := by simp
  simp only [cl, List.length_cons, List.length_append, List.length_nil]; omega
theorem S_le {a : ByteArray} (za : a.size ≤ 140737488355328) : a.size ≤ 9223372036854775807 := by omega

theorem rd_mk_add {a b : List UInt8} {ta tb : Tm} {op : UInt8} (ho : op ∈ [43, 45]) (ha : Gr 19 0 a ta) (hb : Gr 19 0 b tb) (hl : a.length + b.length + 5 ≤ 120) : readP (jl op a b) = .ok (.two op ta tb) [] := by
  refine read_of (by simp [jl]; omega) ?_
  have h := (Gr.add op ho (gr_brk ha 2 (by omega)) (gr_brk hb 3 (by omega))).down 0 (by omega) (by omega)
  have e : jl op a b = (40 :: (a ++ [41])) ++ op :: (40 :: (b ++ [41])) := by simp [jl]
  rw [e]; exact h
theorem rd_mk_mul {a b : List UInt8} {ta tb : Tm} {op : UInt8} (ho : op ∈ [42, 47, 37]) (ha : Gr 19 0 a ta) (hb : Gr 19 0 b tb) (hl : a.length + b.length + 5 ≤ 120) : readP (jl op a b) = .ok (.two op ta tb) [] := by
  refine read_of (by simp [jl]; omega) ?_
  have h := (Gr.mul op ho (gr_brk ha 3 (by omega)) (gr_brk hb 4 (by omega))).down 0 (by omega) (by omega)
  have e : jl op a b = (40 :: (a ++ [41])) ++ op :: (40 :: (b ++ [41])) := by simp [jl]
  rw [e]; exact h
theorem rd_mk_cmp {a b : List UInt8} {ta tb : Tm} {op : UInt8} (ho : op ∈ [61, 60, 62]) (ha : Gr 19 0 a ta) (hb : Gr 19 0 b tb) (hl : a.length + b.length + 5 ≤ 120) : readP (jl op a b) = .ok (.two op ta tb) [] := by
  refine read_of (by simp [jl]; omega) ?_
  have h := (Gr.cmp op ho (gr_brk ha 2 (by omega)) (gr_brk hb 2 (by omega))).down 0 (by omega) (by omega)
  have e : jl op a b = (40 :: (a ++ [41])) ++ op :: (40 :: (b ++ [41])) := by simp [jl]
  rw [e]; exact h
theorem rd_mk_min {a b : List UInt8} {ta tb : Tm} (ha : Gr 19 0 a ta) (hb : Gr 19 0 b tb) (hl : a.length + b.length + 6 ≤ 120) : readP (ml 105 110 a b) = .ok (.two 109 ta tb) [] :=
  read_of (by simp [ml]; omega) ((Gr.mn ha hb).down 0 (by omega) (by omega))
theorem rd_mk_max {a b : List UInt8} {ta tb : Tm} (ha : Gr 19 0 a ta) (hb : Gr 19 0 b tb) (hl : a.length + b.length + 6 ≤ 120) : readP (ml 97 120 a b) = .ok (.two 77 ta tb) [] :=
  read_of (by simp [ml]; omega) ((Gr.mx ha hb).down 0 (by omega) (by omega))
theorem rd_mk_cond {a b c : List UInt8} {ta tb tc : Tm} (ha : Gr 19 0 a ta) (hb : Gr 18 0 b tb) (hc : Gr 18 0 c tc) (hl : (cl a b c).length ≤ 120) : readP (cl a b c) = .ok (.cond ta tb tc) [] := by
  refine read_of hl ?_
  have h := Gr.cond (gr_brk ha 1 (by omega)) (gr_brk hb 0 (by omega)) (gr_brk hc 0 (by omega))
  have e : cl a b c = (40 :: (a ++ [41])) ++ 63 :: ((40 :: (b ++ [41])) ++ 58 :: (40 :: (c ++ [41]))) := by simp [cl]
  rw [e]; exact h

theorem rd_in_add {a b : List UInt8} {ta tb t : Tm} {v : List UInt8} {op : UInt8} (ho : op ∈ [43, 45]) (ha : readP a = .ok ta []) (hb : readP b = .ok tb []) (h : readP (jl op a b) = .ok t v) : t = .two op ta tb ∧ Gr 19 0 a ta ∧ Gr 19 0 b tb ∧ a.length + b.length + 5 ≤ 120 := by
  obtain ⟨hc, hl⟩ := read_ch h
  obtain ⟨e, he, h1, h2⟩ := join_add (r := []) ho (read_ok ha).2.2 (read_ok hb).2.2 hc
  obtain rfl : e = 19 := by omega
  have hl' : a.length + b.length + 5 ≤ 120 := by simp [jl] at hl; omega
  have := rd_mk_add ho h1 h2 hl'
  rw [this] at h; cases h
  exact ⟨rfl, h1, h2, hl'⟩
theorem rd_in_mul {a b : List UInt8} {ta tb t : Tm} {v : List UInt8} {op : UInt8} (ho : op ∈ [42, 47, 37]) (ha : readP a = .ok ta []) (hb : readP b = .ok tb []) (h : readP (jl op a b) = .ok t v) : t = .two op ta tb ∧ v = [] := by
  obtain ⟨hc, hl⟩ := read_ch h
  obtain ⟨e, he, h1, h2⟩ := join_mul (r := []) ho (read_ok ha).2.2 (read_ok hb).2.2 hc
  obtain rfl : e = 19 := by omega
  have hl' : a.length + b.length + 5 ≤ 120 := by simp [jl] at hl; omega
  have := rd_mk_mul ho h1 h2 hl'
  rw [this] at h; cases h
  exact ⟨rfl, rfl⟩
theorem rd_in_cmp {a b : List UInt8} {ta tb t : Tm} {v : List UInt8} {op : UInt8} (ho : op ∈ [61, 60, 62]) (ha : readP a = .ok ta []) (hb : readP b = .ok tb []) (h : readP (jl op a b) = .ok t v) : t = .two op ta tb ∧ v = [] := by
  obtain ⟨hc, hl⟩ := read_ch h
  obtain ⟨e, he, h1, h2⟩ := join_cmp (r := []) ho (read_ok ha).2.2 (read_ok hb).2.2 hc
  obtain rfl : e = 19 := by omega
  have hl' : a.length + b.length + 5 ≤ 120 := by simp [jl] at hl; omega
  have := rd_mk_cmp ho h1 h2 hl'
  rw [this] at h; cases h
  exact ⟨rfl, rfl⟩
theorem rd_in_min {a b : List UInt8} {ta tb t : Tm} {v : List UInt8} (ha : readP a = .ok ta []) (hb : readP b = .ok tb []) (h : readP (ml 105 110 a b) = .ok t v) : t = .two 109 ta tb ∧ v = [] ∧ a.length + b.length + 6 ≤ 120 := by
  obtain ⟨hc, hl⟩ := read_ch h
  obtain ⟨h1, h2⟩ := join_pair (d := 19) (r := []) 109 (.inl ⟨rfl, rfl⟩) (read_ok ha).2.2 (read_ok hb).2.2 hc
  have hl' : a.length + b.length + 6 ≤ 120 := by simp [ml] at hl; omega
  have := rd_mk_min h1 h2 hl'
  rw [this] at h; cases h
  exact ⟨rfl, rfl, hl'⟩
theorem rd_in_max {a b : List UInt8} {ta tb t : Tm} {v : List UInt8} (ha : readP a = .ok ta []) (hb : readP b = .ok tb []) (h : readP (ml 97 120 a b) = .ok t v) : t = .two 77 ta tb ∧ v = [] := by
  obtain ⟨hc, hl⟩ := read_ch h
  obtain ⟨h1, h2⟩ := join_pair (d := 19) (r := []) 77 (.inr ⟨rfl, rfl⟩) (read_ok ha).2.2 (read_ok hb).2.2 hc
  have := rd_mk_max h1 h2 (by simp [ml] at hl; omega)
  rw [this] at h; cases h
  exact ⟨rfl, rfl⟩
theorem gr_mono {d l : Nat} {s : List UInt8} {t : Tm} (h : Gr d l s t) : ∀ k, Gr (d + k) l s t
  | 0 => h
  | k + 1 => gr_more (gr_mono h k)
theorem inner_eq' {d m : Nat} {a r : List UInt8} {ta t' : Tm} {v : List UInt8} (ha : Gr (d + m) 0 a ta) (hr : Stop 0 r) (hv : Stop 0 v) (h : chP d (a ++ r) = .ok t' v) : t' = ta ∧ v = r ∧ Gr d 0 a ta := by
  obtain ⟨s, hs, hg⟩ := (snd_lev d).1 _ _ _ h
  have h1 := cpl0 (gr_mono hg m) v hv
  have h2 := cpl0 ha r hr
  rw [hs, h1] at h2
  injection h2 with e1 e2
  subst e1 e2
  have : s = a := by simpa using hs.symm
  subst this
  exact ⟨rfl, rfl, hg⟩
theorem brk_inv' {d m : Nat} {a r v : List UInt8} {ta t : Tm} (ha : Gr (d + m) 0 a ta) (h : sgP d (40 :: (a ++ 41 :: r)) = .ok t v) : ∃ e, d = e + 1 ∧ Gr e 0 a ta := by
  rw [sgP_eq] at h
  have e : signF (inCh d) (inSg d) (40 :: (a ++ 41 :: r)) = brkF (inCh d) (40 :: (a ++ 41 :: r)).length (a ++ 41 :: r) := rfl
  rw [e] at h
  unfold brkF at h
  cases d with
  | zero => simp [inCh] at h
  | succ d =>
    rw [inCh_succ] at h
    split at h
    · cases h
    · rename_i t' w hw
      split at h
      · rename_i hh
        have ha' : Gr (d + (m + 1)) 0 a ta := by
          have e : d + (m + 1) = d + 1 + m := by omega
          rw [e]; exact ha
        obtain ⟨_, _, e3⟩ := inner_eq' ha' (stop41 r) (stop_head hh stop41) hw
        exact ⟨d, rfl, e3⟩
      · cases h
theorem cond_inner {a b c : List UInt8} {ta tb tc t : Tm} {v : List UInt8} (ga : Gr 19 0 a ta) (hb : Gr 20 0 b tb) (hc : Gr 20 0 c tc) (h : chP 20 (cl a b c) = .ok t v) : Gr 18 0 b tb ∧ Gr 18 0 c tc := by
  rw [chP_eq] at h
  unfold choF at h
  have h1 := cpl (gr_brk ga 1 (by omega)) (63 :: 40 :: (b ++ 41 :: 58 :: 40 :: (c ++ [41]))) (Stop.cons (by simp [stp, isDg]))
  simp only [List.cons_append, List.append_assoc, List.nil_append] at h1
  unfold cl at h
  rw [h1] at h
  simp only [List.head?_cons, if_true, List.drop_succ_cons, List.drop_zero] at h
  rw [inCh_succ] at h
  split at h
  · cases h
  · rename_i t2 v2 hv2
    obtain ⟨_, _, s2⟩ := ch_sg hv2
    obtain ⟨e2, he2, hbe⟩ := brk_inv' (d := 19) (m := 1) hb s2
    obtain rfl : e2 = 18 := by omega
    have h2 := cpl0 (gr_brk hbe 0 (by omega)) (58 :: 40 :: (c ++ [41])) (stop58 _)
    simp only [List.cons_append, List.append_assoc, List.nil_append] at h2
    rw [h2] at hv2
    cases hv2
    simp only [List.head?_cons, if_true, List.drop_succ_cons, List.drop_zero] at h
    rw [inCh_succ] at h
    split at h
    · cases h
    · rename_i t3 v3 hv3
      obtain ⟨_, _, s3⟩ := ch_sg hv3
      obtain ⟨e3, he3, hce⟩ := brk_inv' (d := 19) (m := 1) (r := []) hc s3
      obtain rfl : e3 = 18 := by omega
      exact ⟨hbe, hce⟩
theorem rd_in_cond {a b c : List UInt8} {ta tb tc t : Tm} {v : List UInt8} (ha : readP a = .ok ta []) (hb : readP b = .ok tb []) (hc : readP c = .ok tc []) (h : readP (cl a b c) = .ok t v) : t = .cond ta tb tc ∧ v = [] := by
  obtain ⟨hch, hl⟩ := read_ch h
  have hga := (read_ok ha).2.2
  obtain ⟨e, he, ga⟩ := first_brk (r := 63 :: 40 :: (b ++ 41 :: 58 :: 40 :: (c ++ [41]))) hga hch
  obtain rfl : e = 19 := by omega
  have key := cond_inner ga (read_ok hb).2.2 (read_ok hc).2.2 hch
  have := rd_mk_cond ga key.1 key.2 hl
  rw [this] at h; cases h
  exact ⟨rfl, rfl⟩

theorem rd_in_mul' {a b : List UInt8} {ta tb t : Tm} {v : List UInt8} {op : UInt8} (ho : op ∈ [42, 47, 37]) (ha : readP a = .ok ta []) (hb : readP b = .ok tb []) (h : readP (jl op a b) = .ok t v) : Gr 19 0 a ta ∧ Gr 19 0 b tb := by
  obtain ⟨e, he, h1, h2⟩ := join_mul (r := []) ho (read_ok ha).2.2 (read_ok hb).2.2 (read_ch h).1
  obtain rfl : e = 19 := by omega
  exact ⟨h1, h2⟩
theorem rd_in_cmp' {a b : List UInt8} {ta tb t : Tm} {v : List UInt8} {op : UInt8} (ho : op ∈ [61, 60, 62]) (ha : readP a = .ok ta []) (hb : readP b = .ok tb []) (h : readP (jl op a b) = .ok t v) : Gr 19 0 a ta ∧ Gr 19 0 b tb := by
  obtain ⟨e, he, h1, h2⟩ := join_cmp (r := []) ho (read_ok ha).2.2 (read_ok hb).2.2 (read_ch h).1
  obtain rfl : e = 19 := by omega
  exact ⟨h1, h2⟩
theorem rd_in_pair' {y z op : UInt8} {a b : List UInt8} {ta tb t : Tm} {v : List UInt8} (hx : [109, y, z] = [109, 105, 110] ∧ op = 109 ∨ [109, y, z] = [109, 97, 120] ∧ op = 77) (ha : readP a = .ok ta []) (hb : readP b = .ok tb []) (h : readP (ml y z a b) = .ok t v) : Gr 19 0 a ta ∧ Gr 19 0 b tb :=
  join_pair (d := 19) (r := []) op hx (read_ok ha).2.2 (read_ok hb).2.2 (read_ch h).1
theorem rd_in_cond' {a b c : List UInt8} {ta tb tc t : Tm} {v : List UInt8} (ha : readP a = .ok ta []) (hb : readP b = .ok tb []) (hc : readP c = .ok tc []) (h : readP (cl a b c) = .ok t v) : Gr 19 0 a ta ∧ Gr 19 0 b tb := by
  have hch := (read_ch h).1
  obtain ⟨e, he, ga⟩ := first_brk (r := 63 :: 40 :: (b ++ 41 :: 58 :: 40 :: (c ++ [41]))) (read_ok ha).2.2 hch
  obtain rfl : e = 19 := by omega
  exact ⟨ga, gr_more (cond_inner ga (read_ok hb).2.2 (read_ok hc).2.2 hch).1⟩
end Go.Proofs.YtdegibjfcjkgdabDoor
