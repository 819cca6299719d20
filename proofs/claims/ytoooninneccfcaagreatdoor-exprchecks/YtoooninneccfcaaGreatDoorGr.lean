import Derived.Test.YtoooninneccfcaaGreatDoorLaid
import Derived.Test.YtoooninneccfcaaGreatDoorGs
import Derived.Lib.AppendIntMem
import Derived.Lib.ItoaLen
import Derived.Lib.ItoaMem
import Derived.Lib.AppendStr
import Derived.Lib.Slices
import Derived.Lib.Hide
import Derived.Laws.IdiomStrings
import Derived.OwnWalk
import Derived.BigCall
import Derived.Deep.RegionHeld3
/- Calls of Eval and Check where the text's reading is known; what division leaves. -/
namespace Go.Proofs.YtoooninneccfcaaGreatDoor
open Go.RowKit

theorem wf_bd {a : Int} (h : (Lit.int .i64 a).wf = true) : -9223372036854775808 ≤ a ∧ a ≤ 9223372036854775807 := by
  simpa [Lit.wf, IntKind.min, IntKind.max, IntKind.signed, IntKind.bits] using h

theorem eval_ok {w : World} {x : ByteArray} {t : Tm} (hr : readP x.data.toList = .ok t []) (hg : Gl w) (n s : Int) :
    Calls Tryz.prog 13 #[.string x, .int .i64 n, .int .i64 s] w fun e w' => e = .returned (.tuple #[.int .i64 (ev n s t), .nilIface]) ∧ Below w.heap.size w w' := by
  have hl := (read_ok hr).1
  have hs : x.size ≤ 120 := by simpa using hl
  have h := eval_any (x := x) hg (by omega) n s
  unfold evP at h
  rw [hr] at h
  exact h
theorem eval_bad {w : World} {x : ByteArray} {pl er : Nat} (hr : readP x.data.toList = .bad pl er) (hg : Gl w) (hmax : x.size ≤ 9223372036854775807) (n s : Int) :
    Calls Tryz.prog 13 #[.string x, .int .i64 n, .int .i64 s] w fun e w' => e = .returned (.tuple #[.int .i64 0, .iface 76 (.int .i64 er)]) ∧ Below w.heap.size w w' := by
  have h := eval_any (x := x) hg hmax n s
  unfold evP at h
  rw [hr] at h
  exact h
theorem check_ok {w : World} {x : ByteArray} {t : Tm} (hr : readP x.data.toList = .ok t []) (hg : Gl w) :
    Calls Tryz.prog 8 #[.string x] w fun e w' => e = .returned (.tuple #[.int .i64 0, .nilIface]) ∧ Below w.heap.size w w' := by
  have hl := (read_ok hr).1
  have hs : x.size ≤ 120 := by simpa using hl
  have h := check_any (x := x) hg (by omega)
  unfold ckP at h
  rw [hr] at h
  exact h
theorem check_bad {w : World} {x : ByteArray} {pl er : Nat} (hr : readP x.data.toList = .bad pl er) (hg : Gl w) (hmax : x.size ≤ 9223372036854775807) :
    Calls Tryz.prog 8 #[.string x] w fun e w' => ∃ k : Int, e = .returned (.tuple #[.int .i64 k, .iface 76 (.int .i64 er)]) ∧ Below w.heap.size w w' := by
  have h := check_any (x := x) hg hmax
  unfold ckP at h
  rw [hr] at h
  exact h.mono fun e w' ⟨h1, h2⟩ => ⟨_, h1, h2⟩

theorem wr_id {x : Int} (h1 : -9223372036854775808 ≤ x) (h2 : x ≤ 9223372036854775807) : wr x = x := by unfold wr; omega
theorem wr_mul (a b c : Int) : wr (wr (wr a * b) + c) = wr (a * b + c) := by
  have h : ∃ k, wr a = a + 18446744073709551616 * k := ⟨-((a + 9223372036854775808) / 18446744073709551616), by unfold wr; omega⟩
  obtain ⟨k, hk⟩ := h
  have e : wr a * b = a * b + 18446744073709551616 * (k * b) := by rw [hk, Int.add_mul, Int.mul_assoc]
  rw [e]
  generalize a * b = p
  generalize k * b = q
  unfold wr; omega
theorem div_back {n s : Int} (h1 : -9223372036854775808 ≤ n) (h2 : n ≤ 9223372036854775807) : wr (wr (wr (n.tdiv s) * s) + n.tmod s) = n := by
  rw [wr_mul]
  have : n.tdiv s * s + n.tmod s = n := by rw [Int.mul_comm]; exact Int.mul_tdiv_add_tmod n s
  rw [this]; exact wr_id h1 h2
theorem tmod_sign (n s : Int) : n.tmod s = 0 ∨ (n.tmod s < 0 ↔ n < 0) := by
  rcases (show n < 0 ∨ 0 ≤ n by omega) with h | h
  · have h1 : 0 ≤ (-n).tmod s := Int.tmod_nonneg s (by omega)
    rw [Int.neg_tmod] at h1
    by_cases h0 : n.tmod s = 0
    · exact .inl h0
    · exact .inr ⟨fun _ => h, fun _ => by omega⟩
  · have h1 : 0 ≤ n.tmod s := Int.tmod_nonneg s h
    exact .inr ⟨fun h2 => by omega, fun h2 => by omega⟩

theorem rd_div : readP [110, 47, 115] = .ok (.two 47 .vn .vs) [] :=
  read_of (by decide) ((Gr.mul (a := [110]) (b := [115]) 47 (by decide) ((Gr.vn 20).down 3 (by omega) (by omega)) ((Gr.vs 20).down 4 (by omega) (by omega))).down 0 (by omega) (by omega))
theorem rd_mod : readP [110, 37, 115] = .ok (.two 37 .vn .vs) [] :=
  read_of (by decide) ((Gr.mul (a := [110]) (b := [115]) 37 (by decide) ((Gr.vn 20).down 3 (by omega) (by omega)) ((Gr.vs 20).down 4 (by omega) (by omega))).down 0 (by omega) (by omega))
theorem rd_back : readP [110, 47, 115, 42, 115, 43, 110, 37, 115] = .ok (.two 43 (.two 42 (.two 47 .vn .vs) .vs) (.two 37 .vn .vs)) [] :=
  read_of (by decide) ((Gr.add (a := [110, 47, 115, 42, 115]) (b := [110, 37, 115]) 43 (by decide)
    ((Gr.mul (a := [110, 47, 115]) (b := [115]) 42 (by decide) (Gr.mul (a := [110]) (b := [115]) 47 (by decide) ((Gr.vn 20).down 3 (by omega) (by omega)) ((Gr.vs 20).down 4 (by omega) (by omega))) ((Gr.vs 20).down 4 (by omega) (by omega))).down 2 (by omega) (by omega))
    (Gr.mul (a := [110]) (b := [115]) 37 (by decide) ((Gr.vn 20).down 3 (by omega) (by omega)) ((Gr.vs 20).down 4 (by omega) (by omega)))).down 0 (by omega) (by omega))
end Go.Proofs.YtoooninneccfcaaGreatDoor

/- Texts put together in brackets: what is read of them. -/
namespace Go.Proofs.YtoooninneccfcaaGreatDoor
open Go.RowKit

def jl (op : UInt8) (a b : List UInt8) : List UInt8 := 40 :: (a ++ 41 :: op :: 40 :: (b ++ [41]))
def ml (y z : UInt8) (a b : List UInt8) : List UInt8 := 109 :: y :: z :: 40 :: (a ++ 44 :: (b ++ [41]))
def cl (a b c : List UInt8) : List UInt8 := 40 :: (a ++ 41 :: 63 :: 40 :: (b ++ 41 :: 58 :: 40 :: (c ++ [41])))

theorem J_list (op : UInt8) (a b : ByteArray) : (⟨#[40]⟩ ++ a ++ ⟨#[41, op, 40]⟩ ++ b ++ ⟨#[41]⟩ : ByteArray).data.toList = jl op a.data.toList b.data.toList := by
  simp [jl]
theorem M_list (y z : UInt8) (a b : ByteArray) : (⟨#[109, y, z, 40]⟩ ++ a ++ ⟨#[44]⟩ ++ b ++ ⟨#[41]⟩ : ByteArray).data.toList = ml y z a.data.toList b.data.toList := by
  simp [ml]
theorem C_list (a b c : ByteArray) : (⟨#[40]⟩ ++ a ++ ⟨#[41, 63, 40]⟩ ++ b ++ ⟨#[41, 58, 40]⟩ ++ c ++ ⟨#[41]⟩ : ByteArray).data.toList = cl a.data.toList b.data.toList c.data.toList := by
  simp [cl]

theorem sz_list (x : ByteArray) : x.size = x.data.toList.length := by simp
theorem J_le (op : UInt8) {a b : ByteArray} (za : a.size ≤ 140737488355328) (zb : b.size ≤ 140737488355328) : (⟨#[40]⟩ ++ a ++ ⟨#[41, op, 40]⟩ ++ b ++ ⟨#[41]⟩ : ByteArray).size ≤ 9223372036854775807 := by
  rw [sz_list, J_list]
  have ea : a.data.toList.length = a.size := by simp
  have eb : b.data.toList.length = b.size := by simp
  simp only [jl, List.length_cons, List.length_append, List.length_nil]; omega
theorem M_le (y z : UInt8) {a b : ByteArray} (za : a.size ≤ 140737488355328) (zb : b.size ≤ 140737488355328) : (⟨#[109, y, z, 40]⟩ ++ a ++ ⟨#[44]⟩ ++ b ++ ⟨#[41]⟩ : ByteArray).size ≤ 9223372036854775807 := by
  rw [sz_list, M_list]
  have ea : a.data.toList.length = a.size := by simp
  have eb : b.data.toList.length = b.size := by simp
  simp only [ml, List.length_cons, List.length_append, List.length_nil]; omega
theorem C_le {a b c : ByteArray} (za : a.size ≤ 140737488355328) (zb : b.size ≤ 140737488355328) (zc : c.size ≤ 140737488355328) : (⟨#[40]⟩ ++ a ++ ⟨#[41, 63, 40]⟩ ++ b ++ ⟨#[41, 58, 40]⟩ ++ c ++ ⟨#[41]⟩ : ByteArray).size ≤ 9223372036854775807 := by
  rw [sz_list, C_list]
  have ea : a.data.toList.length = a.size := by simp
  have eb : b.data.toList.length = b.size := by simp
  have ec : c.data.toList.length = c.size := by simp
  simp only [cl, List.length_cons, List.length_append, List.length_nil]; omega
theorem S_le {a : ByteArray} (za : a.size ≤ 140737488355328) : a.size ≤ 9223372036854775807 := by omega

theorem rd_mk_add {a b : List UInt8} {ta tb : Tm} {op : UInt8} (ho : op ∈ [43, 45]) (ha : Gr 19 0 a ta) (hb : Gr 19 0 b tb) (hl : a.length + b.length + 5 ≤ 120) : readP (jl op a b) = .ok (.two op ta tb) [] := by
  refine read_of (by simp [jl]; omega) ?_
  have h := (Gr.add op ho (gr_brk ha 2 (by omega)) (gr_brk hb 3 (by omega))).down 0 (by omega) (by omega)
  have e : jl op a b = (40 :: (a ++ [41])) ++ op :: (40 :: (b ++ [41])) := by simp [jl]
  rw [e]; exact h
theorem rd_mk_mul {a b : List UInt8} {ta tb : Tm} {op : UInt8} (ho : op ∈ [42, 47, 37]) (ha : Gr 19 0 a ta) (hb : Gr 19 0 b tb) (hl : a.length + b.length + 5 ≤ 120) : readP (jl op a b) = .ok (.two op ta tb) [] := by
  refine read_of (by simp [jl]; omega) ?_
  have h := (Gr.mul op ho (gr_brk ha 3 (by omega)) (gr_brk hb 4 (by omega))).down 0 (by omega) (by omega)
  have e : jl op a b = (40 :: (a ++ [41])) ++ op :: (40 :: (b ++ [41])) := by simp [jl]
  rw [e]; exact h
theorem rd_mk_cmp {a b : List UInt8} {ta tb : Tm} {op : UInt8} (ho : op ∈ [61, 60, 62]) (ha : Gr 19 0 a ta) (hb : Gr 19 0 b tb) (hl : a.length + b.length + 5 ≤ 120) : readP (jl op a b) = .ok (.two op ta tb) [] := by
  refine read_of (by simp [jl]; omega) ?_
  have h := (Gr.cmp op ho (gr_brk ha 2 (by omega)) (gr_brk hb 2 (by omega))).down 0 (by omega) (by omega)
  have e : jl op a b = (40 :: (a ++ [41])) ++ op :: (40 :: (b ++ [41])) := by simp [jl]
  rw [e]; exact h
theorem rd_mk_min {a b : List UInt8} {ta tb : Tm} (ha : Gr 19 0 a ta) (hb : Gr 19 0 b tb) (hl : a.length + b.length + 6 ≤ 120) : readP (ml 105 110 a b) = .ok (.two 109 ta tb) [] :=
  read_of (by simp [ml]; omega) ((Gr.mn ha hb).down 0 (by omega) (by omega))
theorem rd_mk_max {a b : List UInt8} {ta tb : Tm} (ha : Gr 19 0 a ta) (hb : Gr 19 0 b tb) (hl : a.length + b.length + 6 ≤ 120) : readP (ml 97 120 a b) = .ok (.two 77 ta tb) [] :=
  read_of (by simp [ml]; omega) ((Gr.mx ha hb).down 0 (by omega) (by omega))
theorem rd_mk_cond {a b c : List UInt8} {ta tb tc : Tm} (ha : Gr 19 0 a ta) (hb : Gr 18 0 b tb) (hc : Gr 18 0 c tc) (hl : (cl a b c).length ≤ 120) : readP (cl a b c) = .ok (.cond ta tb tc) [] := by
  refine read_of hl ?_
  have h := Gr.cond (gr_brk ha 1 (by omega)) (gr_brk hb 0 (by omega)) (gr_brk hc 0 (by omega))
  have e : cl a b c = (40 :: (a ++ [41])) ++ 63 :: ((40 :: (b ++ [41])) ++ 58 :: (40 :: (c ++ [41]))) := by simp [cl]
  rw [e]; exact h

theorem rd_in_add {a b : List UInt8} {ta tb t : Tm} {v : List UInt8} {op : UInt8} (ho : op ∈ [43, 45]) (ha : readP a = .ok ta []) (hb : readP b = .ok tb []) (h : readP (jl op a b) = .ok t v) : t = .two op ta tb ∧ Gr 19 0 a ta ∧ Gr 19 0 b tb ∧ a.length + b.length + 5 ≤ 120 := by
  obtain ⟨hc, hl⟩ := read_ch h
  obtain ⟨e, he, h1, h2⟩ := join_add (r := []) ho (read_ok ha).2.2 (read_ok hb).2.2 hc
  obtain rfl : e = 19 := by omega
  have hl' : a.length + b.length + 5 ≤ 120 := by simp [jl] at hl; omega
  have := rd_mk_add ho h1 h2 hl'
  rw [this] at h; cases h
  exact ⟨rfl, h1, h2, hl'⟩
theorem rd_in_mul {a b : List UInt8} {ta tb t : Tm} {v : List UInt8} {op : UInt8} (ho : op ∈ [42, 47, 37]) (ha : readP a = .ok ta []) (hb : readP b = .ok tb []) (h : readP (jl op a b) = .ok t v) : t = .two op ta tb ∧ v = [] := by
  obtain ⟨hc, hl⟩ := read_ch h
  obtain ⟨e, he, h1, h2⟩ := join_mul (r := []) ho (read_ok ha).2.2 (read_ok hb).2.2 hc
  obtain rfl : e = 19 := by omega
  have hl' : a.length + b.length + 5 ≤ 120 := by simp [jl] at hl; omega
  have := rd_mk_mul ho h1 h2 hl'
  rw [this] at h; cases h
  exact ⟨rfl, rfl⟩
theorem rd_in_cmp {a b : List UInt8} {ta tb t : Tm} {v : List UInt8} {op : UInt8} (ho : op ∈ [61, 60, 62]) (ha : readP a = .ok ta []) (hb : readP b = .ok tb []) (h : readP (jl op a b) = .ok t v) : t = .two op ta tb ∧ v = [] := by
  obtain ⟨hc, hl⟩ := read_ch h
  obtain ⟨e, he, h1, h2⟩ := join_cmp (r := []) ho (read_ok ha).2.2 (read_ok hb).2.2 hc
  obtain rfl : e = 19 := by omega
  have hl' : a.length + b.length + 5 ≤ 120 := by simp [jl] at hl; omega
  have := rd_mk_cmp ho h1 h2 hl'
  rw [this] at h; cases h
  exact ⟨rfl, rfl⟩
theorem rd_in_min {a b : List UInt8} {ta tb t : Tm} {v : List UInt8} (ha : readP a = .ok ta []) (hb : readP b = .ok tb []) (h : readP (ml 105 110 a b) = .ok t v) : t = .two 109 ta tb ∧ v = [] ∧ a.length + b.length + 6 ≤ 120 := by
  obtain ⟨hc, hl⟩ := read_ch h
  obtain ⟨h1, h2⟩ := join_pair (d := 19) (r := []) 109 (.inl ⟨rfl, rfl⟩) (read_ok ha).2.2 (read_ok hb).2.2 hc
  have hl' : a.length + b.length + 6 ≤ 120 := by simp [ml] at hl; omega
  have := rd_mk_min h1 h2 hl'
  rw [this] at h; cases h
  exact ⟨rfl, rfl, hl'⟩
theorem rd_in_max {a b : List UInt8} {ta tb t : Tm} {v : List UInt8} (ha : readP a = .ok ta []) (hb : readP b = .ok tb []) (h : readP (ml 97 120 a b) = .ok t v) : t = .two 77 ta tb ∧ v = [] := by
  obtain ⟨hc, hl⟩ := read_ch h
  obtain ⟨h1, h2⟩ := join_pair (d := 19) (r := []) 77 (.inr ⟨rfl, rfl⟩) (read_ok ha).2.2 (read_ok hb).2.2 hc
  have := rd_mk_max h1 h2 (by simp [ml] at hl; omega)
  rw [this] at h; cases h
  exact ⟨rfl, rfl⟩
theorem gr_mono {d l : Nat} {s : List UInt8} {t : Tm} (h : Gr d l s t) : ∀ k, Gr (d + k) l s t
  | 0 => h
  | k + 1 => gr_more (gr_mono h k)
theorem inner_eq' {d m : Nat} {a r : List UInt8} {ta t' : Tm} {v : List UInt8} (ha : Gr (d + m) 0 a ta) (hr : Stop 0 r) (hv : Stop 0 v) (h : chP d (a ++ r) = .ok t' v) : t' = ta ∧ v = r ∧ Gr d 0 a ta := by
  obtain ⟨s, hs, hg⟩ := (snd_lev d).1 _ _ _ h
  have h1 := cpl0 (gr_mono hg m) v hv
  have h2 := cpl0 ha r hr
  rw [hs, h1] at h2
  injection h2 with e1 e2
  subst e1 e2
  have : s = a := by simpa using hs.symm
  subst this
  exact ⟨rfl, rfl, hg⟩
theorem brk_inv' {d m : Nat} {a r v : List UInt8} {ta t : Tm} (ha : Gr (d + m) 0 a ta) (h : sgP d (40 :: (a ++ 41 :: r)) = .ok t v) : ∃ e, d = e + 1 ∧ Gr e 0 a ta := by
  rw [sgP_eq] at h
  have e : signF (inCh d) (inSg d) (40 :: (a ++ 41 :: r)) = brkF (inCh d) (40 :: (a ++ 41 :: r)).length (a ++ 41 :: r) := rfl
  rw [e] at h
  unfold brkF at h
  cases d with
  | zero => simp [inCh] at h
  | succ d =>
    rw [inCh_succ] at h
    split at h
    · cases h
    · rename_i t' w hw
      split at h
      · rename_i hh
        have ha' : Gr (d + (m + 1)) 0 a ta := by
          have e : d + (m + 1) = d + 1 + m := by omega
          rw [e]; exact ha
        obtain ⟨_, _, e3⟩ := inner_eq' ha' (stop41 r) (stop_head hh stop41) hw
        exact ⟨d, rfl, e3⟩
      · cases h
theorem cond_inner {a b c : List UInt8} {ta tb tc t : Tm} {v : List UInt8} (ga : Gr 19 0 a ta) (hb : Gr 20 0 b tb) (hc : Gr 20 0 c tc) (h : chP 20 (cl a b c) = .ok t v) : Gr 18 0 b tb ∧ Gr 18 0 c tc := by
  rw [chP_eq] at h
  unfold choF at h
  have h1 := cpl (gr_brk ga 1 (by omega)) (63 :: 40 :: (b ++ 41 :: 58 :: 40 :: (c ++ [41]))) (Stop.cons (by simp [stp, isDg]))
  simp only [List.cons_append, List.append_assoc, List.nil_append] at h1
  unfold cl at h
  rw [h1] at h
  simp only [List.head?_cons, if_true, List.drop_succ_cons, List.drop_zero] at h
  rw [inCh_succ] at h
  split at h
  · cases h
  · rename_i t2 v2 hv2
    obtain ⟨_, _, s2⟩ := ch_sg hv2
    obtain ⟨e2, he2, hbe⟩ := brk_inv' (d := 19) (m := 1) hb s2
    obtain rfl : e2 = 18 := by omega
    have h2 := cpl0 (gr_brk hbe 0 (by omega)) (58 :: 40 :: (c ++ [41])) (stop58 _)
    simp only [List.cons_append, List.append_assoc, List.nil_append] at h2
    rw [h2] at hv2
    cases hv2
    simp only [List.head?_cons, if_true, List.drop_succ_cons, List.drop_zero] at h
    rw [inCh_succ] at h
    split at h
    · cases h
    · rename_i t3 v3 hv3
      obtain ⟨_, _, s3⟩ := ch_sg hv3
      obtain ⟨e3, he3, hce⟩ := brk_inv' (d := 19) (m := 1) (r := []) hc s3
      obtain rfl : e3 = 18 := by omega
      exact ⟨hbe, hce⟩
theorem rd_in_cond {a b c : List UInt8} {ta tb tc t : Tm} {v : List UInt8} (ha : readP a = .ok ta []) (hb : readP b = .ok tb []) (hc : readP c = .ok tc []) (h : readP (cl a b c) = .ok t v) : t = .cond ta tb tc ∧ v = [] := by
  obtain ⟨hch, hl⟩ := read_ch h
  have hga := (read_ok ha).2.2
  obtain ⟨e, he, ga⟩ := first_brk (r := 63 :: 40 :: (b ++ 41 :: 58 :: 40 :: (c ++ [41]))) hga hch
  obtain rfl : e = 19 := by omega
  have key := cond_inner ga (read_ok hb).2.2 (read_ok hc).2.2 hch
  have := rd_mk_cond ga key.1 key.2 hl
  rw [this] at h; cases h
  exact ⟨rfl, rfl⟩

theorem rd_in_mul' {a b : List UInt8} {ta tb t : Tm} {v : List UInt8} {op : UInt8} (ho : op ∈ [42, 47, 37]) (ha : readP a = .ok ta []) (hb : readP b = .ok tb []) (h : readP (jl op a b) = .ok t v) : Gr 19 0 a ta ∧ Gr 19 0 b tb := by
  obtain ⟨e, he, h1, h2⟩ := join_mul (r := []) ho (read_ok ha).2.2 (read_ok hb).2.2 (read_ch h).1
  obtain rfl : e = 19 := by omega
  exact ⟨h1, h2⟩
theorem rd_in_cmp' {a b : List UInt8} {ta tb t : Tm} {v : List UInt8} {op : UInt8} (ho : op ∈ [61, 60, 62]) (ha : readP a = .ok ta []) (hb : readP b = .ok tb []) (h : readP (jl op a b) = .ok t v) : Gr 19 0 a ta ∧ Gr 19 0 b tb := by
  obtain ⟨e, he, h1, h2⟩ := join_cmp (r := []) ho (read_ok ha).2.2 (read_ok hb).2.2 (read_ch h).1
  obtain rfl : e = 19 := by omega
  exact ⟨h1, h2⟩
theorem rd_in_pair' {y z op : UInt8} {a b : List UInt8} {ta tb t : Tm} {v : List UInt8} (hx : [109, y, z] = [109, 105, 110] ∧ op = 109 ∨ [109, y, z] = [109, 97, 120] ∧ op = 77) (ha : readP a = .ok ta []) (hb : readP b = .ok tb []) (h : readP (ml y z a b) = .ok t v) : Gr 19 0 a ta ∧ Gr 19 0 b tb :=
  join_pair (d := 19) (r := []) op hx (read_ok ha).2.2 (read_ok hb).2.2 (read_ch h).1
theorem rd_in_cond' {a b c : List UInt8} {ta tb tc t : Tm} {v : List UInt8} (ha : readP a = .ok ta []) (hb : readP b = .ok tb []) (hc : readP c = .ok tc []) (h : readP (cl a b c) = .ok t v) : Gr 19 0 a ta ∧ Gr 19 0 b tb := by
  have hch := (read_ch h).1
  obtain ⟨e, he, ga⟩ := first_brk (r := 63 :: 40 :: (b ++ 41 :: 58 :: 40 :: (c ++ [41]))) (read_ok ha).2.2 hch
  obtain rfl : e = 19 := by omega
  exact ⟨ga, gr_more (cond_inner ga (read_ok hb).2.2 (read_ok hc).2.2 hch).1⟩
end Go.Proofs.YtoooninneccfcaaGreatDoor

/- How a tree is written: the ranks, and the functions that append. -/
namespace Go.Proofs.YtoooninneccfcaaGreatDoor
open Go.RowKit

theorem infoByte : (Tryz.prog.info? 5).map (fun i => (i.zero, i.size, i.bytes)) = some (some (.int .u8 0), 1, 1) := by kernel_rfl
abbrev Own (B : Nat) (w : World) (v : Value) (l : List UInt8) : Prop := w.ownsRow B 5 1 v l.length (Lib.byteCells l)
theorem own_snoc {B : Nat} {w : World} {v : Value} {l : List UInt8} {c : UInt8} (h : w.ownsRow B 5 1 v (l.length + 1) (Lib.byteCells l ++ [.int .u8 c.toNat])) : Own B w v (l ++ [c]) := by
  have e1 : (l ++ [c]).length = l.length + 1 := by simp
  have e2 : Lib.byteCells (l ++ [c]) = Lib.byteCells l ++ [.int .u8 c.toNat] := by simp [Lib.byteCells]
  unfold Own; rw [e1, e2]; exact h
theorem own_app {B : Nat} {w : World} {v : Value} {l r : List UInt8} {n : Nat} (h : w.ownsRow B 5 1 v (l.length + n) (Lib.byteCells l ++ Lib.byteCells r)) (hn : n = r.length) : Own B w v (l ++ r) := by
  have e1 : (l ++ r).length = l.length + n := by simp [hn]
  have e2 : Lib.byteCells (l ++ r) = Lib.byteCells l ++ Lib.byteCells r := by simp [Lib.byteCells]
  unfold Own; rw [e1, e2]; exact h
def Tb (B : Nat) (w : World) : Prop := Lib.TabBelow Tryz.prog B w "internal/strconv.uint64pow10" .u64 Lib.pow10Tab

def allOps : List UInt8 := [63, 61, 60, 62, 43, 45, 42, 47, 37, 126, 48, 110, 115, 109, 77]
set_option maxHeartbeats 1000000 in
theorem rank_any (op : UInt8) (ho : op ∈ allOps) (w : World) : Calls Tryz.prog 77 #[.int .u8 op.toNat] w fun e w' => e = .returned (.int .i64 (rk op)) ∧ w = w' := by
  simp only [allOps, List.mem_cons, List.not_mem_nil, or_false] at ho
  rcases ho with rfl | rfl | rfl | rfl | rfl | rfl | rfl | rfl | rfl | rfl | rfl | rfl | rfl | rfl | rfl
  all_goals
    go_enter Tryz.func77, Tryz.ntmps77
    go_wp2_with fail
    go_ret
    exact ⟨rfl, rfl⟩
theorem op_all {t : Tm} (h : OkT t) : t.op ∈ allOps := by
  cases t with
  | num v => simp [Tm.op, allOps]
  | vn => simp [Tm.op, allOps]
  | vs => simp [Tm.op, allOps]
  | neg a => simp [Tm.op, allOps]
  | two op a b =>
    have ho := h.1
    simp only [okOps, List.mem_cons, List.not_mem_nil, or_false] at ho
    rcases ho with rfl | rfl | rfl | rfl | rfl | rfl | rfl | rfl | rfl | rfl <;> simp [Tm.op, allOps]
  | cond a b c => simp [Tm.op, allOps]

/-- Writing a tree where one of a rank may stand: what is owned from B on grows by its text. -/
def AtOK (B : Nat) (w0 : World) (t : Tm) (p : Nat) : Prop := ∀ (w1 : World) (v1 : Value) (l : List UInt8) (k : Nat), Below B w0 w1 → Own B w1 v1 l → l.length + (brk (decide (rk t.op < k)) (prt t)).length ≤ 1000 →
  Calls Tryz.prog 41 #[v1, .pointer (some ⟨p, 0, none⟩), .int .i64 k] w1 fun e w' => ∃ v', e = .returned v' ∧ Own B w' v' (l ++ brk (decide (rk t.op < k)) (prt t)) ∧ Below B w0 w'

theorem cellB {B : Nat} {w0 w : World} {p i : Nat} {c : Array Value} {t : TypeId} {v : Value} (h : w0.heap[p]? = some (.cells c t)) (hB : B = w0.heap.size) (hb : Below B w0 w) (hv : c[i]? = some v) : w.cell? ⟨p, i, none⟩ = some v := by
  rw [hb.cell (p := ⟨p, i, none⟩) (by show p < B; rw [hB]; exact some_lt h)]
  rw [cellN h]; exact hv

theorem AtOK.zero {B : Nat} {w0 : World} {t : Tm} {p : Nat} (h : AtOK B w0 t p) (w1 : World) (v1 : Value) (l : List UInt8) (hb : Below B w0 w1) (ho : Own B w1 v1 l) (hl : l.length + (prt t).length ≤ 1000) :
    Calls Tryz.prog 41 #[v1, .pointer (some ⟨p, 0, none⟩), .int .i64 0] w1 fun e w' => ∃ v', e = .returned v' ∧ Own B w' v' (l ++ prt t) ∧ Below B w0 w' := by
  have e : brk (decide (rk t.op < 0)) (prt t) = prt t := by simp [brk]
  have := h w1 v1 l 0 hb ho (by rw [e]; exact hl)
  rw [e] at this; exact this
/-- A tree's text where one of a rank may stand. -/
def pin (k : Nat) (t : Tm) : List UInt8 := brk (decide (rk t.op < k)) (prt t)
theorem AtOK.at {B : Nat} {w0 : World} {t : Tm} {p : Nat} (h : AtOK B w0 t p) (k : Nat) (w1 : World) (v1 : Value) (l : List UInt8) (hb : Below B w0 w1) (ho : Own B w1 v1 l) (hl : l.length + (pin k t).length ≤ 1000) :
    Calls Tryz.prog 41 #[v1, .pointer (some ⟨p, 0, none⟩), .int .i64 k] w1 fun e w' => ∃ v', e = .returned v' ∧ Own B w' v' (l ++ pin k t) ∧ Below B w0 w' := h w1 v1 l k hb ho hl

set_option maxRecDepth 100000 in
set_option maxHeartbeats 2000000 in
theorem pair_print {B : Nat} {w0 : World} (hB : B = w0.heap.size) {op : UInt8} {a b : Tm} {p q pa pb : Nat} (ha : AtOK B w0 a pa) (hb : AtOK B w0 b pb)
    (h1 : w0.heap[p]? = some (.cells #[.int .u8 op.toNat, .int .i64 0, .slice (some ⟨q, 0, none⟩) 2 2] 137)) (h2 : w0.heap[q]? = some (.cells #[.pointer (some ⟨pa, 0, none⟩), .pointer (some ⟨pb, 0, none⟩)] 73))
    (w1 : World) (v1 : Value) (m1 : List UInt8) (hb1 : Below B w0 w1) (hown1 : Own B w1 v1 m1) (hlim : m1.length + (40 :: (prt a ++ 44 :: (prt b ++ [41]))).length ≤ 1000) :
    Calls Tryz.prog 122 #[v1, .pointer (some ⟨p, 0, none⟩)] w1 fun e w' => ∃ v', e = .returned v' ∧ Own B w' v' (m1 ++ 40 :: (prt a ++ 44 :: (prt b ++ [41]))) ∧ Below B w0 w' := by
  obtain ⟨i0, hi, hz0, hz1, hz2⟩ := info_parts infoByte
  have cp : ∀ w, Below B w0 w → w.cell? ⟨p, 2, none⟩ = some (.slice (some ⟨q, 0, none⟩) 2 2) := fun w hb => cellB h1 hB hb rfl
  have c0 : ∀ w, Below B w0 w → w.cell? ⟨p, 0, none⟩ = some (.int .u8 op.toNat) := fun w hb => cellB h1 hB hb rfl
  have cq0 : ∀ w, Below B w0 w → w.cell? ⟨q, 0, none⟩ = some (.pointer (some ⟨pa, 0, none⟩)) := fun w hb => cellB h2 hB hb rfl
  have cq1 : ∀ w, Below B w0 w → w.cell? ⟨q, 1, none⟩ = some (.pointer (some ⟨pb, 0, none⟩)) := fun w hb => cellB h2 hB hb rfl
  have hBle : B ≤ w0.heap.size := Nat.le_of_eq hB
  clear hB h1 h2
  have hle1 : m1.length + ((prt a).length + (prt b).length + 3) ≤ 1000 := by simp at hlim; omega
  clear hlim
  go_enter Tryz.func122, Tryz.ntmps122
  go_wp2_with (at_builtin; refine wpList_append_own _ rfl _ _ 81 rfl B 5 i0 (.int .u8 0) 1 1 Tryz.underlying81 hi hz0 hz1 hz2 rfl (by decide) _ _ _ rfl (hown1.alloc _) ⟨w1.heap.size, 0, none⟩ 1 1 [Value.int .u8 40] rfl rfl (by intro j u' hj; match j, hj with | 0, hj => simp at hj; subst hj; simp [Addr.add]) (by intro u' hu'; simp at hu'; subst hu'; rfl) (by unfold maxLen; omega) (by omega) (by have := hb1.size; simp; omega) ?_)
  intro v2 w2 own' grow _
  have hb2 : Below B w0 w2 := (hb1.alloc (by have := hb1.size; omega) _).grown grow (by have := hb1.size; simp; omega) (fun k hk => (hown1.lt k hk).1)
  have hown2 : Own B w2 v2 (m1 ++ [40]) := own_snoc own'
  clear own' grow
  obtain ⟨m2, hm2⟩ : ∃ x, x = m1 ++ [40] := ⟨_, rfl⟩
  rw [← hm2] at hown2
  have hle2 : m2.length + ((prt a).length + (prt b).length + 2) ≤ 1000 := by rw [hm2]; simp; omega
  have HM2 := Lib.hid hm2
  clear hm2
  have zz0 := cp w2 hb2
  have zz1 := cq0 w2 hb2
  go_wp2_with (go_at_call 41; refine (ha.zero w2 v2 m2 hb2 hown2 (by omega)).mono ?_; rintro e w3 ⟨v3, rfl, hown3, hb3⟩; refine Hid.out ?_)
  refine Lib.hid ?_
  clear zz0 zz1
  obtain ⟨m3, hm3⟩ : ∃ x, x = m2 ++ prt a := ⟨_, rfl⟩
  rw [← hm3] at hown3
  have hle3 : m3.length + ((prt b).length + 2) ≤ 1000 := by rw [hm3]; simp; omega
  have HM3 := Lib.hid hm3
  clear hm3
  go_wp2_with (at_builtin; refine wpList_append_own _ rfl _ _ 81 rfl B 5 i0 (.int .u8 0) 1 1 Tryz.underlying81 hi hz0 hz1 hz2 rfl (by decide) _ _ _ rfl (hown3.alloc _) ⟨w3.heap.size, 0, none⟩ 1 1 [Value.int .u8 44] rfl rfl (by intro j u' hj; match j, hj with | 0, hj => simp at hj; subst hj; simp [Addr.add]) (by intro u' hu'; simp at hu'; subst hu'; rfl) (by unfold maxLen; omega) (by omega) (by have := hb3.size; simp; omega) ?_)
  intro v4 w4 own' grow _
  have hb4 : Below B w0 w4 := (hb3.alloc (by have := hb3.size; omega) _).grown grow (by have := hb3.size; simp; omega) (fun k hk => (hown3.lt k hk).1)
  have hown4 : Own B w4 v4 (m3 ++ [44]) := own_snoc own'
  clear own' grow
  obtain ⟨m4, hm4⟩ : ∃ x, x = m3 ++ [44] := ⟨_, rfl⟩
  rw [← hm4] at hown4
  have hle4 : m4.length + ((prt b).length + 1) ≤ 1000 := by rw [hm4]; simp; omega
  have HM4 := Lib.hid hm4
  clear hm4
  have zz0 := cp w4 hb4
  have zz1 := cq1 w4 hb4
  go_wp2_with (go_at_call 41; refine (hb.zero w4 v4 m4 hb4 hown4 (by omega)).mono ?_; rintro e w5 ⟨v5, rfl, hown5, hb5⟩; refine Hid.out ?_)
  refine Lib.hid ?_
  clear zz0 zz1
  obtain ⟨m5, hm5⟩ : ∃ x, x = m4 ++ prt b := ⟨_, rfl⟩
  rw [← hm5] at hown5
  have hle5 : m5.length + (1) ≤ 1000 := by rw [hm5]; simp; omega
  have HM5 := Lib.hid hm5
  clear hm5
  go_wp2_with (at_builtin; refine wpList_append_own _ rfl _ _ 81 rfl B 5 i0 (.int .u8 0) 1 1 Tryz.underlying81 hi hz0 hz1 hz2 rfl (by decide) _ _ _ rfl (hown5.alloc _) ⟨w5.heap.size, 0, none⟩ 1 1 [Value.int .u8 41] rfl rfl (by intro j u' hj; match j, hj with | 0, hj => simp at hj; subst hj; simp [Addr.add]) (by intro u' hu'; simp at hu'; subst hu'; rfl) (by unfold maxLen; omega) (by omega) (by have := hb5.size; simp; omega) ?_)
  intro v6 w6 own' grow _
  have hb6 : Below B w0 w6 := (hb5.alloc (by have := hb5.size; omega) _).grown grow (by have := hb5.size; simp; omega) (fun k hk => (hown5.lt k hk).1)
  have hown6 : Own B w6 v6 (m5 ++ [41]) := own_snoc own'
  clear own' grow
  obtain ⟨m6, hm6⟩ : ∃ x, x = m5 ++ [41] := ⟨_, rfl⟩
  rw [← hm6] at hown6
  have hle6 : m6.length + (0) ≤ 1000 := by rw [hm6]; simp; omega
  have HM6 := Lib.hid hm6
  clear hm6
  go_wp2_with fail
  go_ret
  refine ⟨v6, rfl, ?_, hb6⟩
  have hfin : m6 = m1 ++ 40 :: (prt a ++ 44 :: (prt b ++ [41])) := by rw [HM6.out, HM5.out, HM4.out, HM3.out, HM2.out]; simp
  rw [← hfin]; exact hown6

set_option maxRecDepth 100000 in
set_option maxHeartbeats 2000000 in
theorem both_print {B : Nat} {w0 : World} (hB : B = w0.heap.size) {op : UInt8} {a b : Tm} {p q pa pb : Nat} (ha : AtOK B w0 a pa) (hb : AtOK B w0 b pb)
    (h1 : w0.heap[p]? = some (.cells #[.int .u8 op.toNat, .int .i64 0, .slice (some ⟨q, 0, none⟩) 2 2] 137)) (h2 : w0.heap[q]? = some (.cells #[.pointer (some ⟨pa, 0, none⟩), .pointer (some ⟨pb, 0, none⟩)] 73))
    (j k : Nat) (w1 : World) (v1 : Value) (m1 : List UInt8) (hb1 : Below B w0 w1) (hown1 : Own B w1 v1 m1) (hlim : m1.length + (pin j a ++ op :: pin k b).length ≤ 1000) :
    Calls Tryz.prog 78 #[v1, .pointer (some ⟨p, 0, none⟩), .int .i64 j, .int .i64 k] w1 fun e w' => ∃ v', e = .returned v' ∧ Own B w' v' (m1 ++ (pin j a ++ op :: pin k b)) ∧ Below B w0 w' := by
  obtain ⟨i0, hi, hz0, hz1, hz2⟩ := info_parts infoByte
  have cp : ∀ w, Below B w0 w → w.cell? ⟨p, 2, none⟩ = some (.slice (some ⟨q, 0, none⟩) 2 2) := fun w hb => cellB h1 hB hb rfl
  have c0 : ∀ w, Below B w0 w → w.cell? ⟨p, 0, none⟩ = some (.int .u8 op.toNat) := fun w hb => cellB h1 hB hb rfl
  have cq0 : ∀ w, Below B w0 w → w.cell? ⟨q, 0, none⟩ = some (.pointer (some ⟨pa, 0, none⟩)) := fun w hb => cellB h2 hB hb rfl
  have cq1 : ∀ w, Below B w0 w → w.cell? ⟨q, 1, none⟩ = some (.pointer (some ⟨pb, 0, none⟩)) := fun w hb => cellB h2 hB hb rfl
  have hBle : B ≤ w0.heap.size := Nat.le_of_eq hB
  clear hB h1 h2
  have hle1 : m1.length + ((pin j a).length + (pin k b).length + 1) ≤ 1000 := by simp at hlim; omega
  clear hlim
  have zz0 := cp w1 hb1
  have zz1 := cq0 w1 hb1
  go_enter Tryz.func78, Tryz.ntmps78
  go_wp2_with (go_at_call 41; refine (ha.at j w1 v1 m1 hb1 hown1 (by omega)).mono ?_; rintro e w2 ⟨v2, rfl, hown2, hb2⟩; refine Hid.out ?_)
  refine Lib.hid ?_
  clear zz0 zz1
  obtain ⟨m2, hm2⟩ : ∃ x, x = m1 ++ pin j a := ⟨_, rfl⟩
  rw [← hm2] at hown2
  have hle2 : m2.length + ((pin k b).length + 1) ≤ 1000 := by rw [hm2]; simp; omega
  have HM2 := Lib.hid hm2
  clear hm2
  have c0' := c0 w2 hb2
  go_wp2_with (at_builtin; refine wpList_append_own _ rfl _ _ 81 rfl B 5 i0 (.int .u8 0) 1 1 Tryz.underlying81 hi hz0 hz1 hz2 rfl (by decide) _ _ _ rfl (hown2.alloc _) ⟨w2.heap.size, 0, none⟩ 1 1 [Value.int .u8 op.toNat] rfl rfl (by intro j u' hj; match j, hj with | 0, hj => simp at hj; subst hj; simp [Addr.add]) (by intro u' hu'; simp at hu'; subst hu'; rfl) (by unfold maxLen; omega) (by omega) (by have := hb2.size; simp; omega) ?_)
  intro v3 w3 own' grow _
  have hb3 : Below B w0 w3 := (hb2.alloc (by have := hb2.size; omega) _).grown grow (by have := hb2.size; simp; omega) (fun k hk => (hown2.lt k hk).1)
  have hown3 : Own B w3 v3 (m2 ++ [op]) := own_snoc own'
  clear own' grow
  obtain ⟨m3, hm3⟩ : ∃ x, x = m2 ++ [op] := ⟨_, rfl⟩
  rw [← hm3] at hown3
  have hle3 : m3.length + ((pin k b).length) ≤ 1000 := by rw [hm3]; simp; omega
  have HM3 := Lib.hid hm3
  clear hm3
  clear c0'
  have zz0 := cp w3 hb3
  have zz1 := cq1 w3 hb3
  go_wp2_with (go_at_call 41; refine (hb.at k w3 v3 m3 hb3 hown3 (by omega)).mono ?_; rintro e w4 ⟨v4, rfl, hown4, hb4⟩; refine Hid.out ?_)
  refine Lib.hid ?_
  clear zz0 zz1
  obtain ⟨m4, hm4⟩ : ∃ x, x = m3 ++ pin k b := ⟨_, rfl⟩
  rw [← hm4] at hown4
  have hle4 : m4.length + (0) ≤ 1000 := by rw [hm4]; simp; omega
  have HM4 := Lib.hid hm4
  clear hm4
  go_wp2_with fail
  go_ret
  refine ⟨v4, rfl, ?_, hb4⟩
  have hfin : m4 = m1 ++ (pin j a ++ op :: pin k b) := by rw [HM4.out, HM3.out, HM2.out]; simp
  rw [← hfin]; exact hown4

end Go.Proofs.YtoooninneccfcaaGreatDoor

/- How a tree is written, all of it. -/
namespace Go.Proofs.YtoooninneccfcaaGreatDoor
open Go.RowKit

def DirOK (B : Nat) (w0 : World) (t : Tm) (p : Nat) : Prop := ∀ (w1 : World) (v1 : Value) (m1 : List UInt8) (k : Nat), Below B w0 w1 → Own B w1 v1 m1 → k ≤ rk t.op → m1.length + (prt t).length ≤ 1000 →
  Calls Tryz.prog 41 #[v1, .pointer (some ⟨p, 0, none⟩), .int .i64 k] w1 fun e w' => ∃ v', e = .returned v' ∧ Own B w' v' (m1 ++ prt t) ∧ Below B w0 w'
/-- Writing a single one. -/
def SinOK (B : Nat) (w0 : World) (t : Tm) (p : Nat) : Prop := ∀ (w1 : World) (v1 : Value) (m1 : List UInt8), Below B w0 w1 → Own B w1 v1 m1 → m1.length + (prt t).length ≤ 1000 →
  Calls Tryz.prog 79 #[v1, .pointer (some ⟨p, 0, none⟩)] w1 fun e w' => ∃ v', e = .returned v' ∧ Own B w' v' (m1 ++ prt t) ∧ Below B w0 w'

set_option maxRecDepth 100000 in
set_option maxHeartbeats 2000000 in
theorem sin_num {B : Nat} {w0 : World} (hB : B = w0.heap.size) (hT : Tb B w0) {v p lo : Nat} (ht : Tr lo w0 (.num v) p) : SinOK B w0 (.num v) p := by
  intro w1 v1 m1 hb1 hown1 hlim
  obtain ⟨_, hv, h1⟩ := ht
  have c0 : w1.cell? ⟨p, 0, none⟩ = some (.int .u8 48) := cellB h1 hB hb1 rfl
  have c1 : w1.cell? ⟨p, 1, none⟩ = some (.int .i64 v) := cellB h1 hB hb1 rfl
  have hBle : B ≤ w1.heap.size := by have := hb1.size; omega
  clear hB h1
  have hlen : m1.length ≤ 1000 := by omega
  clear hlim
  go_enter Tryz.func79, Tryz.ntmps79
  go_wp2_with (go_at_call 121; refine (Tryz.strconv_AppendInt_10 B m1.length v (by omega) (by omega) v1 _ w1 hown1 hBle (by omega) (hT.on hb1)).mono ?_; rintro e w2 ⟨v2, rfl, hown2, hb2, -⟩; refine Hid.out ?_)
  refine Lib.hid ?_
  have hown3 : Own B w2 v2 (m1 ++ prt (.num v)) := by
    have e : prt (.num v) = Lib.itoa (v : Int) := (Lib.itoa_nonneg v).symm
    rw [e]; exact own_app hown2 rfl
  clear hown2
  go_wp2_with fail
  go_ret
  exact ⟨v2, rfl, hown3, hb1.trans hb2⟩

set_option maxRecDepth 100000 in
set_option maxHeartbeats 2000000 in
theorem sin_vn {B : Nat} {w0 : World} (hB : B = w0.heap.size) {p lo : Nat} (ht : Tr lo w0 .vn p) : SinOK B w0 .vn p := by
  intro w1 v1 m1 hb1 hown1 hlim
  obtain ⟨_, h1⟩ := ht
  obtain ⟨i0, hi, hz0, hz1, hz2⟩ := info_parts infoByte
  have c0 : w1.cell? ⟨p, 0, none⟩ = some (.int .u8 110) := cellB h1 hB hb1 rfl
  have hBle : B ≤ w0.heap.size := Nat.le_of_eq hB
  clear hB h1
  have hle1 : m1.length + 1 ≤ 1000 := by simpa [prt] using hlim
  clear hlim
  go_enter Tryz.func79, Tryz.ntmps79
  go_wp2_with (at_builtin; refine wpList_append_own _ rfl _ _ 81 rfl B 5 i0 (.int .u8 0) 1 1 Tryz.underlying81 hi hz0 hz1 hz2 rfl (by decide) _ _ _ rfl (hown1.alloc _) ⟨w1.heap.size, 0, none⟩ 1 1 [Value.int .u8 110] rfl rfl (by intro j u' hj; match j, hj with | 0, hj => simp at hj; subst hj; simp [Addr.add]) (by intro u' hu'; simp at hu'; subst hu'; rfl) (by unfold maxLen; omega) (by omega) (by have := hb1.size; simp; omega) ?_)
  intro v2 w2 own' grow _
  have hb2 : Below B w0 w2 := (hb1.alloc (by have := hb1.size; omega) _).grown grow (by have := hb1.size; simp; omega) (fun k hk => (hown1.lt k hk).1)
  have hown2 : Own B w2 v2 (m1 ++ [110]) := own_snoc own'
  clear own' grow
  obtain ⟨m2, hm2⟩ : ∃ x, x = m1 ++ [110] := ⟨_, rfl⟩
  rw [← hm2] at hown2
  have hle2 : m2.length + (0) ≤ 1000 := by rw [hm2]; simp; omega
  have HM2 := Lib.hid hm2
  clear hm2
  go_wp2_with fail
  go_ret
  refine ⟨v2, rfl, ?_, hb2⟩
  have hfin : m2 = m1 ++ prt .vn := by rw [HM2.out]; rfl
  rw [← hfin]; exact hown2

set_option maxRecDepth 100000 in
set_option maxHeartbeats 2000000 in
theorem sin_vs {B : Nat} {w0 : World} (hB : B = w0.heap.size) {p lo : Nat} (ht : Tr lo w0 .vs p) : SinOK B w0 .vs p := by
  intro w1 v1 m1 hb1 hown1 hlim
  obtain ⟨_, h1⟩ := ht
  obtain ⟨i0, hi, hz0, hz1, hz2⟩ := info_parts infoByte
  have c0 : w1.cell? ⟨p, 0, none⟩ = some (.int .u8 115) := cellB h1 hB hb1 rfl
  have hBle : B ≤ w0.heap.size := Nat.le_of_eq hB
  clear hB h1
  have hle1 : m1.length + 1 ≤ 1000 := by simpa [prt] using hlim
  clear hlim
  go_enter Tryz.func79, Tryz.ntmps79
  go_wp2_with (at_builtin; refine wpList_append_own _ rfl _ _ 81 rfl B 5 i0 (.int .u8 0) 1 1 Tryz.underlying81 hi hz0 hz1 hz2 rfl (by decide) _ _ _ rfl (hown1.alloc _) ⟨w1.heap.size, 0, none⟩ 1 1 [Value.int .u8 115] rfl rfl (by intro j u' hj; match j, hj with | 0, hj => simp at hj; subst hj; simp [Addr.add]) (by intro u' hu'; simp at hu'; subst hu'; rfl) (by unfold maxLen; omega) (by omega) (by have := hb1.size; simp; omega) ?_)
  intro v2 w2 own' grow _
  have hb2 : Below B w0 w2 := (hb1.alloc (by have := hb1.size; omega) _).grown grow (by have := hb1.size; simp; omega) (fun k hk => (hown1.lt k hk).1)
  have hown2 : Own B w2 v2 (m1 ++ [115]) := own_snoc own'
  clear own' grow
  obtain ⟨m2, hm2⟩ : ∃ x, x = m1 ++ [115] := ⟨_, rfl⟩
  rw [← hm2] at hown2
  have hle2 : m2.length + (0) ≤ 1000 := by rw [hm2]; simp; omega
  have HM2 := Lib.hid hm2
  clear hm2
  go_wp2_with fail
  go_ret
  refine ⟨v2, rfl, ?_, hb2⟩
  have hfin : m2 = m1 ++ prt .vs := by rw [HM2.out]; rfl
  rw [← hfin]; exact hown2

set_option maxRecDepth 100000 in
set_option maxHeartbeats 2000000 in
theorem sin_109 {B : Nat} {w0 : World} (hB : B = w0.heap.size) {a b : Tm} {p q pa pb : Nat} (ha : AtOK B w0 a pa) (hb : AtOK B w0 b pb)
    (h1 : w0.heap[p]? = some (.cells #[.int .u8 (109 : UInt8).toNat, .int .i64 0, .slice (some ⟨q, 0, none⟩) 2 2] 137)) (h2 : w0.heap[q]? = some (.cells #[.pointer (some ⟨pa, 0, none⟩), .pointer (some ⟨pb, 0, none⟩)] 73)) : SinOK B w0 (.two 109 a b) p := by
  intro w1 v1 m1 hb1 hown1 hlim
  obtain ⟨i0, hi, hz0, hz1, hz2⟩ := info_parts infoByte
  have c0 : w1.cell? ⟨p, 0, none⟩ = some (.int .u8 109) := cellB h1 hB hb1 rfl
  have hpp := pair_print hB ha hb h1 h2
  have hBle : B ≤ w0.heap.size := Nat.le_of_eq hB
  clear hB h1 h2
  have ep : prt (.two 109 a b) = [109, 105, 110] ++ 40 :: (prt a ++ 44 :: (prt b ++ [41])) := by simp [prt]
  have hle1 : m1.length + (3 + (40 :: (prt a ++ 44 :: (prt b ++ [41]))).length) ≤ 1000 := by rw [ep] at hlim; simp at hlim ⊢; omega
  have EP := Lib.hid ep
  clear hlim ep
  generalize 40 :: (prt a ++ 44 :: (prt b ++ [41])) = pr at hle1 EP hpp
  go_enter Tryz.func79, Tryz.ntmps79
  go_wp2_with (at_builtin; refine Lib.wpList_append_own_string _ rfl _ _ 81 9 rfl B 5 i0 Tryz.underlying81 Tryz.underlying9 hi hz0 hz1 hz2 _ _ _ rfl hown1 ⟨#[109, 105, 110]⟩ rfl (by unfold maxLen; show _ + 3 ≤ _; omega) (by show _ + 3 ≤ _; omega) (by have := hb1.size; omega) ?_)
  intro v2 w2 own' grow _
  have hb2 : Below B w0 w2 := hb1.grown grow (by have := hb1.size; omega) (fun k hk => (hown1.lt k hk).1)
  have hown2 : Own B w2 v2 (m1 ++ [109, 105, 110]) := own_app (n := 3) own' rfl
  clear own' grow
  obtain ⟨m2, hm2⟩ : ∃ x, x = m1 ++ [109, 105, 110] := ⟨_, rfl⟩
  rw [← hm2] at hown2
  have hle2 : m2.length + (pr.length) ≤ 1000 := by rw [hm2]; simp; omega
  have HM2 := Lib.hid hm2
  clear hm2
  go_wp2_with (go_at_call 122; refine (hpp w2 v2 m2 hb2 hown2 (by omega)).mono ?_; rintro e w3 ⟨v3, rfl, hown3, hb3⟩; refine Hid.out ?_)
  refine Lib.hid ?_
  obtain ⟨m3, hm3⟩ : ∃ x, x = m2 ++ pr := ⟨_, rfl⟩
  rw [← hm3] at hown3
  have hle3 : m3.length + (0) ≤ 1000 := by rw [hm3]; simp; omega
  have HM3 := Lib.hid hm3
  clear hm3
  go_wp2_with fail
  go_ret
  refine ⟨v3, rfl, ?_, hb3⟩
  have hfin : m3 = m1 ++ prt (.two 109 a b) := by rw [HM3.out, HM2.out, EP.out]; simp
  rw [← hfin]; exact hown3

set_option maxRecDepth 100000 in
set_option maxHeartbeats 2000000 in
theorem sin_77 {B : Nat} {w0 : World} (hB : B = w0.heap.size) {a b : Tm} {p q pa pb : Nat} (ha : AtOK B w0 a pa) (hb : AtOK B w0 b pb)
    (h1 : w0.heap[p]? = some (.cells #[.int .u8 (77 : UInt8).toNat, .int .i64 0, .slice (some ⟨q, 0, none⟩) 2 2] 137)) (h2 : w0.heap[q]? = some (.cells #[.pointer (some ⟨pa, 0, none⟩), .pointer (some ⟨pb, 0, none⟩)] 73)) : SinOK B w0 (.two 77 a b) p := by
  intro w1 v1 m1 hb1 hown1 hlim
  obtain ⟨i0, hi, hz0, hz1, hz2⟩ := info_parts infoByte
  have c0 : w1.cell? ⟨p, 0, none⟩ = some (.int .u8 77) := cellB h1 hB hb1 rfl
  have hpp := pair_print hB ha hb h1 h2
  have hBle : B ≤ w0.heap.size := Nat.le_of_eq hB
  clear hB h1 h2
  have ep : prt (.two 77 a b) = [109, 97, 120] ++ 40 :: (prt a ++ 44 :: (prt b ++ [41])) := by simp [prt]
  have hle1 : m1.length + (3 + (40 :: (prt a ++ 44 :: (prt b ++ [41]))).length) ≤ 1000 := by rw [ep] at hlim; simp at hlim ⊢; omega
  have EP := Lib.hid ep
  clear hlim ep
  generalize 40 :: (prt a ++ 44 :: (prt b ++ [41])) = pr at hle1 EP hpp
  go_enter Tryz.func79, Tryz.ntmps79
  go_wp2_with (at_builtin; refine Lib.wpList_append_own_string _ rfl _ _ 81 9 rfl B 5 i0 Tryz.underlying81 Tryz.underlying9 hi hz0 hz1 hz2 _ _ _ rfl hown1 ⟨#[109, 97, 120]⟩ rfl (by unfold maxLen; show _ + 3 ≤ _; omega) (by show _ + 3 ≤ _; omega) (by have := hb1.size; omega) ?_)
  intro v2 w2 own' grow _
  have hb2 : Below B w0 w2 := hb1.grown grow (by have := hb1.size; omega) (fun k hk => (hown1.lt k hk).1)
  have hown2 : Own B w2 v2 (m1 ++ [109, 97, 120]) := own_app (n := 3) own' rfl
  clear own' grow
  obtain ⟨m2, hm2⟩ : ∃ x, x = m1 ++ [109, 97, 120] := ⟨_, rfl⟩
  rw [← hm2] at hown2
  have hle2 : m2.length + (pr.length) ≤ 1000 := by rw [hm2]; simp; omega
  have HM2 := Lib.hid hm2
  clear hm2
  go_wp2_with (go_at_call 122; refine (hpp w2 v2 m2 hb2 hown2 (by omega)).mono ?_; rintro e w3 ⟨v3, rfl, hown3, hb3⟩; refine Hid.out ?_)
  refine Lib.hid ?_
  obtain ⟨m3, hm3⟩ : ∃ x, x = m2 ++ pr := ⟨_, rfl⟩
  rw [← hm3] at hown3
  have hle3 : m3.length + (0) ≤ 1000 := by rw [hm3]; simp; omega
  have HM3 := Lib.hid hm3
  clear hm3
  go_wp2_with fail
  go_ret
  refine ⟨v3, rfl, ?_, hb3⟩
  have hfin : m3 = m1 ++ prt (.two 77 a b) := by rw [HM3.out, HM2.out, EP.out]; simp
  rw [← hfin]; exact hown3

set_option maxRecDepth 100000 in
set_option maxHeartbeats 2000000 in
theorem dir_single {B : Nat} {w0 : World} {t : Tm} {p : Nat} (hs : SinOK B w0 t p) (ho : t.op ∈ allOps) (hr : rk t.op = 5) (hc : ∀ w, Below B w0 w → w.cell? ⟨p, 0, none⟩ = some (.int .u8 t.op.toNat)) : DirOK B w0 t p := by
  intro w1 v1 m1 k hb1 hown1 hk hlim
  have c0 := hc w1 hb1
  have hk' : ¬ (5 : Int) < k := by omega
  have hra := fun w => rank_any t.op ho w
  rw [hr] at hra
  generalize t.op.toNat = o at c0 hra
  have hs1 := hs w1 v1 m1 hb1 hown1 hlim
  clear hlim hc
  go_enter Tryz.func41, Tryz.ntmps41
  go_wp2_with (first | (go_at_call 77; refine (hra _).mono ?_; rintro e w' ⟨rfl, rfl⟩) | (go_at_call 79; refine hs1.mono ?_; rintro e w2 ⟨v2, rfl, hown2, hb2⟩))
  go_ret
  exact ⟨v2, rfl, hown2, hb2⟩

set_option maxRecDepth 100000 in
set_option maxHeartbeats 2000000 in
theorem dir_both1 {B : Nat} {w0 : World} (hB : B = w0.heap.size) {op : UInt8} {a b : Tm} {p q pa pb : Nat} (ha : AtOK B w0 a pa) (hb : AtOK B w0 b pb)
    (h1 : w0.heap[p]? = some (.cells #[.int .u8 op.toNat, .int .i64 0, .slice (some ⟨q, 0, none⟩) 2 2] 137)) (h2 : w0.heap[q]? = some (.cells #[.pointer (some ⟨pa, 0, none⟩), .pointer (some ⟨pb, 0, none⟩)] 73)) (ho : op ∈ allOps) (hr : rk op = 1) (ep : prt (.two op a b) = pin 2 a ++ op :: pin 2 b) : DirOK B w0 (.two op a b) p := by
  intro w1 v1 m1 k hb1 hown1 hk hlim
  have c0 : w1.cell? ⟨p, 0, none⟩ = some (.int .u8 op.toNat) := cellB h1 hB hb1 rfl
  have hk2 : k ≤ 1 := by have e : (Tm.two op a b).op = op := rfl; rw [e, hr] at hk; exact hk
  have hk' : ¬ (1 : Int) < k := by omega
  have hra := fun w => rank_any op ho w
  rw [hr] at hra
  rw [ep] at hlim
  have hs1 := both_print hB ha hb h1 h2 2 2 w1 v1 m1 hb1 hown1 hlim
  rw [ep]
  generalize pin 2 a ++ op :: pin 2 b = pr at hs1
  generalize op.toNat = o at c0 hra hs1
  clear hlim h1 h2 hk hB
  go_enter Tryz.func41, Tryz.ntmps41
  go_wp2_with (first | (go_at_call 77; refine (hra _).mono ?_; rintro e w' ⟨rfl, rfl⟩) | (go_at_call 78; refine hs1.mono ?_; rintro e w2 ⟨v2, rfl, hown2, hb2⟩))
  go_ret
  exact ⟨v2, rfl, hown2, hb2⟩

set_option maxRecDepth 100000 in
set_option maxHeartbeats 2000000 in
theorem dir_both2 {B : Nat} {w0 : World} (hB : B = w0.heap.size) {op : UInt8} {a b : Tm} {p q pa pb : Nat} (ha : AtOK B w0 a pa) (hb : AtOK B w0 b pb)
    (h1 : w0.heap[p]? = some (.cells #[.int .u8 op.toNat, .int .i64 0, .slice (some ⟨q, 0, none⟩) 2 2] 137)) (h2 : w0.heap[q]? = some (.cells #[.pointer (some ⟨pa, 0, none⟩), .pointer (some ⟨pb, 0, none⟩)] 73)) (ho : op ∈ allOps) (hr : rk op = 2) (ep : prt (.two op a b) = pin 2 a ++ op :: pin 3 b) : DirOK B w0 (.two op a b) p := by
  intro w1 v1 m1 k hb1 hown1 hk hlim
  have c0 : w1.cell? ⟨p, 0, none⟩ = some (.int .u8 op.toNat) := cellB h1 hB hb1 rfl
  have hk2 : k ≤ 2 := by have e : (Tm.two op a b).op = op := rfl; rw [e, hr] at hk; exact hk
  have hk' : ¬ (2 : Int) < k := by omega
  have hra := fun w => rank_any op ho w
  rw [hr] at hra
  rw [ep] at hlim
  have hs1 := both_print hB ha hb h1 h2 2 3 w1 v1 m1 hb1 hown1 hlim
  rw [ep]
  generalize pin 2 a ++ op :: pin 3 b = pr at hs1
  generalize op.toNat = o at c0 hra hs1
  clear hlim h1 h2 hk hB
  go_enter Tryz.func41, Tryz.ntmps41
  go_wp2_with (first | (go_at_call 77; refine (hra _).mono ?_; rintro e w' ⟨rfl, rfl⟩) | (go_at_call 78; refine hs1.mono ?_; rintro e w2 ⟨v2, rfl, hown2, hb2⟩))
  go_ret
  exact ⟨v2, rfl, hown2, hb2⟩

set_option maxRecDepth 100000 in
set_option maxHeartbeats 2000000 in
theorem dir_both3 {B : Nat} {w0 : World} (hB : B = w0.heap.size) {op : UInt8} {a b : Tm} {p q pa pb : Nat} (ha : AtOK B w0 a pa) (hb : AtOK B w0 b pb)
    (h1 : w0.heap[p]? = some (.cells #[.int .u8 op.toNat, .int .i64 0, .slice (some ⟨q, 0, none⟩) 2 2] 137)) (h2 : w0.heap[q]? = some (.cells #[.pointer (some ⟨pa, 0, none⟩), .pointer (some ⟨pb, 0, none⟩)] 73)) (ho : op ∈ allOps) (hr : rk op = 3) (ep : prt (.two op a b) = pin 3 a ++ op :: pin 4 b) : DirOK B w0 (.two op a b) p := by
  intro w1 v1 m1 k hb1 hown1 hk hlim
  have c0 : w1.cell? ⟨p, 0, none⟩ = some (.int .u8 op.toNat) := cellB h1 hB hb1 rfl
  have hk2 : k ≤ 3 := by have e : (Tm.two op a b).op = op := rfl; rw [e, hr] at hk; exact hk
  have hk' : ¬ (3 : Int) < k := by omega
  have hra := fun w => rank_any op ho w
  rw [hr] at hra
  rw [ep] at hlim
  have hs1 := both_print hB ha hb h1 h2 3 4 w1 v1 m1 hb1 hown1 hlim
  rw [ep]
  generalize pin 3 a ++ op :: pin 4 b = pr at hs1
  generalize op.toNat = o at c0 hra hs1
  clear hlim h1 h2 hk hB
  go_enter Tryz.func41, Tryz.ntmps41
  go_wp2_with (first | (go_at_call 77; refine (hra _).mono ?_; rintro e w' ⟨rfl, rfl⟩) | (go_at_call 78; refine hs1.mono ?_; rintro e w2 ⟨v2, rfl, hown2, hb2⟩))
  go_ret
  exact ⟨v2, rfl, hown2, hb2⟩

set_option maxRecDepth 100000 in
set_option maxHeartbeats 2000000 in
theorem at_of_dir {B : Nat} {w0 : World} (hB : B = w0.heap.size) {t : Tm} {p : Nat} (hD : DirOK B w0 t p) (ho : t.op ∈ allOps) (hc : ∀ w, Below B w0 w → w.cell? ⟨p, 0, none⟩ = some (.int .u8 t.op.toNat)) : AtOK B w0 t p := by
  intro w1 v1 m1 k hb1 hown1 hlim
  by_cases hk : rk t.op < k
  · have eb : brk (decide (rk t.op < k)) (prt t) = 40 :: (prt t ++ [41]) := by simp [brk, hk]
    rw [eb] at hlim ⊢
    obtain ⟨i0, hi, hz0, hz1, hz2⟩ := info_parts infoByte
    have c0 := hc w1 hb1
    have hk' : ((rk t.op : Nat) : Int) < k := by omega
    have hra := fun w => rank_any t.op ho w
    have hDz := fun w v m h1 h2 h3 => hD w v m 0 h1 h2 (by omega) h3
    have hBle : B ≤ w0.heap.size := Nat.le_of_eq hB
    have hle1 : m1.length + ((prt t).length + 2) ≤ 1000 := by simp at hlim; omega
    clear hlim hc hD hB eb hk
    generalize rk t.op = r at hra hk'
    generalize t.op.toNat = o at c0 hra
    go_enter Tryz.func41, Tryz.ntmps41
    go_wp2_with (go_at_call 77; refine (hra _).mono ?_; rintro e w' ⟨rfl, rfl⟩; refine Hid.out ?_)
    refine Lib.hid ?_
    go_wp2_with (at_builtin; refine wpList_append_own _ rfl _ _ 81 rfl B 5 i0 (.int .u8 0) 1 1 Tryz.underlying81 hi hz0 hz1 hz2 rfl (by decide) _ _ _ rfl (hown1.alloc _) ⟨w1.heap.size, 0, none⟩ 1 1 [Value.int .u8 40] rfl rfl (by intro j u' hj; match j, hj with | 0, hj => simp at hj; subst hj; simp [Addr.add]) (by intro u' hu'; simp at hu'; subst hu'; rfl) (by unfold maxLen; omega) (by omega) (by have := hb1.size; simp; omega) ?_)
    intro v2 w2 own' grow _
    have hb2 : Below B w0 w2 := (hb1.alloc (by have := hb1.size; omega) _).grown grow (by have := hb1.size; simp; omega) (fun k hk => (hown1.lt k hk).1)
    have hown2 : Own B w2 v2 (m1 ++ [40]) := own_snoc own'
    clear own' grow
    obtain ⟨m2, hm2⟩ : ∃ x, x = m1 ++ [40] := ⟨_, rfl⟩
    rw [← hm2] at hown2
    have hle2 : m2.length + ((prt t).length + 1) ≤ 1000 := by rw [hm2]; simp; omega
    have HM2 := Lib.hid hm2
    clear hm2
    go_wp2_with (go_at_call 41; refine (hDz w2 v2 m2 hb2 hown2 (by omega)).mono ?_; rintro e w3 ⟨v3, rfl, hown3, hb3⟩; refine Hid.out ?_)
    refine Lib.hid ?_
    obtain ⟨m3, hm3⟩ : ∃ x, x = m2 ++ prt t := ⟨_, rfl⟩
    rw [← hm3] at hown3
    have hle3 : m3.length + (1) ≤ 1000 := by rw [hm3]; simp; omega
    have HM3 := Lib.hid hm3
    clear hm3
    go_wp2_with (at_builtin; refine wpList_append_own _ rfl _ _ 81 rfl B 5 i0 (.int .u8 0) 1 1 Tryz.underlying81 hi hz0 hz1 hz2 rfl (by decide) _ _ _ rfl (hown3.alloc _) ⟨w3.heap.size, 0, none⟩ 1 1 [Value.int .u8 41] rfl rfl (by intro j u' hj; match j, hj with | 0, hj => simp at hj; subst hj; simp [Addr.add]) (by intro u' hu'; simp at hu'; subst hu'; rfl) (by unfold maxLen; omega) (by omega) (by have := hb3.size; simp; omega) ?_)
    intro v4 w4 own' grow _
    have hb4 : Below B w0 w4 := (hb3.alloc (by have := hb3.size; omega) _).grown grow (by have := hb3.size; simp; omega) (fun k hk => (hown3.lt k hk).1)
    have hown4 : Own B w4 v4 (m3 ++ [41]) := own_snoc own'
    clear own' grow
    obtain ⟨m4, hm4⟩ : ∃ x, x = m3 ++ [41] := ⟨_, rfl⟩
    rw [← hm4] at hown4
    have hle4 : m4.length + (0) ≤ 1000 := by rw [hm4]; simp; omega
    have HM4 := Lib.hid hm4
    clear hm4
    go_wp2_with fail
    go_ret
    refine ⟨v4, rfl, ?_, hb4⟩
    have hfin : m4 = m1 ++ 40 :: (prt t ++ [41]) := by rw [HM4.out, HM3.out, HM2.out]; simp
    rw [← hfin]; exact hown4

  · have eb : brk (decide (rk t.op < k)) (prt t) = prt t := by simp [brk, hk]
    rw [eb] at hlim ⊢
    exact hD w1 v1 m1 k hb1 hown1 (by omega) hlim
end Go.Proofs.YtoooninneccfcaaGreatDoor

/- How a choice and one with a sign ahead are written; and every tree. -/
namespace Go.Proofs.YtoooninneccfcaaGreatDoor
open Go.RowKit

theorem own_drew_alloc {B : Nat} {w : World} {v : Value} {l : List UInt8} (h : Own B w v l) (o : Obj) : Own B (w.drew.alloc o) v l := (show Own B w.drew v l from h).alloc o
theorem step_append_own {P : Program} {ops : Array Oper} {o : Oper} {a : Act} {w : World} {K : Act → World → Prop} {Q : Exit → Act → World → Prop} {E : Prop} (hg : o.guard = none) (s x : Operand) (t : TypeId)
    (ho : o.op = .call { callee := .builtin .append, args := #[s, x], argTypes := #[t, t] })
    (base : Nat) (e : TypeId) (i : TypeInfo) (z : Value) (size bytes : Nat) (ht : P.underlying t = some (.slice e)) (hi : P.info? e = some i) (hz : i.zero = some z)
    (hsize : i.size = size) (hby : i.bytes = bytes) (hzs : z.cells.size = size) (hsz : 0 < size)
    (v : Value) (n : Nat) (xs : List Value) (hs : a.eval s = v) (hown : w.ownsRow base e size v n xs)
    (ad : Addr) (m c : Nat) (news : List Value) (hx : a.eval x = .slice (some ad) m c) (hl : news.length = m * size) (hnews : ∀ j u, news[j]? = some u → w.cell? (ad.add j) = some u) (h1 : ∀ u ∈ news, u.oneCell' = true)
    (h63 : n + m ≤ maxLen) (hbytes : (n + m) * bytes ≤ 140737488355328) (hbase : base ≤ w.heap.size)
    (h : ∀ v' w', w'.ownsRow base e size v' (n + m) (xs ++ news) → w.grownBy w' v.ownBlock → K (a.put o.dst v') w') :
    if Region.wanted o (yielded ops a.tmps) = true then Oper.wp P o a w K Q else E := by
  have hw : Region.wanted o (yielded ops a.tmps) = true := by simp [Region.wanted, hg]
  rw [if_pos hw]
  exact wp_append_own w s x t ho base e i z size bytes ht hi hz hsize hby hzs hsz v n xs hs hown ad m c news hx hl hnews h1 h63 hbytes hbase (fun v' w' h2 h3 _ => h v' w' h2 h3)

set_option maxRecDepth 100000 in
set_option maxHeartbeats 2000000 in
theorem dir_cond {B : Nat} {w0 : World} (hB : B = w0.heap.size) {a b c : Tm} {p q pa pb pc : Nat} (ha : AtOK B w0 a pa) (hb : AtOK B w0 b pb) (hc : AtOK B w0 c pc)
    (h1 : w0.heap[p]? = some (.cells #[.int .u8 63, .int .i64 0, .slice (some ⟨q, 0, none⟩) 3 3] 137)) (h2 : w0.heap[q]? = some (.cells #[.pointer (some ⟨pa, 0, none⟩), .pointer (some ⟨pb, 0, none⟩), .pointer (some ⟨pc, 0, none⟩)] 73)) : DirOK B w0 (.cond a b c) p := by
  intro w1 v1 m1 k hb1 hown1 hk hlim
  obtain rfl : k = 0 := by have e : rk (Tm.cond a b c).op = 0 := rfl; omega
  obtain ⟨i0, hi, hz0, hz1, hz2⟩ := info_parts infoByte
  have hra : ∀ w, Calls Tryz.prog 77 #[.int .u8 63] w fun e w' => e = .returned (.int .i64 0) ∧ w = w' := fun w => rank_any 63 (by decide) w
  have c0 : ∀ w, Below B w0 w → w.cell? ⟨p, 0, none⟩ = some (.int .u8 63) := fun w hb => cellB h1 hB hb rfl
  have cp : ∀ w, Below B w0 w → w.cell? ⟨p, 2, none⟩ = some (.slice (some ⟨q, 0, none⟩) 3 3) := fun w hb => cellB h1 hB hb rfl
  have cq0 : ∀ w, Below B w0 w → w.cell? ⟨q, 0, none⟩ = some (.pointer (some ⟨pa, 0, none⟩)) := fun w hb => cellB h2 hB hb rfl
  have cq1 : ∀ w, Below B w0 w → w.cell? ⟨q, 1, none⟩ = some (.pointer (some ⟨pb, 0, none⟩)) := fun w hb => cellB h2 hB hb rfl
  have cq2 : ∀ w, Below B w0 w → w.cell? ⟨q, 2, none⟩ = some (.pointer (some ⟨pc, 0, none⟩)) := fun w hb => cellB h2 hB hb rfl
  have hBle : B ≤ w0.heap.size := Nat.le_of_eq hB
  clear hB h1 h2 hk
  have ep : prt (.cond a b c) = pin 1 a ++ 63 :: (prt b ++ 58 :: prt c) := rfl
  have hle1 : m1.length + ((pin 1 a).length + (prt b).length + (prt c).length + 2) ≤ 1000 := by rw [ep] at hlim; simp at hlim; omega
  have EP := Lib.hid ep
  clear hlim ep
  have z0 := c0 w1 hb1
  have zz0 := cp w1 hb1
  have zz1 := cq0 w1 hb1
  go_enter Tryz.func41, Tryz.ntmps41
  go_wp2_with (go_at_call 77; refine (hra _).mono ?_; rintro e w' ⟨rfl, rfl⟩)
  clear z0
  go_wp2_with (go_at_call 41; refine (ha.at 1 w1 v1 m1 hb1 hown1 (by omega)).mono ?_; rintro e w2 ⟨v2, rfl, hown2, hb2⟩; refine Hid.out ?_)
  refine Lib.hid ?_
  clear zz0 zz1
  obtain ⟨m2, hm2⟩ : ∃ x, x = m1 ++ pin 1 a := ⟨_, rfl⟩
  rw [← hm2] at hown2
  have hle2 : m2.length + ((prt b).length + (prt c).length + 2) ≤ 1000 := by rw [hm2]; simp; omega
  have HM2 := Lib.hid hm2
  clear hm2
  go_wp2_with (at_builtin; refine wpList_append_own _ rfl _ _ 81 rfl B 5 i0 (.int .u8 0) 1 1 Tryz.underlying81 hi hz0 hz1 hz2 rfl (by decide) _ _ _ rfl (hown2.alloc _) ⟨w2.heap.size, 0, none⟩ 1 1 [Value.int .u8 63] rfl rfl (by intro j u' hj; match j, hj with | 0, hj => simp at hj; subst hj; simp [Addr.add]) (by intro u' hu'; simp at hu'; subst hu'; rfl) (by unfold maxLen; omega) (by omega) (by have := hb2.size; simp; omega) ?_)
  intro v3 w3 own' grow _
  have hb3 : Below B w0 w3 := (hb2.alloc (by have := hb2.size; omega) _).grown grow (by have := hb2.size; simp; omega) (fun k hk => (hown2.lt k hk).1)
  have hown3 : Own B w3 v3 (m2 ++ [63]) := own_snoc own'
  clear own' grow
  obtain ⟨m3, hm3⟩ : ∃ x, x = m2 ++ [63] := ⟨_, rfl⟩
  rw [← hm3] at hown3
  have hle3 : m3.length + ((prt b).length + (prt c).length + 1) ≤ 1000 := by rw [hm3]; simp; omega
  have HM3 := Lib.hid hm3
  clear hm3
  have zz0 := cp w3 hb3
  have zz1 := cq1 w3 hb3
  go_wp2_with (go_at_call 41; refine (hb.zero w3 v3 m3 hb3 hown3 (by omega)).mono ?_; rintro e w4 ⟨v4, rfl, hown4, hb4⟩; refine Hid.out ?_)
  refine Lib.hid ?_
  clear zz0 zz1
  obtain ⟨m4, hm4⟩ : ∃ x, x = m3 ++ prt b := ⟨_, rfl⟩
  rw [← hm4] at hown4
  have hle4 : m4.length + ((prt c).length + 1) ≤ 1000 := by rw [hm4]; simp; omega
  have HM4 := Lib.hid hm4
  clear hm4
  go_wp2_with (at_builtin; refine wpList_append_own _ rfl _ _ 81 rfl B 5 i0 (.int .u8 0) 1 1 Tryz.underlying81 hi hz0 hz1 hz2 rfl (by decide) _ _ _ rfl (hown4.alloc _) ⟨w4.heap.size, 0, none⟩ 1 1 [Value.int .u8 58] rfl rfl (by intro j u' hj; match j, hj with | 0, hj => simp at hj; subst hj; simp [Addr.add]) (by intro u' hu'; simp at hu'; subst hu'; rfl) (by unfold maxLen; omega) (by omega) (by have := hb4.size; simp; omega) ?_)
  intro v5 w5 own' grow _
  have hb5 : Below B w0 w5 := (hb4.alloc (by have := hb4.size; omega) _).grown grow (by have := hb4.size; simp; omega) (fun k hk => (hown4.lt k hk).1)
  have hown5 : Own B w5 v5 (m4 ++ [58]) := own_snoc own'
  clear own' grow
  obtain ⟨m5, hm5⟩ : ∃ x, x = m4 ++ [58] := ⟨_, rfl⟩
  rw [← hm5] at hown5
  have hle5 : m5.length + ((prt c).length) ≤ 1000 := by rw [hm5]; simp; omega
  have HM5 := Lib.hid hm5
  clear hm5
  have zz0 := cp w5 hb5
  have zz1 := cq2 w5 hb5
  go_wp2_with (go_at_call 41; refine (hc.zero w5 v5 m5 hb5 hown5 (by omega)).mono ?_; rintro e w6 ⟨v6, rfl, hown6, hb6⟩; refine Hid.out ?_)
  refine Lib.hid ?_
  clear zz0 zz1
  obtain ⟨m6, hm6⟩ : ∃ x, x = m5 ++ prt c := ⟨_, rfl⟩
  rw [← hm6] at hown6
  have hle6 : m6.length + (0) ≤ 1000 := by rw [hm6]; simp; omega
  have HM6 := Lib.hid hm6
  clear hm6
  go_wp2_with fail
  go_ret
  refine ⟨v6, rfl, ?_, hb6⟩
  have hfin : m6 = m1 ++ prt (.cond a b c) := by rw [HM6.out, HM5.out, HM4.out, HM3.out, HM2.out, EP.out]; simp
  rw [← hfin]; exact hown6

set_option maxRecDepth 100000 in
set_option maxHeartbeats 2000000 in
theorem dir_neg {B : Nat} {w0 : World} (hB : B = w0.heap.size) {a : Tm} {p q pa : Nat} (ha : AtOK B w0 a pa)
    (h1 : w0.heap[p]? = some (.cells #[.int .u8 126, .int .i64 0, .slice (some ⟨q, 0, none⟩) 1 1] 137)) (h2 : w0.heap[q]? = some (.cells #[.pointer (some ⟨pa, 0, none⟩)] 73)) : DirOK B w0 (.neg a) p := by
  intro w1 v1 m1 k hb1 hown1 hk hlim
  have hk2 : k ≤ 4 := by have e : rk (Tm.neg a).op = 4 := rfl; omega
  have hk' : ¬ (4 : Int) < k := by omega
  obtain ⟨i0, hi, hz0, hz1, hz2⟩ := info_parts infoByte
  have hra : ∀ w, Calls Tryz.prog 77 #[.int .u8 126] w fun e w' => e = .returned (.int .i64 4) ∧ w = w' := fun w => rank_any 126 (by decide) w
  have c0 : w1.cell? ⟨p, 0, none⟩ = some (.int .u8 126) := cellB h1 hB hb1 rfl
  have cp : ∀ w, Below B w0 w → w.cell? ⟨p, 2, none⟩ = some (.slice (some ⟨q, 0, none⟩) 1 1) := fun w hb => cellB h1 hB hb rfl
  have cq0 : ∀ w, Below B w0 w → w.cell? ⟨q, 0, none⟩ = some (.pointer (some ⟨pa, 0, none⟩)) := fun w hb => cellB h2 hB hb rfl
  have x1 := cp w1 hb1
  have x2 := cq0 w1 hb1
  have hBle : B ≤ w0.heap.size := Nat.le_of_eq hB
  have hBw := hb1.size
  have lp : p < w1.heap.size := by have := some_lt h1; omega
  have lq : q < w1.heap.size := by have := some_lt h2; omega
  clear hB h1 h2 hk
  have ep : prt (.neg a) = 45 :: pin 4 a := rfl
  have hle1 : m1.length + ((pin 4 a).length + 1) ≤ 1000 := by rw [ep] at hlim; simp at hlim; omega
  have EP := Lib.hid ep
  clear hlim ep
  go_enter Tryz.func41, Tryz.ntmps41
  go_wp2_with (go_at_call 77; refine (hra _).mono ?_; rintro e w' ⟨rfl, rfl⟩)
  go_region_held3 (fun w' => w'.cell? ⟨p, 2, none⟩ = some (.slice (some ⟨q, 0, none⟩) 1 1) ∧ w'.cell? ⟨q, 0, none⟩ = some (.pointer (some ⟨pa, 0, none⟩))) (first | go_keep | exact ⟨cp _ hb2, cq0 _ hb2⟩)
    (first
      | (refine step_append_own (by rfl) _ _ 81 (by rfl) B 5 i0 (.int .u8 0) 1 1 Tryz.underlying81 hi hz0 hz1 hz2 rfl (by decide) v1 m1.length (Lib.byteCells m1) (by rfl) (own_drew_alloc hown1 _) ⟨w1.heap.size, 0, none⟩ 1 1 [Value.int .u8 45] (by rfl) rfl (by intro j u' hj; match j, hj with | 0, hj => simp at hj; subst hj; simp [Addr.add]) (by intro u' hu'; simp at hu'; subst hu'; rfl) (by unfold maxLen; omega) (by omega) (by simp; omega) ?_; intro v2 w2 own' grow; have hb2 : Below B w0 w2 := ((below_drewN hb1 1).alloc (by show B ≤ w1.heap.size; omega) _).grown grow (by simp; omega) (fun k hk => (hown1.lt k hk).1); have hown2 : Own B w2 v2 (m1 ++ [45]) := own_snoc own'; clear own' grow)
      | (go_at_call 41; refine (ha.at 4 _ v2 (m1 ++ [45]) hb2 hown2 (by simp; omega)).mono ?_; rintro e w3 ⟨v3, rfl, hown3, hb3⟩))
  go_wp2_with fail
  go_ret
  exact ⟨v3, rfl, by rw [EP.out]; simpa using hown3, hb3⟩

/-- Every tree that was read is written so. -/
theorem print_all {B : Nat} {w0 : World} (hB : B = w0.heap.size) (hT : Tb B w0) {lo : Nat} : ∀ (t : Tm) (p : Nat), Tr lo w0 t p → OkT t → AtOK B w0 t p := by
  intro t
  induction t with
  | num v =>
    intro p ht ho
    have h1 := ht.2.2
    exact at_of_dir hB (dir_single (sin_num hB hT ht) (by simp [Tm.op, allOps]) rfl (fun w hb => cellB h1 hB hb rfl)) (by simp [Tm.op, allOps]) (fun w hb => cellB h1 hB hb rfl)
  | vn =>
    intro p ht ho
    have h1 := ht.2
    exact at_of_dir hB (dir_single (sin_vn hB ht) (by simp [Tm.op, allOps]) rfl (fun w hb => cellB h1 hB hb rfl)) (by simp [Tm.op, allOps]) (fun w hb => cellB h1 hB hb rfl)
  | vs =>
    intro p ht ho
    have h1 := ht.2
    exact at_of_dir hB (dir_single (sin_vs hB ht) (by simp [Tm.op, allOps]) rfl (fun w hb => cellB h1 hB hb rfl)) (by simp [Tm.op, allOps]) (fun w hb => cellB h1 hB hb rfl)
  | neg a ih =>
    intro p ht ho
    obtain ⟨_, q, pa, _, h1, h2, h3⟩ := ht
    exact at_of_dir hB (dir_neg hB (ih _ h3 ho) h1 h2) (by simp [Tm.op, allOps]) (fun w hb => cellB h1 hB hb rfl)
  | cond a b c iha ihb ihc =>
    intro p ht ho
    obtain ⟨_, q, pa, pb, pc, _, h1, h2, h3, h4, h5⟩ := ht
    exact at_of_dir hB (dir_cond hB (iha _ h3 ho.1) (ihb _ h4 ho.2.1) (ihc _ h5 ho.2.2) h1 h2) (by simp [Tm.op, allOps]) (fun w hb => cellB h1 hB hb rfl)
  | two op a b iha ihb =>
    intro p ht ho
    obtain ⟨_, q, pa, pb, _, h1, h2, h3, h4⟩ := ht
    have ha := iha _ h3 ho.2.1
    have hb := ihb _ h4 ho.2.2
    have hall : (Tm.two op a b).op ∈ allOps := op_all ho
    have hcell : ∀ w, Below B w0 w → w.cell? ⟨p, 0, none⟩ = some (.int .u8 (Tm.two op a b).op.toNat) := fun w hb => cellB h1 hB hb rfl
    refine at_of_dir hB ?_ hall hcell
    have ho1 := ho.1
    simp only [okOps, List.mem_cons, List.not_mem_nil, or_false] at ho1
    rcases ho1 with rfl | rfl | rfl | rfl | rfl | rfl | rfl | rfl | rfl | rfl
    · exact dir_both1 hB ha hb h1 h2 (by decide) (by decide) rfl
    · exact dir_both1 hB ha hb h1 h2 (by decide) (by decide) rfl
    · exact dir_both1 hB ha hb h1 h2 (by decide) (by decide) rfl
    · exact dir_both2 hB ha hb h1 h2 (by decide) (by decide) rfl
    · exact dir_both2 hB ha hb h1 h2 (by decide) (by decide) rfl
    · exact dir_both3 hB ha hb h1 h2 (by decide) (by decide) rfl
    · exact dir_both3 hB ha hb h1 h2 (by decide) (by decide) rfl
    · exact dir_both3 hB ha hb h1 h2 (by decide) (by decide) rfl
    · exact dir_single (sin_109 hB ha hb h1 h2) hall rfl hcell
    · exact dir_single (sin_77 hB ha hb h1 h2) hall rfl hcell
end Go.Proofs.YtoooninneccfcaaGreatDoor

/- The face Print. -/
namespace Go.Proofs.YtoooninneccfcaaGreatDoor
open Go.RowKit

def TabOK (w : World) : Prop := Lib.TabIs Tryz.prog w "internal/strconv.uint64pow10" .u64 Lib.pow10Tab
theorem TabOK.below {w w' : World} (h : TabOK w) (hb : Below w.heap.size w w') : TabOK w' := ((Lib.tabBelow_of_tabIs h).on hb).here
theorem TabOK.tb {w : World} (h : TabOK w) : Tb w.heap.size w := Lib.tabBelow_of_tabIs h

theorem prt_pos (t : Tm) : 0 < (prt t).length := by
  cases t with
  | num v =>
    have : (Lib.decDigits v).length = Lib.nDigits v := Lib.decDigits_length v
    show 0 < (Lib.decDigits v).length
    rw [this]
    unfold Lib.nDigits
    split <;> omega
  | vn => decide
  | vs => decide
  | neg a => simp [prt]
  | cond a b c => simp [prt]; omega
  | two op a b =>
    simp only [prt]
    repeat' split
    all_goals (simp only [List.length_append, List.length_cons]; omega)

set_option maxRecDepth 100000 in
set_option maxHeartbeats 2000000 in
theorem print_ok' {w : World} {x : ByteArray} {t : Tm} (hr : readP x.data.toList = .ok t []) (hg : Gl w) (hT : TabOK w) :
    Calls Tryz.prog 12 #[.string x] w fun e w' => e = .returned (.tuple #[.string ⟨(prt t).toArray⟩, .nilIface]) ∧ Below w.heap.size w w' := by
  have hl := (read_ok hr).1
  have hsz : x.size ≤ 120 := by simpa using hl
  have hrd := read_any (s := x) hg (by omega)
  rw [hr] at hrd
  have hok := gr_ok (read_ok hr).2.2
  have hlen := (print_ok hr).2
  have hpos := prt_pos t
  clear hr hl
  go_enter Tryz.func12, Tryz.ntmps12
  go_wp2_with (go_at_call 31; refine hrd.mono ?_; rintro e wa ⟨p, rfl, ht, hb⟩; refine Hid.out ?_)
  refine Lib.hid ?_
  have hat := print_all (B := wa.heap.size) rfl ((hT.below hb).tb) t p ht hok
  have hz := hat.zero wa (.slice none 0 0) [] (Below.refl _ _) (World.ownsRow_nil _ _ _ _) (by simp at hlen ⊢; omega)
  rw [List.nil_append] at hz
  clear hat hlen
  obtain ⟨l, hl⟩ : ∃ l, l = prt t := ⟨_, rfl⟩
  rw [← hl] at hz hpos
  have HL := Lib.hid hl
  clear hl
  go_wp2_with (go_at_call 41; refine hz.mono ?_; rintro e wb ⟨vb, rfl, hown, hbb⟩; refine Hid.out ?_)
  refine Lib.hid ?_
  rcases hown.2 with ⟨-, h0⟩ | ⟨g, cap, cur, rfl, -, -, -, -, -, -⟩
  · omega
  · have hcv := run_convert_bytes_back (P := Tryz.prog) wb 81 9 5 ⟨g, 0, none⟩ cap l Tryz.underlying81 Tryz.underlying5 Tryz.underlying9 (fun j hj => hown.cells (g := g) rfl j _ (by simp [Lib.byteCells, hj]))
    go_wp2_with fail
    go_ret2
    have hl := HL.out
    subst hl
    exact ⟨rfl, hb.trans (hbb.mono hb.size)⟩

set_option maxHeartbeats 1000000 in
theorem print_bad {w : World} {x : ByteArray} {pl er : Nat} (hr : readP x.data.toList = .bad pl er) (hg : Gl w) (hmax : x.size ≤ 9223372036854775807) :
    Calls Tryz.prog 12 #[.string x] w fun e w' => e = .returned (.tuple #[.string ⟨#[]⟩, .iface 76 (.int .i64 er)]) ∧ Below w.heap.size w w' := by
  have hrd := read_any (s := x) hg hmax
  rw [hr] at hrd
  clear hr
  go_enter Tryz.func12, Tryz.ntmps12
  go_wp2_with (go_at_call 31; refine hrd.mono ?_; rintro e wa ⟨rfl, hb⟩)
  go_ret2
  exact ⟨rfl, hb⟩
end Go.Proofs.YtoooninneccfcaaGreatDoor
