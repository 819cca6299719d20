/- Calls of Eval and Check where the text's reading is known; what division leaves. -/
import Derived.Test.YtdegibjfcjkgdabDoorLaid
namespace Go.Proofs.YtdegibjfcjkgdabDoor
open Go.RowKit

theorem wf_bd {a : Int} (h : (Lit.int .i64 a).wf = true) : -9223372036854775808 ≤ a ∧ a ≤ 9223372036854775807 := by
  simpa [Lit.wf, IntKind.min, IntKind.max, IntKind.signed, IntKind.bits] using h

theorem eval_ok {w : World} {x : ByteArray} {t : Tm} (hr : readP x.data.toList = .ok t []) (hg : Gl w) (n s : Int) :
    Calls Tryd.prog 8 #[.string x, .int .i64 n, .int .i64 s] w fun e w' => e = .returned (.tuple #[.int .i64 (ev n s t), .nilIface]) ∧ Below w.heap.size w w' := by
  have hl := (read_ok hr).1
  have hs : x.size ≤ 120 := by simpa using hl
  have h := eval_any (x := x) hg (by omega) n s
  unfold evP at h
  rw [hr] at h
  exact h
theorem eval_bad {w : World} {x : ByteArray} {pl er : Nat} (hr : readP x.data.toList = .bad pl er) (hg : Gl w) (hmax : x.size ≤ 9223372036854775807) (n s : Int) :
    Calls Tryd.prog 8 #[.string x, .int .i64 n, .int .i64 s] w fun e w' => e = .returned (.tuple #[.int .i64 0, .iface 39 (.int .i64 er)]) ∧ Below w.heap.size w w' := by
  have h := eval_any (x := x) hg hmax n s
  unfold evP at h
  rw [hr] at h
  exact h
theorem check_ok {w : World} {x : ByteArray} {t : Tm} (hr : readP x.data.toList = .ok t []) (hg : Gl w) :
    Calls Tryd.prog 9 #[.string x] w fun e w' => e = .returned (.tuple #[.int .i64 0, .nilIface]) ∧ Below w.heap.size w w' := by
  have hl := (read_ok hr).1
  have hs : x.size ≤ 120 := by simpa using hl
  have h := check_any (x := x) hg (by omega)
  unfold ckP at h
  rw [hr] at h
  exact h
theorem check_bad {w : World} {x : ByteArray} {pl er : Nat} (hr : readP x.data.toList = .bad pl er) (hg : Gl w) (hmax : x.size ≤ 9223372036854775807) :
    Calls Tryd.prog 9 #[.string x] w fun e w' => ∃ k : Int, e = .returned (.tuple #[.int .i64 k, .iface 39 (.int .i64 er)]) ∧ Below w.heap.size w w' := by
  have h := check_any (x := x) hg hmax
  unfold ckP at h
  rw [hr] at h
  exact h.mono fun e w' ⟨h1, h2⟩ => ⟨_, h1, h2⟩

theorem wr_id {x : Int} (h1 : -9223372036854775808 ≤ x) (h2 : x ≤ 9223372036854775807) : wr x = x := by unfold wr; omega
theorem wr_mul (a b c : Int) : wr (wr (wr a * b) + c) = wr (a * b + c) := by
  have h : ∃ k, wr a = a + 18446744073709551616 * k := ⟨-((a + 9223372036854775808) / 18446744073709551616), by unfold wr; omega⟩
  obtain ⟨k, hk⟩ := h
  have e : wr a * b = a * b + 18446744073709551616 * (k * b) := by rw [hk, Int.add_mul, Int.mul_assoc]
  rw [e]
  generalize a * b = p
  generalize k * b = q
  unfold wr; omega
theorem div_back {n s : Int} (h1 : -9223372036854775808 ≤ n) (h2 : n ≤ 9223372036854775807) : wr (wr (wr (n.tdiv s) * s) + n.tmod s) = n := by
  rw [wr_mul]
  have : n.tdiv s * s + n.tmod s = n := by rw [Int.mul_comm]; exact Int.mul_tdiv_add_tmod n s
  rw [this]; exact wr_id h1 h2
theorem tmod_sign (n s : Int) : n.tmod s = 0 ∨ (n.tmod s < 0 ↔ n < 0) := by
  rcases (show n < 0 ∨ 0 ≤ n by omega) with h | h
  · have h1 : 0 ≤ (-n).tmod s := Int.tmod_nonneg s (by omega)
    rw [Int.neg_tmod] at h1
    by_cases h0 : n.tmod s = 0
    · exact .inl h0
    · exact .inr ⟨fun _ => h, fun _ => by omega⟩
  · have h1 : 0 ≤ n.tmod s := Int.tmod_nonneg s h
    exact .inr ⟨fun h2 => by omega, fun h2 => by omega⟩

theorem rd_div : readP [110, 47, 115] = .ok (.two 47 .vn .vs) [] :=
  read_of (by decide) ((Gr.mul (a := [110]) (b := [115]) 47 (by decide) ((Gr.vn 20).down 3 (by omega) (by omega)) ((Gr.vs 20).down 4 (by omega) (by omega))).down 0 (by omega) (by omega))
theorem rd_mod : readP [110, 37, 115] = .ok (.two 37 .vn .vs) [] :=
  read_of (by decide) ((Gr.mul (a := [110]) (b := [115]) 37 (by decide) ((Gr.vn 20).down 3 (by omega) (by omega)) ((Gr.vs 20).down 4 (by omega) (by omega))).down 0 (by omega) (by omega))
theorem rd_back : readP [110, 47, 115, 42, 115, 43, 110, 37, 115] = .ok (.two 43 (.two 42 (.two 47 .vn .vs) .vs) (.two 37 .vn .vs)) [] :=
  read_of (by decide) ((Gr.add (a := [110, 47, 115, 42, 115]) (b := [110, 37, 115]) 43 (by decide)
    ((Gr.mul (a := [110, 47, 115]) (b := [115]) 42 (by decide) (Gr.mul (a := [110]) (b := [115]) 47 (by decide) ((Gr.vn 20).down 3 (by omega) (by omega)) ((Gr.vs 20).down 4 (by omega) (by omega))) ((Gr.vs 20).down 4 (by omega) (by omega))).down 2 (by omega) (by omega))
    (Gr.mul (a := [110]) (b := [115]) 37 (by decide) ((Gr.vn 20).down 3 (by omega) (by omega)) ((Gr.vs 20).down 4 (by omega) (by omega)))).down 0 (by omega) (by omega))
end Go.Proofs.YtdegibjfcjkgdabDoor
