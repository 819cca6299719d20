/- States written and read; two lists of states that are the same. -/
import Derived.Test.YtiofpimchbhfcabFq
namespace Go.Proofs.Ytiofpimchbhfcab
open Go.RowKit

theorem hdB_le {r : Hd} (h : OkHd r) (hk : r.key.size ≤ 40) : (hdB r).length ≤ 80 := by
  have h1 := num_ten (n := (r.key.size : Int)) (by omega) (by omega)
  have h0 := num_ten h.1.1 h.1.2
  have h2 := num_ten h.2.2.1.1 h.2.2.1.2
  have h3 := num_ten h.2.2.2.1 h.2.2.2.2
  have h4 := kB_len r.key
  unfold hdB
  simp only [List.length_append]
  omega
theorem hdsE_key : ∀ (L : List Hd) (p : Option Hd), hdsE ltH p L = 0 → ∀ r ∈ L, r.key.size ≤ 40
  | [], _, _, r, hr => by cases hr
  | x :: L, p, h, r, hr => by
    have key : badHd x = false ∧ hdsE ltH (some x) L = 0 := by
      cases p with
      | none =>
        rw [hdsE_n] at h
        cases hb : badHd x with
        | true => rw [hb] at h; cases h
        | false => rw [hb] at h; exact ⟨rfl, h⟩
      | some q =>
        rw [hdsE_s] at h
        cases hb : badHd x with
        | true => rw [hb] at h; cases h
        | false =>
          rw [hb] at h
          simp only [Bool.false_eq_true, if_false] at h
          split at h
          · cases h
          · exact ⟨rfl, h⟩
    rcases List.mem_cons.1 hr with rfl | hr
    · have := key.1
      simp [badHd] at this
      omega
    · exact hdsE_key L (some x) key.2 r hr
theorem ok_hkey {L : List Hd} (h : heldsE ltH L = 0) : L.length ≤ 400 ∧ ∀ r ∈ L, r.key.size ≤ 40 := by
  unfold heldsE at h
  split at h
  · cases h
  · exact ⟨by omega, hdsE_key L none h⟩
set_option maxRecDepth 100000 in
set_option maxHeartbeats 1000000 in
theorem helds_any (w : World) (la : Option Addr) (c : Nat) (L : List Hd) (h : CsAt w la (hcells L)) (hlen : L.length ≤ 9223372036854775807) (hok : ∀ r ∈ L, OkHd r) :
    Calls Try.prog 25 #[.slice la L.length c] w fun e w' => WrEnd w (heldsE ltH L) (lstB hdB L) e w' := by
  have HC := checkHds_any w la c L h hlen (fun r hr => by have := (hok r hr).2.1; omega)
  cases hE : heldsE ltH L with
  | succ n =>
    rw [hE] at HC
    rw [show errV (n + 1) = .iface 54 (.int .i64 ((n + 1 : Nat) : Int)) from rfl] at HC
    have HP : Hid (∀ w', Below w.heap.size w w' → WrEnd w (n + 1) (lstB hdB L) (.returned (.tuple #[.slice none 0 0, .iface 54 (.int .i64 ((n + 1 : Nat) : Int))])) w') := Lib.hid (fun w' hb => ⟨by rw [if_neg (by omega)], hb⟩)
    generalize ((n + 1 : Nat) : Int) = z at HC HP
    clear h hE
    go_enter Try.func25, Try.ntmps25
    go_wp2_with (go_at_call 32; refine HC.mono ?_; rintro e w1 ⟨rfl, b1⟩)
    go_ret2
    exact HP.out _ b1
  | zero =>
    rw [hE] at HC
    obtain ⟨hl4, hk40⟩ := ok_hkey hE
    have hsz := fun k => allB_le hdB 80 (L.take k) (fun r hr => hdB_le (hok r (List.mem_of_mem_take hr)) (hk40 r (List.mem_of_mem_take hr)))
    have hten := num_ten (n := (L.length : Int)) (by omega) (by omega)
    have HN := fun (u : World) => num_any u (L.length : Int) ⟨by omega, by omega⟩
    have HP : Hid (∀ v w', Own w.heap.size w' v (lstB hdB L) → Below w.heap.size w w' → WrEnd w 0 (lstB hdB L) (.returned (.tuple #[v, .nilIface])) w') := Lib.hid (fun v w' ho hb => ⟨by rw [if_pos rfl]; exact ⟨v, rfl, ho⟩, hb⟩)
    rw [show errV 0 = .nilIface from rfl] at HC
    clear hE
    obtain ⟨B, hB⟩ : ∃ B, B = w.heap.size := ⟨_, rfl⟩
    have hB' : B ≤ w.heap.size := by omega
    have hkeep : ∀ w', Below B w w' → CsAt w' la (hcells L) := fun w' hb => h.keep (by rw [← hB]; exact hb)
    rw [← hB] at HC HP
    have hown0 : ∀ (u u' : World) (v : Value) (l : List UInt8), B ≤ u.heap.size → Own u.heap.size u' v l → Own B u' v l := fun u u' v l hu h => ⟨h.1, h.2.imp id fun ⟨g, cap, cur, h0, h1, h2⟩ => ⟨g, cap, cur, h0, Nat.le_trans hu h1, h2⟩⟩
    clear hB h
    go_enter Try.func25, Try.ntmps25
    go_wp2_with (go_at_call 32; refine HC.mono ?_; rintro e w1 ⟨rfl, b1⟩; refine Hid.out ?_)
    refine Lib.hid ?_
    have hz1 : B ≤ w1.heap.size := by have := b1.size; omega
    go_wp2_with (go_at_call 33; refine (HN w1).mono ?_; rintro e w2 ⟨v2, rfl, o2, b2⟩; refine Hid.out ?_)
    refine Lib.hid ?_
    have o2' := hown0 _ _ _ _ hz1 o2
    have b2' := b1.trans (b2.mono hz1)
    clear HC HN o2 b1 b2
    go_wp2_with fail
    go_loopw [5, 18] (fun v i wr => ∃ k : Nat, k ≤ L.length ∧ i = .int .i64 k ∧ Own B wr v (numB L.length ++ allB hdB (L.take k)) ∧ Below B w wr) (fun _ i _ => L.length - (intOf i).toNat)
    case atStart => exact ⟨0, by omega, rfl, by simpa [allB] using o2', b2'⟩
    case round =>
      obtain ⟨k, hk, rfl, hown, hb⟩ := hrel
      by_cases hlt : k < L.length
      · obtain ⟨b, o, rfl, c0, c1, c2, c3⟩ := hds_at (hkeep _ hb) k hlt
        have hsn := allB_snoc hdB L k hlt
        have hok1 := hok _ (List.getElem_mem hlt)
        have hk1 := hk40 _ (List.getElem_mem hlt)
        have hszk := hsz k
        have htl : (L.take k).length ≤ 400 := by simp; omega
        have hszk' : (allB hdB (L.take k)).length ≤ 32000 := Nat.le_trans hszk (by omega)
        generalize L[k] = r at *
        obtain ⟨nd, key, a, bv⟩ := r
        obtain ⟨ok0, ok1, ok2, ok3⟩ := hok1
        simp only [hdB] at c0 c1 c2 c3 hsn hk1 ok0 ok1 ok2 ok3
        generalize allB hdB (L.take k) = q at *
        have hBz := hb.size
        have hBr : B ≤ wr.heap.size := by omega
        have hql : (numB L.length ++ q).length ≤ 32010 := by simp; omega
        have hkl := kB_len key
        have hkt := num_ten (n := (key.size : Int)) (by omega) (by omega)
        have hnt := num_ten ok2.1 ok2.2
        generalize hl0 : numB L.length ++ q = l0 at *
        have HL0 := Lib.hid hl0
        clear hl0
        have hdt := num_ten ok0.1 ok0.2
        have HN0 := withNum_kp B (wr.alloc (.cells #[.int .i64 nd, .string key, .int .i64 a, .int .i64 bv] 29)) _ l0 nd ok0 (hown.alloc _) (by simp; omega) (by omega)
        have HT := fun (u : World) (v : Value) (ho : Own B u v (l0 ++ numB nd)) (hu : B ≤ u.heap.size) => withText_kp B u v (l0 ++ numB nd) key ho hu (by simp; omega)
        have HN1 := fun (u : World) (v : Value) (ho : Own B u v (l0 ++ numB nd ++ kB key)) (hu : B ≤ u.heap.size) => withNum_kp B u v (l0 ++ numB nd ++ kB key) a ok2 ho hu (by simp; omega)
        have HN2 := fun (u : World) (v : Value) (ho : Own B u v (l0 ++ numB nd ++ kB key ++ numB a)) (hu : B ≤ u.heap.size) => withNum_kp B u v (l0 ++ numB nd ++ kB key ++ numB a) bv ok3 ho hu (by simp; omega)
        have C0 : (wr.alloc (.cells #[.int .i64 nd, .string key, .int .i64 a, .int .i64 bv] 29)).heap[wr.heap.size]? = some (.cells #[.int .i64 nd, .string key, .int .i64 a, .int .i64 bv] 29) := by
          show (wr.heap.push _)[wr.heap.size]? = _; simp
        have hty : ∀ cur, Obj.cells #[.int .i64 nd, .string key, .int .i64 a, .int .i64 bv] 29 ≠ .cells cur 5 (0, 0) := by
          intro cur h; injection h with h1 h2; exact absurd h2 (by decide)
        have bA : Below B w (wr.alloc (.cells #[.int .i64 nd, .string key, .int .i64 a, .int .i64 bv] 29)) := hb.alloc hBr _
        have HSN := Lib.hid hsn
        clear hsn hsz hok hk40 hkeep hown hB'
        go_wp2_with (go_at_call 34; refine HN0.mono ?_; rintro e u0 ⟨v0, rfl, o0, b0, k0⟩; refine Hid.out ?_)
        refine Lib.hid ?_
        have C1 := k0 _ _ C0 hty
        have g0 : u0.cell? ⟨wr.heap.size, 1, none⟩ = some (.string key) := by simp [World.cell?, C1]
        have z0 : B ≤ u0.heap.size := by have := b0.size; simp at this; omega
        have bB := bA.trans b0
        clear b0 k0 C0
        go_wp2_with (go_at_call 35; refine (HT _ _ o0 z0).mono ?_; rintro e u1 ⟨v1, rfl, o1, b1, k1⟩; refine Hid.out ?_)
        refine Lib.hid ?_
        have C2 := k1 _ _ C1 hty
        have g1 : u1.cell? ⟨wr.heap.size, 2, none⟩ = some (.int .i64 a) := by simp [World.cell?, C2]
        have z1 : B ≤ u1.heap.size := by have := b1.size; omega
        have bC := bB.trans b1
        clear b1 k1 C1
        go_wp2_with (go_at_call 34; refine (HN1 _ _ o1 z1).mono ?_; rintro e u2 ⟨v2, rfl, o2, b2, k2⟩; refine Hid.out ?_)
        refine Lib.hid ?_
        have C3 := k2 _ _ C2 hty
        have g2 : u2.cell? ⟨wr.heap.size, 3, none⟩ = some (.int .i64 bv) := by simp [World.cell?, C3]
        have z2 : B ≤ u2.heap.size := by have := b2.size; omega
        have bD := bC.trans b2
        clear b2 k2 C2
        go_wp2_with (go_at_call 34; refine (HN2 _ _ o2 z2).mono ?_; rintro e u3 ⟨v3, rfl, o3, b3, k3⟩; refine Hid.out ?_)
        refine Lib.hid ?_
        have C4 := k3 _ _ C3 hty
        have z3 : B ≤ u3.heap.size := by have := b3.size; omega
        have bE := bD.trans b3
        clear b3 k3 C3
        go_wp2_with fail
        go_roundw
        case rel => exact ⟨k + 1, by omega, by go_num, by rw [HSN.out]; rw [← HL0.out] at o3; simpa using o3, bE⟩
        case measure => simp [intOf]; omega
      · have e : L.take k = L := List.take_of_length_le (by omega)
        rw [e] at hown
        go_wp2_with fail
        go_ret2
        exact HP.out _ _ hown hb
end Go.Proofs.Ytiofpimchbhfcab
