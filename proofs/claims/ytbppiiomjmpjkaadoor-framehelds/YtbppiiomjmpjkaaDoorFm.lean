/- Records written and read. -/
import Derived.Test.YtbppiiomjmpjkaaDoorFl
import Derived.Deep.RegionWith
namespace Go.Proofs.YtbppiiomjmpjkaaDoor
open Go.RowKit

theorem allB_snoc {α : Type} (f : α → List UInt8) (l : List α) (k : Nat) (h : k < l.length) : allB f (l.take (k + 1)) = allB f (l.take k) ++ f l[k] := by
  rw [List.take_succ_eq_append_getElem h, allB_append]; simp [allB]
theorem rcB_le {r : Rc} (h : OkRc r) (hk : r.key.size ≤ 40) : (rcB r).length ≤ 70 := by
  have h1 := num_ten (n := (r.key.size : Int)) (by omega) (by omega)
  have h2 := num_ten h.2.1.1 h.2.1.2
  have h3 := num_ten h.2.2.1 h.2.2.2
  have h4 := kB_len r.key
  unfold rcB
  simp only [List.length_append]
  omega
theorem allB_le {α : Type} (f : α → List UInt8) (m : Nat) : ∀ (l : List α), (∀ x ∈ l, (f x).length ≤ m) → (allB f l).length ≤ l.length * m
  | [], _ => by simp [allB]
  | x :: l, h => by
    have h1 := h x (by simp)
    have h2 := allB_le f m l (fun y hy => h y (by simp [hy]))
    simp only [allB, List.length_append, List.length_cons, Nat.add_mul]
    omega
theorem ok_key {L : List Rc} (h : recsE L = 0) : L.length ≤ 400 ∧ ∀ r ∈ L, r.key.size ≤ 40 := by
  unfold recsE at h
  split at h
  · cases h
  · split at h
    · cases h
    · rename_i h1 h2
      refine ⟨by omega, fun r hr => ?_⟩
      have : badRc r = false := by
        cases hb : badRc r with
        | false => rfl
        | true => exact absurd (List.any_eq_true.2 ⟨r, hr, hb⟩) h2
      simp [badRc] at this
      omega

/-- How Records and Helds end. -/
def WrEnd (w : World) (E : Nat) (l : List UInt8) (e : Ending) (w' : World) : Prop :=
  (if E = 0 then ∃ v, e = .returned (.tuple #[v, .nilIface]) ∧ Own w.heap.size w' v l else e = .returned (.tuple #[.slice none 0 0, .iface 58 (.int .i64 E)])) ∧ Below w.heap.size w w'

set_option maxRecDepth 100000 in
set_option maxHeartbeats 1000000 in
theorem records_any (w : World) (la : Option Addr) (c : Nat) (L : List Rc) (h : CsAt w la (rcells L)) (hlen : L.length ≤ 9223372036854775807) (hok : ∀ r ∈ L, OkRc r) :
    Calls Tryd.prog 6 #[.slice la L.length c] w fun e w' => WrEnd w (recsE L) (lstB rcB L) e w' := by
  have HC := checkRecs_any w la c L h hlen (fun r hr => by have := (hok r hr).1; omega)
  cases hE : recsE L with
  | succ n =>
    rw [hE] at HC
    rw [show errV (n + 1) = .iface 58 (.int .i64 ((n + 1 : Nat) : Int)) from rfl] at HC
    have HP : Hid (∀ w', Below w.heap.size w w' → WrEnd w (n + 1) (lstB rcB L) (.returned (.tuple #[.slice none 0 0, .iface 58 (.int .i64 ((n + 1 : Nat) : Int))])) w') := Lib.hid (fun w' hb => ⟨by rw [if_neg (by omega)], hb⟩)
    generalize ((n + 1 : Nat) : Int) = z at HC HP
    clear h hE
    go_enter Tryd.func6, Tryd.ntmps6
    go_wp2_with (go_at_call 21; refine HC.mono ?_; rintro e w1 ⟨rfl, b1⟩)
    go_ret2
    exact HP.out _ b1
  | zero =>
    rw [hE] at HC
    obtain ⟨hl4, hk40⟩ := ok_key hE
    have hsz := fun k => allB_le rcB 70 (L.take k) (fun r hr => rcB_le (hok r (List.mem_of_mem_take hr)) (hk40 r (List.mem_of_mem_take hr)))
    have hten := num_ten (n := (L.length : Int)) (by omega) (by omega)
    have HN := fun (u : World) => num_any u (L.length : Int) ⟨by omega, by omega⟩
    have HP : Hid (∀ v w', Own w.heap.size w' v (lstB rcB L) → Below w.heap.size w w' → WrEnd w 0 (lstB rcB L) (.returned (.tuple #[v, .nilIface])) w') := Lib.hid (fun v w' ho hb => ⟨by rw [if_pos rfl]; exact ⟨v, rfl, ho⟩, hb⟩)
    rw [show errV 0 = .nilIface from rfl] at HC
    clear hE
    obtain ⟨B, hB⟩ : ∃ B, B = w.heap.size := ⟨_, rfl⟩
    have hB' : B ≤ w.heap.size := by omega
    have hkeep : ∀ w', Below B w w' → CsAt w' la (rcells L) := fun w' hb => h.keep (by rw [← hB]; exact hb)
    rw [← hB] at HC HP
    have hown0 : ∀ (u u' : World) (v : Value) (l : List UInt8), B ≤ u.heap.size → Own u.heap.size u' v l → Own B u' v l := fun u u' v l hu h => ⟨h.1, h.2.imp id fun ⟨g, cap, cur, h0, h1, h2⟩ => ⟨g, cap, cur, h0, Nat.le_trans hu h1, h2⟩⟩
    clear hB h
    go_enter Tryd.func6, Tryd.ntmps6
    go_wp2_with (go_at_call 21; refine HC.mono ?_; rintro e w1 ⟨rfl, b1⟩; refine Hid.out ?_)
    refine Lib.hid ?_
    have hz1 : B ≤ w1.heap.size := by have := b1.size; omega
    go_wp2_with (go_at_call 22; refine (HN w1).mono ?_; rintro e w2 ⟨v2, rfl, o2, b2⟩; refine Hid.out ?_)
    refine Lib.hid ?_
    have o2' := hown0 _ _ _ _ hz1 o2
    have b2' := b1.trans (b2.mono hz1)
    clear HC HN o2 b1 b2
    go_wp2_with fail
    go_loopw [5, 18] (fun v i wr => ∃ k : Nat, k ≤ L.length ∧ i = .int .i64 k ∧ Own B wr v (numB L.length ++ allB rcB (L.take k)) ∧ Below B w wr) (fun _ i _ => L.length - (intOf i).toNat)
    case atStart => exact ⟨0, by omega, rfl, by simpa [allB] using o2', b2'⟩
    case round =>
      obtain ⟨k, hk, rfl, hown, hb⟩ := hrel
      by_cases hlt : k < L.length
      · obtain ⟨b, o, rfl, c0, c1, c2⟩ := rcs_at (hkeep _ hb) k hlt
        have hsn := allB_snoc rcB L k hlt
        have hok1 := hok _ (List.getElem_mem hlt)
        have hk1 := hk40 _ (List.getElem_mem hlt)
        have hszk := hsz k
        have htl : (L.take k).length ≤ 400 := by simp; omega
        have hszk' : (allB rcB (L.take k)).length ≤ 28000 := Nat.le_trans hszk (by omega)
        generalize L[k] = r at *
        obtain ⟨key, num, time⟩ := r
        obtain ⟨ok1, ok2, ok3⟩ := hok1
        simp only [rcB] at c0 c1 c2 hsn hk1 ok1 ok2 ok3
        generalize allB rcB (L.take k) = q at *
        have hBz := hb.size
        have hBr : B ≤ wr.heap.size := by omega
        have hql : (numB L.length ++ q).length ≤ 28010 := by simp; omega
        have hkl := kB_len key
        have hkt := num_ten (n := (key.size : Int)) (by omega) (by omega)
        have hnt := num_ten ok2.1 ok2.2
        generalize hl0 : numB L.length ++ q = l0 at *
        have HL0 := Lib.hid hl0
        clear hl0
        have HT := withText_kp B (wr.alloc (.cells #[.string key, .int .i64 num, .int .i64 time] 53)) _ l0 key (hown.alloc _) (by simp; omega) (by omega)
        have HN1 := fun (u : World) (v : Value) (ho : Own B u v (l0 ++ kB key)) (hu : B ≤ u.heap.size) => withNum_kp B u v (l0 ++ kB key) num ok2 ho hu (by simp; omega)
        have HN2 := fun (u : World) (v : Value) (ho : Own B u v (l0 ++ kB key ++ numB num)) (hu : B ≤ u.heap.size) => withNum_kp B u v (l0 ++ kB key ++ numB num) time ok3 ho hu (by simp; omega)
        have C0 : (wr.alloc (.cells #[.string key, .int .i64 num, .int .i64 time] 53)).heap[wr.heap.size]? = some (.cells #[.string key, .int .i64 num, .int .i64 time] 53) := by
          show (wr.heap.push _)[wr.heap.size]? = _; simp
        have hty : ∀ cur, Obj.cells #[.string key, .int .i64 num, .int .i64 time] 53 ≠ .cells cur 5 (0, 0) := by
          intro cur h; injection h with h1 h2; exact absurd h2 (by decide)
        have bA : Below B w (wr.alloc (.cells #[.string key, .int .i64 num, .int .i64 time] 53)) := hb.alloc hBr _
        have HSN := Lib.hid hsn
        clear hsn hsz hok hk40 hkeep hown hB'
        go_wp2_with (go_at_call 23; refine HT.mono ?_; rintro e u1 ⟨v1, rfl, o1, b1, k1⟩; refine Hid.out ?_)
        refine Lib.hid ?_
        have C1 := k1 _ _ C0 hty
        have g1 : u1.cell? ⟨wr.heap.size, 1, none⟩ = some (.int .i64 num) := by simp [World.cell?, C1]
        have z1 : B ≤ u1.heap.size := by have := b1.size; simp at this; omega
        have bB := bA.trans b1
        clear b1 k1 C0 HT
        go_wp2_with (go_at_call 24; refine (HN1 _ _ o1 z1).mono ?_; rintro e u2 ⟨v2, rfl, o2, b2, k2⟩; refine Hid.out ?_)
        refine Lib.hid ?_
        have C2 := k2 _ _ C1 hty
        have g2 : u2.cell? ⟨wr.heap.size, 2, none⟩ = some (.int .i64 time) := by simp [World.cell?, C2]
        have z2 : B ≤ u2.heap.size := by have := b2.size; omega
        have bC := bB.trans b2
        clear b2 k2 C1 HN1 o1
        go_wp2_with (go_at_call 24; refine (HN2 _ _ o2 z2).mono ?_; rintro e u3 ⟨v3, rfl, o3, b3, k3⟩; refine Hid.out ?_)
        refine Lib.hid ?_
        have bD := bC.trans b3
        clear b3 k3 C2 HN2 o2
        go_wp2_with fail
        go_roundw
        case rel => exact ⟨k + 1, by omega, by go_num, by rw [HSN.out]; rw [← HL0.out] at o3; simpa using o3, bD⟩
        case measure => simp [intOf]; omega
      · have e : L.take k = L := List.take_of_length_le (by omega)
        rw [e] at hown
        go_wp2_with fail
        go_ret2
        exact HP.out _ _ hown hb
end Go.Proofs.YtbppiiomjmpjkaaDoor
