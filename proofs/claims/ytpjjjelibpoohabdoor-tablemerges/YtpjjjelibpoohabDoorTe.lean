/- The document's side of entries; a key found in a table. -/
import Derived.Test.YtpjjjelibpoohabDoorTd
import Derived.Test.YtpjjjelibpoohabDoorShelf
namespace Go.Proofs.YtpjjjelibpoohabDoor
open Go.RowKit
open Go.Lib (compareBytes)

set_option maxRecDepth 100000 in
set_option maxHeartbeats 2000000 in
theorem sents_any (w : World) (la : Option Addr) (c : Nat) (L : List En) (h : CsAt w la (ecells L)) (hlen : L.length ≤ 9223372036854775807) (hks : ∀ r ∈ L, r.key.size ≤ 9223372036854775807 ∧ r.val.size ≤ 9223372036854775807) :
    Calls Tryd.prog 6 #[.slice la L.length c] w fun e w' => e = .returned (.int .i64 (entsE L)) ∧ Below w.heap.size w w' := by
  obtain ⟨E, hE⟩ : ∃ E, E = entsE L := ⟨_, rfl⟩
  rw [← hE]
  have HE := Lib.hid hE
  clear hE
  by_cases hmany : 400 < L.length
  · have hm' : (400 : Int) < L.length := by omega
    have e4 : E = 4 := by rw [HE.out]; unfold entsE; rw [if_pos hmany]
    subst e4
    go_enter Tryd.func6, Tryd.ntmps6
    go_wp2_with fail
    go_ret
    exact ⟨rfl, Below.refl _ _⟩
  · have hm' : ¬ (400 : Int) < L.length := by omega
    have e4 : E = entsG (pvK L 0) (L.drop 0) := by rw [HE.out]; unfold entsE; rw [if_neg hmany]; rfl
    clear HE
    go_enter Tryd.func6, Tryd.ntmps6
    go_wp2_with fail
    go_loopw [3] (fun i wr => ∃ k : Nat, k ≤ L.length ∧ i = .int .i64 k ∧ E = entsG (pvK L k) (L.drop k) ∧ Below w.heap.size w wr) (fun i _ => L.length - (intOf i).toNat)
    case atStart => exact ⟨0, by omega, rfl, e4, Below.refl _ _⟩
    case round =>
      obtain ⟨k, hk, rfl, hno, hb⟩ := hrel
      clear e4
      by_cases hlt : k < L.length
      · obtain ⟨b, o, rfl, c0, c1, c2⟩ := ens_at (h.keep hb) k hlt
        have hbd : badEn L[k] = (decide (120 < L[k].key.size) || decide (120 < L[k].val.size)) := rfl
        have hsd : shapeE L[k] = (L[k].dead && decide (L[k].val.size ≠ 0)) := rfl
        have hkk := hks _ (List.getElem_mem hlt)
        have hBz := hb.size
        rw [ents_step hlt] at hno
        have hlow : ∀ e, lowK (pvK L k) e = lowK (pvK L k) e := fun _ => rfl
        generalize hr : L[k] = r at *
        obtain ⟨key, val, dead⟩ := r
        simp only at c0 c1 c2 hbd hsd hkk
        have HB1 := hb
        cases hbb : badEn ⟨key, val, dead⟩ with
        | true =>
          rw [hbb] at hbd hno
          have e1 : E = 1 := by simpa using hno
          subst e1
          have hor : (120 : Int) < (key.size : Nat) ∨ (120 : Int) < (val.size : Nat) := by
            simp at hbd; omega
          clear hbd hno hsd hlow hr
          by_cases h1 : (120 : Int) < (key.size : Nat)
          · go_wp2_with fail
            go_ret
            exact ⟨rfl, HB1⟩
          · have h2 : (120 : Int) < (val.size : Nat) := by omega
            go_wp2_with fail
            go_ret
            exact ⟨rfl, HB1⟩
        | false =>
          rw [hbb] at hbd hno
          have h1 : ¬ (120 : Int) < (key.size : Nat) := by simp at hbd; omega
          have h2 : ¬ (120 : Int) < (val.size : Nat) := by simp at hbd; omega
          simp only [Bool.false_eq_true, if_false] at hno
          clear hbd hbb
          have hsplit : (shapeE ⟨key, val, dead⟩ = true ∧ dead = true ∧ ¬ val = ⟨#[]⟩) ∨ (shapeE ⟨key, val, dead⟩ = false ∧ dead = false) ∨ (shapeE ⟨key, val, dead⟩ = false ∧ dead = true ∧ val = ⟨#[]⟩) := by
            cases dead with
            | false => exact .inr (.inl ⟨by rw [hsd]; rfl, rfl⟩)
            | true =>
              by_cases hv : val = ⟨#[]⟩
              · refine .inr (.inr ⟨?_, rfl, hv⟩); rw [hsd, hv]; rfl
              · refine .inl ⟨?_, rfl, hv⟩
                rw [hsd]
                simp only [Bool.true_and, decide_eq_true_eq]
                exact fun e => hv (size_nil e)
          clear hsd
          have HNo := Lib.hid hno
          clear hno
          rcases hsplit with ⟨hs, rfl, hv⟩ | hgo
          · have e3 : E = 3 := by have := HNo.out; rw [hs] at this; simpa using this
            subst e3
            have hve := empty_no hv
            go_wp2_with fail
            go_ret
            exact ⟨rfl, HB1⟩
          · have hs : shapeE ⟨key, val, dead⟩ = false := by rcases hgo with h | h <;> exact h.1
            have hno : E = if lowK (pvK L k) ⟨key, val, dead⟩ = true then 5 else entsG (pvK L (k + 1)) (L.drop (k + 1)) := by have := HNo.out; rw [hs] at this; simpa using this
            clear HNo hs hlow
            cases k with
            | zero =>
              rw [low_zero] at hno
              have HN := Lib.hid (show E = entsG (pvK L 1) (L.drop 1) by simpa using hno)
              clear hno hr
              simp only [Nat.zero_mul, Nat.add_zero] at c0 c1 c2
              rcases hgo with ⟨-, rfl⟩ | ⟨-, rfl, rfl⟩
              all_goals
                go_wp2_with fail
                go_quiet (fail)
                go_wp2_with fail
                go_roundw
                case rel => exact ⟨1, by omega, by go_num, HN.out, ⟨HB1.os, HB1.tape, HB1.output, HB1.size, HB1.block⟩⟩
                case measure => simp [intOf]; omega
            | succ k =>
              have hlt0 : k < L.length := by omega
              obtain ⟨b', o', hbo, d0, d1, d2⟩ := ens_at (h.keep hb) k hlt0
              simp only [Option.some.injEq, Addr.mk.injEq, and_true] at hbo
              obtain ⟨rfl, rfl⟩ := hbo
              rw [low_next hlt0] at hno
              have HN := Lib.hid hno
              clear hno hr d1 d2
              generalize hr' : L[k] = r' at *
              obtain ⟨key', val', dead'⟩ := r'
              simp only at d0
              have hbl : b < wr.heap.size := cell_lt d0
              have hk1 : (0 : Int) < ((k + 1 : Nat) : Int) := by omega
              have hi0 : (0 : Int) ≤ (k : Int) := by omega
              have hi1 : (k : Int) < (L.length : Int) := by omega
              have hi2 : (k : Int) ≤ (L.length : Int) := by omega
              have hi5 : IntKind.i64.wrap (k : Int) = (k : Int) := by simp [IntKind.wrap, IntKind.bits, IntKind.signed]; omega
              have hi4 : (k : Int) + 1 ≤ 400 := by omega
              by_cases hl : key'.data.toList < key.data.toList
              · have hlB := less_yes hl
                have HN' := Lib.hid (show E = entsG (pvK L (k + 2)) (L.drop (k + 2)) by have := HN.out; simpa [kl, hl] using this)
                clear HN hr'
                rcases hgo with ⟨-, rfl⟩ | ⟨-, rfl, rfl⟩
                all_goals
                  go_wp2_with fail
                  go_quiet (fail)
                  go_wp2_with fail
                  go_roundw
                  case rel => exact ⟨k + 2, by omega, by go_num, HN'.out, ⟨HB1.os, HB1.tape, HB1.output, HB1.size, HB1.block⟩⟩
                  case measure => simp [intOf]; omega
              · have hlB := less_no hl
                have e5 : E = 5 := by have := HN.out; simpa [kl, hl] using this
                subst e5
                clear HN hr'
                rcases hgo with ⟨-, rfl⟩ | ⟨-, rfl, rfl⟩
                all_goals
                  go_wp2_with fail
                  go_quiet (fail)
                  go_wp2_with fail
                  go_ret
                  exact ⟨rfl, ⟨HB1.os, HB1.tape, HB1.output, HB1.size, HB1.block⟩⟩
      · have e0 : E = 0 := by rw [hno]; exact ents_end (by omega) _
        subst e0
        go_wp2_with fail
        go_ret
        exact ⟨rfl, hb⟩

theorem cmp_lt : ∀ (a b : List UInt8), compareBytes a b < 0 ↔ a < b
  | [], [] => by simp [compareBytes]
  | [], y :: b => by simp [compareBytes]
  | x :: a, [] => by simp [compareBytes]
  | x :: a, y :: b => by
    unfold compareBytes
    rw [List.cons_lt_cons_iff]
    by_cases h1 : x < y
    · simp [h1]
    · by_cases h2 : y < x
      · have hne : x ≠ y := fun e => by subst e; exact h1 h2
        simp [h1, h2, hne]
      · have he : x = y := by
          have a1 : ¬ x.toNat < y.toNat := h1
          have a2 : ¬ y.toNat < x.toNat := h2
          exact UInt8.toNat_inj.1 (by omega)
        simp [he, cmp_lt a b]
theorem cmp_eq : ∀ (a b : List UInt8), compareBytes a b = 0 ↔ a = b
  | [], [] => by simp [compareBytes]
  | [], y :: b => by simp [compareBytes]
  | x :: a, [] => by simp [compareBytes]
  | x :: a, y :: b => by
    unfold compareBytes
    by_cases h1 : x < y
    · have hne : x ≠ y := fun e => by subst e; exact UInt8.lt_irrefl x h1
      simp [h1, hne]
    · by_cases h2 : y < x
      · have hne : x ≠ y := fun e => by subst e; exact h1 h2
        simp [h1, h2, hne]
      · have he : x = y := by
          have a1 : ¬ x.toNat < y.toNat := h1
          have a2 : ¬ y.toNat < x.toNat := h2
          exact UInt8.toNat_inj.1 (by omega)
        simp [he, cmp_eq a b]
theorem against_any (e : En) (k : ByteArray) (w : World) : Calls Tryd.prog 28 #[enV e, .string k] w fun r w' => r = .returned (.int .i64 (compareBytes (kl e) k.data.toList)) ∧ Below w.heap.size w w' := by
  obtain ⟨key, val, dead⟩ := e
  simp only [enV, kl]
  have HB := (Below.refl w.heap.size w).alloc (Nat.le_refl _) (.cells #[.string key, .string val, .bool dead] 34)
  have HC := fun u => Tryd.strings_Compare key k u
  go_enter Tryd.func28, Tryd.ntmps28
  go_wp2_with (go_at_call 35; refine (HC _).mono ?_; rintro r w' ⟨rfl, rfl⟩)
  go_ret
  exact ⟨rfl, HB⟩

/-- How the search ends. -/
def BsEnd (w : World) (L : List En) (key : ByteArray) (e : Ending) (w' : World) : Prop := (∃ (i : Nat) (f : Bool), e = .returned (.tuple #[.int .i64 i, .bool f]) ∧ (f = true → ∃ hi : i < L.length, kl L[i] = key.data.toList) ∧ (f = false → ∀ e ∈ L, kl e ≠ key.data.toList)) ∧ Below w.heap.size w w'
set_option maxRecDepth 100000 in
set_option maxHeartbeats 2000000 in
theorem bsearch_any (w : World) (la : Option Addr) (c : Nat) (L : List En) (key : ByteArray) (h : CsAt w la (ecells L)) (h4 : L.length ≤ 400) (hris : Ris L) :
    Calls Tryd.prog 27 #[.slice la L.length c, .string key, .func (.func 28) #[] #[]] w fun e w' => BsEnd w L key e w' := by
  have HA := fun (u : World) (e : En) => against_any e key u
  have hle := List.pairwise_iff_getElem.1 hris
  go_enter Tryd.func27, Tryd.ntmps27
  go_wp2_with fail
  go_loopw [9, 10] (fun i j wr => ∃ a b : Nat, a ≤ b ∧ b ≤ L.length ∧ i = .int .i64 a ∧ j = .int .i64 b ∧ (∀ x (hx : x < L.length), x < a → kl L[x] < key.data.toList) ∧ (∀ x (hx : x < L.length), b ≤ x → ¬ kl L[x] < key.data.toList) ∧ Below w.heap.size w wr) (fun i j _ => (intOf j).toNat - (intOf i).toNat)
  case atStart => exact ⟨0, L.length, by omega, by omega, rfl, rfl, by omega, by omega, Below.refl _ _⟩
  case round =>
    obtain ⟨a, b, hab, hbl, rfl, rfl, hlo, hhi, hb⟩ := hrel
    have hBz := hb.size
    by_cases hlt : a < b
    · have hlt' : (a : Int) < b := by omega
      have hm : (a + b) / 2 < L.length := by omega
      obtain ⟨bl, o, rfl, c0, c1, c2⟩ := ens_at (h.keep hb) ((a + b) / 2) hm
      have HC := HA wr L[(a + b) / 2]
      have Hlo := Lib.hid hlo
      have Hhi := Lib.hid hhi
      have Hle := Lib.hid hle
      clear hlo hhi hle
      have hk1 := cmp_lt (kl L[(a + b) / 2]) key.data.toList
      have HK := Lib.hid hk1
      simp only [enV] at HC
      generalize compareBytes (kl L[(a + b) / 2]) key.data.toList = z at *
      clear HA hris hk1
      by_cases hz : z < 0
      · go_wp2_with (go_at_call 28; refine HC.mono ?_; rintro e w1 ⟨rfl, b1⟩)
        go_roundw
        case rel =>
          refine ⟨(a + b) / 2 + 1, b, by omega, hbl, by first | rfl | go_num, rfl, fun x hx hxa => ?_, Hhi.out, hb.trans (b1.mono hBz)⟩
          rcases Nat.lt_or_ge x ((a + b) / 2) with h1 | h1
          · exact kl_trans (Hle.out x _ hx hm h1) (HK.out.1 hz)
          · have e : x = (a + b) / 2 := by omega
            subst e; exact HK.out.1 hz
        case measure => simp [intOf]; omega
      · go_wp2_with (go_at_call 28; refine HC.mono ?_; rintro e w1 ⟨rfl, b1⟩)
        go_roundw
        case rel =>
          refine ⟨a, (a + b) / 2, by omega, by omega, rfl, by first | rfl | go_num, Hlo.out, fun x hx hxa hlx => ?_, hb.trans (b1.mono hBz)⟩
          rcases Nat.lt_or_ge ((a + b) / 2) x with h1 | h1
          · exact absurd (HK.out.2 (kl_trans (Hle.out _ x hm hx h1) hlx)) (by omega)
          · have e : x = (a + b) / 2 := by omega
            subst e; exact absurd (HK.out.2 hlx) (by omega)
        case measure => simp [intOf]; omega
    · have e : a = b := by omega
      subst e
      have Hlo := Lib.hid hlo
      have Hhi := Lib.hid hhi
      have Hle := Lib.hid hle
      clear hlo hhi hle
      by_cases hal : a < L.length
      · obtain ⟨bl, o, rfl, c0, c1, c2⟩ := ens_at (h.keep hb) a hal
        have HC := HA wr L[a]
        have HK := Lib.hid (cmp_eq (kl L[a]) key.data.toList)
        simp only [enV] at HC
        generalize compareBytes (kl L[a]) key.data.toList = z at *
        have hal' : (a : Int) < L.length := by omega
        have hnone : z ≠ 0 → ∀ e ∈ L, kl e ≠ key.data.toList := by
          intro hz e he hk
          obtain ⟨x, hx, rfl⟩ := List.getElem_of_mem he
          rcases Nat.lt_trichotomy x a with h1 | h1 | h1
          · have := Hlo.out x hx h1; rw [hk] at this; exact kl_irrefl _ this
          · subst h1; exact hz (HK.out.2 hk)
          · have h2 := Hle.out a x hal hx h1
            rw [hk] at h2
            exact Hhi.out a hal (Nat.le_refl _) h2
        have HN := Lib.hid hnone
        clear HA hris hnone
        by_cases hz : z = 0
        · subst hz
          go_wp2_with (go_at_call 28; refine HC.mono ?_; rintro e w1 ⟨rfl, b1⟩)
          go_ret2
          exact ⟨⟨a, true, rfl, fun _ => ⟨hal, HK.out.1 (by first | rfl | trivial)⟩, fun h => by cases h⟩, hb.trans (b1.mono hBz)⟩
        · have hzb : (z == 0) = false := by simpa using hz
          go_wp2_with (go_at_call 28; refine HC.mono ?_; rintro e w1 ⟨rfl, b1⟩)
          go_ret2
          exact ⟨⟨a, false, by first | rfl | (rw [hzb]), (fun h => by cases h), fun _ => HN.out hz⟩, hb.trans (b1.mono hBz)⟩
      · have hal' : ¬ (a : Int) < L.length := by omega
        have hnone : ∀ e ∈ L, kl e ≠ key.data.toList := by
          intro e he hk
          obtain ⟨x, hx, rfl⟩ := List.getElem_of_mem he
          have := Hlo.out x hx (by omega); rw [hk] at this; exact kl_irrefl _ this
        have HN := Lib.hid hnone
        clear HA hris hnone
        go_wp2_with fail
        go_ret2
        exact ⟨⟨a, false, rfl, (fun h => by cases h), fun _ => HN.out⟩, hb⟩

def enZ : Value := .agg #[.string ⟨#[]⟩, .string ⟨#[]⟩, .bool false]
/-- How Get ends. -/
def GtEnd (w : World) (r : Option (List En)) (key : List UInt8) (e : Ending) (w' : World) : Prop :=
  (match r with
   | none => e = .returned (.tuple #[enZ, .iface 51 (.int .i64 9)])
   | some xs => (∃ x ∈ xs, kl x = key ∧ e = .returned (.tuple #[enV x, .nilIface])) ∨ ((∀ x ∈ xs, kl x ≠ key) ∧ e = .returned (.tuple #[enZ, .iface 51 (.int .i64 6)]))) ∧ Below w.heap.size w w'
set_option maxRecDepth 100000 in
set_option maxHeartbeats 2000000 in
theorem get_any (w : World) (p : Option Addr) (c : Nat) (l : List UInt8) (key : ByteArray) (hl : BsAt w p l) (hlen : l.length ≤ 140737488355328) (hcap : l.length ≤ c) (hcm : c ≤ 9223372036854775807) :
    Calls Tryd.prog 11 #[.slice p l.length c, .string key] w fun e w' => GtEnd w (readTb l) key.data.toList e w' := by
  have C0 := new_block w (.cells #[.string ⟨#[]⟩, .string ⟨#[]⟩, .bool false] 34)
  have hA := (Below.refl w.heap.size w).alloc (Nat.le_refl _) (.cells #[.string ⟨#[]⟩, .string ⟨#[]⟩, .bool false] 34)
  have HR := read_any (w.alloc (.cells #[.string ⟨#[]⟩, .string ⟨#[]⟩, .bool false] 34)) p c l (hl.keep hA) hlen hcap hcm
  have hsA : (w.alloc (.cells #[.string ⟨#[]⟩, .string ⟨#[]⟩, .bool false] 34)).heap.size = w.heap.size + 1 := by simp
  clear hl
  cases hr : readTb l with
  | none =>
    rw [hr] at HR
    simp only [RtEnd] at HR
    clear hr
    go_enter Tryd.func11, Tryd.ntmps11
    go_wp2_with (go_at_call 9; refine HR.mono ?_; rintro e w1 ⟨rfl, b1⟩; refine Hid.out ?_)
    refine Lib.hid ?_
    have C1 : w1.heap[w.heap.size]? = some (.cells #[.string ⟨#[]⟩, .string ⟨#[]⟩, .bool false] 34) := by rw [b1.block _ (by omega)]; exact C0
    have g0 : w1.cell? ⟨w.heap.size, 0, none⟩ = some (.string ⟨#[]⟩) := by simp [World.cell?, C1]
    have g1 : w1.cell? ⟨w.heap.size, 1, none⟩ = some (.string ⟨#[]⟩) := by simp [World.cell?, C1]
    have g2 : w1.cell? ⟨w.heap.size, 2, none⟩ = some (.bool false) := by simp [World.cell?, C1]
    have gf : ∀ o, w1.frozen? ⟨w.heap.size, o, none⟩ = false := fun o => by simp [World.frozen?, C1]
    have B1 := hA.trans (b1.mono (by omega))
    clear HR b1 hA C0 C1
    go_wp2_with fail
    refine bodyPost_ret (by simp [results, Tryd.results11, go_sem, g0, g1, g2]; rfl) rfl ?_
    exact ⟨rfl, ((B1.setCell (by simp) _).setCell (by simp) _).setCell (by simp) _⟩
  | some xs =>
    rw [hr] at HR
    obtain ⟨hx4, -, hris⟩ := ents_zero (readTb_some hr).1
    simp only [RtEnd] at HR
    clear hr
    go_enter Tryd.func11, Tryd.ntmps11
    go_wp2_with (go_at_call 9; refine HR.mono ?_; rintro e w1 ⟨⟨v1, rfl, own1⟩, b1⟩; obtain ⟨A1, c1, rfl⟩ := row_slice own1; refine Hid.out ?_)
    refine Lib.hid ?_
    have C1 : w1.heap[w.heap.size]? = some (.cells #[.string ⟨#[]⟩, .string ⟨#[]⟩, .bool false] 34) := by rw [b1.block _ (by omega)]; exact C0
    have hC := (own_cs own1 (ecells_len xs)).1
    have HBS := bsearch_any w1 A1 c1 xs key hC hx4 hris
    have B1 := hA.trans (b1.mono (by omega))
    have z1 : w.heap.size + 1 ≤ w1.heap.size := by have := b1.size; omega
    clear HR hA C0 own1 b1
    go_wp2_with (go_at_call 27; refine HBS.mono ?_; rintro e w2 ⟨⟨i, f, rfl, hyes, hno⟩, b2⟩; refine Hid.out ?_)
    refine Lib.hid ?_
    have C2 : w2.heap[w.heap.size]? = some (.cells #[.string ⟨#[]⟩, .string ⟨#[]⟩, .bool false] 34) := by rw [b2.block _ (by omega)]; exact C1
    have g0 : w2.cell? ⟨w.heap.size, 0, none⟩ = some (.string ⟨#[]⟩) := by simp [World.cell?, C2]
    have g1 : w2.cell? ⟨w.heap.size, 1, none⟩ = some (.string ⟨#[]⟩) := by simp [World.cell?, C2]
    have g2 : w2.cell? ⟨w.heap.size, 2, none⟩ = some (.bool false) := by simp [World.cell?, C2]
    have gf : ∀ o, w2.frozen? ⟨w.heap.size, o, none⟩ = false := fun o => by simp [World.frozen?, C2]
    have hC2 := hC.keep b2
    have B2 := B1.trans (b2.mono (by omega))
    clear HBS hC B1 b2 C1 C2
    cases f with
    | false =>
      have HN := Lib.hid (hno rfl)
      clear hno hyes
      go_wp2_with fail
      refine bodyPost_ret (by simp [results, Tryd.results11, go_sem, g0, g1, g2]; rfl) rfl ?_
      exact ⟨.inr ⟨HN.out, rfl⟩, ((B2.setCell (by simp) _).setCell (by simp) _).setCell (by simp) _⟩
    | true =>
      obtain ⟨hi, hk⟩ := hyes rfl
      clear hno hyes
      obtain ⟨b, o, rfl, c0, c1', c2⟩ := ens_at hC2 i hi
      have HM := Lib.hid (List.getElem_mem hi)
      have hi' : (i : Int) < xs.length := by omega
      have HKk := Lib.hid hk
      clear hk
      generalize xs[i] = r at *
      obtain ⟨key', val, dead⟩ := r
      simp only at c0 c1' c2
      go_wp2_with fail
      refine bodyPost_ret (by simp [results, Tryd.results11, go_sem, g0, g1, g2]; rfl) rfl ?_
      exact ⟨.inl ⟨_, HM.out, HKk.out, rfl⟩, ((B2.setCell (by simp) _).setCell (by simp) _).setCell (by simp) _⟩
end Go.Proofs.YtpjjjelibpoohabDoor
