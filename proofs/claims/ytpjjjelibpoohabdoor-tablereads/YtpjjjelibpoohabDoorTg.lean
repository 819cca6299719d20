/- TableReads's walk. -/
import Derived.Test.YtpjjjelibpoohabDoorErr
import Derived.Test.YtpjjjelibpoohabDoorTe
namespace Go.Proofs.YtpjjjelibpoohabDoor
open Go.RowKit

/-- A byte slice with what it holds. -/
def Bz (u : World) (A : Option Addr) (cap : Nat) (l : List UInt8) : Prop := BsAt u A l ∧ l.length ≤ cap ∧ cap ≤ 9223372036854775807
theorem Bz.keep {u u' : World} {A : Option Addr} {cap : Nat} {l : List UInt8} (h : Bz u A cap l) (hb : Below u.heap.size u u') : Bz u' A cap l := ⟨h.1.keep hb, h.2⟩
theorem own_bz {w : World} {B : Nat} {v : Value} {l : List UInt8} (h : Own B w v l) : ∃ A cap, v = .slice A l.length cap ∧ Bz w A cap l := by
  have hml : maxLen = 9223372036854775807 := rfl
  rcases h.2 with ⟨h0, h1⟩ | ⟨g, cap, cur, h0, hb, hg, hle, hm, hs, ht⟩
  · have e := List.eq_nil_of_length_eq_zero h1
    subst e
    exact ⟨none, 0, h0, .inl rfl, by simp, by omega⟩
  · have h' := h
    rw [h0] at h'
    exact ⟨_, cap, h0, (own_bs h' rfl).1, hle, by omega⟩

theorem build_yes (u : World) (la : Option Addr) (c : Nat) (L : List En) (h : CsAt u la (ecells L)) (hlen : L.length ≤ 9223372036854775807) (hok : ∀ r ∈ L, OkEn r) (hE : entsE L = 0) :
    Calls Tryd.prog 7 #[.slice la L.length c] u fun e u' => ∃ A cap, e = .returned (.tuple #[.slice A (buildB L).length cap, .nilIface]) ∧ Bz u' A cap (buildB L) ∧ Below u.heap.size u u' := by
  refine (build_any u la c L h hlen (fun r hr => by have := hok r hr; exact ⟨by have := this.1; omega, by have := this.2; omega⟩)).mono ?_
  rintro e u' ⟨h1, hb⟩
  rw [if_pos hE] at h1
  obtain ⟨v, rfl, ho⟩ := h1
  obtain ⟨A, cap, rfl, hz⟩ := own_bz ho
  exact ⟨A, cap, rfl, hz, hb⟩
theorem build_no (u : World) (la : Option Addr) (c : Nat) (L : List En) (h : CsAt u la (ecells L)) (hlen : L.length ≤ 9223372036854775807) (hok : ∀ r ∈ L, OkEn r) (hE : ¬ entsE L = 0) :
    Calls Tryd.prog 7 #[.slice la L.length c] u fun e u' => e = .returned (.tuple #[.slice none 0 0, .iface 51 (.int .i64 ((entsE L : Nat) : Int))]) ∧ Below u.heap.size u u' := by
  refine (build_any u la c L h hlen (fun r hr => by have := hok r hr; exact ⟨by have := this.1; omega, by have := this.2; omega⟩)).mono ?_
  rintro e u' ⟨h1, hb⟩
  rw [if_neg hE] at h1
  exact ⟨h1, hb⟩
theorem sents_is (u : World) (la : Option Addr) (c : Nat) (L : List En) (h : CsAt u la (ecells L)) (hlen : L.length ≤ 9223372036854775807) (hok : ∀ r ∈ L, OkEn r) :
    Calls Tryd.prog 6 #[.slice la L.length c] u fun e u' => e = .returned (.int .i64 ((entsE L : Nat) : Int)) ∧ Below u.heap.size u u' :=
  sents_any u la c L h hlen (fun r hr => by have := hok r hr; exact ⟨by have := this.1; omega, by have := this.2; omega⟩)
theorem bld_len {L : List En} (h : entsE L = 0) : (buildB L).length ≤ 140737488355328 := by
  have h1 := lst_len h
  have h2 := num_ten (n := ((lstB enB L).length : Int)) (by omega) (by omega)
  unfold buildB
  rw [seal_len]
  omega
theorem read_yes (u : World) (A : Option Addr) (c : Nat) (L : List En) (hz : Bz u A c (buildB L)) (hE : entsE L = 0) :
    Calls Tryd.prog 9 #[.slice A (buildB L).length c] u fun e u' => ∃ A' c', e = .returned (.tuple #[.slice A' L.length c', .nilIface]) ∧ CsAt u' A' (ecells L) ∧ Below u.heap.size u u' := by
  refine (read_any u A c _ hz.1 (bld_len hE) hz.2.1 hz.2.2).mono ?_
  rintro e u' ⟨h1, hb⟩
  rw [read_build hE] at h1
  obtain ⟨v, rfl, ho⟩ := h1
  obtain ⟨A', c', rfl⟩ := row_slice ho
  exact ⟨A', c', rfl, (own_cs ho (ecells_len L)).1, hb⟩
theorem scan_yes (u : World) (A : Option Addr) (c : Nat) (L : List En) (low high : ByteArray) (hz : Bz u A c (buildB L)) (hE : entsE L = 0) :
    Calls Tryd.prog 12 #[.slice A (buildB L).length c, .string low, .string high] u fun e u' => ∃ A' c', e = .returned (.tuple #[.slice A' (L.filter (inE low high)).length c', .nilIface]) ∧ CsAt u' A' (ecells (L.filter (inE low high))) ∧ Below u.heap.size u u' := by
  refine (scan_any u A c _ low high hz.1 (bld_len hE) hz.2.1 hz.2.2).mono ?_
  rintro e u' ⟨h1, hb⟩
  rw [read_build hE] at h1
  obtain ⟨v, rfl, ho⟩ := h1
  obtain ⟨A', c', rfl⟩ := row_slice ho
  exact ⟨A', c', rfl, (own_cs ho (ecells_len _)).1, hb⟩
theorem part_yes (u : World) (A : Option Addr) (c : Nat) (L : List En) (low high : ByteArray) (hC : CsAt u A (ecells L)) (hE : entsE L = 0) :
    Calls Tryd.prog 13 #[.slice A L.length c, .string low, .string high] u fun e u' => ∃ A' c', e = .returned (.slice A' (L.filter (inE low high)).length c') ∧ CsAt u' A' (ecells (L.filter (inE low high))) ∧ Below u.heap.size u u' := by
  refine (spart_any u A c L low high hC (ents_zero hE).1).mono ?_
  rintro e u' ⟨v, rfl, ho, hb⟩
  obtain ⟨A', c', rfl⟩ := row_slice ho
  exact ⟨A', c', rfl, (own_cs ho (ecells_len _)).1, hb⟩
/-- What the law has found so far. -/
def Fnd (L : List En) (key : List UInt8) (k : Nat) (x : En) (ev : Value) : Prop :=
  (ev = .int .i64 6 ∧ x = ⟨⟨#[]⟩, ⟨#[]⟩, false⟩ ∧ ∀ y ∈ L.take k, kl y ≠ key) ∨ (ev = .int .i64 0 ∧ x ∈ L.take k ∧ kl x = key)
theorem Fnd.same {L : List En} {key : List UInt8} {k : Nat} {x : En} {ev : Value} (h : Fnd L key k x ev) (hk : k < L.length) (hne : kl L[k] ≠ key) : Fnd L key (k + 1) x ev := by
  rcases h with ⟨h1, h2, h3⟩ | ⟨h1, h2, h3⟩
  · refine .inl ⟨h1, h2, fun y hy => ?_⟩
    rw [List.take_succ_eq_append_getElem hk] at hy
    rcases List.mem_append.1 hy with h | h
    · exact h3 y h
    · rw [List.mem_singleton.1 h]; exact hne
  · refine .inr ⟨h1, ?_, h3⟩
    rw [List.take_succ_eq_append_getElem hk]
    exact List.mem_append.2 (.inl h2)
theorem Fnd.hit {L : List En} {key : List UInt8} {k : Nat} (hk : k < L.length) (he : kl L[k] = key) : Fnd L key (k + 1) L[k] (.int .i64 0) := by
  refine .inr ⟨rfl, ?_, he⟩
  rw [List.take_succ_eq_append_getElem hk]
  exact List.mem_append.2 (.inr (List.mem_singleton.2 rfl))
theorem get_fnd (u : World) (A : Option Addr) (c : Nat) (L : List En) (key : ByteArray) (x : En) (ev : Value) (hz : Bz u A c (buildB L)) (hE : entsE L = 0) (hf : Fnd L key.data.toList L.length x ev) :
    Calls Tryd.prog 11 #[.slice A (buildB L).length c, .string key] u fun e u' => ∃ er, e = .returned (.tuple #[.agg #[.string x.key, .string x.val, .bool x.dead], er]) ∧
      (∀ v : World, v.cell? ⟨0, 0, none⟩ = some ET → Calls Tryd.prog 8 #[er, ev] v fun e v' => e = .returned (.bool true) ∧ Below v.heap.size v v') ∧ Below u.heap.size u u' := by
  refine (get_any u A c _ key hz.1 (bld_len hE) hz.2.1 hz.2.2).mono ?_
  rintro e u' ⟨h1, hb⟩
  rw [read_build hE] at h1
  have hris := (ents_zero hE).2.2
  rw [Fnd, List.take_length] at hf
  rcases h1 with ⟨y, hy, hk, rfl⟩ | ⟨hno, rfl⟩
  · rcases hf with ⟨-, -, h3⟩ | ⟨rfl, h2, h3⟩
    · exact absurd hk (h3 y hy)
    · have e := ris_key hris hy h2 (hk.trans h3.symm)
      subst e
      refine ⟨.nilIface, rfl, fun v _ => ?_, hb⟩
      refine (error_nil v).mono ?_
      rintro e v' ⟨rfl, rfl⟩
      exact ⟨rfl, Below.refl _ _⟩
  · rcases hf with ⟨rfl, rfl, -⟩ | ⟨-, h2, h3⟩
    · exact ⟨_, rfl, fun v hv => error_hit 6 v hv, hb⟩
    · exact absurd h3 (hno x h2)
def Wc (w : World) (W : Nat) (x : En) : Prop := w.heap[W]? = some (.cells #[.string x.key, .string x.val, .bool x.dead] 34)
theorem Wc.keep {w w' : World} {W : Nat} {x : En} (h : Wc w W x) (hb : w'.heap[W]? = w.heap[W]?) : Wc w' W x := by unfold Wc; rw [hb]; exact h
theorem Wc.set3 {w : World} {W : Nat} {x : En} (h : Wc w W x) (k v : ByteArray) (d : Bool) : Wc (((w.setCell ⟨W, 0, none⟩ (.string k)).setCell ⟨W, 1, none⟩ (.string v)).setCell ⟨W, 2, none⟩ (.bool d)) W ⟨k, v, d⟩ := by
  unfold Wc at h ⊢; simp [World.setCell, Array.getElem?_modify, h]
theorem key_eq {a b : ByteArray} (h : a.data.toList = b.data.toList) : (a.toList == b.toList) = true := by rw [Lib.toList_data, Lib.toList_data, h]; simp
theorem key_ne {a b : ByteArray} (h : ¬ a.data.toList = b.data.toList) : (a.toList == b.toList) = false := by rw [Lib.toList_data, Lib.toList_data]; simpa using h

set_option maxRecDepth 100000 in
set_option maxHeartbeats 2000000 in
theorem reads_no (w : World) (la : Option Addr) (c : Nat) (L : List En) (key low high : ByteArray)
    (hL : CsAt w la (ecells L)) (hLn : L.length ≤ 9223372036854775807) (hLo : ∀ r ∈ L, OkEn r) (hg : w.cell? ⟨0, 0, none⟩ = some ET) (hr : ¬ entsE L = 0) :
    Calls Tryd.prog 3 #[.slice la L.length c, .string key, .string low, .string high] w fun e w' => e = .returned (.bool true) ∧ Below w.heap.size w w' := by
  have H1 := sents_is w la c L hL hLn hLo
  have H2 := fun (u : World) (hb : Below w.heap.size w u) => build_no u la c L (hL.keep hb) hLn hLo hr
  have hE0 : ¬ ((entsE L : Nat) : Int) = 0 := by omega
  have hE1 : (((entsE L : Nat) : Int) != 0) = true := by simpa using hr
  have kg : ∀ u, Below w.heap.size w u → u.cell? ⟨0, 0, none⟩ = some ET := fun u h => et_below hg h
  generalize ((entsE L : Nat) : Int) = E at *
  clear hL hg
  go_enter Tryd.func3, Tryd.ntmps3
  go_wp2_with (go_at_call 6; refine H1.mono ?_; rintro e u1 ⟨rfl, b1⟩; refine Hid.out ?_)
  refine Lib.hid ?_
  go_wp2_with (go_at_call 7; refine (H2 u1 b1).mono ?_; rintro e u2 ⟨rfl, b2⟩; refine Hid.out ?_)
  refine Lib.hid ?_
  have B2 := b1.trans (b2.mono b1.size)
  go_wp2_with (go_at_call 8; refine (error_hit E u2 (kg u2 B2)).mono ?_; rintro e u3 ⟨rfl, b3⟩; refine Hid.out ?_)
  refine Lib.hid ?_
  have B3 := B2.trans (b3.mono B2.size)
  clear H1 H2
  go_wp2_with fail
  go_ret
  exact ⟨rfl, B3⟩

set_option maxRecDepth 100000 in
set_option maxHeartbeats 4000000 in
theorem reads_yes (w : World) (la : Option Addr) (c : Nat) (L : List En) (key low high : ByteArray)
    (hL : CsAt w la (ecells L)) (hLn : L.length ≤ 9223372036854775807) (hLo : ∀ r ∈ L, OkEn r) (hg : w.cell? ⟨0, 0, none⟩ = some ET) (hr : entsE L = 0) :
    Calls Tryd.prog 3 #[.slice la L.length c, .string key, .string low, .string high] w fun e w' => e = .returned (.bool true) ∧ Below w.heap.size w w' := by
  have H1 := sents_is w la c L hL hLn hLo
  rw [hr] at H1
  have kL : ∀ u, Below w.heap.size w u → CsAt u la (ecells L) := fun u h => hL.keep h
  have kg : ∀ u, Below w.heap.size w u → u.cell? ⟨0, 0, none⟩ = some ET := fun u h => et_below hg h
  have hl4 := (ents_zero hr).1
  have hfl : (L.filter (inE low high)).length ≤ 9223372036854775807 := by have := List.length_filter_le (inE low high) L; omega
  have HBu := Lib.hid (fun (u : World) (hb : Below w.heap.size w u) => build_yes u la c L (kL u hb) hLn hLo hr)
  have HRe := Lib.hid (fun (u : World) A c' (hz : Bz u A c' (buildB L)) => read_yes u A c' L hz hr)
  have HSc := Lib.hid (fun (u : World) A c' (hz : Bz u A c' (buildB L)) => scan_yes u A c' L low high hz hr)
  have HPa := Lib.hid (fun (u : World) (hb : Below w.heap.size w u) => part_yes u la c L low high (kL u hb) hr)
  have HGe := Lib.hid (fun (u : World) A c' x ev (hz : Bz u A c' (buildB L)) (hf : Fnd L key.data.toList L.length x ev) => get_fnd u A c' L key x ev hz hr hf)
  have HL := Lib.hid kL
  have HG := Lib.hid kg
  generalize hBl : buildB L = Bl at *
  clear hL hg hr hBl hLo kL kg
  go_enter Tryd.func3, Tryd.ntmps3
  go_wp2_with (go_at_call 6; refine H1.mono ?_; rintro e u1 ⟨rfl, b1⟩; refine Hid.out ?_)
  refine Lib.hid ?_
  go_wp2_with (go_at_call 7; refine (HBu.out u1 b1).mono ?_; rintro e u2 ⟨A2, c2, rfl, z2, b2⟩; refine Hid.out ?_)
  refine Lib.hid ?_
  have B2 := b1.trans (b2.mono b1.size)
  clear H1 HBu b1 b2
  go_wp2_with (go_at_call 8; refine (error_nil u2).mono ?_; rintro e u ⟨rfl, rfl⟩; refine Hid.out ?_)
  refine Lib.hid ?_
  go_wp2_with (go_at_call 9; refine (HRe.out u2 A2 c2 z2).mono ?_; rintro e u3 ⟨A3, c3, rfl, s3, b3⟩; refine Hid.out ?_)
  refine Lib.hid ?_
  have B3 := B2.trans (b3.mono B2.size)
  have z3 := z2.keep b3
  clear HRe z2 b3 B2
  go_wp2_with (go_at_call 10; refine (sameEns_any u3 A3 la c3 c L s3 (HL.out u3 B3) hLn).mono ?_; rintro e u4 ⟨rfl, b4⟩; refine Hid.out ?_)
  refine Lib.hid ?_
  have B4 := B3.trans (b4.mono B3.size)
  have z4 := z3.keep b4
  clear z3 b4 B3 s3
  have C5 := new_block u4 (.cells #[.string ⟨#[]⟩, .string ⟨#[]⟩, .bool false] 34)
  have hw4 := B4.size
  have hs5 : (u4.alloc (.cells #[.string ⟨#[]⟩, .string ⟨#[]⟩, .bool false] 34)).heap.size = u4.heap.size + 1 := by simp
  have B5 := B4.alloc hw4 (.cells #[.string ⟨#[]⟩, .string ⟨#[]⟩, .bool false] 34)
  obtain ⟨W, hW⟩ : ∃ W, W = u4.heap.size := ⟨_, rfl⟩
  have z5 : Bz (u4.alloc (.cells #[.string ⟨#[]⟩, .string ⟨#[]⟩, .bool false] 34)) A2 c2 Bl := z4.keep ((Below.refl _ _).alloc (Nat.le_refl _) _)
  have zlt : ∀ a, A2 = some a → Bl ≠ [] → a.block ≠ W := fun a ha hne => by
    obtain ⟨b, o, h1, h2⟩ := z4.1.lt hne
    rw [h1] at ha; simp at ha; subst ha; simp; omega
  have zlt5 : ∀ a, A2 = some a → Bl ≠ [] → a.block < (u4.alloc (.cells #[.string ⟨#[]⟩, .string ⟨#[]⟩, .bool false] 34)).heap.size := fun a ha hne => by
    obtain ⟨b, o, h1, h2⟩ := z5.1.lt hne
    rw [h1] at ha; simp at ha; subst ha; exact h2
  have hwW : w.heap.size ≤ W := by omega
  have hW5 : W < (u4.alloc (.cells #[.string ⟨#[]⟩, .string ⟨#[]⟩, .bool false] 34)).heap.size := by omega
  have h5w : w.heap.size ≤ (u4.alloc (.cells #[.string ⟨#[]⟩, .string ⟨#[]⟩, .bool false] 34)).heap.size := by omega
  go_wp2_with fail
  rw [← hW] at C5 ⊢
  clear hW hs5 hw4 z4 B4
  generalize u4.alloc (.cells #[.string ⟨#[]⟩, .string ⟨#[]⟩, .bool false] 34) = u5 at *
  have HZ := Lib.hid (fun (u : World) (f : Fr [W] u5 u) => show Bz u A2 c2 Bl from ⟨z5.1.blocks (fun a ha hne => f.block a.block (zlt5 a ha hne) (by simpa using zlt a ha hne)), z5.2⟩)
  have HB := Lib.hid (fun (u : World) (f : Fr [W] u5 u) => B5.trans (f.toBelow h5w (by simpa using hwW)))
  clear z5 zlt zlt5 B5
  go_loopw [9, 16] (fun ev iv wr => ∃ (k : Nat) (x : En), k ≤ L.length ∧ iv = .int .i64 k ∧ Fnd L key.data.toList k x ev ∧ Wc wr W x ∧ Fr [W] u5 wr) (fun _ iv _ => L.length - (intOf iv).toNat)
  case atStart => exact ⟨0, ⟨⟨#[]⟩, ⟨#[]⟩, false⟩, by omega, rfl, .inl ⟨rfl, rfl, by simp⟩, C5, Fr.refl _ _⟩
  case round =>
    obtain ⟨k, x, hk, rfl, hf, hx, f5⟩ := hrel
    clear C5
    by_cases hlt : k < L.length
    · obtain ⟨b, o, rfl, c0, c1, c2'⟩ := ens_at (HL.out wr (HB.out wr f5)) k hlt
      by_cases he : kl L[k] = key.data.toList
      · have HF := Lib.hid (Fnd.hit hlt he)
        have hke := key_eq (a := L[k].key) (b := key) he
        clear he hf
        generalize L[k] = r at *
        obtain ⟨key', val, dead⟩ := r
        obtain ⟨xk, xv, xd⟩ := x
        simp only at c0 c1 c2' hke
        have g0 : wr.cell? ⟨W, 0, none⟩ = some (.string xk) := by unfold Wc at hx; simp [World.cell?, hx]
        have g1 : wr.cell? ⟨W, 1, none⟩ = some (.string xv) := by unfold Wc at hx; simp [World.cell?, hx]
        have g2 : wr.cell? ⟨W, 2, none⟩ = some (.bool xd) := by unfold Wc at hx; simp [World.cell?, hx]
        have gf : ∀ o, wr.frozen? ⟨W, o, none⟩ = false := fun o => by unfold Wc at hx; simp [World.frozen?, hx]
        go_wp2_with fail
        go_roundw
        case rel => exact ⟨k + 1, ⟨key', val, dead⟩, by omega, by go_num, HF.out, hx.set3 _ _ _, ((f5.setCell (.inl (by simp)) _).setCell (.inl (by simp)) _).setCell (.inl (by simp)) _⟩
        case measure => simp [intOf]; omega
      · have HF := Lib.hid (hf.same hlt he)
        have hke := key_ne (a := L[k].key) (b := key) he
        clear he hf
        generalize L[k] = r at *
        obtain ⟨key', val, dead⟩ := r
        simp only at c0 c1 c2' hke
        go_wp2_with fail
        go_roundw
        case rel => exact ⟨k + 1, x, by omega, by go_num, HF.out, hx, f5⟩
        case measure => simp [intOf]; omega
    · have ek : k = L.length := by omega
      subst ek
      have z6 := HZ.out wr f5
      have B6 := HB.out wr f5
      have hW6 : W < wr.heap.size := some_lt hx
      have HGt := HGe.out wr A2 c2 x _ z6 hf
      obtain ⟨xk, xv, xd⟩ := x
      clear HZ HB f5 hf HGe
      simp only at HGt
      go_wp2_with (go_at_call 11; refine HGt.mono ?_; rintro e u7 ⟨er, rfl, her, b7⟩; refine Hid.out ?_)
      refine Lib.hid ?_
      have hx7 : Wc u7 W ⟨xk, xv, xd⟩ := hx.keep (b7.block _ hW6)
      have B7 := B6.trans (b7.mono B6.size)
      have z7 := z6.keep b7
      have hW7 : W < u7.heap.size := Nat.lt_of_lt_of_le hW6 b7.size
      have HEr := Lib.hid her
      clear HGt hx b7 z6 B6 her
      have C8 := new_block u7 (.cells #[.string xk, .string xv, .bool xd] 34)
      have hx8 : Wc (u7.alloc (.cells #[.string xk, .string xv, .bool xd] 34)) W ⟨xk, xv, xd⟩ := hx7.keep (Below.heap_alloc _ _ _ hW7)
      have B8 := B7.alloc B7.size (.cells #[.string xk, .string xv, .bool xd] 34)
      have z8 := z7.keep ((Below.refl _ _).alloc (Nat.le_refl _) (.cells #[.string xk, .string xv, .bool xd] 34))
      have s8 : (u7.alloc (.cells #[.string xk, .string xv, .bool xd] 34)).heap.size = u7.heap.size + 1 := by simp
      have HE8 := HEr.out (u7.alloc (.cells #[.string xk, .string xv, .bool xd] 34)) (HG.out _ B8)
      clear HEr hx7 z7 B7
      go_wp2_with (go_at_call 8; refine HE8.mono ?_; rintro e u9 ⟨rfl, b9⟩; refine Hid.out ?_)
      refine Lib.hid ?_
      have hx9 := hx8.keep (b9.block _ (by omega))
      have C9 : u9.heap[u7.heap.size]? = some (.cells #[.string xk, .string xv, .bool xd] 34) := by rw [b9.block _ (by omega)]; exact C8
      have B9 := B8.trans (b9.mono B8.size)
      have z9 := z8.keep b9
      have s9 : u7.heap.size + 1 ≤ u9.heap.size := by have := b9.size; omega
      clear HE8 hx8 C8 B8 z8 b9
      go_wp2_with (go_at_call 12; refine (HSc.out u9 A2 c2 z9).mono ?_; rintro e u10 ⟨A10, c10, rfl, t10, b10⟩; refine Hid.out ?_)
      refine Lib.hid ?_
      have hx10 := hx9.keep (b10.block _ (by omega))
      have C10 : u10.heap[u7.heap.size]? = some (.cells #[.string xk, .string xv, .bool xd] 34) := by rw [b10.block _ (by omega)]; exact C9
      have B10 := B9.trans (b10.mono B9.size)
      have s10 : u7.heap.size + 1 ≤ u10.heap.size := by have := b10.size; omega
      clear HSc hx9 C9 B9 z9 b10
      go_wp2_with (go_at_call 13; refine (HPa.out u10 B10).mono ?_; rintro e u11 ⟨A11, c11, rfl, t11, b11⟩; refine Hid.out ?_)
      refine Lib.hid ?_
      have hx11 := hx10.keep (b11.block _ (by omega))
      have C11 : u11.heap[u7.heap.size]? = some (.cells #[.string xk, .string xv, .bool xd] 34) := by rw [b11.block _ (by omega)]; exact C10
      have B11 := B10.trans (b11.mono B10.size)
      have s11 : u7.heap.size + 1 ≤ u11.heap.size := by have := b11.size; omega
      have t10' := t10.keep b11
      clear HPa hx10 C10 B10 b11 t10
      go_wp2_with (go_at_call 10; refine (sameEns_any u11 A10 A11 c10 c11 _ t10' t11 hfl).mono ?_; rintro e u12 ⟨rfl, b12⟩; refine Hid.out ?_)
      refine Lib.hid ?_
      have hx12 := hx11.keep (b12.block _ (by omega))
      have C12 : u12.heap[u7.heap.size]? = some (.cells #[.string xk, .string xv, .bool xd] 34) := by rw [b12.block _ (by omega)]; exact C11
      have B12 := B11.trans (b12.mono B11.size)
      have g0 : u12.cell? ⟨W, 0, none⟩ = some (.string xk) := by unfold Wc at hx12; simp [World.cell?, hx12]
      have g1 : u12.cell? ⟨W, 1, none⟩ = some (.string xv) := by unfold Wc at hx12; simp [World.cell?, hx12]
      have g2 : u12.cell? ⟨W, 2, none⟩ = some (.bool xd) := by unfold Wc at hx12; simp [World.cell?, hx12]
      have j0 : u12.cell? ⟨u7.heap.size, 0, none⟩ = some (.string xk) := by simp [World.cell?, C12]
      have j1 : u12.cell? ⟨u7.heap.size, 1, none⟩ = some (.string xv) := by simp [World.cell?, C12]
      have j2 : u12.cell? ⟨u7.heap.size, 2, none⟩ = some (.bool xd) := by simp [World.cell?, C12]
      clear hx11 C11 B11 b12 t10' t11
      go_wp2_with fail
      go_ret
      exact ⟨rfl, B12⟩
end Go.Proofs.YtpjjjelibpoohabDoor
