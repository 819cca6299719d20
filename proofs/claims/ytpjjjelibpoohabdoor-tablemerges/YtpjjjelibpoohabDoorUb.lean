/- Any tables put together: what stays, what comes of it. -/
import Derived.Test.YtpjjjelibpoohabDoorUa
import Derived.Test.YtpjjjelibpoohabDoorTv
import Derived.Test.YtpjjjelibpoohabDoorTy
namespace Go.Proofs.YtpjjjelibpoohabDoor
open Go.RowKit
set_option linter.unusedVariables false

/-- Where a row of elements of a type lies. -/
def LyAt (w : World) (p : Option Addr) (e : TypeId) : Prop := p = none ∨ ∃ (g : Nat) (cur : Array Value), p = some ⟨g, 0, none⟩ ∧ w.heap[g]? = some (.cells cur e (0, 0))
theorem LyAt.below {w w' : World} {p : Option Addr} {e : TypeId} (h : LyAt w p e) (hb : Below w.heap.size w w') : LyAt w' p e := by
  rcases h with h | ⟨g, cur, h1, h2⟩
  · exact .inl h
  · exact .inr ⟨g, cur, h1, by rw [hb.block g (some_lt h2)]; exact h2⟩
theorem LyAt.of {w : World} {B n m cap : Nat} {e : TypeId} {p : Option Addr} {cs : List Value} (h : w.ownsRow B e m (.slice p n cap) n cs) : LyAt w p e := by
  rcases h.2 with ⟨h0, -⟩ | ⟨g, cap, cur, h0, hb, hg, -⟩
  · simp at h0; exact .inl h0.1
  · simp at h0; exact .inr ⟨g, cur, h0.1, hg⟩
/-- What is no row of rows of bytes stays. -/
def KpT (w w' : World) : Prop := ∀ (k : Nat) (o : Obj), w.heap[k]? = some o → (∀ cur, o ≠ .cells cur 24 (0, 0)) → w'.heap[k]? = some o
theorem KpT.grown {w w1 w' : World} {B n : Nat} {v : Value} {xs : List Value} (h : ∀ k, k < w.heap.size → w1.heap[k]? = w.heap[k]?) (hsz : w.heap.size ≤ w1.heap.size) (hg : w1.grownBy w' v.ownBlock) (ho : w1.ownsRow B 24 1 v n xs) : KpT w w' := fun k o hk hx => by
  have hk1 : w1.heap[k]? = some o := by rw [h k (some_lt hk)]; exact hk
  rw [hg.block k (some_lt hk1) ?_]; exact hk1
  intro e
  rcases ho.2 with ⟨h0, -⟩ | ⟨g, cap, cur, h0, -, hc, -⟩
  · rw [h0] at e; simp [Value.ownBlock] at e
  · rw [h0] at e
    simp [Value.ownBlock] at e
    subst e
    rw [hk1] at hc
    injection hc with hc
    exact hx _ hc
theorem LyAt.kp {w w' : World} {p : Option Addr} {e : TypeId} (h : LyAt w p e) (hk : KpT w w') (he : e ≠ 24) : LyAt w' p e := by
  rcases h with h | ⟨g, cur, h1, h2⟩
  · exact .inl h
  · exact .inr ⟨g, cur, h1, hk g _ h2 (fun c hc => by injection hc with _ hc; exact he hc)⟩
theorem LyAt.same {w w' : World} {p : Option Addr} {e : TypeId} (h : LyAt w p e) (hk : KpT w w') (he : e ≠ 24) (a : Addr) (ha : p = some a) : w'.heap[a.block]? = w.heap[a.block]? := by
  rcases h with h | ⟨g, cur, h1, h2⟩
  · rw [h] at ha; cases ha
  · rw [h1] at ha
    injection ha with ha
    subst ha
    rw [h2]
    exact hk g _ h2 (fun c hc => by injection hc with _ hc; exact he hc)
theorem CsAt.kp {w w' : World} {p : Option Addr} {e : TypeId} {cs : List Value} (h : CsAt w p cs) (ha : LyAt w p e) (hk : KpT w w') (he : e ≠ 24) : CsAt w' p cs := by
  rcases h with h | ⟨b, o, rfl, hc⟩
  · exact .inl h
  · have hs := ha.same hk he _ rfl
    refine .inr ⟨b, o, rfl, fun j u hu => ?_⟩
    have := hc j u hu
    unfold World.cell? at this ⊢
    simp only at hs this ⊢
    rw [hs]; exact this
theorem TabOk.kp {w w' : World} {t : Tab} (h : TabOk w t) (ha : LyAt w t.1 5) (hk : KpT w w') : TabOk w' t :=
  ⟨h.1.blocks (fun a hp _ => ha.same hk (by decide) a hp), h.2⟩

theorem build_yt (u : World) (la : Option Addr) (c : Nat) (L : List En) (h : CsAt u la (ecells L)) (hlen : L.length ≤ 9223372036854775807) (hok : ∀ r ∈ L, OkEn r) (hE : entsE L = 0) :
    Calls Tryd.prog 7 #[.slice la L.length c] u fun e u' => ∃ A cap, e = .returned (.tuple #[.slice A (buildB L).length cap, .nilIface]) ∧ Bz u' A cap (buildB L) ∧ LyAt u' A 5 ∧ Below u.heap.size u u' := by
  refine (build_any u la c L h hlen (fun r hr => by have := hok r hr; exact ⟨by have := this.1; omega, by have := this.2; omega⟩)).mono ?_
  rintro e u' ⟨h1, hb⟩
  rw [if_pos hE] at h1
  obtain ⟨v, rfl, ho⟩ := h1
  obtain ⟨A, cap, rfl, hz⟩ := own_bz ho
  exact ⟨A, cap, rfl, hz, LyAt.of ho, hb⟩
theorem merge_ents {T : List Tab} {Ls : List (List En)} (h : allR T = some Ls) (d : Bool) : entsE (mergeP Ls d) = if 400 < (mergeP Ls d).length then 4 else 0 := by
  have hf := allR_fine h
  have h1 : (∀ e ∈ mergeP Ls d, Fine e) ∧ Ris (mergeP Ls d) := by
    unfold mergeP
    cases d with
    | true => rw [if_pos rfl]; exact ⟨fun e he => hf e (firE_sub _ e he), firE_ris _⟩
    | false => rw [if_neg (by decide)]; exact ⟨fun e he => hf e (firE_sub _ e (List.mem_filter.1 he).1), ris_filter (firE_ris _) _⟩
  split
  · rename_i hl; unfold entsE; rw [if_pos hl]
  · exact ents_ok (by omega) h1.1 h1.2
/-- How Merge ends here. -/
theorem mg_yes {w w' : World} {T : List Tab} {Ls : List (List En)} {d : Bool} {R : List En} {e : Ending} (hA : allR T = some Ls) (hR : mergeP Ls d = R) (hl : R.length ≤ 400) (h : MgEnd w ((allR T).map fun Ls => mergeP Ls d) e w') :
    ∃ A cap, e = .returned (.tuple #[.slice A (buildB R).length cap, .nilIface]) ∧ Bz w' A cap (buildB R) ∧ Below w.heap.size w w' := by
  obtain ⟨h1, hb⟩ := h
  have hE := merge_ents hA d
  rw [hR, if_neg (by omega)] at hE
  rw [hA] at h1
  simp only [Option.map_some, hR] at h1
  rw [if_pos hE] at h1
  obtain ⟨v, rfl, ho⟩ := h1
  obtain ⟨A, cap, rfl, hz⟩ := own_bz ho
  exact ⟨A, cap, rfl, hz, hb⟩
theorem mg_no {w w' : World} {T : List Tab} {Ls : List (List En)} {d : Bool} {R : List En} {e : Ending} (hA : allR T = some Ls) (hR : mergeP Ls d = R) (hl : 400 < R.length) (h : MgEnd w ((allR T).map fun Ls => mergeP Ls d) e w') :
    e = .returned (.tuple #[.slice none 0 0, .iface 51 (.int .i64 4)]) ∧ Below w.heap.size w w' := by
  obtain ⟨h1, hb⟩ := h
  have hE := merge_ents hA d
  rw [hR, if_pos hl] at hE
  rw [hA] at h1
  simp only [Option.map_some, hR] at h1
  rw [if_neg (by omega), hE] at h1
  exact ⟨h1, hb⟩
theorem allR_snoc {T : List Tab} {Ls : List (List En)} {t : Tab} {x : List En} (h : allR T = some Ls) (hx : readTb t.2.2 = some x) : allR (T ++ [t]) = some (Ls ++ [x]) := by
  rw [allR_app, h]; simp [allR, hx]
theorem firE_app (a b : List En) : firE (a ++ b) = b.foldl putE (firE a) := by unfold firE; rw [List.foldl_append]
theorem take_next {S : List (List En)} {k : Nat} (h : k < S.length) : S.take (k + 1) = S.take k ++ [S[k]] := List.take_succ_eq_append_getElem h
theorem fir_next {S : List (List En)} {k : Nat} (h : k < S.length) {A : List En} (hA : A = firE (S.take k).flatten) : (S[k]).foldl putE A = firE (S.take (k + 1)).flatten := by
  rw [take_next h, List.flatten_append, firE_app, ← hA]; simp
theorem fold_next {L A : List En} {j : Nat} (h : j < L.length) : (L.take (j + 1)).foldl putE A = putE ((L.take j).foldl putE A) L[j] := by
  rw [List.take_succ_eq_append_getElem h, List.foldl_append]; rfl
end Go.Proofs.YtpjjjelibpoohabDoor
