/- Pictures by their numbers: names of files, what is there, plain. -/
import Derived.Test.YtcmnijpcinmbbaaGreatDoorPureDk
import Derived.Lib.ItoaNum
import Derived.Lib.AtoiTie
namespace Go.Proofs.YtcmnijpcinmbbaaGreatDoor
open Go.Lib (decDigits itoa decFrom digitVal)
set_option linter.unusedVariables false

theorem decFrom_app : ∀ (l r : List UInt8) (acc : Nat), decFrom acc (l ++ r) = (decFrom acc l).bind fun x => decFrom x r
  | [], r, acc => rfl
  | c :: l, r, acc => by
    rw [List.cons_append, decFrom, decFrom]
    cases digitVal c with
    | none => rfl
    | some d => exact decFrom_app l r _
theorem dig_val {n : Nat} (h : n < 10) : digitVal (UInt8.ofNat (48 + n)) = some n := by
  unfold digitVal
  rw [b_toNat (by omega), if_pos (by omega)]; congr 1; omega
theorem dec_from (n : Nat) : decFrom 0 (decDigits n) = some n := by
  induction n using Nat.strongRecOn with
  | _ n ih =>
    rw [decDigits]
    split
    · rename_i h
      rw [decFrom, dig_val h]; simp [decFrom]
    · rename_i h
      rw [decFrom_app, ih (n / 10) (by omega)]
      simp only [Option.bind_some]
      rw [decFrom, dig_val (by omega)]
      simp only [decFrom]; congr 1; omega
theorem dec_len : ∀ (k n : Nat), n < 10 ^ (k + 1) → (decDigits n).length ≤ k + 1
  | 0, n, h => by rw [decDigits, dif_pos (by omega)]; simp
  | k + 1, n, h => by
    rw [decDigits]
    split
    · simp
    · have := dec_len k (n / 10) (by rw [Nat.pow_succ] at h; omega)
      simp; omega
theorem dec_ne (n : Nat) : decDigits n ≠ [] := by rw [decDigits]; split <;> simp
theorem dec_dig (n : Nat) : ∀ c ∈ decDigits n, 48 ≤ c.toNat ∧ c.toNat ≤ 57 := by
  induction n using Nat.strongRecOn with
  | _ n ih =>
    intro c hc
    rw [decDigits] at hc
    split at hc
    · rw [List.mem_singleton.1 hc, b_toNat (by omega)]; omega
    · rcases List.mem_append.1 hc with hc | hc
      · exact ih (n / 10) (by omega) c hc
      · rw [List.mem_singleton.1 hc, b_toNat (by omega)]; omega
theorem ito_dec {n : Int} (h : 0 ≤ n) : itoa n = decDigits n.toNat := by
  unfold itoa
  rw [if_neg (by omega)]
theorem ito_len {n : Int} (h0 : 0 ≤ n) (h1 : n ≤ 1000000000) : (itoa n).length ≤ 10 := by
  rw [ito_dec h0]; exact dec_len 9 _ (by omega)
theorem ito_inj {a b : Int} (ha : 0 ≤ a) (hb : 0 ≤ b) (h : itoa a = itoa b) : a = b := by
  rw [ito_dec ha, ito_dec hb] at h
  have h1 := dec_from a.toNat
  rw [h, dec_from] at h1
  injection h1 with h1
  omega
theorem ato_ito {n : Int} (h0 : 0 ≤ n) (h1 : n ≤ 1000000000) : Lib.atoiAll (itoa n) = .ok n := by
  rw [Lib.atoiAll_short _ (by have := ito_len h0 h1; omega), ito_dec h0]
  have hd := dec_dig n.toNat
  have hf := dec_from n.toNat
  cases he : decDigits n.toNat with
  | nil => exact absurd he (dec_ne _)
  | cons c r =>
    rw [he] at hd hf
    have hc := hd c (by simp)
    have h43 : ¬ c = 43 := fun e => by subst e; simp at hc
    have h45 : ¬ c = 45 := fun e => by subst e; simp at hc
    simp [Lib.atoi, h43, h45, Lib.decNat, hf, Lib.NumEnd.ofOption]
    omega

/-- The name of a picture's file. -/
def preK : List UInt8 := [112, 105, 99, 116, 117, 114, 101, 45]
def nmK (id : Int) : ByteArray := ⟨(preK ++ itoa id).toArray⟩
/-- A picture's number. -/
def IdOk (id : Int) : Prop := 1 ≤ id ∧ id ≤ 1000000000
theorem nmK_list (id : Int) : (nmK id).data.toList = preK ++ itoa id := by simp [nmK]
theorem nmK_inj {a b : Int} (ha : IdOk a) (hb : IdOk b) (h : nmK a = nmK b) : a = b := by
  have := congrArg (fun x => x.data.toList) h
  simp only [nmK_list] at this
  exact ito_inj (by have := ha.1; omega) (by have := hb.1; omega) (List.append_cancel_left this)
theorem nmK_size (id : Int) (h : IdOk id) : (nmK id).size ≤ 18 ∧ 8 ≤ (nmK id).size := by
  have h1 := ito_len (n := id) (by have := h.1; omega) h.2
  have h2 : (nmK id).size = (preK ++ itoa id).length := by simp [nmK, ByteArray.size]
  rw [h2]; simp [preK]; omega
theorem nmK_ok {id : Int} (h : IdOk id) : isNm (nmK id) = true := by
  have hs := nmK_size id h
  unfold isNm
  rw [nmK_list, ito_dec (by have := h.1; omega)]
  have hd := dec_dig id.toNat
  have h1 : ((preK ++ decDigits id.toNat).all nmB) = true := by
    rw [List.all_append, Bool.and_eq_true]
    refine ⟨by decide, List.all_eq_true.2 fun c hc => ?_⟩
    have := hd c hc
    unfold nmB; simp; omega
  rw [h1]; simp; omega

/-- Pictures by number. -/
abbrev Pc := Int → Option (List UInt8)
def updK (P : Pc) (id : Int) (o : Option (List UInt8)) : Pc := fun x => if x = id then o else P x
theorem updK_same (P : Pc) (id : Int) (o : Option (List UInt8)) : updK P id o id = o := by simp [updK]
theorem updK_other (P : Pc) {id x : Int} (o : Option (List UInt8)) (h : x ≠ id) : updK P id o x = P x := by simp [updK, h]
/-- The files are those of the pictures, all of them whole. -/
structure KpIs (σ : Fs) (P : Pc) : Prop where
  at_ : ∀ id, IdOk id → σ (nmK id) = (P id).map sealB
  nm : ∀ k, (σ k).isSome = true → ∃ id, IdOk id ∧ k = nmK id
  ok : ∀ id, (P id).isSome = true → IdOk id
  few : ∀ id x, P id = some x → x.length ≤ 50000
theorem KpIs.none : KpIs (fun _ => none) (fun _ => none) := ⟨fun _ _ => rfl, fun _ h => by simp at h, fun _ h => by simp at h, fun _ _ h => by cases h⟩
theorem KpIs.upd {σ : Fs} {P : Pc} (h : KpIs σ P) {id : Int} (hid : IdOk id) (o : Option (List UInt8)) (ho : ∀ x, o = some x → x.length ≤ 50000) : KpIs (upd σ (nmK id) (o.map sealB)) (updK P id o) := by
  refine ⟨fun x hx => ?_, fun k hk => ?_, fun x hx => ?_, fun x y hx => ?_⟩
  · by_cases e : x = id
    · subst e; rw [upd_same, updK_same]
    · rw [updK_other _ _ e, upd_other _ _ (fun he => e (nmK_inj hx hid he))]; exact h.at_ x hx
  · by_cases e : k = nmK id
    · exact ⟨id, hid, e⟩
    · rw [upd_other _ _ e] at hk; exact h.nm k hk
  · by_cases e : x = id
    · subst e; exact hid
    · rw [updK_other _ _ e] at hx; exact h.ok x hx
  · by_cases e : x = id
    · subst e; rw [updK_same] at hx; exact ho y hx
    · rw [updK_other _ _ e] at hx; exact h.few x y hx
theorem KpIs.some_iff {σ : Fs} {P : Pc} (h : KpIs σ P) {id : Int} (hid : IdOk id) : (σ (nmK id)).isSome = (P id).isSome := by rw [h.at_ id hid]; simp
/-- The numbers of the pictures, rising. -/
def IdsIs (P : Pc) (l : List Int) : Prop := l.Pairwise (· < ·) ∧ ∀ id, id ∈ l ↔ (P id).isSome = true
theorem IdsIs.unique {P : Pc} {l l' : List Int} (h : IdsIs P l) (h' : IdsIs P l') : l = l' := by
  have n1 : l.Nodup := h.1.imp (fun hab => by omega)
  have n2 : l'.Nodup := h'.1.imp (fun hab => by omega)
  have hp : l.Perm l' := (List.perm_ext_iff_of_nodup n1 n2).2 fun k => by rw [h.2, h'.2]
  exact List.Perm.eq_of_pairwise (le := fun a b => a < b) (fun a b _ _ h1 h2 => by omega) h.1 h'.1 hp
/-- Out of the names of all files. -/
theorem ids_of {σ : Fs} {P : Pc} (h : KpIs σ P) {ns : List ByteArray} (hn : NmsIs σ ns) : ∃ ids : List Int, ns = ids.map nmK ∧ (∀ id ∈ ids, IdOk id) ∧ ids.Nodup ∧ ∀ id, id ∈ ids ↔ (P id).isSome = true := by
  have key : ∀ (ns : List ByteArray), ns.Nodup → (∀ k ∈ ns, ∃ id, IdOk id ∧ k = nmK id) → ∃ ids : List Int, ns = ids.map nmK ∧ (∀ id ∈ ids, IdOk id) ∧ ids.Nodup := by
    intro ns
    induction ns with
    | nil => exact fun _ _ => ⟨[], rfl, by simp, by simp⟩
    | cons k r ih =>
      intro hnd hk
      rw [List.nodup_cons] at hnd
      obtain ⟨ids, h1, h2, h3⟩ := ih hnd.2 (fun x hx => hk x (List.mem_cons_of_mem _ hx))
      obtain ⟨id, h4, h5⟩ := hk k List.mem_cons_self
      refine ⟨id :: ids, by rw [List.map_cons, h1, h5], ?_, ?_⟩
      · intro x hx
        rcases List.mem_cons.1 hx with rfl | hx
        · exact h4
        · exact h2 x hx
      · rw [List.nodup_cons]
        exact ⟨fun hm => hnd.1 (by rw [h1, h5]; exact List.mem_map_of_mem hm), h3⟩
  obtain ⟨ids, h1, h2, h3⟩ := key ns hn.2.1 (fun k hk => h.nm k ((hn.2.2 k).1 hk))
  refine ⟨ids, h1, h2, h3, fun id => ⟨fun hm => ?_, fun hm => ?_⟩⟩
  · rw [← h.some_iff (h2 id hm)]
    exact (hn.2.2 _).1 (by rw [h1]; exact List.mem_map_of_mem hm)
  · have hid := h.ok id hm
    rw [← h.some_iff hid] at hm
    have := (hn.2.2 _).2 hm
    rw [h1] at this
    obtain ⟨x, hx, he⟩ := List.mem_map.1 this
    exact nmK_inj (h2 x hx) hid he ▸ hx
/-- Sorted, they are the numbers, rising. -/
theorem ids_sorted {P : Pc} {ids l : List Int} (hnd : ids.Nodup) (hm : ∀ id, id ∈ ids ↔ (P id).isSome = true) (hp : ids.Perm l) (hs : l.Pairwise (· ≤ ·)) : IdsIs P l := by
  refine ⟨?_, fun id => by rw [← hm, hp.mem_iff]⟩
  have hn : l.Nodup := hp.nodup_iff.1 hnd
  rw [List.Nodup] at hn
  exact (hs.and hn).imp (fun ⟨a, b⟩ => by omega)

/-- A piece that is whole, and nothing behind it. -/
theorem open_whole (x : List UInt8) (hx : x.length ≤ 50000) : openB (sealB x) = some (x, (sealB x).length) := by
  have := open_seal x [] (by omega)
  rwa [List.append_nil] at this
theorem seal_few (x : List UInt8) (hx : x.length ≤ 50000) : (sealB x).length ≤ 50014 := by
  have := seal_len x
  have := num_ten (n := x.length) (by omega) (by omega)
  omega
theorem seal_ne (x : List UInt8) : sealB x ≠ [] := fun h => by have := seal_len x; rw [h] at this; simp at this
/-- Numbers of a list come before its last. -/
theorem IdsIs.last {P : Pc} {l : List Int} (h : IdsIs P l) {m : Int} {r : List Int} (hl : l = r ++ [m]) : (P m).isSome = true ∧ ∀ id, (P id).isSome = true → id ≤ m := by
  subst hl
  refine ⟨(h.2 m).1 (by simp), fun id hid => ?_⟩
  have h1 := (h.2 id).2 hid
  rcases List.mem_append.1 h1 with h1 | h1
  · have := (List.pairwise_append.1 h.1).2.2 id h1 m (by simp)
    omega
  · simp at h1; omega
end Go.Proofs.YtcmnijpcinmbbaaGreatDoor
