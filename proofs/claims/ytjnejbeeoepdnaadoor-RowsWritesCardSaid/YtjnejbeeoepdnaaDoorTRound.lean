/- In a seat without the reader of texts: signs alone. -/
import Derived.Test.YtjnejbeeoepdnaaDoorTLaw
namespace Go.Proofs.YtjnejbeeoepdnaaDoor
open Go.RowKit


theorem sgn_small (c : UInt8) (t : List UInt8) (h : c.toNat < 128) : sgn (c :: t) = (c.toNat, 1) := by rw [sgn, if_pos h]
theorem tailR_bytes : ∀ (k : Nat) (t : List UInt8) (acc a : Nat), tailR k t acc = some a → ∀ b ∈ t.take k, b.toNat / 64 = 2
  | 0, _, _, _, _, b, hb => by simp at hb
  | k + 1, [], _, _, h, _, _ => by simp [tailR] at h
  | k + 1, c :: t, acc, a, h, b, hb => by
    rw [tailR] at h
    split at h
    · next h1 =>
      rw [List.take_succ_cons] at hb
      rcases List.mem_cons.1 hb with rfl | hb
      · exact h1
      · exact tailR_bytes k t _ a h b hb
    · cases h
theorem tailR_take : ∀ (k : Nat) (t : List UInt8) (acc : Nat), tailR k (t.take k) acc = tailR k t acc
  | 0, _, _ => rfl
  | k + 1, [], _ => rfl
  | k + 1, c :: t, acc => by
    rw [List.take_succ_cons, tailR, tailR, tailR_take k t]
/-- A sign of two bytes and more. -/
theorem sgn_big (c : UInt8) (t : List UInt8) (h : 128 ≤ c.toNat) (hz : (sgn (c :: t)).2 ≠ 0) :
    ∃ k least acc a, (sgn (c :: t)) = (a, k + 1) ∧ tailR k t acc = some a ∧ 128 ≤ a ∧ ∀ u, sgn (c :: u) = tailE k least (tailR k u acc) := by
  have key : ∃ k least acc, 128 ≤ least ∧ ∀ u, sgn (c :: u) = tailE k least (tailR k u acc) := by
    rcases (show (192 ≤ c.toNat ∧ c.toNat < 224) ∨ (224 ≤ c.toNat ∧ c.toNat < 240) ∨ (240 ≤ c.toNat ∧ c.toNat < 248) ∨ (c.toNat < 192 ∨ 248 ≤ c.toNat) by omega) with hx | hx | hx | hx
    · exact ⟨1, 128, _, by omega, fun u => by rw [sgn, if_neg (by omega), if_pos hx]⟩
    · exact ⟨2, 2048, _, by omega, fun u => by rw [sgn, if_neg (by omega), if_neg (by omega), if_pos hx]⟩
    · exact ⟨3, 65536, _, by omega, fun u => by rw [sgn, if_neg (by omega), if_neg (by omega), if_neg (by omega), if_pos hx]⟩
    · exfalso; apply hz
      rw [sgn, if_neg (by omega), if_neg (by omega), if_neg (by omega), if_neg (by omega)]
  obtain ⟨k, least, acc, hl, hall⟩ := key
  rw [hall t] at hz ⊢
  cases hr : tailR k t acc with
  | none => rw [hr] at hz; simp [tailE] at hz
  | some a =>
    rw [hr] at hz
    simp only [tailE] at hz ⊢
    by_cases hc : a < least ∨ signB a = false
    · rw [if_pos hc] at hz; simp at hz
    · rw [if_neg hc]
      exact ⟨k, least, acc, a, rfl, hr, by omega, fun u => hall u⟩
theorem sgn_take (t : List UInt8) (hz : (sgn t).2 ≠ 0) : sgn (t.take (sgn t).2) = sgn t := by
  cases t with
  | nil => rfl
  | cons c t =>
    by_cases h : c.toNat < 128
    · rw [sgn_small c t h]
      exact sgn_small c _ h
    · obtain ⟨k, least, acc, a, h1, h2, h3, h4⟩ := sgn_big c t (by omega) hz
      rw [h1]
      simp only
      rw [List.take_succ_cons, h4, tailR_take, ← h4, h1]

theorem qb_plain (c : UInt8) (h1 : 32 ≤ c.toNat) (h2 : c.toNat ≠ 34) (h3 : c.toNat ≠ 92) : qb c = [c] := by
  have : shB c = 0 := by
    unfold shB
    rw [if_neg h2, if_neg h3, if_neg (by omega), if_neg (by omega), if_neg (by omega), if_neg (by omega), if_neg (by omega)]
  rw [qb, if_neg (by simp [this]), if_neg (by omega)]
theorem qbL_plain : ∀ l : List UInt8, (∀ b ∈ l, qb b = [b]) → qbL l = l
  | [], _ => rfl
  | c :: t, h => by
    have h1 := h c (by simp)
    have h2 := qbL_plain t (fun b hb => h b (by simp [hb]))
    simp only [qbL, List.flatMap_cons] at h2 ⊢
    rw [h1, h2]; rfl
theorem ofNat_self (c : UInt8) : UInt8.ofNat c.toNat = c := by rw [← UInt8.toNat_inj, UInt8.toNat_ofNat']; have := c.toNat_lt; omega
theorem at_mid (pre : List UInt8) (c : UInt8) (v : List UInt8) : (pre ++ c :: v)[pre.length]? = some c := by simp
theorem qb_pos (c : UInt8) : 0 < (qb c).length := by
  unfold qb
  split
  · simp
  split
  · simp
  · simp
theorem cnt_cons {c : UInt8} {t : List UInt8} (h : validB (c :: t) = true) : (sgn (c :: t)).2 ≠ 0 ∧ validB ((c :: t).drop (sgn (c :: t)).2) = true := by
  rw [validB, cnt_step (c :: t) (by simp)] at h
  split at h
  · cases h
  · next hz => exact ⟨hz, by rw [Option.isSome_map] at h; exact h⟩
theorem qb_ge (c : UInt8) : ∀ b ∈ qb c, 32 ≤ b.toNat := by
  have h1 : ∀ n : Fin 256, ∀ b ∈ qb (UInt8.ofNat n.val), 32 ≤ b.toNat := by decide +kernel
  have := h1 ⟨c.toNat, c.toNat_lt⟩
  simpa only [ofNat_self] using this
theorem quoted_ge (s : List UInt8) : ∀ b ∈ 34 :: qbL s ++ [34], 32 ≤ b.toNat := by
  intro b hb
  simp only [List.cons_append, List.mem_cons, List.mem_append, List.not_mem_nil, or_false] at hb
  rcases hb with rfl | hb | rfl
  · decide
  · simp only [qbL, List.mem_flatMap] at hb
    obtain ⟨c, _, hb⟩ := hb
    exact qb_ge c b hb
  · decide
end Go.Proofs.YtjnejbeeoepdnaaDoor
