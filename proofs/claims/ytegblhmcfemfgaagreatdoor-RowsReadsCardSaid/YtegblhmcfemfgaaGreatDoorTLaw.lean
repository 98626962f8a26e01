import Derived.Test.YtegblhmcfemfgaaGreatDoorUnquote
namespace Go.Proofs.YtegblhmcfemfgaaGreatDoor
open Go.RowKit
theorem tailR_app : ∀ (k : Nat) (t u : List UInt8) (acc a : Nat), tailR k t acc = some a → tailR k (t ++ u) acc = some a
 | 0, _, _, _, _, h => h
 | k + 1, [], _, _, _, h => by simp [tailR] at h
 | k + 1, b :: t, u, acc, a, h => by
   rw [List.cons_append, tailR]
   rw [tailR] at h
   split
   · next h1 => rw [if_pos h1] at h; exact tailR_app k t u _ _ h
   next h1 => rw [if_neg h1] at h; cases h
theorem tailE_app (k least : Nat) (t u : List UInt8) (acc : Nat) (h : (tailE k least (tailR k t acc)).2 ≠ 0) : tailE k least (tailR k (t ++ u) acc) = tailE k least (tailR k t acc) := by
 cases hr : tailR k t acc with
 | none => rw [hr] at h; simp [tailE] at h
 | some a => rw [tailR_app k t u acc a hr]
theorem sgn_app (a b : List UInt8) (h : (sgn a).2 ≠ 0) : sgn (a ++ b) = sgn a := by
 cases a with
 | nil => simp [sgn] at h
 | cons c t =>
  rw [List.cons_append]
  unfold sgn at h ⊢
  simp only at h ⊢
  split
  · rfl
  next h1 =>
  rw [if_neg h1] at h
  split
  · next h2 => rw [if_pos h2] at h; exact tailE_app _ _ _ _ _ h
  next h2 =>
  rw [if_neg h2] at h
  split
  · next h3 => rw [if_pos h3] at h; exact tailE_app _ _ _ _ _ h
  next h3 =>
  rw [if_neg h3] at h
  split
  · next h4 => rw [if_pos h4] at h; exact tailE_app _ _ _ _ _ h
  rfl
theorem cnt_app_aux : ∀ (f : Nat) (a b : List UInt8) (n : Nat), a.length ≤ f → cnt a = some n → cnt (a ++ b) = (cnt b).map (· + n)
 | 0, a, b, n, hf, h => by
   obtain rfl := List.eq_nil_of_length_eq_zero (Nat.le_zero.1 hf)
   rw [cnt_nil] at h
   obtain rfl := Option.some.inj h
   simp
 | f + 1, a, b, n, hf, h => by
   by_cases ha : a = []
   · subst ha
     rw [cnt_nil] at h
     obtain rfl := Option.some.inj h
     simp
   rw [cnt_step a ha] at h
   split at h
   · cases h
   next hz =>
   have hle := sgn_le a
   rw [cnt_step (a ++ b) (by simp [ha]), sgn_app a b hz, if_neg hz, List.drop_append_of_le_length hle]
   cases hc : cnt (a.drop (sgn a).2) with
   | none => rw [hc] at h; cases h
   | some m =>
    rw [hc] at h
    obtain rfl := Option.some.inj h
    rw [cnt_app_aux f _ b m (by simp; omega) hc, Option.map_map]
    rfl
theorem cnt_app (a b : List UInt8) (n : Nat) (h : cnt a = some n) : cnt (a ++ b) = (cnt b).map (· + n) := cnt_app_aux _ a b n (Nat.le_refl _) h
theorem qbL_app (a b : List UInt8) : qbL (a ++ b) = qbL a ++ qbL b := by simp [qbL]
theorem validB_some {t : List UInt8} (h : validB t = true) : ∃ n, cnt t = some n := Option.isSome_iff_exists.1 h
theorem str_cat (a b : List UInt8) : ByteArray.mk a.toArray ++ ByteArray.mk b.toArray = ByteArray.mk (a ++ b).toArray := by
 apply ByteArray.ext
 simp
theorem str_cut (t : List UInt8) (p n : Nat) : (ByteArray.mk t.toArray).extract p n = ByteArray.mk ((t.drop p).take (n - p)).toArray := by
 apply ByteArray.ext
 simp [ByteArray.data_extract, List.extract_toArray]
end Go.Proofs.YtegblhmcfemfgaaGreatDoor
