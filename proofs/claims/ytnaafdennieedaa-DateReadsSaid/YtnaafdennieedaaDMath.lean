/- Layer 5: plain facts: told times in order, told times read. -/
import Derived.Test.YtnaafdennieedaaDTell
namespace Go.Proofs.Ytnaafdennieedaa
open Go.RowKit

theorem bytesLess_app : ∀ (a b x y : List UInt8), a.length = b.length → Op.bytesLess (a ++ x) (b ++ y) = (Op.bytesLess a b || (a == b && Op.bytesLess x y))
  | [], [], x, y, _ => by simp [Op.bytesLess]
  | [], _ :: _, _, _, h => by simp at h
  | _ :: _, [], _, _, h => by simp at h
  | c :: a, d :: b, x, y, h => by
    have ih := bytesLess_app a b x y (by simpa using h)
    rw [List.cons_append, List.cons_append, Op.bytesLess, Op.bytesLess, ih, List.cons_beq_cons]
    cases decide (c < d) <;> cases (c == d) <;> cases Op.bytesLess a b <;> cases (a == b) <;> simp
theorem less_dig (a b wd : Nat) (c : UInt8) (x y : List UInt8) (ha : a < 10 ^ wd) (hb : b < 10 ^ wd) :
    Op.bytesLess (digL a wd ++ ([c] ++ x)) (digL b wd ++ ([c] ++ y)) = decide (a < b ∨ (a = b ∧ Op.bytesLess x y = true)) := by
  rw [bytesLess_app _ _ _ _ (by rw [digL_length, digL_length]), dig_less a b wd ha hb, dig_same a b wd ha hb, bytesLess_app _ _ _ _ rfl]
  have e : Op.bytesLess [c] [c] = false := by simp [Op.bytesLess]
  rw [e]
  by_cases h1 : a < b <;> by_cases h2 : a = b <;> cases Op.bytesLess x y <;> simp [h1, h2]
def lex6 (y mo d h mi s y' mo' d' h' mi' s' : Nat) : Prop :=
  y < y' ∨ (y = y' ∧ (mo < mo' ∨ (mo = mo' ∧ (d < d' ∨ (d = d' ∧ (h < h' ∨ (h = h' ∧ (mi < mi' ∨ (mi = mi' ∧ s < s')))))))))
theorem dtext_less (y mo d h mi s y' mo' d' h' mi' s' : Nat) (a1 : y < 10000) (a2 : mo < 100) (a3 : d < 100) (a4 : h < 100) (a5 : mi < 100) (a6 : s < 100)
    (b1 : y' < 10000) (b2 : mo' < 100) (b3 : d' < 100) (b4 : h' < 100) (b5 : mi' < 100) (b6 : s' < 100) :
    Op.bytesLess (dtext y mo d h mi s) (dtext y' mo' d' h' mi' s') = true ↔ lex6 y mo d h mi s y' mo' d' h' mi' s' := by
  unfold dtext lex6
  simp only [List.append_assoc]
  rw [less_dig _ _ 4 _ _ _ a1 b1, less_dig _ _ 2 _ _ _ a2 b2, less_dig _ _ 2 _ _ _ a3 b3, less_dig _ _ 2 _ _ _ a4 b4, less_dig _ _ 2 _ _ _ a5 b5,
    bytesLess_app _ _ _ _ (by rw [digL_length, digL_length]), dig_less s s' 2 a6 b6]
  have e : Op.bytesLess [90] [90] = false := by simp [Op.bytesLess]
  rw [e]
  simp only [Bool.and_false, Bool.or_false, decide_eq_true_iff]

theorem cum_mono (y : Int) (h0 : 0 ≤ y) (i : Nat) : ∀ k : Nat, cumI y i ≤ cumI y (i + k)
  | 0 => Int.le_refl _
  | k + 1 => by
    have := cum_mono y h0 i k
    have := dof_bd y (((i + k : Nat) : Int) + 1) h0
    rw [← Nat.add_assoc, cumI_succ]; omega
theorem dby_mono (a b : Int) (_h0 : 1970 ≤ a) (h : a ≤ b) : dbyI a ≤ dbyI b := by unfold dbyI lpI; omega
theorem db_lt_year (y mo d y' mo' d' : Int) (h0 : 1970 ≤ y) (hm : 1 ≤ mo) (hm2 : mo ≤ 12) (hd2 : d ≤ dofI y mo) (hy : y < y') (_hm' : 1 ≤ mo') (hd' : 1 ≤ d') : dbI y mo d < dbI y' mo' d' := by
  have c12 := cum12 y
  have s := (dby_succ y h0).2.2
  have m := dby_mono (y + 1) y' (by omega) (by omega)
  have e : cumI y ((mo - 1).toNat + 1) = cumI y (mo - 1).toNat + dofI y mo := by
    rw [cumI_succ, show ((mo - 1).toNat : Int) + 1 = mo by omega]
  have g := cum_mono y (by omega) ((mo - 1).toNat + 1) (12 - ((mo - 1).toNat + 1))
  rw [show (mo - 1).toNat + 1 + (12 - ((mo - 1).toNat + 1)) = 12 by omega] at g
  have c0 := cum_bd y' (by omega) (mo' - 1).toNat
  unfold dbI; omega
theorem db_lt_month (y mo d mo' d' : Int) (h0 : 1970 ≤ y) (hm : 1 ≤ mo) (hd2 : d ≤ dofI y mo) (hmo : mo < mo') (hd' : 1 ≤ d') : dbI y mo d < dbI y mo' d' := by
  have e : cumI y ((mo - 1).toNat + 1) = cumI y (mo - 1).toNat + dofI y mo := by
    rw [cumI_succ, show ((mo - 1).toNat : Int) + 1 = mo by omega]
  have g := cum_mono y (by omega) ((mo - 1).toNat + 1) ((mo' - 1).toNat - ((mo - 1).toNat + 1))
  rw [show (mo - 1).toNat + 1 + ((mo' - 1).toNat - ((mo - 1).toNat + 1)) = (mo' - 1).toNat by omega] at g
  unfold dbI; omega
theorem mk_lex (y mo d h mi s y' mo' d' h' mi' s' : Nat) (H : mkB y mo d h mi s = true) (hs : s ≤ 59) (H' : mkB y' mo' d' h' mi' s' = true) (hs' : s' ≤ 59)
    (hl : lex6 y mo d h mi s y' mo' d' h' mi' s') : mkV y mo d h mi s < mkV y' mo' d' h' mi' s' := by
  obtain ⟨a1, a2, a3, a4, a5, a6, a7, a8, a9, a10, a11, a12⟩ := (mkB_iff _ _ _ _ _ _).1 H
  obtain ⟨b1, b2, b3, b4, b5, b6, b7, b8, b9, b10, b11, b12⟩ := (mkB_iff _ _ _ _ _ _).1 H'
  have key : dbI y mo d < dbI y' mo' d' ∨ (dbI y mo d = dbI y' mo' d' ∧ (h < h' ∨ (h = h' ∧ (mi < mi' ∨ (mi = mi' ∧ s < s'))))) := by
    rcases hl with hl | ⟨rfl, hl⟩
    · exact .inl (db_lt_year _ _ _ _ _ _ a1 a3 a4 a6 (by omega) b3 b5)
    rcases hl with hl | ⟨rfl, hl⟩
    · exact .inl (db_lt_month _ _ _ _ _ a1 a3 a6 (by omega) b5)
    rcases hl with hl | ⟨rfl, hl⟩
    · exact .inl (by unfold dbI; omega)
    exact .inr ⟨rfl, hl⟩
  unfold mkV
  generalize dbI (y : Int) mo d = A at *
  generalize dbI (y' : Int) mo' d' = B at *
  clear a6 b6 H H' hl
  omega
theorem dtext_order (y mo d h mi s y' mo' d' h' mi' s' : Nat) (H : mkB y mo d h mi s = true) (hs : s ≤ 59) (H' : mkB y' mo' d' h' mi' s' = true) (hs' : s' ≤ 59) :
    Op.bytesLess (dtext y mo d h mi s) (dtext y' mo' d' h' mi' s') = decide (mkV y mo d h mi s < mkV y' mo' d' h' mi' s') := by
  have k1 := mk_lex y mo d h mi s y' mo' d' h' mi' s' H hs H' hs'
  have k2 := mk_lex y' mo' d' h' mi' s' y mo d h mi s H' hs' H hs
  obtain ⟨a1, a2, a3, a4, a5, a6, a7, a8, a9, a10, a11, a12⟩ := (mkB_iff _ _ _ _ _ _).1 H
  obtain ⟨b1, b2, b3, b4, b5, b6, b7, b8, b9, b10, b11, b12⟩ := (mkB_iff _ _ _ _ _ _).1 H'
  have d1 := dof_bd y mo (by omega)
  have d2 := dof_bd y' mo' (by omega)
  have e := dtext_less y mo d h mi s y' mo' d' h' mi' s' (by omega) (by omega) (by omega) (by omega) (by omega) (by omega) (by omega) (by omega) (by omega) (by omega) (by omega) (by omega)
  rw [Bool.eq_iff_iff, e, decide_eq_true_iff]
  constructor
  · exact k1
  · intro hlt
    by_cases hl : lex6 y mo d h mi s y' mo' d' h' mi' s'
    · exact hl
    exfalso
    by_cases hr : lex6 y' mo' d' h' mi' s' y mo d h mi s
    · have := k2 hr; omega
    · have : y = y' ∧ mo = mo' ∧ d = d' ∧ h = h' ∧ mi = mi' ∧ s = s' := by
        unfold lex6 at hl hr
        clear k1 k2 e H H' hlt a6 b6 d1 d2
        omega
      obtain ⟨rfl, rfl, rfl, rfl, rfl, rfl⟩ := this
      omega

/-- A number told in digits is read. -/
theorem sgnF_hit (of t : List UInt8) (p : Nat) (z : Bool) (c : UInt8) (r : List UInt8) (h : t.drop p = c :: r) (hm : c ∈ of) : sgnF of t p z = (c, p + 1, z) := by
  have hlt : p < t.length := by
    have := congrArg List.length h
    rw [List.length_drop, List.length_cons] at this; omega
  have e : pk t p = c := by
    rw [pk_lt t p hlt]
    rw [List.drop_eq_getElem_cons hlt] at h
    exact (List.cons.inj h).1
  unfold sgnF
  rw [e, if_pos ⟨hlt, hm⟩]
theorem pk_hit (t : List UInt8) (p : Nat) (c : UInt8) (r : List UInt8) (h : t.drop p = c :: r) : pk t p = c := by
  have hlt : p < t.length := by
    have := congrArg List.length h
    rw [List.length_drop, List.length_cons] at this; omega
  rw [pk_lt t p hlt]
  rw [List.drop_eq_getElem_cons hlt] at h
  exact (List.cons.inj h).1
theorem drop_hit (t : List UInt8) (p : Nat) (c : UInt8) (r : List UInt8) (h : t.drop p = c :: r) : t.drop (p + 1) = r := by
  rw [← List.drop_drop, h]; rfl
theorem drop_hits (t : List UInt8) (p : Nat) (l r : List UInt8) (h : t.drop p = l ++ r) : t.drop (p + l.length) = r := by
  rw [← List.drop_drop, h]; simp
theorem db_mem (n j : Nat) : db n j ∈ digs := by
  unfold db digs
  have h : n / 10 ^ j % 10 < 10 := by omega
  generalize n / 10 ^ j % 10 = x at h
  have : x = 0 ∨ x = 1 ∨ x = 2 ∨ x = 3 ∨ x = 4 ∨ x = 5 ∨ x = 6 ∨ x = 7 ∨ x = 8 ∨ x = 9 := by omega
  rcases this with h | h | h | h | h | h | h | h | h | h <;> subst h <;> decide
theorem numF_hit (t : List UInt8) (z : Bool) (m : Nat) (r : List UInt8) : ∀ (wd : Nat) (n : Int) (p : Nat), t.drop p = digL m wd ++ r → numF t wd n p z = (n * 10 ^ wd + ((m % 10 ^ wd : Nat) : Int), p + wd, z)
  | 0, n, p, _ => by simp [numF_zero, Nat.mod_one]
  | wd + 1, n, p, h => by
    rw [digL_succ, List.cons_append] at h
    rw [numF_succ, sgnF_hit digs t p z _ _ h (db_mem m wd)]
    simp only
    rw [numF_hit t z m r wd _ (p + 1) (drop_hit t p _ _ h), db_toNat, mod_succ]
    simp only [Prod.mk.injEq, and_true]
    refine ⟨?_, by omega⟩
    rw [Int.pow_succ]
    push_cast
    generalize (10 : Int) ^ wd = P
    generalize ((m : Int) / P % 10) = Q
    rw [show (10 * n + (48 + Q) - 48) = 10 * n + Q by omega, Int.add_mul, Int.mul_comm 10 n, Int.mul_assoc, Int.mul_comm 10 P, Int.mul_comm Q P]
    omega
end Go.Proofs.Ytnaafdennieedaa
