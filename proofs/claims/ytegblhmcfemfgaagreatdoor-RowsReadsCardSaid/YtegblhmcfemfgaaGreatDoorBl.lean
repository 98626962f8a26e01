import Derived.Test.YtegblhmcfemfgaaGreatDoorKit
namespace Go.Proofs.YtegblhmcfemfgaaGreatDoor
open Go.RowKit
theorem bl_irr : ∀ l : List UInt8, Op.bytesLess l l = false
 | [] => rfl
 | a :: l => by
   rw [Op.bytesLess, bl_irr l]
   simp
theorem bl_tr : ∀ a b c : List UInt8, Op.bytesLess a b = true → Op.bytesLess b c = true → Op.bytesLess a c = true
 | a, [], _, h, _ => by cases a <;> simp [Op.bytesLess] at h
 | _, _ :: _, [], _, h => by simp [Op.bytesLess] at h
 | [], _ :: _, _ :: _, _, _ => rfl
 | x :: a, y :: b, z :: c, h1, h2 => by
   have ih := bl_tr a b c
   simp only [Op.bytesLess, Bool.or_eq_true, Bool.and_eq_true, decide_eq_true_eq, beq_iff_eq, UInt8.lt_iff_toNat_lt] at h1 h2 ⊢
   rcases h1 with h1 | ⟨rfl, h1⟩
   · rcases h2 with h2 | ⟨rfl, h2⟩
     · exact .inl (by omega)
     exact .inl h1
   rcases h2 with h2 | ⟨rfl, h2⟩
   · exact .inl h2
   exact .inr ⟨rfl, ih h1 h2⟩
theorem bl_tot : ∀ a b : List UInt8, Op.bytesLess a b = false → Op.bytesLess b a = false → a = b
 | [], [], _, _ => rfl
 | [], _ :: _, h, _ => by simp [Op.bytesLess] at h
 | _ :: _, [], _, h => by simp [Op.bytesLess] at h
 | x :: a, y :: b, h1, h2 => by
   have ih := bl_tot a b
   simp only [Op.bytesLess, Bool.or_eq_false_iff, Bool.and_eq_false_iff, decide_eq_false_iff_not, beq_eq_false_iff_ne, UInt8.lt_iff_toNat_lt] at h1 h2
   have e : x = y := UInt8.toNat_inj.1 (by omega)
   subst e
   simp only [ne_eq, not_true_eq_false, false_or] at h1 h2
   rw [ih h1.2 h2.2]
end Go.Proofs.YtegblhmcfemfgaaGreatDoor
