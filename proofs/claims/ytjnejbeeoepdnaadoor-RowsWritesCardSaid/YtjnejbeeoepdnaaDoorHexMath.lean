/- Bytes in digits of 16, plainly: no condition. -/
import Derived.Test.YtjnejbeeoepdnaaDoorKit
namespace Go.Proofs.YtjnejbeeoepdnaaDoor
open Go.RowKit

/-- Two new bytes in a block of their own. -/
theorem Rd.two (E : TypeId) (w : World) (c d : UInt8) (x y : Value) (b : Nat) (hx : x = bv c) (hy : y = bv d) (hb : b = w.heap.size) : Rd (w.alloc (.cells #[x, y] E)) (.slice (some ⟨b, 0, none⟩) 2 2) [c, d] := by
  subst hb hx hy
  refine ⟨_, 2, rfl, by simp, by decide, (fun h => by cases h), fun _ => ⟨w.heap.size, 0, rfl, fun i hi => ?_⟩⟩
  simp at hi
  rcases (show i = 0 ∨ i = 1 by omega) with rfl | rfl <;> simp

/-- Six new bytes in a block of their own. -/
theorem Rd.six (E : TypeId) (w : World) (c1 c2 c3 c4 c5 c6 : UInt8) (x1 x2 x3 x4 x5 x6 : Value) (b : Nat) (h1 : x1 = bv c1) (h2 : x2 = bv c2) (h3 : x3 = bv c3) (h4 : x4 = bv c4) (h5 : x5 = bv c5) (h6 : x6 = bv c6) (hb : b = w.heap.size) :
    Rd (w.alloc (.cells #[x1, x2, x3, x4, x5, x6] E)) (.slice (some ⟨b, 0, none⟩) 6 6) [c1, c2, c3, c4, c5, c6] := by
  subst hb h1 h2 h3 h4 h5 h6
  refine ⟨_, 6, rfl, by simp, by decide, (fun h => by cases h), fun _ => ⟨w.heap.size, 0, rfl, fun i hi => ?_⟩⟩
  simp at hi
  rcases (show i = 0 ∨ i = 1 ∨ i = 2 ∨ i = 3 ∨ i = 4 ∨ i = 5 by omega) with rfl | rfl | rfl | rfl | rfl | rfl <;> simp

/-- A byte told in two digits of 16. -/
def hexSigns : List UInt8 := [48, 49, 50, 51, 52, 53, 54, 55, 56, 57, 97, 98, 99, 100, 101, 102]
def hexS (n : Nat) : UInt8 := hexSigns.getD n 0
def hexL (l : List UInt8) : List UInt8 := l.flatMap fun c => [hexS (c.toNat / 16), hexS (c.toNat % 16)]
theorem hexL_nil : hexL [] = [] := rfl
theorem hexL_snoc (l : List UInt8) (c : UInt8) : hexL (l ++ [c]) = hexL l ++ [hexS (c.toNat / 16), hexS (c.toNat % 16)] := by simp [hexL]
theorem hexL_length (l : List UInt8) : (hexL l).length = 2 * l.length := by
  induction l with
  | nil => rfl
  | cons c t ih => simp only [hexL, List.flatMap_cons, List.length_append, List.length_cons] at ih ⊢; simp only [List.length_nil]; omega
theorem and15 (c : UInt8) : bits .and .u8 (c.toNat : Int) 15 = ((c.toNat % 16 : Nat) : Int) := by
  rw [show (15 : Int) = ((15 : Nat) : Int) from rfl, u8_and_nat _ _ (by have := c.toNat_lt; omega) (by omega), nat_mask4]

theorem hex_all : ∀ m : Fin 16, ((ByteArray.mk #[48, 49, 50, 51, 52, 53, 54, 55, 56, 57, 97, 98, 99, 100, 101, 102])[m.val]'(by have := m.isLt; exact this)).toNat = (hexS m.val).toNat := by decide
theorem hex_at (n : Nat) (h : n < 16) (i : Nat) (hi : i < (ByteArray.mk #[48, 49, 50, 51, 52, 53, 54, 55, 56, 57, 97, 98, 99, 100, 101, 102]).size) (e : i = n) :
    Value.int .u8 (((ByteArray.mk #[48, 49, 50, 51, 52, 53, 54, 55, 56, 57, 97, 98, 99, 100, 101, 102])[i]'hi).toNat : Int) = bv (hexS n) := by
  subst e
  unfold bv
  rw [← hex_all ⟨i, h⟩]

end Go.Proofs.YtjnejbeeoepdnaaDoor
