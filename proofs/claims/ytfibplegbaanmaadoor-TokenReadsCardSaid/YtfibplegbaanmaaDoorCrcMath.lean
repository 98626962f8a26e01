/- The check sum, plainly: no condition. -/
import Derived.Test.YtfibplegbaanmaaDoorKit
namespace Go.Proofs.YtfibplegbaanmaaDoor
open Go.RowKit

def nibs : List Nat := [0, 498536548, 997073096, 651767980, 1994146192, 1802195444, 1303535960, 1342533948, 3988292384, 4027552580, 3604390888, 3412177804, 2607071920, 2262029012, 2685067896, 3183342108]
def nib (i : Nat) : Nat := nibs.getD i 0
/-- Four bits go by. -/
def crcG (s : Nat) : Nat := (s >>> 4) ^^^ nib (s &&& 15)
/-- A byte goes by. -/
def crcF (s : Nat) (c : UInt8) : Nat := crcG (crcG (s ^^^ c.toNat))
def crcS (l : List UInt8) : Nat := l.foldl crcF 4294967295
def crcN (l : List UInt8) : Nat := 4294967295 ^^^ crcS l

theorem nib_all : ∀ i : Fin 16, nib i.val < 4294967296 := by decide
theorem nib_lt (i : Nat) (h : i < 16) : nib i < 4294967296 := nib_all ⟨i, h⟩
theorem and15_lt (s : Nat) : s &&& 15 < 16 := by
  have := Nat.and_le_right (n := s) (m := 15); omega
theorem xor_lt (a b : Nat) (ha : a < 4294967296) (hb : b < 4294967296) : a ^^^ b < 4294967296 := Nat.xor_lt_two_pow (n := 32) ha hb
theorem crcG_lt (s : Nat) (h : s < 4294967296) : crcG s < 4294967296 := by
  refine xor_lt _ _ ?_ (nib_lt _ (and15_lt s))
  rw [Nat.shiftRight_eq_div_pow]; omega
theorem crcF_lt (s : Nat) (c : UInt8) (h : s < 4294967296) : crcF s c < 4294967296 :=
  crcG_lt _ (crcG_lt _ (xor_lt _ _ h (by have := c.toNat_lt; omega)))
theorem crcFold_lt : ∀ (l : List UInt8) (s : Nat), s < 4294967296 → l.foldl crcF s < 4294967296
  | [], _, h => h
  | c :: l, s, h => crcFold_lt l _ (crcF_lt s c h)
theorem crcS_lt (l : List UInt8) : crcS l < 4294967296 := crcFold_lt l _ (by decide)
theorem crcN_lt (l : List UInt8) : crcN l < 4294967296 := xor_lt _ _ (by decide) (crcS_lt l)
theorem crcS_snoc (l : List UInt8) (c : UInt8) : crcS (l ++ [c]) = crcF (crcS l) c := by simp [crcS, List.foldl_append]

theorem nib_xor_all : ∀ i j : Fin 16, nib (i.val ^^^ j.val) = nib i.val ^^^ nib j.val := by decide
theorem nib_xor (i j : Nat) (hi : i < 16) (hj : j < 16) : nib (i ^^^ j) = nib i ^^^ nib j := nib_xor_all ⟨i, hi⟩ ⟨j, hj⟩
theorem xor4 (a b c d : Nat) : (a ^^^ b) ^^^ (c ^^^ d) = (a ^^^ c) ^^^ (b ^^^ d) := by
  rw [Nat.xor_assoc, Nat.xor_assoc, ← Nat.xor_assoc b c d, Nat.xor_comm b c, Nat.xor_assoc c b d]
theorem crcG_xor (s t : Nat) : crcG (s ^^^ t) = crcG s ^^^ crcG t := by
  unfold crcG
  rw [Nat.shiftRight_xor_distrib, Nat.and_xor_distrib_right, nib_xor _ _ (and15_lt s) (and15_lt t)]
  exact xor4 _ _ _ _
theorem crcF_xor (s t : Nat) (c d : UInt8) : crcF (s ^^^ t) (c ^^^ d) = crcF s c ^^^ crcF t d := by
  unfold crcF
  rw [UInt8.toNat_xor, xor4, crcG_xor, crcG_xor]

theorem nib_top : ∀ i j : Fin 16, nib i.val >>> 28 = nib j.val >>> 28 → i = j := by decide
theorem crcG_inj (s t : Nat) (hs : s < 4294967296) (ht : t < 4294967296) (h : crcG s = crcG t) : s = t := by
  have a := congrArg (· >>> 28) h
  unfold crcG at a h
  simp only [Nat.shiftRight_xor_distrib] at a
  have z1 : s >>> 4 >>> 28 = 0 := by rw [← Nat.shiftRight_add, Nat.shiftRight_eq_div_pow]; exact Nat.div_eq_of_lt hs
  have z2 : t >>> 4 >>> 28 = 0 := by rw [← Nat.shiftRight_add, Nat.shiftRight_eq_div_pow]; exact Nat.div_eq_of_lt ht
  rw [z1, z2, Nat.zero_xor, Nat.zero_xor] at a
  have e := nib_top ⟨s &&& 15, and15_lt s⟩ ⟨t &&& 15, and15_lt t⟩ a
  have e' : s &&& 15 = t &&& 15 := by simpa using e
  rw [e'] at h
  have h4 : s >>> 4 = t >>> 4 := by
    have := congrArg (· ^^^ nib (t &&& 15)) h
    simpa [Nat.xor_assoc] using this
  rw [Nat.shiftRight_eq_div_pow, Nat.shiftRight_eq_div_pow] at h4
  rw [show (15 : Nat) = 2 ^ 4 - 1 from rfl, Nat.and_two_pow_sub_one_eq_mod, Nat.and_two_pow_sub_one_eq_mod] at e'
  omega
theorem crcF_inj (s t : Nat) (c d : UInt8) (hs : s < 4294967296) (ht : t < 4294967296) (h : crcF s c = crcF t d) : s ^^^ c.toNat = t ^^^ d.toNat := by
  have hc := c.toNat_lt
  have hd := d.toNat_lt
  have h1 := xor_lt s c.toNat hs (by omega)
  have h2 := xor_lt t d.toNat ht (by omega)
  exact crcG_inj _ _ h1 h2 (crcG_inj _ _ (crcG_lt _ h1) (crcG_lt _ h2) h)
theorem crcFold_inj : ∀ (l : List UInt8) (s t : Nat), s < 4294967296 → t < 4294967296 → l.foldl crcF s = l.foldl crcF t → s = t
  | [], _, _, _, _, h => h
  | c :: l, s, t, hs, ht, h => by
    have := crcF_inj s t c c hs ht (crcFold_inj l _ _ (crcF_lt s c hs) (crcF_lt t c ht) h)
    have := congrArg (· ^^^ c.toNat) this
    simpa [Nat.xor_assoc] using this

/-- The walk's own spelling. -/
theorem crc_step1 (s : Nat) (c : UInt8) (hs : s < 4294967296) : bits .xor .u32 (s : Int) (c.toNat : Int) = ((s ^^^ c.toNat : Nat) : Int) :=
  u32_xor_nat _ _ hs (by have := c.toNat_lt; omega)
theorem crc_and (s : Nat) (hs : s < 4294967296) : bits .and .u32 (s : Int) 15 = ((s &&& 15 : Nat) : Int) :=
  u32_and_nat s 15 hs (by decide)
theorem crc_step2 (s : Nat) (hs : s < 4294967296) : bits .xor .u32 ((s : Int) / 16) ((nib (s &&& 15) : Nat) : Int) = ((crcG s : Nat) : Int) := by
  have : ((s : Int) / (16 : Int)) = ((s >>> 4 : Nat) : Int) := by rw [Nat.shiftRight_eq_div_pow]; omega
  rw [this, u32_xor_nat _ _ (by rw [Nat.shiftRight_eq_div_pow]; omega) (nib_lt _ (and15_lt s))]
  rfl
theorem xor_ones (s : Nat) (hs : s < 4294967296) : 4294967295 ^^^ s = 4294967295 - s := by
  apply Nat.eq_of_testBit_eq
  intro i
  rw [Nat.testBit_xor, show (4294967295 : Nat) - s = 2 ^ 32 - (s + 1) by omega, Nat.testBit_two_pow_sub_succ hs, show (4294967295 : Nat) = 2 ^ 32 - 1 from rfl, Nat.testBit_two_pow_sub_one]
  by_cases h : i < 32
  · simp [h]
  · have h32 : 2 ^ 32 ≤ 2 ^ i := Nat.pow_le_pow_right (by decide) (by omega)
    have : s.testBit i = false := Nat.testBit_lt_two_pow (Nat.lt_of_lt_of_le hs h32)
    simp [h, this]

def xor3 (a b c : List UInt8) (n : Nat) : List UInt8 := (List.range n).map fun j => a.getD j 0 ^^^ b.getD j 0 ^^^ c.getD j 0
def xorK (a b c : List UInt8) (n k : Nat) : List UInt8 := (List.range n).map fun j => if j < k then a.getD j 0 ^^^ b.getD j 0 ^^^ c.getD j 0 else 0
theorem xorK_length (a b c : List UInt8) (n k : Nat) : (xorK a b c n k).length = n := by simp [xorK]
theorem xorK_zero (a b c : List UInt8) (n : Nat) : xorK a b c n 0 = List.replicate n 0 := by
  apply List.ext_getElem <;> simp [xorK]
theorem xorK_all (a b c : List UInt8) (n : Nat) : xorK a b c n n = xor3 a b c n := by
  apply List.ext_getElem
  · simp [xorK, xor3]
  · intro i h1 h2
    simp [xorK] at h1
    simp [xorK, xor3, h1]
theorem xorK_step (a b c : List UInt8) (n k : Nat) : (xorK a b c n k).set k (a.getD k 0 ^^^ b.getD k 0 ^^^ c.getD k 0) = xorK a b c n (k + 1) := by
  apply List.ext_getElem
  · simp [xorK]
  · intro i h1 h2
    simp only [xorK, List.getElem_set, List.getElem_map, List.getElem_range]
    by_cases e : k = i
    · subst e; simp
    · by_cases e2 : i < k
      · have : i < k + 1 := by omega
        simp [e, e2, this]
      · have : ¬ i < k + 1 := by omega
        simp [e, e2, this]
theorem crcS_xor3 (a b c : List UInt8) : ∀ n, n ≤ a.length → n ≤ b.length → n ≤ c.length → crcS (xor3 a b c n) = crcS (a.take n) ^^^ crcS (b.take n) ^^^ crcS (c.take n)
  | 0, _, _, _ => by simp [xor3, crcS]
  | n + 1, ha, hb, hc => by
    have ih := crcS_xor3 a b c n (by omega) (by omega) (by omega)
    have e : xor3 a b c (n + 1) = xor3 a b c n ++ [a.getD n 0 ^^^ b.getD n 0 ^^^ c.getD n 0] := by unfold xor3; rw [List.range_succ, List.map_append]; rfl
    have t (l : List UInt8) (h : n + 1 ≤ l.length) : l.take (n + 1) = l.take n ++ [l.getD n 0] := by
      rw [List.take_succ_eq_append_getElem (by omega)]
      simp [List.getD, List.getElem?_eq_getElem (show n < l.length by omega)]
    rw [e, crcS_snoc, ih, crcF_xor, crcF_xor, t a ha, t b hb, t c hc, crcS_snoc, crcS_snoc, crcS_snoc]
theorem crcN_xor3 (a b c : List UInt8) (hb : b.length = a.length) (hc : c.length = a.length) : crcN (xor3 a b c a.length) = crcN a ^^^ crcN b ^^^ crcN c := by
  have h := crcS_xor3 a b c a.length (Nat.le_refl _) (by omega) (by omega)
  rw [List.take_length, ← hb, List.take_length, hb, ← hc, List.take_length, hc] at h
  unfold crcN
  rw [h, xor4 4294967295 (crcS a) 4294967295 (crcS b), Nat.xor_self, Nat.zero_xor]
  rw [← Nat.xor_assoc (crcS a ^^^ crcS b) 4294967295, Nat.xor_comm (crcS a ^^^ crcS b) 4294967295]
  simp only [Nat.xor_assoc]
theorem crcS_append (l m : List UInt8) : crcS (l ++ m) = m.foldl crcF (crcS l) := by simp [crcS, List.foldl_append]
theorem crc_turn (l : List UInt8) (p : Nat) (hp : p < l.length) (d : UInt8) (hd : d ≠ l[p]) : crcN (l.set p d) ≠ crcN l := by
  intro h
  have h1 : crcS (l.set p d) = crcS l := by
    have := congrArg (4294967295 ^^^ ·) h
    simpa [crcN, ← Nat.xor_assoc] using this
  have e1 : l.set p d = l.take p ++ d :: l.drop (p + 1) := List.set_eq_take_append_cons_drop.trans (if_pos hp)
  have e2 : l = l.take p ++ l[p] :: l.drop (p + 1) := by
    conv => lhs; rw [← List.take_append_drop p l, List.drop_eq_getElem_cons hp]
  rw [e1] at h1
  conv at h1 => rhs; rw [e2]
  rw [crcS_append, crcS_append, List.foldl_cons, List.foldl_cons] at h1
  have hs := crcS_lt (l.take p)
  have h2 := crcFold_inj _ _ _ (crcF_lt _ _ hs) (crcF_lt _ _ hs) h1
  have h3 := crcF_inj _ _ _ _ hs hs h2
  have h4 := congrArg (crcS (l.take p) ^^^ ·) h3
  simp only [← Nat.xor_assoc, Nat.xor_self, Nat.zero_xor] at h4
  exact hd (UInt8.toNat_inj.1 h4)
end Go.Proofs.YtfibplegbaanmaaDoor
