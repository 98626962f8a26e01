/- Layer 22: told tokens are read, and nothing else is, plainly. -/
import Derived.Test.YtfibplegbaanmaaDoorParse
namespace Go.Proofs.YtfibplegbaanmaaDoor
open Go.RowKit

theorem hexD_S : ∀ m : Fin 16, hexD (hexS m.val) = (m.val : Int) := by decide
theorem hexB_S (c : UInt8) : hexB (hexS (c.toNat / 16)) (hexS (c.toNat % 16)) = c := by
  have hc := c.toNat_lt
  have h1 := hexD_S ⟨c.toNat / 16, by omega⟩
  have h2 := hexD_S ⟨c.toNat % 16, by omega⟩
  simp only at h1 h2
  unfold hexB
  rw [h1, h2, ← UInt8.toNat_inj, UInt8.toNat_ofNat']
  omega
theorem unhexK_cons (a b : UInt8) (t : List UInt8) (k : Nat) : unhexK (a :: b :: t) (k + 1) = hexB a b :: unhexK t k := by
  unfold unhexK
  rw [List.range_succ_eq_map, List.map_cons, List.map_map]
  rfl
theorem hexL_cons (c : UInt8) (t : List UInt8) : hexL (c :: t) = hexS (c.toNat / 16) :: hexS (c.toNat % 16) :: hexL t := rfl
theorem unhex_hex : ∀ l : List UInt8, unhexK (hexL l) l.length = l ∧ hexOkK (hexL l) l.length
  | [] => ⟨rfl, fun j hj => by simp at hj⟩
  | c :: t => by
    obtain ⟨h1, h2⟩ := unhex_hex t
    have hc := c.toNat_lt
    refine ⟨by rw [hexL_cons, List.length_cons, unhexK_cons, h1, hexB_S], fun j hj => ?_⟩
    rw [hexL_cons]
    cases j with
    | zero =>
      have h3 := hexD_S ⟨c.toNat / 16, by omega⟩
      have h4 := hexD_S ⟨c.toNat % 16, by omega⟩
      simp only at h3 h4
      simp only [List.getD_cons_zero, Nat.mul_zero, Nat.zero_add, List.getD_cons_succ]
      omega
    | succ j =>
      have := h2 j (by simpa using hj)
      rw [show 2 * (j + 1) = 2 * j + 1 + 1 by omega, List.getD_cons_succ, List.getD_cons_succ, List.getD_cons_succ, List.getD_cons_succ]
      exact this

theorem putL_succ (n wd : Nat) : putL n (wd + 1) = putL (n / 256) wd ++ [UInt8.ofNat n] := by
  unfold putL
  rw [List.range_succ, List.map_append]
  congr 1
  · apply List.map_congr_left
    intro j hj
    have := List.mem_range.1 hj
    unfold pb
    rw [Nat.div_div_eq_div_mul, show wd + 1 - 1 - j = (wd - 1 - j) + 1 by omega, Nat.pow_succ, Nat.mul_comm 256]
  · simp [pb]
theorem numL_putL : ∀ (wd n : Nat), n < 256 ^ wd → numL (putL n wd) = n
  | 0, n, h => by simp at h; subst h; rfl
  | wd + 1, n, h => by
    rw [putL_succ, numL_snoc, numL_putL wd (n / 256) (by rw [Nat.pow_succ] at h; omega), UInt8.toNat_ofNat']
    omega

theorem UL_hex (m l : List UInt8) (h : UL (hexL m) l) : l = m := by
  have hl := hexL_length m
  have hu := unhex_hex m
  rcases h with ⟨_, _, rfl⟩ | ⟨h, _⟩
  · rw [hl, show 2 * m.length / 2 = m.length by omega]; exact hu.1
  · exfalso
    rcases h with h | h
    · omega
    · rw [hl, show 2 * m.length / 2 = m.length by omega] at h
      exact h hu.2
theorem numR_at (l : List UInt8) (p n : Nat) (rest : List UInt8) (h : l.drop p = varL n ++ rest) (hn : n ≤ 72057594037927935) : numR l p false = (n, p + (varL n).length, false) := by
  have hr := rv_varL rest 8 n p 0 0 (varL_len 7 n (by omega)) (.inl rfl)
  rw [← h] at hr
  rw [numR, hr, if_neg (by simp)]
  simp
theorem textR_at (l : List UInt8) (p : Nat) (u rest : List UInt8) (h : l.drop p = varL u.length ++ (u ++ rest)) (hn : u.length ≤ 72057594037927935) : textR l p false = (u, p + (varL u.length).length + u.length, false) := by
  have hr := numR_at l p u.length (u ++ rest) h hn
  have hd : l.drop (p + (varL u.length).length) = u ++ rest := by rw [← List.drop_drop, h, List.drop_left]
  have hlen := congrArg List.length hd
  rw [List.length_drop, List.length_append] at hlen
  rw [textR, hr]
  simp only
  by_cases hz : l.length < p + (varL u.length).length + u.length
  · have hl2 := congrArg List.length h
    rw [List.length_drop, List.length_append, List.length_append] at hl2
    have hvp := varL_pos u.length
    omega
  · rw [if_neg hz, hd, List.take_left]
theorem tokOf_body (u k c : List UInt8) (f t : Nat) (hf : f ≤ 72057594037927935) (ht : t ≤ 72057594037927935) (hu : u.length ≤ 1000) (hk : k.length ≤ 1000) : tokOf (bodyT u f t k ++ c) = (u, f, t, k) := by
  have h1 : (bodyT u f t k ++ c).drop 0 = varL f ++ (varL t ++ (varL u.length ++ (u ++ (varL k.length ++ (k ++ c))))) := by simp [bodyT]
  have r1 := numR_at _ 0 f _ h1 hf
  have h2 : (bodyT u f t k ++ c).drop (0 + (varL f).length) = varL t ++ (varL u.length ++ (u ++ (varL k.length ++ (k ++ c)))) := by rw [← List.drop_drop, h1, List.drop_left]
  have r2 := numR_at _ _ t _ h2 ht
  have h3 : (bodyT u f t k ++ c).drop (0 + (varL f).length + (varL t).length) = varL u.length ++ (u ++ (varL k.length ++ (k ++ c))) := by rw [← List.drop_drop, h2, List.drop_left]
  have r3 := textR_at _ _ u _ h3 (by omega)
  have h4 : (bodyT u f t k ++ c).drop (0 + (varL f).length + (varL t).length + (varL u.length).length + u.length) = varL k.length ++ (k ++ c) := by
    rw [← List.drop_drop, ← List.drop_drop, h3, List.drop_left, List.drop_left]
  have r4 := textR_at _ _ k _ h4 (by omega)
  unfold tokOf
  simp only [r1, r2, r3, r4]
theorem body_tail {u u2 k k2 x y : List UInt8} {f f2 t t2 : Nat} (hf : f ≤ 72057594037927935) (hf2 : f2 ≤ 72057594037927935) (ht : t ≤ 72057594037927935) (ht2 : t2 ≤ 72057594037927935) (hu : u.length ≤ 1000) (hu2 : u2.length ≤ 1000) (hk : k.length ≤ 1000) (hk2 : k2.length ≤ 1000)
    (h : bodyT u f t k ++ x = bodyT u2 f2 t2 k2 ++ y) : bodyT u f t k = bodyT u2 f2 t2 k2 ∧ x = y := by
  have h' := h
  unfold bodyT at h
  simp only [List.append_assoc] at h
  obtain ⟨e1, h⟩ := varL_cat _ _ _ _ hf hf2 h
  obtain ⟨e2, h⟩ := varL_cat _ _ _ _ ht ht2 h
  obtain ⟨e3, h⟩ := varL_cat _ _ _ _ (by omega) (by omega) h
  obtain ⟨e4, h⟩ := List.append_inj h e3
  obtain ⟨e5, h⟩ := varL_cat _ _ _ _ (by omega) (by omega) h
  obtain ⟨e6, h⟩ := List.append_inj h e5
  subst e1 e2 e4 e6
  exact ⟨rfl, List.append_cancel_left h'⟩
theorem hexL_take : ∀ (n : Nat) (l : List UInt8), (hexL l).take (2 * n) = hexL (l.take n)
  | 0, l => by simp [hexL]
  | n + 1, [] => by simp [hexL]
  | n + 1, c :: t => by
    rw [hexL_cons, show 2 * (n + 1) = 2 * n + 1 + 1 by omega, List.take_succ_cons, List.take_succ_cons, hexL_take n t, List.take_succ_cons, hexL_cons]
/-- What a token's text is made of. -/
theorem text_form (u : List UInt8) (f t : Nat) (k : List UInt8) : ∃ m, textT u f t k = hexL m ∧ m = bodyT u f t k ++ putL (crcN (bodyT u f t k)) 4 := ⟨_, rfl, rfl⟩
theorem no_cut {u u2 k k2 : List UInt8} {f f2 t t2 c : Nat} (hf : f ≤ 72057594037927935) (hf2 : f2 ≤ 72057594037927935) (ht : t ≤ 72057594037927935) (ht2 : t2 ≤ 72057594037927935) (hu : u.length ≤ 1000) (hu2 : u2.length ≤ 1000) (hk : k.length ≤ 1000) (hk2 : k2.length ≤ 1000)
    (hc : c < (textT u f t k).length) : textT u2 f2 t2 k2 ≠ (textT u f t k).take c := by
  intro h
  obtain ⟨m, e1, e2⟩ := text_form u f t k
  obtain ⟨m2, d1, d2⟩ := text_form u2 f2 t2 k2
  rw [e1] at h hc
  rw [d1] at h
  have hl := congrArg List.length h
  rw [hexL_length, List.length_take, hexL_length] at hl
  rw [hexL_length] at hc
  have hc2 : c = 2 * m2.length := by omega
  rw [hc2, hexL_take] at h
  have h2 := hexL_inj _ _ h
  have h3 : m2 ++ m.drop m2.length = m := by
    conv => lhs; rw [h2]
    have : (m.take m2.length).length = m2.length := by rw [List.length_take]; omega
    rw [this, List.take_append_drop]
  rw [e2, d2, List.append_assoc] at h3
  obtain ⟨h4, h5⟩ := body_tail hf2 hf ht2 ht hu2 hu hk2 hk h3
  have h6 := congrArg List.length h5
  rw [List.length_append, putL_length, putL_length, List.length_drop] at h6
  have h7 : (bodyT u2 f2 t2 k2 ++ putL (crcN (bodyT u2 f2 t2 k2)) 4).length = m2.length := by rw [d2]
  have h8 : (bodyT u f t k ++ putL (crcN (bodyT u f t k)) 4).length = m.length := by rw [e2]
  rw [h7, h8] at h6
  omega
theorem no_more {u u2 k k2 : List UInt8} {f f2 t t2 : Nat} (hf : f ≤ 72057594037927935) (hf2 : f2 ≤ 72057594037927935) (ht : t ≤ 72057594037927935) (ht2 : t2 ≤ 72057594037927935) (hu : u.length ≤ 1000) (hu2 : u2.length ≤ 1000) (hk : k.length ≤ 1000) (hk2 : k2.length ≤ 1000) :
    textT u2 f2 t2 k2 ≠ textT u f t k ++ [48, 48] := by
  intro h
  have h1 : hexL [0] = [48, 48] := by decide
  unfold textT at h
  rw [← h1, ← hexL_app] at h
  have h2 := hexL_inj _ _ h
  rw [List.append_assoc] at h2
  obtain ⟨_, h3⟩ := body_tail hf2 hf ht2 ht hu2 hu hk2 hk h2
  have := congrArg List.length h3
  rw [List.length_append, putL_length, putL_length] at this
  simp at this
theorem hexL_get : ∀ (l : List UInt8) (i : Nat), (hexL l)[2 * i]? = l[i]?.map (fun c => hexS (c.toNat / 16)) ∧ (hexL l)[2 * i + 1]? = l[i]?.map (fun c => hexS (c.toNat % 16))
  | [], i => by simp [hexL]
  | c :: t, 0 => by rw [hexL_cons]; simp
  | c :: t, i + 1 => by
    have := hexL_get t i
    rw [hexL_cons, show 2 * (i + 1) = 2 * i + 1 + 1 by omega]
    simpa using this
/-- A digit turned turns one byte. -/
theorem hexL_set (m m2 : List UInt8) (k : Nat) (d : UInt8) (h : hexL m = (hexL m2).set k d) (hk : k < (hexL m2).length) (hd : (hexL m2)[k]? ≠ some d) :
    ∃ j c, j < m2.length ∧ m2[j]? ≠ some c ∧ m = m2.set j c := by
  rw [hexL_length] at hk
  have hl := congrArg List.length h
  rw [List.length_set, hexL_length, hexL_length] at hl
  have hj : k / 2 < m2.length := by omega
  have hjm : k / 2 < m.length := by omega
  have hsame : ∀ i, i ≠ k / 2 → m[i]? = m2[i]? := by
    intro i hi
    by_cases hil : i < m2.length
    · have g1 := hexL_get m i
      have g2 := hexL_get m2 i
      have n0 : (hexL m)[2 * i]? = (hexL m2)[2 * i]? := by rw [h, List.getElem?_set_ne (by omega)]
      have n1 : (hexL m)[2 * i + 1]? = (hexL m2)[2 * i + 1]? := by rw [h, List.getElem?_set_ne (by omega)]
      rw [g1.1, g2.1] at n0
      rw [g1.2, g2.2] at n1
      have him : i < m.length := by omega
      rw [List.getElem?_eq_getElem hil, List.getElem?_eq_getElem him] at n0 n1 ⊢
      simp only [Option.map_some, Option.some.injEq] at n0 n1 ⊢
      have c1 := m[i].toNat_lt
      have c2 := m2[i].toNat_lt
      have e1 := hexS_inj ⟨m[i].toNat / 16, by omega⟩ ⟨m2[i].toNat / 16, by omega⟩ n0
      have e2 := hexS_inj ⟨m[i].toNat % 16, by omega⟩ ⟨m2[i].toNat % 16, by omega⟩ n1
      simp only [Fin.mk.injEq] at e1 e2
      exact UInt8.toNat_inj.1 (by omega)
    · rw [List.getElem?_eq_none (by omega), List.getElem?_eq_none (by omega)]
  refine ⟨k / 2, m[k / 2], hj, ?_, ?_⟩
  · intro he
    apply hd
    have hmm : m = m2 := by
      apply List.ext_getElem?
      intro i
      by_cases hi : i = k / 2
      · rw [hi, he, List.getElem?_eq_getElem hjm]
      · exact hsame i hi
    have : (hexL m)[k]? = some d := by rw [h, List.getElem?_set_self (by rw [hexL_length]; exact hk)]
    rw [← hmm]; exact this
  · apply List.ext_getElem?
    intro i
    by_cases hi : i = k / 2
    · subst hi
      rw [List.getElem?_set_self hj, List.getElem?_eq_getElem hjm]
    · rw [List.getElem?_set_ne (by omega)]
      exact hsame i hi
theorem putL_inj (a b : Nat) (ha : a < 4294967296) (hb : b < 4294967296) (h : putL a 4 = putL b 4) : a = b := by
  have h1 := numL_putL 4 a (by omega)
  have h2 := numL_putL 4 b (by omega)
  rw [h, h2] at h1
  exact h1.symm
theorem no_turn {u u2 k k2 : List UInt8} {f f2 t t2 i : Nat} {d : UInt8} (hi : i < (textT u f t k).length) (hd : (textT u f t k)[i]? ≠ some d) : textT u2 f2 t2 k2 ≠ (textT u f t k).set i d := by
  intro h
  obtain ⟨m, e1, e2⟩ := text_form u f t k
  obtain ⟨m2, d1, d2⟩ := text_form u2 f2 t2 k2
  rw [e1] at h hi hd
  rw [d1] at h
  obtain ⟨j, c, hj, hne, hm⟩ := hexL_set m2 m i d h hi hd
  obtain ⟨B, hB⟩ : ∃ B, B = bodyT u f t k := ⟨_, rfl⟩
  obtain ⟨B2, hB2⟩ : ∃ B2, B2 = bodyT u2 f2 t2 k2 := ⟨_, rfl⟩
  rw [← hB] at e2
  rw [← hB2] at d2
  have hl := congrArg List.length hm
  rw [List.length_set, d2, e2, List.length_append, List.length_append, putL_length, putL_length] at hl
  have hBl : B2.length = B.length := by omega
  rw [e2, List.length_append, putL_length] at hj
  by_cases hjb : j < B.length
  · have hs : m.set j c = B.set j c ++ putL (crcN B) 4 := by rw [e2, List.set_append_left _ _ hjb]
    rw [hs, d2] at hm
    obtain ⟨g1, g2⟩ := List.append_inj hm (by rw [List.length_set]; exact hBl)
    have g3 := putL_inj _ _ (crcN_lt _) (crcN_lt _) g2
    rw [g1] at g3
    refine crc_turn B j hjb c ?_ g3
    intro hc
    apply hne
    rw [e2, List.getElem?_append_left hjb, List.getElem?_eq_getElem hjb, hc]
  · have hs : m.set j c = B ++ (putL (crcN B) 4).set (j - B.length) c := by rw [e2, List.set_append_right _ _ (by omega)]
    rw [hs, d2] at hm
    obtain ⟨g1, g2⟩ := List.append_inj hm hBl
    rw [g1] at g2
    apply hne
    rw [e2, List.getElem?_append_right (by omega), g2, List.getElem?_set_self (by rw [putL_length]; omega)]
end Go.Proofs.YtfibplegbaanmaaDoor
