/- Keys: put together, taken apart: plain facts. -/
import Derived.Test.YtonkfekjhbfelaaDoorKPrs
import Derived.Test.YtonkfekjhbfelaaDoorMath
namespace Go.Proofs.YtonkfekjhbfelaaDoor
open Go.RowKit

theorem kx_hexD_S : ∀ m : Fin 16, hexD (hexS m.val) = (m.val : Int) := by decide
theorem kx_hexB_S (c : UInt8) : hexB (hexS (c.toNat / 16)) (hexS (c.toNat % 16)) = c := by
  have hc := c.toNat_lt
  have h1 := kx_hexD_S ⟨c.toNat / 16, by omega⟩
  have h2 := kx_hexD_S ⟨c.toNat % 16, by omega⟩
  simp only at h1 h2
  unfold hexB
  rw [h1, h2, ← UInt8.toNat_inj, UInt8.toNat_ofNat']
  omega
theorem kx_unhexK_cons (a b : UInt8) (t : List UInt8) (k : Nat) : unhexK (a :: b :: t) (k + 1) = hexB a b :: unhexK t k := by
  unfold unhexK
  rw [List.range_succ_eq_map, List.map_cons, List.map_map]
  rfl
theorem kx_hexL_cons (c : UInt8) (t : List UInt8) : hexL (c :: t) = hexS (c.toNat / 16) :: hexS (c.toNat % 16) :: hexL t := rfl
theorem kx_unhex_hex : ∀ l : List UInt8, unhexK (hexL l) l.length = l ∧ hexOkK (hexL l) l.length
  | [] => ⟨rfl, fun j hj => by simp at hj⟩
  | c :: t => by
    obtain ⟨h1, h2⟩ := kx_unhex_hex t
    have hc := c.toNat_lt
    refine ⟨by rw [kx_hexL_cons, List.length_cons, kx_unhexK_cons, h1, kx_hexB_S], fun j hj => ?_⟩
    rw [kx_hexL_cons]
    cases j with
    | zero =>
      have h3 := kx_hexD_S ⟨c.toNat / 16, by omega⟩
      have h4 := kx_hexD_S ⟨c.toNat % 16, by omega⟩
      simp only at h3 h4
      simp only [List.getD_cons_zero, Nat.mul_zero, Nat.zero_add, List.getD_cons_succ]
      omega
    | succ j =>
      have := h2 j (by simpa using hj)
      rw [show 2 * (j + 1) = 2 * j + 1 + 1 by omega, List.getD_cons_succ, List.getD_cons_succ, List.getD_cons_succ, List.getD_cons_succ]
      exact this
theorem unhexF_hexL (g : List UInt8) : unhexF (hexL g) = g := by
  obtain ⟨h1, h2⟩ := kx_unhex_hex g
  have e : (hexL g).length / 2 = g.length := by rw [hexL_length]; omega
  unfold unhexF
  rw [if_pos ⟨by rw [hexL_length]; omega, by rw [e]; exact h2⟩, e, h1]
/-- No '/' in it. -/
def NoSl (l : List UInt8) : Prop := ∀ c ∈ l, c ≠ 47
theorem hexS_no : ∀ m : Fin 16, hexS m.val ≠ 47 := by decide
theorem hexL_no (g : List UInt8) : NoSl (hexL g) := by
  intro c hc
  unfold hexL at hc
  rw [List.mem_flatMap] at hc
  obtain ⟨d, _, hd⟩ := hc
  have := d.toNat_lt
  simp only [List.mem_cons, List.not_mem_nil, or_false] at hd
  rcases hd with rfl | rfl
  · exact hexS_no ⟨d.toNat / 16, by omega⟩
  · exact hexS_no ⟨d.toNat % 16, by omega⟩
theorem nameB_no47 {f : List UInt8} (h : nameB f = true) : NoSl f := by
  unfold nameB at h
  rw [Bool.and_eq_true] at h
  intro c hc e
  have := List.all_eq_true.1 h.1 c hc
  rw [e] at this
  revert this
  decide
theorem kdb_toNat (n j : Nat) : (db n j).toNat = 48 + n / 10 ^ j % 10 := by
  unfold db; rw [UInt8.toNat_ofNat']; omega
theorem digL_no (n wd : Nat) : NoSl (digL n wd) := by
  intro c hc e
  unfold digL at hc
  obtain ⟨j, _, rfl⟩ := List.mem_map.1 hc
  have := kdb_toNat n (wd - 1 - j)
  rw [e] at this
  simp at this
  omega
theorem digL_all (n : Nat) : ∀ wd, (digL n wd).all dgB = true
  | 0 => rfl
  | wd + 1 => by
    rw [digL_succ, List.all_cons, digL_all n wd]
    unfold dgB
    rw [kdb_toNat]
    simp
    omega
theorem valL_from (a : Nat) : ∀ s : List UInt8, s.foldl (fun a c => 10 * a + (c.toNat - 48)) a = a * 10 ^ s.length + valL s
  | [] => by simp [valL]
  | c :: t => by
    have e : valL (c :: t) = (10 * 0 + (c.toNat - 48)) * 10 ^ t.length + valL t := valL_from (10 * 0 + (c.toNat - 48)) t
    rw [List.foldl_cons, valL_from (10 * a + (c.toNat - 48)) t, e]
    simp only [List.length_cons, Nat.pow_succ, Nat.mul_zero, Nat.zero_add]
    rw [Nat.add_mul, Nat.add_assoc]
    congr 1
    rw [Nat.mul_comm 10 a, Nat.mul_assoc, Nat.mul_comm 10]
theorem valL_digL (n : Nat) : ∀ wd, valL (digL n wd) = n % 10 ^ wd
  | 0 => by simp [digL, valL, Nat.mod_one]
  | wd + 1 => by
    rw [digL_succ, valL, List.foldl_cons, valL_from, valL_digL n wd, digL_length, kdb_toNat, mod_succ]
    simp only [Nat.mul_zero, Nat.zero_add, Nat.add_sub_cancel_left]
    first | rfl | (rw [Nat.mul_comm, Nat.add_comm]) | (rw [Nat.add_comm, Nat.mul_comm])
theorem numF_digL (i : Int) (h0 : 0 ≤ i) (h1 : i ≤ 999999) : numF (digL i.toNat 6) = i := by
  have e6 : (10 : Nat) ^ 6 = 1000000 := by decide
  unfold numF
  rw [if_pos ⟨digL_length _ _, digL_all _ _⟩, valL_digL, e6, Nat.mod_eq_of_lt (by omega)]
  omega
theorem splitL_no : ∀ a : List UInt8, NoSl a → splitL a = [a]
  | [], _ => rfl
  | c :: t, h => by
    rw [splitL, if_neg (h c (by simp)), splitL_no t (fun x hx => h x (by simp [hx]))]
theorem splitL_join : ∀ a b : List UInt8, NoSl a → splitL (a ++ 47 :: b) = a :: splitL b
  | [], b, _ => by simp [splitL]
  | c :: t, b, h => by
    rw [List.cons_append, splitL, if_neg (h c (by simp)), splitL_join t b (fun x hx => h x (by simp [hx]))]
theorem split2 {a b : List UInt8} (ha : NoSl a) (hb : NoSl b) : splitL (a ++ 47 :: b) = [a, b] := by rw [splitL_join a b ha, splitL_no b hb]
theorem split3 {a b c : List UInt8} (ha : NoSl a) (hb : NoSl b) (hc : NoSl c) : splitL (a ++ 47 :: (b ++ 47 :: c)) = [a, b, c] := by rw [splitL_join a _ ha, split2 hb hc]
theorem split4 {a b c d : List UInt8} (ha : NoSl a) (hb : NoSl b) (hc : NoSl c) (hd : NoSl d) : splitL (a ++ 47 :: (b ++ 47 :: (c ++ 47 :: d))) = [a, b, c, d] := by rw [splitL_join a _ ha, split3 hb hc hd]
theorem nosl1 (c : UInt8) (h : c ≠ 47) : NoSl [c] := by intro x hx; rw [List.mem_singleton.1 hx]; exact h
/-- What a name's key is. -/
theorem underL_some {a b : List UInt8} (h : underL a b ≠ []) : a ≠ [] ∧ nameB b = true ∧ underL a b = a ++ b := by
  unfold underL at h ⊢
  split at h
  · exact absurd rfl h
  · next hn =>
    rw [if_neg hn]
    simp only [not_or] at hn
    exact ⟨hn.1, by simpa using hn.2, rfl⟩
theorem withinL_some {a b : List UInt8} (h : withinL a b ≠ []) : a ≠ [] ∧ nameB b = true ∧ withinL a b = a ++ (b ++ [47]) := by
  unfold withinL at h ⊢
  split at h
  · exact absurd rfl h
  · next hn =>
    rw [if_neg hn]
    obtain ⟨h1, h2, h3⟩ := underL_some hn
    exact ⟨h1, h2, by rw [h3, List.append_assoc]⟩
theorem numbL_some {a : List UInt8} {i : Int} (h : numbL a i ≠ []) : a ≠ [] ∧ 0 ≤ i ∧ i ≤ 999999 ∧ numbL a i = a ++ digL i.toNat 6 := by
  unfold numbL at h ⊢
  split at h
  · exact absurd rfl h
  · next hn =>
    rw [if_neg hn]
    simp only [not_or] at hn
    exact ⟨hn.1, by omega, by omega, rfl⟩
theorem guidL_some {f g : List UInt8} (h : guidL f g ≠ []) : nameB f = true ∧ guidL f g = 103 :: 47 :: (f ++ 47 :: hexL g) := by
  unfold guidL at h ⊢
  split at h
  · exact absurd rfl h
  · next hn =>
    rw [if_neg hn]
    simp only [not_or] at hn
    exact ⟨by simpa using hn.1, rfl⟩
theorem key_apart (k : Int) (u f n g : List UInt8) (i : Int) (h : keyL k u f n g i ≠ []) :
    ∃ p : Pa, partsF (splitL (keyL k u f n g i)) = p ∧ p.k = k ∧ keyP p = keyL k u f n g i := by
  unfold keyL at h ⊢
  by_cases h1 : k = 1
  · subst h1
    rw [if_pos rfl] at h ⊢
    obtain ⟨_, hb, e⟩ := underL_some h
    refine ⟨⟨1, [], f, [], [], 0⟩, ?_, rfl, rfl⟩
    rw [e, show ([102, 47] : List UInt8) ++ f = [102] ++ 47 :: f from rfl, split2 (nosl1 _ (by decide)) (nameB_no47 hb)]
    rfl
  rw [if_neg h1] at h ⊢
  by_cases h2 : k = 2
  · subst h2
    rw [if_pos rfl] at h ⊢
    obtain ⟨ha, h0, h9, e⟩ := numbL_some h
    obtain ⟨_, hb, e2⟩ := withinL_some ha
    refine ⟨⟨2, [], f, [], [], i⟩, ?_, rfl, rfl⟩
    rw [e, e2, show ([101, 47] : List UInt8) ++ (f ++ [47]) ++ digL i.toNat 6 = [101] ++ 47 :: (f ++ 47 :: digL i.toNat 6) by simp, split3 (nosl1 _ (by decide)) (nameB_no47 hb) (digL_no _ _)]
    show threeF [101] f (digL i.toNat 6) = _
    show (⟨2, [], f, [], [], numF (digL i.toNat 6)⟩ : Pa) = _
    rw [numF_digL i h0 h9]
  rw [if_neg h2] at h ⊢
  by_cases h3 : k = 3
  · subst h3
    rw [if_pos rfl] at h ⊢
    obtain ⟨hb, e⟩ := guidL_some h
    refine ⟨⟨3, [], f, [], g, 0⟩, ?_, rfl, rfl⟩
    rw [e, show (103 :: 47 :: (f ++ 47 :: hexL g) : List UInt8) = [103] ++ 47 :: (f ++ 47 :: hexL g) from rfl, split3 (nosl1 _ (by decide)) (nameB_no47 hb) (hexL_no _)]
    show (⟨3, [], f, [], unhexF (hexL g), 0⟩ : Pa) = _
    rw [unhexF_hexL]
  rw [if_neg h3] at h ⊢
  by_cases h4 : k = 4
  · subst h4
    rw [if_pos rfl] at h ⊢
    obtain ⟨ha, hb, e⟩ := underL_some h
    obtain ⟨_, hu, e2⟩ := withinL_some ha
    refine ⟨⟨4, u, f, [], [], 0⟩, ?_, rfl, rfl⟩
    rw [e, e2, show ([115, 47] : List UInt8) ++ (u ++ [47]) ++ f = [115] ++ 47 :: (u ++ 47 :: f) by simp, split3 (nosl1 _ (by decide)) (nameB_no47 hu) (nameB_no47 hb)]
    rfl
  rw [if_neg h4] at h ⊢
  by_cases h5 : k = 5
  · subst h5
    rw [if_pos rfl] at h ⊢
    obtain ⟨ha, hb, e⟩ := underL_some h
    obtain ⟨_, hu, e2⟩ := withinL_some ha
    refine ⟨⟨5, u, [], n, [], 0⟩, ?_, rfl, rfl⟩
    rw [e, e2, show ([100, 47] : List UInt8) ++ (u ++ [47]) ++ n = [100] ++ 47 :: (u ++ 47 :: n) by simp, split3 (nosl1 _ (by decide)) (nameB_no47 hu) (nameB_no47 hb)]
    rfl
  rw [if_neg h5] at h ⊢
  by_cases h6 : k = 6
  · subst h6
    rw [if_pos rfl] at h ⊢
    obtain ⟨ha, h0, h9, e⟩ := numbL_some h
    obtain ⟨hc, hf, e2⟩ := withinL_some ha
    obtain ⟨_, hu, e3⟩ := withinL_some hc
    refine ⟨⟨6, u, f, [], [], i⟩, ?_, rfl, rfl⟩
    rw [e, e2, e3, show ([114, 47] : List UInt8) ++ (u ++ [47]) ++ (f ++ [47]) ++ digL i.toNat 6 = [114] ++ 47 :: (u ++ 47 :: (f ++ 47 :: digL i.toNat 6)) by simp, split4 (nosl1 _ (by decide)) (nameB_no47 hu) (nameB_no47 hf) (digL_no _ _)]
    show (⟨6, u, f, [], [], numF (digL i.toNat 6)⟩ : Pa) = _
    rw [numF_digL i h0 h9]
  rw [if_neg h6] at h ⊢
  by_cases h7 : k = 7
  · subst h7
    rw [if_pos rfl] at h ⊢
    obtain ⟨ha, hb, e⟩ := underL_some h
    obtain ⟨_, hu, e2⟩ := withinL_some ha
    refine ⟨⟨7, u, f, [], [], 0⟩, ?_, rfl, rfl⟩
    rw [e, e2, show ([109, 47] : List UInt8) ++ (u ++ [47]) ++ f = [109] ++ 47 :: (u ++ 47 :: f) by simp, split3 (nosl1 _ (by decide)) (nameB_no47 hu) (nameB_no47 hb)]
    rfl
  rw [if_neg h7] at h
  exact absurd rfl h
theorem okF_key (k : Int) (u f n g : List UInt8) (i : Int) : okF (keyL k u f n g i) ↔ keyL k u f n g i ≠ [] := by
  refine ⟨fun h => h.1, fun h => ⟨h, ?_⟩⟩
  obtain ⟨p, e, _, e2⟩ := key_apart k u f n g i h
  rw [e, e2]
theorem keyL_len (k : Int) (u f n g : List UInt8) (i : Int) : (keyL k u f n g i).length ≤ 1100 := by
  have w1 := fun a b => withinL_len a b
  have w2 := fun a b => underL_len a b
  have w3 := fun a b => numbL_len a b
  unfold keyL
  repeat' split
  · have := w2 [102, 47] f; simp at this; omega
  · have := w3 (withinL [101, 47] f) i; have := w1 [101, 47] f; simp at this; omega
  · unfold guidL
    split
    · simp
    · next h =>
      simp only [not_or] at h
      have hb : nameB f = true := by simpa using h.1
      have := (nameB_len hb).2
      simp [hexL_length]; omega
  · have := w2 (withinL [115, 47] u) f; have := w1 [115, 47] u; simp at this; omega
  · have := w2 (withinL [100, 47] u) n; have := w1 [100, 47] u; simp at this; omega
  · have := w3 (withinL (withinL [114, 47] u) f) i; have := w1 (withinL [114, 47] u) f; have := w1 [114, 47] u; simp at this; omega
  · have := w2 (withinL [109, 47] u) f; have := w1 [109, 47] u; simp at this; omega
  · simp
end Go.Proofs.YtonkfekjhbfelaaDoor
