/- hblref20's ParseToken, by its contract. -/
import Derived.Test.YtfibplegbaanmaaDoorRTPrint
import Derived.Test.YtfibplegbaanmaaDoorRefUnhex
import Derived.Test.YtfibplegbaanmaaDoorTokMath
namespace Go.Proofs.YtfibplegbaanmaaDoor
open Go.RowKit

/-- What ParseToken tells. -/
def TPost (s : List UInt8) (e : Ending) : Prop :=
  (∃ (u k : List UInt8) (f t : Nat), mayB u (f : Int) (t : Int) k = true ∧ textT u f t k = s ∧ e = .returned (.tuple #[tok u (f : Int) (t : Int) k, .int .i64 0])) ∨
  ((∀ (u k : List UInt8) (f t : Nat), mayB u (f : Int) (t : Int) k = true → textT u f t k ≠ s) ∧ e = .returned (.tuple #[tok [] 0 0 [], .int .i64 14]))
theorem rv_at (L : List UInt8) (p n : Nat) (rest : List UInt8) (h : L.drop p = varL n ++ rest) (hn : n ≤ 72057594037927935) : rv 8 (L.drop p) p 0 0 = (n, p + (varL n).length, 0) := by
  rw [h, rv_varL rest 8 n p 0 0 (varL_len 7 n (by omega)) (.inl rfl)]
  simp
/-- A token's bytes are read so. -/
theorem read_told (u k c L : List UInt8) (f t : Nat) (hf : f ≤ 72057594037927935) (ht : t ≤ 72057594037927935) (hu : u.length ≤ 1000) (hk : k.length ≤ 1000) (hL : L = bodyT u f t k ++ c)
    (n1 p1 e1 n2 p2 e2 n3 p3 e3 n4 p4 e4 : Nat) (h1 : rv 8 (L.drop 0) 0 0 0 = (n1, p1, e1)) (h2 : rv 8 (L.drop p1) p1 0 0 = (n2, p2, e2)) (h3 : rv 8 (L.drop p2) p2 0 0 = (n3, p3, e3)) (h4 : rv 8 (L.drop (p3 + n3)) (p3 + n3) 0 0 = (n4, p4, e4)) :
    n1 = f ∧ e1 = 0 ∧ n2 = t ∧ e2 = 0 ∧ e3 = 0 ∧ p3 + n3 ≤ L.length ∧ (L.drop p3).take n3 = u ∧ e4 = 0 ∧ p4 + n4 ≤ L.length ∧ (L.drop p4).take n4 = k := by
  have d0 : L.drop 0 = varL f ++ (varL t ++ (varL u.length ++ (u ++ (varL k.length ++ (k ++ c))))) := by rw [hL]; simp [bodyT]
  have r1 := rv_at L 0 f _ d0 hf
  rw [h1] at r1
  simp only [Prod.mk.injEq] at r1
  obtain ⟨rfl, e1', rfl⟩ := r1
  have d1 : L.drop p1 = varL t ++ (varL u.length ++ (u ++ (varL k.length ++ (k ++ c)))) := by rw [e1', ← List.drop_drop, d0, List.drop_left]
  have r2 := rv_at L p1 t _ d1 ht
  rw [h2] at r2
  simp only [Prod.mk.injEq] at r2
  obtain ⟨rfl, e2', rfl⟩ := r2
  have d2 : L.drop p2 = varL u.length ++ (u ++ (varL k.length ++ (k ++ c))) := by rw [e2', ← List.drop_drop, d1, List.drop_left]
  have r3 := rv_at L p2 u.length _ d2 (by omega)
  rw [h3] at r3
  simp only [Prod.mk.injEq] at r3
  obtain ⟨e3n, e3', rfl⟩ := r3
  have d3 : L.drop p3 = u ++ (varL k.length ++ (k ++ c)) := by rw [e3', ← List.drop_drop, d2, List.drop_left]
  have d4 : L.drop (p3 + n3) = varL k.length ++ (k ++ c) := by rw [← List.drop_drop, d3, e3n, List.drop_left]
  have r4 := rv_at L (p3 + n3) k.length _ d4 (by omega)
  rw [h4] at r4
  simp only [Prod.mk.injEq] at r4
  obtain ⟨e4n, e4', rfl⟩ := r4
  have d5 : L.drop p4 = k ++ c := by rw [e4', ← List.drop_drop, d4, List.drop_left]
  have l3 := congrArg List.length d3
  have l5 := congrArg List.length d5
  have l4 := congrArg List.length d4
  have v4 := varL_pos k.length
  simp only [List.length_drop, List.length_append] at l3 l4 l5
  refine ⟨rfl, rfl, rfl, rfl, rfl, by omega, by rw [d3, e3n, List.take_left], rfl, by omega, by rw [d5, e4n, List.take_left]⟩
theorem hex_of (s m : List UInt8) (h : hexL m = s) : s.length % 2 = 0 ∧ hexOkK s (s.length / 2) ∧ unhexK s (s.length / 2) = m := by
  obtain ⟨h1, h2⟩ := unhex_hex' m
  have hl := hexL_length m
  rw [h] at hl h1 h2
  have e : s.length / 2 = m.length := by omega
  rw [e]
  exact ⟨by omega, h2, h1⟩
set_option maxRecDepth 100000 in
set_option maxHeartbeats 40000000 in
theorem tparse_any (s : List UInt8) (w : World) (hl : s.length ≤ 3000) : Calls Tryd.prog 11 #[str s] w fun e w' => TPost s e ∧ Below w.heap.size w w' := by
  obtain ⟨W, hW⟩ : ∃ W, W = w.alloc (.cells #[str [], .int .i64 0, .int .i64 0, str []] 28) := ⟨_, rfl⟩
  have HB : Hid (Below w.heap.size w W) := Lib.hid (by rw [hW]; exact below_alloc w _)
  have hk := TK.made w [] [] 0 0 28
  rw [← hW] at hk
  have HK := Lib.hid hk
  have CU := Lib.hid (refUnhex_any s W (by omega))
  clear hk
  go_enter Tryd.func11, Tryd.ntmps11
  go_wp2_with fail
  simp only [← hW]
  clear hW
  refine CU.out.mono ?_
  rintro e w1 ⟨hb1, hres⟩
  have HK1 := Lib.hid (HK.out.below hb1 HK.out.lt)
  have HB1 := Lib.hid (HB.out.trans (hb1.mono HB.out.size))
  clear hb1 HK HB CU
  rcases hres with ⟨v, rfl, he, hok, ho⟩ | ⟨rfl, hbad⟩
  case inr =>
    have HNO : Hid (∀ (u k : List UInt8) (f t : Nat), mayB u (f : Int) (t : Int) k = true → textT u f t k ≠ s) := Lib.hid (fun u k f t _ h => by
      obtain ⟨q1, q2, _⟩ := hex_of s _ h
      rcases hbad with h | h
      · omega
      · exact h q2)
    clear hbad
    have x0 := HK1.out.c0
    have x1 := HK1.out.c1
    have x2 := HK1.out.c2
    have x3 := HK1.out.c3
    have z0 := HK1.out.fr 0
    have z1 := HK1.out.fr 1
    have z2 := HK1.out.fr 2
    have z3 := HK1.out.fr 3
    have HBN := Lib.hid (below_set4 HB1.out (Nat.le_refl _) (str []) (.int .i64 0) (.int .i64 0) (str []))
    go_wp2_with fail
    refine bodyPost_ret (v := .tuple #[tok [] 0 0 [], .int .i64 14]) (by simp [results, Tryd.results11, go_sem, x0, x1, x2, x3]) rfl ⟨.inr ⟨HNO.out, rfl⟩, ?_⟩
    exact HBN.out
  case inl =>
  obtain ⟨L, hL⟩ : ∃ L, L = unhexK s (s.length / 2) := ⟨_, rfl⟩
  rw [← hL] at ho
  have hLl : L.length ≤ 1500 := by rw [hL, unhexK_length]; omega
  have hbody : ∀ (u k : List UInt8) (f t : Nat), textT u f t k = s → ∃ c, c.length = 4 ∧ L = bodyT u f t k ++ c := fun u k f t h => by
    obtain ⟨_, _, q3⟩ := hex_of s _ h
    exact ⟨putL (crcN (bodyT u f t k)) 4, putL_length _ _, by rw [hL]; exact q3⟩
  obtain ⟨n1, p1, e1, h1⟩ : ∃ n p e, rv 8 (L.drop 0) 0 0 0 = (n, p, e) := ⟨_, _, _, rfl⟩
  obtain ⟨n2, p2, e2, h2⟩ : ∃ n p e, rv 8 (L.drop p1) p1 0 0 = (n, p, e) := ⟨_, _, _, rfl⟩
  obtain ⟨n3, p3, e3, h3⟩ : ∃ n p e, rv 8 (L.drop p2) p2 0 0 = (n, p, e) := ⟨_, _, _, rfl⟩
  obtain ⟨n4, p4, e4, h4⟩ : ∃ n p e, rv 8 (L.drop (p3 + n3)) (p3 + n3) 0 0 = (n, p, e) := ⟨_, _, _, rfl⟩
  have FACT : Hid (∀ (u k : List UInt8) (f t : Nat), mayB u (f : Int) (t : Int) k = true → textT u f t k = s → n1 = f ∧ n2 = t ∧ e1 = 0 ∧ e2 = 0 ∧ e3 = 0 ∧ p3 + n3 ≤ L.length ∧ e4 = 0 ∧ p4 + n4 ≤ L.length ∧ 4 ≤ L.length ∧ ((L.drop p3).take n3 = u ∧ (L.drop p4).take n4 = k)) := Lib.hid (fun u k f t hm h => by
    obtain ⟨c, hc, hb⟩ := hbody u k f t h
    obtain ⟨b1, b2, b3, b4, b5, b6, b7⟩ := mayB_bounds hm
    obtain ⟨q1, q2, q3, q4, q5, q6, q7, q8, q9, q10⟩ := read_told u k c L f t (by omega) (by omega) (by omega) (by omega) hb n1 p1 e1 n2 p2 e2 n3 p3 e3 n4 p4 e4 h1 h2 h3 h4
    exact ⟨q1, q3, q2, q4, q5, q6, q8, q9, by rw [hb]; simp; omega, q7, q10⟩)
  have y1 := rv_le 8 (L.drop 0) 0 0 0
  have y2 := rv_le 8 (L.drop p1) p1 0 0
  have y3 := rv_le 8 (L.drop p2) p2 0 0
  have y4 := rv_le 8 (L.drop (p3 + n3)) (p3 + n3) 0 0
  have m1 := rv_lt 8 (L.drop 0) 0 0 0 (by decide)
  have m2 := rv_lt 8 (L.drop p1) p1 0 0 (by decide)
  have m3 := rv_lt 8 (L.drop p2) p2 0 0 (by decide)
  have m4 := rv_lt 8 (L.drop (p3 + n3)) (p3 + n3) 0 0 (by decide)
  have e128 : 128 ^ (0 + 8) = 72057594037927936 := by decide
  rw [h1] at y1 m1
  rw [h2] at y2 m2
  rw [h3] at y3 m3
  rw [h4] at y4 m4
  rw [e128] at m1 m2 m3 m4
  simp only [List.length_drop] at y1 y2 y3 y4
  have z1 : p1 ≤ L.length := by omega
  have z2 : p2 ≤ L.length := by omega
  have z3 : p3 ≤ L.length := by omega
  have hrd := ho.rd
  have C1 := Lib.hid (by have := trv_any v L 0 w1 hrd (Nat.zero_le _) (by omega); rw [h1] at this; exact this : Calls Tryd.prog 28 #[v, .int .i64 0] w1 fun e w' => e = .returned (.tuple #[.int .i64 (n1 : Int), .int .i64 (p1 : Int), .int .i64 (e1 : Int)]) ∧ w' = w1)
  have C2 := Lib.hid (by have := trv_any v L p1 w1 hrd z1 (by omega); rw [h2] at this; exact this : Calls Tryd.prog 28 #[v, .int .i64 (p1 : Int)] w1 fun e w' => e = .returned (.tuple #[.int .i64 (n2 : Int), .int .i64 (p2 : Int), .int .i64 (e2 : Int)]) ∧ w' = w1)
  have C3 := Lib.hid (by have := trv_any v L p2 w1 hrd z2 (by omega); rw [h3] at this; exact this : Calls Tryd.prog 28 #[v, .int .i64 (p2 : Int)] w1 fun e w' => e = .returned (.tuple #[.int .i64 (n3 : Int), .int .i64 (p3 : Int), .int .i64 (e3 : Int)]) ∧ w' = w1)
  have C4 : Hid (p3 + n3 ≤ L.length → Calls Tryd.prog 28 #[v, .int .i64 ((p3 : Int) + (n3 : Int))] w1 fun e w' => e = .returned (.tuple #[.int .i64 (n4 : Int), .int .i64 (p4 : Int), .int .i64 (e4 : Int)]) ∧ w' = w1) := Lib.hid (fun hle => by have := trv_any v L (p3 + n3) w1 hrd hle (by omega); rw [h4, show ((p3 + n3 : Nat) : Int) = (p3 : Int) + (n3 : Int) by omega] at this; exact this)
  have Y4 : Hid (p3 + n3 ≤ L.length → p4 ≤ L.length) := Lib.hid (fun h => by omega)
  have HRD := Lib.hid hrd
  have E4 : Hid (p3 + n3 = L.length → e4 ≠ 0) := Lib.hid (fun h => by rw [h, List.drop_length] at h4; rw [show (8 : Nat) = 7 + 1 from rfl, rv_nil] at h4; simp only [Prod.mk.injEq] at h4; omega)
  obtain ⟨va, vc, rfl, hvc, hvm, _, hva⟩ := hrd
  clear y1 y2 y3 y4 h1 h2 h3 h4 e128 hbody hL he hok ho
  by_cases k4 : L.length < 4
  · have HNO : Hid (∀ (u k : List UInt8) (f t : Nat), mayB u (f : Int) (t : Int) k = true → textT u f t k ≠ s) := Lib.hid (fun u k f t hm h => by obtain ⟨q1, q2, q3, q4, q5, q6, q7, q8, q9, q10⟩ := FACT.out u k f t hm h; omega)
    have t4 : (L.length : Int) < 4 := by omega
    clear k4
    have x0 := HK1.out.c0
    have x1 := HK1.out.c1
    have x2 := HK1.out.c2
    have x3 := HK1.out.c3
    have z0 := HK1.out.fr 0
    have z1 := HK1.out.fr 1
    have z2 := HK1.out.fr 2
    have z3 := HK1.out.fr 3
    have HBN := Lib.hid (below_set4 HB1.out (Nat.le_refl _) (str []) (.int .i64 0) (.int .i64 0) (str []))
    go_wp2_with fail
    refine bodyPost_ret (v := .tuple #[tok [] 0 0 [], .int .i64 14]) (by simp [results, Tryd.results11, go_sem, x0, x1, x2, x3]) rfl ⟨.inr ⟨HNO.out, rfl⟩, ?_⟩
    exact HBN.out
  have t4 : ¬ (L.length : Int) < 4 := by omega
  go_wp2_with fail
  refine C1.out.mono ?_
  rintro e wq ⟨rfl, hwq⟩
  replace hwq := hwq.symm
  subst hwq
  go_wp2_with fail
  refine C2.out.mono ?_
  rintro e wq ⟨rfl, hwq⟩
  replace hwq := hwq.symm
  subst hwq
  go_wp2_with fail
  refine C3.out.mono ?_
  rintro e wq ⟨rfl, hwq⟩
  replace hwq := hwq.symm
  subst hwq
  obtain ⟨b, off, rfl, -⟩ := hva (by intro e; rw [e] at t4; simp at t4)
  clear C1 C2 C3
  by_cases q1 : e1 = 0
  case neg =>
    have HNO : Hid (∀ (u k : List UInt8) (f t : Nat), mayB u (f : Int) (t : Int) k = true → textT u f t k ≠ s) := Lib.hid (fun u k f t hm h => by obtain ⟨q1, q2, q3, q4, q5, q6, q7, q8, q9, q10⟩ := FACT.out u k f t hm h; omega)
    have t1 : ((e1 : Int) != 0) = true := by rw [bne_iff_ne]; omega
    clear q1
    have x0 := HK1.out.c0
    have x1 := HK1.out.c1
    have x2 := HK1.out.c2
    have x3 := HK1.out.c3
    have z0 := HK1.out.fr 0
    have z1 := HK1.out.fr 1
    have z2 := HK1.out.fr 2
    have z3 := HK1.out.fr 3
    have HBN := Lib.hid (below_set4 HB1.out (Nat.le_refl _) (str []) (.int .i64 0) (.int .i64 0) (str []))
    go_wp2_with fail
    refine bodyPost_ret (v := .tuple #[tok [] 0 0 [], .int .i64 14]) (by simp [results, Tryd.results11, go_sem, x0, x1, x2, x3]) rfl ⟨.inr ⟨HNO.out, rfl⟩, ?_⟩
    exact HBN.out
  case pos =>
  have t1 : ((e1 : Int) != 0) = false := by rw [bne_eq_false_iff_eq]; omega
  by_cases q2 : e2 = 0
  case neg =>
    have HNO : Hid (∀ (u k : List UInt8) (f t : Nat), mayB u (f : Int) (t : Int) k = true → textT u f t k ≠ s) := Lib.hid (fun u k f t hm h => by obtain ⟨q1, q2, q3, q4, q5, q6, q7, q8, q9, q10⟩ := FACT.out u k f t hm h; omega)
    have t2 : ((e2 : Int) != 0) = true := by rw [bne_iff_ne]; omega
    clear q1 q2
    have x0 := HK1.out.c0
    have x1 := HK1.out.c1
    have x2 := HK1.out.c2
    have x3 := HK1.out.c3
    have z0 := HK1.out.fr 0
    have z1 := HK1.out.fr 1
    have z2 := HK1.out.fr 2
    have z3 := HK1.out.fr 3
    have HBN := Lib.hid (below_set4 HB1.out (Nat.le_refl _) (str []) (.int .i64 0) (.int .i64 0) (str []))
    go_wp2_with fail
    refine bodyPost_ret (v := .tuple #[tok [] 0 0 [], .int .i64 14]) (by simp [results, Tryd.results11, go_sem, x0, x1, x2, x3]) rfl ⟨.inr ⟨HNO.out, rfl⟩, ?_⟩
    exact HBN.out
  case pos =>
  have t2 : ((e2 : Int) != 0) = false := by rw [bne_eq_false_iff_eq]; omega
  by_cases q3 : e3 = 0
  case neg =>
    have HNO : Hid (∀ (u k : List UInt8) (f t : Nat), mayB u (f : Int) (t : Int) k = true → textT u f t k ≠ s) := Lib.hid (fun u k f t hm h => by obtain ⟨q1, q2, q3, q4, q5, q6, q7, q8, q9, q10⟩ := FACT.out u k f t hm h; omega)
    have t3 : ((e3 : Int) != 0) = true := by rw [bne_iff_ne]; omega
    clear q1 q2 q3
    have x0 := HK1.out.c0
    have x1 := HK1.out.c1
    have x2 := HK1.out.c2
    have x3 := HK1.out.c3
    have z0 := HK1.out.fr 0
    have z1 := HK1.out.fr 1
    have z2 := HK1.out.fr 2
    have z3 := HK1.out.fr 3
    have HBN := Lib.hid (below_set4 HB1.out (Nat.le_refl _) (str []) (.int .i64 0) (.int .i64 0) (str []))
    go_wp2_with fail
    refine bodyPost_ret (v := .tuple #[tok [] 0 0 [], .int .i64 14]) (by simp [results, Tryd.results11, go_sem, x0, x1, x2, x3]) rfl ⟨.inr ⟨HNO.out, rfl⟩, ?_⟩
    exact HBN.out
  case pos =>
  have t3 : ((e3 : Int) != 0) = false := by rw [bne_eq_false_iff_eq]; omega
  by_cases q5 : p3 + n3 ≤ L.length
  case neg =>
    have HNO : Hid (∀ (u k : List UInt8) (f t : Nat), mayB u (f : Int) (t : Int) k = true → textT u f t k ≠ s) := Lib.hid (fun u k f t hm h => by obtain ⟨q1, q2, q3, q4, q5, q6, q7, q8, q9, q10⟩ := FACT.out u k f t hm h; omega)
    have t5 : (L.length : Int) - (p3 : Int) < (n3 : Int) := by omega
    clear q1 q2 q3 q5
    have x0 := HK1.out.c0
    have x1 := HK1.out.c1
    have x2 := HK1.out.c2
    have x3 := HK1.out.c3
    have z0 := HK1.out.fr 0
    have z1 := HK1.out.fr 1
    have z2 := HK1.out.fr 2
    have z3 := HK1.out.fr 3
    have HBN := Lib.hid (below_set4 HB1.out (Nat.le_refl _) (str []) (.int .i64 0) (.int .i64 0) (str []))
    go_wp2_with fail
    refine bodyPost_ret (v := .tuple #[tok [] 0 0 [], .int .i64 14]) (by simp [results, Tryd.results11, go_sem, x0, x1, x2, x3]) rfl ⟨.inr ⟨HNO.out, rfl⟩, ?_⟩
    exact HBN.out
  case pos =>
  have t5 : ¬ (L.length : Int) - (p3 : Int) < (n3 : Int) := by omega
  clear q1 q2 q3
  have C4' := Lib.hid (C4.out q5)
  have z4 := Y4.out q5
  have k1 : (0 : Int) ≤ (p3 : Int) := by omega
  have k2 : (p3 : Int) ≤ (p3 : Int) + (n3 : Int) := by omega
  have k3 : (p3 : Int) + (n3 : Int) ≤ (vc : Int) := by omega
  have k5 : ((p3 : Int) + (n3 : Int)).toNat = p3 + n3 := by omega
  have k6 : p3 + n3 - p3 = n3 := by omega
  by_cases hcap : vc = p3
  case pos =>
    have hcv := bt.toString (w := w1) (S := 9) Tryd.underlying9 (⟨_, 0, rfl, by simp, by decide, (fun h => by cases h), fun h => absurd rfl h⟩ : Rd w1 (.slice (some ⟨b, off, none⟩) 0 0) [])
    have q4 : e4 ≠ 0 := E4.out (by omega)
    have HNO : Hid (∀ (u k : List UInt8) (f t : Nat), mayB u (f : Int) (t : Int) k = true → textT u f t k ≠ s) := Lib.hid (fun u k f t hm h => by obtain ⟨q1, q2, q3, q4, q5, q6, q7, q8, q9, q10⟩ := FACT.out u k f t hm h; omega)
    have t6 : ((e4 : Int) != 0) = true := by rw [bne_iff_ne]; omega
    obtain rfl : n3 = 0 := by omega
    subst hcap
    clear q4 q5
    go_wp2_with fail
    refine C4'.out.mono ?_
    rintro e wq ⟨rfl, hwq⟩
    replace hwq := hwq.symm
    subst hwq
    have x0 := HK1.out.c0
    have x1 := HK1.out.c1
    have x2 := HK1.out.c2
    have x3 := HK1.out.c3
    have z0 := HK1.out.fr 0
    have z1 := HK1.out.fr 1
    have z2 := HK1.out.fr 2
    have z3 := HK1.out.fr 3
    have HBN := Lib.hid (below_set4 HB1.out (Nat.le_refl _) (str []) (.int .i64 0) (.int .i64 0) (str []))
    go_wp2_with fail
    refine bodyPost_ret (v := .tuple #[tok [] 0 0 [], .int .i64 14]) (by simp [results, Tryd.results11, go_sem, x0, x1, x2, x3]) rfl ⟨.inr ⟨HNO.out, rfl⟩, ?_⟩
    exact HBN.out
  case neg =>
  have hcap1 : (vc = p3) = False := eq_false hcap
  have hcv := bt.toString (w := w1) (S := 9) Tryd.underlying9 (HRD.out.sub p3 n3 q5)
  obtain ⟨U, hU⟩ : ∃ U, U = (L.drop p3).take n3 := ⟨_, rfl⟩
  rw [← hU] at hcv
  have HU := Lib.hid hU
  clear hcap hU
  go_wp2_with fail
  refine C4'.out.mono ?_
  rintro e wq ⟨rfl, hwq⟩
  replace hwq := hwq.symm
  subst hwq
  clear k1 k2 k3 k5 k6 hcv hcap1 t1 t2 t3 t5
  by_cases q4 : e4 = 0
  case neg =>
    have HNO : Hid (∀ (u k : List UInt8) (f t : Nat), mayB u (f : Int) (t : Int) k = true → textT u f t k ≠ s) := Lib.hid (fun u k f t hm h => by obtain ⟨q1, q2, q3, q4, q5, q6, q7, q8, q9, q10⟩ := FACT.out u k f t hm h; omega)
    have t6 : ((e4 : Int) != 0) = true := by rw [bne_iff_ne]; omega
    clear q4 q5
    have x0 := HK1.out.c0
    have x1 := HK1.out.c1
    have x2 := HK1.out.c2
    have x3 := HK1.out.c3
    have z0 := HK1.out.fr 0
    have z1 := HK1.out.fr 1
    have z2 := HK1.out.fr 2
    have z3 := HK1.out.fr 3
    have HBN := Lib.hid (below_set4 HB1.out (Nat.le_refl _) (str []) (.int .i64 0) (.int .i64 0) (str []))
    go_wp2_with fail
    refine bodyPost_ret (v := .tuple #[tok [] 0 0 [], .int .i64 14]) (by simp [results, Tryd.results11, go_sem, x0, x1, x2, x3]) rfl ⟨.inr ⟨HNO.out, rfl⟩, ?_⟩
    exact HBN.out
  case pos =>
  have t6 : ((e4 : Int) != 0) = false := by rw [bne_eq_false_iff_eq]; omega
  by_cases q6 : p4 + n4 ≤ L.length
  case neg =>
    have HNO : Hid (∀ (u k : List UInt8) (f t : Nat), mayB u (f : Int) (t : Int) k = true → textT u f t k ≠ s) := Lib.hid (fun u k f t hm h => by obtain ⟨q1, q2, q3, q4, q5, q6, q7, q8, q9, q10⟩ := FACT.out u k f t hm h; omega)
    have t7 : (L.length : Int) - (p4 : Int) < (n4 : Int) := by omega
    clear q4 q5 q6
    have x0 := HK1.out.c0
    have x1 := HK1.out.c1
    have x2 := HK1.out.c2
    have x3 := HK1.out.c3
    have z0 := HK1.out.fr 0
    have z1 := HK1.out.fr 1
    have z2 := HK1.out.fr 2
    have z3 := HK1.out.fr 3
    have HBN := Lib.hid (below_set4 HB1.out (Nat.le_refl _) (str []) (.int .i64 0) (.int .i64 0) (str []))
    go_wp2_with fail
    refine bodyPost_ret (v := .tuple #[tok [] 0 0 [], .int .i64 14]) (by simp [results, Tryd.results11, go_sem, x0, x1, x2, x3]) rfl ⟨.inr ⟨HNO.out, rfl⟩, ?_⟩
    exact HBN.out
  case pos =>
  have t7 : ¬ (L.length : Int) - (p4 : Int) < (n4 : Int) := by omega
  clear q4
  have k1 : (0 : Int) ≤ (p4 : Int) := by omega
  have k2 : (p4 : Int) ≤ (p4 : Int) + (n4 : Int) := by omega
  have k3 : (p4 : Int) + (n4 : Int) ≤ (vc : Int) := by omega
  have k5 : ((p4 : Int) + (n4 : Int)).toNat = p4 + n4 := by omega
  have k6 : p4 + n4 - p4 = n4 := by omega
  have hU := HU.out
  have lU : U.length ≤ 1500 := by rw [hU]; simp; omega
  obtain ⟨V, hV⟩ : ∃ V, V = (L.drop p4).take n4 := ⟨_, rfl⟩
  have lV : V.length ≤ 1500 := by rw [hV]; simp; omega
  have HUV := Lib.hid (And.intro hU hV)
  have CP := Lib.hid (fun W => tprint_any U V (n1 : Int) (n2 : Int) W (by omega) (by omega) ⟨by omega, by omega⟩ ⟨by omega, by omega⟩)
  have HKT := Lib.hid (TK.made w1 U V (n1 : Int) (n2 : Int) 28)
  have HK2 := Lib.hid (HK1.out.below (below_alloc w1 (.cells #[str U, .int .i64 (n1 : Int), .int .i64 (n2 : Int), str V] 28)) HK1.out.lt)
  have HB2 := Lib.hid (HB1.out.alloc HB1.out.size (.cells #[str U, .int .i64 (n1 : Int), .int .i64 (n2 : Int), str V] 28))
  have ways : (mayB U (n1 : Int) (n2 : Int) V = true ∧ textT U n1 n2 V = s ∧ printE U (n1 : Int) (n2 : Int) V = .returned (.tuple #[str s, .int .i64 0])) ∨
      ((∀ (u k : List UInt8) (f t : Nat), mayB u (f : Int) (t : Int) k = true → textT u f t k ≠ s) ∧ ∃ (X : List UInt8) (E : Int), printE U (n1 : Int) (n2 : Int) V = .returned (.tuple #[str X, .int .i64 E]) ∧ (E = 4 ∨ (E = 0 ∧ (X == s) = false))) := by
    by_cases hok : mayB U (n1 : Int) (n2 : Int) V = true ∧ textT U n1 n2 V = s
    · refine .inl ⟨hok.1, hok.2, ?_⟩
      rw [printE, hok.1, ← hok.2]
      rfl
    · refine .inr ⟨?_, ?_⟩
      · intro u k f t hm h
        obtain ⟨a1, a2, _, _, _, _, _, _, _, g1, g2⟩ := FACT.out u k f t hm h
        rw [← a1, ← a2, ← g1, ← g2, ← hU, ← hV] at hm h
        exact hok ⟨hm, h⟩
      cases hm : mayB U (n1 : Int) (n2 : Int) V
      · exact ⟨[], 4, by rw [printE, hm]; rfl, .inl rfl⟩
      · refine ⟨textT U n1 n2 V, 0, by rw [printE, hm]; rfl, .inr ⟨rfl, ?_⟩⟩
        rw [beq_eq_false_iff_ne]
        exact fun h => hok ⟨hm, h⟩
  have WAYS := Lib.hid ways
  have sl : (vc = p4 ∧ n4 = 0 ∧ V = []) ∨ (vc = p4) = False := by
    by_cases h : vc = p4
    · have hn : n4 = 0 := by omega
      exact .inl ⟨h, hn, by rw [hV, hn]; simp⟩
    · exact .inr (eq_false h)
  have hcv2 := bt.toString (w := w1) (S := 9) Tryd.underlying9 (HRD.out.sub p4 n4 q6)
  have hcv0 := bt.toString (w := w1) (S := 9) Tryd.underlying9 (⟨_, 0, rfl, by simp, by decide, (fun h => by cases h), fun h => absurd rfl h⟩ : Rd w1 (.slice (some ⟨b, off, none⟩) 0 0) [])
  rw [← hV] at hcv2
  clear ways hU hV q5 q6 lU lV hva
  clear FACT C4 C4' Y4 E4 HUV HU HRD z1 z2 z3 z4 m1 m2 m3 m4 HK1 HB1
  rcases sl with ⟨rfl, rfl, rfl⟩ | hcap2
  all_goals
    rcases WAYS.out with ⟨w1a, w1b, hpe⟩ | ⟨hno, X, E, hpe, rfl | ⟨rfl, hne⟩⟩
    case' inl =>
      as_aux_lemma =>
        have HPE := Lib.hid hpe
        have HOK := Lib.hid (And.intro w1a w1b)
        clear hpe w1a w1b WAYS
        go_wp2_with fail
        refine (CP.out _).mono ?_
        rintro e w8 ⟨rfl, hb8⟩
        rw [HPE.out]
        have K8 := HK2.out.below hb8 HK2.out.lt
        have T8 := HKT.out.below hb8 HKT.out.lt
        have hW8 := HB2.out.trans (hb8.mono HB2.out.size)
        have x0 := T8.c0
        have x1 := T8.c1
        have x2 := T8.c2
        have x3 := T8.c3
        have g0 := K8.c0
        have g1 := K8.c1
        have g2 := K8.c2
        have g3 := K8.c3
        have f0 := K8.fr 0
        have f1 := K8.fr 1
        have f2 := K8.fr 2
        have f3 := K8.fr 3
        go_wp2_with fail
        have HBN := Lib.hid (fun v => below_set4 hW8 (Nat.le_refl _) (str U) (.int .i64 (n1 : Int)) (.int .i64 (n2 : Int)) v)
        first
          | refine bodyPost_ret (v := .tuple #[tok U (n1 : Int) (n2 : Int) V, .int .i64 0]) (by simp [results, Tryd.results11, go_sem, g0, g1, g2, g3]) rfl ⟨.inl ⟨U, V, n1, n2, HOK.out.1, HOK.out.2, rfl⟩, ?_⟩
          | refine bodyPost_ret (v := .tuple #[tok U (n1 : Int) (n2 : Int) [], .int .i64 0]) (by simp [results, Tryd.results11, go_sem, g0, g1, g2, g3]) rfl ⟨.inl ⟨U, [], n1, n2, HOK.out.1, HOK.out.2, rfl⟩, ?_⟩
        exact HBN.out _
    all_goals
      as_aux_lemma =>
        have HPE := Lib.hid hpe
        have HNO := Lib.hid hno
        clear hpe hno WAYS
        go_wp2_with fail
        refine (CP.out _).mono ?_
        rintro e w8 ⟨rfl, hb8⟩
        rw [HPE.out]
        have K8 := HK2.out.below hb8 HK2.out.lt
        have hW8 := HB2.out.trans (hb8.mono HB2.out.size)
        have g0 := K8.c0
        have g1 := K8.c1
        have g2 := K8.c2
        have g3 := K8.c3
        have f0 := K8.fr 0
        have f1 := K8.fr 1
        have f2 := K8.fr 2
        have f3 := K8.fr 3
        have HBN := Lib.hid (below_set4 hW8 (Nat.le_refl _) (str []) (.int .i64 0) (.int .i64 0) (str []))
        go_wp2_with fail
        refine bodyPost_ret (v := .tuple #[tok [] 0 0 [], .int .i64 14]) (by simp [results, Tryd.results11, go_sem, g0, g1, g2, g3]) rfl ⟨.inr ⟨HNO.out, rfl⟩, ?_⟩
        exact HBN.out
end Go.Proofs.YtfibplegbaanmaaDoor
