import Derived.Test.YtidlhajibjnkeaaGreatDoorQuote
import Derived.Test.YtidlhajibjnkeaaGreatDoorMeant
import Derived.Lib.AppendStr
import Derived.Deep.RegionLaw
/- text.tail, text.appendSign, text.Sign by their contracts. -/
namespace Go.Proofs.YtidlhajibjnkeaaGreatDoor
open Go.RowKit

/-- A sign's bytes. -/
def sb (c : Nat) : List UInt8 :=
  if c < 128 then [UInt8.ofNat c]
  else if c < 2048 then [UInt8.ofNat (192 + c / 64), UInt8.ofNat (128 + c % 64)]
  else if c < 65536 then [UInt8.ofNat (224 + c / 4096), UInt8.ofNat (128 + c / 64 % 64), UInt8.ofNat (128 + c % 64)]
  else [UInt8.ofNat (240 + c / 262144), UInt8.ofNat (128 + c / 4096 % 64), UInt8.ofNat (128 + c / 64 % 64), UInt8.ofNat (128 + c % 64)]
theorem orI (h k j x : Nat) (hh : h = 2 ^ j * k) (hx : x < 2 ^ j) (hb : h + x < 9223372036854775808) : bits .or .i64 (h : Int) (x : Int) = ((h + x : Nat) : Int) := by
  have h1 : (BitVec.ofInt 64 (h : Int)).toNat = h := by rw [BitVec.toNat_ofInt]; omega
  have h2 : (BitVec.ofInt 64 (x : Int)).toNat = x := by rw [BitVec.toNat_ofInt]; omega
  show IntKind.i64.wrap ((BitVec.ofInt 64 (h : Int) ||| BitVec.ofInt 64 (x : Int)).toNat : Nat) = _
  rw [BitVec.toNat_or, h1, h2, hh, ← Nat.two_pow_add_eq_or_of_lt hx, ← hh]
  exact IntWalk.i64_in _ ⟨by omega, by omega⟩
theorem bvN (n : Nat) (x : Int) (h : n < 256) (hx : x = (n : Int)) : Value.int .u8 x = bv (UInt8.ofNat n) := by
  subst hx
  unfold bv
  rw [show (UInt8.ofNat n).toNat = n by simp; omega]

/-- Three, four new bytes in a block of their own. -/
theorem Rd.three (E : TypeId) (w : World) (c1 c2 c3 : UInt8) (x1 x2 x3 : Value) (b : Nat) (h1 : x1 = bv c1) (h2 : x2 = bv c2) (h3 : x3 = bv c3) (hb : b = w.heap.size) :
    Rd (w.alloc (.cells #[x1, x2, x3] E)) (.slice (some ⟨b, 0, none⟩) 3 3) [c1, c2, c3] := by
  subst hb h1 h2 h3
  refine ⟨_, 3, rfl, by simp, by decide, (fun h => by cases h), fun _ => ⟨w.heap.size, 0, rfl, fun i hi => ?_⟩⟩
  simp at hi
  rcases (show i = 0 ∨ i = 1 ∨ i = 2 by omega) with rfl | rfl | rfl <;> simp
theorem Rd.four (E : TypeId) (w : World) (c1 c2 c3 c4 : UInt8) (x1 x2 x3 x4 : Value) (b : Nat) (h1 : x1 = bv c1) (h2 : x2 = bv c2) (h3 : x3 = bv c3) (h4 : x4 = bv c4) (hb : b = w.heap.size) :
    Rd (w.alloc (.cells #[x1, x2, x3, x4] E)) (.slice (some ⟨b, 0, none⟩) 4 4) [c1, c2, c3, c4] := by
  subst hb h1 h2 h3 h4
  refine ⟨_, 4, rfl, by simp, by decide, (fun h => by cases h), fun _ => ⟨w.heap.size, 0, rfl, fun i hi => ?_⟩⟩
  simp at hi
  rcases (show i = 0 ∨ i = 1 ∨ i = 2 ∨ i = 3 by omega) with rfl | rfl | rfl | rfl <;> simp

theorem tail_any (c : Nat) (w : World) (hc : c ≤ 4294967296) : Calls Tryz.prog 131 #[.int .i64 (c : Int)] w fun e w' => e = .returned (.int .u8 ((128 + c % 64 : Nat) : Int)) ∧ w' = w := by
  have a1 := andI c 63 6 (by decide) (by omega) (by decide)
  simp only [Nat.reducePow] at a1
  have a1' : bits .and .i64 (c : Int) 63 = ((c % 64 : Nat) : Int) := a1
  obtain ⟨x, hx⟩ : ∃ x, x = c % 64 := ⟨_, rfl⟩
  rw [← hx] at a1' ⊢
  have hx64 : x < 64 := by omega
  have o1 : bits .or .i64 128 (x : Int) = ((128 + x : Nat) : Int) := orI 128 1 7 x (by decide) (by omega) (by omega)
  have HX := Lib.hid hx
  clear hx a1
  have hwr : IntKind.u8.wrap ((128 + x : Nat) : Int) = ((128 + x : Nat) : Int) := IntWalk.u8_in _ ⟨by omega, by omega⟩
  go_enter Tryz.func131, Tryz.ntmps131
  go_wp2_with fail
  go_ret
  exact ⟨by congr 2, rfl⟩

set_option maxHeartbeats 1600000 in
theorem appendSign_any (v : Value) (l : List UInt8) (c : Nat) (w : World) (base : Nat) (hown : Own 5 w base v l) (hbase : base ≤ w.heap.size) (hl : l.length ≤ 70368744177664) (hc : c ≤ 1114111) :
    Calls Tryz.prog 127 #[v, .int .i64 (c : Int)] w fun e w' => ∃ v', e = .returned v' ∧ Own 5 w' base v' (l ++ sb c) ∧ w.grownBy w' v.ownBlock := by
  obtain ⟨A, hA⟩ : ∃ A : Int, A = (c : Int) := ⟨_, rfl⟩
  by_cases h1 : c < 128
  · have n1 : A < 128 := by omega
    have hs : sb c = [UInt8.ofNat c] := by rw [sb, if_pos h1]
    have hw1 : IntKind.u8.wrap A = A := IntWalk.u8_in _ ⟨by omega, by omega⟩
    have HS := Lib.hid hs
    have hcv : A = ((UInt8.ofNat c).toNat : Int) := by rw [hA]; simp; omega
    rw [← hA]
    have HA := Lib.hid hA
    have HC := Lib.hid hcv
    clear hs h1 hA hcv
    go_enter Tryz.func127, Tryz.ntmps127
    go_wp2_with (at_builtin; refine hold ?_)
    intro _
    refine bt.append1 rfl _ _ rfl base v l (UInt8.ofNat c) _ HC.out hown rfl rfl (by omega) hbase ?_
    intro v' w2 ho2 hg2
    go_wp2_with fail
    go_ret
    exact ⟨v', rfl, by rw [HS.out]; exact ho2, hg2⟩
  · have n1 : ¬ A < 128 := by omega
    by_cases h2 : c < 2048
    · have n2 : A < 2048 := by omega
      have hs : sb c = [UInt8.ofNat (192 + c / 64), UInt8.ofNat (128 + c % 64)] := by rw [sb, if_neg h1, if_pos h2]
      have HS := Lib.hid hs
      have o1 : bits .or .i64 192 (A / 64) = ((192 + c / 64 : Nat) : Int) := by
        rw [hA, show ((c : Int) / 64) = ((c / 64 : Nat) : Int) by omega]
        exact orI 192 3 6 _ (by decide) (by omega) (by omega)
      have hw1 : IntKind.u8.wrap ((192 + c / 64 : Nat) : Int) = ((192 + c / 64 : Nat) : Int) := IntWalk.u8_in _ ⟨by omega, by omega⟩
      rw [← hA]
      have t0 : ∀ w, Calls Tryz.prog 131 #[.int .i64 A] w fun e w' => e = .returned (.int .u8 ((128 + c % 64 : Nat) : Int)) ∧ w' = w := by rw [hA]; exact fun w => tail_any c w (by omega)
      have T0 := Lib.hid t0
      have HA := Lib.hid hA
      clear hs h1 hA t0
      go_enter Tryz.func127, Tryz.ntmps127
      go_wp2_with fail
      refine (T0.out _).mono ?_
      rintro e w' ⟨rfl, rfl⟩
      go_wp2_with (at_builtin; refine hold ?_)
      intro _
      refine bt.appendS rfl _ _ rfl base v _ l [UInt8.ofNat (192 + c / 64), UInt8.ofNat (128 + c % 64)] (hown.alloc _) (Rd.two _ _ _ _ _ _ _ (bvN _ _ (by omega) (by omega)) (bvN _ _ (by omega) (by omega)) rfl) rfl rfl (by simp; omega) (by simp; omega) ?_
      intro v' w2 ho2 hg2
      go_wp2_with fail
      go_ret
      exact ⟨v', rfl, by rw [HS.out]; exact ho2, grown_trans (World.grownBy_alloc _ _ _) hg2⟩
    · have n2 : ¬ A < 2048 := by omega
      have t0 : ∀ w, Calls Tryz.prog 131 #[.int .i64 A] w fun e w' => e = .returned (.int .u8 ((128 + c % 64 : Nat) : Int)) ∧ w' = w := by rw [hA]; exact fun w => tail_any c w (by omega)
      have t1 : ∀ w, Calls Tryz.prog 131 #[.int .i64 (A / 64)] w fun e w' => e = .returned (.int .u8 ((128 + c / 64 % 64 : Nat) : Int)) ∧ w' = w := by
        rw [hA, show ((c : Int) / 64) = ((c / 64 : Nat) : Int) by omega]; exact fun w => tail_any (c / 64) w (by omega)
      have t2 : ∀ w, Calls Tryz.prog 131 #[.int .i64 (A / 4096)] w fun e w' => e = .returned (.int .u8 ((128 + c / 4096 % 64 : Nat) : Int)) ∧ w' = w := by
        rw [hA, show ((c : Int) / 4096) = ((c / 4096 : Nat) : Int) by omega]; exact fun w => tail_any (c / 4096) w (by omega)
      have T0 := Lib.hid t0
      have T1 := Lib.hid t1
      have T2 := Lib.hid t2
      clear t0 t1 t2
      by_cases h3 : c < 65536
      · have n3 : A < 65536 := by omega
        have hs : sb c = [UInt8.ofNat (224 + c / 4096), UInt8.ofNat (128 + c / 64 % 64), UInt8.ofNat (128 + c % 64)] := by rw [sb, if_neg h1, if_neg h2, if_pos h3]
        have HS := Lib.hid hs
        have o1 : bits .or .i64 224 (A / 4096) = ((224 + c / 4096 : Nat) : Int) := by
          rw [hA, show ((c : Int) / 4096) = ((c / 4096 : Nat) : Int) by omega]
          exact orI 224 7 5 _ (by decide) (by omega) (by omega)
        have hw1 : IntKind.u8.wrap ((224 + c / 4096 : Nat) : Int) = ((224 + c / 4096 : Nat) : Int) := IntWalk.u8_in _ ⟨by omega, by omega⟩
        rw [← hA]
        have H3 := Lib.hid h3
        have HA := Lib.hid hA
        clear hs h1 h2 h3 hA
        go_enter Tryz.func127, Tryz.ntmps127
        go_wp2_with fail
        refine (T1.out _).mono ?_
        rintro e w' ⟨rfl, rfl⟩
        go_wp2_with fail
        refine (T0.out _).mono ?_
        rintro e w' ⟨rfl, rfl⟩
        go_wp2_with (at_builtin; refine hold ?_)
        intro _
        have h3 := H3.out
        refine bt.appendS rfl _ _ rfl base v _ l [UInt8.ofNat (224 + c / 4096), UInt8.ofNat (128 + c / 64 % 64), UInt8.ofNat (128 + c % 64)] (hown.alloc _) (Rd.three _ _ _ _ _ _ _ _ _ (bvN _ _ (by omega) (by omega)) (bvN _ _ (by omega) (by omega)) (bvN _ _ (by omega) (by omega)) rfl) rfl rfl (by simp; omega) (by simp; omega) ?_
        clear h3
        intro v' w2 ho2 hg2
        go_wp2_with fail
        go_ret
        exact ⟨v', rfl, by rw [HS.out]; exact ho2, grown_trans (World.grownBy_alloc _ _ _) hg2⟩
      · have n3 : ¬ A < 65536 := by omega
        have hs : sb c = [UInt8.ofNat (240 + c / 262144), UInt8.ofNat (128 + c / 4096 % 64), UInt8.ofNat (128 + c / 64 % 64), UInt8.ofNat (128 + c % 64)] := by rw [sb, if_neg h1, if_neg h2, if_neg h3]
        have HS := Lib.hid hs
        have o1 : bits .or .i64 240 (A / 262144) = ((240 + c / 262144 : Nat) : Int) := by
          rw [hA, show ((c : Int) / 262144) = ((c / 262144 : Nat) : Int) by omega]
          exact orI 240 15 4 _ (by decide) (by omega) (by omega)
        have hw1 : IntKind.u8.wrap ((240 + c / 262144 : Nat) : Int) = ((240 + c / 262144 : Nat) : Int) := IntWalk.u8_in _ ⟨by omega, by omega⟩
        rw [← hA]
        have HA := Lib.hid hA
        have HCC := Lib.hid hc
        clear hs h1 h2 h3 hA hc
        go_enter Tryz.func127, Tryz.ntmps127
        go_wp2_with fail
        refine (T2.out _).mono ?_
        rintro e w' ⟨rfl, rfl⟩
        go_wp2_with fail
        refine (T1.out _).mono ?_
        rintro e w' ⟨rfl, rfl⟩
        go_wp2_with fail
        refine (T0.out _).mono ?_
        rintro e w' ⟨rfl, rfl⟩
        go_wp2_with (at_builtin; refine hold ?_)
        intro _
        have hc := HCC.out
        refine bt.appendS rfl _ _ rfl base v _ l [UInt8.ofNat (240 + c / 262144), UInt8.ofNat (128 + c / 4096 % 64), UInt8.ofNat (128 + c / 64 % 64), UInt8.ofNat (128 + c % 64)] (hown.alloc _) (Rd.four _ _ _ _ _ _ _ _ _ _ _ (bvN _ _ (by omega) (by omega)) (bvN _ _ (by omega) (by omega)) (bvN _ _ (by omega) (by omega)) (bvN _ _ (by omega) (by omega)) rfl) rfl rfl (by simp; omega) (by simp; omega) ?_
        clear hc
        intro v' w2 ho2 hg2
        go_wp2_with fail
        go_ret
        exact ⟨v', rfl, by rw [HS.out]; exact ho2, grown_trans (World.grownBy_alloc _ _ _) hg2⟩
end Go.Proofs.YtidlhajibjnkeaaGreatDoor

/- The reader's unit by its contract. -/
namespace Go.Proofs.YtidlhajibjnkeaaGreatDoor
open Go.RowKit

theorem fourR_lt : ∀ (k : Nat) (t : List UInt8) (acc : Nat), (fourR k t acc).1 < (acc + 1) * 16 ^ k
  | 0, _, acc => by simp [fourR]
  | k + 1, [], acc => by simp only [fourR]; exact Nat.mul_pos (by omega) (Nat.pow_pos (by omega))
  | k + 1, c :: l, acc => by
    rw [fourR]
    split
    · exact Nat.mul_pos (by omega) (Nat.pow_pos (by omega))
    · have h := fourR_lt k l (acc * 16 + (refD c).toNat)
      have hr := refD_range c
      have : (acc * 16 + (refD c).toNat + 1) * 16 ^ k ≤ ((acc + 1) * 16) * 16 ^ k := Nat.mul_le_mul_right _ (by omega)
      rw [Nat.pow_succ, Nat.mul_comm (16 ^ k) 16, ← Nat.mul_assoc]
      simp only
      omega
theorem fourR_use : ∀ (k : Nat) (t : List UInt8) (acc : Nat), (fourR k t acc).2.2 ≤ t.length
  | 0, _, _ => by simp [fourR]
  | k + 1, [], _ => by simp [fourR]
  | k + 1, c :: l, acc => by
    rw [fourR]
    split
    · simp
    · have := fourR_use k l (acc * 16 + (refD c).toNat)
      simp; omega
theorem secR_use (t : List UInt8) (p : Nat) (hp : p ≤ t.length) : p + (secR t p).2.2 ≤ t.length := by
  unfold secR
  split
  · simpa using hp
  · next h =>
    have h1 := wantN_zero (Decidable.not_not.1 h)
    split
    · simp; omega
    · next h' =>
      have h2 := wantN_zero (Decidable.not_not.1 h')
      have := fourR_use 4 (t.drop (p + 2)) 0
      rw [List.length_drop] at this
      simp only
      omega

def unitF (c m : Nat) : Nat × Nat × List UInt8 := if signB c = true then (0, m, sb c) else (4, m, [])
/-- What stands behind a backslash and u: the error, how many bytes were read, the sign's bytes. -/
def unitR (t : List UInt8) (p : Nat) : Nat × Nat × List UInt8 :=
  if (fourR 4 (t.drop p) 0).2.1 ≠ 0 then ((fourR 4 (t.drop p) 0).2.1, (fourR 4 (t.drop p) 0).2.2, [])
  else if 55296 ≤ (fourR 4 (t.drop p) 0).1 ∧ (fourR 4 (t.drop p) 0).1 < 56320 then
    if (secR t (p + (fourR 4 (t.drop p) 0).2.2)).2.1 ≠ 0 then ((secR t (p + (fourR 4 (t.drop p) 0).2.2)).2.1, (fourR 4 (t.drop p) 0).2.2 + (secR t (p + (fourR 4 (t.drop p) 0).2.2)).2.2, [])
    else unitF (65536 + ((fourR 4 (t.drop p) 0).1 - 55296) * 1024 + ((secR t (p + (fourR 4 (t.drop p) 0).2.2)).1 - 56320)) ((fourR 4 (t.drop p) 0).2.2 + (secR t (p + (fourR 4 (t.drop p) 0).2.2)).2.2)
  else unitF (fourR 4 (t.drop p) 0).1 (fourR 4 (t.drop p) 0).2.2

theorem Own.form {E : TypeId} {w : World} {base : Nat} {v : Value} {l : List UInt8} (h : Own E w base v l) : ∃ a n cap, v = .slice a n cap := by
  obtain ⟨a, cap, hv, _⟩ := h.rd
  exact ⟨a, _, cap, hv⟩


theorem secR_ok (t : List UInt8) (p : Nat) : (secR t p).2.1 = 0 → 56320 ≤ (secR t p).1 ∧ (secR t p).1 ≤ 57343 := by
  unfold secR
  split
  · next h => intro h'; exact absurd h' h
  split
  · next h => intro h'; exact absurd h' h
  · simp only
    split
    · intro h; cases h
    · next h => intro h'; simp only [h', true_and] at h; omega
theorem RS.still {w w' : World} {b p : Nat} {t o : List UInt8} {v : Value} (h : RS w b t p o) (hc : w.cell? ⟨b, 2, none⟩ = some v) (hg : w.grownBy w' v.ownBlock) : w'.cell? ⟨b, 2, none⟩ = some v ∧ w'.frozen? ⟨b, 2, none⟩ = false := by
  obtain ⟨v0, T, h, ho⟩ := h
  have e : v0 = v := by simpa [World.cell?, h] using hc
  subst e
  have hb : w'.heap[b]? = some (.cells #[str t, .int .i64 (p : Int), v0] T (0, 0)) := by
    rw [hg.block b (Array.getElem?_eq_some_iff.1 h).1 (fun e => by have := ho.base b e.symm; omega)]
    exact h
  exact ⟨by simp [World.cell?, hb], frozen_of_row w' b 2 _ T hb⟩
set_option maxHeartbeats 1600000 in
theorem unit_any (t o : List UInt8) (b p : Nat) (w : World) (h : RS w b t p o) (hp : p ≤ t.length) (hl : t.length ≤ 140737488355328) (ho : o.length ≤ 70368744177664) :
    Calls Tryz.prog 116 #[.pointer (some ⟨b, 0, none⟩)] w fun e w' =>
      e = .returned (.int .i64 ((unitR t p).1 : Int)) ∧ RS w' b t (p + (unitR t p).2.1) (o ++ (unitR t p).2.2) ∧ Below b w w' := by
  have HRS := Lib.hid h
  clear h
  have hu := unitR.eq_def t p
  obtain ⟨n, er, m, hr⟩ : ∃ n er m, fourR 4 (t.drop p) 0 = (n, er, m) := ⟨_, _, _, rfl⟩
  have hn := fourR_lt 4 (t.drop p) 0
  have hm := fourR_use 4 (t.drop p) 0
  rw [List.length_drop] at hm
  rw [hr] at hu hn hm
  simp only [Nat.zero_add, Nat.one_mul, Nat.reducePow] at hu hn hm
  have HU := Lib.hid hu
  have HR := Lib.hid hr
  clear hu hr
  go_enter Tryz.func116, Tryz.ntmps116
  go_wp2_with fail
  refine (four_any t o b p _ HRS.out hp hl).mono ?_
  rintro e w3 ⟨rfl, hrs3, hb3⟩
  rw [HR.out] at hrs3 ⊢
  simp only at hrs3 ⊢
  by_cases he : er = 0
  · subst he
    obtain ⟨A, hA⟩ : ∃ A : Int, A = (n : Int) := ⟨_, rfl⟩
    rw [← hA]
    by_cases hsur : 55296 ≤ n ∧ n < 56320
    · have HSUR := Lib.hid hsur
      have n1 : 55296 ≤ A := by omega
      have n2 : A < 56320 := by omega
      have hpm : p + m ≤ t.length := by omega
      obtain ⟨sn, se, sm, hs⟩ : ∃ sn se sm, secR t (p + m) = (sn, se, sm) := ⟨_, _, _, rfl⟩
      have hok := secR_ok t (p + m)
      rw [hs] at hok
      simp only at hok
      have HS := Lib.hid hs
      have HA := Lib.hid hA
      have HN := Lib.hid hn
      clear hA hn hsur hs
      go_wp2_with fail
      refine (second_any t o b (p + m) _ hrs3 hpm hl).mono ?_
      rintro e w5 ⟨rfl, hrs5, hb5⟩
      rw [HS.out] at hrs5 ⊢
      simp only at hrs5 ⊢
      have hbz := hb3.trans hb5
      by_cases hse : se = 0
      · have hok2 := hok hse
        have c1 : (0 : Int) ≤ (sn : Int) := by omega
        subst hse
        obtain ⟨B, hB⟩ : ∃ B : Int, B = (sn : Int) := ⟨_, rfl⟩
        rw [← hB]
        have c2 : 56320 ≤ B := by omega
        have c3 : B ≤ 57343 := by omega
        have HB := Lib.hid hB
        have HOK := Lib.hid hok2
        clear hB hok hok2 c1
        obtain ⟨q, hq⟩ : ∃ q, q = 65536 + (n - 55296) * 1024 + (sn - 56320) := ⟨_, rfl⟩
        have hA' : 65536 + (A - 55296) * 1024 + B - 56320 = (q : Int) := by
          have := HA.out; have := HB.out; have := HOK.out; have := HSUR.out; omega
        have hqb : q ≤ 1114111 := by have := HOK.out; have := HSUR.out; omega
        have HQ := Lib.hid hq
        have HA2 := Lib.hid hA'
        have HQB := Lib.hid hqb
        clear hq hA' hqb
        go_wp2_with fail
        rw [HA2.out]
        refine (isSign_any q _ (by have := HQB.out; omega)).mono ?_
        rintro e w' ⟨rfl, rfl⟩
        have hv0 : unitR t p = unitF q (m + sm) := by
          rw [HU.out, if_neg (by simp), if_pos HSUR.out, if_neg (by rw [HS.out]; simp), HS.out, HQ.out]
        cases hsb : signB q
        · have hv : unitR t p = (4, m + sm, []) := by rw [hv0, unitF, hsb]; rfl
          have HV := Lib.hid hv
          have HSB := Lib.hid hsb
          clear hv hsb hv0
          go_wp2_with fail
          go_ret
          exact ⟨by rw [HV.out]; rfl, by rw [HV.out, List.append_nil, ← Nat.add_assoc]; exact hrs5, hbz⟩
        · have hv : unitR t p = (0, m + sm, sb q) := by rw [hv0, unitF, hsb]; rfl
          have HV := Lib.hid hv
          have HSB := Lib.hid hsb
          clear hv hsb hv0
          obtain ⟨v, hc2, hov⟩ := hrs5.c2
          have hf2 := hrs5.fr 2
          have hbw := hrs5.lt
          have H3 := Lib.hid hrs5
          clear hrs5
          go_wp2_with fail
          refine (appendSign_any v o q _ (b + 1) hov hbw ho HQB.out).mono ?_
          rintro e w4 ⟨v4, rfl, hov4, hg4⟩
          obtain ⟨a4, n4, cap4, rfl⟩ := hov4.form
          obtain ⟨hc4, hf4⟩ := H3.out.still hc2 hg4
          have hb4 := hbz.grown hg4 (by have := hbz.size; omega) (fun k e => by have := hov.base k e; omega)
          go_wp2_with fail
          go_ret
          exact ⟨by rw [HV.out]; rfl, by rw [HV.out, ← Nat.add_assoc]; exact H3.out.setOut hc2 hg4 hov4, Below.setCell (p := ⟨b, 2, none⟩) hb4 (Nat.le_refl b) _⟩
      · have n0 : ((se : Int) != 0) = true := by rw [bne_iff_ne]; omega
        have hv : unitR t p = (se, m + sm, []) := by rw [HU.out]; simp [HSUR.out, HS.out, hse]
        have HV := Lib.hid hv
        clear hv hse hok
        go_wp2_with fail
        go_ret
        exact ⟨by rw [HV.out]; rfl, by rw [HV.out, List.append_nil, ← Nat.add_assoc]; exact hrs5, hbz⟩
    · have HSUR := Lib.hid hsur
      by_cases hlo : 55296 ≤ n
      · have n1 : 55296 ≤ A := by omega
        have n2 : ¬ A < 56320 := by omega
        have HA := Lib.hid hA
        have HN := Lib.hid hn
        clear hA hn hlo hsur
        go_wp2_with fail
        rw [HA.out]
        refine (isSign_any n _ (by have := HN.out; omega)).mono ?_
        rintro e w' ⟨rfl, rfl⟩
        rw [← HA.out]
        cases hsb : signB n
        · have hv : unitR t p = (4, m, []) := by rw [HU.out]; simp [HSUR.out, unitF, hsb]
          have HV := Lib.hid hv
          have HSB := Lib.hid hsb
          clear hv hsb
          go_wp2_with fail
          go_ret
          exact ⟨by rw [HV.out]; rfl, by rw [HV.out, List.append_nil]; exact hrs3, hb3⟩
        · have hv : unitR t p = (0, m, sb n) := by rw [HU.out]; simp [HSUR.out, unitF, hsb]
          have HV := Lib.hid hv
          have HSB := Lib.hid hsb
          clear hv hsb
          obtain ⟨v, hc2, hov⟩ := hrs3.c2
          have hf2 := hrs3.fr 2
          have hbw := hrs3.lt
          have H3 := Lib.hid hrs3
          clear hrs3
          go_wp2_with fail
          rw [HA.out]
          refine (appendSign_any v o n _ (b + 1) hov hbw ho (by have := HN.out; omega)).mono ?_
          rintro e w4 ⟨v4, rfl, hov4, hg4⟩
          obtain ⟨a4, n4, cap4, rfl⟩ := hov4.form
          obtain ⟨hc4, hf4⟩ := H3.out.still hc2 hg4
          have hb4 := hb3.grown hg4 (by have := hb3.size; omega) (fun k e => by have := hov.base k e; omega)
          go_wp2_with fail
          go_ret
          exact ⟨by rw [HV.out]; rfl, by rw [HV.out]; exact H3.out.setOut hc2 hg4 hov4, Below.setCell (p := ⟨b, 2, none⟩) hb4 (Nat.le_refl b) _⟩
      · have n1 : ¬ 55296 ≤ A := by omega
        have HA := Lib.hid hA
        have HN := Lib.hid hn
        clear hA hn hlo hsur
        go_wp2_with fail
        rw [HA.out]
        refine (isSign_any n _ (by have := HN.out; omega)).mono ?_
        rintro e w' ⟨rfl, rfl⟩
        rw [← HA.out]
        cases hsb : signB n
        · have hv : unitR t p = (4, m, []) := by rw [HU.out]; simp [HSUR.out, unitF, hsb]
          have HV := Lib.hid hv
          have HSB := Lib.hid hsb
          clear hv hsb
          go_wp2_with fail
          go_ret
          exact ⟨by rw [HV.out]; rfl, by rw [HV.out, List.append_nil]; exact hrs3, hb3⟩
        · have hv : unitR t p = (0, m, sb n) := by rw [HU.out]; simp [HSUR.out, unitF, hsb]
          have HV := Lib.hid hv
          have HSB := Lib.hid hsb
          clear hv hsb
          obtain ⟨v, hc2, hov⟩ := hrs3.c2
          have hf2 := hrs3.fr 2
          have hbw := hrs3.lt
          have H3 := Lib.hid hrs3
          clear hrs3
          go_wp2_with fail
          rw [HA.out]
          refine (appendSign_any v o n _ (b + 1) hov hbw ho (by have := HN.out; omega)).mono ?_
          rintro e w4 ⟨v4, rfl, hov4, hg4⟩
          obtain ⟨a4, n4, cap4, rfl⟩ := hov4.form
          obtain ⟨hc4, hf4⟩ := H3.out.still hc2 hg4
          have hb4 := hb3.grown hg4 (by have := hb3.size; omega) (fun k e => by have := hov.base k e; omega)
          go_wp2_with fail
          go_ret
          exact ⟨by rw [HV.out]; rfl, by rw [HV.out]; exact H3.out.setOut hc2 hg4 hov4, Below.setCell (p := ⟨b, 2, none⟩) hb4 (Nat.le_refl b) _⟩
  · have n0 : ((er : Int) != 0) = true := by rw [bne_iff_ne]; omega
    have hv : unitR t p = (er, m, []) := by rw [HU.out]; simp [he]
    have HV := Lib.hid hv
    clear hv he
    go_wp2_with fail
    go_ret
    exact ⟨by rw [HV.out]; rfl, by rw [HV.out, List.append_nil]; exact hrs3, hb3⟩
end Go.Proofs.YtidlhajibjnkeaaGreatDoor

/- The reader's escape by its contract. -/
namespace Go.Proofs.YtidlhajibjnkeaaGreatDoor
open Go.RowKit

/-- What stands behind a backslash: the error, how many bytes were read, the bytes that it says. -/
def escR (t : List UInt8) (p : Nat) : Nat × Nat × List UInt8 :=
  match t[p]? with
  | none => (2, 0, [])
  | some c => if c = 117 then ((unitR t (p + 1)).1, (unitR t (p + 1)).2.1 + 1, (unitR t (p + 1)).2.2)
    else if (meB c).2 = true then (0, 1, [(meB c).1]) else (4, 1, [])

set_option maxHeartbeats 1600000 in
theorem escape_any (t o : List UInt8) (b p : Nat) (w : World) (h : RS w b t p o) (hp : p ≤ t.length) (hl : t.length ≤ 140737488355328) (ho : o.length ≤ 70368744177664) :
    Calls Tryz.prog 102 #[.pointer (some ⟨b, 0, none⟩)] w fun e w' =>
      e = .returned (.int .i64 ((escR t p).1 : Int)) ∧ RS w' b t (p + (escR t p).2.1) (o ++ (escR t p).2.2) ∧ Below b w w' := by
  have h0 := h.c0
  have h1 := h.c1
  have hf := h.fr 1
  have hbw := h.lt
  have HRS := Lib.hid h
  clear h
  by_cases hlt : p < t.length
  · have n1 : ((p : Int) == (t.length : Int)) = false := by rw [beq_eq_false_iff_ne]; omega
    have n2 : (p : Int) < (t.length : Int) := by omega
    have n3 : (0 : Int) ≤ (p : Int) := by omega
    obtain ⟨d, hd⟩ : ∃ d, d = t[p] := ⟨_, rfl⟩
    have hgd : (ByteArray.mk t.toArray)[p]'(by simpa [ByteArray.size] using hlt) = d := hd.symm
    have hd' : t[p]? = some d := by rw [hd]; exact List.getElem?_eq_getElem hlt
    have HE := Lib.hid (show escR t p = (match some d with | none => (2, 0, []) | some c => if c = 117 then ((unitR t (p + 1)).1, (unitR t (p + 1)).2.1 + 1, (unitR t (p + 1)).2.2) else if (meB c).2 = true then (0, 1, [(meB c).1]) else (4, 1, [])) by rw [escR, hd'])
    clear hd hd'
    by_cases hu : d = 117
    · have n4 : ((d.toNat : Int) == 117) = true := by rw [hu]; rfl
      have HU := Lib.hid hu
      clear hu
      go_enter Tryz.func102, Tryz.ntmps102
      go_wp2_with fail
      go_quiet (fail)
      have hrs5 := HRS.out.drewN nq
      have hb5 := Below.drewsN (Below.refl b w) nq
      generalize w.drewN nq = w5 at hrs5 hb5 ⊢
      have h05 := hrs5.c0
      have h15 := hrs5.c1
      have hf5 := hrs5.fr 1
      have hbw5 := hrs5.lt
      have HRS5 := Lib.hid hrs5
      clear hrs5 h0 h1 hf hbw
      go_wp2_with fail
      go_quiet (fail)
      go_wp2_with fail
      have hrs6 := (HRS5.out.drewN nq).setAt (p + 1) ((p : Int) + 1) (by omega)
      have hb6 := Below.setCell (p := ⟨b, 1, none⟩) (Below.drewsN hb5 nq) (Nat.le_refl b) (.int .i64 ((p : Int) + 1))
      refine (unit_any t o b (p + 1) _ hrs6 (by omega) hl ho).mono ?_
      rintro e w7 ⟨rfl, hrs7, hb7⟩
      go_wp2_with fail
      go_ret
      have hv : escR t p = ((unitR t (p + 1)).1, (unitR t (p + 1)).2.1 + 1, (unitR t (p + 1)).2.2) := by rw [HE.out]; exact if_pos HU.out
      rw [hv]
      refine ⟨rfl, ?_, hb6.trans hb7⟩
      show RS w7 b t (p + ((unitR t (p + 1)).2.1 + 1)) _
      rw [show p + ((unitR t (p + 1)).2.1 + 1) = p + 1 + (unitR t (p + 1)).2.1 by omega]
      exact hrs7
    · have n4 : ((d.toNat : Int) == 117) = false := by
        rw [beq_eq_false_iff_ne]; intro h; exact hu (UInt8.toNat_inj.1 (by simpa using (by omega : d.toNat = 117)))
      have HU := Lib.hid hu
      clear hu
      go_enter Tryz.func102, Tryz.ntmps102
      go_wp2_with fail
      go_quiet (fail)
      have hrs5 := HRS.out.drewN nq
      have hb5 := Below.drewsN (Below.refl b w) nq
      generalize w.drewN nq = w5 at hrs5 hb5 ⊢
      have h05 := hrs5.c0
      have h15 := hrs5.c1
      have hf5 := hrs5.fr 1
      have hbw5 := hrs5.lt
      have HRS5 := Lib.hid hrs5
      clear hrs5 h0 h1 hf hbw
      go_wp2_with fail
      go_quiet (fail)
      go_wp2_with fail
      have hrs6 := (HRS5.out.drewN nq).setAt (p + 1) ((p : Int) + 1) (by omega)
      have hb6 := Below.setCell (p := ⟨b, 1, none⟩) (Below.drewsN hb5 nq) (Nat.le_refl b) (.int .i64 ((p : Int) + 1))
      refine (meant_any d _).mono ?_
      rintro e w7 ⟨rfl, rfl⟩
      obtain ⟨x, ok, hx⟩ : ∃ x ok, meB d = (x, ok) := ⟨_, _, rfl⟩
      rw [meE, hx]
      simp only
      have HX := Lib.hid hx
      clear hx
      generalize ((w5.drewN nq).setCell ⟨b, 1, none⟩ (.int .i64 ((p : Int) + 1))) = w8 at hrs6 hb6 ⊢
      cases ok
      · go_wp2_with fail
        go_ret
        have hv : escR t p = (4, 1, []) := by rw [HE.out]; exact (if_neg HU.out).trans (if_neg (by rw [HX.out]; simp))
        exact ⟨by rw [hv]; rfl, by rw [hv, List.append_nil]; exact hrs6, hb6⟩
      · obtain ⟨v, hc2, hov⟩ := hrs6.c2
        have hf2 := hrs6.fr 2
        have hbw8 := hrs6.lt
        have H6 := Lib.hid hrs6
        clear hrs6
        go_wp2_with (at_builtin; refine hold ?_)
        intro _
        refine bt.append1 rfl _ _ rfl (b + 1) v o x _ rfl hov rfl rfl (by omega) hbw8 ?_
        intro v4 w4 hov4 hg4
        obtain ⟨a4, n5, cap4, rfl⟩ := hov4.form
        obtain ⟨hc4, hf4⟩ := H6.out.still hc2 hg4
        have hb4 := hb6.grown hg4 (by have := hb6.size; omega) (fun k e => by have := hov.base k e; omega)
        go_wp2_with fail
        go_ret
        have hv : escR t p = (0, 1, [x]) := by rw [HE.out]; exact (if_neg HU.out).trans ((if_pos (by rw [HX.out])).trans (by rw [HX.out]))
        exact ⟨by rw [hv]; rfl, by rw [hv]; exact H6.out.setOut hc2 hg4 hov4, Below.setCell (p := ⟨b, 2, none⟩) hb4 (Nat.le_refl b) _⟩
  · obtain rfl : p = t.length := by omega
    have n1 : ((t.length : Int) == (t.length : Int)) = true := beq_self_eq_true _
    have hw : escR t t.length = (2, 0, []) := by rw [escR, List.getElem?_eq_none (Nat.le_refl _)]
    rw [hw]
    clear hw
    go_enter Tryz.func102, Tryz.ntmps102
    go_wp2_with fail
    go_quiet (fail)
    go_wp2_with fail
    go_ret
    exact ⟨rfl, by rw [List.append_nil]; exact HRS.out.drewN _, Below.drewsN (Below.refl _ _) _⟩
end Go.Proofs.YtidlhajibjnkeaaGreatDoor

/- The reader's step by its contract. -/
namespace Go.Proofs.YtidlhajibjnkeaaGreatDoor
open Go.RowKit

theorem strCells_map (l : List UInt8) : Lib.strCells ⟨l.toArray⟩ = l.map bv := by
  simp [Lib.strCells, bv]
theorem sub_str (t : List UInt8) (p z n : Nat) (hn : n = p + z) : Value.string ((ByteArray.mk t.toArray).extract p n) = str ((t.drop p).take z) := by
  subst hn
  unfold str
  congr 1
  apply ByteArray.ext
  simp [ByteArray.data_extract, List.extract_toArray]
section
variable {P : Program} {T U E : TypeId} {ops : Array Oper} {rest : List Oper} {o : Oper} {a : Act} {Q : Exit → Act → World → Prop} {w : World}
/-- 'append(b, s...)', s a string. -/
theorem BT.appendStr (B : BT P T E) (hU : P.underlying U = some .string) (hgd : o.guard = none) (s x : Operand) (ho : o.op = .call { callee := .builtin .append, args := #[s, x], argTypes := #[T, U] })
    (base : Nat) (v : Value) (l m : List UInt8) (hown : Own E w base v l) (hs : a.eval s = v) (hx : a.eval x = str m) (hlen : l.length + m.length ≤ 140737488355328) (hbase : base ≤ w.heap.size)
    (h : ∀ v' w', Own E w' base v' (l ++ m) → w.grownBy w' v.ownBlock → wpList P ops Q rest (a.put o.dst v') w') :
    wpList P ops Q (o :: rest) a w := by
  obtain ⟨i, hi, h1, h2, h3⟩ := info_parts B.info
  refine Lib.wpList_append_own_string w hgd s x T U ho base E i B.t hU hi h1 h2 h3 v l.length (l.map bv) hs hown ⟨m.toArray⟩ hx (by unfold maxLen; simp [ByteArray.size]; omega) (by simpa [ByteArray.size] using hlen) hbase ?_
  intro v' w' h1 h2 _
  refine h v' w' ?_ h2
  unfold Own
  rw [strCells_map] at h1
  simpa [ByteArray.size] using h1
theorem BT.stepAppendStr {K : Act → World → Prop} {N : Prop} (B : BT P T E) (hU : P.underlying U = some .string) (hgd : o.guard = none) (s x : Operand) (ho : o.op = .call { callee := .builtin .append, args := #[s, x], argTypes := #[T, U] })
    (base : Nat) (v : Value) (l m : List UInt8) (hs : a.eval s = v) (hown : Own E w base v l) (hx : a.eval x = str m) (hlen : l.length + m.length ≤ 140737488355328) (hbase : base ≤ w.heap.size)
    (h : ∀ ad n cp w', Own E w' base (.slice ad n cp) (l ++ m) → w.grownBy w' v.ownBlock → K (a.put o.dst (.slice ad n cp)) w') :
    if Region.wanted o (yielded ops a.tmps) = true then Oper.wp P o a w K Q else N := by
  have hw : Region.wanted o (yielded ops a.tmps) = true := by simp [Region.wanted, hgd]
  rw [if_pos hw]
  obtain ⟨i, hi, h1, h2, h3⟩ := info_parts B.info
  obtain ⟨v', w', hr, h4, h5, _⟩ := Lib.run_append_own_string (P := P) w base T U o.type E i B.t hU hi h1 h2 h3 v l.length (l.map bv) hown ⟨m.toArray⟩ (by unfold maxLen; simp [ByteArray.size]; omega) (by simpa [ByteArray.size] using hlen) hbase
  unfold Oper.wp execOp
  simp only [ho, resolve, invoke, builtin, Sem.run_bind, Sem.run_pure, Result.andThen_ok, List.map_toArray, List.map_cons, List.map_nil, hs, hx, hr]
  have ho : Own E w' base v' (l ++ m) := by
    unfold Own
    rw [strCells_map] at h4
    simpa [ByteArray.size] using h4
  obtain ⟨ad, n, cp, rfl⟩ := ho.form
  exact h ad n cp w' ho h5
end
theorem RS.still4 {w w' : World} {b p : Nat} {t o : List UInt8} {v : Value} (h : RS w b t p o) (hc : w.cell? ⟨b, 2, none⟩ = some v) (hg : w.grownBy w' v.ownBlock) :
    w'.cell? ⟨b, 0, none⟩ = some (str t) ∧ w'.cell? ⟨b, 1, none⟩ = some (.int .i64 (p : Int)) ∧ w'.cell? ⟨b, 2, none⟩ = some v ∧ w'.frozen? ⟨b, 2, none⟩ = false := by
  obtain ⟨v0, T, h, ho⟩ := h
  have e : v0 = v := by simpa [World.cell?, h] using hc
  subst e
  have hb : w'.heap[b]? = some (.cells #[str t, .int .i64 (p : Int), v0] T (0, 0)) := by
    rw [hg.block b (Array.getElem?_eq_some_iff.1 h).1 (fun e => by have := ho.base b e.symm; omega)]
    exact h
  exact ⟨by simp [World.cell?, hb], by simp [World.cell?, hb], by simp [World.cell?, hb], frozen_of_row w' b 2 _ T hb⟩

theorem grown_undrew {w w' : World} {r : Option Nat} (h : w.drew.grownBy w' r) : w.grownBy w' r := ⟨h.os, h.tape, h.output, h.size, h.block⟩
theorem Own.drew1 {E : TypeId} {w : World} {base : Nat} {v : Value} {l : List UInt8} (h : Own E w base v l) : Own E w.drew base v l := h
/-- A step: is it the end, the error, how many bytes were read, the bytes that it says. -/
def stepR (t : List UInt8) (p : Nat) : Bool × Nat × Nat × List UInt8 :=
  match t[p]? with
  | none => (false, 2, 0, [])
  | some c => if c = 34 then (true, 0, 1, [])
    else if c = 92 then (false, (escR t (p + 1)).1, (escR t (p + 1)).2.1 + 1, (escR t (p + 1)).2.2)
    else if (sgn (t.drop p)).2 = 0 ∨ (sgn (t.drop p)).1 < 32 then (false, 4, 0, [])
    else (false, 0, (sgn (t.drop p)).2, (t.drop p).take (sgn (t.drop p)).2)

set_option maxRecDepth 100000 in
set_option maxHeartbeats 3200000 in
theorem step_any (t o : List UInt8) (b p : Nat) (w : World) (h : RS w b t p o) (hp : p ≤ t.length) (hl : t.length ≤ 70368744177664) (ho : o.length ≤ 70368744177664) :
    Calls Tryz.prog 85 #[.pointer (some ⟨b, 0, none⟩)] w fun e w' =>
      e = .returned (.tuple #[.bool (stepR t p).1, .int .i64 ((stepR t p).2.1 : Int)]) ∧ RS w' b t (p + (stepR t p).2.2.1) (o ++ (stepR t p).2.2.2) ∧ Below b w w' := by
  have h0 := h.c0
  have h1 := h.c1
  have hf := h.fr 1
  have hbw := h.lt
  have HRS := Lib.hid h
  clear h
  by_cases hlt : p < t.length
  · have n1 : ((p : Int) == (t.length : Int)) = false := by rw [beq_eq_false_iff_ne]; omega
    have n2 : (p : Int) < (t.length : Int) := by omega
    have n3 : (0 : Int) ≤ (p : Int) := by omega
    obtain ⟨d, hd⟩ : ∃ d, d = t[p] := ⟨_, rfl⟩
    have hgd : (ByteArray.mk t.toArray)[p]'(by simpa [ByteArray.size] using hlt) = d := hd.symm
    have hd' : t[p]? = some d := by rw [hd]; exact List.getElem?_eq_getElem hlt
    have HE := Lib.hid (show stepR t p = (if d = 34 then (true, 0, 1, [])
      else if d = 92 then (false, (escR t (p + 1)).1, (escR t (p + 1)).2.1 + 1, (escR t (p + 1)).2.2)
      else if (sgn (t.drop p)).2 = 0 ∨ (sgn (t.drop p)).1 < 32 then (false, 4, 0, [])
      else (false, 0, (sgn (t.drop p)).2, (t.drop p).take (sgn (t.drop p)).2)) by rw [stepR, hd'])
    clear hd hd'
    go_enter Tryz.func85, Tryz.ntmps85
    go_wp2_with fail
    go_quiet (fail)
    have hrs5 := HRS.out.drewN nq
    have hb5 := Below.drewsN (Below.refl b w) nq
    generalize w.drewN nq = w5 at hrs5 hb5 ⊢
    have h05 := hrs5.c0
    have h15 := hrs5.c1
    have hf5 := hrs5.fr 1
    have hbw5 := hrs5.lt
    have HRS5 := Lib.hid hrs5
    clear hrs5 h0 h1 hf hbw
    go_wp2_with fail
    go_quiet (fail)
    have hrs6 := HRS5.out.drewN nq
    have hb6 := Below.drewsN hb5 nq
    generalize w5.drewN nq = w6 at hrs6 hb6 ⊢
    have h06 := hrs6.c0
    have h16 := hrs6.c1
    have hf6 := hrs6.fr 1
    have hbw6 := hrs6.lt
    have HRS6 := Lib.hid hrs6
    clear hrs6 h05 h15 hf5 hbw5 HRS5
    by_cases hq : d = 34
    · have m1 : ((d.toNat : Int) == 34) = true := by rw [hq]; rfl
      have hv : stepR t p = (true, 0, 1, []) := by rw [HE.out, if_pos hq]
      have HV := Lib.hid hv
      clear hv hq
      go_wp2_with fail
      go_ret2
      exact ⟨by rw [HV.out]; rfl, by rw [HV.out, List.append_nil]; exact HRS6.out.setAt (p + 1) _ (by omega), Below.setCell (p := ⟨b, 1, none⟩) hb6 (Nat.le_refl b) _⟩
    have m1 : ((d.toNat : Int) == 34) = false := by
      rw [beq_eq_false_iff_ne]; intro h; exact hq (UInt8.toNat_inj.1 (by simpa using (by omega : d.toNat = 34)))
    by_cases hs : d = 92
    · have m2 : ((d.toNat : Int) == 92) = true := by rw [hs]; rfl
      have hv : stepR t p = (false, (escR t (p + 1)).1, (escR t (p + 1)).2.1 + 1, (escR t (p + 1)).2.2) := by rw [HE.out, if_neg hq, if_pos hs]
      have HV := Lib.hid hv
      clear hv hq hs
      have hrs7 := (HRS6.out).setAt (p + 1) ((p : Int) + 1) (by omega)
      have hb7 := Below.setCell (p := ⟨b, 1, none⟩) hb6 (Nat.le_refl b) (.int .i64 ((p : Int) + 1))
      go_wp2_with fail
      refine (escape_any t o b (p + 1) _ hrs7 (by omega) (by omega) ho).mono ?_
      rintro e w8 ⟨rfl, hrs8, hb8⟩
      go_wp2_with fail
      go_ret2
      refine ⟨by rw [HV.out]; rfl, ?_, hb7.trans hb8⟩
      rw [HV.out]
      show RS w8 b t (p + ((escR t (p + 1)).2.1 + 1)) _
      rw [show p + ((escR t (p + 1)).2.1 + 1) = p + 1 + (escR t (p + 1)).2.1 by omega]
      exact hrs8
    have m2 : ((d.toNat : Int) == 92) = false := by
      rw [beq_eq_false_iff_ne]; intro h; exact hs (UInt8.toNat_inj.1 (by simpa using (by omega : d.toNat = 92)))
    have hle := sgn_le (t.drop p)
    rw [List.length_drop] at hle
    obtain ⟨c, z, hcz⟩ : ∃ c z, sgn (t.drop p) = (c, z) := ⟨_, _, rfl⟩
    have hE2 := HE.out
    rw [if_neg hq, if_neg hs, hcz] at hE2
    rw [hcz] at hle
    simp only at hle hE2
    have HE2 := Lib.hid hE2
    have hsa : ∀ W, Calls Tryz.prog 103 #[str t, .int .i64 (p : Int)] W fun e w' => e = .returned (.tuple #[.int .i64 (c : Int), .int .i64 (z : Int)]) ∧ w' = W := fun W => by
      have := signAt_any t p W hlt (by omega)
      rw [hcz] at this
      exact this
    have HSA := Lib.hid hsa
    clear hq hs hcz hE2 hsa
    obtain ⟨C, hC⟩ : ∃ C : Int, C = (c : Int) := ⟨_, rfl⟩
    have HC := Lib.hid hC
    by_cases hz : z = 0
    · have m3 : ((z : Int) == 0) = true := by rw [beq_iff_eq]; omega
      have hv : stepR t p = (false, 4, 0, []) := by rw [HE2.out, if_pos (.inl hz)]
      have HV := Lib.hid hv
      clear hv hz hC
      go_wp2_with fail
      go_quiet ((go_at_call 103; exact Calls.quiet_of_same (HSA.out _)))
      go_wp2_with fail
      go_ret2
      exact ⟨by rw [HV.out]; rfl, by rw [HV.out, List.append_nil]; exact HRS6.out.drewN _, Below.drewsN hb6 _⟩
    have m3 : ((z : Int) == 0) = false := by rw [beq_eq_false_iff_ne]; omega
    by_cases hc : c < 32
    · have m4 : (c : Int) < 32 := by omega
      have hv : stepR t p = (false, 4, 0, []) := by rw [HE2.out, if_pos (.inr hc)]
      have HV := Lib.hid hv
      clear hv hz hC
      go_wp2_with fail
      go_quiet ((go_at_call 103; exact Calls.quiet_of_same (HSA.out _)))
      go_wp2_with fail
      go_ret2
      exact ⟨by rw [HV.out]; rfl, by rw [HV.out, List.append_nil]; exact HRS6.out.drewN _, Below.drewsN hb6 _⟩
    have m4 : ¬ (c : Int) < 32 := by omega
    have hv : stepR t p = (false, 0, z, (t.drop p).take z) := by rw [HE2.out, if_neg (by rintro (h | h) <;> contradiction)]
    have HV := Lib.hid hv
    clear hv hz hC hc
    have m9 : z ≤ t.length := by omega
    have m5 : IntKind.i64.wrap ((p : Int) + (z : Int)) = (p : Int) + (z : Int) := IntWalk.i64_in _ ⟨by omega, by omega⟩
    have m6 : (p : Int) + (z : Int) ≤ (t.length : Int) := by omega
    have m7 : (p : Int) ≤ (p : Int) + (z : Int) := by omega
    have m8 : (0 : Int) ≤ (p : Int) + (z : Int) := by omega
    go_wp2_with fail
    go_quiet ((go_at_call 103; exact Calls.quiet_of_same (HSA.out _)))
    have hrs7 := HRS6.out.drewN nq
    have hb7 := Below.drewsN hb6 nq
    generalize w6.drewN nq = w7 at hrs7 hb7 ⊢
    have h07 := hrs7.c0
    have h17 := hrs7.c1
    obtain ⟨v, hc2, hov⟩ := hrs7.c2
    have hf7 := hrs7.fr 1
    have hf72 := hrs7.fr 2
    have hbw7 := hrs7.lt
    have HRS7 := Lib.hid hrs7
    clear hrs7 h06 h16 hf6 hbw6 HRS6
    go_wp2_with fail
    have htk : ((t.drop p).take z).length = z := by simp; omega
    have HTK := Lib.hid htk
    clear htk
    have hlt2 : o.length + ((t.drop p).take z).length ≤ 140737488355328 := by rw [HTK.out]; clear m5; omega
    have hnat : ((p : Int) + (z : Int)).toNat = p + z := by omega
    have hsub := sub_str t p z _ hnat
    have HSUB := Lib.hid hsub
    have hhs : b + 1 ≤ w7.drew.heap.size := hbw7
    clear hsub hnat
    go_region_law ((
           refine bt.stepAppendStr Tryz.underlying9 (by rfl) (.tmp 67) (.tmp 82) (by rfl) (b + 1) v o ((t.drop p).take z) (by rfl) hov.drew1 HSUB.out hlt2 hhs ?_
           intro ad10 n10 cp10 w10 ho10 hg10
           have hc10 := (HRS7.out.still hc2 (grown_undrew hg10)).1
           have hf10 := (HRS7.out.still hc2 (grown_undrew hg10)).2))
    all_goals
      have hb10 := hb7.grown (grown_undrew hg10) (Nat.le_of_lt hbw7) (fun k e => by have := hov.base k e; omega)
      have hrs10 := HRS7.out.setOut hc2 (grown_undrew hg10) ho10
      have hb11 := Below.setCell (p := ⟨b, 2, none⟩) hb10 (Nat.le_refl b) (.slice ad10 n10 cp10)
      clear ho10 hg10
      generalize w10.setCell ⟨b, 2, none⟩ (.slice ad10 n10 cp10) = w11 at hrs10 hb11 ⊢
      have h110 := hrs10.c1
      have hf110 := hrs10.fr 1
      have H10 := Lib.hid hrs10
      clear hrs10
      go_wp2_with fail
      go_ret2
      exact ⟨by rw [HV.out]; rfl, by rw [HV.out]; exact H10.out.setAt (p + z) _ (by omega), Below.setCell (p := ⟨b, 1, none⟩) hb11 (Nat.le_refl b) _⟩
  · obtain rfl : p = t.length := by omega
    have n1 : ((t.length : Int) == (t.length : Int)) = true := beq_self_eq_true _
    have hw : stepR t t.length = (false, 2, 0, []) := by rw [stepR, List.getElem?_eq_none (Nat.le_refl _)]
    rw [hw]
    clear hw
    go_enter Tryz.func85, Tryz.ntmps85
    go_wp2_with fail
    go_quiet (fail)
    go_wp2_with fail
    go_ret2
    exact ⟨rfl, by rw [List.append_nil]; exact HRS.out.drewN _, Below.drewsN (Below.refl _ _) _⟩
end Go.Proofs.YtidlhajibjnkeaaGreatDoor
