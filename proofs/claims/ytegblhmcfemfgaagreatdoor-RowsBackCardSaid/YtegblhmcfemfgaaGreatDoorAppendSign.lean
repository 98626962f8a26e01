/- text.tail, text.appendSign, text.Sign by their contracts. -/
import Derived.Test.YtegblhmcfemfgaaGreatDoorQuote
namespace Go.Proofs.YtegblhmcfemfgaaGreatDoor
open Go.RowKit

/-- A sign's bytes. -/
def sb (c : Nat) : List UInt8 :=
  if c < 128 then [UInt8.ofNat c]
  else if c < 2048 then [UInt8.ofNat (192 + c / 64), UInt8.ofNat (128 + c % 64)]
  else if c < 65536 then [UInt8.ofNat (224 + c / 4096), UInt8.ofNat (128 + c / 64 % 64), UInt8.ofNat (128 + c % 64)]
  else [UInt8.ofNat (240 + c / 262144), UInt8.ofNat (128 + c / 4096 % 64), UInt8.ofNat (128 + c / 64 % 64), UInt8.ofNat (128 + c % 64)]
theorem orI (h k j x : Nat) (hh : h = 2 ^ j * k) (hx : x < 2 ^ j) (hb : h + x < 9223372036854775808) : bits .or .i64 (h : Int) (x : Int) = ((h + x : Nat) : Int) := by
  have h1 : (BitVec.ofInt 64 (h : Int)).toNat = h := by rw [BitVec.toNat_ofInt]; omega
  have h2 : (BitVec.ofInt 64 (x : Int)).toNat = x := by rw [BitVec.toNat_ofInt]; omega
  show IntKind.i64.wrap ((BitVec.ofInt 64 (h : Int) ||| BitVec.ofInt 64 (x : Int)).toNat : Nat) = _
  rw [BitVec.toNat_or, h1, h2, hh, ← Nat.two_pow_add_eq_or_of_lt hx, ← hh]
  exact IntWalk.i64_in _ ⟨by omega, by omega⟩
theorem bvN (n : Nat) (x : Int) (h : n < 256) (hx : x = (n : Int)) : Value.int .u8 x = bv (UInt8.ofNat n) := by
  subst hx
  unfold bv
  rw [show (UInt8.ofNat n).toNat = n by simp; omega]

/-- Three, four new bytes in a block of their own. -/
theorem Rd.three (E : TypeId) (w : World) (c1 c2 c3 : UInt8) (x1 x2 x3 : Value) (b : Nat) (h1 : x1 = bv c1) (h2 : x2 = bv c2) (h3 : x3 = bv c3) (hb : b = w.heap.size) :
    Rd (w.alloc (.cells #[x1, x2, x3] E)) (.slice (some ⟨b, 0, none⟩) 3 3) [c1, c2, c3] := by
  subst hb h1 h2 h3
  refine ⟨_, 3, rfl, by simp, by decide, (fun h => by cases h), fun _ => ⟨w.heap.size, 0, rfl, fun i hi => ?_⟩⟩
  simp at hi
  rcases (show i = 0 ∨ i = 1 ∨ i = 2 by omega) with rfl | rfl | rfl <;> simp
theorem Rd.four (E : TypeId) (w : World) (c1 c2 c3 c4 : UInt8) (x1 x2 x3 x4 : Value) (b : Nat) (h1 : x1 = bv c1) (h2 : x2 = bv c2) (h3 : x3 = bv c3) (h4 : x4 = bv c4) (hb : b = w.heap.size) :
    Rd (w.alloc (.cells #[x1, x2, x3, x4] E)) (.slice (some ⟨b, 0, none⟩) 4 4) [c1, c2, c3, c4] := by
  subst hb h1 h2 h3 h4
  refine ⟨_, 4, rfl, by simp, by decide, (fun h => by cases h), fun _ => ⟨w.heap.size, 0, rfl, fun i hi => ?_⟩⟩
  simp at hi
  rcases (show i = 0 ∨ i = 1 ∨ i = 2 ∨ i = 3 by omega) with rfl | rfl | rfl | rfl <;> simp

theorem tail_any (c : Nat) (w : World) (hc : c ≤ 4294967296) : Calls Tryz.prog 187 #[.int .i64 (c : Int)] w fun e w' => e = .returned (.int .u8 ((128 + c % 64 : Nat) : Int)) ∧ w' = w := by
  have a1 := andI c 63 6 (by decide) (by omega) (by decide)
  simp only [Nat.reducePow] at a1
  have a1' : bits .and .i64 (c : Int) 63 = ((c % 64 : Nat) : Int) := a1
  obtain ⟨x, hx⟩ : ∃ x, x = c % 64 := ⟨_, rfl⟩
  rw [← hx] at a1' ⊢
  have hx64 : x < 64 := by omega
  have o1 : bits .or .i64 128 (x : Int) = ((128 + x : Nat) : Int) := orI 128 1 7 x (by decide) (by omega) (by omega)
  have HX := Lib.hid hx
  clear hx a1
  have hwr : IntKind.u8.wrap ((128 + x : Nat) : Int) = ((128 + x : Nat) : Int) := IntWalk.u8_in _ ⟨by omega, by omega⟩
  go_enter Tryz.func187, Tryz.ntmps187
  go_wp2_with fail
  go_ret
  exact ⟨by congr 2, rfl⟩

set_option maxHeartbeats 1600000 in
theorem appendSign_any (v : Value) (l : List UInt8) (c : Nat) (w : World) (base : Nat) (hown : Own 5 w base v l) (hbase : base ≤ w.heap.size) (hl : l.length ≤ 70368744177664) (hc : c ≤ 1114111) :
    Calls Tryz.prog 185 #[v, .int .i64 (c : Int)] w fun e w' => ∃ v', e = .returned v' ∧ Own 5 w' base v' (l ++ sb c) ∧ w.grownBy w' v.ownBlock := by
  obtain ⟨A, hA⟩ : ∃ A : Int, A = (c : Int) := ⟨_, rfl⟩
  by_cases h1 : c < 128
  · have n1 : A < 128 := by omega
    have hs : sb c = [UInt8.ofNat c] := by rw [sb, if_pos h1]
    have hw1 : IntKind.u8.wrap A = A := IntWalk.u8_in _ ⟨by omega, by omega⟩
    have HS := Lib.hid hs
    have hcv : A = ((UInt8.ofNat c).toNat : Int) := by rw [hA]; simp; omega
    rw [← hA]
    have HA := Lib.hid hA
    have HC := Lib.hid hcv
    clear hs h1 hA hcv
    go_enter Tryz.func185, Tryz.ntmps185
    go_wp2_with (at_builtin; refine hold ?_)
    intro _
    refine bt.append1 rfl _ _ rfl base v l (UInt8.ofNat c) _ HC.out hown rfl rfl (by omega) hbase ?_
    intro v' w2 ho2 hg2
    go_wp2_with fail
    go_ret
    exact ⟨v', rfl, by rw [HS.out]; exact ho2, hg2⟩
  · have n1 : ¬ A < 128 := by omega
    by_cases h2 : c < 2048
    · have n2 : A < 2048 := by omega
      have hs : sb c = [UInt8.ofNat (192 + c / 64), UInt8.ofNat (128 + c % 64)] := by rw [sb, if_neg h1, if_pos h2]
      have HS := Lib.hid hs
      have o1 : bits .or .i64 192 (A / 64) = ((192 + c / 64 : Nat) : Int) := by
        rw [hA, show ((c : Int) / 64) = ((c / 64 : Nat) : Int) by omega]
        exact orI 192 3 6 _ (by decide) (by omega) (by omega)
      have hw1 : IntKind.u8.wrap ((192 + c / 64 : Nat) : Int) = ((192 + c / 64 : Nat) : Int) := IntWalk.u8_in _ ⟨by omega, by omega⟩
      rw [← hA]
      have t0 : ∀ w, Calls Tryz.prog 187 #[.int .i64 A] w fun e w' => e = .returned (.int .u8 ((128 + c % 64 : Nat) : Int)) ∧ w' = w := by rw [hA]; exact fun w => tail_any c w (by omega)
      have T0 := Lib.hid t0
      have HA := Lib.hid hA
      clear hs h1 hA t0
      go_enter Tryz.func185, Tryz.ntmps185
      go_wp2_with fail
      refine (T0.out _).mono ?_
      rintro e w' ⟨rfl, rfl⟩
      go_wp2_with (at_builtin; refine hold ?_)
      intro _
      refine bt.appendS rfl _ _ rfl base v _ l [UInt8.ofNat (192 + c / 64), UInt8.ofNat (128 + c % 64)] (hown.alloc _) (Rd.two _ _ _ _ _ _ _ (bvN _ _ (by omega) (by omega)) (bvN _ _ (by omega) (by omega)) rfl) rfl rfl (by simp; omega) (by simp; omega) ?_
      intro v' w2 ho2 hg2
      go_wp2_with fail
      go_ret
      exact ⟨v', rfl, by rw [HS.out]; exact ho2, grown_trans (World.grownBy_alloc _ _ _) hg2⟩
    · have n2 : ¬ A < 2048 := by omega
      have t0 : ∀ w, Calls Tryz.prog 187 #[.int .i64 A] w fun e w' => e = .returned (.int .u8 ((128 + c % 64 : Nat) : Int)) ∧ w' = w := by rw [hA]; exact fun w => tail_any c w (by omega)
      have t1 : ∀ w, Calls Tryz.prog 187 #[.int .i64 (A / 64)] w fun e w' => e = .returned (.int .u8 ((128 + c / 64 % 64 : Nat) : Int)) ∧ w' = w := by
        rw [hA, show ((c : Int) / 64) = ((c / 64 : Nat) : Int) by omega]; exact fun w => tail_any (c / 64) w (by omega)
      have t2 : ∀ w, Calls Tryz.prog 187 #[.int .i64 (A / 4096)] w fun e w' => e = .returned (.int .u8 ((128 + c / 4096 % 64 : Nat) : Int)) ∧ w' = w := by
        rw [hA, show ((c : Int) / 4096) = ((c / 4096 : Nat) : Int) by omega]; exact fun w => tail_any (c / 4096) w (by omega)
      have T0 := Lib.hid t0
      have T1 := Lib.hid t1
      have T2 := Lib.hid t2
      clear t0 t1 t2
      by_cases h3 : c < 65536
      · have n3 : A < 65536 := by omega
        have hs : sb c = [UInt8.ofNat (224 + c / 4096), UInt8.ofNat (128 + c / 64 % 64), UInt8.ofNat (128 + c % 64)] := by rw [sb, if_neg h1, if_neg h2, if_pos h3]
        have HS := Lib.hid hs
        have o1 : bits .or .i64 224 (A / 4096) = ((224 + c / 4096 : Nat) : Int) := by
          rw [hA, show ((c : Int) / 4096) = ((c / 4096 : Nat) : Int) by omega]
          exact orI 224 7 5 _ (by decide) (by omega) (by omega)
        have hw1 : IntKind.u8.wrap ((224 + c / 4096 : Nat) : Int) = ((224 + c / 4096 : Nat) : Int) := IntWalk.u8_in _ ⟨by omega, by omega⟩
        rw [← hA]
        have H3 := Lib.hid h3
        have HA := Lib.hid hA
        clear hs h1 h2 h3 hA
        go_enter Tryz.func185, Tryz.ntmps185
        go_wp2_with fail
        refine (T1.out _).mono ?_
        rintro e w' ⟨rfl, rfl⟩
        go_wp2_with fail
        refine (T0.out _).mono ?_
        rintro e w' ⟨rfl, rfl⟩
        go_wp2_with (at_builtin; refine hold ?_)
        intro _
        have h3 := H3.out
        refine bt.appendS rfl _ _ rfl base v _ l [UInt8.ofNat (224 + c / 4096), UInt8.ofNat (128 + c / 64 % 64), UInt8.ofNat (128 + c % 64)] (hown.alloc _) (Rd.three _ _ _ _ _ _ _ _ _ (bvN _ _ (by omega) (by omega)) (bvN _ _ (by omega) (by omega)) (bvN _ _ (by omega) (by omega)) rfl) rfl rfl (by simp; omega) (by simp; omega) ?_
        clear h3
        intro v' w2 ho2 hg2
        go_wp2_with fail
        go_ret
        exact ⟨v', rfl, by rw [HS.out]; exact ho2, grown_trans (World.grownBy_alloc _ _ _) hg2⟩
      · have n3 : ¬ A < 65536 := by omega
        have hs : sb c = [UInt8.ofNat (240 + c / 262144), UInt8.ofNat (128 + c / 4096 % 64), UInt8.ofNat (128 + c / 64 % 64), UInt8.ofNat (128 + c % 64)] := by rw [sb, if_neg h1, if_neg h2, if_neg h3]
        have HS := Lib.hid hs
        have o1 : bits .or .i64 240 (A / 262144) = ((240 + c / 262144 : Nat) : Int) := by
          rw [hA, show ((c : Int) / 262144) = ((c / 262144 : Nat) : Int) by omega]
          exact orI 240 15 4 _ (by decide) (by omega) (by omega)
        have hw1 : IntKind.u8.wrap ((240 + c / 262144 : Nat) : Int) = ((240 + c / 262144 : Nat) : Int) := IntWalk.u8_in _ ⟨by omega, by omega⟩
        rw [← hA]
        have HA := Lib.hid hA
        have HCC := Lib.hid hc
        clear hs h1 h2 h3 hA hc
        go_enter Tryz.func185, Tryz.ntmps185
        go_wp2_with fail
        refine (T2.out _).mono ?_
        rintro e w' ⟨rfl, rfl⟩
        go_wp2_with fail
        refine (T1.out _).mono ?_
        rintro e w' ⟨rfl, rfl⟩
        go_wp2_with fail
        refine (T0.out _).mono ?_
        rintro e w' ⟨rfl, rfl⟩
        go_wp2_with (at_builtin; refine hold ?_)
        intro _
        have hc := HCC.out
        refine bt.appendS rfl _ _ rfl base v _ l [UInt8.ofNat (240 + c / 262144), UInt8.ofNat (128 + c / 4096 % 64), UInt8.ofNat (128 + c / 64 % 64), UInt8.ofNat (128 + c % 64)] (hown.alloc _) (Rd.four _ _ _ _ _ _ _ _ _ _ _ (bvN _ _ (by omega) (by omega)) (bvN _ _ (by omega) (by omega)) (bvN _ _ (by omega) (by omega)) (bvN _ _ (by omega) (by omega)) rfl) rfl rfl (by simp; omega) (by simp; omega) ?_
        clear hc
        intro v' w2 ho2 hg2
        go_wp2_with fail
        go_ret
        exact ⟨v', rfl, by rw [HS.out]; exact ho2, grown_trans (World.grownBy_alloc _ _ _) hg2⟩
end Go.Proofs.YtegblhmcfemfgaaGreatDoor
