/- keys: number, threeParts, parts, by their contracts. -/
import Derived.Test.YtonkfekjhbfelaaDoorKPar
import Derived.Test.YtonkfekjhbfelaaDoorKSplit
import Derived.Test.YtonkfekjhbfelaaDoorUnhex
import Derived.Deep.QuietTactic
import Derived.Deep.RegionHeld3
import Derived.BigQuiet
namespace Go.Proofs.YtonkfekjhbfelaaDoor
open Go.RowKit

def dgB (c : UInt8) : Bool := decide (48 ≤ c.toNat) && decide (c.toNat ≤ 57)
def valL (s : List UInt8) : Nat := s.foldl (fun a c => 10 * a + (c.toNat - 48)) 0
theorem valL_snoc (s : List UInt8) (c : UInt8) : valL (s ++ [c]) = 10 * valL s + (c.toNat - 48) := by simp [valL, List.foldl_append]
theorem valL_lt : ∀ (k : Nat) (s : List UInt8), s.length = k → s.all dgB = true → valL s < 10 ^ k
  | 0, s, h, _ => by obtain rfl := List.eq_nil_of_length_eq_zero h; simp [valL]
  | k + 1, s, h, ha => by
    obtain ⟨t, c, rfl⟩ : ∃ t c, s = t ++ [c] := ⟨s.dropLast, s.getLast (by intro e; subst e; cases h), (List.dropLast_concat_getLast _).symm⟩
    simp only [List.length_append, List.length_cons, List.length_nil] at h
    rw [List.all_append, Bool.and_eq_true] at ha
    have h1 := valL_lt k t (by omega) ha.1
    have h2 : 48 ≤ c.toNat ∧ c.toNat ≤ 57 := by simpa [dgB] using ha.2
    rw [valL_snoc, Nat.pow_succ]
    omega
/-- A number of six digits; -1: it is none. -/
def numF (s : List UInt8) : Int := if s.length = 6 ∧ s.all dgB = true then (valL s : Int) else -1
set_option maxHeartbeats 2000000 in
theorem number_any (s : List UInt8) (w : World) : Calls Tryd.prog 38 #[str s] w fun e w' => e = .returned (.int .i64 (numF s)) ∧ w' = w := by
  by_cases h6 : s.length = 6
  · have t6 : ((s.length : Int) != 6) = false := by rw [bne_eq_false_iff_eq]; omega
    go_enter Tryd.func38, Tryd.ntmps38
    go_wp2_with fail
    go_loop [3, 4, 10] (fun nv _ iv => ∃ k : Nat, k ≤ 6 ∧ iv = .int .i64 (k : Int) ∧ nv = .int .i64 (valL (s.take k) : Int) ∧ (s.take k).all dgB = true) (fun _ _ iv => 6 - (intOf iv).toNat)
    case atStart => exact ⟨0, by omega, rfl, rfl, rfl⟩
    case round =>
      obtain ⟨k, hk, rfl, rfl, hall⟩ := hrel
      have HALL := Lib.hid hall
      have hv := valL_lt k (s.take k) (by simp; omega) hall
      have hp : 10 ^ k ≤ 10 ^ 6 := Nat.pow_le_pow_right (by omega) hk
      have e6 : (10 : Nat) ^ 6 = 1000000 := by decide
      have hv2 : valL (s.take k) < 1000000 := by omega
      clear hall hv hp e6
      by_cases hlt : k < 6
      · have n1 : (k : Int) < (s.length : Int) := by omega
        have n1' : k < s.length := by omega
        obtain ⟨d, hd⟩ : ∃ d, d = s[k] := ⟨_, rfl⟩
        have hgd : (ByteArray.mk s.toArray)[k]'(by simpa [ByteArray.size] using n1') = d := hd.symm
        have hts : s.take (k + 1) = s.take k ++ [d] := by rw [hd]; exact List.take_succ_eq_append_getElem n1'
        have hvs : valL (s.take (k + 1)) = 10 * valL (s.take k) + (d.toNat - 48) := by rw [hts, valL_snoc]
        have hd2 := d.toNat_lt
        obtain ⟨v, hv⟩ : ∃ v, v = valL (s.take k) := ⟨_, rfl⟩
        rw [← hv] at hv2 hvs ⊢
        have HVS := Lib.hid hvs
        have HTS := Lib.hid hts
        have HD := Lib.hid hd
        clear hv hvs hts hd
        by_cases hg : 48 ≤ d.toNat ∧ d.toNat ≤ 57
        · have g1 : ¬ (d.toNat : Int) < 48 := by omega
          have g2 : ¬ (57 : Int) < (d.toNat : Int) := by omega
          have HA : Hid ((s.take (k + 1)).all dgB = true) := Lib.hid (by rw [HTS.out, List.all_append, HALL.out]; simp [dgB, hg])
          go_wp2_with fail
          go_round
          case rel => exact ⟨k + 1, by omega, by go_num, by rw [HVS.out]; go_num, HA.out⟩
          case measure => simp [intOf]; omega
        · have HF : Hid (numF s = -1) := Lib.hid (by
            unfold numF
            rw [if_neg]
            rintro ⟨_, ha⟩
            have := (List.all_eq_true.1 ha) s[k] (List.getElem_mem n1')
            rw [← HD.out] at this
            simp [dgB] at this
            exact hg this)
          have key : (d.toNat : Int) < 48 ∨ (¬ (d.toNat : Int) < 48 ∧ (57 : Int) < (d.toNat : Int)) := by omega
          clear hg
          rcases key with g1 | ⟨g1, g2⟩
          all_goals
            go_wp2_with fail
            go_ret
            exact ⟨by rw [HF.out]; rfl, rfl⟩
      · obtain rfl : k = 6 := by omega
        have n1 : ¬ (6 : Int) < (s.length : Int) := by omega
        have HF : Hid (numF s = (valL (s.take 6) : Int)) := Lib.hid (by
          have e : s.take 6 = s := List.take_of_length_le (by omega)
          have := HALL.out
          rw [e] at this ⊢
          unfold numF
          rw [if_pos ⟨h6, this⟩])
        clear h6
        go_wp2_with fail
        go_ret
        exact ⟨by rw [HF.out]; rfl, rfl⟩
  · have t6 : ((s.length : Int) != 6) = true := by rw [bne_iff_ne]; omega
    have HF : Hid (numF s = -1) := Lib.hid (by unfold numF; rw [if_neg (fun h => h6 h.1)])
    clear h6
    go_enter Tryd.func38, Tryd.ntmps38
    go_wp2_with fail
    go_ret
    exact ⟨by rw [HF.out]; rfl, rfl⟩
/-- Parts. -/
structure Pa where
  k : Int
  u : List UInt8
  f : List UInt8
  n : List UInt8
  g : List UInt8
  i : Int
def pa0 : Pa := ⟨0, [], [], [], [], 0⟩
abbrev pa (p : Pa) : Value := pak p.k p.u p.f p.n p.g p.i
open Classical in
noncomputable def unhexF (c : List UInt8) : List UInt8 := if c.length % 2 = 0 ∧ hexOkK c (c.length / 2) then unhexK c (c.length / 2) else []
noncomputable def threeF (a b c : List UInt8) : Pa :=
  if a = [101] then ⟨2, [], b, [], [], numF c⟩ else if a = [103] then ⟨3, [], b, [], unhexF c, 0⟩ else if a = [115] then ⟨4, b, c, [], [], 0⟩
  else if a = [100] then ⟨5, b, [], c, [], 0⟩ else if a = [109] then ⟨7, b, c, [], [], 0⟩ else pa0
noncomputable def partsF : List (List UInt8) → Pa
  | [a, b] => if a = [102] then ⟨1, [], b, [], [], 0⟩ else pa0
  | [a, b, c] => threeF a b c
  | [a, b, c, d] => if a = [114] then ⟨6, b, c, [], [], numF d⟩ else pa0
  | _ => pa0
set_option maxHeartbeats 2000000 in
theorem three_any (a b c : List UInt8) (w : World) (hc : c.length ≤ 100000) :
    Calls Tryd.prog 37 #[str a, str b, str c] w fun e w' => e = .returned (pa (threeF a b c)) ∧ Below w.heap.size w w' := by
  obtain ⟨W, hW⟩ : ∃ W, W = w.alloc (.cells #[.int .i64 0, str [], str [], str [], str [], .int .i64 0] 23) := ⟨_, rfl⟩
  have HB : Hid (Below w.heap.size w W) := Lib.hid (by rw [hW]; exact below_alloc w _)
  have P := PK.made w 0 [] [] [] [] 0 23
  rw [← hW] at P
  have key : a = [101] ∨ a = [103] ∨ a = [115] ∨ a = [100] ∨ a = [109] ∨ (a ≠ [101] ∧ a ≠ [103] ∧ a ≠ [115] ∧ a ≠ [100] ∧ a ≠ [109]) := by
    by_cases h1 : a = [101]
    · exact .inl h1
    by_cases h2 : a = [103]
    · exact .inr (.inl h2)
    by_cases h3 : a = [115]
    · exact .inr (.inr (.inl h3))
    by_cases h4 : a = [100]
    · exact .inr (.inr (.inr (.inl h4)))
    by_cases h5 : a = [109]
    · exact .inr (.inr (.inr (.inr (.inl h5))))
    exact .inr (.inr (.inr (.inr (.inr ⟨h1, h2, h3, h4, h5⟩))))
  rcases key with rfl | rfl | rfl | rfl | rfl | ⟨n1, n2, n3, n4, n5⟩
  · have HE := Lib.hid (show threeF [101] b c = ⟨2, [], b, [], [], numF c⟩ from rfl)
    have CN := Lib.hid (number_any c (w.alloc (.cells #[.int .i64 0, str [], str [], str [], str [], .int .i64 0] 23)))
    go_enter Tryd.func37, Tryd.ntmps37
    go_wp2_with fail
    refine CN.out.mono ?_
    rintro e w' ⟨rfl, rfl⟩
    go_wp2_with fail
    refine bodyPost_ret (v := pak 2 [] b [] [] (numF c)) (by simp [results, Tryd.results37, go_sem]) rfl ⟨by rw [HE.out], below_alloc w _⟩
  · have HE := Lib.hid (show threeF [103] b c = ⟨3, [], b, [], unhexF c, 0⟩ from rfl)
    have CU : Hid (Calls Tryd.prog 43 #[str c] W fun e w' => ∃ v ok, e = .returned (.tuple #[v, .bool ok]) ∧ Rd w' v (unhexF c) ∧ Below W.heap.size W w') := Lib.hid (by
      refine (unhex_any c W (by omega)).mono ?_
      rintro e w' ⟨hb, ⟨v, rfl, h1, h2, ho⟩ | ⟨rfl, h⟩⟩
      · exact ⟨v, true, rfl, by unfold unhexF; rw [if_pos ⟨h1, h2⟩]; exact ho.rd, hb⟩
      · refine ⟨_, false, rfl, ?_, hb⟩
        have e : unhexF c = [] := by
          unfold unhexF
          rw [if_neg]
          rintro ⟨h1, h2⟩
          rcases h with h | h
          · omega
          · exact h h2
        rw [e]
        exact Rd.nil _)
    go_enter Tryd.func37, Tryd.ntmps37
    go_wp2_with fail
    simp only [← hW]
    go_wp2_with fail
    refine CU.out.mono ?_
    rintro e w' ⟨v, ok, rfl, hv, hb⟩
    have hcv := bt.toString (w := w') (S := 9) Tryd.underlying9 hv
    obtain ⟨va, vc, rfl, _⟩ := hv
    have P := P.below hb P.lt
    have HB : Hid (Below w.heap.size w w') := Lib.hid (HB.out.trans (hb.mono HB.out.size))
    clear hb CU
    obtain ⟨x0, x1, x2, x3, x4, x5⟩ := P.cs
    have y0 := P.fr 0
    have y1 := P.fr 1
    have y2 := P.fr 2
    have y3 := P.fr 3
    have y4 := P.fr 4
    have y5 := P.fr 5
    go_wp2_with fail
    have hBN := below_set6 HB.out (Nat.le_refl _) 3 [] b [] (unhexF c) 0
    refine bodyPost_ret (v := pak 3 [] b [] (unhexF c) 0) (by simp [results, Tryd.results37, go_sem, x0, x1, x2, x3, x4, x5]) rfl ⟨by rw [HE.out], hBN⟩
  · have HE := Lib.hid (show threeF [115] b c = ⟨4, b, c, [], [], 0⟩ from rfl)
    go_enter Tryd.func37, Tryd.ntmps37
    go_wp2_with fail
    refine bodyPost_ret (v := pak 4 b c [] [] 0) (by simp [results, Tryd.results37, go_sem]) rfl ⟨by rw [HE.out], below_alloc w _⟩
  · have HE := Lib.hid (show threeF [100] b c = ⟨5, b, [], c, [], 0⟩ from rfl)
    go_enter Tryd.func37, Tryd.ntmps37
    go_wp2_with fail
    refine bodyPost_ret (v := pak 5 b [] c [] 0) (by simp [results, Tryd.results37, go_sem]) rfl ⟨by rw [HE.out], below_alloc w _⟩
  · have HE := Lib.hid (show threeF [109] b c = ⟨7, b, c, [], [], 0⟩ from rfl)
    go_enter Tryd.func37, Tryd.ntmps37
    go_wp2_with fail
    refine bodyPost_ret (v := pak 7 b c [] [] 0) (by simp [results, Tryd.results37, go_sem]) rfl ⟨by rw [HE.out], below_alloc w _⟩
  · have HE := Lib.hid (show threeF a b c = ⟨0, [], [], [], [], 0⟩ by unfold threeF; rw [if_neg n1, if_neg n2, if_neg n3, if_neg n4, if_neg n5]; rfl)
    have t1 : (a == [101]) = false := by rw [beq_eq_false_iff_ne]; exact n1
    have t2 : (a == [103]) = false := by rw [beq_eq_false_iff_ne]; exact n2
    have t3 : (a == [115]) = false := by rw [beq_eq_false_iff_ne]; exact n3
    have t4 : (a == [100]) = false := by rw [beq_eq_false_iff_ne]; exact n4
    have t5 : (a == [109]) = false := by rw [beq_eq_false_iff_ne]; exact n5
    clear n1 n2 n3 n4 n5
    go_enter Tryd.func37, Tryd.ntmps37
    go_wp2_with fail
    refine bodyPost_ret (v := pak 0 [] [] [] [] 0) (by simp [results, Tryd.results37, go_sem]) rfl ⟨by rw [HE.out], below_alloc w _⟩
end Go.Proofs.YtonkfekjhbfelaaDoor
