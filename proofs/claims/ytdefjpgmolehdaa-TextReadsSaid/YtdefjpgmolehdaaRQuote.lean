/- hblref1's Quote, four, escape, Unquote by their contracts. -/
import Derived.Test.YtdefjpgmolehdaaRText
namespace Go.Proofs.Ytdefjpgmolehdaa
open Go.RowKit

attribute [local go_sem] str_cat

/-- '[]byte{c}', the call's own. -/
theorem Own.one (E : TypeId) (w : World) (c : UInt8) (x : Value) (hx : x = bv c) : Own E (w.alloc (.cells #[x] E)) w.heap.size (.slice (some ⟨w.heap.size, 0, none⟩) 1 1) [c] := by
  subst hx
  refine ⟨by simp, .inr ⟨w.heap.size, 1, #[bv c], rfl, Nat.le_refl _, heap_alloc_new w _, by simp, by decide, by simp, by simp⟩⟩

set_option maxRecDepth 100000 in
set_option maxHeartbeats 3200000 in
theorem refQuote_any (t : List UInt8) (w : World) (hl : t.length ≤ 1099511627776) :
    Calls Try.prog 10 #[str t] w fun e w' => e = quoteE t ∧ Below w.heap.size w w' := by
  cases hv : validB t
  · have hq : quoteE t = .returned (.tuple #[str [], .int .i64 4]) := by rw [quoteE, hv]; rfl
    have HV := Lib.hid hv
    clear hv
    rw [hq]
    clear hq
    go_enter Try.func10, Try.ntmps10
    go_wp2_with fail
    refine (refValid_any t _ (by omega)).mono ?_
    rintro e w' ⟨rfl, rfl⟩
    rw [HV.out]
    go_wp2_with fail
    go_ret2
    exact ⟨rfl, Below.refl _ _⟩
  · have hq : quoteE t = .returned (.tuple #[str (34 :: qbL t ++ [34]), .int .i64 0]) := by rw [quoteE, hv]; rfl
    have HV := Lib.hid hv
    clear hv
    rw [hq]
    clear hq
    go_enter Try.func10, Try.ntmps10
    go_wp2_with fail
    refine (refValid_any t _ (by omega)).mono ?_
    rintro e w' ⟨rfl, rfl⟩
    rw [HV.out]
    go_wp2_with fail
    have hown1 := Own.one 5 w' 34 (.int .u8 34) rfl
    have hb1 := below_alloc w' (.cells #[.int .u8 34] 5)
    go_loopw [4, 5] (fun v i wr => ∃ k : Nat, k ≤ t.length ∧ i = .int .i64 k ∧ Own 5 wr w'.heap.size v (34 :: qbL (t.take k)) ∧ Below w'.heap.size w' wr)
      (fun _ i _ => t.length - (intOf i).toNat)
    case atStart => exact ⟨0, Nat.zero_le _, rfl, hown1, hb1⟩
    case round =>
      obtain ⟨k, hk, rfl, hown, hb⟩ := hrel
      by_cases hlt : k < t.length
      · have hlt' : (k : Int) < (t.length : Int) := by omega
        obtain ⟨c, hce⟩ : ∃ c, c = t[k] := ⟨_, rfl⟩
        have hgd : (ByteArray.mk t.toArray)[k]'(by simpa [ByteArray.size] using hlt) = c := hce.symm
        have hts : t.take (k + 1) = t.take k ++ [c] := by rw [hce]; exact List.take_succ_eq_append_getElem hlt
        have HTS := Lib.hid hts
        have hL := qbL_len (t.take k)
        have hLt : (t.take k).length = k := by simp; omega
        rw [hLt] at hL
        have hc255 := c.toNat_lt
        clear hts hce hLt
        by_cases hs : shB c = 0
        · have n1 : (((shB c).toNat : Int) != 0) = false := by rw [hs]; rfl
          by_cases hsm : c.toNat < 32
          · have n2 : (c.toNat : Int) < 32 := by omega
            have hqb : qb c = [92, 117, 48, 48] ++ hexL [c] := by rw [qb, if_neg (by simp [hs]), if_pos hsm]; rfl
            have hhl := hexL_length [c]
            have HQ := Lib.hid hqb
            have HH := Lib.hid hhl
            have hcat := str_cat [92, 117, 48, 48] (hexL [c])
            have q5 : ¬ (9223372036854775807 < 4 + (hexL [c]).length) := by rw [hhl]; simp
            obtain ⟨x, hx⟩ : ∃ x, x = hexL [c] := ⟨_, rfl⟩
            have HX := Lib.hid hx
            rw [← hx] at hcat q5
            clear hqb hs hsm hhl hx
            go_wp2_with fail
            refine (refShort_any c _).mono ?_
            rintro e w2 ⟨rfl, rfl⟩
            go_wp2_with fail
            have hRd := Rd.one 5 w2 c _ rfl
            have hbA := below_alloc w2 (.cells #[.int .u8 (c.toNat : Int)] 5)
            have hownA := hown.alloc (.cells #[.int .u8 (c.toNat : Int)] 5)
            refine (refHex_any _ [c] _ hRd (by simp)).mono ?_
            rintro e w3 ⟨rfl, hb3⟩
            have hown3 := hownA.below hb3 (Nat.le_refl _)
            have hB3 := (hb.trans (hbA.mono hb.size)).trans (hb3.mono (Nat.le_trans hb.size hbA.size))
            rw [← HX.out]
            go_wp2_with (at_builtin; refine hold ?_)
            intro _
            refine bt.appendStr Try.underlying9 rfl _ _ rfl w'.heap.size _ _ ([92, 117, 48, 48] ++ x) hown3 rfl rfl (by have := HH.out; rw [HX.out]; simp at this ⊢; omega) hB3.size ?_
            intro v4 w4 hown4 hg4
            have hB4 := hB3.grown hg4 hB3.size (fun b e => (hown3.base b e).1)
            go_wp2_with fail
            go_roundw
            case rel => exact ⟨k + 1, by omega, by go_num, by rw [HTS.out, qbL_snoc, HQ.out, ← HX.out]; exact hown4, hB4⟩
            case measure => simp [intOf]; omega
          · have n2 : ¬ (c.toNat : Int) < 32 := by omega
            have hqb : qb c = [c] := by rw [qb, if_neg (by simp [hs]), if_neg hsm]
            have HQ := Lib.hid hqb
            clear hqb hs hsm
            go_wp2_with fail
            refine (refShort_any c _).mono ?_
            rintro e w2 ⟨rfl, rfl⟩
            go_wp2_with (at_builtin; refine hold ?_)
            intro _
            refine bt.append1 rfl _ _ rfl w'.heap.size _ _ c _ rfl hown rfl rfl (by simp; omega) hb.size ?_
            intro v4 w4 hown4 hg4
            have hB4 := hb.grown hg4 hb.size (fun b e => (hown.base b e).1)
            go_wp2_with fail
            go_roundw
            case rel => exact ⟨k + 1, by omega, by go_num, by rw [HTS.out, qbL_snoc, HQ.out]; exact hown4, hB4⟩
            case measure => simp [intOf]; omega
        · have n1 : (((shB c).toNat : Int) != 0) = true := by
            rw [bne_iff_ne]
            intro h
            exact hs (UInt8.toNat_inj.1 (by simpa using h))
          have hqb : qb c = [92, shB c] := by rw [qb, if_pos hs]
          have HQ := Lib.hid hqb
          clear hqb hs
          go_wp2_with fail
          refine (refShort_any c _).mono ?_
          rintro e w2 ⟨rfl, rfl⟩
          go_wp2_with fail
          refine (refShort_any c _).mono ?_
          rintro e w3 ⟨rfl, rfl⟩
          go_wp2_with (at_builtin; refine hold ?_)
          intro _
          refine bt.appendS rfl _ _ rfl w'.heap.size _ _ _ [92, shB c] (hown.alloc _) (Rd.two _ _ _ _ _ _ _ (by rfl) (by rfl) rfl) rfl rfl (by simp; omega) (by have := hb.size; simp; omega) ?_
          intro v4 w4 hown4 hg4
          have hg4' := grown_trans (World.grownBy_alloc _ _ _) hg4
          have hB4 := hb.grown hg4' hb.size (fun b e => (hown.base b e).1)
          go_wp2_with fail
          go_roundw
          case rel => exact ⟨k + 1, by omega, by go_num, by rw [HTS.out, qbL_snoc, HQ.out]; exact hown4, hB4⟩
          case measure => simp [intOf]; omega
      · have hlt' : ¬ (k : Int) < (t.length : Int) := by omega
        obtain rfl : k = t.length := by omega
        rw [List.take_length] at hown
        have hL := qbL_len t
        go_wp2_with (at_builtin; refine hold ?_)
        intro _
        refine bt.append1 rfl _ _ rfl w'.heap.size _ _ 34 _ rfl hown rfl rfl (by simp; omega) hb.size ?_
        intro v4 w4 hown4 hg4
        have hb4 : Below w'.heap.size w' w4 := hb.grown hg4 hb.size (fun b e => (hown.base b e).1)
        have hconv := bt.toString (w := w4) (S := 9) Try.underlying9 hown4.rd
        go_wp2_with fail
        go_ret2
        exact ⟨rfl, hb4⟩

set_option maxHeartbeats 1600000 in
theorem refFour_any (t : List UInt8) (p : Nat) (w : World) (hp : p ≤ t.length) (hl : t.length ≤ 140737488355328) :
    Calls Try.prog 31 #[str t, .int .i64 (p : Int)] w fun e w' =>
      e = .returned (.tuple #[.int .i64 ((fourR 4 (t.drop p) 0).1 : Int), .int .i64 ((fourR 4 (t.drop p) 0).2.1 : Int)]) ∧ w' = w := by
  go_enter Try.func31, Try.ntmps31
  go_wp2_with fail
  go_loop [6, 7] (fun n i => ∃ k acc : Nat, k ≤ 4 ∧ i = .int .i64 (k : Int) ∧ n = .int .i64 (acc : Int) ∧ acc < 16 ^ k ∧
      ((fourR 4 (t.drop p) 0).1, (fourR 4 (t.drop p) 0).2.1) = ((fourR (4 - k) (t.drop (p + k)) acc).1, (fourR (4 - k) (t.drop (p + k)) acc).2.1))
    (fun _ i => 4 - (intOf i).toNat)
  case atStart => exact ⟨0, 0, by omega, rfl, rfl, by decide, rfl⟩
  case round =>
    obtain ⟨k, acc, hk, rfl, rfl, hacc, hr⟩ := hrel
    have hpow : 16 ^ k ≤ 65536 := by
      have := Nat.pow_le_pow_right (n := 16) (by omega) hk
      simpa using this
    have haccb : acc < 65536 := by omega
    have hpow1 : 16 ^ (k + 1) = 16 ^ k * 16 := Nat.pow_succ ..
    obtain ⟨q, hq⟩ : ∃ q, q = p + k := ⟨_, rfl⟩
    have HR := Lib.hid hr
    have HP1 := Lib.hid hpow1
    clear hr hpow1
    by_cases hlt : k < 4
    · have n0 : (k : Int) < 4 := by omega
      have n4 : (p : Int) + (k : Int) = (q : Int) := by omega
      by_cases hqt : q < t.length
      · have n2 : (q : Int) < (t.length : Int) := by omega
        have n3 : (0 : Int) ≤ (q : Int) := by omega
        obtain ⟨d, hd⟩ : ∃ d, d = t[q] := ⟨_, rfl⟩
        have hgd : (ByteArray.mk t.toArray)[q]'(by simpa [ByteArray.size] using hqt) = d := hd.symm
        have hnx := fourR_next (4 - k - 1) t q acc hqt
        rw [← hd, show 4 - k - 1 + 1 = 4 - k by omega] at hnx
        have hrg := refD_range d
        obtain ⟨z, hz⟩ : ∃ z, z = refD d := ⟨_, rfl⟩
        have hdig := refDigit_ret d
        rw [← hz] at hnx hrg hdig
        have HD := Lib.hid hdig
        have HQ := Lib.hid hq
        have HNX := Lib.hid hnx
        clear hd hz hdig hq hnx
        by_cases hneg : z < 0
        · have hfin : ((fourR 4 (t.drop p) 0).1, (fourR 4 (t.drop p) 0).2.1) = (0, 4) := by rw [HR.out, ← HQ.out, HNX.out, if_pos hneg]
          have HF := Lib.hid hfin
          clear hfin
          go_wp2_with fail
          refine (HD.out _).mono ?_
          rintro e w' ⟨rfl, rfl⟩
          go_wp2_with fail
          go_ret2
          exact ⟨by rw [(Prod.mk.inj HF.out).1, (Prod.mk.inj HF.out).2]; rfl, rfl⟩
        · have hz0 : 0 ≤ z := by omega
          have hor := or4 acc z hz0 hrg.2 (by omega)
          have hnat : (acc * 16 + z.toNat) < 16 ^ (k + 1) := by rw [HP1.out]; omega
          obtain ⟨a2, ha2⟩ : ∃ a2, a2 = acc * 16 + z.toNat := ⟨_, rfl⟩
          rw [← ha2] at hor hnat
          have hfin : ((fourR 4 (t.drop p) 0).1, (fourR 4 (t.drop p) 0).2.1) = ((fourR (4 - (k + 1)) (t.drop (p + (k + 1))) a2).1, (fourR (4 - (k + 1)) (t.drop (p + (k + 1))) a2).2.1) := by
            rw [HR.out, ← HQ.out, HNX.out, if_neg hneg, show p + (k + 1) = q + 1 by have := HQ.out; omega, show 4 - (k + 1) = 4 - k - 1 by omega, ha2]
          have HF := Lib.hid hfin
          have HNA := Lib.hid hnat
          obtain ⟨hz1, hz2⟩ := hrg
          clear hfin ha2 hneg hnat
          go_wp2_with fail
          refine (HD.out _).mono ?_
          rintro e w' ⟨rfl, rfl⟩
          go_wp2_with fail
          go_round
          case rel => exact ⟨k + 1, a2, by omega, by go_num, rfl, HNA.out, HF.out⟩
          case measure => simp [intOf]; omega
      · have n2 : ¬ (q : Int) < (t.length : Int) := by omega
        have n5 : (t.length : Int) ≤ (q : Int) := by omega
        have hfin : ((fourR 4 (t.drop p) 0).1, (fourR 4 (t.drop p) 0).2.1) = (0, 2) := by
          rw [HR.out, ← hq, List.drop_eq_nil_of_le (by omega)]
          obtain ⟨j, hj⟩ : ∃ j, 4 - k = j + 1 := ⟨4 - k - 1, by omega⟩
          rw [hj]; rfl
        have HF := Lib.hid hfin
        clear hfin hq
        go_wp2_with fail
        go_ret2
        exact ⟨by rw [(Prod.mk.inj HF.out).1, (Prod.mk.inj HF.out).2]; rfl, rfl⟩
    · obtain rfl : k = 4 := by omega
      have hfin : ((fourR 4 (t.drop p) 0).1, (fourR 4 (t.drop p) 0).2.1) = (acc, 0) := by rw [HR.out]; rfl
      have HF := Lib.hid hfin
      clear hfin hq
      go_wp2_with fail
      go_ret2
      exact ⟨by rw [(Prod.mk.inj HF.out).1, (Prod.mk.inj HF.out).2]; rfl, rfl⟩
end Go.Proofs.Ytdefjpgmolehdaa
