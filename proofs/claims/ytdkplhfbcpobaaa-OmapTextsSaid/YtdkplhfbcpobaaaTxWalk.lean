/- OmapTexts, walked. -/
import Derived.Test.YtdkplhfbcpobaaaTxMath
import Derived.Deep.RegionHeld3
namespace Go.Proofs.Ytdkplhfbcpobaaa
open Go.RowKit

set_option maxRecDepth 100000 in
set_option maxHeartbeats 8000000 in
theorem texts_walk (v : Value) (l : List (List UInt8)) (W : World) (hv : RdV W v (l.map str)) (_hl : ∀ x ∈ l, x.length ≤ 9223372036854775807) :
    Calls Try.prog 6 #[v] W fun e w' => e = .returned (.bool true) ∧ Below W.heap.size W w' := by
  have HV := Lib.hid hv
  obtain ⟨av, cv, rfl, hlen, hcells⟩ := hv
  simp only [List.length_map] at hlen HV ⊢
  have HC := Lib.hid hcells
  clear hcells _hl
  by_cases h200 : l.length ≤ 200
  · have g0 : ¬ ((200 : Int) < (l.length : Int)) := by omega
    go_enter Try.func6, Try.ntmps6
    go_wp2_with fail
    refine (first_any W).mono ?_
    rintro e w1 ⟨rfl, hb1⟩
    have HB1 := Lib.hid hb1
    clear hb1
    go_wp2_with fail
    refine (newSI_any w1).mono ?_
    rintro e w2 ⟨b, rfl, hb, hm2, hb2⟩
    have HB2 : Hid (Below W.heap.size W w2 ∧ SInv l w2 b 0 .nil ∧ W.heap.size ≤ b) := Lib.hid ⟨HB1.out.trans (hb2.mono HB1.out.size), ⟨hm2, trivial, trivial, Nat.le_refl _, Nat.le_refl _, by simp [prs, uniqF], fun j _ h => absurd h (Nat.not_lt_zero _)⟩, by rw [hb]; exact HB1.out.size⟩
    clear hb hm2 hb2 HB1
    go_wp2_with fail
    go_loopw [4] (fun i wr => ∃ (k : Nat) (t : Tr), k ≤ l.length ∧ i = .int .i64 (k : Int) ∧ Hid (Below W.heap.size W wr ∧ SInv l wr b k t ∧ W.heap.size ≤ b)) (fun i _ => l.length - (intOf i).toNat)
    case atStart => exact ⟨0, .nil, Nat.zero_le _, rfl, HB2⟩
    case round =>
      obtain ⟨k, t, hk, rfl, HR⟩ := hrel
      by_cases hlt : k < l.length
      · have g3 : (k : Int) < (l.length : Int) := by omega
        have g4 : (0 : Int) ≤ (k : Int) := by omega
        obtain ⟨bA, oA, rfl, hA⟩ := HC.out (by intro e; simp at e; rw [e] at hlt; simp at hlt)
        obtain ⟨x, hx⟩ : ∃ x, x = l[k] := ⟨_, rfl⟩
        have c0 := hA k (by simpa using hlt)
        simp only [List.getElem_map] at c0
        rw [← hx] at c0
        have hlA := World.block_lt_of_cell? W _ c0
        have d1 : wr.cell? ⟨bA, oA + k, none⟩ = some (str x) := (HR.out.1.cell (p := ⟨bA, oA + k, none⟩) hlA).trans c0
        have CP : Hid (Calls Try.prog 29 #[.pointer (some ⟨b, 0, none⟩), str x, .int .i64 (k : Int)] wr (MapPost b (putT (str x) (.int .i64 (k : Int)) t) (newT (str x) t) wr)) :=
          Lib.hid (by
            obtain ⟨h1, h2, h3⟩ := HR.out
            have := h2.ht
            have := h2.len
            exact mputSI_any b _ _ t wr h2.mp ⟨_, rfl⟩ ⟨_, rfl⟩ h2.ws (by omega) (by omega))
        have HX := Lib.hid hx
        clear hA c0 hx hlA HC HB2
        by_cases hxl : x.length ≤ 100
        · have g5 : ¬ ((100 : Int) < (x.length : Int)) := by omega
          go_wp2_with fail
          refine CP.out.mono ?_
          rintro e w3 ⟨rfl, hm3, ho3, hb3⟩
          have HN : Hid (Below W.heap.size W w3 ∧ SInv l w3 b (k + 1) (putT (str x) (.int .i64 (k : Int)) t) ∧ W.heap.size ≤ b) := by
            obtain ⟨h1, h2, h3⟩ := HR.out
            refine Lib.hid ⟨h1.trans (hb3.mono h3), ?_, h3⟩
            rw [HX.out] at hm3 ⊢
            exact h2.put hlt hm3
          clear hm3 ho3 hb3 HR CP
          go_wp2_with fail
          go_roundw
          case rel => exact ⟨k + 1, _, by omega, by go_num, HN⟩
          case measure => simp [intOf]; omega
        · have g5 : (100 : Int) < (x.length : Int) := by omega
          go_wp2_with fail
          refine (first_any wr).mono ?_
          rintro e w3 ⟨rfl, hb3⟩
          have HZ := Lib.hid (HR.out.1.trans (hb3.mono HR.out.1.size))
          clear hb3
          go_wp2_with fail
          go_ret
          exact ⟨rfl, HZ.out⟩
      · obtain rfl : k = l.length := by omega
        have g3 : ¬ (l.length : Int) < (l.length : Int) := by omega
        clear HB2
        go_wp2_with fail
        refine (mallSI_any b wr).mono ?_
        rintro e w3 ⟨rfl, hw3⟩
        have CK := Lib.hid (keysSI_any 57 #[.pointer (some ⟨wr.heap.size, 0, none⟩)] w3)
        have HW3 := Lib.hid hw3
        clear hw3
        go_wp2_with fail
        refine CK.out.mono ?_
        rintro e w4 ⟨rfl, hw4⟩
        have hs3 : w3.heap.size = wr.heap.size + 1 := by rw [HW3.out]; simp
        have C4 := Lib.hid (take_allS HR.out.2.1 (by omega) ((l.length : Int) + 1) (by omega) w4 (by rw [hw4, HW3.out]))
        rw [← hs3] at C4
        have HW4 := Lib.hid (show w4 = _ by rw [hw4, HW3.out])
        clear hw4 hs3 CK HW3
        go_wp2_with fail
        refine C4.out.mono ?_
        rintro e w5 ⟨va, rfl, ra, hb5⟩
        obtain ⟨U, hU⟩ : ∃ U, U = uniqF l := ⟨_, rfl⟩
        have hkk : (prs t).map (·.1) = U.map str := by have := HR.out.2.1.keys; rw [List.take_length] at this; rw [this, hU]
        have hlU : U.length = (prs t).length := by have := congrArg List.length hkk; simpa using this.symm
        have hUl : U.length ≤ 200 := by have := HR.out.2.1.len; omega
        have ea : ((prs t).take ((l.length : Int) + 1).toNat).map (·.1) = U.map str := by rw [List.take_of_length_le (by have := HR.out.2.1.len; omega), hkk]
        rw [ea] at ra
        have HB5 : Hid (Below wr.heap.size wr w5) := Lib.hid (by
          have h1 : Below wr.heap.size wr w4 := by rw [HW4.out]; exact ((Below.refl _ wr).alloc (Nat.le_refl _) _).alloc (by simp) _
          exact h1.trans (hb5.mono h1.size))
        have HA : Hid (RdV w5 va (U.map str) ∧ SInv l w5 b l.length t ∧ Below W.heap.size W w5) := Lib.hid ⟨RdV.of_row ra, HR.out.2.1.below HB5.out, HR.out.1.trans (HB5.out.mono HR.out.1.size)⟩
        have HUQ := Lib.hid (And.intro hU hlU)
        have CU := Lib.hid (unique_any (.slice av l.length cv) l w5 (HV.out.below HA.out.2.2 (Nat.le_refl _)) (by omega))
        clear ra ea hb5 C4 HW4 HB5 HR hkk hlU hU
        go_wp2_with fail
        refine CU.out.mono ?_
        rintro e w6 ⟨vo, rfl, ho6, hb6⟩
        rw [← HUQ.out.1] at ho6
        have HA6 : Hid (RdV w6 va (U.map str) ∧ SInv l w6 b l.length t ∧ Below W.heap.size W w6 ∧ RdV w6 vo (U.map str)) := Lib.hid ⟨HA.out.1.below hb6 (Nat.le_refl _), HA.out.2.1.below hb6, HA.out.2.2.trans (hb6.mono HA.out.2.2.size), ho6⟩
        clear ho6 hb6 HA CU
        go_wp2_with fail
        refine (sameS_yes va vo U w6 HA6.out.1 HA6.out.2.2.2).mono ?_
        rintro e w7 ⟨rfl, hb7⟩
        have HA7 : Hid (SInv l w7 b l.length t ∧ Below W.heap.size W w7) := Lib.hid ⟨HA6.out.2.1.below hb7, HA6.out.2.2.1.trans (hb7.mono HA6.out.2.2.1.size)⟩
        obtain ⟨aa, ca, rfl, _, _⟩ := HA6.out.1
        have CLen := Lib.hid (lenSI_any b t w7 HA7.out.1.mp)
        rw [← HUQ.out.2] at CLen
        clear hb7 HA6 HUQ
        simp only [List.length_map]
        go_wp2_with fail
        refine CLen.out.mono ?_
        rintro e w8 ⟨rfl, hw8⟩
        subst hw8
        go_wp2_with fail
        go_loopw [6] (fun i wr2 => ∃ k q : Nat, k ≤ l.length ∧ i = .int .i64 (k : Int) ∧ wr2 = w8.drewN q) (fun i _ => l.length - (intOf i).toNat)
        case atStart => exact ⟨0, 0, Nat.zero_le _, rfl, rfl⟩
        case round =>
          obtain ⟨k, q, hk2, rfl, rfl⟩ := hrel
          by_cases hlt2 : k < l.length
          · have g5 : (k : Int) < (l.length : Int) := by omega
            have g6 : (0 : Int) ≤ (k : Int) := by omega
            obtain ⟨bA, oA, rfl, hA⟩ := HC.out (by intro e; simp at e; rw [e] at hlt2; simp at hlt2)
            obtain ⟨hS, hB⟩ := HA7.out
            obtain ⟨m, hkm, hml, hlm, hg⟩ := hS.got k hlt2 hlt2
            have hAt : ∀ i (h : i < l.length), w8.cell? ⟨bA, oA + i, none⟩ = some (str l[i]) := fun i h => by
              have c0 := hA i (by simpa using h)
              simp only [List.getElem_map] at c0
              exact (hB.cell (p := ⟨bA, oA + i, none⟩) (World.block_lt_of_cell? W _ c0)).trans c0
            have hlm' : l[m] = l[k] := by
              rw [List.getElem?_eq_getElem hml] at hlm
              simpa using hlm
            have c1 := hAt k hlt2
            have c2 := hAt m hml
            rw [hlm'] at c2
            obtain ⟨x, hx⟩ : ∃ x, x = l[k] := ⟨_, rfl⟩
            have CG : Hid (Calls Try.prog 35 #[.pointer (some ⟨b, 0, none⟩), str x] (w8.drewN q) fun e w' => e = .returned (.tuple #[.int .i64 (m : Int), .bool true]) ∧ w' = w8.drewN q) := by
              have := mgetSI_any b (str l[k]) t (w8.drewN q) (hS.mp.below (Below.drewsN (Below.refl _ _) q)) ⟨_, rfl⟩ hS.ws
              rw [getT_eq ordSI ⟨_, rfl⟩ hS.ws hS.rs, hg, ← hx] at this
              exact Lib.hid this
            rw [← hx] at c1 c2
            have t1 : (x == x) = true := by simp
            have t2 : ¬ (m : Int) < (k : Int) := by omega
            have t3 : ¬ (l.length : Int) ≤ (m : Int) := by omega
            have t4 : (m : Int) < (l.length : Int) := by omega
            have t5 : (0 : Int) ≤ (m : Int) := by omega
            have t6 : decide ((m : Int) < (k : Int)) = false := by simpa using t2
            have t7 : decide ((l.length : Int) ≤ (m : Int)) = false := by simpa using t3
            clear hAt hA hB hS hg hlm hlm' hx HC HV
            go_wp2_with fail
            refine CG.out.mono ?_
            rintro e w9 ⟨rfl, rfl⟩
            go_wp2_with fail
            go_quiet (fail)
            go_wp2_with fail
            go_roundw
            case rel => exact ⟨k + 1, q + nq, by omega, by go_num, by first | rfl | simp⟩
            case measure => simp [intOf]; omega
          · obtain rfl : k = l.length := by omega
            have g5 : ¬ (l.length : Int) < (l.length : Int) := by omega
            have HB9 : Hid (Below W.heap.size W (w8.drewN q)) := Lib.hid (Below.drewsN HA7.out.2 q)
            go_wp2_with fail
            refine (first_any (w8.drewN q)).mono ?_
            rintro e w9 ⟨rfl, hb9⟩
            have HZ := Lib.hid (HB9.out.trans (hb9.mono HB9.out.size))
            clear hb9 HB9
            go_wp2_with fail
            go_ret
            exact ⟨rfl, HZ.out⟩
  · have g0 : (200 : Int) < (l.length : Int) := by omega
    go_enter Try.func6, Try.ntmps6
    go_wp2_with fail
    refine (first_any W).mono ?_
    rintro e w1 ⟨rfl, hb1⟩
    have HB1 := Lib.hid hb1
    clear hb1
    go_wp2_with fail
    refine (newSI_any w1).mono ?_
    rintro e w2 ⟨b, rfl, hb, hm2, hb2⟩
    have HB2 : Hid (Below W.heap.size W w2) := Lib.hid (HB1.out.trans (hb2.mono HB1.out.size))
    clear hb hm2 hb2 HB1
    go_wp2_with fail
    refine (first_any w2).mono ?_
    rintro e w3 ⟨rfl, hb3⟩
    have HB3 : Hid (Below W.heap.size W w3) := Lib.hid (HB2.out.trans (hb3.mono HB2.out.size))
    clear hb3 HB2
    go_wp2_with fail
    go_ret
    exact ⟨rfl, HB3.out⟩
end Go.Proofs.Ytdkplhfbcpobaaa
