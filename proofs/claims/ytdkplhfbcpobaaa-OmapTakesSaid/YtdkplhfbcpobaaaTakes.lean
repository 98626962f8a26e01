/- OmapTakes, walked. -/
import Derived.Test.YtdkplhfbcpobaaaTakesMath
import Derived.Deep.RegionHeld3
namespace Go.Proofs.Ytdkplhfbcpobaaa
open Go.RowKit

set_option maxRecDepth 100000 in
set_option maxHeartbeats 8000000 in
theorem takes_walk (v : Value) (l : List OpV) (n lo hi : Int) (W : World) (hv : RdO W v l) (hl : ∀ x ∈ l, x.ok) (_hn : -9223372036854775808 ≤ n ∧ n ≤ 9223372036854775807) (hlo : -9223372036854775808 ≤ lo ∧ lo ≤ 9223372036854775807) (hhi : -9223372036854775808 ≤ hi ∧ hi ≤ 9223372036854775807) :
    Calls Try.prog 7 #[v, .int .i64 n, .int .i64 lo, .int .i64 hi] W fun e w' => e = .returned (.bool true) ∧ Below W.heap.size W w' := by
  obtain ⟨av, cv, rfl, hlen, hcells⟩ := hv
  have HC := Lib.hid hcells
  have HL := Lib.hid hl
  clear hcells hl
  by_cases hgo : l.length ≤ 300 ∧ 1 ≤ n ∧ n ≤ 400
  · obtain ⟨h300, hn1, hn4⟩ := hgo
    have g0 : ¬ ((300 : Int) < (l.length : Int)) := by omega
    have g1 : ¬ (n < 1) := by omega
    have g2 : ¬ ((400 : Int) < n) := by omega
    go_enter Try.func7, Try.ntmps7
    go_wp2_with fail
    refine (first_any W).mono ?_
    rintro e w1 ⟨rfl, hb1⟩
    have HB1 := Lib.hid hb1
    clear hb1
    go_wp2_with fail
    refine (newIS_any w1).mono ?_
    rintro e w2 ⟨b, rfl, hb, hm2, hb2⟩
    have HB2 : Hid (Below W.heap.size W w2 ∧ TInv w2 b 0 .nil ∧ W.heap.size ≤ b) := Lib.hid ⟨HB1.out.trans (hb2.mono HB1.out.size), ⟨hm2, trivial, trivial, Nat.le_refl _, Nat.le_refl _⟩, by rw [hb]; exact HB1.out.size⟩
    clear hb hm2 hb2 HB1
    go_wp2_with fail
    go_loopw [10] (fun i wr => ∃ (k : Nat) (t : Tr), k ≤ l.length ∧ i = .int .i64 (k : Int) ∧ Hid (Below W.heap.size W wr ∧ TInv wr b k t ∧ W.heap.size ≤ b)) (fun i _ => l.length - (intOf i).toNat)
    case atStart => exact ⟨0, .nil, Nat.zero_le _, rfl, HB2⟩
    case round =>
      obtain ⟨k, t, hk, rfl, HR⟩ := hrel
      by_cases hlt : k < l.length
      · have g3 : (k : Int) < (l.length : Int) := by omega
        have g4 : (0 : Int) ≤ (k : Int) := by omega
        obtain ⟨bA, oA, rfl, hA⟩ := HC.out (by intro e; rw [e] at hlt; simp at hlt)
        obtain ⟨_, c1, _, c3⟩ := hA k hlt
        obtain ⟨x, hx⟩ : ∃ x, x = l[k].k := ⟨_, rfl⟩
        obtain ⟨y, hy⟩ : ∃ y, y = l[k].v := ⟨_, rfl⟩
        rw [← hx] at c1
        rw [← hy] at c3
        have hlA := World.block_lt_of_cell? W _ c1
        have d1 : wr.cell? ⟨bA, oA + k * 4 + 1, none⟩ = some (.int .i64 x) := (HR.out.1.cell (p := ⟨bA, oA + k * 4 + 1, none⟩) hlA).trans c1
        have d3 : wr.cell? ⟨bA, oA + k * 4 + 3, none⟩ = some (str y) := (HR.out.1.cell (p := ⟨bA, oA + k * 4 + 3, none⟩) hlA).trans c3
        have hxs : KSIS (.int .i64 x) := ⟨x, rfl, by rw [hx]; exact (HL.out _ (List.getElem_mem hlt)).2.1⟩
        obtain ⟨W0, hW0⟩ : ∃ W0, W0 = wr.drew := ⟨_, rfl⟩
        have hd : Below wr.heap.size wr W0 := by rw [hW0]; exact Below.drewsN (Below.refl _ _) 1
        have HW0 : Hid (Below W.heap.size W W0 ∧ TInv W0 b k t ∧ W.heap.size ≤ b) := Lib.hid ⟨HR.out.1.trans (hd.mono HR.out.1.size), HR.out.2.1.below hd, HR.out.2.2⟩
        have CP : Hid (Calls Try.prog 11 #[.pointer (some ⟨b, 0, none⟩), .int .i64 x, str y] W0 (MapPost b (putT (.int .i64 x) (str y) t) (newT (.int .i64 x) t) W0)) :=
          Lib.hid (by
            obtain ⟨h1, h2, h3⟩ := HW0.out
            have := h2.ht
            have := h2.len
            exact mputIS_any b _ _ t W0 h2.mp hxs ⟨_, rfl⟩ h2.ws (by omega) (by omega))
        have HKEEP : Hid (∀ w', Below b W0 w' → w'.cell? ⟨bA, oA + k * 4 + 1, none⟩ = some (.int .i64 x) ∧ w'.cell? ⟨bA, oA + k * 4 + 3, none⟩ = some (str y)) := Lib.hid (fun w' h => by
          have h3 : bA < W.heap.size := hlA
          have h4 := HW0.out.2.2
          rw [h.cell (p := ⟨bA, oA + k * 4 + 1, none⟩) (by show bA < b; omega), h.cell (p := ⟨bA, oA + k * 4 + 3, none⟩) (by show bA < b; omega), hW0]
          exact ⟨d1, d3⟩)
        have HXS := Lib.hid hxs
        rw [hW0] at CP HW0 HKEEP
        clear hA c1 c3 hx hy hlA HC HB2 HR hW0 hd hxs
        go_wp2_with fail
        go_region_held3 (fun w' => w'.cell? ⟨bA, oA + k * 4 + 1, none⟩ = some (.int .i64 x) ∧ w'.cell? ⟨bA, oA + k * 4 + 3, none⟩ = some (str y))
          (first
            | (exact ⟨d1, d3⟩)
            | (exact HKEEP.out _ hb3)
            | go_keep)
          ((first
            | (go_at_call 11; refine CP.out.mono ?_; rintro e w3 ⟨rfl, hm3, ho3, hb3⟩)
            | fail))
        all_goals
          have HN : Hid (Below W.heap.size W w3 ∧ TInv w3 b (k + 1) (putT (.int .i64 x) (str y) t) ∧ W.heap.size ≤ b) := by
            obtain ⟨h1, h2, h3⟩ := HW0.out
            exact Lib.hid ⟨h1.trans (hb3.mono h3), h2.put HXS.out ⟨_, rfl⟩ hm3, h3⟩
          clear hm3 ho3 hb3
          go_wp2_with fail
          go_roundw
          case rel => exact ⟨k + 1, _, by omega, by go_num, HN⟩
          case measure => simp [intOf]; omega
      · obtain rfl : k = l.length := by omega
        have g3 : ¬ (l.length : Int) < (l.length : Int) := by omega
        clear HB2 HC
        obtain ⟨lA, hA1, hA2⟩ := keys_ints (prs t) (fun p hp => (ws_keys HR.out.2.1.ws p hp).1)
        have hAl : lA.length ≤ 300 := by have := HR.out.2.1.len; omega
        -- all
        go_wp2_with fail
        refine (mallIS_any b wr).mono ?_
        rintro e w3 ⟨rfl, hw3⟩
        have CK := Lib.hid (keysIS_any 48 #[.pointer (some ⟨wr.heap.size, 0, none⟩)] w3)
        have HW3 := Lib.hid hw3
        clear hw3
        go_wp2_with fail
        refine CK.out.mono ?_
        rintro e w4 ⟨rfl, hw4⟩
        have hs3 : w3.heap.size = wr.heap.size + 1 := by rw [HW3.out]; simp
        have C4 := Lib.hid (take_all HR.out.2.1 (by omega) 400 (by omega) w4 (by rw [hw4, HW3.out]))
        rw [← hs3] at C4
        have HW4 := Lib.hid (show w4 = _ by rw [hw4, HW3.out])
        clear hw4 hs3 CK HW3
        go_wp2_with fail
        refine C4.out.mono ?_
        rintro e w5 ⟨va, rfl, ra, hb5⟩
        have ea : ((prs t).take (Int.toNat 400)).map (·.1) = lA.map (Value.int .i64) := by rw [List.take_of_length_le (by simp; omega), hA1]
        rw [ea] at ra
        have HCAP := Lib.hid (row_cap ra)
        rw [List.length_map] at HCAP
        have HB5 : Hid (Below wr.heap.size wr w5) := Lib.hid (by
          have h1 : Below wr.heap.size wr w4 := by rw [HW4.out]; exact ((Below.refl _ wr).alloc (Nat.le_refl _) _).alloc (by simp) _
          exact h1.trans (hb5.mono h1.size))
        have HA : Hid (RdV w5 va (lA.map (Value.int .i64)) ∧ TInv w5 b l.length t) := Lib.hid ⟨RdV.of_row ra, HR.out.2.1.below HB5.out⟩
        have HB : Hid (Below W.heap.size W w5) := Lib.hid (HR.out.1.trans (HB5.out.mono HR.out.1.size))
        clear ra ea hb5 C4 HW4 HB5 HR
        -- part
        go_wp2_with fail
        refine (mspanIS_any b (.int .i64 lo) (.int .i64 hi) ⟨lo, rfl, hlo⟩ ⟨hi, rfl, hhi⟩ w5).mono ?_
        rintro e w6 ⟨rfl, hw6⟩
        have CK := Lib.hid (keysIS_any 60 #[.pointer (some ⟨w5.heap.size, 0, none⟩), .pointer (some ⟨w5.heap.size + 1, 0, none⟩), .pointer (some ⟨w5.heap.size + 2, 0, none⟩)] w6)
        have HW6 := Lib.hid hw6
        clear hw6
        go_wp2_with fail
        refine CK.out.mono ?_
        rintro e w7 ⟨rfl, hw7⟩
        have hs6 : w6.heap.size = w5.heap.size + 3 := by rw [HW6.out]; simp [spanWIS]
        have C7 := Lib.hid (take_span HA.out.2 (by omega) 400 (by omega) ⟨lo, rfl, hlo⟩ ⟨hi, rfl, hhi⟩ w7 (by rw [hw7, HW6.out]))
        rw [← hs6] at C7
        have HW7 := Lib.hid (show w7 = _ by rw [hw7, HW6.out])
        clear hw7 hs6 CK HW6
        go_wp2_with fail
        refine C7.out.mono ?_
        rintro e w8 ⟨vp, rfl, rp, hb8⟩
        obtain ⟨lP, hP⟩ : ∃ lP, lP = lA.filter (inS lo hi) := ⟨_, rfl⟩
        have ep : ((btwIS (.int .i64 lo) (.int .i64 hi) t).take (Int.toNat 400)).map (·.1) = lP.map (Value.int .i64) := by
          have e0 := btwIS_filter ordIS (lo := .int .i64 lo) (hi := .int .i64 hi) ⟨lo, rfl, hlo⟩ ⟨hi, rfl, hhi⟩ HA.out.2.ws HA.out.2.rs
          have e1 : (btwIS (.int .i64 lo) (.int .i64 hi) t).length ≤ (prs t).length := by rw [e0]; exact List.length_filter_le _ _
          rw [List.take_of_length_le (by simp; omega), e0, span_ints hA1, hP]
        rw [ep] at rp
        have HB8 : Hid (Below w5.heap.size w5 w8) := Lib.hid (by
          have h1 : Below w5.heap.size w5 w7 := by rw [HW7.out]; exact ((((Below.refl _ w5).alloc (Nat.le_refl _) _).alloc (by simp) _).alloc (by simp; omega) _).alloc (by simp; omega) _
          exact h1.trans (hb8.mono h1.size))
        have HA8 : Hid (RdV w8 va (lA.map (Value.int .i64)) ∧ TInv w8 b l.length t ∧ RdV w8 vp (lP.map (Value.int .i64)) ∧ Below W.heap.size W w8) := Lib.hid ⟨HA.out.1.below HB8.out (Nat.le_refl _), HA.out.2.below HB8.out, RdV.of_row rp, HB.out.trans (HB8.out.mono HB.out.size)⟩
        clear rp ep hb8 C7 HW7 HB8 HA HB
        -- head
        go_wp2_with fail
        refine (mallIS_any b w8).mono ?_
        rintro e w9 ⟨rfl, hw9⟩
        have CK := Lib.hid (keysIS_any 48 #[.pointer (some ⟨w8.heap.size, 0, none⟩)] w9)
        have HW9 := Lib.hid hw9
        clear hw9
        go_wp2_with fail
        refine CK.out.mono ?_
        rintro e w10 ⟨rfl, hw10⟩
        have hs9 : w9.heap.size = w8.heap.size + 1 := by rw [HW9.out]; simp
        have C10 := Lib.hid (take_all HA8.out.2.1 (by omega) n hn1 w10 (by rw [hw10, HW9.out]))
        rw [← hs9] at C10
        have HW10 := Lib.hid (show w10 = _ by rw [hw10, HW9.out])
        clear hw10 hs9 CK HW9
        go_wp2_with fail
        refine C10.out.mono ?_
        rintro e w11 ⟨vh, rfl, rh, hb11⟩
        have eh : ((prs t).take n.toNat).map (·.1) = (lA.take n.toNat).map (Value.int .i64) := by rw [List.map_take, hA1, List.map_take]
        rw [eh] at rh
        have HB11 : Hid (Below w8.heap.size w8 w11) := Lib.hid (by
          have h1 : Below w8.heap.size w8 w10 := by rw [HW10.out]; exact ((Below.refl _ w8).alloc (Nat.le_refl _) _).alloc (by simp) _
          exact h1.trans (hb11.mono h1.size))
        obtain ⟨hA8, hA9, hA10, hA11⟩ := HA8.out
        have HF : Hid (RdV w11 vh ((lA.take n.toNat).map (Value.int .i64)) ∧ TInv w11 b l.length t ∧ Below W.heap.size W w11) := Lib.hid ⟨RdV.of_row rh, hA9.below HB11.out, hA11.trans (HB11.out.mono hA11.size)⟩
        have hAr := hA8.below HB11.out (Nat.le_refl _)
        have hPr := hA10.below HB11.out (Nat.le_refl _)
        obtain ⟨aa, ca, rfl, _, hcA⟩ := hAr
        obtain ⟨ap, cp, rfl, _, hcP⟩ := hPr
        have hcap : lA.length ≤ ca := by
          obtain ⟨a', c', he, h⟩ := HCAP.out
          simp only [List.length_map, Value.slice.injEq] at he
          obtain ⟨_, _, rfl⟩ := he
          exact h
        have HCAP2 := Lib.hid hcap
        have HCA := Lib.hid hcA
        have HCP := Lib.hid hcP
        have HPA := Lib.hid hP
        have HA2 := Lib.hid hA2
        have hPl : lP.length ≤ 300 := by have := List.length_filter_le (inS lo hi) lA; rw [← hP] at this; omega
        clear hcap HCAP rh eh hb11 C10 HW10 HB11 HA8 hA8 hA9 hA10 hA11 hcA hcP hA1 hA2 hP
        simp only [List.length_map]
        go_wp2_with fail
        go_loopw [14, 15] (fun kv iv wr2 => ∃ m q : Nat, m ≤ lA.length ∧ iv = .int .i64 (m : Int) ∧ kv = .int .i64 ((((lA.take m).filter (inS lo hi)).length : Nat) : Int) ∧ wr2 = w11.drewN q) (fun _ iv _ => lA.length - (intOf iv).toNat)
        case atStart => exact ⟨0, 0, Nat.zero_le _, rfl, rfl, rfl⟩
        case round =>
          obtain ⟨m, q, hm, rfl, rfl, rfl⟩ := hrel
          obtain ⟨K, hK⟩ : ∃ K, K = ((lA.take m).filter (inS lo hi)).length := ⟨_, rfl⟩
          rw [← hK]
          have HK := Lib.hid hK
          clear hK
          by_cases hlt2 : m < lA.length
          · have g4 : (m : Int) < (lA.length : Int) := by omega
            have g5 : (0 : Int) ≤ (m : Int) := by omega
            obtain ⟨bA, oA, rfl, hA⟩ := HCA.out (by intro e; simp at e; rw [e] at hlt2; simp at hlt2)
            obtain ⟨x, hx⟩ : ∃ x, x = lA[m] := ⟨_, rfl⟩
            have c1 := hA m (by simpa using hlt2)
            simp only [List.getElem_map] at c1
            rw [← hx] at c1
            have et : (lA.take (m + 1)).filter (inS lo hi) = (lA.take m).filter (inS lo hi) ++ (if inS lo hi x = true then [x] else []) := by
              rw [List.take_add_one, List.getElem?_eq_getElem hlt2, ← hx, List.filter_append]
              simp [List.filter_cons]
            have hsp : lA = lA.take m ++ x :: lA.drop (m + 1) := by rw [hx, ← List.drop_eq_getElem_cons hlt2, List.take_append_drop]
            by_cases hin : lo ≤ x ∧ x < hi
            · obtain ⟨i1, i2⟩ := hin
              have hins : inS lo hi x = true := by simp [inS, i1, i2]
              rw [if_pos hins] at et
              have hPK : ∃ h : K < lP.length, lP[K] = x := by
                have e3 : lP = (lA.take m).filter (inS lo hi) ++ x :: (lA.drop (m + 1)).filter (inS lo hi) := by
                  rw [HPA.out]
                  conv => lhs; rw [hsp]
                  rw [List.filter_append, List.filter_cons, if_pos hins]
                have h : K < lP.length := by rw [e3, HK.out]; simp
                refine ⟨h, ?_⟩
                have e4 : lP[K]? = some x := by rw [e3, HK.out, List.getElem?_append_right (Nat.le_refl _)]; simp
                rw [List.getElem?_eq_getElem h] at e4
                simpa using e4
              obtain ⟨hKl, hKx⟩ := hPK
              obtain ⟨bP, oP, rfl, hPc⟩ := HCP.out (by intro e; simp at e; rw [e] at hKl; simp at hKl)
              have c2 := hPc K (by simpa using hKl)
              simp only [List.getElem_map] at c2
              rw [hKx] at c2
              have t1 : (x == x) = true := by simp
              have t2 : ¬ (lP.length : Int) ≤ (K : Int) := by omega
              have t3 : decide ((lP.length : Int) ≤ (K : Int)) = false := by simpa using t2
              have t4 : (0 : Int) ≤ (K : Int) := by omega
              have t5 : (K : Int) < (lP.length : Int) := by omega
              have HE := Lib.hid et
              clear hA hx hsp et hins hKx hPc HCA HCP
              go_wp2_with fail
              go_quiet (fail)
              go_wp2_with fail
              go_roundw
              case rel => exact ⟨m + 1, q + nq, by omega, by go_num, by rw [HE.out, List.length_append, ← HK.out]; simp, rfl⟩
              case measure => simp [intOf]; omega
            · have hins : inS lo hi x = false := by
                cases e : inS lo hi x with
                | false => rfl
                | true => exfalso; apply hin; simpa [inS] using e
              rw [hins, if_neg (by simp), List.append_nil] at et
              have HE := Lib.hid et
              clear hA hx hsp et hins HCA HCP
              by_cases i1 : lo ≤ x
              · have i2 : ¬ x < hi := fun h => hin ⟨i1, h⟩
                clear hin
                go_wp2_with fail
                go_roundw
                case rel => exact ⟨m + 1, q, by omega, by go_num, by rw [HE.out, ← HK.out], rfl⟩
                case measure => simp [intOf]; omega
              · clear hin
                go_wp2_with fail
                go_roundw
                case rel => exact ⟨m + 1, q, by omega, by go_num, by rw [HE.out, ← HK.out], rfl⟩
                case measure => simp [intOf]; omega
          · obtain rfl : m = lA.length := by omega
            have g4 : ¬ (lA.length : Int) < (lA.length : Int) := by omega
            have hKP : K = lP.length := by rw [HK.out, List.take_length, ← HPA.out]
            subst hKP
            obtain ⟨w12, hw12⟩ : ∃ w12, w12 = w11.drewN q := ⟨_, rfl⟩
            rw [← hw12]
            have HF2 : Hid (RdV w12 vh ((lA.take n.toNat).map (Value.int .i64)) ∧ TInv w12 b l.length t ∧ Below W.heap.size W w12 ∧ RdV w12 (.slice aa lA.length ca) (lA.map (Value.int .i64))) := by
              obtain ⟨h1, h2, h3⟩ := HF.out
              have hd : Below w11.heap.size w11 w12 := by rw [hw12]; exact Below.drewsN (Below.refl _ _) q
              refine Lib.hid ⟨h1.below hd (Nat.le_refl _), h2.below hd, h3.trans (hd.mono h3.size), RdV.below (w := w11) (B := w11.heap.size) ⟨aa, ca, by simp, by simp; omega, HCA.out⟩ hd (Nat.le_refl _)⟩
            clear hw12 HF HCA HCP HK
            go_wp2_with fail
            refine (first_any w12).mono ?_
            rintro e w13 ⟨rfl, hb13⟩
            have HF3 : Hid (RdV w13 vh ((lA.take n.toNat).map (Value.int .i64)) ∧ TInv w13 b l.length t ∧ Below W.heap.size W w13 ∧ RdV w13 (.slice aa lA.length ca) (lA.map (Value.int .i64))) := by
              obtain ⟨h1, h2, h3, h4⟩ := HF2.out
              exact Lib.hid ⟨h1.below hb13 (Nat.le_refl _), h2.below hb13, h3.trans (hb13.mono h3.size), h4.below hb13 (Nat.le_refl _)⟩
            have CLen := Lib.hid (lenIS_any b t w13 HF3.out.2.1.mp)
            rw [← HA2.out] at CLen
            clear hb13 HF2
            by_cases hnl : n ≤ (lA.length : Int)
            · have f1 : (0 : Int) ≤ n := by omega
              have CI : Hid (Calls Try.prog 24 #[vh, .slice aa n.toNat ca] w13 fun e w' => e = .returned (.bool true) ∧ Below w13.heap.size w13 w') := by
                refine Lib.hid (sameI_yes vh _ (lA.take n.toNat) w13 HF3.out.1 ?_)
                obtain ⟨aa', ca', he, h1, h2⟩ := HF3.out.2.2.2
                simp only [Value.slice.injEq] at he
                obtain ⟨rfl, _, rfl⟩ := he
                have hlt : (lA.take n.toNat).length = n.toNat := by simp; omega
                refine ⟨aa, ca, by simp; omega, by simp; omega, fun hne => ?_⟩
                obtain ⟨b', off, ha, hc⟩ := h2 (by intro e; apply hne; simp at e; simp [e])
                refine ⟨b', off, ha, fun i hi => ?_⟩
                have := hc i (by simp at hi ⊢; omega)
                rw [this]
                simp
              have f2 : min n (lA.length : Int) = n := by omega
              have f3 : n ≤ (ca : Int) := by have := HCAP2.out; omega
              go_wp2_with fail
              refine CLen.out.mono ?_
              rintro e w14 ⟨rfl, hw14⟩
              subst hw14
              go_wp2_with fail
              refine CI.out.mono ?_
              rintro e w15 ⟨rfl, hb15⟩
              have HZ := Lib.hid (HF3.out.2.2.1.trans (hb15.mono HF3.out.2.2.1.size))
              clear hb15
              go_wp2_with fail
              go_ret
              exact ⟨rfl, HZ.out⟩
            · have f1 : (0 : Int) ≤ (lA.length : Int) := by omega
              have CI : Hid (Calls Try.prog 24 #[vh, .slice aa lA.length ca] w13 fun e w' => e = .returned (.bool true) ∧ Below w13.heap.size w13 w') := by
                refine Lib.hid (sameI_yes vh _ lA w13 ?_ HF3.out.2.2.2)
                have := HF3.out.1
                rw [List.take_of_length_le (by omega)] at this
                exact this
              have f2 : min n (lA.length : Int) = (lA.length : Int) := by omega
              have f3 : (lA.length : Int) ≤ (ca : Int) := by have := HCAP2.out; omega
              go_wp2_with fail
              refine CLen.out.mono ?_
              rintro e w14 ⟨rfl, hw14⟩
              subst hw14
              go_wp2_with fail
              refine CI.out.mono ?_
              rintro e w15 ⟨rfl, hb15⟩
              have HZ := Lib.hid (HF3.out.2.2.1.trans (hb15.mono HF3.out.2.2.1.size))
              clear hb15
              go_wp2_with fail
              go_ret
              exact ⟨rfl, HZ.out⟩
  · have hno : (300 : Int) < (l.length : Int) ∨ (¬ (300 : Int) < (l.length : Int) ∧ n < 1) ∨ (¬ (300 : Int) < (l.length : Int) ∧ ¬ n < 1 ∧ 400 < n) := by omega
    clear hgo
    rcases hno with g0 | ⟨g0, g1⟩ | ⟨g0, g1, g2⟩
    all_goals
      go_enter Try.func7, Try.ntmps7
      go_wp2_with fail
      refine (first_any W).mono ?_
      rintro e w1 ⟨rfl, hb1⟩
      have HB1 := Lib.hid hb1
      clear hb1
      go_wp2_with fail
      refine (newIS_any w1).mono ?_
      rintro e w2 ⟨b, rfl, hb, hm2, hb2⟩
      have HB2 : Hid (Below W.heap.size W w2) := Lib.hid (HB1.out.trans (hb2.mono HB1.out.size))
      clear hb hm2 hb2 HB1
      go_wp2_with fail
      refine (first_any w2).mono ?_
      rintro e w3 ⟨rfl, hb3⟩
      have HB3 : Hid (Below W.heap.size W w3) := Lib.hid (HB2.out.trans (hb3.mono HB2.out.size))
      clear hb3 HB2
      go_wp2_with fail
      go_ret
      exact ⟨rfl, HB3.out⟩
end Go.Proofs.Ytdkplhfbcpobaaa
