/- OmapMerges, walked. -/
import Derived.Test.YtdkplhfbcpobaaaMergesS
import Derived.Deep.RegionHeld3
import Derived.Deep.CutRange
namespace Go.Proofs.Ytdkplhfbcpobaaa
open Go.RowKit

set_option maxRecDepth 100000 in
set_option maxHeartbeats 8000000 in
theorem merges_walk (v1 : Value) (la : List OpV) (v2 : Value) (lb : List OpV) (n : Int) (W : World) (hv1 : RdO W v1 la) (hl1 : ∀ x ∈ la, x.ok) (hv2 : RdO W v2 lb) (hl2 : ∀ x ∈ lb, x.ok) (_hn : -9223372036854775808 ≤ n ∧ n ≤ 9223372036854775807) :
    Calls Try.prog 5 #[v1, v2, .int .i64 n] W fun e w' => e = .returned (.bool true) ∧ Below W.heap.size W w' := by
  obtain ⟨a1, c1, rfl, _, hc1⟩ := hv1
  obtain ⟨a2, c2, rfl, _, hc2⟩ := hv2
  have HC1 := Lib.hid hc1
  have HL1 := Lib.hid hl1
  have HC2 := Lib.hid hc2
  have HL2 := Lib.hid hl2
  clear hc1 hl1 hc2 hl2
  by_cases hgo : la.length ≤ 200 ∧ lb.length ≤ 200
  · obtain ⟨h1, h2⟩ := hgo
    have g1 : ¬ ((200 : Int) < (la.length : Int)) := by omega
    have g2 : ¬ ((200 : Int) < (lb.length : Int)) := by omega
    go_enter Try.func5, Try.ntmps5
    go_wp2_with fail
    refine (first_any W).mono ?_
    rintro e w1 ⟨rfl, hb1⟩
    have HB1 := Lib.hid hb1
    clear hb1
    go_wp2_with fail
    refine (newIS_any w1).mono ?_
    rintro e w2 ⟨b1, rfl, hb, hm2, hb2⟩
    have HB2 : Hid (Below W.heap.size W w2 ∧ MP w2 b1 .nil ∧ W.heap.size ≤ b1 ∧ b1 < w2.heap.size) := Lib.hid ⟨HB1.out.trans (hb2.mono HB1.out.size), hm2, by rw [hb]; exact HB1.out.size, hm2.lt⟩
    clear hb hm2 hb2 HB1
    go_wp2_with fail
    refine (newIS_any w2).mono ?_
    rintro e w3 ⟨b2, rfl, hb, hm3, hb3⟩
    have HB3 : Hid (Below W.heap.size W w3 ∧ MP w3 b1 .nil ∧ MP w3 b2 .nil ∧ W.heap.size ≤ b1 ∧ W.heap.size ≤ b2 ∧ b1 ≠ b2) := by
      obtain ⟨p1, p2, p3, p4⟩ := HB2.out
      exact Lib.hid ⟨p1.trans (hb3.mono p1.size), p2.below hb3, hm3, p3, by rw [hb]; exact p1.size, by omega⟩
    clear hb hm3 hb3 HB2
    go_wp2_with fail
    obtain ⟨bx, hbx⟩ : ∃ bx, bx = w3.heap.size := ⟨_, rfl⟩
    obtain ⟨w4, hw4⟩ : ∃ w4, w4 = w3.alloc (.cells #[.slice none 0 0] 29) := ⟨_, rfl⟩
    rw [← hbx, ← hw4]
    have H0 : Hid (MS W w4 b1 b2 bx .nil .nil [] 0 0) := Lib.hid (by
      obtain ⟨p1, p2, p3, p4, p5, p6⟩ := HB3.out
      have hba := below_alloc w3 (.cells #[.slice none 0 0] 29)
      rw [← hw4] at hba
      have hsz : w4.heap.size = bx + 1 := by rw [hw4, hbx]; simp
      have hR : RowsP w4 bx (bx + 1) (.slice none 0 0) [] := ⟨by rw [hw4, hbx]; exact heap_alloc_new w3 _, World.ownsRow_nil _ _ _ _, trivial, by omega⟩
      have hbl := p1.trans (hba.mono p1.size)
      have hlx : W.heap.size ≤ bx := by rw [hbx]; exact p1.size
      exact ⟨⟨⟨p2.below hba, trivial, trivial, Nat.le_refl _, Nat.le_refl _⟩, ⟨_, hR, by simp [Value.ownBlock]⟩, hbl, p4, hlx⟩, ⟨⟨p3.below hba, trivial, trivial, Nat.le_refl _, Nat.le_refl _⟩, ⟨_, hR, by simp [Value.ownBlock]⟩, hbl, p5, hlx⟩, p6⟩)
    clear hw4 hbx HB3
    go_loopw [10] (fun i wr => ∃ (k : Nat) (t1 : Tr), k ≤ la.length ∧ i = .int .i64 (k : Int) ∧ Hid (MS W wr b1 b2 bx t1 .nil (putsK [] (la.take k)) k 0 ∧ prs t1 = (putsK [] (la.take k)).map encP)) (fun i _ => la.length - (intOf i).toNat)
    case atStart => exact ⟨0, .nil, Nat.zero_le _, rfl, Lib.hid ⟨H0.out, rfl⟩⟩
    case round =>
      clear H0
      obtain ⟨k, t1, hk, rfl, HR⟩ := hrel
      by_cases hlt : k < la.length
      · have g3 : (k : Int) < (la.length : Int) := by omega
        have g4 : (0 : Int) ≤ (k : Int) := by omega
        obtain ⟨bA, oA, rfl, hA⟩ := HC1.out (by intro e; rw [e] at hlt; simp at hlt)
        obtain ⟨_, e1, _, e3⟩ := hA k hlt
        obtain ⟨x, hx⟩ : ∃ x, x = la[k].k := ⟨_, rfl⟩
        obtain ⟨y, hy⟩ : ∃ y, y = la[k].v := ⟨_, rfl⟩
        rw [← hx] at e1
        rw [← hy] at e3
        have hlA := World.block_lt_of_cell? W _ e1
        have HCEL : Hid (∀ w', Below W.heap.size W w' → w'.cell? ⟨bA, oA + k * 4 + 1, none⟩ = some (.int .i64 x) ∧ w'.cell? ⟨bA, oA + k * 4 + 3, none⟩ = some (str y)) :=
          Lib.hid (fun w' hb => ⟨(hb.cell (p := ⟨bA, oA + k * 4 + 1, none⟩) hlA).trans e1, (hb.cell (p := ⟨bA, oA + k * 4 + 3, none⟩) hlA).trans e3⟩)
        have HXS : Hid (KSIS (.int .i64 x)) := Lib.hid ⟨x, rfl, by rw [hx]; exact (HL1.out _ (List.getElem_mem hlt)).2.1⟩
        have HNX : Hid (putsK [] (la.take (k + 1)) = insK x y (putsK [] (la.take k)) ∧ putsK [] (la.take (k + 1)) = insK x y (putsK [] (la.take k))) := Lib.hid ⟨by rw [putsK_take hlt, hx, hy], by rw [putsK_take hlt, hx, hy]⟩
        have hLn : (putsK [] (la.take k)).length ≤ 1000000 := by have := (putsK_len (la.take k) [] trivial).1; simp at this; omega
        have HPR : Hid (prs (putT (.int .i64 x) (str y) t1) = (putsK [] (la.take (k + 1))).map encP) := Lib.hid (by rw [prs_put ordIS HXS.out HR.out.1.p1.tv.ws HR.out.1.p1.tv.rs, HR.out.2, insL_enc, HNX.out.2])
        have HPR0 := Lib.hid HNX.out.1
        obtain ⟨Lk, hLk⟩ : ∃ Lk, Lk = putsK [] (la.take k) := ⟨_, rfl⟩
        obtain ⟨d1, d3⟩ := HCEL.out wr HR.out.1.p1.bl
        have HW0 : Hid (MS W wr.drew b1 b2 bx t1 .nil Lk k 0) := Lib.hid (by rw [hLk]; exact HR.out.1.below (Below.drewsN (Below.refl _ _) 1))
        have CP := Lib.hid (HW0.out.put1 (by omega) HXS.out y)
        rw [← hLk] at hLn HPR0
        clear hx hy e1 e3 hA hlA hLk HR HNX HC1 HL1 HC2 HL2
        go_wp2_with fail
        go_region_held3 (fun w' => w'.cell? ⟨bA, oA + k * 4 + 1, none⟩ = some (.int .i64 x) ∧ w'.cell? ⟨bA, oA + k * 4 + 3, none⟩ = some (str y))
          (first
            | (exact ⟨d1, d3⟩)
            | (exact HCEL.out _ HW0.out.p1.bl)
            | (exact HCEL.out _ HM.out.p1.bl)
            | go_keep)
          ((first
            | (go_at_call 11; refine CP.out.mono ?_; rintro e w5 ⟨rfl, HM⟩)
            | fail))
        clear CP d1 d3
        obtain ⟨d1, d3⟩ := HCEL.out w5 HM.out.p1.bl
        have HW1 := Lib.hid (HM.out.below (W' := w5.drew) (Below.drewsN (Below.refl _ _) 1))
        obtain ⟨Z, hC⟩ := HW1.out.rput hLn x y
        have CR := Lib.hid hC
        clear hC
        go_wp2_with fail
        go_region_held3 (fun w' => w'.cell? ⟨bA, oA + k * 4 + 1, none⟩ = some (.int .i64 x) ∧ w'.cell? ⟨bA, oA + k * 4 + 3, none⟩ = some (str y))
          (first
            | (exact ⟨d1, d3⟩)
            | (exact HCEL.out _ HW1.out.p1.bl)
            | (exact HCEL.out _ HN.out.p1.bl)
            | go_keep)
          ((first
            | (go_at_call 12; refine CR.out.mono ?_; rintro e w6 ⟨rfl, HN⟩)
            | fail))
        go_wp2_with fail
        go_roundw
        case rel => exact ⟨k + 1, _, by omega, by go_num, Lib.hid ⟨by rw [HPR0.out]; exact HN.out, HPR.out⟩⟩
        case measure => simp [intOf]; omega
      · obtain rfl : k = la.length := by omega
        have g3 : ¬ (la.length : Int) < (la.length : Int) := by omega
        obtain ⟨LA, hLA⟩ : ∃ LA, LA = putsK [] la := ⟨_, rfl⟩
        rw [List.take_length, ← hLA] at HR
        have hLAp := putsK_len la [] trivial
        rw [← hLA] at hLAp
        have hLAn : LA.length ≤ 200 := by have := hLAp.1; simp at this; omega
        have HLA := Lib.hid (And.intro hLA hLAp.2)
        have HP1 := Lib.hid HR.out.2
        have H0 : Hid (MS W wr b1 b2 bx t1 .nil LA la.length 0) := Lib.hid HR.out.1
        clear hLA hLAp HR HC1 HL1
        go_wp2_with fail
        go_loopw [11] (fun i wr => ∃ (k : Nat) (t2 : Tr), k ≤ lb.length ∧ i = .int .i64 (k : Int) ∧ Hid (MS W wr b1 b2 bx t1 t2 (putsK LA (lb.take k)) la.length k ∧ prs t2 = (putsK [] (lb.take k)).map encP)) (fun i _ => lb.length - (intOf i).toNat)
        case atStart => exact ⟨0, .nil, Nat.zero_le _, rfl, Lib.hid ⟨H0.out, rfl⟩⟩
        case round =>
          clear H0
          obtain ⟨k, t2, hk, rfl, HR⟩ := hrel
          by_cases hlt : k < lb.length
          · have g3 : (k : Int) < (lb.length : Int) := by omega
            have g4 : (0 : Int) ≤ (k : Int) := by omega
            obtain ⟨bA, oA, rfl, hA⟩ := HC2.out (by intro e; rw [e] at hlt; simp at hlt)
            obtain ⟨_, e1, _, e3⟩ := hA k hlt
            obtain ⟨x, hx⟩ : ∃ x, x = lb[k].k := ⟨_, rfl⟩
            obtain ⟨y, hy⟩ : ∃ y, y = lb[k].v := ⟨_, rfl⟩
            rw [← hx] at e1
            rw [← hy] at e3
            have hlA := World.block_lt_of_cell? W _ e1
            have HCEL : Hid (∀ w', Below W.heap.size W w' → w'.cell? ⟨bA, oA + k * 4 + 1, none⟩ = some (.int .i64 x) ∧ w'.cell? ⟨bA, oA + k * 4 + 3, none⟩ = some (str y)) :=
              Lib.hid (fun w' hb => ⟨(hb.cell (p := ⟨bA, oA + k * 4 + 1, none⟩) hlA).trans e1, (hb.cell (p := ⟨bA, oA + k * 4 + 3, none⟩) hlA).trans e3⟩)
            have HXS : Hid (KSIS (.int .i64 x)) := Lib.hid ⟨x, rfl, by rw [hx]; exact (HL2.out _ (List.getElem_mem hlt)).2.1⟩
            have HNX : Hid (putsK LA (lb.take (k + 1)) = insK x y (putsK LA (lb.take k)) ∧ putsK [] (lb.take (k + 1)) = insK x y (putsK [] (lb.take k))) := Lib.hid ⟨by rw [putsK_take hlt, hx, hy], by rw [putsK_take hlt, hx, hy]⟩
            have hLn : (putsK LA (lb.take k)).length ≤ 1000000 := by have := (putsK_len (lb.take k) LA HLA.out.2).1; simp at this; omega
            have HPR : Hid (prs (putT (.int .i64 x) (str y) t2) = (putsK [] (lb.take (k + 1))).map encP) := Lib.hid (by rw [prs_put ordIS HXS.out HR.out.1.p2.tv.ws HR.out.1.p2.tv.rs, HR.out.2, insL_enc, HNX.out.2])
            have HPR0 := Lib.hid HNX.out.1
            obtain ⟨Lk, hLk⟩ : ∃ Lk, Lk = putsK LA (lb.take k) := ⟨_, rfl⟩
            obtain ⟨d1, d3⟩ := HCEL.out wr HR.out.1.p1.bl
            have HW0 : Hid (MS W wr.drew b1 b2 bx t1 t2 Lk la.length k) := Lib.hid (by rw [hLk]; exact HR.out.1.below (Below.drewsN (Below.refl _ _) 1))
            have CP := Lib.hid (HW0.out.put2 (by omega) HXS.out y)
            rw [← hLk] at hLn HPR0
            clear hx hy e1 e3 hA hlA hLk HR HNX HC2 HL2
            go_wp2_with fail
            go_region_held3 (fun w' => w'.cell? ⟨bA, oA + k * 4 + 1, none⟩ = some (.int .i64 x) ∧ w'.cell? ⟨bA, oA + k * 4 + 3, none⟩ = some (str y))
              (first
                | (exact ⟨d1, d3⟩)
                | (exact HCEL.out _ HW0.out.p1.bl)
                | (exact HCEL.out _ HM.out.p1.bl)
                | go_keep)
              ((first
                | (go_at_call 11; refine CP.out.mono ?_; rintro e w5 ⟨rfl, HM⟩)
                | fail))
            clear CP d1 d3
            obtain ⟨d1, d3⟩ := HCEL.out w5 HM.out.p1.bl
            have HW1 := Lib.hid (HM.out.below (W' := w5.drew) (Below.drewsN (Below.refl _ _) 1))
            obtain ⟨Z, hC⟩ := HW1.out.rput hLn x y
            have CR := Lib.hid hC
            clear hC
            go_wp2_with fail
            go_region_held3 (fun w' => w'.cell? ⟨bA, oA + k * 4 + 1, none⟩ = some (.int .i64 x) ∧ w'.cell? ⟨bA, oA + k * 4 + 3, none⟩ = some (str y))
              (first
                | (exact ⟨d1, d3⟩)
                | (exact HCEL.out _ HW1.out.p1.bl)
                | (exact HCEL.out _ HN.out.p1.bl)
                | go_keep)
              ((first
                | (go_at_call 12; refine CR.out.mono ?_; rintro e w6 ⟨rfl, HN⟩)
                | fail))
            go_wp2_with fail
            go_roundw
            case rel => exact ⟨k + 1, _, by omega, by go_num, Lib.hid ⟨by rw [HPR0.out]; exact HN.out, HPR.out⟩⟩
            case measure => simp [intOf]; omega
          · obtain rfl : k = lb.length := by omega
            have g5 : ¬ (lb.length : Int) < (lb.length : Int) := by omega
            obtain ⟨LB, hLB⟩ : ∃ LB, LB = putsK [] lb := ⟨_, rfl⟩
            obtain ⟨LM, hLM⟩ : ∃ LM, LM = putsK LA lb := ⟨_, rfl⟩
            rw [List.take_length, ← hLB, ← hLM] at HR
            have hM : LM = mergeK LA LB := by rw [hLM, hLB, putsK_merge]
            have hLBn : LB.length ≤ 200 := by have := (putsK_len lb [] trivial).1; rw [← hLB] at this; simp at this; omega
            have hLMn : LM.length ≤ 1000000 := by have := (putsK_len lb LA HLA.out.2).1; rw [← hLM] at this; omega
            have HQ := Lib.hid (And.intro HP1.out (And.intro HR.out.2 hM))
            have HS := Lib.hid HR.out.1
            clear hLB hLM hM HR HP1 HLA HC2 HL2
            go_wp2_with fail
            refine (mallIS_any b1 wr).mono ?_
            rintro e w5 ⟨rfl, hw5⟩
            have HW5 := Lib.hid hw5
            clear hw5
            go_wp2_with fail
            refine (mallIS_any b2 w5).mono ?_
            rintro e w6 ⟨rfl, hw6⟩
            have HW6 := Lib.hid hw6
            clear hw6
            go_wp2_with fail
            refine (merge_any (.inr ⟨_, _, rfl⟩) 48 _ w6).mono ?_
            rintro e w7 ⟨rfl, hw7⟩
            have HRUN := Lib.hid (merge_two HS.out.p1.tv HS.out.p2.tv (by omega) (by omega) HQ.out.1 HQ.out.2.1 HW5.out HW6.out hw7)
            rw [← HQ.out.2.2] at HRUN
            have HS7 : Hid (MS W w7 b1 b2 bx t1 t2 LM la.length lb.length) := Lib.hid (by
              have l5 : Below wr.heap.size wr w5 := by rw [HW5.out]; exact below_alloc wr _
              have l6 : Below w5.heap.size w5 w6 := by rw [HW6.out]; exact below_alloc w5 _
              have l7 : Below w6.heap.size w6 w7 := by rw [hw7]; exact ((Below.refl _ w6).alloc (Nat.le_refl _) _).alloc (by simp) _
              exact HS.out.below (l5.trans ((l6.trans (l7.mono l6.size)).mono l5.size)))
            clear hw7 HW5 HW6 HS
            go_wp2_with fail
            obtain ⟨vo, hro, _⟩ := HS7.out.p1.rw
            have CF := Lib.hid (from_any 0 0 true hro hLMn)
            clear hro
            refine CF.out.mono (fun e w' h => two_from_cap h) |>.mono ?_
            have ef : LM.filter (selR 0 0 true) = LM := List.filter_eq_self.2 (fun p _ => rfl)
            rw [ef]
            rintro e w8 ⟨m1, d1, m2, d2, rfl, hcd, hd1, hd2, hb8⟩
            have HS8 : Hid (MS W w8 b1 b2 bx t1 t2 LM la.length lb.length ∧ Below w7.heap.size w7 w8 ∧ TwoV w8 (.slice m1 LM.length d1) (.slice m2 LM.length d2) LM) := Lib.hid ⟨HS7.out.below hb8, hb8, hcd⟩
            obtain ⟨K, hK⟩ : ∃ K : Nat, K = min n.toNat LM.length := ⟨_, rfl⟩
            have hKi : min (max n 0) (LM.length : Int) = (K : Int) := by omega
            have hKl : K ≤ LM.length := by omega
            have HTK : Hid (LM.take n.toNat = LM.take K) := Lib.hid (by
              rw [hK]
              by_cases h : n.toNat ≤ LM.length
              · rw [Nat.min_eq_left h]
              · rw [Nat.min_eq_right (by omega), List.take_length, List.take_of_length_le (by omega)])
            have q1 : (0 : Int) ≤ (K : Int) := by omega
            have q2 : (K : Int) ≤ (d1 : Int) := by omega
            have q3 : (K : Int) ≤ (d2 : Int) := by omega
            clear CF ef hb8 hcd HS7
            go_upto_region 19 with fail
            go_cut [15] from 125 to 129 (fun kv wc => kv = .int .i64 (K : Int) ∧ w8 = wc)
            case first =>
              go_wp2_with fail
              all_goals
                go_meet
                case rel => exact ⟨congrArg (Value.int .i64) (by omega), rfl⟩
            case rest =>
            obtain ⟨rfl, rfl⟩ := hcut
            clear hK hKi
            -- the first of what is merged
            go_wp2_with fail
            refine (HRUN.out w8 HS8.out.2.1 n).mono ?_
            rintro e w9 ⟨va, vb, rfl, hab, hb9⟩
            rw [HTK.out] at hab
            have HS9 : Hid (MS W w9 b1 b2 bx t1 t2 LM la.length lb.length ∧ Below w7.heap.size w7 w9 ∧ TwoV w9 (.slice m1 LM.length d1) (.slice m2 LM.length d2) LM ∧ TwoV w9 va vb (LM.take K)) := by
              obtain ⟨p1, p2, p3⟩ := HS8.out
              exact Lib.hid ⟨p1.below hb9, p2.trans (hb9.mono p2.size), p3.below hb9, hab⟩
            clear hab hb9 HS8 HTK
            -- all of it
            go_wp2_with fail
            refine (HRUN.out w9 HS9.out.2.1 1048576).mono ?_
            rintro e w10 ⟨ve, vf, rfl, hef, hb10⟩
            have et : LM.take (Int.toNat 1048576) = LM := List.take_of_length_le (by have : Int.toNat 1048576 = 1048576 := rfl; omega)
            rw [et] at hef
            have HS10 : Hid (MS W w10 b1 b2 bx t1 t2 LM la.length lb.length ∧ TwoV w10 (.slice m1 LM.length d1) (.slice m2 LM.length d2) LM ∧ TwoV w10 va vb (LM.take K) ∧ TwoV w10 ve vf LM) := by
              obtain ⟨p1, p2, p3, p4⟩ := HS9.out
              exact Lib.hid ⟨p1.below hb10, p3.below hb10, p4.below hb10, hef⟩
            clear hef hb10 HS9 HRUN et
            -- with none
            go_wp2_with fail
            refine (mallIS_any b1 w10).mono ?_
            rintro e w11 ⟨rfl, hw11⟩
            have HW11 := Lib.hid hw11
            clear hw11
            go_wp2_with fail
            refine (merge_nil (.inr ⟨_, _, rfl⟩) w11).mono ?_
            rintro e w12 ⟨rfl, hw12⟩
            have HRUN := Lib.hid (merge_one HS10.out.1.p1.tv (by omega) HQ.out.1 HW11.out hw12 w12 (Below.refl _ _) 1048576)
            have et : LA.take (Int.toNat 1048576) = LA := List.take_of_length_le (by have : Int.toNat 1048576 = 1048576 := rfl; omega)
            rw [et] at HRUN
            have HB12 : Hid (Below w10.heap.size w10 w12) := Lib.hid (by
              have l5 : Below w10.heap.size w10 w11 := by rw [HW11.out]; exact below_alloc w10 _
              have l7 : Below w11.heap.size w11 w12 := by rw [hw12]; exact ((Below.refl _ w11).alloc (Nat.le_refl _) _).alloc (by simp) _
              exact l5.trans (l7.mono l5.size))
            clear hw12 HW11 et
            go_wp2_with fail
            refine HRUN.out.mono ?_
            rintro e w13 ⟨vg, vh, rfl, hgh, hb13⟩
            have HS13 : Hid (MS W w13 b1 b2 bx t1 t2 LM la.length lb.length ∧ TwoV w13 (.slice m1 LM.length d1) (.slice m2 LM.length d2) LM ∧ TwoV w13 va vb (LM.take K) ∧ TwoV w13 ve vf LM ∧ TwoV w13 vg vh LA) := by
              have hb := HB12.out.trans (hb13.mono HB12.out.size)
              obtain ⟨p1, p2, p3, p4⟩ := HS10.out
              exact Lib.hid ⟨p1.below hb, p2.below hb, p3.below hb, p4.below hb, hgh⟩
            clear hgh hb13 HB12 HS10 HRUN
            -- alone
            go_wp2_with fail
            refine (mallIS_any b1 w13).mono ?_
            rintro e w14 ⟨rfl, hw14⟩
            have C := Lib.hid (pairs_all HS13.out.1.p1.tv (by omega) HQ.out.1 w14 hw14)
            have HB14 : Hid (Below w13.heap.size w13 w14) := Lib.hid (by rw [hw14]; exact below_alloc w13 _)
            clear hw14
            go_wp2_with fail
            refine C.out.mono ?_
            rintro e w15 ⟨vu, vv, rfl, huv, hb15⟩
            have HS15 : Hid (Below W.heap.size W w15 ∧ TwoV w15 (.slice m1 LM.length d1) (.slice m2 LM.length d2) LM ∧ TwoV w15 va vb (LM.take K) ∧ TwoV w15 ve vf LM ∧ TwoV w15 vg vh LA ∧ TwoV w15 vu vv LA) := by
              have hb := HB14.out.trans (hb15.mono HB14.out.size)
              obtain ⟨p1, p2, p3, p4, p5⟩ := HS13.out
              exact Lib.hid ⟨(p1.below hb).p1.bl, p2.below hb, p3.below hb, p4.below hb, p5.below hb, huv⟩
            clear huv hb15 HB14 HS13 C HQ
            go_wp2_with fail
            refine (first_any w15).mono ?_
            rintro e w16 ⟨rfl, hb⟩
            have H16 : Hid (Below W.heap.size W w16 ∧ TwoV w16 (.slice m1 LM.length d1) (.slice m2 LM.length d2) LM ∧ TwoV w16 (.slice m1 K d1) (.slice m2 K d2) (LM.take K) ∧ TwoV w16 va vb (LM.take K) ∧ TwoV w16 ve vf LM ∧ TwoV w16 vg vh LA ∧ TwoV w16 vu vv LA) := by
              obtain ⟨p1, p2, p3, p4, p5, p6⟩ := HS15.out
              have := p2.below hb
              exact Lib.hid ⟨p1.trans (hb.mono p1.size), this, this.take K hKl, p3.below hb, p4.below hb, p5.below hb, p6.below hb⟩
            clear hb HS15
            go_wp2_with fail
            refine (sameI_two H16.out.2.2.2.1 H16.out.2.2.1).mono ?_
            rintro e w17 ⟨rfl, hb⟩
            have H17 : Hid (Below W.heap.size W w17 ∧ TwoV w17 (.slice m1 LM.length d1) (.slice m2 LM.length d2) LM ∧ TwoV w17 (.slice m1 K d1) (.slice m2 K d2) (LM.take K) ∧ TwoV w17 va vb (LM.take K) ∧ TwoV w17 ve vf LM ∧ TwoV w17 vg vh LA ∧ TwoV w17 vu vv LA) := by
              obtain ⟨p1, p2, p3, p4, p5, p6, p7⟩ := H16.out
              exact Lib.hid ⟨p1.trans (hb.mono p1.size), p2.below hb, p3.below hb, p4.below hb, p5.below hb, p6.below hb, p7.below hb⟩
            clear hb H16
            go_wp2_with fail
            refine (sameS_two H17.out.2.2.2.1 H17.out.2.2.1).mono ?_
            rintro e w18 ⟨rfl, hb⟩
            have H18 : Hid (Below W.heap.size W w18 ∧ TwoV w18 (.slice m1 LM.length d1) (.slice m2 LM.length d2) LM ∧ TwoV w18 (.slice m1 K d1) (.slice m2 K d2) (LM.take K) ∧ TwoV w18 va vb (LM.take K) ∧ TwoV w18 ve vf LM ∧ TwoV w18 vg vh LA ∧ TwoV w18 vu vv LA) := by
              obtain ⟨p1, p2, p3, p4, p5, p6, p7⟩ := H17.out
              exact Lib.hid ⟨p1.trans (hb.mono p1.size), p2.below hb, p3.below hb, p4.below hb, p5.below hb, p6.below hb, p7.below hb⟩
            clear hb H17
            go_wp2_with fail
            refine (sameI_two H18.out.2.2.2.2.1 H18.out.2.1).mono ?_
            rintro e w19 ⟨rfl, hb⟩
            have H19 : Hid (Below W.heap.size W w19 ∧ TwoV w19 (.slice m1 LM.length d1) (.slice m2 LM.length d2) LM ∧ TwoV w19 (.slice m1 K d1) (.slice m2 K d2) (LM.take K) ∧ TwoV w19 va vb (LM.take K) ∧ TwoV w19 ve vf LM ∧ TwoV w19 vg vh LA ∧ TwoV w19 vu vv LA) := by
              obtain ⟨p1, p2, p3, p4, p5, p6, p7⟩ := H18.out
              exact Lib.hid ⟨p1.trans (hb.mono p1.size), p2.below hb, p3.below hb, p4.below hb, p5.below hb, p6.below hb, p7.below hb⟩
            clear hb H18
            go_wp2_with fail
            refine (sameS_two H19.out.2.2.2.2.1 H19.out.2.1).mono ?_
            rintro e w20 ⟨rfl, hb⟩
            have H20 : Hid (Below W.heap.size W w20 ∧ TwoV w20 (.slice m1 LM.length d1) (.slice m2 LM.length d2) LM ∧ TwoV w20 (.slice m1 K d1) (.slice m2 K d2) (LM.take K) ∧ TwoV w20 va vb (LM.take K) ∧ TwoV w20 ve vf LM ∧ TwoV w20 vg vh LA ∧ TwoV w20 vu vv LA) := by
              obtain ⟨p1, p2, p3, p4, p5, p6, p7⟩ := H19.out
              exact Lib.hid ⟨p1.trans (hb.mono p1.size), p2.below hb, p3.below hb, p4.below hb, p5.below hb, p6.below hb, p7.below hb⟩
            clear hb H19
            go_wp2_with fail
            refine (sameI_two H20.out.2.2.2.2.2.1 H20.out.2.2.2.2.2.2).mono ?_
            rintro e w21 ⟨rfl, hb⟩
            have H21 : Hid (Below W.heap.size W w21 ∧ TwoV w21 (.slice m1 LM.length d1) (.slice m2 LM.length d2) LM ∧ TwoV w21 (.slice m1 K d1) (.slice m2 K d2) (LM.take K) ∧ TwoV w21 va vb (LM.take K) ∧ TwoV w21 ve vf LM ∧ TwoV w21 vg vh LA ∧ TwoV w21 vu vv LA) := by
              obtain ⟨p1, p2, p3, p4, p5, p6, p7⟩ := H20.out
              exact Lib.hid ⟨p1.trans (hb.mono p1.size), p2.below hb, p3.below hb, p4.below hb, p5.below hb, p6.below hb, p7.below hb⟩
            clear hb H20
            go_wp2_with fail
            refine (sameS_two H21.out.2.2.2.2.2.1 H21.out.2.2.2.2.2.2).mono ?_
            rintro e w22 ⟨rfl, hb⟩
            have H22 : Hid (Below W.heap.size W w22 ∧ TwoV w22 (.slice m1 LM.length d1) (.slice m2 LM.length d2) LM ∧ TwoV w22 (.slice m1 K d1) (.slice m2 K d2) (LM.take K) ∧ TwoV w22 va vb (LM.take K) ∧ TwoV w22 ve vf LM ∧ TwoV w22 vg vh LA ∧ TwoV w22 vu vv LA) := by
              obtain ⟨p1, p2, p3, p4, p5, p6, p7⟩ := H21.out
              exact Lib.hid ⟨p1.trans (hb.mono p1.size), p2.below hb, p3.below hb, p4.below hb, p5.below hb, p6.below hb, p7.below hb⟩
            clear hb H21
            go_wp2_with fail
            go_ret
            exact ⟨rfl, H22.out.1⟩
  · have hno : (200 : Int) < (la.length : Int) ∨ (¬ (200 : Int) < (la.length : Int) ∧ (200 : Int) < (lb.length : Int)) := by omega
    clear hgo
    rcases hno with g0 | ⟨g0, g1⟩
    all_goals
      go_enter Try.func5, Try.ntmps5
      go_wp2_with fail
      refine (first_any W).mono ?_
      rintro e w1 ⟨rfl, hb1⟩
      have HB1 := Lib.hid hb1
      clear hb1
      go_wp2_with fail
      refine (newIS_any w1).mono ?_
      rintro e w2 ⟨b, rfl, hb, hm2, hb2⟩
      have HB2 : Hid (Below W.heap.size W w2) := Lib.hid (HB1.out.trans (hb2.mono HB1.out.size))
      clear hb hm2 hb2 HB1
      go_wp2_with fail
      refine (newIS_any w2).mono ?_
      rintro e w3 ⟨b', rfl, hb, hm3, hb3⟩
      have HB3 : Hid (Below W.heap.size W w3) := Lib.hid (HB2.out.trans (hb3.mono HB2.out.size))
      clear hb hm3 hb3 HB2
      go_wp2_with fail
      refine (first_any w3).mono ?_
      rintro e w4 ⟨rfl, hb4⟩
      have HB4 : Hid (Below W.heap.size W w4) := Lib.hid (HB3.out.trans (hb4.mono HB3.out.size))
      clear hb4 HB3
      go_wp2_with fail
      go_ret
      exact ⟨rfl, HB4.out⟩
end Go.Proofs.Ytdkplhfbcpobaaa
