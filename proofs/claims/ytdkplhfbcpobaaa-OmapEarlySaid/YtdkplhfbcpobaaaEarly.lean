/- OmapEarly, walked. -/
import Derived.Test.YtdkplhfbcpobaaaEarlyM
import Derived.Deep.RegionHeld3
import Derived.Deep.CutRange
namespace Go.Proofs.Ytdkplhfbcpobaaa
open Go.RowKit

theorem put_hid {W₀ W : World} {b bx n : Nat} {t : Tr} {L : List (Int × List UInt8)} (h : PI W₀ W b bx t L n) (hn : n ≤ 1000000) {k : Int} (hk : KSIS (.int .i64 k)) (v : List UInt8) :
    Calls Try.prog 11 #[.pointer (some ⟨b, 0, none⟩), .int .i64 k, str v] W fun e W' => e = .returned (.bool (newT (.int .i64 k) t)) ∧ Hid (PI W₀ W' b bx (putT (.int .i64 k) (str v) t) L (n + 1)) :=
  (mput_pi h hn hk v).mono (by rintro e W' ⟨rfl, h1, _, _⟩; exact ⟨rfl, Lib.hid h1⟩)
theorem rput_hid {W₀ W : World} {b bx n : Nat} {t : Tr} {L : List (Int × List UInt8)} (h : PI W₀ W b bx t L n) (hL : L.length ≤ 1000000) (k : Int) (v : List UInt8) : ∃ Z : Bool,
    Calls Try.prog 12 #[.pointer (some ⟨bx, 0, none⟩), .int .i64 k, str v] W fun e W' => e = .returned (.bool Z) ∧ Hid (PI W₀ W' b bx t (insK k v L) n) := by
  obtain ⟨Z, hC⟩ := rput_pi h hL k v
  exact ⟨Z, hC.mono (by rintro e W' ⟨rfl, h1, _⟩; exact ⟨rfl, Lib.hid h1⟩)⟩
theorem sameI_one {w : World} {a b : Value} {l : List Int} {m : List (Int × List UInt8)} (hl : l = m.map (·.1)) (ha : RdV w a (l.map (Value.int .i64))) (hb : RdV w b (m.map fun p => Value.int .i64 p.1)) : Calls Try.prog 24 #[a, b] w fun e w' => e = .returned (.bool true) ∧ Below w.heap.size w w' :=
  sameI_yes a b l w ha (by rw [hl, List.map_map]; exact hb)
set_option maxRecDepth 100000 in
set_option maxHeartbeats 8000000 in
theorem early_walk (v : Value) (l : List OpV) (n : Int) (W : World) (hv : RdO W v l) (hl : ∀ x ∈ l, x.ok) (_hn : -9223372036854775808 ≤ n ∧ n ≤ 9223372036854775807) :
    Calls Try.prog 4 #[v, .int .i64 n] W fun e w' => e = .returned (.bool true) ∧ Below W.heap.size W w' := by
  obtain ⟨av, cv, rfl, _, hcells⟩ := hv
  have HC := Lib.hid hcells
  have HL := Lib.hid hl
  clear hcells hl
  by_cases h300 : l.length ≤ 300
  · have g0 : ¬ ((300 : Int) < (l.length : Int)) := by omega
    go_enter Try.func4, Try.ntmps4
    go_wp2_with fail
    refine (first_any W).mono ?_
    rintro e w1 ⟨rfl, hb1⟩
    have HB1 := Lib.hid hb1
    clear hb1
    go_wp2_with fail
    refine (newIS_any w1).mono ?_
    rintro e w2 ⟨b, rfl, hb, hm2, hb2⟩
    have HB2 : Hid (Below W.heap.size W w2 ∧ MP w2 b .nil ∧ W.heap.size ≤ b ∧ b < w2.heap.size) := Lib.hid ⟨HB1.out.trans (hb2.mono HB1.out.size), hm2, by rw [hb]; exact HB1.out.size, hm2.lt⟩
    clear hb hm2 hb2 HB1
    go_wp2_with fail
    obtain ⟨bx, hbx⟩ : ∃ bx, bx = w2.heap.size := ⟨_, rfl⟩
    obtain ⟨w3, hw3⟩ : ∃ w3, w3 = w2.alloc (.cells #[.slice none 0 0] 29) := ⟨_, rfl⟩
    rw [← hbx, ← hw3]
    have H0 : Hid (PI W w3 b bx .nil [] 0) := Lib.hid (by
      obtain ⟨h1, h2, h3, h4⟩ := HB2.out
      have hba := below_alloc w2 (.cells #[.slice none 0 0] 29)
      rw [← hw3] at hba
      have hsz : w3.heap.size = bx + 1 := by rw [hw3, hbx]; simp
      exact ⟨⟨h2.below hba, trivial, trivial, Nat.le_refl _, Nat.le_refl _⟩, ⟨.slice none 0 0, ⟨by rw [hw3, hbx]; exact heap_alloc_new w2 _, World.ownsRow_nil _ _ _ _, trivial, by omega⟩, by simp [Value.ownBlock]⟩, h1.trans (hba.mono h1.size), h3, by rw [hbx]; exact h1.size⟩)
    clear hw3 hbx HB2
    go_loopw [7] (fun i wr => ∃ (k : Nat) (t : Tr), k ≤ l.length ∧ i = .int .i64 (k : Int) ∧ Hid (PI W wr b bx t (putsK [] (l.take k)) k ∧ prs t = (putsK [] (l.take k)).map encP)) (fun i _ => l.length - (intOf i).toNat)
    case atStart => exact ⟨0, .nil, Nat.zero_le _, rfl, Lib.hid ⟨H0.out, rfl⟩⟩
    case round =>
      clear H0
      obtain ⟨k, t, hk, rfl, HR⟩ := hrel
      by_cases hlt : k < l.length
      · have g3 : (k : Int) < (l.length : Int) := by omega
        have g4 : (0 : Int) ≤ (k : Int) := by omega
        obtain ⟨bA, oA, rfl, hA⟩ := HC.out (by intro e; rw [e] at hlt; simp at hlt)
        obtain ⟨_, e1, _, e3⟩ := hA k hlt
        obtain ⟨x, hx⟩ : ∃ x, x = l[k].k := ⟨_, rfl⟩
        obtain ⟨y, hy⟩ : ∃ y, y = l[k].v := ⟨_, rfl⟩
        rw [← hx] at e1
        rw [← hy] at e3
        have hlA := World.block_lt_of_cell? W _ e1
        have HCEL : Hid (∀ w', Below W.heap.size W w' → w'.cell? ⟨bA, oA + k * 4 + 1, none⟩ = some (.int .i64 x) ∧ w'.cell? ⟨bA, oA + k * 4 + 3, none⟩ = some (str y)) :=
          Lib.hid (fun w' hb => ⟨(hb.cell (p := ⟨bA, oA + k * 4 + 1, none⟩) hlA).trans e1, (hb.cell (p := ⟨bA, oA + k * 4 + 3, none⟩) hlA).trans e3⟩)
        have HXS : Hid (KSIS (.int .i64 x)) := Lib.hid ⟨x, rfl, by rw [hx]; exact (HL.out _ (List.getElem_mem hlt)).2.1⟩
        have HNX : Hid (putsK [] (l.take (k + 1)) = insK x y (putsK [] (l.take k)) ∧ putsK [] (l.take (k + 1)) = insK x y (putsK [] (l.take k))) := Lib.hid ⟨by rw [putsK_take hlt, hx, hy], by rw [putsK_take hlt, hx, hy]⟩
        have hLn : (putsK [] (l.take k)).length ≤ 1000000 := by have := (putsK_len (l.take k) [] trivial).1; simp at this; omega
        have HPR : Hid (prs (putT (.int .i64 x) (str y) t) = (putsK [] (l.take (k + 1))).map encP) := Lib.hid (by rw [prs_put ordIS HXS.out HR.out.1.tv.ws HR.out.1.tv.rs, HR.out.2, insL_enc, HNX.out.2])
        have HPR0 := Lib.hid HNX.out.1
        obtain ⟨Lk, hLk⟩ : ∃ Lk, Lk = putsK [] (l.take k) := ⟨_, rfl⟩
        obtain ⟨d1, d3⟩ := HCEL.out wr HR.out.1.bl
        have HW0 : Hid (PI W wr.drew b bx t Lk k) := Lib.hid (by rw [hLk]; exact HR.out.1.below (Below.drewsN (Below.refl _ _) 1))
        have CP := Lib.hid (put_hid HW0.out (by omega) HXS.out y)
        rw [← hLk] at hLn HPR0
        clear hx hy e1 e3 hA hlA hLk HR HNX HC HL
        go_wp2_with fail
        go_region_held3 (fun w' => w'.cell? ⟨bA, oA + k * 4 + 1, none⟩ = some (.int .i64 x) ∧ w'.cell? ⟨bA, oA + k * 4 + 3, none⟩ = some (str y))
          (first
            | (exact ⟨d1, d3⟩)
            | (exact HCEL.out _ HW0.out.bl)
            | (exact HCEL.out _ HM.out.bl)
            | go_keep)
          ((first
            | (go_at_call 11; refine CP.out.mono ?_; rintro e w5 ⟨rfl, HM⟩)
            | fail))
        clear CP d1 d3
        obtain ⟨d1, d3⟩ := HCEL.out w5 HM.out.bl
        have HW1 := Lib.hid (HM.out.below (W' := w5.drew) (Below.drewsN (Below.refl _ _) 1))
        obtain ⟨Z, hC⟩ := rput_hid HW1.out hLn x y
        have CR := Lib.hid hC
        clear hC
        go_wp2_with fail
        go_region_held3 (fun w' => w'.cell? ⟨bA, oA + k * 4 + 1, none⟩ = some (.int .i64 x) ∧ w'.cell? ⟨bA, oA + k * 4 + 3, none⟩ = some (str y))
          (first
            | (exact ⟨d1, d3⟩)
            | (exact HCEL.out _ HW1.out.bl)
            | (exact HCEL.out _ HN.out.bl)
            | go_keep)
          ((first
            | (go_at_call 12; refine CR.out.mono ?_; rintro e w6 ⟨rfl, HN⟩)
            | fail))
        go_wp2_with fail
        go_roundw
        case rel => exact ⟨k + 1, _, by omega, by go_num, Lib.hid ⟨by rw [HPR0.out]; exact HN.out, HPR.out⟩⟩
        case measure => simp [intOf]; omega
      · obtain rfl : k = l.length := by omega
        have g3 : ¬ (l.length : Int) < (l.length : Int) := by omega
        obtain ⟨LM, hLM⟩ : ∃ LM, LM = putsK [] l := ⟨_, rfl⟩
        rw [List.take_length, ← hLM] at HR
        have hpk := putsK_len l [] trivial
        rw [← hLM] at hpk
        have hLMn : LM.length ≤ 300 := by have := hpk.1; simp at this; omega
        have HQ := Lib.hid (And.intro HR.out.2 hpk.2)
        have HS := Lib.hid HR.out.1
        have HCL : Hid (l ≠ [] → ∃ bA oA, av = some ⟨bA, oA, none⟩ ∧ ∀ i (h : i < l.length), ∀ W2, Below W.heap.size W W2 → W2.cell? ⟨bA, oA + i * 4 + 1, none⟩ = some (.int .i64 l[i].k) ∧ W2.cell? ⟨bA, oA + i * 4 + 2, none⟩ = some (.int .i64 l[i].hi)) := Lib.hid (fun hne => by
          obtain ⟨bA, oA, e, hA⟩ := HC.out hne
          refine ⟨bA, oA, e, fun i hi W2 hb => ?_⟩
          obtain ⟨_, e1, e2, _⟩ := hA i hi
          have hlA := World.block_lt_of_cell? W _ e1
          exact ⟨(hb.cell (p := ⟨bA, oA + i * 4 + 1, none⟩) hlA).trans e1, (hb.cell (p := ⟨bA, oA + i * 4 + 2, none⟩) hlA).trans e2⟩)
        clear hLM hpk HR HC
        go_wp2_with fail
        obtain ⟨vo, hro, _⟩ := HS.out.rw
        have CF := Lib.hid (from_any 0 0 true hro (by omega))
        clear hro
        refine CF.out.mono (fun e w' h => two_from_at h) |>.mono ?_
        have ef : LM.filter (selR 0 0 true) = LM := List.filter_eq_self.2 (fun p _ => rfl)
        rw [ef]
        rintro e w8 ⟨m1, d1, m2, d2, rfl, hcd, hd1, hd2, hb8, hfb⟩
        have HFB : Hid (FromB wr.heap.size m1 ∧ b < wr.heap.size) := Lib.hid ⟨hfb, HS.out.tv.mp.lt⟩
        have HS8 : Hid (PI W w8 b bx t LM l.length ∧ TwoV w8 (.slice m1 LM.length d1) (.slice m2 LM.length d2) LM) := Lib.hid ⟨HS.out.below hb8, hcd⟩
        obtain ⟨K, hK⟩ : ∃ K : Nat, K = min n.toNat LM.length := ⟨_, rfl⟩
        have hKi : min (max n 0) (LM.length : Int) = (K : Int) := by omega
        have hKl : K ≤ LM.length := by omega
        have HTK : Hid (LM.take n.toNat = LM.take K) := Lib.hid (by
          rw [hK]
          by_cases h : n.toNat ≤ LM.length
          · rw [Nat.min_eq_left h]
          · rw [Nat.min_eq_right (by omega), List.take_length, List.take_of_length_le (by omega)])
        have q1 : (0 : Int) ≤ (K : Int) := by omega
        have q2 : (K : Int) ≤ (d1 : Int) := by omega
        have q3 : (K : Int) ≤ (d2 : Int) := by omega
        clear CF ef hb8 hcd HS hfb
        go_upto_region 13 with fail
        go_cut [10] from 69 to 73 (fun kv wc => kv = .int .i64 (K : Int) ∧ w8 = wc)
        case first =>
          go_wp2_with fail
          all_goals
            go_meet
            case rel => exact ⟨congrArg (Value.int .i64) (by omega), rfl⟩
        case rest =>
        obtain ⟨rfl, rfl⟩ := hcut
        clear hK hKi
        -- the first pairs
        go_wp2_with fail
        refine (mallIS_any b w8).mono ?_
        rintro e w9 ⟨rfl, hw9⟩
        have C := Lib.hid (pairs_alln HS8.out.1.tv (by omega) HQ.out.1 n w9 hw9)
        have HB9 : Hid (Below w8.heap.size w8 w9) := Lib.hid (by rw [hw9]; exact below_alloc w8 _)
        clear hw9
        go_wp2_with fail
        refine C.out.mono ?_
        rintro e w10 ⟨va, vb, rfl, hab, hb⟩
        rw [HTK.out] at hab
        have HS10 : Hid (PI W w10 b bx t LM l.length ∧ TwoV w10 (.slice m1 LM.length d1) (.slice m2 LM.length d2) LM ∧ TwoV w10 va vb (LM.take K)) := by
          have hb := HB9.out.trans (hb.mono HB9.out.size)
          obtain ⟨p1, p2⟩ := HS8.out
          exact Lib.hid ⟨p1.below hb, p2.below hb, hab⟩
        clear hab hb HB9 HS8 C
        -- the first keys
        go_wp2_with fail
        refine (mallIS_any b w10).mono ?_
        rintro e w11 ⟨rfl, hw11⟩
        have CK := Lib.hid (keysIS_any 48 #[.pointer (some ⟨w10.heap.size, 0, none⟩)] w11)
        have HW11 := Lib.hid hw11
        clear hw11
        go_wp2_with fail
        refine CK.out.mono ?_
        rintro e w12 ⟨rfl, hw12⟩
        have hs11 : w11.heap.size = w10.heap.size + 1 := by rw [HW11.out]; simp
        have CT := Lib.hid (take_alln HS10.out.1.tv (by omega) HQ.out.1 n w12 (by rw [hw12, HW11.out]))
        rw [← hs11] at CT
        have HB12 : Hid (Below w10.heap.size w10 w12) := Lib.hid (by
          have l1 : Below w10.heap.size w10 w11 := by rw [HW11.out]; exact below_alloc w10 _
          have l2 : Below w11.heap.size w11 w12 := by rw [hw12]; exact below_alloc w11 _
          exact l1.trans (l2.mono l1.size))
        clear hw12 hs11 CK HW11
        go_wp2_with fail
        refine CT.out.mono ?_
        rintro e w13 ⟨vc, rfl, hvc, hb⟩
        rw [HTK.out] at hvc
        have HS13 : Hid (PI W w13 b bx t LM l.length ∧ TwoV w13 (.slice m1 LM.length d1) (.slice m2 LM.length d2) LM ∧ TwoV w13 (.slice m1 K d1) (.slice m2 K d2) (LM.take K) ∧ TwoV w13 va vb (LM.take K) ∧ RdV w13 vc (((LM.take K).map (·.1)).map (Value.int .i64))) := by
          have hb := HB12.out.trans (hb.mono HB12.out.size)
          obtain ⟨p1, p2, p3⟩ := HS10.out
          exact Lib.hid ⟨p1.below hb, p2.below hb, (p2.below hb).take K hKl, p3.below hb, hvc⟩
        clear hvc hb HB12 HS10 CT HTK
        go_wp2_with fail
        refine (sameI_two HS13.out.2.2.2.1 HS13.out.2.2.1).mono ?_
        rintro e w14 ⟨rfl, hb⟩
        have HS14 : Hid (PI W w14 b bx t LM l.length ∧ TwoV w14 (.slice m1 LM.length d1) (.slice m2 LM.length d2) LM ∧ TwoV w14 (.slice m1 K d1) (.slice m2 K d2) (LM.take K) ∧ TwoV w14 va vb (LM.take K) ∧ RdV w14 vc (((LM.take K).map (·.1)).map (Value.int .i64))) := by
          obtain ⟨p1, p2, p3, p4, p5⟩ := HS13.out
          exact Lib.hid ⟨p1.below hb, p2.below hb, p3.below hb, p4.below hb, p5.below hb (Nat.le_refl _)⟩
        clear hb HS13
        go_wp2_with fail
        refine (sameS_two HS14.out.2.2.2.1 HS14.out.2.2.1).mono ?_
        rintro e w15 ⟨rfl, hb⟩
        have HS15 : Hid (PI W w15 b bx t LM l.length ∧ TwoV w15 (.slice m1 LM.length d1) (.slice m2 LM.length d2) LM ∧ TwoV w15 (.slice m1 K d1) (.slice m2 K d2) (LM.take K) ∧ RdV w15 vc (((LM.take K).map (·.1)).map (Value.int .i64))) := by
          obtain ⟨p1, p2, p3, p4, p5⟩ := HS14.out
          exact Lib.hid ⟨p1.below hb, p2.below hb, p3.below hb, p5.below hb (Nat.le_refl _)⟩
        clear hb HS14
        go_wp2_with fail
        refine (sameI_one rfl HS15.out.2.2.2 HS15.out.2.2.1.1).mono ?_
        rintro e w16 ⟨rfl, hb⟩
        have HS16 : Hid (PI W w16 b bx t LM l.length ∧ TwoV w16 (.slice m1 LM.length d1) (.slice m2 LM.length d2) LM ∧ b < wr.heap.size) := by
          obtain ⟨p1, p2, p3, p4⟩ := HS15.out
          exact Lib.hid ⟨p1.below hb, p2.below hb, HFB.out.2⟩
        clear hb HS15
        -- meanwhile
        have CM : Hid (Calls Try.prog 26 #[.pointer (some ⟨b, 0, none⟩), .slice av l.length cv] w16 fun e w' => ∃ v, e = .returned v ∧ RdV w' v (LM.map fun p => Value.int .i64 p.1) ∧ (∀ k, k < w16.heap.size → k ≠ b → w'.heap[k]? = w16.heap[k]?) ∧ Below b w16 w') := Lib.hid (by
          obtain ⟨p1, p2, p3⟩ := HS16.out
          refine mean_any p1.tv (by omega) HQ.out.1 HQ.out.2 (by omega) HL.out (fun hne => ?_)
          obtain ⟨bA, oA, e, hA⟩ := HCL.out hne
          exact ⟨bA, oA, e, fun i hi W2 hb => hA i hi W2 (p1.bl.trans (hb.mono p1.lb))⟩)
        go_wp2_with fail
        refine CM.out.mono ?_
        rintro e w17 ⟨vd, rfl, hvd, hbk, hbl⟩
        have HS17 : Hid (Below W.heap.size W w17 ∧ RdV w17 (.slice m1 LM.length d1) (LM.map fun p => Value.int .i64 p.1) ∧ RdV w17 vd (LM.map fun p => Value.int .i64 p.1)) := by
          obtain ⟨p1, p2, p3⟩ := HS16.out
          exact Lib.hid ⟨p1.bl.trans (hbl.mono p1.lb), rdv_keep p2.1 HFB.out.1 p3 hbk, hvd⟩
        clear hvd hbk hbl HS16 CM HCL HL HQ HFB
        -- none
        go_wp2_with fail
        refine (merge_nil (.inl rfl) w17).mono ?_
        rintro e w18 ⟨rfl, hw18⟩
        have CN := Lib.hid (merge_none hw18 w18 (Below.refl _ _) 5)
        have HB18 : Hid (Below w17.heap.size w17 w18) := Lib.hid (by rw [hw18]; exact ((Below.refl _ w17).alloc (Nat.le_refl _) _).alloc (by simp) _)
        clear hw18
        go_wp2_with fail
        refine CN.out.mono ?_
        rintro e w19 ⟨ve, vf, rfl, ⟨he, hf⟩, hb⟩
        obtain ⟨ae, ce, hee, _⟩ := he
        obtain ⟨af, cf, hff, _⟩ := hf
        simp only [List.map_nil, List.length_nil] at hee hff
        subst hee hff
        have HS19 : Hid (Below W.heap.size W w19 ∧ RdV w19 (.slice m1 LM.length d1) (LM.map fun p => Value.int .i64 p.1) ∧ RdV w19 vd (LM.map fun p => Value.int .i64 p.1)) := by
          have hb := HB18.out.trans (hb.mono HB18.out.size)
          obtain ⟨p1, p2, p3⟩ := HS17.out
          exact Lib.hid ⟨p1.trans (hb.mono p1.size), p2.below hb (Nat.le_refl _), p3.below hb (Nat.le_refl _)⟩
        clear hb HB18 HS17 CN
        go_wp2_with fail
        refine (first_any w19).mono ?_
        rintro e w20 ⟨rfl, hb⟩
        have HS20 : Hid (Below W.heap.size W w20 ∧ RdV w20 (.slice m1 LM.length d1) ((LM.map (·.1)).map (Value.int .i64)) ∧ RdV w20 vd ((LM.map (·.1)).map (Value.int .i64))) := by
          obtain ⟨p1, p2, p3⟩ := HS19.out
          rw [List.map_map]
          exact Lib.hid ⟨p1.trans (hb.mono p1.size), p2.below hb (Nat.le_refl _), p3.below hb (Nat.le_refl _)⟩
        clear hb HS19
        go_wp2_with fail
        refine (sameI_yes _ _ _ w20 HS20.out.2.2 HS20.out.2.1).mono ?_
        rintro e w21 ⟨rfl, hb⟩
        have HS21 : Hid (Below W.heap.size W w21) := Lib.hid (HS20.out.1.trans (hb.mono HS20.out.1.size))
        clear hb HS20
        go_wp2_with fail
        refine (take_none w21).mono ?_
        rintro e w22 ⟨rfl, hb⟩
        have HS22 : Hid (Below W.heap.size W w22) := Lib.hid (HS21.out.trans (hb.mono HS21.out.size))
        clear hb HS21
        go_wp2_with fail
        go_ret
        exact ⟨rfl, HS22.out⟩
  · have g0 : (300 : Int) < (l.length : Int) := by omega
    go_enter Try.func4, Try.ntmps4
    go_wp2_with fail
    refine (first_any W).mono ?_
    rintro e w1 ⟨rfl, hb1⟩
    have HB1 := Lib.hid hb1
    clear hb1
    go_wp2_with fail
    refine (newIS_any w1).mono ?_
    rintro e w2 ⟨b, rfl, hb, hm2, hb2⟩
    have HB2 : Hid (Below W.heap.size W w2) := Lib.hid (HB1.out.trans (hb2.mono HB1.out.size))
    clear hb hm2 hb2 HB1
    go_wp2_with fail
    refine (first_any w2).mono ?_
    rintro e w3 ⟨rfl, hb3⟩
    have HB3 : Hid (Below W.heap.size W w3) := Lib.hid (HB2.out.trans (hb3.mono HB2.out.size))
    clear hb3 HB2
    go_wp2_with fail
    go_ret
    exact ⟨rfl, HB3.out⟩
end Go.Proofs.Ytdkplhfbcpobaaa
