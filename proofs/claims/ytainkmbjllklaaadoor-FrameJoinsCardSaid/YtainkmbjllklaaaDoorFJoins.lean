/- FrameJoins, walked. -/
import Derived.Test.YtainkmbjllklaaaDoorFJoinsM
namespace Go.Proofs.YtainkmbjllklaaaDoor
open Go.RowKit

set_option maxRecDepth 100000 in
set_option maxHeartbeats 8000000 in
theorem joins_walk (va : Value) (la : List (List UInt8)) (vb : Value) (lb : List (List UInt8)) (W : World) (ha : LRd W va la) (hb : LRd W vb lb) (ht : Tab W) :
    Calls Tryd.prog 5 #[va, vb] W fun e w' => e = .returned (.bool true) ∧ Below W.heap.size W w' := by
  have HA := Lib.hid ha
  have HB := Lib.hid hb
  have HT := Lib.hid ht
  obtain ⟨aa, ca, rfl, ha1⟩ := ha.lens
  obtain ⟨ab, cb, rfl, hb1⟩ := hb.lens
  have CF := Lib.hid (fun w (h : Below W.heap.size W w) => first_any w (HT.out.below h (Nat.le_refl _)))
  clear ha hb ht
  by_cases hbig : 40 < la.length ∨ 40 < lb.length
  · have key : (40 : Int) < (la.length : Int) ∨ (¬ (40 : Int) < (la.length : Int) ∧ (40 : Int) < (lb.length : Int)) := by omega
    clear hbig
    rcases key with g1 | ⟨g1, g2⟩
    all_goals
      go_enter Tryd.func5, Tryd.ntmps5
      go_wp2_with fail
      refine (CF.out W (Below.refl _ _)).mono ?_
      rintro e w1 ⟨rfl, hb1⟩
      have HB1 := Lib.hid hb1
      clear hb1
      go_wp2_with fail
      refine (CF.out w1 HB1.out).mono ?_
      rintro e w2 ⟨rfl, hb2⟩
      have HB2 := Lib.hid (HB1.out.trans (hb2.mono HB1.out.size))
      clear hb2
      go_wp2_with fail
      go_ret
      exact ⟨rfl, HB2.out⟩
  · have g1 : ¬ (40 : Int) < (la.length : Int) := by omega
    have g2 : ¬ (40 : Int) < (lb.length : Int) := by omega
    have hna : la.length ≤ 40 := by omega
    have hnb : lb.length ≤ 40 := by omega
    clear hbig
    go_enter Tryd.func5, Tryd.ntmps5
    go_wp2_with fail
    refine (CF.out W (Below.refl _ _)).mono ?_
    rintro e w1 ⟨rfl, hb1⟩
    have HB1 := Lib.hid hb1
    clear hb1
    go_wp2_with fail
    go_loopw [5, 6, 7] (fun x y i wr => ∃ k : Nat, k ≤ la.length + lb.length ∧ i = .int .i64 (k : Int) ∧ Hid (JInv W wr x y (frms (la.take k)) (frms (lb.take (k - la.length))) (la.length < k) ∧ ∀ p ∈ la.take k ++ lb.take (k - la.length), p.length ≤ 250)) (fun _ _ i _ => la.length + lb.length - (intOf i).toNat)
    case atStart => exact ⟨0, Nat.zero_le _, rfl, Lib.hid ⟨by simpa [frms] using JInv.start W w1 HB1.out _, by simp⟩⟩
    case round =>
      obtain ⟨x, hxe⟩ : ∃ x, x = u5 := ⟨_, rfl⟩
      obtain ⟨y, hye⟩ : ∃ y, y = u6 := ⟨_, rfl⟩
      subst hxe hye
      obtain ⟨k, hk, rfl, HR⟩ := hrel
      by_cases hlt : k < la.length + lb.length
      · have g3 : (k : Int) < (la.length : Int) + (lb.length : Int) := by omega
        by_cases hka : k < la.length
        ·
          have g4 : (k : Int) < (la.length : Int) := by omega
          have g5 : (0 : Int) ≤ (k : Int) := by omega
          obtain ⟨bA, oA, cA, eA⟩ := HA.out.some (by omega)
          simp only [Value.slice.injEq] at eA
          obtain ⟨rfl, -, rfl⟩ := eA
          obtain ⟨z, c0, hz⟩ := HA.out.at (k) (by omega)
          obtain ⟨p, hp⟩ : ∃ p, p = la[k]'(by omega) := ⟨_, rfl⟩
          rw [← hp] at hz
          have c1 : wr.cell? ⟨bA, oA + (k), none⟩ = some z := (HR.out.1.bel.cell (p := ⟨bA, oA + (k), none⟩) (World.block_lt_of_cell? W _ c0)).trans c0
          have HP := Lib.hid hp
          obtain ⟨za, zc, rfl, _⟩ := id hz
          have HZ := Lib.hid hz
          clear hz hp c0
          by_cases hpl : 250 < p.length
          · have g6 : (250 : Int) < (p.length : Int) := by omega
            go_wp2_with fail
            refine (CF.out wr HR.out.1.bel).mono ?_
            rintro e w2 ⟨rfl, hb2⟩
            have HB2 : Hid (Below W.heap.size W w2) := Lib.hid (HR.out.1.bel.trans (hb2.mono HR.out.1.bel.size))
            clear hb2
            go_wp2_with fail
            go_ret
            exact ⟨rfl, HB2.out⟩
          · have g6 : ¬ (250 : Int) < (p.length : Int) := by omega
            have CP := Lib.hid (fput_ok _ p wr (HZ.out.below HR.out.1.bel (Nat.le_refl _)) (HT.out.below HR.out.1.bel (Nat.le_refl _)) (by omega))
            go_wp2_with fail
            refine CP.out.mono ?_
            rintro e w2 ⟨f, rfl, hf, hb2⟩
            have HF := Lib.hid (And.intro hf (HR.out.1.below hb2))
            obtain ⟨fa, fc, rfl, _⟩ := hf.rd
            rw [frmL_len] at HF ⊢
            clear hf hb2 CP
            have HL : Hid ((frms (la.take k)).length + (frmL p).length ≤ 140737488355328) := Lib.hid (by
              have h1 := frms_le (la.take k) (fun q hq => HR.out.2 q (List.mem_append_left _ hq))
              have h2 : (la.take k).length ≤ 40 := by simp; omega
              rw [frmL_len]; omega)
            have HN : Hid (∀ W3 x', Own 5 W3 W.heap.size x' (frms (la.take k) ++ frmL p) → w2.grownBy W3 x.ownBlock → JInv W W3 x' y (frms (la.take (k + 1))) (frms (lb.take (k + 1 - la.length))) (la.length < k + 1) ∧ ∀ q ∈ la.take (k + 1) ++ lb.take (k + 1 - la.length), q.length ≤ 250) := Lib.hid (by
              intro W3 x' h1 h2
              have e1 : la.take (k + 1) = la.take k ++ [p] := by rw [HP.out]; exact List.take_succ_eq_append_getElem hka
              have e2 : lb.take (k + 1 - la.length) = [] := by rw [show k + 1 - la.length = 0 by omega]; rfl
              have e3 : lb.take (k - la.length) = [] := by rw [show k - la.length = 0 by omega]; rfl
              have h3 := HF.out.2.appX (q := la.length < k + 1) (by omega) h1 h2
              rw [e3] at h3
              rw [e1, e2, frms_snoc]
              refine ⟨h3, fun q hq => ?_⟩
              simp only [List.append_nil, List.mem_append, List.mem_cons, List.not_mem_nil, or_false] at hq
              rcases hq with hq | rfl
              · exact HR.out.2 q (List.mem_append_left _ hq)
              · omega)
            go_wp2_with (at_builtin; refine hold ?_)
            intro _
            refine bt.appendS rfl _ _ rfl W.heap.size _ _ (frms (la.take k)) (frmL p) HF.out.2.ox HF.out.1.rd rfl rfl HL.out HF.out.2.bel.size ?_
            intro x' w3 hx' hg'
            have HE := Lib.hid (HN.out w3 x' hx' hg')
            clear hx' hg' HN HL HF HZ HP HR c1
            go_wp2_with fail
            go_roundw
            case rel => exact ⟨k + 1, by omega, by go_num, HE⟩
            case measure => simp [intOf]; omega
        ·
          have g4 : ¬ (k : Int) < (la.length : Int) := by omega
          have g5 : (0 : Int) ≤ (k : Int) - (la.length : Int) := by omega
          have g5' : (k : Int) - (la.length : Int) < (lb.length : Int) := by omega
          have g5w : IntKind.i64.wrap ((k : Int) - (la.length : Int)) = (k : Int) - (la.length : Int) := IntWalk.i64_in _ ⟨by omega, by omega⟩
          have g5t : ((k : Int) - (la.length : Int)).toNat = k - la.length := by omega
          obtain ⟨bA, oA, cA, eA⟩ := HB.out.some (by omega)
          simp only [Value.slice.injEq] at eA
          obtain ⟨rfl, -, rfl⟩ := eA
          obtain ⟨z, c0, hz⟩ := HB.out.at (k - la.length) (by omega)
          obtain ⟨p, hp⟩ : ∃ p, p = lb[k - la.length]'(by omega) := ⟨_, rfl⟩
          rw [← hp] at hz
          have c1 : wr.cell? ⟨bA, oA + (k - la.length), none⟩ = some z := (HR.out.1.bel.cell (p := ⟨bA, oA + (k - la.length), none⟩) (World.block_lt_of_cell? W _ c0)).trans c0
          have HP := Lib.hid hp
          obtain ⟨za, zc, rfl, _⟩ := id hz
          have HZ := Lib.hid hz
          clear hz hp c0
          by_cases hpl : 250 < p.length
          · have g6 : (250 : Int) < (p.length : Int) := by omega
            go_wp2_with fail
            refine (CF.out wr HR.out.1.bel).mono ?_
            rintro e w2 ⟨rfl, hb2⟩
            have HB2 : Hid (Below W.heap.size W w2) := Lib.hid (HR.out.1.bel.trans (hb2.mono HR.out.1.bel.size))
            clear hb2
            go_wp2_with fail
            go_ret
            exact ⟨rfl, HB2.out⟩
          · have g6 : ¬ (250 : Int) < (p.length : Int) := by omega
            have CP := Lib.hid (fput_ok _ p wr (HZ.out.below HR.out.1.bel (Nat.le_refl _)) (HT.out.below HR.out.1.bel (Nat.le_refl _)) (by omega))
            go_wp2_with fail
            refine CP.out.mono ?_
            rintro e w2 ⟨f, rfl, hf, hb2⟩
            have HF := Lib.hid (And.intro hf (HR.out.1.below hb2))
            obtain ⟨fa, fc, rfl, _⟩ := hf.rd
            rw [frmL_len] at HF ⊢
            clear hf hb2 CP
            obtain ⟨M, hM, hoy, hstep⟩ := HF.out.2.second
            have HL : Hid ((frms (lb.take (k - la.length))).length + (frmL p).length ≤ 140737488355328) := Lib.hid (by
              have h1 := frms_le (lb.take (k - la.length)) (fun q hq => HR.out.2 q (List.mem_append_right _ hq))
              have h2 : (lb.take (k - la.length)).length ≤ 40 := by simp; omega
              rw [frmL_len]; omega)
            have HN : Hid (∀ W3 y', Own 5 W3 M y' (frms (lb.take (k - la.length)) ++ frmL p) → w2.grownBy W3 y.ownBlock → JInv W W3 x y' (frms (la.take (k + 1))) (frms (lb.take (k + 1 - la.length))) (la.length < k + 1) ∧ ∀ q ∈ la.take (k + 1) ++ lb.take (k + 1 - la.length), q.length ≤ 250) := Lib.hid (by
              intro W3 y' h1 h2
              have e1 : lb.take (k + 1 - la.length) = lb.take (k - la.length) ++ [p] := by rw [HP.out, show k + 1 - la.length = (k - la.length) + 1 by omega]; exact List.take_succ_eq_append_getElem (by omega)
              have e2 : la.take (k + 1) = la.take k := by rw [List.take_of_length_le (by omega), List.take_of_length_le (by omega)]
              have h3 := (hstep W3 y' (frmL p) h1 h2).firstBegun (q := la.length < k + 1) (fun _ => by omega)
              rw [e1, e2, frms_snoc]
              refine ⟨h3, fun q hq => ?_⟩
              rw [← List.append_assoc, List.mem_append] at hq
              rcases hq with hq | hq
              · exact HR.out.2 q hq
              · simp only [List.mem_cons, List.not_mem_nil, or_false] at hq
                subst hq; omega)
            have HOY := Lib.hid hoy
            clear hstep hoy
            go_wp2_with (at_builtin; refine hold ?_)
            intro _
            refine bt.appendS rfl _ _ rfl M _ _ (frms (lb.take (k - la.length))) (frmL p) HOY.out HF.out.1.rd rfl rfl HL.out hM ?_
            intro y' w3 hy' hg'
            have HE := Lib.hid (HN.out w3 y' hy' hg')
            clear hy' hg' HN HL HF HZ HP HR c1 HOY hM
            go_wp2_with fail
            go_roundw
            case rel => exact ⟨k + 1, by omega, by go_num, HE⟩
            case measure => simp [intOf]; omega
      · obtain rfl : k = la.length + lb.length := by omega
        have g3 : ¬ ((la.length : Int) + (lb.length : Int)) < (la.length : Int) + (lb.length : Int) := by omega
        have e1 : la.take (la.length + lb.length) = la := List.take_of_length_le (by omega)
        have e2 : lb.take (la.length + lb.length - la.length) = lb := List.take_of_length_le (by omega)
        rw [e1, e2] at HR
        clear e1 e2 hk hlt
        obtain ⟨X, hX⟩ : ∃ X, X = frms la := ⟨_, rfl⟩
        obtain ⟨Y, hY⟩ : ∃ Y, Y = frms lb := ⟨_, rfl⟩
        rw [← hX, ← hY] at HR
        have HXY := Lib.hid (And.intro hX (And.intro hY (fun p hp => Nat.le_trans (HR.out.2 p hp) (by decide : 250 ≤ 60000))))
        have hXl : X.length ≤ 10240 := by rw [hX]; have := frms_le la (fun p hp => HR.out.2 p (List.mem_append_left _ hp)); omega
        have hYl : Y.length ≤ 10240 := by rw [hY]; have := frms_le lb (fun p hp => HR.out.2 p (List.mem_append_right _ hp)); omega
        have HS : Hid (Rd wr x X ∧ Rd wr y Y ∧ Below W.heap.size W wr) := Lib.hid ⟨HR.out.1.ox.rd, by obtain ⟨M, _, _, _, h, _⟩ := HR.out.1.oy; exact h.rd, HR.out.1.bel⟩
        obtain ⟨xa, xc, rfl, _⟩ := id HS.out.1
        obtain ⟨ya, yc, rfl, _⟩ := id HS.out.2.1
        have C1 := Lib.hid (copy_bytes _ X wr HS.out.1 (by omega))
        clear hX hY HR
        go_wp2_with fail
        refine C1.out.mono ?_
        rintro e w2 ⟨u2, rfl, hu2, hb2⟩
        have HU2 := Lib.hid (And.intro hu2 hb2)
        clear hu2 hb2 C1
        go_wp2_with (at_builtin; refine hold ?_)
        intro _
        refine bt.appendS rfl _ _ rfl wr.heap.size _ _ X Y HU2.out.1 (HS.out.2.1.below HU2.out.2 (Nat.le_refl _)) rfl rfl (by omega) HU2.out.2.size ?_
        intro u3 w3 hu3 hg3
        have HU3 : Hid (Rd w3 u3 (X ++ Y) ∧ Below wr.heap.size wr w3) := Lib.hid ⟨hu3.rd, HU2.out.2.trans (HU2.out.1.grows hg3 (Nat.le_refl _) HU2.out.2.size)⟩
        have C2 := Lib.hid (all_two la lb X Y HXY.out.1 HXY.out.2.1 HXY.out.2.2 u3 w3 HU3.out.1 (HT.out.below (HS.out.2.2.trans (HU3.out.2.mono HS.out.2.2.size)) (Nat.le_refl _)) (by omega) (by omega))
        obtain ⟨a3, c3, rfl, _⟩ := id HU3.out.1
        generalize (X ++ Y).length = n3 at C2 ⊢
        clear hu3 hg3 HU2
        go_wp2_with fail
        refine C2.out.mono ?_
        rintro e w4 ⟨v4, rfl, hv4, hb4⟩
        have HV4 : Hid (LRd w4 v4 (la ++ lb) ∧ Below wr.heap.size wr w4) := Lib.hid ⟨hv4, HU3.out.2.trans (hb4.mono HU3.out.2.size)⟩
        have C3 := Lib.hid (copy_bytes _ X w4 (HS.out.1.below HV4.out.2 (Nat.le_refl _)) (by omega))
        clear hv4 hb4 C2 HU3
        go_wp2_with fail
        refine C3.out.mono ?_
        rintro e w5 ⟨u5, rfl, hu5, hb5⟩
        have HU5 := Lib.hid (And.intro hu5 hb5)
        clear hu5 hb5 C3
        go_wp2_with (at_builtin; refine hold ?_)
        intro _
        refine bt.appendS rfl _ _ rfl w4.heap.size _ _ X [255, 255, 0, 0, 0, 0] (HU5.out.1.alloc _) (Rd.built 5 w5 [255, 255, 0, 0, 0, 0] (by decide)) rfl rfl (by simp; omega) (by have := HU5.out.2.size; simp; omega) ?_
        intro u6 w6 hu6 hg6
        have HU6 : Hid (Own 5 w6 w4.heap.size u6 (X ++ [255, 255, 0, 0, 0, 0]) ∧ Below w4.heap.size w4 w6) := Lib.hid ⟨hu6, (HU5.out.2.trans ((below_alloc w5 _).mono HU5.out.2.size)).trans ((HU5.out.1.alloc _).grows hg6 (Nat.le_refl _) (by have := HU5.out.2.size; simp; omega))⟩
        clear hu6 hg6 HU5
        go_wp2_with (at_builtin; refine hold ?_)
        intro _
        refine bt.appendS rfl _ _ rfl w4.heap.size _ _ (X ++ [255, 255, 0, 0, 0, 0]) Y HU6.out.1 ((HS.out.2.1.below HV4.out.2 (Nat.le_refl _)).below HU6.out.2 (Nat.le_refl _)) rfl rfl (by simp; omega) HU6.out.2.size ?_
        intro u7 w7 hu7 hg7
        have HU7 : Hid (Rd w7 u7 (X ++ [255, 255, 0, 0, 0, 0] ++ Y) ∧ Below w4.heap.size w4 w7) := Lib.hid ⟨hu7.rd, HU6.out.2.trans (HU6.out.1.grows hg7 (Nat.le_refl _) HU6.out.2.size)⟩
        have HB4 : Hid (Below W.heap.size W w4) := Lib.hid (HS.out.2.2.trans (HV4.out.2.mono HS.out.2.2.size))
        have C4 := Lib.hid (all_hide la X Y HXY.out.1 (fun p hp => HXY.out.2.2 p (List.mem_append_left _ hp)) u7 w7 HU7.out.1 (HT.out.below (HB4.out.trans (HU7.out.2.mono HB4.out.size)) (Nat.le_refl _)) (by omega) (by omega))
        obtain ⟨a7, c7, rfl, _⟩ := id HU7.out.1
        generalize (X ++ [255, 255, 0, 0, 0, 0] ++ Y).length = n7 at C4 ⊢
        clear hu7 hg7 HU6
        go_wp2_with fail
        refine C4.out.mono ?_
        rintro e w8 ⟨v8, rfl, hv8, hb8⟩
        have HV8 : Hid (LRd w8 v4 (la ++ lb) ∧ LRd w8 v8 la ∧ Below W.heap.size W w8) := by
          have h1 := HU7.out.2.trans (hb8.mono HU7.out.2.size)
          exact Lib.hid ⟨HV4.out.1.below h1 (Nat.le_refl _), hv8, HB4.out.trans (h1.mono HB4.out.size)⟩
        clear hv8 hb8 C4 HU7 HV4 HB4 HS HXY
        go_wp2_with fail
        refine (CF.out w8 HV8.out.2.2).mono ?_
        rintro e w9 ⟨rfl, hb9⟩
        have HV9 : Hid (LRd w9 v4 (la ++ lb) ∧ LRd w9 v8 la ∧ Below W.heap.size W w9) := Lib.hid ⟨HV8.out.1.below hb9 (Nat.le_refl _), HV8.out.2.1.below hb9 (Nat.le_refl _), HV8.out.2.2.trans (hb9.mono HV8.out.2.2.size)⟩
        clear hb9 HV8
        have t1 : ((X.length : Int) + (Y.length : Int) == (X.length : Int) + (Y.length : Int)) = true := by simp
        have t2 : ((X.length : Int) == (X.length : Int)) = true := by simp
        obtain ⟨a4, c4, rfl, _⟩ := HV9.out.1.lens
        obtain ⟨a8, c8, rfl, _⟩ := HV9.out.2.1.lens
        generalize (la ++ lb).length = n9 at HV9 ⊢
        obtain ⟨wa, hwa, hea, hsa⟩ := HA.out
        obtain ⟨wb, hwb, heb, hsb⟩ := HB.out
        obtain ⟨i0, hi, hz0, hz1, hz2⟩ := info_parts infoSl
        have hla := hea.len
        have hlb := heb.len
        have hoa := hea.one
        have hob := heb.one
        have hb10 : Below w9.heap.size w9 (w9.alloc (.cells #[] 22)) := below_alloc w9 _
        have HZ := Lib.hid (And.intro hwa (And.intro hea (And.intro hwb (And.intro heb HV9.out.2.2))))
        clear hwa hea hwb heb
        go_wp2_with (at_builtin; refine hold ?_)
        intro _
        refine append_vals (by rfl) _ _ 28 rfl w9.heap.size 22 i0 (.slice none 0 0) 24 Tryd.underlying28 hi hz0 hz1 hz2 rfl _ [] rfl (World.ownsRow_made w9 #[] 0 (Nat.le_refl _) (by decide) rfl) (.slice aa la.length ca) wa rfl ((HZ.out.1.below HZ.out.2.2.2.2 (Nat.le_refl _)).below hb10 (Nat.le_refl _)) hsa hoa (by simp [maxLen]; omega) (by simp; omega) hb10.size ?_
        intro va10 w11 hr11 hg11
        have hb11 : Below w9.heap.size w9 w11 := hb10.grown hg11 hb10.size (fun b e => by cases e; exact Nat.le_refl _)
        have HB11 := Lib.hid hb11
        rw [List.nil_append] at hr11
        have HR11 := Lib.hid hr11
        clear hg11 hr11 hb11
        go_wp2_with (at_builtin; refine hold ?_)
        intro _
        refine append_vals (by rfl) _ _ 28 rfl w9.heap.size 22 i0 (.slice none 0 0) 24 Tryd.underlying28 hi hz0 hz1 hz2 rfl _ wa rfl HR11.out (.slice ab lb.length cb) wb rfl ((HZ.out.2.2.1.below HZ.out.2.2.2.2 (Nat.le_refl _)).below HB11.out (Nat.le_refl _)) hsb hob (by simp only [maxLen]; omega) (by omega) HB11.out.size ?_
        intro va12 w12 hr12 hg12
        have hb12 : Below w9.heap.size w9 w12 := HB11.out.grown hg12 HB11.out.size (fun b e => (HR11.out.lt b e).1)
        have HL12 : Hid (LRd w12 va12 (la ++ lb) ∧ LRd w12 (.slice a4 n9 c4) (la ++ lb) ∧ LRd w12 (.slice a8 la.length c8) la ∧ LRd w12 (.slice aa la.length ca) la ∧ Below W.heap.size W w12) := by
          have hbW := HZ.out.2.2.2.2.trans (hb12.mono HZ.out.2.2.2.2.size)
          exact Lib.hid ⟨LRd.of_rds hr12 ((HZ.out.2.1.append HZ.out.2.2.2.1).below hbW (Nat.le_refl _)), HV9.out.1.below hb12 (Nat.le_refl _), HV9.out.2.1.below hb12 (Nat.le_refl _), HA.out.below hbW (Nat.le_refl _), hbW⟩
        have CL := Lib.hid (lists_any _ _ _ _ w12 HL12.out.2.1 HL12.out.1)
        rw [decide_eq_true rfl] at CL
        obtain ⟨a12, c12, rfl, _⟩ := HL12.out.1.lens
        generalize (la ++ lb).length = n12 at HL12 CL ⊢
        clear hr12 hg12 hb12 HZ HR11 HB11
        go_wp2_with fail
        refine CL.out.mono ?_
        rintro e w13 ⟨rfl, q, rfl⟩
        have CL2 := Lib.hid (lists_any _ _ _ _ (w12.drewN q) (HL12.out.2.2.1.drewN q) (HL12.out.2.2.2.1.drewN q))
        rw [decide_eq_true rfl] at CL2
        clear CL
        go_wp2_with fail
        refine CL2.out.mono ?_
        rintro e w14 ⟨rfl, q2, rfl⟩
        clear CL2
        go_wp2_with fail
        go_ret
        exact ⟨rfl, Below.drewsN HL12.out.2.2.2.2 _⟩
end Go.Proofs.YtainkmbjllklaaaDoor
