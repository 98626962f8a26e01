/- RowsStairs. -/
import Derived.Test.YtilkodnblekllaaMkFirst
namespace Go.Proofs.Ytilkodnblekllaa
open Go.RowKit

/-- Under way: the marks M, those told T. -/
structure StS (w W : World) (vm vt : Value) (k : Nat) (M T : List MarkT) : Prop where
  hb : Below w.heap.size w W
  rm : RdM W vm M
  nm : ∀ c, vm = .slice none 0 c → c = 0
  ot : W.ownsRow w.heap.size 28 2 vt T.length (T.map cellsM).flatten
  ml : MayL M
  tl : T.length ≤ k
  tm : ∀ t ∈ T, mayB t = true
  tc : ∀ t ∈ T, covL M (t.2 - 1) t.1 = true
theorem StS.up {w W W' : World} {vm vt : Value} {k : Nat} {M T : List MarkT} (h : StS w W vm vt k M T) (hb : Below W.heap.size W W') : StS w W' vm vt k M T :=
  ⟨h.hb.trans (hb.mono h.hb.size), h.rm.up hb, h.nm, owns_below h.ot hb (Nat.le_refl _), h.ml, h.tl, h.tm, h.tc⟩
theorem StS.more {w W W' : World} {vm vt vt' : Value} {k : Nat} {M T r : List MarkT} {x : MarkT} (h : StS w W vm vt k M T) (hA : addL M x = (r, 0)) (u : Value) (hn : ∀ c, u = .slice none 0 c → c = 0)
    (hb : Below w.heap.size W W') (hu' : RdM W' u r) (ho : W'.ownsRow w.heap.size 28 2 vt' (T ++ [x]).length ((T ++ [x]).map cellsM).flatten) : StS w W' u vt' (k + 1) r (T ++ [x]) := by
  obtain ⟨_, hm, hr, hc⟩ := addL_ok hA
  refine ⟨h.hb.trans hb, hu', hn, ho, hr, by have := h.tl; simp; omega, fun t ht => ?_, fun t ht => ?_⟩
  · rcases List.mem_append.1 ht with ht | ht
    · exact h.tm t ht
    · obtain rfl : t = x := by simpa using ht
      exact hm
  · rw [hc]
    rcases List.mem_append.1 ht with ht | ht
    · rw [h.tc t ht]; rfl
    · obtain rfl : t = x := by simpa using ht
      rw [decide_eq_true ⟨Int.le_refl _, by omega⟩, Bool.or_true]
theorem StS.skip {w W : World} {vm vt : Value} {k : Nat} {M T : List MarkT} (h : StS w W vm vt k M T) : StS w W vm vt (k + 1) M T := ⟨h.hb, h.rm, h.nm, h.ot, h.ml, Nat.le_succ_of_le h.tl, h.tm, h.tc⟩
theorem may_parts {t : MarkT} (h : mayB t = true) : (0 ≤ t.1 ∧ t.1 ≤ 1099511627776) ∧ 1 ≤ t.2 ∧ t.2 ≤ 1000000 := by
  unfold mayB at h; rw [decide_eq_true_eq] at h; exact ⟨⟨h.1, h.2.1⟩, h.2.2.1, h.2.2.2⟩
/-- What reads in another block than the one that was appended to reads as it did. -/
theorem RdF.grown {sz : Nat} {w w' : World} {row : Option Nat} {v : Value} {L : List (List Value)} (h : RdF sz w v L) (hg : w.grownBy w' row) (hne : ∀ b o n c, v = .slice (some ⟨b, o, none⟩) n c → row ≠ some b) : RdF sz w' v L := by
  obtain ⟨a, cap, rfl, h1, h2, h3, h4⟩ := h
  refine ⟨a, cap, rfl, h1, h2, h3, fun hl => ?_⟩
  obtain ⟨b, off, rfl, hc⟩ := h4 hl
  exact ⟨b, off, rfl, fun i hi j u hu => hg.cell (hc i hi j u hu) (hne b off _ _ rfl).symm⟩
theorem row_snocM {w : World} {base : Nat} {v : Value} {L : List MarkT} {m : MarkT} {N n2 : Nat} (h : w.ownsRow base 28 2 v (N + n2) ((L.map cellsM).flatten ++ [cellsM m].flatten)) (hN : N = L.length) (h2 : n2 = [cellsM m].length := by rfl) : w.ownsRow base 28 2 v (L ++ [m]).length ((L ++ [m]).map cellsM).flatten := by
  subst h2 hN
  simpa using h
theorem next_dec {p m : MarkT} (h : nextB p m = true) : m.1 < p.1 ∧ p.2 < m.2 := by unfold nextB at h; exact of_decide_eq_true h
set_option maxRecDepth 100000 in
set_option maxHeartbeats 4000000 in
theorem stairs_walk (v : Value) (l : List MarkT) (w : World) (hv : RdM w v l) (hn : ∀ c, v = .slice none 0 c → c = 0) (_ : ∀ x ∈ l, (-9223372036854775808 ≤ x.1 ∧ x.1 ≤ 9223372036854775807) ∧ (-9223372036854775808 ≤ x.2 ∧ x.2 ≤ 9223372036854775807)) :
    Calls Try.prog 3 #[v] w fun e w' => e = .returned (.bool true) ∧ Below w.heap.size w w' := by
  obtain ⟨i0, hi, hz0, hz1, hz2⟩ := info_parts infoM
  obtain ⟨av, cv, rfl, hmx⟩ := hv.form
  have HV := Lib.hid hv
  have CF := Lib.hid mkfirst_any
  have CA := Lib.hid (fun W v M x (h : RdM W v M) h' => padd_any v M x W h h')
  have CC := Lib.hid (fun W v M num time (h : RdM W v M) => pcov_any v M num time W h)
  clear hv hn
  go_enter Try.func3, Try.ntmps3
  go_wp2_with fail
  refine (CF.out _).mono ?_
  rintro e w1 ⟨rfl, hb1⟩
  have H1 := Lib.hid hb1
  clear hb1
  by_cases h50 : 50 < l.length
  · as_aux_lemma =>
      have g5 : (50 : Int) < (l.length : Int) := by omega
      go_wp2_with fail
      refine (CF.out _).mono ?_
      rintro e w2 ⟨rfl, hb2⟩
      have HX := Lib.hid (H1.out.trans (hb2.mono H1.out.size))
      clear hb2
      go_wp2_with fail
      go_ret
      exact ⟨rfl, HX.out⟩
  have g5 : ¬ (50 : Int) < (l.length : Int) := by omega
  have HS0 : Hid (∃ M T, StS w w1 (.slice none 0 0) (.slice none 0 0) 0 M T) := Lib.hid ⟨[], [], H1.out, rdm_nil _, (fun c h => by cases h; rfl), World.ownsRow_nil w1 _ _ 2, mayL_nil, by simp, by simp, by simp⟩
  go_wp2_with fail
  go_loopw [3, 4, 5] (fun vm vt i wr => ∃ k : Nat, k ≤ l.length ∧ i = .int .i64 (k : Int) ∧ Hid (∃ M T, StS w wr vm vt k M T)) (fun _ _ i _ => l.length - (intOf i).toNat)
  case atStart => exact ⟨0, Nat.zero_le _, rfl, HS0⟩
  case round =>
    clear HS0
    obtain ⟨k, hk, rfl, HW0⟩ := hrel
    obtain ⟨M, T, hW⟩ := HW0.out
    have HW := Lib.hid hW
    obtain ⟨vm, hvm⟩ : ∃ v, v = u3 := ⟨_, rfl⟩
    subst hvm
    obtain ⟨vt, hvt⟩ : ∃ v, v = u4 := ⟨_, rfl⟩
    subst hvt
    clear hW HW0
    by_cases hlt : k < l.length
    · as_aux_lemma =>
      have g3 : (k : Int) < (l.length : Int) := by omega
      have g4 : (0 : Int) ≤ (k : Int) := by omega
      obtain ⟨bA, oA, rfl, c0, c1⟩ := HV.out.get hlt
      obtain ⟨x, hx⟩ : ∃ x, x = l[k] := ⟨_, rfl⟩
      rw [← hx] at c0 c1
      obtain ⟨c, d⟩ := x
      dsimp only at c0 c1
      have hlA := World.block_lt_of_cell? w _ c0
      have HC : Hid (∀ W, Below w.heap.size w W → W.cell? ⟨bA, oA + k * 2, none⟩ = some (.int .i64 c) ∧ W.cell? ⟨bA, oA + k * 2 + 1, none⟩ = some (.int .i64 d)) := Lib.hid (fun W h => ⟨(h.cell (p := ⟨bA, oA + k * 2, none⟩) hlA).trans c0, (h.cell (p := ⟨bA, oA + k * 2 + 1, none⟩) hlA).trans c1⟩)
      obtain ⟨e0, e1⟩ := HC.out wr HW.out.hb
      clear c0 c1 hx hlA
      have CP := Lib.hid (CA.out wr vm M (c, d) HW.out.rm HW.out.nm)
      obtain ⟨⟨r, E⟩, hR⟩ : ∃ R, R = addL M (c, d) := ⟨_, rfl⟩
      rw [← hR] at CP
      have HR := Lib.hid hR
      clear hR
      go_wp2_with fail
      refine CP.out.mono ?_
      rintro e w3 ⟨u, rfl, hu, hun, huf, hb3⟩
      have H3 := Lib.hid (And.intro (HW.out.up hb3) (And.intro hu (And.intro hun (show ∀ b o n c, u = .slice (some ⟨b, o, none⟩) n c → vt.ownBlock ≠ some b from fun b o n c e1 e2 => by
        have h1 := huf b o n c e1
        have h2 := (World.ownsRow.lt HW.out.ot b e2).2
        omega))))
      clear hu hun huf hb3 CP HW e0 e1
      by_cases hE : E = 0
      · subst hE
        obtain ⟨e0, e1⟩ := HC.out w3 H3.out.1.hb
        obtain ⟨N, hN⟩ : ∃ N, N = T.length := ⟨_, rfl⟩
        have hN9 : N ≤ 50 := by have := H3.out.1.tl; omega
        have HN := Lib.hid hN
        clear hN
        go_wp2_with (at_builtin; refine hold ?_)
        intro _
        refine wpList_appendF (by rfl) _ _ 22 (by rfl) w.heap.size 28 i0 _ 2 16 Try.underlying22 hi hz0 hz1 hz2 rfl (by decide) vt N _ (by rfl) (by rw [HN.out]; exact World.ownsRow.alloc H3.out.1.ot _) _ [cellsM (c, d)] (by simp [cellsM]) (by simp [cellsM, Value.oneCell']) (by rfl) (RdF.lit [cellsM (c, d)] (by simp [cellsM]) (heap_alloc_new _ _) rfl (by simp)) (fun c h => by cases h) (by simp [maxLen]; omega) (by simp; omega) (by have := H3.out.1.hb.size; simp; omega) ?_
        intro vt' w4 ho hg
        have HE : Hid (∃ M T, StS w w4 u vt' (k + 1) M T) := Lib.hid ⟨r, T ++ [(c, d)], H3.out.1.more HR.out.symm u H3.out.2.2.1
          ((below_alloc w3 _).mono H3.out.1.hb.size |>.grown hg (by have := H3.out.1.hb.size; simp; omega) (fun j ej => (World.ownsRow.lt H3.out.1.ot j ej).1))
          (RdF.grown (H3.out.2.1.up (below_alloc w3 _)) hg H3.out.2.2.2) (row_snocM ho HN.out)⟩
        clear ho hg H3 HN HR HC e0 e1
        go_wp2_with fail
        go_roundw
        case rel => exact ⟨k + 1, by omega, by go_num, HE⟩
        case measure => simp [intOf]; omega
      · have HE : Hid (∃ M T, StS w w3 vm vt (k + 1) M T) := Lib.hid ⟨M, T, H3.out.1.skip⟩
        clear H3 HR HC
        go_wp2_with fail
        go_roundw
        case rel => exact ⟨k + 1, by omega, by go_num, HE⟩
        case measure => simp [intOf]; omega
    · as_aux_lemma =>
      obtain rfl : k = l.length := by omega
      have g3 : ¬ (l.length : Int) < (l.length : Int) := by omega
      have hot := HW.out.ot
      have hM8 := HW.out.ml.2
      have hT := HW.out.tl
      obtain ⟨am, cm, rfl, _⟩ := HW.out.rm.form
      have HTF : Hid (RdM wr vt T) := Lib.hid (rdm_row hot)
      obtain ⟨at1, ct, rfl, _⟩ := HTF.out.form
      have g8 : ¬ (8 : Int) < (M.length : Int) := by omega
      clear hot HV
      go_wp2_with fail
      go_loopw [8] (fun i w5 => ∃ (j q : Nat), 1 ≤ j ∧ (j = 1 ∨ j ≤ M.length) ∧ i = .int .i64 (j : Int) ∧ w5 = wr.drewN q) (fun i _ => M.length - (intOf i).toNat)
      case atStart => exact ⟨1, 0, Nat.le_refl _, .inl rfl, rfl, rfl⟩
      case round =>
        obtain ⟨j, q, hj1, hj2, rfl, rfl⟩ := hrel
        by_cases hlt : j < M.length
        · as_aux_lemma =>
          have g3 : (j : Int) < (M.length : Int) := by omega
          have g4 : (0 : Int) ≤ (j : Int) := by omega
          obtain ⟨i, hi⟩ : ∃ i, i + 1 = j := ⟨j - 1, by omega⟩
          have gi : i < M.length := by omega
          have tm : IntKind.i64.wrap ((j : Int) - 1) = (i : Int) := by rw [show (j : Int) - 1 = (i : Int) by omega]; exact IntWalk.i64_in _ (by omega)
          have gm : (i : Int) < (M.length : Int) := by omega
          have gm0 : (0 : Int) ≤ (i : Int) := by omega
          have hnx := next_dec ((HW.out.ml.1 j hlt hlt).2 i gi hi)
          obtain ⟨bA, oA, rfl, c0, c1⟩ := HW.out.rm.get hlt
          obtain ⟨bB, oB, hE, e0, e1⟩ := HW.out.rm.get gi
          cases hE
          obtain ⟨x, hx⟩ : ∃ x, x = M[j] := ⟨_, rfl⟩
          obtain ⟨y, hy⟩ : ∃ y, y = M[i] := ⟨_, rfl⟩
          rw [← hx] at c0 c1 hnx
          rw [← hy] at e0 e1 hnx
          obtain ⟨xa, xb⟩ := x
          obtain ⟨ya, yb⟩ := y
          dsimp only at c0 c1 e0 e1 hnx
          have t1 : decide (ya ≤ xa) = false := dF (by omega)
          have t2 : decide (xb ≤ yb) = false := dF (by omega)
          clear hx hy hnx HW HTF gi hi
          go_wp2_with fail
          go_quiet (fail)
          go_wp2_with fail
          go_roundw
          case rel => exact ⟨j + 1, _, by omega, .inr (by omega), by go_num, rfl⟩
          case measure => simp [intOf]; omega
        · as_aux_lemma =>
          have g3 : ¬ (j : Int) < (M.length : Int) := by omega
          have HQ : Hid (Below w.heap.size w (wr.drewN q)) := Lib.hid (Below.drewsN HW.out.hb q)
          have HM2 : Hid (∀ W, Below w.heap.size (wr.drewN q) W → True) := Lib.hid (fun _ _ => trivial)
          have HR2 : Hid (RdM (wr.drewN q) (.slice am M.length cm) M ∧ RdM (wr.drewN q) (.slice at1 T.length ct) T) := Lib.hid ⟨HW.out.rm.drewN q, HTF.out.drewN q⟩
          have HTC := Lib.hid HW.out.tc
          have HTM := Lib.hid HW.out.tm
          clear HW HTF HM2
          generalize wr.drewN q = w6 at *
          go_wp2_with fail
          go_loopw [9] (fun i w7 => ∃ (j : Nat), j ≤ T.length ∧ i = .int .i64 (j : Int) ∧ Hid (Below w6.heap.size w6 w7)) (fun i _ => T.length - (intOf i).toNat)
          case atStart => exact ⟨0, Nat.zero_le _, rfl, Lib.hid (Below.refl _ _)⟩
          case round =>
            obtain ⟨z, hz, rfl, HB⟩ := hrel
            by_cases hlz : z < T.length
            · as_aux_lemma =>
              have g3 : (z : Int) < (T.length : Int) := by omega
              have g4 : (0 : Int) ≤ (z : Int) := by omega
              obtain ⟨bA, oA, rfl, c0, c1⟩ := HR2.out.2.get hlz
              have hc := HTC.out _ (List.getElem_mem hlz)
              have hmy := may_parts (HTM.out _ (List.getElem_mem hlz))
              obtain ⟨x, hx⟩ : ∃ x, x = T[z] := ⟨_, rfl⟩
              rw [← hx] at c0 c1 hc hmy
              obtain ⟨xa, xb⟩ := x
              dsimp only at c0 c1 hc hmy
              obtain ⟨⟨m1, m2⟩, m3, m4⟩ := hmy
              have hlA := World.block_lt_of_cell? w6 _ c0
              have ts : IntKind.i64.wrap (xb - 1) = xb - 1 := IntWalk.i64_in _ (by omega)
              have hbb := HB.out
              have z0 := Lib.hid (fun p : BelowBy wr => BelowBy.cell ((hbb.cell (p := ⟨bA, oA + z * 2, none⟩) hlA).trans c0) p)
              have z1 := Lib.hid (fun p : BelowBy wr => BelowBy.cell ((hbb.cell (p := ⟨bA, oA + z * 2 + 1, none⟩) hlA).trans c1) p)
              have CV := Lib.hid (fun p : BelowBy wr => CC.out p.W (.slice am M.length cm) M (xb - 1) xa (HR2.out.1.up (hbb.trans (p.h.mono hbb.size))))
              rw [hc] at CV
              clear hx c0 c1 hlA hbb hc HTC HTM HR2 CC
              go_wp2_with fail
              refine wp_region_quiet_below (by kernel_rfl) (by kernel_rfl) ?_
              repeat (first | go_big_quiet_skip | (go_big_quiet_want; go_big_quiet_op; first | go_big_quiet_on | (simp only [z0.out, z1.out, Result.andThen, true_and, forall_const, exists_eq_left']; go_big_quiet_on) | go_big_quiet_call ((go_at_call 7; exact Calls.below_of (CV.out _)))) | fail)
              refine wpQuiet_nil ?_
              rintro w9 ⟨⟨_, hb9⟩, rfl⟩
              have HY : Hid (Below w6.heap.size w6 w9) := Lib.hid (HB.out.trans (hb9.mono HB.out.size))
              clear hb9 z0 z1 CV HB
              go_wp2_with fail
              go_roundw
              case rel => exact ⟨z + 1, by omega, by go_num, HY⟩
              case measure => simp [intOf]; omega
            · as_aux_lemma =>
              obtain rfl : z = T.length := by omega
              have g3 : ¬ (T.length : Int) < (T.length : Int) := by omega
              have HC9 := Lib.hid (fun W => CC.out W (.slice none 0 0) [] 0 0 (rdm_nil W))
              have HB9 := Lib.hid (HQ.out.trans (HB.out.mono HQ.out.size))
              clear HR2 HTC HTM
              go_wp2_with fail
              refine (CF.out _).mono ?_
              rintro e w8 ⟨rfl, hb8⟩
              have H8 := Lib.hid (HB9.out.trans (hb8.mono HB9.out.size))
              clear hb8 HB9 HB HQ
              go_wp2_with fail
              refine (HC9.out _).mono ?_
              rintro e w9 ⟨rfl, hb9⟩
              have HX := Lib.hid (H8.out.trans (hb9.mono H8.out.size))
              clear hb9 H8
              have hcn : covL [] 0 0 = false := rfl
              go_wp2_with fail
              go_ret
              exact ⟨rfl, HX.out⟩
end Go.Proofs.Ytilkodnblekllaa
