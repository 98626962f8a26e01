/- hbllaw2's rows: del. -/
import Derived.Test.YtdkplhfbcpobaaaRDelMath
import Derived.Test.YtdkplhfbcpobaaaRFind
import Derived.IntWalk
namespace Go.Proofs.Ytdkplhfbcpobaaa
open Go.RowKit
attribute [local go_sem] Oper.semAt_some wide_fn wide_depth

theorem infoRD : (Try.prog.info? 39).map (fun i => (i.zero, i.size, i.bytes)) = some (some (.agg #[.int .i64 0, str []]), 2, 24) := by kernel_rfl
set_option maxRecDepth 100000 in
set_option maxHeartbeats 8000000 in
theorem rdel_any {W : World} {bx base : Nat} {vo : Value} {rl : List (Int × List UInt8)} (h : RowsP W bx base vo rl) (hbb : bx < base) (k : Int) (hlen : rl.length ≤ 1000000) :
    Calls Try.prog 14 #[.pointer (some ⟨bx, 0, none⟩), .int .i64 k] W fun e W' => ∃ (z : Bool) (vo' : Value), e = .returned (.bool z) ∧ (z = true ↔ ∃ p ∈ rl, p.1 = k) ∧ RowsP W' bx base vo' (delK k rl) ∧ FrR W W' bx base vo ∧ vo'.ownBlock = vo.ownBlock := by
  have CF := Lib.hid (callsIn_wide (n := 8).2 (find_any h k hlen))
  have HR := Lib.hid h
  obtain ⟨i0, hi, hz0, hz1, hz2⟩ := info_parts infoRD
  have hm : Try.prog.follows .mixedOrders = true := by kernel_rfl
  have hform : (∃ g cap, vo = Value.slice (some ⟨g, 0, none⟩) rl.length cap ∧ rl.length ≤ cap) ∨ (vo = Value.slice none 0 0 ∧ rl = []) := by
    rcases HR.out.row.2 with ⟨h1, h0⟩ | ⟨g, cap, _, h1, _, _, h2, _⟩
    · exact Or.inr ⟨h1, List.eq_nil_of_length_eq_zero h0⟩
    · exact Or.inl ⟨g, cap, h1, h2⟩
  clear h
  refine (callsIn_wide (n := 9)).1 ?_
  refine callsIn_of_wp Try.func14 rfl trivial ?_ rfl
  simp only [Try.ntmps14, List.size_toArray, List.length_cons, List.length_nil, Nat.reduceAdd, Nat.reduceSub, Array.replicate_succ, Array.replicate_zero, List.push_toArray, List.append_toArray, List.nil_append, List.cons_append]
  gi_wp2_with fail
  refine CF.out.mono ?_
  rintro e w1 ⟨p, f, nd, rfl, hp, hP1, hP2, hf, hw1⟩
  have HFF := Lib.hid (And.intro hP1 (And.intro hP2 hf))
  clear hP1 hP2 hf
  cases f with
  | true =>
    obtain ⟨hP1, hP2, hf⟩ := HFF.out
    obtain ⟨hpl, hpk⟩ := hf.1 rfl
    have hIN := delK_at k HR.out.ris hp hP1 hP2
    rw [if_pos ⟨hpl, hpk⟩] at hIN
    have HIN := Lib.hid hIN
    have HX : Hid (∃ q ∈ rl, q.1 = k) := Lib.hid ⟨rl[p], List.getElem_mem hpl, hpk⟩
    rcases hform with ⟨g, cap, rfl, hcap⟩ | ⟨_, hnil⟩
    · have H0 := Lib.hid (RSt.start HR.out hbb)
      clear hP1 hP2 hf hIN HFF CF hpk
      have g7 : (0 : Int) ≤ (p : Int) := by omega
      have g8 : (p : Int) ≤ (cap : Int) := by omega
      have g9 : (p : Int) ≤ (rl.length : Int) := by omega
      have s1 : IntKind.i64.wrap ((p : Int) + 1) = (p : Int) + 1 := IntWalk.i64_in _ (by omega)
      have s2 : ((p : Int) + 1).toNat = p + 1 := by omega
      have g10 : (0 : Int) ≤ (p : Int) + 1 := by omega
      have g11 : (p : Int) + 1 ≤ (rl.length : Int) := by omega
      have g12 : (p : Int) + 1 ≤ (cap : Int) := by omega
      subst hw1
      by_cases hqn : p + 1 < rl.length
      · have hne : ¬ cap = p + 1 := by omega
        gi_wp2
        -- MID
        refine wpIn_region_any hm ?_
        change wpAnyIn _ _ _ _ _ _ _ _ _ (World.drew _)
        generalize hWd : World.drew _ = W9
        have H : RSt W W9 bx base (.slice (some ⟨g, 0, none⟩) rl.length cap) rl := by rw [← hWd]; exact (H0.out.drewN nd).drewN 1
        clear hWd
        refine wpAnyIn_take (i := 0) (v := ?v1) rfl rfl (by kernel_rfl) (by kernel_rfl) (by kernel_rfl) (fun _ _ _ h => h) ⟨Or.inl ⟨by rfl, ?hy1⟩, fun _ => rfl⟩ ?_
        case hy1 => (intro w; go_simp; try with_reducible rfl)
        go_simp
        refine wpAnyIn_take (i := 1) (v := ?v2) rfl rfl (by kernel_rfl) (by kernel_rfl) (by kernel_rfl) (fun _ _ _ h => h) ⟨Or.inl ⟨by rfl, ?hy2⟩, fun _ => rfl⟩ ?_
        case hy2 => (intro w; go_simp; try with_reducible rfl)
        go_simp
        refine wpAnyIn_take (i := 2) (v := ?v3) rfl rfl (by kernel_rfl) (by kernel_rfl) (by kernel_rfl) (fun _ _ _ h => h) ⟨Or.inl ⟨by rfl, ?hy3⟩, fun _ => rfl⟩ ?_
        case hy3 => (intro w; go_simp; try with_reducible rfl)
        go_simp
        refine wpAnyIn_take (i := 3) (v := ?v4) rfl rfl (by kernel_rfl) (by kernel_rfl) (by kernel_rfl) (fun _ _ _ h => h) ⟨Or.inl ⟨by rfl, ?hy4⟩, fun _ => rfl⟩ ?_
        case hy4 => (intro w; go_simp; try with_reducible rfl)
        go_simp
        refine wpAnyIn_take (i := 5) (v := ?v5) rfl rfl (by kernel_rfl) (by kernel_rfl) (by kernel_rfl) (fun _ _ _ h => h) ⟨Or.inl ⟨by rfl, ?hy5⟩, fun _ => rfl⟩ ?_
        case hy5 => (intro w; go_simp; try with_reducible rfl)
        go_simp
        refine wpAnyIn_take (i := 7) (v := ?v6) rfl rfl (by kernel_rfl) (by kernel_rfl) (by kernel_rfl) (fun _ _ _ h => h) ⟨Or.inl ⟨by rfl, ?hy6⟩, fun _ => rfl⟩ ?_
        case hy6 => (intro w; go_simp; try with_reducible rfl)
        go_simp
        refine wpAnyIn_take (i := 8) (v := ?v7) rfl rfl (by kernel_rfl) (by kernel_rfl) (by kernel_rfl) (fun _ _ _ h => h) ⟨Or.inl ⟨by rfl, ?hy7⟩, fun _ => rfl⟩ ?_
        case hy7 => (intro w; go_simp; try with_reducible rfl)
        go_simp
        refine wpAnyIn_take (i := 9) (v := ?v8) rfl rfl (by kernel_rfl) (by kernel_rfl) (by kernel_rfl) (fun _ _ _ h => h) ⟨Or.inl ⟨by rfl, ?hy8⟩, fun _ => rfl⟩ ?_
        case hy8 => (intro w; go_simp; try with_reducible rfl)
        go_simp
        refine wpAnyIn_take (i := 11) (v := ?v9) rfl rfl (by kernel_rfl) (by kernel_rfl) (by kernel_rfl) (fun _ _ _ h => h) ⟨Or.inl ⟨by rfl, ?hy9⟩, fun _ => rfl⟩ ?_
        case hy9 => (intro w; go_simp; try with_reducible rfl)
        go_simp
        refine wpAnyIn_take (i := 12) (v := ?v10) rfl rfl (by kernel_rfl) (by kernel_rfl) (by kernel_rfl) (fun _ _ _ h => h) ⟨Or.inl ⟨by rfl, ?hy10⟩, fun _ => rfl⟩ ?_
        case hy10 => (intro w; go_simp; try with_reducible rfl)
        go_simp
        refine wpAnyIn_ready (rs := [4, 10]) (by kernel_rfl) (by simp) (AllReadyIn.cons rfl (fun K hK => ?_) (AllReadyIn.cons rfl (fun K hK => ?_) AllReadyIn.nil))
        · have cq := H.box.cell
          go_simp
          refine hK _ _ ?_
          clear hK K cq
          refine wpAnyIn_take (i := 6) (v := ?v11) rfl rfl (by kernel_rfl) (by kernel_rfl) (by kernel_rfl) (fun _ _ _ h => h) ⟨Or.inl ⟨by rfl, ?hy11⟩, fun _ => rfl⟩ ?_
          case hy11 => (intro w; go_simp; try with_reducible rfl)
          go_simp
          refine wpAnyIn_ready (rs := [10]) (by kernel_rfl) (by simp) (AllReadyIn.cons rfl (fun K hK => ?_) AllReadyIn.nil)
          have cq := H.box.cell
          go_simp
          refine hK _ _ ?_
          clear hK K cq
          refine wpAnyIn_take (i := 13) (v := ?v12) rfl rfl (by kernel_rfl) (by kernel_rfl) (by kernel_rfl) (fun _ _ _ h => h) ⟨Or.inl ⟨by rfl, ?hy12⟩, fun _ => rfl⟩ ?_
          case hy12 => (intro w; go_simp; try with_reducible rfl)
          go_simp
          refine wpAnyIn_ready (rs := [14]) (by kernel_rfl) (by simp) (AllReadyIn.cons rfl (fun K hK => ?_) AllReadyIn.nil)
          refine step_appendR (news := flatR (rl.drop (p + 1))) (m := (rl.length - (p + 1))) (g := g) (cap := cap) (k := p) (xs := (flatR rl).take (p * 2)) (base := base) (size := 2) (by rfl) _ _ 27 (by rfl) Try.underlying27 hi hz1 (by rfl) (row_take2 H.row hp) (srcN_eq (H.src hqn) (by rfl)) (by rw [flatR_len, List.length_drop]) (flatR_one _) (by omega) ?_
          intro W' r2 g2
          refine hK _ _ ?_
          clear hK K
          go_simp
          refine wpAnyIn_take (i := 15) (v := ?v13) rfl rfl (by kernel_rfl) (by kernel_rfl) (by kernel_rfl) (fun _ _ _ h => h) ⟨Or.inl ⟨by rfl, ?hy13⟩, fun _ => rfl⟩ ?_
          case hy13 => (intro w; go_simp; try with_reducible rfl)
          go_simp
          refine wpAnyIn_take (i := 16) (v := ?v14) rfl rfl (by kernel_rfl) (by kernel_rfl) (by kernel_rfl) (fun _ _ _ h => h) ⟨Or.inl ⟨by rfl, ?hy14⟩, fun _ => rfl⟩ ?_
          case hy14 => (intro w; go_simp; try with_reducible rfl)
          go_simp
          have hcnt : p + (rl.length - (p + 1)) = (delK k rl).length := by rw [HIN.out]; simp; omega
          have hr2 : W'.ownsRow base 39 2 (.slice (some ⟨g, 0, none⟩) (p + (rl.length - (p + 1))) cap) (delK k rl).length (flatR (delK k rl)) := by rw [← hcnt, HIN.out, flatR_app]; rw [flatR_take] at r2; exact r2
          clear hcnt
          have hfin := H.done (dst := .slice (some ⟨g, 0, none⟩) p cap) (.inr rfl) g2 hr2 (delK_ris k HR.out.ris)
          have cq := (H.box.kept g2 (fun e => by have := (H.own bx e.symm).1; have := H.lt.2; omega)).cell
          have fq := (H.box.kept g2 (fun e => by have := (H.own bx e.symm).1; have := H.lt.2; omega)).frozen
          refine wpAnyIn_ready (rs := [17]) (by kernel_rfl) (by simp) (AllReadyIn.cons rfl (fun K hK => ?_) AllReadyIn.nil)
          go_simp
          refine hK _ _ ?_
          clear hK K cq fq
          refine wpAnyIn_done (by kernel_rfl) ?_ _
          gi_wp2
          go_ret
          exact ⟨true, _, rfl, ⟨fun _ => HX.out, fun _ => rfl⟩, hfin.1, hfin.2, rfl⟩
        · have cq := H.box.cell
          go_simp
          refine hK _ _ ?_
          clear hK K cq
          refine wpAnyIn_take (i := 13) (v := ?v15) rfl rfl (by kernel_rfl) (by kernel_rfl) (by kernel_rfl) (fun _ _ _ h => h) ⟨Or.inl ⟨by rfl, ?hy15⟩, fun _ => rfl⟩ ?_
          case hy15 => (intro w; go_simp; try with_reducible rfl)
          go_simp
          refine wpAnyIn_ready (rs := [4]) (by kernel_rfl) (by simp) (AllReadyIn.cons rfl (fun K hK => ?_) AllReadyIn.nil)
          have cq := H.box.cell
          go_simp
          refine hK _ _ ?_
          clear hK K cq
          refine wpAnyIn_take (i := 6) (v := ?v16) rfl rfl (by kernel_rfl) (by kernel_rfl) (by kernel_rfl) (fun _ _ _ h => h) ⟨Or.inl ⟨by rfl, ?hy16⟩, fun _ => rfl⟩ ?_
          case hy16 => (intro w; go_simp; try with_reducible rfl)
          go_simp
          refine wpAnyIn_ready (rs := [14]) (by kernel_rfl) (by simp) (AllReadyIn.cons rfl (fun K hK => ?_) AllReadyIn.nil)
          refine step_appendR (news := flatR (rl.drop (p + 1))) (m := (rl.length - (p + 1))) (g := g) (cap := cap) (k := p) (xs := (flatR rl).take (p * 2)) (base := base) (size := 2) (by rfl) _ _ 27 (by rfl) Try.underlying27 hi hz1 (by rfl) (row_take2 H.row hp) (srcN_eq (H.src hqn) (by rfl)) (by rw [flatR_len, List.length_drop]) (flatR_one _) (by omega) ?_
          intro W' r2 g2
          refine hK _ _ ?_
          clear hK K
          go_simp
          refine wpAnyIn_take (i := 15) (v := ?v17) rfl rfl (by kernel_rfl) (by kernel_rfl) (by kernel_rfl) (fun _ _ _ h => h) ⟨Or.inl ⟨by rfl, ?hy17⟩, fun _ => rfl⟩ ?_
          case hy17 => (intro w; go_simp; try with_reducible rfl)
          go_simp
          refine wpAnyIn_take (i := 16) (v := ?v18) rfl rfl (by kernel_rfl) (by kernel_rfl) (by kernel_rfl) (fun _ _ _ h => h) ⟨Or.inl ⟨by rfl, ?hy18⟩, fun _ => rfl⟩ ?_
          case hy18 => (intro w; go_simp; try with_reducible rfl)
          go_simp
          have hcnt : p + (rl.length - (p + 1)) = (delK k rl).length := by rw [HIN.out]; simp; omega
          have hr2 : W'.ownsRow base 39 2 (.slice (some ⟨g, 0, none⟩) (p + (rl.length - (p + 1))) cap) (delK k rl).length (flatR (delK k rl)) := by rw [← hcnt, HIN.out, flatR_app]; rw [flatR_take] at r2; exact r2
          clear hcnt
          have hfin := H.done (dst := .slice (some ⟨g, 0, none⟩) p cap) (.inr rfl) g2 hr2 (delK_ris k HR.out.ris)
          have cq := (H.box.kept g2 (fun e => by have := (H.own bx e.symm).1; have := H.lt.2; omega)).cell
          have fq := (H.box.kept g2 (fun e => by have := (H.own bx e.symm).1; have := H.lt.2; omega)).frozen
          refine wpAnyIn_ready (rs := [17]) (by kernel_rfl) (by simp) (AllReadyIn.cons rfl (fun K hK => ?_) AllReadyIn.nil)
          go_simp
          refine hK _ _ ?_
          clear hK K cq fq
          refine wpAnyIn_done (by kernel_rfl) ?_ _
          gi_wp2
          go_ret
          exact ⟨true, _, rfl, ⟨fun _ => HX.out, fun _ => rfl⟩, hfin.1, hfin.2, rfl⟩
        -- END MID
      · by_cases hcn : cap = p + 1
        · subst hcn
          have g13 : (p : Int) ≤ (p : Int) + 1 := by omega
          gi_wp2
          -- END2
          refine wpIn_region_any hm ?_
          change wpAnyIn _ _ _ _ _ _ _ _ _ (World.drew _)
          generalize hWd : World.drew _ = W9
          have H : RSt W W9 bx base (.slice (some ⟨g, 0, none⟩) rl.length (p + 1)) rl := by rw [← hWd]; exact (H0.out.drewN nd).drewN 1
          clear hWd
          refine wpAnyIn_take (i := 0) (v := ?v37) rfl rfl (by kernel_rfl) (by kernel_rfl) (by kernel_rfl) (fun _ _ _ h => h) ⟨Or.inl ⟨by rfl, ?hy37⟩, fun _ => rfl⟩ ?_
          case hy37 => (intro w; go_simp; try with_reducible rfl)
          go_simp
          refine wpAnyIn_take (i := 1) (v := ?v38) rfl rfl (by kernel_rfl) (by kernel_rfl) (by kernel_rfl) (fun _ _ _ h => h) ⟨Or.inl ⟨by rfl, ?hy38⟩, fun _ => rfl⟩ ?_
          case hy38 => (intro w; go_simp; try with_reducible rfl)
          go_simp
          refine wpAnyIn_take (i := 2) (v := ?v39) rfl rfl (by kernel_rfl) (by kernel_rfl) (by kernel_rfl) (fun _ _ _ h => h) ⟨Or.inl ⟨by rfl, ?hy39⟩, fun _ => rfl⟩ ?_
          case hy39 => (intro w; go_simp; try with_reducible rfl)
          go_simp
          refine wpAnyIn_take (i := 3) (v := ?v40) rfl rfl (by kernel_rfl) (by kernel_rfl) (by kernel_rfl) (fun _ _ _ h => h) ⟨Or.inl ⟨by rfl, ?hy40⟩, fun _ => rfl⟩ ?_
          case hy40 => (intro w; go_simp; try with_reducible rfl)
          go_simp
          refine wpAnyIn_take (i := 5) (v := ?v41) rfl rfl (by kernel_rfl) (by kernel_rfl) (by kernel_rfl) (fun _ _ _ h => h) ⟨Or.inl ⟨by rfl, ?hy41⟩, fun _ => rfl⟩ ?_
          case hy41 => (intro w; go_simp; try with_reducible rfl)
          go_simp
          refine wpAnyIn_take (i := 7) (v := ?v42) rfl rfl (by kernel_rfl) (by kernel_rfl) (by kernel_rfl) (fun _ _ _ h => h) ⟨Or.inl ⟨by rfl, ?hy42⟩, fun _ => rfl⟩ ?_
          case hy42 => (intro w; go_simp; try with_reducible rfl)
          go_simp
          refine wpAnyIn_take (i := 8) (v := ?v43) rfl rfl (by kernel_rfl) (by kernel_rfl) (by kernel_rfl) (fun _ _ _ h => h) ⟨Or.inl ⟨by rfl, ?hy43⟩, fun _ => rfl⟩ ?_
          case hy43 => (intro w; go_simp; try with_reducible rfl)
          go_simp
          refine wpAnyIn_take (i := 9) (v := ?v44) rfl rfl (by kernel_rfl) (by kernel_rfl) (by kernel_rfl) (fun _ _ _ h => h) ⟨Or.inl ⟨by rfl, ?hy44⟩, fun _ => rfl⟩ ?_
          case hy44 => (intro w; go_simp; try with_reducible rfl)
          go_simp
          refine wpAnyIn_take (i := 11) (v := ?v45) rfl rfl (by kernel_rfl) (by kernel_rfl) (by kernel_rfl) (fun _ _ _ h => h) ⟨Or.inl ⟨by rfl, ?hy45⟩, fun _ => rfl⟩ ?_
          case hy45 => (intro w; go_simp; try with_reducible rfl)
          go_simp
          refine wpAnyIn_take (i := 12) (v := ?v46) rfl rfl (by kernel_rfl) (by kernel_rfl) (by kernel_rfl) (fun _ _ _ h => h) ⟨Or.inl ⟨by rfl, ?hy46⟩, fun _ => rfl⟩ ?_
          case hy46 => (intro w; go_simp; try with_reducible rfl)
          go_simp
          refine wpAnyIn_ready (rs := [4, 10]) (by kernel_rfl) (by simp) (AllReadyIn.cons rfl (fun K hK => ?_) (AllReadyIn.cons rfl (fun K hK => ?_) AllReadyIn.nil))
          · have cq := H.box.cell
            go_simp
            refine hK _ _ ?_
            clear hK K cq
            refine wpAnyIn_take (i := 6) (v := ?v47) rfl rfl (by kernel_rfl) (by kernel_rfl) (by kernel_rfl) (fun _ _ _ h => h) ⟨Or.inl ⟨by rfl, ?hy47⟩, fun _ => rfl⟩ ?_
            case hy47 => (intro w; go_simp; try with_reducible rfl)
            go_simp
            refine wpAnyIn_ready (rs := [10]) (by kernel_rfl) (by simp) (AllReadyIn.cons rfl (fun K hK => ?_) AllReadyIn.nil)
            have cq := H.box.cell
            go_simp
            refine hK _ _ ?_
            clear hK K cq
            refine wpAnyIn_take (i := 13) (v := ?v48) rfl rfl (by kernel_rfl) (by kernel_rfl) (by kernel_rfl) (fun _ _ _ h => h) ⟨Or.inl ⟨by rfl, ?hy48⟩, fun _ => rfl⟩ ?_
            case hy48 => (intro w; go_simp; try with_reducible rfl)
            go_simp
            refine wpAnyIn_ready (rs := [14]) (by kernel_rfl) (by simp) (AllReadyIn.cons rfl (fun K hK => ?_) AllReadyIn.nil)
            refine step_appendR (news := []) (m := 0) (g := g) (cap := (p + 1)) (k := p) (xs := (flatR rl).take (p * 2)) (base := base) (size := 2) (by rfl) _ _ 27 (by rfl) Try.underlying27 hi hz1 (by rfl) (row_take2 H.row hp) (srcN_eq (srcN_end _ _) (by rfl)) (by simp) (flatR_one []) (by omega) ?_
            intro W' r2 g2
            refine hK _ _ ?_
            clear hK K
            go_simp
            refine wpAnyIn_take (i := 15) (v := ?v49) rfl rfl (by kernel_rfl) (by kernel_rfl) (by kernel_rfl) (fun _ _ _ h => h) ⟨Or.inl ⟨by rfl, ?hy49⟩, fun _ => rfl⟩ ?_
            case hy49 => (intro w; go_simp; try with_reducible rfl)
            go_simp
            refine wpAnyIn_take (i := 16) (v := ?v50) rfl rfl (by kernel_rfl) (by kernel_rfl) (by kernel_rfl) (fun _ _ _ h => h) ⟨Or.inl ⟨by rfl, ?hy50⟩, fun _ => rfl⟩ ?_
            case hy50 => (intro w; go_simp; try with_reducible rfl)
            go_simp
            have hcnt : p + 0 = (delK k rl).length := by rw [HIN.out]; simp; omega
            have hr2 : W'.ownsRow base 39 2 (.slice (some ⟨g, 0, none⟩) (p + 0) (p + 1)) (delK k rl).length (flatR (delK k rl)) := by rw [← hcnt, HIN.out, flatR_app]; rw [flatR_take] at r2; rw [List.drop_of_length_le (by omega)]; simpa [flatR] using r2
            clear hcnt
            have hfin := H.done (dst := .slice (some ⟨g, 0, none⟩) p (p + 1)) (.inr rfl) g2 hr2 (delK_ris k HR.out.ris)
            have cq := (H.box.kept g2 (fun e => by have := (H.own bx e.symm).1; have := H.lt.2; omega)).cell
            have fq := (H.box.kept g2 (fun e => by have := (H.own bx e.symm).1; have := H.lt.2; omega)).frozen
            refine wpAnyIn_ready (rs := [17]) (by kernel_rfl) (by simp) (AllReadyIn.cons rfl (fun K hK => ?_) AllReadyIn.nil)
            go_simp
            refine hK _ _ ?_
            clear hK K cq fq
            refine wpAnyIn_done (by kernel_rfl) ?_ _
            gi_wp2
            go_ret
            exact ⟨true, _, rfl, ⟨fun _ => HX.out, fun _ => rfl⟩, hfin.1, hfin.2, rfl⟩
          · have cq := H.box.cell
            go_simp
            refine hK _ _ ?_
            clear hK K cq
            refine wpAnyIn_take (i := 13) (v := ?v51) rfl rfl (by kernel_rfl) (by kernel_rfl) (by kernel_rfl) (fun _ _ _ h => h) ⟨Or.inl ⟨by rfl, ?hy51⟩, fun _ => rfl⟩ ?_
            case hy51 => (intro w; go_simp; try with_reducible rfl)
            go_simp
            refine wpAnyIn_ready (rs := [4]) (by kernel_rfl) (by simp) (AllReadyIn.cons rfl (fun K hK => ?_) AllReadyIn.nil)
            have cq := H.box.cell
            go_simp
            refine hK _ _ ?_
            clear hK K cq
            refine wpAnyIn_take (i := 6) (v := ?v52) rfl rfl (by kernel_rfl) (by kernel_rfl) (by kernel_rfl) (fun _ _ _ h => h) ⟨Or.inl ⟨by rfl, ?hy52⟩, fun _ => rfl⟩ ?_
            case hy52 => (intro w; go_simp; try with_reducible rfl)
            go_simp
            refine wpAnyIn_ready (rs := [14]) (by kernel_rfl) (by simp) (AllReadyIn.cons rfl (fun K hK => ?_) AllReadyIn.nil)
            refine step_appendR (news := []) (m := 0) (g := g) (cap := (p + 1)) (k := p) (xs := (flatR rl).take (p * 2)) (base := base) (size := 2) (by rfl) _ _ 27 (by rfl) Try.underlying27 hi hz1 (by rfl) (row_take2 H.row hp) (srcN_eq (srcN_end _ _) (by rfl)) (by simp) (flatR_one []) (by omega) ?_
            intro W' r2 g2
            refine hK _ _ ?_
            clear hK K
            go_simp
            refine wpAnyIn_take (i := 15) (v := ?v53) rfl rfl (by kernel_rfl) (by kernel_rfl) (by kernel_rfl) (fun _ _ _ h => h) ⟨Or.inl ⟨by rfl, ?hy53⟩, fun _ => rfl⟩ ?_
            case hy53 => (intro w; go_simp; try with_reducible rfl)
            go_simp
            refine wpAnyIn_take (i := 16) (v := ?v54) rfl rfl (by kernel_rfl) (by kernel_rfl) (by kernel_rfl) (fun _ _ _ h => h) ⟨Or.inl ⟨by rfl, ?hy54⟩, fun _ => rfl⟩ ?_
            case hy54 => (intro w; go_simp; try with_reducible rfl)
            go_simp
            have hcnt : p + 0 = (delK k rl).length := by rw [HIN.out]; simp; omega
            have hr2 : W'.ownsRow base 39 2 (.slice (some ⟨g, 0, none⟩) (p + 0) (p + 1)) (delK k rl).length (flatR (delK k rl)) := by rw [← hcnt, HIN.out, flatR_app]; rw [flatR_take] at r2; rw [List.drop_of_length_le (by omega)]; simpa [flatR] using r2
            clear hcnt
            have hfin := H.done (dst := .slice (some ⟨g, 0, none⟩) p (p + 1)) (.inr rfl) g2 hr2 (delK_ris k HR.out.ris)
            have cq := (H.box.kept g2 (fun e => by have := (H.own bx e.symm).1; have := H.lt.2; omega)).cell
            have fq := (H.box.kept g2 (fun e => by have := (H.own bx e.symm).1; have := H.lt.2; omega)).frozen
            refine wpAnyIn_ready (rs := [17]) (by kernel_rfl) (by simp) (AllReadyIn.cons rfl (fun K hK => ?_) AllReadyIn.nil)
            go_simp
            refine hK _ _ ?_
            clear hK K cq fq
            refine wpAnyIn_done (by kernel_rfl) ?_ _
            gi_wp2
            go_ret
            exact ⟨true, _, rfl, ⟨fun _ => HX.out, fun _ => rfl⟩, hfin.1, hfin.2, rfl⟩
          -- END END2
        · gi_wp2
          -- END1
          refine wpIn_region_any hm ?_
          change wpAnyIn _ _ _ _ _ _ _ _ _ (World.drew _)
          generalize hWd : World.drew _ = W9
          have H : RSt W W9 bx base (.slice (some ⟨g, 0, none⟩) rl.length cap) rl := by rw [← hWd]; exact (H0.out.drewN nd).drewN 1
          clear hWd
          refine wpAnyIn_take (i := 0) (v := ?v19) rfl rfl (by kernel_rfl) (by kernel_rfl) (by kernel_rfl) (fun _ _ _ h => h) ⟨Or.inl ⟨by rfl, ?hy19⟩, fun _ => rfl⟩ ?_
          case hy19 => (intro w; go_simp; try with_reducible rfl)
          go_simp
          refine wpAnyIn_take (i := 1) (v := ?v20) rfl rfl (by kernel_rfl) (by kernel_rfl) (by kernel_rfl) (fun _ _ _ h => h) ⟨Or.inl ⟨by rfl, ?hy20⟩, fun _ => rfl⟩ ?_
          case hy20 => (intro w; go_simp; try with_reducible rfl)
          go_simp
          refine wpAnyIn_take (i := 2) (v := ?v21) rfl rfl (by kernel_rfl) (by kernel_rfl) (by kernel_rfl) (fun _ _ _ h => h) ⟨Or.inl ⟨by rfl, ?hy21⟩, fun _ => rfl⟩ ?_
          case hy21 => (intro w; go_simp; try with_reducible rfl)
          go_simp
          refine wpAnyIn_take (i := 3) (v := ?v22) rfl rfl (by kernel_rfl) (by kernel_rfl) (by kernel_rfl) (fun _ _ _ h => h) ⟨Or.inl ⟨by rfl, ?hy22⟩, fun _ => rfl⟩ ?_
          case hy22 => (intro w; go_simp; try with_reducible rfl)
          go_simp
          refine wpAnyIn_take (i := 5) (v := ?v23) rfl rfl (by kernel_rfl) (by kernel_rfl) (by kernel_rfl) (fun _ _ _ h => h) ⟨Or.inl ⟨by rfl, ?hy23⟩, fun _ => rfl⟩ ?_
          case hy23 => (intro w; go_simp; try with_reducible rfl)
          go_simp
          refine wpAnyIn_take (i := 7) (v := ?v24) rfl rfl (by kernel_rfl) (by kernel_rfl) (by kernel_rfl) (fun _ _ _ h => h) ⟨Or.inl ⟨by rfl, ?hy24⟩, fun _ => rfl⟩ ?_
          case hy24 => (intro w; go_simp; try with_reducible rfl)
          go_simp
          refine wpAnyIn_take (i := 8) (v := ?v25) rfl rfl (by kernel_rfl) (by kernel_rfl) (by kernel_rfl) (fun _ _ _ h => h) ⟨Or.inl ⟨by rfl, ?hy25⟩, fun _ => rfl⟩ ?_
          case hy25 => (intro w; go_simp; try with_reducible rfl)
          go_simp
          refine wpAnyIn_take (i := 9) (v := ?v26) rfl rfl (by kernel_rfl) (by kernel_rfl) (by kernel_rfl) (fun _ _ _ h => h) ⟨Or.inl ⟨by rfl, ?hy26⟩, fun _ => rfl⟩ ?_
          case hy26 => (intro w; go_simp; try with_reducible rfl)
          go_simp
          refine wpAnyIn_take (i := 11) (v := ?v27) rfl rfl (by kernel_rfl) (by kernel_rfl) (by kernel_rfl) (fun _ _ _ h => h) ⟨Or.inl ⟨by rfl, ?hy27⟩, fun _ => rfl⟩ ?_
          case hy27 => (intro w; go_simp; try with_reducible rfl)
          go_simp
          refine wpAnyIn_take (i := 12) (v := ?v28) rfl rfl (by kernel_rfl) (by kernel_rfl) (by kernel_rfl) (fun _ _ _ h => h) ⟨Or.inl ⟨by rfl, ?hy28⟩, fun _ => rfl⟩ ?_
          case hy28 => (intro w; go_simp; try with_reducible rfl)
          go_simp
          refine wpAnyIn_ready (rs := [4, 10]) (by kernel_rfl) (by simp) (AllReadyIn.cons rfl (fun K hK => ?_) (AllReadyIn.cons rfl (fun K hK => ?_) AllReadyIn.nil))
          · have cq := H.box.cell
            go_simp
            refine hK _ _ ?_
            clear hK K cq
            refine wpAnyIn_take (i := 6) (v := ?v29) rfl rfl (by kernel_rfl) (by kernel_rfl) (by kernel_rfl) (fun _ _ _ h => h) ⟨Or.inl ⟨by rfl, ?hy29⟩, fun _ => rfl⟩ ?_
            case hy29 => (intro w; go_simp; try with_reducible rfl)
            go_simp
            refine wpAnyIn_ready (rs := [10]) (by kernel_rfl) (by simp) (AllReadyIn.cons rfl (fun K hK => ?_) AllReadyIn.nil)
            have cq := H.box.cell
            go_simp
            refine hK _ _ ?_
            clear hK K cq
            refine wpAnyIn_take (i := 13) (v := ?v30) rfl rfl (by kernel_rfl) (by kernel_rfl) (by kernel_rfl) (fun _ _ _ h => h) ⟨Or.inl ⟨by rfl, ?hy30⟩, fun _ => rfl⟩ ?_
            case hy30 => (intro w; go_simp; try with_reducible rfl)
            go_simp
            refine wpAnyIn_ready (rs := [14]) (by kernel_rfl) (by simp) (AllReadyIn.cons rfl (fun K hK => ?_) AllReadyIn.nil)
            refine step_appendR (news := []) (m := 0) (g := g) (cap := cap) (k := p) (xs := (flatR rl).take (p * 2)) (base := base) (size := 2) (by rfl) _ _ 27 (by rfl) Try.underlying27 hi hz1 (by rfl) (row_take2 H.row hp) (srcN_eq (srcN_zero (z := rl.length - (p + 1)) (by omega) _ _) (by rfl)) (by simp) (flatR_one []) (by omega) ?_
            intro W' r2 g2
            refine hK _ _ ?_
            clear hK K
            go_simp
            refine wpAnyIn_take (i := 15) (v := ?v31) rfl rfl (by kernel_rfl) (by kernel_rfl) (by kernel_rfl) (fun _ _ _ h => h) ⟨Or.inl ⟨by rfl, ?hy31⟩, fun _ => rfl⟩ ?_
            case hy31 => (intro w; go_simp; try with_reducible rfl)
            go_simp
            refine wpAnyIn_take (i := 16) (v := ?v32) rfl rfl (by kernel_rfl) (by kernel_rfl) (by kernel_rfl) (fun _ _ _ h => h) ⟨Or.inl ⟨by rfl, ?hy32⟩, fun _ => rfl⟩ ?_
            case hy32 => (intro w; go_simp; try with_reducible rfl)
            go_simp
            have hcnt : p + 0 = (delK k rl).length := by rw [HIN.out]; simp; omega
            have hr2 : W'.ownsRow base 39 2 (.slice (some ⟨g, 0, none⟩) (p + 0) cap) (delK k rl).length (flatR (delK k rl)) := by rw [← hcnt, HIN.out, flatR_app]; rw [flatR_take] at r2; rw [List.drop_of_length_le (by omega)]; simpa [flatR] using r2
            clear hcnt
            have hfin := H.done (dst := .slice (some ⟨g, 0, none⟩) p cap) (.inr rfl) g2 hr2 (delK_ris k HR.out.ris)
            have cq := (H.box.kept g2 (fun e => by have := (H.own bx e.symm).1; have := H.lt.2; omega)).cell
            have fq := (H.box.kept g2 (fun e => by have := (H.own bx e.symm).1; have := H.lt.2; omega)).frozen
            refine wpAnyIn_ready (rs := [17]) (by kernel_rfl) (by simp) (AllReadyIn.cons rfl (fun K hK => ?_) AllReadyIn.nil)
            go_simp
            refine hK _ _ ?_
            clear hK K cq fq
            refine wpAnyIn_done (by kernel_rfl) ?_ _
            gi_wp2
            go_ret
            exact ⟨true, _, rfl, ⟨fun _ => HX.out, fun _ => rfl⟩, hfin.1, hfin.2, rfl⟩
          · have cq := H.box.cell
            go_simp
            refine hK _ _ ?_
            clear hK K cq
            refine wpAnyIn_take (i := 13) (v := ?v33) rfl rfl (by kernel_rfl) (by kernel_rfl) (by kernel_rfl) (fun _ _ _ h => h) ⟨Or.inl ⟨by rfl, ?hy33⟩, fun _ => rfl⟩ ?_
            case hy33 => (intro w; go_simp; try with_reducible rfl)
            go_simp
            refine wpAnyIn_ready (rs := [4]) (by kernel_rfl) (by simp) (AllReadyIn.cons rfl (fun K hK => ?_) AllReadyIn.nil)
            have cq := H.box.cell
            go_simp
            refine hK _ _ ?_
            clear hK K cq
            refine wpAnyIn_take (i := 6) (v := ?v34) rfl rfl (by kernel_rfl) (by kernel_rfl) (by kernel_rfl) (fun _ _ _ h => h) ⟨Or.inl ⟨by rfl, ?hy34⟩, fun _ => rfl⟩ ?_
            case hy34 => (intro w; go_simp; try with_reducible rfl)
            go_simp
            refine wpAnyIn_ready (rs := [14]) (by kernel_rfl) (by simp) (AllReadyIn.cons rfl (fun K hK => ?_) AllReadyIn.nil)
            refine step_appendR (news := []) (m := 0) (g := g) (cap := cap) (k := p) (xs := (flatR rl).take (p * 2)) (base := base) (size := 2) (by rfl) _ _ 27 (by rfl) Try.underlying27 hi hz1 (by rfl) (row_take2 H.row hp) (srcN_eq (srcN_zero (z := rl.length - (p + 1)) (by omega) _ _) (by rfl)) (by simp) (flatR_one []) (by omega) ?_
            intro W' r2 g2
            refine hK _ _ ?_
            clear hK K
            go_simp
            refine wpAnyIn_take (i := 15) (v := ?v35) rfl rfl (by kernel_rfl) (by kernel_rfl) (by kernel_rfl) (fun _ _ _ h => h) ⟨Or.inl ⟨by rfl, ?hy35⟩, fun _ => rfl⟩ ?_
            case hy35 => (intro w; go_simp; try with_reducible rfl)
            go_simp
            refine wpAnyIn_take (i := 16) (v := ?v36) rfl rfl (by kernel_rfl) (by kernel_rfl) (by kernel_rfl) (fun _ _ _ h => h) ⟨Or.inl ⟨by rfl, ?hy36⟩, fun _ => rfl⟩ ?_
            case hy36 => (intro w; go_simp; try with_reducible rfl)
            go_simp
            have hcnt : p + 0 = (delK k rl).length := by rw [HIN.out]; simp; omega
            have hr2 : W'.ownsRow base 39 2 (.slice (some ⟨g, 0, none⟩) (p + 0) cap) (delK k rl).length (flatR (delK k rl)) := by rw [← hcnt, HIN.out, flatR_app]; rw [flatR_take] at r2; rw [List.drop_of_length_le (by omega)]; simpa [flatR] using r2
            clear hcnt
            have hfin := H.done (dst := .slice (some ⟨g, 0, none⟩) p cap) (.inr rfl) g2 hr2 (delK_ris k HR.out.ris)
            have cq := (H.box.kept g2 (fun e => by have := (H.own bx e.symm).1; have := H.lt.2; omega)).cell
            have fq := (H.box.kept g2 (fun e => by have := (H.own bx e.symm).1; have := H.lt.2; omega)).frozen
            refine wpAnyIn_ready (rs := [17]) (by kernel_rfl) (by simp) (AllReadyIn.cons rfl (fun K hK => ?_) AllReadyIn.nil)
            go_simp
            refine hK _ _ ?_
            clear hK K cq fq
            refine wpAnyIn_done (by kernel_rfl) ?_ _
            gi_wp2
            go_ret
            exact ⟨true, _, rfl, ⟨fun _ => HX.out, fun _ => rfl⟩, hfin.1, hfin.2, rfl⟩
          -- END END1
    · subst hnil
      simp at hpl
  | false =>
    obtain ⟨hP1, hP2, hf⟩ := HFF.out
    have hno : ¬ ∃ h : p < rl.length, rl[p].1 = k := fun h => by have := hf.2 h; cases this
    have hIN := delK_at k HR.out.ris hp hP1 hP2
    rw [if_neg hno] at hIN
    have HNO : Hid (¬ ∃ q ∈ rl, q.1 = k) := Lib.hid (by
      rintro ⟨q, hq, e⟩
      obtain ⟨j, hj, rfl⟩ := List.getElem_of_mem hq
      rcases Nat.lt_trichotomy j p with h | h | h
      · have := hP1 j hj h; omega
      · subst h; exact hno ⟨hj, e⟩
      · exact hno ⟨by omega, by have := hP2 (by omega); have := risK_lt (h' := by omega) HR.out.ris h hj; omega⟩)
    have H1 := (RSt.start HR.out hbb).drewN nd
    have HF : Hid (RowsP (W.drewN nd) bx base vo (delK k rl) ∧ FrR W (W.drewN nd) bx base vo) := Lib.hid (by rw [hIN]; exact ⟨HR.out.below (Below.drewsN (Below.refl _ _) nd), H1.fr⟩)
    clear HFF hf hP1 hP2 hno hIN CF H1 hform
    subst hw1
    gi_wp2
    go_ret
    exact ⟨false, _, rfl, ⟨fun h => (by cases h), fun h => absurd h HNO.out⟩, HF.out.1, HF.out.2, rfl⟩
end Go.Proofs.Ytdkplhfbcpobaaa
