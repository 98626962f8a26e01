/- hbllaw2's rows: put. -/
import Derived.Test.YtdkplhfbcpobaaaRPutMath
import Derived.Test.YtdkplhfbcpobaaaRFind
namespace Go.Proofs.Ytdkplhfbcpobaaa
open Go.RowKit
attribute [local go_sem] Oper.semAt_some wide_fn wide_depth

theorem infoR : (Try.prog.info? 39).map (fun i => (i.zero, i.size, i.bytes)) = some (some (.agg #[.int .i64 0, str []]), 2, 24) := by kernel_rfl
set_option maxRecDepth 100000 in
set_option maxHeartbeats 8000000 in
theorem rput_any {W : World} {bx base : Nat} {vo : Value} {rl : List (Int × List UInt8)} (h : RowsP W bx base vo rl) (hbb : bx < base) (k : Int) (v : List UInt8) (hlen : rl.length ≤ 1000000) :
    Calls Try.prog 12 #[.pointer (some ⟨bx, 0, none⟩), .int .i64 k, str v] W fun e W' => ∃ (z : Bool) (vo' : Value), e = .returned (.bool z) ∧ (z = true ↔ ¬ ∃ p ∈ rl, p.1 = k) ∧ RowsP W' bx base vo' (insK k v rl) ∧ FrR W W' bx base vo := by
  have CF := Lib.hid (callsIn_wide (n := 8).2 (find_any h k hlen))
  have HR := Lib.hid h
  have cqW : W.cell? ⟨bx, 0, none⟩ = some vo := by simp [World.cell?, h.box]
  obtain ⟨i0, hi, hz0, hz1, hz2⟩ := info_parts infoR
  have hm : Try.prog.follows .mixedOrders = true := by kernel_rfl
  clear h
  have hform : (∃ g cap, vo = Value.slice (some ⟨g, 0, none⟩) rl.length cap ∧ rl.length ≤ cap) ∨ (vo = Value.slice none 0 0 ∧ rl = []) := by
    rcases HR.out.row.2 with ⟨h1, h0⟩ | ⟨g, cap, _, h1, _, _, h2, _⟩
    · exact Or.inr ⟨h1, List.eq_nil_of_length_eq_zero h0⟩
    · exact Or.inl ⟨g, cap, h1, h2⟩
  rcases hform with ⟨g, cap, rfl, hcap⟩ | ⟨rfl, hnil⟩
  · -- there are rows
    refine (callsIn_wide (n := 9)).1 ?_
    refine callsIn_of_wp Try.func12 rfl trivial ?_ rfl
    simp only [Try.ntmps12, List.size_toArray, List.length_cons, List.length_nil, Nat.reduceAdd, Nat.reduceSub, Array.replicate_succ, Array.replicate_zero, List.push_toArray, List.append_toArray, List.nil_append, List.cons_append]
    gi_wp2_with fail
    refine CF.out.mono ?_
    rintro e w1 ⟨p, f, nd, rfl, hp, hP1, hP2, hf, hw1⟩
    have HFF := Lib.hid (And.intro hP1 (And.intro hP2 hf))
    clear hP1 hP2 hf
    cases f with
    | true =>
      obtain ⟨hP1, hP2, hf⟩ := HFF.out
      obtain ⟨hpl, hpk⟩ := hf.1 rfl
      have hIN := insK_at k v HR.out.ris hp hP1 hP2
      rw [if_pos ⟨hpl, hpk⟩] at hIN
      have H1 := (RSt.start HR.out hbb).drewN nd
      have fq := H1.free (p * 2 + 1)
      have c3 := ((RowsP.cells (W := W) HR.out).2.2 p hpl).2
      have g7 : (0 : Int) ≤ (p : Int) := by omega
      have g9 : (p : Int) < (rl.length : Int) := by omega
      have hfin := H1.set hpl v (by rw [hpk, ← hIN]; exact insK_ris k v HR.out.ris)
      rw [hpk, ← hIN] at hfin
      have HF := Lib.hid hfin
      have HX : Hid (∃ q ∈ rl, q.1 = k) := Lib.hid ⟨rl[p], List.getElem_mem hpl, hpk⟩
      clear hf hP1 hP2 hIN H1 hfin hpk HFF CF
      subst hw1
      gi_wp2
      go_ret
      exact ⟨false, _, rfl, ⟨fun h => (by cases h), fun h => absurd HX.out h⟩, HF.out.1, HF.out.2⟩
    | false =>
      obtain ⟨hP1, hP2, hf⟩ := HFF.out
      have hno : ¬ ∃ h : p < rl.length, rl[p].1 = k := fun h => by have := hf.2 h; cases this
      have hIN := insK_at k v HR.out.ris hp hP1 hP2
      rw [if_neg hno] at hIN
      have HIN := Lib.hid hIN
      have HNO : Hid (¬ ∃ q ∈ rl, q.1 = k) := Lib.hid (by
        rintro ⟨q, hq, e⟩
        obtain ⟨j, hj, rfl⟩ := List.getElem_of_mem hq
        rcases Nat.lt_trichotomy j p with h | h | h
        · have := hP1 j hj h; omega
        · subst h; exact hno ⟨hj, e⟩
        · exact hno ⟨by omega, by have := hP2 (by omega); have := risK_lt (h' := by omega) HR.out.ris h hj; omega⟩)
      have H0 := Lib.hid (RSt.start HR.out hbb)
      clear HFF hf hP1 hP2 hno hIN CF
      · by_cases hpn : p < rl.length
        · have hne : ¬ cap = p := by omega
          have g7 : (0 : Int) ≤ (p : Int) := by omega
          have g8 : (p : Int) ≤ (cap : Int) := by omega
          have g9 : (p : Int) ≤ (rl.length : Int) := by omega
          gi_wp2
          -- MID
          refine wpIn_region_any hm ?_
          change wpAnyIn _ _ _ _ _ _ _ _ _ (World.drew _)
          generalize hWd : World.drew _ = W9
          have H : RSt W W9 bx base (.slice (some ⟨g, 0, none⟩) rl.length cap) rl := by rw [← hWd]; exact (H0.out.drewN nd).drewN 1
          clear hWd
          refine wpAnyIn_take (i := 0) (v := ?v1) rfl rfl (by kernel_rfl) (by kernel_rfl) (by kernel_rfl) (fun _ _ _ h => h) ⟨Or.inl ⟨by rfl, ?hy1⟩, fun _ => rfl⟩ ?_
          case hy1 => (intro w; go_simp; try with_reducible rfl)
          go_simp
          refine wpAnyIn_take (i := 1) (v := ?v2) rfl rfl (by kernel_rfl) (by kernel_rfl) (by kernel_rfl) (fun _ _ _ h => h) ⟨Or.inl ⟨by rfl, ?hy2⟩, fun _ => rfl⟩ ?_
          case hy2 => (intro w; go_simp; try with_reducible rfl)
          go_simp
          refine wpAnyIn_take (i := 2) (v := ?v3) rfl rfl (by kernel_rfl) (by kernel_rfl) (by kernel_rfl) (fun _ _ _ h => h) ⟨Or.inl ⟨by rfl, ?hy3⟩, fun _ => rfl⟩ ?_
          case hy3 => (intro w; go_simp; try with_reducible rfl)
          go_simp
          refine wpAnyIn_take (i := 3) (v := ?v4) rfl rfl (by kernel_rfl) (by kernel_rfl) (by kernel_rfl) (fun _ _ _ h => h) ⟨Or.inl ⟨by rfl, ?hy4⟩, fun _ => rfl⟩ ?_
          case hy4 => (intro w; go_simp; try with_reducible rfl)
          go_simp
          refine wpAnyIn_take (i := 5) (v := ?v5) rfl rfl (by kernel_rfl) (by kernel_rfl) (by kernel_rfl) (fun _ _ _ h => h) ⟨Or.inl ⟨by rfl, ?hy5⟩, fun _ => rfl⟩ ?_
          case hy5 => (intro w; go_simp; try with_reducible rfl)
          go_simp
          refine wpAnyIn_take (i := 7) (v := ?v6) rfl rfl (by kernel_rfl) (by kernel_rfl) (by kernel_rfl) (fun _ _ _ h => h) ⟨Or.inl ⟨by rfl, ?hy6⟩, fun _ => rfl⟩ ?_
          case hy6 => (intro w; go_simp; try with_reducible rfl)
          go_simp
          refine wpAnyIn_take (i := 8) (v := ?v7) rfl rfl (by kernel_rfl) (by kernel_rfl) (by kernel_rfl) (fun _ _ _ h => h) ⟨Or.inl ⟨by rfl, ?hy7⟩, fun _ => rfl⟩ ?_
          case hy7 => (intro w; go_simp; try with_reducible rfl)
          go_simp
          refine wpAnyIn_take (i := 9) (v := ?v8) rfl rfl (by kernel_rfl) (by kernel_rfl) (by kernel_rfl) (fun _ _ _ h => h) ⟨Or.inl ⟨by rfl, ?hy8⟩, fun _ => rfl⟩ ?_
          case hy8 => (intro w; go_simp; try with_reducible rfl)
          go_simp
          refine wpAnyIn_take (i := 11) (v := ?v9) rfl rfl (by kernel_rfl) (by kernel_rfl) (by kernel_rfl) (fun _ _ _ h => h) ⟨Or.inl ⟨by rfl, ?hy9⟩, fun _ => rfl⟩ ?_
          case hy9 => (intro w; go_simp; try with_reducible rfl)
          go_simp
          refine wpAnyIn_take (i := 12) (v := ?v10) rfl rfl (by kernel_rfl) (by kernel_rfl) (by kernel_rfl) (fun _ _ _ h => h) ⟨Or.inl ⟨by rfl, ?hy10⟩, fun _ => rfl⟩ ?_
          case hy10 => (intro w; go_simp; try with_reducible rfl)
          go_simp
          refine wpAnyIn_take (i := 13) (v := ?v11) rfl rfl (by kernel_rfl) (by kernel_rfl) (by kernel_rfl) (fun _ _ _ h => h) ⟨Or.inl ⟨by rfl, ?hy11⟩, fun _ => rfl⟩ ?_
          case hy11 => (intro w; go_simp; try with_reducible rfl)
          go_simp
          refine wpAnyIn_take (i := 15) (v := ?v12) rfl rfl (by kernel_rfl) (by kernel_rfl) (by kernel_rfl) (fun _ _ _ h => h) ⟨Or.inl ⟨by rfl, ?hy12⟩, fun _ => rfl⟩ ?_
          case hy12 => (intro w; go_simp; try with_reducible rfl)
          go_simp
          refine wpAnyIn_ready (rs := [4, 10, 14]) (by kernel_rfl) (by simp) (AllReadyIn.cons rfl (fun K hK => ?_) (AllReadyIn.cons rfl (fun K hK => ?_) (AllReadyIn.cons rfl (fun K hK => ?_) AllReadyIn.nil)))
          · have cq := H.box.cell
            go_simp
            refine hK _ _ ?_
            clear hK K cq
            refine wpAnyIn_take (i := 6) (v := ?v13) rfl rfl (by kernel_rfl) (by kernel_rfl) (by kernel_rfl) (fun _ _ _ h => h) ⟨Or.inl ⟨by rfl, ?hy13⟩, fun _ => rfl⟩ ?_
            case hy13 => (intro w; go_simp; try with_reducible rfl)
            go_simp
            refine wpAnyIn_ready (rs := [10, 14]) (by kernel_rfl) (by simp) (AllReadyIn.cons rfl (fun K hK => ?_) (AllReadyIn.cons rfl (fun K hK => ?_) AllReadyIn.nil))
            · go_simp
              refine hK _ _ ?_
              clear hK K
              obtain ⟨H, TA, hTB⟩ := H.temp k v
              refine wpAnyIn_ready (rs := [14]) (by kernel_rfl) (by simp) (AllReadyIn.cons rfl (fun K hK => ?_) AllReadyIn.nil)
              have cq := H.box.cell
              go_simp
              refine hK _ _ ?_
              clear hK K cq
              refine wpAnyIn_take (i := 16) (v := ?v14) rfl rfl (by kernel_rfl) (by kernel_rfl) (by kernel_rfl) (fun _ _ _ h => h) ⟨Or.inl ⟨by rfl, ?hy14⟩, fun _ => rfl⟩ ?_
              case hy14 => (intro w; go_simp; try with_reducible rfl)
              go_simp
              refine wpAnyIn_ready (rs := [17]) (by kernel_rfl) (by simp) (AllReadyIn.cons rfl (fun K hK => ?_) AllReadyIn.nil)
              refine step_appendN (news := flatR (rl.drop p)) (m := (rl.length - p)) (v := _) (k := 1) (xs := [.int .i64 k, str v]) (base := base) (size := 2) (by rfl) _ _ 27 (by rfl) Try.underlying27 hi hz0 hz1 hz2 (by rfl) (by decide) (by rfl) TA (srcN_eq (H.src hpn) (by rfl)) (by rw [flatR_len, List.length_drop]) (flatR_one _) (bndR _ _ (by omega) (by omega)).1 (bndR _ _ (by omega) (by omega)).2 (Nat.le_trans H.sz H.fr.size) ?_
              intro v1 W' r1 g1
              refine hK _ _ ?_
              clear hK K
              have H := H.grown g1 (fun j e => by cases e; exact hTB)
              clear g1 TA
              go_simp
              refine wpAnyIn_ready (rs := [18]) (by kernel_rfl) (by simp) (AllReadyIn.cons rfl (fun K hK => ?_) AllReadyIn.nil)
              refine step_appendN (news := [.int .i64 k, str v] ++ flatR (rl.drop p)) (m := 1 + (rl.length - p)) (v := _) (k := p) (xs := (flatR rl).take (p * 2)) (base := base) (size := 2) (by rfl) _ _ 27 (by rfl) Try.underlying27 hi hz0 hz1 hz2 (by rfl) (by decide) (by rfl) (row_take2 H.row hp) (srcN_eq (srcN_row r1) (by rfl)) r1.1 (news_one _ _ _) (bndR _ _ (by omega) (by omega)).1 (bndR _ _ (by omega) (by omega)).2 (Nat.le_trans H.sz H.fr.size) ?_
              intro v2 W' r2 g2
              refine hK _ _ ?_
              clear hK K
              go_simp
              refine wpAnyIn_take (i := 19) (v := ?v15) rfl rfl (by kernel_rfl) (by kernel_rfl) (by kernel_rfl) (fun _ _ _ h => h) ⟨Or.inl ⟨by rfl, ?hy15⟩, fun _ => rfl⟩ ?_
              case hy15 => (intro w; go_simp; try with_reducible rfl)
              go_simp
              refine wpAnyIn_take (i := 20) (v := ?v16) rfl rfl (by kernel_rfl) (by kernel_rfl) (by kernel_rfl) (fun _ _ _ h => h) ⟨Or.inl ⟨by rfl, ?hy16⟩, fun _ => rfl⟩ ?_
              case hy16 => (intro w; go_simp; try with_reducible rfl)
              go_simp
              have hcnt : p + (1 + (rl.length - p)) = (insK k v rl).length := by rw [HIN.out]; simp; omega
              have hr2 : W'.ownsRow base 39 2 v2 (insK k v rl).length (flatR (insK k v rl)) := by rw [← hcnt, HIN.out, flatR_app]; rw [flatR_take] at r2; exact r2
              obtain ⟨gn, cn, rfl⟩ := ownsRow_succ (k := rl.length) (show W'.ownsRow base 39 2 v2 (rl.length + 1) (flatR (insK k v rl)) by have e : (insK k v rl).length = rl.length + 1 := (by have := hcnt; first | omega | (simp only [List.length_nil]; omega)); rw [← e]; exact hr2)
              clear hcnt
              have hfin := H.done (dst := .slice (some ⟨g, 0, none⟩) p cap) (.inr rfl) g2 hr2 (insK_ris k v HR.out.ris)
              have cq := (H.box.kept g2 (fun e => by have := (H.own bx e.symm).1; have := H.lt.2; omega)).cell
              have fq := (H.box.kept g2 (fun e => by have := (H.own bx e.symm).1; have := H.lt.2; omega)).frozen
              refine wpAnyIn_ready (rs := [21]) (by kernel_rfl) (by simp) (AllReadyIn.cons rfl (fun K hK => ?_) AllReadyIn.nil)
              go_simp
              refine hK _ _ ?_
              clear hK K cq fq
              refine wpAnyIn_done (by kernel_rfl) ?_ _
              gi_wp2
              go_ret
              exact ⟨true, _, rfl, ⟨fun _ => HNO.out, fun _ => rfl⟩, hfin.1, hfin.2⟩
            · have cq := H.box.cell
              go_simp
              refine hK _ _ ?_
              clear hK K cq
              refine wpAnyIn_take (i := 16) (v := ?v17) rfl rfl (by kernel_rfl) (by kernel_rfl) (by kernel_rfl) (fun _ _ _ h => h) ⟨Or.inl ⟨by rfl, ?hy17⟩, fun _ => rfl⟩ ?_
              case hy17 => (intro w; go_simp; try with_reducible rfl)
              go_simp
              refine wpAnyIn_ready (rs := [10]) (by kernel_rfl) (by simp) (AllReadyIn.cons rfl (fun K hK => ?_) AllReadyIn.nil)
              go_simp
              refine hK _ _ ?_
              clear hK K
              obtain ⟨H, TA, hTB⟩ := H.temp k v
              refine wpAnyIn_ready (rs := [17]) (by kernel_rfl) (by simp) (AllReadyIn.cons rfl (fun K hK => ?_) AllReadyIn.nil)
              refine step_appendN (news := flatR (rl.drop p)) (m := (rl.length - p)) (v := _) (k := 1) (xs := [.int .i64 k, str v]) (base := base) (size := 2) (by rfl) _ _ 27 (by rfl) Try.underlying27 hi hz0 hz1 hz2 (by rfl) (by decide) (by rfl) TA (srcN_eq (H.src hpn) (by rfl)) (by rw [flatR_len, List.length_drop]) (flatR_one _) (bndR _ _ (by omega) (by omega)).1 (bndR _ _ (by omega) (by omega)).2 (Nat.le_trans H.sz H.fr.size) ?_
              intro v1 W' r1 g1
              refine hK _ _ ?_
              clear hK K
              have H := H.grown g1 (fun j e => by cases e; exact hTB)
              clear g1 TA
              go_simp
              refine wpAnyIn_ready (rs := [18]) (by kernel_rfl) (by simp) (AllReadyIn.cons rfl (fun K hK => ?_) AllReadyIn.nil)
              refine step_appendN (news := [.int .i64 k, str v] ++ flatR (rl.drop p)) (m := 1 + (rl.length - p)) (v := _) (k := p) (xs := (flatR rl).take (p * 2)) (base := base) (size := 2) (by rfl) _ _ 27 (by rfl) Try.underlying27 hi hz0 hz1 hz2 (by rfl) (by decide) (by rfl) (row_take2 H.row hp) (srcN_eq (srcN_row r1) (by rfl)) r1.1 (news_one _ _ _) (bndR _ _ (by omega) (by omega)).1 (bndR _ _ (by omega) (by omega)).2 (Nat.le_trans H.sz H.fr.size) ?_
              intro v2 W' r2 g2
              refine hK _ _ ?_
              clear hK K
              go_simp
              refine wpAnyIn_take (i := 19) (v := ?v18) rfl rfl (by kernel_rfl) (by kernel_rfl) (by kernel_rfl) (fun _ _ _ h => h) ⟨Or.inl ⟨by rfl, ?hy18⟩, fun _ => rfl⟩ ?_
              case hy18 => (intro w; go_simp; try with_reducible rfl)
              go_simp
              refine wpAnyIn_take (i := 20) (v := ?v19) rfl rfl (by kernel_rfl) (by kernel_rfl) (by kernel_rfl) (fun _ _ _ h => h) ⟨Or.inl ⟨by rfl, ?hy19⟩, fun _ => rfl⟩ ?_
              case hy19 => (intro w; go_simp; try with_reducible rfl)
              go_simp
              have hcnt : p + (1 + (rl.length - p)) = (insK k v rl).length := by rw [HIN.out]; simp; omega
              have hr2 : W'.ownsRow base 39 2 v2 (insK k v rl).length (flatR (insK k v rl)) := by rw [← hcnt, HIN.out, flatR_app]; rw [flatR_take] at r2; exact r2
              obtain ⟨gn, cn, rfl⟩ := ownsRow_succ (k := rl.length) (show W'.ownsRow base 39 2 v2 (rl.length + 1) (flatR (insK k v rl)) by have e : (insK k v rl).length = rl.length + 1 := (by have := hcnt; first | omega | (simp only [List.length_nil]; omega)); rw [← e]; exact hr2)
              clear hcnt
              have hfin := H.done (dst := .slice (some ⟨g, 0, none⟩) p cap) (.inr rfl) g2 hr2 (insK_ris k v HR.out.ris)
              have cq := (H.box.kept g2 (fun e => by have := (H.own bx e.symm).1; have := H.lt.2; omega)).cell
              have fq := (H.box.kept g2 (fun e => by have := (H.own bx e.symm).1; have := H.lt.2; omega)).frozen
              refine wpAnyIn_ready (rs := [21]) (by kernel_rfl) (by simp) (AllReadyIn.cons rfl (fun K hK => ?_) AllReadyIn.nil)
              go_simp
              refine hK _ _ ?_
              clear hK K cq fq
              refine wpAnyIn_done (by kernel_rfl) ?_ _
              gi_wp2
              go_ret
              exact ⟨true, _, rfl, ⟨fun _ => HNO.out, fun _ => rfl⟩, hfin.1, hfin.2⟩
          · go_simp
            refine hK _ _ ?_
            clear hK K
            obtain ⟨H, TA, hTB⟩ := H.temp k v
            refine wpAnyIn_ready (rs := [4, 14]) (by kernel_rfl) (by simp) (AllReadyIn.cons rfl (fun K hK => ?_) (AllReadyIn.cons rfl (fun K hK => ?_) AllReadyIn.nil))
            · have cq := H.box.cell
              go_simp
              refine hK _ _ ?_
              clear hK K cq
              refine wpAnyIn_take (i := 6) (v := ?v20) rfl rfl (by kernel_rfl) (by kernel_rfl) (by kernel_rfl) (fun _ _ _ h => h) ⟨Or.inl ⟨by rfl, ?hy20⟩, fun _ => rfl⟩ ?_
              case hy20 => (intro w; go_simp; try with_reducible rfl)
              go_simp
              refine wpAnyIn_ready (rs := [14]) (by kernel_rfl) (by simp) (AllReadyIn.cons rfl (fun K hK => ?_) AllReadyIn.nil)
              have cq := H.box.cell
              go_simp
              refine hK _ _ ?_
              clear hK K cq
              refine wpAnyIn_take (i := 16) (v := ?v21) rfl rfl (by kernel_rfl) (by kernel_rfl) (by kernel_rfl) (fun _ _ _ h => h) ⟨Or.inl ⟨by rfl, ?hy21⟩, fun _ => rfl⟩ ?_
              case hy21 => (intro w; go_simp; try with_reducible rfl)
              go_simp
              refine wpAnyIn_ready (rs := [17]) (by kernel_rfl) (by simp) (AllReadyIn.cons rfl (fun K hK => ?_) AllReadyIn.nil)
              refine step_appendN (news := flatR (rl.drop p)) (m := (rl.length - p)) (v := _) (k := 1) (xs := [.int .i64 k, str v]) (base := base) (size := 2) (by rfl) _ _ 27 (by rfl) Try.underlying27 hi hz0 hz1 hz2 (by rfl) (by decide) (by rfl) TA (srcN_eq (H.src hpn) (by rfl)) (by rw [flatR_len, List.length_drop]) (flatR_one _) (bndR _ _ (by omega) (by omega)).1 (bndR _ _ (by omega) (by omega)).2 (Nat.le_trans H.sz H.fr.size) ?_
              intro v1 W' r1 g1
              refine hK _ _ ?_
              clear hK K
              have H := H.grown g1 (fun j e => by cases e; exact hTB)
              clear g1 TA
              go_simp
              refine wpAnyIn_ready (rs := [18]) (by kernel_rfl) (by simp) (AllReadyIn.cons rfl (fun K hK => ?_) AllReadyIn.nil)
              refine step_appendN (news := [.int .i64 k, str v] ++ flatR (rl.drop p)) (m := 1 + (rl.length - p)) (v := _) (k := p) (xs := (flatR rl).take (p * 2)) (base := base) (size := 2) (by rfl) _ _ 27 (by rfl) Try.underlying27 hi hz0 hz1 hz2 (by rfl) (by decide) (by rfl) (row_take2 H.row hp) (srcN_eq (srcN_row r1) (by rfl)) r1.1 (news_one _ _ _) (bndR _ _ (by omega) (by omega)).1 (bndR _ _ (by omega) (by omega)).2 (Nat.le_trans H.sz H.fr.size) ?_
              intro v2 W' r2 g2
              refine hK _ _ ?_
              clear hK K
              go_simp
              refine wpAnyIn_take (i := 19) (v := ?v22) rfl rfl (by kernel_rfl) (by kernel_rfl) (by kernel_rfl) (fun _ _ _ h => h) ⟨Or.inl ⟨by rfl, ?hy22⟩, fun _ => rfl⟩ ?_
              case hy22 => (intro w; go_simp; try with_reducible rfl)
              go_simp
              refine wpAnyIn_take (i := 20) (v := ?v23) rfl rfl (by kernel_rfl) (by kernel_rfl) (by kernel_rfl) (fun _ _ _ h => h) ⟨Or.inl ⟨by rfl, ?hy23⟩, fun _ => rfl⟩ ?_
              case hy23 => (intro w; go_simp; try with_reducible rfl)
              go_simp
              have hcnt : p + (1 + (rl.length - p)) = (insK k v rl).length := by rw [HIN.out]; simp; omega
              have hr2 : W'.ownsRow base 39 2 v2 (insK k v rl).length (flatR (insK k v rl)) := by rw [← hcnt, HIN.out, flatR_app]; rw [flatR_take] at r2; exact r2
              obtain ⟨gn, cn, rfl⟩ := ownsRow_succ (k := rl.length) (show W'.ownsRow base 39 2 v2 (rl.length + 1) (flatR (insK k v rl)) by have e : (insK k v rl).length = rl.length + 1 := (by have := hcnt; first | omega | (simp only [List.length_nil]; omega)); rw [← e]; exact hr2)
              clear hcnt
              have hfin := H.done (dst := .slice (some ⟨g, 0, none⟩) p cap) (.inr rfl) g2 hr2 (insK_ris k v HR.out.ris)
              have cq := (H.box.kept g2 (fun e => by have := (H.own bx e.symm).1; have := H.lt.2; omega)).cell
              have fq := (H.box.kept g2 (fun e => by have := (H.own bx e.symm).1; have := H.lt.2; omega)).frozen
              refine wpAnyIn_ready (rs := [21]) (by kernel_rfl) (by simp) (AllReadyIn.cons rfl (fun K hK => ?_) AllReadyIn.nil)
              go_simp
              refine hK _ _ ?_
              clear hK K cq fq
              refine wpAnyIn_done (by kernel_rfl) ?_ _
              gi_wp2
              go_ret
              exact ⟨true, _, rfl, ⟨fun _ => HNO.out, fun _ => rfl⟩, hfin.1, hfin.2⟩
            · have cq := H.box.cell
              go_simp
              refine hK _ _ ?_
              clear hK K cq
              refine wpAnyIn_take (i := 16) (v := ?v24) rfl rfl (by kernel_rfl) (by kernel_rfl) (by kernel_rfl) (fun _ _ _ h => h) ⟨Or.inl ⟨by rfl, ?hy24⟩, fun _ => rfl⟩ ?_
              case hy24 => (intro w; go_simp; try with_reducible rfl)
              go_simp
              refine wpAnyIn_ready (rs := [4, 17]) (by kernel_rfl) (by simp) (AllReadyIn.cons rfl (fun K hK => ?_) (AllReadyIn.cons rfl (fun K hK => ?_) AllReadyIn.nil))
              · have cq := H.box.cell
                go_simp
                refine hK _ _ ?_
                clear hK K cq
                refine wpAnyIn_take (i := 6) (v := ?v25) rfl rfl (by kernel_rfl) (by kernel_rfl) (by kernel_rfl) (fun _ _ _ h => h) ⟨Or.inl ⟨by rfl, ?hy25⟩, fun _ => rfl⟩ ?_
                case hy25 => (intro w; go_simp; try with_reducible rfl)
                go_simp
                refine wpAnyIn_ready (rs := [17]) (by kernel_rfl) (by simp) (AllReadyIn.cons rfl (fun K hK => ?_) AllReadyIn.nil)
                refine step_appendN (news := flatR (rl.drop p)) (m := (rl.length - p)) (v := _) (k := 1) (xs := [.int .i64 k, str v]) (base := base) (size := 2) (by rfl) _ _ 27 (by rfl) Try.underlying27 hi hz0 hz1 hz2 (by rfl) (by decide) (by rfl) TA (srcN_eq (H.src hpn) (by rfl)) (by rw [flatR_len, List.length_drop]) (flatR_one _) (bndR _ _ (by omega) (by omega)).1 (bndR _ _ (by omega) (by omega)).2 (Nat.le_trans H.sz H.fr.size) ?_
                intro v1 W' r1 g1
                refine hK _ _ ?_
                clear hK K
                have H := H.grown g1 (fun j e => by cases e; exact hTB)
                clear g1 TA
                go_simp
                refine wpAnyIn_ready (rs := [18]) (by kernel_rfl) (by simp) (AllReadyIn.cons rfl (fun K hK => ?_) AllReadyIn.nil)
                refine step_appendN (news := [.int .i64 k, str v] ++ flatR (rl.drop p)) (m := 1 + (rl.length - p)) (v := _) (k := p) (xs := (flatR rl).take (p * 2)) (base := base) (size := 2) (by rfl) _ _ 27 (by rfl) Try.underlying27 hi hz0 hz1 hz2 (by rfl) (by decide) (by rfl) (row_take2 H.row hp) (srcN_eq (srcN_row r1) (by rfl)) r1.1 (news_one _ _ _) (bndR _ _ (by omega) (by omega)).1 (bndR _ _ (by omega) (by omega)).2 (Nat.le_trans H.sz H.fr.size) ?_
                intro v2 W' r2 g2
                refine hK _ _ ?_
                clear hK K
                go_simp
                refine wpAnyIn_take (i := 19) (v := ?v26) rfl rfl (by kernel_rfl) (by kernel_rfl) (by kernel_rfl) (fun _ _ _ h => h) ⟨Or.inl ⟨by rfl, ?hy26⟩, fun _ => rfl⟩ ?_
                case hy26 => (intro w; go_simp; try with_reducible rfl)
                go_simp
                refine wpAnyIn_take (i := 20) (v := ?v27) rfl rfl (by kernel_rfl) (by kernel_rfl) (by kernel_rfl) (fun _ _ _ h => h) ⟨Or.inl ⟨by rfl, ?hy27⟩, fun _ => rfl⟩ ?_
                case hy27 => (intro w; go_simp; try with_reducible rfl)
                go_simp
                have hcnt : p + (1 + (rl.length - p)) = (insK k v rl).length := by rw [HIN.out]; simp; omega
                have hr2 : W'.ownsRow base 39 2 v2 (insK k v rl).length (flatR (insK k v rl)) := by rw [← hcnt, HIN.out, flatR_app]; rw [flatR_take] at r2; exact r2
                obtain ⟨gn, cn, rfl⟩ := ownsRow_succ (k := rl.length) (show W'.ownsRow base 39 2 v2 (rl.length + 1) (flatR (insK k v rl)) by have e : (insK k v rl).length = rl.length + 1 := (by have := hcnt; first | omega | (simp only [List.length_nil]; omega)); rw [← e]; exact hr2)
                clear hcnt
                have hfin := H.done (dst := .slice (some ⟨g, 0, none⟩) p cap) (.inr rfl) g2 hr2 (insK_ris k v HR.out.ris)
                have cq := (H.box.kept g2 (fun e => by have := (H.own bx e.symm).1; have := H.lt.2; omega)).cell
                have fq := (H.box.kept g2 (fun e => by have := (H.own bx e.symm).1; have := H.lt.2; omega)).frozen
                refine wpAnyIn_ready (rs := [21]) (by kernel_rfl) (by simp) (AllReadyIn.cons rfl (fun K hK => ?_) AllReadyIn.nil)
                go_simp
                refine hK _ _ ?_
                clear hK K cq fq
                refine wpAnyIn_done (by kernel_rfl) ?_ _
                gi_wp2
                go_ret
                exact ⟨true, _, rfl, ⟨fun _ => HNO.out, fun _ => rfl⟩, hfin.1, hfin.2⟩
              · refine step_appendN (news := flatR (rl.drop p)) (m := (rl.length - p)) (v := _) (k := 1) (xs := [.int .i64 k, str v]) (base := base) (size := 2) (by rfl) _ _ 27 (by rfl) Try.underlying27 hi hz0 hz1 hz2 (by rfl) (by decide) (by rfl) TA (srcN_eq (H.src hpn) (by rfl)) (by rw [flatR_len, List.length_drop]) (flatR_one _) (bndR _ _ (by omega) (by omega)).1 (bndR _ _ (by omega) (by omega)).2 (Nat.le_trans H.sz H.fr.size) ?_
                intro v1 W' r1 g1
                refine hK _ _ ?_
                clear hK K
                have H := H.grown g1 (fun j e => by cases e; exact hTB)
                clear g1 TA
                go_simp
                refine wpAnyIn_ready (rs := [4]) (by kernel_rfl) (by simp) (AllReadyIn.cons rfl (fun K hK => ?_) AllReadyIn.nil)
                have cq := H.box.cell
                go_simp
                refine hK _ _ ?_
                clear hK K cq
                refine wpAnyIn_take (i := 6) (v := ?v28) rfl rfl (by kernel_rfl) (by kernel_rfl) (by kernel_rfl) (fun _ _ _ h => h) ⟨Or.inl ⟨by rfl, ?hy28⟩, fun _ => rfl⟩ ?_
                case hy28 => (intro w; go_simp; try with_reducible rfl)
                go_simp
                refine wpAnyIn_ready (rs := [18]) (by kernel_rfl) (by simp) (AllReadyIn.cons rfl (fun K hK => ?_) AllReadyIn.nil)
                refine step_appendN (news := [.int .i64 k, str v] ++ flatR (rl.drop p)) (m := 1 + (rl.length - p)) (v := _) (k := p) (xs := (flatR rl).take (p * 2)) (base := base) (size := 2) (by rfl) _ _ 27 (by rfl) Try.underlying27 hi hz0 hz1 hz2 (by rfl) (by decide) (by rfl) (row_take2 H.row hp) (srcN_eq (srcN_row r1) (by rfl)) r1.1 (news_one _ _ _) (bndR _ _ (by omega) (by omega)).1 (bndR _ _ (by omega) (by omega)).2 (Nat.le_trans H.sz H.fr.size) ?_
                intro v2 W' r2 g2
                refine hK _ _ ?_
                clear hK K
                go_simp
                refine wpAnyIn_take (i := 19) (v := ?v29) rfl rfl (by kernel_rfl) (by kernel_rfl) (by kernel_rfl) (fun _ _ _ h => h) ⟨Or.inl ⟨by rfl, ?hy29⟩, fun _ => rfl⟩ ?_
                case hy29 => (intro w; go_simp; try with_reducible rfl)
                go_simp
                refine wpAnyIn_take (i := 20) (v := ?v30) rfl rfl (by kernel_rfl) (by kernel_rfl) (by kernel_rfl) (fun _ _ _ h => h) ⟨Or.inl ⟨by rfl, ?hy30⟩, fun _ => rfl⟩ ?_
                case hy30 => (intro w; go_simp; try with_reducible rfl)
                go_simp
                have hcnt : p + (1 + (rl.length - p)) = (insK k v rl).length := by rw [HIN.out]; simp; omega
                have hr2 : W'.ownsRow base 39 2 v2 (insK k v rl).length (flatR (insK k v rl)) := by rw [← hcnt, HIN.out, flatR_app]; rw [flatR_take] at r2; exact r2
                obtain ⟨gn, cn, rfl⟩ := ownsRow_succ (k := rl.length) (show W'.ownsRow base 39 2 v2 (rl.length + 1) (flatR (insK k v rl)) by have e : (insK k v rl).length = rl.length + 1 := (by have := hcnt; first | omega | (simp only [List.length_nil]; omega)); rw [← e]; exact hr2)
                clear hcnt
                have hfin := H.done (dst := .slice (some ⟨g, 0, none⟩) p cap) (.inr rfl) g2 hr2 (insK_ris k v HR.out.ris)
                have cq := (H.box.kept g2 (fun e => by have := (H.own bx e.symm).1; have := H.lt.2; omega)).cell
                have fq := (H.box.kept g2 (fun e => by have := (H.own bx e.symm).1; have := H.lt.2; omega)).frozen
                refine wpAnyIn_ready (rs := [21]) (by kernel_rfl) (by simp) (AllReadyIn.cons rfl (fun K hK => ?_) AllReadyIn.nil)
                go_simp
                refine hK _ _ ?_
                clear hK K cq fq
                refine wpAnyIn_done (by kernel_rfl) ?_ _
                gi_wp2
                go_ret
                exact ⟨true, _, rfl, ⟨fun _ => HNO.out, fun _ => rfl⟩, hfin.1, hfin.2⟩
          · have cq := H.box.cell
            go_simp
            refine hK _ _ ?_
            clear hK K cq
            refine wpAnyIn_take (i := 16) (v := ?v31) rfl rfl (by kernel_rfl) (by kernel_rfl) (by kernel_rfl) (fun _ _ _ h => h) ⟨Or.inl ⟨by rfl, ?hy31⟩, fun _ => rfl⟩ ?_
            case hy31 => (intro w; go_simp; try with_reducible rfl)
            go_simp
            refine wpAnyIn_ready (rs := [4, 10]) (by kernel_rfl) (by simp) (AllReadyIn.cons rfl (fun K hK => ?_) (AllReadyIn.cons rfl (fun K hK => ?_) AllReadyIn.nil))
            · have cq := H.box.cell
              go_simp
              refine hK _ _ ?_
              clear hK K cq
              refine wpAnyIn_take (i := 6) (v := ?v32) rfl rfl (by kernel_rfl) (by kernel_rfl) (by kernel_rfl) (fun _ _ _ h => h) ⟨Or.inl ⟨by rfl, ?hy32⟩, fun _ => rfl⟩ ?_
              case hy32 => (intro w; go_simp; try with_reducible rfl)
              go_simp
              refine wpAnyIn_ready (rs := [10]) (by kernel_rfl) (by simp) (AllReadyIn.cons rfl (fun K hK => ?_) AllReadyIn.nil)
              go_simp
              refine hK _ _ ?_
              clear hK K
              obtain ⟨H, TA, hTB⟩ := H.temp k v
              refine wpAnyIn_ready (rs := [17]) (by kernel_rfl) (by simp) (AllReadyIn.cons rfl (fun K hK => ?_) AllReadyIn.nil)
              refine step_appendN (news := flatR (rl.drop p)) (m := (rl.length - p)) (v := _) (k := 1) (xs := [.int .i64 k, str v]) (base := base) (size := 2) (by rfl) _ _ 27 (by rfl) Try.underlying27 hi hz0 hz1 hz2 (by rfl) (by decide) (by rfl) TA (srcN_eq (H.src hpn) (by rfl)) (by rw [flatR_len, List.length_drop]) (flatR_one _) (bndR _ _ (by omega) (by omega)).1 (bndR _ _ (by omega) (by omega)).2 (Nat.le_trans H.sz H.fr.size) ?_
              intro v1 W' r1 g1
              refine hK _ _ ?_
              clear hK K
              have H := H.grown g1 (fun j e => by cases e; exact hTB)
              clear g1 TA
              go_simp
              refine wpAnyIn_ready (rs := [18]) (by kernel_rfl) (by simp) (AllReadyIn.cons rfl (fun K hK => ?_) AllReadyIn.nil)
              refine step_appendN (news := [.int .i64 k, str v] ++ flatR (rl.drop p)) (m := 1 + (rl.length - p)) (v := _) (k := p) (xs := (flatR rl).take (p * 2)) (base := base) (size := 2) (by rfl) _ _ 27 (by rfl) Try.underlying27 hi hz0 hz1 hz2 (by rfl) (by decide) (by rfl) (row_take2 H.row hp) (srcN_eq (srcN_row r1) (by rfl)) r1.1 (news_one _ _ _) (bndR _ _ (by omega) (by omega)).1 (bndR _ _ (by omega) (by omega)).2 (Nat.le_trans H.sz H.fr.size) ?_
              intro v2 W' r2 g2
              refine hK _ _ ?_
              clear hK K
              go_simp
              refine wpAnyIn_take (i := 19) (v := ?v33) rfl rfl (by kernel_rfl) (by kernel_rfl) (by kernel_rfl) (fun _ _ _ h => h) ⟨Or.inl ⟨by rfl, ?hy33⟩, fun _ => rfl⟩ ?_
              case hy33 => (intro w; go_simp; try with_reducible rfl)
              go_simp
              refine wpAnyIn_take (i := 20) (v := ?v34) rfl rfl (by kernel_rfl) (by kernel_rfl) (by kernel_rfl) (fun _ _ _ h => h) ⟨Or.inl ⟨by rfl, ?hy34⟩, fun _ => rfl⟩ ?_
              case hy34 => (intro w; go_simp; try with_reducible rfl)
              go_simp
              have hcnt : p + (1 + (rl.length - p)) = (insK k v rl).length := by rw [HIN.out]; simp; omega
              have hr2 : W'.ownsRow base 39 2 v2 (insK k v rl).length (flatR (insK k v rl)) := by rw [← hcnt, HIN.out, flatR_app]; rw [flatR_take] at r2; exact r2
              obtain ⟨gn, cn, rfl⟩ := ownsRow_succ (k := rl.length) (show W'.ownsRow base 39 2 v2 (rl.length + 1) (flatR (insK k v rl)) by have e : (insK k v rl).length = rl.length + 1 := (by have := hcnt; first | omega | (simp only [List.length_nil]; omega)); rw [← e]; exact hr2)
              clear hcnt
              have hfin := H.done (dst := .slice (some ⟨g, 0, none⟩) p cap) (.inr rfl) g2 hr2 (insK_ris k v HR.out.ris)
              have cq := (H.box.kept g2 (fun e => by have := (H.own bx e.symm).1; have := H.lt.2; omega)).cell
              have fq := (H.box.kept g2 (fun e => by have := (H.own bx e.symm).1; have := H.lt.2; omega)).frozen
              refine wpAnyIn_ready (rs := [21]) (by kernel_rfl) (by simp) (AllReadyIn.cons rfl (fun K hK => ?_) AllReadyIn.nil)
              go_simp
              refine hK _ _ ?_
              clear hK K cq fq
              refine wpAnyIn_done (by kernel_rfl) ?_ _
              gi_wp2
              go_ret
              exact ⟨true, _, rfl, ⟨fun _ => HNO.out, fun _ => rfl⟩, hfin.1, hfin.2⟩
            · go_simp
              refine hK _ _ ?_
              clear hK K
              obtain ⟨H, TA, hTB⟩ := H.temp k v
              refine wpAnyIn_ready (rs := [4, 17]) (by kernel_rfl) (by simp) (AllReadyIn.cons rfl (fun K hK => ?_) (AllReadyIn.cons rfl (fun K hK => ?_) AllReadyIn.nil))
              · have cq := H.box.cell
                go_simp
                refine hK _ _ ?_
                clear hK K cq
                refine wpAnyIn_take (i := 6) (v := ?v35) rfl rfl (by kernel_rfl) (by kernel_rfl) (by kernel_rfl) (fun _ _ _ h => h) ⟨Or.inl ⟨by rfl, ?hy35⟩, fun _ => rfl⟩ ?_
                case hy35 => (intro w; go_simp; try with_reducible rfl)
                go_simp
                refine wpAnyIn_ready (rs := [17]) (by kernel_rfl) (by simp) (AllReadyIn.cons rfl (fun K hK => ?_) AllReadyIn.nil)
                refine step_appendN (news := flatR (rl.drop p)) (m := (rl.length - p)) (v := _) (k := 1) (xs := [.int .i64 k, str v]) (base := base) (size := 2) (by rfl) _ _ 27 (by rfl) Try.underlying27 hi hz0 hz1 hz2 (by rfl) (by decide) (by rfl) TA (srcN_eq (H.src hpn) (by rfl)) (by rw [flatR_len, List.length_drop]) (flatR_one _) (bndR _ _ (by omega) (by omega)).1 (bndR _ _ (by omega) (by omega)).2 (Nat.le_trans H.sz H.fr.size) ?_
                intro v1 W' r1 g1
                refine hK _ _ ?_
                clear hK K
                have H := H.grown g1 (fun j e => by cases e; exact hTB)
                clear g1 TA
                go_simp
                refine wpAnyIn_ready (rs := [18]) (by kernel_rfl) (by simp) (AllReadyIn.cons rfl (fun K hK => ?_) AllReadyIn.nil)
                refine step_appendN (news := [.int .i64 k, str v] ++ flatR (rl.drop p)) (m := 1 + (rl.length - p)) (v := _) (k := p) (xs := (flatR rl).take (p * 2)) (base := base) (size := 2) (by rfl) _ _ 27 (by rfl) Try.underlying27 hi hz0 hz1 hz2 (by rfl) (by decide) (by rfl) (row_take2 H.row hp) (srcN_eq (srcN_row r1) (by rfl)) r1.1 (news_one _ _ _) (bndR _ _ (by omega) (by omega)).1 (bndR _ _ (by omega) (by omega)).2 (Nat.le_trans H.sz H.fr.size) ?_
                intro v2 W' r2 g2
                refine hK _ _ ?_
                clear hK K
                go_simp
                refine wpAnyIn_take (i := 19) (v := ?v36) rfl rfl (by kernel_rfl) (by kernel_rfl) (by kernel_rfl) (fun _ _ _ h => h) ⟨Or.inl ⟨by rfl, ?hy36⟩, fun _ => rfl⟩ ?_
                case hy36 => (intro w; go_simp; try with_reducible rfl)
                go_simp
                refine wpAnyIn_take (i := 20) (v := ?v37) rfl rfl (by kernel_rfl) (by kernel_rfl) (by kernel_rfl) (fun _ _ _ h => h) ⟨Or.inl ⟨by rfl, ?hy37⟩, fun _ => rfl⟩ ?_
                case hy37 => (intro w; go_simp; try with_reducible rfl)
                go_simp
                have hcnt : p + (1 + (rl.length - p)) = (insK k v rl).length := by rw [HIN.out]; simp; omega
                have hr2 : W'.ownsRow base 39 2 v2 (insK k v rl).length (flatR (insK k v rl)) := by rw [← hcnt, HIN.out, flatR_app]; rw [flatR_take] at r2; exact r2
                obtain ⟨gn, cn, rfl⟩ := ownsRow_succ (k := rl.length) (show W'.ownsRow base 39 2 v2 (rl.length + 1) (flatR (insK k v rl)) by have e : (insK k v rl).length = rl.length + 1 := (by have := hcnt; first | omega | (simp only [List.length_nil]; omega)); rw [← e]; exact hr2)
                clear hcnt
                have hfin := H.done (dst := .slice (some ⟨g, 0, none⟩) p cap) (.inr rfl) g2 hr2 (insK_ris k v HR.out.ris)
                have cq := (H.box.kept g2 (fun e => by have := (H.own bx e.symm).1; have := H.lt.2; omega)).cell
                have fq := (H.box.kept g2 (fun e => by have := (H.own bx e.symm).1; have := H.lt.2; omega)).frozen
                refine wpAnyIn_ready (rs := [21]) (by kernel_rfl) (by simp) (AllReadyIn.cons rfl (fun K hK => ?_) AllReadyIn.nil)
                go_simp
                refine hK _ _ ?_
                clear hK K cq fq
                refine wpAnyIn_done (by kernel_rfl) ?_ _
                gi_wp2
                go_ret
                exact ⟨true, _, rfl, ⟨fun _ => HNO.out, fun _ => rfl⟩, hfin.1, hfin.2⟩
              · refine step_appendN (news := flatR (rl.drop p)) (m := (rl.length - p)) (v := _) (k := 1) (xs := [.int .i64 k, str v]) (base := base) (size := 2) (by rfl) _ _ 27 (by rfl) Try.underlying27 hi hz0 hz1 hz2 (by rfl) (by decide) (by rfl) TA (srcN_eq (H.src hpn) (by rfl)) (by rw [flatR_len, List.length_drop]) (flatR_one _) (bndR _ _ (by omega) (by omega)).1 (bndR _ _ (by omega) (by omega)).2 (Nat.le_trans H.sz H.fr.size) ?_
                intro v1 W' r1 g1
                refine hK _ _ ?_
                clear hK K
                have H := H.grown g1 (fun j e => by cases e; exact hTB)
                clear g1 TA
                go_simp
                refine wpAnyIn_ready (rs := [4]) (by kernel_rfl) (by simp) (AllReadyIn.cons rfl (fun K hK => ?_) AllReadyIn.nil)
                have cq := H.box.cell
                go_simp
                refine hK _ _ ?_
                clear hK K cq
                refine wpAnyIn_take (i := 6) (v := ?v38) rfl rfl (by kernel_rfl) (by kernel_rfl) (by kernel_rfl) (fun _ _ _ h => h) ⟨Or.inl ⟨by rfl, ?hy38⟩, fun _ => rfl⟩ ?_
                case hy38 => (intro w; go_simp; try with_reducible rfl)
                go_simp
                refine wpAnyIn_ready (rs := [18]) (by kernel_rfl) (by simp) (AllReadyIn.cons rfl (fun K hK => ?_) AllReadyIn.nil)
                refine step_appendN (news := [.int .i64 k, str v] ++ flatR (rl.drop p)) (m := 1 + (rl.length - p)) (v := _) (k := p) (xs := (flatR rl).take (p * 2)) (base := base) (size := 2) (by rfl) _ _ 27 (by rfl) Try.underlying27 hi hz0 hz1 hz2 (by rfl) (by decide) (by rfl) (row_take2 H.row hp) (srcN_eq (srcN_row r1) (by rfl)) r1.1 (news_one _ _ _) (bndR _ _ (by omega) (by omega)).1 (bndR _ _ (by omega) (by omega)).2 (Nat.le_trans H.sz H.fr.size) ?_
                intro v2 W' r2 g2
                refine hK _ _ ?_
                clear hK K
                go_simp
                refine wpAnyIn_take (i := 19) (v := ?v39) rfl rfl (by kernel_rfl) (by kernel_rfl) (by kernel_rfl) (fun _ _ _ h => h) ⟨Or.inl ⟨by rfl, ?hy39⟩, fun _ => rfl⟩ ?_
                case hy39 => (intro w; go_simp; try with_reducible rfl)
                go_simp
                refine wpAnyIn_take (i := 20) (v := ?v40) rfl rfl (by kernel_rfl) (by kernel_rfl) (by kernel_rfl) (fun _ _ _ h => h) ⟨Or.inl ⟨by rfl, ?hy40⟩, fun _ => rfl⟩ ?_
                case hy40 => (intro w; go_simp; try with_reducible rfl)
                go_simp
                have hcnt : p + (1 + (rl.length - p)) = (insK k v rl).length := by rw [HIN.out]; simp; omega
                have hr2 : W'.ownsRow base 39 2 v2 (insK k v rl).length (flatR (insK k v rl)) := by rw [← hcnt, HIN.out, flatR_app]; rw [flatR_take] at r2; exact r2
                obtain ⟨gn, cn, rfl⟩ := ownsRow_succ (k := rl.length) (show W'.ownsRow base 39 2 v2 (rl.length + 1) (flatR (insK k v rl)) by have e : (insK k v rl).length = rl.length + 1 := (by have := hcnt; first | omega | (simp only [List.length_nil]; omega)); rw [← e]; exact hr2)
                clear hcnt
                have hfin := H.done (dst := .slice (some ⟨g, 0, none⟩) p cap) (.inr rfl) g2 hr2 (insK_ris k v HR.out.ris)
                have cq := (H.box.kept g2 (fun e => by have := (H.own bx e.symm).1; have := H.lt.2; omega)).cell
                have fq := (H.box.kept g2 (fun e => by have := (H.own bx e.symm).1; have := H.lt.2; omega)).frozen
                refine wpAnyIn_ready (rs := [21]) (by kernel_rfl) (by simp) (AllReadyIn.cons rfl (fun K hK => ?_) AllReadyIn.nil)
                go_simp
                refine hK _ _ ?_
                clear hK K cq fq
                refine wpAnyIn_done (by kernel_rfl) ?_ _
                gi_wp2
                go_ret
                exact ⟨true, _, rfl, ⟨fun _ => HNO.out, fun _ => rfl⟩, hfin.1, hfin.2⟩
          -- END MID
        · obtain rfl : p = rl.length := by omega
          have g7 : (0 : Int) ≤ (rl.length : Int) := by omega
          by_cases hcn : cap = rl.length
          · subst hcn
            gi_wp2
            -- END2
            refine wpIn_region_any hm ?_
            change wpAnyIn _ _ _ _ _ _ _ _ _ (World.drew _)
            generalize hWd : World.drew _ = W9
            have H : RSt W W9 bx base (.slice (some ⟨g, 0, none⟩) rl.length rl.length) rl := by rw [← hWd]; exact (H0.out.drewN nd).drewN 1
            clear hWd
            refine wpAnyIn_take (i := 0) (v := ?v81) rfl rfl (by kernel_rfl) (by kernel_rfl) (by kernel_rfl) (fun _ _ _ h => h) ⟨Or.inl ⟨by rfl, ?hy81⟩, fun _ => rfl⟩ ?_
            case hy81 => (intro w; go_simp; try with_reducible rfl)
            go_simp
            refine wpAnyIn_take (i := 1) (v := ?v82) rfl rfl (by kernel_rfl) (by kernel_rfl) (by kernel_rfl) (fun _ _ _ h => h) ⟨Or.inl ⟨by rfl, ?hy82⟩, fun _ => rfl⟩ ?_
            case hy82 => (intro w; go_simp; try with_reducible rfl)
            go_simp
            refine wpAnyIn_take (i := 2) (v := ?v83) rfl rfl (by kernel_rfl) (by kernel_rfl) (by kernel_rfl) (fun _ _ _ h => h) ⟨Or.inl ⟨by rfl, ?hy83⟩, fun _ => rfl⟩ ?_
            case hy83 => (intro w; go_simp; try with_reducible rfl)
            go_simp
            refine wpAnyIn_take (i := 3) (v := ?v84) rfl rfl (by kernel_rfl) (by kernel_rfl) (by kernel_rfl) (fun _ _ _ h => h) ⟨Or.inl ⟨by rfl, ?hy84⟩, fun _ => rfl⟩ ?_
            case hy84 => (intro w; go_simp; try with_reducible rfl)
            go_simp
            refine wpAnyIn_take (i := 5) (v := ?v85) rfl rfl (by kernel_rfl) (by kernel_rfl) (by kernel_rfl) (fun _ _ _ h => h) ⟨Or.inl ⟨by rfl, ?hy85⟩, fun _ => rfl⟩ ?_
            case hy85 => (intro w; go_simp; try with_reducible rfl)
            go_simp
            refine wpAnyIn_take (i := 7) (v := ?v86) rfl rfl (by kernel_rfl) (by kernel_rfl) (by kernel_rfl) (fun _ _ _ h => h) ⟨Or.inl ⟨by rfl, ?hy86⟩, fun _ => rfl⟩ ?_
            case hy86 => (intro w; go_simp; try with_reducible rfl)
            go_simp
            refine wpAnyIn_take (i := 8) (v := ?v87) rfl rfl (by kernel_rfl) (by kernel_rfl) (by kernel_rfl) (fun _ _ _ h => h) ⟨Or.inl ⟨by rfl, ?hy87⟩, fun _ => rfl⟩ ?_
            case hy87 => (intro w; go_simp; try with_reducible rfl)
            go_simp
            refine wpAnyIn_take (i := 9) (v := ?v88) rfl rfl (by kernel_rfl) (by kernel_rfl) (by kernel_rfl) (fun _ _ _ h => h) ⟨Or.inl ⟨by rfl, ?hy88⟩, fun _ => rfl⟩ ?_
            case hy88 => (intro w; go_simp; try with_reducible rfl)
            go_simp
            refine wpAnyIn_take (i := 11) (v := ?v89) rfl rfl (by kernel_rfl) (by kernel_rfl) (by kernel_rfl) (fun _ _ _ h => h) ⟨Or.inl ⟨by rfl, ?hy89⟩, fun _ => rfl⟩ ?_
            case hy89 => (intro w; go_simp; try with_reducible rfl)
            go_simp
            refine wpAnyIn_take (i := 12) (v := ?v90) rfl rfl (by kernel_rfl) (by kernel_rfl) (by kernel_rfl) (fun _ _ _ h => h) ⟨Or.inl ⟨by rfl, ?hy90⟩, fun _ => rfl⟩ ?_
            case hy90 => (intro w; go_simp; try with_reducible rfl)
            go_simp
            refine wpAnyIn_take (i := 13) (v := ?v91) rfl rfl (by kernel_rfl) (by kernel_rfl) (by kernel_rfl) (fun _ _ _ h => h) ⟨Or.inl ⟨by rfl, ?hy91⟩, fun _ => rfl⟩ ?_
            case hy91 => (intro w; go_simp; try with_reducible rfl)
            go_simp
            refine wpAnyIn_take (i := 15) (v := ?v92) rfl rfl (by kernel_rfl) (by kernel_rfl) (by kernel_rfl) (fun _ _ _ h => h) ⟨Or.inl ⟨by rfl, ?hy92⟩, fun _ => rfl⟩ ?_
            case hy92 => (intro w; go_simp; try with_reducible rfl)
            go_simp
            refine wpAnyIn_ready (rs := [4, 10, 14]) (by kernel_rfl) (by simp) (AllReadyIn.cons rfl (fun K hK => ?_) (AllReadyIn.cons rfl (fun K hK => ?_) (AllReadyIn.cons rfl (fun K hK => ?_) AllReadyIn.nil)))
            · have cq := H.box.cell
              go_simp
              refine hK _ _ ?_
              clear hK K cq
              refine wpAnyIn_take (i := 6) (v := ?v93) rfl rfl (by kernel_rfl) (by kernel_rfl) (by kernel_rfl) (fun _ _ _ h => h) ⟨Or.inl ⟨by rfl, ?hy93⟩, fun _ => rfl⟩ ?_
              case hy93 => (intro w; go_simp; try with_reducible rfl)
              go_simp
              refine wpAnyIn_ready (rs := [10, 14]) (by kernel_rfl) (by simp) (AllReadyIn.cons rfl (fun K hK => ?_) (AllReadyIn.cons rfl (fun K hK => ?_) AllReadyIn.nil))
              · go_simp
                refine hK _ _ ?_
                clear hK K
                obtain ⟨H, TA, hTB⟩ := H.temp k v
                refine wpAnyIn_ready (rs := [14]) (by kernel_rfl) (by simp) (AllReadyIn.cons rfl (fun K hK => ?_) AllReadyIn.nil)
                have cq := H.box.cell
                go_simp
                refine hK _ _ ?_
                clear hK K cq
                refine wpAnyIn_take (i := 16) (v := ?v94) rfl rfl (by kernel_rfl) (by kernel_rfl) (by kernel_rfl) (fun _ _ _ h => h) ⟨Or.inl ⟨by rfl, ?hy94⟩, fun _ => rfl⟩ ?_
                case hy94 => (intro w; go_simp; try with_reducible rfl)
                go_simp
                refine wpAnyIn_ready (rs := [17]) (by kernel_rfl) (by simp) (AllReadyIn.cons rfl (fun K hK => ?_) AllReadyIn.nil)
                refine step_appendN (news := []) (m := 0) (v := _) (k := 1) (xs := [.int .i64 k, str v]) (base := base) (size := 2) (by rfl) _ _ 27 (by rfl) Try.underlying27 hi hz0 hz1 hz2 (by rfl) (by decide) (by rfl) TA (srcN_eq (srcN_end _ _) (by rfl)) (by simp) (flatR_one []) (bndR _ _ (by omega) (by omega)).1 (bndR _ _ (by omega) (by omega)).2 (Nat.le_trans H.sz H.fr.size) ?_
                intro v1 W' r1 g1
                refine hK _ _ ?_
                clear hK K
                have H := H.grown g1 (fun j e => by cases e; exact hTB)
                clear g1 TA
                go_simp
                refine wpAnyIn_ready (rs := [18]) (by kernel_rfl) (by simp) (AllReadyIn.cons rfl (fun K hK => ?_) AllReadyIn.nil)
                refine step_appendN (news := [.int .i64 k, str v] ++ []) (m := 1 + 0) (v := _) (k := rl.length) (xs := (flatR rl).take (rl.length * 2)) (base := base) (size := 2) (by rfl) _ _ 27 (by rfl) Try.underlying27 hi hz0 hz1 hz2 (by rfl) (by decide) (by rfl) (row_take2 H.row (Nat.le_refl _)) (srcN_eq (srcN_row r1) (by rfl)) r1.1 (news_one _ _ []) (bndR _ _ (by omega) (by omega)).1 (bndR _ _ (by omega) (by omega)).2 (Nat.le_trans H.sz H.fr.size) ?_
                intro v2 W' r2 g2
                refine hK _ _ ?_
                clear hK K
                go_simp
                refine wpAnyIn_take (i := 19) (v := ?v95) rfl rfl (by kernel_rfl) (by kernel_rfl) (by kernel_rfl) (fun _ _ _ h => h) ⟨Or.inl ⟨by rfl, ?hy95⟩, fun _ => rfl⟩ ?_
                case hy95 => (intro w; go_simp; try with_reducible rfl)
                go_simp
                refine wpAnyIn_take (i := 20) (v := ?v96) rfl rfl (by kernel_rfl) (by kernel_rfl) (by kernel_rfl) (fun _ _ _ h => h) ⟨Or.inl ⟨by rfl, ?hy96⟩, fun _ => rfl⟩ ?_
                case hy96 => (intro w; go_simp; try with_reducible rfl)
                go_simp
                have hcnt : rl.length + (1 + 0) = (insK k v rl).length := by rw [HIN.out]; simp
                have hr2 : W'.ownsRow base 39 2 v2 (insK k v rl).length (flatR (insK k v rl)) := by rw [← hcnt, HIN.out, flatR_app]; rw [flatR_take] at r2; simpa [flatR] using r2
                obtain ⟨gn, cn, rfl⟩ := ownsRow_succ (k := rl.length) (show W'.ownsRow base 39 2 v2 (rl.length + 1) (flatR (insK k v rl)) by have e : (insK k v rl).length = rl.length + 1 := (by have := hcnt; first | omega | (simp only [List.length_nil]; omega)); rw [← e]; exact hr2)
                clear hcnt
                have hfin := H.done (dst := .slice (some ⟨g, 0, none⟩) rl.length rl.length) (.inr rfl) g2 hr2 (insK_ris k v HR.out.ris)
                have cq := (H.box.kept g2 (fun e => by have := (H.own bx e.symm).1; have := H.lt.2; omega)).cell
                have fq := (H.box.kept g2 (fun e => by have := (H.own bx e.symm).1; have := H.lt.2; omega)).frozen
                refine wpAnyIn_ready (rs := [21]) (by kernel_rfl) (by simp) (AllReadyIn.cons rfl (fun K hK => ?_) AllReadyIn.nil)
                go_simp
                refine hK _ _ ?_
                clear hK K cq fq
                refine wpAnyIn_done (by kernel_rfl) ?_ _
                gi_wp2
                go_ret
                exact ⟨true, _, rfl, ⟨fun _ => HNO.out, fun _ => rfl⟩, hfin.1, hfin.2⟩
              · have cq := H.box.cell
                go_simp
                refine hK _ _ ?_
                clear hK K cq
                refine wpAnyIn_take (i := 16) (v := ?v97) rfl rfl (by kernel_rfl) (by kernel_rfl) (by kernel_rfl) (fun _ _ _ h => h) ⟨Or.inl ⟨by rfl, ?hy97⟩, fun _ => rfl⟩ ?_
                case hy97 => (intro w; go_simp; try with_reducible rfl)
                go_simp
                refine wpAnyIn_ready (rs := [10]) (by kernel_rfl) (by simp) (AllReadyIn.cons rfl (fun K hK => ?_) AllReadyIn.nil)
                go_simp
                refine hK _ _ ?_
                clear hK K
                obtain ⟨H, TA, hTB⟩ := H.temp k v
                refine wpAnyIn_ready (rs := [17]) (by kernel_rfl) (by simp) (AllReadyIn.cons rfl (fun K hK => ?_) AllReadyIn.nil)
                refine step_appendN (news := []) (m := 0) (v := _) (k := 1) (xs := [.int .i64 k, str v]) (base := base) (size := 2) (by rfl) _ _ 27 (by rfl) Try.underlying27 hi hz0 hz1 hz2 (by rfl) (by decide) (by rfl) TA (srcN_eq (srcN_end _ _) (by rfl)) (by simp) (flatR_one []) (bndR _ _ (by omega) (by omega)).1 (bndR _ _ (by omega) (by omega)).2 (Nat.le_trans H.sz H.fr.size) ?_
                intro v1 W' r1 g1
                refine hK _ _ ?_
                clear hK K
                have H := H.grown g1 (fun j e => by cases e; exact hTB)
                clear g1 TA
                go_simp
                refine wpAnyIn_ready (rs := [18]) (by kernel_rfl) (by simp) (AllReadyIn.cons rfl (fun K hK => ?_) AllReadyIn.nil)
                refine step_appendN (news := [.int .i64 k, str v] ++ []) (m := 1 + 0) (v := _) (k := rl.length) (xs := (flatR rl).take (rl.length * 2)) (base := base) (size := 2) (by rfl) _ _ 27 (by rfl) Try.underlying27 hi hz0 hz1 hz2 (by rfl) (by decide) (by rfl) (row_take2 H.row (Nat.le_refl _)) (srcN_eq (srcN_row r1) (by rfl)) r1.1 (news_one _ _ []) (bndR _ _ (by omega) (by omega)).1 (bndR _ _ (by omega) (by omega)).2 (Nat.le_trans H.sz H.fr.size) ?_
                intro v2 W' r2 g2
                refine hK _ _ ?_
                clear hK K
                go_simp
                refine wpAnyIn_take (i := 19) (v := ?v98) rfl rfl (by kernel_rfl) (by kernel_rfl) (by kernel_rfl) (fun _ _ _ h => h) ⟨Or.inl ⟨by rfl, ?hy98⟩, fun _ => rfl⟩ ?_
                case hy98 => (intro w; go_simp; try with_reducible rfl)
                go_simp
                refine wpAnyIn_take (i := 20) (v := ?v99) rfl rfl (by kernel_rfl) (by kernel_rfl) (by kernel_rfl) (fun _ _ _ h => h) ⟨Or.inl ⟨by rfl, ?hy99⟩, fun _ => rfl⟩ ?_
                case hy99 => (intro w; go_simp; try with_reducible rfl)
                go_simp
                have hcnt : rl.length + (1 + 0) = (insK k v rl).length := by rw [HIN.out]; simp
                have hr2 : W'.ownsRow base 39 2 v2 (insK k v rl).length (flatR (insK k v rl)) := by rw [← hcnt, HIN.out, flatR_app]; rw [flatR_take] at r2; simpa [flatR] using r2
                obtain ⟨gn, cn, rfl⟩ := ownsRow_succ (k := rl.length) (show W'.ownsRow base 39 2 v2 (rl.length + 1) (flatR (insK k v rl)) by have e : (insK k v rl).length = rl.length + 1 := (by have := hcnt; first | omega | (simp only [List.length_nil]; omega)); rw [← e]; exact hr2)
                clear hcnt
                have hfin := H.done (dst := .slice (some ⟨g, 0, none⟩) rl.length rl.length) (.inr rfl) g2 hr2 (insK_ris k v HR.out.ris)
                have cq := (H.box.kept g2 (fun e => by have := (H.own bx e.symm).1; have := H.lt.2; omega)).cell
                have fq := (H.box.kept g2 (fun e => by have := (H.own bx e.symm).1; have := H.lt.2; omega)).frozen
                refine wpAnyIn_ready (rs := [21]) (by kernel_rfl) (by simp) (AllReadyIn.cons rfl (fun K hK => ?_) AllReadyIn.nil)
                go_simp
                refine hK _ _ ?_
                clear hK K cq fq
                refine wpAnyIn_done (by kernel_rfl) ?_ _
                gi_wp2
                go_ret
                exact ⟨true, _, rfl, ⟨fun _ => HNO.out, fun _ => rfl⟩, hfin.1, hfin.2⟩
            · go_simp
              refine hK _ _ ?_
              clear hK K
              obtain ⟨H, TA, hTB⟩ := H.temp k v
              refine wpAnyIn_ready (rs := [4, 14]) (by kernel_rfl) (by simp) (AllReadyIn.cons rfl (fun K hK => ?_) (AllReadyIn.cons rfl (fun K hK => ?_) AllReadyIn.nil))
              · have cq := H.box.cell
                go_simp
                refine hK _ _ ?_
                clear hK K cq
                refine wpAnyIn_take (i := 6) (v := ?v100) rfl rfl (by kernel_rfl) (by kernel_rfl) (by kernel_rfl) (fun _ _ _ h => h) ⟨Or.inl ⟨by rfl, ?hy100⟩, fun _ => rfl⟩ ?_
                case hy100 => (intro w; go_simp; try with_reducible rfl)
                go_simp
                refine wpAnyIn_ready (rs := [14]) (by kernel_rfl) (by simp) (AllReadyIn.cons rfl (fun K hK => ?_) AllReadyIn.nil)
                have cq := H.box.cell
                go_simp
                refine hK _ _ ?_
                clear hK K cq
                refine wpAnyIn_take (i := 16) (v := ?v101) rfl rfl (by kernel_rfl) (by kernel_rfl) (by kernel_rfl) (fun _ _ _ h => h) ⟨Or.inl ⟨by rfl, ?hy101⟩, fun _ => rfl⟩ ?_
                case hy101 => (intro w; go_simp; try with_reducible rfl)
                go_simp
                refine wpAnyIn_ready (rs := [17]) (by kernel_rfl) (by simp) (AllReadyIn.cons rfl (fun K hK => ?_) AllReadyIn.nil)
                refine step_appendN (news := []) (m := 0) (v := _) (k := 1) (xs := [.int .i64 k, str v]) (base := base) (size := 2) (by rfl) _ _ 27 (by rfl) Try.underlying27 hi hz0 hz1 hz2 (by rfl) (by decide) (by rfl) TA (srcN_eq (srcN_end _ _) (by rfl)) (by simp) (flatR_one []) (bndR _ _ (by omega) (by omega)).1 (bndR _ _ (by omega) (by omega)).2 (Nat.le_trans H.sz H.fr.size) ?_
                intro v1 W' r1 g1
                refine hK _ _ ?_
                clear hK K
                have H := H.grown g1 (fun j e => by cases e; exact hTB)
                clear g1 TA
                go_simp
                refine wpAnyIn_ready (rs := [18]) (by kernel_rfl) (by simp) (AllReadyIn.cons rfl (fun K hK => ?_) AllReadyIn.nil)
                refine step_appendN (news := [.int .i64 k, str v] ++ []) (m := 1 + 0) (v := _) (k := rl.length) (xs := (flatR rl).take (rl.length * 2)) (base := base) (size := 2) (by rfl) _ _ 27 (by rfl) Try.underlying27 hi hz0 hz1 hz2 (by rfl) (by decide) (by rfl) (row_take2 H.row (Nat.le_refl _)) (srcN_eq (srcN_row r1) (by rfl)) r1.1 (news_one _ _ []) (bndR _ _ (by omega) (by omega)).1 (bndR _ _ (by omega) (by omega)).2 (Nat.le_trans H.sz H.fr.size) ?_
                intro v2 W' r2 g2
                refine hK _ _ ?_
                clear hK K
                go_simp
                refine wpAnyIn_take (i := 19) (v := ?v102) rfl rfl (by kernel_rfl) (by kernel_rfl) (by kernel_rfl) (fun _ _ _ h => h) ⟨Or.inl ⟨by rfl, ?hy102⟩, fun _ => rfl⟩ ?_
                case hy102 => (intro w; go_simp; try with_reducible rfl)
                go_simp
                refine wpAnyIn_take (i := 20) (v := ?v103) rfl rfl (by kernel_rfl) (by kernel_rfl) (by kernel_rfl) (fun _ _ _ h => h) ⟨Or.inl ⟨by rfl, ?hy103⟩, fun _ => rfl⟩ ?_
                case hy103 => (intro w; go_simp; try with_reducible rfl)
                go_simp
                have hcnt : rl.length + (1 + 0) = (insK k v rl).length := by rw [HIN.out]; simp
                have hr2 : W'.ownsRow base 39 2 v2 (insK k v rl).length (flatR (insK k v rl)) := by rw [← hcnt, HIN.out, flatR_app]; rw [flatR_take] at r2; simpa [flatR] using r2
                obtain ⟨gn, cn, rfl⟩ := ownsRow_succ (k := rl.length) (show W'.ownsRow base 39 2 v2 (rl.length + 1) (flatR (insK k v rl)) by have e : (insK k v rl).length = rl.length + 1 := (by have := hcnt; first | omega | (simp only [List.length_nil]; omega)); rw [← e]; exact hr2)
                clear hcnt
                have hfin := H.done (dst := .slice (some ⟨g, 0, none⟩) rl.length rl.length) (.inr rfl) g2 hr2 (insK_ris k v HR.out.ris)
                have cq := (H.box.kept g2 (fun e => by have := (H.own bx e.symm).1; have := H.lt.2; omega)).cell
                have fq := (H.box.kept g2 (fun e => by have := (H.own bx e.symm).1; have := H.lt.2; omega)).frozen
                refine wpAnyIn_ready (rs := [21]) (by kernel_rfl) (by simp) (AllReadyIn.cons rfl (fun K hK => ?_) AllReadyIn.nil)
                go_simp
                refine hK _ _ ?_
                clear hK K cq fq
                refine wpAnyIn_done (by kernel_rfl) ?_ _
                gi_wp2
                go_ret
                exact ⟨true, _, rfl, ⟨fun _ => HNO.out, fun _ => rfl⟩, hfin.1, hfin.2⟩
              · have cq := H.box.cell
                go_simp
                refine hK _ _ ?_
                clear hK K cq
                refine wpAnyIn_take (i := 16) (v := ?v104) rfl rfl (by kernel_rfl) (by kernel_rfl) (by kernel_rfl) (fun _ _ _ h => h) ⟨Or.inl ⟨by rfl, ?hy104⟩, fun _ => rfl⟩ ?_
                case hy104 => (intro w; go_simp; try with_reducible rfl)
                go_simp
                refine wpAnyIn_ready (rs := [4, 17]) (by kernel_rfl) (by simp) (AllReadyIn.cons rfl (fun K hK => ?_) (AllReadyIn.cons rfl (fun K hK => ?_) AllReadyIn.nil))
                · have cq := H.box.cell
                  go_simp
                  refine hK _ _ ?_
                  clear hK K cq
                  refine wpAnyIn_take (i := 6) (v := ?v105) rfl rfl (by kernel_rfl) (by kernel_rfl) (by kernel_rfl) (fun _ _ _ h => h) ⟨Or.inl ⟨by rfl, ?hy105⟩, fun _ => rfl⟩ ?_
                  case hy105 => (intro w; go_simp; try with_reducible rfl)
                  go_simp
                  refine wpAnyIn_ready (rs := [17]) (by kernel_rfl) (by simp) (AllReadyIn.cons rfl (fun K hK => ?_) AllReadyIn.nil)
                  refine step_appendN (news := []) (m := 0) (v := _) (k := 1) (xs := [.int .i64 k, str v]) (base := base) (size := 2) (by rfl) _ _ 27 (by rfl) Try.underlying27 hi hz0 hz1 hz2 (by rfl) (by decide) (by rfl) TA (srcN_eq (srcN_end _ _) (by rfl)) (by simp) (flatR_one []) (bndR _ _ (by omega) (by omega)).1 (bndR _ _ (by omega) (by omega)).2 (Nat.le_trans H.sz H.fr.size) ?_
                  intro v1 W' r1 g1
                  refine hK _ _ ?_
                  clear hK K
                  have H := H.grown g1 (fun j e => by cases e; exact hTB)
                  clear g1 TA
                  go_simp
                  refine wpAnyIn_ready (rs := [18]) (by kernel_rfl) (by simp) (AllReadyIn.cons rfl (fun K hK => ?_) AllReadyIn.nil)
                  refine step_appendN (news := [.int .i64 k, str v] ++ []) (m := 1 + 0) (v := _) (k := rl.length) (xs := (flatR rl).take (rl.length * 2)) (base := base) (size := 2) (by rfl) _ _ 27 (by rfl) Try.underlying27 hi hz0 hz1 hz2 (by rfl) (by decide) (by rfl) (row_take2 H.row (Nat.le_refl _)) (srcN_eq (srcN_row r1) (by rfl)) r1.1 (news_one _ _ []) (bndR _ _ (by omega) (by omega)).1 (bndR _ _ (by omega) (by omega)).2 (Nat.le_trans H.sz H.fr.size) ?_
                  intro v2 W' r2 g2
                  refine hK _ _ ?_
                  clear hK K
                  go_simp
                  refine wpAnyIn_take (i := 19) (v := ?v106) rfl rfl (by kernel_rfl) (by kernel_rfl) (by kernel_rfl) (fun _ _ _ h => h) ⟨Or.inl ⟨by rfl, ?hy106⟩, fun _ => rfl⟩ ?_
                  case hy106 => (intro w; go_simp; try with_reducible rfl)
                  go_simp
                  refine wpAnyIn_take (i := 20) (v := ?v107) rfl rfl (by kernel_rfl) (by kernel_rfl) (by kernel_rfl) (fun _ _ _ h => h) ⟨Or.inl ⟨by rfl, ?hy107⟩, fun _ => rfl⟩ ?_
                  case hy107 => (intro w; go_simp; try with_reducible rfl)
                  go_simp
                  have hcnt : rl.length + (1 + 0) = (insK k v rl).length := by rw [HIN.out]; simp
                  have hr2 : W'.ownsRow base 39 2 v2 (insK k v rl).length (flatR (insK k v rl)) := by rw [← hcnt, HIN.out, flatR_app]; rw [flatR_take] at r2; simpa [flatR] using r2
                  obtain ⟨gn, cn, rfl⟩ := ownsRow_succ (k := rl.length) (show W'.ownsRow base 39 2 v2 (rl.length + 1) (flatR (insK k v rl)) by have e : (insK k v rl).length = rl.length + 1 := (by have := hcnt; first | omega | (simp only [List.length_nil]; omega)); rw [← e]; exact hr2)
                  clear hcnt
                  have hfin := H.done (dst := .slice (some ⟨g, 0, none⟩) rl.length rl.length) (.inr rfl) g2 hr2 (insK_ris k v HR.out.ris)
                  have cq := (H.box.kept g2 (fun e => by have := (H.own bx e.symm).1; have := H.lt.2; omega)).cell
                  have fq := (H.box.kept g2 (fun e => by have := (H.own bx e.symm).1; have := H.lt.2; omega)).frozen
                  refine wpAnyIn_ready (rs := [21]) (by kernel_rfl) (by simp) (AllReadyIn.cons rfl (fun K hK => ?_) AllReadyIn.nil)
                  go_simp
                  refine hK _ _ ?_
                  clear hK K cq fq
                  refine wpAnyIn_done (by kernel_rfl) ?_ _
                  gi_wp2
                  go_ret
                  exact ⟨true, _, rfl, ⟨fun _ => HNO.out, fun _ => rfl⟩, hfin.1, hfin.2⟩
                · refine step_appendN (news := []) (m := 0) (v := _) (k := 1) (xs := [.int .i64 k, str v]) (base := base) (size := 2) (by rfl) _ _ 27 (by rfl) Try.underlying27 hi hz0 hz1 hz2 (by rfl) (by decide) (by rfl) TA (srcN_eq (srcN_end _ _) (by rfl)) (by simp) (flatR_one []) (bndR _ _ (by omega) (by omega)).1 (bndR _ _ (by omega) (by omega)).2 (Nat.le_trans H.sz H.fr.size) ?_
                  intro v1 W' r1 g1
                  refine hK _ _ ?_
                  clear hK K
                  have H := H.grown g1 (fun j e => by cases e; exact hTB)
                  clear g1 TA
                  go_simp
                  refine wpAnyIn_ready (rs := [4]) (by kernel_rfl) (by simp) (AllReadyIn.cons rfl (fun K hK => ?_) AllReadyIn.nil)
                  have cq := H.box.cell
                  go_simp
                  refine hK _ _ ?_
                  clear hK K cq
                  refine wpAnyIn_take (i := 6) (v := ?v108) rfl rfl (by kernel_rfl) (by kernel_rfl) (by kernel_rfl) (fun _ _ _ h => h) ⟨Or.inl ⟨by rfl, ?hy108⟩, fun _ => rfl⟩ ?_
                  case hy108 => (intro w; go_simp; try with_reducible rfl)
                  go_simp
                  refine wpAnyIn_ready (rs := [18]) (by kernel_rfl) (by simp) (AllReadyIn.cons rfl (fun K hK => ?_) AllReadyIn.nil)
                  refine step_appendN (news := [.int .i64 k, str v] ++ []) (m := 1 + 0) (v := _) (k := rl.length) (xs := (flatR rl).take (rl.length * 2)) (base := base) (size := 2) (by rfl) _ _ 27 (by rfl) Try.underlying27 hi hz0 hz1 hz2 (by rfl) (by decide) (by rfl) (row_take2 H.row (Nat.le_refl _)) (srcN_eq (srcN_row r1) (by rfl)) r1.1 (news_one _ _ []) (bndR _ _ (by omega) (by omega)).1 (bndR _ _ (by omega) (by omega)).2 (Nat.le_trans H.sz H.fr.size) ?_
                  intro v2 W' r2 g2
                  refine hK _ _ ?_
                  clear hK K
                  go_simp
                  refine wpAnyIn_take (i := 19) (v := ?v109) rfl rfl (by kernel_rfl) (by kernel_rfl) (by kernel_rfl) (fun _ _ _ h => h) ⟨Or.inl ⟨by rfl, ?hy109⟩, fun _ => rfl⟩ ?_
                  case hy109 => (intro w; go_simp; try with_reducible rfl)
                  go_simp
                  refine wpAnyIn_take (i := 20) (v := ?v110) rfl rfl (by kernel_rfl) (by kernel_rfl) (by kernel_rfl) (fun _ _ _ h => h) ⟨Or.inl ⟨by rfl, ?hy110⟩, fun _ => rfl⟩ ?_
                  case hy110 => (intro w; go_simp; try with_reducible rfl)
                  go_simp
                  have hcnt : rl.length + (1 + 0) = (insK k v rl).length := by rw [HIN.out]; simp
                  have hr2 : W'.ownsRow base 39 2 v2 (insK k v rl).length (flatR (insK k v rl)) := by rw [← hcnt, HIN.out, flatR_app]; rw [flatR_take] at r2; simpa [flatR] using r2
                  obtain ⟨gn, cn, rfl⟩ := ownsRow_succ (k := rl.length) (show W'.ownsRow base 39 2 v2 (rl.length + 1) (flatR (insK k v rl)) by have e : (insK k v rl).length = rl.length + 1 := (by have := hcnt; first | omega | (simp only [List.length_nil]; omega)); rw [← e]; exact hr2)
                  clear hcnt
                  have hfin := H.done (dst := .slice (some ⟨g, 0, none⟩) rl.length rl.length) (.inr rfl) g2 hr2 (insK_ris k v HR.out.ris)
                  have cq := (H.box.kept g2 (fun e => by have := (H.own bx e.symm).1; have := H.lt.2; omega)).cell
                  have fq := (H.box.kept g2 (fun e => by have := (H.own bx e.symm).1; have := H.lt.2; omega)).frozen
                  refine wpAnyIn_ready (rs := [21]) (by kernel_rfl) (by simp) (AllReadyIn.cons rfl (fun K hK => ?_) AllReadyIn.nil)
                  go_simp
                  refine hK _ _ ?_
                  clear hK K cq fq
                  refine wpAnyIn_done (by kernel_rfl) ?_ _
                  gi_wp2
                  go_ret
                  exact ⟨true, _, rfl, ⟨fun _ => HNO.out, fun _ => rfl⟩, hfin.1, hfin.2⟩
            · have cq := H.box.cell
              go_simp
              refine hK _ _ ?_
              clear hK K cq
              refine wpAnyIn_take (i := 16) (v := ?v111) rfl rfl (by kernel_rfl) (by kernel_rfl) (by kernel_rfl) (fun _ _ _ h => h) ⟨Or.inl ⟨by rfl, ?hy111⟩, fun _ => rfl⟩ ?_
              case hy111 => (intro w; go_simp; try with_reducible rfl)
              go_simp
              refine wpAnyIn_ready (rs := [4, 10]) (by kernel_rfl) (by simp) (AllReadyIn.cons rfl (fun K hK => ?_) (AllReadyIn.cons rfl (fun K hK => ?_) AllReadyIn.nil))
              · have cq := H.box.cell
                go_simp
                refine hK _ _ ?_
                clear hK K cq
                refine wpAnyIn_take (i := 6) (v := ?v112) rfl rfl (by kernel_rfl) (by kernel_rfl) (by kernel_rfl) (fun _ _ _ h => h) ⟨Or.inl ⟨by rfl, ?hy112⟩, fun _ => rfl⟩ ?_
                case hy112 => (intro w; go_simp; try with_reducible rfl)
                go_simp
                refine wpAnyIn_ready (rs := [10]) (by kernel_rfl) (by simp) (AllReadyIn.cons rfl (fun K hK => ?_) AllReadyIn.nil)
                go_simp
                refine hK _ _ ?_
                clear hK K
                obtain ⟨H, TA, hTB⟩ := H.temp k v
                refine wpAnyIn_ready (rs := [17]) (by kernel_rfl) (by simp) (AllReadyIn.cons rfl (fun K hK => ?_) AllReadyIn.nil)
                refine step_appendN (news := []) (m := 0) (v := _) (k := 1) (xs := [.int .i64 k, str v]) (base := base) (size := 2) (by rfl) _ _ 27 (by rfl) Try.underlying27 hi hz0 hz1 hz2 (by rfl) (by decide) (by rfl) TA (srcN_eq (srcN_end _ _) (by rfl)) (by simp) (flatR_one []) (bndR _ _ (by omega) (by omega)).1 (bndR _ _ (by omega) (by omega)).2 (Nat.le_trans H.sz H.fr.size) ?_
                intro v1 W' r1 g1
                refine hK _ _ ?_
                clear hK K
                have H := H.grown g1 (fun j e => by cases e; exact hTB)
                clear g1 TA
                go_simp
                refine wpAnyIn_ready (rs := [18]) (by kernel_rfl) (by simp) (AllReadyIn.cons rfl (fun K hK => ?_) AllReadyIn.nil)
                refine step_appendN (news := [.int .i64 k, str v] ++ []) (m := 1 + 0) (v := _) (k := rl.length) (xs := (flatR rl).take (rl.length * 2)) (base := base) (size := 2) (by rfl) _ _ 27 (by rfl) Try.underlying27 hi hz0 hz1 hz2 (by rfl) (by decide) (by rfl) (row_take2 H.row (Nat.le_refl _)) (srcN_eq (srcN_row r1) (by rfl)) r1.1 (news_one _ _ []) (bndR _ _ (by omega) (by omega)).1 (bndR _ _ (by omega) (by omega)).2 (Nat.le_trans H.sz H.fr.size) ?_
                intro v2 W' r2 g2
                refine hK _ _ ?_
                clear hK K
                go_simp
                refine wpAnyIn_take (i := 19) (v := ?v113) rfl rfl (by kernel_rfl) (by kernel_rfl) (by kernel_rfl) (fun _ _ _ h => h) ⟨Or.inl ⟨by rfl, ?hy113⟩, fun _ => rfl⟩ ?_
                case hy113 => (intro w; go_simp; try with_reducible rfl)
                go_simp
                refine wpAnyIn_take (i := 20) (v := ?v114) rfl rfl (by kernel_rfl) (by kernel_rfl) (by kernel_rfl) (fun _ _ _ h => h) ⟨Or.inl ⟨by rfl, ?hy114⟩, fun _ => rfl⟩ ?_
                case hy114 => (intro w; go_simp; try with_reducible rfl)
                go_simp
                have hcnt : rl.length + (1 + 0) = (insK k v rl).length := by rw [HIN.out]; simp
                have hr2 : W'.ownsRow base 39 2 v2 (insK k v rl).length (flatR (insK k v rl)) := by rw [← hcnt, HIN.out, flatR_app]; rw [flatR_take] at r2; simpa [flatR] using r2
                obtain ⟨gn, cn, rfl⟩ := ownsRow_succ (k := rl.length) (show W'.ownsRow base 39 2 v2 (rl.length + 1) (flatR (insK k v rl)) by have e : (insK k v rl).length = rl.length + 1 := (by have := hcnt; first | omega | (simp only [List.length_nil]; omega)); rw [← e]; exact hr2)
                clear hcnt
                have hfin := H.done (dst := .slice (some ⟨g, 0, none⟩) rl.length rl.length) (.inr rfl) g2 hr2 (insK_ris k v HR.out.ris)
                have cq := (H.box.kept g2 (fun e => by have := (H.own bx e.symm).1; have := H.lt.2; omega)).cell
                have fq := (H.box.kept g2 (fun e => by have := (H.own bx e.symm).1; have := H.lt.2; omega)).frozen
                refine wpAnyIn_ready (rs := [21]) (by kernel_rfl) (by simp) (AllReadyIn.cons rfl (fun K hK => ?_) AllReadyIn.nil)
                go_simp
                refine hK _ _ ?_
                clear hK K cq fq
                refine wpAnyIn_done (by kernel_rfl) ?_ _
                gi_wp2
                go_ret
                exact ⟨true, _, rfl, ⟨fun _ => HNO.out, fun _ => rfl⟩, hfin.1, hfin.2⟩
              · go_simp
                refine hK _ _ ?_
                clear hK K
                obtain ⟨H, TA, hTB⟩ := H.temp k v
                refine wpAnyIn_ready (rs := [4, 17]) (by kernel_rfl) (by simp) (AllReadyIn.cons rfl (fun K hK => ?_) (AllReadyIn.cons rfl (fun K hK => ?_) AllReadyIn.nil))
                · have cq := H.box.cell
                  go_simp
                  refine hK _ _ ?_
                  clear hK K cq
                  refine wpAnyIn_take (i := 6) (v := ?v115) rfl rfl (by kernel_rfl) (by kernel_rfl) (by kernel_rfl) (fun _ _ _ h => h) ⟨Or.inl ⟨by rfl, ?hy115⟩, fun _ => rfl⟩ ?_
                  case hy115 => (intro w; go_simp; try with_reducible rfl)
                  go_simp
                  refine wpAnyIn_ready (rs := [17]) (by kernel_rfl) (by simp) (AllReadyIn.cons rfl (fun K hK => ?_) AllReadyIn.nil)
                  refine step_appendN (news := []) (m := 0) (v := _) (k := 1) (xs := [.int .i64 k, str v]) (base := base) (size := 2) (by rfl) _ _ 27 (by rfl) Try.underlying27 hi hz0 hz1 hz2 (by rfl) (by decide) (by rfl) TA (srcN_eq (srcN_end _ _) (by rfl)) (by simp) (flatR_one []) (bndR _ _ (by omega) (by omega)).1 (bndR _ _ (by omega) (by omega)).2 (Nat.le_trans H.sz H.fr.size) ?_
                  intro v1 W' r1 g1
                  refine hK _ _ ?_
                  clear hK K
                  have H := H.grown g1 (fun j e => by cases e; exact hTB)
                  clear g1 TA
                  go_simp
                  refine wpAnyIn_ready (rs := [18]) (by kernel_rfl) (by simp) (AllReadyIn.cons rfl (fun K hK => ?_) AllReadyIn.nil)
                  refine step_appendN (news := [.int .i64 k, str v] ++ []) (m := 1 + 0) (v := _) (k := rl.length) (xs := (flatR rl).take (rl.length * 2)) (base := base) (size := 2) (by rfl) _ _ 27 (by rfl) Try.underlying27 hi hz0 hz1 hz2 (by rfl) (by decide) (by rfl) (row_take2 H.row (Nat.le_refl _)) (srcN_eq (srcN_row r1) (by rfl)) r1.1 (news_one _ _ []) (bndR _ _ (by omega) (by omega)).1 (bndR _ _ (by omega) (by omega)).2 (Nat.le_trans H.sz H.fr.size) ?_
                  intro v2 W' r2 g2
                  refine hK _ _ ?_
                  clear hK K
                  go_simp
                  refine wpAnyIn_take (i := 19) (v := ?v116) rfl rfl (by kernel_rfl) (by kernel_rfl) (by kernel_rfl) (fun _ _ _ h => h) ⟨Or.inl ⟨by rfl, ?hy116⟩, fun _ => rfl⟩ ?_
                  case hy116 => (intro w; go_simp; try with_reducible rfl)
                  go_simp
                  refine wpAnyIn_take (i := 20) (v := ?v117) rfl rfl (by kernel_rfl) (by kernel_rfl) (by kernel_rfl) (fun _ _ _ h => h) ⟨Or.inl ⟨by rfl, ?hy117⟩, fun _ => rfl⟩ ?_
                  case hy117 => (intro w; go_simp; try with_reducible rfl)
                  go_simp
                  have hcnt : rl.length + (1 + 0) = (insK k v rl).length := by rw [HIN.out]; simp
                  have hr2 : W'.ownsRow base 39 2 v2 (insK k v rl).length (flatR (insK k v rl)) := by rw [← hcnt, HIN.out, flatR_app]; rw [flatR_take] at r2; simpa [flatR] using r2
                  obtain ⟨gn, cn, rfl⟩ := ownsRow_succ (k := rl.length) (show W'.ownsRow base 39 2 v2 (rl.length + 1) (flatR (insK k v rl)) by have e : (insK k v rl).length = rl.length + 1 := (by have := hcnt; first | omega | (simp only [List.length_nil]; omega)); rw [← e]; exact hr2)
                  clear hcnt
                  have hfin := H.done (dst := .slice (some ⟨g, 0, none⟩) rl.length rl.length) (.inr rfl) g2 hr2 (insK_ris k v HR.out.ris)
                  have cq := (H.box.kept g2 (fun e => by have := (H.own bx e.symm).1; have := H.lt.2; omega)).cell
                  have fq := (H.box.kept g2 (fun e => by have := (H.own bx e.symm).1; have := H.lt.2; omega)).frozen
                  refine wpAnyIn_ready (rs := [21]) (by kernel_rfl) (by simp) (AllReadyIn.cons rfl (fun K hK => ?_) AllReadyIn.nil)
                  go_simp
                  refine hK _ _ ?_
                  clear hK K cq fq
                  refine wpAnyIn_done (by kernel_rfl) ?_ _
                  gi_wp2
                  go_ret
                  exact ⟨true, _, rfl, ⟨fun _ => HNO.out, fun _ => rfl⟩, hfin.1, hfin.2⟩
                · refine step_appendN (news := []) (m := 0) (v := _) (k := 1) (xs := [.int .i64 k, str v]) (base := base) (size := 2) (by rfl) _ _ 27 (by rfl) Try.underlying27 hi hz0 hz1 hz2 (by rfl) (by decide) (by rfl) TA (srcN_eq (srcN_end _ _) (by rfl)) (by simp) (flatR_one []) (bndR _ _ (by omega) (by omega)).1 (bndR _ _ (by omega) (by omega)).2 (Nat.le_trans H.sz H.fr.size) ?_
                  intro v1 W' r1 g1
                  refine hK _ _ ?_
                  clear hK K
                  have H := H.grown g1 (fun j e => by cases e; exact hTB)
                  clear g1 TA
                  go_simp
                  refine wpAnyIn_ready (rs := [4]) (by kernel_rfl) (by simp) (AllReadyIn.cons rfl (fun K hK => ?_) AllReadyIn.nil)
                  have cq := H.box.cell
                  go_simp
                  refine hK _ _ ?_
                  clear hK K cq
                  refine wpAnyIn_take (i := 6) (v := ?v118) rfl rfl (by kernel_rfl) (by kernel_rfl) (by kernel_rfl) (fun _ _ _ h => h) ⟨Or.inl ⟨by rfl, ?hy118⟩, fun _ => rfl⟩ ?_
                  case hy118 => (intro w; go_simp; try with_reducible rfl)
                  go_simp
                  refine wpAnyIn_ready (rs := [18]) (by kernel_rfl) (by simp) (AllReadyIn.cons rfl (fun K hK => ?_) AllReadyIn.nil)
                  refine step_appendN (news := [.int .i64 k, str v] ++ []) (m := 1 + 0) (v := _) (k := rl.length) (xs := (flatR rl).take (rl.length * 2)) (base := base) (size := 2) (by rfl) _ _ 27 (by rfl) Try.underlying27 hi hz0 hz1 hz2 (by rfl) (by decide) (by rfl) (row_take2 H.row (Nat.le_refl _)) (srcN_eq (srcN_row r1) (by rfl)) r1.1 (news_one _ _ []) (bndR _ _ (by omega) (by omega)).1 (bndR _ _ (by omega) (by omega)).2 (Nat.le_trans H.sz H.fr.size) ?_
                  intro v2 W' r2 g2
                  refine hK _ _ ?_
                  clear hK K
                  go_simp
                  refine wpAnyIn_take (i := 19) (v := ?v119) rfl rfl (by kernel_rfl) (by kernel_rfl) (by kernel_rfl) (fun _ _ _ h => h) ⟨Or.inl ⟨by rfl, ?hy119⟩, fun _ => rfl⟩ ?_
                  case hy119 => (intro w; go_simp; try with_reducible rfl)
                  go_simp
                  refine wpAnyIn_take (i := 20) (v := ?v120) rfl rfl (by kernel_rfl) (by kernel_rfl) (by kernel_rfl) (fun _ _ _ h => h) ⟨Or.inl ⟨by rfl, ?hy120⟩, fun _ => rfl⟩ ?_
                  case hy120 => (intro w; go_simp; try with_reducible rfl)
                  go_simp
                  have hcnt : rl.length + (1 + 0) = (insK k v rl).length := by rw [HIN.out]; simp
                  have hr2 : W'.ownsRow base 39 2 v2 (insK k v rl).length (flatR (insK k v rl)) := by rw [← hcnt, HIN.out, flatR_app]; rw [flatR_take] at r2; simpa [flatR] using r2
                  obtain ⟨gn, cn, rfl⟩ := ownsRow_succ (k := rl.length) (show W'.ownsRow base 39 2 v2 (rl.length + 1) (flatR (insK k v rl)) by have e : (insK k v rl).length = rl.length + 1 := (by have := hcnt; first | omega | (simp only [List.length_nil]; omega)); rw [← e]; exact hr2)
                  clear hcnt
                  have hfin := H.done (dst := .slice (some ⟨g, 0, none⟩) rl.length rl.length) (.inr rfl) g2 hr2 (insK_ris k v HR.out.ris)
                  have cq := (H.box.kept g2 (fun e => by have := (H.own bx e.symm).1; have := H.lt.2; omega)).cell
                  have fq := (H.box.kept g2 (fun e => by have := (H.own bx e.symm).1; have := H.lt.2; omega)).frozen
                  refine wpAnyIn_ready (rs := [21]) (by kernel_rfl) (by simp) (AllReadyIn.cons rfl (fun K hK => ?_) AllReadyIn.nil)
                  go_simp
                  refine hK _ _ ?_
                  clear hK K cq fq
                  refine wpAnyIn_done (by kernel_rfl) ?_ _
                  gi_wp2
                  go_ret
                  exact ⟨true, _, rfl, ⟨fun _ => HNO.out, fun _ => rfl⟩, hfin.1, hfin.2⟩
            -- END END2
          · have g8 : (rl.length : Int) ≤ (cap : Int) := by omega
            gi_wp2
            -- END1
            refine wpIn_region_any hm ?_
            change wpAnyIn _ _ _ _ _ _ _ _ _ (World.drew _)
            generalize hWd : World.drew _ = W9
            have H : RSt W W9 bx base (.slice (some ⟨g, 0, none⟩) rl.length cap) rl := by rw [← hWd]; exact (H0.out.drewN nd).drewN 1
            clear hWd
            refine wpAnyIn_take (i := 0) (v := ?v41) rfl rfl (by kernel_rfl) (by kernel_rfl) (by kernel_rfl) (fun _ _ _ h => h) ⟨Or.inl ⟨by rfl, ?hy41⟩, fun _ => rfl⟩ ?_
            case hy41 => (intro w; go_simp; try with_reducible rfl)
            go_simp
            refine wpAnyIn_take (i := 1) (v := ?v42) rfl rfl (by kernel_rfl) (by kernel_rfl) (by kernel_rfl) (fun _ _ _ h => h) ⟨Or.inl ⟨by rfl, ?hy42⟩, fun _ => rfl⟩ ?_
            case hy42 => (intro w; go_simp; try with_reducible rfl)
            go_simp
            refine wpAnyIn_take (i := 2) (v := ?v43) rfl rfl (by kernel_rfl) (by kernel_rfl) (by kernel_rfl) (fun _ _ _ h => h) ⟨Or.inl ⟨by rfl, ?hy43⟩, fun _ => rfl⟩ ?_
            case hy43 => (intro w; go_simp; try with_reducible rfl)
            go_simp
            refine wpAnyIn_take (i := 3) (v := ?v44) rfl rfl (by kernel_rfl) (by kernel_rfl) (by kernel_rfl) (fun _ _ _ h => h) ⟨Or.inl ⟨by rfl, ?hy44⟩, fun _ => rfl⟩ ?_
            case hy44 => (intro w; go_simp; try with_reducible rfl)
            go_simp
            refine wpAnyIn_take (i := 5) (v := ?v45) rfl rfl (by kernel_rfl) (by kernel_rfl) (by kernel_rfl) (fun _ _ _ h => h) ⟨Or.inl ⟨by rfl, ?hy45⟩, fun _ => rfl⟩ ?_
            case hy45 => (intro w; go_simp; try with_reducible rfl)
            go_simp
            refine wpAnyIn_take (i := 7) (v := ?v46) rfl rfl (by kernel_rfl) (by kernel_rfl) (by kernel_rfl) (fun _ _ _ h => h) ⟨Or.inl ⟨by rfl, ?hy46⟩, fun _ => rfl⟩ ?_
            case hy46 => (intro w; go_simp; try with_reducible rfl)
            go_simp
            refine wpAnyIn_take (i := 8) (v := ?v47) rfl rfl (by kernel_rfl) (by kernel_rfl) (by kernel_rfl) (fun _ _ _ h => h) ⟨Or.inl ⟨by rfl, ?hy47⟩, fun _ => rfl⟩ ?_
            case hy47 => (intro w; go_simp; try with_reducible rfl)
            go_simp
            refine wpAnyIn_take (i := 9) (v := ?v48) rfl rfl (by kernel_rfl) (by kernel_rfl) (by kernel_rfl) (fun _ _ _ h => h) ⟨Or.inl ⟨by rfl, ?hy48⟩, fun _ => rfl⟩ ?_
            case hy48 => (intro w; go_simp; try with_reducible rfl)
            go_simp
            refine wpAnyIn_take (i := 11) (v := ?v49) rfl rfl (by kernel_rfl) (by kernel_rfl) (by kernel_rfl) (fun _ _ _ h => h) ⟨Or.inl ⟨by rfl, ?hy49⟩, fun _ => rfl⟩ ?_
            case hy49 => (intro w; go_simp; try with_reducible rfl)
            go_simp
            refine wpAnyIn_take (i := 12) (v := ?v50) rfl rfl (by kernel_rfl) (by kernel_rfl) (by kernel_rfl) (fun _ _ _ h => h) ⟨Or.inl ⟨by rfl, ?hy50⟩, fun _ => rfl⟩ ?_
            case hy50 => (intro w; go_simp; try with_reducible rfl)
            go_simp
            refine wpAnyIn_take (i := 13) (v := ?v51) rfl rfl (by kernel_rfl) (by kernel_rfl) (by kernel_rfl) (fun _ _ _ h => h) ⟨Or.inl ⟨by rfl, ?hy51⟩, fun _ => rfl⟩ ?_
            case hy51 => (intro w; go_simp; try with_reducible rfl)
            go_simp
            refine wpAnyIn_take (i := 15) (v := ?v52) rfl rfl (by kernel_rfl) (by kernel_rfl) (by kernel_rfl) (fun _ _ _ h => h) ⟨Or.inl ⟨by rfl, ?hy52⟩, fun _ => rfl⟩ ?_
            case hy52 => (intro w; go_simp; try with_reducible rfl)
            go_simp
            refine wpAnyIn_ready (rs := [4, 10, 14]) (by kernel_rfl) (by simp) (AllReadyIn.cons rfl (fun K hK => ?_) (AllReadyIn.cons rfl (fun K hK => ?_) (AllReadyIn.cons rfl (fun K hK => ?_) AllReadyIn.nil)))
            · have cq := H.box.cell
              go_simp
              refine hK _ _ ?_
              clear hK K cq
              refine wpAnyIn_take (i := 6) (v := ?v53) rfl rfl (by kernel_rfl) (by kernel_rfl) (by kernel_rfl) (fun _ _ _ h => h) ⟨Or.inl ⟨by rfl, ?hy53⟩, fun _ => rfl⟩ ?_
              case hy53 => (intro w; go_simp; try with_reducible rfl)
              go_simp
              refine wpAnyIn_ready (rs := [10, 14]) (by kernel_rfl) (by simp) (AllReadyIn.cons rfl (fun K hK => ?_) (AllReadyIn.cons rfl (fun K hK => ?_) AllReadyIn.nil))
              · go_simp
                refine hK _ _ ?_
                clear hK K
                obtain ⟨H, TA, hTB⟩ := H.temp k v
                refine wpAnyIn_ready (rs := [14]) (by kernel_rfl) (by simp) (AllReadyIn.cons rfl (fun K hK => ?_) AllReadyIn.nil)
                have cq := H.box.cell
                go_simp
                refine hK _ _ ?_
                clear hK K cq
                refine wpAnyIn_take (i := 16) (v := ?v54) rfl rfl (by kernel_rfl) (by kernel_rfl) (by kernel_rfl) (fun _ _ _ h => h) ⟨Or.inl ⟨by rfl, ?hy54⟩, fun _ => rfl⟩ ?_
                case hy54 => (intro w; go_simp; try with_reducible rfl)
                go_simp
                refine wpAnyIn_ready (rs := [17]) (by kernel_rfl) (by simp) (AllReadyIn.cons rfl (fun K hK => ?_) AllReadyIn.nil)
                refine step_appendN (news := []) (m := 0) (v := _) (k := 1) (xs := [.int .i64 k, str v]) (base := base) (size := 2) (by rfl) _ _ 27 (by rfl) Try.underlying27 hi hz0 hz1 hz2 (by rfl) (by decide) (by rfl) TA (srcN_eq (srcN_end _ _) (by rfl)) (by simp) (flatR_one []) (bndR _ _ (by omega) (by omega)).1 (bndR _ _ (by omega) (by omega)).2 (Nat.le_trans H.sz H.fr.size) ?_
                intro v1 W' r1 g1
                refine hK _ _ ?_
                clear hK K
                have H := H.grown g1 (fun j e => by cases e; exact hTB)
                clear g1 TA
                go_simp
                refine wpAnyIn_ready (rs := [18]) (by kernel_rfl) (by simp) (AllReadyIn.cons rfl (fun K hK => ?_) AllReadyIn.nil)
                refine step_appendN (news := [.int .i64 k, str v] ++ []) (m := 1 + 0) (v := _) (k := rl.length) (xs := (flatR rl).take (rl.length * 2)) (base := base) (size := 2) (by rfl) _ _ 27 (by rfl) Try.underlying27 hi hz0 hz1 hz2 (by rfl) (by decide) (by rfl) (row_take2 H.row (Nat.le_refl _)) (srcN_eq (srcN_row r1) (by rfl)) r1.1 (news_one _ _ []) (bndR _ _ (by omega) (by omega)).1 (bndR _ _ (by omega) (by omega)).2 (Nat.le_trans H.sz H.fr.size) ?_
                intro v2 W' r2 g2
                refine hK _ _ ?_
                clear hK K
                go_simp
                refine wpAnyIn_take (i := 19) (v := ?v55) rfl rfl (by kernel_rfl) (by kernel_rfl) (by kernel_rfl) (fun _ _ _ h => h) ⟨Or.inl ⟨by rfl, ?hy55⟩, fun _ => rfl⟩ ?_
                case hy55 => (intro w; go_simp; try with_reducible rfl)
                go_simp
                refine wpAnyIn_take (i := 20) (v := ?v56) rfl rfl (by kernel_rfl) (by kernel_rfl) (by kernel_rfl) (fun _ _ _ h => h) ⟨Or.inl ⟨by rfl, ?hy56⟩, fun _ => rfl⟩ ?_
                case hy56 => (intro w; go_simp; try with_reducible rfl)
                go_simp
                have hcnt : rl.length + (1 + 0) = (insK k v rl).length := by rw [HIN.out]; simp
                have hr2 : W'.ownsRow base 39 2 v2 (insK k v rl).length (flatR (insK k v rl)) := by rw [← hcnt, HIN.out, flatR_app]; rw [flatR_take] at r2; simpa [flatR] using r2
                obtain ⟨gn, cn, rfl⟩ := ownsRow_succ (k := rl.length) (show W'.ownsRow base 39 2 v2 (rl.length + 1) (flatR (insK k v rl)) by have e : (insK k v rl).length = rl.length + 1 := (by have := hcnt; first | omega | (simp only [List.length_nil]; omega)); rw [← e]; exact hr2)
                clear hcnt
                have hfin := H.done (dst := .slice (some ⟨g, 0, none⟩) rl.length cap) (.inr rfl) g2 hr2 (insK_ris k v HR.out.ris)
                have cq := (H.box.kept g2 (fun e => by have := (H.own bx e.symm).1; have := H.lt.2; omega)).cell
                have fq := (H.box.kept g2 (fun e => by have := (H.own bx e.symm).1; have := H.lt.2; omega)).frozen
                refine wpAnyIn_ready (rs := [21]) (by kernel_rfl) (by simp) (AllReadyIn.cons rfl (fun K hK => ?_) AllReadyIn.nil)
                go_simp
                refine hK _ _ ?_
                clear hK K cq fq
                refine wpAnyIn_done (by kernel_rfl) ?_ _
                gi_wp2
                go_ret
                exact ⟨true, _, rfl, ⟨fun _ => HNO.out, fun _ => rfl⟩, hfin.1, hfin.2⟩
              · have cq := H.box.cell
                go_simp
                refine hK _ _ ?_
                clear hK K cq
                refine wpAnyIn_take (i := 16) (v := ?v57) rfl rfl (by kernel_rfl) (by kernel_rfl) (by kernel_rfl) (fun _ _ _ h => h) ⟨Or.inl ⟨by rfl, ?hy57⟩, fun _ => rfl⟩ ?_
                case hy57 => (intro w; go_simp; try with_reducible rfl)
                go_simp
                refine wpAnyIn_ready (rs := [10]) (by kernel_rfl) (by simp) (AllReadyIn.cons rfl (fun K hK => ?_) AllReadyIn.nil)
                go_simp
                refine hK _ _ ?_
                clear hK K
                obtain ⟨H, TA, hTB⟩ := H.temp k v
                refine wpAnyIn_ready (rs := [17]) (by kernel_rfl) (by simp) (AllReadyIn.cons rfl (fun K hK => ?_) AllReadyIn.nil)
                refine step_appendN (news := []) (m := 0) (v := _) (k := 1) (xs := [.int .i64 k, str v]) (base := base) (size := 2) (by rfl) _ _ 27 (by rfl) Try.underlying27 hi hz0 hz1 hz2 (by rfl) (by decide) (by rfl) TA (srcN_eq (srcN_end _ _) (by rfl)) (by simp) (flatR_one []) (bndR _ _ (by omega) (by omega)).1 (bndR _ _ (by omega) (by omega)).2 (Nat.le_trans H.sz H.fr.size) ?_
                intro v1 W' r1 g1
                refine hK _ _ ?_
                clear hK K
                have H := H.grown g1 (fun j e => by cases e; exact hTB)
                clear g1 TA
                go_simp
                refine wpAnyIn_ready (rs := [18]) (by kernel_rfl) (by simp) (AllReadyIn.cons rfl (fun K hK => ?_) AllReadyIn.nil)
                refine step_appendN (news := [.int .i64 k, str v] ++ []) (m := 1 + 0) (v := _) (k := rl.length) (xs := (flatR rl).take (rl.length * 2)) (base := base) (size := 2) (by rfl) _ _ 27 (by rfl) Try.underlying27 hi hz0 hz1 hz2 (by rfl) (by decide) (by rfl) (row_take2 H.row (Nat.le_refl _)) (srcN_eq (srcN_row r1) (by rfl)) r1.1 (news_one _ _ []) (bndR _ _ (by omega) (by omega)).1 (bndR _ _ (by omega) (by omega)).2 (Nat.le_trans H.sz H.fr.size) ?_
                intro v2 W' r2 g2
                refine hK _ _ ?_
                clear hK K
                go_simp
                refine wpAnyIn_take (i := 19) (v := ?v58) rfl rfl (by kernel_rfl) (by kernel_rfl) (by kernel_rfl) (fun _ _ _ h => h) ⟨Or.inl ⟨by rfl, ?hy58⟩, fun _ => rfl⟩ ?_
                case hy58 => (intro w; go_simp; try with_reducible rfl)
                go_simp
                refine wpAnyIn_take (i := 20) (v := ?v59) rfl rfl (by kernel_rfl) (by kernel_rfl) (by kernel_rfl) (fun _ _ _ h => h) ⟨Or.inl ⟨by rfl, ?hy59⟩, fun _ => rfl⟩ ?_
                case hy59 => (intro w; go_simp; try with_reducible rfl)
                go_simp
                have hcnt : rl.length + (1 + 0) = (insK k v rl).length := by rw [HIN.out]; simp
                have hr2 : W'.ownsRow base 39 2 v2 (insK k v rl).length (flatR (insK k v rl)) := by rw [← hcnt, HIN.out, flatR_app]; rw [flatR_take] at r2; simpa [flatR] using r2
                obtain ⟨gn, cn, rfl⟩ := ownsRow_succ (k := rl.length) (show W'.ownsRow base 39 2 v2 (rl.length + 1) (flatR (insK k v rl)) by have e : (insK k v rl).length = rl.length + 1 := (by have := hcnt; first | omega | (simp only [List.length_nil]; omega)); rw [← e]; exact hr2)
                clear hcnt
                have hfin := H.done (dst := .slice (some ⟨g, 0, none⟩) rl.length cap) (.inr rfl) g2 hr2 (insK_ris k v HR.out.ris)
                have cq := (H.box.kept g2 (fun e => by have := (H.own bx e.symm).1; have := H.lt.2; omega)).cell
                have fq := (H.box.kept g2 (fun e => by have := (H.own bx e.symm).1; have := H.lt.2; omega)).frozen
                refine wpAnyIn_ready (rs := [21]) (by kernel_rfl) (by simp) (AllReadyIn.cons rfl (fun K hK => ?_) AllReadyIn.nil)
                go_simp
                refine hK _ _ ?_
                clear hK K cq fq
                refine wpAnyIn_done (by kernel_rfl) ?_ _
                gi_wp2
                go_ret
                exact ⟨true, _, rfl, ⟨fun _ => HNO.out, fun _ => rfl⟩, hfin.1, hfin.2⟩
            · go_simp
              refine hK _ _ ?_
              clear hK K
              obtain ⟨H, TA, hTB⟩ := H.temp k v
              refine wpAnyIn_ready (rs := [4, 14]) (by kernel_rfl) (by simp) (AllReadyIn.cons rfl (fun K hK => ?_) (AllReadyIn.cons rfl (fun K hK => ?_) AllReadyIn.nil))
              · have cq := H.box.cell
                go_simp
                refine hK _ _ ?_
                clear hK K cq
                refine wpAnyIn_take (i := 6) (v := ?v60) rfl rfl (by kernel_rfl) (by kernel_rfl) (by kernel_rfl) (fun _ _ _ h => h) ⟨Or.inl ⟨by rfl, ?hy60⟩, fun _ => rfl⟩ ?_
                case hy60 => (intro w; go_simp; try with_reducible rfl)
                go_simp
                refine wpAnyIn_ready (rs := [14]) (by kernel_rfl) (by simp) (AllReadyIn.cons rfl (fun K hK => ?_) AllReadyIn.nil)
                have cq := H.box.cell
                go_simp
                refine hK _ _ ?_
                clear hK K cq
                refine wpAnyIn_take (i := 16) (v := ?v61) rfl rfl (by kernel_rfl) (by kernel_rfl) (by kernel_rfl) (fun _ _ _ h => h) ⟨Or.inl ⟨by rfl, ?hy61⟩, fun _ => rfl⟩ ?_
                case hy61 => (intro w; go_simp; try with_reducible rfl)
                go_simp
                refine wpAnyIn_ready (rs := [17]) (by kernel_rfl) (by simp) (AllReadyIn.cons rfl (fun K hK => ?_) AllReadyIn.nil)
                refine step_appendN (news := []) (m := 0) (v := _) (k := 1) (xs := [.int .i64 k, str v]) (base := base) (size := 2) (by rfl) _ _ 27 (by rfl) Try.underlying27 hi hz0 hz1 hz2 (by rfl) (by decide) (by rfl) TA (srcN_eq (srcN_end _ _) (by rfl)) (by simp) (flatR_one []) (bndR _ _ (by omega) (by omega)).1 (bndR _ _ (by omega) (by omega)).2 (Nat.le_trans H.sz H.fr.size) ?_
                intro v1 W' r1 g1
                refine hK _ _ ?_
                clear hK K
                have H := H.grown g1 (fun j e => by cases e; exact hTB)
                clear g1 TA
                go_simp
                refine wpAnyIn_ready (rs := [18]) (by kernel_rfl) (by simp) (AllReadyIn.cons rfl (fun K hK => ?_) AllReadyIn.nil)
                refine step_appendN (news := [.int .i64 k, str v] ++ []) (m := 1 + 0) (v := _) (k := rl.length) (xs := (flatR rl).take (rl.length * 2)) (base := base) (size := 2) (by rfl) _ _ 27 (by rfl) Try.underlying27 hi hz0 hz1 hz2 (by rfl) (by decide) (by rfl) (row_take2 H.row (Nat.le_refl _)) (srcN_eq (srcN_row r1) (by rfl)) r1.1 (news_one _ _ []) (bndR _ _ (by omega) (by omega)).1 (bndR _ _ (by omega) (by omega)).2 (Nat.le_trans H.sz H.fr.size) ?_
                intro v2 W' r2 g2
                refine hK _ _ ?_
                clear hK K
                go_simp
                refine wpAnyIn_take (i := 19) (v := ?v62) rfl rfl (by kernel_rfl) (by kernel_rfl) (by kernel_rfl) (fun _ _ _ h => h) ⟨Or.inl ⟨by rfl, ?hy62⟩, fun _ => rfl⟩ ?_
                case hy62 => (intro w; go_simp; try with_reducible rfl)
                go_simp
                refine wpAnyIn_take (i := 20) (v := ?v63) rfl rfl (by kernel_rfl) (by kernel_rfl) (by kernel_rfl) (fun _ _ _ h => h) ⟨Or.inl ⟨by rfl, ?hy63⟩, fun _ => rfl⟩ ?_
                case hy63 => (intro w; go_simp; try with_reducible rfl)
                go_simp
                have hcnt : rl.length + (1 + 0) = (insK k v rl).length := by rw [HIN.out]; simp
                have hr2 : W'.ownsRow base 39 2 v2 (insK k v rl).length (flatR (insK k v rl)) := by rw [← hcnt, HIN.out, flatR_app]; rw [flatR_take] at r2; simpa [flatR] using r2
                obtain ⟨gn, cn, rfl⟩ := ownsRow_succ (k := rl.length) (show W'.ownsRow base 39 2 v2 (rl.length + 1) (flatR (insK k v rl)) by have e : (insK k v rl).length = rl.length + 1 := (by have := hcnt; first | omega | (simp only [List.length_nil]; omega)); rw [← e]; exact hr2)
                clear hcnt
                have hfin := H.done (dst := .slice (some ⟨g, 0, none⟩) rl.length cap) (.inr rfl) g2 hr2 (insK_ris k v HR.out.ris)
                have cq := (H.box.kept g2 (fun e => by have := (H.own bx e.symm).1; have := H.lt.2; omega)).cell
                have fq := (H.box.kept g2 (fun e => by have := (H.own bx e.symm).1; have := H.lt.2; omega)).frozen
                refine wpAnyIn_ready (rs := [21]) (by kernel_rfl) (by simp) (AllReadyIn.cons rfl (fun K hK => ?_) AllReadyIn.nil)
                go_simp
                refine hK _ _ ?_
                clear hK K cq fq
                refine wpAnyIn_done (by kernel_rfl) ?_ _
                gi_wp2
                go_ret
                exact ⟨true, _, rfl, ⟨fun _ => HNO.out, fun _ => rfl⟩, hfin.1, hfin.2⟩
              · have cq := H.box.cell
                go_simp
                refine hK _ _ ?_
                clear hK K cq
                refine wpAnyIn_take (i := 16) (v := ?v64) rfl rfl (by kernel_rfl) (by kernel_rfl) (by kernel_rfl) (fun _ _ _ h => h) ⟨Or.inl ⟨by rfl, ?hy64⟩, fun _ => rfl⟩ ?_
                case hy64 => (intro w; go_simp; try with_reducible rfl)
                go_simp
                refine wpAnyIn_ready (rs := [4, 17]) (by kernel_rfl) (by simp) (AllReadyIn.cons rfl (fun K hK => ?_) (AllReadyIn.cons rfl (fun K hK => ?_) AllReadyIn.nil))
                · have cq := H.box.cell
                  go_simp
                  refine hK _ _ ?_
                  clear hK K cq
                  refine wpAnyIn_take (i := 6) (v := ?v65) rfl rfl (by kernel_rfl) (by kernel_rfl) (by kernel_rfl) (fun _ _ _ h => h) ⟨Or.inl ⟨by rfl, ?hy65⟩, fun _ => rfl⟩ ?_
                  case hy65 => (intro w; go_simp; try with_reducible rfl)
                  go_simp
                  refine wpAnyIn_ready (rs := [17]) (by kernel_rfl) (by simp) (AllReadyIn.cons rfl (fun K hK => ?_) AllReadyIn.nil)
                  refine step_appendN (news := []) (m := 0) (v := _) (k := 1) (xs := [.int .i64 k, str v]) (base := base) (size := 2) (by rfl) _ _ 27 (by rfl) Try.underlying27 hi hz0 hz1 hz2 (by rfl) (by decide) (by rfl) TA (srcN_eq (srcN_end _ _) (by rfl)) (by simp) (flatR_one []) (bndR _ _ (by omega) (by omega)).1 (bndR _ _ (by omega) (by omega)).2 (Nat.le_trans H.sz H.fr.size) ?_
                  intro v1 W' r1 g1
                  refine hK _ _ ?_
                  clear hK K
                  have H := H.grown g1 (fun j e => by cases e; exact hTB)
                  clear g1 TA
                  go_simp
                  refine wpAnyIn_ready (rs := [18]) (by kernel_rfl) (by simp) (AllReadyIn.cons rfl (fun K hK => ?_) AllReadyIn.nil)
                  refine step_appendN (news := [.int .i64 k, str v] ++ []) (m := 1 + 0) (v := _) (k := rl.length) (xs := (flatR rl).take (rl.length * 2)) (base := base) (size := 2) (by rfl) _ _ 27 (by rfl) Try.underlying27 hi hz0 hz1 hz2 (by rfl) (by decide) (by rfl) (row_take2 H.row (Nat.le_refl _)) (srcN_eq (srcN_row r1) (by rfl)) r1.1 (news_one _ _ []) (bndR _ _ (by omega) (by omega)).1 (bndR _ _ (by omega) (by omega)).2 (Nat.le_trans H.sz H.fr.size) ?_
                  intro v2 W' r2 g2
                  refine hK _ _ ?_
                  clear hK K
                  go_simp
                  refine wpAnyIn_take (i := 19) (v := ?v66) rfl rfl (by kernel_rfl) (by kernel_rfl) (by kernel_rfl) (fun _ _ _ h => h) ⟨Or.inl ⟨by rfl, ?hy66⟩, fun _ => rfl⟩ ?_
                  case hy66 => (intro w; go_simp; try with_reducible rfl)
                  go_simp
                  refine wpAnyIn_take (i := 20) (v := ?v67) rfl rfl (by kernel_rfl) (by kernel_rfl) (by kernel_rfl) (fun _ _ _ h => h) ⟨Or.inl ⟨by rfl, ?hy67⟩, fun _ => rfl⟩ ?_
                  case hy67 => (intro w; go_simp; try with_reducible rfl)
                  go_simp
                  have hcnt : rl.length + (1 + 0) = (insK k v rl).length := by rw [HIN.out]; simp
                  have hr2 : W'.ownsRow base 39 2 v2 (insK k v rl).length (flatR (insK k v rl)) := by rw [← hcnt, HIN.out, flatR_app]; rw [flatR_take] at r2; simpa [flatR] using r2
                  obtain ⟨gn, cn, rfl⟩ := ownsRow_succ (k := rl.length) (show W'.ownsRow base 39 2 v2 (rl.length + 1) (flatR (insK k v rl)) by have e : (insK k v rl).length = rl.length + 1 := (by have := hcnt; first | omega | (simp only [List.length_nil]; omega)); rw [← e]; exact hr2)
                  clear hcnt
                  have hfin := H.done (dst := .slice (some ⟨g, 0, none⟩) rl.length cap) (.inr rfl) g2 hr2 (insK_ris k v HR.out.ris)
                  have cq := (H.box.kept g2 (fun e => by have := (H.own bx e.symm).1; have := H.lt.2; omega)).cell
                  have fq := (H.box.kept g2 (fun e => by have := (H.own bx e.symm).1; have := H.lt.2; omega)).frozen
                  refine wpAnyIn_ready (rs := [21]) (by kernel_rfl) (by simp) (AllReadyIn.cons rfl (fun K hK => ?_) AllReadyIn.nil)
                  go_simp
                  refine hK _ _ ?_
                  clear hK K cq fq
                  refine wpAnyIn_done (by kernel_rfl) ?_ _
                  gi_wp2
                  go_ret
                  exact ⟨true, _, rfl, ⟨fun _ => HNO.out, fun _ => rfl⟩, hfin.1, hfin.2⟩
                · refine step_appendN (news := []) (m := 0) (v := _) (k := 1) (xs := [.int .i64 k, str v]) (base := base) (size := 2) (by rfl) _ _ 27 (by rfl) Try.underlying27 hi hz0 hz1 hz2 (by rfl) (by decide) (by rfl) TA (srcN_eq (srcN_end _ _) (by rfl)) (by simp) (flatR_one []) (bndR _ _ (by omega) (by omega)).1 (bndR _ _ (by omega) (by omega)).2 (Nat.le_trans H.sz H.fr.size) ?_
                  intro v1 W' r1 g1
                  refine hK _ _ ?_
                  clear hK K
                  have H := H.grown g1 (fun j e => by cases e; exact hTB)
                  clear g1 TA
                  go_simp
                  refine wpAnyIn_ready (rs := [4]) (by kernel_rfl) (by simp) (AllReadyIn.cons rfl (fun K hK => ?_) AllReadyIn.nil)
                  have cq := H.box.cell
                  go_simp
                  refine hK _ _ ?_
                  clear hK K cq
                  refine wpAnyIn_take (i := 6) (v := ?v68) rfl rfl (by kernel_rfl) (by kernel_rfl) (by kernel_rfl) (fun _ _ _ h => h) ⟨Or.inl ⟨by rfl, ?hy68⟩, fun _ => rfl⟩ ?_
                  case hy68 => (intro w; go_simp; try with_reducible rfl)
                  go_simp
                  refine wpAnyIn_ready (rs := [18]) (by kernel_rfl) (by simp) (AllReadyIn.cons rfl (fun K hK => ?_) AllReadyIn.nil)
                  refine step_appendN (news := [.int .i64 k, str v] ++ []) (m := 1 + 0) (v := _) (k := rl.length) (xs := (flatR rl).take (rl.length * 2)) (base := base) (size := 2) (by rfl) _ _ 27 (by rfl) Try.underlying27 hi hz0 hz1 hz2 (by rfl) (by decide) (by rfl) (row_take2 H.row (Nat.le_refl _)) (srcN_eq (srcN_row r1) (by rfl)) r1.1 (news_one _ _ []) (bndR _ _ (by omega) (by omega)).1 (bndR _ _ (by omega) (by omega)).2 (Nat.le_trans H.sz H.fr.size) ?_
                  intro v2 W' r2 g2
                  refine hK _ _ ?_
                  clear hK K
                  go_simp
                  refine wpAnyIn_take (i := 19) (v := ?v69) rfl rfl (by kernel_rfl) (by kernel_rfl) (by kernel_rfl) (fun _ _ _ h => h) ⟨Or.inl ⟨by rfl, ?hy69⟩, fun _ => rfl⟩ ?_
                  case hy69 => (intro w; go_simp; try with_reducible rfl)
                  go_simp
                  refine wpAnyIn_take (i := 20) (v := ?v70) rfl rfl (by kernel_rfl) (by kernel_rfl) (by kernel_rfl) (fun _ _ _ h => h) ⟨Or.inl ⟨by rfl, ?hy70⟩, fun _ => rfl⟩ ?_
                  case hy70 => (intro w; go_simp; try with_reducible rfl)
                  go_simp
                  have hcnt : rl.length + (1 + 0) = (insK k v rl).length := by rw [HIN.out]; simp
                  have hr2 : W'.ownsRow base 39 2 v2 (insK k v rl).length (flatR (insK k v rl)) := by rw [← hcnt, HIN.out, flatR_app]; rw [flatR_take] at r2; simpa [flatR] using r2
                  obtain ⟨gn, cn, rfl⟩ := ownsRow_succ (k := rl.length) (show W'.ownsRow base 39 2 v2 (rl.length + 1) (flatR (insK k v rl)) by have e : (insK k v rl).length = rl.length + 1 := (by have := hcnt; first | omega | (simp only [List.length_nil]; omega)); rw [← e]; exact hr2)
                  clear hcnt
                  have hfin := H.done (dst := .slice (some ⟨g, 0, none⟩) rl.length cap) (.inr rfl) g2 hr2 (insK_ris k v HR.out.ris)
                  have cq := (H.box.kept g2 (fun e => by have := (H.own bx e.symm).1; have := H.lt.2; omega)).cell
                  have fq := (H.box.kept g2 (fun e => by have := (H.own bx e.symm).1; have := H.lt.2; omega)).frozen
                  refine wpAnyIn_ready (rs := [21]) (by kernel_rfl) (by simp) (AllReadyIn.cons rfl (fun K hK => ?_) AllReadyIn.nil)
                  go_simp
                  refine hK _ _ ?_
                  clear hK K cq fq
                  refine wpAnyIn_done (by kernel_rfl) ?_ _
                  gi_wp2
                  go_ret
                  exact ⟨true, _, rfl, ⟨fun _ => HNO.out, fun _ => rfl⟩, hfin.1, hfin.2⟩
            · have cq := H.box.cell
              go_simp
              refine hK _ _ ?_
              clear hK K cq
              refine wpAnyIn_take (i := 16) (v := ?v71) rfl rfl (by kernel_rfl) (by kernel_rfl) (by kernel_rfl) (fun _ _ _ h => h) ⟨Or.inl ⟨by rfl, ?hy71⟩, fun _ => rfl⟩ ?_
              case hy71 => (intro w; go_simp; try with_reducible rfl)
              go_simp
              refine wpAnyIn_ready (rs := [4, 10]) (by kernel_rfl) (by simp) (AllReadyIn.cons rfl (fun K hK => ?_) (AllReadyIn.cons rfl (fun K hK => ?_) AllReadyIn.nil))
              · have cq := H.box.cell
                go_simp
                refine hK _ _ ?_
                clear hK K cq
                refine wpAnyIn_take (i := 6) (v := ?v72) rfl rfl (by kernel_rfl) (by kernel_rfl) (by kernel_rfl) (fun _ _ _ h => h) ⟨Or.inl ⟨by rfl, ?hy72⟩, fun _ => rfl⟩ ?_
                case hy72 => (intro w; go_simp; try with_reducible rfl)
                go_simp
                refine wpAnyIn_ready (rs := [10]) (by kernel_rfl) (by simp) (AllReadyIn.cons rfl (fun K hK => ?_) AllReadyIn.nil)
                go_simp
                refine hK _ _ ?_
                clear hK K
                obtain ⟨H, TA, hTB⟩ := H.temp k v
                refine wpAnyIn_ready (rs := [17]) (by kernel_rfl) (by simp) (AllReadyIn.cons rfl (fun K hK => ?_) AllReadyIn.nil)
                refine step_appendN (news := []) (m := 0) (v := _) (k := 1) (xs := [.int .i64 k, str v]) (base := base) (size := 2) (by rfl) _ _ 27 (by rfl) Try.underlying27 hi hz0 hz1 hz2 (by rfl) (by decide) (by rfl) TA (srcN_eq (srcN_end _ _) (by rfl)) (by simp) (flatR_one []) (bndR _ _ (by omega) (by omega)).1 (bndR _ _ (by omega) (by omega)).2 (Nat.le_trans H.sz H.fr.size) ?_
                intro v1 W' r1 g1
                refine hK _ _ ?_
                clear hK K
                have H := H.grown g1 (fun j e => by cases e; exact hTB)
                clear g1 TA
                go_simp
                refine wpAnyIn_ready (rs := [18]) (by kernel_rfl) (by simp) (AllReadyIn.cons rfl (fun K hK => ?_) AllReadyIn.nil)
                refine step_appendN (news := [.int .i64 k, str v] ++ []) (m := 1 + 0) (v := _) (k := rl.length) (xs := (flatR rl).take (rl.length * 2)) (base := base) (size := 2) (by rfl) _ _ 27 (by rfl) Try.underlying27 hi hz0 hz1 hz2 (by rfl) (by decide) (by rfl) (row_take2 H.row (Nat.le_refl _)) (srcN_eq (srcN_row r1) (by rfl)) r1.1 (news_one _ _ []) (bndR _ _ (by omega) (by omega)).1 (bndR _ _ (by omega) (by omega)).2 (Nat.le_trans H.sz H.fr.size) ?_
                intro v2 W' r2 g2
                refine hK _ _ ?_
                clear hK K
                go_simp
                refine wpAnyIn_take (i := 19) (v := ?v73) rfl rfl (by kernel_rfl) (by kernel_rfl) (by kernel_rfl) (fun _ _ _ h => h) ⟨Or.inl ⟨by rfl, ?hy73⟩, fun _ => rfl⟩ ?_
                case hy73 => (intro w; go_simp; try with_reducible rfl)
                go_simp
                refine wpAnyIn_take (i := 20) (v := ?v74) rfl rfl (by kernel_rfl) (by kernel_rfl) (by kernel_rfl) (fun _ _ _ h => h) ⟨Or.inl ⟨by rfl, ?hy74⟩, fun _ => rfl⟩ ?_
                case hy74 => (intro w; go_simp; try with_reducible rfl)
                go_simp
                have hcnt : rl.length + (1 + 0) = (insK k v rl).length := by rw [HIN.out]; simp
                have hr2 : W'.ownsRow base 39 2 v2 (insK k v rl).length (flatR (insK k v rl)) := by rw [← hcnt, HIN.out, flatR_app]; rw [flatR_take] at r2; simpa [flatR] using r2
                obtain ⟨gn, cn, rfl⟩ := ownsRow_succ (k := rl.length) (show W'.ownsRow base 39 2 v2 (rl.length + 1) (flatR (insK k v rl)) by have e : (insK k v rl).length = rl.length + 1 := (by have := hcnt; first | omega | (simp only [List.length_nil]; omega)); rw [← e]; exact hr2)
                clear hcnt
                have hfin := H.done (dst := .slice (some ⟨g, 0, none⟩) rl.length cap) (.inr rfl) g2 hr2 (insK_ris k v HR.out.ris)
                have cq := (H.box.kept g2 (fun e => by have := (H.own bx e.symm).1; have := H.lt.2; omega)).cell
                have fq := (H.box.kept g2 (fun e => by have := (H.own bx e.symm).1; have := H.lt.2; omega)).frozen
                refine wpAnyIn_ready (rs := [21]) (by kernel_rfl) (by simp) (AllReadyIn.cons rfl (fun K hK => ?_) AllReadyIn.nil)
                go_simp
                refine hK _ _ ?_
                clear hK K cq fq
                refine wpAnyIn_done (by kernel_rfl) ?_ _
                gi_wp2
                go_ret
                exact ⟨true, _, rfl, ⟨fun _ => HNO.out, fun _ => rfl⟩, hfin.1, hfin.2⟩
              · go_simp
                refine hK _ _ ?_
                clear hK K
                obtain ⟨H, TA, hTB⟩ := H.temp k v
                refine wpAnyIn_ready (rs := [4, 17]) (by kernel_rfl) (by simp) (AllReadyIn.cons rfl (fun K hK => ?_) (AllReadyIn.cons rfl (fun K hK => ?_) AllReadyIn.nil))
                · have cq := H.box.cell
                  go_simp
                  refine hK _ _ ?_
                  clear hK K cq
                  refine wpAnyIn_take (i := 6) (v := ?v75) rfl rfl (by kernel_rfl) (by kernel_rfl) (by kernel_rfl) (fun _ _ _ h => h) ⟨Or.inl ⟨by rfl, ?hy75⟩, fun _ => rfl⟩ ?_
                  case hy75 => (intro w; go_simp; try with_reducible rfl)
                  go_simp
                  refine wpAnyIn_ready (rs := [17]) (by kernel_rfl) (by simp) (AllReadyIn.cons rfl (fun K hK => ?_) AllReadyIn.nil)
                  refine step_appendN (news := []) (m := 0) (v := _) (k := 1) (xs := [.int .i64 k, str v]) (base := base) (size := 2) (by rfl) _ _ 27 (by rfl) Try.underlying27 hi hz0 hz1 hz2 (by rfl) (by decide) (by rfl) TA (srcN_eq (srcN_end _ _) (by rfl)) (by simp) (flatR_one []) (bndR _ _ (by omega) (by omega)).1 (bndR _ _ (by omega) (by omega)).2 (Nat.le_trans H.sz H.fr.size) ?_
                  intro v1 W' r1 g1
                  refine hK _ _ ?_
                  clear hK K
                  have H := H.grown g1 (fun j e => by cases e; exact hTB)
                  clear g1 TA
                  go_simp
                  refine wpAnyIn_ready (rs := [18]) (by kernel_rfl) (by simp) (AllReadyIn.cons rfl (fun K hK => ?_) AllReadyIn.nil)
                  refine step_appendN (news := [.int .i64 k, str v] ++ []) (m := 1 + 0) (v := _) (k := rl.length) (xs := (flatR rl).take (rl.length * 2)) (base := base) (size := 2) (by rfl) _ _ 27 (by rfl) Try.underlying27 hi hz0 hz1 hz2 (by rfl) (by decide) (by rfl) (row_take2 H.row (Nat.le_refl _)) (srcN_eq (srcN_row r1) (by rfl)) r1.1 (news_one _ _ []) (bndR _ _ (by omega) (by omega)).1 (bndR _ _ (by omega) (by omega)).2 (Nat.le_trans H.sz H.fr.size) ?_
                  intro v2 W' r2 g2
                  refine hK _ _ ?_
                  clear hK K
                  go_simp
                  refine wpAnyIn_take (i := 19) (v := ?v76) rfl rfl (by kernel_rfl) (by kernel_rfl) (by kernel_rfl) (fun _ _ _ h => h) ⟨Or.inl ⟨by rfl, ?hy76⟩, fun _ => rfl⟩ ?_
                  case hy76 => (intro w; go_simp; try with_reducible rfl)
                  go_simp
                  refine wpAnyIn_take (i := 20) (v := ?v77) rfl rfl (by kernel_rfl) (by kernel_rfl) (by kernel_rfl) (fun _ _ _ h => h) ⟨Or.inl ⟨by rfl, ?hy77⟩, fun _ => rfl⟩ ?_
                  case hy77 => (intro w; go_simp; try with_reducible rfl)
                  go_simp
                  have hcnt : rl.length + (1 + 0) = (insK k v rl).length := by rw [HIN.out]; simp
                  have hr2 : W'.ownsRow base 39 2 v2 (insK k v rl).length (flatR (insK k v rl)) := by rw [← hcnt, HIN.out, flatR_app]; rw [flatR_take] at r2; simpa [flatR] using r2
                  obtain ⟨gn, cn, rfl⟩ := ownsRow_succ (k := rl.length) (show W'.ownsRow base 39 2 v2 (rl.length + 1) (flatR (insK k v rl)) by have e : (insK k v rl).length = rl.length + 1 := (by have := hcnt; first | omega | (simp only [List.length_nil]; omega)); rw [← e]; exact hr2)
                  clear hcnt
                  have hfin := H.done (dst := .slice (some ⟨g, 0, none⟩) rl.length cap) (.inr rfl) g2 hr2 (insK_ris k v HR.out.ris)
                  have cq := (H.box.kept g2 (fun e => by have := (H.own bx e.symm).1; have := H.lt.2; omega)).cell
                  have fq := (H.box.kept g2 (fun e => by have := (H.own bx e.symm).1; have := H.lt.2; omega)).frozen
                  refine wpAnyIn_ready (rs := [21]) (by kernel_rfl) (by simp) (AllReadyIn.cons rfl (fun K hK => ?_) AllReadyIn.nil)
                  go_simp
                  refine hK _ _ ?_
                  clear hK K cq fq
                  refine wpAnyIn_done (by kernel_rfl) ?_ _
                  gi_wp2
                  go_ret
                  exact ⟨true, _, rfl, ⟨fun _ => HNO.out, fun _ => rfl⟩, hfin.1, hfin.2⟩
                · refine step_appendN (news := []) (m := 0) (v := _) (k := 1) (xs := [.int .i64 k, str v]) (base := base) (size := 2) (by rfl) _ _ 27 (by rfl) Try.underlying27 hi hz0 hz1 hz2 (by rfl) (by decide) (by rfl) TA (srcN_eq (srcN_end _ _) (by rfl)) (by simp) (flatR_one []) (bndR _ _ (by omega) (by omega)).1 (bndR _ _ (by omega) (by omega)).2 (Nat.le_trans H.sz H.fr.size) ?_
                  intro v1 W' r1 g1
                  refine hK _ _ ?_
                  clear hK K
                  have H := H.grown g1 (fun j e => by cases e; exact hTB)
                  clear g1 TA
                  go_simp
                  refine wpAnyIn_ready (rs := [4]) (by kernel_rfl) (by simp) (AllReadyIn.cons rfl (fun K hK => ?_) AllReadyIn.nil)
                  have cq := H.box.cell
                  go_simp
                  refine hK _ _ ?_
                  clear hK K cq
                  refine wpAnyIn_take (i := 6) (v := ?v78) rfl rfl (by kernel_rfl) (by kernel_rfl) (by kernel_rfl) (fun _ _ _ h => h) ⟨Or.inl ⟨by rfl, ?hy78⟩, fun _ => rfl⟩ ?_
                  case hy78 => (intro w; go_simp; try with_reducible rfl)
                  go_simp
                  refine wpAnyIn_ready (rs := [18]) (by kernel_rfl) (by simp) (AllReadyIn.cons rfl (fun K hK => ?_) AllReadyIn.nil)
                  refine step_appendN (news := [.int .i64 k, str v] ++ []) (m := 1 + 0) (v := _) (k := rl.length) (xs := (flatR rl).take (rl.length * 2)) (base := base) (size := 2) (by rfl) _ _ 27 (by rfl) Try.underlying27 hi hz0 hz1 hz2 (by rfl) (by decide) (by rfl) (row_take2 H.row (Nat.le_refl _)) (srcN_eq (srcN_row r1) (by rfl)) r1.1 (news_one _ _ []) (bndR _ _ (by omega) (by omega)).1 (bndR _ _ (by omega) (by omega)).2 (Nat.le_trans H.sz H.fr.size) ?_
                  intro v2 W' r2 g2
                  refine hK _ _ ?_
                  clear hK K
                  go_simp
                  refine wpAnyIn_take (i := 19) (v := ?v79) rfl rfl (by kernel_rfl) (by kernel_rfl) (by kernel_rfl) (fun _ _ _ h => h) ⟨Or.inl ⟨by rfl, ?hy79⟩, fun _ => rfl⟩ ?_
                  case hy79 => (intro w; go_simp; try with_reducible rfl)
                  go_simp
                  refine wpAnyIn_take (i := 20) (v := ?v80) rfl rfl (by kernel_rfl) (by kernel_rfl) (by kernel_rfl) (fun _ _ _ h => h) ⟨Or.inl ⟨by rfl, ?hy80⟩, fun _ => rfl⟩ ?_
                  case hy80 => (intro w; go_simp; try with_reducible rfl)
                  go_simp
                  have hcnt : rl.length + (1 + 0) = (insK k v rl).length := by rw [HIN.out]; simp
                  have hr2 : W'.ownsRow base 39 2 v2 (insK k v rl).length (flatR (insK k v rl)) := by rw [← hcnt, HIN.out, flatR_app]; rw [flatR_take] at r2; simpa [flatR] using r2
                  obtain ⟨gn, cn, rfl⟩ := ownsRow_succ (k := rl.length) (show W'.ownsRow base 39 2 v2 (rl.length + 1) (flatR (insK k v rl)) by have e : (insK k v rl).length = rl.length + 1 := (by have := hcnt; first | omega | (simp only [List.length_nil]; omega)); rw [← e]; exact hr2)
                  clear hcnt
                  have hfin := H.done (dst := .slice (some ⟨g, 0, none⟩) rl.length cap) (.inr rfl) g2 hr2 (insK_ris k v HR.out.ris)
                  have cq := (H.box.kept g2 (fun e => by have := (H.own bx e.symm).1; have := H.lt.2; omega)).cell
                  have fq := (H.box.kept g2 (fun e => by have := (H.own bx e.symm).1; have := H.lt.2; omega)).frozen
                  refine wpAnyIn_ready (rs := [21]) (by kernel_rfl) (by simp) (AllReadyIn.cons rfl (fun K hK => ?_) AllReadyIn.nil)
                  go_simp
                  refine hK _ _ ?_
                  clear hK K cq fq
                  refine wpAnyIn_done (by kernel_rfl) ?_ _
                  gi_wp2
                  go_ret
                  exact ⟨true, _, rfl, ⟨fun _ => HNO.out, fun _ => rfl⟩, hfin.1, hfin.2⟩
            -- END END1
  · -- there is none
    have HNIL := Lib.hid hnil
    clear hnil
    refine (callsIn_wide (n := 9)).1 ?_
    refine callsIn_of_wp Try.func12 rfl trivial ?_ rfl
    simp only [Try.ntmps12, List.size_toArray, List.length_cons, List.length_nil, Nat.reduceAdd, Nat.reduceSub, Array.replicate_succ, Array.replicate_zero, List.push_toArray, List.append_toArray, List.nil_append, List.cons_append]
    gi_wp2_with fail
    refine CF.out.mono ?_
    rintro e w1 ⟨p, f, nd, rfl, hp, hP1, hP2, hf, hw1⟩
    have HFF := Lib.hid (And.intro hP1 (And.intro hP2 hf))
    clear hP1 hP2 hf
    cases f with
    | true =>
      exfalso
      obtain ⟨h, _⟩ := HFF.out.2.2.1 rfl
      rw [HNIL.out] at h
      exact absurd h (Nat.not_lt_zero _)
    | false =>
      obtain ⟨hP1, hP2, hf⟩ := HFF.out
      have hno : ¬ ∃ h : p < rl.length, rl[p].1 = k := fun h => by have := hf.2 h; cases this
      have hIN := insK_at k v HR.out.ris hp hP1 hP2
      rw [if_neg hno] at hIN
      have HIN := Lib.hid hIN
      have HNO : Hid (¬ ∃ q ∈ rl, q.1 = k) := Lib.hid (by
        rintro ⟨q, hq, e⟩
        obtain ⟨j, hj, rfl⟩ := List.getElem_of_mem hq
        rcases Nat.lt_trichotomy j p with h | h | h
        · have := hP1 j hj h; omega
        · subst h; exact hno ⟨hj, e⟩
        · exact hno ⟨by omega, by have := hP2 (by omega); have := risK_lt (h' := by omega) HR.out.ris h hj; omega⟩)
      have H0 := Lib.hid (RSt.start HR.out hbb)
      clear HFF hf hP1 hP2 hno hIN CF
      have hnil := HNIL.out
      subst hnil
      obtain rfl : p = 0 := by simpa using hp
      gi_wp2
      -- NIL
      refine wpIn_region_any hm ?_
      change wpAnyIn _ _ _ _ _ _ _ _ _ (World.drew _)
      generalize hWd : World.drew _ = W9
      have H : RSt W W9 bx base (.slice none 0 0) ([] : List (Int × List UInt8)) := by rw [← hWd]; exact (H0.out.drewN nd).drewN 1
      clear hWd
      refine wpAnyIn_take (i := 0) (v := ?v121) rfl rfl (by kernel_rfl) (by kernel_rfl) (by kernel_rfl) (fun _ _ _ h => h) ⟨Or.inl ⟨by rfl, ?hy121⟩, fun _ => rfl⟩ ?_
      case hy121 => (intro w; go_simp; try with_reducible rfl)
      go_simp
      refine wpAnyIn_take (i := 1) (v := ?v122) rfl rfl (by kernel_rfl) (by kernel_rfl) (by kernel_rfl) (fun _ _ _ h => h) ⟨Or.inl ⟨by rfl, ?hy122⟩, fun _ => rfl⟩ ?_
      case hy122 => (intro w; go_simp; try with_reducible rfl)
      go_simp
      refine wpAnyIn_take (i := 2) (v := ?v123) rfl rfl (by kernel_rfl) (by kernel_rfl) (by kernel_rfl) (fun _ _ _ h => h) ⟨Or.inl ⟨by rfl, ?hy123⟩, fun _ => rfl⟩ ?_
      case hy123 => (intro w; go_simp; try with_reducible rfl)
      go_simp
      refine wpAnyIn_take (i := 3) (v := ?v124) rfl rfl (by kernel_rfl) (by kernel_rfl) (by kernel_rfl) (fun _ _ _ h => h) ⟨Or.inl ⟨by rfl, ?hy124⟩, fun _ => rfl⟩ ?_
      case hy124 => (intro w; go_simp; try with_reducible rfl)
      go_simp
      refine wpAnyIn_take (i := 5) (v := ?v125) rfl rfl (by kernel_rfl) (by kernel_rfl) (by kernel_rfl) (fun _ _ _ h => h) ⟨Or.inl ⟨by rfl, ?hy125⟩, fun _ => rfl⟩ ?_
      case hy125 => (intro w; go_simp; try with_reducible rfl)
      go_simp
      refine wpAnyIn_take (i := 7) (v := ?v126) rfl rfl (by kernel_rfl) (by kernel_rfl) (by kernel_rfl) (fun _ _ _ h => h) ⟨Or.inl ⟨by rfl, ?hy126⟩, fun _ => rfl⟩ ?_
      case hy126 => (intro w; go_simp; try with_reducible rfl)
      go_simp
      refine wpAnyIn_take (i := 8) (v := ?v127) rfl rfl (by kernel_rfl) (by kernel_rfl) (by kernel_rfl) (fun _ _ _ h => h) ⟨Or.inl ⟨by rfl, ?hy127⟩, fun _ => rfl⟩ ?_
      case hy127 => (intro w; go_simp; try with_reducible rfl)
      go_simp
      refine wpAnyIn_take (i := 9) (v := ?v128) rfl rfl (by kernel_rfl) (by kernel_rfl) (by kernel_rfl) (fun _ _ _ h => h) ⟨Or.inl ⟨by rfl, ?hy128⟩, fun _ => rfl⟩ ?_
      case hy128 => (intro w; go_simp; try with_reducible rfl)
      go_simp
      refine wpAnyIn_take (i := 11) (v := ?v129) rfl rfl (by kernel_rfl) (by kernel_rfl) (by kernel_rfl) (fun _ _ _ h => h) ⟨Or.inl ⟨by rfl, ?hy129⟩, fun _ => rfl⟩ ?_
      case hy129 => (intro w; go_simp; try with_reducible rfl)
      go_simp
      refine wpAnyIn_take (i := 12) (v := ?v130) rfl rfl (by kernel_rfl) (by kernel_rfl) (by kernel_rfl) (fun _ _ _ h => h) ⟨Or.inl ⟨by rfl, ?hy130⟩, fun _ => rfl⟩ ?_
      case hy130 => (intro w; go_simp; try with_reducible rfl)
      go_simp
      refine wpAnyIn_take (i := 13) (v := ?v131) rfl rfl (by kernel_rfl) (by kernel_rfl) (by kernel_rfl) (fun _ _ _ h => h) ⟨Or.inl ⟨by rfl, ?hy131⟩, fun _ => rfl⟩ ?_
      case hy131 => (intro w; go_simp; try with_reducible rfl)
      go_simp
      refine wpAnyIn_take (i := 15) (v := ?v132) rfl rfl (by kernel_rfl) (by kernel_rfl) (by kernel_rfl) (fun _ _ _ h => h) ⟨Or.inl ⟨by rfl, ?hy132⟩, fun _ => rfl⟩ ?_
      case hy132 => (intro w; go_simp; try with_reducible rfl)
      go_simp
      refine wpAnyIn_ready (rs := [4, 10, 14]) (by kernel_rfl) (by simp) (AllReadyIn.cons rfl (fun K hK => ?_) (AllReadyIn.cons rfl (fun K hK => ?_) (AllReadyIn.cons rfl (fun K hK => ?_) AllReadyIn.nil)))
      · have cq := H.box.cell
        go_simp
        refine hK _ _ ?_
        clear hK K cq
        refine wpAnyIn_take (i := 6) (v := ?v133) rfl rfl (by kernel_rfl) (by kernel_rfl) (by kernel_rfl) (fun _ _ _ h => h) ⟨Or.inl ⟨by rfl, ?hy133⟩, fun _ => rfl⟩ ?_
        case hy133 => (intro w; go_simp; try with_reducible rfl)
        go_simp
        refine wpAnyIn_ready (rs := [10, 14]) (by kernel_rfl) (by simp) (AllReadyIn.cons rfl (fun K hK => ?_) (AllReadyIn.cons rfl (fun K hK => ?_) AllReadyIn.nil))
        · go_simp
          refine hK _ _ ?_
          clear hK K
          obtain ⟨H, TA, hTB⟩ := H.temp k v
          refine wpAnyIn_ready (rs := [14]) (by kernel_rfl) (by simp) (AllReadyIn.cons rfl (fun K hK => ?_) AllReadyIn.nil)
          have cq := H.box.cell
          go_simp
          refine hK _ _ ?_
          clear hK K cq
          refine wpAnyIn_take (i := 16) (v := ?v134) rfl rfl (by kernel_rfl) (by kernel_rfl) (by kernel_rfl) (fun _ _ _ h => h) ⟨Or.inl ⟨by rfl, ?hy134⟩, fun _ => rfl⟩ ?_
          case hy134 => (intro w; go_simp; try with_reducible rfl)
          go_simp
          refine wpAnyIn_ready (rs := [17]) (by kernel_rfl) (by simp) (AllReadyIn.cons rfl (fun K hK => ?_) AllReadyIn.nil)
          refine step_appendN (news := []) (m := 0) (v := _) (k := 1) (xs := [.int .i64 k, str v]) (base := base) (size := 2) (by rfl) _ _ 27 (by rfl) Try.underlying27 hi hz0 hz1 hz2 (by rfl) (by decide) (by rfl) TA (srcN_eq (srcN_nil) (by rfl)) (by simp) (flatR_one []) (bndR _ _ (by omega) (by omega)).1 (bndR _ _ (by omega) (by omega)).2 (Nat.le_trans H.sz H.fr.size) ?_
          intro v1 W' r1 g1
          refine hK _ _ ?_
          clear hK K
          have H := H.grown g1 (fun j e => by cases e; exact hTB)
          clear g1 TA
          go_simp
          refine wpAnyIn_ready (rs := [18]) (by kernel_rfl) (by simp) (AllReadyIn.cons rfl (fun K hK => ?_) AllReadyIn.nil)
          refine step_appendN (news := [.int .i64 k, str v] ++ []) (m := 1 + 0) (v := _) (k := 0) (xs := []) (base := base) (size := 2) (by rfl) _ _ 27 (by rfl) Try.underlying27 hi hz0 hz1 hz2 (by rfl) (by decide) (by rfl) (World.ownsRow_nil _ base _ _) (srcN_eq (srcN_row r1) (by rfl)) r1.1 (news_one _ _ []) (bndR _ _ (by omega) (by omega)).1 (bndR _ _ (by omega) (by omega)).2 (Nat.le_trans H.sz H.fr.size) ?_
          intro v2 W' r2 g2
          refine hK _ _ ?_
          clear hK K
          go_simp
          refine wpAnyIn_take (i := 19) (v := ?v135) rfl rfl (by kernel_rfl) (by kernel_rfl) (by kernel_rfl) (fun _ _ _ h => h) ⟨Or.inl ⟨by rfl, ?hy135⟩, fun _ => rfl⟩ ?_
          case hy135 => (intro w; go_simp; try with_reducible rfl)
          go_simp
          refine wpAnyIn_take (i := 20) (v := ?v136) rfl rfl (by kernel_rfl) (by kernel_rfl) (by kernel_rfl) (fun _ _ _ h => h) ⟨Or.inl ⟨by rfl, ?hy136⟩, fun _ => rfl⟩ ?_
          case hy136 => (intro w; go_simp; try with_reducible rfl)
          go_simp
          have hcnt : 0 + (1 + 0) = (insK k v ([] : List (Int × List UInt8))).length := by rw [HIN.out]; simp
          have hr2 : W'.ownsRow base 39 2 v2 (insK k v ([] : List (Int × List UInt8))).length (flatR (insK k v ([] : List (Int × List UInt8)))) := by rw [← hcnt, HIN.out, flatR_app]; simpa [flatR] using r2
          obtain ⟨gn, cn, rfl⟩ := ownsRow_succ (k := ([] : List (Int × List UInt8)).length) (show W'.ownsRow base 39 2 v2 (([] : List (Int × List UInt8)).length + 1) (flatR (insK k v ([] : List (Int × List UInt8)))) by have e : (insK k v ([] : List (Int × List UInt8))).length = ([] : List (Int × List UInt8)).length + 1 := (by have := hcnt; first | omega | (simp only [List.length_nil]; omega)); rw [← e]; exact hr2)
          clear hcnt
          have hfin := H.done (dst := .slice none 0 0) (.inl rfl) g2 hr2 (insK_ris k v HR.out.ris)
          have cq := (H.box.kept g2 (fun e => by cases e)).cell
          have fq := (H.box.kept g2 (fun e => by cases e)).frozen
          refine wpAnyIn_ready (rs := [21]) (by kernel_rfl) (by simp) (AllReadyIn.cons rfl (fun K hK => ?_) AllReadyIn.nil)
          go_simp
          refine hK _ _ ?_
          clear hK K cq fq
          refine wpAnyIn_done (by kernel_rfl) ?_ _
          gi_wp2
          go_ret
          exact ⟨true, _, rfl, ⟨fun _ => HNO.out, fun _ => rfl⟩, hfin.1, hfin.2⟩
        · have cq := H.box.cell
          go_simp
          refine hK _ _ ?_
          clear hK K cq
          refine wpAnyIn_take (i := 16) (v := ?v137) rfl rfl (by kernel_rfl) (by kernel_rfl) (by kernel_rfl) (fun _ _ _ h => h) ⟨Or.inl ⟨by rfl, ?hy137⟩, fun _ => rfl⟩ ?_
          case hy137 => (intro w; go_simp; try with_reducible rfl)
          go_simp
          refine wpAnyIn_ready (rs := [10]) (by kernel_rfl) (by simp) (AllReadyIn.cons rfl (fun K hK => ?_) AllReadyIn.nil)
          go_simp
          refine hK _ _ ?_
          clear hK K
          obtain ⟨H, TA, hTB⟩ := H.temp k v
          refine wpAnyIn_ready (rs := [17]) (by kernel_rfl) (by simp) (AllReadyIn.cons rfl (fun K hK => ?_) AllReadyIn.nil)
          refine step_appendN (news := []) (m := 0) (v := _) (k := 1) (xs := [.int .i64 k, str v]) (base := base) (size := 2) (by rfl) _ _ 27 (by rfl) Try.underlying27 hi hz0 hz1 hz2 (by rfl) (by decide) (by rfl) TA (srcN_eq (srcN_nil) (by rfl)) (by simp) (flatR_one []) (bndR _ _ (by omega) (by omega)).1 (bndR _ _ (by omega) (by omega)).2 (Nat.le_trans H.sz H.fr.size) ?_
          intro v1 W' r1 g1
          refine hK _ _ ?_
          clear hK K
          have H := H.grown g1 (fun j e => by cases e; exact hTB)
          clear g1 TA
          go_simp
          refine wpAnyIn_ready (rs := [18]) (by kernel_rfl) (by simp) (AllReadyIn.cons rfl (fun K hK => ?_) AllReadyIn.nil)
          refine step_appendN (news := [.int .i64 k, str v] ++ []) (m := 1 + 0) (v := _) (k := 0) (xs := []) (base := base) (size := 2) (by rfl) _ _ 27 (by rfl) Try.underlying27 hi hz0 hz1 hz2 (by rfl) (by decide) (by rfl) (World.ownsRow_nil _ base _ _) (srcN_eq (srcN_row r1) (by rfl)) r1.1 (news_one _ _ []) (bndR _ _ (by omega) (by omega)).1 (bndR _ _ (by omega) (by omega)).2 (Nat.le_trans H.sz H.fr.size) ?_
          intro v2 W' r2 g2
          refine hK _ _ ?_
          clear hK K
          go_simp
          refine wpAnyIn_take (i := 19) (v := ?v138) rfl rfl (by kernel_rfl) (by kernel_rfl) (by kernel_rfl) (fun _ _ _ h => h) ⟨Or.inl ⟨by rfl, ?hy138⟩, fun _ => rfl⟩ ?_
          case hy138 => (intro w; go_simp; try with_reducible rfl)
          go_simp
          refine wpAnyIn_take (i := 20) (v := ?v139) rfl rfl (by kernel_rfl) (by kernel_rfl) (by kernel_rfl) (fun _ _ _ h => h) ⟨Or.inl ⟨by rfl, ?hy139⟩, fun _ => rfl⟩ ?_
          case hy139 => (intro w; go_simp; try with_reducible rfl)
          go_simp
          have hcnt : 0 + (1 + 0) = (insK k v ([] : List (Int × List UInt8))).length := by rw [HIN.out]; simp
          have hr2 : W'.ownsRow base 39 2 v2 (insK k v ([] : List (Int × List UInt8))).length (flatR (insK k v ([] : List (Int × List UInt8)))) := by rw [← hcnt, HIN.out, flatR_app]; simpa [flatR] using r2
          obtain ⟨gn, cn, rfl⟩ := ownsRow_succ (k := ([] : List (Int × List UInt8)).length) (show W'.ownsRow base 39 2 v2 (([] : List (Int × List UInt8)).length + 1) (flatR (insK k v ([] : List (Int × List UInt8)))) by have e : (insK k v ([] : List (Int × List UInt8))).length = ([] : List (Int × List UInt8)).length + 1 := (by have := hcnt; first | omega | (simp only [List.length_nil]; omega)); rw [← e]; exact hr2)
          clear hcnt
          have hfin := H.done (dst := .slice none 0 0) (.inl rfl) g2 hr2 (insK_ris k v HR.out.ris)
          have cq := (H.box.kept g2 (fun e => by cases e)).cell
          have fq := (H.box.kept g2 (fun e => by cases e)).frozen
          refine wpAnyIn_ready (rs := [21]) (by kernel_rfl) (by simp) (AllReadyIn.cons rfl (fun K hK => ?_) AllReadyIn.nil)
          go_simp
          refine hK _ _ ?_
          clear hK K cq fq
          refine wpAnyIn_done (by kernel_rfl) ?_ _
          gi_wp2
          go_ret
          exact ⟨true, _, rfl, ⟨fun _ => HNO.out, fun _ => rfl⟩, hfin.1, hfin.2⟩
      · go_simp
        refine hK _ _ ?_
        clear hK K
        obtain ⟨H, TA, hTB⟩ := H.temp k v
        refine wpAnyIn_ready (rs := [4, 14]) (by kernel_rfl) (by simp) (AllReadyIn.cons rfl (fun K hK => ?_) (AllReadyIn.cons rfl (fun K hK => ?_) AllReadyIn.nil))
        · have cq := H.box.cell
          go_simp
          refine hK _ _ ?_
          clear hK K cq
          refine wpAnyIn_take (i := 6) (v := ?v140) rfl rfl (by kernel_rfl) (by kernel_rfl) (by kernel_rfl) (fun _ _ _ h => h) ⟨Or.inl ⟨by rfl, ?hy140⟩, fun _ => rfl⟩ ?_
          case hy140 => (intro w; go_simp; try with_reducible rfl)
          go_simp
          refine wpAnyIn_ready (rs := [14]) (by kernel_rfl) (by simp) (AllReadyIn.cons rfl (fun K hK => ?_) AllReadyIn.nil)
          have cq := H.box.cell
          go_simp
          refine hK _ _ ?_
          clear hK K cq
          refine wpAnyIn_take (i := 16) (v := ?v141) rfl rfl (by kernel_rfl) (by kernel_rfl) (by kernel_rfl) (fun _ _ _ h => h) ⟨Or.inl ⟨by rfl, ?hy141⟩, fun _ => rfl⟩ ?_
          case hy141 => (intro w; go_simp; try with_reducible rfl)
          go_simp
          refine wpAnyIn_ready (rs := [17]) (by kernel_rfl) (by simp) (AllReadyIn.cons rfl (fun K hK => ?_) AllReadyIn.nil)
          refine step_appendN (news := []) (m := 0) (v := _) (k := 1) (xs := [.int .i64 k, str v]) (base := base) (size := 2) (by rfl) _ _ 27 (by rfl) Try.underlying27 hi hz0 hz1 hz2 (by rfl) (by decide) (by rfl) TA (srcN_eq (srcN_nil) (by rfl)) (by simp) (flatR_one []) (bndR _ _ (by omega) (by omega)).1 (bndR _ _ (by omega) (by omega)).2 (Nat.le_trans H.sz H.fr.size) ?_
          intro v1 W' r1 g1
          refine hK _ _ ?_
          clear hK K
          have H := H.grown g1 (fun j e => by cases e; exact hTB)
          clear g1 TA
          go_simp
          refine wpAnyIn_ready (rs := [18]) (by kernel_rfl) (by simp) (AllReadyIn.cons rfl (fun K hK => ?_) AllReadyIn.nil)
          refine step_appendN (news := [.int .i64 k, str v] ++ []) (m := 1 + 0) (v := _) (k := 0) (xs := []) (base := base) (size := 2) (by rfl) _ _ 27 (by rfl) Try.underlying27 hi hz0 hz1 hz2 (by rfl) (by decide) (by rfl) (World.ownsRow_nil _ base _ _) (srcN_eq (srcN_row r1) (by rfl)) r1.1 (news_one _ _ []) (bndR _ _ (by omega) (by omega)).1 (bndR _ _ (by omega) (by omega)).2 (Nat.le_trans H.sz H.fr.size) ?_
          intro v2 W' r2 g2
          refine hK _ _ ?_
          clear hK K
          go_simp
          refine wpAnyIn_take (i := 19) (v := ?v142) rfl rfl (by kernel_rfl) (by kernel_rfl) (by kernel_rfl) (fun _ _ _ h => h) ⟨Or.inl ⟨by rfl, ?hy142⟩, fun _ => rfl⟩ ?_
          case hy142 => (intro w; go_simp; try with_reducible rfl)
          go_simp
          refine wpAnyIn_take (i := 20) (v := ?v143) rfl rfl (by kernel_rfl) (by kernel_rfl) (by kernel_rfl) (fun _ _ _ h => h) ⟨Or.inl ⟨by rfl, ?hy143⟩, fun _ => rfl⟩ ?_
          case hy143 => (intro w; go_simp; try with_reducible rfl)
          go_simp
          have hcnt : 0 + (1 + 0) = (insK k v ([] : List (Int × List UInt8))).length := by rw [HIN.out]; simp
          have hr2 : W'.ownsRow base 39 2 v2 (insK k v ([] : List (Int × List UInt8))).length (flatR (insK k v ([] : List (Int × List UInt8)))) := by rw [← hcnt, HIN.out, flatR_app]; simpa [flatR] using r2
          obtain ⟨gn, cn, rfl⟩ := ownsRow_succ (k := ([] : List (Int × List UInt8)).length) (show W'.ownsRow base 39 2 v2 (([] : List (Int × List UInt8)).length + 1) (flatR (insK k v ([] : List (Int × List UInt8)))) by have e : (insK k v ([] : List (Int × List UInt8))).length = ([] : List (Int × List UInt8)).length + 1 := (by have := hcnt; first | omega | (simp only [List.length_nil]; omega)); rw [← e]; exact hr2)
          clear hcnt
          have hfin := H.done (dst := .slice none 0 0) (.inl rfl) g2 hr2 (insK_ris k v HR.out.ris)
          have cq := (H.box.kept g2 (fun e => by cases e)).cell
          have fq := (H.box.kept g2 (fun e => by cases e)).frozen
          refine wpAnyIn_ready (rs := [21]) (by kernel_rfl) (by simp) (AllReadyIn.cons rfl (fun K hK => ?_) AllReadyIn.nil)
          go_simp
          refine hK _ _ ?_
          clear hK K cq fq
          refine wpAnyIn_done (by kernel_rfl) ?_ _
          gi_wp2
          go_ret
          exact ⟨true, _, rfl, ⟨fun _ => HNO.out, fun _ => rfl⟩, hfin.1, hfin.2⟩
        · have cq := H.box.cell
          go_simp
          refine hK _ _ ?_
          clear hK K cq
          refine wpAnyIn_take (i := 16) (v := ?v144) rfl rfl (by kernel_rfl) (by kernel_rfl) (by kernel_rfl) (fun _ _ _ h => h) ⟨Or.inl ⟨by rfl, ?hy144⟩, fun _ => rfl⟩ ?_
          case hy144 => (intro w; go_simp; try with_reducible rfl)
          go_simp
          refine wpAnyIn_ready (rs := [4, 17]) (by kernel_rfl) (by simp) (AllReadyIn.cons rfl (fun K hK => ?_) (AllReadyIn.cons rfl (fun K hK => ?_) AllReadyIn.nil))
          · have cq := H.box.cell
            go_simp
            refine hK _ _ ?_
            clear hK K cq
            refine wpAnyIn_take (i := 6) (v := ?v145) rfl rfl (by kernel_rfl) (by kernel_rfl) (by kernel_rfl) (fun _ _ _ h => h) ⟨Or.inl ⟨by rfl, ?hy145⟩, fun _ => rfl⟩ ?_
            case hy145 => (intro w; go_simp; try with_reducible rfl)
            go_simp
            refine wpAnyIn_ready (rs := [17]) (by kernel_rfl) (by simp) (AllReadyIn.cons rfl (fun K hK => ?_) AllReadyIn.nil)
            refine step_appendN (news := []) (m := 0) (v := _) (k := 1) (xs := [.int .i64 k, str v]) (base := base) (size := 2) (by rfl) _ _ 27 (by rfl) Try.underlying27 hi hz0 hz1 hz2 (by rfl) (by decide) (by rfl) TA (srcN_eq (srcN_nil) (by rfl)) (by simp) (flatR_one []) (bndR _ _ (by omega) (by omega)).1 (bndR _ _ (by omega) (by omega)).2 (Nat.le_trans H.sz H.fr.size) ?_
            intro v1 W' r1 g1
            refine hK _ _ ?_
            clear hK K
            have H := H.grown g1 (fun j e => by cases e; exact hTB)
            clear g1 TA
            go_simp
            refine wpAnyIn_ready (rs := [18]) (by kernel_rfl) (by simp) (AllReadyIn.cons rfl (fun K hK => ?_) AllReadyIn.nil)
            refine step_appendN (news := [.int .i64 k, str v] ++ []) (m := 1 + 0) (v := _) (k := 0) (xs := []) (base := base) (size := 2) (by rfl) _ _ 27 (by rfl) Try.underlying27 hi hz0 hz1 hz2 (by rfl) (by decide) (by rfl) (World.ownsRow_nil _ base _ _) (srcN_eq (srcN_row r1) (by rfl)) r1.1 (news_one _ _ []) (bndR _ _ (by omega) (by omega)).1 (bndR _ _ (by omega) (by omega)).2 (Nat.le_trans H.sz H.fr.size) ?_
            intro v2 W' r2 g2
            refine hK _ _ ?_
            clear hK K
            go_simp
            refine wpAnyIn_take (i := 19) (v := ?v146) rfl rfl (by kernel_rfl) (by kernel_rfl) (by kernel_rfl) (fun _ _ _ h => h) ⟨Or.inl ⟨by rfl, ?hy146⟩, fun _ => rfl⟩ ?_
            case hy146 => (intro w; go_simp; try with_reducible rfl)
            go_simp
            refine wpAnyIn_take (i := 20) (v := ?v147) rfl rfl (by kernel_rfl) (by kernel_rfl) (by kernel_rfl) (fun _ _ _ h => h) ⟨Or.inl ⟨by rfl, ?hy147⟩, fun _ => rfl⟩ ?_
            case hy147 => (intro w; go_simp; try with_reducible rfl)
            go_simp
            have hcnt : 0 + (1 + 0) = (insK k v ([] : List (Int × List UInt8))).length := by rw [HIN.out]; simp
            have hr2 : W'.ownsRow base 39 2 v2 (insK k v ([] : List (Int × List UInt8))).length (flatR (insK k v ([] : List (Int × List UInt8)))) := by rw [← hcnt, HIN.out, flatR_app]; simpa [flatR] using r2
            obtain ⟨gn, cn, rfl⟩ := ownsRow_succ (k := ([] : List (Int × List UInt8)).length) (show W'.ownsRow base 39 2 v2 (([] : List (Int × List UInt8)).length + 1) (flatR (insK k v ([] : List (Int × List UInt8)))) by have e : (insK k v ([] : List (Int × List UInt8))).length = ([] : List (Int × List UInt8)).length + 1 := (by have := hcnt; first | omega | (simp only [List.length_nil]; omega)); rw [← e]; exact hr2)
            clear hcnt
            have hfin := H.done (dst := .slice none 0 0) (.inl rfl) g2 hr2 (insK_ris k v HR.out.ris)
            have cq := (H.box.kept g2 (fun e => by cases e)).cell
            have fq := (H.box.kept g2 (fun e => by cases e)).frozen
            refine wpAnyIn_ready (rs := [21]) (by kernel_rfl) (by simp) (AllReadyIn.cons rfl (fun K hK => ?_) AllReadyIn.nil)
            go_simp
            refine hK _ _ ?_
            clear hK K cq fq
            refine wpAnyIn_done (by kernel_rfl) ?_ _
            gi_wp2
            go_ret
            exact ⟨true, _, rfl, ⟨fun _ => HNO.out, fun _ => rfl⟩, hfin.1, hfin.2⟩
          · refine step_appendN (news := []) (m := 0) (v := _) (k := 1) (xs := [.int .i64 k, str v]) (base := base) (size := 2) (by rfl) _ _ 27 (by rfl) Try.underlying27 hi hz0 hz1 hz2 (by rfl) (by decide) (by rfl) TA (srcN_eq (srcN_nil) (by rfl)) (by simp) (flatR_one []) (bndR _ _ (by omega) (by omega)).1 (bndR _ _ (by omega) (by omega)).2 (Nat.le_trans H.sz H.fr.size) ?_
            intro v1 W' r1 g1
            refine hK _ _ ?_
            clear hK K
            have H := H.grown g1 (fun j e => by cases e; exact hTB)
            clear g1 TA
            go_simp
            refine wpAnyIn_ready (rs := [4]) (by kernel_rfl) (by simp) (AllReadyIn.cons rfl (fun K hK => ?_) AllReadyIn.nil)
            have cq := H.box.cell
            go_simp
            refine hK _ _ ?_
            clear hK K cq
            refine wpAnyIn_take (i := 6) (v := ?v148) rfl rfl (by kernel_rfl) (by kernel_rfl) (by kernel_rfl) (fun _ _ _ h => h) ⟨Or.inl ⟨by rfl, ?hy148⟩, fun _ => rfl⟩ ?_
            case hy148 => (intro w; go_simp; try with_reducible rfl)
            go_simp
            refine wpAnyIn_ready (rs := [18]) (by kernel_rfl) (by simp) (AllReadyIn.cons rfl (fun K hK => ?_) AllReadyIn.nil)
            refine step_appendN (news := [.int .i64 k, str v] ++ []) (m := 1 + 0) (v := _) (k := 0) (xs := []) (base := base) (size := 2) (by rfl) _ _ 27 (by rfl) Try.underlying27 hi hz0 hz1 hz2 (by rfl) (by decide) (by rfl) (World.ownsRow_nil _ base _ _) (srcN_eq (srcN_row r1) (by rfl)) r1.1 (news_one _ _ []) (bndR _ _ (by omega) (by omega)).1 (bndR _ _ (by omega) (by omega)).2 (Nat.le_trans H.sz H.fr.size) ?_
            intro v2 W' r2 g2
            refine hK _ _ ?_
            clear hK K
            go_simp
            refine wpAnyIn_take (i := 19) (v := ?v149) rfl rfl (by kernel_rfl) (by kernel_rfl) (by kernel_rfl) (fun _ _ _ h => h) ⟨Or.inl ⟨by rfl, ?hy149⟩, fun _ => rfl⟩ ?_
            case hy149 => (intro w; go_simp; try with_reducible rfl)
            go_simp
            refine wpAnyIn_take (i := 20) (v := ?v150) rfl rfl (by kernel_rfl) (by kernel_rfl) (by kernel_rfl) (fun _ _ _ h => h) ⟨Or.inl ⟨by rfl, ?hy150⟩, fun _ => rfl⟩ ?_
            case hy150 => (intro w; go_simp; try with_reducible rfl)
            go_simp
            have hcnt : 0 + (1 + 0) = (insK k v ([] : List (Int × List UInt8))).length := by rw [HIN.out]; simp
            have hr2 : W'.ownsRow base 39 2 v2 (insK k v ([] : List (Int × List UInt8))).length (flatR (insK k v ([] : List (Int × List UInt8)))) := by rw [← hcnt, HIN.out, flatR_app]; simpa [flatR] using r2
            obtain ⟨gn, cn, rfl⟩ := ownsRow_succ (k := ([] : List (Int × List UInt8)).length) (show W'.ownsRow base 39 2 v2 (([] : List (Int × List UInt8)).length + 1) (flatR (insK k v ([] : List (Int × List UInt8)))) by have e : (insK k v ([] : List (Int × List UInt8))).length = ([] : List (Int × List UInt8)).length + 1 := (by have := hcnt; first | omega | (simp only [List.length_nil]; omega)); rw [← e]; exact hr2)
            clear hcnt
            have hfin := H.done (dst := .slice none 0 0) (.inl rfl) g2 hr2 (insK_ris k v HR.out.ris)
            have cq := (H.box.kept g2 (fun e => by cases e)).cell
            have fq := (H.box.kept g2 (fun e => by cases e)).frozen
            refine wpAnyIn_ready (rs := [21]) (by kernel_rfl) (by simp) (AllReadyIn.cons rfl (fun K hK => ?_) AllReadyIn.nil)
            go_simp
            refine hK _ _ ?_
            clear hK K cq fq
            refine wpAnyIn_done (by kernel_rfl) ?_ _
            gi_wp2
            go_ret
            exact ⟨true, _, rfl, ⟨fun _ => HNO.out, fun _ => rfl⟩, hfin.1, hfin.2⟩
      · have cq := H.box.cell
        go_simp
        refine hK _ _ ?_
        clear hK K cq
        refine wpAnyIn_take (i := 16) (v := ?v151) rfl rfl (by kernel_rfl) (by kernel_rfl) (by kernel_rfl) (fun _ _ _ h => h) ⟨Or.inl ⟨by rfl, ?hy151⟩, fun _ => rfl⟩ ?_
        case hy151 => (intro w; go_simp; try with_reducible rfl)
        go_simp
        refine wpAnyIn_ready (rs := [4, 10]) (by kernel_rfl) (by simp) (AllReadyIn.cons rfl (fun K hK => ?_) (AllReadyIn.cons rfl (fun K hK => ?_) AllReadyIn.nil))
        · have cq := H.box.cell
          go_simp
          refine hK _ _ ?_
          clear hK K cq
          refine wpAnyIn_take (i := 6) (v := ?v152) rfl rfl (by kernel_rfl) (by kernel_rfl) (by kernel_rfl) (fun _ _ _ h => h) ⟨Or.inl ⟨by rfl, ?hy152⟩, fun _ => rfl⟩ ?_
          case hy152 => (intro w; go_simp; try with_reducible rfl)
          go_simp
          refine wpAnyIn_ready (rs := [10]) (by kernel_rfl) (by simp) (AllReadyIn.cons rfl (fun K hK => ?_) AllReadyIn.nil)
          go_simp
          refine hK _ _ ?_
          clear hK K
          obtain ⟨H, TA, hTB⟩ := H.temp k v
          refine wpAnyIn_ready (rs := [17]) (by kernel_rfl) (by simp) (AllReadyIn.cons rfl (fun K hK => ?_) AllReadyIn.nil)
          refine step_appendN (news := []) (m := 0) (v := _) (k := 1) (xs := [.int .i64 k, str v]) (base := base) (size := 2) (by rfl) _ _ 27 (by rfl) Try.underlying27 hi hz0 hz1 hz2 (by rfl) (by decide) (by rfl) TA (srcN_eq (srcN_nil) (by rfl)) (by simp) (flatR_one []) (bndR _ _ (by omega) (by omega)).1 (bndR _ _ (by omega) (by omega)).2 (Nat.le_trans H.sz H.fr.size) ?_
          intro v1 W' r1 g1
          refine hK _ _ ?_
          clear hK K
          have H := H.grown g1 (fun j e => by cases e; exact hTB)
          clear g1 TA
          go_simp
          refine wpAnyIn_ready (rs := [18]) (by kernel_rfl) (by simp) (AllReadyIn.cons rfl (fun K hK => ?_) AllReadyIn.nil)
          refine step_appendN (news := [.int .i64 k, str v] ++ []) (m := 1 + 0) (v := _) (k := 0) (xs := []) (base := base) (size := 2) (by rfl) _ _ 27 (by rfl) Try.underlying27 hi hz0 hz1 hz2 (by rfl) (by decide) (by rfl) (World.ownsRow_nil _ base _ _) (srcN_eq (srcN_row r1) (by rfl)) r1.1 (news_one _ _ []) (bndR _ _ (by omega) (by omega)).1 (bndR _ _ (by omega) (by omega)).2 (Nat.le_trans H.sz H.fr.size) ?_
          intro v2 W' r2 g2
          refine hK _ _ ?_
          clear hK K
          go_simp
          refine wpAnyIn_take (i := 19) (v := ?v153) rfl rfl (by kernel_rfl) (by kernel_rfl) (by kernel_rfl) (fun _ _ _ h => h) ⟨Or.inl ⟨by rfl, ?hy153⟩, fun _ => rfl⟩ ?_
          case hy153 => (intro w; go_simp; try with_reducible rfl)
          go_simp
          refine wpAnyIn_take (i := 20) (v := ?v154) rfl rfl (by kernel_rfl) (by kernel_rfl) (by kernel_rfl) (fun _ _ _ h => h) ⟨Or.inl ⟨by rfl, ?hy154⟩, fun _ => rfl⟩ ?_
          case hy154 => (intro w; go_simp; try with_reducible rfl)
          go_simp
          have hcnt : 0 + (1 + 0) = (insK k v ([] : List (Int × List UInt8))).length := by rw [HIN.out]; simp
          have hr2 : W'.ownsRow base 39 2 v2 (insK k v ([] : List (Int × List UInt8))).length (flatR (insK k v ([] : List (Int × List UInt8)))) := by rw [← hcnt, HIN.out, flatR_app]; simpa [flatR] using r2
          obtain ⟨gn, cn, rfl⟩ := ownsRow_succ (k := ([] : List (Int × List UInt8)).length) (show W'.ownsRow base 39 2 v2 (([] : List (Int × List UInt8)).length + 1) (flatR (insK k v ([] : List (Int × List UInt8)))) by have e : (insK k v ([] : List (Int × List UInt8))).length = ([] : List (Int × List UInt8)).length + 1 := (by have := hcnt; first | omega | (simp only [List.length_nil]; omega)); rw [← e]; exact hr2)
          clear hcnt
          have hfin := H.done (dst := .slice none 0 0) (.inl rfl) g2 hr2 (insK_ris k v HR.out.ris)
          have cq := (H.box.kept g2 (fun e => by cases e)).cell
          have fq := (H.box.kept g2 (fun e => by cases e)).frozen
          refine wpAnyIn_ready (rs := [21]) (by kernel_rfl) (by simp) (AllReadyIn.cons rfl (fun K hK => ?_) AllReadyIn.nil)
          go_simp
          refine hK _ _ ?_
          clear hK K cq fq
          refine wpAnyIn_done (by kernel_rfl) ?_ _
          gi_wp2
          go_ret
          exact ⟨true, _, rfl, ⟨fun _ => HNO.out, fun _ => rfl⟩, hfin.1, hfin.2⟩
        · go_simp
          refine hK _ _ ?_
          clear hK K
          obtain ⟨H, TA, hTB⟩ := H.temp k v
          refine wpAnyIn_ready (rs := [4, 17]) (by kernel_rfl) (by simp) (AllReadyIn.cons rfl (fun K hK => ?_) (AllReadyIn.cons rfl (fun K hK => ?_) AllReadyIn.nil))
          · have cq := H.box.cell
            go_simp
            refine hK _ _ ?_
            clear hK K cq
            refine wpAnyIn_take (i := 6) (v := ?v155) rfl rfl (by kernel_rfl) (by kernel_rfl) (by kernel_rfl) (fun _ _ _ h => h) ⟨Or.inl ⟨by rfl, ?hy155⟩, fun _ => rfl⟩ ?_
            case hy155 => (intro w; go_simp; try with_reducible rfl)
            go_simp
            refine wpAnyIn_ready (rs := [17]) (by kernel_rfl) (by simp) (AllReadyIn.cons rfl (fun K hK => ?_) AllReadyIn.nil)
            refine step_appendN (news := []) (m := 0) (v := _) (k := 1) (xs := [.int .i64 k, str v]) (base := base) (size := 2) (by rfl) _ _ 27 (by rfl) Try.underlying27 hi hz0 hz1 hz2 (by rfl) (by decide) (by rfl) TA (srcN_eq (srcN_nil) (by rfl)) (by simp) (flatR_one []) (bndR _ _ (by omega) (by omega)).1 (bndR _ _ (by omega) (by omega)).2 (Nat.le_trans H.sz H.fr.size) ?_
            intro v1 W' r1 g1
            refine hK _ _ ?_
            clear hK K
            have H := H.grown g1 (fun j e => by cases e; exact hTB)
            clear g1 TA
            go_simp
            refine wpAnyIn_ready (rs := [18]) (by kernel_rfl) (by simp) (AllReadyIn.cons rfl (fun K hK => ?_) AllReadyIn.nil)
            refine step_appendN (news := [.int .i64 k, str v] ++ []) (m := 1 + 0) (v := _) (k := 0) (xs := []) (base := base) (size := 2) (by rfl) _ _ 27 (by rfl) Try.underlying27 hi hz0 hz1 hz2 (by rfl) (by decide) (by rfl) (World.ownsRow_nil _ base _ _) (srcN_eq (srcN_row r1) (by rfl)) r1.1 (news_one _ _ []) (bndR _ _ (by omega) (by omega)).1 (bndR _ _ (by omega) (by omega)).2 (Nat.le_trans H.sz H.fr.size) ?_
            intro v2 W' r2 g2
            refine hK _ _ ?_
            clear hK K
            go_simp
            refine wpAnyIn_take (i := 19) (v := ?v156) rfl rfl (by kernel_rfl) (by kernel_rfl) (by kernel_rfl) (fun _ _ _ h => h) ⟨Or.inl ⟨by rfl, ?hy156⟩, fun _ => rfl⟩ ?_
            case hy156 => (intro w; go_simp; try with_reducible rfl)
            go_simp
            refine wpAnyIn_take (i := 20) (v := ?v157) rfl rfl (by kernel_rfl) (by kernel_rfl) (by kernel_rfl) (fun _ _ _ h => h) ⟨Or.inl ⟨by rfl, ?hy157⟩, fun _ => rfl⟩ ?_
            case hy157 => (intro w; go_simp; try with_reducible rfl)
            go_simp
            have hcnt : 0 + (1 + 0) = (insK k v ([] : List (Int × List UInt8))).length := by rw [HIN.out]; simp
            have hr2 : W'.ownsRow base 39 2 v2 (insK k v ([] : List (Int × List UInt8))).length (flatR (insK k v ([] : List (Int × List UInt8)))) := by rw [← hcnt, HIN.out, flatR_app]; simpa [flatR] using r2
            obtain ⟨gn, cn, rfl⟩ := ownsRow_succ (k := ([] : List (Int × List UInt8)).length) (show W'.ownsRow base 39 2 v2 (([] : List (Int × List UInt8)).length + 1) (flatR (insK k v ([] : List (Int × List UInt8)))) by have e : (insK k v ([] : List (Int × List UInt8))).length = ([] : List (Int × List UInt8)).length + 1 := (by have := hcnt; first | omega | (simp only [List.length_nil]; omega)); rw [← e]; exact hr2)
            clear hcnt
            have hfin := H.done (dst := .slice none 0 0) (.inl rfl) g2 hr2 (insK_ris k v HR.out.ris)
            have cq := (H.box.kept g2 (fun e => by cases e)).cell
            have fq := (H.box.kept g2 (fun e => by cases e)).frozen
            refine wpAnyIn_ready (rs := [21]) (by kernel_rfl) (by simp) (AllReadyIn.cons rfl (fun K hK => ?_) AllReadyIn.nil)
            go_simp
            refine hK _ _ ?_
            clear hK K cq fq
            refine wpAnyIn_done (by kernel_rfl) ?_ _
            gi_wp2
            go_ret
            exact ⟨true, _, rfl, ⟨fun _ => HNO.out, fun _ => rfl⟩, hfin.1, hfin.2⟩
          · refine step_appendN (news := []) (m := 0) (v := _) (k := 1) (xs := [.int .i64 k, str v]) (base := base) (size := 2) (by rfl) _ _ 27 (by rfl) Try.underlying27 hi hz0 hz1 hz2 (by rfl) (by decide) (by rfl) TA (srcN_eq (srcN_nil) (by rfl)) (by simp) (flatR_one []) (bndR _ _ (by omega) (by omega)).1 (bndR _ _ (by omega) (by omega)).2 (Nat.le_trans H.sz H.fr.size) ?_
            intro v1 W' r1 g1
            refine hK _ _ ?_
            clear hK K
            have H := H.grown g1 (fun j e => by cases e; exact hTB)
            clear g1 TA
            go_simp
            refine wpAnyIn_ready (rs := [4]) (by kernel_rfl) (by simp) (AllReadyIn.cons rfl (fun K hK => ?_) AllReadyIn.nil)
            have cq := H.box.cell
            go_simp
            refine hK _ _ ?_
            clear hK K cq
            refine wpAnyIn_take (i := 6) (v := ?v158) rfl rfl (by kernel_rfl) (by kernel_rfl) (by kernel_rfl) (fun _ _ _ h => h) ⟨Or.inl ⟨by rfl, ?hy158⟩, fun _ => rfl⟩ ?_
            case hy158 => (intro w; go_simp; try with_reducible rfl)
            go_simp
            refine wpAnyIn_ready (rs := [18]) (by kernel_rfl) (by simp) (AllReadyIn.cons rfl (fun K hK => ?_) AllReadyIn.nil)
            refine step_appendN (news := [.int .i64 k, str v] ++ []) (m := 1 + 0) (v := _) (k := 0) (xs := []) (base := base) (size := 2) (by rfl) _ _ 27 (by rfl) Try.underlying27 hi hz0 hz1 hz2 (by rfl) (by decide) (by rfl) (World.ownsRow_nil _ base _ _) (srcN_eq (srcN_row r1) (by rfl)) r1.1 (news_one _ _ []) (bndR _ _ (by omega) (by omega)).1 (bndR _ _ (by omega) (by omega)).2 (Nat.le_trans H.sz H.fr.size) ?_
            intro v2 W' r2 g2
            refine hK _ _ ?_
            clear hK K
            go_simp
            refine wpAnyIn_take (i := 19) (v := ?v159) rfl rfl (by kernel_rfl) (by kernel_rfl) (by kernel_rfl) (fun _ _ _ h => h) ⟨Or.inl ⟨by rfl, ?hy159⟩, fun _ => rfl⟩ ?_
            case hy159 => (intro w; go_simp; try with_reducible rfl)
            go_simp
            refine wpAnyIn_take (i := 20) (v := ?v160) rfl rfl (by kernel_rfl) (by kernel_rfl) (by kernel_rfl) (fun _ _ _ h => h) ⟨Or.inl ⟨by rfl, ?hy160⟩, fun _ => rfl⟩ ?_
            case hy160 => (intro w; go_simp; try with_reducible rfl)
            go_simp
            have hcnt : 0 + (1 + 0) = (insK k v ([] : List (Int × List UInt8))).length := by rw [HIN.out]; simp
            have hr2 : W'.ownsRow base 39 2 v2 (insK k v ([] : List (Int × List UInt8))).length (flatR (insK k v ([] : List (Int × List UInt8)))) := by rw [← hcnt, HIN.out, flatR_app]; simpa [flatR] using r2
            obtain ⟨gn, cn, rfl⟩ := ownsRow_succ (k := ([] : List (Int × List UInt8)).length) (show W'.ownsRow base 39 2 v2 (([] : List (Int × List UInt8)).length + 1) (flatR (insK k v ([] : List (Int × List UInt8)))) by have e : (insK k v ([] : List (Int × List UInt8))).length = ([] : List (Int × List UInt8)).length + 1 := (by have := hcnt; first | omega | (simp only [List.length_nil]; omega)); rw [← e]; exact hr2)
            clear hcnt
            have hfin := H.done (dst := .slice none 0 0) (.inl rfl) g2 hr2 (insK_ris k v HR.out.ris)
            have cq := (H.box.kept g2 (fun e => by cases e)).cell
            have fq := (H.box.kept g2 (fun e => by cases e)).frozen
            refine wpAnyIn_ready (rs := [21]) (by kernel_rfl) (by simp) (AllReadyIn.cons rfl (fun K hK => ?_) AllReadyIn.nil)
            go_simp
            refine hK _ _ ?_
            clear hK K cq fq
            refine wpAnyIn_done (by kernel_rfl) ?_ _
            gi_wp2
            go_ret
            exact ⟨true, _, rfl, ⟨fun _ => HNO.out, fun _ => rfl⟩, hfin.1, hfin.2⟩
      -- END NIL
end Go.Proofs.Ytdkplhfbcpobaaa
