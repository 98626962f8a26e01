/- hbllaw2's meanwhile. -/
import Derived.Test.YtdkplhfbcpobaaaMeanM
import Derived.LoopNIn
import Derived.LoopIn
namespace Go.Proofs.Ytdkplhfbcpobaaa
open Go.RowKit
attribute [local go_sem] Oper.semAt_some wide_fn wide_depth

theorem ints_form {w : World} {base : Nat} {v : Value} {xs : List Value} {x : Value} (h : RowI w base v (xs ++ [x])) : ∃ g cap, v = .slice (some ⟨g, 0, none⟩) (xs.length + 1) cap := by
  rcases h.2 with ⟨_, h2⟩ | ⟨g, cap, _, e, _⟩
  · simp at h2
  · exact ⟨g, cap, by simpa using e⟩
set_option maxRecDepth 100000 in
set_option maxHeartbeats 8000000 in
theorem mean_any {w : World} {b n0 cv : Nat} {t : Tr} {L : List (Int × List UInt8)} {l : List OpV} {av : Option Addr} (h : TInv w b n0 t) (hn : n0 ≤ 1000) (hp : prs t = L.map encP) (hr : RisK L) (hl : l.length ≤ 1000) (hok : ∀ x ∈ l, x.ok)
    (hc : l ≠ [] → ∃ bA oA, av = some ⟨bA, oA, none⟩ ∧ ∀ i (h : i < l.length), ∀ W, Below b w W → W.cell? ⟨bA, oA + i * 4 + 1, none⟩ = some (.int .i64 l[i].k) ∧ W.cell? ⟨bA, oA + i * 4 + 2, none⟩ = some (.int .i64 l[i].hi)) :
    Calls Try.prog 26 #[.pointer (some ⟨b, 0, none⟩), .slice av l.length cv] w fun e w' => ∃ v, e = .returned v ∧ RdV w' v (L.map fun p => Value.int .i64 p.1) ∧ (∀ k, k < w.heap.size → k ≠ b → w'.heap[k]? = w.heap[k]?) ∧ Below b w w' := by
  have hm : Try.prog.follows .mixedOrders = true := by kernel_rfl
  have hdd : ∀ k : Nat, (Fence.wide.depth.isSome = true → 1 ≤ k) := fun k h => by cases h
  obtain ⟨i0, hi, hz0, hz1, hz2⟩ := info_parts infoKIS
  have hb := h.mp.lt
  have hxl : (prs t).length ≤ 1000 := by have := h.len; omega
  have HT := Lib.hid (And.intro h (And.intro hp hr))
  have HOK := Lib.hid hok
  have HC := Lib.hid hc
  clear h hp hr hok hc
  refine (callsIn_wide (n := 9)).1 ?_
  refine callsIn_of_wp_marks Try.func26 rfl trivial ?_ rfl
  simp only [Try.ntmps26, List.size_toArray, List.length_cons, List.length_nil, Nat.reduceAdd, Nat.reduceSub, Array.replicate_succ, Array.replicate_zero, List.push_toArray, List.append_toArray, List.nil_append, List.cons_append]
  gi_wp2_with fail
  obtain ⟨w3, hw3⟩ : ∃ w3, w3 = (((w.alloc (.cells #[.pointer (some ⟨b, 0, none⟩)] 24)).alloc (.cells #[.slice av l.length cv] 22)).alloc (.cells #[.slice none 0 0] 42)).alloc (.cells #[.int .i64 0] 3) := ⟨_, rfl⟩
  rw [← hw3]
  have hl3 : Below w.heap.size w w3 := by rw [hw3]; exact ((((Below.refl _ w).alloc (Nat.le_refl _) _).alloc (by simp) _).alloc (by simp; omega) _).alloc (by simp; omega) _
  have hs3 : w3.heap.size = w.heap.size + 4 := by rw [hw3]; simp
  have bm := Boxed.new w 24 (.pointer (some ⟨b, 0, none⟩))
  have bl := Boxed.new (w.alloc (.cells #[.pointer (some ⟨b, 0, none⟩)] 24)) 22 (.slice av l.length cv)
  have bo := Boxed.new ((w.alloc (.cells #[.pointer (some ⟨b, 0, none⟩)] 24)).alloc (.cells #[.slice av l.length cv] 22)) 42 (.slice none 0 0)
  have bi := Boxed.new (((w.alloc (.cells #[.pointer (some ⟨b, 0, none⟩)] 24)).alloc (.cells #[.slice av l.length cv] 22)).alloc (.cells #[.slice none 0 0] 42)) 3 (.int .i64 0)
  simp only [World.size_alloc] at bl bo bi
  have bm3 : Boxed w3 w.heap.size 24 (.pointer (some ⟨b, 0, none⟩)) := by rw [hw3]; exact ((bm.alloc _).alloc _).alloc _
  have bl3 : Boxed w3 (w.heap.size + 1) 22 (.slice av l.length cv) := by rw [hw3]; exact (bl.alloc _).alloc _
  have bo3 : Boxed w3 (w.heap.size + 2) 42 (.slice none 0 0) := by rw [hw3]; exact bo.alloc _
  have bi3 : Boxed w3 (w.heap.size + 3) 3 (.int .i64 0) := by rw [hw3]; exact bi
  clear bm bl bo bi hw3
  have hfn := fnil2IS 48 #[.pointer (some ⟨w3.heap.size, 0, none⟩)]
  refine (callsIn_wide.2 (mallIS_any b w3)).mono ?_
  rintro e w4 ⟨rfl, hw4⟩
  have h4 : w4.heap.size = w.heap.size + 5 := by rw [hw4]; simp; omega
  have l4 : Below w3.heap.size w3 w4 := by rw [hw4]; exact below_alloc w3 _
  have hseq : ∀ W', Below w4.heap.size w4 W' → Seqs Try.prog 48 #[.pointer (some ⟨w3.heap.size, 0, none⟩)] (fun p : Value × Value => #[p.1, p.2]) (NK w4) (fun T => T = 3) (prs t) W' := by
    intro W' hW'
    have e4 := hw4
    have := range_all (Wr := fun T => T = 3) (HT.out.1.below hl3).mp W'
    rw [← e4] at this
    exact this (hW'.mono (by omega))
  have H0 : MwS w w4 b l av cv [] 0 n0 w4 := by
    obtain ⟨g1, g2, g3⟩ := HT.out
    have hk : ∀ k, k < w3.heap.size → w4.heap[k]? = w3.heap[k]? := l4.block
    exact ⟨⟨_, (hk _ (by omega)).trans bo3, RowI.nil _ _⟩, (hk _ (by omega)).trans bi3, (hk _ (by omega)).trans bm3, (hk _ (by omega)).trans bl3, NK.refl _, ⟨t, L, (g1.below hl3).below l4, g2, g3⟩, fun k q _ => (hk k (by omega)).trans (hl3.block k q), (hl3.mono (by omega)).trans (l4.mono (by omega))⟩
  clear hl3 bm3 bl3 bo3 bi3 hw4 l4
  have HH := Lib.hid h4
  clear hs3 h4
  gi_wp2
  refine range_law (gf := 48) (lb := #[.pointer (some ⟨w3.heap.size, 0, none⟩)]) rfl (enters_of Try.func48 (by kernel_rfl) rfl) (Ok := NK w4) (Wr := fun T => T = 3) (xs := prs t) hseq (by intro x; rfl)
    (fun pre W => MwS w w4 b l av cv (pre.map (·.1)) pre.length (n0 + pre.length) W) (fun _ _ _ => False)
    (mwS_own hb HH.out _ _ _) (fun c => ownFrom_pure _ (fun _ : List (Value × Value) => False)) H0 (fun pre W h => h.nk)
    (fun x => { tmps := #[.pointer (some ⟨b, 0, none⟩), .slice av l.length cv, .pointer (some ⟨w.heap.size, 0, none⟩), .pointer (some ⟨w.heap.size + 1, 0, none⟩), .slice none 0 0, .pointer (some ⟨w.heap.size + 1 + 1, 0, none⟩), .pointer (some ⟨w.heap.size + 1 + 1 + 1, 0, none⟩), .func (.func 48) #[] #[.pointer (some ⟨w3.heap.size, 0, none⟩)], x.1, .pointer (some ⟨b, 0, none⟩), .func (.func 48) #[] #[.pointer (some ⟨w3.heap.size, 0, none⟩)], .func (.func 48) #[] #[.pointer (some ⟨w3.heap.size, 0, none⟩)], .bool false, .func (.func 48) #[] #[.pointer (some ⟨w3.heap.size, 0, none⟩)], x.1, x.2, undef, undef, undef, undef, undef, undef, undef, undef, undef, undef, undef, undef, undef, undef, undef, undef, undef, undef, undef, undef, undef, undef, undef, undef, undef], defers := [] }) ?assign ?body ?done ?stop
  case assign =>
    intro l x W K hK
    gi_wp2
    exact hK
  case body =>
    rintro l2 pre ⟨kx, kv⟩ W hl2 hI ⟨tl, ht⟩
    obtain ⟨⟨kn, rfl, _⟩, _⟩ := ws_keys HT.out.1.ws (kx, kv) (by rw [ht]; simp)
    dsimp only
    have hpl : pre.length < 1000 := by rw [ht] at hxl; simp at hxl; omega
    obtain ⟨v, hv, hrow⟩ := hI.out
    have c5 : W.cell? ⟨w.heap.size + 1 + 1, 0, none⟩ = some v := hv.cell
    clear hseq H0
    have hfin : ∀ W7 tn, tn ≤ n0 + pre.length + 1 → MwS w w4 b l av cv (pre.map (·.1) ++ [.int .i64 kn]) pre.length tn W7 → KT (fun T => T = 3) w4.heap.size W W7 →
        KT (fun T => T = 3) w4.heap.size W (W7.setCell ⟨w.heap.size + 1 + 1 + 1, 0, none⟩ (.int .i64 ((pre.length : Int) + 1))) ∧ MwS w w4 b l av cv ((pre ++ [((.int .i64 kn : Value), kv)]).map (·.1)) (pre ++ [((.int .i64 kn : Value), kv)]).length (n0 + (pre ++ [((.int .i64 kn : Value), kv)]).length) (W7.setCell ⟨w.heap.size + 1 + 1 + 1, 0, none⟩ (.int .i64 ((pre.length : Int) + 1))) := by
      intro W7 tn h1 h2 h3
      obtain ⟨h5, h6⟩ := h2.cnt hb HH.out (pre.length + 1)
      refine ⟨h3.trans h6, ?_⟩
      rw [List.map_append, List.length_append]
      exact h5.more (by simp; omega)
    by_cases hlt : pre.length < l.length
    · obtain ⟨bA, oA, rfl, hcel⟩ := HC.out (by rintro rfl; simp at hlt)
      have q1 : (0 : Int) ≤ (pre.length : Int) := by omega
      have q2 : (pre.length : Int) < (l.length : Int) := by omega
      obtain ⟨kk, hkk⟩ : ∃ kk, kk = l[pre.length].k := ⟨_, rfl⟩
      obtain ⟨kh, hkh⟩ : ∃ kh, kh = l[pre.length].hi := ⟨_, rfl⟩
      have HCEL : Hid (∀ W, Below b w W → W.cell? ⟨bA, oA + pre.length * 4 + 1, none⟩ = some (.int .i64 kk) ∧ W.cell? ⟨bA, oA + pre.length * 4 + 2, none⟩ = some (.int .i64 kh)) := Lib.hid (by rw [hkk, hkh]; exact hcel pre.length hlt)
      have hok := HOK.out _ (List.getElem_mem hlt)
      have ksk : KSIS (.int .i64 kk) := ⟨kk, rfl, by rw [hkk]; exact hok.2.1⟩
      have ksh : KSIS (.int .i64 kh) := ⟨kh, rfl, by rw [hkh]; exact hok.2.2.1⟩
      clear hcel hok hkk hkh HC HOK
      gi_wp2_with (gi_at_builtin; refine wpListIn_append_run _ rfl _ _ 42 rfl rfl rfl (fun v' w' => RowI w' (w.heap.size + 4) v' (pre.map (·.1) ++ [.int .i64 kn]) ∧ (W.alloc (.cells #[.int .i64 kn] 3)).grownBy w' v.ownBlock) (append_ints (W.alloc (.cells #[.int .i64 kn] 3)) Try.underlying42 hi hz0 hz1 hz2 (hrow.turn (fun g cur _ hc => (below_alloc W _).block g (Array.getElem?_eq_some_iff.1 hc).1 |>.trans hc)) (cell_one_new _ _ _) (by simp; omega) (by have := hI.nk.1; have := HH.out; simp; omega)) ?_; rintro v' w1 ⟨hr1, hg1⟩; obtain ⟨hv1, hS, hKT⟩ := hI.app hb HH.out hv hrow hr1 hg1; obtain ⟨g', cap', hvv⟩ := ints_form hr1; rw [List.length_map] at hvv; subst hvv; have hc1 : w1.cell? ⟨w.heap.size + 1 + 1, 0, none⟩ = some v := hv1.cell; have hf1 : w1.frozen? ⟨w.heap.size + 1 + 1, 0, none⟩ = false := hv1.frozen; have c6 : (w1.setCell ⟨w.heap.size + 1 + 1, 0, none⟩ (.slice (some ⟨g', 0, none⟩) (pre.length + 1) cap')).cell? ⟨w.heap.size + 1 + 1 + 1, 0, none⟩ = some (.int .i64 (pre.length : Int)) := hS.bi.cell; have f6 : (w1.setCell ⟨w.heap.size + 1 + 1, 0, none⟩ (.slice (some ⟨g', 0, none⟩) (pre.length + 1) cap')).frozen? ⟨w.heap.size + 1 + 1 + 1, 0, none⟩ = false := hS.bi.frozen; have c3 : (w1.setCell ⟨w.heap.size + 1 + 1, 0, none⟩ (.slice (some ⟨g', 0, none⟩) (pre.length + 1) cap')).cell? ⟨w.heap.size + 1, 0, none⟩ = some (.slice (some ⟨bA, oA, none⟩) l.length cv) := hS.bl.cell; clear hr1 hg1 hv1)
      · clear hv hrow hc1 hf1 hI c5
        obtain ⟨W9, hW9⟩ : ∃ W9, W9 = (w1.setCell ⟨w.heap.size + 1 + 1, 0, none⟩ (.slice (some ⟨g', 0, none⟩) (pre.length + 1) cap')).drew := ⟨_, rfl⟩
        have S9 : MwS w w4 b l (some ⟨bA, oA, none⟩) cv (pre.map (·.1) ++ [.int .i64 kn]) pre.length (n0 + pre.length) W9 := by rw [hW9]; exact hS.drew hb HH.out
        have K9 : KT (fun T => T = 3) w4.heap.size W W9 := by rw [hW9]; exact hKT.trans (KT.drew _ _ _)
        obtain ⟨z, hC5⟩ := S9.del hb HH.out (by omega) ksk
        have HC5 := Lib.hid (callsIn_wide (n := 6).2 hC5)
        have d2 : W9.cell? ⟨w.heap.size, 0, none⟩ = some (.pointer (some ⟨b, 0, none⟩)) := S9.bm.cell
        have d3 : W9.cell? ⟨w.heap.size + 1, 0, none⟩ = some (.slice (some ⟨bA, oA, none⟩) l.length cv) := S9.bl.cell
        have d6 : W9.cell? ⟨w.heap.size + 1 + 1 + 1, 0, none⟩ = some (.int .i64 (pre.length : Int)) := S9.bi.cell
        have dk : W9.cell? ⟨bA, oA + pre.length * 4 + 1, none⟩ = some (.int .i64 kk) := (HCEL.out W9 S9.bb).1
        clear hC5 hKT hS c6 f6 c3
        refine cut_region (fun a W6 => (∃ q16 q17 q18 q19 q20 q21 q22 q23 q24 q25 q26 q27 q28 q29 q30 q31 q32 q33 q34 q35 q36 q37, a = { tmps := #[.pointer (some ⟨b, 0, none⟩), .slice (some ⟨bA, oA, none⟩) l.length cv, .pointer (some ⟨w.heap.size, 0, none⟩), .pointer (some ⟨w.heap.size + 1, 0, none⟩), .slice none 0 0, .pointer (some ⟨w.heap.size + 1 + 1, 0, none⟩), .pointer (some ⟨w.heap.size + 1 + 1 + 1, 0, none⟩), .func (.func 48) #[] #[.pointer (some ⟨w3.heap.size, 0, none⟩)], .int .i64 kn, .pointer (some ⟨b, 0, none⟩), .func (.func 48) #[] #[.pointer (some ⟨w3.heap.size, 0, none⟩)], .func (.func 48) #[] #[.pointer (some ⟨w3.heap.size, 0, none⟩)], .bool false, .func (.func 48) #[] #[.pointer (some ⟨w3.heap.size, 0, none⟩)], .int .i64 kn, kv, q16, q17, q18, q19, q20, q21, q22, q23, q24, q25, q26, q27, q28, q29, q30, q31, q32, q33, q34, q35, q36, q37, undef, undef, undef], defers := [] }) ∧ Kept (MwS w w4 b l (some ⟨bA, oA, none⟩) cv (pre.map (·.1) ++ [.int .i64 kn]) pre.length (n0 + pre.length) W6 ∧ KT (fun T => T = 3) w4.heap.size W9 W6)) ?_ ?_
        · clear S9 K9 hfin
          refine wpIn_region_any hm ?_
          change wpAnyIn _ _ _ _ _ _ _ _ _ (World.drew _)
          rw [← hW9]
          refine any_inRound rfl (by kernel_rfl) _ _ _ _ ?_
          clear hW9
          -- RA
          refine wpAnyIn_ready (rs := [0, 1, 2]) (by kernel_rfl) (by simp) (AllReadyIn.cons rfl (fun K hK => ?_) (AllReadyIn.cons rfl (fun K hK => ?_) (AllReadyIn.cons rfl (fun K hK => ?_) AllReadyIn.nil)))
          · go_simp
            refine hK _ _ ?_
            clear hK K
            refine wpAnyIn_ready (rs := [1, 2]) (by kernel_rfl) (by simp) (AllReadyIn.cons rfl (fun K hK => ?_) (AllReadyIn.cons rfl (fun K hK => ?_) AllReadyIn.nil))
            · go_simp
              refine hK _ _ ?_
              clear hK K
              refine wpAnyIn_ready (rs := [2]) (by kernel_rfl) (by simp) (AllReadyIn.cons rfl (fun K hK => ?_) AllReadyIn.nil)
              go_simp
              refine hK _ _ ?_
              clear hK K
              refine wpAnyIn_take (i := 3) (v := ?v1) rfl rfl (by kernel_rfl) (by kernel_rfl) (by kernel_rfl) (fun _ _ _ h => (nomatch h.1)) ⟨Or.inl ⟨by rfl, ?hy1⟩, fun _ => rfl⟩ ?_
              case hy1 => (intro w; go_simp; try with_reducible rfl)
              go_simp
              refine wpAnyIn_take (i := 4) (v := ?v2) rfl rfl (by kernel_rfl) (by kernel_rfl) (by kernel_rfl) (fun _ _ _ h => (nomatch h.1)) ⟨Or.inl ⟨by rfl, ?hy2⟩, fun _ => rfl⟩ ?_
              case hy2 => (intro w; go_simp; try with_reducible rfl)
              go_simp
              refine wpAnyIn_ready (rs := [5]) (by kernel_rfl) (by simp) (AllReadyIn.cons rfl (fun K hK => ?_) AllReadyIn.nil)
              go_simp
              refine hK _ _ ?_
              clear hK K
              refine wpAnyIn_ready (rs := [6]) (by kernel_rfl) (by simp) (AllReadyIn.cons rfl (fun K hK => ?_) AllReadyIn.nil)
              go_simp
              first | refine ⟨trivial, hdd _, HC5.out.mono ?_⟩ | refine HC5.out.mono ?_ | refine ⟨hdd _, HC5.out.mono ?_⟩ | refine ⟨trivial, HC5.out.mono ?_⟩
              rintro e W6 ⟨rfl, hS6, hK6⟩
              refine hK _ _ ?_
              clear hK K
              refine wpAnyIn_done (by kernel_rfl) ?_ _
              exact ⟨rfl, ⟨_, _, _, _, _, _, _, _, _, _, _, _, _, _, _, _, _, _, _, _, _, _, rfl⟩, Kept.intro ⟨hS6, hK6⟩⟩
            · go_simp
              refine hK _ _ ?_
              clear hK K
              refine wpAnyIn_ready (rs := [1]) (by kernel_rfl) (by simp) (AllReadyIn.cons rfl (fun K hK => ?_) AllReadyIn.nil)
              go_simp
              refine hK _ _ ?_
              clear hK K
              refine wpAnyIn_take (i := 3) (v := ?v3) rfl rfl (by kernel_rfl) (by kernel_rfl) (by kernel_rfl) (fun _ _ _ h => (nomatch h.1)) ⟨Or.inl ⟨by rfl, ?hy3⟩, fun _ => rfl⟩ ?_
              case hy3 => (intro w; go_simp; try with_reducible rfl)
              go_simp
              refine wpAnyIn_take (i := 4) (v := ?v4) rfl rfl (by kernel_rfl) (by kernel_rfl) (by kernel_rfl) (fun _ _ _ h => (nomatch h.1)) ⟨Or.inl ⟨by rfl, ?hy4⟩, fun _ => rfl⟩ ?_
              case hy4 => (intro w; go_simp; try with_reducible rfl)
              go_simp
              refine wpAnyIn_ready (rs := [5]) (by kernel_rfl) (by simp) (AllReadyIn.cons rfl (fun K hK => ?_) AllReadyIn.nil)
              go_simp
              refine hK _ _ ?_
              clear hK K
              refine wpAnyIn_ready (rs := [6]) (by kernel_rfl) (by simp) (AllReadyIn.cons rfl (fun K hK => ?_) AllReadyIn.nil)
              go_simp
              first | refine ⟨trivial, hdd _, HC5.out.mono ?_⟩ | refine HC5.out.mono ?_ | refine ⟨hdd _, HC5.out.mono ?_⟩ | refine ⟨trivial, HC5.out.mono ?_⟩
              rintro e W6 ⟨rfl, hS6, hK6⟩
              refine hK _ _ ?_
              clear hK K
              refine wpAnyIn_done (by kernel_rfl) ?_ _
              exact ⟨rfl, ⟨_, _, _, _, _, _, _, _, _, _, _, _, _, _, _, _, _, _, _, _, _, _, rfl⟩, Kept.intro ⟨hS6, hK6⟩⟩
          · go_simp
            refine hK _ _ ?_
            clear hK K
            refine wpAnyIn_ready (rs := [0, 2]) (by kernel_rfl) (by simp) (AllReadyIn.cons rfl (fun K hK => ?_) (AllReadyIn.cons rfl (fun K hK => ?_) AllReadyIn.nil))
            · go_simp
              refine hK _ _ ?_
              clear hK K
              refine wpAnyIn_ready (rs := [2]) (by kernel_rfl) (by simp) (AllReadyIn.cons rfl (fun K hK => ?_) AllReadyIn.nil)
              go_simp
              refine hK _ _ ?_
              clear hK K
              refine wpAnyIn_take (i := 3) (v := ?v5) rfl rfl (by kernel_rfl) (by kernel_rfl) (by kernel_rfl) (fun _ _ _ h => (nomatch h.1)) ⟨Or.inl ⟨by rfl, ?hy5⟩, fun _ => rfl⟩ ?_
              case hy5 => (intro w; go_simp; try with_reducible rfl)
              go_simp
              refine wpAnyIn_take (i := 4) (v := ?v6) rfl rfl (by kernel_rfl) (by kernel_rfl) (by kernel_rfl) (fun _ _ _ h => (nomatch h.1)) ⟨Or.inl ⟨by rfl, ?hy6⟩, fun _ => rfl⟩ ?_
              case hy6 => (intro w; go_simp; try with_reducible rfl)
              go_simp
              refine wpAnyIn_ready (rs := [5]) (by kernel_rfl) (by simp) (AllReadyIn.cons rfl (fun K hK => ?_) AllReadyIn.nil)
              go_simp
              refine hK _ _ ?_
              clear hK K
              refine wpAnyIn_ready (rs := [6]) (by kernel_rfl) (by simp) (AllReadyIn.cons rfl (fun K hK => ?_) AllReadyIn.nil)
              go_simp
              first | refine ⟨trivial, hdd _, HC5.out.mono ?_⟩ | refine HC5.out.mono ?_ | refine ⟨hdd _, HC5.out.mono ?_⟩ | refine ⟨trivial, HC5.out.mono ?_⟩
              rintro e W6 ⟨rfl, hS6, hK6⟩
              refine hK _ _ ?_
              clear hK K
              refine wpAnyIn_done (by kernel_rfl) ?_ _
              exact ⟨rfl, ⟨_, _, _, _, _, _, _, _, _, _, _, _, _, _, _, _, _, _, _, _, _, _, rfl⟩, Kept.intro ⟨hS6, hK6⟩⟩
            · go_simp
              refine hK _ _ ?_
              clear hK K
              refine wpAnyIn_take (i := 3) (v := ?v7) rfl rfl (by kernel_rfl) (by kernel_rfl) (by kernel_rfl) (fun _ _ _ h => (nomatch h.1)) ⟨Or.inl ⟨by rfl, ?hy7⟩, fun _ => rfl⟩ ?_
              case hy7 => (intro w; go_simp; try with_reducible rfl)
              go_simp
              refine wpAnyIn_take (i := 4) (v := ?v8) rfl rfl (by kernel_rfl) (by kernel_rfl) (by kernel_rfl) (fun _ _ _ h => (nomatch h.1)) ⟨Or.inl ⟨by rfl, ?hy8⟩, fun _ => rfl⟩ ?_
              case hy8 => (intro w; go_simp; try with_reducible rfl)
              go_simp
              refine wpAnyIn_ready (rs := [0, 5]) (by kernel_rfl) (by simp) (AllReadyIn.cons rfl (fun K hK => ?_) (AllReadyIn.cons rfl (fun K hK => ?_) AllReadyIn.nil))
              · go_simp
                refine hK _ _ ?_
                clear hK K
                refine wpAnyIn_ready (rs := [5]) (by kernel_rfl) (by simp) (AllReadyIn.cons rfl (fun K hK => ?_) AllReadyIn.nil)
                go_simp
                refine hK _ _ ?_
                clear hK K
                refine wpAnyIn_ready (rs := [6]) (by kernel_rfl) (by simp) (AllReadyIn.cons rfl (fun K hK => ?_) AllReadyIn.nil)
                go_simp
                first | refine ⟨trivial, hdd _, HC5.out.mono ?_⟩ | refine HC5.out.mono ?_ | refine ⟨hdd _, HC5.out.mono ?_⟩ | refine ⟨trivial, HC5.out.mono ?_⟩
                rintro e W6 ⟨rfl, hS6, hK6⟩
                refine hK _ _ ?_
                clear hK K
                refine wpAnyIn_done (by kernel_rfl) ?_ _
                exact ⟨rfl, ⟨_, _, _, _, _, _, _, _, _, _, _, _, _, _, _, _, _, _, _, _, _, _, rfl⟩, Kept.intro ⟨hS6, hK6⟩⟩
              · go_simp
                refine hK _ _ ?_
                clear hK K
                refine wpAnyIn_ready (rs := [0]) (by kernel_rfl) (by simp) (AllReadyIn.cons rfl (fun K hK => ?_) AllReadyIn.nil)
                go_simp
                refine hK _ _ ?_
                clear hK K
                refine wpAnyIn_ready (rs := [6]) (by kernel_rfl) (by simp) (AllReadyIn.cons rfl (fun K hK => ?_) AllReadyIn.nil)
                go_simp
                first | refine ⟨trivial, hdd _, HC5.out.mono ?_⟩ | refine HC5.out.mono ?_ | refine ⟨hdd _, HC5.out.mono ?_⟩ | refine ⟨trivial, HC5.out.mono ?_⟩
                rintro e W6 ⟨rfl, hS6, hK6⟩
                refine hK _ _ ?_
                clear hK K
                refine wpAnyIn_done (by kernel_rfl) ?_ _
                exact ⟨rfl, ⟨_, _, _, _, _, _, _, _, _, _, _, _, _, _, _, _, _, _, _, _, _, _, rfl⟩, Kept.intro ⟨hS6, hK6⟩⟩
          · go_simp
            refine hK _ _ ?_
            clear hK K
            refine wpAnyIn_ready (rs := [0, 1]) (by kernel_rfl) (by simp) (AllReadyIn.cons rfl (fun K hK => ?_) (AllReadyIn.cons rfl (fun K hK => ?_) AllReadyIn.nil))
            · go_simp
              refine hK _ _ ?_
              clear hK K
              refine wpAnyIn_ready (rs := [1]) (by kernel_rfl) (by simp) (AllReadyIn.cons rfl (fun K hK => ?_) AllReadyIn.nil)
              go_simp
              refine hK _ _ ?_
              clear hK K
              refine wpAnyIn_take (i := 3) (v := ?v9) rfl rfl (by kernel_rfl) (by kernel_rfl) (by kernel_rfl) (fun _ _ _ h => (nomatch h.1)) ⟨Or.inl ⟨by rfl, ?hy9⟩, fun _ => rfl⟩ ?_
              case hy9 => (intro w; go_simp; try with_reducible rfl)
              go_simp
              refine wpAnyIn_take (i := 4) (v := ?v10) rfl rfl (by kernel_rfl) (by kernel_rfl) (by kernel_rfl) (fun _ _ _ h => (nomatch h.1)) ⟨Or.inl ⟨by rfl, ?hy10⟩, fun _ => rfl⟩ ?_
              case hy10 => (intro w; go_simp; try with_reducible rfl)
              go_simp
              refine wpAnyIn_ready (rs := [5]) (by kernel_rfl) (by simp) (AllReadyIn.cons rfl (fun K hK => ?_) AllReadyIn.nil)
              go_simp
              refine hK _ _ ?_
              clear hK K
              refine wpAnyIn_ready (rs := [6]) (by kernel_rfl) (by simp) (AllReadyIn.cons rfl (fun K hK => ?_) AllReadyIn.nil)
              go_simp
              first | refine ⟨trivial, hdd _, HC5.out.mono ?_⟩ | refine HC5.out.mono ?_ | refine ⟨hdd _, HC5.out.mono ?_⟩ | refine ⟨trivial, HC5.out.mono ?_⟩
              rintro e W6 ⟨rfl, hS6, hK6⟩
              refine hK _ _ ?_
              clear hK K
              refine wpAnyIn_done (by kernel_rfl) ?_ _
              exact ⟨rfl, ⟨_, _, _, _, _, _, _, _, _, _, _, _, _, _, _, _, _, _, _, _, _, _, rfl⟩, Kept.intro ⟨hS6, hK6⟩⟩
            · go_simp
              refine hK _ _ ?_
              clear hK K
              refine wpAnyIn_take (i := 3) (v := ?v11) rfl rfl (by kernel_rfl) (by kernel_rfl) (by kernel_rfl) (fun _ _ _ h => (nomatch h.1)) ⟨Or.inl ⟨by rfl, ?hy11⟩, fun _ => rfl⟩ ?_
              case hy11 => (intro w; go_simp; try with_reducible rfl)
              go_simp
              refine wpAnyIn_take (i := 4) (v := ?v12) rfl rfl (by kernel_rfl) (by kernel_rfl) (by kernel_rfl) (fun _ _ _ h => (nomatch h.1)) ⟨Or.inl ⟨by rfl, ?hy12⟩, fun _ => rfl⟩ ?_
              case hy12 => (intro w; go_simp; try with_reducible rfl)
              go_simp
              refine wpAnyIn_ready (rs := [0, 5]) (by kernel_rfl) (by simp) (AllReadyIn.cons rfl (fun K hK => ?_) (AllReadyIn.cons rfl (fun K hK => ?_) AllReadyIn.nil))
              · go_simp
                refine hK _ _ ?_
                clear hK K
                refine wpAnyIn_ready (rs := [5]) (by kernel_rfl) (by simp) (AllReadyIn.cons rfl (fun K hK => ?_) AllReadyIn.nil)
                go_simp
                refine hK _ _ ?_
                clear hK K
                refine wpAnyIn_ready (rs := [6]) (by kernel_rfl) (by simp) (AllReadyIn.cons rfl (fun K hK => ?_) AllReadyIn.nil)
                go_simp
                first | refine ⟨trivial, hdd _, HC5.out.mono ?_⟩ | refine HC5.out.mono ?_ | refine ⟨hdd _, HC5.out.mono ?_⟩ | refine ⟨trivial, HC5.out.mono ?_⟩
                rintro e W6 ⟨rfl, hS6, hK6⟩
                refine hK _ _ ?_
                clear hK K
                refine wpAnyIn_done (by kernel_rfl) ?_ _
                exact ⟨rfl, ⟨_, _, _, _, _, _, _, _, _, _, _, _, _, _, _, _, _, _, _, _, _, _, rfl⟩, Kept.intro ⟨hS6, hK6⟩⟩
              · go_simp
                refine hK _ _ ?_
                clear hK K
                refine wpAnyIn_ready (rs := [0]) (by kernel_rfl) (by simp) (AllReadyIn.cons rfl (fun K hK => ?_) AllReadyIn.nil)
                go_simp
                refine hK _ _ ?_
                clear hK K
                refine wpAnyIn_ready (rs := [6]) (by kernel_rfl) (by simp) (AllReadyIn.cons rfl (fun K hK => ?_) AllReadyIn.nil)
                go_simp
                first | refine ⟨trivial, hdd _, HC5.out.mono ?_⟩ | refine HC5.out.mono ?_ | refine ⟨hdd _, HC5.out.mono ?_⟩ | refine ⟨trivial, HC5.out.mono ?_⟩
                rintro e W6 ⟨rfl, hS6, hK6⟩
                refine hK _ _ ?_
                clear hK K
                refine wpAnyIn_done (by kernel_rfl) ?_ _
                exact ⟨rfl, ⟨_, _, _, _, _, _, _, _, _, _, _, _, _, _, _, _, _, _, _, _, _, _, rfl⟩, Kept.intro ⟨hS6, hK6⟩⟩
          -- END RA
        · rintro a1 W6 ⟨⟨q16, q17, q18, q19, q20, q21, q22, q23, q24, q25, q26, q27, q28, q29, q30, q31, q32, q33, q34, q35, q36, q37, rfl⟩, hkept⟩
          obtain ⟨hS6, hK6⟩ := hkept.out
          have hKT := K9.trans hK6
          clear hkept S9 K9 d2 d3 d6 dk HC5 hW9 hK6
          gi_wp2_with fail
          obtain ⟨W9, hW9⟩ : ∃ W9, W9 = W6.drew := ⟨_, rfl⟩
          have S9 : MwS w w4 b l (some ⟨bA, oA, none⟩) cv (pre.map (·.1) ++ [.int .i64 kn]) pre.length (n0 + pre.length) W9 := by rw [hW9]; exact hS6.drew hb HH.out
          have K9 : KT (fun T => T = 3) w4.heap.size W W9 := by rw [hW9]; exact hKT.trans (KT.drew _ _ _)
          obtain ⟨z, hC5⟩ := S9.put hb HH.out (by omega) ksh [120]
          have HC5 := Lib.hid (callsIn_wide (n := 6).2 hC5)
          have d2 : W9.cell? ⟨w.heap.size, 0, none⟩ = some (.pointer (some ⟨b, 0, none⟩)) := S9.bm.cell
          have d3 : W9.cell? ⟨w.heap.size + 1, 0, none⟩ = some (.slice (some ⟨bA, oA, none⟩) l.length cv) := S9.bl.cell
          have d6 : W9.cell? ⟨w.heap.size + 1 + 1 + 1, 0, none⟩ = some (.int .i64 (pre.length : Int)) := S9.bi.cell
          have dk : W9.cell? ⟨bA, oA + pre.length * 4 + 2, none⟩ = some (.int .i64 kh) := (HCEL.out W9 S9.bb).2
          clear hC5 hKT hS6
          refine cut_region (fun a W6 => (∃ q16 q17 q18 q19 q20 q21 q22 q23 q24 q25 q26 q27 q28 q29 q30 q31 q32 q33 q34 q35 q36 q37, a = { tmps := #[.pointer (some ⟨b, 0, none⟩), .slice (some ⟨bA, oA, none⟩) l.length cv, .pointer (some ⟨w.heap.size, 0, none⟩), .pointer (some ⟨w.heap.size + 1, 0, none⟩), .slice none 0 0, .pointer (some ⟨w.heap.size + 1 + 1, 0, none⟩), .pointer (some ⟨w.heap.size + 1 + 1 + 1, 0, none⟩), .func (.func 48) #[] #[.pointer (some ⟨w3.heap.size, 0, none⟩)], .int .i64 kn, .pointer (some ⟨b, 0, none⟩), .func (.func 48) #[] #[.pointer (some ⟨w3.heap.size, 0, none⟩)], .func (.func 48) #[] #[.pointer (some ⟨w3.heap.size, 0, none⟩)], .bool false, .func (.func 48) #[] #[.pointer (some ⟨w3.heap.size, 0, none⟩)], .int .i64 kn, kv, q16, q17, q18, q19, q20, q21, q22, q23, q24, q25, q26, q27, q28, q29, q30, q31, q32, q33, q34, q35, q36, q37, undef, undef, undef], defers := [] }) ∧ Kept (MwS w w4 b l (some ⟨bA, oA, none⟩) cv (pre.map (·.1) ++ [.int .i64 kn]) pre.length (n0 + pre.length + 1) W6 ∧ KT (fun T => T = 3) w4.heap.size W9 W6)) ?_ ?_
          · clear S9 K9 hfin
            refine wpIn_region_any hm ?_
            change wpAnyIn _ _ _ _ _ _ _ _ _ (World.drew _)
            rw [← hW9]
            refine any_inRound rfl (by kernel_rfl) _ _ _ _ ?_
            clear hW9
            -- RB
            refine wpAnyIn_ready (rs := [0, 1, 2]) (by kernel_rfl) (by simp) (AllReadyIn.cons rfl (fun K hK => ?_) (AllReadyIn.cons rfl (fun K hK => ?_) (AllReadyIn.cons rfl (fun K hK => ?_) AllReadyIn.nil)))
            · go_simp
              refine hK _ _ ?_
              clear hK K
              refine wpAnyIn_ready (rs := [1, 2]) (by kernel_rfl) (by simp) (AllReadyIn.cons rfl (fun K hK => ?_) (AllReadyIn.cons rfl (fun K hK => ?_) AllReadyIn.nil))
              · go_simp
                refine hK _ _ ?_
                clear hK K
                refine wpAnyIn_ready (rs := [2]) (by kernel_rfl) (by simp) (AllReadyIn.cons rfl (fun K hK => ?_) AllReadyIn.nil)
                go_simp
                refine hK _ _ ?_
                clear hK K
                refine wpAnyIn_take (i := 3) (v := ?v13) rfl rfl (by kernel_rfl) (by kernel_rfl) (by kernel_rfl) (fun _ _ _ h => (nomatch h.1)) ⟨Or.inl ⟨by rfl, ?hy13⟩, fun _ => rfl⟩ ?_
                case hy13 => (intro w; go_simp; try with_reducible rfl)
                go_simp
                refine wpAnyIn_take (i := 4) (v := ?v14) rfl rfl (by kernel_rfl) (by kernel_rfl) (by kernel_rfl) (fun _ _ _ h => (nomatch h.1)) ⟨Or.inl ⟨by rfl, ?hy14⟩, fun _ => rfl⟩ ?_
                case hy14 => (intro w; go_simp; try with_reducible rfl)
                go_simp
                refine wpAnyIn_ready (rs := [5]) (by kernel_rfl) (by simp) (AllReadyIn.cons rfl (fun K hK => ?_) AllReadyIn.nil)
                go_simp
                refine hK _ _ ?_
                clear hK K
                refine wpAnyIn_ready (rs := [6]) (by kernel_rfl) (by simp) (AllReadyIn.cons rfl (fun K hK => ?_) AllReadyIn.nil)
                go_simp
                first | refine ⟨trivial, hdd _, HC5.out.mono ?_⟩ | refine HC5.out.mono ?_ | refine ⟨hdd _, HC5.out.mono ?_⟩ | refine ⟨trivial, HC5.out.mono ?_⟩
                rintro e W6 ⟨rfl, hS6, hK6⟩
                refine hK _ _ ?_
                clear hK K
                refine wpAnyIn_done (by kernel_rfl) ?_ _
                exact ⟨rfl, ⟨_, _, _, _, _, _, _, _, _, _, _, _, _, _, _, _, _, _, _, _, _, _, rfl⟩, Kept.intro ⟨hS6, hK6⟩⟩
              · go_simp
                refine hK _ _ ?_
                clear hK K
                refine wpAnyIn_ready (rs := [1]) (by kernel_rfl) (by simp) (AllReadyIn.cons rfl (fun K hK => ?_) AllReadyIn.nil)
                go_simp
                refine hK _ _ ?_
                clear hK K
                refine wpAnyIn_take (i := 3) (v := ?v15) rfl rfl (by kernel_rfl) (by kernel_rfl) (by kernel_rfl) (fun _ _ _ h => (nomatch h.1)) ⟨Or.inl ⟨by rfl, ?hy15⟩, fun _ => rfl⟩ ?_
                case hy15 => (intro w; go_simp; try with_reducible rfl)
                go_simp
                refine wpAnyIn_take (i := 4) (v := ?v16) rfl rfl (by kernel_rfl) (by kernel_rfl) (by kernel_rfl) (fun _ _ _ h => (nomatch h.1)) ⟨Or.inl ⟨by rfl, ?hy16⟩, fun _ => rfl⟩ ?_
                case hy16 => (intro w; go_simp; try with_reducible rfl)
                go_simp
                refine wpAnyIn_ready (rs := [5]) (by kernel_rfl) (by simp) (AllReadyIn.cons rfl (fun K hK => ?_) AllReadyIn.nil)
                go_simp
                refine hK _ _ ?_
                clear hK K
                refine wpAnyIn_ready (rs := [6]) (by kernel_rfl) (by simp) (AllReadyIn.cons rfl (fun K hK => ?_) AllReadyIn.nil)
                go_simp
                first | refine ⟨trivial, hdd _, HC5.out.mono ?_⟩ | refine HC5.out.mono ?_ | refine ⟨hdd _, HC5.out.mono ?_⟩ | refine ⟨trivial, HC5.out.mono ?_⟩
                rintro e W6 ⟨rfl, hS6, hK6⟩
                refine hK _ _ ?_
                clear hK K
                refine wpAnyIn_done (by kernel_rfl) ?_ _
                exact ⟨rfl, ⟨_, _, _, _, _, _, _, _, _, _, _, _, _, _, _, _, _, _, _, _, _, _, rfl⟩, Kept.intro ⟨hS6, hK6⟩⟩
            · go_simp
              refine hK _ _ ?_
              clear hK K
              refine wpAnyIn_ready (rs := [0, 2]) (by kernel_rfl) (by simp) (AllReadyIn.cons rfl (fun K hK => ?_) (AllReadyIn.cons rfl (fun K hK => ?_) AllReadyIn.nil))
              · go_simp
                refine hK _ _ ?_
                clear hK K
                refine wpAnyIn_ready (rs := [2]) (by kernel_rfl) (by simp) (AllReadyIn.cons rfl (fun K hK => ?_) AllReadyIn.nil)
                go_simp
                refine hK _ _ ?_
                clear hK K
                refine wpAnyIn_take (i := 3) (v := ?v17) rfl rfl (by kernel_rfl) (by kernel_rfl) (by kernel_rfl) (fun _ _ _ h => (nomatch h.1)) ⟨Or.inl ⟨by rfl, ?hy17⟩, fun _ => rfl⟩ ?_
                case hy17 => (intro w; go_simp; try with_reducible rfl)
                go_simp
                refine wpAnyIn_take (i := 4) (v := ?v18) rfl rfl (by kernel_rfl) (by kernel_rfl) (by kernel_rfl) (fun _ _ _ h => (nomatch h.1)) ⟨Or.inl ⟨by rfl, ?hy18⟩, fun _ => rfl⟩ ?_
                case hy18 => (intro w; go_simp; try with_reducible rfl)
                go_simp
                refine wpAnyIn_ready (rs := [5]) (by kernel_rfl) (by simp) (AllReadyIn.cons rfl (fun K hK => ?_) AllReadyIn.nil)
                go_simp
                refine hK _ _ ?_
                clear hK K
                refine wpAnyIn_ready (rs := [6]) (by kernel_rfl) (by simp) (AllReadyIn.cons rfl (fun K hK => ?_) AllReadyIn.nil)
                go_simp
                first | refine ⟨trivial, hdd _, HC5.out.mono ?_⟩ | refine HC5.out.mono ?_ | refine ⟨hdd _, HC5.out.mono ?_⟩ | refine ⟨trivial, HC5.out.mono ?_⟩
                rintro e W6 ⟨rfl, hS6, hK6⟩
                refine hK _ _ ?_
                clear hK K
                refine wpAnyIn_done (by kernel_rfl) ?_ _
                exact ⟨rfl, ⟨_, _, _, _, _, _, _, _, _, _, _, _, _, _, _, _, _, _, _, _, _, _, rfl⟩, Kept.intro ⟨hS6, hK6⟩⟩
              · go_simp
                refine hK _ _ ?_
                clear hK K
                refine wpAnyIn_take (i := 3) (v := ?v19) rfl rfl (by kernel_rfl) (by kernel_rfl) (by kernel_rfl) (fun _ _ _ h => (nomatch h.1)) ⟨Or.inl ⟨by rfl, ?hy19⟩, fun _ => rfl⟩ ?_
                case hy19 => (intro w; go_simp; try with_reducible rfl)
                go_simp
                refine wpAnyIn_take (i := 4) (v := ?v20) rfl rfl (by kernel_rfl) (by kernel_rfl) (by kernel_rfl) (fun _ _ _ h => (nomatch h.1)) ⟨Or.inl ⟨by rfl, ?hy20⟩, fun _ => rfl⟩ ?_
                case hy20 => (intro w; go_simp; try with_reducible rfl)
                go_simp
                refine wpAnyIn_ready (rs := [0, 5]) (by kernel_rfl) (by simp) (AllReadyIn.cons rfl (fun K hK => ?_) (AllReadyIn.cons rfl (fun K hK => ?_) AllReadyIn.nil))
                · go_simp
                  refine hK _ _ ?_
                  clear hK K
                  refine wpAnyIn_ready (rs := [5]) (by kernel_rfl) (by simp) (AllReadyIn.cons rfl (fun K hK => ?_) AllReadyIn.nil)
                  go_simp
                  refine hK _ _ ?_
                  clear hK K
                  refine wpAnyIn_ready (rs := [6]) (by kernel_rfl) (by simp) (AllReadyIn.cons rfl (fun K hK => ?_) AllReadyIn.nil)
                  go_simp
                  first | refine ⟨trivial, hdd _, HC5.out.mono ?_⟩ | refine HC5.out.mono ?_ | refine ⟨hdd _, HC5.out.mono ?_⟩ | refine ⟨trivial, HC5.out.mono ?_⟩
                  rintro e W6 ⟨rfl, hS6, hK6⟩
                  refine hK _ _ ?_
                  clear hK K
                  refine wpAnyIn_done (by kernel_rfl) ?_ _
                  exact ⟨rfl, ⟨_, _, _, _, _, _, _, _, _, _, _, _, _, _, _, _, _, _, _, _, _, _, rfl⟩, Kept.intro ⟨hS6, hK6⟩⟩
                · go_simp
                  refine hK _ _ ?_
                  clear hK K
                  refine wpAnyIn_ready (rs := [0]) (by kernel_rfl) (by simp) (AllReadyIn.cons rfl (fun K hK => ?_) AllReadyIn.nil)
                  go_simp
                  refine hK _ _ ?_
                  clear hK K
                  refine wpAnyIn_ready (rs := [6]) (by kernel_rfl) (by simp) (AllReadyIn.cons rfl (fun K hK => ?_) AllReadyIn.nil)
                  go_simp
                  first | refine ⟨trivial, hdd _, HC5.out.mono ?_⟩ | refine HC5.out.mono ?_ | refine ⟨hdd _, HC5.out.mono ?_⟩ | refine ⟨trivial, HC5.out.mono ?_⟩
                  rintro e W6 ⟨rfl, hS6, hK6⟩
                  refine hK _ _ ?_
                  clear hK K
                  refine wpAnyIn_done (by kernel_rfl) ?_ _
                  exact ⟨rfl, ⟨_, _, _, _, _, _, _, _, _, _, _, _, _, _, _, _, _, _, _, _, _, _, rfl⟩, Kept.intro ⟨hS6, hK6⟩⟩
            · go_simp
              refine hK _ _ ?_
              clear hK K
              refine wpAnyIn_ready (rs := [0, 1]) (by kernel_rfl) (by simp) (AllReadyIn.cons rfl (fun K hK => ?_) (AllReadyIn.cons rfl (fun K hK => ?_) AllReadyIn.nil))
              · go_simp
                refine hK _ _ ?_
                clear hK K
                refine wpAnyIn_ready (rs := [1]) (by kernel_rfl) (by simp) (AllReadyIn.cons rfl (fun K hK => ?_) AllReadyIn.nil)
                go_simp
                refine hK _ _ ?_
                clear hK K
                refine wpAnyIn_take (i := 3) (v := ?v21) rfl rfl (by kernel_rfl) (by kernel_rfl) (by kernel_rfl) (fun _ _ _ h => (nomatch h.1)) ⟨Or.inl ⟨by rfl, ?hy21⟩, fun _ => rfl⟩ ?_
                case hy21 => (intro w; go_simp; try with_reducible rfl)
                go_simp
                refine wpAnyIn_take (i := 4) (v := ?v22) rfl rfl (by kernel_rfl) (by kernel_rfl) (by kernel_rfl) (fun _ _ _ h => (nomatch h.1)) ⟨Or.inl ⟨by rfl, ?hy22⟩, fun _ => rfl⟩ ?_
                case hy22 => (intro w; go_simp; try with_reducible rfl)
                go_simp
                refine wpAnyIn_ready (rs := [5]) (by kernel_rfl) (by simp) (AllReadyIn.cons rfl (fun K hK => ?_) AllReadyIn.nil)
                go_simp
                refine hK _ _ ?_
                clear hK K
                refine wpAnyIn_ready (rs := [6]) (by kernel_rfl) (by simp) (AllReadyIn.cons rfl (fun K hK => ?_) AllReadyIn.nil)
                go_simp
                first | refine ⟨trivial, hdd _, HC5.out.mono ?_⟩ | refine HC5.out.mono ?_ | refine ⟨hdd _, HC5.out.mono ?_⟩ | refine ⟨trivial, HC5.out.mono ?_⟩
                rintro e W6 ⟨rfl, hS6, hK6⟩
                refine hK _ _ ?_
                clear hK K
                refine wpAnyIn_done (by kernel_rfl) ?_ _
                exact ⟨rfl, ⟨_, _, _, _, _, _, _, _, _, _, _, _, _, _, _, _, _, _, _, _, _, _, rfl⟩, Kept.intro ⟨hS6, hK6⟩⟩
              · go_simp
                refine hK _ _ ?_
                clear hK K
                refine wpAnyIn_take (i := 3) (v := ?v23) rfl rfl (by kernel_rfl) (by kernel_rfl) (by kernel_rfl) (fun _ _ _ h => (nomatch h.1)) ⟨Or.inl ⟨by rfl, ?hy23⟩, fun _ => rfl⟩ ?_
                case hy23 => (intro w; go_simp; try with_reducible rfl)
                go_simp
                refine wpAnyIn_take (i := 4) (v := ?v24) rfl rfl (by kernel_rfl) (by kernel_rfl) (by kernel_rfl) (fun _ _ _ h => (nomatch h.1)) ⟨Or.inl ⟨by rfl, ?hy24⟩, fun _ => rfl⟩ ?_
                case hy24 => (intro w; go_simp; try with_reducible rfl)
                go_simp
                refine wpAnyIn_ready (rs := [0, 5]) (by kernel_rfl) (by simp) (AllReadyIn.cons rfl (fun K hK => ?_) (AllReadyIn.cons rfl (fun K hK => ?_) AllReadyIn.nil))
                · go_simp
                  refine hK _ _ ?_
                  clear hK K
                  refine wpAnyIn_ready (rs := [5]) (by kernel_rfl) (by simp) (AllReadyIn.cons rfl (fun K hK => ?_) AllReadyIn.nil)
                  go_simp
                  refine hK _ _ ?_
                  clear hK K
                  refine wpAnyIn_ready (rs := [6]) (by kernel_rfl) (by simp) (AllReadyIn.cons rfl (fun K hK => ?_) AllReadyIn.nil)
                  go_simp
                  first | refine ⟨trivial, hdd _, HC5.out.mono ?_⟩ | refine HC5.out.mono ?_ | refine ⟨hdd _, HC5.out.mono ?_⟩ | refine ⟨trivial, HC5.out.mono ?_⟩
                  rintro e W6 ⟨rfl, hS6, hK6⟩
                  refine hK _ _ ?_
                  clear hK K
                  refine wpAnyIn_done (by kernel_rfl) ?_ _
                  exact ⟨rfl, ⟨_, _, _, _, _, _, _, _, _, _, _, _, _, _, _, _, _, _, _, _, _, _, rfl⟩, Kept.intro ⟨hS6, hK6⟩⟩
                · go_simp
                  refine hK _ _ ?_
                  clear hK K
                  refine wpAnyIn_ready (rs := [0]) (by kernel_rfl) (by simp) (AllReadyIn.cons rfl (fun K hK => ?_) AllReadyIn.nil)
                  go_simp
                  refine hK _ _ ?_
                  clear hK K
                  refine wpAnyIn_ready (rs := [6]) (by kernel_rfl) (by simp) (AllReadyIn.cons rfl (fun K hK => ?_) AllReadyIn.nil)
                  go_simp
                  first | refine ⟨trivial, hdd _, HC5.out.mono ?_⟩ | refine HC5.out.mono ?_ | refine ⟨hdd _, HC5.out.mono ?_⟩ | refine ⟨trivial, HC5.out.mono ?_⟩
                  rintro e W6 ⟨rfl, hS6, hK6⟩
                  refine hK _ _ ?_
                  clear hK K
                  refine wpAnyIn_done (by kernel_rfl) ?_ _
                  exact ⟨rfl, ⟨_, _, _, _, _, _, _, _, _, _, _, _, _, _, _, _, _, _, _, _, _, _, rfl⟩, Kept.intro ⟨hS6, hK6⟩⟩
            -- END RB
          · rintro a1 W10 ⟨⟨q16, q17, q18, q19, q20, q21, q22, q23, q24, q25, q26, q27, q28, q29, q30, q31, q32, q33, q34, q35, q36, q37, rfl⟩, hkept⟩
            obtain ⟨hS10, hK10⟩ := hkept.out
            have hKT := K9.trans hK10
            have c6 : W10.cell? ⟨w.heap.size + 1 + 1 + 1, 0, none⟩ = some (.int .i64 (pre.length : Int)) := hS10.bi.cell
            have f6 : W10.frozen? ⟨w.heap.size + 1 + 1 + 1, 0, none⟩ = false := hS10.bi.frozen
            clear hkept S9 K9 d2 d3 d6 dk HC5 hW9 hK10
            gi_wp2_with fail
            exact hfin W10 _ (Nat.le_refl _) hS10 hKT
    · have q2 : ¬ (pre.length : Int) < (l.length : Int) := by omega
      gi_wp2_with (gi_at_builtin; refine wpListIn_append_run _ rfl _ _ 42 rfl rfl rfl (fun v' w' => RowI w' (w.heap.size + 4) v' (pre.map (·.1) ++ [.int .i64 kn]) ∧ (W.alloc (.cells #[.int .i64 kn] 3)).grownBy w' v.ownBlock) (append_ints (W.alloc (.cells #[.int .i64 kn] 3)) Try.underlying42 hi hz0 hz1 hz2 (hrow.turn (fun g cur _ hc => (below_alloc W _).block g (Array.getElem?_eq_some_iff.1 hc).1 |>.trans hc)) (cell_one_new _ _ _) (by simp; omega) (by have := hI.nk.1; have := HH.out; simp; omega)) ?_; rintro v' w1 ⟨hr1, hg1⟩; obtain ⟨hv1, hS, hKT⟩ := hI.app hb HH.out hv hrow hr1 hg1; obtain ⟨g', cap', hvv⟩ := ints_form hr1; rw [List.length_map] at hvv; subst hvv; have hc1 : w1.cell? ⟨w.heap.size + 1 + 1, 0, none⟩ = some v := hv1.cell; have hf1 : w1.frozen? ⟨w.heap.size + 1 + 1, 0, none⟩ = false := hv1.frozen; have c6 : (w1.setCell ⟨w.heap.size + 1 + 1, 0, none⟩ (.slice (some ⟨g', 0, none⟩) (pre.length + 1) cap')).cell? ⟨w.heap.size + 1 + 1 + 1, 0, none⟩ = some (.int .i64 (pre.length : Int)) := hS.bi.cell; have f6 : (w1.setCell ⟨w.heap.size + 1 + 1, 0, none⟩ (.slice (some ⟨g', 0, none⟩) (pre.length + 1) cap')).frozen? ⟨w.heap.size + 1 + 1 + 1, 0, none⟩ = false := hS.bi.frozen; have c3 : (w1.setCell ⟨w.heap.size + 1 + 1, 0, none⟩ (.slice (some ⟨g', 0, none⟩) (pre.length + 1) cap')).cell? ⟨w.heap.size + 1, 0, none⟩ = some (.slice av l.length cv) := hS.bl.cell; clear hr1 hg1 hv1)
      exact hfin _ _ (by omega) hS hKT
  case done =>
    rintro D W hD hI hK
    have h4 := HH.out
    obtain ⟨v, hv, hrow⟩ := hI.out
    have c5 : W.cell? ⟨w.heap.size + 1 + 1, 0, none⟩ = some v := hv.cell
    have e1 : (prs t).map (·.1) = L.map (fun p => Value.int .i64 p.1) := by rw [HT.out.2.1]; simp [encP]
    rw [e1] at hrow
    obtain ⟨a1, c1, hvv, _⟩ := row_cap hrow.row
    rw [List.length_map] at hvv
    subst hvv
    gi_wp2
    refine ⟨by simp, .inl ⟨_, _, rfl, run_takeDeferred hK, ?_⟩⟩
    refine ⟨_, results_tmp rfl _ _ _, _, rfl, ?_, fun k q1 q2 => ?_, hI.bb.trans (belowK_b (w := w) (Nat.le_of_lt hb) W D _ _ (by omega) hK rfl rfl)⟩
    · exact RdV.of_row (ownsRow_putObj hrow.row _ hK rfl)
    · rw [World.putObj_heap_other (by omega)]
      exact hI.ob k q1 q2
  case stop =>
    rintro D c pre W hD _ hF _
    exact hF.elim
end Go.Proofs.Ytdkplhfbcpobaaa
