import Derived.Test.YteibiaplmmdppaaGetSI
import Derived.Test.YteibiaplmmdppaaOfSI
/- Maps in order, omap[string,int]: Copy. -/
namespace Go.Proofs.Yteibiaplmmdppaa
open Go.RowKit

theorem copySI_any (b : Nat) (t : Tr) (w : World) (h : MP w b t) : Calls Try.prog 67 #[.pointer (some ⟨b, 0, none⟩)] w fun e w' => ∃ c, e = .returned (.pointer (some ⟨c, 0, none⟩)) ∧ c = w.heap.size ∧ MP w' c t ∧ Below w.heap.size w w' := by
  obtain ⟨T, o, hc, htp⟩ := h
  have c0 : w.cell? ⟨b, 0, none⟩ = some (.pointer o) := by simp [World.cell?, hc]
  have c1 : w.cell? ⟨b, 1, none⟩ = some (.int .i64 ((prs t).length : Int)) := by simp [World.cell?, hc]
  have HT := Lib.hid htp
  obtain ⟨n, hn⟩ : ∃ n, n = (prs t).length := ⟨_, rfl⟩
  rw [← hn] at c1
  have HN := Lib.hid hn
  clear hc htp hn
  go_enter Try.func67, Try.ntmps67
  go_wp2_with fail
  go_region_held3 (fun W => W.cell? ⟨b, 0, none⟩ = some (.pointer o) ∧ W.cell? ⟨b, 1, none⟩ = some (.int .i64 (n : Int)))
    (first
      | (exact ⟨c0, c1⟩)
      | go_keep)
    (fail)
  all_goals
    go_wp2_with fail
    go_ret
    have hb : Below w.heap.size w (w.alloc (.cells #[.pointer o, .int .i64 (n : Int)] 78)) := below_alloc _ _
    exact ⟨w.heap.size, rfl, rfl, ⟨_, o, by rw [← HN.out]; exact heap_alloc_new w _, TP.drewN 1 (TP.below hb HT.out)⟩, Below.drewsN hb 1⟩
end Go.Proofs.Yteibiaplmmdppaa

/- diff.copyOf[int], diff.Of[int]. -/
namespace Go.Proofs.Yteibiaplmmdppaa
open Go.RowKit

/-- A map, or none. -/
def MOSI (w : World) (v : Value) (t : Tr) : Prop := (∃ b, v = .pointer (some ⟨b, 0, none⟩) ∧ MP w b t) ∨ (v = .pointer none ∧ t = .nil)
theorem MOSI.below {w w' : World} {v : Value} {t : Tr} (h : MOSI w v t) (hb : Below w.heap.size w w') : MOSI w' v t := by
  rcases h with ⟨b, e, h⟩ | h
  · exact .inl ⟨b, e, h.below hb⟩
  · exact .inr h
theorem copyOfSI_any (v : Value) (t : Tr) (w : World) (h : MOSI w v t) : Calls Try.prog 57 #[v] w fun e w' => ∃ c, e = .returned (.pointer (some ⟨c, 0, none⟩)) ∧ w.heap.size ≤ c ∧ MP w' c t ∧ Below w.heap.size w w' := by
  rcases h with ⟨b, rfl, h⟩ | ⟨rfl, rfl⟩
  · have C := Lib.hid (copySI_any b t w h)
    clear h
    go_enter Try.func57, Try.ntmps57
    go_wp2_with fail
    refine C.out.mono ?_
    rintro e w1 ⟨c, rfl, hc, hm, hb⟩
    have HC := Lib.hid (And.intro hc (And.intro hm hb))
    clear hc hm hb
    go_wp2_with fail
    go_ret
    exact ⟨c, rfl, by rw [HC.out.1]; exact Nat.le_refl _, HC.out.2.1, HC.out.2.2⟩
  · have C := Lib.hid (newSI_any w)
    go_enter Try.func57, Try.ntmps57
    go_wp2_with fail
    refine C.out.mono ?_
    rintro e w1 ⟨c, rfl, hc, hm, hb⟩
    have HC := Lib.hid (And.intro hc (And.intro hm hb))
    clear hc hm hb
    go_wp2_with fail
    go_ret
    exact ⟨c, rfl, by rw [HC.out.1]; exact Nat.le_refl _, HC.out.2.1, HC.out.2.2⟩
/-- What Of tells. -/
def OfESI (w : World) (ta tb : Tr) (e : Ending) (w' : World) : Prop :=
  ∃ ba bb b1 b2, e = .returned (.func (.func 58) #[] #[.pointer (some ⟨ba, 0, none⟩), .pointer (some ⟨bb, 0, none⟩)]) ∧ MP w' b1 ta ∧ MP w' b2 tb ∧ w'.cell? ⟨ba, 0, none⟩ = some (.pointer (some ⟨b1, 0, none⟩)) ∧ w'.cell? ⟨bb, 0, none⟩ = some (.pointer (some ⟨b2, 0, none⟩)) ∧ Below w.heap.size w w'
theorem ofSI_any (va vb : Value) (ta tb : Tr) (w : World) (ha : MOSI w va ta) (hb : MOSI w vb tb) : Calls Try.prog 43 #[va, vb] w (OfESI w ta tb) := by
  have C1 := Lib.hid (copyOfSI_any va ta w ha)
  have HB := Lib.hid hb
  clear ha hb
  go_enter Try.func43, Try.ntmps43
  go_wp2_with fail
  refine C1.out.mono ?_
  rintro e w1 ⟨c1, rfl, _, hm1, hb1⟩
  have C2 := Lib.hid (copyOfSI_any vb tb w1 (HB.out.below hb1))
  have H1 := Lib.hid (And.intro hm1 hb1)
  clear hm1 hb1 C1 HB
  go_wp2_with fail
  refine C2.out.mono ?_
  rintro e w2 ⟨c2, rfl, _, hm2, hb2⟩
  have H2 := Lib.hid (And.intro (H1.out.1.below hb2) (And.intro hm2 (H1.out.2.trans (hb2.mono H1.out.2.size))))
  clear hm2 hb2 C2 H1
  go_wp2_with fail
  go_ret
  obtain ⟨h1, h2, h3⟩ := H2.out
  have l1 := below_alloc w2 (.cells #[.pointer (some ⟨c1, 0, none⟩)] 51)
  have l2 := below_alloc (w2.alloc (.cells #[.pointer (some ⟨c1, 0, none⟩)] 51)) (.cells #[.pointer (some ⟨c2, 0, none⟩)] 51)
  have l3 := l1.trans (l2.mono l1.size)
  refine ⟨w2.heap.size, w2.heap.size + 1, c1, c2, rfl, h1.below l3, h2.below l3, ((Boxed.new w2 _ _).alloc _).cell, ?_, h3.trans (l3.mono h3.size)⟩
  have := (Boxed.new (w2.alloc (.cells #[.pointer (some ⟨c1, 0, none⟩)] 51)) 51 (.pointer (some ⟨c2, 0, none⟩))).cell
  rw [World.size_alloc] at this
  exact this
end Go.Proofs.Yteibiaplmmdppaa

/- diff.Count[int]. -/
namespace Go.Proofs.Yteibiaplmmdppaa
open Go.RowKit
attribute [local go_sem] Oper.semAt_some wide_fn wide_depth

/-- Nothing but one box has turned. -/
theorem ofOk_onlySI {w X : World} {b1 b2 ba bb n : Nat} {ta tb : Tr} {T : TypeId} {z : Int} (hn : Boxed w n T (.int .i64 z)) (ho : Only n w X) (h1 : MP w b1 ta) (h2 : MP w b2 tb) (ca : w.cell? ⟨ba, 0, none⟩ = some (.pointer (some ⟨b1, 0, none⟩))) (cb : w.cell? ⟨bb, 0, none⟩ = some (.pointer (some ⟨b2, 0, none⟩))) : OfOkSI w b1 b2 ba bb ta tb X := by
  have nk : NK w X := ⟨ho.1, fun g _ _ _ _ _ _ hc => by
    rw [ho.2 g (Array.getElem?_eq_some_iff.1 hc).1 (by rintro rfl; rw [show w.heap[g]? = _ from hn] at hc; simp at hc)]; exact hc⟩
  have cell : ∀ {b : Nat} {p : Addr}, w.cell? ⟨b, 0, none⟩ = some (.pointer (some p)) → X.cell? ⟨b, 0, none⟩ = some (.pointer (some p)) := fun {b p} h => by
    have hlt := World.block_lt_of_cell? w _ h
    have hne : b ≠ n := by
      rintro rfl
      rw [hn.cell] at h
      cases h
    rw [← h]
    simp only [World.cell?]
    rw [ho.2 b hlt hne]
  have mp : ∀ {b : Nat} {t : Tr}, MP w b t → MP X b t := fun {b t} h => by
    obtain ⟨T', o, hc, ht⟩ := h
    exact ⟨T', o, by rw [ho.2 b (Array.getElem?_eq_some_iff.1 hc).1 (by rintro rfl; rw [show w.heap[b]? = _ from hn] at hc; simp at hc)]; exact hc, tp_nk nk ht⟩
  exact ⟨nk, cell ca, cell cb, mp h1, mp h2⟩
theorem only_ownTSI {Tw : TypeId → Prop} {β : Type} (n B : Nat) (w : World) (hB : w.heap.size ≤ B) : OwnFromT Tw B (fun (_ : β) W => Only n w W) := fun _ X Y row hs hg hr =>
  ⟨Nat.le_trans hs.1 hg.size, fun k hk hne => (hg.block k (Nat.lt_of_lt_of_le hk hs.1) (fun e => by have := (hr k e.symm).1; omega)).trans (hs.2 k hk hne)⟩
set_option maxRecDepth 100000 in
set_option maxHeartbeats 4000000 in
theorem countSI_any (va vb : Value) (ta tb : Tr) (w : World) (ha : MOSI w va ta) (hb : MOSI w vb tb) (wa : WS KSSI VSSI ta) (wb : WS KSSI VSSI tb) (la : (prs ta).length ≤ 1000000) (lb : (prs tb).length ≤ 1000000) :
    Calls Try.prog 29 #[va, vb] w fun e w' => e = .returned (.int .i64 ((chgLSI ta tb).length : Int)) ∧ Below w.heap.size w w' := by
  have hB0 := below_alloc w (.cells #[.int .i64 0] 3)
  have CO := Lib.hid (callsIn_wide (n := 8).2 (ofSI_any va vb ta tb _ (ha.below hB0) (hb.below hB0)))
  have hlen : (chgLSI ta tb).length ≤ 2000000 := by
    unfold chgLSI chgsSI
    have h1 := List.length_filterMap_le (fun p : Value × Value => chgFSI ta tb p.1) (mrgL (prs ta) (prs tb))
    have h2 := mrg_len (prs ta) (prs tb)
    omega
  obtain ⟨xs, hxs⟩ : ∃ xs, xs = chgLSI ta tb := ⟨_, rfl⟩
  rw [← hxs] at hlen ⊢
  have HX := Lib.hid hxs
  clear ha hb hxs
  refine (callsIn_wide (n := 9)).1 ?_
  refine callsIn_of_wp_marks Try.func29 rfl trivial ?_ rfl
  simp only [Try.ntmps29, List.size_toArray, List.length_cons, List.length_nil, Nat.reduceAdd, Nat.reduceSub, Array.replicate_succ, Array.replicate_zero, List.push_toArray, List.append_toArray, List.nil_append, List.cons_append]
  gi_wp2_with fail
  refine CO.out.mono ?_
  rintro e w2 ⟨ba, bb, b1, b2, rfl, g1, g2, g3, g4, hb2⟩
  have bN : Boxed w2 w.heap.size 3 (.int .i64 0) := by
    have := Boxed.new w 3 (.int .i64 0)
    show w2.heap[w.heap.size]? = _
    rw [hb2.block w.heap.size (by simp)]; exact this
  have hs2 : w.heap.size + 1 ≤ w2.heap.size := by have := hb2.size; simpa using this
  have hbw : Below w.heap.size w w2 := hB0.trans (hb2.mono hB0.size)
  have hP : OfPSI w2 b1 b2 ta tb := ⟨g1, g2, wa, wb, la, lb⟩
  clear CO hB0 hb2
  gi_wp2_with fail
  refine range_lawW (Tw := MrgTSI) (gf := 58) (lb := #[.pointer (some ⟨ba, 0, none⟩), .pointer (some ⟨bb, 0, none⟩)]) rfl (enters_of Try.func58 (by kernel_rfl) rfl) (Wr := fun _ => False) (xs := xs) (encs := fun c : Value => #[c]) (Ok := fun X => Only w.heap.size w2 X)
    (fun W' h => by rw [HX.out]; exact of1SI_seqs' hP g3 g4 h (fun _ hX => ofOk_onlySI bN hX g1 g2 g3 g4) (fun h => h) (fun h => h) (fun h => h) (fun h => h) (fun h => h)) (by intro x; rfl)
    (fun pre W => Boxed W w.heap.size 3 (.int .i64 (pre.length : Int)) ∧ Only w.heap.size w2 W ∧ Below w.heap.size w W)
    (fun _ _ _ => False)
    (OwnFromT.and ((boxed_ownT _ _ (fun pre : List Value => .int .i64 (pre.length : Int)) (by unfold MrgTSI; decide)).from _) (OwnFromT.and (only_ownTSI _ _ _ (Nat.le_refl _)) (ownFromT_below (Nat.le_refl _) (by omega))))
    (fun c => ownFromT_pure _ _ (fun _ : List Value => False))
    ⟨bN, Only.refl _ _, hbw⟩ (fun pre W h => h.2.1)
    (fun x => { tmps := #[va, vb, undef, undef, .int .i64 0, .pointer (some ⟨w.heap.size, 0, none⟩), va, vb, .func (.func 58) #[] #[.pointer (some ⟨ba, 0, none⟩), .pointer (some ⟨bb, 0, none⟩)], x, undef, undef, undef], defers := [] }) ?assign ?body ?done ?stop
  case assign =>
    intro l x W K hK
    gi_wp2
    simpa using hK
  case body =>
    rintro l2 pre x W _ ⟨hn, ho, hB⟩ ⟨t, ht⟩
    have cn := hn.cell
    have fn := hn.frozen
    have hle : pre.length + 1 ≤ 2000000 := by
      have := congrArg List.length ht
      simp at this; omega
    have HS := Lib.hid hs2
    clear ht hlen hs2 bN hP
    gi_wp2
    have e : (.int .i64 ((pre.length : Int) + 1) : Value) = .int .i64 ((pre ++ [x]).length : Int) := by rw [List.length_append]; simp
    refine ⟨KT.of_grown (grownBy_setCell' _ _ _) (fun j e => .inl (by cases e; have := HS.out; omega)), by rw [← e]; exact hn.set _, ho.setCell _ _, hB.setCell (p := ⟨w.heap.size, 0, none⟩) (Nat.le_refl _) _⟩
  case done =>
    rintro D W hD ⟨hn, ho, hB⟩ hK
    have cn := hn.cell
    gi_wp2
    refine ⟨by simp, .inl ⟨_, _, rfl, run_takeDeferred hK, ?_⟩⟩
    exact ⟨_, results_tmp rfl _ _ _, rfl, hB.trans (belowK_b (w := w) (Nat.le_refl _) W D _ _ (by omega) hK rfl rfl)⟩
  case stop =>
    rintro D c pre W hD _ hF _
    exact hF.elim
end Go.Proofs.Yteibiaplmmdppaa
