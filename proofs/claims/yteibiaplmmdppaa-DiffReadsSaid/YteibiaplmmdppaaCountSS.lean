/- diff.Count[string]. -/
import Derived.Test.YteibiaplmmdppaaOfFSS
namespace Go.Proofs.Yteibiaplmmdppaa
open Go.RowKit
attribute [local go_sem] Oper.semAt_some wide_fn wide_depth

/-- Nothing but one box has turned. -/
theorem ofOk_onlySS {w X : World} {b1 b2 ba bb n : Nat} {ta tb : Tr} {T : TypeId} {z : Int} (hn : Boxed w n T (.int .i64 z)) (ho : Only n w X) (h1 : MP w b1 ta) (h2 : MP w b2 tb) (ca : w.cell? ⟨ba, 0, none⟩ = some (.pointer (some ⟨b1, 0, none⟩))) (cb : w.cell? ⟨bb, 0, none⟩ = some (.pointer (some ⟨b2, 0, none⟩))) : OfOkSS w b1 b2 ba bb ta tb X := by
  have nk : NK w X := ⟨ho.1, fun g _ _ _ _ _ _ hc => by
    rw [ho.2 g (Array.getElem?_eq_some_iff.1 hc).1 (by rintro rfl; rw [show w.heap[g]? = _ from hn] at hc; simp at hc)]; exact hc⟩
  have cell : ∀ {b : Nat} {p : Addr}, w.cell? ⟨b, 0, none⟩ = some (.pointer (some p)) → X.cell? ⟨b, 0, none⟩ = some (.pointer (some p)) := fun {b p} h => by
    have hlt := World.block_lt_of_cell? w _ h
    have hne : b ≠ n := by
      rintro rfl
      rw [hn.cell] at h
      cases h
    rw [← h]
    simp only [World.cell?]
    rw [ho.2 b hlt hne]
  have mp : ∀ {b : Nat} {t : Tr}, MP w b t → MP X b t := fun {b t} h => by
    obtain ⟨T', o, hc, ht⟩ := h
    exact ⟨T', o, by rw [ho.2 b (Array.getElem?_eq_some_iff.1 hc).1 (by rintro rfl; rw [show w.heap[b]? = _ from hn] at hc; simp at hc)]; exact hc, tp_nk nk ht⟩
  exact ⟨nk, cell ca, cell cb, mp h1, mp h2⟩
theorem only_ownTSS {Tw : TypeId → Prop} {β : Type} (n B : Nat) (w : World) (hB : w.heap.size ≤ B) : OwnFromT Tw B (fun (_ : β) W => Only n w W) := fun _ X Y row hs hg hr =>
  ⟨Nat.le_trans hs.1 hg.size, fun k hk hne => (hg.block k (Nat.lt_of_lt_of_le hk hs.1) (fun e => by have := (hr k e.symm).1; omega)).trans (hs.2 k hk hne)⟩
set_option maxRecDepth 100000 in
set_option maxHeartbeats 4000000 in
theorem countSS_any (va vb : Value) (ta tb : Tr) (w : World) (ha : MOSS w va ta) (hb : MOSS w vb tb) (wa : WS KSSS VSSS ta) (wb : WS KSSS VSSS tb) (la : (prs ta).length ≤ 1000000) (lb : (prs tb).length ≤ 1000000) :
    Calls Try.prog 18 #[va, vb] w fun e w' => e = .returned (.int .i64 ((chgLSS ta tb).length : Int)) ∧ Below w.heap.size w w' := by
  have hB0 := below_alloc w (.cells #[.int .i64 0] 3)
  have CO := Lib.hid (callsIn_wide (n := 8).2 (ofSS_any va vb ta tb _ (ha.below hB0) (hb.below hB0)))
  have hlen : (chgLSS ta tb).length ≤ 2000000 := by
    unfold chgLSS chgsSS
    have h1 := List.length_filterMap_le (fun p : Value × Value => chgFSS ta tb p.1) (mrgL (prs ta) (prs tb))
    have h2 := mrg_len (prs ta) (prs tb)
    omega
  obtain ⟨xs, hxs⟩ : ∃ xs, xs = chgLSS ta tb := ⟨_, rfl⟩
  rw [← hxs] at hlen ⊢
  have HX := Lib.hid hxs
  clear ha hb hxs
  refine (callsIn_wide (n := 9)).1 ?_
  refine callsIn_of_wp_marks Try.func18 rfl trivial ?_ rfl
  simp only [Try.ntmps18, List.size_toArray, List.length_cons, List.length_nil, Nat.reduceAdd, Nat.reduceSub, Array.replicate_succ, Array.replicate_zero, List.push_toArray, List.append_toArray, List.nil_append, List.cons_append]
  gi_wp2_with fail
  refine CO.out.mono ?_
  rintro e w2 ⟨ba, bb, b1, b2, rfl, g1, g2, g3, g4, hb2⟩
  have bN : Boxed w2 w.heap.size 3 (.int .i64 0) := by
    have := Boxed.new w 3 (.int .i64 0)
    show w2.heap[w.heap.size]? = _
    rw [hb2.block w.heap.size (by simp)]; exact this
  have hs2 : w.heap.size + 1 ≤ w2.heap.size := by have := hb2.size; simpa using this
  have hbw : Below w.heap.size w w2 := hB0.trans (hb2.mono hB0.size)
  have hP : OfPSS w2 b1 b2 ta tb := ⟨g1, g2, wa, wb, la, lb⟩
  clear CO hB0 hb2
  gi_wp2_with fail
  refine range_lawW (Tw := MrgTSS) (gf := 33) (lb := #[.pointer (some ⟨ba, 0, none⟩), .pointer (some ⟨bb, 0, none⟩)]) rfl (enters_of Try.func33 (by kernel_rfl) rfl) (Wr := fun _ => False) (xs := xs) (encs := fun c : Value => #[c]) (Ok := fun X => Only w.heap.size w2 X)
    (fun W' h => by rw [HX.out]; exact of1SS_seqs' hP g3 g4 h (fun _ hX => ofOk_onlySS bN hX g1 g2 g3 g4) (fun h => h) (fun h => h) (fun h => h) (fun h => h) (fun h => h)) (by intro x; rfl)
    (fun pre W => Boxed W w.heap.size 3 (.int .i64 (pre.length : Int)) ∧ Only w.heap.size w2 W ∧ Below w.heap.size w W)
    (fun _ _ _ => False)
    (OwnFromT.and ((boxed_ownT _ _ (fun pre : List Value => .int .i64 (pre.length : Int)) (by unfold MrgTSS; decide)).from _) (OwnFromT.and (only_ownTSS _ _ _ (Nat.le_refl _)) (ownFromT_below (Nat.le_refl _) (by omega))))
    (fun c => ownFromT_pure _ _ (fun _ : List Value => False))
    ⟨bN, Only.refl _ _, hbw⟩ (fun pre W h => h.2.1)
    (fun x => { tmps := #[va, vb, undef, undef, .int .i64 0, .pointer (some ⟨w.heap.size, 0, none⟩), va, vb, .func (.func 33) #[] #[.pointer (some ⟨ba, 0, none⟩), .pointer (some ⟨bb, 0, none⟩)], x, undef, undef, undef], defers := [] }) ?assign ?body ?done ?stop
  case assign =>
    intro l x W K hK
    gi_wp2
    simpa using hK
  case body =>
    rintro l2 pre x W _ ⟨hn, ho, hB⟩ ⟨t, ht⟩
    have cn := hn.cell
    have fn := hn.frozen
    have hle : pre.length + 1 ≤ 2000000 := by
      have := congrArg List.length ht
      simp at this; omega
    have HS := Lib.hid hs2
    clear ht hlen hs2 bN hP
    gi_wp2
    have e : (.int .i64 ((pre.length : Int) + 1) : Value) = .int .i64 ((pre ++ [x]).length : Int) := by rw [List.length_append]; simp
    refine ⟨KT.of_grown (grownBy_setCell' _ _ _) (fun j e => .inl (by cases e; have := HS.out; omega)), by rw [← e]; exact hn.set _, ho.setCell _ _, hB.setCell (p := ⟨w.heap.size, 0, none⟩) (Nat.le_refl _) _⟩
  case done =>
    rintro D W hD ⟨hn, ho, hB⟩ hK
    have cn := hn.cell
    gi_wp2
    refine ⟨by simp, .inl ⟨_, _, rfl, run_takeDeferred hK, ?_⟩⟩
    exact ⟨_, results_tmp rfl _ _ _, rfl, hB.trans (belowK_b (w := w) (Nat.le_refl _) W D _ _ (by omega) hK rfl rfl)⟩
  case stop =>
    rintro D c pre W hD _ hF _
    exact hF.elim
end Go.Proofs.Yteibiaplmmdppaa
