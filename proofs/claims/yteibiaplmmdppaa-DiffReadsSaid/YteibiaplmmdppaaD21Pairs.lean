/- hbllaw21.Pairs: a map's pairs. -/
import Derived.Test.YteibiaplmmdppaaGatherSS
import Derived.Test.YteibiaplmmdppaaOfMSS
import Derived.Test.YteibiaplmmdppaaTISS
import Derived.Test.YteibiaplmmdppaaRdV
import Derived.Test.YteibiaplmmdppaaMrgMath
import Derived.Test.YteibiaplmmdppaaRowsF
import Derived.Test.YteibiaplmmdppaaD21Ranged
namespace Go.Proofs.Yteibiaplmmdppaa
open Go.RowKit
attribute [local go_sem] Oper.semAt_some wide_fn wide_depth

theorem infoApiPair : (Try.prog.info? 61).map (fun i => (i.zero, i.size, i.bytes)) = some (some (.agg #[str [], str []]), 2, 32) := by kernel_rfl
def PairsI21 (w : World) (pre : List (Value × Value)) (W : World) : Prop := (∃ v, Boxed W w.heap.size 22 v ∧ W.ownsRow (w.heap.size + 1) 61 2 v pre.length (flatP pre)) ∧ Below w.heap.size w W
theorem pairsI21_own (w : World) {B : Nat} (hB : w.heap.size ≤ B) : OwnFrom B (PairsI21 w) := by
  refine OwnFrom.and (Own.from ?_ _) (ownFrom_below (Nat.le_refl _) hB)
  intro s X Y row ⟨v, hv, hr⟩ hg hrow
  obtain ⟨v', h1, h2, _⟩ := holdsRow_own (w.heap.size + 1) w.heap.size 22 61 2 (fun s : List (Value × Value) => s.length) flatP (fun _ _ => True) s X Y row ⟨v, hv, hr, trivial⟩ hg hrow
  exact ⟨v', h1, h2⟩
/-- Pairs as pairs of texts. -/
theorem prs_plain {t : Tr} (h : WS KSSS VSSS t) : ∃ l : List PairT, prs t = l.map (fun p => (str p.1, str p.2)) := by
  refine map_forms2 _ _ ?_
  intro p hp
  obtain ⟨⟨a, ha⟩, ⟨b, hb⟩⟩ := ws_keys h p hp
  exact ⟨(a, b), Prod.ext ha hb⟩
theorem flatP_plain (l : List PairT) : flatP (l.map (fun p => ((str p.1 : Value), (str p.2 : Value)))) = (l.map cellsP).flatten := by
  induction l with
  | nil => rfl
  | cons p t ih => simp only [List.map_cons, flatP, List.flatten_cons, ih]; rfl
def PairsE21 (w : World) (l : List PairT) (e : Ending) (w' : World) : Prop := ∃ v, e = .returned v ∧ RdP w' v l ∧ Below w.heap.size w w'
set_option maxRecDepth 100000 in
set_option maxHeartbeats 4000000 in
theorem pairs21_any {w : World} {b n : Nat} {t : Tr} {l : List PairT} (h : TISS w b n t) (hn : n ≤ 1000000) (hl : prs t = l.map (fun p => (str p.1, str p.2))) : Calls Try.prog 22 #[.pointer (some ⟨b, 0, none⟩)] w (PairsE21 w l) := by
  obtain ⟨i0, hi, hz0, hz1, hz2⟩ := info_parts infoApiPair
  have hfn := fnil2SS 51 #[.pointer (some ⟨w.heap.size + 1, 0, none⟩)]
  refine (callsIn_wide (n := 9)).1 ?_
  refine callsIn_of_wp_marks Try.func22 rfl trivial ?_ rfl
  simp only [Try.ntmps22, List.size_toArray, List.length_cons, List.length_nil, Nat.reduceAdd, Nat.reduceSub, Array.replicate_succ, Array.replicate_zero, List.push_toArray, List.append_toArray, List.nil_append, List.cons_append]
  have CA := Lib.hid (callsIn_wide (n := 8).2 (mallSS_any b (w.alloc (.cells #[.slice none 0 0] 22))))
  gi_wp2_with fail
  refine CA.out.mono ?_
  rintro e w1 ⟨rfl, hw1⟩
  simp only [World.size_alloc]
  have bO : Boxed w1 w.heap.size 22 (.slice none 0 0) := by rw [hw1]; exact (Boxed.new w _ _).alloc _
  have cM : w1.cell? ⟨w.heap.size + 1, 0, none⟩ = some (.pointer (some ⟨b, 0, none⟩)) := by
    have := (Boxed.new (w.alloc (.cells #[.slice none 0 0] 22)) 25 (.pointer (some ⟨b, 0, none⟩))).cell
    rw [World.size_alloc] at this
    rw [hw1]; exact this
  have hB1 : Below w.heap.size w w1 := by rw [hw1]; exact ((Below.refl _ w).alloc (Nat.le_refl _) _).alloc (by simp) _
  have hs1 : w1.heap.size = w.heap.size + 2 := by rw [hw1]; simp
  clear hw1 CA
  have HS := Lib.hid hs1
  clear hs1
  gi_wp2_with fail
  refine range_law (gf := 51) (lb := #[.pointer (some ⟨w.heap.size + 1, 0, none⟩)]) rfl (enters_of Try.func51 (by kernel_rfl) rfl) (Wr := fun T => T = 61) (xs := prs t) (Ok := NK w) (encs := fun p : Value × Value => #[p.1, p.2])
    (fun W' hW' => alls2SS_any h.mp (hB1.trans (hW'.mono hB1.size)) ((hW'.cell (p := ⟨w.heap.size + 1, 0, none⟩) (World.block_lt_of_cell? w1 _ cM)).trans cM)) (by intro x; rfl)
    (fun pre W => PairsI21 w pre W) (fun _ _ _ => False) (pairsI21_own w hB1.size) (fun c => ownFrom_pure _ (fun _ : List (Value × Value) => False))
    ⟨⟨_, bO, World.ownsRow_nil _ _ _ _⟩, hB1⟩ (fun pre W h => NK.of_below h.2)
    (fun x => { tmps := #[.pointer (some ⟨b, 0, none⟩), undef, .slice none 0 0, .pointer (some ⟨w.heap.size, 0, none⟩), .func (.func 51) #[] #[.pointer (some ⟨w.heap.size + 1, 0, none⟩)], x.1, x.2, .pointer (some ⟨b, 0, none⟩), .bool false, .pointer (some ⟨b, 0, none⟩), .func (.func 51) #[] #[.pointer (some ⟨w.heap.size + 1, 0, none⟩)], .func (.func 51) #[] #[.pointer (some ⟨w.heap.size + 1, 0, none⟩)], .bool false, .func (.func 51) #[] #[.pointer (some ⟨w.heap.size + 1, 0, none⟩)], x.1, x.2, undef, undef, undef, undef, undef, undef, undef], defers := [] }) ?assign ?body ?done ?stop
  case assign =>
    intro l x W K hK
    gi_wp2
    exact hK
  case body =>
    rintro l2 pre ⟨k, y⟩ W _ ⟨⟨v, hv, hrow⟩, hB⟩ ⟨t', ht⟩
    have hks := ws_keys h.ws (k, y) (by rw [ht]; simp)
    obtain ⟨⟨kn, rfl⟩, ⟨yl, rfl⟩⟩ := hks
    dsimp only
    have cv := hv.cell
    have hlen : pre.length + 1 ≤ 1000000 := by
      have := h.len
      rw [ht] at this; simp at this; omega
    have hsz : w.heap.size + 1 ≤ W.heap.size := hv.lt
    have H := Lib.hid (And.intro hB ht)
    clear hB ht hB1 bO cM hl
    gi_wp2_with (gi_at_builtin; refine wpListIn_append_own _ rfl _ _ 22 rfl (w.heap.size + 1) 61 i0 (.agg #[str [], str []]) 2 32 Try.underlying22 hi hz0 hz1 hz2 rfl (by decide) _ _ _ rfl (hrow.alloc _) ⟨W.heap.size, 0, none⟩ 1 1 [(str kn), (str yl)] rfl rfl (cell_two_new _ _ _ _) (by simp [Value.oneCell']) (by simp only [maxLen]; omega) (by omega) (by simp; omega) ?_; intro v' w1 hown' hgrow _; obtain ⟨g', cap', rfl⟩ := ownsRow_succ hown'; obtain ⟨hv1, hv2, hr2, hbel⟩ := appended2 hv (by omega) hsz hrow hown' hgrow; have hT := boxT (Wr := fun T => T = 61) (v' := .slice (some ⟨g', 0, none⟩) (pre.length + 1) cap') (D := w.heap.size + 1) hv (by decide) hrow hgrow rfl (by omega); have hc1 := hv1.cell; have hf1 := hv1.frozen)
    obtain ⟨hB, ht⟩ := H.out
    have e1 : flatP (pre ++ [((str kn : Value), str yl)]) = flatP pre ++ [(str kn : Value), str yl] := by rw [flatP_app]; rfl
    exact ⟨hT.more (by have := HS.out; omega), ⟨_, hv2, by rw [e1, List.length_append]; exact hr2⟩, hB.trans (hbel _ (Nat.le_refl _))⟩
  case done =>
    rintro D W hD ⟨⟨v, hv, hrow⟩, hB⟩ hK
    have cv := hv.cell
    rw [hl, flatP_plain, List.length_map] at hrow
    have hD2 : w.heap.size + 2 ≤ D := by have := HS.out; omega
    gi_wp2
    refine ⟨by simp, .inl ⟨_, _, rfl, run_takeDeferred hK, ?_⟩⟩
    exact ⟨_, results_tmp rfl _ _ _, v, rfl, RdF.of_row (cellsP_len l) (by rw [List.length_map]; exact ownsRow_putObj hrow _ hK rfl), hB.trans (belowK_b (w := w) (Nat.le_refl _) W D _ _ (by omega) hK rfl rfl)⟩
  case stop =>
    rintro D c pre W hD _ hF _
    exact hF.elim
end Go.Proofs.Yteibiaplmmdppaa
