/- frame.All, by its contract. -/
import Derived.Test.YtainkmbjllklaaaDoorFScanC
import Derived.Test.YtainkmbjllklaaaDoorLRow
import Derived.OwnWalkIn
import Derived.Shelf.RegionOpen
import Derived.TacticsInMore
import Derived.Maps.AppendAt
namespace Go.Proofs.YtainkmbjllklaaaDoor
open Go.RowKit
attribute [local go_sem] Oper.semAt_some wide_fn wide_depth

theorem infoSl : (Tryd.prog.info? 22).map (fun i => (i.zero, i.size, i.bytes)) = some (some (.slice none 0 0), 1, 24) := by kernel_rfl
/-- Where the last of some records ends. -/
def endOf (l : List (Nat × List UInt8)) : Nat := l.foldl (fun _ p => p.1) 0
theorem endOf_snoc (l : List (Nat × List UInt8)) (x : Nat × List UInt8) : endOf (l ++ [x]) = x.1 := by simp [endOf, List.foldl_append]
theorem scanL_len (l : List UInt8) : ∀ f at_, (scanL l f at_).length ≤ f
  | 0, _ => Nat.le_refl _
  | f + 1, at_ => by
    unfold scanL
    cases recL l at_ with
    | none => simp
    | some p => simpa using scanL_len l f _
/-- A row of records. -/
def RecsAt (n0 : Nat) (v : Value) (rs : List (List UInt8)) (W : World) : Prop := ∃ vs, W.ownsRow n0 22 1 v vs.length vs ∧ Each 5 n0 W vs rs
/-- What All tells. -/
def AllP (w : World) (xs : List (Nat × List UInt8)) (e : Ending) (w' : World) : Prop :=
  ∃ v, e = .returned (.tuple #[v, .int .i64 (endOf xs : Int)]) ∧ RecsAt w.heap.size v (xs.map (·.2)) w' ∧ Below w.heap.size w w'
/-- What All keeps from round to round. -/
def AllI (w w1 : World) (pre : List (Nat × List UInt8)) (W : World) : Prop :=
  BoxL w1.heap.size w.heap.size 28 22 5 W (pre.map (·.2)) ∧ Boxed W (w.heap.size + 1) 3 (.int .i64 (endOf pre : Int)) ∧ Below w.heap.size w W ∧ Mid (w.heap.size + 2) w1.heap.size w1 W
theorem allI_own (w w1 : World) (hs : w.heap.size + 2 < w1.heap.size) : OwnFromT (fun _ => False) w1.heap.size (AllI w w1) :=
  OwnFromT.and ((boxL_ownT _ _ _ _ _ _ (fun h => h) (fun h => h) (fun h => h)).from _) (OwnFromT.and ((boxed_ownT _ _ _ (fun h => h)).from _) (OwnFromT.and (ownFromT_below (Nat.le_refl _) (by omega)) (mid_ownT (Nat.le_refl _) (fun W h => h.size hs))))
set_option maxRecDepth 100000 in
set_option maxHeartbeats 8000000 in
theorem all_any (x : Value) (l : List UInt8) (w : World) (hx : Rd w x l) (ht : Tab w) (hl : l.length ≤ 100000000) :
    Calls Tryd.prog 10 #[x] w (AllP w (scanL l (l.length + 1) 0)) := by
  obtain ⟨i0, hi, hz0, hz1, hz2⟩ := info_parts infoSl
  obtain ⟨xs, hxs⟩ : ∃ xs, xs = scanL l (l.length + 1) 0 := ⟨_, rfl⟩
  have hlen : xs.length ≤ 100000001 := by rw [hxs]; have := scanL_len l (l.length + 1) 0; omega
  have hsc : ∀ {n0 B : Nat} {v0 : Value} {W : World}, SeqsV (fun _ => False) Tryd.prog 22 #[.pointer (some ⟨B, 0, none⟩)] (ScanR n0) (ScanOk n0 B v0 l) (fun T => T = 22) xs W := by
    intro n0 B v0 W; rw [hxs]; exact scans_any hl
  rw [← hxs]
  have hb0 : Below w.heap.size w ((w.alloc (.cells #[.slice none 0 0] 28)).alloc (.cells #[.int .i64 0] 3)) := ((Below.refl _ w).alloc (Nat.le_refl _) _).alloc (by simp) _
  have CS := Lib.hid (callsIn_wide (n := 8).2 (scan_any x l ((w.alloc (.cells #[.slice none 0 0] 28)).alloc (.cells #[.int .i64 0] 3)) (hx.below hb0 (Nat.le_refl _)) (by omega)))
  have bA := Boxed.new w 28 (.slice none 0 0)
  have bB := Boxed.new (w.alloc (.cells #[.slice none 0 0] 28)) 3 (.int .i64 0)
  simp only [World.size_alloc] at bB
  have HX := Lib.hid (And.intro ht (And.intro hb0 (And.intro (bA.alloc (.cells #[.int .i64 0] 3)) bB)))
  obtain ⟨xa, xc, rfl, _⟩ := id hx
  clear bA bB hx ht hxs hb0
  refine (callsIn_wide (n := 9)).1 ?_
  refine callsIn_of_wp_marks Tryd.func10 rfl trivial ?_ rfl
  simp only [Tryd.ntmps10, List.size_toArray, List.length_cons, List.length_nil, Nat.reduceAdd, Nat.reduceSub, Array.replicate_succ, Array.replicate_zero, List.push_toArray, List.append_toArray, List.nil_append, List.cons_append]
  gi_wp2_with fail
  refine CS.out.mono ?_
  rintro e w1 ⟨B, v0, rfl, hbx, hown, hB, hb1⟩
  simp only [World.size_alloc] at hown hB hb1
  gi_wp2_with fail
  obtain ⟨HT, hb0, bA, bB⟩ := HX.out
  have hsz0 : w.heap.size + 2 ≤ w1.heap.size := by have := hb1.size; simp at this; omega
  have hsz : w.heap.size + 2 < w1.heap.size := by have := hbx.lt; omega
  have HB1 : Below w.heap.size w w1 := hb0.trans (hb1.mono (by omega))
  have bA1 : Boxed w1 w.heap.size 28 (.slice none 0 0) := (hb1.block _ (by omega)).trans bA
  have bB1 : Boxed w1 (w.heap.size + 1) 3 (.int .i64 0) := (hb1.block _ (by omega)).trans bB
  have HF := Lib.hid (And.intro HT (And.intro hbx (And.intro hown (And.intro hB HB1))))
  clear HX CS bA bB hb0 hb1 hbx hown hB
  refine range_lawV (Tw := fun _ => False) (gf := 22) (lb := #[.pointer (some ⟨B, 0, none⟩)]) rfl (by intro args w; rfl) (R := ScanR w1.heap.size) (Ok := ScanOk w1.heap.size B v0 l) (Wr := fun T => T = 22) (xs := xs) (fun W' _ => hsc)
    (by rintro x args W ⟨v, rfl, _⟩; rfl)
    (by rintro x args _ X Y row ⟨v, rfl, hv⟩ hg hr; exact ⟨v, rfl, hv.kept hg (own_ownT (Tw := fun _ => False) (fun h => h) hv (fun r e => by obtain ⟨_, o, h1, h2⟩ := hr r e; exact ⟨o, h1, .inl h2⟩))⟩)
    (AllI w w1) (fun _ _ _ => False) (allI_own w w1 hsz) (fun c => ownFromT_pure _ _ (fun _ => False))
    ⟨boxL_nil bA1, bB1, HB1, Mid.refl (Nat.le_refl _)⟩
    (fun pre W h => ⟨h.2.2.2.size hsz, h.2.2.2.box HF.out.2.1 (by have := HF.out.2.2.2.1; omega) HF.out.2.1.lt, (h.2.2.2.own HF.out.2.2.1 rfl).rd, HF.out.1.below h.2.2.1 (Nat.le_refl _)⟩)
    (fun args => { tmps := #[.slice xa l.length xc, undef, .slice none 0 0, .int .i64 0, .pointer (some ⟨w.heap.size, 0, none⟩), .pointer (some ⟨w.heap.size + 1, 0, none⟩), args.getD 0 undef, args.getD 1 undef, .slice xa l.length xc, .func (.func 22) #[] #[.pointer (some ⟨B, 0, none⟩)], args.getD 0 undef, args.getD 1 undef, undef, undef, undef, undef, undef, undef, undef], defers := [] }) ?assign ?body ?done ?stop
  case assign =>
    rintro l2 x args W K ⟨v, rfl, hv⟩ hK
    gi_wp2
    exact hK
  case body =>
    rintro l2 pre ⟨k, r⟩ args W _ ⟨⟨vs, ⟨v, hv, hrow⟩, he⟩, hn, hBl, hmid⟩ ⟨y, rfl, hy⟩ ⟨t, ht⟩
    dsimp only at hy ⊢
    have hvl : vs.length = pre.length := by rw [he.len]; simp
    have hpl : vs.length + 1 ≤ 100000001 := by rw [ht] at hlen; simp at hlen; omega
    have hs2 := hmid.size hsz
    obtain ⟨ya, yn, yc, rfl⟩ : ∃ ya yn yc, y = .slice ya yn yc := by obtain ⟨a, c, e, _⟩ := hy.rd; exact ⟨a, _, c, e⟩
    have cv := hv.cell
    have cn := hn.cell
    have H := Lib.hid (And.intro hBl (And.intro hmid (And.intro he (And.intro ht (And.intro hvl hy)))))
    clear hBl hmid he ht hvl hlen hsc HF
    gi_wp2_with (gi_at_builtin; refine wpListIn_append_own _ rfl _ _ 28 rfl w1.heap.size 22 i0 (.slice none 0 0) 1 24 Tryd.underlying28 hi hz0 hz1 hz2 rfl (by decide) _ _ _ rfl (hrow.alloc _) ⟨W.heap.size, 0, none⟩ 1 1 [.slice ya yn yc] rfl rfl (cell_one_new _ _ _) (by simp [Value.oneCell']) (by simp only [maxLen]; omega) (by omega) (by simp; omega) ?_; intro v' w2 hown' hgrow _; obtain ⟨g', cap', rfl⟩ := ownsRow_succ hown'; obtain ⟨hv1, hv2, hr2, hoth, hbel⟩ := appended hv (by omega) hs2 hrow hown' hgrow; have hT := boxT (Wr := fun T => T = 22) (v' := .slice (some ⟨g', 0, none⟩) (vs.length + 1) cap') (D := w1.heap.size) hv (by decide) hrow hgrow rfl (by omega); have hc1 := hv1.cell; have hf1 := hv1.frozen; have hn2 := (hoth _ _ _ (by omega) (by omega) hn).2; have cn1 := (hoth _ _ _ (by omega) (by omega) hn).1.cell; have cn2 := hn2.cell; have fn2 := hn2.frozen; have he0 := H.out.2.2.1; have hbel0 := hbel w.heap.size (Nat.le_refl _); have hgrow0 := hgrow; clear hgrow)
    obtain ⟨hBl, hmid, he, ht, hvl, hy⟩ := H.out
    have e1 : (pre ++ [(k, r)]).map (fun p : Nat × List UInt8 => p.2) = pre.map (fun p => p.2) ++ [r] := by simp
    have e2 : endOf (pre ++ [(k, r)]) = k := endOf_snoc _ _
    have q1 : Each 5 w1.heap.size w2 (vs ++ [.slice ya yn yc]) (pre.map (fun p => p.2) ++ [r]) := (he.snoc hy).alloc (.cells #[.slice ya yn yc] 22) |>.apart (hrow.alloc _) (by decide) hgrow0
    have q2 := ((q1.set (B := w.heap.size) (by omega) (.slice (some ⟨g', 0, none⟩) (vs.length + 1) cap')).set (B := w.heap.size + 1) (by omega) (.int .i64 (k : Int)))
    have z2 := hgrow0.size
    simp only [World.size_alloc] at z2
    have m1 : Mid (w.heap.size + 2) w1.heap.size w1 (w2.setCell ⟨w.heap.size, 0, none⟩ (.slice (some ⟨g', 0, none⟩) (vs.length + 1) cap')) :=
      ((hmid.grown hs2 (World.grownBy_alloc W (.cells #[.slice ya yn yc] 22) none) (fun r e => by cases e)).grown (by simp; omega) hgrow0 (fun r e => .inr (hrow.lt r e).1)).grown (by omega) (grownBy_setCell' _ _ _) (fun r e => by cases e; omega)
    have m2 := m1.grown (by simp [World.setCell]; omega) (grownBy_setCell' _ (w.heap.size + 1) (.int .i64 (k : Int))) (fun r e => by cases e; omega)
    have b2 := (hBl.trans hbel0).setCell (p := ⟨w.heap.size + 1, 0, none⟩) (by show w.heap.size ≤ w.heap.size + 1; omega) (.int .i64 (k : Int))
    have r3 := hr2.kept (grownBy_setCell' _ (w.heap.size + 1) (.int .i64 (k : Int))) (.inr (fun e => by have := (hr2.lt _ e).1; omega))
    have k2 : KT (fun T => T = 22) w1.heap.size W ((w2.setCell ⟨w.heap.size, 0, none⟩ (.slice (some ⟨g', 0, none⟩) (vs.length + 1) cap')).setCell ⟨w.heap.size + 1, 0, none⟩ (.int .i64 (k : Int))) := hT.trans (KT.of_grown (grownBy_setCell' _ _ _) (fun j e => .inl (by cases e; omega)))
    refine ⟨k2, ⟨vs ++ [.slice ya yn yc], ⟨_, hv2.other (by omega) _, by simpa using r3⟩, by rw [e1]; exact q2⟩, by rw [e2]; exact hn2.set _, b2, m2⟩
  case done =>
    rintro D W hD ⟨⟨vs, ⟨v, hv, hrow⟩, he⟩, hn, hBl, hmid⟩ hK
    have cv := hv.cell
    have cn := hn.cell
    have hm : Tryd.prog.follows .mixedOrders = true := by kernel_rfl
    gi_wp2
    gi_region_o
    gi_wp2
    refine ⟨by simp, .inl ⟨_, _, rfl, run_takeDeferred (show W.drew.heap[D]? = _ from hK), ?_⟩⟩
    have hK' : W.drew.heap[D]? = some (.deferred (some [])) := hK
    have hrow' : W.drew.ownsRow w1.heap.size 22 1 v _ _ := hrow
    have he' : Each 5 w1.heap.size W.drew vs (xs.map (·.2)) := ⟨he.len, he.own⟩
    refine ⟨_, results_tmp2 rfl _ _ _, v, rfl, ⟨vs, row_mono (ownsRow_putObj hrow' _ hK' rfl) (by omega), ?_⟩, (hBl.trans (Below.drewsN (Below.refl _ W) 1)).trans (belowK_b (w := w) (Nat.le_refl _) W.drew D _ _ (by omega) hK' rfl rfl)⟩
    exact (he'.kept (grownBy_putObj' _ _ _) (fun i h1 => own_ownT (Tw := fun _ => False) (fun h => h) (he'.own i h1 (by rw [← he'.len]; exact h1)) (fun r e => by cases e; exact ⟨_, hK', .inl rfl⟩))).mono (by omega)
  case stop =>
    rintro D c pre W hD _ hF _
    exact hF.elim
end Go.Proofs.YtainkmbjllklaaaDoor
