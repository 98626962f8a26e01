import Derived.Test.YtcgjiddiegepkaaTxPut
import Derived.Test.YtcgjiddiegepkaaTxSt
import Derived.Deep.RegionHeld3
import Derived.Test.YtcgjiddiegepkaaV11StayN
/- txn: Writes. -/
namespace Go.Proofs.Ytcgjiddiegepkaa
open Go.RowKit
attribute [local go_sem] Oper.semAt_some wide_fn wide_depth
variable {W : World} {tb s wb : Nat} {at1 : Int} {L : OwnL} {k : Nat}
theorem infoWr : (Try.prog.info? 58).map (fun i => (i.zero, i.size, i.bytes)) = some (some (.agg #[str [], str [], .bool false]), 3, 40) := by kernel_rfl
def cellsWr (y : WrT) : List Value := [str y.1, str y.2.1, .bool y.2.2]
/-- The writes so far. -/
def WrsI (w : World) (pre : List (Value × Value)) (W : World) : Prop :=
  BoxRowN (w.heap.size + 1) w.heap.size 54 58 3 W pre.length (flatV (pre.map Prod.snd)) ∧ Below w.heap.size w W
theorem wrsI_own (w : World) {B : Nat} (hB : w.heap.size ≤ B) : OwnFromT (fun _ => False) B (WrsI w) :=
  OwnFromT.and ((boxRowN_ownT _ _ _ _ _ (fun pre : List (Value × Value) => pre.length) (fun pre => flatV (pre.map Prod.snd)) (by simp) (by simp)).from _) (ownFromT_below (Nat.le_refl _) hB)
/-- A slice of writes. -/
def WrsP (w : World) (l : List WrT) (e : Ending) (w' : World) : Prop := ∃ v, e = .returned v ∧ w'.ownsRow w.heap.size 58 3 v l.length (l.map cellsWr).flatten ∧ Below w.heap.size w w'
theorem flat_wrs (L : OwnL) : flatV ((L.map (pairB fW)).map Prod.snd) = ((L.map Prod.snd).map cellsWr).flatten := by
  induction L with
  | nil => rfl
  | cons x t ih =>
    simp only [List.map_cons, List.flatten_cons] at ih ⊢
    rw [← ih]
    rfl
set_option maxRecDepth 100000 in
set_option maxHeartbeats 8000000 in
theorem txWrites (h : TxS W tb s wb at1 L k) (hk : k ≤ 100000) : Calls Try.prog 33 #[.pointer (some ⟨tb, 0, none⟩)] W (WrsP W (L.map Prod.snd)) := by
  obtain ⟨i0, hi, hz0, hz1, hz2⟩ := info_parts infoWr
  have hl := h.hk
  obtain ⟨tw, m1, m2, m3⟩ := h.mp
  have hB0 : Below W.heap.size W ((W.alloc (.cells #[.slice none 0 0] 54)).alloc (.cells #[.pointer (some ⟨wb, 0, none⟩)] 72)) := (((Below.refl _ W).alloc (Nat.le_refl _) _).alloc (by simp) _)
  have bA := Boxed.new W 54 (.slice none 0 0)
  have p2 : (W.alloc (.cells #[.slice none 0 0] 54)).cell? ⟨tb, 2, none⟩ = some (.pointer (some ⟨wb, 0, none⟩)) := (h.below (below_alloc W _)).box.cells.2.2
  have CA := mallVW_any wb (W.alloc (.cells #[.slice none 0 0] 54))
  rw [World.size_alloc] at CA
  have HS : Hid (TxS W tb s wb at1 L k) := Lib.hid h
  have HSQ : Hid (∀ W', Below W.heap.size W W' → W'.cell? ⟨W.heap.size + 1, 0, none⟩ = some (.pointer (some ⟨wb, 0, none⟩)) → Seqs Try.prog 73 #[.pointer (some ⟨W.heap.size + 1, 0, none⟩)] (fun p : Value × Value => #[p.1, p.2]) (NQ W) (fun T => T = 58) (L.map (pairB fW)) W') := Lib.hid (fun W' hb hc => by
    have := alls2VW_any (Wr := fun T => T = 58) m1 m2 hc hb
    rwa [m3] at this)
  clear h m1 m2
  refine (callsIn_wide (n := 9)).1 ?_
  refine callsIn_of_wp_marks Try.func33 rfl trivial ?_ rfl
  simp only [Try.ntmps33, List.size_toArray, List.length_cons, List.length_nil, Nat.reduceAdd, Nat.reduceSub, Array.replicate_succ, Array.replicate_zero, List.push_toArray, List.append_toArray, List.nil_append, List.cons_append]
  gi_wp2_with (gi_at_call 54; refine ((callsIn_wide (n := 8)).2 CA).mono ?_; rintro e w1 ⟨rfl, rfl⟩)
  have bM := Boxed.new (W.alloc (.cells #[.slice none 0 0] 54)) 72 (.pointer (some ⟨wb, 0, none⟩))
  rw [World.size_alloc] at bM
  refine range_lawA (Tw := fun _ => False) (gf := 73) (lb := #[.pointer (some ⟨W.heap.size + 1, 0, none⟩)]) rfl (enters_of Try.func73 (by kernel_rfl) rfl) (Ok := NQ W) (Wr := fun T => T = 58) (xs := L.map (pairB fW))
    (fun W' h => (HSQ.out W' (hB0.trans (h.mono (by simp; omega))) ((h.cell (p := ⟨W.heap.size + 1, 0, none⟩) (by simp)).trans bM.cell)).toW) (by intro x; rfl)
    (WrsI W) (fun _ _ _ => False)
    (wrsI_own W (by simp; omega)) (fun c => ownFromT_pure _ _ (fun _ => False))
    ⟨⟨_, bA.alloc _, World.ownsRow_nil _ _ _ _⟩, hB0⟩ (fun pre W2 h => NQ.of_below h.2)
    (fun x b => { tmps := #[.pointer (some ⟨tb, 0, none⟩), undef, .slice none 0 0, .pointer (some ⟨W.heap.size, 0, none⟩), undef, .pointer (some ⟨b, 0, none⟩), .pointer (some ⟨tb, 0, none⟩), .pointer (some ⟨tb, 0, none⟩), .pointer (some ⟨tb, 2, none⟩), .pointer (some ⟨wb, 0, none⟩), .func (.func 73) #[] #[.pointer (some ⟨W.heap.size + 1, 0, none⟩)], x.1, x.2, undef, undef, undef, undef, undef], defers := [] }) (fun x => .cells #[wA x.2, wB x.2, wC x.2] 58) ?assign ?body ?done ?stop
  case assign =>
    intro l x W1 K hx hK
    obtain ⟨y, _, rfl⟩ := List.mem_map.1 hx
    have HK := Lib.hid hK
    clear hK
    unfold pairB fW
    dsimp only
    gi_wp2
    exact HK.out
  case body =>
    rintro l2 pre ⟨px, py⟩ b W1 _ hbl hbo ⟨⟨v, hv, hrow⟩, hB⟩ ⟨t, ht⟩
    obtain ⟨y, rfl⟩ : ∃ y : WrT, py = fW y := by
      have hm : (px, py) ∈ L.map (pairB fW) := by rw [ht]; simp
      obtain ⟨x, _, hx⟩ := List.mem_map.1 hm
      exact ⟨x.2, (congrArg Prod.snd hx).symm⟩
    obtain ⟨ya, yb, yc⟩ := y
    have hbx : W1.heap[b]? = some (.cells #[str ya, str yb, .bool yc] 58 (0, 0)) := hbo
    have z0 : W1.cell? ⟨b, 0, none⟩ = some (str ya) := cell_of_row W1 b 0 _ _ (0, 0) hbx
    have z1 : W1.cell? ⟨b, 1, none⟩ = some (str yb) := cell_of_row W1 b 1 _ _ (0, 0) hbx
    have z2 : W1.cell? ⟨b, 2, none⟩ = some (.bool yc) := cell_of_row W1 b 2 _ _ (0, 0) hbx
    have cvv := hv.cell
    have hlen : pre.length + 1 ≤ 100000 := by
      have := congrArg List.length ht
      simp at this; omega
    have hsz : W.heap.size + 1 ≤ W1.heap.size := hv.lt
    have ex : flatV ((pre ++ [(px, fW (ya, yb, yc))]).map Prod.snd) = flatV (pre.map Prod.snd) ++ [str ya, str yb, .bool yc] := by rw [List.map_append, List.map_singleton, flatV_snoc]; rfl
    have HE := Lib.hid (And.intro ex hB)
    unfold fW
    dsimp only
    clear ex hB ht hB0 bA bM HSQ CA p2 hbo hbx
    gi_wp2_with (gi_at_builtin; refine wpListIn_append_own _ rfl _ _ 54 rfl (W.heap.size + 1) 58 i0 (.agg #[str [], str [], .bool false]) 3 40 Try.underlying54 hi hz0 hz1 hz2 rfl (by decide) _ _ _ rfl (hrow.alloc _) ⟨W1.heap.size, 0, none⟩ 1 1 [str ya, str yb, .bool yc] rfl rfl (cell_three_new _ _ _ _ _) (by simp [Value.oneCell']) (by simp only [maxLen]; omega) (by omega) (by simp; omega) ?_; intro v' w1 hown' hgrow _; obtain ⟨g', cap', rfl⟩ := ownsRow_succ hown'; obtain ⟨hv1, hv2, hr2, hbel⟩ := appended2 hv (by omega) hsz hrow hown' hgrow; have hT := boxT (Wr := fun T => T = 58) (v' := .slice (some ⟨g', 0, none⟩) (pre.length + 1) cap') (D := W.heap.size + 2) hv (by decide) hrow hgrow rfl (by omega); have hc1 := hv1.cell; have hf1 := hv1.frozen; clear hown' hgrow)
    obtain ⟨ex, hB⟩ := HE.out
    exact ⟨hT.more (by simp), ⟨_, hv2, by rw [show (px, Value.agg #[str ya, str yb, .bool yc]) = (px, fW (ya, yb, yc)) from rfl, ex, List.length_append]; exact hr2⟩, hB.trans (hbel _ (Nat.le_refl _))⟩
  case done =>
    rintro D W1 hD ⟨⟨v, hv, hrow⟩, hB⟩ hK
    have cv := hv.cell
    gi_wp2
    refine ⟨by simp, .inl ⟨_, _, rfl, run_takeDeferred hK, ?_⟩⟩
    refine ⟨_, results_tmp rfl _ _ _, v, rfl, ?_, hB.trans (belowK_b (w := W) (Nat.le_refl _) W1 D _ _ (by simp at hD; omega) hK rfl rfl)⟩
    rw [List.length_map] at hrow
    rw [List.length_map, ← flat_wrs]
    exact row_mono (b := W.heap.size + 1) (b' := W.heap.size) (ownsRow_putObj hrow _ hK rfl) (by omega)
  case stop =>
    rintro D c pre W hD _ hF
    exact hF.elim
end Go.Proofs.Ytcgjiddiegepkaa

/- A drawn region in a round, walked with a condition held (as out of it). -/
namespace Go.Proofs.Ytcgjiddiegepkaa
open Go.RowKit

theorem oper_wide {n : Nat} {P : Program} {o : Oper} {a : Act} {w : World} {K : Act → World → Prop} {Q : Exit → Act → World → Prop} (h : Oper.wp P o a w K Q) : Oper.wpIn Fence.wide n P o a w K Q := by
  unfold Oper.wp at h
  unfold Oper.wpIn
  refine ⟨fun _ _ => trivial, ?_⟩
  rw [show Fence.wide.round = none from rfl, Oper.semAt_none]
  generalize (execOp a.eval o).run P w = r at h ⊢
  rcases r with ⟨v, w'⟩ | ⟨s, w'⟩
  · have hd : Fence.wide.depth.isSome = true → 1 ≤ n := by
      intro h
      cases h
    cases v with
    | value v => exact h
    | skip => exact h
    | defer d => exact h
    | enter f args => exact ⟨hd, callsIn_wide.2 (Calls.mono h (fun e w'' he => by cases e <;> exact he))⟩
    | row row args =>
      refine ⟨hd, fun c cs _ => ?_⟩
      obtain ⟨v, w'', r, s⟩ := h c cs
      exact ⟨v, w'', r, stepsIn_wide.2 s⟩
    | _ => exact h.elim
  · cases s <;> exact h
theorem any_wide {n : Nat} {P : Program} {md : Region.Mode} {ops : Array Oper} {Q : Exit → Act → World → Prop} (hlo : ¬ LetsOut Q) :
    ∀ (fuel : Nat) (listed : Array Bool) (a : Act) (w : World), wpAny P md ops Q fuel listed a w → wpAnyIn Fence.wide n P md ops Q fuel listed a w := by
  intro fuel
  induction fuel with
  | zero => intro listed a w h; exact h
  | succ fuel ih =>
    intro listed a w h
    refine ⟨h.1, fun i hi => ?_⟩
    have h2 := h.2 i hi
    unfold wpOp at h2
    unfold wpOpIn
    cases ho : ops[i]? with
    | none => simp only [ho] at h2 ⊢; exact ih _ _ _ h2
    | some o =>
      simp only [ho] at h2 ⊢
      split
      · next hw =>
        simp only [hw, if_true] at h2
        rcases h2 with h2 | h2
        · exact Oper.wpIn_mono (fun a w h => ih _ a w h) (oper_wide h2)
        · exact (hlo h2.2).elim
      · next hw =>
        simp only [hw] at h2
        exact ⟨fun _ _ => trivial, ih _ _ _ h2⟩
/-- The beginning, in a round. -/
theorem held_round {l n : Nat} {P : Program} {id : Nat} {ops : Array Oper} {R : Act → World → Prop} {S : World → Prop} {a : Act} {w : World} (hm : P.follows .mixedOrders = true) (hno : noDefer ops = true) (hS : S w.drew)
    (h : S w.drew → wpAnyH P .any ops (OnlyF R) S ops.size (Array.replicate ops.size false) a w.drew) : (Code.region id ops true).wpIn (Fence.wide.inRound l) n P (OnlyF R) a w :=
  wpIn_region_any hm (any_inRound rfl hno _ _ _ _ (any_wide (fun ⟨_, _, h⟩ => h) _ _ _ _ (wpAny_of_held _ _ _ _ (h hS))))
end Go.Proofs.Ytcgjiddiegepkaa

/- txn: Clash. -/
namespace Go.Proofs.Ytcgjiddiegepkaa
open Go.RowKit
attribute [local go_sem] Oper.semAt_some wide_fn wide_depth
variable {W : World} {tb s wb : Nat} {at1 : Int} {L : OwnL} {k : Nat}
theorem str_inj' {a b : List UInt8} (h : (str a : Value) = str b) : a = b := by simpa using h
theorem any_map_id {α : Type} (l : List α) (f : α → Bool) : (l.map f).any id = l.any f := by
  induction l with
  | nil => rfl
  | cons x t ih => simp [ih]
theorem clash_same (lst : List UInt8 → Int) (at1 : Int) : ∀ (B1 B2 : OwnL), B1.map (pairB fW) = B2.map (pairB fW) → B1.map (fun x => decide (at1 < lst x.1)) = B2.map (fun x => decide (at1 < lst x.1))
  | [], [], _ => rfl
  | [], _ :: _, h => by simp at h
  | _ :: _, [], h => by simp at h
  | x :: t, y :: u, h => by
    simp only [List.map_cons, List.cons.injEq] at h ⊢
    have e : x.1 = y.1 := str_inj' (congrArg Prod.fst h.1)
    exact ⟨by rw [e], clash_same lst at1 t u h.2⟩
/-- No key so far is behind; one is. -/
def ClN (lst : List UInt8 → Int) (at1 : Int) (b : Bool) (pre : List (Value × Value)) : Prop := ∃ A : OwnL, pre = A.map (pairB fW) ∧ A.any (fun x => decide (at1 < lst x.1)) = b
def ClR (W : World) (lst : List UInt8 → Int) (at1 : Int) (L : OwnL) (e : Ending) (W' : World) : Prop := e = .returned (.bool (L.any (fun x => decide (at1 < lst x.1)))) ∧ Below W.heap.size W W'
set_option maxRecDepth 100000 in
set_option maxHeartbeats 8000000 in
theorem txClash (h : TxS W tb s wb at1 L k) (lst : List UInt8 → Int) (cl : ∀ W' key, Below W.heap.size W W' → Calls Try.prog 24 #[.pointer (some ⟨s, 0, none⟩), str key] W' fun e w' => e = .returned (.int .i64 (lst key)) ∧ W' = w') :
    Calls Try.prog 31 #[.pointer (some ⟨tb, 0, none⟩)] W (ClR W lst at1 L) := by
  have hl := h.hk
  obtain ⟨tw, m1, m2, m3⟩ := h.mp
  obtain ⟨W0, hW0⟩ : ∃ W0, W0 = (W.alloc (.cells #[.pointer (some ⟨tb, 0, none⟩)] 30)).alloc (.cells #[.bool false] 4) := ⟨_, rfl⟩
  have hz0 : W0.heap.size = W.heap.size + 2 := by rw [hW0]; simp
  have hb0 : Below W.heap.size W W0 := by rw [hW0]; exact ((Below.refl _ W).alloc (Nat.le_refl _) _).alloc (by simp) _
  have p2 : W0.cell? ⟨tb, 2, none⟩ = some (.pointer (some ⟨wb, 0, none⟩)) := (h.below hb0).box.cells.2.2
  have bT : Boxed W0 W.heap.size 30 (.pointer (some ⟨tb, 0, none⟩)) := by rw [hW0]; exact (Boxed.new W 30 (.pointer (some ⟨tb, 0, none⟩))).alloc _
  have bR : Boxed W0 (W.heap.size + 1) 4 (.bool false) := by
    have := Boxed.new (W.alloc (.cells #[.pointer (some ⟨tb, 0, none⟩)] 30)) 4 (.bool false)
    rw [World.size_alloc] at this
    rw [hW0]; exact this
  have CA := mallVW_any wb W0
  rw [hz0] at CA
  have HS : Hid (TxS W tb s wb at1 L k) := Lib.hid h
  have HSQ : Hid (∀ W', Below W.heap.size W W' → W'.cell? ⟨W.heap.size + 2, 0, none⟩ = some (.pointer (some ⟨wb, 0, none⟩)) → Seqs Try.prog 73 #[.pointer (some ⟨W.heap.size + 2, 0, none⟩)] (fun p : Value × Value => #[p.1, p.2]) (NQ W) (fun T => T = 4) (L.map (pairB fW)) W') := Lib.hid (fun W' hb hc => by
    have := alls2VW_any (Wr := fun T => T = 4) m1 m2 hc hb
    rwa [m3] at this)
  have HCL := Lib.hid cl
  clear h m1 m2 cl
  refine (callsIn_wide (n := 9)).1 ?_
  refine callsIn_of_wp_marks Try.func31 rfl trivial ?_ rfl
  simp only [Try.ntmps31, List.size_toArray, List.length_cons, List.length_nil, Nat.reduceAdd, Nat.reduceSub, Array.replicate_succ, Array.replicate_zero, List.push_toArray, List.append_toArray, List.nil_append, List.cons_append]
  rw [hW0] at CA p2
  have c0 := bT.cell
  rw [hW0] at c0
  gi_wp2_with (gi_at_call 54; refine ((callsIn_wide (n := 8)).2 CA).mono ?_; rintro e w1 ⟨rfl, rfl⟩)
  have bM := Boxed.new W0 72 (.pointer (some ⟨wb, 0, none⟩))
  rw [hz0] at bM
  have hb1 : Below W.heap.size W (W0.alloc (.cells #[.pointer (some ⟨wb, 0, none⟩)] 72)) := hb0.trans ((below_alloc W0 _).mono hb0.size)
  rw [← hW0]
  have hz1 : (W0.alloc (.cells #[.pointer (some ⟨wb, 0, none⟩)] 72)).heap.size = W.heap.size + 3 := by simp [hz0]
  have bT1 := bT.alloc (.cells #[.pointer (some ⟨wb, 0, none⟩)] 72)
  have bR1 := bR.alloc (.cells #[.pointer (some ⟨wb, 0, none⟩)] 72)
  generalize hW1 : W0.alloc (.cells #[.pointer (some ⟨wb, 0, none⟩)] 72) = W1 at bM hb1 hz1 bT1 bR1 ⊢
  clear CA p2 c0 hW0 hz0 hb0 bT bR hW1
  refine range_law (gf := 73) (lb := #[.pointer (some ⟨W.heap.size + 2, 0, none⟩)]) rfl (enters_of Try.func73 (by kernel_rfl) rfl) (Ok := NQ W) (Wr := fun T => T = 4) (xs := L.map (pairB fW))
    (fun W' h => HSQ.out W' (hb1.trans (h.mono (by omega))) ((h.cell (p := ⟨W.heap.size + 2, 0, none⟩) (by show W.heap.size + 2 < _; omega)).trans bM.cell)) (by intro x; rfl)
    (fun pre W2 => Below W.heap.size W W2 ∧ Boxed W2 W.heap.size 30 (.pointer (some ⟨tb, 0, none⟩)) ∧ Boxed W2 (W.heap.size + 1) 4 (.bool false) ∧ ClN lst at1 false pre)
    (fun c pre W2 => Below W.heap.size W W2 ∧ Boxed W2 (W.heap.size + 1) 4 (.bool true) ∧ c = .ret ∧ ClN lst at1 true pre)
    (OwnFromT.plain (OwnFromT.and (ownFromT_below (Nat.le_refl _) (by omega)) (OwnFromT.and ((boxed_ownT (Tw := fun _ => False) _ _ (fun _ : List (Value × Value) => .pointer (some ⟨tb, 0, none⟩)) (by simp)).from _) (OwnFromT.and ((boxed_ownT (Tw := fun _ => False) _ _ (fun _ : List (Value × Value) => .bool false) (by simp)).from _) (ownFromT_pure _ _ _)))))
    (fun c => OwnFromT.plain (OwnFromT.and (ownFromT_below (Nat.le_refl _) (by omega)) (OwnFromT.and ((boxed_ownT (Tw := fun _ => False) _ _ (fun _ : List (Value × Value) => .bool true) (by simp)).from _) (ownFromT_pure _ _ _))))
    ⟨hb1, bT1, bR1, [], rfl, rfl⟩ (fun pre W2 h => NQ.of_below h.1) ?a1 ?assign ?body ?done ?stop
  case assign =>
    intro l x W K hK
    gi_wp2
    exact hK
  case body =>
    rintro l2 pre ⟨px, py⟩ W2 _ ⟨hb2, hT, hR, A, rfl, hA⟩ ⟨t, ht⟩
    obtain ⟨y, hy1, hy2⟩ : ∃ y : List UInt8 × WrT, px = str y.1 ∧ py = fW y.2 := by
      have hm : (px, py) ∈ L.map (pairB fW) := by rw [ht]; simp
      obtain ⟨x, _, hx⟩ := List.mem_map.1 hm
      exact ⟨x, (congrArg Prod.fst hx).symm, (congrArg Prod.snd hx).symm⟩
    obtain ⟨key, y⟩ := y
    dsimp only at hy1 hy2
    subst hy1 hy2
    have hcc := (HS.out.below hb2).box.cells
    have p0 := hcc.1
    have p1 := hcc.2.1
    have cT := hT.cell
    have cR := hR.cell
    have fR := hR.frozen
    have CL := Lib.hid (HCL.out W2 key hb2)
    have CL1 := Lib.hid (HCL.out W2.drew key (Below.drewsN hb2 1))
    have HH := Lib.hid (And.intro hb2 (And.intro hT (And.intro hR hA)))
    obtain ⟨la, hla⟩ : ∃ la, la = lst key := ⟨_, rfl⟩
    rw [← hla] at CL CL1
    have HLA := Lib.hid hla
    have HSS : Hid (W2.drew.cell? ⟨W.heap.size, 0, none⟩ = some (.pointer (some ⟨tb, 0, none⟩)) ∧ W2.drew.cell? ⟨tb, 0, none⟩ = some (.pointer (some ⟨s, 0, none⟩)) ∧ W2.drew.cell? ⟨tb, 1, none⟩ = some (.int .i64 at1)) := Lib.hid ⟨cT, p0, p1⟩
    dsimp only
    clear hb2 hT hR hA CL ht hcc HCL HSQ bM hb1 bT1 bR1 hla
    gi_wp2_with fail
    refine onlyF_cut (fun a W' => a = { tmps := #[.pointer (some ⟨tb, 0, none⟩), .pointer (some ⟨W.heap.size, 0, none⟩), .pointer (some ⟨W.heap.size + 1, 0, none⟩), str key, .pointer (some ⟨tb, 0, none⟩), .pointer (some ⟨tb, 0, none⟩), .pointer (some ⟨tb, 2, none⟩), .pointer (some ⟨wb, 0, none⟩), .func (.func 73) #[] #[.pointer (some ⟨W.heap.size + 2, 0, none⟩)], str key, fW y, .pointer (some ⟨tb, 0, none⟩), .pointer (some ⟨tb, 0, none⟩), .pointer (some ⟨tb, 0, none⟩), .pointer (some ⟨s, 0, none⟩), str key, .int .i64 la, .pointer (some ⟨tb, 0, none⟩), .pointer (some ⟨tb, 0, none⟩), .pointer (some ⟨tb, 1, none⟩), .int .i64 at1, .bool (decide (at1 < la))], defers := [] } ∧ W' = W2.drew) ?_ ?_
    · refine held_round (S := fun W' => W'.cell? ⟨W.heap.size, 0, none⟩ = some (.pointer (some ⟨tb, 0, none⟩)) ∧ W'.cell? ⟨tb, 0, none⟩ = some (.pointer (some ⟨s, 0, none⟩)) ∧ W'.cell? ⟨tb, 1, none⟩ = some (.int .i64 at1)) (by kernel_rfl) (by kernel_rfl) HSS.out (fun hHeld => ?_)
      refine wpAnyH_take (i := 0) (v := ?v1) rfl (by kernel_rfl) (by kernel_rfl) (by kernel_rfl) (fun _ _ _ h => h) (Or.inl ⟨by rfl, ?hy1⟩) (by assumption) ?_
      case hy1 => (intro w hSw; obtain ⟨s0, s1, s2⟩ := hSw; go_simp; try with_reducible rfl)
      go_simp
      refine wpAnyH_take (i := 1) (v := ?v2) rfl (by kernel_rfl) (by kernel_rfl) (by kernel_rfl) (fun _ _ _ h => h) (Or.inl ⟨by rfl, ?hy2⟩) (by assumption) ?_
      case hy2 => (intro w hSw; clear hSw; go_simp; try with_reducible rfl)
      go_simp
      refine wpAnyH_take (i := 2) (v := ?v3) rfl (by kernel_rfl) (by kernel_rfl) (by kernel_rfl) (fun _ _ _ h => h) (Or.inl ⟨by rfl, ?hy3⟩) (by assumption) ?_
      case hy3 => (intro w hSw; clear hSw; go_simp; try with_reducible rfl)
      go_simp
      refine wpAnyH_take (i := 3) (v := ?v4) rfl (by kernel_rfl) (by kernel_rfl) (by kernel_rfl) (fun _ _ _ h => h) (Or.inl ⟨by rfl, ?hy4⟩) (by assumption) ?_
      case hy4 => (intro w hSw; obtain ⟨s0, s1, s2⟩ := hSw; go_simp; try with_reducible rfl)
      go_simp
      refine wpAnyH_take (i := 4) (v := ?v5) rfl (by kernel_rfl) (by kernel_rfl) (by kernel_rfl) (fun _ _ _ h => h) (Or.inl ⟨by rfl, ?hy5⟩) (by assumption) ?_
      case hy5 => (intro w hSw; clear hSw; go_simp; try with_reducible rfl)
      go_simp
      refine wpAnyH_take (i := 6) (v := ?v6) rfl (by kernel_rfl) (by kernel_rfl) (by kernel_rfl) (fun _ _ _ h => h) (Or.inl ⟨by rfl, ?hy6⟩) (by assumption) ?_
      case hy6 => (intro w hSw; obtain ⟨s0, s1, s2⟩ := hSw; go_simp; try with_reducible rfl)
      go_simp
      refine wpAnyH_take (i := 7) (v := ?v7) rfl (by kernel_rfl) (by kernel_rfl) (by kernel_rfl) (fun _ _ _ h => h) (Or.inl ⟨by rfl, ?hy7⟩) (by assumption) ?_
      case hy7 => (intro w hSw; clear hSw; go_simp; try with_reducible rfl)
      go_simp
      refine wpAnyH_take (i := 8) (v := ?v8) rfl (by kernel_rfl) (by kernel_rfl) (by kernel_rfl) (fun _ _ _ h => h) (Or.inl ⟨by rfl, ?hy8⟩) (by assumption) ?_
      case hy8 => (intro w hSw; clear hSw; go_simp; try with_reducible rfl)
      go_simp
      refine wpAnyH_take (i := 9) (v := ?v9) rfl (by kernel_rfl) (by kernel_rfl) (by kernel_rfl) (fun _ _ _ h => h) (Or.inl ⟨by rfl, ?hy9⟩) (by assumption) ?_
      case hy9 => (intro w hSw; obtain ⟨s0, s1, s2⟩ := hSw; go_simp; try with_reducible rfl)
      go_simp
      refine wpAnyH_ready (rs := [5]) (by kernel_rfl) (by simp) (AllReadyH.cons rfl (fun K hK => ?_) AllReadyH.nil)
      go_simp
      refine CL1.out.mono ?_
      rintro e w5 ⟨rfl, rfl⟩
      go_simp
      refine hK.out _ _ (HSS.out) (fun hHeld => ?_)
      clear hK K
      refine wpAnyH_take (i := 10) (v := ?v10) rfl (by kernel_rfl) (by kernel_rfl) (by kernel_rfl) (fun _ _ _ h => h) (Or.inl ⟨by rfl, ?hy10⟩) (by assumption) ?_
      case hy10 => (intro w hSw; clear hSw; go_simp; try with_reducible rfl)
      go_simp
      refine wpAnyH_done (by kernel_rfl) ?_ _
      dsimp only [OnlyF]
      exact ⟨rfl, rfl⟩
    rintro a W4 ⟨rfl, rfl⟩
    obtain ⟨q, hq⟩ : ∃ q, q = decide (at1 < la) := ⟨_, rfl⟩
    rw [← hq]
    have HQ := Lib.hid hq
    have HZ1 := Lib.hid hz1
    clear hq HSS hz1
    cases q with
    | false =>
      gi_wp2_with fail
      obtain ⟨hb2, hT, hR, hA⟩ := HH.out
      exact ⟨KT.drew _ _ _, Below.drewsN hb2 1, hT, hR, A ++ [(key, y)], by simp [pairB], by rw [List.any_append, hA]; simp [← HLA.out, ← HQ.out]⟩
    | true =>
      gi_wp2_with fail
      obtain ⟨hb2, hT, hR, hA⟩ := HH.out
      have hz := HZ1.out
      exact ⟨(KT.of_grown (grownBy_setCell' W2 (W.heap.size + 1) (.bool true)) (fun j ej => .inl (by simp at ej; omega))).trans (KT.drew _ _ _), Below.drewsN (Below.setCell hb2 (p := ⟨W.heap.size + 1, 0, none⟩) (Nat.le_succ _) _) 1, hR.set _, rfl, A ++ [(key, y)], by simp [pairB], by rw [List.any_append, hA]; simp [← HLA.out, ← HQ.out]⟩
  case done =>
    rintro D W2 hD ⟨hb2, hT, hR, A, hA1, hA⟩ hK
    have cR := hR.cell
    have fR := hR.frozen
    have hR2 := hR.set (.bool false)
    have hK2 : (W2.setCell ⟨W.heap.size + 1, 0, none⟩ (.bool false)).heap[D]? = some (.deferred (some [])) := by
      rw [Below.heap_setCell _ _ _ _ (by show D ≠ W.heap.size + 1; omega)]; exact hK
    have HH := Lib.hid (And.intro hb2 (And.intro hR2 (And.intro hA1 hA)))
    clear hb2 hT hR hR2 hA1 hA
    gi_wp2
    obtain ⟨hb2, hR2, hA1, hA⟩ := HH.out
    refine ⟨by simp, .inl ⟨_, _, rfl, run_takeDeferred hK2, ?_⟩⟩
    have hR3 : Boxed ((W2.setCell ⟨W.heap.size + 1, 0, none⟩ (.bool false)).putObj D (.deferred none)) (W.heap.size + 1) 4 (.bool false) := (World.putObj_heap_other (by omega)).trans hR2
    have c3 := hR3.cell
    have hLA : L.any (fun x => decide (at1 < lst x.1)) = false := by
      have e : ∀ (B1 B2 : OwnL), B1.map (pairB fW) = B2.map (pairB fW) → B1.map (fun x => decide (at1 < lst x.1)) = B2.map (fun x => decide (at1 < lst x.1)) := clash_same lst at1
      have := e L A hA1
      rw [← any_map_id, this, any_map_id]; exact hA
    refine ⟨.bool false, by simp [results, Try.results31, go_sem, c3], by rw [hLA], ?_⟩
    exact (Below.setCell hb2 (p := ⟨W.heap.size + 1, 0, none⟩) (Nat.le_succ _) _).trans (belowK_b (w := W) (Nat.le_refl _) _ D _ _ (by omega) hK2 rfl rfl)
  case stop =>
    rintro D c pre W2 hD ⟨t, ht⟩ ⟨hb2, hR, rfl, A, hA1, hA⟩ hK
    have HH := Lib.hid (And.intro hb2 (And.intro hR (And.intro hA1 (And.intro hA ht))))
    clear hb2 hR hA1 hA ht
    gi_wp2
    obtain ⟨hb2, hR, hA1, hA, ht⟩ := HH.out
    refine ⟨by simp, .inl ⟨_, _, rfl, run_takeDeferred hK, ?_⟩⟩
    have hR3 : Boxed (W2.putObj D (.deferred none)) (W.heap.size + 1) 4 (.bool true) := (World.putObj_heap_other (by omega)).trans hR
    have c3 := hR3.cell
    have hLA : L.any (fun x => decide (at1 < lst x.1)) = true := by
      obtain ⟨B1, B2, h1, h2, h3⟩ := List.map_eq_append_iff.1 ht
      have := clash_same lst at1 B1 A (h2.trans hA1)
      rw [h1, List.any_append, ← any_map_id, this, any_map_id, hA]; rfl
    refine ⟨.bool true, by simp [results, Try.results31, go_sem, c3], by rw [hLA], ?_⟩
    exact hb2.trans (belowK_b (w := W) (Nat.le_refl _) W2 D _ _ (by omega) hK rfl rfl)
end Go.Proofs.Ytcgjiddiegepkaa

/- txn: Get. -/
namespace Go.Proofs.Ytcgjiddiegepkaa
open Go.RowKit

variable {W : World} {tb s wb : Nat} {at1 : Int} {L : OwnL} {k : Nat}
/-- What Get tells: its own write, else what the store has. -/
def txG (L : OwnL) (key : List UInt8) (r : Option (List UInt8)) : Ending :=
  match getB key L with
  | some y => .returned (.tuple #[str y.2.1, .bool (!y.2.2)])
  | none => seenEVS r
set_option maxRecDepth 100000 in
set_option maxHeartbeats 4000000 in
theorem txGet (h : TxS W tb s wb at1 L k) (key : List UInt8) (r : Option (List UInt8)) (cg : ∀ W', Below W.heap.size W W' → Calls Try.prog 43 #[.pointer (some ⟨s, 0, none⟩), str key, .int .i64 at1] W' fun e W'' => e = seenEVS r ∧ Below W'.heap.size W' W'') :
    Calls Try.prog 18 #[.pointer (some ⟨tb, 0, none⟩), str key] W fun e W' => e = txG L key r ∧ Below W.heap.size W W' := by
  obtain ⟨Z, hZ⟩ : ∃ Z, Z = (getB key L).isSome := ⟨_, rfl⟩
  obtain ⟨v, hv⟩ : ∃ v, v = ((getB key L).map fW).getD (.agg #[str [], str [], .bool false]) := ⟨_, rfl⟩
  obtain ⟨ra, rb, rc, hrk⟩ : ∃ ra rb rc, v = .agg #[str ra, str rb, .bool rc] := by
    rw [hv]
    cases getB key L with
    | none => exact ⟨[], [], false, rfl⟩
    | some y => exact ⟨y.1, y.2.1, y.2.2, rfl⟩
  subst hrk
  have HR : Hid (txG L key r = if Z = true then .returned (.tuple #[str rb, .bool (!rc)]) else seenEVS r) := Lib.hid (by
    unfold txG
    rw [hZ]
    cases e : getB key L with
    | none => rfl
    | some y =>
      rw [e] at hv
      simp only [Option.map_some, Option.getD_some, fW] at hv
      injection hv with hv
      simp only [Array.mk.injEq, List.cons.injEq, and_true] at hv
      obtain ⟨_, h2, h3⟩ := hv
      injection h3 with h3
      simp only [Option.isSome_some, if_true]
      rw [h2, h3])
  have CG : Hid (∀ W', Below W.heap.size W W' → Calls Try.prog 42 #[.pointer (some ⟨wb, 0, none⟩), str key] W' fun e W'' => e = .returned (.tuple #[.agg #[str ra, str rb, .bool rc], .bool Z]) ∧ Below W'.heap.size W' W'') := Lib.hid (fun W' hb => by
    obtain ⟨tw, m1, m2, m3⟩ := (h.below hb).mp
    refine (mgetVW_any wb (str key) tw W' m1 ⟨key, rfl⟩ m2).mono ?_
    rintro e W'' ⟨rfl, hb2⟩
    refine ⟨?_, hb2⟩
    rw [getT_eq ordVW ⟨key, rfl⟩ m2 (by rw [m3]; exact (ris_map _ _).2 h.rs), m3, get_map]
    unfold getEVW
    rw [hv, hZ]
    simp)
  have HC0 : Hid (∀ W', Below W.heap.size W W' → W'.cell? ⟨tb, 0, none⟩ = some (.pointer (some ⟨s, 0, none⟩)) ∧ W'.cell? ⟨tb, 1, none⟩ = some (.int .i64 at1) ∧ W'.cell? ⟨tb, 2, none⟩ = some (.pointer (some ⟨wb, 0, none⟩))) := Lib.hid (fun W' hb => (h.below hb).box.cells)
  have CS := Lib.hid cg
  rw [HR.out]
  clear h hZ hv cg HR
  obtain ⟨p0, p1, p2⟩ := HC0.out _ (Below.refl _ _)
  go_enter Try.func18, Try.ntmps18
  go_wp2_with (go_at_call 42; refine (CG.out _ (Below.refl _ _)).mono ?_; rintro e w5 ⟨rfl, hb5⟩; refine keepF (HC0.out _ hb5) ?_; rintro ⟨p0, p1, p2⟩; have HB5 := Lib.hid hb5; clear hb5; cases Z)
  · clear p0 p1 p2 CG
    generalize hV : w5.alloc _ = V
    have HBV : Hid (Below W.heap.size W V) := Lib.hid (by rw [← hV]; exact HB5.out.trans ((below_alloc w5 _).mono HB5.out.size))
    obtain ⟨p0, p1, _⟩ := HC0.out _ HBV.out
    have CS5 : Hid (Calls Try.prog 43 #[.pointer (some ⟨s, 0, none⟩), str key, .int .i64 at1] V.drew fun e W'' => e = .returned (.tuple #[str (r.getD []), .bool r.isSome]) ∧ Hid (Below W.heap.size W W'')) := Lib.hid ((CS.out _ (Below.drewsN HBV.out 1)).mono (by
      rintro e W'' ⟨rfl, hb⟩
      exact ⟨rfl, Lib.hid (HBV.out.trans (Below.mono ((Below.drewsN (Below.refl _ V) 1).trans hb) HBV.out.size))⟩))
    have HS : Hid (∀ W', Below W.heap.size W W' → W'.cell? ⟨tb, 0, none⟩ = some (.pointer (some ⟨s, 0, none⟩)) ∧ W'.cell? ⟨tb, 1, none⟩ = some (.int .i64 at1)) := Lib.hid (fun W' hb => by
      have := HC0.out _ hb
      exact ⟨this.1, this.2.1⟩)
    clear HC0 CS hV
    go_region_held3 (fun W' => W'.cell? ⟨tb, 0, none⟩ = some (.pointer (some ⟨s, 0, none⟩)) ∧ W'.cell? ⟨tb, 1, none⟩ = some (.int .i64 at1))
      (first
        | (exact ⟨p0, p1⟩)
        | (exact HS.out _ hb6.out)
        | go_keep)
      ((first
        | (go_at_call 43; refine CS5.out.mono ?_; rintro e w6 ⟨rfl, hb6⟩)
        | fail))
    all_goals
      go_wp2_with fail
      go_ret2
      exact ⟨rfl, hb6.out⟩
  · clear p0 p1 p2 CG CS HC0
    have hnw := heap_alloc_new w5 (.cells #[str ra, str rb, .bool rc] 58)
    have HBV : Hid (Below W.heap.size W (w5.alloc (.cells #[str ra, str rb, .bool rc] 58))) := Lib.hid (HB5.out.trans ((below_alloc w5 _).mono HB5.out.size))
    have z1 : (w5.alloc (.cells #[str ra, str rb, .bool rc] 58)).cell? ⟨w5.heap.size, 1, none⟩ = some (str rb) := cell_of_row _ w5.heap.size 1 _ _ (0, 0) hnw
    have z2 : (w5.alloc (.cells #[str ra, str rb, .bool rc] 58)).cell? ⟨w5.heap.size, 2, none⟩ = some (.bool rc) := cell_of_row _ w5.heap.size 2 _ _ (0, 0) hnw
    clear hnw
    generalize hV : w5.alloc (.cells #[str ra, str rb, .bool rc] 58) = V at z1 z2 HBV ⊢
    generalize hn : w5.heap.size = nb at z1 z2 ⊢
    clear hV hn
    go_region_held3 (fun W' => W'.cell? ⟨nb, 1, none⟩ = some (str rb) ∧ W'.cell? ⟨nb, 2, none⟩ = some (.bool rc))
      (first
        | (exact ⟨z1, z2⟩)
        | go_keep)
      (fail)
    all_goals
      go_wp2_with fail
      go_ret2
      exact ⟨rfl, Below.drewsN HBV.out 1⟩
end Go.Proofs.Ytcgjiddiegepkaa

/- A store and a transaction over it. -/
namespace Go.Proofs.Ytcgjiddiegepkaa
open Go.RowKit

theorem StVS.seven {W : World} {B s mb : Nat} {t : Tr} {S : ChsVS} {cnt low : Int} {k : Nat} (h : StVS W B s mb t S cnt low k) : ∀ i, BlkVS s mb S i → ∀ cs T z, W.heap[i]? = some (.cells cs T z) → cs.size ≠ 7 := by
  rintro i (rfl | rfl | ⟨x, hx, hi⟩) cs T z hc
  · rw [h.box] at hc
    simp only [Option.some.injEq, Obj.cells.injEq] at hc
    rw [← hc.1]; simp
  · obtain ⟨T', o, hb, _⟩ := h.mp
    rw [hb] at hc
    simp only [Option.some.injEq, Obj.cells.injEq] at hc
    rw [← hc.1]; simp
  · obtain ⟨cap, hcap⟩ := owns_size (h.ch x hx) hi hc
    omega
variable {X W : World} {K : Nat → Prop} {s mb : Nat} {C : ChC} {low : Int} {n : Nat} {tb wb : Nat} {at1 : Int} {L : OwnL} {k : Nat}
/-- The store stands when blocks turn that are kept for others. -/
theorem SG.turn {W' : World} {F : Nat → Prop} (h : SG X K W s mb C low n) (hf : Frm F W W') (h5 : ∀ i, F i → ∀ cs T z, W.heap[i]? = some (.cells cs T z) → cs.size ≠ 5) (hk : ∀ i, F i → K i) (hX : ∀ i, F i → X.heap.size ≤ i) : SG X K W' s mb C low n := by
  obtain ⟨t, S, h1, h2, h3, h4, h6⟩ := h
  refine ⟨t, S, h1.frm hf h5 (fun i hi hF => (h6 i (hk i hF)).2 hi), h2, ⟨hf.os.trans h3.os, hf.tape.trans h3.tape, hf.output.trans h3.output, Nat.le_trans h3.size hf.size, fun i hi => ?_⟩, h4, fun i hi => ⟨Nat.lt_of_lt_of_le (h6 i hi).1 hf.size, (h6 i hi).2⟩⟩
  rw [hf.block i (Nat.lt_of_lt_of_le hi h3.size) (fun hF => by have := hX i hF; omega)]
  exact h3.block i hi
/-- What is not the store's may be kept for others. -/
theorem SG.more {K' : Nat → Prop} (h : SG X K W s mb C low n) (hk : ∀ i, K' i → i < W.heap.size) (hn : ∀ i, K' i → W.heap.size ≤ i ∨ K i ∨ ∃ cs T z, W.heap[i]? = some (.cells cs T z) ∧ cs.size = 7) : SG X K' W s mb C low n := by
  obtain ⟨t, S, h1, h2, h3, h4, h6⟩ := h
  refine ⟨t, S, h1, h2, h3, h4, fun i hi => ⟨hk i hi, fun hb => ?_⟩⟩
  rcases hn i hi with h | h | ⟨cs, T, z, hc, h7⟩
  · have := (h1.blk i hb).2; omega
  · exact (h6 i h).2 hb
  · exact h1.seven i hb cs T z hc h7
/-- New blocks may be kept for others. -/
theorem SG.fresh {W' : World} {K' : Nat → Prop} (h : SG X K W s mb C low n) (hb : Below W.heap.size W W') (hk : ∀ i, K' i → i < W'.heap.size ∧ (W.heap.size ≤ i ∨ K i)) : SG X K' W' s mb C low n := by
  obtain ⟨t, S, h1, h2, h3, h4, h6⟩ := h
  refine ⟨t, S, h1.below hb, h2, h3.trans (hb.mono h3.size), h4, fun i hi => ⟨(hk i hi).1, fun e => ?_⟩⟩
  rcases (hk i hi).2 with h | h
  · have := (h1.blk i e).2; omega
  · exact (h6 i h).2 e
/-- A store and a transaction. -/
structure TT (X W : World) (s mb : Nat) (C : ChC) (low : Int) (n tb wb : Nat) (at1 : Int) (L : OwnL) (k : Nat) : Prop where
  sg : SG X (fun i => i = tb ∨ i = wb) W s mb C low n
  tx : TxS W tb s wb at1 L k
  lo : X.heap.size ≤ tb ∧ X.heap.size ≤ wb
theorem TT.below {W' : World} (h : TT X W s mb C low n tb wb at1 L k) (hb : Below W.heap.size W W') : TT X W' s mb C low n tb wb at1 L k := ⟨h.sg.below hb, h.tx.below hb, h.lo⟩
theorem ttBegin (h : SG X K W s mb C low n) (at1 : Int) : Calls Try.prog 11 #[.pointer (some ⟨s, 0, none⟩), .int .i64 at1] W fun e W' => ∃ tb wb, e = .returned (.pointer (some ⟨tb, 0, none⟩)) ∧ TT X W' s mb C low n tb wb at1 [] 0 := by
  refine (txBegin W s at1).mono ?_
  rintro e W' ⟨tb, wb, rfl, h1, h2, h3, h4⟩
  have hX := h.bel.size
  refine ⟨tb, wb, rfl, h.fresh h2 (fun i hi => ?_), h1, by omega, by omega⟩
  rcases hi with rfl | rfl
  · exact ⟨h1.lt.1, .inl h3⟩
  · exact ⟨h1.lt.2, .inl h4⟩
theorem TT.two (h : TT X W s mb C low n tb wb at1 L k) {W' : World} {L' : OwnL} {k' : Nat} (h1 : TxS W' tb s wb at1 L' k') (hf : Frm (fun i => i = wb) W W') : TT X W' s mb C low n tb wb at1 L' k' := by
  refine ⟨h.sg.turn hf ?_ (fun i hi => .inr hi) (fun i hi => by cases hi; exact h.lo.2), h1, h.lo⟩
  rintro i rfl cs T z hc
  obtain ⟨u, v, T', e⟩ := h.tx.two
  rw [e] at hc
  simp only [Option.some.injEq, Obj.cells.injEq] at hc
  rw [← hc.1]; simp
theorem ttPut (h : TT X W s mb C low n tb wb at1 L k) (hk : k ≤ 100000) (x y : List UInt8) (hx : x.length ≤ 9223372036854775807) (hy : y.length ≤ 9223372036854775807) :
    Calls Try.prog 14 #[.pointer (some ⟨tb, 0, none⟩), str x, str y] W fun e W' => e = .returned (.int .i64 (wrC L (x, y, false))) ∧ TT X W' s mb C low n tb wb at1 (wrL L (x, y, false)) (k + 1) :=
  (txPut h.tx hk x y hx hy).mono (fun _ _ ⟨h1, h2, h3⟩ => ⟨h1, h.two h2 h3⟩)
theorem ttDelete (h : TT X W s mb C low n tb wb at1 L k) (hk : k ≤ 100000) (x : List UInt8) (hx : x.length ≤ 9223372036854775807) :
    Calls Try.prog 16 #[.pointer (some ⟨tb, 0, none⟩), str x] W fun e W' => e = .returned (.int .i64 (wrC L (x, [], true))) ∧ TT X W' s mb C low n tb wb at1 (wrL L (x, [], true)) (k + 1) :=
  (txDelete h.tx hk x hx).mono (fun _ _ ⟨h1, h2, h3⟩ => ⟨h1, h.two h2 h3⟩)
theorem ttGet (h : TT X W s mb C low n tb wb at1 L k) (hn : n ≤ 10000) (key : List UInt8) :
    Calls Try.prog 18 #[.pointer (some ⟨tb, 0, none⟩), str key] W fun e W' => e = txG L key (seenVS (verC key C) at1) ∧ Below W.heap.size W W' :=
  txGet h.tx key _ (fun _ hb => getG (h.sg.below hb) hn key at1)
/-- What a transaction sees. -/
def sawT (at1 : Int) (C : ChC) (L : OwnL) : List PairT := seenW (mrgL ((scanC at1 C).map stW) (L.map (pairB fW)))
theorem mrgL_len : ∀ (a b : List (Value × Value)), (mrgL a b).length ≤ a.length + b.length
  | a, b => mrg_len a b
theorem saw_len (at1 : Int) (C : ChC) (L : OwnL) : (sawT at1 C L).length ≤ C.length + L.length := by
  have h1 : (sawT at1 C L).length ≤ (mrgL ((scanC at1 C).map stW) (L.map (pairB fW))).length := List.length_filterMap_le _ _
  have h2 := mrgL_len ((scanC at1 C).map stW) (L.map (pairB fW))
  have h3 := scan_len at1 C
  simp only [List.length_map] at h2
  omega
theorem ttPairs (h : TT X W s mb C low n tb wb at1 L k) (hn : n ≤ 10000) (hk : k ≤ 100000) {b1 b2 b3 : Nat} (hL : TxL W b1 b2 b3 tb [] []) (m : Int) (hm : 1 ≤ m) :
    Calls Try.prog 21 #[.func (.func 49) #[] #[.pointer (some ⟨b1, 0, none⟩), .pointer (some ⟨b2, 0, none⟩), .pointer (some ⟨b3, 0, none⟩)], .int .i64 m] W (PrsP W ((sawT at1 C L).take m.toNat)) := by
  obtain ⟨t, S, h1, h2, h3, h4, h6⟩ := h.sg
  obtain ⟨tw, m1, m2, m3⟩ := h.tx.mp
  have e : seenW (txL [] at1 S tw) = sawT at1 C L := by
    unfold sawT txL
    rw [scanL_nil, h2, fromW_nil _ (fun p hp => (ws_keys m2 p hp).1), m3]
  have hkk := h.tx.hk
  have hC : C.length ≤ n := by rw [← h2]; unfold chsVS; rw [List.length_map]; exact h1.hk.2.1
  have := txPairs_any h1 (by omega) m1 m2 (by rw [m3, List.length_map]; omega) h.tx.box hL m hm (by rw [e]; have := saw_len at1 C L; omega)
  rw [e] at this
  exact this
theorem ttClash (h : TT X W s mb C low n tb wb at1 L k) (hn : n ≤ 10000) :
    Calls Try.prog 31 #[.pointer (some ⟨tb, 0, none⟩)] W (ClR W (fun key => lastTVS (verC key C)) at1 L) := by
  refine txClash h.tx _ (fun W' key hb => ?_)
  obtain ⟨t, S, h1, h2, h3, h4, h6⟩ := h.sg
  have := lastVS_any (h1.below hb) (by omega) key
  rw [ver_chs, h2] at this
  exact this
end Go.Proofs.Ytcgjiddiegepkaa
