import Derived.Test.YtcgjiddiegepkaaRangeW
import Derived.Test.YtcgjiddiegepkaaMrgMath
import Derived.Test.YtcgjiddiegepkaaTreeVW
import Derived.Test.YtcgjiddiegepkaaBoxN
import Derived.OwnWalkIn
import Derived.Shelf.RegionOpen
import Derived.TacticsInMore
import Derived.Maps.AppendAt
import Derived.WalkSmall
/- Ranges over functions, what has come in a new variable. -/
namespace Go.Proofs.Ytcgjiddiegepkaa
open Go.RowKit

/-- Who ranges, where what has come is laid into a new variable ahead of the body. -/
theorem range_lawA {Tw : TypeId → Prop} {n : Nat} {P : Program} {α : Type} {g : Operand} {ps : Array Tmp} {assign body : Code} {Q : Exit → Act → World → Prop} {a : Act} {w : World}
    {gf : Nat} {lb : Array Value} (hg : a.eval g = .func (.func gf) #[] lb) (eg : ∀ args w, (callFunc gf args).run P w = .ok (.enter gf args) w)
    {encs : α → Array Value} {Ok : World → Prop} {Wr : TypeId → Prop} {xs : List α} (hseq : ∀ W', Below w.heap.size w W' → SeqsW Tw P gf lb encs Ok Wr xs W') (hps : ∀ x, (encs x).size = ps.size)
    (I : List α → World → Prop) (Ix : Code → List α → World → Prop) (hIw : OwnFromT Tw w.heap.size I) (hIxw : ∀ c, OwnFromT Tw w.heap.size (Ix c)) (h0 : I [] w) (hOk : ∀ pre W, I pre W → Ok W) (a₁ : α → Nat → Act) (ob : α → Obj)
    (hassign : ∀ (l : Nat) (x : α) (W : World) (K : Act → World → Prop), x ∈ xs → K (a₁ x W.heap.size) (W.alloc (ob x)) →
      assign.wpIn (Fence.wide.inRound l) (n - 1 - 1) P (Exit.then K (fun _ _ _ => False)) { tmps := (ps.zip (encs x)).foldl (fun t (p, v) => t.setIfInBounds p v) a.tmps, defers := [] } W)
    (hbody : ∀ (l : Nat) (pre : List α) (x : α) (b : Nat) (W : World), w.heap.size < l → w.heap.size ≤ b → W.heap[b]? = some (ob x) → I pre W → (∃ t, xs = pre ++ x :: t) → body.wpIn (Fence.wide.inRound l) (n - 1 - 1) P (ownPostT Wr w.heap.size I Ix (pre ++ [x]) W) (a₁ x b) W)
    (hdone : ∀ (D : Nat) (W : World), w.heap.size ≤ D → I xs W → W.heap[D]? = some (.deferred (some [])) → Q .normal { a with defers := { target := .collected D, args := #[] } :: a.defers } W)
    (hstop : ∀ (D : Nat) (c : Code) (pre : List α) (W : World), w.heap.size ≤ D → (∃ t, xs = pre ++ t) → Ix c pre W → W.heap[D]? = some (.deferred (some [])) → c.wpIn Fence.wide n P Q { a with defers := { target := .collected D, args := #[] } :: a.defers } W) :
    (Code.rangeFunc g ps assign body).wpIn Fence.wide n P Q a w := by
  have hI := hIw.plain
  have hIx := fun c => (hIxw c).plain
  refine wpIn_rangeFunc ?_
  intro fn hfn
  obtain ⟨B, hB⟩ : ∃ B, B = w.heap.size := ⟨_, rfl⟩
  obtain ⟨W1, hW1⟩ : ∃ W1, (w.alloc (.deferred (some []))).alloc (.loop (recOf fn a.tmps ps assign body B .ready none)) = W1 := ⟨_, rfl⟩
  have hs1 : W1.heap.size = B + 2 := by rw [← hW1, hB]; simp
  have hL1 : W1.heap[B + 1]? = some (.loop (recOf fn a.tmps ps assign body B .ready none)) := by
    have := World.alloc_heap_new (w.alloc (.deferred (some []))) (.loop (recOf fn a.tmps ps assign body B .ready none))
    rw [World.size_alloc, ← hB] at this; rw [← hW1]; exact this
  have hD1 : W1.heap[B]? = some (.deferred (some [])) := by
    rw [← hW1, hB]; exact (Below.heap_alloc _ _ _ (by simp)).trans (World.alloc_heap_new w _)
  have hI1 : I [] W1 := by rw [← hW1]; exact hI.alloc _ (hI.alloc _ h0)
  have hb1 : Below w.heap.size w W1 := by rw [← hW1]; exact ((Below.refl _ w).alloc (Nat.le_refl _) _).alloc (by simp) _
  have hsq := hseq W1 hb1
  have he : (Instr.enterLoop fn a.tmps ps assign body none).run P w = .ok (B + 1, [{ target := .collected B, args := #[] }]) W1 := by
    rw [← hW1, hB]; exact run_enterLoop_outer _ _ _ _ _
  rw [← hB] at hI hIx hIw hIxw hbody hdone hstop
  clear hseq hb1 h0 hW1 hB
  refine ⟨B + 1, [{ target := .collected B, args := #[] }], W1, { target := .fn (.func gf) lb, args := #[.func (.yield (B + 1)) #[] #[]] }, W1, gf, #[.func (.yield (B + 1)) #[] #[]] ++ lb, W1, he, ?_, ?_, ?_, (fun h => by cases h), ?_⟩
  · simp only [resolve, hg]
    simp [go_sem]
  · intro _ _; trivial
  · simp [invoke, go_sem, eg]
  · refine (callsIn_wide.2 (hsq (B + 1) (Booked B (recOf fn a.tmps ps assign body B .ready none) I) (fun pre W => ∃ c, Booked B (recOf fn a.tmps ps assign body B .done (some c)) (Ix c) pre W)
      (by rw [hs1]; exact booked_ownT hIw)
      (by rw [hs1]; exact fun s A C row hs hg hr => by obtain ⟨c, hc⟩ := hs; exact ⟨c, booked_ownT (hIxw c) s A C row hc hg hr⟩)
      (fun pre W h => hOk pre W h.1) ?_ ⟨hI1, hL1, hD1⟩)).mono ?_
    · intro pre x W hi hx m
      rw [hs1]
      have hi2 := (booked_own (r := recOf fn a.tmps ps assign body B .ready none) hI).alloc (ob x) hi
      have hlt : B + 1 < W.heap.size := (Array.getElem?_eq_some_iff.1 hi.2.1).1
      have key := roundIn_of_wpIn (n := n - 1 - 1) (R := RndPost Wr (B + 2) (Booked B (recOf fn a.tmps ps assign body B .ready none) I) (fun pre W => ∃ c, Booked B (recOf fn a.tmps ps assign body B .done (some c)) (Ix c) pre W) (pre ++ [x]) (W.alloc (ob x))) hfn
        (hassign (B + 1) x W _ (by obtain ⟨t, ht⟩ := hx; rw [ht]; simp) ⟨_, run_beginRound hi2.2.1 rfl, wpIn_mono (hbody (B + 1) pre x W.heap.size _ (by omega) (by omega) ((World.putObj_heap_other (by omega)).trans (World.alloc_heap_new W (ob x))) (hI.putObj _ hi2.1 (by omega) hi2.2.1 rfl) hx) (round_told (P := P) hI hIx hi2)⟩)
      have hyd : YieldAt Fence.wide m P (B + 1) (encs x) W (RndPost Wr (B + 2) (Booked B (recOf fn a.tmps ps assign body B .ready none) I) (fun pre W => ∃ c, Booked B (recOf fn a.tmps ps assign body B .done (some c)) (Ix c) pre W) (pre ++ [x]) (W.alloc (ob x))) :=
        ⟨fn, _, assign, body, run_yield (P := P) (args := encs x) hi.2.1 (hps x), key.1, fun c cs _ => key.2 c cs (room_wide _)⟩
      exact hyd.mono (fun e w h => ⟨(KT.alloc Wr (B + 2) W (ob x)).trans h.1, h.2⟩)
    · rintro e W2 ⟨⟨v, rfl⟩, (hi | ⟨pre, hx, c, hi⟩)⟩
      · exact ⟨none, _, run_endLoop (P := P) hi.2.1 (by simp), hdone _ _ (Nat.le_refl _) (hI.putObj _ hi.1 (by omega) hi.2.1 rfl) ((World.putObj_heap_other (by omega)).trans hi.2.2)⟩
      · exact ⟨some c, _, run_endLoop (P := P) hi.2.1 (by simp), hstop _ c pre _ (Nat.le_refl _) hx ((hIx c).putObj _ hi.1 (by omega) hi.2.1 rfl) ((World.putObj_heap_other (by omega)).trans hi.2.2)⟩
end Go.Proofs.Ytcgjiddiegepkaa

/- Maps in order, gather[string,handbill/api.Write]. -/
namespace Go.Proofs.Ytcgjiddiegepkaa
open Go.RowKit
attribute [local go_sem] Oper.semAt_some wide_fn wide_depth

theorem fnil2VW (gf : Nat) (lb : Array Value) (w : World) : (binOp .eql 96 (.func (.func gf) #[] lb) .nilFunc).run Try.prog w = .ok (.bool false) w := by kernel_rfl
/-- The cells of pairs. -/
def flatQ : List (Value × Value) → List Value
  | [] => []
  | p :: t => p.1 :: wA p.2 :: wB p.2 :: wC p.2 :: flatQ t
theorem flatQ_len : ∀ l : List (Value × Value), (flatQ l).length = l.length * 4
  | [] => rfl
  | p :: t => by simp [flatQ, flatQ_len t]; omega
theorem flatQ_app : ∀ a b : List (Value × Value), flatQ (a ++ b) = flatQ a ++ flatQ b
  | [], _ => rfl
  | p :: t, b => by simp [flatQ, flatQ_app t b]
theorem flatQ_at : ∀ (l : List (Value × Value)) (i : Nat) (h : i < l.length), (flatQ l)[i * 4]? = some l[i].1 ∧ (flatQ l)[i * 4 + 1]? = some (wA l[i].2) ∧ (flatQ l)[i * 4 + 2]? = some (wB l[i].2) ∧ (flatQ l)[i * 4 + 3]? = some (wC l[i].2)
  | p :: t, 0, _ => by simp [flatQ]
  | p :: t, i + 1, h => by
    have e : (i + 1) * 4 = i * 4 + 1 + 1 + 1 + 1 := by omega
    have := flatQ_at t i (by simpa using h)
    simp only [flatQ, e, List.getElem?_cons_succ, List.getElem_cons_succ]
    exact this
theorem cell_four_new (w : World) (x y z u : Value) (t : TypeId) : ∀ j v, [x, y, z, u][j]? = some v → (w.alloc (.cells #[x, y, z, u] t)).cell? ((⟨w.heap.size, 0, none⟩ : Addr).add j) = some v := by
  intro j v hj
  match j, hj with
  | 0, hj => simp at hj; subst hj; simp [Addr.add]
  | 1, hj => simp at hj; subst hj; simp [Addr.add]
  | 2, hj => simp at hj; subst hj; simp [Addr.add]
  | 3, hj => simp at hj; subst hj; simp [Addr.add]
  | (j + 4), hj => simp at hj
theorem infoPairVW : (Try.prog.info? 129).map (fun i => (i.zero, i.size, i.bytes)) = some (some (.agg #[str [], str [], str [], .bool false]), 4, 56) := by kernel_rfl
/-- What gather tells. -/
def GatherPVW (w : World) (l : List (Value × Value)) (e : Ending) (w' : World) : Prop := ∃ v, e = .returned v ∧ w'.ownsRow w.heap.size 129 4 v l.length (flatQ l) ∧ Below w.heap.size w w'
/-- A box that holds a slice of pairs. -/
def BoxPairsVW (n₀ B : Nat) (W : World) (l : List (Value × Value)) : Prop := ∃ v, Boxed W B 126 v ∧ W.ownsRow n₀ 129 4 v l.length (flatQ l)
theorem boxPairs_ownVW (n₀ B : Nat) : OwnT (fun _ => False) (fun s W => BoxPairsVW n₀ B W s) := by
  have h := boxRowN_ownT (Tw := fun _ => False) (β := List (Value × Value)) n₀ B 126 129 4 (fun s => s.length) flatQ (fun h => h) (fun h => h)
  exact h
/-- What gather keeps from round to round. -/
def GatherIVW (w : World) (pre : List (Value × Value)) (W : World) : Prop := BoxPairsVW (w.heap.size + 1) w.heap.size W pre ∧ Below w.heap.size w W
theorem gatherI_ownVW (w : World) {B : Nat} (hB : w.heap.size ≤ B) : OwnFromT (fun _ => False) B (GatherIVW w) :=
  OwnFromT.and (OwnT.from (boxPairs_ownVW _ _) _) (ownFromT_below (Nat.le_refl _) hB)
set_option maxRecDepth 100000 in
set_option maxHeartbeats 2000000 in
theorem gather_anyVW {Ok : World → Prop} {gf : Nat} {lb : Array Value} {xs : List (Value × Value)} {w : World} (hx : xs.length ≤ 1000000) (hk : ∀ p ∈ xs, KSVW p.1 ∧ VSVW p.2)
    (eg : ∀ args w, (callFunc gf args).run Try.prog w = .ok (.enter gf args) w) (hOk : ∀ W, Below w.heap.size w W → Ok W)
    (hs : ∀ W', Below w.heap.size w W' → Seqs Try.prog gf lb (fun p : Value × Value => #[p.1, p.2]) Ok (fun T => T = 129) xs W') :
    Calls Try.prog 68 #[.func (.func gf) #[] lb] w (GatherPVW w xs) := by
  have hfn := fnil2VW gf lb
  obtain ⟨i0, hi, hz0, hz1, hz2⟩ := info_parts infoPairVW
  refine (callsIn_wide (n := 9)).1 ?_
  refine callsIn_of_wp_marks Try.func68 rfl trivial ?_ rfl
  simp only [Try.ntmps68, List.size_toArray, List.length_cons, List.length_nil, Nat.reduceAdd, Nat.reduceSub, Array.replicate_succ, Array.replicate_zero, List.push_toArray, List.append_toArray, List.nil_append, List.cons_append]
  gi_wp2
  have bO := Boxed.new w 126 (.slice none 0 0)
  have hB0 : Below w.heap.size w (w.alloc (.cells #[.slice none 0 0] 126)) := (Below.refl _ w).alloc (Nat.le_refl _) _
  refine range_lawA (Tw := fun _ => False) (gf := gf) (lb := lb) rfl eg (Wr := fun T => T = 129) (xs := xs) (fun W' h => (hs W' (hB0.trans (h.mono (by simp)))).toW) (by intro x; rfl)
    (fun pre W => GatherIVW w pre W)
    (fun _ _ _ => False)
    (gatherI_ownVW w (by simp))
    (fun c => ownFromT_pure _ _ (fun _ : List (Value × Value) => False))
    ⟨⟨_, bO, World.ownsRow_nil _ _ _ _⟩, hB0⟩ (fun pre W h => hOk W h.2)
    (fun x b => { tmps := #[.func (.func gf) #[] lb, undef, .slice none 0 0, .pointer (some ⟨w.heap.size, 0, none⟩), x.1, .pointer (some ⟨b, 0, none⟩), .func (.func gf) #[] lb, .bool false, .func (.func gf) #[] lb, x.1, x.2, undef, undef, undef, undef, undef, undef, undef], defers := [] }) (fun x => .cells #[wA x.2, wB x.2, wC x.2] 58) ?assign ?body ?done ?stop
  case assign =>
    intro l x W K hx2 hK
    obtain ⟨xk, xv⟩ := x
    obtain ⟨⟨kn, hkn⟩, ⟨ya, yb, yc, hyv⟩⟩ := hk _ hx2
    dsimp only at hkn hyv
    subst hkn hyv
    have HK := Lib.hid hK
    clear hK
    dsimp only
    gi_wp2
    exact HK.out
  case body =>
    rintro l2 pre ⟨k, y⟩ b W _ hbl hbo ⟨⟨v, hv, hrow⟩, hB⟩ ⟨t, ht⟩
    have hks := hk (k, y) (by rw [ht]; simp)
    obtain ⟨⟨kn, rfl⟩, ⟨ya, yb, yc, rfl⟩⟩ := hks
    dsimp only
    have hbx : W.heap[b]? = some (.cells #[str ya, str yb, .bool yc] 58 (0, 0)) := hbo
    have z0 : W.cell? ⟨b, 0, none⟩ = some (str ya) := by simp [World.cell?, hbx]
    have z1 : W.cell? ⟨b, 1, none⟩ = some (str yb) := by simp [World.cell?, hbx]
    have z2 : W.cell? ⟨b, 2, none⟩ = some (.bool yc) := by simp [World.cell?, hbx]
    have cv := hv.cell
    have hlen : pre.length + 1 ≤ 1000000 := by rw [ht] at hx; simp at hx; omega
    have hsz : w.heap.size + 1 ≤ W.heap.size := hv.lt
    have H := Lib.hid (And.intro hB ht)
    clear hB ht hx hk hs hOk hB0 bO hbo hbx
    gi_wp2_with (gi_at_builtin; refine wpListIn_append_own _ rfl _ _ 126 rfl (w.heap.size + 1) 129 i0 (.agg #[str [], str [], str [], .bool false]) 4 56 Try.underlying126 hi hz0 hz1 hz2 rfl (by decide) _ _ _ rfl (hrow.alloc _) ⟨W.heap.size, 0, none⟩ 1 1 [str kn, str ya, str yb, .bool yc] rfl rfl (cell_four_new _ _ _ _ _ _) (by simp [Value.oneCell']) (by simp only [maxLen]; omega) (by omega) (by simp; omega) ?_; intro v' w1 hown' hgrow _; obtain ⟨g', cap', rfl⟩ := ownsRow_succ hown'; obtain ⟨hv1, hv2, hr2, hbel⟩ := appended2 hv (by omega) hsz hrow hown' hgrow; have hT := boxT (Wr := fun T => T = 129) (v' := .slice (some ⟨g', 0, none⟩) (pre.length + 1) cap') (D := w.heap.size + 1) hv (by decide) hrow hgrow rfl (by omega); have hc1 := hv1.cell; have hf1 := hv1.frozen)
    obtain ⟨hB, ht⟩ := H.out
    have e1 : flatQ (pre ++ [((str kn : Value), .agg #[str ya, str yb, .bool yc])]) = flatQ pre ++ [str kn, str ya, str yb, .bool yc] := by rw [flatQ_app]; rfl
    exact ⟨hT.more (by simp), ⟨_, hv2, by rw [e1, List.length_append]; exact hr2⟩, hB.trans (hbel _ (Nat.le_refl _))⟩
  case done =>
    rintro D W hD ⟨⟨v, hv, hrow⟩, hB⟩ hK
    have cv := hv.cell
    gi_wp2
    refine ⟨by simp, .inl ⟨_, _, rfl, run_takeDeferred hK, ?_⟩⟩
    exact ⟨_, results_tmp rfl _ _ _, v, rfl, row_mono (ownsRow_putObj hrow _ hK rfl) (by omega), hB.trans (belowK_b (w := w) (Nat.le_refl _) W D _ _ (by simp at hD; omega) hK rfl rfl)⟩
  case stop =>
    rintro D c pre W hD _ hF _
    exact hF.elim
end Go.Proofs.Ytcgjiddiegepkaa

/- Maps in order, Merge[string,handbill/api.Write]: what is ahead. -/
namespace Go.Proofs.Ytcgjiddiegepkaa
open Go.RowKit
/-- What is ahead: a slice of pairs in a block from B on. -/
def AheadVW (B : Nat) (W : World) (v : Value) (ra : List (Value × Value)) : Prop :=
  ∃ (a : Option Addr) (cap : Nat), v = .slice a ra.length cap ∧ ra.length ≤ cap ∧ cap ≤ maxLen ∧ (ra ≠ [] → ∃ (g off : Nat) (cur : Array Value), a = some ⟨g, off, none⟩ ∧ B ≤ g ∧ W.heap[g]? = some (.cells cur 129 (0, 0)) ∧
    ∀ i (h : i < ra.length), cur[off + i * 4]? = some ra[i].1 ∧ cur[off + i * 4 + 1]? = some (wA ra[i].2) ∧ cur[off + i * 4 + 2]? = some (wB ra[i].2) ∧ cur[off + i * 4 + 3]? = some (wC ra[i].2))
theorem AheadVW.of_row {B : Nat} {W : World} {v : Value} {xs : List (Value × Value)} (h : W.ownsRow B 129 4 v xs.length (flatQ xs)) : AheadVW B W v xs := by
  rcases h.2 with ⟨rfl, h0⟩ | ⟨g, cap, cur, rfl, hb, hg, h1, h2, h3, h4⟩
  · obtain rfl := List.eq_nil_of_length_eq_zero h0
    exact ⟨none, 0, rfl, Nat.le_refl _, by simp [maxLen], fun h => absurd rfl h⟩
  · refine ⟨_, cap, rfl, h1, h2, fun _ => ⟨g, 0, cur, rfl, hb, hg, fun i hi => ?_⟩⟩
    obtain ⟨e1, e2, e3, e4⟩ := flatQ_at xs i hi
    have q1 := congrArg (fun z => z[i * 4]?) h4
    have q2 := congrArg (fun z => z[i * 4 + 1]?) h4
    have q3 := congrArg (fun z => z[i * 4 + 2]?) h4
    have q4 := congrArg (fun z => z[i * 4 + 3]?) h4
    simp only [List.getElem?_take] at q1 q2 q3 q4
    rw [if_pos (by omega), e1] at q1
    rw [if_pos (by omega), e2] at q2
    rw [if_pos (by omega), e3] at q3
    rw [if_pos (by omega), e4] at q4
    exact ⟨by simpa using q1, by simpa using q2, by simpa using q3, by simpa using q4⟩
theorem AheadVW.turn {B : Nat} {W W' : World} {v : Value} {ra : List (Value × Value)} (h : AheadVW B W v ra) (hk : ∀ g cur, B ≤ g → W.heap[g]? = some (.cells cur 129 (0, 0)) → W'.heap[g]? = some (.cells cur 129 (0, 0))) : AheadVW B W' v ra := by
  obtain ⟨a, cap, e, h1, h2, h3⟩ := h
  exact ⟨a, cap, e, h1, h2, fun hne => by obtain ⟨g, off, cur, e1, e2, e3, e4⟩ := h3 hne; exact ⟨g, off, cur, e1, e2, hk g cur e2 e3, e4⟩⟩
theorem AheadVW.kt {Wr : TypeId → Prop} {B : Nat} {W W' : World} {v : Value} {ra : List (Value × Value)} (h : AheadVW B W v ra) (hk : KT Wr B W W') (hw : ¬ Wr 129) : AheadVW B W' v ra :=
  h.turn (fun _ _ hg hc => hk.cells hg hc hw)
theorem AheadVW.below {B : Nat} {W W' : World} {v : Value} {ra : List (Value × Value)} (h : AheadVW B W v ra) (hb : Below W.heap.size W W') : AheadVW B W' v ra :=
  h.turn (fun g _ _ hc => by rw [hb.block g (Array.getElem?_eq_some_iff.1 hc).1]; exact hc)
theorem AheadVW.set {B : Nat} {W : World} {v : Value} {ra : List (Value × Value)} (h : AheadVW B W v ra) {b : Nat} {T : TypeId} {u : Value} (hb : Boxed W b T u) (hT : T ≠ 129) (u' : Value) : AheadVW B (W.setCell ⟨b, 0, none⟩ u') v ra :=
  h.turn (fun g cur _ hc => by
    rw [Below.heap_setCell _ _ _ _ (by rintro rfl; rw [show W.heap[g]? = _ from hb] at hc; simp at hc; exact hT hc.2)]; exact hc)
theorem ahead_ownVW {β : Type} (B : Nat) (f : β → Value) (ra : β → List (Value × Value)) : Go.Own (fun s W => AheadVW B W (f s) (ra s)) := fun s X Y row h hg hrow =>
  h.turn (fun g cur _ hc => by
    rw [hg.block g (Array.getElem?_eq_some_iff.1 hc).1 (fun e => by obtain ⟨o, ho, hcs⟩ := hrow g e.symm; rw [hc] at ho; cases ho; cases hcs)]; exact hc)
/-- The first of what is ahead, as the walk reads it. -/
theorem AheadVW.head {B : Nat} {W : World} {v : Value} {p : Value × Value} {ra : List (Value × Value)} (h : AheadVW B W v (p :: ra)) : ∃ g off cap, v = .slice (some ⟨g, off, none⟩) (ra.length + 1) cap ∧ ra.length + 1 ≤ cap ∧ cap ≤ maxLen ∧ B ≤ g ∧
    (∀ W', AheadVW B W' v (p :: ra) → W'.cell? ⟨g, off, none⟩ = some p.1 ∧ W'.cell? ⟨g, off + 1, none⟩ = some (wA p.2) ∧ W'.cell? ⟨g, off + 2, none⟩ = some (wB p.2) ∧ W'.cell? ⟨g, off + 3, none⟩ = some (wC p.2)) ∧ AheadVW B W (.slice (if cap = 1 then some ⟨g, off, none⟩ else some ⟨g, off + 4, none⟩) ra.length (cap - 1)) ra := by
  obtain ⟨a, cap, e, h1, h2, h3⟩ := h
  obtain ⟨g, off, cur, rfl, hb, hc, hcs⟩ := h3 (by simp)
  subst e
  refine ⟨g, off, cap, rfl, by simpa using h1, h2, hb, fun W' h' => ?_, ?_⟩
  · obtain ⟨a', cap', e', _, _, h3'⟩ := h'
    obtain ⟨g', off', cur', rfl, _, hc', hcs'⟩ := h3' (by simp)
    simp only [Value.slice.injEq, Option.some.injEq, Addr.mk.injEq, and_true] at e'
    obtain ⟨⟨rfl, rfl⟩, _⟩ := e'
    obtain ⟨q1, q2, q3, q4⟩ := hcs' 0 (by simp)
    simp only [Nat.zero_mul, Nat.add_zero, List.getElem_cons_zero] at q1 q2 q3 q4
    rw [cell_of_row W' g _ cur' _ (0, 0) hc', cell_of_row W' g _ cur' _ (0, 0) hc', cell_of_row W' g _ cur' _ (0, 0) hc', cell_of_row W' g _ cur' _ (0, 0) hc']
    exact ⟨q1, q2, q3, q4⟩
  · refine ⟨_, _, rfl, by simp at h1; omega, by omega, fun hne => ?_⟩
    have : ¬ cap = 1 := by
      have : ra.length ≠ 0 := fun e => hne (List.eq_nil_of_length_eq_zero e)
      simp at h1; omega
    rw [if_neg this]
    refine ⟨g, off + 4, cur, rfl, hb, hc, fun i hi => ?_⟩
    obtain ⟨q1, q2, q3, q4⟩ := hcs (i + 1) (by simpa using hi)
    simp only [List.getElem_cons_succ] at q1 q2 q3 q4
    rw [show off + 4 + i * 4 = off + (i + 1) * 4 by omega]
    exact ⟨q1, q2, q3, q4⟩
/-- What Merge writes of its own. -/
def MrgTVW (T : TypeId) : Prop := T = 126
end Go.Proofs.Ytcgjiddiegepkaa
