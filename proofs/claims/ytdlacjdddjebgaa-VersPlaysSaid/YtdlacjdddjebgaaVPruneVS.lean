/- A store of versions of string: Prune. -/
import Derived.Test.YtdlacjdddjebgaaVPrVS
import Derived.Test.YtdlacjdddjebgaaAllVS
import Derived.Test.YtdlacjdddjebgaaTwoRows
import Derived.Test.YtdlacjdddjebgaaOnlyF
namespace Go.Proofs.Ytdlacjdddjebgaa
open Go.RowKit
attribute [local go_sem] Oper.semAt_some wide_fn wide_depth

/-- What a chain is behind a Prune. -/
def keptVVS (lw : Int) (l : List VerVS) : List VerVS := l.drop (dropNVS l lw)
def chsVS (S : ChsVS) : List (List UInt8 × List VerVS) := S.map (fun x => (x.1, x.2.2))
def pruCVS (lw : Int) (C : List (List UInt8 × List VerVS)) : List (List UInt8 × List VerVS) := C.filterMap (fun p => if (keptVVS lw p.2).length = 0 then none else some (p.1, keptVVS lw p.2))
def pruDVS (lw : Int) (C : List (List UInt8 × List VerVS)) : Nat := (C.map (fun p => dropNVS p.2 lw)).sum
set_option maxRecDepth 100000 in
set_option maxHeartbeats 4000000 in
theorem pruneNVS_any {W : World} {B s mb : Nat} {t : Tr} {S : ChsVS} {cnt low : Int} {k : Nat} (h : StVS W B s mb t S cnt low k) (lw : Int) (hl : lw ≤ low ∨ 1099511627776 < lw) :
    Calls Try.prog 15 #[.pointer (some ⟨s, 0, none⟩), .int .i64 lw] W fun e W' => e = .returned (.int .i64 0) ∧ Below W.heap.size W W' := by
  have hb1 := below_alloc W (.cells #[.pointer (some ⟨s, 0, none⟩)] 24)
  have hb2 : Below W.heap.size W ((W.alloc (.cells #[.pointer (some ⟨s, 0, none⟩)] 24)).alloc (.cells #[.int .i64 lw] 3)) := hb1.alloc (by simp) _
  have HB := Lib.hid hb2
  obtain ⟨_, _, c2, _⟩ := (h.below hb2).cells
  clear h hb1 hb2
  by_cases h1 : lw ≤ low
  · clear hl
    go_enter Try.func15, Try.ntmps15
    go_wp2_with fail
    go_quiet (fail)
    go_wp2_with fail
    go_ret
    exact ⟨rfl, Below.drewsN HB.out _⟩
  · have h2 : 1099511627776 < lw := by omega
    clear hl
    go_enter Try.func15, Try.ntmps15
    go_wp2_with fail
    go_quiet (fail)
    go_wp2_with fail
    go_ret
    exact ⟨rfl, Below.drewsN HB.out _⟩
theorem getB_midVS {k : List UInt8} {y : ChVS} {b : ChsVS} : ∀ {a : ChsVS}, RisB (a ++ (k, y) :: b) → getB k (a ++ (k, y) :: b) = some y
  | [], _ => by simp [getB, bl_irr]
  | (k', y') :: t, hr => by
    obtain ⟨r1, r2⟩ := List.pairwise_cons.1 hr
    have hl : Op.bytesLess k' k = true := r1 (k, y) (by simp)
    have hl2 : Op.bytesLess k k' = false := by
      cases e : Op.bytesLess k k' with
      | false => rfl
      | true => have := bl_tr _ _ _ e hl; rw [bl_irr] at this; cases this
    simp only [List.cons_append, getB, hl, hl2, Bool.false_eq_true, if_false, if_true]
    exact getB_midVS r2
theorem StVS.wide {W : World} {B s mb : Nat} {t : Tr} {S : ChsVS} {cnt low : Int} {k k' : Nat} (h : StVS W B s mb t S cnt low k) (hk : k ≤ k') : StVS W B s mb t S cnt low k' :=
  ⟨h.box, h.mp, h.ws, h.pr, h.rs, h.ch, h.ap, h.tr, ⟨Nat.le_trans h.hk.1 hk, Nat.le_trans h.hk.2.1 hk, fun x hx => Nat.le_trans (h.hk.2.2 x hx) hk⟩, h.lo⟩
theorem pruCVS_snoc (lw : Int) (A : ChsVS) (key : List UInt8) (v : Value) (l : List VerVS) : pruCVS lw (chsVS (A ++ [(key, (v, l))])) = pruCVS lw (chsVS A) ++ if (keptVVS lw l).length = 0 then [] else [(key, keptVVS lw l)] := by
  unfold pruCVS chsVS
  rw [List.map_append, List.filterMap_append]
  congr 1
  by_cases h : (keptVVS lw l).length = 0
  · have h' := List.eq_nil_of_length_eq_zero h
    simp [h']
  · have h' : keptVVS lw l ≠ [] := fun e => h (by rw [e]; rfl)
    simp [h']
theorem pruDVS_snoc (lw : Int) (A : ChsVS) (key : List UInt8) (v : Value) (l : List VerVS) : pruDVS lw (chsVS (A ++ [(key, (v, l))])) = pruDVS lw (chsVS A) + dropNVS l lw := by
  unfold pruDVS chsVS
  simp
theorem dropNVS_le (l : List VerVS) (lw : Int) : dropNVS l lw ≤ l.length := by
  have h := upN_le (timesVS l) lw
  have e : (timesVS l).length = l.length := by unfold timesVS; simp
  unfold dropNVS
  split
  · omega
  · next n hn =>
    split
    · split <;> omega
    · omega
theorem pruDVS_le (lw : Int) {k : Nat} : ∀ (A : ChsVS) (_ : ∀ x ∈ A, x.2.2.length ≤ k), pruDVS lw (chsVS A) ≤ A.length * k
  | [], _ => by simp [pruDVS, chsVS]
  | x :: t, h => by
    have ih := pruDVS_le lw t (fun y hy => h y (by simp [hy]))
    have h1 := h x (by simp)
    have h2 := dropNVS_le x.2.2 lw
    unfold pruDVS chsVS at ih ⊢
    simp only [List.map_cons, List.sum_cons, List.length_cons, Nat.add_mul, Nat.one_mul]
    omega
/-- What lies on of a call of Prune. -/
structure PrLVS (W W3 : World) (B s mb : Nat) (S : ChsVS) (lw : Int) (W' : World) : Prop where
  fr : Frm (BlkVS s mb S) W W'
  bs : Boxed W' W.heap.size 24 (.pointer (some ⟨s, 0, none⟩))
  bl : Boxed W' (W.heap.size + 1) 3 (.int .i64 lw)
  nk : NK W3 W'
theorem PrLVS.up {W W3 : World} {B s mb : Nat} {S : ChsVS} {lw : Int} {X Y : World} (h : PrLVS W W3 B s mb S lw X) {F : Nat → Prop} (hf : Frm F X Y) (hF : ∀ i, F i → BlkVS s mb S i) (hS : ∀ i, BlkVS s mb S i → i < W.heap.size) (h5 : ∀ i, F i → ∀ cs T z, X.heap[i]? = some (.cells cs T z) → cs.size ≠ 5) : PrLVS W W3 B s mb S lw Y :=
  ⟨h.fr.trans hf (fun i _ hi => hF i hi),
   (hf.block _ (Array.getElem?_eq_some_iff.1 (show X.heap[W.heap.size]? = _ from h.bs)).1 (fun e => by have := hS _ (hF _ e); omega)).trans h.bs,
   (hf.block _ (Array.getElem?_eq_some_iff.1 (show X.heap[W.heap.size + 1]? = _ from h.bl)).1 (fun e => by have := hS _ (hF _ e); omega)).trans h.bl,
   ⟨Nat.le_trans h.nk.1 hf.size, fun b k x n ol or T hc => by
     have h6 := h.nk.2 b k x n ol or T hc
     rw [hf.block b (Array.getElem?_eq_some_iff.1 h6).1 (fun e => h5 b e _ _ _ h6 rfl)]
     exact h6⟩⟩
theorem kt_of_frmVS {F : Nat → Prop} {D : Nat} {X Y : World} (hf : Frm F X Y) (hF : ∀ i, F i → i < D) : KT (fun _ => False) D X Y :=
  ⟨hf.size, fun k o hk h0 _ => (hf.block k (Array.getElem?_eq_some_iff.1 h0).1 (fun e => by have := hF k e; omega)).trans h0⟩
/-- Under way: of the chains the first have been gone through. -/
structure PrIVS (W W3 : World) (B s mb : Nat) (S : ChsVS) (cnt lw : Int) (k : Nat) (pre : List (Value × Value)) (W' : World) : Prop where
  st : ∃ A Q P tc, S = A ++ Q ∧ pre = A.map (pairB Prod.fst) ∧ StVS W' B s mb tc (P ++ Q) (cnt - (pruDVS lw (chsVS A) : Int)) lw (k + A.length) ∧ chsVS P = pruCVS lw (chsVS A) ∧ (∀ i, BlkVS s mb (P ++ Q) i → BlkVS s mb S i ∨ W.heap.size ≤ i)
  on : PrLVS W W3 B s mb S lw W'
theorem prIVS_own {W W3 : World} {B s mb : Nat} {S : ChsVS} {cnt lw : Int} {k : Nat} {D : Nat} (h3 : W3.heap.size ≤ D) (hW : W.heap.size ≤ D) : OwnFrom D (PrIVS W W3 B s mb S cnt lw k) := by
  intro pre X Y row h hg hr
  have hcells : ∀ i cs T z, X.heap[i]? = some (.cells cs T z) → row ≠ some i := by
    intro i cs T z hc e
    obtain ⟨_, o, ho, hoc⟩ := hr i e
    rw [hc] at ho
    cases ho
    cases hoc
  have hf : Frm (fun i => row = some i) X Y := Frm.of_grown hg (fun _ e => e)
  obtain ⟨A, Q, P, tc, e1, e2, hs, e3, hb⟩ := h.st
  refine ⟨⟨A, Q, P, tc, e1, e2, hs.frm hf (fun i e cs T z hc => absurd e (hcells i cs T z hc)) ?_, e3, hb⟩, ⟨?_, ?_, ?_, NK.own W3 (β := Unit) () X Y row h.on.nk hg (fun r e => ⟨Nat.le_trans h3 (hr r e).1, (hr r e).2⟩)⟩⟩
  · rintro i hi e
    rcases hi with rfl | rfl | ⟨x, hx, hi⟩
    · exact hcells _ _ _ _ hs.box e
    · obtain ⟨T, o, hm, _⟩ := hs.mp
      exact hcells _ _ _ _ hm e
    · rcases (hs.ch x hx).2 with ⟨h1, _⟩ | ⟨g, cap, cur, h1, _, hgg, _⟩
      · rw [h1] at hi; simp [Value.ownBlock] at hi
      · rw [h1] at hi
        simp only [Value.ownBlock, Option.some.injEq] at hi
        subst hi
        exact hcells _ _ _ _ hgg e
  · refine h.on.fr.trans (G := fun i => row = some i) hf (fun i hi e => ?_)
    have := (hr i e).1
    omega
  · exact h.on.bs.kept hg (fun e => hcells _ _ _ _ h.on.bs e.symm)
  · exact h.on.bl.kept hg (fun e => hcells _ _ _ _ h.on.bl e.symm)
theorem prIVS_done {W W3 : World} {B s mb : Nat} {S : ChsVS} {cnt lw : Int} {k : Nat} {W' : World} {l : List (Value × Value)} (h : PrIVS W W3 B s mb S cnt lw k l W') (hl : l = S.map (pairB Prod.fst)) :
    (∃ t' S', StVS W' B s mb t' S' (cnt - (pruDVS lw (chsVS S) : Int)) lw (k + S.length) ∧ chsVS S' = pruCVS lw (chsVS S) ∧ ∀ i, BlkVS s mb S' i → BlkVS s mb S i ∨ W.heap.size ≤ i) ∧ Frm (BlkVS s mb S) W W' := by
  obtain ⟨A, Q, P, tc, e1, e2, hs9, e3, hb9⟩ := h.st
  have hQ : Q = [] := by
    have h6 := hl.symm.trans e2
    rw [e1, List.map_append] at h6
    have := congrArg List.length h6
    simp at this
    exact this
  subst hQ
  rw [List.append_nil] at e1 hs9 hb9
  subst e1
  exact ⟨⟨tc, P, hs9, e3, hb9⟩, h.on.fr⟩
theorem cloVS_at {w6 X0 X1 : World} {B g m c : Nat} {l : List VerVS} (hX0 : Below w6.heap.size w6 X0) (ho : X1.ownsRow X0.heap.size 65 3 (.slice (some ⟨g, 0, none⟩) m c) l.length (l.map cellsVS).flatten) (hb : Below X0.heap.size X0 X1) (hB : B ≤ w6.heap.size) :
    X1.ownsRow B 65 3 (.slice (some ⟨g, 0, none⟩) m c) l.length (l.map cellsVS).flatten ∧ Below w6.heap.size w6 X1 ∧ w6.heap.size ≤ g := by
  have h1 := (World.ownsRow.lt ho g rfl).1
  have h2 := hX0.size
  exact ⟨row_mono ho (by omega), hX0.trans (hb.mono h2), by omega⟩
/-- Behind a chain put anew. -/
def PrRVS (W w4 W9 : World) (B s mb : Nat) (S P Q : ChsVS) (key : List UInt8) (m : Nat) (l' : List VerVS) (cnt' lw : Int) (k' : Nat) (W' : World) : Prop :=
  ∃ g' c' t', StVS W' B s mb t' (P ++ (key, (Value.slice (some ⟨g', 0, none⟩) m c', l')) :: Q) cnt' lw k' ∧ PrLVS W w4 B s mb S lw W' ∧ KT (fun _ => False) w4.heap.size W9 W' ∧ W.heap.size ≤ g'
/-- What Prune leaves. -/
def PruPVS (W : World) (B s mb : Nat) (S : ChsVS) (cnt lw : Int) (k : Nat) (e : Ending) (W' : World) : Prop :=
  e = .returned (.int .i64 (pruDVS lw (chsVS S) : Int)) ∧ (∃ t' S', StVS W' B s mb t' S' (cnt - (pruDVS lw (chsVS S) : Int)) lw (k + S.length) ∧ chsVS S' = pruCVS lw (chsVS S) ∧ ∀ i, BlkVS s mb S' i → BlkVS s mb S i ∨ W.heap.size ≤ i) ∧ Frm (BlkVS s mb S) W W'
set_option maxRecDepth 100000 in
set_option maxHeartbeats 8000000 in
theorem pruneYVS_any {W : World} {B s mb : Nat} {t : Tr} {S : ChsVS} {cnt low : Int} {k : Nat} (h : StVS W B s mb t S cnt low k) (hk : k ≤ 10000) (hc : 0 ≤ cnt ∧ cnt ≤ 1000000000) (lw : Int) (h1 : low < lw) (h2 : lw ≤ 1099511627776) (hB : B ≤ W.heap.size) :
    Calls Try.prog 15 #[.pointer (some ⟨s, 0, none⟩), .int .i64 lw] W (PruPVS W B s mb S cnt lw k) := by
  have hm : Try.prog.follows .mixedOrders = true := by kernel_rfl
  have hdd : ∀ k : Nat, (Fence.wide.depth.isSome = true → 1 ≤ k) := fun k h => by cases h
  have hb2 : Below W.heap.size W ((W.alloc (.cells #[.pointer (some ⟨s, 0, none⟩)] 24)).alloc (.cells #[.int .i64 lw] 3)) := (below_alloc W _).alloc (by simp) _
  have hst2 := h.below hb2
  obtain ⟨c0, c1, c2, cf⟩ := hst2.cells
  have cf2 := cf 2
  have n1 : decide (lw ≤ low) = false := decide_eq_false (by omega)
  have n2 : decide (1099511627776 < lw) = false := decide_eq_false (by omega)
  have HH := Lib.hid (And.intro h (And.intro hst2 hb2))
  have HC := Lib.hid hc
  clear h hst2 hb2 cf hc
  refine (callsIn_wide (n := 9)).1 ?_
  refine callsIn_of_wp_marks Try.func15 rfl trivial ?_ rfl
  simp only [Try.ntmps15, List.size_toArray, List.length_cons, List.length_nil, Nat.reduceAdd, Nat.reduceSub, Array.replicate_succ, Array.replicate_zero, List.push_toArray, List.append_toArray, List.nil_append, List.cons_append]
  gi_wp2_with fail
  refine onlyF_normal ?_
  gi_region_o
  dsimp only [OnlyF]
  obtain ⟨W2, hW2⟩ : ∃ W2, W2 = ((W.alloc (.cells #[.pointer (some ⟨s, 0, none⟩)] 24)).alloc (.cells #[.int .i64 lw] 3)).drew := ⟨_, rfl⟩
  have hs2 : W2.heap.size = W.heap.size + 2 := by rw [hW2]; simp
  have hst2 : StVS W2 B s mb t S cnt low k := by rw [hW2]; exact HH.out.2.1.below (Below.drewsN (Below.refl _ _) 1)
  have hb2 : Below W.heap.size W W2 := by rw [hW2]; exact Below.drewsN HH.out.2.2 1
  have bs2 : Boxed W2 W.heap.size 24 (.pointer (some ⟨s, 0, none⟩)) := by rw [hW2]; exact (Boxed.new W 24 (.pointer (some ⟨s, 0, none⟩))).alloc _
  have bl2 : Boxed W2 (W.heap.size + 1) 3 (.int .i64 lw) := by
    rw [hW2]
    have := Boxed.new (W.alloc (.cells #[.pointer (some ⟨s, 0, none⟩)] 24)) 3 (.int .i64 lw)
    have e : (W.alloc (.cells #[.pointer (some ⟨s, 0, none⟩)] 24)).heap.size = W.heap.size + 1 := by simp
    rw [e] at this
    exact this
  rw [← hW2]
  clear hW2 c0 c1 c2 cf2
  obtain ⟨c0, c1, c2, cf⟩ := hst2.cells
  have cf2 := cf 2
  have q0 : W2.cell? ⟨W.heap.size, 0, none⟩ = some (.pointer (some ⟨s, 0, none⟩)) := bs2.cell
  have q1 : W2.cell? ⟨W.heap.size + 1, 0, none⟩ = some (.int .i64 lw) := bl2.cell
  obtain ⟨hst3, hf3⟩ := hst2.setLow (low' := lw)
  have hsz : s < W.heap.size := HH.out.1.slt
  have bs3 : Boxed (W2.setCell ⟨s, 2, none⟩ (.int .i64 lw)) W.heap.size 24 (.pointer (some ⟨s, 0, none⟩)) := (hf3.block W.heap.size (by omega) (by omega)).trans bs2
  have bl3 : Boxed (W2.setCell ⟨s, 2, none⟩ (.int .i64 lw)) (W.heap.size + 1) 3 (.int .i64 lw) := (hf3.block (W.heap.size + 1) (by omega) (by omega)).trans bl2
  have H3 := Lib.hid (And.intro hst3 (And.intro bs3 (And.intro bl3 ((Frm.of_below (F := BlkVS s mb S) hb2).trans hf3 (fun i _ hi => .inl hi)))))
  have hs3 : Hid ((W2.setCell ⟨s, 2, none⟩ (.int .i64 lw)).heap.size = W.heap.size + 2) := Lib.hid (by simp [World.setCell, hs2])
  clear cf hst2 hb2 bs2 bl2 hst3 hf3 bs3 bl3 hs2
  gi_wp2_with (gi_at_call 43; refine hold ?_)
  intro _
  clear q0 q1 c0 c1 c2 cf2
  generalize W2.setCell ⟨s, 2, none⟩ (.int .i64 lw) = W3 at *
  refine (callsIn_wide.2 (mallVS_any mb W3)).mono ?_
  rintro e w4 ⟨rfl, hw4⟩
  have l4 : Below W3.heap.size W3 w4 := by rw [hw4]; exact below_alloc W3 _
  have h4 : w4.heap.size = W.heap.size + 3 := by rw [hw4]; simp [hs3.out]
  have c4 : w4.cell? ⟨W3.heap.size, 0, none⟩ = some (.pointer (some ⟨mb, 0, none⟩)) := by rw [hw4]; simp
  have hst4 := H3.out.1.below l4
  have hseq : ∀ W', Below w4.heap.size w4 W' → Seqs Try.prog 63 #[.pointer (some ⟨W3.heap.size, 0, none⟩)] (fun p : Value × Value => #[p.1, p.2]) (NK w4) (fun _ => False) (prs t) W' := fun W' hW' => allsVS_any hst4.mp c4 hW'
  have hbk : ∀ i, BlkVS s mb S i → i < W.heap.size := fun i hi => (HH.out.1.blk i hi).2
  have H0 : PrIVS W w4 B s mb S cnt lw k [] w4 := by
    refine ⟨⟨[], S, [], t, rfl, rfl, ?_, rfl, fun i hi => .inl hi⟩, ⟨H3.out.2.2.2.trans (Frm.of_below (F := fun _ => False) l4) (fun _ _ hi => hi.elim), ?_, ?_, NK.refl _⟩⟩
    · have : (cnt - (pruDVS lw (chsVS ([] : ChsVS)) : Int)) = cnt := by simp [pruDVS, chsVS]
      rw [this]
      exact hst4
    · exact (l4.block _ (by rw [hs3.out]; omega)).trans H3.out.2.1
    · exact (l4.block _ (by rw [hs3.out]; omega)).trans H3.out.2.2.1
  have HPR : Hid (prs t = S.map (pairB Prod.fst)) := Lib.hid HH.out.1.pr
  have HKD : Hid (∀ A Q, S = A ++ Q → pruDVS lw (chsVS A) ≤ 100000000 ∧ A.length ≤ 10000) := Lib.hid (fun A Q e => by
    have h6 : A.length ≤ k := by have := HH.out.1.hk.2.1; rw [e] at this; simp at this; omega
    have := pruDVS_le lw (k := k) A (fun x hx => HH.out.1.hk.2.2 x (by rw [e]; exact List.mem_append_left _ hx))
    have h7 : A.length * k ≤ 10000 * 10000 := Nat.mul_le_mul (by omega) hk
    omega)
  have HW4 := Lib.hid h4
  clear l4 c4 hst4 hw4 H3 hs3
  gi_wp2
  refine range_law (gf := 63) (lb := #[.pointer (some ⟨W3.heap.size, 0, none⟩)]) rfl (enters_of Try.func63 (by kernel_rfl) rfl) (Ok := NK w4) (Wr := fun _ => False) (xs := prs t) hseq (by intro x; rfl)
    (fun pre W' => PrIVS W w4 B s mb S cnt lw k pre W') (fun _ _ _ => False)
    (prIVS_own (Nat.le_refl _) (by rw [HW4.out]; omega)) (fun c => ownFrom_pure _ (fun _ : List (Value × Value) => False)) H0 (fun pre W' h => h.on.nk) ?a1 ?assign ?body ?done ?stop
  case assign =>
    intro l x W' K hK
    gi_wp2
    exact hK
  case stop =>
    rintro D c pre W' hD _ hF _
    exact hF.elim
  case done =>
    rintro D W9 hD hI hK
    have HDn : Hid (∀ o, (∃ t' S', StVS (W9.putObj D o) B s mb t' S' (cnt - (pruDVS lw (chsVS S) : Int)) lw (k + S.length) ∧ chsVS S' = pruCVS lw (chsVS S) ∧ ∀ i, BlkVS s mb S' i → BlkVS s mb S i ∨ W.heap.size ≤ i) ∧ Frm (BlkVS s mb S) W (W9.putObj D o)) :=
      Lib.hid (fun o => prIVS_done ((prIVS_own (W := W) (D := w4.heap.size) (Nat.le_refl _) (by rw [HW4.out]; omega)).putObj o hI hD hK rfl) HPR.out)
    obtain ⟨⟨t9, S9, hs9, _, _⟩, _⟩ := prIVS_done hI HPR.out
    obtain ⟨_, c1, _, _⟩ := hs9.cells
    have q0 : W9.cell? ⟨W.heap.size, 0, none⟩ = some (.pointer (some ⟨s, 0, none⟩)) := hI.on.bs.cell
    have hkd := (HKD.out S [] (by simp)).1
    obtain ⟨M, hM⟩ : ∃ M : Nat, M = pruDVS lw (chsVS S) := ⟨_, rfl⟩
    rw [← hM] at c1 hkd
    have HM := Lib.hid hM
    have tw : IntKind.i64.wrap (cnt - (cnt - (M : Int))) = (M : Int) := by rw [show cnt - (cnt - (M : Int)) = (M : Int) by omega]; exact IntWalk.i64_in _ (by omega)
    have tw2 : cnt - (cnt - (M : Int)) = (M : Int) := by omega
    have hc0 := HC.out
    clear hs9 hI hseq H0 hM
    gi_wp2
    refine ⟨by simp, .inl ⟨_, _, rfl, run_takeDeferred hK, ?_⟩⟩
    exact ⟨_, results_tmp rfl _ _ _, by rw [← HM.out]; rfl, (HDn.out _).1, (HDn.out _).2⟩
  case body =>
    rintro l2 pre x W9 hl2 hI ⟨tl, ht⟩
    obtain ⟨A, Q, P, tc, e1, e2, hs9, e3, hb9⟩ := hI.st
    obtain ⟨key, v, l, Q', rfl, rfl⟩ : ∃ key v l Q', Q = (key, (v, l)) :: Q' ∧ x = pairB Prod.fst ((key, (v, l)) : List UInt8 × ChVS) := by
      have h6 := HPR.out.symm.trans ht
      rw [e1, List.map_append, e2] at h6
      have h7 := List.append_cancel_left h6
      cases Q with
      | nil => cases h7
      | cons q Q' =>
        obtain ⟨key, v, l⟩ := q
        simp only [List.map_cons, List.cons.injEq] at h7
        exact ⟨key, v, l, Q', rfl, h7.1.symm⟩
    have hmem : (key, (v, l)) ∈ P ++ (key, (v, l)) :: Q' := by simp
    have hrow : W9.ownsRow B 65 3 v l.length (l.map cellsVS).flatten := hs9.ch _ hmem
    have htr : RisT (timesVS l) := hs9.tr _ hmem
    have hkA := (HKD.out A _ e1).2
    have hD8 := (HKD.out A _ e1).1
    have hll : l.length ≤ 20000 := by have : l.length ≤ k + A.length := hs9.hk.2.2 _ hmem; omega
    have hmS : (key, (v, l)) ∈ S := by rw [e1]; simp
    have hrd := rd_rowVS hrow
    obtain ⟨av, cv, rfl, _⟩ := hrd.form
    obtain ⟨n, hn⟩ : ∃ n, n = dropNVS l lw := ⟨_, rfl⟩
    have hnl : n ≤ l.length := by rw [hn]; exact dropNVS_le l lw
    have hC := droppedVS_any _ l lw W9 hrd htr (by omega)
    rw [← hn] at hC
    have HC1 : Hid (∀ m, CallsIn (Fence.wide.inRound l2) m Try.prog 44 #[.slice av l.length cv, .int .i64 lw] W9 fun e w' => e = .returned (.int .i64 (n : Int)) ∧ Below W9.heap.size W9 w') := Lib.hid (fun m => (callsIn_wide.2 hC).inRound l2)
    have q0 : W9.cell? ⟨W.heap.size, 0, none⟩ = some (.pointer (some ⟨s, 0, none⟩)) := hI.on.bs.cell
    have q1 : W9.cell? ⟨W.heap.size + 1, 0, none⟩ = some (.int .i64 lw) := hI.on.bl.cell
    obtain ⟨Dn, hDn⟩ : ∃ Dn : Nat, Dn = pruDVS lw (chsVS A) := ⟨_, rfl⟩
    rw [← hDn] at hs9 hD8
    have HS9 := Lib.hid hs9
    have HON := Lib.hid hI.on
    have HE := Lib.hid (And.intro e1 (And.intro e2 (And.intro e3 (And.intro hb9 (And.intro hn (And.intro hDn hmS))))))
    have HBK := Lib.hid hbk
    have HW4s : Hid (W.heap.size ≤ w4.heap.size) := Lib.hid (by rw [HW4.out]; omega)
    clear h4
    obtain ⟨N, hN⟩ : ∃ N, N = l.length := ⟨_, rfl⟩
    rw [← hN] at HC1 hnl hll
    have HN := Lib.hid hN
    clear hs9 hI hseq H0 hrow htr hrd hC hmem e1 e2 e3 hb9 hn hDn hmS hbk ht hN
    dsimp only [pairB]
    rw [← HN.out]
    gi_wp2_with fail
    refine (HC1.out _).mono ?_
    rintro e w5 ⟨rfl, hb5⟩
    have hs5 := HS9.out.below hb5
    have ho5 := HON.out.up (Frm.of_below (F := fun _ => False) hb5) (fun _ hi => hi.elim) HBK.out (fun _ hi => hi.elim)
    obtain ⟨_, c1, _, cf⟩ := hs5.cells
    have cf1 := cf 1
    have p0 : w5.cell? ⟨W.heap.size, 0, none⟩ = some (.pointer (some ⟨s, 0, none⟩)) := ho5.bs.cell
    have hc0 := HC.out
    have tw : IntKind.i64.wrap (cnt - (Dn : Int) - (n : Int)) = cnt - (Dn : Int) - (n : Int) := IntWalk.i64_in _ (by omega)
    obtain ⟨hs6, hf6⟩ := hs5.set (cnt' := cnt - (Dn : Int) - (n : Int))
    have ho6 := ho5.up hf6 (fun i hi => by subst hi; exact .inl rfl) HBK.out (fun i hi => by subst hi; exact hs5.five i (.inl rfl))
    have hkt6 : KT (fun _ => False) w4.heap.size W9 (w5.setCell ⟨s, 1, none⟩ (.int .i64 (cnt - (Dn : Int) - (n : Int)))) := (KT.of_below hb5).trans (kt_of_frmVS hf6 (fun i hi => by have := HBK.out s (.inl rfl); have := HW4s.out; omega))
    have H6 := Lib.hid (And.intro hs6 (And.intro ho6 hkt6))
    have r0 : (w5.setCell ⟨s, 1, none⟩ (.int .i64 (cnt - (Dn : Int) - (n : Int)))).cell? ⟨W.heap.size, 0, none⟩ = some (.pointer (some ⟨s, 0, none⟩)) := ho6.bs.cell
    have r1 : (w5.setCell ⟨s, 1, none⟩ (.int .i64 (cnt - (Dn : Int) - (n : Int)))).cell? ⟨s, 0, none⟩ = some (.pointer (some ⟨mb, 0, none⟩)) := hs6.cells.1
    clear hs5 ho5 hb5 cf hs6 hf6 ho6 hkt6 HC1 HS9 HON q0 q1
    by_cases hnN : n = N
    · as_aux_lemma =>
      subst hnN
      have HDL : Hid (∀ m, CallsIn (Fence.wide.inRound l2) m Try.prog 45 #[.pointer (some ⟨mb, 0, none⟩), str key] (w5.setCell ⟨s, 1, none⟩ (.int .i64 (cnt - (Dn : Int) - (n : Int)))) fun e W8 => e = .returned (.bool (hasT (str key) tc)) ∧
        StVS W8 B s mb (remT (str key) tc) (P ++ Q') (cnt - (Dn : Int) - (n : Int)) lw (k + A.length) ∧ Frm (fun i => i = mb) (w5.setCell ⟨s, 1, none⟩ (.int .i64 (cnt - (Dn : Int) - (n : Int)))) W8) := Lib.hid (fun m => (callsIn_wide.2 (delSVS_any H6.out.1 (by omega))).inRound l2)
      gi_wp2_with fail
      refine (HDL.out _).mono ?_
      rintro e w7 ⟨rfl, hs7, hf7⟩
      have ho7 := H6.out.2.1.up hf7 (fun i hi => by subst hi; exact .inr (.inl rfl)) HBK.out (fun i hi => by subst hi; exact H6.out.1.five i (.inr (.inl rfl)))
      have hkt7 := H6.out.2.2.trans (kt_of_frmVS (D := w4.heap.size) hf7 (fun i hi => by subst hi; have := HBK.out i (.inr (.inl rfl)); have := HW4s.out; omega))
      have H7 := Lib.hid (And.intro hs7 (And.intro ho7 hkt7))
      clear hs7 hf7 ho7 hkt7 HDL H6
      gi_wp2
      obtain ⟨hs7, ho7, hkt7⟩ := H7.out
      obtain ⟨e1, e2, e3, hb9, hn, hDn, hmS⟩ := HE.out
      refine ⟨hkt7, ⟨A ++ [(key, (.slice av n cv, l))], Q', P, remT (str key) tc, by rw [e1]; simp [HN.out], by rw [e2, HN.out]; simp [pairB], ?_, ?_, ?_⟩, ho7⟩
      · rw [pruDVS_snoc, ← hDn, ← hn]
        have : cnt - ((Dn + n : Nat) : Int) = cnt - (Dn : Int) - (n : Int) := by omega
        rw [this]
        exact hs7.wide (by simp)
      · rw [pruCVS_snoc, if_pos (by unfold keptVVS; rw [List.length_drop, ← hn, HN.out]; omega), List.append_nil]
        exact e3
      · intro i hi
        refine hb9 i ?_
        rcases hi with hi | hi | ⟨x, hx, hi⟩
        · exact .inl hi
        · exact .inr (.inl hi)
        · refine .inr (.inr ⟨x, ?_, hi⟩)
          rcases List.mem_append.1 hx with h | h
          · exact List.mem_append_left _ h
          · exact List.mem_append_right _ (List.mem_cons_of_mem _ h)
    have g0 : ((n : Int) == (N : Int)) = false := by simp; omega
    have g0' : (n == N) = false := by simp; omega
    by_cases hn0 : n = 0
    · as_aux_lemma =>
      have g1 : decide ((0 : Int) < (n : Int)) = false := by simp; omega
      have g1' : decide (0 < n) = false := by simp; omega
      have HN0 := Lib.hid hn0
      clear hn0
      gi_wp2
      obtain ⟨hs7, ho7, hkt7⟩ := H6.out
      obtain ⟨e1, e2, e3, hb9, hn, hDn, hmS⟩ := HE.out
      refine ⟨hkt7, ⟨A ++ [(key, (.slice av N cv, l))], Q', P ++ [(key, (.slice av N cv, l))], tc, by rw [e1]; simp [HN.out], by rw [e2, HN.out]; simp [pairB], ?_, ?_, ?_⟩, ho7⟩
      · rw [pruDVS_snoc, ← hDn, ← hn]
        have : cnt - ((Dn + n : Nat) : Int) = cnt - (Dn : Int) - (n : Int) := by omega
        rw [this, List.append_assoc]
        have := hs7.wide (k' := k + (A ++ [(key, ((Value.slice av N cv, l) : ChVS))]).length) (by simp)
        rw [HN.out] at this ⊢
        exact this
      · rw [pruCVS_snoc, if_neg (by unfold keptVVS; rw [List.length_drop, ← hn, ← HN.out]; have := HN0.out; omega)]
        have : keptVVS lw l = l := by unfold keptVVS; rw [← hn, HN0.out]; rfl
        rw [this]
        show chsVS (P ++ _) = _
        unfold chsVS at e3 ⊢
        rw [List.map_append, e3]
        rfl
      · intro i hi
        rw [List.append_assoc, HN.out] at hi
        exact hb9 i hi
    · as_aux_lemma =>
      have g1 : decide ((0 : Int) < (n : Int)) = true := by simp; omega
      have g1' : decide (0 < n) = true := by simp; omega
      obtain ⟨w6, hw6⟩ : ∃ w6, w6 = w5.setCell ⟨s, 1, none⟩ (.int .i64 (cnt - (Dn : Int) - (n : Int))) := ⟨_, rfl⟩
      have hs6 := H6.out.1
      rw [← hw6] at hs6
      have hmem : (key, ((Value.slice av l.length cv, l) : ChVS)) ∈ P ++ (key, (Value.slice av l.length cv, l)) :: Q' := by simp
      have hrow : w6.ownsRow B 65 3 (.slice av l.length cv) l.length (l.map cellsVS).flatten := hs6.ch _ hmem
      have htr : RisT (timesVS l) := hs6.tr _ hmem
      have hlk : l.length ≤ k + A.length := hs6.hk.2.2 _ hmem
      have hrd := rd_rowVS hrow
      obtain ⟨bA, oA, rfl, _⟩ := hrd.get (i := 0) (by rw [← HN.out]; omega)
      have hcap : N ≤ cv ∧ cv ≤ 9223372036854775807 := by
        obtain ⟨a', c', he, _, h6, h7, _⟩ := hrd
        simp only [Value.slice.injEq] at he
        rw [List.length_map, ← HN.out] at h6
        omega
      have HRD := Lib.hid (And.intro hrd (And.intro htr hlk))
      obtain ⟨hcap1, hcap2⟩ := hcap
      have hsub : ∃ m, m + n = N ∧ 0 < m := ⟨N - n, by omega, by omega⟩
      obtain ⟨m, hm1, hm2⟩ := hsub
      have HM := Lib.hid hm1
      rw [← hw6] at r0 r1
      have HS6 := Lib.hid (show StVS w6 B s mb tc (P ++ (key, (Value.slice (some ⟨bA, oA, none⟩) l.length cv, l)) :: Q') (cnt - (Dn : Int) - (n : Int)) lw (k + A.length) ∧ PrLVS W w4 B s mb S lw w6 ∧ KT (fun _ => False) w4.heap.size W9 w6 from by rw [hw6]; exact H6.out)
      have HW6 := Lib.hid hw6
      have hcn : ¬ cv = n := by omega
      have hNm : N - n = m := by omega
      have hBw6 : B ≤ w6.heap.size := by have := HS6.out.2.1.fr.size; omega
      have hdl : m = (l.drop n).length := by rw [List.length_drop, ← HN.out]; omega
      have hvS : valSVS key (P ++ (key, (Value.slice (some ⟨bA, oA, none⟩) l.length cv, l)) :: Q') = .slice (some ⟨bA, oA, none⟩) l.length cv := by unfold valSVS; rw [getB_midVS HS6.out.1.rs]; rfl
      have HCell : Hid (∀ X, Below w6.heap.size w6 X → X.cell? ⟨W.heap.size, 0, none⟩ = some (.pointer (some ⟨s, 0, none⟩)) ∧ X.cell? ⟨s, 0, none⟩ = some (.pointer (some ⟨mb, 0, none⟩))) := Lib.hid (fun X hX => by
        have q1 : W.heap.size < w6.heap.size := (Array.getElem?_eq_some_iff.1 (show w6.heap[W.heap.size]? = _ from HS6.out.2.1.bs)).1
        have q2 : s < w6.heap.size := HS6.out.1.slt
        exact ⟨(hX.cell (p := ⟨W.heap.size, 0, none⟩) q1).trans HS6.out.2.1.bs.cell, (hX.cell (p := ⟨s, 0, none⟩) q2).trans HS6.out.1.cells.1⟩)
      have HCl : Hid (∀ X, Below w6.heap.size w6 X → Calls Try.prog 47 #[.slice (some ⟨bA, oA + n * 3, none⟩) m (cv - n)] X (CloPVS (l.drop n) m X)) := Lib.hid (fun X hX => by
        have h6 := (HRD.out.1.up hX).drop n (by rw [← HN.out]; omega)
        rw [← HN.out, hNm] at h6
        exact cloneVS_any _ m (cv - n) (l.drop n) X h6 hdl (by omega) (by omega))
      obtain ⟨Z, hZ⟩ : ∃ Z, Z = newT (str key) tc := ⟨_, rfl⟩
      have HPt : Hid (∀ X g c, Hid (X.ownsRow B 65 3 (.slice (some ⟨g, 0, none⟩) m c) (l.drop n).length ((l.drop n).map cellsVS).flatten ∧ Below w6.heap.size w6 X ∧ w6.heap.size ≤ g) →
          Calls Try.prog 46 #[.pointer (some ⟨mb, 0, none⟩), str key, .slice (some ⟨g, 0, none⟩) m c] X fun e W8 => e = .returned (.bool Z) ∧ PrRVS W w4 W9 B s mb S P Q' key m (l.drop n) (cnt - (Dn : Int) - (n : Int)) lw (k + A.length + 1) W8) := Lib.hid (fun X g c H => by
        have hrs : RisT (timesVS (l.drop n)) := by
          unfold timesVS RisT
          rw [List.map_drop]
          exact List.Pairwise.sublist (List.drop_sublist _ _) HRD.out.2.1
        refine (putSVS_any HS6.out.1 (by omega) key (l.drop n) g m c H.out.1 (Frm.of_below H.out.2.1) hrs (by have := HRD.out.2.2; rw [List.length_drop]; omega) (.inr H.out.2.2)).mono ?_
        rintro e W8 ⟨rfl, hs8, hf8⟩
        rw [insB_mid HS6.out.1.rs] at hs8
        have hFb : ∀ i, PutFVS mb (valSVS key (P ++ (key, (Value.slice (some ⟨bA, oA, none⟩) l.length cv, l)) :: Q')) i → BlkVS s mb S i := by
          rw [hvS]
          rintro i (rfl | hi)
          · exact .inr (.inl rfl)
          · exact .inr (.inr ⟨_, HE.out.2.2.2.2.2.2, hi⟩)
        refine ⟨by rw [hZ], g, c, _, hs8, HS6.out.2.1.up hf8 hFb HBK.out (fun i hi => HS6.out.1.five i (valSVS_blk hi)), HS6.out.2.2.trans (kt_of_frmVS hf8 (fun i hi => by have := HBK.out i (hFb i hi); have := HW4s.out; omega)), ?_⟩
        have := HS6.out.2.1.fr.size
        have := H.out.2.2
        omega)
      clear hZ hvS hdl
      clear hs6 hmem hrow htr hlk hrd H6 hw6 hm1
      gi_wp2_with fail
      rw [← HW6.out]
      refine cut_region (fun _ W' => PrRVS W w4 W9 B s mb S P Q' key m (l.drop n) (cnt - (Dn : Int) - (n : Int)) lw (k + A.length + 1) W') ?_ ?_
      · refine wpIn_region_any hm ?_
        change wpAnyIn _ _ _ _ _ _ _ _ _ (World.drew _)
        refine any_inRound rfl (by kernel_rfl) _ _ _ _ ?_
        refine wpAnyIn_take (i := 4) (v := ?v1) rfl rfl (by kernel_rfl) (by kernel_rfl) (by kernel_rfl) (fun _ _ _ h => (nomatch h.1)) ⟨Or.inl ⟨by rfl, ?hy1⟩, fun _ => rfl⟩ ?_
        case hy1 => (intro w; go_simp; try with_reducible rfl)
        go_simp
        refine wpAnyIn_take (i := 5) (v := ?v2) rfl rfl (by kernel_rfl) (by kernel_rfl) (by kernel_rfl) (fun _ _ _ h => (nomatch h.1)) ⟨Or.inl ⟨by rfl, ?hy2⟩, fun _ => rfl⟩ ?_
        case hy2 => (intro w; go_simp; try with_reducible rfl)
        go_simp
        refine wpAnyIn_take (i := 6) (v := ?v3) rfl rfl (by kernel_rfl) (by kernel_rfl) (by kernel_rfl) (fun _ _ _ h => (nomatch h.1)) ⟨Or.inl ⟨by rfl, ?hy3⟩, fun _ => rfl⟩ ?_
        case hy3 => (intro w; go_simp; try with_reducible rfl)
        go_simp
        refine wpAnyIn_take (i := 7) (v := ?v4) rfl rfl (by kernel_rfl) (by kernel_rfl) (by kernel_rfl) (fun _ _ _ h => (nomatch h.1)) ⟨Or.inl ⟨by rfl, ?hy4⟩, fun _ => rfl⟩ ?_
        case hy4 => (intro w; go_simp; try with_reducible rfl)
        go_simp
        have hX0 : Below w6.heap.size w6 w6.drew := Below.drewsN (Below.refl _ _) 1
        generalize w6.drew = X0 at hX0 ⊢
        obtain ⟨e0, e1⟩ := HCell.out X0 hX0
        refine wpAnyIn_ready (rs := [0, 8]) (by kernel_rfl) (by simp) (AllReadyIn.cons rfl (fun K hK => ?_) (AllReadyIn.cons rfl (fun K hK => ?_) AllReadyIn.nil))
        · go_simp
          refine hK _ _ ?_
          clear hK K
          refine wpAnyIn_take (i := 1) (v := ?v5) rfl rfl (by kernel_rfl) (by kernel_rfl) (by kernel_rfl) (fun _ _ _ h => (nomatch h.1)) ⟨Or.inl ⟨by rfl, ?hy5⟩, fun _ => rfl⟩ ?_
          case hy5 => (intro w; go_simp; try with_reducible rfl)
          go_simp
          refine wpAnyIn_take (i := 2) (v := ?v6) rfl rfl (by kernel_rfl) (by kernel_rfl) (by kernel_rfl) (fun _ _ _ h => (nomatch h.1)) ⟨Or.inl ⟨by rfl, ?hy6⟩, fun _ => rfl⟩ ?_
          case hy6 => (intro w; go_simp; try with_reducible rfl)
          go_simp
          refine wpAnyIn_ready (rs := [3, 8]) (by kernel_rfl) (by simp) (AllReadyIn.cons rfl (fun K hK => ?_) (AllReadyIn.cons rfl (fun K hK => ?_) AllReadyIn.nil))
          · go_simp
            refine hK _ _ ?_
            clear hK K
            refine wpAnyIn_ready (rs := [8]) (by kernel_rfl) (by simp) (AllReadyIn.cons rfl (fun K hK => ?_) AllReadyIn.nil)
            go_simp
            first | refine ⟨trivial, hdd _, (callsIn_wide.2 (HCl.out _ hX0)).mono ?_⟩ | refine ⟨hdd _, (callsIn_wide.2 (HCl.out _ hX0)).mono ?_⟩ | refine (callsIn_wide.2 (HCl.out _ hX0)).mono ?_ | refine ⟨trivial, (callsIn_wide.2 (HCl.out _ hX0)).mono ?_⟩
            rintro e X1 ⟨g1, c1, rfl, ho1, hb1⟩
            have HA1 : Hid (X1.ownsRow B 65 3 (.slice (some ⟨g1, 0, none⟩) m c1) (l.drop n).length ((l.drop n).map cellsVS).flatten ∧ Below w6.heap.size w6 X1 ∧ w6.heap.size ≤ g1) := Lib.hid (cloVS_at hX0 ho1 hb1 hBw6)
            clear ho1 hb1 e0 e1 hX0
            obtain ⟨e0, e1⟩ := HCell.out X1 HA1.out.2.1
            refine hK _ _ ?_
            clear hK K
            refine wpAnyIn_ready (rs := [9]) (by kernel_rfl) (by simp) (AllReadyIn.cons rfl (fun K hK => ?_) AllReadyIn.nil)
            go_simp
            first | refine ⟨trivial, hdd _, (callsIn_wide.2 (HPt.out _ _ _ HA1)).mono ?_⟩ | refine ⟨hdd _, (callsIn_wide.2 (HPt.out _ _ _ HA1)).mono ?_⟩ | refine (callsIn_wide.2 (HPt.out _ _ _ HA1)).mono ?_ | refine ⟨trivial, (callsIn_wide.2 (HPt.out _ _ _ HA1)).mono ?_⟩
            rintro e X8 ⟨rfl, hR8⟩
            have HR8 := Lib.hid hR8
            refine hK _ _ ?_
            clear hK K
            refine wpAnyIn_done (by kernel_rfl) ?_ _
            exact ⟨rfl, HR8.out⟩
          · go_simp
            first | refine ⟨trivial, hdd _, (callsIn_wide.2 (HCl.out _ hX0)).mono ?_⟩ | refine ⟨hdd _, (callsIn_wide.2 (HCl.out _ hX0)).mono ?_⟩ | refine (callsIn_wide.2 (HCl.out _ hX0)).mono ?_ | refine ⟨trivial, (callsIn_wide.2 (HCl.out _ hX0)).mono ?_⟩
            rintro e X1 ⟨g1, c1, rfl, ho1, hb1⟩
            have HA1 : Hid (X1.ownsRow B 65 3 (.slice (some ⟨g1, 0, none⟩) m c1) (l.drop n).length ((l.drop n).map cellsVS).flatten ∧ Below w6.heap.size w6 X1 ∧ w6.heap.size ≤ g1) := Lib.hid (cloVS_at hX0 ho1 hb1 hBw6)
            clear ho1 hb1 e0 e1 hX0
            obtain ⟨e0, e1⟩ := HCell.out X1 HA1.out.2.1
            refine hK _ _ ?_
            clear hK K
            refine wpAnyIn_ready (rs := [3]) (by kernel_rfl) (by simp) (AllReadyIn.cons rfl (fun K hK => ?_) AllReadyIn.nil)
            go_simp
            refine hK _ _ ?_
            clear hK K
            refine wpAnyIn_ready (rs := [9]) (by kernel_rfl) (by simp) (AllReadyIn.cons rfl (fun K hK => ?_) AllReadyIn.nil)
            go_simp
            first | refine ⟨trivial, hdd _, (callsIn_wide.2 (HPt.out _ _ _ HA1)).mono ?_⟩ | refine ⟨hdd _, (callsIn_wide.2 (HPt.out _ _ _ HA1)).mono ?_⟩ | refine (callsIn_wide.2 (HPt.out _ _ _ HA1)).mono ?_ | refine ⟨trivial, (callsIn_wide.2 (HPt.out _ _ _ HA1)).mono ?_⟩
            rintro e X8 ⟨rfl, hR8⟩
            have HR8 := Lib.hid hR8
            refine hK _ _ ?_
            clear hK K
            refine wpAnyIn_done (by kernel_rfl) ?_ _
            exact ⟨rfl, HR8.out⟩
        · go_simp
          first | refine ⟨trivial, hdd _, (callsIn_wide.2 (HCl.out _ hX0)).mono ?_⟩ | refine ⟨hdd _, (callsIn_wide.2 (HCl.out _ hX0)).mono ?_⟩ | refine (callsIn_wide.2 (HCl.out _ hX0)).mono ?_ | refine ⟨trivial, (callsIn_wide.2 (HCl.out _ hX0)).mono ?_⟩
          rintro e X1 ⟨g1, c1, rfl, ho1, hb1⟩
          have HA1 : Hid (X1.ownsRow B 65 3 (.slice (some ⟨g1, 0, none⟩) m c1) (l.drop n).length ((l.drop n).map cellsVS).flatten ∧ Below w6.heap.size w6 X1 ∧ w6.heap.size ≤ g1) := Lib.hid (cloVS_at hX0 ho1 hb1 hBw6)
          clear ho1 hb1 e0 e1 hX0
          obtain ⟨e0, e1⟩ := HCell.out X1 HA1.out.2.1
          refine hK _ _ ?_
          clear hK K
          refine wpAnyIn_ready (rs := [0]) (by kernel_rfl) (by simp) (AllReadyIn.cons rfl (fun K hK => ?_) AllReadyIn.nil)
          go_simp
          refine hK _ _ ?_
          clear hK K
          refine wpAnyIn_take (i := 1) (v := ?v7) rfl rfl (by kernel_rfl) (by kernel_rfl) (by kernel_rfl) (fun _ _ _ h => (nomatch h.1)) ⟨Or.inl ⟨by rfl, ?hy7⟩, fun _ => rfl⟩ ?_
          case hy7 => (intro w; go_simp; try with_reducible rfl)
          go_simp
          refine wpAnyIn_take (i := 2) (v := ?v8) rfl rfl (by kernel_rfl) (by kernel_rfl) (by kernel_rfl) (fun _ _ _ h => (nomatch h.1)) ⟨Or.inl ⟨by rfl, ?hy8⟩, fun _ => rfl⟩ ?_
          case hy8 => (intro w; go_simp; try with_reducible rfl)
          go_simp
          refine wpAnyIn_ready (rs := [3]) (by kernel_rfl) (by simp) (AllReadyIn.cons rfl (fun K hK => ?_) AllReadyIn.nil)
          go_simp
          refine hK _ _ ?_
          clear hK K
          refine wpAnyIn_ready (rs := [9]) (by kernel_rfl) (by simp) (AllReadyIn.cons rfl (fun K hK => ?_) AllReadyIn.nil)
          go_simp
          first | refine ⟨trivial, hdd _, (callsIn_wide.2 (HPt.out _ _ _ HA1)).mono ?_⟩ | refine ⟨hdd _, (callsIn_wide.2 (HPt.out _ _ _ HA1)).mono ?_⟩ | refine (callsIn_wide.2 (HPt.out _ _ _ HA1)).mono ?_ | refine ⟨trivial, (callsIn_wide.2 (HPt.out _ _ _ HA1)).mono ?_⟩
          rintro e X8 ⟨rfl, hR8⟩
          have HR8 := Lib.hid hR8
          refine hK _ _ ?_
          clear hK K
          refine wpAnyIn_done (by kernel_rfl) ?_ _
          exact ⟨rfl, HR8.out⟩
      · intro a7 W7 hR7
        obtain ⟨g', c', t', hs7, ho7, hkt7, hg7⟩ := hR7
        obtain ⟨e1, e2, e3, hb9, hn, hDn, hmS⟩ := HE.out
        refine ⟨hkt7, ⟨A ++ [(key, (.slice (some ⟨bA, oA, none⟩) N cv, l))], Q', P ++ [(key, (.slice (some ⟨g', 0, none⟩) m c', l.drop n))], t', by rw [e1]; simp [HN.out], by rw [e2, HN.out]; simp [pairB], ?_, ?_, ?_⟩, ho7⟩
        · rw [pruDVS_snoc, ← hDn, ← hn]
          have : cnt - ((Dn + n : Nat) : Int) = cnt - (Dn : Int) - (n : Int) := by omega
          rw [this, List.append_assoc]
          have := hs7.wide (k' := k + (A ++ [(key, ((Value.slice (some ⟨bA, oA, none⟩) N cv, l) : ChVS))]).length) (by simp; omega)
          exact this
        · rw [pruCVS_snoc, if_neg (by unfold keptVVS; rw [List.length_drop, ← hn, ← HN.out]; omega)]
          show chsVS (P ++ _) = _
          unfold chsVS keptVVS at *
          rw [List.map_append, e3, ← hn]
          rfl
        · intro i hi
          rw [List.append_assoc] at hi
          rcases hi with hi | hi | ⟨x, hx, hi⟩
          · exact .inl (.inl hi)
          · exact .inl (.inr (.inl hi))
          · rcases List.mem_append.1 hx with h | h
            · exact hb9 i (.inr (.inr ⟨x, List.mem_append_left _ h, hi⟩))
            · rcases List.mem_cons.1 h with rfl | h
              · right
                have : g' = i := by simpa [Value.ownBlock] using hi
                omega
              · exact hb9 i (.inr (.inr ⟨x, List.mem_append_right _ (List.mem_cons_of_mem _ h), hi⟩))
end Go.Proofs.Ytdlacjdddjebgaa
