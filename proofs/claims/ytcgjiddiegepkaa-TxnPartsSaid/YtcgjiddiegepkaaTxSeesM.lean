import Derived.Test.YtcgjiddiegepkaaOps12
import Derived.Test.YtcgjiddiegepkaaTxStores
/- A store and two transactions. -/
namespace Go.Proofs.Ytcgjiddiegepkaa
open Go.RowKit
def K4 (tb wb ub vb : Nat) (i : Nat) : Prop := i = tb ∨ i = wb ∨ i = ub ∨ i = vb
structure T2 (X W : World) (s mb : Nat) (C : ChC) (low : Int) (n tb wb : Nat) (L : OwnL) (k ub vb : Nat) (M : OwnL) (j : Nat) (at1 : Int) : Prop where
  sg : SG X (K4 tb wb ub vb) W s mb C low n
  t : TxS W tb s wb at1 L k
  u : TxS W ub s vb at1 M j
  lo : X.heap.size ≤ tb ∧ X.heap.size ≤ wb ∧ X.heap.size ≤ ub ∧ X.heap.size ≤ vb
  ne : wb ≠ ub ∧ wb ≠ vb ∧ vb ≠ tb
variable {X W : World} {s mb : Nat} {C : ChC} {low : Int} {n tb wb ub vb : Nat} {L M : OwnL} {k j : Nat} {at1 : Int}
theorem T2.below {W' : World} (h : T2 X W s mb C low n tb wb L k ub vb M j at1) (hb : Below W.heap.size W W') : T2 X W' s mb C low n tb wb L k ub vb M j at1 := ⟨h.sg.below hb, h.t.below hb, h.u.below hb, h.lo, h.ne⟩
theorem TxS.seven {wb tb : Nat} (h : TxS W tb s wb at1 L k) (m : Nat) (hm : m ≠ 2) : ∀ i, i = wb → ∀ cs T z, W.heap[i]? = some (.cells cs T z) → cs.size ≠ m := by
  rintro i rfl cs T z hc
  obtain ⟨u, v, T', e⟩ := h.two
  rw [e] at hc
  simp only [Option.some.injEq, Obj.cells.injEq] at hc
  rw [← hc.1]
  simpa using fun e => hm e.symm
/-- The second begins behind the first. -/
theorem t2Begin (h : TT X W s mb C low n tb wb at1 L k) : Calls Try.prog 11 #[.pointer (some ⟨s, 0, none⟩), .int .i64 at1] W fun e W' => ∃ ub vb, e = .returned (.pointer (some ⟨ub, 0, none⟩)) ∧ T2 X W' s mb C low n tb wb L k ub vb [] 0 at1 := by
  refine (txBegin W s at1).mono ?_
  rintro e W' ⟨ub, vb, rfl, h1, h2, h3, h4⟩
  have hX := h.sg.bel.size
  have ht := h.tx.lt
  refine ⟨ub, vb, rfl, h.sg.fresh h2 (fun i hi => ?_), h.tx.below h2, h1, ⟨h.lo.1, h.lo.2, by omega, by omega⟩, by omega, by omega, by omega⟩
  rcases hi with rfl | rfl | rfl | rfl
  · exact ⟨Nat.lt_of_lt_of_le ht.1 h2.size, .inr (.inl rfl)⟩
  · exact ⟨Nat.lt_of_lt_of_le ht.2 h2.size, .inr (.inr rfl)⟩
  · exact ⟨h1.lt.1, .inl h3⟩
  · exact ⟨h1.lt.2, .inl h4⟩
theorem t2Put (h : T2 X W s mb C low n tb wb L k ub vb M j at1) (hk : k ≤ 100000) (x y : List UInt8) (hx : x.length ≤ 9223372036854775807) (hy : y.length ≤ 9223372036854775807) :
    Calls Try.prog 14 #[.pointer (some ⟨tb, 0, none⟩), str x, str y] W fun e W' => e = .returned (.int .i64 (wrC L (x, y, false))) ∧ T2 X W' s mb C low n tb wb (wrL L (x, y, false)) (k + 1) ub vb M j at1 ∧ Frm (fun i => i = wb) W W' := by
  refine (txPut h.t hk x y hx hy).mono ?_
  rintro e W' ⟨rfl, h1, h2⟩
  exact ⟨rfl, ⟨h.sg.turn h2 (h.t.seven 5 (by decide)) (fun i hi => .inr (.inl hi)) (fun i hi => by cases hi; exact h.lo.2.1), h1, h.u.frm h2 (h.t.seven 7 (by decide)) (fun e => h.ne.1 e.symm) (fun e => h.ne.2.1 e.symm), h.lo, h.ne⟩, h2⟩
theorem t2Delete (h : T2 X W s mb C low n tb wb L k ub vb M j at1) (hj : j ≤ 100000) (x : List UInt8) (hx : x.length ≤ 9223372036854775807) :
    Calls Try.prog 16 #[.pointer (some ⟨ub, 0, none⟩), str x] W fun e W' => e = .returned (.int .i64 (wrC M (x, [], true))) ∧ T2 X W' s mb C low n tb wb L k ub vb (wrL M (x, [], true)) (j + 1) at1 := by
  refine (txDelete h.u hj x hx).mono ?_
  rintro e W' ⟨rfl, h1, h2⟩
  exact ⟨rfl, h.sg.turn h2 (h.u.seven 5 (by decide)) (fun i hi => .inr (.inr (.inr hi))) (fun i hi => by cases hi; exact h.lo.2.2.2), h.t.frm h2 (h.u.seven 7 (by decide)) (fun e => h.ne.2.2 e.symm) (fun e => h.ne.2.1 e), h1, h.lo, h.ne⟩
/-- A Put of the store's own. -/
theorem t2Store (h : T2 X W s mb C low n tb wb L k ub vb M j at1) (hn : n ≤ 10000) (key : List UInt8) (tm : Int) (x : List UInt8) :
    Calls Try.prog 25 #[.pointer (some ⟨s, 0, none⟩), .int .i64 tm, str key, str x] W fun e W' => e = .returned (.int .i64 (addCVS (verC key C) low (tm, x, false))) ∧ T2 X W' s mb (putC C low key (tm, x, false)) low (n + 1) tb wb L k ub vb M j at1 := by
  have hlt : ∀ i, K4 tb wb ub vb i → i < W.heap.size := by
    rintro i (rfl | rfl | rfl | rfl)
    · exact h.t.lt.1
    · exact h.t.lt.2
    · exact h.u.lt.1
    · exact h.u.lt.2
  have hg : SG X (fun i => K4 tb wb ub vb i ∨ ∃ cs T z, W.heap[i]? = some (.cells cs T z) ∧ cs.size = 7) W s mb C low n := h.sg.more (fun i hi => by
      rcases hi with hi | ⟨cs, T, z, hc, _⟩
      · exact hlt i hi
      · exact (Array.getElem?_eq_some_iff.1 hc).1) (fun i hi => .inr hi)
  refine (putG hg hn key tm x).mono ?_
  rintro e W' ⟨rfl, g1, g2⟩
  have h7 : ∀ i, ¬ (K4 tb wb ub vb i ∨ ∃ cs T z, W.heap[i]? = some (.cells cs T z) ∧ cs.size = 7) → ∀ cs T z, W.heap[i]? = some (.cells cs T z) → cs.size ≠ 7 := fun i hi cs T z hc e => hi (.inr ⟨cs, T, z, hc, e⟩)
  refine ⟨rfl, ?_, h.t.frm g2 h7 (fun hn => hn (.inl (.inl rfl))) (fun hn => hn (.inl (.inr (.inl rfl)))), h.u.frm g2 h7 (fun hn => hn (.inl (.inr (.inr (.inl rfl))))) (fun hn => hn (.inl (.inr (.inr (.inr rfl))))), h.lo, h.ne⟩
  obtain ⟨t, S, a1, a2, a3, a4, a5⟩ := g1
  exact ⟨t, S, a1, a2, a3, a4, fun i hi => a5 i (.inl hi)⟩
theorem T2.tt (h : T2 X W s mb C low n tb wb L k ub vb M j at1) : TT X W s mb C low n tb wb at1 L k := by
  refine ⟨?_, h.t, h.lo.1, h.lo.2.1⟩
  obtain ⟨t, S, a1, a2, a3, a4, a5⟩ := h.sg
  exact ⟨t, S, a1, a2, a3, a4, fun i hi => a5 i (by rcases hi with hi | hi; exact .inl hi; exact .inr (.inl hi))⟩
theorem T2.ut (h : T2 X W s mb C low n tb wb L k ub vb M j at1) : TT X W s mb C low n ub vb at1 M j := by
  refine ⟨?_, h.u, h.lo.2.2.1, h.lo.2.2.2⟩
  obtain ⟨t, S, a1, a2, a3, a4, a5⟩ := h.sg
  exact ⟨t, S, a1, a2, a3, a4, fun i hi => a5 i (by rcases hi with hi | hi; exact .inr (.inr (.inl hi)); exact .inr (.inr (.inr hi)))⟩
theorem ttScan (_ : TT X W s mb C low n tb wb at1 L k) : Calls Try.prog 29 #[.pointer (some ⟨tb, 0, none⟩), str [], str []] W fun e W' => ∃ b1, e = .returned (.func (.func 49) #[] #[.pointer (some ⟨b1, 0, none⟩), .pointer (some ⟨b1 + 1, 0, none⟩), .pointer (some ⟨b1 + 2, 0, none⟩)]) ∧ TxL W' b1 (b1 + 1) (b1 + 2) tb [] [] ∧ Below W.heap.size W W' := by
  refine (txn_scan W tb [] []).mono ?_
  rintro e W' ⟨rfl, rfl⟩
  exact ⟨W.heap.size, rfl, txL_new W tb [] [], (((Below.refl _ _).alloc (Nat.le_refl _) _).alloc (by simp) _).alloc (by simp; omega) _⟩
end Go.Proofs.Ytcgjiddiegepkaa

/- Two transactions: plain facts. -/
namespace Go.Proofs.Ytcgjiddiegepkaa
open Go.RowKit
theorem getB_ins_other {Y : Type} {key key' : List UInt8} (y : Y) (hk : key' ≠ key) : ∀ (l : List (List UInt8 × Y)), getB key' (insB key y l) = getB key' l
  | [] => by
    unfold insB getB
    cases h1 : Op.bytesLess key' key with
    | true => rfl
    | false =>
      cases h2 : Op.bytesLess key key' with
      | true => rfl
      | false => exact absurd (bl_tot _ _ h1 h2) hk
  | (k0, y0) :: t => by
    have ih := getB_ins_other y hk t
    cases h1 : Op.bytesLess key k0 with
    | true =>
      simp only [insB, h1, if_true]
      cases h3 : Op.bytesLess key' key with
      | true =>
        have := bl_tr _ _ _ h3 h1
        simp [getB, h3, this]
      | false =>
        cases h4 : Op.bytesLess key key' with
        | true => simp [getB, h3, h4]
        | false => exact absurd (bl_tot _ _ h3 h4) hk
    | false =>
      cases h2 : Op.bytesLess k0 key with
      | true => simp only [insB, h1, h2, Bool.false_eq_true, if_false, if_true, getB, ih]
      | false =>
        obtain rfl := bl_tot _ _ h1 h2
        simp only [insB, h1, Bool.false_eq_true, if_false, getB]
        cases h3 : Op.bytesLess key' key with
        | true => rfl
        | false =>
          cases h4 : Op.bytesLess key key' with
          | true => rfl
          | false => exact absurd (bl_tot _ _ h3 h4) hk
/-- Nothing is gone. -/
def Pts (L : OwnL) : Prop := ∀ x ∈ L, x.2.2.2 = false
theorem pts_put {L : OwnL} (hr : RisB L) (h : Pts L) (x y : List UInt8) : Pts (wrL L (x, y, false)) := by
  unfold wrL
  split
  · intro z hz
    rcases insB_mem hr z hz with rfl | ⟨hz, _⟩
    · rfl
    · exact h z hz
  · exact h
theorem txG_own {L : OwnL} (hr : RisB L) (hp : Pts L) {x : List UInt8 × WrT} (hx : x ∈ L) (r : Option (List UInt8)) : txG L x.1 r = .returned (.tuple #[str x.2.2.1, .bool true]) := by
  unfold txG
  rw [getB_in hr (show (x.1, x.2) ∈ L from hx)]
  dsimp only
  rw [hp x hx]; rfl
theorem lastT_snoc (l : List VerVS) (v : VerVS) : lastTVS (l ++ [v]) = v.1 := by simp [lastTVS]
/-- The time of the Put, and what it leaves. -/
def tmT (la at1 : Int) : Int := min (max la at1) 549755813888 + 1
theorem put_last {C : ChC} {key x : List UInt8} {at1 : Int} (h0 : 0 ≤ at1) (h1 : at1 ≤ 274877906944) : at1 < lastTVS (verC key (putC C 0 key (tmT (lastTVS (verC key C)) at1, x, false))) := by
  unfold putC
  split
  · have e : verC key (insB key (verC key C ++ [(tmT (lastTVS (verC key C)) at1, x, false)]) C) = verC key C ++ [(tmT (lastTVS (verC key C)) at1, x, false)] := by
      unfold verC; rw [getB_put]; rfl
    rw [e, lastT_snoc]
    dsimp only
    unfold tmT; omega
  · next hc =>
    unfold addCVS at hc
    dsimp only at hc
    split at hc
    · next h => unfold tmT at h; omega
    · split at hc
      · next h => unfold tmT at h; omega
      · exact absurd rfl hc
theorem put_other {C : ChC} {key key' x : List UInt8} {tm : Int} (hk : key' ≠ key) : verC key' (putC C 0 key (tm, x, false)) = verC key' C := by
  unfold putC
  split
  · unfold verC; rw [getB_ins_other _ hk]
  · rfl
/-- What clashes behind the Put. -/
theorem clash_put {C : ChC} {key x : List UInt8} {at1 : Int} (h0 : 0 ≤ at1) (h1 : at1 ≤ 274877906944) (L : OwnL) :
    L.any (fun z => decide (at1 < lastTVS (verC z.1 (putC C 0 key (tmT (lastTVS (verC key C)) at1, x, false))))) = (L.any (fun z => decide (at1 < lastTVS (verC z.1 C))) || L.any (fun z => z.1 == key)) := by
  induction L with
  | nil => rfl
  | cons z t ih =>
    simp only [List.any_cons]
    rw [ih]
    by_cases hz : z.1 = key
    · rw [hz]
      have := put_last (C := C) (key := key) (x := x) h0 h1
      simp [this]
    · rw [put_other hz]
      have e : (z.1 == key) = false := beq_eq_false_iff_ne.2 hz
      rw [e]
      simp [Bool.or_assoc]
end Go.Proofs.Ytcgjiddiegepkaa

/- What a transaction sees, plainly; behind a write. -/
namespace Go.Proofs.Ytcgjiddiegepkaa
open Go.RowKit
section
variable {Y : Type}
theorem getB_none_low {k : List UInt8} : ∀ {l : List (List UInt8 × Y)}, (∀ x ∈ l, Op.bytesLess k x.1 = true) → getB k l = none
  | [], _ => rfl
  | x :: t, h => by
    unfold getB
    rw [if_pos (h x (by simp))]
theorem getB_iff {k : List UInt8} {y : Y} {l : List (List UInt8 × Y)} (hr : RisB l) : getB k l = some y ↔ (k, y) ∈ l := ⟨getB_mem, getB_in hr⟩
/-- Lists that rise and hold the same are the same. -/
theorem ris_ext : ∀ {a b : List (List UInt8 × Y)}, RisB a → RisB b → (∀ x, x ∈ a ↔ x ∈ b) → a = b
  | [], [], _, _, _ => rfl
  | [], y :: t, _, _, h => by have := (h y).2 (by simp); simp at this
  | x :: t, [], _, _, h => by have := (h x).1 (by simp); simp at this
  | x :: s, y :: t, ha, hb, h => by
    obtain ⟨ha1, ha2⟩ := List.pairwise_cons.1 ha
    obtain ⟨hb1, hb2⟩ := List.pairwise_cons.1 hb
    have hxy : x = y := by
      rcases List.mem_cons.1 ((h x).1 (by simp)) with e | e
      · exact e
      · rcases List.mem_cons.1 ((h y).2 (by simp)) with e2 | e2
        · exact e2.symm
        · have h1 := hb1 x e
          have h2 := ha1 y e2
          have := bl_tr _ _ _ h1 h2
          rw [bl_irr] at this; cases this
    subst hxy
    rw [ris_ext ha2 hb2 (fun z => ⟨fun hz => ?_, fun hz => ?_⟩)]
    · rcases List.mem_cons.1 ((h z).1 (by simp [hz])) with e | e
      · have := ha1 z hz
        rw [e, bl_irr] at this; cases this
      · exact e
    · rcases List.mem_cons.1 ((h z).2 (by simp [hz])) with e | e
      · have := hb1 z hz
        rw [e, bl_irr] at this; cases this
      · exact e
theorem ris_key {l : List (List UInt8 × Y)} (hr : RisB l) {x y : List UInt8 × Y} (hx : x ∈ l) (hy : y ∈ l) (e : x.1 = y.1) : x = y := by
  have h1 := getB_in hr (show (x.1, x.2) ∈ l from hx)
  have h2 := getB_in hr (show (y.1, y.2) ∈ l from hy)
  rw [e, h2] at h1
  simp only [Option.some.injEq] at h1
  exact Prod.ext e h1.symm
theorem mem_insB {k : List UInt8} {y : Y} {l : List (List UInt8 × Y)} (hr : RisB l) (x : List UInt8 × Y) : x ∈ insB k y l ↔ x = (k, y) ∨ (x ∈ l ∧ x.1 ≠ k) := by
  refine ⟨insB_mem hr x, fun h => ?_⟩
  have h2 : getB x.1 (insB k y l) = some x.2 := by
    rcases h with rfl | ⟨h1, h2⟩
    · exact getB_put
    · rw [getB_ins_other y h2]
      exact getB_in hr (show (x.1, x.2) ∈ l from h1)
  exact getB_mem h2
end
/-- What a write of the transaction's own tells. -/
def tellW (x : List UInt8 × WrT) : List PairT := if x.2.2.2 = true then [] else [(x.1, x.2.2.1)]
def sawP : List PairT → OwnL → List PairT
  | a, [] => a
  | [], x :: t => tellW x ++ sawP [] t
  | p :: a, x :: t => if Op.bytesLess p.1 x.1 = true then p :: sawP a (x :: t) else if Op.bytesLess x.1 p.1 = true then tellW x ++ sawP (p :: a) t else tellW x ++ sawP a t
termination_by a b => a.length + b.length
theorem saw_end (a : List PairT) : sawP a [] = a := by cases a <;> simp [sawP]
theorem dec_tell (x : List UInt8 × WrT) (l : List (Value × Value)) : seenW (pairB fW x :: l) = tellW x ++ seenW l := by
  unfold seenW
  obtain ⟨k, k', v, g⟩ := x
  rw [List.filterMap_cons]
  have e : decW (pairB fW (k, k', v, g)) = if g then none else some (k, v) := decW_eq k k' v g
  rw [e]
  cases g <;> rfl
theorem dec_st (p : PairT) (l : List (Value × Value)) : seenW (stW p :: l) = p :: seenW l := by
  unfold seenW
  rw [List.filterMap_cons]
  have e : decW (stW p) = some p := decW_eq p.1 p.1 p.2 false
  rw [e]
theorem seen_st : ∀ l : List PairT, seenW (l.map stW) = l
  | [] => rfl
  | p :: t => by rw [List.map_cons, dec_st, seen_st t]
theorem saw_plain : ∀ (A : List PairT) (L : OwnL), seenW (mrgL (A.map stW) (L.map (pairB fW))) = sawP A L
  | A, [] => by rw [List.map_nil, mrg_end, saw_end, seen_st]
  | [], x :: t => by
    have ih := saw_plain [] t
    rw [List.map_nil] at ih ⊢
    rw [List.map_cons, mrg_none, dec_tell, ih, sawP]
  | p :: A, x :: t => by
    have h1 : lessV (stW p).1 (pairB fW x).1 = Op.bytesLess p.1 x.1 := lessB _ _
    have h2 : lessV (pairB fW x).1 (stW p).1 = Op.bytesLess x.1 p.1 := lessB _ _
    rw [List.map_cons, List.map_cons, sawP]
    cases e1 : Op.bytesLess p.1 x.1 with
    | true =>
      have ih := saw_plain A (x :: t)
      rw [List.map_cons] at ih
      rw [mrg_less (h1.trans e1), dec_st, ih]; simp
    | false =>
      cases e2 : Op.bytesLess x.1 p.1 with
      | true =>
        have ih := saw_plain (p :: A) t
        rw [List.map_cons] at ih
        rw [mrg_more (h1.trans e1) (h2.trans e2), dec_tell, ih]; simp
      | false =>
        rw [mrg_same (h1.trans e1) (h2.trans e2), dec_tell, saw_plain A t]; simp
termination_by A L => A.length + L.length
/-- Of whom a pair is. -/
def OwnP (A : List PairT) (L : OwnL) (z : PairT) : Prop := (∃ x ∈ L, x.1 = z.1 ∧ x.2.2.2 = false ∧ x.2.2.1 = z.2) ∨ (z ∈ A ∧ ∀ x ∈ L, x.1 ≠ z.1)
theorem mem_tell (x : List UInt8 × WrT) (z : PairT) : z ∈ tellW x ↔ x.1 = z.1 ∧ x.2.2.2 = false ∧ x.2.2.1 = z.2 := by
  unfold tellW
  cases h : x.2.2.2 with
  | true => simp
  | false =>
    simp only [Bool.false_eq_true, if_false, List.mem_singleton, true_and]
    constructor
    · rintro rfl; exact ⟨rfl, rfl⟩
    · rintro ⟨h1, h2⟩; exact Prod.ext h1.symm h2.symm
theorem lt_ne {a b : List UInt8} (h : Op.bytesLess a b = true) : a ≠ b := by rintro rfl; rw [bl_irr] at h; cases h
theorem mem_saw : ∀ (A : List PairT) (L : OwnL), RisB A → RisB L → ∀ z, z ∈ sawP A L ↔ OwnP A L z
  | A, [], _, _, z => by rw [saw_end]; simp [OwnP]
  | [], x :: t, ha, hl, z => by
    obtain ⟨_, hl2⟩ := List.pairwise_cons.1 hl
    have ih := mem_saw [] t ha hl2 z
    rw [sawP, List.mem_append, ih, mem_tell]
    simp [OwnP]
  | p :: A, x :: t, ha, hl, z => by
    obtain ⟨ha1, ha2⟩ := List.pairwise_cons.1 ha
    obtain ⟨hl1, hl2⟩ := List.pairwise_cons.1 hl
    rw [sawP]
    cases e1 : Op.bytesLess p.1 x.1 with
    | true =>
      have ih := mem_saw A (x :: t) ha2 hl z
      rw [if_pos rfl, List.mem_cons, ih]
      have hp : ∀ y ∈ x :: t, y.1 ≠ p.1 := fun y hy => by
        rcases List.mem_cons.1 hy with rfl | hy
        · exact (lt_ne e1).symm
        · exact (lt_ne (bl_tr _ _ _ e1 (hl1 y hy))).symm
      unfold OwnP
      constructor
      · rintro (rfl | h | ⟨h1, h2⟩)
        · exact .inr ⟨by simp, hp⟩
        · exact .inl h
        · exact .inr ⟨by simp [h1], h2⟩
      · rintro (h | ⟨h1, h2⟩)
        · exact .inr (.inl h)
        · rcases List.mem_cons.1 h1 with rfl | h1
          · exact .inl rfl
          · exact .inr (.inr ⟨h1, h2⟩)
    | false =>
      rw [if_neg (by simp)]
      cases e2 : Op.bytesLess x.1 p.1 with
      | true =>
        have ih := mem_saw (p :: A) t ha hl2 z
        rw [if_pos rfl, List.mem_append, ih, mem_tell]
        have hx : ∀ y ∈ p :: A, x.1 ≠ y.1 := fun y hy => by
          rcases List.mem_cons.1 hy with rfl | hy
          · exact lt_ne e2
          · exact lt_ne (bl_tr _ _ _ e2 (ha1 y hy))
        unfold OwnP
        constructor
        · rintro (h | ⟨y, h1, h2⟩ | ⟨h1, h2⟩)
          · exact .inl ⟨x, by simp, h⟩
          · exact .inl ⟨y, by simp [h1], h2⟩
          · exact .inr ⟨h1, fun y hy => by
              rcases List.mem_cons.1 hy with rfl | hy
              · exact hx z h1
              · exact h2 y hy⟩
        · rintro (⟨y, h1, h2⟩ | ⟨h1, h2⟩)
          · rcases List.mem_cons.1 h1 with rfl | h1
            · exact .inl h2
            · exact .inr (.inl ⟨y, h1, h2⟩)
          · exact .inr (.inr ⟨h1, fun y hy => h2 y (by simp [hy])⟩)
      | false =>
        have ex := bl_tot _ _ e1 e2
        have ih := mem_saw A t ha2 hl2 z
        rw [if_neg (by simp), List.mem_append, ih, mem_tell]
        unfold OwnP
        constructor
        · rintro (h | ⟨y, h1, h2⟩ | ⟨h1, h2⟩)
          · exact .inl ⟨x, by simp, h⟩
          · exact .inl ⟨y, by simp [h1], h2⟩
          · exact .inr ⟨by simp [h1], fun y hy => by
              rcases List.mem_cons.1 hy with rfl | hy
              · intro e
                have := ha1 z h1
                rw [ex, e, bl_irr] at this; cases this
              · exact h2 y hy⟩
        · rintro (⟨y, h1, h2⟩ | ⟨h1, h2⟩)
          · rcases List.mem_cons.1 h1 with rfl | h1
            · exact .inl h2
            · exact .inr (.inl ⟨y, h1, h2⟩)
          · rcases List.mem_cons.1 h1 with rfl | h1
            · exact absurd ex.symm (h2 x (by simp))
            · exact .inr (.inr ⟨h1, fun y hy => h2 y (by simp [hy])⟩)
termination_by A L => A.length + L.length
/-- All are above. -/
theorem own_low {A : List PairT} {L : OwnL} {k : List UInt8} (h1 : ∀ x ∈ A, Op.bytesLess k x.1 = true) (h2 : ∀ x ∈ L, Op.bytesLess k x.1 = true) {z : PairT} (h : OwnP A L z) : Op.bytesLess k z.1 = true := by
  rcases h with ⟨x, hx, e, _⟩ | ⟨hz, _⟩
  · rw [← e]; exact h2 x hx
  · exact h1 z hz
theorem ris_tell {x : List UInt8 × WrT} {l : List PairT} (hr : RisB l) (h : ∀ z ∈ l, Op.bytesLess x.1 z.1 = true) : RisB (tellW x ++ l) := by
  unfold tellW
  split
  · exact hr
  · exact List.pairwise_cons.2 ⟨h, hr⟩
theorem ris_saw : ∀ (A : List PairT) (L : OwnL), RisB A → RisB L → RisB (sawP A L)
  | A, [], ha, _ => by rw [saw_end]; exact ha
  | [], x :: t, ha, hl => by
    obtain ⟨hl1, hl2⟩ := List.pairwise_cons.1 hl
    rw [sawP]
    exact ris_tell (ris_saw [] t ha hl2) (fun z hz => own_low (fun _ h => by cases h) hl1 ((mem_saw [] t ha hl2 z).1 hz))
  | p :: A, x :: t, ha, hl => by
    obtain ⟨ha1, ha2⟩ := List.pairwise_cons.1 ha
    obtain ⟨hl1, hl2⟩ := List.pairwise_cons.1 hl
    rw [sawP]
    cases e1 : Op.bytesLess p.1 x.1 with
    | true =>
      rw [if_pos rfl]
      refine List.pairwise_cons.2 ⟨fun z hz => own_low ha1 (fun y hy => ?_) ((mem_saw A (x :: t) ha2 hl z).1 hz), ris_saw A (x :: t) ha2 hl⟩
      rcases List.mem_cons.1 hy with rfl | hy
      · exact e1
      · exact bl_tr _ _ _ e1 (hl1 y hy)
    | false =>
      rw [if_neg (by simp)]
      cases e2 : Op.bytesLess x.1 p.1 with
      | true =>
        rw [if_pos rfl]
        refine ris_tell (ris_saw (p :: A) t ha hl2) (fun z hz => own_low (fun y hy => ?_) hl1 ((mem_saw (p :: A) t ha hl2 z).1 hz))
        rcases List.mem_cons.1 hy with rfl | hy
        · exact e2
        · exact bl_tr _ _ _ e2 (ha1 y hy)
      | false =>
        have ex := bl_tot _ _ e1 e2
        rw [if_neg (by simp)]
        exact ris_tell (ris_saw A t ha2 hl2) (fun z hz => own_low (fun y hy => by rw [← ex]; exact ha1 y hy) hl1 ((mem_saw A t ha2 hl2 z).1 hz))
termination_by A L => A.length + L.length
/-- Pairs with a key's value, or without it. -/
def withP (l : List PairT) (key v : List UInt8) (gone : Bool) (p has : Nat) : List PairT := (l.take p ++ (if gone = true then [] else [(key, v)])) ++ l.drop (p + has)
theorem mem_with {l : List PairT} (hr : RisB l) {key v : List UInt8} {gone : Bool} {p has : Nat} (hp : PlaceB key l p) (h1 : has = if (∃ h : p < l.length, l[p].1 = key) then 1 else 0) : RisB (withP l key v gone p has) ∧ ∀ z, z ∈ withP l key v gone p has ↔ (z = (key, v) ∧ gone = false) ∨ (z ∈ l ∧ z.1 ≠ key) := by
  cases gone with
  | false =>
    have e : withP l key v false p has = insB key v l := by
      rw [insB_at key v hp, h1]
      unfold withP
      by_cases hk : ∃ h : p < l.length, l[p].1 = key
      · simp [if_pos hk]
      · simp [if_neg hk]
    rw [e]
    exact ⟨insB_ris hr, fun z => by rw [mem_insB hr]; simp⟩
  | true =>
    unfold withP
    simp only [if_true, List.append_nil]
    by_cases hk : ∃ h : p < l.length, l[p].1 = key
    · obtain ⟨hq, hk⟩ := hk
      rw [h1, if_pos ⟨hq, hk⟩]
      have e : l.take p ++ l.drop (p + 1) = l.eraseIdx p := by rw [List.eraseIdx_eq_take_drop_succ]
      rw [e]
      refine ⟨List.Pairwise.sublist (List.eraseIdx_sublist l p) hr, fun z => ?_⟩
      simp only [Bool.true_eq_false, and_false, false_or]
      rw [List.mem_eraseIdx_iff_getElem]
      constructor
      · rintro ⟨i, hi, hne, rfl⟩
        refine ⟨List.getElem_mem hi, fun e2 => ?_⟩
        have := List.pairwise_iff_getElem.1 hr
        rcases Nat.lt_or_gt_of_ne hne with h | h
        · have := this i p hi hq h
          rw [e2, hk, bl_irr] at this; cases this
        · have := this p i hq hi h
          rw [e2, hk, bl_irr] at this; cases this
      · rintro ⟨hz, hne⟩
        obtain ⟨i, hi, rfl⟩ := List.mem_iff_getElem.1 hz
        exact ⟨i, hi, fun e2 => by subst e2; exact hne hk, rfl⟩
    · rw [h1, if_neg hk, Nat.add_zero, List.take_append_drop]
      refine ⟨hr, fun z => ?_⟩
      simp only [Bool.true_eq_false, and_false, false_or]
      refine ⟨fun hz => ⟨hz, fun e => hk ?_⟩, fun h => h.1⟩
      have := getB_in hr (show (z.1, z.2) ∈ l from hz)
      rw [e, getB_at key hr hp] at this
      split at this
      · next h =>
        split at this
        · next h2 => exact ⟨h, h2⟩
        · cases this
      · cases this
/-- What is seen behind a write. -/
theorem saw_with {A : List PairT} {L : OwnL} (ha : RisB A) (hl : RisB L) {key v : List UInt8} {gone : Bool} {p has : Nat} (hp : PlaceB key (sawP A L) p) (h1 : has = if (∃ h : p < (sawP A L).length, (sawP A L)[p].1 = key) then 1 else 0) : sawP A (insB key (key, v, gone) L) = withP (sawP A L) key v gone p has := by
  obtain ⟨hr, hm⟩ := mem_with (ris_saw A L ha hl) (v := v) (gone := gone) hp h1
  refine ris_ext (ris_saw _ _ ha (insB_ris hl)) hr (fun z => ?_)
  rw [hm, mem_saw _ _ ha (insB_ris hl), mem_saw _ _ ha hl]
  unfold OwnP
  constructor
  · rintro (⟨x, hx, e1, e2, e3⟩ | ⟨hz, hn⟩)
    · rcases (mem_insB hl x).1 hx with rfl | ⟨hx, hne⟩
      · exact .inl ⟨Prod.ext e1.symm e3.symm, e2⟩
      · exact .inr ⟨.inl ⟨x, hx, e1, e2, e3⟩, fun e => hne (by rw [e1, e])⟩
    · have hzk : z.1 ≠ key := fun e => hn (key, key, v, gone) ((mem_insB hl _).2 (.inl rfl)) e.symm
      exact .inr ⟨.inr ⟨hz, fun x hx e => hn x ((mem_insB hl x).2 (.inr ⟨hx, fun e2 => hzk (by rw [← e, e2])⟩)) e⟩, hzk⟩
  · rintro (⟨rfl, hg⟩ | ⟨(⟨x, hx, e1, e2, e3⟩ | ⟨hz, hn⟩), hne⟩)
    · exact .inl ⟨(key, key, v, gone), (mem_insB hl _).2 (.inl rfl), rfl, hg, rfl⟩
    · exact .inl ⟨x, (mem_insB hl x).2 (.inr ⟨hx, fun e => hne (by rw [← e1, e])⟩), e1, e2, e3⟩
    · refine .inr ⟨hz, fun x hx e => ?_⟩
      rcases (mem_insB hl x).1 hx with rfl | ⟨hx, _⟩
      · exact hne e.symm
      · exact hn x hx e
/-- What Get tells of a key that is seen. -/
theorem get_saw {C : ChC} {L : OwnL} {at1 : Int} (hc : RisB C) (hl : RisB L) {z : PairT} (hz : z ∈ sawP (scanC at1 C) L) : txG L z.1 (seenVS (verC z.1 C) at1) = .returned (.tuple #[str z.2, .bool true]) := by
  unfold txG
  rcases (mem_saw _ _ (scan_ris hc) hl z).1 hz with ⟨x, hx, e1, e2, e3⟩ | ⟨hz, hn⟩
  · have hg := getB_in hl (show (x.1, x.2) ∈ L from hx)
    rw [e1] at hg
    rw [hg]
    dsimp only
    rw [e2, e3]; rfl
  · have hg : getB z.1 L = none := by
      cases e : getB z.1 L with
      | none => rfl
      | some y => exact absurd rfl (hn _ (getB_mem e))
    rw [hg]
    dsimp only
    rw [scan_at hc hz]; rfl
theorem sawT_eq (at1 : Int) (C : ChC) (L : OwnL) : sawT at1 C L = sawP (scanC at1 C) L := saw_plain _ _
end Go.Proofs.Ytcgjiddiegepkaa
