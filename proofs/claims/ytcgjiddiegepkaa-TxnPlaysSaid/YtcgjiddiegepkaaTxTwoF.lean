import Derived.Test.YtcgjiddiegepkaaOps12
import Derived.Test.YtcgjiddiegepkaaTxStores
/- A store and two transactions. -/
namespace Go.Proofs.Ytcgjiddiegepkaa
open Go.RowKit
def K4 (tb wb ub vb : Nat) (i : Nat) : Prop := i = tb ∨ i = wb ∨ i = ub ∨ i = vb
structure T2 (X W : World) (s mb : Nat) (C : ChC) (low : Int) (n tb wb : Nat) (L : OwnL) (k ub vb : Nat) (M : OwnL) (j : Nat) (at1 : Int) : Prop where
  sg : SG X (K4 tb wb ub vb) W s mb C low n
  t : TxS W tb s wb at1 L k
  u : TxS W ub s vb at1 M j
  lo : X.heap.size ≤ tb ∧ X.heap.size ≤ wb ∧ X.heap.size ≤ ub ∧ X.heap.size ≤ vb
  ne : wb ≠ ub ∧ wb ≠ vb ∧ vb ≠ tb
variable {X W : World} {s mb : Nat} {C : ChC} {low : Int} {n tb wb ub vb : Nat} {L M : OwnL} {k j : Nat} {at1 : Int}
theorem T2.below {W' : World} (h : T2 X W s mb C low n tb wb L k ub vb M j at1) (hb : Below W.heap.size W W') : T2 X W' s mb C low n tb wb L k ub vb M j at1 := ⟨h.sg.below hb, h.t.below hb, h.u.below hb, h.lo, h.ne⟩
theorem TxS.seven {wb tb : Nat} (h : TxS W tb s wb at1 L k) (m : Nat) (hm : m ≠ 2) : ∀ i, i = wb → ∀ cs T z, W.heap[i]? = some (.cells cs T z) → cs.size ≠ m := by
  rintro i rfl cs T z hc
  obtain ⟨u, v, T', e⟩ := h.two
  rw [e] at hc
  simp only [Option.some.injEq, Obj.cells.injEq] at hc
  rw [← hc.1]
  simpa using fun e => hm e.symm
/-- The second begins behind the first. -/
theorem t2Begin (h : TT X W s mb C low n tb wb at1 L k) : Calls Try.prog 11 #[.pointer (some ⟨s, 0, none⟩), .int .i64 at1] W fun e W' => ∃ ub vb, e = .returned (.pointer (some ⟨ub, 0, none⟩)) ∧ T2 X W' s mb C low n tb wb L k ub vb [] 0 at1 := by
  refine (txBegin W s at1).mono ?_
  rintro e W' ⟨ub, vb, rfl, h1, h2, h3, h4⟩
  have hX := h.sg.bel.size
  have ht := h.tx.lt
  refine ⟨ub, vb, rfl, h.sg.fresh h2 (fun i hi => ?_), h.tx.below h2, h1, ⟨h.lo.1, h.lo.2, by omega, by omega⟩, by omega, by omega, by omega⟩
  rcases hi with rfl | rfl | rfl | rfl
  · exact ⟨Nat.lt_of_lt_of_le ht.1 h2.size, .inr (.inl rfl)⟩
  · exact ⟨Nat.lt_of_lt_of_le ht.2 h2.size, .inr (.inr rfl)⟩
  · exact ⟨h1.lt.1, .inl h3⟩
  · exact ⟨h1.lt.2, .inl h4⟩
theorem t2Put (h : T2 X W s mb C low n tb wb L k ub vb M j at1) (hk : k ≤ 100000) (x y : List UInt8) (hx : x.length ≤ 9223372036854775807) (hy : y.length ≤ 9223372036854775807) :
    Calls Try.prog 14 #[.pointer (some ⟨tb, 0, none⟩), str x, str y] W fun e W' => e = .returned (.int .i64 (wrC L (x, y, false))) ∧ T2 X W' s mb C low n tb wb (wrL L (x, y, false)) (k + 1) ub vb M j at1 ∧ Frm (fun i => i = wb) W W' := by
  refine (txPut h.t hk x y hx hy).mono ?_
  rintro e W' ⟨rfl, h1, h2⟩
  exact ⟨rfl, ⟨h.sg.turn h2 (h.t.seven 5 (by decide)) (fun i hi => .inr (.inl hi)) (fun i hi => by cases hi; exact h.lo.2.1), h1, h.u.frm h2 (h.t.seven 7 (by decide)) (fun e => h.ne.1 e.symm) (fun e => h.ne.2.1 e.symm), h.lo, h.ne⟩, h2⟩
theorem t2Delete (h : T2 X W s mb C low n tb wb L k ub vb M j at1) (hj : j ≤ 100000) (x : List UInt8) (hx : x.length ≤ 9223372036854775807) :
    Calls Try.prog 16 #[.pointer (some ⟨ub, 0, none⟩), str x] W fun e W' => e = .returned (.int .i64 (wrC M (x, [], true))) ∧ T2 X W' s mb C low n tb wb L k ub vb (wrL M (x, [], true)) (j + 1) at1 := by
  refine (txDelete h.u hj x hx).mono ?_
  rintro e W' ⟨rfl, h1, h2⟩
  exact ⟨rfl, h.sg.turn h2 (h.u.seven 5 (by decide)) (fun i hi => .inr (.inr (.inr hi))) (fun i hi => by cases hi; exact h.lo.2.2.2), h.t.frm h2 (h.u.seven 7 (by decide)) (fun e => h.ne.2.2 e.symm) (fun e => h.ne.2.1 e), h1, h.lo, h.ne⟩
/-- A Put of the store's own. -/
theorem t2Store (h : T2 X W s mb C low n tb wb L k ub vb M j at1) (hn : n ≤ 10000) (key : List UInt8) (tm : Int) (x : List UInt8) :
    Calls Try.prog 25 #[.pointer (some ⟨s, 0, none⟩), .int .i64 tm, str key, str x] W fun e W' => e = .returned (.int .i64 (addCVS (verC key C) low (tm, x, false))) ∧ T2 X W' s mb (putC C low key (tm, x, false)) low (n + 1) tb wb L k ub vb M j at1 := by
  have hlt : ∀ i, K4 tb wb ub vb i → i < W.heap.size := by
    rintro i (rfl | rfl | rfl | rfl)
    · exact h.t.lt.1
    · exact h.t.lt.2
    · exact h.u.lt.1
    · exact h.u.lt.2
  have hg : SG X (fun i => K4 tb wb ub vb i ∨ ∃ cs T z, W.heap[i]? = some (.cells cs T z) ∧ cs.size = 7) W s mb C low n := h.sg.more (fun i hi => by
      rcases hi with hi | ⟨cs, T, z, hc, _⟩
      · exact hlt i hi
      · exact (Array.getElem?_eq_some_iff.1 hc).1) (fun i hi => .inr hi)
  refine (putG hg hn key tm x).mono ?_
  rintro e W' ⟨rfl, g1, g2⟩
  have h7 : ∀ i, ¬ (K4 tb wb ub vb i ∨ ∃ cs T z, W.heap[i]? = some (.cells cs T z) ∧ cs.size = 7) → ∀ cs T z, W.heap[i]? = some (.cells cs T z) → cs.size ≠ 7 := fun i hi cs T z hc e => hi (.inr ⟨cs, T, z, hc, e⟩)
  refine ⟨rfl, ?_, h.t.frm g2 h7 (fun hn => hn (.inl (.inl rfl))) (fun hn => hn (.inl (.inr (.inl rfl)))), h.u.frm g2 h7 (fun hn => hn (.inl (.inr (.inr (.inl rfl))))) (fun hn => hn (.inl (.inr (.inr (.inr rfl))))), h.lo, h.ne⟩
  obtain ⟨t, S, a1, a2, a3, a4, a5⟩ := g1
  exact ⟨t, S, a1, a2, a3, a4, fun i hi => a5 i (.inl hi)⟩
theorem T2.tt (h : T2 X W s mb C low n tb wb L k ub vb M j at1) : TT X W s mb C low n tb wb at1 L k := by
  refine ⟨?_, h.t, h.lo.1, h.lo.2.1⟩
  obtain ⟨t, S, a1, a2, a3, a4, a5⟩ := h.sg
  exact ⟨t, S, a1, a2, a3, a4, fun i hi => a5 i (by rcases hi with hi | hi; exact .inl hi; exact .inr (.inl hi))⟩
theorem T2.ut (h : T2 X W s mb C low n tb wb L k ub vb M j at1) : TT X W s mb C low n ub vb at1 M j := by
  refine ⟨?_, h.u, h.lo.2.2.1, h.lo.2.2.2⟩
  obtain ⟨t, S, a1, a2, a3, a4, a5⟩ := h.sg
  exact ⟨t, S, a1, a2, a3, a4, fun i hi => a5 i (by rcases hi with hi | hi; exact .inr (.inr (.inl hi)); exact .inr (.inr (.inr hi)))⟩
theorem ttScan (_ : TT X W s mb C low n tb wb at1 L k) : Calls Try.prog 29 #[.pointer (some ⟨tb, 0, none⟩), str [], str []] W fun e W' => ∃ b1, e = .returned (.func (.func 49) #[] #[.pointer (some ⟨b1, 0, none⟩), .pointer (some ⟨b1 + 1, 0, none⟩), .pointer (some ⟨b1 + 2, 0, none⟩)]) ∧ TxL W' b1 (b1 + 1) (b1 + 2) tb [] [] ∧ Below W.heap.size W W' := by
  refine (txn_scan W tb [] []).mono ?_
  rintro e W' ⟨rfl, rfl⟩
  exact ⟨W.heap.size, rfl, txL_new W tb [] [], (((Below.refl _ _).alloc (Nat.le_refl _) _).alloc (by simp) _).alloc (by simp; omega) _⟩
end Go.Proofs.Ytcgjiddiegepkaa

/- Two transactions: plain facts. -/
namespace Go.Proofs.Ytcgjiddiegepkaa
open Go.RowKit
theorem getB_ins_other {Y : Type} {key key' : List UInt8} (y : Y) (hk : key' ≠ key) : ∀ (l : List (List UInt8 × Y)), getB key' (insB key y l) = getB key' l
  | [] => by
    unfold insB getB
    cases h1 : Op.bytesLess key' key with
    | true => rfl
    | false =>
      cases h2 : Op.bytesLess key key' with
      | true => rfl
      | false => exact absurd (bl_tot _ _ h1 h2) hk
  | (k0, y0) :: t => by
    have ih := getB_ins_other y hk t
    cases h1 : Op.bytesLess key k0 with
    | true =>
      simp only [insB, h1, if_true]
      cases h3 : Op.bytesLess key' key with
      | true =>
        have := bl_tr _ _ _ h3 h1
        simp [getB, h3, this]
      | false =>
        cases h4 : Op.bytesLess key key' with
        | true => simp [getB, h3, h4]
        | false => exact absurd (bl_tot _ _ h3 h4) hk
    | false =>
      cases h2 : Op.bytesLess k0 key with
      | true => simp only [insB, h1, h2, Bool.false_eq_true, if_false, if_true, getB, ih]
      | false =>
        obtain rfl := bl_tot _ _ h1 h2
        simp only [insB, h1, Bool.false_eq_true, if_false, getB]
        cases h3 : Op.bytesLess key' key with
        | true => rfl
        | false =>
          cases h4 : Op.bytesLess key key' with
          | true => rfl
          | false => exact absurd (bl_tot _ _ h3 h4) hk
/-- Nothing is gone. -/
def Pts (L : OwnL) : Prop := ∀ x ∈ L, x.2.2.2 = false
theorem pts_put {L : OwnL} (hr : RisB L) (h : Pts L) (x y : List UInt8) : Pts (wrL L (x, y, false)) := by
  unfold wrL
  split
  · intro z hz
    rcases insB_mem hr z hz with rfl | ⟨hz, _⟩
    · rfl
    · exact h z hz
  · exact h
theorem txG_own {L : OwnL} (hr : RisB L) (hp : Pts L) {x : List UInt8 × WrT} (hx : x ∈ L) (r : Option (List UInt8)) : txG L x.1 r = .returned (.tuple #[str x.2.2.1, .bool true]) := by
  unfold txG
  rw [getB_in hr (show (x.1, x.2) ∈ L from hx)]
  dsimp only
  rw [hp x hx]; rfl
theorem lastT_snoc (l : List VerVS) (v : VerVS) : lastTVS (l ++ [v]) = v.1 := by simp [lastTVS]
/-- The time of the Put, and what it leaves. -/
def tmT (la at1 : Int) : Int := min (max la at1) 549755813888 + 1
theorem put_last {C : ChC} {key x : List UInt8} {at1 : Int} (h0 : 0 ≤ at1) (h1 : at1 ≤ 274877906944) : at1 < lastTVS (verC key (putC C 0 key (tmT (lastTVS (verC key C)) at1, x, false))) := by
  unfold putC
  split
  · have e : verC key (insB key (verC key C ++ [(tmT (lastTVS (verC key C)) at1, x, false)]) C) = verC key C ++ [(tmT (lastTVS (verC key C)) at1, x, false)] := by
      unfold verC; rw [getB_put]; rfl
    rw [e, lastT_snoc]
    dsimp only
    unfold tmT; omega
  · next hc =>
    unfold addCVS at hc
    dsimp only at hc
    split at hc
    · next h => unfold tmT at h; omega
    · split at hc
      · next h => unfold tmT at h; omega
      · exact absurd rfl hc
theorem put_other {C : ChC} {key key' x : List UInt8} {tm : Int} (hk : key' ≠ key) : verC key' (putC C 0 key (tm, x, false)) = verC key' C := by
  unfold putC
  split
  · unfold verC; rw [getB_ins_other _ hk]
  · rfl
/-- What clashes behind the Put. -/
theorem clash_put {C : ChC} {key x : List UInt8} {at1 : Int} (h0 : 0 ≤ at1) (h1 : at1 ≤ 274877906944) (L : OwnL) :
    L.any (fun z => decide (at1 < lastTVS (verC z.1 (putC C 0 key (tmT (lastTVS (verC key C)) at1, x, false))))) = (L.any (fun z => decide (at1 < lastTVS (verC z.1 C))) || L.any (fun z => z.1 == key)) := by
  induction L with
  | nil => rfl
  | cons z t ih =>
    simp only [List.any_cons]
    rw [ih]
    by_cases hz : z.1 = key
    · rw [hz]
      have := put_last (C := C) (key := key) (x := x) h0 h1
      simp [this]
    · rw [put_other hz]
      have e : (z.1 == key) = false := beq_eq_false_iff_ne.2 hz
      rw [e]
      simp [Bool.or_assoc]
end Go.Proofs.Ytcgjiddiegepkaa
