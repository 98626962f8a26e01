import Derived.Test.YtcgjiddiegepkaaTxWith
import Derived.Test.YtcgjiddiegepkaaTxStores
import Derived.Laws.Cover1
import Derived.Deep.RegionHeld3
import Derived.Deep.CutRange
import Derived.Deep.CutBlock
/- TxnSees: what lies in a round: a store, a transaction, a row of pairs. -/
namespace Go.Proofs.Ytcgjiddiegepkaa
open Go.RowKit
/-- In the round. -/
structure SE (X W : World) (s mb : Nat) (C : ChC) (n tb wb : Nat) (at1 : Int) (L : OwnL) (k nb : Nat) (vw : Value) (P : List PairT) : Prop where
  sg : SG X (fun i => (i = tb ∨ i = wb) ∨ vw.ownBlock = some i) W s mb C 0 n
  t : TxS W tb s wb at1 L k
  row : W.ownsRow nb 63 2 vw P.length (P.map cellsP).flatten
  lo : X.heap.size ≤ tb ∧ X.heap.size ≤ wb ∧ X.heap.size ≤ nb
  bn : ∀ i, vw.ownBlock = some i → i ≠ tb ∧ i ≠ wb
variable {X W : World} {s mb : Nat} {C : ChC} {n tb wb : Nat} {at1 : Int} {L : OwnL} {k nb : Nat} {vw : Value} {P : List PairT}
theorem SE.below {W' : World} (h : SE X W s mb C n tb wb at1 L k nb vw P) (hb : Below W.heap.size W W') : SE X W' s mb C n tb wb at1 L k nb vw P :=
  ⟨h.sg.below hb, h.t.below hb, owns_frm h.row (Frm.of_below (F := fun _ => False) hb) (fun _ _ h => h), h.lo, h.bn⟩
theorem SE.wide {n' k' : Nat} (h : SE X W s mb C n tb wb at1 L k nb vw P) (hn : n ≤ n') (hk : k ≤ k') : SE X W s mb C n' tb wb at1 L k' nb vw P := ⟨h.sg.wide hn, h.t.wide hk, h.row, h.lo, h.bn⟩
theorem SE.tt (h : SE X W s mb C n tb wb at1 L k nb vw P) : TT X W s mb C 0 n tb wb at1 L k := ⟨h.sg.weak (fun _ hi => .inl hi), h.t, h.lo.1, h.lo.2.1⟩
theorem SE.bel (h : SE X W s mb C n tb wb at1 L k nb vw P) : Below X.heap.size X W := h.sg.bel
theorem SE.begin {K : Nat → Prop} (h : SG X K W s mb C 0 n) (hr : W.ownsRow nb 63 2 vw P.length (P.map cellsP).flatten) (hnb : X.heap.size ≤ nb) (hK : ∀ i, vw.ownBlock = some i → K i) :
    Calls Try.prog 11 #[.pointer (some ⟨s, 0, none⟩), .int .i64 at1] W fun e W' => ∃ tb wb, e = .returned (.pointer (some ⟨tb, 0, none⟩)) ∧ SE X W' s mb C n tb wb at1 [] 0 nb vw P := by
  refine (txBegin W s at1).mono ?_
  rintro e W' ⟨tb, wb, rfl, h1, h2, h3, h4⟩
  have hX := h.bel.size
  refine ⟨tb, wb, rfl, h.fresh h2 (fun i hi => ?_), h1, owns_frm hr (Frm.of_below (F := fun _ => False) h2) (fun _ _ h => h), ⟨by omega, by omega, hnb⟩, fun i hi => ?_⟩
  · rcases hi with (rfl | rfl) | hi
    · exact ⟨h1.lt.1, .inl h3⟩
    · exact ⟨h1.lt.2, .inl h4⟩
    · exact ⟨Nat.lt_of_lt_of_le (hr.lt i hi).2 h2.size, .inr (hK i hi)⟩
  · have := (hr.lt i hi).2; omega
theorem SE.wrote {W' : World} {L' : OwnL} {k' : Nat} (h : SE X W s mb C n tb wb at1 L k nb vw P) (h1 : TxS W' tb s wb at1 L' k') (h2 : Frm (fun i => i = wb) W W') : SE X W' s mb C n tb wb at1 L' k' nb vw P :=
  ⟨h.sg.turn h2 (h.t.seven 5 (by decide)) (fun i hi => .inl (.inr hi)) (fun i hi => by cases hi; exact h.lo.2.1), h1, owns_frm h.row h2 (fun i hi => (h.bn i hi).2), h.lo, h.bn⟩
theorem sePut (h : SE X W s mb C n tb wb at1 L k nb vw P) (hk : k ≤ 100000) (x y : List UInt8) (hx : x.length ≤ 9223372036854775807) (hy : y.length ≤ 9223372036854775807) :
    Calls Try.prog 14 #[.pointer (some ⟨tb, 0, none⟩), str x, str y] W fun e W' => e = .returned (.int .i64 (wrC L (x, y, false))) ∧ SE X W' s mb C n tb wb at1 (wrL L (x, y, false)) (k + 1) nb vw P ∧ Frm (fun i => i = wb) W W' := by
  refine (txPut h.t hk x y hx hy).mono ?_
  rintro e W' ⟨rfl, h1, h2⟩
  exact ⟨rfl, h.wrote h1 h2, h2⟩
theorem seDelete (h : SE X W s mb C n tb wb at1 L k nb vw P) (hk : k ≤ 100000) (x : List UInt8) (hx : x.length ≤ 9223372036854775807) :
    Calls Try.prog 16 #[.pointer (some ⟨tb, 0, none⟩), str x] W fun e W' => e = .returned (.int .i64 (wrC L (x, [], true))) ∧ SE X W' s mb C n tb wb at1 (wrL L (x, [], true)) (k + 1) nb vw P ∧ Frm (fun i => i = wb) W W' := by
  refine (txDelete h.t hk x hx).mono ?_
  rintro e W' ⟨rfl, h1, h2⟩
  exact ⟨rfl, h.wrote h1 h2, h2⟩
theorem owns_base {W : World} {b b' size n : Nat} {e : TypeId} {v : Value} {xs : List Value} (h : W.ownsRow b e size v n xs) (hb : b' ≤ b) : W.ownsRow b' e size v n xs := by
  refine ⟨h.1, ?_⟩
  rcases h.2 with hh | ⟨g, cap, cur, hv, h1, rest⟩
  · exact .inl hh
  · exact .inr ⟨g, cap, cur, hv, Nat.le_trans hb h1, rest⟩
/-- Other pairs. -/
theorem SE.with {W' : World} {vo : Value} {P' : List PairT} (h : SE X W s mb C n tb wb at1 L k nb vw P) (hr : W'.ownsRow W.heap.size 63 2 vo P'.length (P'.map cellsP).flatten) (hb : Below W.heap.size W W') : SE X W' s mb C n tb wb at1 L k X.heap.size vo P' := by
  have hl := h.t.lt
  refine ⟨h.sg.fresh hb (fun i hi => ?_), h.t.below hb, owns_base hr h.sg.bel.size, ⟨h.lo.1, h.lo.2.1, Nat.le_refl _⟩, fun i hi => ?_⟩
  · rcases hi with (rfl | rfl) | hi
    · exact ⟨Nat.lt_of_lt_of_le hl.1 hb.size, .inr (.inl (.inl rfl))⟩
    · exact ⟨Nat.lt_of_lt_of_le hl.2 hb.size, .inr (.inl (.inr rfl))⟩
    · exact ⟨(hr.lt i hi).2, .inl (hr.lt i hi).1⟩
  · have := (hr.lt i hi).1; omega
theorem SE.k3 (h : SE X W s mb C n tb wb at1 L k nb vw P) {i : Nat} (hi : (i = tb ∨ i = wb) ∨ vw.ownBlock = some i) : i < W.heap.size := by
  rcases hi with (rfl | rfl) | hi
  · exact h.t.lt.1
  · exact h.t.lt.2
  · exact (h.row.lt i hi).2
theorem StVS.four {W : World} {B s mb : Nat} {t : Tr} {S : ChsVS} {cnt low : Int} {k : Nat} (h : StVS W B s mb t S cnt low k) : ∀ i, BlkVS s mb S i → ∀ cs T z, W.heap[i]? = some (.cells cs T z) → cs.size ≠ 4 := by
  rintro i (rfl | rfl | ⟨x, hx, hi⟩) cs T z hc
  · rw [h.box] at hc
    simp only [Option.some.injEq, Obj.cells.injEq] at hc
    rw [← hc.1]; simp
  · obtain ⟨T', o, hb, _⟩ := h.mp
    rw [hb] at hc
    simp only [Option.some.injEq, Obj.cells.injEq] at hc
    rw [← hc.1]; simp
  · obtain ⟨cap, hcap⟩ := owns_size (h.ch x hx) hi hc
    omega
/-- A Put of the store's own. -/
theorem seStore (h : SE X W s mb C n tb wb at1 L k nb vw P) (hn : n ≤ 10000) (key : List UInt8) (tm : Int) (x : List UInt8) :
    Calls Try.prog 25 #[.pointer (some ⟨s, 0, none⟩), .int .i64 tm, str key, str x] W fun e W' => e = .returned (.int .i64 (addCVS (verC key C) 0 (tm, x, false))) ∧ SE X W' s mb (putC C 0 key (tm, x, false)) (n + 1) tb wb at1 L k nb vw P ∧ ∀ (i : Nat) (cs : Array Value) (T : TypeId) (z : Nat × Nat), W.heap[i]? = some (Obj.cells cs T z) → cs.size = 4 → W'.heap[i]? = some (Obj.cells cs T z) := by
  have hg : SG X (fun i => ((i = tb ∨ i = wb) ∨ vw.ownBlock = some i) ∨ ∃ cs T z, W.heap[i]? = some (.cells cs T z) ∧ (cs.size = 7 ∨ cs.size = 4)) W s mb C 0 n := by
    obtain ⟨t, S, h1, h2, h3, h4, h6⟩ := h.sg
    refine ⟨t, S, h1, h2, h3, h4, fun i hi => ?_⟩
    rcases hi with hi | ⟨cs, T, z, hc, h7⟩
    · exact h6 i hi
    · refine ⟨(Array.getElem?_eq_some_iff.1 hc).1, fun hb => ?_⟩
      rcases h7 with h7 | h7
      · exact h1.seven i hb cs T z hc h7
      · exact h1.four i hb cs T z hc h7
  refine (putG hg hn key tm x).mono ?_
  rintro e W' ⟨rfl, g1, g2⟩
  have h7 : ∀ i, ¬ (((i = tb ∨ i = wb) ∨ vw.ownBlock = some i) ∨ ∃ cs T z, W.heap[i]? = some (.cells cs T z) ∧ (cs.size = 7 ∨ cs.size = 4)) → ∀ cs T z, W.heap[i]? = some (.cells cs T z) → cs.size ≠ 7 := fun i hi cs T z hc e => hi (.inr ⟨cs, T, z, hc, .inl e⟩)
  refine ⟨rfl, ⟨?_, h.t.frm g2 h7 (fun hn => hn (.inl (.inl (.inl rfl)))) (fun hn => hn (.inl (.inl (.inr rfl)))), owns_frm h.row g2 (fun i hi hn => hn (.inl (.inr hi))), h.lo, h.bn⟩, fun i cs T z hc h4 => ?_⟩
  · obtain ⟨t, S, a1, a2, a3, a4, a5⟩ := g1
    exact ⟨t, S, a1, a2, a3, a4, fun i hi => a5 i (.inl hi)⟩
  · rw [g2.block i (Array.getElem?_eq_some_iff.1 hc).1 (fun hn => hn (.inr ⟨cs, T, z, hc, .inr h4⟩))]
    exact hc
theorem seLast (h : SE X W s mb C n tb wb at1 L k nb vw P) (hn : n ≤ 10000) (key : List UInt8) : Calls Try.prog 24 #[.pointer (some ⟨s, 0, none⟩), str key] W fun e w' => e = .returned (.int .i64 (lastTVS (verC key C))) ∧ W = w' := by
  obtain ⟨t, S, h1, h2, _⟩ := h.sg
  have := lastVS_any h1 (by omega) key
  rw [ver_chs, h2] at this
  exact this
/-- What is seen at a time stands when something is put behind it. -/
theorem scan_later {C : ChC} {key x : List UInt8} {at1 tm low : Int} (h : at1 < tm) : scanC at1 (putC C low key (tm, x, false)) = scanC at1 C := by
  unfold putC
  split
  · exact scan_put key (tm, x, false) at1 h C
  · rfl
/-- The pairs that are told. -/
structure SP (X W : World) (s mb : Nat) (C : ChC) (n tb wb : Nat) (at1 : Int) (A : List PairT) (L : OwnL) (k : Nat) (vw : Value) (P : List PairT) : Prop where
  se : SE X W s mb C n tb wb at1 L k X.heap.size vw P
  sc : scanC at1 C = A
  sw : P = sawP A L
  ln : P.length ≤ 2000 + k
variable {A : List PairT}
theorem SP.ra (h : SP X W s mb C n tb wb at1 A L k vw P) : RisB A := by rw [← h.sc]; exact scan_ris h.se.sg.ris.2.1
theorem SP.rp (h : SP X W s mb C n tb wb at1 A L k vw P) : RisB P := by rw [h.sw]; exact ris_saw _ _ h.ra h.se.t.rs
theorem SP.below {W' : World} (h : SP X W s mb C n tb wb at1 A L k vw P) (hb : Below W.heap.size W W') : SP X W' s mb C n tb wb at1 A L k vw P := ⟨h.se.below hb, h.sc, h.sw, h.ln⟩
theorem SP.wide {n' k' : Nat} (h : SP X W s mb C n tb wb at1 A L k vw P) (hn : n ≤ n') (hk : k ≤ k') : SP X W s mb C n' tb wb at1 A L k' vw P := ⟨h.se.wide hn hk, h.sc, h.sw, by have := h.ln; omega⟩
theorem spStore (h : SP X W s mb C n tb wb at1 A L k vw P) (hn : n ≤ 10000) (key : List UInt8) (tm : Int) (x : List UInt8) (ht : at1 < tm) :
    Calls Try.prog 25 #[.pointer (some ⟨s, 0, none⟩), .int .i64 tm, str key, str x] W fun e W' => ∃ z, e = .returned (.int .i64 z) ∧ SP X W' s mb (putC C 0 key (tm, x, false)) (n + 1) tb wb at1 A L k vw P ∧ ∀ (i : Nat) (cs : Array Value) (T : TypeId) (z : Nat × Nat), W.heap[i]? = some (Obj.cells cs T z) → cs.size = 4 → W'.heap[i]? = some (Obj.cells cs T z) := by
  refine (seStore h.se hn key tm x).mono ?_
  rintro e W' ⟨rfl, h1, h2⟩
  exact ⟨_, rfl, ⟨h1, by rw [scan_later ht]; exact h.sc, h.sw, h.ln⟩, h2⟩
/-- Behind a write that was taken: with. -/
theorem spWith {W0 : World} {key v : List UInt8} {gone : Bool} (h : SP X W0 s mb C n tb wb at1 A L k vw P) (h1 : SE X W s mb C n tb wb at1 (insB key (key, v, gone) L) (k + 1) X.heap.size vw P) (hk : k ≤ 10000) :
    Calls Try.prog 37 #[vw, str key, str v, .bool gone] W fun e W' => ∃ vo P', e = .returned vo ∧ SP X W' s mb C n tb wb at1 A (insB key (key, v, gone) L) (k + 1) vo P' ∧ ∃ a c, vo = .slice a P'.length c := by
  refine (with_any P key v gone W h1.row h.rp (by have := h.ln; omega)).mono ?_
  rintro e W' ⟨vo, p, has, rfl, hp, hh, hr, hb⟩
  obtain ⟨a, c, hv, -⟩ := (rdp_ownP hr).form
  refine ⟨vo, _, rfl, ⟨h1.with hr hb, h.sc, ?_, ?_⟩, a, c, hv⟩
  · have e := h.sw
    subst e
    exact (saw_with h.ra h.se.t.rs hp hh).symm
  · have := h.ln
    have e : (withP P key v gone p has).length ≤ P.length + 1 := by
      unfold withP
      simp only [List.length_append, List.length_take, List.length_drop]
      split <;> simp <;> omega
    omega
end Go.Proofs.Ytcgjiddiegepkaa

/- TxnSees: the walk. -/
namespace Go.Proofs.Ytcgjiddiegepkaa
open Go.RowKit
variable {X W : World} {s mb : Nat} {C : ChC} {n tb wb : Nat} {at1 : Int} {A : List PairT} {L : OwnL} {k : Nat} {vw : Value} {P : List PairT}
theorem spPairs (h : SP X W s mb C n tb wb at1 A L k vw P) (hn : n ≤ 10000) (hk : k ≤ 100000) {b1 b2 b3 : Nat} (hL : TxL W b1 b2 b3 tb [] []) :
    Calls Try.prog 21 #[.func (.func 49) #[] #[.pointer (some ⟨b1, 0, none⟩), .pointer (some ⟨b2, 0, none⟩), .pointer (some ⟨b3, 0, none⟩)], .int .i64 1048576] W (PrsP W P) := by
  have := ttPairs h.se.tt hn hk hL 1048576 (by decide)
  rw [sawT_eq, h.sc, ← h.sw, List.take_of_length_le (by have := h.ln; show _ ≤ 1048576; omega)] at this
  exact this
theorem spGet (h : SP X W s mb C n tb wb at1 A L k vw P) (hn : n ≤ 10000) {j : Nat} (hj : j < P.length) :
    Calls Try.prog 18 #[.pointer (some ⟨tb, 0, none⟩), str P[j].1] W fun e W' => e = .returned (.tuple #[str P[j].2, .bool true]) ∧ Below W.heap.size W W' := by
  have := ttGet h.se.tt hn P[j].1
  rw [get_saw h.se.sg.ris.2.1 h.se.t.rs (z := P[j]) (by
    rw [h.sc]
    have e : P[j] ∈ P := List.getElem_mem hj
    have e2 := h.sw
    generalize P[j] = z at e ⊢
    rw [e2] at e
    exact e)] at this
  exact this
theorem tm_gt {la at1 : Int} (h0 : 0 ≤ at1) (h1 : at1 ≤ 549755813888) : at1 < IntKind.i64.wrap ((if 549755813888 < if la < at1 then at1 else la then 549755813888 else if la < at1 then at1 else la) + 1) := by
  obtain ⟨m, hm, h2, h3⟩ : ∃ m, (if 549755813888 < if la < at1 then at1 else la then 549755813888 else if la < at1 then at1 else la) = m ∧ at1 ≤ m ∧ m ≤ 549755813888 := by
    refine ⟨_, rfl, ?_, ?_⟩
    · (repeat' split) <;> omega
    · (repeat' split) <;> omega
  rw [hm, IntWalk.i64_in _ ⟨by omega, by omega⟩]
  omega
theorem seL_no {w : WrT} (h : wrC L w ≠ 0) : wrL L w = L := if_neg h
theorem seL_yes {w : WrT} (h : wrC L w = 0) : wrL L w = insB w.1 w L := if_pos h
set_option maxRecDepth 100000 in
set_option maxHeartbeats 8000000 in
theorem sees12_walk (vv : Value) (l : List Op11) (at1 : Int) (va : Value) (A : List Op12) (w : World) (hv : Rd11 w vv l) (hsv : ∀ o ∈ l, o.ok) (ha : Rd12 w va A) (hsa : ∀ o ∈ A, o.ok) (_ : -9223372036854775808 ≤ at1 ∧ at1 ≤ 9223372036854775807) :
    Calls Try.prog 4 #[vv, .int .i64 at1, va] w fun e w' => e = .returned (.bool true) ∧ Below w.heap.size w w' := by
  have CF := Lib.hid v12first_any
  have CST : Hid (∀ W, Below w.heap.size w W → Calls Try.prog 9 #[vv] W fun e W' => ∃ s mb b, e = .returned (.tuple #[.pointer (some ⟨s, 0, none⟩), .pointer (some ⟨b, 0, none⟩)]) ∧ Hid (JS W b W' s mb b (storesC l) 0 (storesC l) 0 300)) :=
    Lib.hid (fun W h => (stores_any vv l W (hv.up h) hsv).mono (by rintro e W' ⟨s, mb, b, rfl, h1, _⟩; exact ⟨s, mb, b, rfl, Lib.hid h1⟩))
  have CA : Hid (∀ W, Below w.heap.size w W → Calls Try.prog 10 #[va] W (FewP12 A W)) := Lib.hid (fun W h => few12_any va A W (ha.up h) hsa)
  have HRA := Lib.hid ha
  obtain ⟨aa, ca, rfl, hla0⟩ := ha.form
  obtain ⟨av, cv, rfl, _⟩ := hv.form
  clear ha hv hsv
  go_enter Try.func4, Try.ntmps4
  go_wp2_with fail
  refine (CF.out _).mono ?_
  rintro e w1 ⟨rfl, hb1⟩
  have H1 := Lib.hid hb1
  clear hb1
  go_wp2_with fail
  refine (CST.out _ H1.out).mono ?_
  rintro e w2 ⟨s, mb, b, rfl, H2⟩
  have HB2 : Hid (Below w.heap.size w w2) := Lib.hid (H1.out.trans (H2.out.bel.mono H1.out.size))
  clear CST
  go_wp2_with fail
  refine (CA.out _ HB2.out).mono ?_
  rintro e w3 ⟨fa, rfl, hfa, hb3⟩
  have H3 := Lib.hid (H2.out.below hb3)
  have HB3 : Hid (Below w.heap.size w w3) := Lib.hid (HB2.out.trans (hb3.mono HB2.out.size))
  clear CA H2 HB2 hb3
  cases fa
  case false =>
    go_wp2_with fail
    refine (CF.out _).mono ?_
    rintro e wE ⟨rfl, hbE⟩
    have HX := Lib.hid (HB3.out.trans (hbE.mono HB3.out.size))
    clear hbE
    go_wp2_with fail
    go_ret
    exact ⟨rfl, HX.out⟩
  have hA3 : A.length ≤ 1300 := hfa rfl
  clear hfa
  have H4 : Hid (SG w1 (fun _ => False) w3 s mb (storesC l) 0 300) := Lib.hid (by
    obtain ⟨vo, R, h1, _⟩ := H3.out
    exact h1.weak (fun i hi => hi.elim))
  clear H3
  by_cases d0 : at1 < 0
  · have e0 : decide (at1 < 0) = true := decide_eq_true d0
    go_wp2_with fail
    refine (CF.out _).mono ?_
    rintro e wE ⟨rfl, hbE⟩
    have HX := Lib.hid (HB3.out.trans (hbE.mono HB3.out.size))
    clear hbE
    go_wp2_with fail
    go_ret
    exact ⟨rfl, HX.out⟩
  have e0 : decide (at1 < 0) = false := decide_eq_false d0
  by_cases d1 : (549755813888 : Int) < at1
  · have e1 : decide ((549755813888 : Int) < at1) = true := decide_eq_true d1
    go_wp2_with fail
    refine (CF.out _).mono ?_
    rintro e wE ⟨rfl, hbE⟩
    have HX := Lib.hid (HB3.out.trans (hbE.mono HB3.out.size))
    clear hbE
    go_wp2_with fail
    go_ret
    exact ⟨rfl, HX.out⟩
  have e1 : decide ((549755813888 : Int) < at1) = false := decide_eq_false d1
  obtain ⟨C, hC⟩ : ∃ C, C = storesC l := ⟨_, rfl⟩
  rw [← hC] at H4
  clear hC HB3
  have CSC := Lib.hid (scan_any w3 s [] [] at1)
  go_wp2_with fail
  refine CSC.out.mono ?_
  rintro e w4 ⟨rfl, hw4⟩
  have HS4 : Hid (SG w1 (fun _ => False) w4 s mb C 0 300 ∧ ScB w4 w3.heap.size (w3.heap.size + 1) (w3.heap.size + 2) (w3.heap.size + 3) s [] [] at1) := Lib.hid (by
    have h := scanW_box w3 s [] [] at1
    rw [hw4]
    exact ⟨H4.out.below h.2, h.1⟩)
  obtain ⟨b4, hb4⟩ : ∃ b4, b4 = w3.heap.size := ⟨_, rfl⟩
  rw [← hb4] at HS4
  rw [← hb4]
  clear hw4 hb4 CSC H4
  have CP4 : Hid (Calls Try.prog 21 #[.func (.func 56) #[] #[.pointer (some ⟨b4, 0, none⟩), .pointer (some ⟨b4 + 1, 0, none⟩), .pointer (some ⟨b4 + 2, 0, none⟩), .pointer (some ⟨b4 + 3, 0, none⟩)], .int .i64 1048576] w4 (PrsP w4 (scanC at1 C))) := Lib.hid (by
    have := scannedB HS4.out.1 (by decide) at1 1048576 (by decide) HS4.out.2
    rwa [List.take_of_length_le (by have := scan_len at1 C; have := HS4.out.1.ris.2.2; show _ ≤ 1048576; omega)] at this)
  go_wp2_with fail
  refine CP4.out.mono ?_
  rintro e w5 ⟨vw, rfl, hr5, hb5⟩
  have HS5 : Hid (SG w1 (fun i => vw.ownBlock = some i) w5 s mb C 0 300) := Lib.hid (HS4.out.1.fresh hb5 (fun i hi => ⟨(hr5.lt i hi).2, .inl (hr5.lt i hi).1⟩))
  have HR5 := Lib.hid hr5
  have HX5 : Hid (w1.heap.size ≤ w4.heap.size) := Lib.hid HS4.out.1.bel.size
  have CB := Lib.hid (SE.begin (at1 := at1) HS5.out HR5.out HX5.out (fun i hi => hi))
  clear hr5 hb5 CP4 HS4
  go_wp2_with fail
  refine CB.out.mono ?_
  rintro e w6 ⟨tb, wb, rfl, h6⟩
  obtain ⟨A0, hA0⟩ : ∃ A0, A0 = scanC at1 C := ⟨_, rfl⟩
  rw [← hA0] at h6
  have H6 : Hid (SP w1 w6 s mb C 300 tb wb at1 A0 [] 0 vw A0) := Lib.hid ⟨⟨h6.sg, h6.t, owns_base h6.row HX5.out, ⟨h6.lo.1, h6.lo.2.1, Nat.le_refl _⟩, h6.bn⟩, hA0.symm, (saw_end A0).symm, by rw [hA0]; have := scan_len at1 C; have := h6.sg.ris.2.2; omega⟩
  clear h6 hA0 CB HS5 HR5 HX5
  obtain ⟨a0, c0, rfl, -⟩ := (rdp_ownP H6.out.se.row).form
  go_wp2_with fail
  go_loopw [9, 11] (fun vw i wr => ∃ (k : Nat) (C : ChC) (L : OwnL) (P : List PairT) (a : Option Addr) (c : Nat), k ≤ A.length ∧ vw = .slice a P.length c ∧ i = .int .i64 (k : Int) ∧ Hid (SP w1 wr s mb C (300 + k) tb wb at1 A0 L k (.slice a P.length c) P)) (fun _ i _ => A.length - (intOf i).toNat)
  case atStart => exact ⟨0, C, [], A0, a0, c0, Nat.zero_le _, rfl, rfl, H6⟩
  case round =>
    clear H6
    obtain ⟨k, C, L, P, a, c, hk, rfl, rfl, HG⟩ := hrel
    by_cases hlt : k < A.length
    · have g3 : decide ((k : Int) < (A.length : Int)) = true := decide_eq_true (by omega)
      have g3' : (k : Int) < (A.length : Int) := by omega
      have g4 : (0 : Int) ≤ (k : Int) := by omega
      have HW := Lib.hid (H1.out.trans (HG.out.se.bel.mono H1.out.size))
      obtain ⟨bA, oA, rfl, q0, q1, q2, q3⟩ := (HRA.out.up HW.out).get hlt
      obtain ⟨_, z2, z3, _⟩ := hsa _ (List.getElem_mem hlt)
      obtain ⟨o, ho⟩ : ∃ o, o = A[k] := ⟨_, rfl⟩
      rw [← ho] at q0 q1 q2 q3 z2 z3
      obtain ⟨kd, ky, yv, hi⟩ := o
      dsimp only at q0 q1 q2 q3 z2 z3
      clear ho HW
      go_upto_block 2 with fail
      obtain ⟨ob, hob⟩ : ∃ ob, ob = wr.heap.size := ⟨_, rfl⟩
      obtain ⟨w4, hw4⟩ : ∃ w4, w4 = wr.alloc (.cells #[.int .i64 kd, str ky, str yv, str hi] 36) := ⟨_, rfl⟩
      rw [← hw4, ← hob]
      have HX4 : Hid (SP w1 w4 s mb C (300 + k) tb wb at1 A0 L k (.slice a P.length c) P) := Lib.hid (HG.out.below (by rw [hw4]; exact below_alloc _ _))
      have HO4 : Hid (w4.heap[ob]? = some (.cells #[.int .i64 kd, str ky, str yv, str hi] 36 (0, 0))) := Lib.hid (by rw [hw4, hob]; exact heap_alloc_new _ _)
      have HNE : Hid (ob ≠ wb) := Lib.hid (by have := HG.out.se.t.lt.2; omega)
      have HOC : Hid (∀ W : World, W.heap[ob]? = some (.cells #[.int .i64 kd, str ky, str yv, str hi] 36 (0, 0)) → W.cell? ⟨ob, 0, none⟩ = some (.int .i64 kd) ∧ W.cell? ⟨ob, 1, none⟩ = some (str ky) ∧ W.cell? ⟨ob, 2, none⟩ = some (str yv)) := Lib.hid (fun W h => ⟨by simp [World.cell?, h], by simp [World.cell?, h], by simp [World.cell?, h]⟩)
      clear HG q0 q1 q2 q3 hw4 hob
      obtain ⟨q0, q1, q2⟩ := HOC.out _ HO4.out
      by_cases h0 : kd = 0
      · subst h0
        have CP := Lib.hid (sePut HX4.out.se (by omega) ky yv z2 z3)
        obtain ⟨Z, hZ⟩ : ∃ Z, Z = wrC L (ky, yv, false) := ⟨_, rfl⟩
        rw [← hZ] at CP
        have HZ := Lib.hid hZ
        clear z2 z3 hZ
        go_wp2_with fail
        refine CP.out.mono ?_
        rintro e w5 ⟨rfl, h5, hf5⟩
        have H5 := Lib.hid h5
        have HO5 := Lib.hid ((hf5.block ob (Array.getElem?_eq_some_iff.1 HO4.out).1 HNE.out).trans HO4.out)
        clear h5 hf5 CP q0 q1 q2 HO4
        by_cases hz : Z = 0
        · subst hz
          have CW := Lib.hid (spWith (key := ky) (v := yv) (gone := false) HX4.out (by have := H5.out; rwa [seL_yes HZ.out.symm] at this) (by omega))
          obtain ⟨q0, q1, q2⟩ := HOC.out _ HO5.out
          clear H5 HX4 HO5
          go_wp2_with fail
          refine CW.out.mono ?_
          rintro e w6 ⟨vo, P', rfl, h6, a', c', rfl⟩
          have H6 := Lib.hid (h6.wide (n' := 300 + (k + 1)) (by omega) (Nat.le_refl _))
          clear h6 CW
          go_wp2_with fail
          go_roundw
          case rel => exact ⟨k + 1, C, _, P', a', c', by omega, rfl, by go_num, H6⟩
          case measure => simp [intOf]; omega
        · have z9 : (Z == 0) = false := beq_eq_false_iff_ne.2 hz
          have H6 : Hid (SP w1 w5 s mb C (300 + (k + 1)) tb wb at1 A0 L (k + 1) (.slice a P.length c) P) := Lib.hid (by
            have h := H5.out
            rw [seL_no (by rw [← HZ.out]; exact hz)] at h
            exact ⟨h.wide (by omega) (Nat.le_refl _), HX4.out.sc, HX4.out.sw, by have := HX4.out.ln; omega⟩)
          clear H5 HX4 HO5
          go_wp2_with fail
          go_roundw
          case rel => exact ⟨k + 1, C, L, P, a, c, by omega, rfl, by go_num, H6⟩
          case measure => simp [intOf]; omega
      have k0 : (kd == 0) = false := beq_eq_false_iff_ne.2 h0
      by_cases h1 : kd = 1
      · subst h1
        have CP := Lib.hid (seDelete HX4.out.se (by omega) ky z2)
        obtain ⟨Z, hZ⟩ : ∃ Z, Z = wrC L (ky, [], true) := ⟨_, rfl⟩
        rw [← hZ] at CP
        have HZ := Lib.hid hZ
        clear z2 z3 hZ
        go_wp2_with fail
        refine CP.out.mono ?_
        rintro e w5 ⟨rfl, h5, hf5⟩
        have H5 := Lib.hid h5
        have HO5 := Lib.hid ((hf5.block ob (Array.getElem?_eq_some_iff.1 HO4.out).1 HNE.out).trans HO4.out)
        clear h5 hf5 CP q0 q1 q2 HO4
        by_cases hz : Z = 0
        · subst hz
          have CW := Lib.hid (spWith (key := ky) (v := []) (gone := true) HX4.out (by have := H5.out; rwa [seL_yes HZ.out.symm] at this) (by omega))
          obtain ⟨q0, q1, q2⟩ := HOC.out _ HO5.out
          clear H5 HX4 HO5
          go_wp2_with fail
          refine CW.out.mono ?_
          rintro e w6 ⟨vo, P', rfl, h6, a', c', rfl⟩
          have H6 := Lib.hid (h6.wide (n' := 300 + (k + 1)) (by omega) (Nat.le_refl _))
          clear h6 CW
          go_wp2_with fail
          go_roundw
          case rel => exact ⟨k + 1, C, _, P', a', c', by omega, rfl, by go_num, H6⟩
          case measure => simp [intOf]; omega
        · have z9 : (Z == 0) = false := beq_eq_false_iff_ne.2 hz
          have H6 : Hid (SP w1 w5 s mb C (300 + (k + 1)) tb wb at1 A0 L (k + 1) (.slice a P.length c) P) := Lib.hid (by
            have h := H5.out
            rw [seL_no (by rw [← HZ.out]; exact hz)] at h
            exact ⟨h.wide (by omega) (Nat.le_refl _), HX4.out.sc, HX4.out.sw, by have := HX4.out.ln; omega⟩)
          clear H5 HX4 HO5
          go_wp2_with fail
          go_roundw
          case rel => exact ⟨k + 1, C, L, P, a, c, by omega, rfl, by go_num, H6⟩
          case measure => simp [intOf]; omega
      have k1 : (kd == 1) = false := beq_eq_false_iff_ne.2 h1
      obtain ⟨la, hla⟩ : ∃ la, la = lastTVS (verC ky C) := ⟨_, rfl⟩
      have CL : Hid (∀ W, Hid (SP w1 W s mb C (300 + k) tb wb at1 A0 L k (.slice a P.length c) P ∧ W.heap[ob]? = some (.cells #[.int .i64 kd, str ky, str yv, str hi] 36 (0, 0))) → Calls Try.prog 24 #[.pointer (some ⟨s, 0, none⟩), str ky] W fun e W' => e = .returned (.int .i64 la) ∧ W = W') := Lib.hid (fun W h => by rw [hla]; exact seLast h.out.1.se (by omega) ky)
      have CPT : Hid (∀ W tm, Hid (SP w1 W s mb C (300 + k) tb wb at1 A0 L k (.slice a P.length c) P ∧ W.heap[ob]? = some (.cells #[.int .i64 kd, str ky, str yv, str hi] 36 (0, 0))) → at1 < tm → Calls Try.prog 25 #[.pointer (some ⟨s, 0, none⟩), .int .i64 tm, str ky, str yv] W fun e W' => ∃ z, e = .returned (.int .i64 z) ∧ ∃ C', Hid (SP w1 W' s mb C' (300 + (k + 1)) tb wb at1 A0 L (k + 1) (.slice a P.length c) P) ∧ W'.cell? ⟨ob, 1, none⟩ = some (str ky) ∧ W'.cell? ⟨ob, 2, none⟩ = some (str yv)) := Lib.hid (fun W tm h ht => (spStore h.out.1 (by omega) ky tm yv ht).mono (by
        rintro e W' ⟨z, rfl, h2, h3⟩
        exact ⟨z, rfl, _, Lib.hid (h2.wide (by omega) (Nat.le_succ k)), (HOC.out _ (h3 _ _ _ _ h.out.2 rfl)).2⟩))
      clear hla z2 z3
      have HX : Hid (SP w1 w4.drew s mb C (300 + k) tb wb at1 A0 L k (.slice a P.length c) P ∧ w4.drew.heap[ob]? = some (.cells #[.int .i64 kd, str ky, str yv, str hi] 36 (0, 0))) := Lib.hid ⟨HX4.out.below (Below.drewsN (Below.refl _ _) 1), HO4.out⟩
      clear HX4 HO4 HOC h0 h1
      go_wp2_with fail
      obtain ⟨M1, hM1⟩ : ∃ M1, M1 = (if la < at1 then at1 else la) := ⟨_, rfl⟩
      obtain ⟨M2, hM2⟩ : ∃ M2, M2 = (if 549755813888 < M1 then 549755813888 else M1) := ⟨_, rfl⟩
      have hm1 : at1 ≤ M1 := by rw [hM1]; split <;> omega
      have hm2 : at1 ≤ M2 ∧ M2 ≤ 549755813888 := by rw [hM2]; split <;> omega
      have wA := hM1.symm
      have wB := hM2.symm
      have wC : IntKind.i64.wrap (M2 + 1) = M2 + 1 := IntWalk.i64_in _ ⟨by omega, by omega⟩
      clear hM1 hM2
      go_region_held3 (fun w' => w'.cell? ⟨ob, 1, none⟩ = some (str ky) ∧ w'.cell? ⟨ob, 2, none⟩ = some (str yv))
        (first
          | (exact ⟨p1, p2⟩)
          | (exact ⟨q1, q2⟩)
          | go_keep)
        ((first
          | (go_at_call 24; refine (CL.out _ HX).mono ?_; rintro e w5 ⟨rfl, rfl⟩)
          | (go_at_call 25; refine (CPT.out _ _ HX (by omega)).mono ?_; rintro e w5 ⟨z, rfl, C', H5, p1, p2⟩)
          | fail))
      go_wp2_with fail
      go_roundw
      case rel => exact ⟨k + 1, C', L, P, a, c, by omega, rfl, by go_num, H5⟩
      case measure => simp [intOf]; omega
    · obtain rfl : k = A.length := by omega
      have g3 : decide ((A.length : Int) < (A.length : Int)) = false := decide_eq_false (by omega)
      have g3' : ¬ (A.length : Int) < (A.length : Int) := by omega
      go_wp2_with fail
      go_loopw [13] (fun i wr2 => ∃ (j : Nat), j ≤ P.length ∧ i = .int .i64 (j : Int) ∧ Hid (SP w1 wr2 s mb C (300 + A.length) tb wb at1 A0 L A.length (.slice a P.length c) P)) (fun i _ => P.length - (intOf i).toNat)
      case atStart => exact ⟨0, Nat.zero_le _, rfl, HG⟩
      case round =>
        clear HG
        obtain ⟨j, hj, rfl, HG⟩ := hrel
        have hPl : P.length ≤ 2000 + A.length := HG.out.ln
        by_cases hlt2 : j < P.length
        · have g5 : decide ((j : Int) < (P.length : Int)) = true := decide_eq_true (by omega)
          have g5' : (j : Int) < (P.length : Int) := by omega
          have g6 : (0 : Int) ≤ (j : Int) := by omega
          obtain ⟨bP, oP, rfl, c0, c1⟩ := RdP.get (rdp_ownP HG.out.se.row) hlt2
          have CG := Lib.hid (spGet HG.out (by omega) hlt2)
          obtain ⟨zk, hzk⟩ : ∃ z, z = P[j].1 := ⟨_, rfl⟩
          obtain ⟨zv, hzv⟩ : ∃ z, z = P[j].2 := ⟨_, rfl⟩
          rw [← hzk] at c0 CG
          rw [← hzv] at c1 CG
          have n1 : (zv != zv) = false := bne_self_eq_false _
          have hlt1 := World.block_lt_of_cell? wr _ c1
          clear hzk hzv
          go_wp2_with (go_at_call 18; refine CG.out.mono ?_; rintro e w9 ⟨rfl, hb9⟩; refine keepF ((hb9.cell (p := ⟨bP, oP + j * 2 + 1, none⟩) hlt1).trans c1) ?_; rintro c1; have HB9 := Lib.hid (HG.out.below hb9); clear hb9)
          go_roundw
          case rel => exact ⟨j + 1, by omega, by go_num, HB9⟩
          case measure => simp [intOf]; omega
        · obtain rfl : j = P.length := by omega
          have g5 : decide ((P.length : Int) < (P.length : Int)) = false := decide_eq_false (by omega)
          have g5' : ¬ (P.length : Int) < (P.length : Int) := by omega
          go_wp2_with fail
          refine (CF.out _).mono ?_
          rintro e wA ⟨rfl, hbA⟩
          have HA := Lib.hid (HG.out.below hbA)
          clear hbA HG
          go_wp2_with fail
          refine (ttScan HA.out.se.tt).mono ?_
          rintro e wB ⟨bB, rfl, hLB, hbB⟩
          have HBb := Lib.hid (HA.out.below hbB)
          have CPB := Lib.hid (spPairs HBb.out (by omega) (by omega) hLB)
          clear hLB hbB HA
          go_wp2_with fail
          refine CPB.out.mono ?_
          rintro e wC ⟨vx, rfl, hrx, hbx⟩
          have HC := Lib.hid (HBb.out.below hbx)
          have CAL := Lib.hid (alikePairs_any vx (.slice a P.length c) P wC (rdp_ownP hrx) (rdp_ownP HC.out.se.row))
          clear CPB hrx hbx HBb
          go_wp2_with fail
          refine CAL.out.mono ?_
          rintro e wD ⟨rfl, hbD⟩
          have HE := Lib.hid (H1.out.trans ((HC.out.below hbD).se.bel.mono H1.out.size))
          clear CAL hbD HC
          go_wp2_with fail
          go_ret
          exact ⟨rfl, HE.out⟩
end Go.Proofs.Ytcgjiddiegepkaa

/- TxnSees in the claim's order. -/
namespace Go.Proofs.Ytcgjiddiegepkaa
open Go.RowKit
theorem sees12_main (vv : Value) (l : List Op11) (at1 : Int) (va : Value) (A : List Op12) (w : World) (hv : Rd11 w vv l) (hsv : ∀ o ∈ l, o.ok) (hat : -9223372036854775808 ≤ at1 ∧ at1 ≤ 9223372036854775807) (ha : Rd12 w va A) (hsa : ∀ o ∈ A, o.ok) :
    Calls Try.prog 4 #[vv, .int .i64 at1, va] w fun e w' => e = .returned (.bool true) ∧ Below w.heap.size w w' :=
  sees12_walk vv l at1 va A w hv hsv ha hsa hat
end Go.Proofs.Ytcgjiddiegepkaa
