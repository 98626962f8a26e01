import Derived.Test.YtcgjiddiegepkaaOps12
import Derived.Test.YtcgjiddiegepkaaRfAddM
import Derived.Test.YtcgjiddiegepkaaTxTwoF
/- hblref.Writes of lists that read alike. -/
namespace Go.Proofs.Ytcgjiddiegepkaa
open Go.RowKit
abbrev RdW (w : World) (v : Value) (l : List WrT) : Prop := RdF 3 w v (l.map cellsWr)
theorem rdW_form {w : World} {v : Value} {l : List WrT} (h : RdW w v l) : ∃ a cap, v = .slice a l.length cap ∧ l.length ≤ 9223372036854775807 := by
  obtain ⟨a, cap, hv, h1, _⟩ := h
  rw [List.length_map] at hv h1
  exact ⟨a, cap, hv, h1⟩
theorem rdW_get {W : World} {a : Option Addr} {n c : Nat} {l : List WrT} (h : RdW W (.slice a n c) l) {i : Nat} (hi : i < l.length) : ∃ b off, a = some ⟨b, off, none⟩ ∧ W.cell? ⟨b, off + i * 3, none⟩ = some (str l[i].1) ∧ W.cell? ⟨b, off + i * 3 + 1, none⟩ = some (str l[i].2.1) ∧ W.cell? ⟨b, off + i * 3 + 2, none⟩ = some (.bool l[i].2.2) := by
  obtain ⟨a', c', he, _, _, _, h4⟩ := h
  simp only [Value.slice.injEq] at he
  obtain ⟨rfl, _, rfl⟩ := he
  obtain ⟨b, off, ha, hc⟩ := h4 (by intro e; rw [List.map_eq_nil_iff] at e; rw [e] at hi; simp at hi)
  have hi' : i < (l.map cellsWr).length := by simpa using hi
  exact ⟨b, off, ha, hc i hi' 0 _ (by simp [cellsWr]), hc i hi' 1 _ (by simp [cellsWr]), hc i hi' 2 _ (by simp [cellsWr])⟩
set_option maxHeartbeats 4000000 in
/-- Two lists of writes that read alike. -/
theorem alikeWrites_any (va vb : Value) (L : List WrT) (w : World) (ha : RdW w va L) (hb : RdW w vb L) :
    Calls Try.prog 34 #[va, vb] w fun e w' => e = .returned (.bool true) ∧ Below w.heap.size w w' := by
  obtain ⟨aa, ca, rfl, hl⟩ := rdW_form ha
  obtain ⟨ab, cb, rfl, _⟩ := rdW_form hb
  have HA := Lib.hid ha
  have HB := Lib.hid hb
  clear ha hb
  go_enter Try.func34, Try.ntmps34
  go_wp2_with fail
  go_loopw [5] (fun i wr => ∃ (k q : Nat), k ≤ L.length ∧ i = .int .i64 (k : Int) ∧ wr = w.drewN q) (fun i _ => L.length - (intOf i).toNat)
  case atStart => exact ⟨0, 0, Nat.zero_le _, rfl, rfl⟩
  case round =>
    obtain ⟨k, q, hk, rfl, rfl⟩ := hrel
    by_cases hlt : k < L.length
    · have g3 : (k : Int) < (L.length : Int) := by omega
      have g4 : (0 : Int) ≤ (k : Int) := by omega
      obtain ⟨bA, oA, rfl, c0, c1, c2⟩ := rdW_get HA.out hlt
      obtain ⟨bB, oB, rfl, e0, e1, e2⟩ := rdW_get HB.out hlt
      obtain ⟨⟨ck, cv, cg⟩, hc⟩ : ∃ c, c = L[k] := ⟨_, rfl⟩
      rw [← hc] at c0 c1 c2 e0 e1 e2
      dsimp only at c0 c1 c2 e0 e1 e2
      have n1 : (ck != ck) = false := bne_self_eq_false _
      have n2 : (cv != cv) = false := bne_self_eq_false _
      have n3 : (cg != cg) = false := bne_self_eq_false _
      clear hc HA HB
      go_wp2_with fail
      go_quiet (fail)
      go_wp2_with fail
      go_roundw
      case rel => exact ⟨k + 1, _, by omega, by go_num, rfl⟩
      case measure => simp [intOf]; omega
    · obtain rfl : k = L.length := by omega
      have g3 : ¬ (L.length : Int) < (L.length : Int) := by omega
      go_wp2_with fail
      go_ret
      exact ⟨rfl, Below.drewsN (Below.refl _ w) q⟩
end Go.Proofs.Ytcgjiddiegepkaa

/- TxnLast: plain facts: what is wanted is the transaction's own writes. -/
namespace Go.Proofs.Ytcgjiddiegepkaa
open Go.RowKit
/-- What is wanted behind a write. -/
theorem want_put {L : OwnL} {key : List UInt8} {w : WrT} {p : Nat} (hp : PlaceB key L p) : (insB key w L).map Prod.snd = if (∃ h : p < L.length, L[p].1 = key) then (L.map Prod.snd).take p ++ w :: (L.map Prod.snd).drop (p + 1) else (L.map Prod.snd).take p ++ w :: (L.map Prod.snd).drop p := by
  rw [insB_at key w hp]
  split <;> simp [List.map_take, List.map_drop]
/-- A key at its place. -/
theorem want_key {L : OwnL} (hk : ∀ x ∈ L, x.2.1 = x.1) {p : Nat} (h : p < L.length) : ((L.map Prod.snd)[p]'(by rw [List.length_map]; exact h)).1 = L[p].1 := by
  rw [List.getElem_map]
  exact hk _ (List.getElem_mem h)
end Go.Proofs.Ytcgjiddiegepkaa

/- TxnLast: what lies in a round: a store, two transactions, a row of writes, a write's box. -/
namespace Go.Proofs.Ytcgjiddiegepkaa
open Go.RowKit
theorem cellsWr_len (l : List WrT) : ∀ r ∈ l.map cellsWr, r.length = 3 := by
  intro r hr; obtain ⟨p, _, rfl⟩ := List.mem_map.1 hr; rfl
theorem one_cellsWr (l : List WrT) : ∀ u ∈ (l.map cellsWr).flatten, u.oneCell' = true := by
  intro u hu
  obtain ⟨r, hr, hu⟩ := List.mem_flatten.1 hu
  obtain ⟨p, _, rfl⟩ := List.mem_map.1 hr
  simp only [cellsWr, List.mem_cons, List.not_mem_nil, or_false] at hu
  rcases hu with rfl | rfl | rfl <;> rfl
theorem SG.turn2 {X W W' : World} {K K' F : Nat → Prop} {s mb : Nat} {C : ChC} {low : Int} {n : Nat} (h : SG X K W s mb C low n) (hf : Frm F W W') (h5 : ∀ i, F i → ∀ cs T z, W.heap[i]? = some (.cells cs T z) → cs.size ≠ 5) (hk : ∀ i, F i → K i) (hX : ∀ i, F i → X.heap.size ≤ i) (hK : ∀ i, K' i → i < W'.heap.size ∧ (W.heap.size ≤ i ∨ K i)) : SG X K' W' s mb C low n := by
  obtain ⟨t, S, h1, h2, h3, h4, h6⟩ := h
  refine ⟨t, S, h1.frm hf h5 (fun i hi hF => (h6 i (hk i hF)).2 hi), h2, ⟨hf.os.trans h3.os, hf.tape.trans h3.tape, hf.output.trans h3.output, Nat.le_trans h3.size hf.size, fun i hi => ?_⟩, h4, fun i hi => ⟨(hK i hi).1, fun e => ?_⟩⟩
  · rw [hf.block i (Nat.lt_of_lt_of_le hi h3.size) (fun hF => by have := hX i hF; omega)]
    exact h3.block i hi
  · rcases (hK i hi).2 with h | h
    · have := (h1.blk i e).2; omega
    · exact (h6 i h).2 e
/-- In the round. -/
structure LI (X W : World) (s mb : Nat) (C : ChC) (tb wb ub vb : Nat) (at1 : Int) (nb : Nat) (vw : Value) (R : List WrT) (L : OwnL) (k : Nat) : Prop where
  sg : SG X (fun i => K4 tb wb ub vb i ∨ vw.ownBlock = some i) W s mb C 0 300
  t : TxS W tb s wb at1 L k
  u : TxS W ub s vb at1 [] 0
  row : W.ownsRow nb 58 3 vw R.length (R.map cellsWr).flatten
  lo : X.heap.size ≤ tb ∧ X.heap.size ≤ wb ∧ X.heap.size ≤ ub ∧ X.heap.size ≤ vb ∧ X.heap.size ≤ nb
  ne : wb ≠ ub ∧ wb ≠ vb
  bn : tb < nb ∧ wb < nb ∧ ub < nb ∧ vb < nb
  nz : nb ≤ W.heap.size
variable {X W : World} {s mb : Nat} {C : ChC} {tb wb ub vb : Nat} {at1 : Int} {nb : Nat} {vw : Value} {R : List WrT} {L : OwnL} {k : Nat}
theorem LI.below {W' : World} (h : LI X W s mb C tb wb ub vb at1 nb vw R L k) (hb : Below W.heap.size W W') : LI X W' s mb C tb wb ub vb at1 nb vw R L k :=
  ⟨h.sg.below hb, h.t.below hb, h.u.below hb, owns_frm h.row (Frm.of_below (F := fun _ => False) hb) (fun _ _ h => h), h.lo, h.ne, h.bn, Nat.le_trans h.nz hb.size⟩
theorem LI.wide {k' : Nat} (h : LI X W s mb C tb wb ub vb at1 nb vw R L k) (hk : k ≤ k') : LI X W s mb C tb wb ub vb at1 nb vw R L k' := ⟨h.sg, h.t.wide hk, h.u, h.row, h.lo, h.ne, h.bn, h.nz⟩
theorem LI.ne4 (h : LI X W s mb C tb wb ub vb at1 nb vw R L k) {i : Nat} (hi : vw.ownBlock = some i) : nb ≤ i ∧ i < W.heap.size ∧ i ≠ tb ∧ i ≠ wb ∧ i ≠ ub ∧ i ≠ vb := by
  have := h.row.lt i hi
  have := h.bn
  omega
theorem LI.k4 (h : LI X W s mb C tb wb ub vb at1 nb vw R L k) {i : Nat} (hi : K4 tb wb ub vb i) : i < W.heap.size ∧ X.heap.size ≤ i ∧ i < nb := by
  have h1 := h.t.lt
  have h2 := h.u.lt
  have h3 := h.lo
  have h4 := h.bn
  rcases hi with rfl | rfl | rfl | rfl <;> omega
/-- The row turns. -/
theorem LI.turn {W' : World} {vw' : Value} {R' : List WrT} (h : LI X W s mb C tb wb ub vb at1 nb vw R L k) (hf : Frm (fun i => vw.ownBlock = some i) W W') (hr : W'.ownsRow nb 58 3 vw' R'.length (R'.map cellsWr).flatten) (hn : ∀ i, vw'.ownBlock = some i → vw.ownBlock = some i ∨ W.heap.size ≤ i) : LI X W' s mb C tb wb ub vb at1 nb vw' R' L k := by
  have hsz : ∀ m, m % 3 ≠ 0 → ∀ i, vw.ownBlock = some i → ∀ cs T z, W.heap[i]? = some (.cells cs T z) → cs.size ≠ m := by
    intro m hm i hi cs T z hc
    obtain ⟨cap, e⟩ := owns_size h.row hi hc
    omega
  refine ⟨h.sg.turn2 hf (hsz 5 (by decide)) (fun i hi => .inr hi) (fun i hi => Nat.le_trans h.lo.2.2.2.2 (h.ne4 hi).1) (fun i hi => ?_), h.t.frm hf (hsz 7 (by decide)) (fun e => (h.ne4 e).2.2.1 rfl) (fun e => (h.ne4 e).2.2.2.1 rfl), h.u.frm hf (hsz 7 (by decide)) (fun e => (h.ne4 e).2.2.2.2.1 rfl) (fun e => (h.ne4 e).2.2.2.2.2 rfl), hr, h.lo, h.ne, h.bn, Nat.le_trans h.nz hf.size⟩
  rcases hi with hi | hi
  · exact ⟨Nat.lt_of_lt_of_le (h.k4 hi).1 hf.size, .inr (.inl hi)⟩
  · refine ⟨(hr.lt i hi).2, ?_⟩
    rcases hn i hi with h1 | h1
    · exact .inr (.inr h1)
    · exact .inl h1
/-- With a write's box. -/
structure LX (X W : World) (s mb : Nat) (C : ChC) (tb wb ub vb : Nat) (at1 : Int) (nb : Nat) (vw : Value) (R : List WrT) (L : OwnL) (k wx : Nat) (w : WrT) : Prop where
  li : LI X W s mb C tb wb ub vb at1 nb vw R L k
  sg : SG X (fun i => (K4 tb wb ub vb i ∨ vw.ownBlock = some i) ∨ i = wx) W s mb C 0 300
  bx : W.heap[wx]? = some (.cells #[str w.1, str w.2.1, .bool w.2.2] 58 (0, 0))
  xn : nb ≤ wx ∧ vw.ownBlock ≠ some wx
variable {wx : Nat} {w : WrT}
theorem LX.below {W' : World} (h : LX X W s mb C tb wb ub vb at1 nb vw R L k wx w) (hb : Below W.heap.size W W') : LX X W' s mb C tb wb ub vb at1 nb vw R L k wx w :=
  ⟨h.li.below hb, h.sg.below hb, by rw [hb.block wx (Array.getElem?_eq_some_iff.1 h.bx).1]; exact h.bx, h.xn⟩
theorem LX.new {W1 W' : World} (h : LI X W s mb C tb wb ub vb at1 nb vw R L k) (hb : Below W.heap.size W W1) (hw : W' = W1.alloc (.cells #[str w.1, str w.2.1, .bool w.2.2] 58)) : LX X W' s mb C tb wb ub vb at1 nb vw R L k W1.heap.size w := by
  subst hw
  have h1 := h.below hb
  have hB : Below W1.heap.size W1 (W1.alloc (.cells #[str w.1, str w.2.1, .bool w.2.2] 58)) := below_alloc _ _
  refine ⟨h1.below hB, h1.sg.fresh hB (fun i hi => ?_), heap_alloc_new _ _, ?_, fun e => ?_⟩
  · rcases hi with (hi | hi) | rfl
    · exact ⟨Nat.lt_of_lt_of_le (h1.k4 hi).1 hB.size, .inr (.inl hi)⟩
    · exact ⟨Nat.lt_of_lt_of_le (h1.ne4 hi).2.1 hB.size, .inr (.inr hi)⟩
    · exact ⟨by simp, .inl (Nat.le_refl _)⟩
  · exact h1.nz
  · have := (h1.ne4 e).2.1; omega
theorem LX.three (h : LX X W s mb C tb wb ub vb at1 nb vw R L k wx w) : W.cell? ⟨wx, 0, none⟩ = some (str w.1) ∧ W.cell? ⟨wx, 1, none⟩ = some (str w.2.1) ∧ W.cell? ⟨wx, 2, none⟩ = some (.bool w.2.2) := by
  have h' := h.bx
  exact ⟨by simp [World.cell?, h'], by simp [World.cell?, h'], by simp [World.cell?, h']⟩
theorem LX.ne4 (h : LX X W s mb C tb wb ub vb at1 nb vw R L k wx w) : wx ≠ tb ∧ wx ≠ wb ∧ wx ≠ ub ∧ wx ≠ vb ∧ wx < W.heap.size := by
  have := h.xn.1
  have := h.li.bn
  have := (Array.getElem?_eq_some_iff.1 h.bx).1
  omega
/-- The box is written anew. -/
theorem LX.set {W' : World} {w' : WrT} (h : LX X W s mb C tb wb ub vb at1 nb vw R L k wx w) (hw : W' = ((W.setCell ⟨wx, 0, none⟩ (str w'.1)).setCell ⟨wx, 1, none⟩ (str w'.2.1)).setCell ⟨wx, 2, none⟩ (.bool w'.2.2)) : LX X W' s mb C tb wb ub vb at1 nb vw R L k wx w' := by
  have f1 : Frm (fun i => i = wx) W (W.setCell ⟨wx, 0, none⟩ (str w'.1)) := Frm.set _ rfl
  have f2 := f1.trans (Frm.set (F := fun i => i = wx) (j := 1) (str w'.2.1) rfl) (fun _ _ h => h)
  have f3 := f2.trans (Frm.set (F := fun i => i = wx) (j := 2) (.bool w'.2.2) rfl) (fun _ _ h => h)
  rw [← hw] at f3
  have hs : ∀ m, m ≠ 3 → ∀ i, i = wx → ∀ cs T z, W.heap[i]? = some (.cells cs T z) → cs.size ≠ m := by
    rintro m hm i rfl cs T z hc
    rw [h.bx] at hc
    simp only [Option.some.injEq, Obj.cells.injEq] at hc
    rw [← hc.1]
    simpa using fun e => hm e.symm
  have hsg := h.sg.turn f3 (hs 5 (by decide)) (fun i hi => .inr hi) (fun i hi => by cases hi; exact Nat.le_trans h.li.lo.2.2.2.2 h.xn.1)
  have hn := h.ne4
  refine ⟨⟨hsg.weak (fun i hi => .inl hi), h.li.t.frm f3 (hs 7 (by decide)) (fun e => hn.1 e.symm) (fun e => hn.2.1 e.symm), h.li.u.frm f3 (hs 7 (by decide)) (fun e => hn.2.2.1 e.symm) (fun e => hn.2.2.2.1 e.symm), owns_frm h.li.row f3 (fun i hi e => h.xn.2 (by rw [← e]; exact hi)), h.li.lo, h.li.ne, h.li.bn, Nat.le_trans h.li.nz f3.size⟩, hsg, ?_, h.xn⟩
  have b1 := heap_setCell_same W wx 0 _ _ (str w'.1) h.bx
  have b2 := heap_setCell_same _ wx 1 _ _ (str w'.2.1) b1
  have b3 := heap_setCell_same _ wx 2 _ _ (.bool w'.2.2) b2
  rw [hw, b3]
  simp
theorem LX.wrote {W' : World} {L' : OwnL} {k' : Nat} (h : LX X W s mb C tb wb ub vb at1 nb vw R L k wx w) (h1 : TxS W' tb s wb at1 L' k') (h2 : Frm (fun i => i = wb) W W') : LX X W' s mb C tb wb ub vb at1 nb vw R L' k' wx w := by
  have hsg := h.sg.turn h2 (h.li.t.seven 5 (by decide)) (fun i hi => .inl (.inl (.inr (.inl hi)))) (fun i hi => by cases hi; exact h.li.lo.2.1)
  exact ⟨⟨hsg.weak (fun i hi => .inl hi), h1, h.li.u.frm h2 (h.li.t.seven 7 (by decide)) (fun e => h.li.ne.1 e.symm) (fun e => h.li.ne.2 e.symm), owns_frm h.li.row h2 (fun i hi e => (h.li.ne4 hi).2.2.2.1 e), h.li.lo, h.li.ne, h.li.bn, Nat.le_trans h.li.nz h2.size⟩, hsg, by rw [h2.block wx (Array.getElem?_eq_some_iff.1 h.bx).1 h.ne4.2.1]; exact h.bx, h.xn⟩
theorem lxPut (h : LX X W s mb C tb wb ub vb at1 nb vw R L k wx w) (hk : k ≤ 100000) (x y : List UInt8) (hx : x.length ≤ 9223372036854775807) (hy : y.length ≤ 9223372036854775807) :
    Calls Try.prog 14 #[.pointer (some ⟨tb, 0, none⟩), str x, str y] W fun e W' => e = .returned (.int .i64 (wrC L (x, y, false))) ∧ LX X W' s mb C tb wb ub vb at1 nb vw R (wrL L (x, y, false)) (k + 1) wx w := by
  refine (txPut h.li.t hk x y hx hy).mono ?_
  rintro e W' ⟨rfl, h1, h2⟩
  exact ⟨rfl, h.wrote h1 h2⟩
theorem lxDelete (h : LX X W s mb C tb wb ub vb at1 nb vw R L k wx w) (hk : k ≤ 100000) (x : List UInt8) (hx : x.length ≤ 9223372036854775807) :
    Calls Try.prog 16 #[.pointer (some ⟨tb, 0, none⟩), str x] W fun e W' => e = .returned (.int .i64 (wrC L (x, [], true))) ∧ LX X W' s mb C tb wb ub vb at1 nb vw R (wrL L (x, [], true)) (k + 1) wx w := by
  refine (txDelete h.li.t hk x hx).mono ?_
  rintro e W' ⟨rfl, h1, h2⟩
  exact ⟨rfl, h.wrote h1 h2⟩
theorem LI.tt (h : LI X W s mb C tb wb ub vb at1 nb vw R L k) : TT X W s mb C 0 300 tb wb at1 L k :=
  ⟨h.sg.weak (fun i hi => by rcases hi with hi | hi; exact .inl (.inl hi); exact .inl (.inr (.inl hi))), h.t, h.lo.1, h.lo.2.1⟩
theorem LI.ut (h : LI X W s mb C tb wb ub vb at1 nb vw R L k) : TT X W s mb C 0 300 ub vb at1 [] 0 :=
  ⟨h.sg.weak (fun i hi => by rcases hi with hi | hi; exact .inl (.inr (.inr (.inl hi))); exact .inl (.inr (.inr (.inr hi)))), h.u, h.lo.2.2.1, h.lo.2.2.2.1⟩
/-- Reading changes nothing. -/
theorem ttGet' {low : Int} {n : Nat} (h : TT X W s mb C low n tb wb at1 L k) (hn : n ≤ 10000) (key : List UInt8) :
    Calls Try.prog 18 #[.pointer (some ⟨tb, 0, none⟩), str key] W fun e W' => (∃ x y, e = .returned (.tuple #[x, y])) ∧ Below W.heap.size W W' := by
  refine (ttGet h hn key).mono ?_
  rintro e W' ⟨rfl, hb⟩
  refine ⟨?_, hb⟩
  unfold txG
  cases getB key L with
  | some x => exact ⟨_, _, rfl⟩
  | none =>
    dsimp only
    unfold seenEVS
    cases seenVS (verC key C) at1 <;> exact ⟨_, _, rfl⟩
/-- A write stored cell by cell. -/
theorem set_wr {p : Nat} {w : WrT} (hp : p < R.length) : (((R.map cellsWr).flatten.set (p * 3) (str w.1)).set (p * 3 + 1) (str w.2.1)).set (p * 3 + 2) (.bool w.2.2) = ((R.set p w).map cellsWr).flatten := by
  have hp' : p < (R.map cellsWr).length := by simpa using hp
  have q1 := flat_set 3 _ (cellsWr_len R) p hp' 0 (by decide) (str w.1)
  rw [Nat.add_zero] at q1
  rw [q1]
  have hl1 : ∀ r ∈ (R.map cellsWr).set p ((R.map cellsWr)[p].set 0 (str w.1)), r.length = 3 := fun r hr => by
    rcases List.mem_or_eq_of_mem_set hr with hr | rfl
    · exact cellsWr_len R r hr
    · rw [List.length_set]; exact cellsWr_len R _ (List.getElem_mem hp')
  rw [flat_set 3 _ hl1 p (by simpa using hp) 1 (by decide)]
  have hl2 : ∀ r ∈ ((R.map cellsWr).set p ((R.map cellsWr)[p].set 0 (str w.1))).set p ((((R.map cellsWr).set p ((R.map cellsWr)[p].set 0 (str w.1)))[p]'(by simpa using hp)).set 1 (str w.2.1)), r.length = 3 := fun r hr => by
    rcases List.mem_or_eq_of_mem_set hr with hr | rfl
    · exact hl1 r hr
    · rw [List.length_set]; exact hl1 _ (List.getElem_mem _)
  rw [flat_set 3 _ hl2 p (by simpa using hp) 2 (by decide), List.map_set]
  simp [cellsWr]
/-- What is wanted behind a write, in its place. -/
theorem LI.setw {W8 : World} {g cap p : Nat} {w : WrT} (h : LI X W s mb C tb wb ub vb at1 nb (.slice (some ⟨g, 0, none⟩) R.length cap) R L k) (hp : p < R.length) (hw : W8 = ((W.setCell ⟨g, p * 3, none⟩ (str w.1)).setCell ⟨g, p * 3 + 1, none⟩ (str w.2.1)).setCell ⟨g, p * 3 + 2, none⟩ (.bool w.2.2)) :
    LI X W8 s mb C tb wb ub vb at1 nb (.slice (some ⟨g, 0, none⟩) R.length cap) (R.set p w) L k := by
  have f1 : Frm (fun i => i = g) W (W.setCell ⟨g, p * 3, none⟩ (str w.1)) := Frm.set _ rfl
  have f2 := f1.trans (Frm.set (F := fun i => i = g) (j := p * 3 + 1) (str w.2.1) rfl) (fun _ _ h => h)
  have f3 := f2.trans (Frm.set (F := fun i => i = g) (j := p * 3 + 2) (.bool w.2.2) rfl) (fun _ _ h => h)
  rw [← hw] at f3
  have s1 := (World.ownsRow.stored h.row (p * 3) (str w.1)).1
  have s2 := (World.ownsRow.stored s1 (p * 3 + 1) (str w.2.1)).1
  have s3 := (World.ownsRow.stored s2 (p * 3 + 2) (.bool w.2.2)).1
  have e1 := set_wr (R := R) (w := w) hp
  rw [e1, ← hw] at s3
  refine h.turn (f3.mono (fun i _ hi => by rw [hi]; rfl)) ?_ (fun i hi => .inl hi)
  rw [List.length_set]
  exact s3
/-- Inserted. -/
theorem ins_wr {W : World} {B g c p : Nat} {w : WrT} (hp : p ≤ R.length) (h : W.ownsRow B 58 3 (.slice (some ⟨g, 0, none⟩) (p + ((w :: R.drop p).map cellsWr).length) c) (p + ((w :: R.drop p).map cellsWr).length) (((R.map cellsWr).take p).flatten ++ ((w :: R.drop p).map cellsWr).flatten)) :
    W.ownsRow B 58 3 (.slice (some ⟨g, 0, none⟩) (R.length + 1) c) (R.take p ++ w :: R.drop p).length ((R.take p ++ w :: R.drop p).map cellsWr).flatten := by
  have e : p + ((w :: R.drop p).map cellsWr).length = R.length + 1 := by simp; omega
  have e2 : (R.take p ++ w :: R.drop p).length = R.length + 1 := by simp; omega
  rw [e] at h
  rw [e2, List.map_append, List.flatten_append, List.map_take]
  exact h
theorem LI.ahead {g cap p : Nat} (h : LI X W s mb C tb wb ub vb at1 nb (.slice (some ⟨g, 0, none⟩) R.length cap) R L k) (hp : p ≤ R.length) : W.ownsRow nb 58 3 (.slice (some ⟨g, 0, none⟩) p cap) p ((R.map cellsWr).take p).flatten := by
  have := row_takeF h.row hp
  rwa [flat_take 3 _ (cellsWr_len R)] at this
theorem LI.behind {g cap p : Nat} (h : LI X W s mb C tb wb ub vb at1 nb (.slice (some ⟨g, 0, none⟩) R.length cap) R L k) (hp : p ≤ R.length) : RdF 3 W (.slice (if cap = p then (some ⟨g, 0, none⟩ : Option Addr) else some ⟨g, p * 3, none⟩) (R.length - p) (cap - p)) ((R.drop p).map cellsWr) := by
  have := rdf_behind (sz := 3) (p := p) (cellsWr_len R) (by simpa using h.row) (by simpa using hp) rfl
  simpa [List.map_drop] using this
theorem ite_noneW {g p cap n m c : Nat} (h : (Value.slice (if cap = p then (some ⟨g, 0, none⟩ : Option Addr) else some ⟨g, p * 3, none⟩) n m) = .slice none 0 c) : c = 0 := by
  split at h <;> simp at h
theorem ins_rowW {W : World} {base g c p : Nat} {w : WrT} (h : W.ownsRow base 58 3 (.slice (some ⟨g, 0, none⟩) (1 + ((R.drop p).map cellsWr).length) c) (1 + ((R.drop p).map cellsWr).length) (cellsWr w ++ ((R.drop p).map cellsWr).flatten)) (m : Nat) (hm : m = 1 + (R.length - p)) :
    RdF 3 W (.slice (some ⟨g, 0, none⟩) m c) ((w :: R.drop p).map cellsWr) := by
  subst hm
  have e : ((w :: R.drop p).map cellsWr).length = 1 + ((R.drop p).map cellsWr).length := by simp; omega
  have e2 : ((R.drop p).map cellsWr).length = R.length - p := by simp
  rw [← e2, ← e]
  rw [← e] at h
  exact RdF.of_row (cellsWr_len _) (by simpa using h)
end Go.Proofs.Ytcgjiddiegepkaa

/- hblref11's Txn as it lies. -/
namespace Go.Proofs.Ytcgjiddiegepkaa
open Go.RowKit
/-- The document's transaction: its box, its writes in a row of their own. -/
structure RT (W : World) (B rb b : Nat) (at1 : Int) (vo : Value) (L : OwnL) : Prop where
  box : W.heap[rb]? = some (.cells #[.pointer (some ⟨b, 0, none⟩), .int .i64 at1, vo] 77 (0, 0))
  row : W.ownsRow B 58 3 vo L.length ((L.map Prod.snd).map cellsWr).flatten
  rs : RisB L
  kk : ∀ x ∈ L, x.2.1 = x.1
  ln : L.length ≤ 1000
  lt : B ≤ rb
variable {W : World} {B rb b : Nat} {at1 : Int} {vo : Value} {L : OwnL}
theorem RT.blt (h : RT W B rb b at1 vo L) : rb < W.heap.size := (Array.getElem?_eq_some_iff.1 h.box).1
theorem RT.cells (h : RT W B rb b at1 vo L) : W.cell? ⟨rb, 0, none⟩ = some (.pointer (some ⟨b, 0, none⟩)) ∧ W.cell? ⟨rb, 1, none⟩ = some (.int .i64 at1) ∧ W.cell? ⟨rb, 2, none⟩ = some vo ∧ W.frozen? ⟨rb, 2, none⟩ = false := by
  have hb := h.box
  exact ⟨by simp [World.cell?, hb], by simp [World.cell?, hb], by simp [World.cell?, hb], frozen_of_row W rb 2 _ _ hb⟩
theorem RT.ne (h : RT W B rb b at1 vo L) : vo.ownBlock ≠ some rb := by
  intro e
  rcases h.row.2 with ⟨rfl, _⟩ | ⟨g, cap, cur, rfl, _, hg, _⟩
  · cases e
  · simp only [Value.ownBlock, Option.some.injEq] at e
    subst e
    rw [h.box] at hg
    simp at hg
/-- The blocks that a call of it may turn. -/
def BlkT (rb : Nat) (vo : Value) (k : Nat) : Prop := k = rb ∨ vo.ownBlock = some k
theorem RT.blk (h : RT W B rb b at1 vo L) : ∀ k, BlkT rb vo k → B ≤ k ∧ k < W.heap.size := by
  intro k hk
  rcases hk with rfl | hk
  · exact ⟨h.lt, h.blt⟩
  · exact h.row.lt k hk
theorem RT.sz (h : RT W B rb b at1 vo L) (m : Nat) (hm : m % 3 ≠ 0) : ∀ k, BlkT rb vo k → ∀ cs T z, W.heap[k]? = some (.cells cs T z) → cs.size ≠ m := by
  intro k hk cs T z hc
  rcases hk with rfl | hk
  · rw [h.box] at hc
    simp only [Option.some.injEq, Obj.cells.injEq] at hc
    rw [← hc.1]
    rintro rfl
    simp at hm
  · obtain ⟨cap, e⟩ := owns_size h.row hk hc
    omega
theorem RT.frm {F : Nat → Prop} {W' : World} (h : RT W B rb b at1 vo L) (hf : Frm F W W') (hb : ∀ k, BlkT rb vo k → ¬ F k) : RT W' B rb b at1 vo L :=
  ⟨by rw [hf.block rb h.blt (hb rb (.inl rfl))]; exact h.box, owns_frm h.row hf (fun k hk => hb k (.inr hk)), h.rs, h.kk, h.ln, h.lt⟩
theorem RT.below {W' : World} (h : RT W B rb b at1 vo L) (hb : Below W.heap.size W W') : RT W' B rb b at1 vo L := h.frm (F := fun _ => False) (Frm.of_below hb) (fun _ _ h => h)
theorem RT.rd (h : RT W B rb b at1 vo L) : RdW W vo (L.map Prod.snd) := RdF.of_row (cellsWr_len _) (by simpa using h.row)
theorem RT.form (h : RT W B rb b at1 vo L) : ∃ a cap, vo = .slice a L.length cap := by
  obtain ⟨a, cap, hv, _⟩ := rdW_form h.rd
  exact ⟨a, cap, by rw [hv, List.length_map]⟩
/-- A write of the row. -/
theorem RT.get (h : RT W B rb b at1 vo L) {p : Nat} (hp : p < L.length) : ∃ g cap, vo = .slice (some ⟨g, 0, none⟩) L.length cap ∧ L.length ≤ cap ∧ W.cell? ⟨g, p * 3, none⟩ = some (str L[p].1) ∧ W.cell? ⟨g, p * 3 + 1, none⟩ = some (str L[p].2.2.1) ∧ W.cell? ⟨g, p * 3 + 2, none⟩ = some (.bool L[p].2.2.2) ∧ W.frozen? ⟨g, p * 3, none⟩ = false ∧ W.frozen? ⟨g, p * 3 + 1, none⟩ = false ∧ W.frozen? ⟨g, p * 3 + 2, none⟩ = false := by
  have hrow := h.row
  rcases h.row.2 with ⟨_, h0⟩ | ⟨g, cap, cur, rfl, _, _, hcap, _⟩
  · omega
  · have hp' : p < (L.map Prod.snd).length := by rwa [List.length_map]
    obtain ⟨b', off, hb, c0, c1, c2⟩ := rdW_get (by have := h.rd; exact this) hp'
    simp only [Option.some.injEq, Addr.mk.injEq, and_true] at hb
    obtain ⟨rfl, rfl⟩ := hb
    rw [Nat.zero_add] at c0 c1 c2
    rw [want_key h.kk hp] at c0
    simp only [List.getElem_map] at c1 c2
    exact ⟨_, cap, rfl, hcap, c0, c1, c2, row_free hrow _, row_free hrow _, row_free hrow _⟩
/-- What a call that writes leaves. -/
def WrtP (W : World) (B rb b : Nat) (at1 : Int) (vo : Value) (L : OwnL) (w : WrT) (e : Ending) (W' : World) : Prop :=
  e = .returned (.int .i64 (wrC L w)) ∧ ∃ vo', RT W' B rb b at1 vo' (wrL L w) ∧ Frm (BlkT rb vo) W W' ∧ ∀ k, BlkT rb vo' k → BlkT rb vo k ∨ W.heap.size ≤ k
theorem wrtP_no {w : WrT} {c : Int} (h : RT W B rb b at1 vo L) (hc : wrC L w = c) (h0 : c ≠ 0) {W' : World} (hb : Below W.heap.size W W') : WrtP W B rb b at1 vo L w (.returned (.int .i64 c)) W' := by
  subst hc
  exact ⟨rfl, vo, by unfold wrL; rw [if_neg h0]; exact h.below hb, Frm.of_below hb, fun k hk => .inl hk⟩
/-- Set in its place. -/
theorem RT.setw {W1 W8 : World} {g cap p : Nat} {ky y : List UInt8} {gn : Bool} (h : RT W B rb b at1 (.slice (some ⟨g, 0, none⟩) L.length cap) L) (hb : Below W.heap.size W W1) (hP : PlaceB ky L p) (hp : p < L.length) (hk : L[p].1 = ky) (hz : wrC L (ky, y, gn) = 0) (hw : W8 = ((W1.setCell ⟨g, p * 3, none⟩ (str ky)).setCell ⟨g, p * 3 + 1, none⟩ (str y)).setCell ⟨g, p * 3 + 2, none⟩ (.bool gn)) :
    WrtP W B rb b at1 (.slice (some ⟨g, 0, none⟩) L.length cap) L (ky, y, gn) (.returned (.int .i64 0)) W8 := by
  have h1 := h.below hb
  have f1 : Frm (fun i => i = g) W1 (W1.setCell ⟨g, p * 3, none⟩ (str ky)) := Frm.set _ rfl
  have f2 := f1.trans (Frm.set (F := fun i => i = g) (j := p * 3 + 1) (str y) rfl) (fun _ _ h => h)
  have f3 := f2.trans (Frm.set (F := fun i => i = g) (j := p * 3 + 2) (.bool gn) rfl) (fun _ _ h => h)
  rw [← hw] at f3
  have s1 := (World.ownsRow.stored h1.row (p * 3) (str ky)).1
  have s2 := (World.ownsRow.stored s1 (p * 3 + 1) (str y)).1
  have s3 := (World.ownsRow.stored s2 (p * 3 + 2) (.bool gn)).1
  have hp' : p < (L.map Prod.snd).length := by rwa [List.length_map]
  have e1 := set_wr (R := L.map Prod.snd) (w := (ky, y, gn)) hp'
  dsimp only at e1
  rw [e1, ← hw] at s3
  have e2 := want_put (w := (ky, y, gn)) hP
  rw [if_pos ⟨hp, hk⟩] at e2
  have e3 : (L.map Prod.snd).set p (ky, y, gn) = (insB ky (ky, y, gn) L).map Prod.snd := by rw [e2, List.set_eq_take_append_cons_drop, if_pos hp']
  rw [e3] at s3
  have el : (insB ky (ky, y, gn) L).length = L.length := by
    have := congrArg List.length e3
    simpa using this.symm
  have hL : wrL L (ky, y, gn) = insB ky (ky, y, gn) L := if_pos hz
  refine ⟨by rw [hz], .slice (some ⟨g, 0, none⟩) L.length cap, ?_, (Frm.of_below (F := BlkT rb (.slice (some ⟨g, 0, none⟩) L.length cap)) hb).trans f3 (fun i _ e => .inr (by rw [e]; rfl)), fun k hk => .inl hk⟩
  rw [hL]
  have hgb : rb ≠ g := fun e => h1.ne (by rw [e]; rfl)
  refine ⟨by rw [f3.block rb h1.blt hgb]; exact h1.box, by rw [el]; exact s3, insB_ris h.rs, fun x hx => ?_, by rw [el]; exact h.ln, h.lt⟩
  rcases insB_mem h.rs x hx with rfl | ⟨hx, _⟩
  · rfl
  · exact h.kk x hx
/-- Inserted: the new row, laid into the box. -/
theorem RT.insw {W6 : World} {p : Nat} {g c : Nat} {ky y : List UInt8} {gn : Bool} (h : RT W B rb b at1 vo L) (hP : PlaceB ky L p) (hno : ¬ ∃ hp : p < L.length, L[p].1 = ky) (hz : wrC L (ky, y, gn) = 0) (hL : L.length + 1 ≤ 1000)
    (h6 : W6.ownsRow B 58 3 (.slice (some ⟨g, 0, none⟩) (L.length + 1) c) ((L.map Prod.snd).take p ++ (ky, y, gn) :: (L.map Prod.snd).drop p).length (((L.map Prod.snd).take p ++ (ky, y, gn) :: (L.map Prod.snd).drop p).map cellsWr).flatten) (hf : Frm (fun k => vo.ownBlock = some k) W W6) (hl : vo.ownBlock = some g ∨ W.heap.size ≤ g) :
    WrtP W B rb b at1 vo L (ky, y, gn) (.returned (.int .i64 0)) (W6.setCell ⟨rb, 2, none⟩ (.slice (some ⟨g, 0, none⟩) (L.length + 1) c)) ∧ W6.cell? ⟨rb, 2, none⟩ = some vo ∧ W6.frozen? ⟨rb, 2, none⟩ = false := by
  have hb6 : W6.heap[rb]? = some (.cells #[.pointer (some ⟨b, 0, none⟩), .int .i64 at1, vo] 77 (0, 0)) := by rw [hf.block rb h.blt (fun e => h.ne e)]; exact h.box
  have e2 := want_put (w := (ky, y, gn)) hP
  rw [if_neg hno] at e2
  have el : (insB ky (ky, y, gn) L).length = L.length + 1 := by
    have := congrArg List.length e2
    simp only [List.length_append, List.length_cons, List.length_take, List.length_drop, List.length_map] at this
    have := hP.le
    omega
  rw [← e2, List.length_map, el] at h6
  have hLw : wrL L (ky, y, gn) = insB ky (ky, y, gn) L := if_pos hz
  have hgb : (Value.slice (some ⟨g, 0, none⟩) (L.length + 1) c).ownBlock ≠ some rb := by
    intro e
    simp only [Value.ownBlock, Option.some.injEq] at e
    subst e
    rcases h6.2 with ⟨h', _⟩ | ⟨g', cap', cur, h', _, hg, _⟩
    · simp at h'
    · simp only [Value.slice.injEq, Option.some.injEq, Addr.mk.injEq, and_true] at h'
      obtain ⟨rfl, _⟩ := h'
      rw [hb6] at hg
      simp at hg
  have fs : Frm (fun i => i = rb) W6 (W6.setCell ⟨rb, 2, none⟩ (.slice (some ⟨g, 0, none⟩) (L.length + 1) c)) := Frm.set _ rfl
  refine ⟨⟨by rw [hz], .slice (some ⟨g, 0, none⟩) (L.length + 1) c, ?_, (hf.mono (fun i _ e => Or.inr e)).trans fs (fun i _ e => .inl e), fun k hk => ?_⟩, by simp [World.cell?, hb6], frozen_of_row W6 rb 2 _ _ hb6⟩
  · rw [hLw]
    refine ⟨?_, by rw [el]; exact owns_frm h6 fs (fun k hk e => hgb (by rw [← e]; exact hk)), insB_ris h.rs, fun x hx => ?_, by rw [el]; exact hL, h.lt⟩
    · have := heap_setCell_same W6 rb 2 _ _ (Value.slice (some ⟨g, 0, none⟩) (L.length + 1) c) hb6
      rw [this]
      simp
    · rcases insB_mem h.rs x hx with rfl | ⟨hx, _⟩
      · rfl
      · exact h.kk x hx
  · rcases hk with rfl | e
    · exact .inl (.inl rfl)
    · simp only [Value.ownBlock, Option.some.injEq] at e
      subst e
      rcases hl with hl | hl
      · exact .inl (.inr hl)
      · exact .inr hl
end Go.Proofs.Ytcgjiddiegepkaa
