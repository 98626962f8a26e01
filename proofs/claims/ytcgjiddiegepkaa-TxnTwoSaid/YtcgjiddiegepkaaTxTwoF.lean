import Derived.Test.YtcgjiddiegepkaaTxJb
import Derived.Test.YtcgjiddiegepkaaOps11
import Derived.Laws.Cover1
import Derived.Deep.RegionHeld3
import Derived.Deep.CutRange
import Derived.Deep.CutBlock
import Derived.Test.YtcgjiddiegepkaaOps12
/- hbllaw12.stores. -/
namespace Go.Proofs.Ytcgjiddiegepkaa
open Go.RowKit
/-- What an operation leaves. -/
def stepC (C : ChC) (o : Op11) : ChC := if 1000 < o.key.length ∨ 1000 < o.v.length then C else if o.kind = 0 then putC C 0 o.key (o.at1, o.v, false) else if o.kind = 1 then putC C 0 o.key (o.at1, [], true) else C
def foldC (l : List Op11) : ChC := l.foldl stepC []
def storesC (l : List Op11) : ChC := foldC (l.take 300)
theorem foldC_snoc (l : List Op11) (k : Nat) (hk : k < l.length) : foldC (l.take (k + 1)) = stepC (foldC (l.take k)) l[k] := by
  unfold foldC
  rw [List.take_succ_eq_append_getElem hk, List.foldl_append]; rfl
variable {X W : World} {B s mb b : Nat} {C D : ChC} {low dow : Int} {n : Nat}
theorem JB.c5 {ob : Nat} {a0 a1 a2 a3 a4 : Value} (h : JB X B W s mb b C low D dow n ob #[a0, a1, a2, a3, a4]) : W.cell? ⟨ob, 0, none⟩ = some a0 ∧ W.cell? ⟨ob, 1, none⟩ = some a1 ∧ W.cell? ⟨ob, 2, none⟩ = some a2 ∧ W.cell? ⟨ob, 3, none⟩ = some a3 := ⟨h.cell 0, h.cell 1, h.cell 2, h.cell 3⟩
theorem JS.wide {n' : Nat} (h : JS X B W s mb b C low D dow n) (hn : n ≤ n') : JS X B W s mb b C low D dow n' := by
  obtain ⟨vo, R, h1, h2, h3⟩ := h
  exact ⟨vo, R, h1.wide hn, h2, h3⟩
theorem JS.bel (h : JS X B W s mb b C low D dow n) : Below X.heap.size X W := by
  obtain ⟨vo, R, h1, h2, h3⟩ := h
  exact h1.bel
theorem JS.bnd (h : JS X B W s mb b C low D dow n) : C.length ≤ n ∧ totC C ≤ n := by
  obtain ⟨vo, R, h1, h2, h3⟩ := h
  have hh := h1.ris.2.2
  obtain ⟨t, S, _, _, _, h4, _⟩ := h1
  exact ⟨hh, h4⟩
set_option maxRecDepth 100000 in
set_option maxHeartbeats 8000000 in
theorem stores_any (va : Value) (l : List Op11) (w : World) (ha : Rd11 w va l) (hsa : ∀ o ∈ l, o.ok) :
    Calls Try.prog 9 #[va] w fun e W' => ∃ s mb b, e = .returned (.tuple #[.pointer (some ⟨s, 0, none⟩), .pointer (some ⟨b, 0, none⟩)]) ∧ JS w b W' s mb b (storesC l) 0 (storesC l) 0 300 ∧ w.heap.size ≤ b := by
  have CN := Lib.hid (newG w)
  have HRA := Lib.hid ha
  have HSA := Lib.hid hsa
  obtain ⟨aa, ca, rfl, hl0⟩ := ha.form
  clear ha hsa
  go_enter Try.func9, Try.ntmps9
  go_wp2_with fail
  refine CN.out.mono ?_
  rintro e w2 ⟨s, mb, rfl, h2⟩
  have H2 := Lib.hid h2
  clear h2 CN
  obtain ⟨b, hb⟩ : ∃ b, b = w2.heap.size := ⟨_, rfl⟩
  obtain ⟨w3, hw3⟩ : ∃ w3, w3 = w2.alloc (.cells #[.slice none 0 0, .int .i64 0] 69) := ⟨_, rfl⟩
  have H3 : Hid (JS w b w3 s mb b [] 0 [] 0 0) := Lib.hid (by rw [hw3, hb]; exact js_new H2.out)
  have HX : Hid (w.heap.size ≤ b) := Lib.hid (by rw [hb]; exact H2.out.bel.size)
  go_wp2_with fail
  rw [← hw3, ← hb]
  clear hw3 hb H2
  go_loopw [6] (fun i wr => ∃ (k : Nat), k ≤ l.length ∧ k ≤ 300 ∧ i = .int .i64 (k : Int) ∧ Hid (JS w b wr s mb b (foldC (l.take k)) 0 (foldC (l.take k)) 0 k)) (fun i _ => l.length - (intOf i).toNat)
  case atStart => exact ⟨0, Nat.zero_le _, by omega, rfl, H3⟩
  case round =>
    clear H3
    obtain ⟨k, hk, hk3, rfl, HG⟩ := hrel
    by_cases hlt : k < l.length ∧ k < 300
    · obtain ⟨hlt, h300⟩ := hlt
      have g3 : decide ((k : Int) < (l.length : Int)) = true := decide_eq_true (by omega)
      have g3' : (k : Int) < (l.length : Int) := by omega
      have g4 : (0 : Int) ≤ (k : Int) := by omega
      have g5 : decide ((k : Int) < 300) = true := decide_eq_true (by omega)
      have g5' : (k : Int) < 300 := by omega
      have hW : Below w.heap.size w wr := HG.out.bel
      obtain ⟨bA, oA, rfl, c0, c1, c2, c3, c4⟩ := (HRA.out.up hW).get hlt
      have HF := Lib.hid (foldC_snoc l k hlt)
      obtain ⟨o, ho⟩ : ∃ o, o = l[k] := ⟨_, rfl⟩
      rw [← ho] at c0 c1 c2 c3 c4 HF
      obtain ⟨kd, oa, ky, y, hi⟩ := o
      dsimp only at c0 c1 c2 c3 c4
      clear ho hW
      obtain ⟨C, hC⟩ : ∃ C, C = foldC (l.take k) := ⟨_, rfl⟩
      rw [← hC] at HG HF
      clear hC
      by_cases hL : 1000 < ky.length ∨ 1000 < y.length
      · have HST : Hid (foldC (l.take (k + 1)) = C) := Lib.hid (by rw [HF.out]; unfold stepC; rw [if_pos hL])
        have HG2 : Hid (∀ o, JS w b (wr.alloc o) s mb b C 0 C 0 (k + 1)) := Lib.hid (fun o => (HG.out.below (below_alloc wr o)).wide (Nat.le_succ k))
        by_cases h1 : 1000 < ky.length
        · have e1 : decide ((1000 : Int) < (ky.length : Int)) = true := decide_eq_true (by omega)
          clear hL h1
          go_wp2_with fail
          go_roundw
          case rel => exact ⟨k + 1, by omega, by omega, by go_num, Lib.hid (by rw [HST.out]; exact HG2.out _)⟩
          case measure => simp [intOf]; omega
        · have e1 : decide ((1000 : Int) < (ky.length : Int)) = false := decide_eq_false (by omega)
          have e2 : decide ((1000 : Int) < (y.length : Int)) = true := decide_eq_true (by omega)
          clear hL h1
          go_wp2_with fail
          go_roundw
          case rel => exact ⟨k + 1, by omega, by omega, by go_num, Lib.hid (by rw [HST.out]; exact HG2.out _)⟩
          case measure => simp [intOf]; omega
      have e1 : decide ((1000 : Int) < (ky.length : Int)) = false := decide_eq_false (by omega)
      have e2 : decide ((1000 : Int) < (y.length : Int)) = false := decide_eq_false (by omega)
      have HLL := Lib.hid hL
      clear hL
      go_upto_block 2 with fail
      obtain ⟨ob, hob⟩ : ∃ ob, ob = wr.heap.size := ⟨_, rfl⟩
      obtain ⟨w4, hw4⟩ : ∃ w4, w4 = wr.alloc (.cells #[.int .i64 kd, .int .i64 oa, str ky, str y, str hi] 71) := ⟨_, rfl⟩
      rw [← hw4, ← hob]
      have HB : Hid (JB w b w4 s mb b C 0 C 0 k ob #[.int .i64 kd, .int .i64 oa, str ky, str y, str hi]) := Lib.hid (by rw [hw4, hob]; exact HG.out.box rfl)
      have HBD := Lib.hid HG.out.bnd
      clear hw4 hob HG c0 c1 c2 c3 c4
      by_cases h0 : kd = 0
      · subst h0
        obtain ⟨Z, hZ⟩ : ∃ Z, Z = addCVS (verC ky C) 0 (oa, y, false) := ⟨_, rfl⟩
        have CP1 : Hid (∀ W D', Hid (JB w b W s mb b C 0 D' 0 k ob #[.int .i64 0, .int .i64 oa, str ky, str y, str hi]) → Calls Try.prog 25 #[.pointer (some ⟨s, 0, none⟩), .int .i64 oa, str ky, str y] W fun e W' => e = .returned (.int .i64 Z) ∧ Hid (JB w b W' s mb b (putC C 0 ky (oa, y, false)) 0 D' 0 (k + 1) ob #[.int .i64 0, .int .i64 oa, str ky, str y, str hi])) :=
          Lib.hid (fun W D' H => (jbput H.out (by omega) ky oa y).mono (by rintro e W' ⟨rfl, h⟩; exact ⟨by rw [hZ], Lib.hid h⟩))
        have CP2 : Hid (∀ W C' n', Hid (JB w b W s mb b C' 0 C 0 n' ob #[.int .i64 0, .int .i64 oa, str ky, str y, str hi]) → Calls Try.prog 26 #[.pointer (some ⟨b, 0, none⟩), .int .i64 oa, str ky, str y] W fun e W' => e = .returned (.int .i64 Z) ∧ Hid (JB w b W' s mb b C' 0 (putC C 0 ky (oa, y, false)) 0 n' ob #[.int .i64 0, .int .i64 oa, str ky, str y, str hi])) :=
          Lib.hid (fun W C' n' H => (jbrput H.out HX.out (by have := HBD.out; omega) (by have := HBD.out; omega) ky oa y).mono (by rintro e W' ⟨rfl, h⟩; exact ⟨by rw [hZ], Lib.hid h⟩))
        have HST : Hid (foldC (l.take (k + 1)) = putC C 0 ky (oa, y, false)) := Lib.hid (by rw [HF.out]; unfold stepC; dsimp only; rw [if_neg HLL.out]; simp)
        clear hZ
        obtain ⟨q0, q1, q2, q3⟩ := HB.out.c5
        go_wp2_with (first | (go_at_call 25; refine (CP1.out _ _ HB).mono ?_; rintro e w5 ⟨rfl, HB5⟩; refine keepF HB5.out.c5 ?_; rintro ⟨p0, p1, p2, p3⟩) | (go_at_call 26; refine (CP2.out _ _ _ HB5).mono ?_; rintro e w6 ⟨rfl, HB6⟩))
        have HJ : Hid (JS w b w6 s mb b (putC C 0 ky (oa, y, false)) 0 (putC C 0 ky (oa, y, false)) 0 (k + 1)) := Lib.hid HB6.out.js
        clear HB HB5 HB6
        go_wp2_with fail
        go_roundw
        case rel => exact ⟨k + 1, by omega, by omega, by go_num, Lib.hid (by rw [HST.out]; exact HJ.out)⟩
        case measure => simp [intOf]; omega

      by_cases h1 : kd = 1
      · subst h1
        obtain ⟨Z, hZ⟩ : ∃ Z, Z = addCVS (verC ky C) 0 (oa, [], true) := ⟨_, rfl⟩
        have CP1 : Hid (∀ W D', Hid (JB w b W s mb b C 0 D' 0 k ob #[.int .i64 1, .int .i64 oa, str ky, str y, str hi]) → Calls Try.prog 27 #[.pointer (some ⟨s, 0, none⟩), .int .i64 oa, str ky] W fun e W' => e = .returned (.int .i64 Z) ∧ Hid (JB w b W' s mb b (putC C 0 ky (oa, [], true)) 0 D' 0 (k + 1) ob #[.int .i64 1, .int .i64 oa, str ky, str y, str hi])) :=
          Lib.hid (fun W D' H => (jbkill H.out (by omega) ky oa).mono (by rintro e W' ⟨rfl, h⟩; exact ⟨by rw [hZ], Lib.hid h⟩))
        have CP2 : Hid (∀ W C' n', Hid (JB w b W s mb b C' 0 C 0 n' ob #[.int .i64 1, .int .i64 oa, str ky, str y, str hi]) → Calls Try.prog 28 #[.pointer (some ⟨b, 0, none⟩), .int .i64 oa, str ky] W fun e W' => e = .returned (.int .i64 Z) ∧ Hid (JB w b W' s mb b C' 0 (putC C 0 ky (oa, [], true)) 0 n' ob #[.int .i64 1, .int .i64 oa, str ky, str y, str hi])) :=
          Lib.hid (fun W C' n' H => (jbrkill H.out HX.out (by have := HBD.out; omega) (by have := HBD.out; omega) ky oa).mono (by rintro e W' ⟨rfl, h⟩; exact ⟨by rw [hZ], Lib.hid h⟩))
        have HST : Hid (foldC (l.take (k + 1)) = putC C 0 ky (oa, [], true)) := Lib.hid (by rw [HF.out]; unfold stepC; dsimp only; rw [if_neg HLL.out]; simp)
        clear hZ
        obtain ⟨q0, q1, q2, q3⟩ := HB.out.c5
        go_wp2_with (first | (go_at_call 27; refine (CP1.out _ _ HB).mono ?_; rintro e w5 ⟨rfl, HB5⟩; refine keepF HB5.out.c5 ?_; rintro ⟨p0, p1, p2, p3⟩) | (go_at_call 28; refine (CP2.out _ _ _ HB5).mono ?_; rintro e w6 ⟨rfl, HB6⟩))
        have HJ : Hid (JS w b w6 s mb b (putC C 0 ky (oa, [], true)) 0 (putC C 0 ky (oa, [], true)) 0 (k + 1)) := Lib.hid HB6.out.js
        clear HB HB5 HB6
        go_wp2_with fail
        go_roundw
        case rel => exact ⟨k + 1, by omega, by omega, by go_num, Lib.hid (by rw [HST.out]; exact HJ.out)⟩
        case measure => simp [intOf]; omega

      have k0 : (kd == 0) = false := beq_eq_false_iff_ne.2 h0
      have k1 : (kd == 1) = false := beq_eq_false_iff_ne.2 h1
      have HST : Hid (foldC (l.take (k + 1)) = C) := Lib.hid (by rw [HF.out]; unfold stepC; dsimp only; rw [if_neg HLL.out, if_neg h0, if_neg h1])
      clear h0 h1
      have HJ : Hid (JS w b w4 s mb b C 0 C 0 (k + 1)) := Lib.hid (HB.out.js.wide (Nat.le_succ k))
      clear HB
      go_wp2_with fail
      go_roundw
      case rel => exact ⟨k + 1, by omega, by omega, by go_num, Lib.hid (by rw [HST.out]; exact HJ.out)⟩
      case measure => simp [intOf]; omega
    · have HE : Hid (JS w b wr s mb b (storesC l) 0 (storesC l) 0 300) := Lib.hid (by
        have e : storesC l = foldC (l.take k) := by
          unfold storesC
          by_cases h : k < l.length
          · rw [show k = 300 by omega]
          · rw [show k = l.length by omega, List.take_length, List.take_of_length_le (by omega)]
        rw [e]; exact HG.out.wide hk3)
      by_cases h : k < l.length
      · obtain rfl : k = 300 := by omega
        have g3 : decide ((300 : Int) < (l.length : Int)) = true := decide_eq_true (by omega)
        have g3' : (300 : Int) < (l.length : Int) := by omega
        clear HG hlt h
        go_wp2_with fail
        go_ret2
        exact ⟨s, mb, b, rfl, HE.out, HX.out⟩
      · have g3 : decide ((k : Int) < (l.length : Int)) = false := decide_eq_false (by omega)
        have g3' : ¬ (k : Int) < (l.length : Int) := by omega
        clear HG hlt h
        go_wp2_with fail
        go_ret2
        exact ⟨s, mb, b, rfl, HE.out, HX.out⟩
end Go.Proofs.Ytcgjiddiegepkaa

/- A store and two transactions. -/
namespace Go.Proofs.Ytcgjiddiegepkaa
open Go.RowKit
def K4 (tb wb ub vb : Nat) (i : Nat) : Prop := i = tb ∨ i = wb ∨ i = ub ∨ i = vb
structure T2 (X W : World) (s mb : Nat) (C : ChC) (low : Int) (n tb wb : Nat) (L : OwnL) (k ub vb : Nat) (M : OwnL) (j : Nat) (at1 : Int) : Prop where
  sg : SG X (K4 tb wb ub vb) W s mb C low n
  t : TxS W tb s wb at1 L k
  u : TxS W ub s vb at1 M j
  lo : X.heap.size ≤ tb ∧ X.heap.size ≤ wb ∧ X.heap.size ≤ ub ∧ X.heap.size ≤ vb
  ne : wb ≠ ub ∧ wb ≠ vb ∧ vb ≠ tb
variable {X W : World} {s mb : Nat} {C : ChC} {low : Int} {n tb wb ub vb : Nat} {L M : OwnL} {k j : Nat} {at1 : Int}
theorem T2.below {W' : World} (h : T2 X W s mb C low n tb wb L k ub vb M j at1) (hb : Below W.heap.size W W') : T2 X W' s mb C low n tb wb L k ub vb M j at1 := ⟨h.sg.below hb, h.t.below hb, h.u.below hb, h.lo, h.ne⟩
theorem TxS.seven {wb tb : Nat} (h : TxS W tb s wb at1 L k) (m : Nat) (hm : m ≠ 2) : ∀ i, i = wb → ∀ cs T z, W.heap[i]? = some (.cells cs T z) → cs.size ≠ m := by
  rintro i rfl cs T z hc
  obtain ⟨u, v, T', e⟩ := h.two
  rw [e] at hc
  simp only [Option.some.injEq, Obj.cells.injEq] at hc
  rw [← hc.1]
  simpa using fun e => hm e.symm
/-- The second begins behind the first. -/
theorem t2Begin (h : TT X W s mb C low n tb wb at1 L k) : Calls Try.prog 11 #[.pointer (some ⟨s, 0, none⟩), .int .i64 at1] W fun e W' => ∃ ub vb, e = .returned (.pointer (some ⟨ub, 0, none⟩)) ∧ T2 X W' s mb C low n tb wb L k ub vb [] 0 at1 := by
  refine (txBegin W s at1).mono ?_
  rintro e W' ⟨ub, vb, rfl, h1, h2, h3, h4⟩
  have hX := h.sg.bel.size
  have ht := h.tx.lt
  refine ⟨ub, vb, rfl, h.sg.fresh h2 (fun i hi => ?_), h.tx.below h2, h1, ⟨h.lo.1, h.lo.2, by omega, by omega⟩, by omega, by omega, by omega⟩
  rcases hi with rfl | rfl | rfl | rfl
  · exact ⟨Nat.lt_of_lt_of_le ht.1 h2.size, .inr (.inl rfl)⟩
  · exact ⟨Nat.lt_of_lt_of_le ht.2 h2.size, .inr (.inr rfl)⟩
  · exact ⟨h1.lt.1, .inl h3⟩
  · exact ⟨h1.lt.2, .inl h4⟩
theorem t2Put (h : T2 X W s mb C low n tb wb L k ub vb M j at1) (hk : k ≤ 100000) (x y : List UInt8) (hx : x.length ≤ 9223372036854775807) (hy : y.length ≤ 9223372036854775807) :
    Calls Try.prog 14 #[.pointer (some ⟨tb, 0, none⟩), str x, str y] W fun e W' => e = .returned (.int .i64 (wrC L (x, y, false))) ∧ T2 X W' s mb C low n tb wb (wrL L (x, y, false)) (k + 1) ub vb M j at1 ∧ Frm (fun i => i = wb) W W' := by
  refine (txPut h.t hk x y hx hy).mono ?_
  rintro e W' ⟨rfl, h1, h2⟩
  exact ⟨rfl, ⟨h.sg.turn h2 (h.t.seven 5 (by decide)) (fun i hi => .inr (.inl hi)) (fun i hi => by cases hi; exact h.lo.2.1), h1, h.u.frm h2 (h.t.seven 7 (by decide)) (fun e => h.ne.1 e.symm) (fun e => h.ne.2.1 e.symm), h.lo, h.ne⟩, h2⟩
theorem t2Delete (h : T2 X W s mb C low n tb wb L k ub vb M j at1) (hj : j ≤ 100000) (x : List UInt8) (hx : x.length ≤ 9223372036854775807) :
    Calls Try.prog 16 #[.pointer (some ⟨ub, 0, none⟩), str x] W fun e W' => e = .returned (.int .i64 (wrC M (x, [], true))) ∧ T2 X W' s mb C low n tb wb L k ub vb (wrL M (x, [], true)) (j + 1) at1 := by
  refine (txDelete h.u hj x hx).mono ?_
  rintro e W' ⟨rfl, h1, h2⟩
  exact ⟨rfl, h.sg.turn h2 (h.u.seven 5 (by decide)) (fun i hi => .inr (.inr (.inr hi))) (fun i hi => by cases hi; exact h.lo.2.2.2), h.t.frm h2 (h.u.seven 7 (by decide)) (fun e => h.ne.2.2 e.symm) (fun e => h.ne.2.1 e), h1, h.lo, h.ne⟩
/-- A Put of the store's own. -/
theorem t2Store (h : T2 X W s mb C low n tb wb L k ub vb M j at1) (hn : n ≤ 10000) (key : List UInt8) (tm : Int) (x : List UInt8) :
    Calls Try.prog 25 #[.pointer (some ⟨s, 0, none⟩), .int .i64 tm, str key, str x] W fun e W' => e = .returned (.int .i64 (addCVS (verC key C) low (tm, x, false))) ∧ T2 X W' s mb (putC C low key (tm, x, false)) low (n + 1) tb wb L k ub vb M j at1 := by
  have hlt : ∀ i, K4 tb wb ub vb i → i < W.heap.size := by
    rintro i (rfl | rfl | rfl | rfl)
    · exact h.t.lt.1
    · exact h.t.lt.2
    · exact h.u.lt.1
    · exact h.u.lt.2
  have hg : SG X (fun i => K4 tb wb ub vb i ∨ ∃ cs T z, W.heap[i]? = some (.cells cs T z) ∧ cs.size = 7) W s mb C low n := h.sg.more (fun i hi => by
      rcases hi with hi | ⟨cs, T, z, hc, _⟩
      · exact hlt i hi
      · exact (Array.getElem?_eq_some_iff.1 hc).1) (fun i hi => .inr hi)
  refine (putG hg hn key tm x).mono ?_
  rintro e W' ⟨rfl, g1, g2⟩
  have h7 : ∀ i, ¬ (K4 tb wb ub vb i ∨ ∃ cs T z, W.heap[i]? = some (.cells cs T z) ∧ cs.size = 7) → ∀ cs T z, W.heap[i]? = some (.cells cs T z) → cs.size ≠ 7 := fun i hi cs T z hc e => hi (.inr ⟨cs, T, z, hc, e⟩)
  refine ⟨rfl, ?_, h.t.frm g2 h7 (fun hn => hn (.inl (.inl rfl))) (fun hn => hn (.inl (.inr (.inl rfl)))), h.u.frm g2 h7 (fun hn => hn (.inl (.inr (.inr (.inl rfl))))) (fun hn => hn (.inl (.inr (.inr (.inr rfl))))), h.lo, h.ne⟩
  obtain ⟨t, S, a1, a2, a3, a4, a5⟩ := g1
  exact ⟨t, S, a1, a2, a3, a4, fun i hi => a5 i (.inl hi)⟩
theorem T2.tt (h : T2 X W s mb C low n tb wb L k ub vb M j at1) : TT X W s mb C low n tb wb at1 L k := by
  refine ⟨?_, h.t, h.lo.1, h.lo.2.1⟩
  obtain ⟨t, S, a1, a2, a3, a4, a5⟩ := h.sg
  exact ⟨t, S, a1, a2, a3, a4, fun i hi => a5 i (by rcases hi with hi | hi; exact .inl hi; exact .inr (.inl hi))⟩
theorem T2.ut (h : T2 X W s mb C low n tb wb L k ub vb M j at1) : TT X W s mb C low n ub vb at1 M j := by
  refine ⟨?_, h.u, h.lo.2.2.1, h.lo.2.2.2⟩
  obtain ⟨t, S, a1, a2, a3, a4, a5⟩ := h.sg
  exact ⟨t, S, a1, a2, a3, a4, fun i hi => a5 i (by rcases hi with hi | hi; exact .inr (.inr (.inl hi)); exact .inr (.inr (.inr hi)))⟩
theorem ttScan (_ : TT X W s mb C low n tb wb at1 L k) : Calls Try.prog 29 #[.pointer (some ⟨tb, 0, none⟩), str [], str []] W fun e W' => ∃ b1, e = .returned (.func (.func 49) #[] #[.pointer (some ⟨b1, 0, none⟩), .pointer (some ⟨b1 + 1, 0, none⟩), .pointer (some ⟨b1 + 2, 0, none⟩)]) ∧ TxL W' b1 (b1 + 1) (b1 + 2) tb [] [] ∧ Below W.heap.size W W' := by
  refine (txn_scan W tb [] []).mono ?_
  rintro e W' ⟨rfl, rfl⟩
  exact ⟨W.heap.size, rfl, txL_new W tb [] [], (((Below.refl _ _).alloc (Nat.le_refl _) _).alloc (by simp) _).alloc (by simp; omega) _⟩
end Go.Proofs.Ytcgjiddiegepkaa

/- Two transactions: plain facts. -/
namespace Go.Proofs.Ytcgjiddiegepkaa
open Go.RowKit
theorem getB_ins_other {Y : Type} {key key' : List UInt8} (y : Y) (hk : key' ≠ key) : ∀ (l : List (List UInt8 × Y)), getB key' (insB key y l) = getB key' l
  | [] => by
    unfold insB getB
    cases h1 : Op.bytesLess key' key with
    | true => rfl
    | false =>
      cases h2 : Op.bytesLess key key' with
      | true => rfl
      | false => exact absurd (bl_tot _ _ h1 h2) hk
  | (k0, y0) :: t => by
    have ih := getB_ins_other y hk t
    cases h1 : Op.bytesLess key k0 with
    | true =>
      simp only [insB, h1, if_true]
      cases h3 : Op.bytesLess key' key with
      | true =>
        have := bl_tr _ _ _ h3 h1
        simp [getB, h3, this]
      | false =>
        cases h4 : Op.bytesLess key key' with
        | true => simp [getB, h3, h4]
        | false => exact absurd (bl_tot _ _ h3 h4) hk
    | false =>
      cases h2 : Op.bytesLess k0 key with
      | true => simp only [insB, h1, h2, Bool.false_eq_true, if_false, if_true, getB, ih]
      | false =>
        obtain rfl := bl_tot _ _ h1 h2
        simp only [insB, h1, Bool.false_eq_true, if_false, getB]
        cases h3 : Op.bytesLess key' key with
        | true => rfl
        | false =>
          cases h4 : Op.bytesLess key key' with
          | true => rfl
          | false => exact absurd (bl_tot _ _ h3 h4) hk
/-- Nothing is gone. -/
def Pts (L : OwnL) : Prop := ∀ x ∈ L, x.2.2.2 = false
theorem pts_put {L : OwnL} (hr : RisB L) (h : Pts L) (x y : List UInt8) : Pts (wrL L (x, y, false)) := by
  unfold wrL
  split
  · intro z hz
    rcases insB_mem hr z hz with rfl | ⟨hz, _⟩
    · rfl
    · exact h z hz
  · exact h
theorem txG_own {L : OwnL} (hr : RisB L) (hp : Pts L) {x : List UInt8 × WrT} (hx : x ∈ L) (r : Option (List UInt8)) : txG L x.1 r = .returned (.tuple #[str x.2.2.1, .bool true]) := by
  unfold txG
  rw [getB_in hr (show (x.1, x.2) ∈ L from hx)]
  dsimp only
  rw [hp x hx]; rfl
theorem lastT_snoc (l : List VerVS) (v : VerVS) : lastTVS (l ++ [v]) = v.1 := by simp [lastTVS]
/-- The time of the Put, and what it leaves. -/
def tmT (la at1 : Int) : Int := min (max la at1) 549755813888 + 1
theorem put_last {C : ChC} {key x : List UInt8} {at1 : Int} (h0 : 0 ≤ at1) (h1 : at1 ≤ 274877906944) : at1 < lastTVS (verC key (putC C 0 key (tmT (lastTVS (verC key C)) at1, x, false))) := by
  unfold putC
  split
  · have e : verC key (insB key (verC key C ++ [(tmT (lastTVS (verC key C)) at1, x, false)]) C) = verC key C ++ [(tmT (lastTVS (verC key C)) at1, x, false)] := by
      unfold verC; rw [getB_put]; rfl
    rw [e, lastT_snoc]
    dsimp only
    unfold tmT; omega
  · next hc =>
    unfold addCVS at hc
    dsimp only at hc
    split at hc
    · next h => unfold tmT at h; omega
    · split at hc
      · next h => unfold tmT at h; omega
      · exact absurd rfl hc
theorem put_other {C : ChC} {key key' x : List UInt8} {tm : Int} (hk : key' ≠ key) : verC key' (putC C 0 key (tm, x, false)) = verC key' C := by
  unfold putC
  split
  · unfold verC; rw [getB_ins_other _ hk]
  · rfl
/-- What clashes behind the Put. -/
theorem clash_put {C : ChC} {key x : List UInt8} {at1 : Int} (h0 : 0 ≤ at1) (h1 : at1 ≤ 274877906944) (L : OwnL) :
    L.any (fun z => decide (at1 < lastTVS (verC z.1 (putC C 0 key (tmT (lastTVS (verC key C)) at1, x, false))))) = (L.any (fun z => decide (at1 < lastTVS (verC z.1 C))) || L.any (fun z => z.1 == key)) := by
  induction L with
  | nil => rfl
  | cons z t ih =>
    simp only [List.any_cons]
    rw [ih]
    by_cases hz : z.1 = key
    · rw [hz]
      have := put_last (C := C) (key := key) (x := x) h0 h1
      simp [this]
    · rw [put_other hz]
      have e : (z.1 == key) = false := beq_eq_false_iff_ne.2 hz
      rw [e]
      simp [Bool.or_assoc]
end Go.Proofs.Ytcgjiddiegepkaa
