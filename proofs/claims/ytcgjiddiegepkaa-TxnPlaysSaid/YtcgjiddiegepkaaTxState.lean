import Derived.Test.YtcgjiddiegepkaaMapVW
import Derived.Deep.LoopGhost
import Derived.Test.YtcgjiddiegepkaaTxPairs
import Derived.Deep.RegionHeld3
import Derived.Deep.CutRange
import Derived.Deep.RegionWith
import Derived.Laws.Cover1
import Derived.Test.YtcgjiddiegepkaaTxSt
import Derived.Test.YtcgjiddiegepkaaV11StayN
/- Maps in order, omap[string,handbill/api.Write]: Get. -/
namespace Go.Proofs.Ytcgjiddiegepkaa
open Go.RowKit

theorem set3 {w : World} {b : Nat} {x y z u v g : Value} {T : TypeId} (h : w.heap[b]? = some (.cells #[x, y, z] T (0, 0))) :
    (((w.setCell ⟨b, 0, none⟩ u).setCell ⟨b, 1, none⟩ v).setCell ⟨b, 2, none⟩ g).heap[b]? = some (.cells #[u, v, g] T (0, 0)) := by
  have hlt := (Array.getElem?_eq_some_iff.1 h).1
  have one : ∀ (W : World) (j : Nat) (q : Value) (cs : Array Value), W.heap[b]? = some (.cells cs T (0, 0)) → (W.setCell ⟨b, j, none⟩ q).heap[b]? = some (.cells (cs.setIfInBounds j q) T (0, 0)) := by
    intro W j q cs hc
    have hlt := (Array.getElem?_eq_some_iff.1 hc).1
    have h' : W.heap[b] = .cells cs T (0, 0) := by simpa [Array.getElem?_eq_getElem hlt] using hc
    show (W.heap.modify b _)[b]? = _
    rw [Array.getElem?_eq_getElem (by simpa using hlt), Array.getElem_modify_self, h']
    rfl
  exact one _ 2 g _ (one _ 1 v _ (one _ 0 u _ h))
theorem set3_below {w : World} {b m : Nat} {u v g : Value} (h : m ≤ b) : Below m w (((w.setCell ⟨b, 0, none⟩ u).setCell ⟨b, 1, none⟩ v).setCell ⟨b, 2, none⟩ g) :=
  (((Below.refl m w).setCell (p := ⟨b, 0, none⟩) h u).setCell (p := ⟨b, 1, none⟩) h v).setCell (p := ⟨b, 2, none⟩) h g
/-- What Get tells. -/
def getEVW (r : Option Value) : Ending := .returned (.tuple #[r.getD (.agg #[str [], str [], .bool false]), .bool r.isSome])
theorem getE_someVW (x : Value) : Ending.returned (.tuple #[x, .bool true]) = getEVW (some x) := rfl
theorem getE_noneVW : Ending.returned (.tuple #[.agg #[str [], str [], .bool false], .bool false]) = getEVW none := rfl
set_option maxHeartbeats 1600000 in
theorem mgetVW_any (b : Nat) (k : Value) (t : Tr) (w : World) (h : MQ w b t) (hks : KSVW k) (hw : WS KSVW VSVW t) :
    Calls Try.prog 42 #[.pointer (some ⟨b, 0, none⟩), k] w fun e w' => e = getEVW (getT k t) ∧ Below w.heap.size w w' := by
  obtain ⟨T, o, hc, htp⟩ := h
  have hbx := below_alloc w (.cells #[str [], str [], .bool false] 58)
  have hnw := heap_alloc_new w (.cells #[str [], str [], .bool false] 58)
  have c0 : (w.alloc (.cells #[str [], str [], .bool false] 58)).cell? ⟨b, 0, none⟩ = some (.pointer o) := keepcVW (by simp [World.cell?, hc]) hbx
  obtain ⟨R, hR⟩ : ∃ R, R = getT k t := ⟨_, rfl⟩
  rw [← hR]
  have HR := Lib.hid hR
  have HT := Lib.hid (TQ.below hbx htp)
  have HW := Lib.hid hw
  have HBX := Lib.hid hbx
  have HNW := Lib.hid hnw
  clear hc htp hw hR hbx hnw
  go_enter Try.func42, Try.ntmps42
  go_wp2_with fail
  obtain ⟨w0, hw0⟩ : ∃ w0, w0 = w.alloc (.cells #[str [], str [], .bool false] 58) := ⟨_, rfl⟩
  rw [← hw0]
  rw [← hw0] at HT HBX HNW
  clear c0 hw0
  go_loopg [6] (prs t).length (fun n v wr => ∃ (o' : Option Addr) (t' : Tr), v = .pointer o' ∧ n = (prs t').length ∧ Hid (TQ w0 o' t') ∧ Hid (WS KSVW VSVW t') ∧ Hid (getT k t' = R) ∧ wr = w0)
  case atStart => exact ⟨o, t, rfl, rfl, HT, HW, Lib.hid HR.out.symm, rfl⟩
  case round =>
    obtain ⟨o', t', rfl, rfl, HT', HW', HG, rfl⟩ := hrel
    cases t' with
    | nil =>
      obtain rfl : o' = none := HT'.out
      have e : none = R := HG.out
      subst e
      have hlt0 : w.heap.size < wr.heap.size := (Array.getElem?_eq_some_iff.1 HNW.out).1
      have hn2 : (wr.alloc (.cells #[str [], str [], .bool false] 58)).heap[w.heap.size]? = some (.cells #[str [], str [], .bool false] 58 (0, 0)) := ((below_alloc wr _).block _ hlt0).trans HNW.out
      have hbx2 := HBX.out.trans ((below_alloc wr (.cells #[str [], str [], .bool false] 58)).mono HBX.out.size)
      have HX := Lib.hid hbx2
      have f0 := frozen_of_row _ w.heap.size 0 _ _ hn2
      have f1 := frozen_of_row _ w.heap.size 1 _ _ hn2
      have f2 := frozen_of_row _ w.heap.size 2 _ _ hn2
      have z0 := cell_of_row _ w.heap.size 0 _ _ (0, 0) hn2
      have z1 := cell_of_row _ w.heap.size 1 _ _ (0, 0) hn2
      have z2 := cell_of_row _ w.heap.size 2 _ _ (0, 0) hn2
      simp only [List.getElem?_toArray, List.getElem?_cons_zero, List.getElem?_cons_succ] at z0 z1 z2
      have HN2 := Lib.hid hn2
      clear hn2 hbx2 hlt0
      go_wp2_with fail
      have h3 := set3 (u := str []) (v := str []) (g := .bool false) HN2.out
      have e0 := cell_of_row _ w.heap.size 0 _ _ (0, 0) h3
      have e1 := cell_of_row _ w.heap.size 1 _ _ (0, 0) h3
      have e2 := cell_of_row _ w.heap.size 2 _ _ (0, 0) h3
      simp only [List.getElem?_toArray, List.getElem?_cons_zero, List.getElem?_cons_succ] at e0 e1 e2
      refine bodyPost_ret (v := .tuple #[.agg #[str [], str [], .bool false], .bool false]) (by simp [results, Try.results42, go_sem, e0, e1, e2]) rfl ⟨rfl, HX.out.trans ((set3_below (Nat.le_refl _)).mono (Nat.le_refl _))⟩
    | node l k' x' n r =>
      obtain ⟨b', T', ol, or, rfl, hc', hl, hr⟩ := HT'.out
      obtain ⟨_, a1, a2, a3, a4⟩ := HW'.out
      obtain ⟨xa, xb, xc, rfl⟩ := a2
      have d0 := cell_of_row wr b' 0 _ T' (0, 0) hc'
      have d1 := cell_of_row wr b' 1 _ T' (0, 0) hc'
      have d1b := cell_of_row wr b' 2 _ T' (0, 0) hc'
      have d1c := cell_of_row wr b' 3 _ T' (0, 0) hc'
      have d3 := cell_of_row wr b' 5 _ T' (0, 0) hc'
      have d4 := cell_of_row wr b' 6 _ T' (0, 0) hc'
      simp only [List.getElem?_toArray, List.getElem?_cons_zero, List.getElem?_cons_succ, wA_agg, wB_agg, wC_agg] at d0 d1 d1b d1c d3 d4
      have HL := Lib.hid hl
      have HRr := Lib.hid hr
      have A3 := Lib.hid a3
      have A4 := Lib.hid a4
      have eg := HG.out
      unfold getT at eg
      have CC := Lib.hid (fun W => cmpVW_any k k' W hks a1)
      have LL : Hid ((prs l).length < (prs (Tr.node l k' (.agg #[str xa, str xb, .bool xc]) n r)).length ∧ (prs r).length < (prs (Tr.node l k' (.agg #[str xa, str xb, .bool xc]) n r)).length) := by
        refine Lib.hid ?_
        rw [prs_node, List.length_append, List.length_cons]; omega
      unfold cmpV at CC
      clear hc' hl hr a3 a4
      by_cases g1 : lessV k k' = true
      · rw [if_pos g1] at CC
        rw [if_pos g1] at eg
        have HE := Lib.hid eg
        clear eg g1
        go_wp2_with (go_at_call 62; refine (CC.out _).mono ?_; rintro e w' ⟨rfl, rfl⟩)
        go_roundg (prs l).length
        case measure => exact LL.out.1
        case rel => exact ⟨ol, l, rfl, rfl, HL, A3, HE, rfl⟩
      · rw [if_neg g1] at CC
        rw [if_neg g1] at eg
        by_cases g2 : lessV k' k = true
        · rw [if_pos g2] at CC
          rw [if_pos g2] at eg
          have HE := Lib.hid eg
          clear eg g1 g2
          go_wp2_with (go_at_call 62; refine (CC.out _).mono ?_; rintro e w' ⟨rfl, rfl⟩)
          go_roundg (prs r).length
          case measure => exact LL.out.2
          case rel => exact ⟨or, r, rfl, rfl, HRr, A4, HE, rfl⟩
        · rw [if_neg g2] at CC
          rw [if_neg g2] at eg
          subst eg
          clear g1 g2
          have f0 := frozen_of_row wr w.heap.size 0 _ _ HNW.out
          have f1 := frozen_of_row wr w.heap.size 1 _ _ HNW.out
          have f2 := frozen_of_row wr w.heap.size 2 _ _ HNW.out
          have z0 := cell_of_row _ w.heap.size 0 _ _ (0, 0) HNW.out
          have z1 := cell_of_row _ w.heap.size 1 _ _ (0, 0) HNW.out
          have z2 := cell_of_row _ w.heap.size 2 _ _ (0, 0) HNW.out
          simp only [List.getElem?_toArray, List.getElem?_cons_zero, List.getElem?_cons_succ] at z0 z1 z2
          go_wp2_with (go_at_call 62; refine (CC.out _).mono ?_; rintro e w' ⟨rfl, rfl⟩)
          have h3 := set3 (u := str xa) (v := str xb) (g := .bool xc) HNW.out
          have e0 := cell_of_row _ w.heap.size 0 _ _ (0, 0) h3
          have e1 := cell_of_row _ w.heap.size 1 _ _ (0, 0) h3
          have e2 := cell_of_row _ w.heap.size 2 _ _ (0, 0) h3
          simp only [List.getElem?_toArray, List.getElem?_cons_zero, List.getElem?_cons_succ] at e0 e1 e2
          refine bodyPost_ret (v := .tuple #[.agg #[str xa, str xb, .bool xc], .bool true]) (by simp [results, Try.results42, go_sem, e0, e1, e2]) rfl ⟨rfl, HBX.out.trans ((set3_below (Nat.le_refl _)).mono (Nat.le_refl _))⟩
end Go.Proofs.Ytcgjiddiegepkaa

/- txn: a transaction's state; Begin, write, Put, Delete. -/
namespace Go.Proofs.Ytcgjiddiegepkaa
open Go.RowKit

/-- A write: its key, its value, gone. -/
abbrev WrT := List UInt8 × List UInt8 × Bool
def fW (y : WrT) : Value := .agg #[str y.1, str y.2.1, .bool y.2.2]
abbrev OwnL := List (List UInt8 × WrT)
theorem fW_kind (y : WrT) : VSVW (fW y) := ⟨y.1, y.2.1, y.2.2, rfl⟩
/-- Maps of writes stand when blocks turn that are no nodes of theirs. -/
theorem TQ.frm {F : Nat → Prop} {w w' : World} (hf : Frm F w w') (h7 : ∀ i, F i → ∀ cs T z, w.heap[i]? = some (.cells cs T z) → cs.size ≠ 7) : ∀ {o : Option Addr} {t : Tr}, TQ w o t → TQ w' o t
  | _, .nil, h => h
  | _, .node _ _ _ _ _, h => by
    obtain ⟨b, T, ol, or, rfl, hc, hl, hr⟩ := h
    refine ⟨b, T, ol, or, rfl, ?_, TQ.frm hf h7 hl, TQ.frm hf h7 hr⟩
    rw [hf.block b (Array.getElem?_eq_some_iff.1 hc).1 (fun e => h7 b e _ _ _ hc rfl)]
    exact hc
theorem MQ.frm {F : Nat → Prop} {w w' : World} {b : Nat} {t : Tr} (h : MQ w b t) (hf : Frm F w w') (h7 : ∀ i, F i → ∀ cs T z, w.heap[i]? = some (.cells cs T z) → cs.size ≠ 7) (hb : ¬ F b) : MQ w' b t := by
  obtain ⟨T, o, h1, h2⟩ := h
  exact ⟨T, o, by rw [hf.block b (Array.getElem?_eq_some_iff.1 h1).1 hb]; exact h1, TQ.frm hf h7 h2⟩
/-- A transaction. -/
structure TxS (W : World) (tb s wb : Nat) (at1 : Int) (L : OwnL) (k : Nat) : Prop where
  box : TxB W tb s at1 wb
  mp : ∃ tw, MQ W wb tw ∧ WS KSVW VSVW tw ∧ prs tw = L.map (pairB fW)
  rs : RisB L
  kk : ∀ x ∈ L, x.2.1 = x.1
  hk : L.length ≤ k
variable {W : World} {tb s wb : Nat} {at1 : Int} {L : OwnL} {k : Nat}
theorem TxS.lt (h : TxS W tb s wb at1 L k) : tb < W.heap.size ∧ wb < W.heap.size := by
  obtain ⟨tw, h1, _⟩ := h.mp
  exact ⟨(Array.getElem?_eq_some_iff.1 (show W.heap[tb]? = _ from h.box)).1, h1.lt⟩
theorem TxS.frm {W' : World} {F : Nat → Prop} (h : TxS W tb s wb at1 L k) (hf : Frm F W W') (h7 : ∀ i, F i → ∀ cs T z, W.heap[i]? = some (.cells cs T z) → cs.size ≠ 7) (h1 : ¬ F tb) (h2 : ¬ F wb) : TxS W' tb s wb at1 L k := by
  obtain ⟨tw, m1, m2, m3⟩ := h.mp
  exact ⟨(hf.block tb h.lt.1 h1).trans h.box, ⟨tw, m1.frm hf h7 h2, m2, m3⟩, h.rs, h.kk, h.hk⟩
theorem TxS.below {W' : World} (h : TxS W tb s wb at1 L k) (hb : Below W.heap.size W W') : TxS W' tb s wb at1 L k :=
  h.frm (F := fun _ => False) (Frm.of_below hb) (fun _ hk => hk.elim) (fun hk => hk) (fun hk => hk)
theorem TxS.wide {k' : Nat} (h : TxS W tb s wb at1 L k) (hk : k ≤ k') : TxS W tb s wb at1 L k' := ⟨h.box, h.mp, h.rs, h.kk, Nat.le_trans h.hk hk⟩
theorem TxS.ne (h : TxS W tb s wb at1 L k) : tb ≠ wb := by
  rintro rfl
  obtain ⟨tw, ⟨T, o, m1, _⟩, _⟩ := h.mp
  rw [show W.heap[tb]? = _ from h.box] at m1
  simp at m1
/-- The map's block is of two cells. -/
theorem TxS.two (h : TxS W tb s wb at1 L k) : ∃ u v T, W.heap[wb]? = some (.cells #[u, v] T (0, 0)) := by
  obtain ⟨tw, m1, _⟩ := h.mp
  exact m1.two
theorem txBegin (W : World) (s : Nat) (at1 : Int) : Calls Try.prog 11 #[.pointer (some ⟨s, 0, none⟩), .int .i64 at1] W fun e W' => ∃ tb wb, e = .returned (.pointer (some ⟨tb, 0, none⟩)) ∧ TxS W' tb s wb at1 [] 0 ∧ Below W.heap.size W W' ∧ W.heap.size ≤ tb ∧ W.heap.size ≤ wb := by
  have CN := Lib.hid (newVW_any W)
  go_enter Try.func11, Try.ntmps11
  go_wp2_with fail
  refine CN.out.mono ?_
  rintro e w1 ⟨wb, rfl, hwb, hmq, hb1⟩
  have H1 := Lib.hid (And.intro hwb (And.intro hmq hb1))
  clear hwb hmq hb1 CN
  go_wp2_with fail
  go_ret
  obtain ⟨hwb, hmq, hb1⟩ := H1.out
  have hb2 := below_alloc w1 (.cells #[.pointer (some ⟨s, 0, none⟩), .int .i64 at1, .pointer (some ⟨wb, 0, none⟩)] 75)
  exact ⟨w1.heap.size, wb, rfl, ⟨heap_alloc_new w1 _, ⟨.nil, hmq.below hb2, trivial, rfl⟩, by unfold RisB; exact List.Pairwise.nil, by simp, Nat.le_refl _⟩, hb1.trans (hb2.mono hb1.size), hb1.size, by omega⟩
theorem keepF {p q : Prop} (h : p) (k : p → q) : q := k h
theorem three_free {A B : World} {i : Nat} {x y z : Value} {T : TypeId} (h : A.heap[i]? = some (.cells #[x, y, z] T (0, 0))) (hb : Below A.heap.size A B) :
    (B.cell? ⟨i, 0, none⟩ = some x ∧ B.cell? ⟨i, 1, none⟩ = some y ∧ B.cell? ⟨i, 2, none⟩ = some z) ∧ B.frozen? ⟨i, 0, none⟩ = false ∧ B.frozen? ⟨i, 1, none⟩ = false ∧ B.frozen? ⟨i, 2, none⟩ = false := by
  have e : B.heap[i]? = some (.cells #[x, y, z] T (0, 0)) := by rw [hb.block i (Array.getElem?_eq_some_iff.1 h).1]; exact h
  exact ⟨⟨cell_of_row B i 0 _ _ (0, 0) e, cell_of_row B i 1 _ _ (0, 0) e, cell_of_row B i 2 _ _ (0, 0) e⟩, frozen_of_row B i 0 _ _ e, frozen_of_row B i 1 _ _ e, frozen_of_row B i 2 _ _ e⟩
/-- What a write answers. -/
def wrC (L : OwnL) (w : WrT) : Int := if w.1 = [] ∨ 1200 < w.1.length ∨ 6000 < w.2.1.length then 3 else if (getB w.1 L).isSome = false ∧ L.length = 1000 then 17 else 0
/-- What a write leaves. -/
def wrL (L : OwnL) (w : WrT) : OwnL := if wrC L w = 0 then insB w.1 w L else L
def WrP (W : World) (tb s wb : Nat) (at1 : Int) (L : OwnL) (k : Nat) (w : WrT) (e : Ending) (W' : World) : Prop := e = .returned (.int .i64 (wrC L w)) ∧ TxS W' tb s wb at1 (wrL L w) (k + 1) ∧ Frm (fun i => i = wb) W W'
theorem ht_lenQ {t : Tr} (h : WS KSVW VSVW t) : ht t ≤ (prs t).length := ht_len h
theorem bel1 {W0 w5 : World} {o : Obj} (hb : Below W0.drew.heap.size W0.drew w5) : Below W0.heap.size W0 (w5.alloc o) := by
  have h1 : Below W0.heap.size W0 w5 := (Below.drewsN (Below.refl _ W0) 1).trans hb
  exact h1.trans ((below_alloc w5 o).mono h1.size)
theorem bel1s {W0 w5 : World} {o : Obj} {u v g : Value} (hb : Below W0.drew.heap.size W0.drew w5) : Below W0.heap.size W0 ((((w5.alloc o).setCell ⟨w5.heap.size, 0, none⟩ u).setCell ⟨w5.heap.size, 1, none⟩ v).setCell ⟨w5.heap.size, 2, none⟩ g) := by
  have h1 := bel1 (o := o) hb
  have h2 : Below W0.heap.size W0 w5 := (Below.drewsN (Below.refl _ W0) 1).trans hb
  exact h1.trans (set3_below h2.size)
theorem bel2 {W0 w5 : World} {o : Obj} {u v g : Value} (hb : Below (W0.alloc o).drew.heap.size (W0.alloc o).drew w5) : Below W0.heap.size W0 (((w5.setCell ⟨W0.heap.size, 0, none⟩ u).setCell ⟨W0.heap.size, 1, none⟩ v).setCell ⟨W0.heap.size, 2, none⟩ g) := by
  have h1 : Below W0.heap.size W0 (W0.alloc o).drew := Below.drewsN (below_alloc W0 o) 1
  exact (h1.trans (hb.mono h1.size)).trans (set3_below (Nat.le_refl _))
/-- Put into the writes. -/
theorem txPutMap (h : TxS W tb s wb at1 L k) (hk : k ≤ 100000) (w : WrT) : Calls Try.prog 61 #[.pointer (some ⟨wb, 0, none⟩), str w.1, fW w] W fun e W' => (∃ z, e = .returned (.bool z)) ∧ TxS W' tb s wb at1 (insB w.1 w L) (k + 1) ∧ Frm (fun i => i = wb) W W' := by
  obtain ⟨tw, m1, m2, m3⟩ := h.mp
  have hl := h.hk
  have hpl : (prs tw).length ≤ k := by rw [m3, List.length_map]; exact hl
  have hht := ht_len m2
  refine (mputVW_any wb (str w.1) (fW w) tw W m1 ⟨w.1, rfl⟩ (fW_kind w) m2 (by omega) (by omega)).mono ?_
  rintro e W' ⟨rfl, g1, g2, g3⟩
  have hf : Frm (fun i => i = wb) W W' := Frm.of_only g2 g3 rfl
  obtain ⟨q1, _⟩ := WS.put (K := KSVW) (V := VSVW) ⟨w.1, rfl⟩ (fW_kind w) m2
  refine ⟨⟨_, rfl⟩, ⟨(hf.block tb h.lt.1 h.ne).trans h.box, ⟨_, g1, q1, ?_⟩, insB_ris h.rs, fun x hx => ?_, Nat.le_trans (insB_len _ _ _) (Nat.succ_le_succ hl)⟩, hf⟩
  · rw [prs_put ordVW ⟨w.1, rfl⟩ m2 (by rw [m3]; exact (ris_map _ _).2 h.rs), m3]
    exact ins_map fW w.1 w L
  · rcases insB_mem h.rs x hx with rfl | ⟨hx, _⟩
    · rfl
    · exact h.kk x hx
set_option maxRecDepth 100000 in
set_option maxHeartbeats 4000000 in
theorem txWrite (h : TxS W tb s wb at1 L k) (hk : k ≤ 100000) (x : WrT) (hx : x.1.length ≤ 9223372036854775807 ∧ x.2.1.length ≤ 9223372036854775807) :
    Calls Try.prog 40 #[.pointer (some ⟨tb, 0, none⟩), fW x] W (WrP W tb s wb at1 L k x) := by
  obtain ⟨xa, xb, xc⟩ := x
  dsimp only at hx
  obtain ⟨hx1, hx2⟩ := hx
  unfold fW WrP
  dsimp only
  have hbx := below_alloc W (.cells #[str xa, str xb, .bool xc] 58)
  have hnw := heap_alloc_new W (.cells #[str xa, str xb, .bool xc] 58)
  have q0 : (W.alloc (.cells #[str xa, str xb, .bool xc] 58)).cell? ⟨W.heap.size, 0, none⟩ = some (str xa) := cell_of_row _ W.heap.size 0 _ _ (0, 0) hnw
  have q1 : (W.alloc (.cells #[str xa, str xb, .bool xc] 58)).cell? ⟨W.heap.size, 1, none⟩ = some (str xb) := cell_of_row _ W.heap.size 1 _ _ (0, 0) hnw
  obtain ⟨C, hC⟩ : ∃ C, C = wrC L (xa, xb, xc) := ⟨_, rfl⟩
  obtain ⟨L', hL'⟩ : ∃ L', L' = wrL L (xa, xb, xc) := ⟨_, rfl⟩
  rw [← hC, ← hL']
  have HLC : Hid (L' = if C = 0 then insB xa (xa, xb, xc) L else L) := Lib.hid (by rw [hL', hC]; rfl)
  have HC := Lib.hid hC
  have H := Lib.hid (h.below hbx)
  have HBX := Lib.hid hbx
  clear hC hL'
  by_cases c1 : xa = [] ∨ 1200 < xa.length ∨ 6000 < xb.length
  · have HX : Hid (C = 3 ∧ L' = L) := Lib.hid (by
      have e : C = 3 := by rw [HC.out]; unfold wrC; rw [if_pos c1]
      exact ⟨e, by rw [HLC.out, e]; rfl⟩)
    have HE : Hid (TxS _ tb s wb at1 L (k + 1) ∧ Frm (fun i => i = wb) W _) := Lib.hid ⟨H.out.wide (Nat.le_succ k), Frm.of_below hbx⟩
    obtain ⟨rfl, rfl⟩ := HX.out
    clear h hbx hnw HC H HBX HLC HX
    by_cases e1 : xa = []
    · subst e1
      have e1' : (([] : List UInt8) == []) = true := rfl
      go_enter Try.func40, Try.ntmps40
      go_wp2_with fail
      go_ret
      exact ⟨rfl, HE.out⟩
    · have e1' : (xa == []) = false := beq_eq_false_iff_ne.2 e1
      by_cases e2 : 1200 < xa.length
      · have e2' : decide ((1200 : Int) < (xa.length : Int)) = true := decide_eq_true (by omega)
        clear c1 e1
        go_enter Try.func40, Try.ntmps40
        go_wp2_with fail
        go_ret
        exact ⟨rfl, HE.out⟩
      · have e2' : decide ((1200 : Int) < (xa.length : Int)) = false := decide_eq_false (by omega)
        have e3 : 6000 < xb.length := by rcases c1 with h | h | h; exact absurd h e1; exact absurd h e2; exact h
        have e3' : decide ((6000 : Int) < (xb.length : Int)) = true := decide_eq_true (by omega)
        clear c1 e1
        go_enter Try.func40, Try.ntmps40
        go_wp2_with fail
        go_ret
        exact ⟨rfl, HE.out⟩
  · have e1' : (xa == []) = false := beq_eq_false_iff_ne.2 (fun e => c1 (.inl e))
    have e2' : decide ((1200 : Int) < (xa.length : Int)) = false := decide_eq_false (fun e => c1 (.inr (.inl (by omega))))
    have e3' : decide ((6000 : Int) < (xb.length : Int)) = false := decide_eq_false (fun e => c1 (.inr (.inr (by omega))))
    have HC1 := Lib.hid c1
    clear c1 h
    obtain ⟨Z, hZ⟩ : ∃ Z, Z = (getB xa L).isSome := ⟨_, rfl⟩
    obtain ⟨r, hr⟩ : ∃ r, r = ((getB xa L).map fW).getD (.agg #[str [], str [], .bool false]) := ⟨_, rfl⟩
    obtain ⟨W0, hW0⟩ : ∃ W0, W0 = W.alloc (.cells #[str xa, str xb, .bool xc] 58) := ⟨_, rfl⟩
    have HRK : Hid (∃ ra rb rc, r = .agg #[str ra, str rb, .bool rc]) := Lib.hid (by
      rw [hr]
      cases getB xa L with
      | none => exact ⟨[], [], false, rfl⟩
      | some y => exact ⟨y.1, y.2.1, y.2.2, rfl⟩)
    rw [← hW0] at H HBX q0 q1 hnw
    have CG : Hid (∀ W', Below W0.heap.size W0 W' → Calls Try.prog 42 #[.pointer (some ⟨wb, 0, none⟩), str xa] W' fun e W'' => e = .returned (.tuple #[r, .bool Z]) ∧ Below W'.heap.size W' W'') := Lib.hid (fun W' hb => by
      obtain ⟨tw, m1, m2, m3⟩ := (H.out.below hb).mp
      refine (mgetVW_any wb (str xa) tw W' m1 ⟨xa, rfl⟩ m2).mono ?_
      rintro e W'' ⟨rfl, hb2⟩
      refine ⟨?_, hb2⟩
      rw [getT_eq ordVW ⟨xa, rfl⟩ m2 (by rw [m3]; exact (ris_map _ _).2 H.out.rs), m3, get_map]
      unfold getEVW
      rw [hr, hZ]
      simp)
    have HZ := Lib.hid hZ
    have HC0 : Hid (∀ W', Below W0.heap.size W0 W' → W'.cell? ⟨tb, 2, none⟩ = some (.pointer (some ⟨wb, 0, none⟩)) ∧ W'.cell? ⟨W.heap.size, 0, none⟩ = some (str xa) ∧ W'.cell? ⟨W.heap.size, 1, none⟩ = some (str xb) ∧ W'.cell? ⟨W.heap.size, 2, none⟩ = some (.bool xc)) := Lib.hid (fun W' hb => by
      have hn : W'.heap[W.heap.size]? = some (.cells #[str xa, str xb, .bool xc] 58 (0, 0)) := by
        rw [hb.block _ (Array.getElem?_eq_some_iff.1 hnw).1]; exact hnw
      exact ⟨(H.out.below hb).box.cells.2.2, cell_of_row _ W.heap.size 0 _ _ (0, 0) hn, cell_of_row _ W.heap.size 1 _ _ (0, 0) hn, cell_of_row _ W.heap.size 2 _ _ (0, 0) hn⟩)
    obtain ⟨ra, rb, rc, rfl⟩ := HRK.out
    clear hnw hr hZ HRK
    go_enter Try.func40, Try.ntmps40
    rw [hW0] at q0 q1
    go_upto_region 3 with fail
    rw [← hW0] at q0 q1 ⊢
    have HQ := Lib.hid (And.intro q0 q1)
    clear hW0
    obtain ⟨p2, b0, b1', b2'⟩ := HC0.out _ (Below.refl _ _)
    go_cut [5, 6] from 22 to 31 (fun p f wc => ∃ B, p = .pointer (some ⟨B, 0, none⟩) ∧ f = .bool Z ∧ Hid (Below W0.heap.size W0 wc))
    case first =>
      obtain ⟨u2, u0, u1, _⟩ := HC0.out _ (below_alloc W0 (.cells #[str [], str [], .bool false] 58))
      go_wp2_with fail
      go_region_with (go_at_call 42; refine (CG.out _ (by first | exact Below.drewsN (Below.refl _ _) 1 | exact (Below.drewsN (Below.refl _ _) 1).trans (below_alloc _ _) | exact Below.drewsN (below_alloc _ _) 1)).mono ?_; rintro e w5 ⟨rfl, hb5⟩; obtain ⟨⟨g0, g1, g2⟩, g3, g4, g5⟩ := three_free (heap_alloc_new w5 (.cells #[str [], str [], .bool false] 58)) (Below.refl _ _); first | (refine keepF (three_free (A := (W0.alloc (.cells #[str [], str [], .bool false] 58)).drew) (heap_alloc_new W0 (.cells #[str [], str [], .bool false] 58)) hb5) ?_; rintro ⟨⟨y0, y1, y2⟩, y3, y4, y5⟩) | skip)
      all_goals
        go_wp2_with fail
        go_meet
        case rel =>
          refine ⟨_, rfl, rfl, Lib.hid ?_⟩
          first
            | with_reducible exact bel1 hb5
            | with_reducible exact bel1s hb5
            | with_reducible exact bel2 hb5
    case rest =>
    obtain ⟨B, rfl, rfl, HB⟩ := hcut
    clear CG p2 b0 b1' b2' q0 q1
    have HTX := Lib.hid (H.out.below HB.out)
    have CLN : Hid (Calls Try.prog 60 #[.pointer (some ⟨wb, 0, none⟩)] wc fun e w' => e = .returned (.int .i64 (L.length : Int)) ∧ w' = wc) := Lib.hid (by
      obtain ⟨tw, m1, m2, m3⟩ := HTX.out.mp
      have := mlenVW_any wb tw wc m1
      rw [m3, List.length_map] at this
      exact this)
    have hLk : L.length ≤ k := H.out.hk
    obtain ⟨p2, b0, b1', b2'⟩ := HC0.out _ HB.out
    have HC2 : Hid (C = if Z = false ∧ L.length = 1000 then 17 else 0) := Lib.hid (by
      rw [HC.out]
      unfold wrC
      rw [if_neg HC1.out, HZ.out])
    by_cases h17 : Z = false ∧ L.length = 1000
    · obtain ⟨rfl, hL1⟩ := h17
      have HX : Hid (C = 17 ∧ L' = L) := Lib.hid (by
        have e : C = 17 := by rw [HC2.out, if_pos ⟨rfl, hL1⟩]
        exact ⟨e, by rw [HLC.out, e]; rfl⟩)
      obtain ⟨rfl, rfl⟩ := HX.out
      have hL2 : ((L'.length : Int) == 1000) = true := by rw [beq_iff_eq]; omega
      have hL3 : (L'.length == 1000) = true := by rw [beq_iff_eq]; exact hL1
      have HL1 := Lib.hid hL1
      clear hL1
      go_wp2_with (go_at_call 60; refine CLN.out.mono ?_; rintro e w' ⟨rfl, rfl⟩)
      go_ret
      exact ⟨rfl, HTX.out.wide (Nat.le_succ k), Frm.of_below (HBX.out.trans (HB.out.mono HBX.out.size))⟩
    · have HX : Hid (C = 0 ∧ L' = insB xa (xa, xb, xc) L) := Lib.hid (by
        have e : C = 0 := by rw [HC2.out, if_neg h17]
        exact ⟨e, by rw [HLC.out, e]; rfl⟩)
      obtain ⟨rfl, rfl⟩ := HX.out
      have CP : Hid (∀ W', Below wc.heap.size wc W' → Calls Try.prog 61 #[.pointer (some ⟨wb, 0, none⟩), str xa, .agg #[str xa, str xb, .bool xc]] W' fun e W'' => ∃ z, e = .returned (.bool z) ∧ Hid (TxS W'' tb s wb at1 (insB xa (xa, xb, xc) L) (k + 1) ∧ Frm (fun i => i = wb) W' W'')) := Lib.hid (fun W' hb => by
        refine (txPutMap (HTX.out.below hb) hk (xa, xb, xc)).mono ?_
        rintro e W'' ⟨⟨z, rfl⟩, h1, h2⟩
        exact ⟨z, rfl, Lib.hid ⟨h1, h2⟩⟩)
      have HBV : Hid (wb ≠ W.heap.size ∧ W.heap.size < wc.heap.size) := Lib.hid (by
        have hlt := World.block_lt_of_cell? wc _ b0
        refine ⟨?_, hlt⟩
        rintro rfl
        obtain ⟨u, v, T, hh⟩ := HTX.out.two
        have e2 := cell_of_row wc _ 2 _ T (0, 0) hh
        rw [b2'] at e2
        simp at e2)
      have HSC : Hid (∀ W', Below wc.heap.size wc W' → W'.cell? ⟨tb, 2, none⟩ = some (.pointer (some ⟨wb, 0, none⟩)) ∧ W'.cell? ⟨W.heap.size, 0, none⟩ = some (str xa) ∧ W'.cell? ⟨W.heap.size, 1, none⟩ = some (str xb) ∧ W'.cell? ⟨W.heap.size, 2, none⟩ = some (.bool xc)) := Lib.hid (fun W' hb => HC0.out _ (HB.out.trans (hb.mono HB.out.size)))
      have HSF : Hid (∀ W'', Hid (TxS W'' tb s wb at1 (insB xa (xa, xb, xc) L) (k + 1) ∧ Frm (fun i => i = wb) wc.drew W'') → W''.cell? ⟨tb, 2, none⟩ = some (.pointer (some ⟨wb, 0, none⟩)) ∧ W''.cell? ⟨W.heap.size, 0, none⟩ = some (str xa) ∧ W''.cell? ⟨W.heap.size, 1, none⟩ = some (str xb) ∧ W''.cell? ⟨W.heap.size, 2, none⟩ = some (.bool xc)) := Lib.hid (fun W'' hh => by
        have e : ∀ j, W''.cell? ⟨W.heap.size, j, none⟩ = wc.drew.cell? ⟨W.heap.size, j, none⟩ := fun j => by
          have := hh.out.2.block W.heap.size HBV.out.2 (fun e => HBV.out.1 e.symm)
          simp only [World.cell?, this]
        exact ⟨hh.out.1.box.cells.2.2, (e 0).trans b0, (e 1).trans b1', (e 2).trans b2'⟩)
      have key : ∀ Z0 : Bool, Z = Z0 → Z0 = true ∨ (Z0 = false ∧ ((L.length : Int) == 1000) = false ∧ (L.length == 1000) = false) := fun Z0 e => by
        cases Z0
        · have : ¬ L.length = 1000 := fun h => h17 ⟨e, h⟩
          exact .inr ⟨rfl, by rw [beq_eq_false_iff_ne]; omega, by rw [beq_eq_false_iff_ne]; exact this⟩
        · exact .inl rfl
      have HZ0 := Lib.hid (key Z rfl)
      have CP1 := Lib.hid (CP.out _ (Below.drewsN (Below.refl _ wc) 1))
      have HFIN : Hid (Frm (fun i => i = wb) W wc.drew) := Lib.hid (Frm.of_below (Below.drewsN (HBX.out.trans (HB.out.mono HBX.out.size)) 1))
      clear h17 key HZ HC HC1 HC2 HX HLC CP HSC HBV HTX HC0 H HBX HB
      rcases HZ0.out with rfl | ⟨rfl, hl1, hl2⟩
      all_goals
        clear HZ0
        go_wp2_with (go_at_call 60; refine CLN.out.mono ?_; rintro e w' ⟨rfl, rfl⟩)
        go_region_held3 (fun W' => W'.cell? ⟨tb, 2, none⟩ = some (.pointer (some ⟨wb, 0, none⟩)) ∧ W'.cell? ⟨W.heap.size, 0, none⟩ = some (str xa) ∧ W'.cell? ⟨W.heap.size, 1, none⟩ = some (str xb) ∧ W'.cell? ⟨W.heap.size, 2, none⟩ = some (.bool xc))
          (first
            | (exact ⟨p2, b0, b1', b2'⟩)
            | (exact HSF.out _ hh3)
            | go_keep)
          ((first
            | (go_at_call 61; refine CP1.out.mono ?_; rintro e w3 ⟨z3, rfl, hh3⟩)
            | fail))
        all_goals
          go_wp2_with fail
          go_ret
          refine ⟨rfl, ?_⟩
          exact ⟨hh3.out.1, HFIN.out.trans hh3.out.2 (fun _ _ h => h)⟩
end Go.Proofs.Ytcgjiddiegepkaa

/- txn: Put, Delete, Get. -/
namespace Go.Proofs.Ytcgjiddiegepkaa
open Go.RowKit

variable {W : World} {tb s wb : Nat} {at1 : Int} {L : OwnL} {k : Nat}
theorem TxS.ltW (h : TxS W tb s wb at1 L k) : wb < W.heap.size := h.lt.2
/-- What a write does in any world over W. -/
theorem wrAt (h : TxS W tb s wb at1 L k) (hk : k ≤ 100000) (x : WrT) (hx : x.1.length ≤ 9223372036854775807 ∧ x.2.1.length ≤ 9223372036854775807) {W' : World} (hb : Below W.heap.size W W') :
    Calls Try.prog 40 #[.pointer (some ⟨tb, 0, none⟩), .agg #[str x.1, str x.2.1, .bool x.2.2]] W' (fun e w' => e = .returned (.int .i64 (wrC L x)) ∧ Hid (TxS w' tb s wb at1 (wrL L x) (k + 1) ∧ Frm (fun i => i = wb) W w')) := by
  refine (txWrite (h.below hb) hk x hx).mono ?_
  rintro e w' ⟨rfl, h1, h2⟩
  exact ⟨rfl, Lib.hid ⟨h1, (Frm.of_below hb).trans h2 (fun _ _ h => h)⟩⟩
set_option maxHeartbeats 1600000 in
theorem txPut (h : TxS W tb s wb at1 L k) (hk : k ≤ 100000) (x y : List UInt8) (hx : x.length ≤ 9223372036854775807) (hy : y.length ≤ 9223372036854775807) :
    Calls Try.prog 14 #[.pointer (some ⟨tb, 0, none⟩), str x, str y] W (WrP W tb s wb at1 L k (x, y, false)) := by
  have CW : Hid (∀ W', Below W.heap.size W W' → Calls Try.prog 40 #[.pointer (some ⟨tb, 0, none⟩), .agg #[str x, str y, .bool false]] W' (fun e w' => e = .returned (.int .i64 (wrC L (x, y, false))) ∧ Hid (TxS w' tb s wb at1 (wrL L (x, y, false)) (k + 1) ∧ Frm (fun i => i = wb) W w'))) := Lib.hid (fun W' hb => wrAt h hk (x, y, false) ⟨hx, hy⟩ hb)
  unfold WrP
  obtain ⟨C, hC⟩ : ∃ C, C = wrC L (x, y, false) := ⟨_, rfl⟩
  rw [← hC] at CW ⊢
  clear h hC
  go_enter Try.func14, Try.ntmps14
  go_wp2_with (go_at_call 40; refine (CW.out _ (Below.refl _ _)).mono ?_; rintro e w1 ⟨rfl, h1⟩)
  go_ret
  exact ⟨rfl, h1.out⟩
set_option maxHeartbeats 1600000 in
theorem txDelete (h : TxS W tb s wb at1 L k) (hk : k ≤ 100000) (x : List UInt8) (hx : x.length ≤ 9223372036854775807) :
    Calls Try.prog 16 #[.pointer (some ⟨tb, 0, none⟩), str x] W (WrP W tb s wb at1 L k (x, [], true)) := by
  have CW : Hid (∀ W', Below W.heap.size W W' → Calls Try.prog 40 #[.pointer (some ⟨tb, 0, none⟩), .agg #[str x, str [], .bool true]] W' (fun e w' => e = .returned (.int .i64 (wrC L (x, [], true))) ∧ Hid (TxS w' tb s wb at1 (wrL L (x, [], true)) (k + 1) ∧ Frm (fun i => i = wb) W w'))) := Lib.hid (fun W' hb => wrAt h hk (x, [], true) ⟨hx, by simp⟩ hb)
  unfold WrP
  obtain ⟨C, hC⟩ : ∃ C, C = wrC L (x, [], true) := ⟨_, rfl⟩
  rw [← hC] at CW ⊢
  clear h hC
  go_enter Try.func16, Try.ntmps16
  go_wp2_with (go_at_call 40; refine (CW.out _ (Below.refl _ _)).mono ?_; rintro e w1 ⟨rfl, h1⟩)
  go_ret
  exact ⟨rfl, h1.out⟩
end Go.Proofs.Ytcgjiddiegepkaa

/- txn: Writes. -/
namespace Go.Proofs.Ytcgjiddiegepkaa
open Go.RowKit
attribute [local go_sem] Oper.semAt_some wide_fn wide_depth
variable {W : World} {tb s wb : Nat} {at1 : Int} {L : OwnL} {k : Nat}
theorem infoWr : (Try.prog.info? 58).map (fun i => (i.zero, i.size, i.bytes)) = some (some (.agg #[str [], str [], .bool false]), 3, 40) := by kernel_rfl
def cellsWr (y : WrT) : List Value := [str y.1, str y.2.1, .bool y.2.2]
/-- The writes so far. -/
def WrsI (w : World) (pre : List (Value × Value)) (W : World) : Prop :=
  BoxRowN (w.heap.size + 1) w.heap.size 54 58 3 W pre.length (flatV (pre.map Prod.snd)) ∧ Below w.heap.size w W
theorem wrsI_own (w : World) {B : Nat} (hB : w.heap.size ≤ B) : OwnFromT (fun _ => False) B (WrsI w) :=
  OwnFromT.and ((boxRowN_ownT _ _ _ _ _ (fun pre : List (Value × Value) => pre.length) (fun pre => flatV (pre.map Prod.snd)) (by simp) (by simp)).from _) (ownFromT_below (Nat.le_refl _) hB)
/-- A slice of writes. -/
def WrsP (w : World) (l : List WrT) (e : Ending) (w' : World) : Prop := ∃ v, e = .returned v ∧ w'.ownsRow w.heap.size 58 3 v l.length (l.map cellsWr).flatten ∧ Below w.heap.size w w'
theorem flat_wrs (L : OwnL) : flatV ((L.map (pairB fW)).map Prod.snd) = ((L.map Prod.snd).map cellsWr).flatten := by
  induction L with
  | nil => rfl
  | cons x t ih =>
    simp only [List.map_cons, List.flatten_cons] at ih ⊢
    rw [← ih]
    rfl
set_option maxRecDepth 100000 in
set_option maxHeartbeats 8000000 in
theorem txWrites (h : TxS W tb s wb at1 L k) (hk : k ≤ 100000) : Calls Try.prog 33 #[.pointer (some ⟨tb, 0, none⟩)] W (WrsP W (L.map Prod.snd)) := by
  obtain ⟨i0, hi, hz0, hz1, hz2⟩ := info_parts infoWr
  have hl := h.hk
  obtain ⟨tw, m1, m2, m3⟩ := h.mp
  have hB0 : Below W.heap.size W ((W.alloc (.cells #[.slice none 0 0] 54)).alloc (.cells #[.pointer (some ⟨wb, 0, none⟩)] 72)) := (((Below.refl _ W).alloc (Nat.le_refl _) _).alloc (by simp) _)
  have bA := Boxed.new W 54 (.slice none 0 0)
  have p2 : (W.alloc (.cells #[.slice none 0 0] 54)).cell? ⟨tb, 2, none⟩ = some (.pointer (some ⟨wb, 0, none⟩)) := (h.below (below_alloc W _)).box.cells.2.2
  have CA := mallVW_any wb (W.alloc (.cells #[.slice none 0 0] 54))
  rw [World.size_alloc] at CA
  have HS : Hid (TxS W tb s wb at1 L k) := Lib.hid h
  have HSQ : Hid (∀ W', Below W.heap.size W W' → W'.cell? ⟨W.heap.size + 1, 0, none⟩ = some (.pointer (some ⟨wb, 0, none⟩)) → Seqs Try.prog 73 #[.pointer (some ⟨W.heap.size + 1, 0, none⟩)] (fun p : Value × Value => #[p.1, p.2]) (NQ W) (fun T => T = 58) (L.map (pairB fW)) W') := Lib.hid (fun W' hb hc => by
    have := alls2VW_any (Wr := fun T => T = 58) m1 m2 hc hb
    rwa [m3] at this)
  clear h m1 m2
  refine (callsIn_wide (n := 9)).1 ?_
  refine callsIn_of_wp_marks Try.func33 rfl trivial ?_ rfl
  simp only [Try.ntmps33, List.size_toArray, List.length_cons, List.length_nil, Nat.reduceAdd, Nat.reduceSub, Array.replicate_succ, Array.replicate_zero, List.push_toArray, List.append_toArray, List.nil_append, List.cons_append]
  gi_wp2_with (gi_at_call 54; refine ((callsIn_wide (n := 8)).2 CA).mono ?_; rintro e w1 ⟨rfl, rfl⟩)
  have bM := Boxed.new (W.alloc (.cells #[.slice none 0 0] 54)) 72 (.pointer (some ⟨wb, 0, none⟩))
  rw [World.size_alloc] at bM
  refine range_lawA (Tw := fun _ => False) (gf := 73) (lb := #[.pointer (some ⟨W.heap.size + 1, 0, none⟩)]) rfl (enters_of Try.func73 (by kernel_rfl) rfl) (Ok := NQ W) (Wr := fun T => T = 58) (xs := L.map (pairB fW))
    (fun W' h => (HSQ.out W' (hB0.trans (h.mono (by simp; omega))) ((h.cell (p := ⟨W.heap.size + 1, 0, none⟩) (by simp)).trans bM.cell)).toW) (by intro x; rfl)
    (WrsI W) (fun _ _ _ => False)
    (wrsI_own W (by simp; omega)) (fun c => ownFromT_pure _ _ (fun _ => False))
    ⟨⟨_, bA.alloc _, World.ownsRow_nil _ _ _ _⟩, hB0⟩ (fun pre W2 h => NQ.of_below h.2)
    (fun x b => { tmps := #[.pointer (some ⟨tb, 0, none⟩), undef, .slice none 0 0, .pointer (some ⟨W.heap.size, 0, none⟩), undef, .pointer (some ⟨b, 0, none⟩), .pointer (some ⟨tb, 0, none⟩), .pointer (some ⟨tb, 0, none⟩), .pointer (some ⟨tb, 2, none⟩), .pointer (some ⟨wb, 0, none⟩), .func (.func 73) #[] #[.pointer (some ⟨W.heap.size + 1, 0, none⟩)], x.1, x.2, undef, undef, undef, undef, undef], defers := [] }) (fun x => .cells #[wA x.2, wB x.2, wC x.2] 58) ?assign ?body ?done ?stop
  case assign =>
    intro l x W1 K hx hK
    obtain ⟨y, _, rfl⟩ := List.mem_map.1 hx
    have HK := Lib.hid hK
    clear hK
    unfold pairB fW
    dsimp only
    gi_wp2
    exact HK.out
  case body =>
    rintro l2 pre ⟨px, py⟩ b W1 _ hbl hbo ⟨⟨v, hv, hrow⟩, hB⟩ ⟨t, ht⟩
    obtain ⟨y, rfl⟩ : ∃ y : WrT, py = fW y := by
      have hm : (px, py) ∈ L.map (pairB fW) := by rw [ht]; simp
      obtain ⟨x, _, hx⟩ := List.mem_map.1 hm
      exact ⟨x.2, (congrArg Prod.snd hx).symm⟩
    obtain ⟨ya, yb, yc⟩ := y
    have hbx : W1.heap[b]? = some (.cells #[str ya, str yb, .bool yc] 58 (0, 0)) := hbo
    have z0 : W1.cell? ⟨b, 0, none⟩ = some (str ya) := cell_of_row W1 b 0 _ _ (0, 0) hbx
    have z1 : W1.cell? ⟨b, 1, none⟩ = some (str yb) := cell_of_row W1 b 1 _ _ (0, 0) hbx
    have z2 : W1.cell? ⟨b, 2, none⟩ = some (.bool yc) := cell_of_row W1 b 2 _ _ (0, 0) hbx
    have cvv := hv.cell
    have hlen : pre.length + 1 ≤ 100000 := by
      have := congrArg List.length ht
      simp at this; omega
    have hsz : W.heap.size + 1 ≤ W1.heap.size := hv.lt
    have ex : flatV ((pre ++ [(px, fW (ya, yb, yc))]).map Prod.snd) = flatV (pre.map Prod.snd) ++ [str ya, str yb, .bool yc] := by rw [List.map_append, List.map_singleton, flatV_snoc]; rfl
    have HE := Lib.hid (And.intro ex hB)
    unfold fW
    dsimp only
    clear ex hB ht hB0 bA bM HSQ CA p2 hbo hbx
    gi_wp2_with (gi_at_builtin; refine wpListIn_append_own _ rfl _ _ 54 rfl (W.heap.size + 1) 58 i0 (.agg #[str [], str [], .bool false]) 3 40 Try.underlying54 hi hz0 hz1 hz2 rfl (by decide) _ _ _ rfl (hrow.alloc _) ⟨W1.heap.size, 0, none⟩ 1 1 [str ya, str yb, .bool yc] rfl rfl (cell_three_new _ _ _ _ _) (by simp [Value.oneCell']) (by simp only [maxLen]; omega) (by omega) (by simp; omega) ?_; intro v' w1 hown' hgrow _; obtain ⟨g', cap', rfl⟩ := ownsRow_succ hown'; obtain ⟨hv1, hv2, hr2, hbel⟩ := appended2 hv (by omega) hsz hrow hown' hgrow; have hT := boxT (Wr := fun T => T = 58) (v' := .slice (some ⟨g', 0, none⟩) (pre.length + 1) cap') (D := W.heap.size + 2) hv (by decide) hrow hgrow rfl (by omega); have hc1 := hv1.cell; have hf1 := hv1.frozen; clear hown' hgrow)
    obtain ⟨ex, hB⟩ := HE.out
    exact ⟨hT.more (by simp), ⟨_, hv2, by rw [show (px, Value.agg #[str ya, str yb, .bool yc]) = (px, fW (ya, yb, yc)) from rfl, ex, List.length_append]; exact hr2⟩, hB.trans (hbel _ (Nat.le_refl _))⟩
  case done =>
    rintro D W1 hD ⟨⟨v, hv, hrow⟩, hB⟩ hK
    have cv := hv.cell
    gi_wp2
    refine ⟨by simp, .inl ⟨_, _, rfl, run_takeDeferred hK, ?_⟩⟩
    refine ⟨_, results_tmp rfl _ _ _, v, rfl, ?_, hB.trans (belowK_b (w := W) (Nat.le_refl _) W1 D _ _ (by simp at hD; omega) hK rfl rfl)⟩
    rw [List.length_map] at hrow
    rw [List.length_map, ← flat_wrs]
    exact row_mono (b := W.heap.size + 1) (b' := W.heap.size) (ownsRow_putObj hrow _ hK rfl) (by omega)
  case stop =>
    rintro D c pre W hD _ hF
    exact hF.elim
end Go.Proofs.Ytcgjiddiegepkaa

/- A drawn region in a round, walked with a condition held (as out of it). -/
namespace Go.Proofs.Ytcgjiddiegepkaa
open Go.RowKit

theorem oper_wide {n : Nat} {P : Program} {o : Oper} {a : Act} {w : World} {K : Act → World → Prop} {Q : Exit → Act → World → Prop} (h : Oper.wp P o a w K Q) : Oper.wpIn Fence.wide n P o a w K Q := by
  unfold Oper.wp at h
  unfold Oper.wpIn
  refine ⟨fun _ _ => trivial, ?_⟩
  rw [show Fence.wide.round = none from rfl, Oper.semAt_none]
  generalize (execOp a.eval o).run P w = r at h ⊢
  rcases r with ⟨v, w'⟩ | ⟨s, w'⟩
  · have hd : Fence.wide.depth.isSome = true → 1 ≤ n := by
      intro h
      cases h
    cases v with
    | value v => exact h
    | skip => exact h
    | defer d => exact h
    | enter f args => exact ⟨hd, callsIn_wide.2 (Calls.mono h (fun e w'' he => by cases e <;> exact he))⟩
    | row row args =>
      refine ⟨hd, fun c cs _ => ?_⟩
      obtain ⟨v, w'', r, s⟩ := h c cs
      exact ⟨v, w'', r, stepsIn_wide.2 s⟩
    | _ => exact h.elim
  · cases s <;> exact h
theorem any_wide {n : Nat} {P : Program} {md : Region.Mode} {ops : Array Oper} {Q : Exit → Act → World → Prop} (hlo : ¬ LetsOut Q) :
    ∀ (fuel : Nat) (listed : Array Bool) (a : Act) (w : World), wpAny P md ops Q fuel listed a w → wpAnyIn Fence.wide n P md ops Q fuel listed a w := by
  intro fuel
  induction fuel with
  | zero => intro listed a w h; exact h
  | succ fuel ih =>
    intro listed a w h
    refine ⟨h.1, fun i hi => ?_⟩
    have h2 := h.2 i hi
    unfold wpOp at h2
    unfold wpOpIn
    cases ho : ops[i]? with
    | none => simp only [ho] at h2 ⊢; exact ih _ _ _ h2
    | some o =>
      simp only [ho] at h2 ⊢
      split
      · next hw =>
        simp only [hw, if_true] at h2
        rcases h2 with h2 | h2
        · exact Oper.wpIn_mono (fun a w h => ih _ a w h) (oper_wide h2)
        · exact (hlo h2.2).elim
      · next hw =>
        simp only [hw] at h2
        exact ⟨fun _ _ => trivial, ih _ _ _ h2⟩
/-- The beginning, in a round. -/
theorem held_round {l n : Nat} {P : Program} {id : Nat} {ops : Array Oper} {R : Act → World → Prop} {S : World → Prop} {a : Act} {w : World} (hm : P.follows .mixedOrders = true) (hno : noDefer ops = true) (hS : S w.drew)
    (h : S w.drew → wpAnyH P .any ops (OnlyF R) S ops.size (Array.replicate ops.size false) a w.drew) : (Code.region id ops true).wpIn (Fence.wide.inRound l) n P (OnlyF R) a w :=
  wpIn_region_any hm (any_inRound rfl hno _ _ _ _ (any_wide (fun ⟨_, _, h⟩ => h) _ _ _ _ (wpAny_of_held _ _ _ _ (h hS))))
end Go.Proofs.Ytcgjiddiegepkaa

/- txn: Clash. -/
namespace Go.Proofs.Ytcgjiddiegepkaa
open Go.RowKit
attribute [local go_sem] Oper.semAt_some wide_fn wide_depth
variable {W : World} {tb s wb : Nat} {at1 : Int} {L : OwnL} {k : Nat}
theorem str_inj' {a b : List UInt8} (h : (str a : Value) = str b) : a = b := by simpa using h
theorem any_map_id {α : Type} (l : List α) (f : α → Bool) : (l.map f).any id = l.any f := by
  induction l with
  | nil => rfl
  | cons x t ih => simp [ih]
theorem clash_same (lst : List UInt8 → Int) (at1 : Int) : ∀ (B1 B2 : OwnL), B1.map (pairB fW) = B2.map (pairB fW) → B1.map (fun x => decide (at1 < lst x.1)) = B2.map (fun x => decide (at1 < lst x.1))
  | [], [], _ => rfl
  | [], _ :: _, h => by simp at h
  | _ :: _, [], h => by simp at h
  | x :: t, y :: u, h => by
    simp only [List.map_cons, List.cons.injEq] at h ⊢
    have e : x.1 = y.1 := str_inj' (congrArg Prod.fst h.1)
    exact ⟨by rw [e], clash_same lst at1 t u h.2⟩
/-- No key so far is behind; one is. -/
def ClN (lst : List UInt8 → Int) (at1 : Int) (b : Bool) (pre : List (Value × Value)) : Prop := ∃ A : OwnL, pre = A.map (pairB fW) ∧ A.any (fun x => decide (at1 < lst x.1)) = b
def ClR (W : World) (lst : List UInt8 → Int) (at1 : Int) (L : OwnL) (e : Ending) (W' : World) : Prop := e = .returned (.bool (L.any (fun x => decide (at1 < lst x.1)))) ∧ Below W.heap.size W W'
set_option maxRecDepth 100000 in
set_option maxHeartbeats 8000000 in
theorem txClash (h : TxS W tb s wb at1 L k) (lst : List UInt8 → Int) (cl : ∀ W' key, Below W.heap.size W W' → Calls Try.prog 24 #[.pointer (some ⟨s, 0, none⟩), str key] W' fun e w' => e = .returned (.int .i64 (lst key)) ∧ W' = w') :
    Calls Try.prog 31 #[.pointer (some ⟨tb, 0, none⟩)] W (ClR W lst at1 L) := by
  have hl := h.hk
  obtain ⟨tw, m1, m2, m3⟩ := h.mp
  obtain ⟨W0, hW0⟩ : ∃ W0, W0 = (W.alloc (.cells #[.pointer (some ⟨tb, 0, none⟩)] 30)).alloc (.cells #[.bool false] 4) := ⟨_, rfl⟩
  have hz0 : W0.heap.size = W.heap.size + 2 := by rw [hW0]; simp
  have hb0 : Below W.heap.size W W0 := by rw [hW0]; exact ((Below.refl _ W).alloc (Nat.le_refl _) _).alloc (by simp) _
  have p2 : W0.cell? ⟨tb, 2, none⟩ = some (.pointer (some ⟨wb, 0, none⟩)) := (h.below hb0).box.cells.2.2
  have bT : Boxed W0 W.heap.size 30 (.pointer (some ⟨tb, 0, none⟩)) := by rw [hW0]; exact (Boxed.new W 30 (.pointer (some ⟨tb, 0, none⟩))).alloc _
  have bR : Boxed W0 (W.heap.size + 1) 4 (.bool false) := by
    have := Boxed.new (W.alloc (.cells #[.pointer (some ⟨tb, 0, none⟩)] 30)) 4 (.bool false)
    rw [World.size_alloc] at this
    rw [hW0]; exact this
  have CA := mallVW_any wb W0
  rw [hz0] at CA
  have HS : Hid (TxS W tb s wb at1 L k) := Lib.hid h
  have HSQ : Hid (∀ W', Below W.heap.size W W' → W'.cell? ⟨W.heap.size + 2, 0, none⟩ = some (.pointer (some ⟨wb, 0, none⟩)) → Seqs Try.prog 73 #[.pointer (some ⟨W.heap.size + 2, 0, none⟩)] (fun p : Value × Value => #[p.1, p.2]) (NQ W) (fun T => T = 4) (L.map (pairB fW)) W') := Lib.hid (fun W' hb hc => by
    have := alls2VW_any (Wr := fun T => T = 4) m1 m2 hc hb
    rwa [m3] at this)
  have HCL := Lib.hid cl
  clear h m1 m2 cl
  refine (callsIn_wide (n := 9)).1 ?_
  refine callsIn_of_wp_marks Try.func31 rfl trivial ?_ rfl
  simp only [Try.ntmps31, List.size_toArray, List.length_cons, List.length_nil, Nat.reduceAdd, Nat.reduceSub, Array.replicate_succ, Array.replicate_zero, List.push_toArray, List.append_toArray, List.nil_append, List.cons_append]
  rw [hW0] at CA p2
  have c0 := bT.cell
  rw [hW0] at c0
  gi_wp2_with (gi_at_call 54; refine ((callsIn_wide (n := 8)).2 CA).mono ?_; rintro e w1 ⟨rfl, rfl⟩)
  have bM := Boxed.new W0 72 (.pointer (some ⟨wb, 0, none⟩))
  rw [hz0] at bM
  have hb1 : Below W.heap.size W (W0.alloc (.cells #[.pointer (some ⟨wb, 0, none⟩)] 72)) := hb0.trans ((below_alloc W0 _).mono hb0.size)
  rw [← hW0]
  have hz1 : (W0.alloc (.cells #[.pointer (some ⟨wb, 0, none⟩)] 72)).heap.size = W.heap.size + 3 := by simp [hz0]
  have bT1 := bT.alloc (.cells #[.pointer (some ⟨wb, 0, none⟩)] 72)
  have bR1 := bR.alloc (.cells #[.pointer (some ⟨wb, 0, none⟩)] 72)
  generalize hW1 : W0.alloc (.cells #[.pointer (some ⟨wb, 0, none⟩)] 72) = W1 at bM hb1 hz1 bT1 bR1 ⊢
  clear CA p2 c0 hW0 hz0 hb0 bT bR hW1
  refine range_law (gf := 73) (lb := #[.pointer (some ⟨W.heap.size + 2, 0, none⟩)]) rfl (enters_of Try.func73 (by kernel_rfl) rfl) (Ok := NQ W) (Wr := fun T => T = 4) (xs := L.map (pairB fW))
    (fun W' h => HSQ.out W' (hb1.trans (h.mono (by omega))) ((h.cell (p := ⟨W.heap.size + 2, 0, none⟩) (by show W.heap.size + 2 < _; omega)).trans bM.cell)) (by intro x; rfl)
    (fun pre W2 => Below W.heap.size W W2 ∧ Boxed W2 W.heap.size 30 (.pointer (some ⟨tb, 0, none⟩)) ∧ Boxed W2 (W.heap.size + 1) 4 (.bool false) ∧ ClN lst at1 false pre)
    (fun c pre W2 => Below W.heap.size W W2 ∧ Boxed W2 (W.heap.size + 1) 4 (.bool true) ∧ c = .ret ∧ ClN lst at1 true pre)
    (OwnFromT.plain (OwnFromT.and (ownFromT_below (Nat.le_refl _) (by omega)) (OwnFromT.and ((boxed_ownT (Tw := fun _ => False) _ _ (fun _ : List (Value × Value) => .pointer (some ⟨tb, 0, none⟩)) (by simp)).from _) (OwnFromT.and ((boxed_ownT (Tw := fun _ => False) _ _ (fun _ : List (Value × Value) => .bool false) (by simp)).from _) (ownFromT_pure _ _ _)))))
    (fun c => OwnFromT.plain (OwnFromT.and (ownFromT_below (Nat.le_refl _) (by omega)) (OwnFromT.and ((boxed_ownT (Tw := fun _ => False) _ _ (fun _ : List (Value × Value) => .bool true) (by simp)).from _) (ownFromT_pure _ _ _))))
    ⟨hb1, bT1, bR1, [], rfl, rfl⟩ (fun pre W2 h => NQ.of_below h.1) ?a1 ?assign ?body ?done ?stop
  case assign =>
    intro l x W K hK
    gi_wp2
    exact hK
  case body =>
    rintro l2 pre ⟨px, py⟩ W2 _ ⟨hb2, hT, hR, A, rfl, hA⟩ ⟨t, ht⟩
    obtain ⟨y, hy1, hy2⟩ : ∃ y : List UInt8 × WrT, px = str y.1 ∧ py = fW y.2 := by
      have hm : (px, py) ∈ L.map (pairB fW) := by rw [ht]; simp
      obtain ⟨x, _, hx⟩ := List.mem_map.1 hm
      exact ⟨x, (congrArg Prod.fst hx).symm, (congrArg Prod.snd hx).symm⟩
    obtain ⟨key, y⟩ := y
    dsimp only at hy1 hy2
    subst hy1 hy2
    have hcc := (HS.out.below hb2).box.cells
    have p0 := hcc.1
    have p1 := hcc.2.1
    have cT := hT.cell
    have cR := hR.cell
    have fR := hR.frozen
    have CL := Lib.hid (HCL.out W2 key hb2)
    have CL1 := Lib.hid (HCL.out W2.drew key (Below.drewsN hb2 1))
    have HH := Lib.hid (And.intro hb2 (And.intro hT (And.intro hR hA)))
    obtain ⟨la, hla⟩ : ∃ la, la = lst key := ⟨_, rfl⟩
    rw [← hla] at CL CL1
    have HLA := Lib.hid hla
    have HSS : Hid (W2.drew.cell? ⟨W.heap.size, 0, none⟩ = some (.pointer (some ⟨tb, 0, none⟩)) ∧ W2.drew.cell? ⟨tb, 0, none⟩ = some (.pointer (some ⟨s, 0, none⟩)) ∧ W2.drew.cell? ⟨tb, 1, none⟩ = some (.int .i64 at1)) := Lib.hid ⟨cT, p0, p1⟩
    dsimp only
    clear hb2 hT hR hA CL ht hcc HCL HSQ bM hb1 bT1 bR1 hla
    gi_wp2_with fail
    refine onlyF_cut (fun a W' => a = { tmps := #[.pointer (some ⟨tb, 0, none⟩), .pointer (some ⟨W.heap.size, 0, none⟩), .pointer (some ⟨W.heap.size + 1, 0, none⟩), str key, .pointer (some ⟨tb, 0, none⟩), .pointer (some ⟨tb, 0, none⟩), .pointer (some ⟨tb, 2, none⟩), .pointer (some ⟨wb, 0, none⟩), .func (.func 73) #[] #[.pointer (some ⟨W.heap.size + 2, 0, none⟩)], str key, fW y, .pointer (some ⟨tb, 0, none⟩), .pointer (some ⟨tb, 0, none⟩), .pointer (some ⟨tb, 0, none⟩), .pointer (some ⟨s, 0, none⟩), str key, .int .i64 la, .pointer (some ⟨tb, 0, none⟩), .pointer (some ⟨tb, 0, none⟩), .pointer (some ⟨tb, 1, none⟩), .int .i64 at1, .bool (decide (at1 < la))], defers := [] } ∧ W' = W2.drew) ?_ ?_
    · refine held_round (S := fun W' => W'.cell? ⟨W.heap.size, 0, none⟩ = some (.pointer (some ⟨tb, 0, none⟩)) ∧ W'.cell? ⟨tb, 0, none⟩ = some (.pointer (some ⟨s, 0, none⟩)) ∧ W'.cell? ⟨tb, 1, none⟩ = some (.int .i64 at1)) (by kernel_rfl) (by kernel_rfl) HSS.out (fun hHeld => ?_)
      refine wpAnyH_take (i := 0) (v := ?v1) rfl (by kernel_rfl) (by kernel_rfl) (by kernel_rfl) (fun _ _ _ h => h) (Or.inl ⟨by rfl, ?hy1⟩) (by assumption) ?_
      case hy1 => (intro w hSw; obtain ⟨s0, s1, s2⟩ := hSw; go_simp; try with_reducible rfl)
      go_simp
      refine wpAnyH_take (i := 1) (v := ?v2) rfl (by kernel_rfl) (by kernel_rfl) (by kernel_rfl) (fun _ _ _ h => h) (Or.inl ⟨by rfl, ?hy2⟩) (by assumption) ?_
      case hy2 => (intro w hSw; clear hSw; go_simp; try with_reducible rfl)
      go_simp
      refine wpAnyH_take (i := 2) (v := ?v3) rfl (by kernel_rfl) (by kernel_rfl) (by kernel_rfl) (fun _ _ _ h => h) (Or.inl ⟨by rfl, ?hy3⟩) (by assumption) ?_
      case hy3 => (intro w hSw; clear hSw; go_simp; try with_reducible rfl)
      go_simp
      refine wpAnyH_take (i := 3) (v := ?v4) rfl (by kernel_rfl) (by kernel_rfl) (by kernel_rfl) (fun _ _ _ h => h) (Or.inl ⟨by rfl, ?hy4⟩) (by assumption) ?_
      case hy4 => (intro w hSw; obtain ⟨s0, s1, s2⟩ := hSw; go_simp; try with_reducible rfl)
      go_simp
      refine wpAnyH_take (i := 4) (v := ?v5) rfl (by kernel_rfl) (by kernel_rfl) (by kernel_rfl) (fun _ _ _ h => h) (Or.inl ⟨by rfl, ?hy5⟩) (by assumption) ?_
      case hy5 => (intro w hSw; clear hSw; go_simp; try with_reducible rfl)
      go_simp
      refine wpAnyH_take (i := 6) (v := ?v6) rfl (by kernel_rfl) (by kernel_rfl) (by kernel_rfl) (fun _ _ _ h => h) (Or.inl ⟨by rfl, ?hy6⟩) (by assumption) ?_
      case hy6 => (intro w hSw; obtain ⟨s0, s1, s2⟩ := hSw; go_simp; try with_reducible rfl)
      go_simp
      refine wpAnyH_take (i := 7) (v := ?v7) rfl (by kernel_rfl) (by kernel_rfl) (by kernel_rfl) (fun _ _ _ h => h) (Or.inl ⟨by rfl, ?hy7⟩) (by assumption) ?_
      case hy7 => (intro w hSw; clear hSw; go_simp; try with_reducible rfl)
      go_simp
      refine wpAnyH_take (i := 8) (v := ?v8) rfl (by kernel_rfl) (by kernel_rfl) (by kernel_rfl) (fun _ _ _ h => h) (Or.inl ⟨by rfl, ?hy8⟩) (by assumption) ?_
      case hy8 => (intro w hSw; clear hSw; go_simp; try with_reducible rfl)
      go_simp
      refine wpAnyH_take (i := 9) (v := ?v9) rfl (by kernel_rfl) (by kernel_rfl) (by kernel_rfl) (fun _ _ _ h => h) (Or.inl ⟨by rfl, ?hy9⟩) (by assumption) ?_
      case hy9 => (intro w hSw; obtain ⟨s0, s1, s2⟩ := hSw; go_simp; try with_reducible rfl)
      go_simp
      refine wpAnyH_ready (rs := [5]) (by kernel_rfl) (by simp) (AllReadyH.cons rfl (fun K hK => ?_) AllReadyH.nil)
      go_simp
      refine CL1.out.mono ?_
      rintro e w5 ⟨rfl, rfl⟩
      go_simp
      refine hK.out _ _ (HSS.out) (fun hHeld => ?_)
      clear hK K
      refine wpAnyH_take (i := 10) (v := ?v10) rfl (by kernel_rfl) (by kernel_rfl) (by kernel_rfl) (fun _ _ _ h => h) (Or.inl ⟨by rfl, ?hy10⟩) (by assumption) ?_
      case hy10 => (intro w hSw; clear hSw; go_simp; try with_reducible rfl)
      go_simp
      refine wpAnyH_done (by kernel_rfl) ?_ _
      dsimp only [OnlyF]
      exact ⟨rfl, rfl⟩
    rintro a W4 ⟨rfl, rfl⟩
    obtain ⟨q, hq⟩ : ∃ q, q = decide (at1 < la) := ⟨_, rfl⟩
    rw [← hq]
    have HQ := Lib.hid hq
    have HZ1 := Lib.hid hz1
    clear hq HSS hz1
    cases q with
    | false =>
      gi_wp2_with fail
      obtain ⟨hb2, hT, hR, hA⟩ := HH.out
      exact ⟨KT.drew _ _ _, Below.drewsN hb2 1, hT, hR, A ++ [(key, y)], by simp [pairB], by rw [List.any_append, hA]; simp [← HLA.out, ← HQ.out]⟩
    | true =>
      gi_wp2_with fail
      obtain ⟨hb2, hT, hR, hA⟩ := HH.out
      have hz := HZ1.out
      exact ⟨(KT.of_grown (grownBy_setCell' W2 (W.heap.size + 1) (.bool true)) (fun j ej => .inl (by simp at ej; omega))).trans (KT.drew _ _ _), Below.drewsN (Below.setCell hb2 (p := ⟨W.heap.size + 1, 0, none⟩) (Nat.le_succ _) _) 1, hR.set _, rfl, A ++ [(key, y)], by simp [pairB], by rw [List.any_append, hA]; simp [← HLA.out, ← HQ.out]⟩
  case done =>
    rintro D W2 hD ⟨hb2, hT, hR, A, hA1, hA⟩ hK
    have cR := hR.cell
    have fR := hR.frozen
    have hR2 := hR.set (.bool false)
    have hK2 : (W2.setCell ⟨W.heap.size + 1, 0, none⟩ (.bool false)).heap[D]? = some (.deferred (some [])) := by
      rw [Below.heap_setCell _ _ _ _ (by show D ≠ W.heap.size + 1; omega)]; exact hK
    have HH := Lib.hid (And.intro hb2 (And.intro hR2 (And.intro hA1 hA)))
    clear hb2 hT hR hR2 hA1 hA
    gi_wp2
    obtain ⟨hb2, hR2, hA1, hA⟩ := HH.out
    refine ⟨by simp, .inl ⟨_, _, rfl, run_takeDeferred hK2, ?_⟩⟩
    have hR3 : Boxed ((W2.setCell ⟨W.heap.size + 1, 0, none⟩ (.bool false)).putObj D (.deferred none)) (W.heap.size + 1) 4 (.bool false) := (World.putObj_heap_other (by omega)).trans hR2
    have c3 := hR3.cell
    have hLA : L.any (fun x => decide (at1 < lst x.1)) = false := by
      have e : ∀ (B1 B2 : OwnL), B1.map (pairB fW) = B2.map (pairB fW) → B1.map (fun x => decide (at1 < lst x.1)) = B2.map (fun x => decide (at1 < lst x.1)) := clash_same lst at1
      have := e L A hA1
      rw [← any_map_id, this, any_map_id]; exact hA
    refine ⟨.bool false, by simp [results, Try.results31, go_sem, c3], by rw [hLA], ?_⟩
    exact (Below.setCell hb2 (p := ⟨W.heap.size + 1, 0, none⟩) (Nat.le_succ _) _).trans (belowK_b (w := W) (Nat.le_refl _) _ D _ _ (by omega) hK2 rfl rfl)
  case stop =>
    rintro D c pre W2 hD ⟨t, ht⟩ ⟨hb2, hR, rfl, A, hA1, hA⟩ hK
    have HH := Lib.hid (And.intro hb2 (And.intro hR (And.intro hA1 (And.intro hA ht))))
    clear hb2 hR hA1 hA ht
    gi_wp2
    obtain ⟨hb2, hR, hA1, hA, ht⟩ := HH.out
    refine ⟨by simp, .inl ⟨_, _, rfl, run_takeDeferred hK, ?_⟩⟩
    have hR3 : Boxed (W2.putObj D (.deferred none)) (W.heap.size + 1) 4 (.bool true) := (World.putObj_heap_other (by omega)).trans hR
    have c3 := hR3.cell
    have hLA : L.any (fun x => decide (at1 < lst x.1)) = true := by
      obtain ⟨B1, B2, h1, h2, h3⟩ := List.map_eq_append_iff.1 ht
      have := clash_same lst at1 B1 A (h2.trans hA1)
      rw [h1, List.any_append, ← any_map_id, this, any_map_id, hA]; rfl
    refine ⟨.bool true, by simp [results, Try.results31, go_sem, c3], by rw [hLA], ?_⟩
    exact hb2.trans (belowK_b (w := W) (Nat.le_refl _) W2 D _ _ (by omega) hK rfl rfl)
end Go.Proofs.Ytcgjiddiegepkaa

/- txn: Get. -/
namespace Go.Proofs.Ytcgjiddiegepkaa
open Go.RowKit

variable {W : World} {tb s wb : Nat} {at1 : Int} {L : OwnL} {k : Nat}
/-- What Get tells: its own write, else what the store has. -/
def txG (L : OwnL) (key : List UInt8) (r : Option (List UInt8)) : Ending :=
  match getB key L with
  | some y => .returned (.tuple #[str y.2.1, .bool (!y.2.2)])
  | none => seenEVS r
set_option maxRecDepth 100000 in
set_option maxHeartbeats 4000000 in
theorem txGet (h : TxS W tb s wb at1 L k) (key : List UInt8) (r : Option (List UInt8)) (cg : ∀ W', Below W.heap.size W W' → Calls Try.prog 43 #[.pointer (some ⟨s, 0, none⟩), str key, .int .i64 at1] W' fun e W'' => e = seenEVS r ∧ Below W'.heap.size W' W'') :
    Calls Try.prog 18 #[.pointer (some ⟨tb, 0, none⟩), str key] W fun e W' => e = txG L key r ∧ Below W.heap.size W W' := by
  obtain ⟨Z, hZ⟩ : ∃ Z, Z = (getB key L).isSome := ⟨_, rfl⟩
  obtain ⟨v, hv⟩ : ∃ v, v = ((getB key L).map fW).getD (.agg #[str [], str [], .bool false]) := ⟨_, rfl⟩
  obtain ⟨ra, rb, rc, hrk⟩ : ∃ ra rb rc, v = .agg #[str ra, str rb, .bool rc] := by
    rw [hv]
    cases getB key L with
    | none => exact ⟨[], [], false, rfl⟩
    | some y => exact ⟨y.1, y.2.1, y.2.2, rfl⟩
  subst hrk
  have HR : Hid (txG L key r = if Z = true then .returned (.tuple #[str rb, .bool (!rc)]) else seenEVS r) := Lib.hid (by
    unfold txG
    rw [hZ]
    cases e : getB key L with
    | none => rfl
    | some y =>
      rw [e] at hv
      simp only [Option.map_some, Option.getD_some, fW] at hv
      injection hv with hv
      simp only [Array.mk.injEq, List.cons.injEq, and_true] at hv
      obtain ⟨_, h2, h3⟩ := hv
      injection h3 with h3
      simp only [Option.isSome_some, if_true]
      rw [h2, h3])
  have CG : Hid (∀ W', Below W.heap.size W W' → Calls Try.prog 42 #[.pointer (some ⟨wb, 0, none⟩), str key] W' fun e W'' => e = .returned (.tuple #[.agg #[str ra, str rb, .bool rc], .bool Z]) ∧ Below W'.heap.size W' W'') := Lib.hid (fun W' hb => by
    obtain ⟨tw, m1, m2, m3⟩ := (h.below hb).mp
    refine (mgetVW_any wb (str key) tw W' m1 ⟨key, rfl⟩ m2).mono ?_
    rintro e W'' ⟨rfl, hb2⟩
    refine ⟨?_, hb2⟩
    rw [getT_eq ordVW ⟨key, rfl⟩ m2 (by rw [m3]; exact (ris_map _ _).2 h.rs), m3, get_map]
    unfold getEVW
    rw [hv, hZ]
    simp)
  have HC0 : Hid (∀ W', Below W.heap.size W W' → W'.cell? ⟨tb, 0, none⟩ = some (.pointer (some ⟨s, 0, none⟩)) ∧ W'.cell? ⟨tb, 1, none⟩ = some (.int .i64 at1) ∧ W'.cell? ⟨tb, 2, none⟩ = some (.pointer (some ⟨wb, 0, none⟩))) := Lib.hid (fun W' hb => (h.below hb).box.cells)
  have CS := Lib.hid cg
  rw [HR.out]
  clear h hZ hv cg HR
  obtain ⟨p0, p1, p2⟩ := HC0.out _ (Below.refl _ _)
  go_enter Try.func18, Try.ntmps18
  go_wp2_with (go_at_call 42; refine (CG.out _ (Below.refl _ _)).mono ?_; rintro e w5 ⟨rfl, hb5⟩; refine keepF (HC0.out _ hb5) ?_; rintro ⟨p0, p1, p2⟩; have HB5 := Lib.hid hb5; clear hb5; cases Z)
  · clear p0 p1 p2 CG
    generalize hV : w5.alloc _ = V
    have HBV : Hid (Below W.heap.size W V) := Lib.hid (by rw [← hV]; exact HB5.out.trans ((below_alloc w5 _).mono HB5.out.size))
    obtain ⟨p0, p1, _⟩ := HC0.out _ HBV.out
    have CS5 : Hid (Calls Try.prog 43 #[.pointer (some ⟨s, 0, none⟩), str key, .int .i64 at1] V.drew fun e W'' => e = .returned (.tuple #[str (r.getD []), .bool r.isSome]) ∧ Hid (Below W.heap.size W W'')) := Lib.hid ((CS.out _ (Below.drewsN HBV.out 1)).mono (by
      rintro e W'' ⟨rfl, hb⟩
      exact ⟨rfl, Lib.hid (HBV.out.trans (Below.mono ((Below.drewsN (Below.refl _ V) 1).trans hb) HBV.out.size))⟩))
    have HS : Hid (∀ W', Below W.heap.size W W' → W'.cell? ⟨tb, 0, none⟩ = some (.pointer (some ⟨s, 0, none⟩)) ∧ W'.cell? ⟨tb, 1, none⟩ = some (.int .i64 at1)) := Lib.hid (fun W' hb => by
      have := HC0.out _ hb
      exact ⟨this.1, this.2.1⟩)
    clear HC0 CS hV
    go_region_held3 (fun W' => W'.cell? ⟨tb, 0, none⟩ = some (.pointer (some ⟨s, 0, none⟩)) ∧ W'.cell? ⟨tb, 1, none⟩ = some (.int .i64 at1))
      (first
        | (exact ⟨p0, p1⟩)
        | (exact HS.out _ hb6.out)
        | go_keep)
      ((first
        | (go_at_call 43; refine CS5.out.mono ?_; rintro e w6 ⟨rfl, hb6⟩)
        | fail))
    all_goals
      go_wp2_with fail
      go_ret2
      exact ⟨rfl, hb6.out⟩
  · clear p0 p1 p2 CG CS HC0
    have hnw := heap_alloc_new w5 (.cells #[str ra, str rb, .bool rc] 58)
    have HBV : Hid (Below W.heap.size W (w5.alloc (.cells #[str ra, str rb, .bool rc] 58))) := Lib.hid (HB5.out.trans ((below_alloc w5 _).mono HB5.out.size))
    have z1 : (w5.alloc (.cells #[str ra, str rb, .bool rc] 58)).cell? ⟨w5.heap.size, 1, none⟩ = some (str rb) := cell_of_row _ w5.heap.size 1 _ _ (0, 0) hnw
    have z2 : (w5.alloc (.cells #[str ra, str rb, .bool rc] 58)).cell? ⟨w5.heap.size, 2, none⟩ = some (.bool rc) := cell_of_row _ w5.heap.size 2 _ _ (0, 0) hnw
    clear hnw
    generalize hV : w5.alloc (.cells #[str ra, str rb, .bool rc] 58) = V at z1 z2 HBV ⊢
    generalize hn : w5.heap.size = nb at z1 z2 ⊢
    clear hV hn
    go_region_held3 (fun W' => W'.cell? ⟨nb, 1, none⟩ = some (str rb) ∧ W'.cell? ⟨nb, 2, none⟩ = some (.bool rc))
      (first
        | (exact ⟨z1, z2⟩)
        | go_keep)
      (fail)
    all_goals
      go_wp2_with fail
      go_ret2
      exact ⟨rfl, Below.drewsN HBV.out 1⟩
end Go.Proofs.Ytcgjiddiegepkaa

/- A store and a transaction over it. -/
namespace Go.Proofs.Ytcgjiddiegepkaa
open Go.RowKit

theorem StVS.seven {W : World} {B s mb : Nat} {t : Tr} {S : ChsVS} {cnt low : Int} {k : Nat} (h : StVS W B s mb t S cnt low k) : ∀ i, BlkVS s mb S i → ∀ cs T z, W.heap[i]? = some (.cells cs T z) → cs.size ≠ 7 := by
  rintro i (rfl | rfl | ⟨x, hx, hi⟩) cs T z hc
  · rw [h.box] at hc
    simp only [Option.some.injEq, Obj.cells.injEq] at hc
    rw [← hc.1]; simp
  · obtain ⟨T', o, hb, _⟩ := h.mp
    rw [hb] at hc
    simp only [Option.some.injEq, Obj.cells.injEq] at hc
    rw [← hc.1]; simp
  · obtain ⟨cap, hcap⟩ := owns_size (h.ch x hx) hi hc
    omega
variable {X W : World} {K : Nat → Prop} {s mb : Nat} {C : ChC} {low : Int} {n : Nat} {tb wb : Nat} {at1 : Int} {L : OwnL} {k : Nat}
/-- The store stands when blocks turn that are kept for others. -/
theorem SG.turn {W' : World} {F : Nat → Prop} (h : SG X K W s mb C low n) (hf : Frm F W W') (h5 : ∀ i, F i → ∀ cs T z, W.heap[i]? = some (.cells cs T z) → cs.size ≠ 5) (hk : ∀ i, F i → K i) (hX : ∀ i, F i → X.heap.size ≤ i) : SG X K W' s mb C low n := by
  obtain ⟨t, S, h1, h2, h3, h4, h6⟩ := h
  refine ⟨t, S, h1.frm hf h5 (fun i hi hF => (h6 i (hk i hF)).2 hi), h2, ⟨hf.os.trans h3.os, hf.tape.trans h3.tape, hf.output.trans h3.output, Nat.le_trans h3.size hf.size, fun i hi => ?_⟩, h4, fun i hi => ⟨Nat.lt_of_lt_of_le (h6 i hi).1 hf.size, (h6 i hi).2⟩⟩
  rw [hf.block i (Nat.lt_of_lt_of_le hi h3.size) (fun hF => by have := hX i hF; omega)]
  exact h3.block i hi
/-- What is not the store's may be kept for others. -/
theorem SG.more {K' : Nat → Prop} (h : SG X K W s mb C low n) (hk : ∀ i, K' i → i < W.heap.size) (hn : ∀ i, K' i → W.heap.size ≤ i ∨ K i ∨ ∃ cs T z, W.heap[i]? = some (.cells cs T z) ∧ cs.size = 7) : SG X K' W s mb C low n := by
  obtain ⟨t, S, h1, h2, h3, h4, h6⟩ := h
  refine ⟨t, S, h1, h2, h3, h4, fun i hi => ⟨hk i hi, fun hb => ?_⟩⟩
  rcases hn i hi with h | h | ⟨cs, T, z, hc, h7⟩
  · have := (h1.blk i hb).2; omega
  · exact (h6 i h).2 hb
  · exact h1.seven i hb cs T z hc h7
/-- New blocks may be kept for others. -/
theorem SG.fresh {W' : World} {K' : Nat → Prop} (h : SG X K W s mb C low n) (hb : Below W.heap.size W W') (hk : ∀ i, K' i → i < W'.heap.size ∧ (W.heap.size ≤ i ∨ K i)) : SG X K' W' s mb C low n := by
  obtain ⟨t, S, h1, h2, h3, h4, h6⟩ := h
  refine ⟨t, S, h1.below hb, h2, h3.trans (hb.mono h3.size), h4, fun i hi => ⟨(hk i hi).1, fun e => ?_⟩⟩
  rcases (hk i hi).2 with h | h
  · have := (h1.blk i e).2; omega
  · exact (h6 i h).2 e
/-- A store and a transaction. -/
structure TT (X W : World) (s mb : Nat) (C : ChC) (low : Int) (n tb wb : Nat) (at1 : Int) (L : OwnL) (k : Nat) : Prop where
  sg : SG X (fun i => i = tb ∨ i = wb) W s mb C low n
  tx : TxS W tb s wb at1 L k
  lo : X.heap.size ≤ tb ∧ X.heap.size ≤ wb
theorem TT.below {W' : World} (h : TT X W s mb C low n tb wb at1 L k) (hb : Below W.heap.size W W') : TT X W' s mb C low n tb wb at1 L k := ⟨h.sg.below hb, h.tx.below hb, h.lo⟩
theorem ttBegin (h : SG X K W s mb C low n) (at1 : Int) : Calls Try.prog 11 #[.pointer (some ⟨s, 0, none⟩), .int .i64 at1] W fun e W' => ∃ tb wb, e = .returned (.pointer (some ⟨tb, 0, none⟩)) ∧ TT X W' s mb C low n tb wb at1 [] 0 := by
  refine (txBegin W s at1).mono ?_
  rintro e W' ⟨tb, wb, rfl, h1, h2, h3, h4⟩
  have hX := h.bel.size
  refine ⟨tb, wb, rfl, h.fresh h2 (fun i hi => ?_), h1, by omega, by omega⟩
  rcases hi with rfl | rfl
  · exact ⟨h1.lt.1, .inl h3⟩
  · exact ⟨h1.lt.2, .inl h4⟩
theorem TT.two (h : TT X W s mb C low n tb wb at1 L k) {W' : World} {L' : OwnL} {k' : Nat} (h1 : TxS W' tb s wb at1 L' k') (hf : Frm (fun i => i = wb) W W') : TT X W' s mb C low n tb wb at1 L' k' := by
  refine ⟨h.sg.turn hf ?_ (fun i hi => .inr hi) (fun i hi => by cases hi; exact h.lo.2), h1, h.lo⟩
  rintro i rfl cs T z hc
  obtain ⟨u, v, T', e⟩ := h.tx.two
  rw [e] at hc
  simp only [Option.some.injEq, Obj.cells.injEq] at hc
  rw [← hc.1]; simp
theorem ttPut (h : TT X W s mb C low n tb wb at1 L k) (hk : k ≤ 100000) (x y : List UInt8) (hx : x.length ≤ 9223372036854775807) (hy : y.length ≤ 9223372036854775807) :
    Calls Try.prog 14 #[.pointer (some ⟨tb, 0, none⟩), str x, str y] W fun e W' => e = .returned (.int .i64 (wrC L (x, y, false))) ∧ TT X W' s mb C low n tb wb at1 (wrL L (x, y, false)) (k + 1) :=
  (txPut h.tx hk x y hx hy).mono (fun _ _ ⟨h1, h2, h3⟩ => ⟨h1, h.two h2 h3⟩)
theorem ttDelete (h : TT X W s mb C low n tb wb at1 L k) (hk : k ≤ 100000) (x : List UInt8) (hx : x.length ≤ 9223372036854775807) :
    Calls Try.prog 16 #[.pointer (some ⟨tb, 0, none⟩), str x] W fun e W' => e = .returned (.int .i64 (wrC L (x, [], true))) ∧ TT X W' s mb C low n tb wb at1 (wrL L (x, [], true)) (k + 1) :=
  (txDelete h.tx hk x hx).mono (fun _ _ ⟨h1, h2, h3⟩ => ⟨h1, h.two h2 h3⟩)
theorem ttGet (h : TT X W s mb C low n tb wb at1 L k) (hn : n ≤ 10000) (key : List UInt8) :
    Calls Try.prog 18 #[.pointer (some ⟨tb, 0, none⟩), str key] W fun e W' => e = txG L key (seenVS (verC key C) at1) ∧ Below W.heap.size W W' :=
  txGet h.tx key _ (fun _ hb => getG (h.sg.below hb) hn key at1)
/-- What a transaction sees. -/
def sawT (at1 : Int) (C : ChC) (L : OwnL) : List PairT := seenW (mrgL ((scanC at1 C).map stW) (L.map (pairB fW)))
theorem mrgL_len : ∀ (a b : List (Value × Value)), (mrgL a b).length ≤ a.length + b.length
  | a, b => mrg_len a b
theorem saw_len (at1 : Int) (C : ChC) (L : OwnL) : (sawT at1 C L).length ≤ C.length + L.length := by
  have h1 : (sawT at1 C L).length ≤ (mrgL ((scanC at1 C).map stW) (L.map (pairB fW))).length := List.length_filterMap_le _ _
  have h2 := mrgL_len ((scanC at1 C).map stW) (L.map (pairB fW))
  have h3 := scan_len at1 C
  simp only [List.length_map] at h2
  omega
theorem ttPairs (h : TT X W s mb C low n tb wb at1 L k) (hn : n ≤ 10000) (hk : k ≤ 100000) {b1 b2 b3 : Nat} (hL : TxL W b1 b2 b3 tb [] []) (m : Int) (hm : 1 ≤ m) :
    Calls Try.prog 21 #[.func (.func 49) #[] #[.pointer (some ⟨b1, 0, none⟩), .pointer (some ⟨b2, 0, none⟩), .pointer (some ⟨b3, 0, none⟩)], .int .i64 m] W (PrsP W ((sawT at1 C L).take m.toNat)) := by
  obtain ⟨t, S, h1, h2, h3, h4, h6⟩ := h.sg
  obtain ⟨tw, m1, m2, m3⟩ := h.tx.mp
  have e : seenW (txL [] at1 S tw) = sawT at1 C L := by
    unfold sawT txL
    rw [scanL_nil, h2, fromW_nil _ (fun p hp => (ws_keys m2 p hp).1), m3]
  have hkk := h.tx.hk
  have hC : C.length ≤ n := by rw [← h2]; unfold chsVS; rw [List.length_map]; exact h1.hk.2.1
  have := txPairs_any h1 (by omega) m1 m2 (by rw [m3, List.length_map]; omega) h.tx.box hL m hm (by rw [e]; have := saw_len at1 C L; omega)
  rw [e] at this
  exact this
theorem ttClash (h : TT X W s mb C low n tb wb at1 L k) (hn : n ≤ 10000) :
    Calls Try.prog 31 #[.pointer (some ⟨tb, 0, none⟩)] W (ClR W (fun key => lastTVS (verC key C)) at1 L) := by
  refine txClash h.tx _ (fun W' key hb => ?_)
  obtain ⟨t, S, h1, h2, h3, h4, h6⟩ := h.sg
  have := lastVS_any (h1.below hb) (by omega) key
  rw [ver_chs, h2] at this
  exact this
end Go.Proofs.Ytcgjiddiegepkaa
