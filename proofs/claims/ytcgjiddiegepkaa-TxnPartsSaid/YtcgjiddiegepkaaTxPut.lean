import Derived.Test.YtcgjiddiegepkaaMapVW
import Derived.Deep.LoopGhost
import Derived.Test.YtcgjiddiegepkaaTxPairs
import Derived.Deep.RegionHeld3
import Derived.Deep.CutRange
import Derived.Deep.RegionWith
import Derived.Laws.Cover1
/- Maps in order, omap[string,handbill/api.Write]: Get. -/
namespace Go.Proofs.Ytcgjiddiegepkaa
open Go.RowKit

theorem set3 {w : World} {b : Nat} {x y z u v g : Value} {T : TypeId} (h : w.heap[b]? = some (.cells #[x, y, z] T (0, 0))) :
    (((w.setCell ⟨b, 0, none⟩ u).setCell ⟨b, 1, none⟩ v).setCell ⟨b, 2, none⟩ g).heap[b]? = some (.cells #[u, v, g] T (0, 0)) := by
  have hlt := (Array.getElem?_eq_some_iff.1 h).1
  have one : ∀ (W : World) (j : Nat) (q : Value) (cs : Array Value), W.heap[b]? = some (.cells cs T (0, 0)) → (W.setCell ⟨b, j, none⟩ q).heap[b]? = some (.cells (cs.setIfInBounds j q) T (0, 0)) := by
    intro W j q cs hc
    have hlt := (Array.getElem?_eq_some_iff.1 hc).1
    have h' : W.heap[b] = .cells cs T (0, 0) := by simpa [Array.getElem?_eq_getElem hlt] using hc
    show (W.heap.modify b _)[b]? = _
    rw [Array.getElem?_eq_getElem (by simpa using hlt), Array.getElem_modify_self, h']
    rfl
  exact one _ 2 g _ (one _ 1 v _ (one _ 0 u _ h))
theorem set3_below {w : World} {b m : Nat} {u v g : Value} (h : m ≤ b) : Below m w (((w.setCell ⟨b, 0, none⟩ u).setCell ⟨b, 1, none⟩ v).setCell ⟨b, 2, none⟩ g) :=
  (((Below.refl m w).setCell (p := ⟨b, 0, none⟩) h u).setCell (p := ⟨b, 1, none⟩) h v).setCell (p := ⟨b, 2, none⟩) h g
/-- What Get tells. -/
def getEVW (r : Option Value) : Ending := .returned (.tuple #[r.getD (.agg #[str [], str [], .bool false]), .bool r.isSome])
theorem getE_someVW (x : Value) : Ending.returned (.tuple #[x, .bool true]) = getEVW (some x) := rfl
theorem getE_noneVW : Ending.returned (.tuple #[.agg #[str [], str [], .bool false], .bool false]) = getEVW none := rfl
set_option maxHeartbeats 1600000 in
theorem mgetVW_any (b : Nat) (k : Value) (t : Tr) (w : World) (h : MQ w b t) (hks : KSVW k) (hw : WS KSVW VSVW t) :
    Calls Try.prog 42 #[.pointer (some ⟨b, 0, none⟩), k] w fun e w' => e = getEVW (getT k t) ∧ Below w.heap.size w w' := by
  obtain ⟨T, o, hc, htp⟩ := h
  have hbx := below_alloc w (.cells #[str [], str [], .bool false] 58)
  have hnw := heap_alloc_new w (.cells #[str [], str [], .bool false] 58)
  have c0 : (w.alloc (.cells #[str [], str [], .bool false] 58)).cell? ⟨b, 0, none⟩ = some (.pointer o) := keepcVW (by simp [World.cell?, hc]) hbx
  obtain ⟨R, hR⟩ : ∃ R, R = getT k t := ⟨_, rfl⟩
  rw [← hR]
  have HR := Lib.hid hR
  have HT := Lib.hid (TQ.below hbx htp)
  have HW := Lib.hid hw
  have HBX := Lib.hid hbx
  have HNW := Lib.hid hnw
  clear hc htp hw hR hbx hnw
  go_enter Try.func42, Try.ntmps42
  go_wp2_with fail
  obtain ⟨w0, hw0⟩ : ∃ w0, w0 = w.alloc (.cells #[str [], str [], .bool false] 58) := ⟨_, rfl⟩
  rw [← hw0]
  rw [← hw0] at HT HBX HNW
  clear c0 hw0
  go_loopg [6] (prs t).length (fun n v wr => ∃ (o' : Option Addr) (t' : Tr), v = .pointer o' ∧ n = (prs t').length ∧ Hid (TQ w0 o' t') ∧ Hid (WS KSVW VSVW t') ∧ Hid (getT k t' = R) ∧ wr = w0)
  case atStart => exact ⟨o, t, rfl, rfl, HT, HW, Lib.hid HR.out.symm, rfl⟩
  case round =>
    obtain ⟨o', t', rfl, rfl, HT', HW', HG, rfl⟩ := hrel
    cases t' with
    | nil =>
      obtain rfl : o' = none := HT'.out
      have e : none = R := HG.out
      subst e
      have hlt0 : w.heap.size < wr.heap.size := (Array.getElem?_eq_some_iff.1 HNW.out).1
      have hn2 : (wr.alloc (.cells #[str [], str [], .bool false] 58)).heap[w.heap.size]? = some (.cells #[str [], str [], .bool false] 58 (0, 0)) := ((below_alloc wr _).block _ hlt0).trans HNW.out
      have hbx2 := HBX.out.trans ((below_alloc wr (.cells #[str [], str [], .bool false] 58)).mono HBX.out.size)
      have HX := Lib.hid hbx2
      have f0 := frozen_of_row _ w.heap.size 0 _ _ hn2
      have f1 := frozen_of_row _ w.heap.size 1 _ _ hn2
      have f2 := frozen_of_row _ w.heap.size 2 _ _ hn2
      have z0 := cell_of_row _ w.heap.size 0 _ _ (0, 0) hn2
      have z1 := cell_of_row _ w.heap.size 1 _ _ (0, 0) hn2
      have z2 := cell_of_row _ w.heap.size 2 _ _ (0, 0) hn2
      simp only [List.getElem?_toArray, List.getElem?_cons_zero, List.getElem?_cons_succ] at z0 z1 z2
      have HN2 := Lib.hid hn2
      clear hn2 hbx2 hlt0
      go_wp2_with fail
      have h3 := set3 (u := str []) (v := str []) (g := .bool false) HN2.out
      have e0 := cell_of_row _ w.heap.size 0 _ _ (0, 0) h3
      have e1 := cell_of_row _ w.heap.size 1 _ _ (0, 0) h3
      have e2 := cell_of_row _ w.heap.size 2 _ _ (0, 0) h3
      simp only [List.getElem?_toArray, List.getElem?_cons_zero, List.getElem?_cons_succ] at e0 e1 e2
      refine bodyPost_ret (v := .tuple #[.agg #[str [], str [], .bool false], .bool false]) (by simp [results, Try.results42, go_sem, e0, e1, e2]) rfl ⟨rfl, HX.out.trans ((set3_below (Nat.le_refl _)).mono (Nat.le_refl _))⟩
    | node l k' x' n r =>
      obtain ⟨b', T', ol, or, rfl, hc', hl, hr⟩ := HT'.out
      obtain ⟨_, a1, a2, a3, a4⟩ := HW'.out
      obtain ⟨xa, xb, xc, rfl⟩ := a2
      have d0 := cell_of_row wr b' 0 _ T' (0, 0) hc'
      have d1 := cell_of_row wr b' 1 _ T' (0, 0) hc'
      have d1b := cell_of_row wr b' 2 _ T' (0, 0) hc'
      have d1c := cell_of_row wr b' 3 _ T' (0, 0) hc'
      have d3 := cell_of_row wr b' 5 _ T' (0, 0) hc'
      have d4 := cell_of_row wr b' 6 _ T' (0, 0) hc'
      simp only [List.getElem?_toArray, List.getElem?_cons_zero, List.getElem?_cons_succ, wA_agg, wB_agg, wC_agg] at d0 d1 d1b d1c d3 d4
      have HL := Lib.hid hl
      have HRr := Lib.hid hr
      have A3 := Lib.hid a3
      have A4 := Lib.hid a4
      have eg := HG.out
      unfold getT at eg
      have CC := Lib.hid (fun W => cmpVW_any k k' W hks a1)
      have LL : Hid ((prs l).length < (prs (Tr.node l k' (.agg #[str xa, str xb, .bool xc]) n r)).length ∧ (prs r).length < (prs (Tr.node l k' (.agg #[str xa, str xb, .bool xc]) n r)).length) := by
        refine Lib.hid ?_
        rw [prs_node, List.length_append, List.length_cons]; omega
      unfold cmpV at CC
      clear hc' hl hr a3 a4
      by_cases g1 : lessV k k' = true
      · rw [if_pos g1] at CC
        rw [if_pos g1] at eg
        have HE := Lib.hid eg
        clear eg g1
        go_wp2_with (go_at_call 62; refine (CC.out _).mono ?_; rintro e w' ⟨rfl, rfl⟩)
        go_roundg (prs l).length
        case measure => exact LL.out.1
        case rel => exact ⟨ol, l, rfl, rfl, HL, A3, HE, rfl⟩
      · rw [if_neg g1] at CC
        rw [if_neg g1] at eg
        by_cases g2 : lessV k' k = true
        · rw [if_pos g2] at CC
          rw [if_pos g2] at eg
          have HE := Lib.hid eg
          clear eg g1 g2
          go_wp2_with (go_at_call 62; refine (CC.out _).mono ?_; rintro e w' ⟨rfl, rfl⟩)
          go_roundg (prs r).length
          case measure => exact LL.out.2
          case rel => exact ⟨or, r, rfl, rfl, HRr, A4, HE, rfl⟩
        · rw [if_neg g2] at CC
          rw [if_neg g2] at eg
          subst eg
          clear g1 g2
          have f0 := frozen_of_row wr w.heap.size 0 _ _ HNW.out
          have f1 := frozen_of_row wr w.heap.size 1 _ _ HNW.out
          have f2 := frozen_of_row wr w.heap.size 2 _ _ HNW.out
          have z0 := cell_of_row _ w.heap.size 0 _ _ (0, 0) HNW.out
          have z1 := cell_of_row _ w.heap.size 1 _ _ (0, 0) HNW.out
          have z2 := cell_of_row _ w.heap.size 2 _ _ (0, 0) HNW.out
          simp only [List.getElem?_toArray, List.getElem?_cons_zero, List.getElem?_cons_succ] at z0 z1 z2
          go_wp2_with (go_at_call 62; refine (CC.out _).mono ?_; rintro e w' ⟨rfl, rfl⟩)
          have h3 := set3 (u := str xa) (v := str xb) (g := .bool xc) HNW.out
          have e0 := cell_of_row _ w.heap.size 0 _ _ (0, 0) h3
          have e1 := cell_of_row _ w.heap.size 1 _ _ (0, 0) h3
          have e2 := cell_of_row _ w.heap.size 2 _ _ (0, 0) h3
          simp only [List.getElem?_toArray, List.getElem?_cons_zero, List.getElem?_cons_succ] at e0 e1 e2
          refine bodyPost_ret (v := .tuple #[.agg #[str xa, str xb, .bool xc], .bool true]) (by simp [results, Try.results42, go_sem, e0, e1, e2]) rfl ⟨rfl, HBX.out.trans ((set3_below (Nat.le_refl _)).mono (Nat.le_refl _))⟩
end Go.Proofs.Ytcgjiddiegepkaa

/- txn: a transaction's state; Begin, write, Put, Delete. -/
namespace Go.Proofs.Ytcgjiddiegepkaa
open Go.RowKit

/-- A write: its key, its value, gone. -/
abbrev WrT := List UInt8 × List UInt8 × Bool
def fW (y : WrT) : Value := .agg #[str y.1, str y.2.1, .bool y.2.2]
abbrev OwnL := List (List UInt8 × WrT)
theorem fW_kind (y : WrT) : VSVW (fW y) := ⟨y.1, y.2.1, y.2.2, rfl⟩
/-- Maps of writes stand when blocks turn that are no nodes of theirs. -/
theorem TQ.frm {F : Nat → Prop} {w w' : World} (hf : Frm F w w') (h7 : ∀ i, F i → ∀ cs T z, w.heap[i]? = some (.cells cs T z) → cs.size ≠ 7) : ∀ {o : Option Addr} {t : Tr}, TQ w o t → TQ w' o t
  | _, .nil, h => h
  | _, .node _ _ _ _ _, h => by
    obtain ⟨b, T, ol, or, rfl, hc, hl, hr⟩ := h
    refine ⟨b, T, ol, or, rfl, ?_, TQ.frm hf h7 hl, TQ.frm hf h7 hr⟩
    rw [hf.block b (Array.getElem?_eq_some_iff.1 hc).1 (fun e => h7 b e _ _ _ hc rfl)]
    exact hc
theorem MQ.frm {F : Nat → Prop} {w w' : World} {b : Nat} {t : Tr} (h : MQ w b t) (hf : Frm F w w') (h7 : ∀ i, F i → ∀ cs T z, w.heap[i]? = some (.cells cs T z) → cs.size ≠ 7) (hb : ¬ F b) : MQ w' b t := by
  obtain ⟨T, o, h1, h2⟩ := h
  exact ⟨T, o, by rw [hf.block b (Array.getElem?_eq_some_iff.1 h1).1 hb]; exact h1, TQ.frm hf h7 h2⟩
/-- A transaction. -/
structure TxS (W : World) (tb s wb : Nat) (at1 : Int) (L : OwnL) (k : Nat) : Prop where
  box : TxB W tb s at1 wb
  mp : ∃ tw, MQ W wb tw ∧ WS KSVW VSVW tw ∧ prs tw = L.map (pairB fW)
  rs : RisB L
  kk : ∀ x ∈ L, x.2.1 = x.1
  hk : L.length ≤ k
variable {W : World} {tb s wb : Nat} {at1 : Int} {L : OwnL} {k : Nat}
theorem TxS.lt (h : TxS W tb s wb at1 L k) : tb < W.heap.size ∧ wb < W.heap.size := by
  obtain ⟨tw, h1, _⟩ := h.mp
  exact ⟨(Array.getElem?_eq_some_iff.1 (show W.heap[tb]? = _ from h.box)).1, h1.lt⟩
theorem TxS.frm {W' : World} {F : Nat → Prop} (h : TxS W tb s wb at1 L k) (hf : Frm F W W') (h7 : ∀ i, F i → ∀ cs T z, W.heap[i]? = some (.cells cs T z) → cs.size ≠ 7) (h1 : ¬ F tb) (h2 : ¬ F wb) : TxS W' tb s wb at1 L k := by
  obtain ⟨tw, m1, m2, m3⟩ := h.mp
  exact ⟨(hf.block tb h.lt.1 h1).trans h.box, ⟨tw, m1.frm hf h7 h2, m2, m3⟩, h.rs, h.kk, h.hk⟩
theorem TxS.below {W' : World} (h : TxS W tb s wb at1 L k) (hb : Below W.heap.size W W') : TxS W' tb s wb at1 L k :=
  h.frm (F := fun _ => False) (Frm.of_below hb) (fun _ hk => hk.elim) (fun hk => hk) (fun hk => hk)
theorem TxS.wide {k' : Nat} (h : TxS W tb s wb at1 L k) (hk : k ≤ k') : TxS W tb s wb at1 L k' := ⟨h.box, h.mp, h.rs, h.kk, Nat.le_trans h.hk hk⟩
theorem TxS.ne (h : TxS W tb s wb at1 L k) : tb ≠ wb := by
  rintro rfl
  obtain ⟨tw, ⟨T, o, m1, _⟩, _⟩ := h.mp
  rw [show W.heap[tb]? = _ from h.box] at m1
  simp at m1
/-- The map's block is of two cells. -/
theorem TxS.two (h : TxS W tb s wb at1 L k) : ∃ u v T, W.heap[wb]? = some (.cells #[u, v] T (0, 0)) := by
  obtain ⟨tw, m1, _⟩ := h.mp
  exact m1.two
theorem txBegin (W : World) (s : Nat) (at1 : Int) : Calls Try.prog 11 #[.pointer (some ⟨s, 0, none⟩), .int .i64 at1] W fun e W' => ∃ tb wb, e = .returned (.pointer (some ⟨tb, 0, none⟩)) ∧ TxS W' tb s wb at1 [] 0 ∧ Below W.heap.size W W' ∧ W.heap.size ≤ tb ∧ W.heap.size ≤ wb := by
  have CN := Lib.hid (newVW_any W)
  go_enter Try.func11, Try.ntmps11
  go_wp2_with fail
  refine CN.out.mono ?_
  rintro e w1 ⟨wb, rfl, hwb, hmq, hb1⟩
  have H1 := Lib.hid (And.intro hwb (And.intro hmq hb1))
  clear hwb hmq hb1 CN
  go_wp2_with fail
  go_ret
  obtain ⟨hwb, hmq, hb1⟩ := H1.out
  have hb2 := below_alloc w1 (.cells #[.pointer (some ⟨s, 0, none⟩), .int .i64 at1, .pointer (some ⟨wb, 0, none⟩)] 75)
  exact ⟨w1.heap.size, wb, rfl, ⟨heap_alloc_new w1 _, ⟨.nil, hmq.below hb2, trivial, rfl⟩, by unfold RisB; exact List.Pairwise.nil, by simp, Nat.le_refl _⟩, hb1.trans (hb2.mono hb1.size), hb1.size, by omega⟩
theorem keepF {p q : Prop} (h : p) (k : p → q) : q := k h
theorem three_free {A B : World} {i : Nat} {x y z : Value} {T : TypeId} (h : A.heap[i]? = some (.cells #[x, y, z] T (0, 0))) (hb : Below A.heap.size A B) :
    (B.cell? ⟨i, 0, none⟩ = some x ∧ B.cell? ⟨i, 1, none⟩ = some y ∧ B.cell? ⟨i, 2, none⟩ = some z) ∧ B.frozen? ⟨i, 0, none⟩ = false ∧ B.frozen? ⟨i, 1, none⟩ = false ∧ B.frozen? ⟨i, 2, none⟩ = false := by
  have e : B.heap[i]? = some (.cells #[x, y, z] T (0, 0)) := by rw [hb.block i (Array.getElem?_eq_some_iff.1 h).1]; exact h
  exact ⟨⟨cell_of_row B i 0 _ _ (0, 0) e, cell_of_row B i 1 _ _ (0, 0) e, cell_of_row B i 2 _ _ (0, 0) e⟩, frozen_of_row B i 0 _ _ e, frozen_of_row B i 1 _ _ e, frozen_of_row B i 2 _ _ e⟩
/-- What a write answers. -/
def wrC (L : OwnL) (w : WrT) : Int := if w.1 = [] ∨ 1200 < w.1.length ∨ 6000 < w.2.1.length then 3 else if (getB w.1 L).isSome = false ∧ L.length = 1000 then 17 else 0
/-- What a write leaves. -/
def wrL (L : OwnL) (w : WrT) : OwnL := if wrC L w = 0 then insB w.1 w L else L
def WrP (W : World) (tb s wb : Nat) (at1 : Int) (L : OwnL) (k : Nat) (w : WrT) (e : Ending) (W' : World) : Prop := e = .returned (.int .i64 (wrC L w)) ∧ TxS W' tb s wb at1 (wrL L w) (k + 1) ∧ Frm (fun i => i = wb) W W'
theorem ht_lenQ {t : Tr} (h : WS KSVW VSVW t) : ht t ≤ (prs t).length := ht_len h
theorem bel1 {W0 w5 : World} {o : Obj} (hb : Below W0.drew.heap.size W0.drew w5) : Below W0.heap.size W0 (w5.alloc o) := by
  have h1 : Below W0.heap.size W0 w5 := (Below.drewsN (Below.refl _ W0) 1).trans hb
  exact h1.trans ((below_alloc w5 o).mono h1.size)
theorem bel1s {W0 w5 : World} {o : Obj} {u v g : Value} (hb : Below W0.drew.heap.size W0.drew w5) : Below W0.heap.size W0 ((((w5.alloc o).setCell ⟨w5.heap.size, 0, none⟩ u).setCell ⟨w5.heap.size, 1, none⟩ v).setCell ⟨w5.heap.size, 2, none⟩ g) := by
  have h1 := bel1 (o := o) hb
  have h2 : Below W0.heap.size W0 w5 := (Below.drewsN (Below.refl _ W0) 1).trans hb
  exact h1.trans (set3_below h2.size)
theorem bel2 {W0 w5 : World} {o : Obj} {u v g : Value} (hb : Below (W0.alloc o).drew.heap.size (W0.alloc o).drew w5) : Below W0.heap.size W0 (((w5.setCell ⟨W0.heap.size, 0, none⟩ u).setCell ⟨W0.heap.size, 1, none⟩ v).setCell ⟨W0.heap.size, 2, none⟩ g) := by
  have h1 : Below W0.heap.size W0 (W0.alloc o).drew := Below.drewsN (below_alloc W0 o) 1
  exact (h1.trans (hb.mono h1.size)).trans (set3_below (Nat.le_refl _))
/-- Put into the writes. -/
theorem txPutMap (h : TxS W tb s wb at1 L k) (hk : k ≤ 100000) (w : WrT) : Calls Try.prog 61 #[.pointer (some ⟨wb, 0, none⟩), str w.1, fW w] W fun e W' => (∃ z, e = .returned (.bool z)) ∧ TxS W' tb s wb at1 (insB w.1 w L) (k + 1) ∧ Frm (fun i => i = wb) W W' := by
  obtain ⟨tw, m1, m2, m3⟩ := h.mp
  have hl := h.hk
  have hpl : (prs tw).length ≤ k := by rw [m3, List.length_map]; exact hl
  have hht := ht_len m2
  refine (mputVW_any wb (str w.1) (fW w) tw W m1 ⟨w.1, rfl⟩ (fW_kind w) m2 (by omega) (by omega)).mono ?_
  rintro e W' ⟨rfl, g1, g2, g3⟩
  have hf : Frm (fun i => i = wb) W W' := Frm.of_only g2 g3 rfl
  obtain ⟨q1, _⟩ := WS.put (K := KSVW) (V := VSVW) ⟨w.1, rfl⟩ (fW_kind w) m2
  refine ⟨⟨_, rfl⟩, ⟨(hf.block tb h.lt.1 h.ne).trans h.box, ⟨_, g1, q1, ?_⟩, insB_ris h.rs, fun x hx => ?_, Nat.le_trans (insB_len _ _ _) (Nat.succ_le_succ hl)⟩, hf⟩
  · rw [prs_put ordVW ⟨w.1, rfl⟩ m2 (by rw [m3]; exact (ris_map _ _).2 h.rs), m3]
    exact ins_map fW w.1 w L
  · rcases insB_mem h.rs x hx with rfl | ⟨hx, _⟩
    · rfl
    · exact h.kk x hx
set_option maxRecDepth 100000 in
set_option maxHeartbeats 4000000 in
theorem txWrite (h : TxS W tb s wb at1 L k) (hk : k ≤ 100000) (x : WrT) (hx : x.1.length ≤ 9223372036854775807 ∧ x.2.1.length ≤ 9223372036854775807) :
    Calls Try.prog 40 #[.pointer (some ⟨tb, 0, none⟩), fW x] W (WrP W tb s wb at1 L k x) := by
  obtain ⟨xa, xb, xc⟩ := x
  dsimp only at hx
  obtain ⟨hx1, hx2⟩ := hx
  unfold fW WrP
  dsimp only
  have hbx := below_alloc W (.cells #[str xa, str xb, .bool xc] 58)
  have hnw := heap_alloc_new W (.cells #[str xa, str xb, .bool xc] 58)
  have q0 : (W.alloc (.cells #[str xa, str xb, .bool xc] 58)).cell? ⟨W.heap.size, 0, none⟩ = some (str xa) := cell_of_row _ W.heap.size 0 _ _ (0, 0) hnw
  have q1 : (W.alloc (.cells #[str xa, str xb, .bool xc] 58)).cell? ⟨W.heap.size, 1, none⟩ = some (str xb) := cell_of_row _ W.heap.size 1 _ _ (0, 0) hnw
  obtain ⟨C, hC⟩ : ∃ C, C = wrC L (xa, xb, xc) := ⟨_, rfl⟩
  obtain ⟨L', hL'⟩ : ∃ L', L' = wrL L (xa, xb, xc) := ⟨_, rfl⟩
  rw [← hC, ← hL']
  have HLC : Hid (L' = if C = 0 then insB xa (xa, xb, xc) L else L) := Lib.hid (by rw [hL', hC]; rfl)
  have HC := Lib.hid hC
  have H := Lib.hid (h.below hbx)
  have HBX := Lib.hid hbx
  clear hC hL'
  by_cases c1 : xa = [] ∨ 1200 < xa.length ∨ 6000 < xb.length
  · have HX : Hid (C = 3 ∧ L' = L) := Lib.hid (by
      have e : C = 3 := by rw [HC.out]; unfold wrC; rw [if_pos c1]
      exact ⟨e, by rw [HLC.out, e]; rfl⟩)
    have HE : Hid (TxS _ tb s wb at1 L (k + 1) ∧ Frm (fun i => i = wb) W _) := Lib.hid ⟨H.out.wide (Nat.le_succ k), Frm.of_below hbx⟩
    obtain ⟨rfl, rfl⟩ := HX.out
    clear h hbx hnw HC H HBX HLC HX
    by_cases e1 : xa = []
    · subst e1
      have e1' : (([] : List UInt8) == []) = true := rfl
      go_enter Try.func40, Try.ntmps40
      go_wp2_with fail
      go_ret
      exact ⟨rfl, HE.out⟩
    · have e1' : (xa == []) = false := beq_eq_false_iff_ne.2 e1
      by_cases e2 : 1200 < xa.length
      · have e2' : decide ((1200 : Int) < (xa.length : Int)) = true := decide_eq_true (by omega)
        clear c1 e1
        go_enter Try.func40, Try.ntmps40
        go_wp2_with fail
        go_ret
        exact ⟨rfl, HE.out⟩
      · have e2' : decide ((1200 : Int) < (xa.length : Int)) = false := decide_eq_false (by omega)
        have e3 : 6000 < xb.length := by rcases c1 with h | h | h; exact absurd h e1; exact absurd h e2; exact h
        have e3' : decide ((6000 : Int) < (xb.length : Int)) = true := decide_eq_true (by omega)
        clear c1 e1
        go_enter Try.func40, Try.ntmps40
        go_wp2_with fail
        go_ret
        exact ⟨rfl, HE.out⟩
  · have e1' : (xa == []) = false := beq_eq_false_iff_ne.2 (fun e => c1 (.inl e))
    have e2' : decide ((1200 : Int) < (xa.length : Int)) = false := decide_eq_false (fun e => c1 (.inr (.inl (by omega))))
    have e3' : decide ((6000 : Int) < (xb.length : Int)) = false := decide_eq_false (fun e => c1 (.inr (.inr (by omega))))
    have HC1 := Lib.hid c1
    clear c1 h
    obtain ⟨Z, hZ⟩ : ∃ Z, Z = (getB xa L).isSome := ⟨_, rfl⟩
    obtain ⟨r, hr⟩ : ∃ r, r = ((getB xa L).map fW).getD (.agg #[str [], str [], .bool false]) := ⟨_, rfl⟩
    obtain ⟨W0, hW0⟩ : ∃ W0, W0 = W.alloc (.cells #[str xa, str xb, .bool xc] 58) := ⟨_, rfl⟩
    have HRK : Hid (∃ ra rb rc, r = .agg #[str ra, str rb, .bool rc]) := Lib.hid (by
      rw [hr]
      cases getB xa L with
      | none => exact ⟨[], [], false, rfl⟩
      | some y => exact ⟨y.1, y.2.1, y.2.2, rfl⟩)
    rw [← hW0] at H HBX q0 q1 hnw
    have CG : Hid (∀ W', Below W0.heap.size W0 W' → Calls Try.prog 42 #[.pointer (some ⟨wb, 0, none⟩), str xa] W' fun e W'' => e = .returned (.tuple #[r, .bool Z]) ∧ Below W'.heap.size W' W'') := Lib.hid (fun W' hb => by
      obtain ⟨tw, m1, m2, m3⟩ := (H.out.below hb).mp
      refine (mgetVW_any wb (str xa) tw W' m1 ⟨xa, rfl⟩ m2).mono ?_
      rintro e W'' ⟨rfl, hb2⟩
      refine ⟨?_, hb2⟩
      rw [getT_eq ordVW ⟨xa, rfl⟩ m2 (by rw [m3]; exact (ris_map _ _).2 H.out.rs), m3, get_map]
      unfold getEVW
      rw [hr, hZ]
      simp)
    have HZ := Lib.hid hZ
    have HC0 : Hid (∀ W', Below W0.heap.size W0 W' → W'.cell? ⟨tb, 2, none⟩ = some (.pointer (some ⟨wb, 0, none⟩)) ∧ W'.cell? ⟨W.heap.size, 0, none⟩ = some (str xa) ∧ W'.cell? ⟨W.heap.size, 1, none⟩ = some (str xb) ∧ W'.cell? ⟨W.heap.size, 2, none⟩ = some (.bool xc)) := Lib.hid (fun W' hb => by
      have hn : W'.heap[W.heap.size]? = some (.cells #[str xa, str xb, .bool xc] 58 (0, 0)) := by
        rw [hb.block _ (Array.getElem?_eq_some_iff.1 hnw).1]; exact hnw
      exact ⟨(H.out.below hb).box.cells.2.2, cell_of_row _ W.heap.size 0 _ _ (0, 0) hn, cell_of_row _ W.heap.size 1 _ _ (0, 0) hn, cell_of_row _ W.heap.size 2 _ _ (0, 0) hn⟩)
    obtain ⟨ra, rb, rc, rfl⟩ := HRK.out
    clear hnw hr hZ HRK
    go_enter Try.func40, Try.ntmps40
    rw [hW0] at q0 q1
    go_upto_region 3 with fail
    rw [← hW0] at q0 q1 ⊢
    have HQ := Lib.hid (And.intro q0 q1)
    clear hW0
    obtain ⟨p2, b0, b1', b2'⟩ := HC0.out _ (Below.refl _ _)
    go_cut [5, 6] from 22 to 31 (fun p f wc => ∃ B, p = .pointer (some ⟨B, 0, none⟩) ∧ f = .bool Z ∧ Hid (Below W0.heap.size W0 wc))
    case first =>
      obtain ⟨u2, u0, u1, _⟩ := HC0.out _ (below_alloc W0 (.cells #[str [], str [], .bool false] 58))
      go_wp2_with fail
      go_region_with (go_at_call 42; refine (CG.out _ (by first | exact Below.drewsN (Below.refl _ _) 1 | exact (Below.drewsN (Below.refl _ _) 1).trans (below_alloc _ _) | exact Below.drewsN (below_alloc _ _) 1)).mono ?_; rintro e w5 ⟨rfl, hb5⟩; obtain ⟨⟨g0, g1, g2⟩, g3, g4, g5⟩ := three_free (heap_alloc_new w5 (.cells #[str [], str [], .bool false] 58)) (Below.refl _ _); first | (refine keepF (three_free (A := (W0.alloc (.cells #[str [], str [], .bool false] 58)).drew) (heap_alloc_new W0 (.cells #[str [], str [], .bool false] 58)) hb5) ?_; rintro ⟨⟨y0, y1, y2⟩, y3, y4, y5⟩) | skip)
      all_goals
        go_wp2_with fail
        go_meet
        case rel =>
          refine ⟨_, rfl, rfl, Lib.hid ?_⟩
          first
            | with_reducible exact bel1 hb5
            | with_reducible exact bel1s hb5
            | with_reducible exact bel2 hb5
    case rest =>
    obtain ⟨B, rfl, rfl, HB⟩ := hcut
    clear CG p2 b0 b1' b2' q0 q1
    have HTX := Lib.hid (H.out.below HB.out)
    have CLN : Hid (Calls Try.prog 60 #[.pointer (some ⟨wb, 0, none⟩)] wc fun e w' => e = .returned (.int .i64 (L.length : Int)) ∧ w' = wc) := Lib.hid (by
      obtain ⟨tw, m1, m2, m3⟩ := HTX.out.mp
      have := mlenVW_any wb tw wc m1
      rw [m3, List.length_map] at this
      exact this)
    have hLk : L.length ≤ k := H.out.hk
    obtain ⟨p2, b0, b1', b2'⟩ := HC0.out _ HB.out
    have HC2 : Hid (C = if Z = false ∧ L.length = 1000 then 17 else 0) := Lib.hid (by
      rw [HC.out]
      unfold wrC
      rw [if_neg HC1.out, HZ.out])
    by_cases h17 : Z = false ∧ L.length = 1000
    · obtain ⟨rfl, hL1⟩ := h17
      have HX : Hid (C = 17 ∧ L' = L) := Lib.hid (by
        have e : C = 17 := by rw [HC2.out, if_pos ⟨rfl, hL1⟩]
        exact ⟨e, by rw [HLC.out, e]; rfl⟩)
      obtain ⟨rfl, rfl⟩ := HX.out
      have hL2 : ((L'.length : Int) == 1000) = true := by rw [beq_iff_eq]; omega
      have hL3 : (L'.length == 1000) = true := by rw [beq_iff_eq]; exact hL1
      have HL1 := Lib.hid hL1
      clear hL1
      go_wp2_with (go_at_call 60; refine CLN.out.mono ?_; rintro e w' ⟨rfl, rfl⟩)
      go_ret
      exact ⟨rfl, HTX.out.wide (Nat.le_succ k), Frm.of_below (HBX.out.trans (HB.out.mono HBX.out.size))⟩
    · have HX : Hid (C = 0 ∧ L' = insB xa (xa, xb, xc) L) := Lib.hid (by
        have e : C = 0 := by rw [HC2.out, if_neg h17]
        exact ⟨e, by rw [HLC.out, e]; rfl⟩)
      obtain ⟨rfl, rfl⟩ := HX.out
      have CP : Hid (∀ W', Below wc.heap.size wc W' → Calls Try.prog 61 #[.pointer (some ⟨wb, 0, none⟩), str xa, .agg #[str xa, str xb, .bool xc]] W' fun e W'' => ∃ z, e = .returned (.bool z) ∧ Hid (TxS W'' tb s wb at1 (insB xa (xa, xb, xc) L) (k + 1) ∧ Frm (fun i => i = wb) W' W'')) := Lib.hid (fun W' hb => by
        refine (txPutMap (HTX.out.below hb) hk (xa, xb, xc)).mono ?_
        rintro e W'' ⟨⟨z, rfl⟩, h1, h2⟩
        exact ⟨z, rfl, Lib.hid ⟨h1, h2⟩⟩)
      have HBV : Hid (wb ≠ W.heap.size ∧ W.heap.size < wc.heap.size) := Lib.hid (by
        have hlt := World.block_lt_of_cell? wc _ b0
        refine ⟨?_, hlt⟩
        rintro rfl
        obtain ⟨u, v, T, hh⟩ := HTX.out.two
        have e2 := cell_of_row wc _ 2 _ T (0, 0) hh
        rw [b2'] at e2
        simp at e2)
      have HSC : Hid (∀ W', Below wc.heap.size wc W' → W'.cell? ⟨tb, 2, none⟩ = some (.pointer (some ⟨wb, 0, none⟩)) ∧ W'.cell? ⟨W.heap.size, 0, none⟩ = some (str xa) ∧ W'.cell? ⟨W.heap.size, 1, none⟩ = some (str xb) ∧ W'.cell? ⟨W.heap.size, 2, none⟩ = some (.bool xc)) := Lib.hid (fun W' hb => HC0.out _ (HB.out.trans (hb.mono HB.out.size)))
      have HSF : Hid (∀ W'', Hid (TxS W'' tb s wb at1 (insB xa (xa, xb, xc) L) (k + 1) ∧ Frm (fun i => i = wb) wc.drew W'') → W''.cell? ⟨tb, 2, none⟩ = some (.pointer (some ⟨wb, 0, none⟩)) ∧ W''.cell? ⟨W.heap.size, 0, none⟩ = some (str xa) ∧ W''.cell? ⟨W.heap.size, 1, none⟩ = some (str xb) ∧ W''.cell? ⟨W.heap.size, 2, none⟩ = some (.bool xc)) := Lib.hid (fun W'' hh => by
        have e : ∀ j, W''.cell? ⟨W.heap.size, j, none⟩ = wc.drew.cell? ⟨W.heap.size, j, none⟩ := fun j => by
          have := hh.out.2.block W.heap.size HBV.out.2 (fun e => HBV.out.1 e.symm)
          simp only [World.cell?, this]
        exact ⟨hh.out.1.box.cells.2.2, (e 0).trans b0, (e 1).trans b1', (e 2).trans b2'⟩)
      have key : ∀ Z0 : Bool, Z = Z0 → Z0 = true ∨ (Z0 = false ∧ ((L.length : Int) == 1000) = false ∧ (L.length == 1000) = false) := fun Z0 e => by
        cases Z0
        · have : ¬ L.length = 1000 := fun h => h17 ⟨e, h⟩
          exact .inr ⟨rfl, by rw [beq_eq_false_iff_ne]; omega, by rw [beq_eq_false_iff_ne]; exact this⟩
        · exact .inl rfl
      have HZ0 := Lib.hid (key Z rfl)
      have CP1 := Lib.hid (CP.out _ (Below.drewsN (Below.refl _ wc) 1))
      have HFIN : Hid (Frm (fun i => i = wb) W wc.drew) := Lib.hid (Frm.of_below (Below.drewsN (HBX.out.trans (HB.out.mono HBX.out.size)) 1))
      clear h17 key HZ HC HC1 HC2 HX HLC CP HSC HBV HTX HC0 H HBX HB
      rcases HZ0.out with rfl | ⟨rfl, hl1, hl2⟩
      all_goals
        clear HZ0
        go_wp2_with (go_at_call 60; refine CLN.out.mono ?_; rintro e w' ⟨rfl, rfl⟩)
        go_region_held3 (fun W' => W'.cell? ⟨tb, 2, none⟩ = some (.pointer (some ⟨wb, 0, none⟩)) ∧ W'.cell? ⟨W.heap.size, 0, none⟩ = some (str xa) ∧ W'.cell? ⟨W.heap.size, 1, none⟩ = some (str xb) ∧ W'.cell? ⟨W.heap.size, 2, none⟩ = some (.bool xc))
          (first
            | (exact ⟨p2, b0, b1', b2'⟩)
            | (exact HSF.out _ hh3)
            | go_keep)
          ((first
            | (go_at_call 61; refine CP1.out.mono ?_; rintro e w3 ⟨z3, rfl, hh3⟩)
            | fail))
        all_goals
          go_wp2_with fail
          go_ret
          refine ⟨rfl, ?_⟩
          exact ⟨hh3.out.1, HFIN.out.trans hh3.out.2 (fun _ _ h => h)⟩
end Go.Proofs.Ytcgjiddiegepkaa

/- txn: Put, Delete, Get. -/
namespace Go.Proofs.Ytcgjiddiegepkaa
open Go.RowKit

variable {W : World} {tb s wb : Nat} {at1 : Int} {L : OwnL} {k : Nat}
theorem TxS.ltW (h : TxS W tb s wb at1 L k) : wb < W.heap.size := h.lt.2
/-- What a write does in any world over W. -/
theorem wrAt (h : TxS W tb s wb at1 L k) (hk : k ≤ 100000) (x : WrT) (hx : x.1.length ≤ 9223372036854775807 ∧ x.2.1.length ≤ 9223372036854775807) {W' : World} (hb : Below W.heap.size W W') :
    Calls Try.prog 40 #[.pointer (some ⟨tb, 0, none⟩), .agg #[str x.1, str x.2.1, .bool x.2.2]] W' (fun e w' => e = .returned (.int .i64 (wrC L x)) ∧ Hid (TxS w' tb s wb at1 (wrL L x) (k + 1) ∧ Frm (fun i => i = wb) W w')) := by
  refine (txWrite (h.below hb) hk x hx).mono ?_
  rintro e w' ⟨rfl, h1, h2⟩
  exact ⟨rfl, Lib.hid ⟨h1, (Frm.of_below hb).trans h2 (fun _ _ h => h)⟩⟩
set_option maxHeartbeats 1600000 in
theorem txPut (h : TxS W tb s wb at1 L k) (hk : k ≤ 100000) (x y : List UInt8) (hx : x.length ≤ 9223372036854775807) (hy : y.length ≤ 9223372036854775807) :
    Calls Try.prog 14 #[.pointer (some ⟨tb, 0, none⟩), str x, str y] W (WrP W tb s wb at1 L k (x, y, false)) := by
  have CW : Hid (∀ W', Below W.heap.size W W' → Calls Try.prog 40 #[.pointer (some ⟨tb, 0, none⟩), .agg #[str x, str y, .bool false]] W' (fun e w' => e = .returned (.int .i64 (wrC L (x, y, false))) ∧ Hid (TxS w' tb s wb at1 (wrL L (x, y, false)) (k + 1) ∧ Frm (fun i => i = wb) W w'))) := Lib.hid (fun W' hb => wrAt h hk (x, y, false) ⟨hx, hy⟩ hb)
  unfold WrP
  obtain ⟨C, hC⟩ : ∃ C, C = wrC L (x, y, false) := ⟨_, rfl⟩
  rw [← hC] at CW ⊢
  clear h hC
  go_enter Try.func14, Try.ntmps14
  go_wp2_with (go_at_call 40; refine (CW.out _ (Below.refl _ _)).mono ?_; rintro e w1 ⟨rfl, h1⟩)
  go_ret
  exact ⟨rfl, h1.out⟩
set_option maxHeartbeats 1600000 in
theorem txDelete (h : TxS W tb s wb at1 L k) (hk : k ≤ 100000) (x : List UInt8) (hx : x.length ≤ 9223372036854775807) :
    Calls Try.prog 16 #[.pointer (some ⟨tb, 0, none⟩), str x] W (WrP W tb s wb at1 L k (x, [], true)) := by
  have CW : Hid (∀ W', Below W.heap.size W W' → Calls Try.prog 40 #[.pointer (some ⟨tb, 0, none⟩), .agg #[str x, str [], .bool true]] W' (fun e w' => e = .returned (.int .i64 (wrC L (x, [], true))) ∧ Hid (TxS w' tb s wb at1 (wrL L (x, [], true)) (k + 1) ∧ Frm (fun i => i = wb) W w'))) := Lib.hid (fun W' hb => wrAt h hk (x, [], true) ⟨hx, by simp⟩ hb)
  unfold WrP
  obtain ⟨C, hC⟩ : ∃ C, C = wrC L (x, [], true) := ⟨_, rfl⟩
  rw [← hC] at CW ⊢
  clear h hC
  go_enter Try.func16, Try.ntmps16
  go_wp2_with (go_at_call 40; refine (CW.out _ (Below.refl _ _)).mono ?_; rintro e w1 ⟨rfl, h1⟩)
  go_ret
  exact ⟨rfl, h1.out⟩
end Go.Proofs.Ytcgjiddiegepkaa
