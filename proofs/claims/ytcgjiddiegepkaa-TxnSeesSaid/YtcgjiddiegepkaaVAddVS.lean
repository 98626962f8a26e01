import Derived.Test.YtcgjiddiegepkaaKit
import Derived.Test.YtcgjiddiegepkaaTrMap
import Derived.Test.YtcgjiddiegepkaaMapVS
import Derived.Deep.LoopGhost
import Derived.Test.YtcgjiddiegepkaaVUpVS
import Derived.Test.YtcgjiddiegepkaaVStM
import Derived.Test.YtcgjiddiegepkaaAppN
/- What a call may turn: the blocks of its own. -/
namespace Go.Proofs.Ytcgjiddiegepkaa
open Go.RowKit

/-- All but the blocks of F lies on. -/
structure Frm (F : Nat → Prop) (w w' : World) : Prop where
  os : w'.os = w.os
  tape : w'.tape = w.tape
  output : w'.output = w.output
  size : w.heap.size ≤ w'.heap.size
  block : ∀ k, k < w.heap.size → ¬ F k → w'.heap[k]? = w.heap[k]?
theorem Frm.refl (F : Nat → Prop) (w : World) : Frm F w w := ⟨rfl, rfl, rfl, Nat.le_refl _, fun _ _ _ => rfl⟩
theorem Frm.of_below {F : Nat → Prop} {w w' : World} (h : Below w.heap.size w w') : Frm F w w' := ⟨h.os, h.tape, h.output, h.size, fun k hk _ => h.block k hk⟩
theorem Frm.of_grown {F : Nat → Prop} {w w' : World} {row : Option Nat} (h : w.grownBy w' row) (hr : ∀ k, row = some k → F k) : Frm F w w' := ⟨h.os, h.tape, h.output, h.size, fun k hk hn => h.block k hk (fun e => hn (hr k e.symm))⟩
theorem Frm.set {F : Nat → Prop} {w : World} {b j : Nat} (u : Value) (hF : F b) : Frm F w (w.setCell ⟨b, j, none⟩ u) := ⟨rfl, rfl, rfl, by simp [World.setCell], fun k _ hn => Below.heap_setCell _ _ _ _ (fun e => hn (e ▸ hF))⟩
theorem Frm.trans {F G : Nat → Prop} {a b c : World} (h : Frm F a b) (k : Frm G b c) (hG : ∀ i, i < a.heap.size → G i → F i) : Frm F a c :=
  ⟨k.os.trans h.os, k.tape.trans h.tape, k.output.trans h.output, Nat.le_trans h.size k.size, fun i hi hn => (k.block i (Nat.lt_of_lt_of_le hi h.size) (fun hg => hn (hG i hi hg))).trans (h.block i hi hn)⟩
theorem Frm.mono {F G : Nat → Prop} {a b : World} (h : Frm F a b) (hG : ∀ i, i < a.heap.size → F i → G i) : Frm G a b := ⟨h.os, h.tape, h.output, h.size, fun i hi hn => h.block i hi (fun hf => hn (hG i hi hf))⟩
theorem Frm.below {F : Nat → Prop} {w w' : World} {B : Nat} (h : Frm F w w') (hB : B ≤ w.heap.size) (hF : ∀ k, F k → B ≤ k) : Below B w w' := ⟨h.os, h.tape, h.output, h.size, fun k hk => h.block k (Nat.lt_of_lt_of_le hk hB) (fun hf => by have := hF k hf; omega)⟩
/-- A row stands when other blocks turn. -/
theorem owns_frm {F : Nat → Prop} {w w' : World} {base size n : Nat} {e : TypeId} {v : Value} {xs : List Value} (h : w.ownsRow base e size v n xs) (hf : Frm F w w') (hn : ∀ k, v.ownBlock = some k → ¬ F k) : w'.ownsRow base e size v n xs := by
  refine ⟨h.1, ?_⟩
  rcases h.2 with hh | ⟨g, cap, cur, rfl, hb', hg, rest⟩
  · exact .inl hh
  · refine .inr ⟨g, cap, cur, rfl, hb', ?_, rest⟩
    rw [hf.block g (Array.getElem?_eq_some_iff.1 hg).1 (hn g (by simp [Value.ownBlock]))]
    exact hg
/-- The block of a row of rows of sz cells. -/
theorem owns_size {w : World} {base size n : Nat} {e : TypeId} {v : Value} {xs : List Value} (h : w.ownsRow base e size v n xs) {k : Nat} (hk : v.ownBlock = some k) {cs : Array Value} {T : TypeId} {z : Nat × Nat} (hc : w.heap[k]? = some (.cells cs T z)) : ∃ cap, cs.size = cap * size := by
  rcases h.2 with ⟨rfl, _⟩ | ⟨g, cap, cur, rfl, _, hg, _, _, h3, _⟩
  · simp [Value.ownBlock] at hk
  · simp only [Value.ownBlock, Option.some.injEq] at hk
    subst hk
    rw [hg] at hc
    simp only [Option.some.injEq, Obj.cells.injEq] at hc
    obtain ⟨rfl, _, _⟩ := hc
    exact ⟨cap, h3⟩
end Go.Proofs.Ytcgjiddiegepkaa

/- What a call of a store may turn: the blocks of its own: trees. -/
namespace Go.Proofs.Ytcgjiddiegepkaa
open Go.RowKit

theorem Frm.of_only {F : Nat → Prop} {w w' : World} {b B : Nat} (h : Only b w w') (hb : Below B w w') (hF : F b) : Frm F w w' := ⟨hb.os, hb.tape, hb.output, h.1, fun k hk hn => h.2 k hk (fun e => hn (e ▸ hF))⟩
/-- A tree stands when blocks turn that are no nodes. -/
theorem TP.frm {F : Nat → Prop} {w w' : World} (hf : Frm F w w') (h5 : ∀ k, F k → ∀ cs T z, w.heap[k]? = some (.cells cs T z) → cs.size ≠ 5) : ∀ {o : Option Addr} {t : Tr}, TP w o t → TP w' o t
  | _, .nil, h => h
  | _, .node _ _ _ _ _, h => by
    obtain ⟨g, T, ol, or, rfl, hc, hl, hr⟩ := h
    refine ⟨g, T, ol, or, rfl, ?_, TP.frm hf h5 hl, TP.frm hf h5 hr⟩
    rw [hf.block g (Array.getElem?_eq_some_iff.1 hc).1 (fun hF => h5 g hF _ _ _ hc rfl)]
    exact hc
theorem MP.frm {F : Nat → Prop} {w w' : World} {b : Nat} {t : Tr} (hf : Frm F w w') (h5 : ∀ k, F k → ∀ cs T z, w.heap[k]? = some (.cells cs T z) → cs.size ≠ 5) (hb : ¬ F b) (h : MP w b t) : MP w' b t := by
  have hlt := h.lt
  obtain ⟨T, o, h, ht⟩ := h
  exact ⟨T, o, by rw [hf.block b hlt hb]; exact h, TP.frm hf h5 ht⟩
end Go.Proofs.Ytcgjiddiegepkaa

/- Maps in order, omap[string,[]handbill/vers.Version[string]]: Get. -/
namespace Go.Proofs.Ytcgjiddiegepkaa
open Go.RowKit

/-- What Get tells. -/
def getEVS (r : Option Value) : Ending := .returned (.tuple #[r.getD (.slice none 0 0), .bool r.isSome])
theorem getE_someVS (x : Value) : Ending.returned (.tuple #[x, .bool true]) = getEVS (some x) := rfl
theorem getE_noneVS : Ending.returned (.tuple #[(.slice none 0 0), .bool false]) = getEVS none := rfl
set_option maxHeartbeats 800000 in
theorem mgetVS_any (b : Nat) (k : Value) (t : Tr) (w : World) (h : MP w b t) (hks : KSVS k) (hw : WS KSVS VSVS t) :
    Calls Try.prog 46 #[.pointer (some ⟨b, 0, none⟩), k] w fun e w' => e = getEVS (getT k t) ∧ w' = w := by
  obtain ⟨T, o, hc, htp⟩ := h
  have c0 : w.cell? ⟨b, 0, none⟩ = some (.pointer o) := by simp [World.cell?, hc]
  obtain ⟨R, hR⟩ : ∃ R, R = getT k t := ⟨_, rfl⟩
  rw [← hR]
  have HR := Lib.hid hR
  have HT := Lib.hid htp
  have HW := Lib.hid hw
  clear hc htp hw hR
  go_enter Try.func46, Try.ntmps46
  go_wp2_with fail
  go_loopg [6] (prs t).length (fun n v wr => ∃ (o' : Option Addr) (t' : Tr), v = .pointer o' ∧ n = (prs t').length ∧ Hid (TP w o' t') ∧ Hid (WS KSVS VSVS t') ∧ Hid (getT k t' = R) ∧ wr = w)
  case atStart => exact ⟨o, t, rfl, rfl, HT, HW, Lib.hid HR.out.symm, rfl⟩
  case round =>
    obtain ⟨o', t', rfl, rfl, HT', HW', HG, rfl⟩ := hrel
    clear c0
    cases t' with
    | nil =>
      obtain rfl : o' = none := HT'.out
      have e : none = R := HG.out
      subst e
      go_wp2_with fail
      go_ret2
      exact ⟨rfl, rfl⟩
    | node l k' x' n r =>
      obtain ⟨b', T', ol, or, rfl, hc', hl, hr⟩ := HT'.out
      obtain ⟨_, a1, a2, a3, a4⟩ := HW'.out
      have d0 := cell_of_row wr b' 0 _ T' (0, 0) hc'
      have d1 := cell_of_row wr b' 1 _ T' (0, 0) hc'
      have d3 := cell_of_row wr b' 3 _ T' (0, 0) hc'
      have d4 := cell_of_row wr b' 4 _ T' (0, 0) hc'
      simp only [List.getElem?_toArray, List.getElem?_cons_zero, List.getElem?_cons_succ] at d0 d1 d3 d4
      have HL := Lib.hid hl
      have HRr := Lib.hid hr
      have A3 := Lib.hid a3
      have A4 := Lib.hid a4
      have eg := HG.out
      unfold getT at eg
      have CC := Lib.hid (fun W => cmpVS_any k k' W hks a1)
      have LL : Hid ((prs l).length < (prs (Tr.node l k' x' n r)).length ∧ (prs r).length < (prs (Tr.node l k' x' n r)).length) := by
        refine Lib.hid ?_
        rw [prs_node, List.length_append, List.length_cons]; omega
      unfold cmpV at CC
      clear hc' hl hr a2 a3 a4
      by_cases g1 : lessV k k' = true
      · rw [if_pos g1] at CC
        rw [if_pos g1] at eg
        have HE := Lib.hid eg
        clear eg g1
        go_wp2_with (go_at_call 62; refine (CC.out _).mono ?_; rintro e w' ⟨rfl, rfl⟩)
        go_roundg (prs l).length
        case measure => exact LL.out.1
        case rel => exact ⟨ol, l, rfl, rfl, HL, A3, HE, rfl⟩
      · rw [if_neg g1] at CC
        rw [if_neg g1] at eg
        by_cases g2 : lessV k' k = true
        · rw [if_pos g2] at CC
          rw [if_pos g2] at eg
          have HE := Lib.hid eg
          clear eg g1 g2
          go_wp2_with (go_at_call 62; refine (CC.out _).mono ?_; rintro e w' ⟨rfl, rfl⟩)
          go_roundg (prs r).length
          case measure => exact LL.out.2
          case rel => exact ⟨or, r, rfl, rfl, HRr, A4, HE, rfl⟩
        · rw [if_neg g2] at CC
          rw [if_neg g2] at eg
          subst eg
          clear g1 g2
          go_wp2_with (go_at_call 62; refine (CC.out _).mono ?_; rintro e w' ⟨rfl, rfl⟩)
          go_ret2
          exact ⟨rfl, rfl⟩
end Go.Proofs.Ytcgjiddiegepkaa

/- A store of versions of string: how it lies; New, Last, add, Put, Kill, Get. -/

namespace Go.Proofs.Ytcgjiddiegepkaa
open Go.RowKit

/-- What a key has: the slice, the versions. -/
abbrev ChVS := Value × List VerVS
abbrev ChsVS := List (List UInt8 × ChVS)
/-- The blocks of a store's own. -/
def BlkVS (s mb : Nat) (S : ChsVS) (k : Nat) : Prop := k = s ∨ k = mb ∨ ∃ x ∈ S, x.2.1.ownBlock = some k
/-- The slice of a key, its versions. -/
def valSVS (key : List UInt8) (S : ChsVS) : Value := ((getB key S).map Prod.fst).getD (.slice none 0 0)
def verSVS (key : List UInt8) (S : ChsVS) : List VerVS := ((getB key S).map Prod.snd).getD []
/-- A store. -/
structure StVS (W : World) (B s mb : Nat) (t : Tr) (S : ChsVS) (cnt low : Int) (k : Nat) : Prop where
  box : W.heap[s]? = some (.cells #[.pointer (some ⟨mb, 0, none⟩), .int .i64 cnt, .int .i64 low] 87 (0, 0))
  mp : MP W mb t
  ws : WS KSVS VSVS t
  pr : prs t = S.map (pairB Prod.fst)
  rs : RisB S
  ch : ∀ x ∈ S, W.ownsRow B 90 3 x.2.1 x.2.2.length (x.2.2.map cellsVS).flatten
  ap : S.Pairwise (fun x y => ∀ b, x.2.1.ownBlock = some b → y.2.1.ownBlock ≠ some b)
  tr : ∀ x ∈ S, RisT (timesVS x.2.2)
  hk : ht t ≤ k ∧ S.length ≤ k ∧ (∀ x ∈ S, x.2.2.length ≤ k)
  lo : B ≤ s ∧ B ≤ mb
theorem StVS.slt {W : World} {B s mb : Nat} {t : Tr} {S : ChsVS} {cnt low : Int} {k : Nat} (h : StVS W B s mb t S cnt low k) : s < W.heap.size := by
  exact (Array.getElem?_eq_some_iff.1 h.box).1
theorem StVS.blk {W : World} {B s mb : Nat} {t : Tr} {S : ChsVS} {cnt low : Int} {k : Nat} (h : StVS W B s mb t S cnt low k) : ∀ i, BlkVS s mb S i → B ≤ i ∧ i < W.heap.size := by
  rintro i (rfl | rfl | ⟨x, hx, hi⟩)
  · exact ⟨h.lo.1, h.slt⟩
  · exact ⟨h.lo.2, h.mp.lt⟩
  · exact World.ownsRow.lt (h.ch x hx) i hi
theorem StVS.ne {W : World} {B s mb : Nat} {t : Tr} {S : ChsVS} {cnt low : Int} {k : Nat} (h : StVS W B s mb t S cnt low k) : s ≠ mb := by
  rintro rfl
  obtain ⟨T, o, hm, _⟩ := h.mp
  rw [h.box] at hm
  simp at hm
theorem StVS.five {W : World} {B s mb : Nat} {t : Tr} {S : ChsVS} {cnt low : Int} {k : Nat} (h : StVS W B s mb t S cnt low k) : ∀ i, BlkVS s mb S i → ∀ cs T z, W.heap[i]? = some (.cells cs T z) → cs.size ≠ 5 := by
  rintro i (rfl | rfl | ⟨x, hx, hi⟩) cs T z hc
  · rw [h.box] at hc
    simp only [Option.some.injEq, Obj.cells.injEq] at hc
    rw [← hc.1]; simp
  · obtain ⟨T', o, hb, _⟩ := h.mp
    rw [hb] at hc
    simp only [Option.some.injEq, Obj.cells.injEq] at hc
    rw [← hc.1]; simp
  · obtain ⟨cap, hcap⟩ := owns_size (h.ch x hx) hi hc
    omega
/-- A chain's block is neither the store's nor the map's. -/
theorem StVS.apart {W : World} {B s mb : Nat} {t : Tr} {S : ChsVS} {cnt low : Int} {k : Nat} (h : StVS W B s mb t S cnt low k) {x : List UInt8 × ChVS} (hx : x ∈ S) {i : Nat} (hi : x.2.1.ownBlock = some i) : i ≠ mb ∧ i ≠ s := by
  constructor
  · rintro rfl
    obtain ⟨T', o, hb, _⟩ := h.mp
    obtain ⟨cap, hcap⟩ := owns_size (h.ch x hx) hi hb
    simp at hcap
    omega
  · rintro rfl
    rcases (h.ch x hx).2 with ⟨h1, _⟩ | ⟨g, cap, cur, h1, _, hg, _, _, h3, _⟩
    · rw [h1] at hi; simp [Value.ownBlock] at hi
    · rw [h1] at hi
      simp only [Value.ownBlock, Option.some.injEq] at hi
      subst hi
      rw [h.box] at hg
      simp at hg
/-- A store stands when blocks turn that are not its own, nor nodes. -/
theorem StVS.frm {W W' : World} {B s mb : Nat} {t : Tr} {S : ChsVS} {cnt low : Int} {k : Nat} (h : StVS W B s mb t S cnt low k) {F : Nat → Prop} (hf : Frm F W W') (h5 : ∀ k, F k → ∀ cs T z, W.heap[k]? = some (.cells cs T z) → cs.size ≠ 5) (hn : ∀ i, BlkVS s mb S i → ¬ F i) : StVS W' B s mb t S cnt low k :=
  ⟨by rw [hf.block s h.slt (hn s (.inl rfl))]; exact h.box, MP.frm hf h5 (hn mb (.inr (.inl rfl))) h.mp, h.ws, h.pr, h.rs, fun x hx => owns_frm (h.ch x hx) hf (fun i hi => hn i (.inr (.inr ⟨x, hx, hi⟩))), h.ap, h.tr, h.hk, h.lo⟩
theorem StVS.below {W W' : World} {B s mb : Nat} {t : Tr} {S : ChsVS} {cnt low : Int} {k : Nat} (h : StVS W B s mb t S cnt low k) (hb : Below W.heap.size W W') : StVS W' B s mb t S cnt low k :=
  h.frm (F := fun _ => False) (Frm.of_below hb) (fun _ hk => hk.elim) (fun _ _ hk => hk)
theorem StVS.drewN {W : World} {B s mb : Nat} {t : Tr} {S : ChsVS} {cnt low : Int} {k : Nat} (h : StVS W B s mb t S cnt low k) (q : Nat) : StVS (W.drewN q) B s mb t S cnt low k := h.below (Below.drewsN (Below.refl _ _) q)
theorem StVS.ris {W : World} {B s mb : Nat} {t : Tr} {S : ChsVS} {cnt low : Int} {k : Nat} (h : StVS W B s mb t S cnt low k) : Ris (prs t) := by rw [h.pr]; exact (ris_map _ _).2 h.rs
theorem keySVS (key : List UInt8) : KSVS (str key) := ⟨key, rfl⟩
theorem StVS.get {W : World} {B s mb : Nat} {t : Tr} {S : ChsVS} {cnt low : Int} {k : Nat} (h : StVS W B s mb t S cnt low k) (key : List UInt8) : getT (str key) t = (getB key S).map Prod.fst := by
  rw [getT_eq ordVS (keySVS key) h.ws h.ris, h.pr, get_map]
/-- A key's chain: how it lies. -/
theorem StVS.chain {W : World} {B s mb : Nat} {t : Tr} {S : ChsVS} {cnt low : Int} {k : Nat} (h : StVS W B s mb t S cnt low k) (key : List UInt8) :
    W.ownsRow B 90 3 (valSVS key S) (verSVS key S).length ((verSVS key S).map cellsVS).flatten ∧ RisT (timesVS (verSVS key S)) ∧ (verSVS key S).length ≤ k := by
  unfold valSVS verSVS
  cases e : getB key S with
  | none => exact ⟨World.ownsRow_nil W _ _ 3, by simp [timesVS, RisT], Nat.zero_le _⟩
  | some y =>
    have hm := getB_mem e
    exact ⟨h.ch _ hm, h.tr _ hm, h.hk.2.2 _ hm⟩
theorem rd_rowVS {w : World} {base : Nat} {e : TypeId} {v : Value} {l : List VerVS} (h : w.ownsRow base e 3 v l.length (l.map cellsVS).flatten) : RdVS w v l := RdF.of_row (cellsVS_len l) (by simpa using h)
theorem getSVS_any {W : World} {B s mb : Nat} {t : Tr} {S : ChsVS} {cnt low : Int} {k : Nat} (h : StVS W B s mb t S cnt low k) (key : List UInt8) :
    Calls Try.prog 46 #[.pointer (some ⟨mb, 0, none⟩), str key] W fun e w' => e = .returned (.tuple #[valSVS key S, .bool (getB key S).isSome]) ∧ W = w' := by
  refine (mgetVS_any mb (str key) t W h.mp (keySVS key) h.ws).mono ?_
  rintro e w' ⟨rfl, rfl⟩
  refine ⟨?_, rfl⟩
  unfold getEVS valSVS
  rw [h.get key]
  simp
/-- When a key's last version was put. -/
def lastTVS (l : List VerVS) : Int := (l.getLast?.map (fun v => v.1)).getD 0
theorem StVS.cells {W : World} {B s mb : Nat} {t : Tr} {S : ChsVS} {cnt low : Int} {k : Nat} (h : StVS W B s mb t S cnt low k) :
    W.cell? ⟨s, 0, none⟩ = some (.pointer (some ⟨mb, 0, none⟩)) ∧ W.cell? ⟨s, 1, none⟩ = some (.int .i64 cnt) ∧ W.cell? ⟨s, 2, none⟩ = some (.int .i64 low) ∧ ∀ j, W.frozen? ⟨s, j, none⟩ = false := by
  refine ⟨by simp [World.cell?, h.box], by simp [World.cell?, h.box], by simp [World.cell?, h.box], fun j => frozen_of_row W s j _ _ h.box⟩
set_option maxHeartbeats 1000000 in
theorem lastVS_any {W : World} {B s mb : Nat} {t : Tr} {S : ChsVS} {cnt low : Int} {k : Nat} (h : StVS W B s mb t S cnt low k) (hk : k ≤ 1000000) (key : List UInt8) :
    Calls Try.prog 24 #[.pointer (some ⟨s, 0, none⟩), str key] W fun e w' => e = .returned (.int .i64 (lastTVS (verSVS key S))) ∧ W = w' := by
  have CG := Lib.hid (getSVS_any h key)
  obtain ⟨c0, _, _, _⟩ := h.cells
  obtain ⟨ho, _, hl⟩ := h.chain key
  obtain ⟨l, hvl⟩ : ∃ l, l = verSVS key S := ⟨_, rfl⟩
  obtain ⟨v, hvv⟩ : ∃ v, v = valSVS key S := ⟨_, rfl⟩
  obtain ⟨z, hz⟩ : ∃ z, z = (getB key S).isSome := ⟨_, rfl⟩
  rw [← hvl] at ho hl ⊢
  rw [← hvv] at ho CG
  rw [← hz] at CG
  have hrd := rd_rowVS ho
  obtain ⟨av, cv, rfl, _⟩ := hrd.form
  have HV := Lib.hid hrd
  clear h ho hvl hvv hz hrd
  by_cases hl0 : l = []
  · subst hl0
    have e : lastTVS ([] : List VerVS) = 0 := rfl
    rw [e]
    clear e
    go_enter Try.func24, Try.ntmps24
    go_wp2_with fail
    refine CG.out.mono ?_
    rintro e w' ⟨rfl, rfl⟩
    go_wp2_with fail
    go_ret
    exact ⟨rfl, rfl⟩
  · obtain ⟨n, hn⟩ : ∃ n, n + 1 = l.length := ⟨l.length - 1, by have := List.length_pos_iff.2 hl0; omega⟩
    have hln : n < l.length := by omega
    have e : lastTVS l = l[n].1 := by
      unfold lastTVS
      rw [List.getLast?_eq_getElem?, show l.length - 1 = n by omega, List.getElem?_eq_getElem hln]; rfl
    rw [e]
    obtain ⟨bA, oA, rfl, c1, _, _⟩ := HV.out.get hln
    obtain ⟨x, hx⟩ : ∃ x, x = l[n].1 := ⟨_, rfl⟩
    rw [← hx] at c1 ⊢
    obtain ⟨N, hN⟩ : ∃ N : Nat, N = l.length := ⟨_, rfl⟩
    rw [← hN] at CG hn hln hl
    have z1 : ((N : Int) == 0) = false := by simp; omega
    have z2 : decide ((N : Int) = 0) = false := by simp; omega
    have tm : IntKind.i64.wrap ((N : Int) - 1) = (n : Int) := by rw [show (N : Int) - 1 = (n : Int) by omega]; exact IntWalk.i64_in _ (by omega)
    have tm2 : (N : Int) - 1 = (n : Int) := by omega
    have g4 : (n : Int) < (N : Int) := by omega
    have g5 : (0 : Int) ≤ (n : Int) := by omega
    clear hl0 hn hx hN e HV hln
    go_enter Try.func24, Try.ntmps24
    go_wp2_with fail
    refine CG.out.mono ?_
    rintro e w' ⟨rfl, rfl⟩
    go_wp2_with fail
    go_ret
    exact ⟨rfl, rfl⟩
end Go.Proofs.Ytcgjiddiegepkaa

/- A store of versions of string: a key's chain put; add, Put, Kill, Get. -/
namespace Go.Proofs.Ytcgjiddiegepkaa
open Go.RowKit

/-- What a put of a chain may turn. -/
def PutFVS (mb : Nat) (v : Value) (i : Nat) : Prop := i = mb ∨ v.ownBlock = some i
theorem valSVS_blk {S : ChsVS} {s mb : Nat} {key : List UInt8} {i : Nat} (h : PutFVS mb (valSVS key S) i) : BlkVS s mb S i := by
  rcases h with rfl | h
  · exact .inr (.inl rfl)
  · unfold valSVS at h
    cases e : getB key S with
    | none => rw [e] at h; simp [Value.ownBlock] at h
    | some y => rw [e] at h; exact .inr (.inr ⟨_, getB_mem e, h⟩)
theorem valSVS_other {W : World} {B s mb : Nat} {t : Tr} {S : ChsVS} {cnt low : Int} {k : Nat} (h : StVS W B s mb t S cnt low k) {key : List UInt8} {x : List UInt8 × ChVS} (hx : x ∈ S) (hne : x.1 ≠ key) {i : Nat} (hi : x.2.1.ownBlock = some i) : (valSVS key S).ownBlock ≠ some i := by
  intro hv
  unfold valSVS at hv
  cases e : getB key S with
  | none => rw [e] at hv; simp [Value.ownBlock] at hv
  | some y =>
    rw [e] at hv
    have hm := getB_mem e
    have hsym : ∀ a b : List UInt8 × ChVS, (∀ b', a.2.1.ownBlock = some b' → b.2.1.ownBlock ≠ some b') → (∀ b', b.2.1.ownBlock = some b' → a.2.1.ownBlock ≠ some b') := fun a b h b' h1 h2 => h b' h2 h1
    exact pairs_at hsym h.ap x hx (key, y) hm (fun e => hne (by rw [e])) i hi hv
theorem putSVS_any {W0 W7 : World} {B s mb : Nat} {t : Tr} {S : ChsVS} {cnt low : Int} {k : Nat} (h : StVS W0 B s mb t S cnt low k) (hk : k ≤ 1000000) (key : List UInt8) (l' : List VerVS) (g n cap : Nat)
    (ho : W7.ownsRow B 90 3 (.slice (some ⟨g, 0, none⟩) n cap) l'.length (l'.map cellsVS).flatten) (hf : Frm (fun i => (valSVS key S).ownBlock = some i) W0 W7) (hr : RisT (timesVS l')) (hl : l'.length ≤ k + 1) (hg : (valSVS key S).ownBlock = some g ∨ W0.heap.size ≤ g) :
    Calls Try.prog 65 #[.pointer (some ⟨mb, 0, none⟩), str key, .slice (some ⟨g, 0, none⟩) n cap] W7 fun e W8 => e = .returned (.bool (newT (str key) t)) ∧
      StVS W8 B s mb (putT (str key) (.slice (some ⟨g, 0, none⟩) n cap) t) (insB key (.slice (some ⟨g, 0, none⟩) n cap, l') S) cnt low (k + 1) ∧ Frm (PutFVS mb (valSVS key S)) W0 W8 := by
  have hF : ∀ i, (valSVS key S).ownBlock = some i → ∃ x ∈ S, x.2.1.ownBlock = some i := by
    intro i hi
    rcases (valSVS_blk (s := s) (mb := mb) (key := key) (S := S) (.inr hi) : BlkVS s mb S i) with rfl | rfl | hx
    · exfalso
      unfold valSVS at hi
      cases e : getB key S with
      | none => rw [e] at hi; simp [Value.ownBlock] at hi
      | some y => rw [e] at hi; exact (h.apart (getB_mem e) hi).2 rfl
    · exfalso
      unfold valSVS at hi
      cases e : getB key S with
      | none => rw [e] at hi; simp [Value.ownBlock] at hi
      | some y => rw [e] at hi; exact (h.apart (getB_mem e) hi).1 rfl
    · exact hx
  have hF5 : ∀ i, (valSVS key S).ownBlock = some i → ∀ cs T z, W0.heap[i]? = some (.cells cs T z) → cs.size ≠ 5 := fun i hi => by
    obtain ⟨x, hx, h1⟩ := hF i hi
    exact h.five i (.inr (.inr ⟨x, hx, h1⟩))
  have hFm : ¬ (valSVS key S).ownBlock = some mb := fun hi => by obtain ⟨x, hx, h1⟩ := hF mb hi; exact (h.apart hx h1).1 rfl
  have hFs : ¬ (valSVS key S).ownBlock = some s := fun hi => by obtain ⟨x, hx, h1⟩ := hF s hi; exact (h.apart hx h1).2 rfl
  have hmp7 : MP W7 mb t := MP.frm hf hF5 hFm h.mp
  have hsl7 : s < W7.heap.size := Nat.lt_of_lt_of_le h.slt hf.size
  have hb7 : W7.heap[s]? = _ := (hf.block s h.slt hFs).trans h.box
  have hch : ∀ x ∈ S, x.1 ≠ key → W7.ownsRow B 90 3 x.2.1 x.2.2.length (x.2.2.map cellsVS).flatten := fun x hx hne => owns_frm (h.ch x hx) hf (fun i hi => valSVS_other h hx hne hi)
  have hprl : (prs t).length ≤ k := by rw [h.pr, List.length_map]; exact h.hk.2.1
  refine (mputVS_any mb (str key) (.slice (some ⟨g, 0, none⟩) n cap) t W7 hmp7 (keySVS key) ⟨_, _, _, rfl⟩ h.ws (by have := h.hk.1; omega) (by omega)).mono ?_
  rintro e W8 ⟨rfl, hm8, ho8, hb8⟩
  have f8 : Frm (fun i => i = mb) W7 W8 := Frm.of_only ho8 hb8 rfl
  obtain ⟨ws1, ws2⟩ := WS.put (K := KSVS) (V := VSVS) (keySVS key) (x := .slice (some ⟨g, 0, none⟩) n cap) ⟨_, _, _, rfl⟩ h.ws
  have nomb : ∀ {v : Value} {l : List VerVS} {i : Nat}, W7.ownsRow B 90 3 v l.length (l.map cellsVS).flatten → v.ownBlock = some i → ¬ i = mb := by
    intro v l i ho hi he
    subst he
    obtain ⟨T', o, hb, _⟩ := hmp7
    obtain ⟨cap, hcap⟩ := owns_size ho hi hb
    simp at hcap
    omega
  have hlen : ((insB key (.slice (some ⟨g, 0, none⟩) n cap, l') S)).length ≤ k + 1 := Nat.le_trans (insB_len _ _ _) (Nat.succ_le_succ h.hk.2.1)
  refine ⟨rfl, ⟨?_, hm8, ws1, ?_, insB_ris h.rs, ?_, ?_, ?_, ⟨by have := h.hk.1; omega, hlen, ?_⟩, h.lo⟩, (hf.mono (fun i _ hi => .inr hi)).trans f8 (fun i _ hi => .inl hi)⟩
  · rw [f8.block s hsl7 h.ne]; exact hb7
  · rw [prs_put ordVS (keySVS key) h.ws h.ris, h.pr]
    exact ins_map Prod.fst key ((.slice (some ⟨g, 0, none⟩) n cap, l') : ChVS) S
  · intro x hx
    rcases insB_mem h.rs x hx with rfl | ⟨hx, hne⟩
    · exact owns_frm ho f8 (fun i hi => nomb ho hi)
    · exact owns_frm (hch x hx hne) f8 (fun i hi => nomb (hch x hx hne) hi)
  · refine insB_pairs (fun a b hab b' h1 h2 => hab b' h2 h1) h.rs h.ap (fun x hx hne b hb => ?_)
    intro hxb
    have hgb : g = b := by simpa [Value.ownBlock] using hb
    subst hgb
    rcases hg with hg | hg
    · exact valSVS_other h hx hne hxb hg
    · have := (World.ownsRow.lt (h.ch x hx) g hxb).2
      omega
  · intro x hx
    rcases insB_mem h.rs x hx with rfl | ⟨hx, _⟩
    · exact hr
    · exact h.tr x hx
  · intro x hx
    rcases insB_mem h.rs x hx with rfl | ⟨hx, _⟩
    · exact hl
    · exact Nat.le_succ_of_le (h.hk.2.2 x hx)
end Go.Proofs.Ytcgjiddiegepkaa
