/- Joined: V11Jb, VCopyM, VCopy, V11PlM, V11Plays. -/
import Derived.Test.YtdlacjdddjebgaaVpC
import Derived.Test.YtdlacjdddjebgaaV11First
import Derived.Laws.Cover1
import Derived.Deep.RegionHeld3
import Derived.Deep.CutRange
import Derived.Deep.CutBlock
namespace Go.Proofs.Ytdlacjdddjebgaa
open Go.RowKit
section
variable {X W : World} {K : Nat → Prop} {sa ma sb mb : Nat} {Ca Cb : ChC} {la lb : Int} {na nb : Nat}
theorem prune2 (h : S2 X K W sa ma Ca la na sb mb Cb lb nb) (hn : na ≤ 10000) (lw : Int) :
    Calls Try.prog 15 #[.pointer (some ⟨sa, 0, none⟩), .int .i64 lw] W fun e W' => e = .returned (.int .i64 (pruN lw la Ca : Int)) ∧ S2 X K W' sa ma (pruG lw la Ca) (pruLow lw la) na sb mb Cb lb nb ∧ Kp K W W' := by
  have hh := h
  obtain ⟨ta, Sa, tb, Sb, h1, h2, h3, h4, h5, h6, h7, h8, h9⟩ := h
  unfold pruG pruLow pruN
  by_cases hl : la < lw ∧ lw ≤ 1099511627776
  · rw [if_pos hl, if_pos hl, if_pos hl]
    refine (pruneYVS_any h1 hn (by omega) lw hl.1 hl.2 h7.size).mono ?_
    rintro e W' ⟨rfl, ⟨t', S', g5, g6, g7⟩, g8⟩
    rw [h2] at g5 g6
    rw [h2]
    have ht := tot_pru lw Ca
    have e1 : ((totC Ca : Int) - (pruDVS lw Ca : Int)) = (totC (pruCVS lw Ca) : Int) := by omega
    rw [e1] at g5
    have hS : S'.length ≤ na := by
      have a1 : S'.length = (pruCVS lw Ca).length := by rw [← g6]; unfold chsVS; rw [List.length_map]
      have a2 : Ca.length = Sa.length := by rw [← h2]; unfold chsVS; rw [List.length_map]
      have := pru_len lw Ca
      have := h1.hk.2.1
      omega
    refine ⟨rfl, ⟨t', S', tb, Sb, ⟨g5.box, g5.mp, g5.ws, g5.pr, g5.rs, g5.ch, g5.ap, g5.tr, ⟨?_, hS, fun x hx => ?_⟩, g5.lo⟩, g6, by omega, h4.frm g8 h1.five (fun i hi ha => h8 i ha hi), h5, h6, h1.down g8 h7 (Nat.le_refl _), fun i hi hj => ?_, fun i hi => ⟨Nat.lt_of_lt_of_le (h9 i hi).1 g8.size, fun e => ?_, (h9 i hi).2.2⟩⟩, g8.mono (fun i _ hb hk => (h9 i hk).2.1 hb)⟩
    · have a := ht_len g5.ws
      rw [g5.pr, List.length_map] at a
      omega
    · have : (x.1, x.2.2) ∈ pruCVS lw Ca := by rw [← g6]; exact List.mem_map.2 ⟨x, hx, rfl⟩
      have := tot_at this
      dsimp only at this
      omega
    · rcases g7 i hi with h | h
      · exact h8 i h hj
      · have := (h4.blk i hj).2; omega
    · rcases g7 i e with h | h
      · exact (h9 i hi).2.1 h
      · have := (h9 i hi).1; omega
  · rw [if_neg hl, if_neg hl, if_neg hl]
    refine (pruneNVS_any h1 lw (by omega)).mono ?_
    rintro e W' ⟨rfl, hb⟩
    exact ⟨rfl, hh.below hb, Kp.of hb⟩
end
theorem SG.weak {X W : World} {K K' : Nat → Prop} {s mb : Nat} {C : ChC} {low : Int} {n : Nat} (h : SG X K W s mb C low n) (hk : ∀ i, K' i → K i) : SG X K' W s mb C low n := by
  obtain ⟨t, S, h1, h2, h3, h4, h5⟩ := h
  exact ⟨t, S, h1, h2, h3, h4, fun i hi => h5 i (hk i hi)⟩
/-- Both stores, a box of five cells. -/
def KB (b ob : Nat) (vo : Value) (R : List RRow) (i : Nat) : Prop := RK b vo R i ∨ i = ob
def JB (X : World) (B : Nat) (W : World) (s mb b : Nat) (C : ChC) (low : Int) (D : ChC) (dow : Int) (n ob : Nat) (cs : Array Value) : Prop :=
  ∃ vo R, SG X (KB b ob vo R) W s mb C low n ∧ RS W B b vo R dow ∧ chR R = D ∧ W.heap[ob]? = some (.cells cs 32 (0, 0)) ∧ cs.size = 5
variable {X W : World} {B s mb b : Nat} {C D : ChC} {low dow : Int} {n ob : Nat} {cs : Array Value}
theorem JB.js (h : JB X B W s mb b C low D dow n ob cs) : JS X B W s mb b C low D dow n := by
  obtain ⟨vo, R, h1, h2, h3, h4, h5⟩ := h
  exact ⟨vo, R, h1.weak (fun i hi => .inl hi), h2, h3⟩
theorem JS.box (h : JS X B W s mb b C low D dow n) (hcs : cs.size = 5) : JB X B (W.alloc (.cells cs 32)) s mb b C low D dow n W.heap.size cs := by
  obtain ⟨vo, R, ⟨t, S, h1, h2, h3, h4, h5⟩, h6, h7⟩ := h
  have hb := below_alloc W (.cells cs 32)
  have hs : (W.alloc (.cells cs 32)).heap.size = W.heap.size + 1 := by simp
  refine ⟨vo, R, ⟨t, S, h1.below hb, h2, h3.trans (hb.mono h3.size), h4, fun i hi => ?_⟩, h6.below hb, h7, heap_alloc_new W _, hcs⟩
  rcases hi with hi | rfl
  · exact ⟨by have := (h5 i hi).1; omega, (h5 i hi).2⟩
  · exact ⟨by omega, fun e => by have := (h1.blk _ e).2; omega⟩
theorem JB.below {W' : World} (h : JB X B W s mb b C low D dow n ob cs) (hb : Below W.heap.size W W') : JB X B W' s mb b C low D dow n ob cs := by
  obtain ⟨vo, R, h1, h2, h3, h4, h5⟩ := h
  exact ⟨vo, R, h1.below hb, h2.below hb, h3, by rw [hb.block ob (Array.getElem?_eq_some_iff.1 h4).1]; exact h4, h5⟩
theorem JB.cell (h : JB X B W s mb b C low D dow n ob cs) (j : Nat) : W.cell? ⟨ob, j, none⟩ = cs[j]? := by
  obtain ⟨vo, R, h1, h2, h3, h4, h5⟩ := h
  simp [World.cell?, h4]
theorem kb_keep {W' : World} {vo : Value} {R : List RRow} (h4 : W.heap[ob]? = some (.cells cs 32 (0, 0))) (hk : Kp (KB b ob vo R) W W') : W'.heap[ob]? = some (.cells cs 32 (0, 0)) := by
  rw [hk.block ob (Array.getElem?_eq_some_iff.1 h4).1 (fun hn => hn (.inr rfl))]; exact h4
theorem kb_rs {W' : World} {vo : Value} {R : List RRow} (h : RS W B b vo R dow) (hk : Kp (KB b ob vo R) W W') : RS W' B b vo R dow := h.kept (hk.mono (fun _ _ hi hr => hi (.inl hr)))
theorem jbput (h : JB X B W s mb b C low D dow n ob cs) (hn : n ≤ 10000) (key : List UInt8) (at1 : Int) (x : List UInt8) :
    Calls Try.prog 11 #[.pointer (some ⟨s, 0, none⟩), .int .i64 at1, str key, str x] W fun e W' => e = .returned (.int .i64 (addCVS (verC key C) low (at1, x, false))) ∧ JB X B W' s mb b (putC C low key (at1, x, false)) low D dow (n + 1) ob cs := by
  obtain ⟨vo, R, h1, h2, h3, h4, h5⟩ := h
  refine (putG h1 hn key at1 x).mono ?_
  rintro e W' ⟨rfl, g4, g5⟩
  exact ⟨rfl, vo, R, g4, kb_rs h2 g5, h3, kb_keep h4 g5, h5⟩
theorem jbkill (h : JB X B W s mb b C low D dow n ob cs) (hn : n ≤ 10000) (key : List UInt8) (at1 : Int) :
    Calls Try.prog 13 #[.pointer (some ⟨s, 0, none⟩), .int .i64 at1, str key] W fun e W' => e = .returned (.int .i64 (addCVS (verC key C) low (at1, [], true))) ∧ JB X B W' s mb b (putC C low key (at1, [], true)) low D dow (n + 1) ob cs := by
  obtain ⟨vo, R, h1, h2, h3, h4, h5⟩ := h
  refine (killG h1 hn key at1).mono ?_
  rintro e W' ⟨rfl, g4, g5⟩
  exact ⟨rfl, vo, R, g4, kb_rs h2 g5, h3, kb_keep h4 g5, h5⟩
theorem jbprune (h : JB X B W s mb b C low D dow n ob cs) (hn : n ≤ 10000) (lw : Int) :
    Calls Try.prog 15 #[.pointer (some ⟨s, 0, none⟩), .int .i64 lw] W fun e W' => e = .returned (.int .i64 (pruN lw low C : Int)) ∧ JB X B W' s mb b (pruG lw low C) (pruLow lw low) D dow n ob cs := by
  obtain ⟨vo, R, h1, h2, h3, h4, h5⟩ := h
  refine (pruneG h1 hn lw).mono ?_
  rintro e W' ⟨rfl, g4, g5⟩
  exact ⟨rfl, vo, R, g4, kb_rs h2 g5, h3, kb_keep h4 g5, h5⟩
theorem jbref {W' : World} {vo vo' : Value} {R R' : List RRow} {dow' : Int} (h1 : SG X (KB b ob vo R) W s mb C low n) (hr : RS W B b vo R dow) (h4 : W.heap[ob]? = some (.cells cs 32 (0, 0))) (h5 : cs.size = 5) (hX : X.heap.size ≤ B) (hf : Frm (BlkR b vo) W W') (hr' : RS W' B b vo' R' dow')
    (hn : ∀ k, BlkR b vo' k → BlkR b vo k ∨ W.heap.size ≤ k) (hc : ∀ r ∈ R', ∀ j, sBlk r.2.1 = some j → (∃ x ∈ R, sBlk x.2.1 = some j) ∨ W.heap.size ≤ j) : JB X B W' s mb b C low (chR R') dow' n ob cs := by
  obtain ⟨t, S, g1, g2, g3, g4, g5⟩ := h1
  have hob : ¬ BlkR b vo ob := fun e => hr.five ob e _ _ _ h4 h5
  have hlt : ob < W.heap.size := (Array.getElem?_eq_some_iff.1 h4).1
  have hap : ∀ i, BlkVS s mb S i → ¬ BlkR b vo i := fun i hi e => (g5 i (.inl (.inl e))).2 hi
  refine ⟨vo', R', ⟨t, S, g1.frm hf (fun i hi cs T z hc => hr.five i hi cs T z hc) hap, g2, ⟨hf.os.trans g3.os, hf.tape.trans g3.tape, hf.output.trans g3.output, Nat.le_trans g3.size hf.size, fun k hk => ?_⟩, g4, fun i hi => ?_⟩, hr', rfl, by rw [hf.block ob hlt hob]; exact h4, h5⟩
  · rw [hf.block k (Nat.lt_of_lt_of_le hk g3.size) (fun e => by have := (hr.blk k e).1; omega)]
    exact g3.block k hk
  · rcases hi with hi | rfl
    · refine ⟨hr'.rk i hi, fun e => ?_⟩
      have hlt := (g1.blk i e).2
      rcases hi with hi | ⟨r, hr', hj⟩
      · rcases hn i hi with q | q
        · exact hap i e q
        · omega
      · rcases hc r hr' i hj with q | q
        · exact (g5 i (.inl (.inr q))).2 e
        · omega
    · exact ⟨Nat.lt_of_lt_of_le hlt hf.size, fun e => (g5 _ (.inr rfl)).2 e⟩
theorem jbrput (h : JB X B W s mb b C low D dow n ob cs) (hX : X.heap.size ≤ B) (hd : D.length ≤ 100000) (ht : totC D ≤ 100000) (key : List UInt8) (at1 : Int) (x : List UInt8) :
    Calls Try.prog 12 #[.pointer (some ⟨b, 0, none⟩), .int .i64 at1, str key, str x] W fun e W' => e = .returned (.int .i64 (addCVS (verC key D) dow (at1, x, false))) ∧ JB X B W' s mb b C low (putC D dow key (at1, x, false)) dow n ob cs := by
  obtain ⟨vo, R, h1, h2, h3, h4, h5⟩ := h
  have hb := chR_bound h3 hd ht
  refine (rput_any h2 hb.1 hb.2 key at1 x).mono ?_
  rintro e W' ⟨rfl, vo', R', g4, g5, g6, g7, g8⟩
  rw [h3] at g5 ⊢
  exact ⟨rfl, by rw [← g5]; exact jbref h1 h2 h4 h5 hX g6 g4 g7 g8⟩
theorem jbrkill (h : JB X B W s mb b C low D dow n ob cs) (hX : X.heap.size ≤ B) (hd : D.length ≤ 100000) (ht : totC D ≤ 100000) (key : List UInt8) (at1 : Int) :
    Calls Try.prog 14 #[.pointer (some ⟨b, 0, none⟩), .int .i64 at1, str key] W fun e W' => e = .returned (.int .i64 (addCVS (verC key D) dow (at1, [], true))) ∧ JB X B W' s mb b C low (putC D dow key (at1, [], true)) dow n ob cs := by
  obtain ⟨vo, R, h1, h2, h3, h4, h5⟩ := h
  have hb := chR_bound h3 hd ht
  refine (rkill_any h2 hb.1 hb.2 key at1).mono ?_
  rintro e W' ⟨rfl, vo', R', g4, g5, g6, g7, g8⟩
  rw [h3] at g5 ⊢
  exact ⟨rfl, by rw [← g5]; exact jbref h1 h2 h4 h5 hX g6 g4 g7 g8⟩
theorem jbrprune (h : JB X B W s mb b C low D dow n ob cs) (hX : X.heap.size ≤ B) (hd : D.length ≤ 100000) (ht : totC D ≤ 100000) (hr : ∀ p ∈ D, RisT (timesVS p.2)) (lw : Int) :
    Calls Try.prog 16 #[.pointer (some ⟨b, 0, none⟩), .int .i64 lw] W fun e W' => e = .returned (.int .i64 (pruN lw dow D : Int)) ∧ JB X B W' s mb b C low (pruG lw dow D) (pruLow lw dow) n ob cs := by
  obtain ⟨vo, R, h1, h2, h3, h4, h5⟩ := h
  have hb := chR_bound h3 hd ht
  refine (rprune_any h2 hb.1 (by rw [h3]; omega) (fun r hr' => hr (r.1, r.2.2) (by rw [← h3]; exact List.mem_map.2 ⟨r, hr', rfl⟩)) lw).mono ?_
  rintro e W' ⟨rfl, vo', R', g4, g5, g6, g7, g8⟩
  rw [h3] at g5 ⊢
  exact ⟨rfl, by rw [← g5]; exact jbref h1 h2 h4 h5 hX g6 g4 g7 g8⟩
/-- A store and its Copy, the document's one, a box. -/
def JD (X : World) (B : Nat) (W : World) (s mb : Nat) (C : ChC) (low : Int) (n s' mb' b : Nat) (C' : ChC) (low' : Int) (D : ChC) (dow : Int) (n' ob : Nat) (cs : Array Value) : Prop :=
  ∃ vo R, S2 X (KB b ob vo R) W s mb C low n s' mb' C' low' n' ∧ RS W B b vo R dow ∧ chR R = D ∧ W.heap[ob]? = some (.cells cs 32 (0, 0)) ∧ cs.size = 5
variable {s' mb' n' : Nat} {C' : ChC} {low' : Int}
theorem JD.jb (h : JD X B W s mb C low n s' mb' b C' low' D dow n' ob cs) : JB X B W s' mb' b C' low' D dow n' ob cs := by
  obtain ⟨vo, R, h1, h2, h3, h4, h5⟩ := h
  exact ⟨vo, R, h1.swap.sg, h2, h3, h4, h5⟩
theorem JD.old (h : JD X B W s mb C low n s' mb' b C' low' D dow n' ob cs) : JB X B W s mb b C low D dow n ob cs := by
  obtain ⟨vo, R, h1, h2, h3, h4, h5⟩ := h
  exact ⟨vo, R, h1.sg, h2, h3, h4, h5⟩
theorem JD.below {W' : World} (h : JD X B W s mb C low n s' mb' b C' low' D dow n' ob cs) (hb : Below W.heap.size W W') : JD X B W' s mb C low n s' mb' b C' low' D dow n' ob cs := by
  obtain ⟨vo, R, h1, h2, h3, h4, h5⟩ := h
  exact ⟨vo, R, h1.below hb, h2.below hb, h3, by rw [hb.block ob (Array.getElem?_eq_some_iff.1 h4).1]; exact h4, h5⟩
theorem jdput (h : JD X B W s mb C low n s' mb' b C' low' D dow n' ob cs) (hn : n ≤ 10000) (key : List UInt8) (at1 : Int) (x : List UInt8) :
    Calls Try.prog 11 #[.pointer (some ⟨s, 0, none⟩), .int .i64 at1, str key, str x] W fun e W' => (∃ z, e = .returned (.int .i64 z)) ∧ JD X B W' s mb (putC C low key (at1, x, false)) low (n + 1) s' mb' b C' low' D dow n' ob cs := by
  obtain ⟨vo, R, h1, h2, h3, h4, h5⟩ := h
  refine (put2 h1 hn key at1 x).mono ?_
  rintro e W' ⟨rfl, g4, g5⟩
  exact ⟨⟨_, rfl⟩, vo, R, g4, kb_rs h2 g5, h3, kb_keep h4 g5, h5⟩
theorem jdprune (h : JD X B W s mb C low n s' mb' b C' low' D dow n' ob cs) (hn : n ≤ 10000) (lw : Int) :
    Calls Try.prog 15 #[.pointer (some ⟨s, 0, none⟩), .int .i64 lw] W fun e W' => (∃ z, e = .returned (.int .i64 z)) ∧ JD X B W' s mb (pruG lw low C) (pruLow lw low) n s' mb' b C' low' D dow n' ob cs := by
  obtain ⟨vo, R, h1, h2, h3, h4, h5⟩ := h
  refine (prune2 h1 hn lw).mono ?_
  rintro e W' ⟨rfl, g4, g5⟩
  exact ⟨⟨_, rfl⟩, vo, R, g4, kb_rs h2 g5, h3, kb_keep h4 g5, h5⟩
end Go.Proofs.Ytdlacjdddjebgaa
namespace Go.Proofs.Ytdlacjdddjebgaa
open Go.RowKit
section
variable {Y : Type}
theorem insB_end {k : List UInt8} {y : Y} : ∀ {l : List (List UInt8 × Y)}, RisB (l ++ [(k, y)]) → insB k y l = l ++ [(k, y)]
  | [], _ => rfl
  | (k', y') :: t, h => by
    obtain ⟨h1, h2⟩ := List.pairwise_cons.1 (show RisB ((k', y') :: (t ++ [(k, y)])) from h)
    have hl : Op.bytesLess k' k = true := h1 (k, y) (by simp)
    have hl2 : Op.bytesLess k k' = false := by
      cases e : Op.bytesLess k k' with
      | false => rfl
      | true => have := bl_tr _ _ _ e hl; rw [bl_irr] at this; cases this
    simp only [insB, hl, hl2, Bool.false_eq_true, if_false, if_true, List.cons_append]
    rw [insB_end h2]
theorem getB_end {k : List UInt8} {y : Y} : ∀ {l : List (List UInt8 × Y)}, RisB (l ++ [(k, y)]) → getB k l = none
  | [], _ => rfl
  | (k', y') :: t, h => by
    obtain ⟨h1, h2⟩ := List.pairwise_cons.1 (show RisB ((k', y') :: (t ++ [(k, y)])) from h)
    have hl : Op.bytesLess k' k = true := h1 (k, y) (by simp)
    have hl2 : Op.bytesLess k k' = false := by
      cases e : Op.bytesLess k k' with
      | false => rfl
      | true => have := bl_tr _ _ _ e hl; rw [bl_irr] at this; cases this
    simp only [getB, hl, hl2, Bool.false_eq_true, if_false, if_true]
    exact getB_end h2
end
theorem chs_ris {S : ChsVS} (h : RisB S) : RisB (chsVS S) := by
  unfold RisB at h ⊢
  unfold chsVS
  exact List.pairwise_map.2 h
theorem chs_app (A Q : ChsVS) : chsVS (A ++ Q) = chsVS A ++ chsVS Q := by simp [chsVS]
/-- A new store in its box. -/
structure CopW (W W' : World) (bc sc mc : Nat) (cnt low : Int) : Prop where
  bx : Boxed W' bc 24 (.pointer (some ⟨sc, 0, none⟩))
  st : W'.heap[sc]? = some (.cells #[.pointer (some ⟨mc, 0, none⟩), .int .i64 cnt, .int .i64 low] 71 (0, 0))
  mp : MP W' mc .nil
  bl : Below W.heap.size W W'
  lo : W.heap.size ≤ sc ∧ W.heap.size ≤ mc
theorem CopW.stv {W W' : World} {bc sc mc : Nat} {cnt low : Int} (h : CopW W W' bc sc mc cnt low) (k : Nat) : StVS W' W.heap.size sc mc .nil [] cnt low k :=
  ⟨h.st, h.mp, trivial, rfl, by unfold RisB; exact List.Pairwise.nil, by simp, by simp, by simp, ⟨Nat.zero_le _, Nat.zero_le _, by simp⟩, h.lo⟩
/-- Under way: of the chains the first have been cloned. -/
structure CopI (W w4 : World) (bc sc mc : Nat) (S : ChsVS) (cnt low : Int) (k : Nat) (pre : List (Value × Value)) (W' : World) : Prop where
  st : ∃ A Q P tc, S = A ++ Q ∧ pre = A.map (pairB Prod.fst) ∧ StVS W' W.heap.size sc mc tc P cnt low (k + A.length) ∧ chsVS P = chsVS A
  bx : Boxed W' bc 24 (.pointer (some ⟨sc, 0, none⟩))
  bl : Below W.heap.size W W'
  nk : NK w4 W'
theorem copI_own {W w4 : World} {bc sc mc : Nat} {S : ChsVS} {cnt low : Int} {k : Nat} {D : Nat} (h4 : w4.heap.size ≤ D) (hW : W.heap.size ≤ D) : OwnFrom D (CopI W w4 bc sc mc S cnt low k) := by
  intro pre X Y row h hg hr
  have hcells : ∀ i cs T z, X.heap[i]? = some (.cells cs T z) → row ≠ some i := by
    intro i cs T z hc e
    obtain ⟨_, o, ho, hoc⟩ := hr i e
    rw [hc] at ho
    cases ho
    cases hoc
  have hf : Frm (fun i => row = some i) X Y := Frm.of_grown hg (fun _ e => e)
  obtain ⟨A, Q, P, tc, e1, e2, hs, e3⟩ := h.st
  refine ⟨⟨A, Q, P, tc, e1, e2, hs.frm hf (fun i e cs T z hc => absurd e (hcells i cs T z hc)) ?_, e3⟩, ?_, ?_, NK.own w4 (β := Unit) () X Y row h.nk hg (fun r e => ⟨Nat.le_trans h4 (hr r e).1, (hr r e).2⟩)⟩
  · rintro i hi e
    rcases hi with rfl | rfl | ⟨x, hx, hi⟩
    · exact hcells _ _ _ _ hs.box e
    · obtain ⟨T, o, hm, _⟩ := hs.mp
      exact hcells _ _ _ _ hm e
    · rcases (hs.ch x hx).2 with ⟨h1, _⟩ | ⟨g, cap, cur, h1, _, hgg, _⟩
      · rw [h1] at hi; simp [Value.ownBlock] at hi
      · rw [h1] at hi
        simp only [Value.ownBlock, Option.some.injEq] at hi
        subst hi
        exact hcells _ _ _ _ hgg e
  · exact h.bx.kept hg (fun e => hcells _ _ _ _ h.bx e.symm)
  · exact h.bl.grown hg h.bl.size (fun k e => Nat.le_trans hW (hr k e).1)
/-- What a Copy leaves. -/
def CopP (W : World) (S : ChsVS) (cnt low : Int) (k : Nat) (e : Ending) (W' : World) : Prop := ∃ s' mb' t' S', e = .returned (.pointer (some ⟨s', 0, none⟩)) ∧ StVS W' W.heap.size s' mb' t' S' cnt low k ∧ chsVS S' = chsVS S ∧ Below W.heap.size W W'
theorem copI_done {W w4 : World} {bc sc mc : Nat} {S : ChsVS} {cnt low : Int} {k : Nat} {pre : List (Value × Value)} {W' : World} (h : CopI W w4 bc sc mc S cnt low k pre W') (hl : pre = S.map (pairB Prod.fst)) (hk : S.length ≤ k) (hc : ∀ x ∈ S, x.2.2.length ≤ k) :
    ∃ t' S', StVS W' W.heap.size sc mc t' S' cnt low k ∧ chsVS S' = chsVS S := by
  obtain ⟨A, Q, P, tc, e1, e2, hs, e3⟩ := h.st
  have hQ : Q = [] := by
    have h6 := hl.symm.trans e2
    rw [e1, List.map_append] at h6
    have := congrArg List.length h6
    simp at this
    exact this
  subst hQ
  rw [List.append_nil] at e1
  subst e1
  have hlen : P.length = S.length := by have := congrArg List.length e3; simpa [chsVS] using this
  refine ⟨tc, P, ⟨hs.box, hs.mp, hs.ws, hs.pr, hs.rs, hs.ch, hs.ap, hs.tr, ⟨?_, by omega, fun x hx => ?_⟩, hs.lo⟩, e3⟩
  · have a := ht_len hs.ws
    rw [hs.pr, List.length_map] at a
    omega
  · have : (x.1, x.2.2) ∈ chsVS S := by rw [← e3]; exact List.mem_map.2 ⟨x, hx, rfl⟩
    obtain ⟨y, hy, e⟩ := List.mem_map.1 this
    have := hc y hy
    simp only [Prod.mk.injEq] at e
    rw [e.2] at this
    exact this
/-- Behind the put of a clone. -/
def CopR (W w4 W9 : World) (bc sc mc : Nat) (P : ChsVS) (key : List UInt8) (l : List VerVS) (cnt low : Int) (k : Nat) (W' : World) : Prop :=
  ∃ t' v', StVS W' W.heap.size sc mc t' (P ++ [(key, (v', l))]) cnt low k ∧ Boxed W' bc 24 (.pointer (some ⟨sc, 0, none⟩)) ∧ Below W.heap.size W W' ∧ NK w4 W' ∧ KT (fun _ => False) w4.heap.size W9 W'
theorem copPut {W w4 w9 X : World} {bc sc mc : Nat} {tc : Tr} {P : ChsVS} {key : List UInt8} {l : List VerVS} {cnt low : Int} {k g m c : Nat} (hs : StVS w9 W.heap.size sc mc tc P cnt low k) (hk : k ≤ 1000000) (hbx : Boxed w9 bc 24 (.pointer (some ⟨sc, 0, none⟩))) (hbl : Below W.heap.size W w9) (hnk : NK w4 w9) (hmc : mc < w4.heap.size)
    (hr : RisB (chsVS P ++ [(key, l)])) (hrt : RisT (timesVS l)) (hl : l.length ≤ k + 1)
    (ho : X.ownsRow W.heap.size 65 3 (.slice (some ⟨g, 0, none⟩) m c) l.length (l.map cellsVS).flatten) (hb : Below w9.heap.size w9 X) (hg : w9.heap.size ≤ g) :
    Calls Try.prog 46 #[.pointer (some ⟨mc, 0, none⟩), str key, .slice (some ⟨g, 0, none⟩) m c] X fun e W8 => e = .returned (.bool (newT (str key) tc)) ∧ CopR W w4 w9 bc sc mc P key l cnt low (k + 1) W8 := by
  have hr2 : ∀ y : ChVS, RisB (P ++ [(key, y)]) := fun y => by
    unfold RisB at hr ⊢
    rw [List.pairwise_append] at hr ⊢
    refine ⟨hs.rs, by simp, fun a ha b hb => ?_⟩
    simp only [List.mem_cons, List.not_mem_nil, or_false] at hb
    subst hb
    exact hr.2.2 (a.1, a.2.2) (List.mem_map.2 ⟨a, ha, rfl⟩) (key, l) (by simp)
  have hv : valSVS key P = .slice none 0 0 := by unfold valSVS; rw [getB_end (hr2 (.nilFunc, []))]; rfl
  refine (putSVS_any hs hk key l g m c ho (Frm.of_below hb) hrt hl (.inr hg)).mono ?_
  rintro e W8 ⟨rfl, h8, hf8⟩
  rw [insB_end (hr2 _)] at h8
  have hF : ∀ i, PutFVS mc (valSVS key P) i → i = mc := by
    rintro i (h | h)
    · exact h
    · rw [hv] at h; simp [Value.ownBlock] at h
  have hf : Frm (fun i => i = mc) w9 W8 := hf8.mono (fun i _ hi => hF i hi)
  have hne : bc ≠ mc := by
    rintro rfl
    obtain ⟨T, o, hm, _⟩ := hs.mp
    rw [show w9.heap[bc]? = _ from hbx] at hm
    simp at hm
  refine ⟨rfl, _, _, h8, (hf.block bc (Array.getElem?_eq_some_iff.1 (show w9.heap[bc]? = _ from hbx)).1 hne).trans hbx, ⟨hf.os.trans hbl.os, hf.tape.trans hbl.tape, hf.output.trans hbl.output, Nat.le_trans hbl.size hf.size, fun i hi => ?_⟩, ⟨Nat.le_trans hnk.1 hf.size, fun b k x n ol or T hc => ?_⟩, kt_of_frmVS hf (fun i hi => by omega)⟩
  · rw [hf.block i (Nat.lt_of_lt_of_le hi hbl.size) (fun e => by have := hs.lo.2; omega)]
    exact hbl.block i hi
  · have h6 := hnk.2 b k x n ol or T hc
    rw [hf.block b (Array.getElem?_eq_some_iff.1 h6).1 (fun e => hs.five b (.inr (.inl e)) _ _ _ h6 rfl)]
    exact h6
end Go.Proofs.Ytdlacjdddjebgaa
namespace Go.Proofs.Ytdlacjdddjebgaa
open Go.RowKit
attribute [local go_sem] Oper.semAt_some wide_fn wide_depth
theorem below_cellA {W : World} {p : Addr} {v : Value} {o : Obj} (h : W.cell? p = some v) : (W.drew.alloc o).cell? p = some v := ((below_alloc W.drew o).cell (World.block_lt_of_cell? W.drew p h)).trans h
theorem below_cellB {W : World} {p : Addr} {v : Value} {o : Obj} (h : W.cell? p = some v) : (W.alloc o).cell? p = some v := ((below_alloc W o).cell (World.block_lt_of_cell? W p h)).trans h
theorem new_freeA (W : World) (v : Value) (T : TypeId) : (W.drew.alloc (.cells #[v] T)).heap[W.heap.size]? = some (.cells #[v] T (0, 0)) := heap_alloc_new W.drew _
theorem new_freeC {A B : World} {i : Nat} {v : Value} {T : TypeId} {o : Obj} (h : A.heap[i]? = some (.cells #[v] T (0, 0))) (hb : Below A.heap.size A B) : (B.alloc o).cell? ⟨i, 0, none⟩ = some v ∧ (B.alloc o).frozen? ⟨i, 0, none⟩ = false := by
  have e : (B.alloc o).heap[i]? = some (.cells #[v] T (0, 0)) := by
    have hi := (Array.getElem?_eq_some_iff.1 h).1
    rw [(below_alloc B o).block i (Nat.lt_of_lt_of_le hi hb.size), hb.block i hi]; exact h
  exact ⟨by simp [World.cell?, e], frozen_of_row _ i 0 _ _ e⟩
theorem copW_A {W w1 : World} {mc : Nat} {cnt low : Int} (hmc : mc = W.drew.heap.size) (hmp : MP w1 mc .nil) (hb : Below W.drew.heap.size W.drew w1) :
    CopW W ((w1.alloc (.cells #[.pointer (some ⟨W.heap.size, 0, none⟩), .int .i64 cnt, .int .i64 low] 71)).alloc (.cells #[.pointer (some ⟨w1.heap.size, 0, none⟩)] 24)) (w1.heap.size + 1) w1.heap.size W.heap.size cnt low := by
  have hmc' : mc = W.heap.size := hmc
  subst hmc'
  have h1 := below_alloc w1 (.cells #[.pointer (some ⟨W.heap.size, 0, none⟩), .int .i64 cnt, .int .i64 low] 71)
  have h2 := below_alloc (w1.alloc (.cells #[.pointer (some ⟨W.heap.size, 0, none⟩), .int .i64 cnt, .int .i64 low] 71)) (.cells #[.pointer (some ⟨w1.heap.size, 0, none⟩)] 24)
  have hs : (w1.alloc (.cells #[.pointer (some ⟨W.heap.size, 0, none⟩), .int .i64 cnt, .int .i64 low] 71)).heap.size = w1.heap.size + 1 := by simp
  have hB : Below W.heap.size W w1 := (Below.drewsN (Below.refl _ W) 1).trans hb
  refine ⟨?_, ?_, (hmp.below h1).below h2, (hB.trans (h1.mono hB.size)).trans (h2.mono (by have := hB.size; omega)), ⟨hB.size, Nat.le_refl _⟩⟩
  · have := heap_alloc_new (w1.alloc (.cells #[.pointer (some ⟨W.heap.size, 0, none⟩), .int .i64 cnt, .int .i64 low] 71)) (.cells #[.pointer (some ⟨w1.heap.size, 0, none⟩)] 24)
    rw [hs] at this
    exact this
  · rw [h2.block w1.heap.size (by omega)]
    exact heap_alloc_new w1 _
theorem copW_B {W w1 : World} {mc : Nat} {cnt low : Int} (hmc : mc = W.drew.heap.size) (hmp : MP w1 mc .nil) (hb : Below W.drew.heap.size W.drew w1) :
    CopW W ((w1.alloc (.cells #[.pointer (some ⟨w1.heap.size + 1, 0, none⟩)] 24)).alloc (.cells #[.pointer (some ⟨W.heap.size, 0, none⟩), .int .i64 cnt, .int .i64 low] 71)) w1.heap.size (w1.heap.size + 1) W.heap.size cnt low := by
  have hmc' : mc = W.heap.size := hmc
  subst hmc'
  have h1 := below_alloc w1 (.cells #[.pointer (some ⟨w1.heap.size + 1, 0, none⟩)] 24)
  have h2 := below_alloc (w1.alloc (.cells #[.pointer (some ⟨w1.heap.size + 1, 0, none⟩)] 24)) (.cells #[.pointer (some ⟨W.heap.size, 0, none⟩), .int .i64 cnt, .int .i64 low] 71)
  have hs : (w1.alloc (.cells #[.pointer (some ⟨w1.heap.size + 1, 0, none⟩)] 24)).heap.size = w1.heap.size + 1 := by simp
  have hB : Below W.heap.size W w1 := (Below.drewsN (Below.refl _ W) 1).trans hb
  refine ⟨?_, ?_, (hmp.below h1).below h2, (hB.trans (h1.mono hB.size)).trans (h2.mono (by have := hB.size; omega)), ⟨by have := hB.size; omega, Nat.le_refl _⟩⟩
  · show _ = _
    rw [h2.block w1.heap.size (by omega)]
    exact heap_alloc_new w1 _
  · have := heap_alloc_new (w1.alloc (.cells #[.pointer (some ⟨w1.heap.size + 1, 0, none⟩)] 24)) (.cells #[.pointer (some ⟨W.heap.size, 0, none⟩), .int .i64 cnt, .int .i64 low] 71)
    rw [hs] at this
    exact this
theorem copW_C {W w1 : World} {mc : Nat} {cnt low : Int} {A : World} (hA : A.heap.size = W.heap.size + 1) (hbx : A.heap[W.heap.size]? = some (.cells #[.pointer none] 24 (0, 0))) (hWA : Below W.heap.size W A) (hmc : mc = A.heap.size) (hmp : MP w1 mc .nil) (hb : Below A.heap.size A w1) :
    CopW W ((w1.alloc (.cells #[.pointer (some ⟨mc, 0, none⟩), .int .i64 cnt, .int .i64 low] 71)).setCell ⟨W.heap.size, 0, none⟩ (.pointer (some ⟨w1.heap.size, 0, none⟩))) W.heap.size w1.heap.size mc cnt low := by
  have h1 := below_alloc w1 (.cells #[.pointer (some ⟨mc, 0, none⟩), .int .i64 cnt, .int .i64 low] 71)
  have hsz := hb.size
  obtain ⟨w2, hw2⟩ : ∃ w2, w2 = w1.alloc (.cells #[.pointer (some ⟨mc, 0, none⟩), .int .i64 cnt, .int .i64 low] 71) := ⟨_, rfl⟩
  have hn := heap_alloc_new w1 (.cells #[.pointer (some ⟨mc, 0, none⟩), .int .i64 cnt, .int .i64 low] 71)
  rw [← hw2] at h1 hn ⊢
  have hbx1 : w2.heap[W.heap.size]? = some (.cells #[.pointer none] 24 (0, 0)) := by
    rw [h1.block _ (by omega), hb.block _ (by omega)]; exact hbx
  have hm2 := hmp.below h1
  obtain ⟨u, v, T, h2⟩ := hm2.two
  have ho : Only W.heap.size w2 (w2.setCell ⟨W.heap.size, 0, none⟩ (.pointer (some ⟨w1.heap.size, 0, none⟩))) := (Only.refl _ _).setCell 0 _
  have hB : Below W.heap.size W w1 := hWA.trans (hb.mono (by omega))
  refine ⟨?_, ?_, ?_, ((hB.trans (h1.mono hB.size)).setCell (p := ⟨W.heap.size, 0, none⟩) (Nat.le_refl _) _), ⟨by omega, by omega⟩⟩
  · have hlt := (Array.getElem?_eq_some_iff.1 hbx1).1
    have h' : w2.heap[W.heap.size] = .cells #[.pointer none] 24 (0, 0) := by simpa [Array.getElem?_eq_getElem hlt] using hbx1
    show (w2.heap.modify W.heap.size _)[W.heap.size]? = _
    rw [Array.getElem?_eq_getElem (by simpa using hlt), Array.getElem_modify_self, h']
    rfl
  · rw [ho.2 w1.heap.size (Array.getElem?_eq_some_iff.1 hn).1 (by omega)]; exact hn
  · have hf : Frm (fun i => i = W.heap.size) w2 (w2.setCell ⟨W.heap.size, 0, none⟩ (.pointer (some ⟨w1.heap.size, 0, none⟩))) := Frm.set _ rfl
    exact MP.frm hf (fun i hi cs T z hc => by subst hi; rw [hbx1] at hc; simp only [Option.some.injEq, Obj.cells.injEq] at hc; rw [← hc.1]; simp) (by omega) hm2
theorem onlyF_cut {F : Fence} {n : Nat} {P : Program} {c : Code} {Q : Exit → Act → World → Prop} {a : Act} {w : World} (R : Act → World → Prop) (h : c.wpIn F n P (OnlyF R) a w) (hR : ∀ a w, R a w → Q .normal a w) : c.wpIn F n P Q a w :=
  wpIn_mono h (fun e a' w' hq => by
    cases e with
    | normal => exact hR _ _ hq
    | _ => exact hq.elim)
set_option maxRecDepth 100000 in
set_option maxHeartbeats 8000000 in
theorem copyS_any {W : World} {B s mb : Nat} {t : Tr} {S : ChsVS} {cnt low : Int} {k : Nat} (h : StVS W B s mb t S cnt low k) (hk : k ≤ 10000) (hne : ∀ x ∈ S, x.2.2 ≠ []) :
    Calls Try.prog 17 #[.pointer (some ⟨s, 0, none⟩)] W (CopP W S cnt low k) := by
  have hm : Try.prog.follows .mixedOrders = true := by kernel_rfl
  have hdd : ∀ k : Nat, (Fence.wide.depth.isSome = true → 1 ≤ k) := fun k h => by cases h
  obtain ⟨c0, c1, c2, _⟩ := h.cells
  have HS := Lib.hid h
  clear h
  refine (callsIn_wide (n := 9)).1 ?_
  refine callsIn_of_wp_marks Try.func17 rfl trivial ?_ rfl
  simp only [Try.ntmps17, List.size_toArray, List.length_cons, List.length_nil, Nat.reduceAdd, Nat.reduceSub, Array.replicate_succ, Array.replicate_zero, List.push_toArray, List.append_toArray, List.nil_append, List.cons_append]
  gi_wp2_with fail
  have hsz := HS.out.slt
  have c1a := below_cellA (o := .cells #[.pointer none] 24) c1
  have c2a := below_cellA (o := .cells #[.pointer none] 24) c2
  refine onlyF_cut (fun a W' => ∃ bc sc mc, a = { tmps := #[.pointer (some ⟨s, 0, none⟩), undef, .pointer none, .pointer (some ⟨bc, 0, none⟩), undef, undef, .pointer (some ⟨mc, 0, none⟩), .pointer (some ⟨s, 0, none⟩), .pointer (some ⟨s, 0, none⟩), .pointer (some ⟨s, 1, none⟩), .int .i64 cnt, .pointer (some ⟨s, 0, none⟩), .pointer (some ⟨s, 0, none⟩), .pointer (some ⟨s, 2, none⟩), .int .i64 low, .agg #[.pointer (some ⟨mc, 0, none⟩), .int .i64 cnt, .int .i64 low], .pointer (some ⟨sc, 0, none⟩), undef, undef, undef, undef, undef, undef, undef, undef, undef, undef, undef, undef, undef, undef, undef, undef], defers := [] } ∧ CopW W W' bc sc mc cnt low) ?_ ?_
  · gi_region_with_o (gi_at_call 40; refine (callsIn_wide.2 (newVS_any _)).mono ?_; rintro e w1 ⟨mc, rfl, hmc, hmp, hb1⟩; have d1 : w1.cell? ⟨s, 1, none⟩ = some (.int .i64 cnt) := (by rw [hb1.cell (p := ⟨s, 1, none⟩) (by simp; omega)]; first | exact c1 | exact c1a); have d2 : w1.cell? ⟨s, 2, none⟩ = some (.int .i64 low) := (by rw [hb1.cell (p := ⟨s, 2, none⟩) (by simp; omega)]; first | exact c2 | exact c2a); have d1a := below_cellB (o := .cells #[.pointer none] 24) d1; have d2a := below_cellB (o := .cells #[.pointer none] 24) d2; try (have d3 := (new_freeC (o := .cells #[.pointer (some ⟨mc, 0, none⟩), .int .i64 cnt, .int .i64 low] 71) (new_freeA W (.pointer none) 24) hb1).1); try (have d4 := (new_freeC (o := .cells #[.pointer (some ⟨mc, 0, none⟩), .int .i64 cnt, .int .i64 low] 71) (new_freeA W (.pointer none) 24) hb1).2); have d5 := (new_freeC (o := .cells #[.pointer (some ⟨mc, 0, none⟩), .int .i64 cnt, .int .i64 low] 71) (heap_alloc_new w1 (.cells #[.pointer none] 24)) (Below.refl _ _)); obtain ⟨d6, d7⟩ := d5; have HN := Lib.hid (And.intro hmc (And.intro hmp hb1)); clear hmc hmp hb1)
    all_goals dsimp only [OnlyF]
    all_goals first
      | exact ⟨_, _, _, rfl, copW_A hmc hmp hb1⟩
      | exact ⟨_, _, _, rfl, copW_B hmc hmp hb1⟩
      | exact ⟨_, _, _, rfl, copW_C (A := (W.alloc (.cells #[.pointer none] 24)).drew) (by simp) (heap_alloc_new W _) (Below.drewsN (below_alloc W _) 1) HN.out.1 HN.out.2.1 HN.out.2.2⟩
      | trace_state
  · rintro a W1 ⟨bc, sc, mc, rfl, hcw⟩
    have hst1 := HS.out.below hcw.bl
    have HW1 := Lib.hid hcw
    have HS1 := Lib.hid hst1
    clear c0 c1 c2 c1a c2a hcw
    obtain ⟨c0, _, _, _⟩ := hst1.cells
    clear hst1
    gi_wp2_with (gi_at_call 43; refine hold ?_)
    intro _
    clear c0
    refine (callsIn_wide.2 (mallVS_any mb W1)).mono ?_
    rintro e w4 ⟨rfl, hw4⟩
    have l4 : Below W1.heap.size W1 w4 := by rw [hw4]; exact below_alloc W1 _
    have c4 : w4.cell? ⟨W1.heap.size, 0, none⟩ = some (.pointer (some ⟨mb, 0, none⟩)) := by rw [hw4]; simp
    have hst4 := HS1.out.below l4
    have hseq : ∀ W', Below w4.heap.size w4 W' → Seqs Try.prog 63 #[.pointer (some ⟨W1.heap.size, 0, none⟩)] (fun p : Value × Value => #[p.1, p.2]) (NK w4) (fun _ => False) (prs t) W' := fun W' hW' => allsVS_any hst4.mp c4 hW'
    have hW4 : W.heap.size ≤ w4.heap.size := by have := HW1.out.bl.size; have := l4.size; omega
    have hmc4 : mc < w4.heap.size := by have := HW1.out.mp.lt; have := l4.size; omega
    have H0 : CopI W w4 bc sc mc S cnt low k [] w4 := by
      refine ⟨⟨[], S, [], .nil, rfl, rfl, ?_, rfl⟩, (l4.block _ (Array.getElem?_eq_some_iff.1 (show W1.heap[bc]? = _ from HW1.out.bx)).1).trans HW1.out.bx, HW1.out.bl.trans (l4.mono HW1.out.bl.size), NK.refl _⟩
      exact (HW1.out.stv k).below l4
    have HPR : Hid (prs t = S.map (pairB Prod.fst)) := Lib.hid HS.out.pr
    have HRS := Lib.hid HS.out.rs
    have HKK : Hid (S.length ≤ k ∧ ∀ x ∈ S, x.2.2.length ≤ k) := Lib.hid HS.out.hk.2
    have HNE := Lib.hid hne
    clear c4 hst4 hw4 hne
    have HL4 := Lib.hid l4
    clear l4
    gi_wp2
    refine range_law (gf := 63) (lb := #[.pointer (some ⟨W1.heap.size, 0, none⟩)]) rfl (enters_of Try.func63 (by kernel_rfl) rfl) (Ok := NK w4) (Wr := fun _ => False) (xs := prs t) hseq (by intro x; rfl)
      (fun pre W' => CopI W w4 bc sc mc S cnt low k pre W') (fun _ _ _ => False)
      (copI_own (Nat.le_refl _) hW4) (fun c => ownFrom_pure _ (fun _ : List (Value × Value) => False)) H0 (fun pre W' h => h.nk) ?a1 ?assign ?body ?done ?stop
    case assign =>
      intro l x W' K hK
      gi_wp2
      exact hK
    case stop =>
      rintro D c pre W' hD _ hF _
      exact hF.elim
    case done =>
      rintro D W9 hD hI hK
      have HDn : Hid (∀ o, (∃ t' S', StVS (W9.putObj D o) W.heap.size sc mc t' S' cnt low k ∧ chsVS S' = chsVS S) ∧ Below W.heap.size W (W9.putObj D o)) :=
        Lib.hid (fun o => by
          have h9 := (copI_own (W := W) (D := w4.heap.size) (Nat.le_refl _) hW4).putObj o hI hD hK rfl
          exact ⟨copI_done h9 HPR.out HKK.out.1 HKK.out.2, h9.bl⟩)
      have q0 : W9.cell? ⟨bc, 0, none⟩ = some (.pointer (some ⟨sc, 0, none⟩)) := hI.bx.cell
      clear hI hseq H0
      gi_wp2
      refine ⟨by simp, .inl ⟨_, _, rfl, run_takeDeferred hK, ?_⟩⟩
      obtain ⟨⟨t9, S9, h9, e9⟩, hb9⟩ := HDn.out (.deferred none)
      exact ⟨_, results_tmp rfl _ _ _, sc, mc, t9, S9, rfl, h9, e9, hb9⟩
    case body =>
      rintro l2 pre x w9 hl2 hI ⟨tl, ht⟩
      obtain ⟨A, Q, P, tc, e1, e2, hs9, e3⟩ := hI.st
      obtain ⟨key, v, l, Q', rfl, rfl⟩ : ∃ key v l Q', Q = (key, (v, l)) :: Q' ∧ x = pairB Prod.fst ((key, (v, l)) : List UInt8 × ChVS) := by
        have h6 := HPR.out.symm.trans ht
        rw [e1, List.map_append, e2] at h6
        have h7 := List.append_cancel_left h6
        cases Q with
        | nil => cases h7
        | cons q Q' =>
          obtain ⟨key, v, l⟩ := q
          simp only [List.map_cons, List.cons.injEq] at h7
          exact ⟨key, v, l, Q', rfl, h7.1.symm⟩
      have hmS : (key, (v, l)) ∈ S := by rw [e1]; simp
      have hSw9 := HS.out.below hI.bl
      have hrow : w9.ownsRow B 65 3 v l.length (l.map cellsVS).flatten := hSw9.ch _ hmS
      have htr : RisT (timesVS l) := HS.out.tr _ hmS
      have hll : l.length ≤ k := HKK.out.2 _ hmS
      have hAl : A.length ≤ k := by have := HKK.out.1; rw [e1] at this; simp at this; omega
      have hl0 : 0 < l.length := List.length_pos_iff.2 (HNE.out _ hmS)
      have hrP : RisB (chsVS P ++ [(key, l)]) := by
        rw [e3]
        have h8 := chs_ris HRS.out
        rw [e1, chs_app] at h8
        exact h8.sublist (List.Sublist.append (List.Sublist.refl _) (by simp [chsVS]))
      have hrd := rd_rowVS hrow
      obtain ⟨bA, oA, cv, rfl⟩ : ∃ bA oA cv, v = .slice (some ⟨bA, oA, none⟩) l.length cv := by
        obtain ⟨a, cv, rfl, _⟩ := hrd.form
        obtain ⟨bA, oA, rfl, _⟩ := hrd.get (i := 0) hl0
        exact ⟨bA, oA, cv, rfl⟩
      obtain ⟨n, hn⟩ : ∃ n, n = l.length := ⟨_, rfl⟩
      rw [← hn] at hrd
      have HCell : Hid (∀ X, Below w9.heap.size w9 X → X.cell? ⟨bc, 0, none⟩ = some (.pointer (some ⟨sc, 0, none⟩)) ∧ X.cell? ⟨sc, 0, none⟩ = some (.pointer (some ⟨mc, 0, none⟩))) := Lib.hid (fun X hX => by
        have q1 : bc < w9.heap.size := (Array.getElem?_eq_some_iff.1 (show w9.heap[bc]? = _ from hI.bx)).1
        have q2 : sc < w9.heap.size := hs9.slt
        exact ⟨(hX.cell (p := ⟨bc, 0, none⟩) q1).trans hI.bx.cell, (hX.cell (p := ⟨sc, 0, none⟩) q2).trans hs9.cells.1⟩)
      have HCl : Hid (∀ X, Below w9.heap.size w9 X → Calls Try.prog 47 #[.slice (some ⟨bA, oA, none⟩) n cv] X (CloPVS l n X)) := Lib.hid (fun X hX =>
        cloneVS_any _ n cv l X (hrd.up hX) hn (by omega) (by omega))
      have hBw : W.heap.size ≤ w9.heap.size := hI.bl.size
      have HPt : Hid (∀ X g c, Hid (X.ownsRow W.heap.size 65 3 (.slice (some ⟨g, 0, none⟩) n c) l.length (l.map cellsVS).flatten ∧ Below w9.heap.size w9 X ∧ w9.heap.size ≤ g) →
          Calls Try.prog 46 #[.pointer (some ⟨mc, 0, none⟩), str key, .slice (some ⟨g, 0, none⟩) n c] X fun e W8 => e = .returned (.bool (newT (str key) tc)) ∧ CopR W w4 w9 bc sc mc P key l cnt low (k + A.length + 1) W8) := Lib.hid (fun X g c H =>
        copPut hs9 (by omega) hI.bx hI.bl hI.nk hmc4 hrP htr (by omega) H.out.1 H.out.2.1 H.out.2.2)
      have HE := Lib.hid (And.intro e1 (And.intro e2 e3))
      have HN := Lib.hid hn
      clear hs9 hI hseq H0 hrow htr hrd e1 e2 e3 hmS hSw9 hrP ht hl0
      dsimp only [pairB]
      rw [← HN.out]
      clear hn
      obtain ⟨Z, hZ⟩ : ∃ Z, Z = newT (str key) tc := ⟨_, rfl⟩
      rw [← hZ] at HPt
      clear hZ
      gi_wp2_with fail
      refine cut_region (fun _ W' => CopR W w4 w9 bc sc mc P key l cnt low (k + A.length + 1) W') ?_ ?_
      · refine wpIn_region_any hm ?_
        change wpAnyIn _ _ _ _ _ _ _ _ _ (World.drew _)
        refine any_inRound rfl (by kernel_rfl) _ _ _ _ ?_
        refine wpAnyIn_take (i := 4) (v := ?v1) rfl rfl (by kernel_rfl) (by kernel_rfl) (by kernel_rfl) (fun _ _ _ h => (nomatch h.1)) ⟨Or.inl ⟨by rfl, ?hy1⟩, fun _ => rfl⟩ ?_
        case hy1 => (intro w; go_simp; try with_reducible rfl)
        go_simp
        refine wpAnyIn_take (i := 5) (v := ?v2) rfl rfl (by kernel_rfl) (by kernel_rfl) (by kernel_rfl) (fun _ _ _ h => (nomatch h.1)) ⟨Or.inl ⟨by rfl, ?hy2⟩, fun _ => rfl⟩ ?_
        case hy2 => (intro w; go_simp; try with_reducible rfl)
        go_simp
        have hX0 : Below w9.heap.size w9 w9.drew := Below.drewsN (Below.refl _ _) 1
        generalize w9.drew = X0 at hX0 ⊢
        obtain ⟨e0, e1⟩ := HCell.out X0 hX0
        refine wpAnyIn_ready (rs := [0, 6]) (by kernel_rfl) (by simp) (AllReadyIn.cons rfl (fun K hK => ?_) (AllReadyIn.cons rfl (fun K hK => ?_) AllReadyIn.nil))
        · go_simp
          refine hK _ _ ?_
          clear hK K
          refine wpAnyIn_take (i := 1) (v := ?v3) rfl rfl (by kernel_rfl) (by kernel_rfl) (by kernel_rfl) (fun _ _ _ h => (nomatch h.1)) ⟨Or.inl ⟨by rfl, ?hy3⟩, fun _ => rfl⟩ ?_
          case hy3 => (intro w; go_simp; try with_reducible rfl)
          go_simp
          refine wpAnyIn_take (i := 2) (v := ?v4) rfl rfl (by kernel_rfl) (by kernel_rfl) (by kernel_rfl) (fun _ _ _ h => (nomatch h.1)) ⟨Or.inl ⟨by rfl, ?hy4⟩, fun _ => rfl⟩ ?_
          case hy4 => (intro w; go_simp; try with_reducible rfl)
          go_simp
          refine wpAnyIn_ready (rs := [3, 6]) (by kernel_rfl) (by simp) (AllReadyIn.cons rfl (fun K hK => ?_) (AllReadyIn.cons rfl (fun K hK => ?_) AllReadyIn.nil))
          · go_simp
            refine hK _ _ ?_
            clear hK K
            refine wpAnyIn_ready (rs := [6]) (by kernel_rfl) (by simp) (AllReadyIn.cons rfl (fun K hK => ?_) AllReadyIn.nil)
            go_simp
            first | refine ⟨trivial, hdd _, (callsIn_wide.2 (HCl.out _ hX0)).mono ?_⟩ | refine ⟨hdd _, (callsIn_wide.2 (HCl.out _ hX0)).mono ?_⟩ | refine (callsIn_wide.2 (HCl.out _ hX0)).mono ?_ | refine ⟨trivial, (callsIn_wide.2 (HCl.out _ hX0)).mono ?_⟩
            rintro e X1 ⟨g1, c1, rfl, ho1, hb1⟩
            have HA1 : Hid (X1.ownsRow W.heap.size 65 3 (.slice (some ⟨g1, 0, none⟩) n c1) l.length (l.map cellsVS).flatten ∧ Below w9.heap.size w9 X1 ∧ w9.heap.size ≤ g1) := Lib.hid (cloVS_at hX0 ho1 hb1 hBw)
            clear ho1 hb1 e0 e1 hX0
            obtain ⟨e0, e1⟩ := HCell.out X1 HA1.out.2.1
            refine hK _ _ ?_
            clear hK K
            refine wpAnyIn_ready (rs := [7]) (by kernel_rfl) (by simp) (AllReadyIn.cons rfl (fun K hK => ?_) AllReadyIn.nil)
            go_simp
            first | refine ⟨trivial, hdd _, (callsIn_wide.2 (HPt.out _ _ _ HA1)).mono ?_⟩ | refine ⟨hdd _, (callsIn_wide.2 (HPt.out _ _ _ HA1)).mono ?_⟩ | refine (callsIn_wide.2 (HPt.out _ _ _ HA1)).mono ?_ | refine ⟨trivial, (callsIn_wide.2 (HPt.out _ _ _ HA1)).mono ?_⟩
            rintro e X8 ⟨rfl, hR8⟩
            have HR8 := Lib.hid hR8
            refine hK _ _ ?_
            clear hK K
            refine wpAnyIn_done (by kernel_rfl) ?_ _
            exact ⟨rfl, HR8.out⟩
          · go_simp
            first | refine ⟨trivial, hdd _, (callsIn_wide.2 (HCl.out _ hX0)).mono ?_⟩ | refine ⟨hdd _, (callsIn_wide.2 (HCl.out _ hX0)).mono ?_⟩ | refine (callsIn_wide.2 (HCl.out _ hX0)).mono ?_ | refine ⟨trivial, (callsIn_wide.2 (HCl.out _ hX0)).mono ?_⟩
            rintro e X1 ⟨g1, c1, rfl, ho1, hb1⟩
            have HA1 : Hid (X1.ownsRow W.heap.size 65 3 (.slice (some ⟨g1, 0, none⟩) n c1) l.length (l.map cellsVS).flatten ∧ Below w9.heap.size w9 X1 ∧ w9.heap.size ≤ g1) := Lib.hid (cloVS_at hX0 ho1 hb1 hBw)
            clear ho1 hb1 e0 e1 hX0
            obtain ⟨e0, e1⟩ := HCell.out X1 HA1.out.2.1
            refine hK _ _ ?_
            clear hK K
            refine wpAnyIn_ready (rs := [3]) (by kernel_rfl) (by simp) (AllReadyIn.cons rfl (fun K hK => ?_) AllReadyIn.nil)
            go_simp
            refine hK _ _ ?_
            clear hK K
            refine wpAnyIn_ready (rs := [7]) (by kernel_rfl) (by simp) (AllReadyIn.cons rfl (fun K hK => ?_) AllReadyIn.nil)
            go_simp
            first | refine ⟨trivial, hdd _, (callsIn_wide.2 (HPt.out _ _ _ HA1)).mono ?_⟩ | refine ⟨hdd _, (callsIn_wide.2 (HPt.out _ _ _ HA1)).mono ?_⟩ | refine (callsIn_wide.2 (HPt.out _ _ _ HA1)).mono ?_ | refine ⟨trivial, (callsIn_wide.2 (HPt.out _ _ _ HA1)).mono ?_⟩
            rintro e X8 ⟨rfl, hR8⟩
            have HR8 := Lib.hid hR8
            refine hK _ _ ?_
            clear hK K
            refine wpAnyIn_done (by kernel_rfl) ?_ _
            exact ⟨rfl, HR8.out⟩
        · go_simp
          first | refine ⟨trivial, hdd _, (callsIn_wide.2 (HCl.out _ hX0)).mono ?_⟩ | refine ⟨hdd _, (callsIn_wide.2 (HCl.out _ hX0)).mono ?_⟩ | refine (callsIn_wide.2 (HCl.out _ hX0)).mono ?_ | refine ⟨trivial, (callsIn_wide.2 (HCl.out _ hX0)).mono ?_⟩
          rintro e X1 ⟨g1, c1, rfl, ho1, hb1⟩
          have HA1 : Hid (X1.ownsRow W.heap.size 65 3 (.slice (some ⟨g1, 0, none⟩) n c1) l.length (l.map cellsVS).flatten ∧ Below w9.heap.size w9 X1 ∧ w9.heap.size ≤ g1) := Lib.hid (cloVS_at hX0 ho1 hb1 hBw)
          clear ho1 hb1 e0 e1 hX0
          obtain ⟨e0, e1⟩ := HCell.out X1 HA1.out.2.1
          refine hK _ _ ?_
          clear hK K
          refine wpAnyIn_ready (rs := [0]) (by kernel_rfl) (by simp) (AllReadyIn.cons rfl (fun K hK => ?_) AllReadyIn.nil)
          go_simp
          refine hK _ _ ?_
          clear hK K
          refine wpAnyIn_take (i := 1) (v := ?v5) rfl rfl (by kernel_rfl) (by kernel_rfl) (by kernel_rfl) (fun _ _ _ h => (nomatch h.1)) ⟨Or.inl ⟨by rfl, ?hy5⟩, fun _ => rfl⟩ ?_
          case hy5 => (intro w; go_simp; try with_reducible rfl)
          go_simp
          refine wpAnyIn_take (i := 2) (v := ?v6) rfl rfl (by kernel_rfl) (by kernel_rfl) (by kernel_rfl) (fun _ _ _ h => (nomatch h.1)) ⟨Or.inl ⟨by rfl, ?hy6⟩, fun _ => rfl⟩ ?_
          case hy6 => (intro w; go_simp; try with_reducible rfl)
          go_simp
          refine wpAnyIn_ready (rs := [3]) (by kernel_rfl) (by simp) (AllReadyIn.cons rfl (fun K hK => ?_) AllReadyIn.nil)
          go_simp
          refine hK _ _ ?_
          clear hK K
          refine wpAnyIn_ready (rs := [7]) (by kernel_rfl) (by simp) (AllReadyIn.cons rfl (fun K hK => ?_) AllReadyIn.nil)
          go_simp
          first | refine ⟨trivial, hdd _, (callsIn_wide.2 (HPt.out _ _ _ HA1)).mono ?_⟩ | refine ⟨hdd _, (callsIn_wide.2 (HPt.out _ _ _ HA1)).mono ?_⟩ | refine (callsIn_wide.2 (HPt.out _ _ _ HA1)).mono ?_ | refine ⟨trivial, (callsIn_wide.2 (HPt.out _ _ _ HA1)).mono ?_⟩
          rintro e X8 ⟨rfl, hR8⟩
          have HR8 := Lib.hid hR8
          refine hK _ _ ?_
          clear hK K
          refine wpAnyIn_done (by kernel_rfl) ?_ _
          exact ⟨rfl, HR8.out⟩
      · intro a7 W7 hR7
        obtain ⟨t', v', hs7, hbx7, hbl7, hnk7, hkt7⟩ := hR7
        obtain ⟨e1, e2, e3⟩ := HE.out
        refine ⟨hkt7, ⟨⟨A ++ [(key, (.slice (some ⟨bA, oA, none⟩) n cv, l))], Q', P ++ [(key, (v', l))], t', by rw [e1]; simp [HN.out], by rw [e2, HN.out]; simp [pairB], ?_, ?_⟩, hbx7, hbl7, hnk7⟩⟩
        · have := hs7.wide (k' := k + (A ++ [(key, ((Value.slice (some ⟨bA, oA, none⟩) n cv, l) : ChVS))]).length) (by simp; omega)
          exact this
        · rw [chs_app, e3, chs_app]
          rfl
end Go.Proofs.Ytdlacjdddjebgaa
namespace Go.Proofs.Ytdlacjdddjebgaa
open Go.RowKit
/-- No chain is empty. -/
def NE (C : ChC) : Prop := ∀ p ∈ C, p.2 ≠ []
theorem ne_nil : NE [] := fun _ h => by cases h
theorem ne_put {C : ChC} (h : NE C) (low : Int) (key : List UInt8) (v : VerVS) : NE (putC C low key v) := by
  unfold putC
  split
  · intro p hp
    rcases mem_insB hp with rfl | hp
    · simp
    · exact h p hp
  · exact h
theorem ne_pru {C : ChC} (h : NE C) (lw low : Int) : NE (pruG lw low C) := by
  unfold pruG
  split
  · intro p hp
    unfold pruCVS at hp
    obtain ⟨q, hq, e⟩ := List.mem_filterMap.1 hp
    split at e
    · cases e
    · next h0 =>
      simp only [Option.some.injEq] at e
      subst e
      intro e
      exact h0 (by rw [show keptVVS lw q.2 = [] from e]; rfl)
  · exact h
theorem StVS.base {W : World} {B B' s mb : Nat} {t : Tr} {S : ChsVS} {cnt low : Int} {k : Nat} (h : StVS W B s mb t S cnt low k) (hB : B' ≤ B) : StVS W B' s mb t S cnt low k :=
  ⟨h.box, h.mp, h.ws, h.pr, h.rs, fun x hx => row_mono (h.ch x hx) hB, h.ap, h.tr, h.hk, ⟨Nat.le_trans hB h.lo.1, Nat.le_trans hB h.lo.2⟩⟩
variable {X W : World} {B s mb b : Nat} {C D : ChC} {low dow : Int} {n ob : Nat} {cs : Array Value}
theorem jbcopy (h : JB X B W s mb b C low D dow n ob cs) (hn : n ≤ 10000) (hne : NE C) :
    Calls Try.prog 17 #[.pointer (some ⟨s, 0, none⟩)] W fun e W' => ∃ s' mb', e = .returned (.pointer (some ⟨s', 0, none⟩)) ∧ JD X B W' s mb C low n s' mb' b C low D dow n ob cs := by
  obtain ⟨vo, R, ⟨t, S, h1, h2, h3, h4, h5⟩, h6, h7, h8, h9⟩ := h
  refine (copyS_any h1 hn (fun x hx => hne (x.1, x.2.2) (by rw [← h2]; exact List.mem_map.2 ⟨x, hx, rfl⟩))).mono ?_
  rintro e W' ⟨s', mb', t', S', rfl, g1, g2, g3⟩
  refine ⟨s', mb', rfl, vo, R, ⟨t, S, t', S', h1.below g3, h2, h4, g1.base h3.size, g2.trans h2, h4, h3.trans (g3.mono h3.size), fun i hi hj => ?_, fun i hi => ⟨Nat.lt_of_lt_of_le (h5 i hi).1 g3.size, (h5 i hi).2, fun hj => ?_⟩⟩, h6.below g3, h7, by rw [g3.block ob (Array.getElem?_eq_some_iff.1 h8).1]; exact h8, h9⟩
  · have := (h1.blk i hi).2
    have := (g1.blk i hj).1
    omega
  · have := (h5 i hi).1
    have := (g1.blk i hj).1
    omega
theorem js_new (h : SG X (fun _ => False) W s mb [] 0 0) : JS X W.heap.size (W.alloc (.cells #[.slice none 0 0, .int .i64 0] 29)) s mb W.heap.size [] 0 [] 0 0 := by
  obtain ⟨t, S, h1, h2, h3, h4, _⟩ := h
  have hb := below_alloc W (.cells #[.slice none 0 0, .int .i64 0] 29)
  have hs : (W.alloc (.cells #[.slice none 0 0, .int .i64 0] 29)).heap.size = W.heap.size + 1 := by simp
  refine ⟨.slice none 0 0, [], ⟨t, S, h1.below hb, h2, h3.trans (hb.mono h3.size), h4, fun i hi => ?_⟩, ⟨heap_alloc_new W _, World.ownsRow_nil _ _ _ _, by simp, by unfold RisB; exact List.Pairwise.nil, Nat.le_refl _⟩, rfl⟩
  rcases hi with (rfl | e) | ⟨x, hx, _⟩
  · exact ⟨by omega, fun e => by have := (h1.blk _ e).2; omega⟩
  · cases e
  · cases hx
theorem scannedHB {K : Nat → Prop} {b : Nat} (h : SG X K W s mb C low n) (hn : n ≤ 10000) (lo hi : List UInt8) (at1 m : Int) (hm : 1 ≤ m) (hb : ScB W b (b + 1) (b + 2) (b + 3) s lo hi at1) :
    Calls Try.prog 30 #[.func (.func 52) #[] #[.pointer (some ⟨b, 0, none⟩), .pointer (some ⟨b + 1, 0, none⟩), .pointer (some ⟨b + 2, 0, none⟩), .pointer (some ⟨b + 3, 0, none⟩)], .int .i64 m] W (PrsP W ((scanH lo hi at1 C).take m.toNat)) := by
  obtain ⟨t, S, h1, h2, h3, h4, h5⟩ := h
  have hl : (scanH lo hi at1 C).length ≤ 1000000 := by
    have e1 := scanH_len lo hi at1 C
    have e2 : C.length = S.length := by rw [← h2]; simp [chsVS]
    have := h1.hk.2.1
    omega
  have hs : ∀ W', Below W.heap.size W W' → Seqs Try.prog 52 #[.pointer (some ⟨b, 0, none⟩), .pointer (some ⟨b + 1, 0, none⟩), .pointer (some ⟨b + 2, 0, none⟩), .pointer (some ⟨b + 3, 0, none⟩)] (fun p : PairT => #[str p.1, str p.2]) (fun W2 => Below W.heap.size W W2) (fun T => T = 55) (scanH lo hi at1 C) W' := fun W' hW' => by
    rw [← h2]
    cases hi with
    | nil => rw [← scanL_all]; exact scanAll_any h1 (by omega) hb hW' (by decide)
    | cons c q => rw [← scanL_hi]; exact scanHi_any h1 (by omega) hb hW' (by decide)
  exact v11pairs_any (Ok := fun W2 => Below W.heap.size W W2) m hm hl (enters_of Try.func52 (by kernel_rfl) rfl) (fun W' h => h) hs
/-- Both stores alike. -/
def JE (X : World) (B : Nat) (W : World) (s mb b : Nat) (C : ChC) (low : Int) (n ob : Nat) (cs : Array Value) : Prop := JB X B W s mb b C low C low n ob cs
theorem JB.bounds (h : JB X B W s mb b C low C low n ob cs) (hn : n ≤ 10000) : C.length ≤ 100000 ∧ totC C ≤ 100000 ∧ (∀ p ∈ C, RisT (timesVS p.2)) ∧ C.length ≤ n := by
  obtain ⟨vo, R, h1, h2, h3, h4, h5⟩ := h
  obtain ⟨g1, g2, g3⟩ := h1.ris
  obtain ⟨t, S, q1, q2, q3, q4, q5⟩ := h1
  exact ⟨by omega, by omega, g1, g3⟩
theorem JB.bel (h : JB X B W s mb b C low D dow n ob cs) : Below X.heap.size X W := by
  obtain ⟨vo, R, h1, h2, h3, h4, h5⟩ := h
  exact h1.bel
theorem JB.sg (h : JB X B W s mb b C low D dow n ob cs) : ∃ K, SG X K W s mb C low n := by
  obtain ⟨vo, R, h1, h2, h3, h4, h5⟩ := h
  exact ⟨_, h1⟩
theorem JB.wide {n' : Nat} (h : JB X B W s mb b C low D dow n ob cs) (hn : n ≤ n') : JB X B W s mb b C low D dow n' ob cs := by
  obtain ⟨vo, R, h1, h2, h3, h4, h5⟩ := h
  exact ⟨vo, R, h1.wide hn, h2, h3, h4, h5⟩
theorem JS.bel (h : JS X B W s mb b C low D dow n) : Below X.heap.size X W := by
  obtain ⟨vo, R, h1, h2, h3⟩ := h
  exact h1.bel
theorem JS.wide {n' : Nat} (h : JS X B W s mb b C low D dow n) (hn : n ≤ n') : JS X B W s mb b C low D dow n' := by
  obtain ⟨vo, R, h1, h2, h3⟩ := h
  exact ⟨vo, R, h1.wide hn, h2, h3⟩
end Go.Proofs.Ytdlacjdddjebgaa
namespace Go.Proofs.Ytdlacjdddjebgaa
open Go.RowKit
/-- At a round's head. -/
def PlI (X : World) (B : Nat) (W : World) (s mb b : Nat) (C : ChC) (low : Int) (k : Nat) : Prop := JS X B W s mb b C low C low k ∧ OkC C ∧ NE C
set_option maxRecDepth 100000 in
set_option maxHeartbeats 8000000 in
theorem plays11_walk (va : Value) (l : List Op11) (w : World) (ha : Rd11 w va l) (hsa : ∀ o ∈ l, o.ok) :
    Calls Try.prog 3 #[va] w fun e w' => e = .returned (.bool true) ∧ Below w.heap.size w w' := by
  have CF := Lib.hid v11first_any
  have CN := Lib.hid newG
  have CA : Hid (∀ W, Below w.heap.size w W → Calls Try.prog 10 #[va] W (FewP11 l W)) := Lib.hid (fun W h => few11_any va l W (ha.up h) hsa)
  have HRA := Lib.hid ha
  clear ha hsa
  go_enter Try.func3, Try.ntmps3
  go_wp2_with fail
  refine (CF.out _).mono ?_
  rintro e w1 ⟨rfl, hb1⟩
  have H1 := Lib.hid hb1
  clear hb1
  go_wp2_with fail
  refine (CN.out _).mono ?_
  rintro e w2 ⟨s, mb, rfl, h2⟩
  have H2 := Lib.hid h2
  have HB2 : Hid (Below w.heap.size w w2) := Lib.hid (H1.out.trans (H2.out.bel.mono H1.out.size))
  clear h2 CN
  obtain ⟨b, hb⟩ : ∃ b, b = w2.heap.size := ⟨_, rfl⟩
  obtain ⟨w3, hw3⟩ : ∃ w3, w3 = w2.alloc (.cells #[.slice none 0 0, .int .i64 0] 29) := ⟨_, rfl⟩
  have H3 : Hid (JS w1 b w3 s mb b [] 0 [] 0 0) := Lib.hid (by rw [hw3, hb]; exact js_new H2.out)
  have HX : Hid (w1.heap.size ≤ b) := Lib.hid (by rw [hb]; exact H2.out.bel.size)
  have HB3 : Hid (Below w.heap.size w w3) := Lib.hid (H1.out.trans (H3.out.bel.mono H1.out.size))
  go_wp2_with fail
  rw [← hw3, ← hb]
  clear hw3 hb H2 HB2
  refine (CA.out _ HB3.out).mono ?_
  rintro e w' ⟨ba, rfl, hla, rfl⟩
  have HLA := Lib.hid hla
  clear hla CA
  cases ba
  case false =>
    go_wp2_with fail
    refine (CF.out _).mono ?_
    rintro e w3 ⟨rfl, hb3⟩
    have HX := Lib.hid (HB3.out.trans (hb3.mono HB3.out.size))
    clear hb3
    go_wp2_with fail
    go_ret
    exact ⟨rfl, HX.out⟩
  have hla : l.length ≤ 300 := HLA.out rfl
  clear HLA
  obtain ⟨aa, ca, rfl, _⟩ := HRA.out.form
  go_wp2_with fail
  go_loopw [3, 5] (fun m i wr => ∃ (s mb k : Nat) (C : ChC) (low : Int), k ≤ l.length ∧ m = .pointer (some ⟨s, 0, none⟩) ∧ i = .int .i64 (k : Int) ∧ Hid (PlI w1 b wr s mb b C low k)) (fun _ i _ => l.length - (intOf i).toNat)
  case atStart => exact ⟨s, mb, 0, [], 0, Nat.zero_le _, rfl, rfl, Lib.hid ⟨H3.out, okC_nil, ne_nil⟩⟩
  case round =>
    clear H3
    obtain ⟨s, mb, k, C, low, hk, rfl, rfl, HG⟩ := hrel
    by_cases hlt : k < l.length
    · have g3 : decide ((k : Int) < (l.length : Int)) = true := decide_eq_true (by omega)
      have g3' : (k : Int) < (l.length : Int) := by omega
      have g4 : (0 : Int) ≤ (k : Int) := by omega
      have hW : Below w.heap.size w wr := H1.out.trans (HG.out.1.bel.mono H1.out.size)
      obtain ⟨bA, oA, rfl, c0, c1, c2, c3, c4⟩ := (HRA.out.up hW).get hlt
      obtain ⟨o, ho⟩ : ∃ o, o = l[k] := ⟨_, rfl⟩
      rw [← ho] at c0 c1 c2 c3 c4
      obtain ⟨kd, oa, ky, y, hi⟩ := o
      dsimp only at c0 c1 c2 c3 c4
      clear ho hW
      go_upto_block 2 with fail
      obtain ⟨ob, hob⟩ : ∃ ob, ob = wr.heap.size := ⟨_, rfl⟩
      obtain ⟨w4, hw4⟩ : ∃ w4, w4 = wr.alloc (.cells #[.int .i64 kd, .int .i64 oa, str ky, str y, str hi] 32) := ⟨_, rfl⟩
      rw [← hw4, ← hob]
      have HB : Hid (JB w1 b w4 s mb b C low C low k ob #[.int .i64 kd, .int .i64 oa, str ky, str y, str hi]) := Lib.hid (by rw [hw4, hob]; exact HG.out.1.box rfl)
      have HC : Hid (OkC C ∧ NE C) := Lib.hid HG.out.2
      clear hw4 hob HG c0 c1 c2 c3 c4
      go_cut [3, 7, 8] from 42 to 107 (fun m ok _ wc => ∃ (s' mb' : Nat) (C' : ChC) (low' : Int), m = .pointer (some ⟨s', 0, none⟩) ∧ ok = .bool true ∧ Hid (JB w1 b wc s' mb' b C' low' C' low' (k + 1) ob #[.int .i64 kd, .int .i64 oa, str ky, str y, str hi] ∧ OkC C' ∧ NE C'))
      case first =>
-- FIRST
        have hkl : k ≤ 300 := by omega
        have HBD := Lib.hid (HB.out.bounds (by omega))
        by_cases h0 : kd = 0
        · subst h0
          obtain ⟨Z, hZ⟩ : ∃ Z, Z = addCVS (verC ky C) low (oa, y, false) := ⟨_, rfl⟩
          have CP1 : Hid (∀ W D' dow', Hid (JB w1 b W s mb b C low D' dow' k ob #[.int .i64 0, .int .i64 oa, str ky, str y, str hi]) → Calls Try.prog 11 #[.pointer (some ⟨s, 0, none⟩), .int .i64 oa, str ky, str y] W fun e W' => e = .returned (.int .i64 Z) ∧ Hid (JB w1 b W' s mb b (putC C low ky (oa, y, false)) low D' dow' (k + 1) ob #[.int .i64 0, .int .i64 oa, str ky, str y, str hi])) :=
            Lib.hid (fun W D' dow' H => (jbput H.out (by omega) ky oa y).mono (by rintro e W' ⟨rfl, h⟩; exact ⟨by rw [hZ], Lib.hid h⟩))
          have CP2 : Hid (∀ W C' low' n', Hid (JB w1 b W s mb b C' low' C low n' ob #[.int .i64 0, .int .i64 oa, str ky, str y, str hi]) → Calls Try.prog 12 #[.pointer (some ⟨b, 0, none⟩), .int .i64 oa, str ky, str y] W fun e W' => e = .returned (.int .i64 Z) ∧ Hid (JB w1 b W' s mb b C' low' (putC C low ky (oa, y, false)) low n' ob #[.int .i64 0, .int .i64 oa, str ky, str y, str hi])) :=
            Lib.hid (fun W C' low' n' H => (jbrput H.out HX.out HBD.out.1 HBD.out.2.1 ky oa y).mono (by rintro e W' ⟨rfl, h⟩; exact ⟨by rw [hZ], Lib.hid h⟩))
          have HR : Hid (OkC (putC C low ky (oa, y, false)) ∧ NE (putC C low ky (oa, y, false))) := Lib.hid ⟨okC_put HC.out.1 low ky _ (fun h => (by cases h)), ne_put HC.out.2 low ky _⟩
          have HB0 := HB
          clear hZ
          go_wp2_with fail
          have HB : Hid (JB w1 b w4.drew s mb b C low C low k ob #[.int .i64 0, .int .i64 oa, str ky, str y, str hi]) := Lib.hid (HB0.out.below (Below.drewsN (Below.refl _ _) 1))
          clear HB0
          go_region_held3 (fun w' => w'.cell? ⟨ob, 1, none⟩ = some (.int .i64 oa) ∧ w'.cell? ⟨ob, 2, none⟩ = some (str ky) ∧ w'.cell? ⟨ob, 3, none⟩ = some (str y))
            (first
              | (exact ⟨HB.out.cell 1, HB.out.cell 2, HB.out.cell 3⟩)
              | go_keep)
            ((first
              | (go_at_call 11; refine (CP1.out _ _ _ HB).mono ?_; rintro e w5 ⟨rfl, HB⟩)
              | (go_at_call 12; refine (CP2.out _ _ _ _ HB).mono ?_; rintro e w5 ⟨rfl, HB⟩)
              | fail))
          all_goals
            go_wp2_with fail
            go_meet
            case rel => exact ⟨s, mb, _, low, rfl, by simp, Lib.hid ⟨HB.out, HR.out⟩⟩
        by_cases h1 : kd = 1
        · subst h1
          obtain ⟨Z, hZ⟩ : ∃ Z, Z = addCVS (verC ky C) low (oa, [], true) := ⟨_, rfl⟩
          have CP1 : Hid (∀ W D' dow', Hid (JB w1 b W s mb b C low D' dow' k ob #[.int .i64 1, .int .i64 oa, str ky, str y, str hi]) → Calls Try.prog 13 #[.pointer (some ⟨s, 0, none⟩), .int .i64 oa, str ky] W fun e W' => e = .returned (.int .i64 Z) ∧ Hid (JB w1 b W' s mb b (putC C low ky (oa, [], true)) low D' dow' (k + 1) ob #[.int .i64 1, .int .i64 oa, str ky, str y, str hi])) :=
            Lib.hid (fun W D' dow' H => (jbkill H.out (by omega) ky oa).mono (by rintro e W' ⟨rfl, h⟩; exact ⟨by rw [hZ], Lib.hid h⟩))
          have CP2 : Hid (∀ W C' low' n', Hid (JB w1 b W s mb b C' low' C low n' ob #[.int .i64 1, .int .i64 oa, str ky, str y, str hi]) → Calls Try.prog 14 #[.pointer (some ⟨b, 0, none⟩), .int .i64 oa, str ky] W fun e W' => e = .returned (.int .i64 Z) ∧ Hid (JB w1 b W' s mb b C' low' (putC C low ky (oa, [], true)) low n' ob #[.int .i64 1, .int .i64 oa, str ky, str y, str hi])) :=
            Lib.hid (fun W C' low' n' H => (jbrkill H.out HX.out HBD.out.1 HBD.out.2.1 ky oa).mono (by rintro e W' ⟨rfl, h⟩; exact ⟨by rw [hZ], Lib.hid h⟩))
          have HR : Hid (OkC (putC C low ky (oa, [], true)) ∧ NE (putC C low ky (oa, [], true))) := Lib.hid ⟨okC_put HC.out.1 low ky _ (fun h => rfl), ne_put HC.out.2 low ky _⟩
          have HB0 := HB
          clear hZ
          go_wp2_with fail
          have HB : Hid (JB w1 b w4.drew s mb b C low C low k ob #[.int .i64 1, .int .i64 oa, str ky, str y, str hi]) := Lib.hid (HB0.out.below (Below.drewsN (Below.refl _ _) 1))
          clear HB0
          go_region_held3 (fun w' => w'.cell? ⟨ob, 1, none⟩ = some (.int .i64 oa) ∧ w'.cell? ⟨ob, 2, none⟩ = some (str ky))
            (first
              | (exact ⟨HB.out.cell 1, HB.out.cell 2⟩)
              | go_keep)
            ((first
              | (go_at_call 13; refine (CP1.out _ _ _ HB).mono ?_; rintro e w5 ⟨rfl, HB⟩)
              | (go_at_call 14; refine (CP2.out _ _ _ _ HB).mono ?_; rintro e w5 ⟨rfl, HB⟩)
              | fail))
          all_goals
            go_wp2_with fail
            go_meet
            case rel => exact ⟨s, mb, _, low, rfl, by simp, Lib.hid ⟨HB.out, HR.out⟩⟩
        by_cases h2 : kd = 2
        · subst h2
          obtain ⟨Z, hZ⟩ : ∃ Z : Int, Z = (pruN oa low C : Int) := ⟨_, rfl⟩
          have CP1 : Hid (∀ W D' dow', Hid (JB w1 b W s mb b C low D' dow' k ob #[.int .i64 2, .int .i64 oa, str ky, str y, str hi]) → Calls Try.prog 15 #[.pointer (some ⟨s, 0, none⟩), .int .i64 oa] W fun e W' => e = .returned (.int .i64 Z) ∧ Hid (JB w1 b W' s mb b (pruG oa low C) (pruLow oa low) D' dow' k ob #[.int .i64 2, .int .i64 oa, str ky, str y, str hi])) :=
            Lib.hid (fun W D' dow' H => (jbprune H.out (by omega) oa).mono (by rintro e W' ⟨rfl, h⟩; exact ⟨by rw [hZ], Lib.hid h⟩))
          have CP2 : Hid (∀ W C' low' n', Hid (JB w1 b W s mb b C' low' C low n' ob #[.int .i64 2, .int .i64 oa, str ky, str y, str hi]) → Calls Try.prog 16 #[.pointer (some ⟨b, 0, none⟩), .int .i64 oa] W fun e W' => e = .returned (.int .i64 Z) ∧ Hid (JB w1 b W' s mb b C' low' (pruG oa low C) (pruLow oa low) n' ob #[.int .i64 2, .int .i64 oa, str ky, str y, str hi])) :=
            Lib.hid (fun W C' low' n' H => (jbrprune H.out HX.out HBD.out.1 HBD.out.2.1 HBD.out.2.2.1 oa).mono (by rintro e W' ⟨rfl, h⟩; exact ⟨by rw [hZ], Lib.hid h⟩))
          have HR : Hid (OkC (pruG oa low C) ∧ NE (pruG oa low C)) := Lib.hid ⟨okC_pru HC.out.1 oa low, ne_pru HC.out.2 oa low⟩
          have HB0 := HB
          clear hZ
          go_wp2_with fail
          have HB : Hid (JB w1 b w4.drew s mb b C low C low k ob #[.int .i64 2, .int .i64 oa, str ky, str y, str hi]) := Lib.hid (HB0.out.below (Below.drewsN (Below.refl _ _) 1))
          clear HB0
          go_region_held3 (fun w' => w'.cell? ⟨ob, 1, none⟩ = some (.int .i64 oa))
            (first
              | (exact HB.out.cell 1)
              | go_keep)
            ((first
              | (go_at_call 15; refine (CP1.out _ _ _ HB).mono ?_; rintro e w5 ⟨rfl, HB⟩)
              | (go_at_call 16; refine (CP2.out _ _ _ _ HB).mono ?_; rintro e w5 ⟨rfl, HB⟩)
              | fail))
          all_goals
            go_wp2_with fail
            go_meet
            case rel => exact ⟨s, mb, _, _, rfl, by simp, Lib.hid ⟨HB.out.wide (by omega), HR.out⟩⟩
        by_cases h3 : kd = 3
        · subst h3
          have CC := Lib.hid (jbcopy HB.out (by omega) HC.out.2)
          have q0 : w4.cell? ⟨ob, 0, none⟩ = some (.int .i64 3) := HB.out.cell 0
          clear HB
          go_wp2_with fail
          refine CC.out.mono ?_
          rintro e w5 ⟨s', mb', rfl, h5⟩
          have HD := Lib.hid h5
          obtain ⟨lt, hlt2⟩ : ∃ lt, lt = lastTVS (verC ky C) := ⟨_, rfl⟩
          have CL : Hid (∀ W, Hid (JD w1 b W s mb C low k s' mb' b C low C low k ob #[.int .i64 3, .int .i64 oa, str ky, str y, str hi]) → Calls Try.prog 18 #[.pointer (some ⟨s, 0, none⟩), str ky] W fun e W' => e = .returned (.int .i64 lt) ∧ Hid (JD w1 b W' s mb C low k s' mb' b C low C low k ob #[.int .i64 3, .int .i64 oa, str ky, str y, str hi])) :=
            Lib.hid (fun W H => (jlast H.out.old.js (by omega) ky).mono (by rintro e W' ⟨rfl, rfl⟩; exact ⟨by rw [hlt2], H⟩))
          have CW : Hid (∀ W, Hid (JD w1 b W s mb C low k s' mb' b C low C low k ob #[.int .i64 3, .int .i64 oa, str ky, str y, str hi]) → Calls Try.prog 19 #[.pointer (some ⟨s, 0, none⟩)] W fun e W' => e = .returned (.int .i64 low) ∧ Hid (JD w1 b W' s mb C low k s' mb' b C low C low k ob #[.int .i64 3, .int .i64 oa, str ky, str y, str hi])) :=
            Lib.hid (fun W H => (jlow H.out.old.js).mono (by rintro e W' ⟨rfl, rfl⟩; exact ⟨rfl, H⟩))
          have CP : Hid (∀ W at1, Hid (JD w1 b W s mb C low k s' mb' b C low C low k ob #[.int .i64 3, .int .i64 oa, str ky, str y, str hi]) → Calls Try.prog 11 #[.pointer (some ⟨s, 0, none⟩), .int .i64 at1, str ky, str [115, 112, 111, 105, 108, 116]] W fun e W' => ∃ z C0, e = .returned (.int .i64 z) ∧ Hid (JD w1 b W' s mb C0 low (k + 1) s' mb' b C low C low k ob #[.int .i64 3, .int .i64 oa, str ky, str y, str hi])) :=
            Lib.hid (fun W at1 H => (jdput H.out (by omega) ky at1 _).mono (by rintro e W' ⟨⟨z, rfl⟩, h⟩; exact ⟨z, _, rfl, Lib.hid h⟩))
          have CU : Hid (∀ W C0, Hid (JD w1 b W s mb C0 low (k + 1) s' mb' b C low C low k ob #[.int .i64 3, .int .i64 oa, str ky, str y, str hi]) → Calls Try.prog 15 #[.pointer (some ⟨s, 0, none⟩), .int .i64 549755813888] W fun e W' => ∃ z, e = .returned (.int .i64 z) ∧ Hid (JB w1 b W' s' mb' b C low C low k ob #[.int .i64 3, .int .i64 oa, str ky, str y, str hi])) :=
            Lib.hid (fun W C0 H => (jdprune H.out (by omega) 549755813888).mono (by rintro e W' ⟨⟨z, rfl⟩, h⟩; exact ⟨z, rfl, Lib.hid h.jb⟩))
          clear h5 CC q0 hlt2
          have hsplit : (lt < low ∧ low < 0) ∨ (lt < low ∧ ¬ low < 0) ∨ (¬ lt < low ∧ lt < 0) ∨ (¬ lt < low ∧ ¬ lt < 0) := by omega
          rcases hsplit with ⟨m1, m2⟩ | ⟨m1, m2⟩ | ⟨m1, m2⟩ | ⟨m1, m2⟩
          all_goals
            go_wp2_with fail
            have HB : Hid (JD w1 b w5.drew s mb C low k s' mb' b C low C low k ob #[.int .i64 3, .int .i64 oa, str ky, str y, str hi]) := Lib.hid (HD.out.below (Below.drewsN (Below.refl _ _) 1))
            clear HD
            go_region_held3 (fun w' => w'.cell? ⟨ob, 2, none⟩ = some (str ky))
              (first
                | (exact HB.out.jb.cell 2)
                | go_keep)
              ((first
                | (go_at_call 18; refine (CL.out _ HB).mono ?_; rintro e w6 ⟨rfl, HB⟩)
                | (go_at_call 19; refine (CW.out _ HB).mono ?_; rintro e w6 ⟨rfl, HB⟩)
                | (go_at_call 11; refine (CP.out _ _ HB).mono ?_; rintro e w6 ⟨z, C0, rfl, HB⟩)
                | fail))
            all_goals
              go_wp2_with fail
              refine (CU.out _ _ HB).mono ?_
              rintro e w7 ⟨z7, rfl, HB⟩
              go_wp2_with fail
              go_meet
              case rel => exact ⟨s', mb', C, low, rfl, by simp, Lib.hid ⟨HB.out.wide (by omega), HC.out⟩⟩
        · have e0 : (kd == 0) = false := beq_eq_false_iff_ne.2 h0
          have e1 : (kd == 1) = false := beq_eq_false_iff_ne.2 h1
          have e2 : (kd == 2) = false := beq_eq_false_iff_ne.2 h2
          have e3 : (kd == 3) = false := beq_eq_false_iff_ne.2 h3
          have q0 : w4.cell? ⟨ob, 0, none⟩ = some (.int .i64 kd) := HB.out.cell 0
          go_wp2_with fail
          go_meet
          case rel => exact ⟨s, mb, C, low, rfl, by simp, Lib.hid ⟨HB.out.wide (by omega), HC.out⟩⟩
      case rest =>
        obtain ⟨s, mb, C, low, rfl, rfl, HH⟩ := hcut
        clear HB HC
        obtain ⟨k1, hk1⟩ : ∃ k1, k1 = k + 1 := ⟨_, rfl⟩
        rw [← hk1] at HH
        have hk2 : k1 ≤ 301 := by omega
        have HK1 := Lib.hid hk1
        clear hk1
        have HB : Hid (JB w1 b wc s mb b C low C low k1 ob #[.int .i64 kd, .int .i64 oa, str ky, str y, str hi]) := Lib.hid HH.out.1
        have HC : Hid (OkC C ∧ NE C) := Lib.hid HH.out.2
        clear HH
        have HBD := Lib.hid (HB.out.bounds (by omega))
        obtain ⟨L, hL⟩ : ∃ L, L = verC ky C := ⟨_, rfl⟩
        obtain ⟨n, hn⟩ : ∃ n, n = L.length := ⟨_, rfl⟩
        obtain ⟨TC, hTC⟩ : ∃ TC : Int, TC = (totC C : Int) := ⟨_, rfl⟩
        obtain ⟨LT, hLT⟩ : ∃ LT : Int, LT = lastTVS L := ⟨_, rfl⟩
        have HL0 : Hid (L = verC ky C ∧ n = L.length ∧ L.length ≤ 1000000) := Lib.hid ⟨hL, hn, by
          rw [hL]
          unfold verC
          cases e : getB ky C with
          | none => simp
          | some z =>
            obtain ⟨p, hp, rfl⟩ := mem_getB e
            have := tot_at hp
            have := HBD.out.2.1
            simp
            omega⟩
        have n1 : (TC != TC) = false := bne_self_eq_false _
        have n2 : (low != low) = false := bne_self_eq_false _
        have n3 : (LT != LT) = false := bne_self_eq_false _
        have C1 : Hid (∀ W, Hid (JB w1 b W s mb b C low C low k1 ob #[.int .i64 kd, .int .i64 oa, str ky, str y, str hi]) → Calls Try.prog 20 #[.pointer (some ⟨s, 0, none⟩)] W fun e W' => e = .returned (.int .i64 TC) ∧ Hid (JB w1 b W' s mb b C low C low k1 ob #[.int .i64 kd, .int .i64 oa, str ky, str y, str hi])) := Lib.hid (fun W H => (jcount H.out.js).mono (by rintro e W' ⟨rfl, rfl⟩; exact ⟨by rw [hTC], H⟩))
        have C2 : Hid (∀ W, Hid (JB w1 b W s mb b C low C low k1 ob #[.int .i64 kd, .int .i64 oa, str ky, str y, str hi]) → Calls Try.prog 21 #[.pointer (some ⟨b, 0, none⟩)] W fun e W' => e = .returned (.int .i64 TC) ∧ Hid (JB w1 b W' s mb b C low C low k1 ob #[.int .i64 kd, .int .i64 oa, str ky, str y, str hi])) := Lib.hid (fun W H => (jrcount H.out.js HBD.out.1 HBD.out.2.1).mono (by rintro e W' ⟨rfl, rfl⟩; exact ⟨by rw [hTC], H⟩))
        have C3 : Hid (∀ W, Hid (JB w1 b W s mb b C low C low k1 ob #[.int .i64 kd, .int .i64 oa, str ky, str y, str hi]) → Calls Try.prog 19 #[.pointer (some ⟨s, 0, none⟩)] W fun e W' => e = .returned (.int .i64 low) ∧ Hid (JB w1 b W' s mb b C low C low k1 ob #[.int .i64 kd, .int .i64 oa, str ky, str y, str hi])) := Lib.hid (fun W H => (jlow H.out.js).mono (by rintro e W' ⟨rfl, rfl⟩; exact ⟨rfl, H⟩))
        have C4 : Hid (∀ W, Hid (JB w1 b W s mb b C low C low k1 ob #[.int .i64 kd, .int .i64 oa, str ky, str y, str hi]) → Calls Try.prog 22 #[.pointer (some ⟨b, 0, none⟩)] W fun e W' => e = .returned (.int .i64 low) ∧ Hid (JB w1 b W' s mb b C low C low k1 ob #[.int .i64 kd, .int .i64 oa, str ky, str y, str hi])) := Lib.hid (fun W H => (jrlow H.out.js).mono (by rintro e W' ⟨rfl, rfl⟩; exact ⟨rfl, H⟩))
        have C5 : Hid (∀ W, Hid (JB w1 b W s mb b C low C low k1 ob #[.int .i64 kd, .int .i64 oa, str ky, str y, str hi]) → Calls Try.prog 18 #[.pointer (some ⟨s, 0, none⟩), str ky] W fun e W' => e = .returned (.int .i64 LT) ∧ Hid (JB w1 b W' s mb b C low C low k1 ob #[.int .i64 kd, .int .i64 oa, str ky, str y, str hi])) := Lib.hid (fun W H => (jlast H.out.js (by omega) ky).mono (by rintro e W' ⟨rfl, rfl⟩; exact ⟨by rw [hLT, hL], H⟩))
        have C6 : Hid (∀ W, Hid (JB w1 b W s mb b C low C low k1 ob #[.int .i64 kd, .int .i64 oa, str ky, str y, str hi]) → Calls Try.prog 23 #[.pointer (some ⟨b, 0, none⟩), str ky] W fun e W' => e = .returned (.int .i64 LT) ∧ Hid (JB w1 b W' s mb b C low C low k1 ob #[.int .i64 kd, .int .i64 oa, str ky, str y, str hi])) := Lib.hid (fun W H => (jrlast H.out.js HBD.out.1 HBD.out.2.1 ky).mono (by rintro e W' ⟨rfl, hb⟩; exact ⟨by rw [hLT, hL], Lib.hid (H.out.below hb)⟩))
        have C7 : Hid (∀ W, Hid (JB w1 b W s mb b C low C low k1 ob #[.int .i64 kd, .int .i64 oa, str ky, str y, str hi]) → Calls Try.prog 25 #[.pointer (some ⟨s, 0, none⟩), str ky] W fun e W' => ∃ a c, e = .returned (.slice a n c) ∧ Hid (JB w1 b W' s mb b C low C low k1 ob #[.int .i64 kd, .int .i64 oa, str ky, str y, str hi] ∧ RdVS W' (.slice a n c) L)) := Lib.hid (fun W H => (jchain H.out.js (by omega) ky).mono (by
          rintro e W' ⟨v, rfl, h1, h2⟩
          rw [← HL0.out.1] at h1
          obtain ⟨a, c, rfl, _⟩ := h1.form
          rw [← HL0.out.2.1] at h1 ⊢
          exact ⟨a, c, rfl, Lib.hid ⟨H.out.below h2, h1⟩⟩))
        have C8 : Hid (∀ W a c, Hid (JB w1 b W s mb b C low C low k1 ob #[.int .i64 kd, .int .i64 oa, str ky, str y, str hi] ∧ RdVS W (.slice a n c) L) → Calls Try.prog 26 #[.pointer (some ⟨b, 0, none⟩), str ky] W fun e W' => ∃ a2 c2, e = .returned (.slice a2 n c2) ∧ Hid (JB w1 b W' s mb b C low C low k1 ob #[.int .i64 kd, .int .i64 oa, str ky, str y, str hi] ∧ RdVS W' (.slice a n c) L ∧ RdVS W' (.slice a2 n c2) L)) := Lib.hid (fun W a c H => (jrchain H.out.1.js HBD.out.1 HBD.out.2.1 ky).mono (by
          rintro e W' ⟨v, rfl, h1, h2⟩
          rw [← HL0.out.1] at h1
          obtain ⟨a2, c2, rfl, _⟩ := h1.form
          rw [← HL0.out.2.1] at h1 ⊢
          exact ⟨a2, c2, rfl, Lib.hid ⟨H.out.1.below h2, H.out.2.up h2, h1⟩⟩))
        have C9 : Hid (∀ W a c a2 c2, Hid (JB w1 b W s mb b C low C low k1 ob #[.int .i64 kd, .int .i64 oa, str ky, str y, str hi] ∧ RdVS W (.slice a n c) L ∧ RdVS W (.slice a2 n c2) L) → Calls Try.prog 24 #[.slice a n c, .slice a2 n c2] W fun e W' => e = .returned (.bool true) ∧ Hid (JB w1 b W' s mb b C low C low k1 ob #[.int .i64 kd, .int .i64 oa, str ky, str y, str hi])) := Lib.hid (fun W a c a2 c2 H => (chain_same _ _ L W H.out.2.1 H.out.2.2 HL0.out.2.2).mono (by
          rintro e W' ⟨rfl, hb⟩
          exact ⟨rfl, Lib.hid (H.out.1.below hb)⟩))
        clear hL hn hTC hLT
        have HB0 := HB
        clear HB
        go_wp2_with fail
        have HB : Hid (JB w1 b wc.drew s mb b C low C low k1 ob #[.int .i64 kd, .int .i64 oa, str ky, str y, str hi]) := Lib.hid (HB0.out.below (Below.drewsN (Below.refl _ _) 1))
        clear HB0
        go_region_held3 (fun w' => w'.cell? ⟨ob, 2, none⟩ = some (str ky))
          (first
            | (exact HB.out.cell 2)
            | (exact HB.out.1.cell 2)
            | go_keep)
          ((first
            | (go_at_call 20; refine (C1.out _ HB).mono ?_; rintro e w6 ⟨rfl, HB⟩)
            | (go_at_call 21; refine (C2.out _ HB).mono ?_; rintro e w6 ⟨rfl, HB⟩)
            | (go_at_call 19; refine (C3.out _ HB).mono ?_; rintro e w6 ⟨rfl, HB⟩)
            | (go_at_call 22; refine (C4.out _ HB).mono ?_; rintro e w6 ⟨rfl, HB⟩)
            | (go_at_call 18; refine (C5.out _ HB).mono ?_; rintro e w6 ⟨rfl, HB⟩)
            | (go_at_call 23; refine (C6.out _ HB).mono ?_; rintro e w6 ⟨rfl, HB⟩)
            | (go_at_call 25; refine (C7.out _ HB).mono ?_; rintro e w6 ⟨a1, c1, rfl, HB⟩)
            | (go_at_call 26; refine (C8.out _ _ _ HB).mono ?_; rintro e w6 ⟨a2, c2, rfl, HB⟩)
            | (go_at_call 24; refine (C9.out _ _ _ _ _ HB).mono ?_; rintro e w6 ⟨rfl, HB⟩)
            | fail))
        clear C1 C2 C3 C4 C5 C6 C7 C8 C9
        obtain ⟨r, hr⟩ : ∃ r, r = seenEVS (seenVS (verC ky C) oa) := ⟨_, rfl⟩
        have CG := Lib.hid (jget HB.out.js (by omega) ky oa)
        have q2 : w6.cell? ⟨ob, 2, none⟩ = some (str ky) := HB.out.cell 2
        have q1 : w6.cell? ⟨ob, 1, none⟩ = some (.int .i64 oa) := HB.out.cell 1
        obtain ⟨gv, gb, hg⟩ : ∃ gv gb, seenEVS (seenVS (verC ky C) oa) = .returned (.tuple #[str gv, .bool gb]) := ⟨_, _, rfl⟩
        rw [hg] at CG
        clear hr
        go_wp2_with fail
        refine CG.out.mono ?_
        rintro e w7 ⟨rfl, hb7⟩
        have HB7 : Hid (JB w1 b w7 s mb b C low C low k1 ob #[.int .i64 kd, .int .i64 oa, str ky, str y, str hi]) := Lib.hid (HB.out.below hb7)
        have CG2 := Lib.hid (jrget HB7.out.js HBD.out.1 HBD.out.2.1 HBD.out.2.2.1 HC.out.1 ky oa)
        rw [hg] at CG2
        clear HB CG q1 q2 hb7 hg
        have q2 : w7.cell? ⟨ob, 2, none⟩ = some (str ky) := HB7.out.cell 2
        have q1 : w7.cell? ⟨ob, 1, none⟩ = some (.int .i64 oa) := HB7.out.cell 1
        go_wp2_with fail
        refine CG2.out.mono ?_
        rintro e w8 ⟨rfl, hb8⟩
        have HB8 : Hid (JB w1 b w8 s mb b C low C low k1 ob #[.int .i64 kd, .int .i64 oa, str ky, str y, str hi]) := Lib.hid (HB7.out.below hb8)
        clear HB7 CG2 q1 q2 hb8
        have n4 : (gv != gv) = false := bne_self_eq_false _
        have n5 : (gb != gb) = false := bne_self_eq_false _
        have CSa : Hid (∀ W, Hid (JB w1 b W s mb b C low C low k1 ob #[.int .i64 kd, .int .i64 oa, str ky, str y, str hi]) → Calls Try.prog 31 #[.pointer (some ⟨s, 0, none⟩), str ky, str hi, .int .i64 oa] W fun e W' => ∃ q, e = .returned (.func (.func 52) #[] #[.pointer (some ⟨q, 0, none⟩), .pointer (some ⟨q + 1, 0, none⟩), .pointer (some ⟨q + 2, 0, none⟩), .pointer (some ⟨q + 3, 0, none⟩)]) ∧ Hid (JB w1 b W' s mb b C low C low k1 ob #[.int .i64 kd, .int .i64 oa, str ky, str y, str hi] ∧ ScB W' q (q + 1) (q + 2) (q + 3) s ky hi oa)) := Lib.hid (fun W H => (scan_any W s ky hi oa).mono (by
          rintro e W' ⟨rfl, rfl⟩
          have h := scanW_box W s ky hi oa
          exact ⟨_, rfl, Lib.hid ⟨H.out.below h.2, h.1⟩⟩))
        have CSb : Hid (∀ W, Hid (JB w1 b W s mb b C low C low k1 ob #[.int .i64 kd, .int .i64 oa, str ky, str y, str hi] ∧ True) → Calls Try.prog 31 #[.pointer (some ⟨s, 0, none⟩), str [], str [], .int .i64 oa] W fun e W' => ∃ q, e = .returned (.func (.func 52) #[] #[.pointer (some ⟨q, 0, none⟩), .pointer (some ⟨q + 1, 0, none⟩), .pointer (some ⟨q + 2, 0, none⟩), .pointer (some ⟨q + 3, 0, none⟩)]) ∧ Hid (JB w1 b W' s mb b C low C low k1 ob #[.int .i64 kd, .int .i64 oa, str ky, str y, str hi] ∧ ScB W' q (q + 1) (q + 2) (q + 3) s [] [] oa)) := Lib.hid (fun W H => (scan_any W s [] [] oa).mono (by
          rintro e W' ⟨rfl, rfl⟩
          have h := scanW_box W s [] [] oa
          exact ⟨_, rfl, Lib.hid ⟨H.out.1.below h.2, h.1⟩⟩))
        have CQ : Hid (∀ W q zlo zhi, Hid (JB w1 b W s mb b C low C low k1 ob #[.int .i64 kd, .int .i64 oa, str ky, str y, str hi] ∧ ScB W q (q + 1) (q + 2) (q + 3) s zlo zhi oa) → Calls Try.prog 30 #[.func (.func 52) #[] #[.pointer (some ⟨q, 0, none⟩), .pointer (some ⟨q + 1, 0, none⟩), .pointer (some ⟨q + 2, 0, none⟩), .pointer (some ⟨q + 3, 0, none⟩)], .int .i64 1048576] W fun e W' => ∃ a c m L, e = .returned (.slice a m c) ∧ Hid (JB w1 b W' s mb b C low C low k1 ob #[.int .i64 kd, .int .i64 oa, str ky, str y, str hi] ∧ RdP W' (.slice a m c) L ∧ m = L.length ∧ L = scanH zlo zhi oa C)) := Lib.hid (fun W q zlo zhi H => by
          obtain ⟨K, hK⟩ := H.out.1.sg
          refine (scannedHB hK (by omega) zlo zhi oa 1048576 (by decide) H.out.2).mono ?_
          intro e W' h
          rw [show (scanH zlo zhi oa C).take (1048576 : Int).toNat = scanH zlo zhi oa C from List.take_of_length_le (by have := scanH_len zlo zhi oa C; have := HBD.out.2.2.2; show _ ≤ 1048576; omega)] at h
          obtain ⟨a, c, rfl, h1, h2⟩ := prs_read h
          exact ⟨a, c, _, _, rfl, Lib.hid ⟨H.out.1.below h2, h1, rfl, rfl⟩⟩)
        have CR : Hid (∀ W a c m L zlo zhi, Hid (JB w1 b W s mb b C low C low k1 ob #[.int .i64 kd, .int .i64 oa, str ky, str y, str hi] ∧ RdP W (.slice a m c) L ∧ m = L.length ∧ L = scanH zlo zhi oa C) → Calls Try.prog 32 #[.pointer (some ⟨b, 0, none⟩), str zlo, str zhi, .int .i64 oa] W fun e W' => ∃ a2 c2, e = .returned (.slice a2 m c2) ∧ Hid (JB w1 b W' s mb b C low C low k1 ob #[.int .i64 kd, .int .i64 oa, str ky, str y, str hi] ∧ RdP W' (.slice a m c) L ∧ RdP W' (.slice a2 m c2) L)) := Lib.hid (fun W a c m L zlo zhi H => by
          refine (jrscan H.out.1.js HBD.out.1 HBD.out.2.1 HBD.out.2.2.1 HC.out.1 zlo zhi oa).mono ?_
          intro e W' h
          rw [← H.out.2.2.2] at h
          obtain ⟨a2, c2, rfl, h1, h2⟩ := prs_read h
          rw [← H.out.2.2.1] at h1 ⊢
          exact ⟨a2, c2, rfl, Lib.hid ⟨H.out.1.below h2, RdF.below H.out.2.1 h2 (Nat.le_refl _), h1⟩⟩)
        have CE : Hid (∀ W a c a2 c2 m L, Hid (JB w1 b W s mb b C low C low k1 ob #[.int .i64 kd, .int .i64 oa, str ky, str y, str hi] ∧ RdP W (.slice a m c) L ∧ RdP W (.slice a2 m c2) L) → Calls Try.prog 29 #[.slice a m c, .slice a2 m c2] W fun e W' => e = .returned (.bool true) ∧ Hid (JB w1 b W' s mb b C low C low k1 ob #[.int .i64 kd, .int .i64 oa, str ky, str y, str hi] ∧ True)) := Lib.hid (fun W a c a2 c2 m L H => (alikePairs_any _ _ L W H.out.2.1 H.out.2.2).mono (by
          rintro e W' ⟨rfl, hb⟩
          exact ⟨rfl, Lib.hid ⟨H.out.1.below hb, trivial⟩⟩))
        go_wp2_with fail
        have HB : Hid (JB w1 b w8.drew s mb b C low C low k1 ob #[.int .i64 kd, .int .i64 oa, str ky, str y, str hi]) := Lib.hid (HB8.out.below (Below.drewsN (Below.refl _ _) 1))
        clear HB8
        go_region_held3 (fun w' => w'.cell? ⟨ob, 1, none⟩ = some (.int .i64 oa) ∧ w'.cell? ⟨ob, 2, none⟩ = some (str ky) ∧ w'.cell? ⟨ob, 4, none⟩ = some (str hi))
          (first
            | (exact ⟨HB.out.cell 1, HB.out.cell 2, HB.out.cell 4⟩)
            | (exact ⟨HB.out.1.cell 1, HB.out.1.cell 2, HB.out.1.cell 4⟩)
            | go_keep)
          ((first
            | (go_at_call 31; refine Calls.mono (CSa.out _ HB) ?_; rintro e w9 ⟨q, rfl, HB⟩)
            | (go_at_call 31; refine Calls.mono (CSb.out _ HB) ?_; rintro e w9 ⟨q, rfl, HB⟩)
            | (go_at_call 30; refine Calls.mono (CQ.out _ q _ _ HB) ?_; rintro e w9 ⟨a1, c1, m1, L1, rfl, HB⟩)
            | (go_at_call 32; refine Calls.mono (CR.out _ a1 c1 m1 L1 _ _ HB) ?_; rintro e w9 ⟨a2, c2, rfl, HB⟩)
            | (go_at_call 29; refine Calls.mono (CE.out _ a1 c1 a2 c2 m1 L1 HB) ?_; rintro e w9 ⟨rfl, HB⟩)
            | fail))
        all_goals
          go_wp2_with fail
          go_roundw
          case rel => exact ⟨s, mb, k + 1, C, low, by omega, rfl, by go_num, Lib.hid ⟨by rw [← HK1.out]; exact HB.out.1.js, HC.out⟩⟩
          case measure => simp [intOf]; omega
    · obtain rfl : k = l.length := by omega
      have g3 : decide ((l.length : Int) < (l.length : Int)) = false := decide_eq_false (by omega)
      have HW : Hid (Below w.heap.size w wr) := Lib.hid (H1.out.trans (HG.out.1.bel.mono H1.out.size))
      clear HG
      go_wp2_with fail
      refine (CF.out _).mono ?_
      rintro e w8 ⟨rfl, hb8⟩
      have HX : Hid (Below w.heap.size w w8) := Lib.hid (HW.out.trans (hb8.mono HW.out.size))
      clear hb8
      go_wp2_with fail
      go_ret
      exact ⟨rfl, HX.out⟩
end Go.Proofs.Ytdlacjdddjebgaa
