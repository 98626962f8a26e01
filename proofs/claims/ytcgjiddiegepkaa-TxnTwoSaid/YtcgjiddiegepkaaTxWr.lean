/- txn: the transaction's own writes, ranged over. -/
import Derived.Test.YtcgjiddiegepkaaTxSt
import Derived.Laws.Cover1
namespace Go.Proofs.Ytcgjiddiegepkaa
open Go.RowKit
attribute [local go_sem] Oper.semAt_some wide_fn wide_depth

set_option maxHeartbeats 1000000 in
theorem alls2VW_any {Wr : TypeId → Prop} {b Bm : Nat} {t : Tr} {w W : World} (hm : MQ w b t) (hw : WS KSVW VSVW t) (hc' : W.cell? ⟨Bm, 0, none⟩ = some (.pointer (some ⟨b, 0, none⟩))) (hW : Below w.heap.size w W) :
    Seqs Try.prog 73 #[.pointer (some ⟨Bm, 0, none⟩)] (fun p => #[p.1, p.2]) (NQ w) Wr (prs t) W := by
  intro l J Jx hJ hJx hOk hY h0
  obtain ⟨T, o, hb, ht⟩ := hm
  have hb' : W.heap[b]? = some (.cells #[.pointer o, .int .i64 ((prs t).length : Int)] T (0, 0)) := by rw [hW.block b (Array.getElem?_eq_some_iff.1 hb).1]; exact hb
  have c0 : W.cell? ⟨b, 0, none⟩ = some (.pointer o) := by simp [World.cell?, hb']
  have hr := riseVW_any (xs := prs t) hJ hOk hY t o [] W 8 ht hw h0 ⟨[], by simp⟩
  have hdd : ∀ k : Nat, (Fence.wide.depth.isSome = true → 1 ≤ k) := fun k h => by cases h
  clear hb hb' ht
  refine (callsIn_wide (n := 9)).1 ?_
  refine callsIn_of_wp Try.func73 rfl trivial ?_ rfl
  simp only [Try.ntmps73, List.size_toArray, List.length_cons, List.length_nil, Nat.reduceAdd, Nat.reduceSub, Array.replicate_succ, Array.replicate_zero, List.push_toArray, List.append_toArray, List.nil_append, List.cons_append]
  gi_wp2_with (gi_at_call 74; refine hr.mono ?_; clear hr; rintro e W1 (⟨rfl, hJ1⟩ | ⟨rfl, q, hq, hx⟩))
  · go_end0
    exact ⟨⟨_, rfl⟩, .inl (by simpa using hJ1)⟩
  · go_end0
    exact ⟨⟨_, rfl⟩, .inr ⟨q, hq, by simpa using hx⟩⟩
/-- From lo on. -/
def fromW (lo : List UInt8) (l : List (Value × Value)) : List (Value × Value) := l.filter (fun p => !lessV p.1 (str lo))
theorem fromW_nil (l : List (Value × Value)) (h : ∀ p ∈ l, KSVW p.1) : fromW [] l = l := by
  unfold fromW
  rw [List.filter_eq_self]
  intro p hp
  obtain ⟨k, hk⟩ := h p hp
  rw [hk]
  show (!Op.bytesLess k []) = true
  rw [less_nil]; rfl
theorem fromW_snoc (lo : List UInt8) (l : List (Value × Value)) (x : Value × Value) : fromW lo (l ++ [x]) = fromW lo l ++ if lessV x.1 (str lo) = true then [] else [x] := by
  unfold fromW
  rw [List.filter_append]
  congr 1
  by_cases h : lessV x.1 (str lo) = true
  · simp [h]
  · have h' : lessV x.1 (str lo) = false := by simpa using h
    simp [h']
set_option maxRecDepth 100000 in
set_option maxHeartbeats 4000000 in
theorem written_any {Wr : TypeId → Prop} {w W : World} {b1 b2 tb s wb : Nat} {t : Tr} {lo : List UInt8} {at1 : Int} (hmq : MQ w wb t) (hws : WS KSVW VSVW t) (htx : TxB w tb s at1 wb) (hc1 : W.cell? ⟨b1, 0, none⟩ = some (.pointer (some ⟨tb, 0, none⟩))) (_ : W.cell? ⟨b2, 0, none⟩ = some (str lo)) (hW : Below w.heap.size w W)
    (hw2 : ¬ Wr 109) :
    Seqs Try.prog 72 #[.pointer (some ⟨b1, 0, none⟩), .pointer (some ⟨b2, 0, none⟩)] (fun p : Value × Value => #[p.1, p.2]) (fun W2 => Below w.heap.size w W2 ∧ W2.cell? ⟨b2, 0, none⟩ = some (str lo)) Wr (fromW lo (prs t)) W := by
  intro l J Jx hJ hJx hOk hY h0
  obtain ⟨W1, hW1⟩ : ∃ W1, W1 = W.alloc (.cells #[.func (.yield l) #[] #[]] 109) := ⟨_, rfl⟩
  have l1 : Below W.heap.size W W1 := by rw [hW1]; exact below_alloc W _
  have hz1 : W1.heap.size = W.heap.size + 1 := by rw [hW1]; simp
  have lw1 : Below w.heap.size w W1 := hW.trans (l1.mono hW.size)
  have q1 : (W.alloc (.cells #[.func (.yield l) #[] #[]] 109)).cell? ⟨b1, 0, none⟩ = some (.pointer (some ⟨tb, 0, none⟩)) := ((below_alloc W _).cell (p := ⟨b1, 0, none⟩) (World.block_lt_of_cell? W _ hc1)).trans hc1
  have p2 : (W.alloc (.cells #[.func (.yield l) #[] #[]] 109)).cell? ⟨tb, 2, none⟩ = some (.pointer (some ⟨wb, 0, none⟩)) := by rw [← hW1]; exact (htx.below lw1).cells.2.2
  have bY : Boxed W1 W.heap.size 109 (.func (.yield l) #[] #[]) := by rw [hW1]; exact Boxed.new W 109 (.func (.yield l) #[] #[])
  have CA := Lib.hid (callsIn_wide (n := 8) |>.2 (mallVW_any wb W1))
  refine (callsIn_wide (n := 9)).1 ?_
  refine callsIn_of_wp_marks Try.func72 rfl trivial ?_ rfl
  simp only [Try.ntmps72, List.size_toArray, List.length_cons, List.length_nil, Nat.reduceAdd, Nat.reduceSub, Array.replicate_succ, Array.replicate_zero, List.push_toArray, List.append_toArray, List.nil_append, List.cons_append]
  gi_wp2_with (gi_at_call 54; refine hold ?_)
  intro _
  rw [← hW1]
  refine CA.out.mono ?_
  rintro e w2 ⟨rfl, hw2'⟩
  have l2 : Below W1.heap.size W1 w2 := by rw [hw2']; exact below_alloc W1 _
  have hz2 : w2.heap.size = W.heap.size + 2 := by rw [hw2']; simp [hz1]
  have lw2 : Below w.heap.size w w2 := lw1.trans (l2.mono (by have := lw1.size; omega))
  have c4 : w2.cell? ⟨W1.heap.size, 0, none⟩ = some (.pointer (some ⟨wb, 0, none⟩)) := by rw [hw2']; simp
  have bY2 : Boxed w2 W.heap.size 109 (.func (.yield l) #[] #[]) := (l2.block _ (by omega)).trans bY
  rw [hz1] at c4 ⊢
  have hseq : ∀ W', Below w2.heap.size w2 W' → Seqs Try.prog 73 #[.pointer (some ⟨W.heap.size + 1, 0, none⟩)] (fun p : Value × Value => #[p.1, p.2]) (NQ w) Wr (prs t) W' := fun W' hW' => alls2VW_any hmq hws ((hW'.cell (p := ⟨W.heap.size + 1, 0, none⟩) (World.block_lt_of_cell? w2 _ c4)).trans c4) (lw2.trans (hW'.mono lw2.size))
  have hj0 : J (fromW lo []) w2 := own_below hJ (own_below hJ h0 l1) l2
  have HWS : Hid (∀ p ∈ prs t, KSVW p.1 ∧ VSVW p.2) := Lib.hid (fun p hp => ws_keys hws p hp)
  have HZ := Lib.hid hz2
  clear CA l1 hz1 lw1 q1 p2 bY hw2' l2 c4 hmq htx hc1 hws
  clear hW1
  gi_wp2_with fail
  refine range_lawA (Tw := fun _ => False) (gf := 73) (lb := #[.pointer (some ⟨W.heap.size + 1, 0, none⟩)]) rfl (enters_of Try.func73 (by kernel_rfl) rfl) (Wr := Wr) (xs := prs t) (fun W' h => (hseq W' h).toW) (by intro x; rfl)
    (fun pre W2 => J (fromW lo pre) W2 ∧ Boxed W2 W.heap.size 109 (.func (.yield l) #[] #[]))
    (fun c _ W2 => c = .ret ∧ ∃ out, (∃ t', fromW lo (prs t) = out ++ t') ∧ Jx out W2)
    (ownToF (OwnFrom.and ?ownj (boxed_ownT (Tw := fun _ => False) _ _ (fun _ : List (Value × Value) => .func (.yield l) #[] #[]) (by simp) |>.from _ |>.plain))) (fun c => ownToF ?ownx) ⟨hj0, bY2⟩ (fun pre W2 h => NQ.of_below (hOk _ _ h.1).1)
    (fun x b => { tmps := #[.func (.yield l) #[] #[], .pointer (some ⟨b1, 0, none⟩), .pointer (some ⟨b2, 0, none⟩), .pointer (some ⟨W.heap.size, 0, none⟩), x.1, .pointer (some ⟨b, 0, none⟩), .pointer (some ⟨tb, 0, none⟩), .pointer (some ⟨tb, 0, none⟩), .pointer (some ⟨tb, 2, none⟩), .pointer (some ⟨wb, 0, none⟩), .func (.func 73) #[] #[.pointer (some ⟨W.heap.size + 1, 0, none⟩)], x.1, x.2, undef, undef, undef, undef, undef, undef, undef, undef, undef, undef], defers := [] }) (fun x => .cells #[wA x.2, wB x.2, wC x.2] 58) ?assign ?body ?done ?stop
  case ownj =>
    rintro s' X Y row hj hg hr
    exact hJ _ _ _ _ hj hg (fun r e => ⟨by have := (hr r e).1; have := HZ.out; omega, (hr r e).2⟩)
  case ownx =>
    rintro s' X Y row ⟨hc, out, ht, hj⟩ hg hr
    exact ⟨hc, out, ht, hJx _ _ _ _ hj hg (fun r e => ⟨by have := (hr r e).1; have := HZ.out; omega, (hr r e).2⟩)⟩
  case assign =>
    intro l2 x W' K hx2 hK
    obtain ⟨xk, xv⟩ := x
    obtain ⟨⟨kx, hkx⟩, ⟨ya, yb, yc, hyv⟩⟩ := HWS.out _ hx2
    dsimp only at hkx hyv
    subst hkx hyv
    have HK := Lib.hid hK
    clear hK
    dsimp only
    gi_wp2
    exact HK.out
  case body =>
    rintro l2 pre ⟨xk, xv⟩ b W2 hl2 hbl hbo ⟨hj, hby⟩ ⟨tl, ht⟩
    obtain ⟨⟨key, rfl⟩, ⟨ya, yb, yc, rfl⟩⟩ := HWS.out (xk, xv) (by rw [ht]; simp)
    have hbx : W2.heap[b]? = some (.cells #[str ya, str yb, .bool yc] 58 (0, 0)) := hbo
    have z0 : W2.cell? ⟨b, 0, none⟩ = some (str ya) := cell_of_row W2 b 0 _ _ (0, 0) hbx
    have z1 : W2.cell? ⟨b, 1, none⟩ = some (str yb) := cell_of_row W2 b 1 _ _ (0, 0) hbx
    have z2 : W2.cell? ⟨b, 2, none⟩ = some (.bool yc) := cell_of_row W2 b 2 _ _ (0, 0) hbx
    have cY : W2.cell? ⟨W.heap.size, 0, none⟩ = some (.func (.yield l) #[] #[]) := hby.cell
    have c2 := (hOk _ _ hj).2
    have hsn := fromW_snoc lo pre (str key, .agg #[str ya, str yb, .bool yc])
    have hst : fromW lo (prs t) = fromW lo pre ++ ((if lessV (str key) (str lo) = true then [] else [(str key, .agg #[str ya, str yb, .bool yc])]) ++ fromW lo tl) := by
      rw [ht, show (str key, Value.agg #[str ya, str yb, .bool yc]) :: tl = [(str key, Value.agg #[str ya, str yb, .bool yc])] ++ tl from rfl, ← List.append_assoc]
      unfold fromW at hsn ⊢
      rw [List.filter_append, hsn, List.append_assoc]
    dsimp only at hsn
    have e0 : lessV (str key) (str lo) = Op.bytesLess key lo := rfl
    rw [e0] at hsn hst
    clear e0 hbo hbx ht hseq hj0 bY2
    dsimp only
    by_cases hlo : Op.bytesLess key lo = true
    · rw [if_pos hlo, List.append_nil] at hsn
      have HH := Lib.hid (And.intro hsn (And.intro hj hby))
      have f1 : (key == lo) = false := by
        rw [beq_eq_false_iff_ne]
        rintro rfl
        rw [bl_irr] at hlo
        cases hlo
      have f2 : Op.bytesLess lo key = false := by
        cases e : Op.bytesLess lo key with
        | false => rfl
        | true => have := bl_tr _ _ _ hlo e; rw [bl_irr] at this; cases this
      clear hsn hst hj hby
      gi_wp2_with fail
      obtain ⟨e1, e2, e3⟩ := HH.out
      exact ⟨KT.refl _ _ _, by rw [e1]; exact e2, e3⟩
    · have hlo' : Op.bytesLess key lo = false := by simpa using hlo
      rw [if_neg hlo] at hsn hst
      have hY1 := hY (fromW lo pre) (str key, .agg #[str ya, str yb, .bool yc]) W2 hj ⟨_, hst⟩ 6
      obtain ⟨fn, tmps, assign, body, hy, hR⟩ := hY1
      have HH := Lib.hid (And.intro hsn (And.intro hst hby))
      dsimp only at hy hR
      have hcmp : (Op.bytesLess lo key = true ∧ (key == lo) = false) ∨ (Op.bytesLess lo key = false ∧ (key == lo) = true) := by
        cases e : Op.bytesLess lo key with
        | true => exact .inl ⟨rfl, by rw [beq_eq_false_iff_ne]; rintro rfl; rw [bl_irr] at e; cases e⟩
        | false => exact .inr ⟨rfl, by rw [bl_tot _ _ hlo' e]; simp⟩
      clear hsn hst hj hby hlo
      rcases hcmp with ⟨f2, f1⟩ | ⟨f2, f1⟩
      all_goals
        gi_wp2_with (refine hR.mono ?_; clear hR; rintro e W4 ⟨hk, ⟨rfl, hj4⟩ | ⟨rfl, hx4⟩⟩)
        · obtain ⟨e1, e2, e3⟩ := HH.out
          have hz := HZ.out
          refine ⟨hk.more (by omega), by rw [e1]; exact hj4, hk.box e3 (Nat.le_refl _) hw2⟩
        · obtain ⟨e1, e2, e3⟩ := HH.out
          have hz := HZ.out
          exact ⟨hk.more (by omega), rfl, _, ⟨_, by rw [e2, ← List.append_assoc]⟩, hx4⟩
  case done =>
    rintro D W2 hD ⟨hj, _⟩ hK
    gi_wp2
    refine ⟨by simp, .inl ⟨_, _, rfl, run_takeDeferred hK, ?_⟩⟩
    exact ⟨_, results_none rfl _ _ _, ⟨_, rfl⟩, .inl (hJ.putObj _ hj (by have := HZ.out; omega) hK rfl)⟩
  case stop =>
    rintro D c pre W2 hD hx ⟨rfl, out, ht, hj⟩ hK
    gi_wp2
    refine ⟨by simp, .inl ⟨_, _, rfl, run_takeDeferred hK, ?_⟩⟩
    exact ⟨_, results_none rfl _ _ _, ⟨_, rfl⟩, .inr ⟨out, ht, hJx.putObj _ hj (by have := HZ.out; omega) hK rfl⟩⟩
end Go.Proofs.Ytcgjiddiegepkaa
