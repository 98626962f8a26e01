import Derived.Test.YtcgjiddiegepkaaTxSt
import Derived.Laws.Cover1
/- txn: the transaction's own writes, ranged over. -/
namespace Go.Proofs.Ytcgjiddiegepkaa
open Go.RowKit
attribute [local go_sem] Oper.semAt_some wide_fn wide_depth

set_option maxHeartbeats 1000000 in
theorem alls2VW_any {Wr : TypeId → Prop} {b Bm : Nat} {t : Tr} {w W : World} (hm : MQ w b t) (hw : WS KSVW VSVW t) (hc' : W.cell? ⟨Bm, 0, none⟩ = some (.pointer (some ⟨b, 0, none⟩))) (hW : Below w.heap.size w W) :
    Seqs Try.prog 73 #[.pointer (some ⟨Bm, 0, none⟩)] (fun p => #[p.1, p.2]) (NQ w) Wr (prs t) W := by
  intro l J Jx hJ hJx hOk hY h0
  obtain ⟨T, o, hb, ht⟩ := hm
  have hb' : W.heap[b]? = some (.cells #[.pointer o, .int .i64 ((prs t).length : Int)] T (0, 0)) := by rw [hW.block b (Array.getElem?_eq_some_iff.1 hb).1]; exact hb
  have c0 : W.cell? ⟨b, 0, none⟩ = some (.pointer o) := by simp [World.cell?, hb']
  have hr := riseVW_any (xs := prs t) hJ hOk hY t o [] W 8 ht hw h0 ⟨[], by simp⟩
  have hdd : ∀ k : Nat, (Fence.wide.depth.isSome = true → 1 ≤ k) := fun k h => by cases h
  clear hb hb' ht
  refine (callsIn_wide (n := 9)).1 ?_
  refine callsIn_of_wp Try.func73 rfl trivial ?_ rfl
  simp only [Try.ntmps73, List.size_toArray, List.length_cons, List.length_nil, Nat.reduceAdd, Nat.reduceSub, Array.replicate_succ, Array.replicate_zero, List.push_toArray, List.append_toArray, List.nil_append, List.cons_append]
  gi_wp2_with (gi_at_call 74; refine hr.mono ?_; clear hr; rintro e W1 (⟨rfl, hJ1⟩ | ⟨rfl, q, hq, hx⟩))
  · go_end0
    exact ⟨⟨_, rfl⟩, .inl (by simpa using hJ1)⟩
  · go_end0
    exact ⟨⟨_, rfl⟩, .inr ⟨q, hq, by simpa using hx⟩⟩
/-- From lo on. -/
def fromW (lo : List UInt8) (l : List (Value × Value)) : List (Value × Value) := l.filter (fun p => !lessV p.1 (str lo))
theorem fromW_nil (l : List (Value × Value)) (h : ∀ p ∈ l, KSVW p.1) : fromW [] l = l := by
  unfold fromW
  rw [List.filter_eq_self]
  intro p hp
  obtain ⟨k, hk⟩ := h p hp
  rw [hk]
  show (!Op.bytesLess k []) = true
  rw [less_nil]; rfl
theorem fromW_snoc (lo : List UInt8) (l : List (Value × Value)) (x : Value × Value) : fromW lo (l ++ [x]) = fromW lo l ++ if lessV x.1 (str lo) = true then [] else [x] := by
  unfold fromW
  rw [List.filter_append]
  congr 1
  by_cases h : lessV x.1 (str lo) = true
  · simp [h]
  · have h' : lessV x.1 (str lo) = false := by simpa using h
    simp [h']
set_option maxRecDepth 100000 in
set_option maxHeartbeats 4000000 in
theorem written_any {Wr : TypeId → Prop} {w W : World} {b1 b2 tb s wb : Nat} {t : Tr} {lo : List UInt8} {at1 : Int} (hmq : MQ w wb t) (hws : WS KSVW VSVW t) (htx : TxB w tb s at1 wb) (hc1 : W.cell? ⟨b1, 0, none⟩ = some (.pointer (some ⟨tb, 0, none⟩))) (_ : W.cell? ⟨b2, 0, none⟩ = some (str lo)) (hW : Below w.heap.size w W)
    (hw2 : ¬ Wr 109) :
    Seqs Try.prog 72 #[.pointer (some ⟨b1, 0, none⟩), .pointer (some ⟨b2, 0, none⟩)] (fun p : Value × Value => #[p.1, p.2]) (fun W2 => Below w.heap.size w W2 ∧ W2.cell? ⟨b2, 0, none⟩ = some (str lo)) Wr (fromW lo (prs t)) W := by
  intro l J Jx hJ hJx hOk hY h0
  obtain ⟨W1, hW1⟩ : ∃ W1, W1 = W.alloc (.cells #[.func (.yield l) #[] #[]] 109) := ⟨_, rfl⟩
  have l1 : Below W.heap.size W W1 := by rw [hW1]; exact below_alloc W _
  have hz1 : W1.heap.size = W.heap.size + 1 := by rw [hW1]; simp
  have lw1 : Below w.heap.size w W1 := hW.trans (l1.mono hW.size)
  have q1 : (W.alloc (.cells #[.func (.yield l) #[] #[]] 109)).cell? ⟨b1, 0, none⟩ = some (.pointer (some ⟨tb, 0, none⟩)) := ((below_alloc W _).cell (p := ⟨b1, 0, none⟩) (World.block_lt_of_cell? W _ hc1)).trans hc1
  have p2 : (W.alloc (.cells #[.func (.yield l) #[] #[]] 109)).cell? ⟨tb, 2, none⟩ = some (.pointer (some ⟨wb, 0, none⟩)) := by rw [← hW1]; exact (htx.below lw1).cells.2.2
  have bY : Boxed W1 W.heap.size 109 (.func (.yield l) #[] #[]) := by rw [hW1]; exact Boxed.new W 109 (.func (.yield l) #[] #[])
  have CA := Lib.hid (callsIn_wide (n := 8) |>.2 (mallVW_any wb W1))
  refine (callsIn_wide (n := 9)).1 ?_
  refine callsIn_of_wp_marks Try.func72 rfl trivial ?_ rfl
  simp only [Try.ntmps72, List.size_toArray, List.length_cons, List.length_nil, Nat.reduceAdd, Nat.reduceSub, Array.replicate_succ, Array.replicate_zero, List.push_toArray, List.append_toArray, List.nil_append, List.cons_append]
  gi_wp2_with (gi_at_call 54; refine hold ?_)
  intro _
  rw [← hW1]
  refine CA.out.mono ?_
  rintro e w2 ⟨rfl, hw2'⟩
  have l2 : Below W1.heap.size W1 w2 := by rw [hw2']; exact below_alloc W1 _
  have hz2 : w2.heap.size = W.heap.size + 2 := by rw [hw2']; simp [hz1]
  have lw2 : Below w.heap.size w w2 := lw1.trans (l2.mono (by have := lw1.size; omega))
  have c4 : w2.cell? ⟨W1.heap.size, 0, none⟩ = some (.pointer (some ⟨wb, 0, none⟩)) := by rw [hw2']; simp
  have bY2 : Boxed w2 W.heap.size 109 (.func (.yield l) #[] #[]) := (l2.block _ (by omega)).trans bY
  rw [hz1] at c4 ⊢
  have hseq : ∀ W', Below w2.heap.size w2 W' → Seqs Try.prog 73 #[.pointer (some ⟨W.heap.size + 1, 0, none⟩)] (fun p : Value × Value => #[p.1, p.2]) (NQ w) Wr (prs t) W' := fun W' hW' => alls2VW_any hmq hws ((hW'.cell (p := ⟨W.heap.size + 1, 0, none⟩) (World.block_lt_of_cell? w2 _ c4)).trans c4) (lw2.trans (hW'.mono lw2.size))
  have hj0 : J (fromW lo []) w2 := own_below hJ (own_below hJ h0 l1) l2
  have HWS : Hid (∀ p ∈ prs t, KSVW p.1 ∧ VSVW p.2) := Lib.hid (fun p hp => ws_keys hws p hp)
  have HZ := Lib.hid hz2
  clear CA l1 hz1 lw1 q1 p2 bY hw2' l2 c4 hmq htx hc1 hws
  clear hW1
  gi_wp2_with fail
  refine range_lawA (Tw := fun _ => False) (gf := 73) (lb := #[.pointer (some ⟨W.heap.size + 1, 0, none⟩)]) rfl (enters_of Try.func73 (by kernel_rfl) rfl) (Wr := Wr) (xs := prs t) (fun W' h => (hseq W' h).toW) (by intro x; rfl)
    (fun pre W2 => J (fromW lo pre) W2 ∧ Boxed W2 W.heap.size 109 (.func (.yield l) #[] #[]))
    (fun c _ W2 => c = .ret ∧ ∃ out, (∃ t', fromW lo (prs t) = out ++ t') ∧ Jx out W2)
    (ownToF (OwnFrom.and ?ownj (boxed_ownT (Tw := fun _ => False) _ _ (fun _ : List (Value × Value) => .func (.yield l) #[] #[]) (by simp) |>.from _ |>.plain))) (fun c => ownToF ?ownx) ⟨hj0, bY2⟩ (fun pre W2 h => NQ.of_below (hOk _ _ h.1).1)
    (fun x b => { tmps := #[.func (.yield l) #[] #[], .pointer (some ⟨b1, 0, none⟩), .pointer (some ⟨b2, 0, none⟩), .pointer (some ⟨W.heap.size, 0, none⟩), x.1, .pointer (some ⟨b, 0, none⟩), .pointer (some ⟨tb, 0, none⟩), .pointer (some ⟨tb, 0, none⟩), .pointer (some ⟨tb, 2, none⟩), .pointer (some ⟨wb, 0, none⟩), .func (.func 73) #[] #[.pointer (some ⟨W.heap.size + 1, 0, none⟩)], x.1, x.2, undef, undef, undef, undef, undef, undef, undef, undef, undef, undef], defers := [] }) (fun x => .cells #[wA x.2, wB x.2, wC x.2] 58) ?assign ?body ?done ?stop
  case ownj =>
    rintro s' X Y row hj hg hr
    exact hJ _ _ _ _ hj hg (fun r e => ⟨by have := (hr r e).1; have := HZ.out; omega, (hr r e).2⟩)
  case ownx =>
    rintro s' X Y row ⟨hc, out, ht, hj⟩ hg hr
    exact ⟨hc, out, ht, hJx _ _ _ _ hj hg (fun r e => ⟨by have := (hr r e).1; have := HZ.out; omega, (hr r e).2⟩)⟩
  case assign =>
    intro l2 x W' K hx2 hK
    obtain ⟨xk, xv⟩ := x
    obtain ⟨⟨kx, hkx⟩, ⟨ya, yb, yc, hyv⟩⟩ := HWS.out _ hx2
    dsimp only at hkx hyv
    subst hkx hyv
    have HK := Lib.hid hK
    clear hK
    dsimp only
    gi_wp2
    exact HK.out
  case body =>
    rintro l2 pre ⟨xk, xv⟩ b W2 hl2 hbl hbo ⟨hj, hby⟩ ⟨tl, ht⟩
    obtain ⟨⟨key, rfl⟩, ⟨ya, yb, yc, rfl⟩⟩ := HWS.out (xk, xv) (by rw [ht]; simp)
    have hbx : W2.heap[b]? = some (.cells #[str ya, str yb, .bool yc] 58 (0, 0)) := hbo
    have z0 : W2.cell? ⟨b, 0, none⟩ = some (str ya) := cell_of_row W2 b 0 _ _ (0, 0) hbx
    have z1 : W2.cell? ⟨b, 1, none⟩ = some (str yb) := cell_of_row W2 b 1 _ _ (0, 0) hbx
    have z2 : W2.cell? ⟨b, 2, none⟩ = some (.bool yc) := cell_of_row W2 b 2 _ _ (0, 0) hbx
    have cY : W2.cell? ⟨W.heap.size, 0, none⟩ = some (.func (.yield l) #[] #[]) := hby.cell
    have c2 := (hOk _ _ hj).2
    have hsn := fromW_snoc lo pre (str key, .agg #[str ya, str yb, .bool yc])
    have hst : fromW lo (prs t) = fromW lo pre ++ ((if lessV (str key) (str lo) = true then [] else [(str key, .agg #[str ya, str yb, .bool yc])]) ++ fromW lo tl) := by
      rw [ht, show (str key, Value.agg #[str ya, str yb, .bool yc]) :: tl = [(str key, Value.agg #[str ya, str yb, .bool yc])] ++ tl from rfl, ← List.append_assoc]
      unfold fromW at hsn ⊢
      rw [List.filter_append, hsn, List.append_assoc]
    dsimp only at hsn
    have e0 : lessV (str key) (str lo) = Op.bytesLess key lo := rfl
    rw [e0] at hsn hst
    clear e0 hbo hbx ht hseq hj0 bY2
    dsimp only
    by_cases hlo : Op.bytesLess key lo = true
    · rw [if_pos hlo, List.append_nil] at hsn
      have HH := Lib.hid (And.intro hsn (And.intro hj hby))
      have f1 : (key == lo) = false := by
        rw [beq_eq_false_iff_ne]
        rintro rfl
        rw [bl_irr] at hlo
        cases hlo
      have f2 : Op.bytesLess lo key = false := by
        cases e : Op.bytesLess lo key with
        | false => rfl
        | true => have := bl_tr _ _ _ hlo e; rw [bl_irr] at this; cases this
      clear hsn hst hj hby
      gi_wp2_with fail
      obtain ⟨e1, e2, e3⟩ := HH.out
      exact ⟨KT.refl _ _ _, by rw [e1]; exact e2, e3⟩
    · have hlo' : Op.bytesLess key lo = false := by simpa using hlo
      rw [if_neg hlo] at hsn hst
      have hY1 := hY (fromW lo pre) (str key, .agg #[str ya, str yb, .bool yc]) W2 hj ⟨_, hst⟩ 6
      obtain ⟨fn, tmps, assign, body, hy, hR⟩ := hY1
      have HH := Lib.hid (And.intro hsn (And.intro hst hby))
      dsimp only at hy hR
      have hcmp : (Op.bytesLess lo key = true ∧ (key == lo) = false) ∨ (Op.bytesLess lo key = false ∧ (key == lo) = true) := by
        cases e : Op.bytesLess lo key with
        | true => exact .inl ⟨rfl, by rw [beq_eq_false_iff_ne]; rintro rfl; rw [bl_irr] at e; cases e⟩
        | false => exact .inr ⟨rfl, by rw [bl_tot _ _ hlo' e]; simp⟩
      clear hsn hst hj hby hlo
      rcases hcmp with ⟨f2, f1⟩ | ⟨f2, f1⟩
      all_goals
        gi_wp2_with (refine hR.mono ?_; clear hR; rintro e W4 ⟨hk, ⟨rfl, hj4⟩ | ⟨rfl, hx4⟩⟩)
        · obtain ⟨e1, e2, e3⟩ := HH.out
          have hz := HZ.out
          refine ⟨hk.more (by omega), by rw [e1]; exact hj4, hk.box e3 (Nat.le_refl _) hw2⟩
        · obtain ⟨e1, e2, e3⟩ := HH.out
          have hz := HZ.out
          exact ⟨hk.more (by omega), rfl, _, ⟨_, by rw [e2, ← List.append_assoc]⟩, hx4⟩
  case done =>
    rintro D W2 hD ⟨hj, _⟩ hK
    gi_wp2
    refine ⟨by simp, .inl ⟨_, _, rfl, run_takeDeferred hK, ?_⟩⟩
    exact ⟨_, results_none rfl _ _ _, ⟨_, rfl⟩, .inl (hJ.putObj _ hj (by have := HZ.out; omega) hK rfl)⟩
  case stop =>
    rintro D c pre W2 hD hx ⟨rfl, out, ht, hj⟩ hK
    gi_wp2
    refine ⟨by simp, .inl ⟨_, _, rfl, run_takeDeferred hK, ?_⟩⟩
    exact ⟨_, results_none rfl _ _ _, ⟨_, rfl⟩, .inr ⟨out, ht, hJx.putObj _ hj (by have := HZ.out; omega) hK rfl⟩⟩
end Go.Proofs.Ytcgjiddiegepkaa

/- txn: Scan, ranged over. -/
namespace Go.Proofs.Ytcgjiddiegepkaa
open Go.RowKit
attribute [local go_sem] Oper.semAt_some wide_fn wide_depth

/-- What is to be seen of a write. -/
def decW : Value × Value → Option PairT
  | (.string k, .agg ⟨_ :: .string v :: .bool g :: _⟩) => if g then none else some (k.data.toList, v.data.toList)
  | _ => none
theorem decW_eq (k k' v : List UInt8) (g : Bool) : decW (str k, .agg #[str k', str v, .bool g]) = if g then none else some (k, v) := rfl
def seenW (l : List (Value × Value)) : List PairT := l.filterMap decW
theorem seenW_snoc (l : List (Value × Value)) (x : Value × Value) : seenW (l ++ [x]) = seenW l ++ (decW x).toList := by
  unfold seenW
  rw [List.filterMap_append]
  cases h : decW x <;> simp [h]
theorem seenW_app (a b : List (Value × Value)) : seenW (a ++ b) = seenW a ++ seenW b := by unfold seenW; rw [List.filterMap_append]
abbrev stF (n : Nat) : Value := .func (.func 70) #[] #[.pointer (some ⟨n, 0, none⟩), .pointer (some ⟨n + 1, 0, none⟩), .pointer (some ⟨n + 2, 0, none⟩)]
abbrev wrF (n : Nat) : Value := .func (.func 72) #[] #[.pointer (some ⟨n + 3, 0, none⟩), .pointer (some ⟨n + 4, 0, none⟩)]
/-- stored's boxes. -/
structure Mg1 (W' : World) (n tb : Nat) (lo : List UInt8) : Prop where
  s1 : Boxed W' n 30 (.pointer (some ⟨tb, 0, none⟩))
  s2 : Boxed W' (n + 1) 9 (str lo)
  s3 : Boxed W' (n + 2) 9 (str [])
/-- written's. -/
structure Mg2 (W' : World) (n tb : Nat) (lo : List UInt8) : Prop where
  m1 : Mg1 W' n tb lo
  w1 : Boxed W' (n + 3) 30 (.pointer (some ⟨tb, 0, none⟩))
  w2 : Boxed W' (n + 4) 9 (str lo)
/-- Merge's. -/
structure Mg3 (W' : World) (n tb : Nat) (lo : List UInt8) : Prop where
  m2 : Mg2 W' n tb lo
  g1 : Boxed W' (n + 5) 96 (stF n)
  g2 : Boxed W' (n + 6) 96 (wrF n)
theorem boxed_up {W W' : World} {b : Nat} {T : TypeId} {v : Value} (h : Boxed W b T v) (hb : Below W.heap.size W W') : Boxed W' b T v := (hb.block b (Array.getElem?_eq_some_iff.1 (show W.heap[b]? = _ from h)).1).trans h
theorem boxed_at {W : World} {n : Nat} {T : TypeId} {v : Value} (h : W.heap.size = n) : Boxed (W.alloc (.cells #[v] T)) n T v := h ▸ Boxed.new W T v
theorem Mg1.up {W W' : World} {n tb : Nat} {lo : List UInt8} (h : Mg1 W n tb lo) (hb : Below W.heap.size W W') : Mg1 W' n tb lo := ⟨boxed_up h.s1 hb, boxed_up h.s2 hb, boxed_up h.s3 hb⟩
theorem Mg2.up {W W' : World} {n tb : Nat} {lo : List UInt8} (h : Mg2 W n tb lo) (hb : Below W.heap.size W W') : Mg2 W' n tb lo := ⟨h.m1.up hb, boxed_up h.w1 hb, boxed_up h.w2 hb⟩
theorem Mg3.up {W W' : World} {n tb : Nat} {lo : List UInt8} (h : Mg3 W n tb lo) (hb : Below W.heap.size W W') : Mg3 W' n tb lo := ⟨h.m2.up hb, boxed_up h.g1 hb, boxed_up h.g2 hb⟩
/-- A world on from W1, of so many blocks. -/
def OnW (W1 : World) (m : Nat) (W' : World) : Prop := Below W1.heap.size W1 W' ∧ W'.heap.size = m
theorem OnW.alloc {W1 W' : World} {m : Nat} (h : OnW W1 m W') (o : Obj) : OnW W1 (m + 1) (W'.alloc o) := ⟨h.1.trans ((below_alloc W' o).mono h.1.size), by simp [h.2]⟩
theorem stored_on {W1 W' : World} {n tb : Nat} {lo : List UInt8} (h : OnW W1 n W') : Calls Try.prog 51 #[.pointer (some ⟨tb, 0, none⟩), str lo, str []] W' fun e w' => e = .returned (stF n) ∧ Hid (OnW W1 (n + 3) w' ∧ Mg1 w' n tb lo) := by
  refine (txn_stored W' tb lo []).mono ?_
  rintro e w' ⟨rfl, rfl⟩
  have a1 := h.alloc (.cells #[.pointer (some ⟨tb, 0, none⟩)] 30)
  have a2 := a1.alloc (.cells #[str lo] 9)
  have a3 := a2.alloc (.cells #[str []] 9)
  refine ⟨by rw [h.2], Lib.hid ⟨a3, ((boxed_at h.2).alloc _).alloc _, (boxed_at a1.2).alloc _, boxed_at a2.2⟩⟩
theorem written_on {W1 W' : World} {n tb : Nat} {lo : List UInt8} (h : Hid (OnW W1 (n + 3) W' ∧ Mg1 W' n tb lo)) : Calls Try.prog 52 #[.pointer (some ⟨tb, 0, none⟩), str lo, str []] W' fun e w' => e = .returned (wrF n) ∧ Hid (OnW W1 (n + 5) w' ∧ Mg2 w' n tb lo) := by
  obtain ⟨h1, h2⟩ := h.out
  refine (txn_written W' tb lo).mono ?_
  rintro e w' ⟨rfl, rfl⟩
  have a1 := h1.alloc (.cells #[.pointer (some ⟨tb, 0, none⟩)] 30)
  have a2 := a1.alloc (.cells #[str lo] 9)
  refine ⟨by rw [h1.2], Lib.hid ⟨a2, (h2.up (below_alloc W' _)).up (below_alloc _ _), (boxed_at h1.2).alloc _, boxed_at a1.2⟩⟩
theorem merge_on {W1 W' : World} {n tb : Nat} {lo : List UInt8} (h : Hid (OnW W1 (n + 5) W' ∧ Mg2 W' n tb lo)) : Calls Try.prog 50 #[stF n, wrF n] W' fun e w' => e = .returned (.func (.func 67) #[] #[.pointer (some ⟨n + 5, 0, none⟩), .pointer (some ⟨n + 6, 0, none⟩)]) ∧ Hid (OnW W1 (n + 7) w' ∧ Mg3 w' n tb lo) := by
  obtain ⟨h1, h2⟩ := h.out
  refine (merge_anyVW (va := stF n) (.inr ⟨_, _, rfl⟩) 72 #[.pointer (some ⟨n + 3, 0, none⟩), .pointer (some ⟨n + 4, 0, none⟩)] W').mono ?_
  rintro e w' ⟨rfl, rfl⟩
  have a1 := h1.alloc (.cells #[stF n] 96)
  have a2 := a1.alloc (.cells #[wrF n] 96)
  refine ⟨by rw [h1.2], Lib.hid ⟨a2, (h2.up (below_alloc W' _)).up (below_alloc _ _), (boxed_at h1.2).alloc _, boxed_at a1.2⟩⟩
theorem txn_scan (W : World) (tb : Nat) (lo hi : List UInt8) : Calls Try.prog 29 #[.pointer (some ⟨tb, 0, none⟩), str lo, str hi] W fun e w' =>
    e = .returned (.func (.func 49) #[] #[.pointer (some ⟨W.heap.size, 0, none⟩), .pointer (some ⟨W.heap.size + 1, 0, none⟩), .pointer (some ⟨W.heap.size + 2, 0, none⟩)]) ∧
    w' = ((W.alloc (.cells #[.pointer (some ⟨tb, 0, none⟩)] 30)).alloc (.cells #[str lo] 9)).alloc (.cells #[str hi] 9) := by
  go_enter Try.func29, Try.ntmps29
  go_wp2_with fail
  go_ret
  exact ⟨rfl, rfl⟩
/-- What a transaction sees, as Merge has it. -/
def txL (lo : List UInt8) (at1 : Int) (S : ChsVS) (tw : Tr) : List (Value × Value) := mrgL ((scanL lo at1 S).map stW) (fromW lo (prs tw))
theorem stW_kinds (l : List PairT) : ∀ p ∈ l.map stW, KSVW p.1 ∧ VSVW p.2 := by
  intro p hp
  obtain ⟨q, _, rfl⟩ := List.mem_map.1 hp
  exact ⟨⟨q.1, rfl⟩, ⟨q.1, q.2, false, rfl⟩⟩
theorem fromW_kinds {lo : List UInt8} {tw : Tr} (h : WS KSVW VSVW tw) : ∀ p ∈ fromW lo (prs tw), KSVW p.1 ∧ VSVW p.2 := fun p hp => ws_keys h p (List.mem_filter.1 hp).1
theorem txL_kinds {lo : List UInt8} {at1 : Int} {S : ChsVS} {tw : Tr} (h : WS KSVW VSVW tw) : ∀ p ∈ txL lo at1 S tw, KSVW p.1 ∧ VSVW p.2 := mrg_mem _ _ _ (stW_kinds _) (fromW_kinds h)
set_option maxRecDepth 100000 in
set_option maxHeartbeats 8000000 in
theorem scanTx_any {Wr : TypeId → Prop} {w W : World} {B s mb b1 b2 b3 tb wb : Nat} {t tw : Tr} {S : ChsVS} {cnt low : Int} {k : Nat} (h : StVS w B s mb t S cnt low k) (hk : k ≤ 100000) (hmq : MQ w wb tw) (hws : WS KSVW VSVW tw) (hlw : (prs tw).length ≤ 100000) {lo : List UInt8} {at1 : Int} (htx : TxB w tb s at1 wb) (hL : TxL W b1 b2 b3 tb lo []) (hW : Below w.heap.size w W)
    (hw1 : ¬ Wr 126) (hw2 : ¬ Wr 129) (hw3 : ¬ Wr 109) (hw4 : ¬ Wr 58) (hw5 : ¬ Wr 94) (hw6 : ¬ Wr 9) :
    SeqsW MrgTVW Try.prog 49 #[.pointer (some ⟨b1, 0, none⟩), .pointer (some ⟨b2, 0, none⟩), .pointer (some ⟨b3, 0, none⟩)] (fun p : PairT => #[str p.1, str p.2]) (fun W2 => Below w.heap.size w W2) Wr (seenW (txL lo at1 S tw)) W := by
  intro l J Jx hJ hJx hOk hY h0
  obtain ⟨xs, hxs⟩ : ∃ xs, xs = txL lo at1 S tw := ⟨_, rfl⟩
  rw [← hxs] at hY ⊢
  obtain ⟨W1, hW1⟩ : ∃ W1, W1 = (W.alloc (.cells #[.func (.yield l) #[] #[]] 94)).drew := ⟨_, rfl⟩
  have l1 : Below W.heap.size W W1 := by rw [hW1]; exact Below.drewsN (below_alloc W _) 1
  have hz1 : W1.heap.size = W.heap.size + 1 := by rw [hW1]; simp
  have lw1 : Below w.heap.size w W1 := hW.trans (l1.mono hW.size)
  have bY : Boxed W1 W.heap.size 94 (.func (.yield l) #[] #[]) := by rw [hW1]; exact Boxed.new W 94 (.func (.yield l) #[] #[])
  obtain ⟨n, hn⟩ : ∃ n, n = W.heap.size + 1 := ⟨_, rfl⟩
  have HB0 : Hid (OnW W1 n W1) := Lib.hid ⟨Below.refl _ _, by rw [hn]; exact hz1⟩
  have HS : Hid (∀ W', Below W1.heap.size W1 W' → W'.cell? ⟨b1, 0, none⟩ = some (.pointer (some ⟨tb, 0, none⟩)) ∧ W'.cell? ⟨b2, 0, none⟩ = some (str lo) ∧ W'.cell? ⟨b3, 0, none⟩ = some (str [])) := Lib.hid (fun W' hb => by
    obtain ⟨q1, q2, q3⟩ := (hL.below l1).below hb
    exact ⟨q1, q2, q3⟩)
  refine (callsIn_wide (n := 9)).1 ?_
  refine callsIn_of_wp_marks Try.func49 rfl trivial ?_ rfl
  simp only [Try.ntmps49, List.size_toArray, List.length_cons, List.length_nil, Nat.reduceAdd, Nat.reduceSub, Array.replicate_succ, Array.replicate_zero, List.push_toArray, List.append_toArray, List.nil_append, List.cons_append]
  gi_wp2_with fail
  refine onlyF_cut (fun a W' => a = { tmps := #[.func (.yield l) #[] #[], .pointer (some ⟨b1, 0, none⟩), .pointer (some ⟨b2, 0, none⟩), .pointer (some ⟨b3, 0, none⟩), .pointer (some ⟨W.heap.size, 0, none⟩), undef, undef, .pointer (some ⟨tb, 0, none⟩), str lo, str [], stF n, .pointer (some ⟨tb, 0, none⟩), str lo, str [], wrF n, .func (.func 67) #[] #[.pointer (some ⟨n + 5, 0, none⟩), .pointer (some ⟨n + 6, 0, none⟩)], undef, undef, undef, undef, undef, undef, undef, undef, undef, undef, undef, undef, undef], defers := [] } ∧ Hid (OnW W1 (n + 7) W' ∧ Mg3 W' n tb lo)) ?_ ?_
  · clear bY hz1 l1 lw1 hn
    refine wpIn_wide.2 ?_
    subst hW1
    go_region_held3 (fun W' => W'.cell? ⟨b1, 0, none⟩ = some (.pointer (some ⟨tb, 0, none⟩)) ∧ W'.cell? ⟨b2, 0, none⟩ = some (str lo) ∧ W'.cell? ⟨b3, 0, none⟩ = some (str []))
      (first
        | (exact HS.out _ (Below.refl _ _))
        | (exact HS.out _ HC.out.1.1)
        | go_keep)
      ((first
        | (go_at_call 51; refine Calls.mono (stored_on HB0.out) ?_; rintro e w2 ⟨rfl, HC⟩)
        | (go_at_call 52; refine Calls.mono (written_on HC) ?_; rintro e w2 ⟨rfl, HC⟩)
        | (go_at_call 50; refine Calls.mono (merge_on HC) ?_; rintro e w2 ⟨rfl, HC⟩)
        | fail))
    all_goals
      dsimp only [OnlyF]
      exact ⟨rfl, HC⟩
  · rintro a w2 ⟨rfl, HM⟩
    obtain ⟨⟨l2, hz2⟩, hmg⟩ := HM.out
    have lw2 : Below w.heap.size w w2 := lw1.trans (l2.mono (by have := lw1.size; omega))
    have bY2 : Boxed w2 W.heap.size 94 (.func (.yield l) #[] #[]) := boxed_up bY l2
    have hxa : ((scanL lo at1 S).map stW).length ≤ 1000000 := by
      rw [List.length_map]
      have := List.length_filterMap_le (scan1 lo at1) S
      have := h.hk.2.1
      unfold scanL; omega
    have hxb : (fromW lo (prs tw)).length ≤ 1000000 := by
      have := List.length_filter_le (fun p : Value × Value => !lessV p.1 (str lo)) (prs tw)
      unfold fromW; omega
    have hseq : ∀ W', Below w2.heap.size w2 W' → SeqsW MrgTVW Try.prog 67 #[.pointer (some ⟨n + 5, 0, none⟩), .pointer (some ⟨n + 6, 0, none⟩)] (fun p : Value × Value => #[p.1, p.2]) (fun W2 => Below w.heap.size w W2 ∧ W2.cell? ⟨n + 4, 0, none⟩ = some (str lo)) Wr xs W' := fun W' hW' => by
      rw [hxs]
      have hm3 := hmg.up hW'
      refine merg2_seqsVW hxa hxb (stW_kinds _) (fromW_kinds hws) (fun W3 hW3 => ?_) (enters_of Try.func72 (by kernel_rfl) rfl) (fun W3 hW3 => ?_) hm3.g1.cell hm3.g2.cell hw1 hw2 hw3 hw4
      · have hb3 := hW'.trans (hW3.mono hW'.size)
        have hm4 := hmg.up hb3
        have lw3 := lw2.trans (hb3.mono lw2.size)
        exact gather_anyVW hxa (stW_kinds _) (enters_of Try.func70 (by kernel_rfl) rfl) (fun W4 h4 => h4) (fun W4 h4 => stored_any (h.below lw3) hk (htx.below lw3) ⟨hm4.m2.m1.s1.cell, hm4.m2.m1.s2.cell, hm4.m2.m1.s3.cell⟩ h4 (by decide) (by decide) (by decide) (by decide) (by decide))
      · have hb3 := hW'.trans (hW3.mono hW'.size)
        have hm4 := hmg.up hb3
        exact written_any hmq hws htx hm4.m2.w1.cell hm4.m2.w2.cell (lw2.trans (hb3.mono lw2.size)) hw3
    have hj0 : J (seenW []) w2 := own_below hJ.plain (own_below hJ.plain h0 l1) l2
    have HXK : Hid (∀ p ∈ xs, KSVW p.1 ∧ VSVW p.2) := Lib.hid (by rw [hxs]; exact txL_kinds hws)
    have b4 := hmg.m2.w2
    have HZ := Lib.hid (And.intro hz2 hn)
    clear hW1 l1 hz1 lw1 bY l2 h htx hL HS HB0 hmq hws hmg HM hxs hxa hxb hz2 hn
    gi_wp2_with fail
    refine range_lawA (Tw := MrgTVW) (gf := 67) (lb := #[.pointer (some ⟨n + 5, 0, none⟩), .pointer (some ⟨n + 6, 0, none⟩)]) rfl (enters_of Try.func67 (by kernel_rfl) rfl) (Wr := Wr) (xs := xs) hseq (by intro x; rfl)
      (fun pre W2 => J (seenW pre) W2 ∧ Boxed W2 W.heap.size 94 (.func (.yield l) #[] #[]) ∧ Boxed W2 (n + 4) 9 (str lo))
      (fun c _ W2 => c = .ret ∧ ∃ out, (∃ t', seenW xs = out ++ t') ∧ Jx out W2)
      (OwnFromT.and ?ownj (OwnFromT.and (boxed_ownT (Tw := MrgTVW) _ _ (fun _ : List (Value × Value) => .func (.yield l) #[] #[]) (by unfold MrgTVW; decide) |>.from _) (boxed_ownT (Tw := MrgTVW) _ _ (fun _ : List (Value × Value) => str lo) (by unfold MrgTVW; decide) |>.from _))) (fun c => ?ownx) ⟨hj0, bY2, b4⟩ (fun pre W2 h => ⟨hOk _ _ h.1, h.2.2.cell⟩)
      (fun x b => { tmps := #[.func (.yield l) #[] #[], .pointer (some ⟨b1, 0, none⟩), .pointer (some ⟨b2, 0, none⟩), .pointer (some ⟨b3, 0, none⟩), .pointer (some ⟨W.heap.size, 0, none⟩), x.1, .pointer (some ⟨b, 0, none⟩), .pointer (some ⟨tb, 0, none⟩), str lo, str [], stF n, .pointer (some ⟨tb, 0, none⟩), str lo, str [], wrF n, .func (.func 67) #[] #[.pointer (some ⟨n + 5, 0, none⟩), .pointer (some ⟨n + 6, 0, none⟩)], x.1, x.2, undef, undef, undef, undef, undef, undef, undef, undef, undef, undef, undef], defers := [] }) (fun x => .cells #[wA x.2, wB x.2, wC x.2] 58) ?assign ?body ?done ?stop
    case ownj =>
      rintro s' X Y row hj hg hr
      exact hJ _ _ _ _ hj hg (fun r e => ⟨by have := (hr r e).1; have := HZ.out; omega, (hr r e).2⟩)
    case ownx =>
      rintro s' X Y row ⟨hc, out, ht, hj⟩ hg hr
      exact ⟨hc, out, ht, hJx _ _ _ _ hj hg (fun r e => ⟨by have := (hr r e).1; have := HZ.out; omega, (hr r e).2⟩)⟩
    case assign =>
      intro l2 x W' K hx2 hK
      obtain ⟨xk, xv⟩ := x
      obtain ⟨⟨kx, hkx⟩, ⟨ya, yb, yc, hyv⟩⟩ := HXK.out _ hx2
      dsimp only at hkx hyv
      subst hkx hyv
      have HK := Lib.hid hK
      clear hK
      dsimp only
      gi_wp2
      exact HK.out
    case body =>
      rintro l2 pre ⟨xk, xv⟩ b W2 hl2 hbl hbo ⟨hj, hby, hb4⟩ ⟨tl, ht⟩
      obtain ⟨⟨key, rfl⟩, ⟨ya, yb, yc, rfl⟩⟩ := HXK.out (xk, xv) (by rw [ht]; simp)
      have hbx : W2.heap[b]? = some (.cells #[str ya, str yb, .bool yc] 58 (0, 0)) := hbo
      have z1 : W2.cell? ⟨b, 1, none⟩ = some (str yb) := cell_of_row W2 b 1 _ _ (0, 0) hbx
      have z2 : W2.cell? ⟨b, 2, none⟩ = some (.bool yc) := cell_of_row W2 b 2 _ _ (0, 0) hbx
      have cY : W2.cell? ⟨W.heap.size, 0, none⟩ = some (.func (.yield l) #[] #[]) := hby.cell
      have hsn := seenW_snoc pre (str key, .agg #[str ya, str yb, .bool yc])
      rw [decW_eq] at hsn
      have hst : seenW xs = seenW pre ++ ((if yc then none else some (key, yb)).toList ++ seenW tl) := by
        rw [ht, show (str key, Value.agg #[str ya, str yb, .bool yc]) :: tl = [(str key, Value.agg #[str ya, str yb, .bool yc])] ++ tl from rfl, ← List.append_assoc, seenW_app, hsn, List.append_assoc]
      clear hbo hbx ht hseq hj0 bY2 b4
      dsimp only
      cases yc with
      | true =>
        have HH := Lib.hid (And.intro hsn (And.intro hj (And.intro hby hb4)))
        clear hsn hst hj hby hb4
        gi_wp2_with fail
        obtain ⟨e1, e2, e3, e4⟩ := HH.out
        exact ⟨KT.refl _ _ _, by rw [e1]; simpa using e2, e3, e4⟩
      | false =>
        have hY1 := hY (seenW pre) (key, yb) W2 hj ⟨seenW tl, by rw [hst]; rfl⟩ 6
        obtain ⟨fn, tmps, assign, body, hy, hR⟩ := hY1
        have HH := Lib.hid (And.intro hsn (And.intro hst (And.intro hby hb4)))
        dsimp only at hy hR
        clear hsn hst hj hby hb4
        gi_wp2_with (refine hR.mono ?_; clear hR; rintro e W4 ⟨hk, ⟨rfl, hj4⟩ | ⟨rfl, hx4⟩⟩)
        · obtain ⟨e1, e2, e3, e4⟩ := HH.out
          have hz := HZ.out
          exact ⟨hk.more (by omega), by rw [e1]; exact hj4, hk.box e3 (Nat.le_refl _) hw5, hk.box e4 (by omega) hw6⟩
        · obtain ⟨e1, e2, e3, e4⟩ := HH.out
          have hz := HZ.out
          exact ⟨hk.more (by omega), rfl, _, ⟨seenW tl, by rw [e2, ← List.append_assoc]; rfl⟩, hx4⟩
    case done =>
      rintro D W2 hD ⟨hj, _, _⟩ hK
      gi_wp2
      refine ⟨by simp, .inl ⟨_, _, rfl, run_takeDeferred hK, ?_⟩⟩
      exact ⟨_, results_none rfl _ _ _, ⟨_, rfl⟩, .inl (hJ.plain.putObj _ hj (by have := HZ.out; omega) hK rfl)⟩
    case stop =>
      rintro D c pre W2 hD hx ⟨rfl, out, ht, hj⟩ hK
      gi_wp2
      refine ⟨by simp, .inl ⟨_, _, rfl, run_takeDeferred hK, ?_⟩⟩
      exact ⟨_, results_none rfl _ _ _, ⟨_, rfl⟩, .inr ⟨out, ht, hJx.plain.putObj _ hj (by have := HZ.out; omega) hK rfl⟩⟩
end Go.Proofs.Ytcgjiddiegepkaa
