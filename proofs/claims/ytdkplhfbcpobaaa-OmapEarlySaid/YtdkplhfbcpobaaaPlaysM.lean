/- OmapPlays: words. -/
import Derived.Test.YtdkplhfbcpobaaaAlike
import Derived.Test.YtdkplhfbcpobaaaRDelMath
import Derived.Test.YtdkplhfbcpobaaaDelIS
import Derived.Test.YtdkplhfbcpobaaaCopyIS
import Derived.Test.YtdkplhfbcpobaaaGetIS
namespace Go.Proofs.Ytdkplhfbcpobaaa
open Go.RowKit

theorem insL_enc (k : Int) (v : List UInt8) : ∀ l : List (Int × List UInt8), insL (.int .i64 k) (str v) (l.map encP) = (insK k v l).map encP
  | [] => rfl
  | p :: t => by
    obtain ⟨a, y⟩ := p
    simp only [List.map_cons, insK, encP, insL, lessV, decide_eq_true_eq]
    split
    · rfl
    · split
      · simp only [List.map_cons, encP]; rw [insL_enc k v t]
      · rfl
theorem delL_enc (k : Int) : ∀ l : List (Int × List UInt8), delL (.int .i64 k) (l.map encP) = (delK k l).map encP
  | [] => rfl
  | p :: t => by
    obtain ⟨a, y⟩ := p
    simp only [List.map_cons, delK, encP, delL, lessV, decide_eq_true_eq]
    split
    · rfl
    · split
      · simp only [List.map_cons, encP]; rw [delL_enc k t]
      · rfl
/-- The text of a key. -/
def getK (k : Int) : List (Int × List UInt8) → Option (List UInt8)
  | [] => none
  | p :: t => if k < p.1 then none else if p.1 < k then getK k t else some p.2
theorem getL_enc (k : Int) : ∀ l : List (Int × List UInt8), getL (.int .i64 k) (l.map encP) = (getK k l).map str
  | [] => rfl
  | p :: t => by
    obtain ⟨a, y⟩ := p
    simp only [List.map_cons, getK, encP, getL, lessV, decide_eq_true_eq]
    split
    · rfl
    · split
      · exact getL_enc k t
      · rfl
theorem getK_at (k : Int) : ∀ {l : List (Int × List UInt8)} {p : Nat}, p ≤ l.length → (∀ j (h : j < l.length), j < p → l[j].1 < k) → (∀ h : p < l.length, k ≤ l[p].1) →
    getK k l = if h : p < l.length then (if l[p].1 = k then some l[p].2 else none) else none
  | [], p, _, _, _ => by simp [getK]
  | a :: t, 0, _, _, h2 => by
    have h0 := h2 (by simp)
    simp only [List.getElem_cons_zero] at h0
    unfold getK
    by_cases e : k < a.1
    · rw [if_pos e, dif_pos (by simp), if_neg (by simp; omega)]
    · rw [if_neg e, if_neg (by omega), dif_pos (by simp), if_pos (by simp; omega)]
      rfl
  | a :: t, p + 1, hp, h1, h2 => by
    have h0 := h1 0 (by simp) (by omega)
    simp only [List.getElem_cons_zero] at h0
    unfold getK
    rw [if_neg (by omega), if_pos h0, getK_at k (l := t) (p := p) (by simpa using hp) (fun j hj hjp => h1 (j + 1) (by simpa using hj) (by omega)) (fun hb => h2 (by simpa using hb))]
    simp
theorem insK_len (k : Int) (v : List UInt8) : ∀ {l : List (Int × List UInt8)}, RisK l → ((insK k v l).length = l.length + 1 ∧ (¬ ∃ p ∈ l, p.1 = k)) ∨ ((insK k v l).length = l.length ∧ ∃ p ∈ l, p.1 = k)
  | [], _ => .inl ⟨rfl, by simp⟩
  | a :: t, h => by
    obtain ⟨h1, h2⟩ := h
    unfold insK
    by_cases e : k < a.1
    · rw [if_pos e]
      refine .inl ⟨rfl, ?_⟩
      rintro ⟨p, hp, rfl⟩
      rcases List.mem_cons.1 hp with rfl | hp
      · omega
      · have := h1 p hp; omega
    · rw [if_neg e]
      by_cases e2 : a.1 < k
      · rw [if_pos e2]
        rcases insK_len k v h2 with ⟨g1, g2⟩ | ⟨g1, p, hp, g2⟩
        · refine .inl ⟨by simp [g1], ?_⟩
          rintro ⟨p, hp, rfl⟩
          rcases List.mem_cons.1 hp with rfl | hp
          · omega
          · exact g2 ⟨p, hp, rfl⟩
        · exact .inr ⟨by simp [g1], p, List.mem_cons_of_mem _ hp, g2⟩
      · rw [if_neg e2]
        exact .inr ⟨rfl, a, by simp, by omega⟩
theorem delK_len2 (k : Int) : ∀ {l : List (Int × List UInt8)}, RisK l → (l.length = (delK k l).length ∧ (¬ ∃ p ∈ l, p.1 = k)) ∨ (l.length = (delK k l).length + 1 ∧ ∃ p ∈ l, p.1 = k)
  | [], _ => .inl ⟨rfl, by simp⟩
  | a :: t, h => by
    obtain ⟨h1, h2⟩ := h
    unfold delK
    by_cases e : k < a.1
    · rw [if_pos e]
      refine .inl ⟨rfl, ?_⟩
      rintro ⟨p, hp, rfl⟩
      rcases List.mem_cons.1 hp with rfl | hp
      · omega
      · have := h1 p hp; omega
    · rw [if_neg e]
      by_cases e2 : a.1 < k
      · rw [if_pos e2]
        rcases delK_len2 k h2 with ⟨g1, g2⟩ | ⟨g1, p, hp, g2⟩
        · refine .inl ⟨by simpa using g1, ?_⟩
          rintro ⟨p, hp, rfl⟩
          rcases List.mem_cons.1 hp with rfl | hp
          · omega
          · exact g2 ⟨p, hp, rfl⟩
        · exact .inr ⟨by simp [g1], p, List.mem_cons_of_mem _ hp, g2⟩
      · rw [if_neg e2]
        exact .inr ⟨rfl, a, by simp, by omega⟩
theorem ris_enc : ∀ {l : List (Int × List UInt8)}, RisK l → Ris (l.map encP)
  | [], _ => trivial
  | a :: t, h => by
    refine ⟨fun q hq => ?_, ris_enc h.2⟩
    obtain ⟨p, hp, rfl⟩ := List.mem_map.1 hq
    simpa [encP, lessV] using h.1 p hp
/-- Nodes lie on where rows turn. -/
theorem nk_frr {W W' : World} {bx base : Nat} {vo : Value} {l : List (Int × List UInt8)} (h : RowsP W bx base vo l) (hf : FrR W W' bx base vo) : NK W W' := by
  refine ⟨hf.size, fun g k x n ol or T hg => ?_⟩
  rw [hf.other g (Array.getElem?_eq_some_iff.1 hg).1 ?_ ?_]
  · exact hg
  · rintro rfl
    rw [h.box] at hg
    simp at hg
  · intro e
    rcases h.row.2 with ⟨h1, _⟩ | ⟨g', cap, cur, rfl, _, hc, _, _, h4, _⟩
    · rw [h1] at e; simp [Value.ownBlock] at e
    · obtain rfl : g = g' := by simpa [Value.ownBlock] using e
      rw [hc] at hg
      simp only [Option.some.injEq, Obj.cells.injEq] at hg
      obtain ⟨rfl, _⟩ := hg
      simp at h4
      omega
/-- A map and rows side by side. -/
structure PI (W₀ W : World) (b bx : Nat) (t : Tr) (L : List (Int × List UInt8)) (n : Nat) : Prop where
  tv : TInv W b n t
  rw : ∃ vo, RowsP W bx (bx + 1) vo L ∧ vo.ownBlock ≠ some b
  bl : Below W₀.heap.size W₀ W
  lb : W₀.heap.size ≤ b
  lx : W₀.heap.size ≤ bx
/-- A block of four cells. -/
def Box4 (W : World) (ob : Nat) (c0 c1 c2 c3 : Value) : Prop := W.heap[ob]? = some (.cells #[c0, c1, c2, c3] 31 (0, 0))
section
variable {W₀ W W' : World} {b bx n : Nat} {t : Tr} {L : List (Int × List UInt8)}
theorem PI.below (h : PI W₀ W b bx t L n) (hb : Below W.heap.size W W') : PI W₀ W' b bx t L n :=
  ⟨h.tv.below hb, h.rw.imp fun _ hv => ⟨hv.1.below hb, hv.2⟩, h.bl.trans (hb.mono h.bl.size), h.lb, h.lx⟩
theorem PI.more (h : PI W₀ W b bx t L n) {m : Nat} (hm : n ≤ m) : PI W₀ W b bx t L m :=
  ⟨⟨h.tv.mp, h.tv.ws, h.tv.rs, Nat.le_trans h.tv.ht hm, Nat.le_trans h.tv.len hm⟩, h.rw, h.bl, h.lb, h.lx⟩
/-- Rows lie on where a map turns. -/
theorem rows_only {vo : Value} (h : RowsP W bx (bx + 1) vo L) (hv : vo.ownBlock ≠ some b) (hm : MP W b t) (ho : Only b W W') : RowsP W' bx (bx + 1) vo L := by
  have hbx : bx ≠ b := by
    rintro rfl
    obtain ⟨u, v, T, hc⟩ := hm.two
    rw [h.box] at hc
    simp at hc
  refine ⟨by rw [ho.2 bx (Array.getElem?_eq_some_iff.1 h.box).1 hbx]; exact h.box, ⟨h.row.1, ?_⟩, h.ris, Nat.le_trans h.sz ho.1⟩
  rcases h.row.2 with hn | ⟨g, cap, cur, rfl, hg, hc, rest⟩
  · exact .inl hn
  · exact .inr ⟨g, cap, cur, rfl, hg, by rw [ho.2 g (Array.getElem?_eq_some_iff.1 hc).1 (fun e => hv (by rw [e]; rfl))]; exact hc, rest⟩
/-- The map turns. -/
theorem PI.map (h : PI W₀ W b bx t L n) {t' : Tr} {m : Nat} (hv : TInv W' b m t') (ho : Only b W W') (hb : Below b W W') : PI W₀ W' b bx t' L m := by
  obtain ⟨vo, h1, h2⟩ := h.rw
  exact ⟨hv, ⟨vo, rows_only h1 h2 h.tv.mp ho, h2⟩, h.bl.trans (hb.mono h.lb), h.lb, h.lx⟩
/-- Another map turns. -/
theorem PI.other {c : Nat} {t2 : Tr} (h : PI W₀ W c bx t L n) {L2 : List (Int × List UInt8)} {m : Nat} (h2 : PI W₀ W b bx t2 L2 m) (hne : c ≠ b) (ho : Only b W W') (hb : Below b W W') : PI W₀ W' c bx t L n := by
  obtain ⟨vo, h3, h4⟩ := h.rw
  obtain ⟨vo2, h5, h6⟩ := h2.rw
  have e : vo2 = vo := by
    have := h3.box.symm.trans h5.box
    simpa using this.symm
  subst e
  obtain ⟨u, v, T, hc⟩ := h2.tv.mp.two
  exact ⟨⟨h.tv.mp.only hc ho hne, h.tv.ws, h.tv.rs, h.tv.ht, h.tv.len⟩, ⟨vo2, rows_only h3 h6 h2.tv.mp ho, h4⟩, h.bl.trans (hb.mono h2.lb), h.lb, h.lx⟩
theorem mp_frr {vo : Value} (hm : MP W b t) (h : RowsP W bx (bx + 1) vo L) (hv : vo.ownBlock ≠ some b) (hf : FrR W W' bx (bx + 1) vo) : MP W' b t := by
  have hn := nk_frr h hf
  obtain ⟨T, o, hc, ht⟩ := hm
  refine ⟨T, o, ?_, tp_nk hn ht⟩
  rw [hf.other b (Array.getElem?_eq_some_iff.1 hc).1 ?_ (fun e => hv e.symm)]
  · exact hc
  · rintro rfl
    rw [h.box] at hc
    simp at hc
/-- The rows turn. -/
theorem PI.rows (h : PI W₀ W b bx t L n) {vo vo' : Value} {L' : List (Int × List UInt8)} (h1 : RowsP W bx (bx + 1) vo L) (hf : FrR W W' bx (bx + 1) vo) (h2 : RowsP W' bx (bx + 1) vo' L') (h3 : L' ≠ [] ∨ vo'.ownBlock = vo.ownBlock) : PI W₀ W' b bx t L' n := by
  obtain ⟨vo2, h5, h6⟩ := h.rw
  have e : vo2 = vo := by
    have := h1.box.symm.trans h5.box
    simpa using this.symm
  subst e
  have hm := mp_frr h.tv.mp h1 h6 hf
  refine ⟨⟨hm, h.tv.ws, h.tv.rs, h.tv.ht, h.tv.len⟩, ⟨vo', h2, ?_⟩, h.bl.trans (hf.bel _ h.lx (by have := h.lx; omega)), h.lb, h.lx⟩
  rcases h3 with h3 | h3
  · intro e
    obtain ⟨T, o, hc, _⟩ := hm
    cases L' with
    | nil => exact h3 rfl
    | cons p l =>
      rcases h2.row.2 with ⟨q, _⟩ | ⟨g, cap, cur, rfl, _, hg, _, _, _, q⟩
      · rw [q] at e; simp [Value.ownBlock] at e
      · obtain rfl : g = b := by simpa [Value.ownBlock] using e
        rw [hg] at hc
        simp only [Option.some.injEq, Obj.cells.injEq] at hc
        obtain ⟨rfl, _⟩ := hc
        have := congrArg (fun z => z[0]?) q
        simp [flatR] at this
  · rw [h3]; exact h6
theorem box4_only {ob : Nat} {c0 c1 c2 c3 : Value} (hm : MP W b t) (ho : Only b W W') (h : Box4 W ob c0 c1 c2 c3) : Box4 W' ob c0 c1 c2 c3 := by
  unfold Box4 at h ⊢
  rw [ho.2 ob (Array.getElem?_eq_some_iff.1 h).1]
  · exact h
  · rintro rfl
    obtain ⟨u, v, T, hc⟩ := hm.two
    rw [hc] at h
    simp at h
theorem box4_frr {ob : Nat} {c0 c1 c2 c3 vo : Value} (h1 : RowsP W bx (bx + 1) vo L) (hf : FrR W W' bx (bx + 1) vo) (h : Box4 W ob c0 c1 c2 c3) : Box4 W' ob c0 c1 c2 c3 := by
  unfold Box4 at h ⊢
  rw [hf.other ob (Array.getElem?_eq_some_iff.1 h).1]
  · exact h
  · rintro rfl
    rw [h1.box] at h
    simp at h
  · intro e
    rcases h1.row.2 with ⟨q, _⟩ | ⟨g, cap, cur, rfl, _, hg, _⟩
    · rw [q] at e; simp [Value.ownBlock] at e
    · obtain rfl : ob = g := by simpa [Value.ownBlock] using e
      rw [hg] at h
      simp at h
theorem Box4.below {ob : Nat} {c0 c1 c2 c3 : Value} (h : Box4 W ob c0 c1 c2 c3) (hb : Below W.heap.size W W') : Box4 W' ob c0 c1 c2 c3 := by
  unfold Box4 at h ⊢
  rw [hb.block ob (Array.getElem?_eq_some_iff.1 h).1]; exact h
theorem Box4.cells {ob : Nat} {c0 c1 c2 c3 : Value} (h : Box4 W ob c0 c1 c2 c3) : W.cell? ⟨ob, 0, none⟩ = some c0 ∧ W.cell? ⟨ob, 1, none⟩ = some c1 ∧ W.cell? ⟨ob, 2, none⟩ = some c2 ∧ W.cell? ⟨ob, 3, none⟩ = some c3 := by
  unfold Box4 at h
  refine ⟨?_, ?_, ?_, ?_⟩ <;> simp [World.cell?, h]
end
end Go.Proofs.Ytdkplhfbcpobaaa
