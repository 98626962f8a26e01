/- What a transaction sees, plainly; behind a write. -/
import Derived.Test.YtcgjiddiegepkaaTxTwoF
namespace Go.Proofs.Ytcgjiddiegepkaa
open Go.RowKit
section
variable {Y : Type}
theorem getB_none_low {k : List UInt8} : ∀ {l : List (List UInt8 × Y)}, (∀ x ∈ l, Op.bytesLess k x.1 = true) → getB k l = none
  | [], _ => rfl
  | x :: t, h => by
    unfold getB
    rw [if_pos (h x (by simp))]
theorem getB_iff {k : List UInt8} {y : Y} {l : List (List UInt8 × Y)} (hr : RisB l) : getB k l = some y ↔ (k, y) ∈ l := ⟨getB_mem, getB_in hr⟩
/-- Lists that rise and hold the same are the same. -/
theorem ris_ext : ∀ {a b : List (List UInt8 × Y)}, RisB a → RisB b → (∀ x, x ∈ a ↔ x ∈ b) → a = b
  | [], [], _, _, _ => rfl
  | [], y :: t, _, _, h => by have := (h y).2 (by simp); simp at this
  | x :: t, [], _, _, h => by have := (h x).1 (by simp); simp at this
  | x :: s, y :: t, ha, hb, h => by
    obtain ⟨ha1, ha2⟩ := List.pairwise_cons.1 ha
    obtain ⟨hb1, hb2⟩ := List.pairwise_cons.1 hb
    have hxy : x = y := by
      rcases List.mem_cons.1 ((h x).1 (by simp)) with e | e
      · exact e
      · rcases List.mem_cons.1 ((h y).2 (by simp)) with e2 | e2
        · exact e2.symm
        · have h1 := hb1 x e
          have h2 := ha1 y e2
          have := bl_tr _ _ _ h1 h2
          rw [bl_irr] at this; cases this
    subst hxy
    rw [ris_ext ha2 hb2 (fun z => ⟨fun hz => ?_, fun hz => ?_⟩)]
    · rcases List.mem_cons.1 ((h z).1 (by simp [hz])) with e | e
      · have := ha1 z hz
        rw [e, bl_irr] at this; cases this
      · exact e
    · rcases List.mem_cons.1 ((h z).2 (by simp [hz])) with e | e
      · have := hb1 z hz
        rw [e, bl_irr] at this; cases this
      · exact e
theorem ris_key {l : List (List UInt8 × Y)} (hr : RisB l) {x y : List UInt8 × Y} (hx : x ∈ l) (hy : y ∈ l) (e : x.1 = y.1) : x = y := by
  have h1 := getB_in hr (show (x.1, x.2) ∈ l from hx)
  have h2 := getB_in hr (show (y.1, y.2) ∈ l from hy)
  rw [e, h2] at h1
  simp only [Option.some.injEq] at h1
  exact Prod.ext e h1.symm
theorem mem_insB {k : List UInt8} {y : Y} {l : List (List UInt8 × Y)} (hr : RisB l) (x : List UInt8 × Y) : x ∈ insB k y l ↔ x = (k, y) ∨ (x ∈ l ∧ x.1 ≠ k) := by
  refine ⟨insB_mem hr x, fun h => ?_⟩
  have h2 : getB x.1 (insB k y l) = some x.2 := by
    rcases h with rfl | ⟨h1, h2⟩
    · exact getB_put
    · rw [getB_ins_other y h2]
      exact getB_in hr (show (x.1, x.2) ∈ l from h1)
  exact getB_mem h2
end
/-- What a write of the transaction's own tells. -/
def tellW (x : List UInt8 × WrT) : List PairT := if x.2.2.2 = true then [] else [(x.1, x.2.2.1)]
def sawP : List PairT → OwnL → List PairT
  | a, [] => a
  | [], x :: t => tellW x ++ sawP [] t
  | p :: a, x :: t => if Op.bytesLess p.1 x.1 = true then p :: sawP a (x :: t) else if Op.bytesLess x.1 p.1 = true then tellW x ++ sawP (p :: a) t else tellW x ++ sawP a t
termination_by a b => a.length + b.length
theorem saw_end (a : List PairT) : sawP a [] = a := by cases a <;> simp [sawP]
theorem dec_tell (x : List UInt8 × WrT) (l : List (Value × Value)) : seenW (pairB fW x :: l) = tellW x ++ seenW l := by
  unfold seenW
  obtain ⟨k, k', v, g⟩ := x
  rw [List.filterMap_cons]
  have e : decW (pairB fW (k, k', v, g)) = if g then none else some (k, v) := decW_eq k k' v g
  rw [e]
  cases g <;> rfl
theorem dec_st (p : PairT) (l : List (Value × Value)) : seenW (stW p :: l) = p :: seenW l := by
  unfold seenW
  rw [List.filterMap_cons]
  have e : decW (stW p) = some p := decW_eq p.1 p.1 p.2 false
  rw [e]
theorem seen_st : ∀ l : List PairT, seenW (l.map stW) = l
  | [] => rfl
  | p :: t => by rw [List.map_cons, dec_st, seen_st t]
theorem saw_plain : ∀ (A : List PairT) (L : OwnL), seenW (mrgL (A.map stW) (L.map (pairB fW))) = sawP A L
  | A, [] => by rw [List.map_nil, mrg_end, saw_end, seen_st]
  | [], x :: t => by
    have ih := saw_plain [] t
    rw [List.map_nil] at ih ⊢
    rw [List.map_cons, mrg_none, dec_tell, ih, sawP]
  | p :: A, x :: t => by
    have h1 : lessV (stW p).1 (pairB fW x).1 = Op.bytesLess p.1 x.1 := lessB _ _
    have h2 : lessV (pairB fW x).1 (stW p).1 = Op.bytesLess x.1 p.1 := lessB _ _
    rw [List.map_cons, List.map_cons, sawP]
    cases e1 : Op.bytesLess p.1 x.1 with
    | true =>
      have ih := saw_plain A (x :: t)
      rw [List.map_cons] at ih
      rw [mrg_less (h1.trans e1), dec_st, ih]; simp
    | false =>
      cases e2 : Op.bytesLess x.1 p.1 with
      | true =>
        have ih := saw_plain (p :: A) t
        rw [List.map_cons] at ih
        rw [mrg_more (h1.trans e1) (h2.trans e2), dec_tell, ih]; simp
      | false =>
        rw [mrg_same (h1.trans e1) (h2.trans e2), dec_tell, saw_plain A t]; simp
termination_by A L => A.length + L.length
/-- Of whom a pair is. -/
def OwnP (A : List PairT) (L : OwnL) (z : PairT) : Prop := (∃ x ∈ L, x.1 = z.1 ∧ x.2.2.2 = false ∧ x.2.2.1 = z.2) ∨ (z ∈ A ∧ ∀ x ∈ L, x.1 ≠ z.1)
theorem mem_tell (x : List UInt8 × WrT) (z : PairT) : z ∈ tellW x ↔ x.1 = z.1 ∧ x.2.2.2 = false ∧ x.2.2.1 = z.2 := by
  unfold tellW
  cases h : x.2.2.2 with
  | true => simp
  | false =>
    simp only [Bool.false_eq_true, if_false, List.mem_singleton, true_and]
    constructor
    · rintro rfl; exact ⟨rfl, rfl⟩
    · rintro ⟨h1, h2⟩; exact Prod.ext h1.symm h2.symm
theorem lt_ne {a b : List UInt8} (h : Op.bytesLess a b = true) : a ≠ b := by rintro rfl; rw [bl_irr] at h; cases h
theorem mem_saw : ∀ (A : List PairT) (L : OwnL), RisB A → RisB L → ∀ z, z ∈ sawP A L ↔ OwnP A L z
  | A, [], _, _, z => by rw [saw_end]; simp [OwnP]
  | [], x :: t, ha, hl, z => by
    obtain ⟨_, hl2⟩ := List.pairwise_cons.1 hl
    have ih := mem_saw [] t ha hl2 z
    rw [sawP, List.mem_append, ih, mem_tell]
    simp [OwnP]
  | p :: A, x :: t, ha, hl, z => by
    obtain ⟨ha1, ha2⟩ := List.pairwise_cons.1 ha
    obtain ⟨hl1, hl2⟩ := List.pairwise_cons.1 hl
    rw [sawP]
    cases e1 : Op.bytesLess p.1 x.1 with
    | true =>
      have ih := mem_saw A (x :: t) ha2 hl z
      rw [if_pos rfl, List.mem_cons, ih]
      have hp : ∀ y ∈ x :: t, y.1 ≠ p.1 := fun y hy => by
        rcases List.mem_cons.1 hy with rfl | hy
        · exact (lt_ne e1).symm
        · exact (lt_ne (bl_tr _ _ _ e1 (hl1 y hy))).symm
      unfold OwnP
      constructor
      · rintro (rfl | h | ⟨h1, h2⟩)
        · exact .inr ⟨by simp, hp⟩
        · exact .inl h
        · exact .inr ⟨by simp [h1], h2⟩
      · rintro (h | ⟨h1, h2⟩)
        · exact .inr (.inl h)
        · rcases List.mem_cons.1 h1 with rfl | h1
          · exact .inl rfl
          · exact .inr (.inr ⟨h1, h2⟩)
    | false =>
      rw [if_neg (by simp)]
      cases e2 : Op.bytesLess x.1 p.1 with
      | true =>
        have ih := mem_saw (p :: A) t ha hl2 z
        rw [if_pos rfl, List.mem_append, ih, mem_tell]
        have hx : ∀ y ∈ p :: A, x.1 ≠ y.1 := fun y hy => by
          rcases List.mem_cons.1 hy with rfl | hy
          · exact lt_ne e2
          · exact lt_ne (bl_tr _ _ _ e2 (ha1 y hy))
        unfold OwnP
        constructor
        · rintro (h | ⟨y, h1, h2⟩ | ⟨h1, h2⟩)
          · exact .inl ⟨x, by simp, h⟩
          · exact .inl ⟨y, by simp [h1], h2⟩
          · exact .inr ⟨h1, fun y hy => by
              rcases List.mem_cons.1 hy with rfl | hy
              · exact hx z h1
              · exact h2 y hy⟩
        · rintro (⟨y, h1, h2⟩ | ⟨h1, h2⟩)
          · rcases List.mem_cons.1 h1 with rfl | h1
            · exact .inl h2
            · exact .inr (.inl ⟨y, h1, h2⟩)
          · exact .inr (.inr ⟨h1, fun y hy => h2 y (by simp [hy])⟩)
      | false =>
        have ex := bl_tot _ _ e1 e2
        have ih := mem_saw A t ha2 hl2 z
        rw [if_neg (by simp), List.mem_append, ih, mem_tell]
        unfold OwnP
        constructor
        · rintro (h | ⟨y, h1, h2⟩ | ⟨h1, h2⟩)
          · exact .inl ⟨x, by simp, h⟩
          · exact .inl ⟨y, by simp [h1], h2⟩
          · exact .inr ⟨by simp [h1], fun y hy => by
              rcases List.mem_cons.1 hy with rfl | hy
              · intro e
                have := ha1 z h1
                rw [ex, e, bl_irr] at this; cases this
              · exact h2 y hy⟩
        · rintro (⟨y, h1, h2⟩ | ⟨h1, h2⟩)
          · rcases List.mem_cons.1 h1 with rfl | h1
            · exact .inl h2
            · exact .inr (.inl ⟨y, h1, h2⟩)
          · rcases List.mem_cons.1 h1 with rfl | h1
            · exact absurd ex.symm (h2 x (by simp))
            · exact .inr (.inr ⟨h1, fun y hy => h2 y (by simp [hy])⟩)
termination_by A L => A.length + L.length
/-- All are above. -/
theorem own_low {A : List PairT} {L : OwnL} {k : List UInt8} (h1 : ∀ x ∈ A, Op.bytesLess k x.1 = true) (h2 : ∀ x ∈ L, Op.bytesLess k x.1 = true) {z : PairT} (h : OwnP A L z) : Op.bytesLess k z.1 = true := by
  rcases h with ⟨x, hx, e, _⟩ | ⟨hz, _⟩
  · rw [← e]; exact h2 x hx
  · exact h1 z hz
theorem ris_tell {x : List UInt8 × WrT} {l : List PairT} (hr : RisB l) (h : ∀ z ∈ l, Op.bytesLess x.1 z.1 = true) : RisB (tellW x ++ l) := by
  unfold tellW
  split
  · exact hr
  · exact List.pairwise_cons.2 ⟨h, hr⟩
theorem ris_saw : ∀ (A : List PairT) (L : OwnL), RisB A → RisB L → RisB (sawP A L)
  | A, [], ha, _ => by rw [saw_end]; exact ha
  | [], x :: t, ha, hl => by
    obtain ⟨hl1, hl2⟩ := List.pairwise_cons.1 hl
    rw [sawP]
    exact ris_tell (ris_saw [] t ha hl2) (fun z hz => own_low (fun _ h => by cases h) hl1 ((mem_saw [] t ha hl2 z).1 hz))
  | p :: A, x :: t, ha, hl => by
    obtain ⟨ha1, ha2⟩ := List.pairwise_cons.1 ha
    obtain ⟨hl1, hl2⟩ := List.pairwise_cons.1 hl
    rw [sawP]
    cases e1 : Op.bytesLess p.1 x.1 with
    | true =>
      rw [if_pos rfl]
      refine List.pairwise_cons.2 ⟨fun z hz => own_low ha1 (fun y hy => ?_) ((mem_saw A (x :: t) ha2 hl z).1 hz), ris_saw A (x :: t) ha2 hl⟩
      rcases List.mem_cons.1 hy with rfl | hy
      · exact e1
      · exact bl_tr _ _ _ e1 (hl1 y hy)
    | false =>
      rw [if_neg (by simp)]
      cases e2 : Op.bytesLess x.1 p.1 with
      | true =>
        rw [if_pos rfl]
        refine ris_tell (ris_saw (p :: A) t ha hl2) (fun z hz => own_low (fun y hy => ?_) hl1 ((mem_saw (p :: A) t ha hl2 z).1 hz))
        rcases List.mem_cons.1 hy with rfl | hy
        · exact e2
        · exact bl_tr _ _ _ e2 (ha1 y hy)
      | false =>
        have ex := bl_tot _ _ e1 e2
        rw [if_neg (by simp)]
        exact ris_tell (ris_saw A t ha2 hl2) (fun z hz => own_low (fun y hy => by rw [← ex]; exact ha1 y hy) hl1 ((mem_saw A t ha2 hl2 z).1 hz))
termination_by A L => A.length + L.length
/-- Pairs with a key's value, or without it. -/
def withP (l : List PairT) (key v : List UInt8) (gone : Bool) (p has : Nat) : List PairT := (l.take p ++ (if gone = true then [] else [(key, v)])) ++ l.drop (p + has)
theorem mem_with {l : List PairT} (hr : RisB l) {key v : List UInt8} {gone : Bool} {p has : Nat} (hp : PlaceB key l p) (h1 : has = if (∃ h : p < l.length, l[p].1 = key) then 1 else 0) : RisB (withP l key v gone p has) ∧ ∀ z, z ∈ withP l key v gone p has ↔ (z = (key, v) ∧ gone = false) ∨ (z ∈ l ∧ z.1 ≠ key) := by
  cases gone with
  | false =>
    have e : withP l key v false p has = insB key v l := by
      rw [insB_at key v hp, h1]
      unfold withP
      by_cases hk : ∃ h : p < l.length, l[p].1 = key
      · simp [if_pos hk]
      · simp [if_neg hk]
    rw [e]
    exact ⟨insB_ris hr, fun z => by rw [mem_insB hr]; simp⟩
  | true =>
    unfold withP
    simp only [if_true, List.append_nil]
    by_cases hk : ∃ h : p < l.length, l[p].1 = key
    · obtain ⟨hq, hk⟩ := hk
      rw [h1, if_pos ⟨hq, hk⟩]
      have e : l.take p ++ l.drop (p + 1) = l.eraseIdx p := by rw [List.eraseIdx_eq_take_drop_succ]
      rw [e]
      refine ⟨List.Pairwise.sublist (List.eraseIdx_sublist l p) hr, fun z => ?_⟩
      simp only [Bool.true_eq_false, and_false, false_or]
      rw [List.mem_eraseIdx_iff_getElem]
      constructor
      · rintro ⟨i, hi, hne, rfl⟩
        refine ⟨List.getElem_mem hi, fun e2 => ?_⟩
        have := List.pairwise_iff_getElem.1 hr
        rcases Nat.lt_or_gt_of_ne hne with h | h
        · have := this i p hi hq h
          rw [e2, hk, bl_irr] at this; cases this
        · have := this p i hq hi h
          rw [e2, hk, bl_irr] at this; cases this
      · rintro ⟨hz, hne⟩
        obtain ⟨i, hi, rfl⟩ := List.mem_iff_getElem.1 hz
        exact ⟨i, hi, fun e2 => by subst e2; exact hne hk, rfl⟩
    · rw [h1, if_neg hk, Nat.add_zero, List.take_append_drop]
      refine ⟨hr, fun z => ?_⟩
      simp only [Bool.true_eq_false, and_false, false_or]
      refine ⟨fun hz => ⟨hz, fun e => hk ?_⟩, fun h => h.1⟩
      have := getB_in hr (show (z.1, z.2) ∈ l from hz)
      rw [e, getB_at key hr hp] at this
      split at this
      · next h =>
        split at this
        · next h2 => exact ⟨h, h2⟩
        · cases this
      · cases this
/-- What is seen behind a write. -/
theorem saw_with {A : List PairT} {L : OwnL} (ha : RisB A) (hl : RisB L) {key v : List UInt8} {gone : Bool} {p has : Nat} (hp : PlaceB key (sawP A L) p) (h1 : has = if (∃ h : p < (sawP A L).length, (sawP A L)[p].1 = key) then 1 else 0) : sawP A (insB key (key, v, gone) L) = withP (sawP A L) key v gone p has := by
  obtain ⟨hr, hm⟩ := mem_with (ris_saw A L ha hl) (v := v) (gone := gone) hp h1
  refine ris_ext (ris_saw _ _ ha (insB_ris hl)) hr (fun z => ?_)
  rw [hm, mem_saw _ _ ha (insB_ris hl), mem_saw _ _ ha hl]
  unfold OwnP
  constructor
  · rintro (⟨x, hx, e1, e2, e3⟩ | ⟨hz, hn⟩)
    · rcases (mem_insB hl x).1 hx with rfl | ⟨hx, hne⟩
      · exact .inl ⟨Prod.ext e1.symm e3.symm, e2⟩
      · exact .inr ⟨.inl ⟨x, hx, e1, e2, e3⟩, fun e => hne (by rw [e1, e])⟩
    · have hzk : z.1 ≠ key := fun e => hn (key, key, v, gone) ((mem_insB hl _).2 (.inl rfl)) e.symm
      exact .inr ⟨.inr ⟨hz, fun x hx e => hn x ((mem_insB hl x).2 (.inr ⟨hx, fun e2 => hzk (by rw [← e, e2])⟩)) e⟩, hzk⟩
  · rintro (⟨rfl, hg⟩ | ⟨(⟨x, hx, e1, e2, e3⟩ | ⟨hz, hn⟩), hne⟩)
    · exact .inl ⟨(key, key, v, gone), (mem_insB hl _).2 (.inl rfl), rfl, hg, rfl⟩
    · exact .inl ⟨x, (mem_insB hl x).2 (.inr ⟨hx, fun e => hne (by rw [← e1, e])⟩), e1, e2, e3⟩
    · refine .inr ⟨hz, fun x hx e => ?_⟩
      rcases (mem_insB hl x).1 hx with rfl | ⟨hx, _⟩
      · exact hne e.symm
      · exact hn x hx e
/-- What Get tells of a key that is seen. -/
theorem get_saw {C : ChC} {L : OwnL} {at1 : Int} (hc : RisB C) (hl : RisB L) {z : PairT} (hz : z ∈ sawP (scanC at1 C) L) : txG L z.1 (seenVS (verC z.1 C) at1) = .returned (.tuple #[str z.2, .bool true]) := by
  unfold txG
  rcases (mem_saw _ _ (scan_ris hc) hl z).1 hz with ⟨x, hx, e1, e2, e3⟩ | ⟨hz, hn⟩
  · have hg := getB_in hl (show (x.1, x.2) ∈ L from hx)
    rw [e1] at hg
    rw [hg]
    dsimp only
    rw [e2, e3]; rfl
  · have hg : getB z.1 L = none := by
      cases e : getB z.1 L with
      | none => rfl
      | some y => exact absurd rfl (hn _ (getB_mem e))
    rw [hg]
    dsimp only
    rw [scan_at hc hz]; rfl
theorem sawT_eq (at1 : Int) (C : ChC) (L : OwnL) : sawT at1 C L = sawP (scanC at1 C) L := saw_plain _ _
end Go.Proofs.Ytcgjiddiegepkaa
