/- Lists of keys that rise, each with something: plain facts. -/
import Derived.Test.YtdlacjdddjebgaaTrMap
import Derived.Test.YtdlacjdddjebgaaTrDel
namespace Go.Proofs.Ytdlacjdddjebgaa
open Go.RowKit

section
variable {Y : Type}
/-- Keys rise. -/
def RisB (l : List (List UInt8 × Y)) : Prop := l.Pairwise (fun a b => Op.bytesLess a.1 b.1 = true)
/-- Put, got, taken away. -/
def insB (k : List UInt8) (y : Y) : List (List UInt8 × Y) → List (List UInt8 × Y)
  | [] => [(k, y)]
  | (k', y') :: t => if Op.bytesLess k k' = true then (k, y) :: (k', y') :: t else if Op.bytesLess k' k = true then (k', y') :: insB k y t else (k, y) :: t
def getB (k : List UInt8) : List (List UInt8 × Y) → Option Y
  | [] => none
  | (k', y') :: t => if Op.bytesLess k k' = true then none else if Op.bytesLess k' k = true then getB k t else some y'
def pairB (f : Y → Value) (p : List UInt8 × Y) : Value × Value := (str p.1, f p.2)
theorem lessB (a b : List UInt8) : lessV (str a) (str b) = Op.bytesLess a b := rfl
theorem ins_map (f : Y → Value) (k : List UInt8) (y : Y) : ∀ l : List (List UInt8 × Y), insL (str k) (f y) (l.map (pairB f)) = (insB k y l).map (pairB f)
  | [] => rfl
  | (k', y') :: t => by
    have ih := ins_map f k y t
    cases h1 : Op.bytesLess k k' with
    | true => simp [insB, pairB, insL, h1, (lessB k k').trans h1]
    | false =>
      cases h2 : Op.bytesLess k' k with
      | true => simp only [List.map_cons, insB, pairB, insL, h1, h2, (lessB k k').trans h1, (lessB k' k).trans h2, Bool.false_eq_true, if_false, if_true]; exact congrArg _ ih
      | false => simp [insB, pairB, insL, h1, h2, (lessB k k').trans h1, (lessB k' k).trans h2]
theorem get_map (f : Y → Value) (k : List UInt8) : ∀ l : List (List UInt8 × Y), getL (str k) (l.map (pairB f)) = (getB k l).map f
  | [] => rfl
  | (k', y') :: t => by
    have ih := get_map f k t
    cases h1 : Op.bytesLess k k' with
    | true => simp [getB, pairB, getL, h1, (lessB k k').trans h1]
    | false =>
      cases h2 : Op.bytesLess k' k with
      | true => simp only [List.map_cons, getB, pairB, getL, h1, h2, (lessB k k').trans h1, (lessB k' k).trans h2, Bool.false_eq_true, if_false, if_true]; exact ih
      | false => simp [getB, pairB, getL, h1, h2, (lessB k k').trans h1, (lessB k' k).trans h2]
theorem ris_map (f : Y → Value) : ∀ l : List (List UInt8 × Y), Ris (l.map (pairB f)) ↔ RisB l
  | [] => by simp [Ris, RisB]
  | (k', y') :: t => by
    have ih := ris_map f t
    unfold RisB at ih ⊢
    rw [List.pairwise_cons, List.map_cons]
    simp only [pairB, Ris]
    rw [ih]
    constructor
    · rintro ⟨h1, h2⟩
      exact ⟨fun q hq => h1 (pairB f q) (List.mem_map_of_mem hq), h2⟩
    · rintro ⟨h1, h2⟩
      refine ⟨fun q hq => ?_, h2⟩
      obtain ⟨p, hp, rfl⟩ := List.mem_map.1 hq
      exact h1 p hp
theorem getB_mem {k : List UInt8} {y : Y} : ∀ {l : List (List UInt8 × Y)}, getB k l = some y → (k, y) ∈ l
  | (k', y') :: t, h => by
    unfold getB at h
    split at h
    · cases h
    · next h1 =>
      split at h
      · exact List.mem_cons_of_mem _ (getB_mem h)
      · next h2 =>
        have e : k = k' := bl_tot k k' (by simpa using h1) (by simpa using h2)
        subst e
        cases h
        exact List.mem_cons_self ..
theorem insB_mem {k : List UInt8} {y : Y} : ∀ {l : List (List UInt8 × Y)}, RisB l → ∀ x ∈ insB k y l, x = (k, y) ∨ (x ∈ l ∧ x.1 ≠ k)
  | [], _, x, hx => .inl (by simpa [insB] using hx)
  | (k', y') :: t, hr, x, hx => by
    obtain ⟨r1, r2⟩ := List.pairwise_cons.1 hr
    have ne : ∀ {a b : List UInt8}, Op.bytesLess a b = true → b ≠ a := fun {a b} h e => by subst e; rw [bl_irr] at h; cases h
    unfold insB at hx
    split at hx
    · next h1 =>
      rcases List.mem_cons.1 hx with rfl | hx
      · exact .inl rfl
      · refine .inr ⟨hx, ?_⟩
        rcases List.mem_cons.1 hx with rfl | hx
        · exact ne h1
        · exact ne (bl_tr _ _ _ h1 (r1 x hx))
    · next h1 =>
      split at hx
      · next h2 =>
        rcases List.mem_cons.1 hx with rfl | hx
        · exact .inr ⟨List.mem_cons_self .., fun e => ne h2 e.symm⟩
        · rcases insB_mem r2 x hx with h | ⟨h, h'⟩
          · exact .inl h
          · exact .inr ⟨List.mem_cons_of_mem _ h, h'⟩
      · next h2 =>
        have e : k = k' := bl_tot k k' (by simpa using h1) (by simpa using h2)
        subst e
        rcases List.mem_cons.1 hx with rfl | hx
        · exact .inl rfl
        · exact .inr ⟨List.mem_cons_of_mem _ hx, ne (r1 x hx)⟩
theorem insB_ris {k : List UInt8} {y : Y} : ∀ {l : List (List UInt8 × Y)}, RisB l → RisB (insB k y l)
  | [], _ => by simp [insB, RisB]
  | (k', y') :: t, hr => by
    obtain ⟨r1, r2⟩ := List.pairwise_cons.1 hr
    unfold insB
    split
    · next h1 =>
      refine List.pairwise_cons.2 ⟨fun x hx => ?_, hr⟩
      rcases List.mem_cons.1 hx with rfl | hx
      · exact h1
      · exact bl_tr _ _ _ h1 (r1 x hx)
    · next h1 =>
      split
      · next h2 =>
        refine List.pairwise_cons.2 ⟨fun x hx => ?_, insB_ris r2⟩
        rcases insB_mem r2 x hx with rfl | ⟨h, _⟩
        · exact h2
        · exact r1 x h
      · next h2 =>
        have e : k = k' := bl_tot k k' (by simpa using h1) (by simpa using h2)
        subst e
        exact List.pairwise_cons.2 ⟨r1, r2⟩
theorem insB_len (k : List UInt8) (y : Y) : ∀ l : List (List UInt8 × Y), (insB k y l).length ≤ l.length + 1
  | [] => by simp [insB]
  | (k', y') :: t => by
    have := insB_len k y t
    unfold insB
    split
    · simp
    · split <;> simp <;> omega
/-- What holds of all pairs of unlike keys holds behind a put. -/
theorem insB_pairs {R : List UInt8 × Y → List UInt8 × Y → Prop} (hs : ∀ a b, R a b → R b a) {k : List UInt8} {y : Y} : ∀ {l : List (List UInt8 × Y)}, RisB l → l.Pairwise R → (∀ x ∈ l, x.1 ≠ k → R (k, y) x) → (insB k y l).Pairwise R
  | [], _, _, _ => by simp [insB]
  | (k', y') :: t, hr, hp, h => by
    obtain ⟨r1, r2⟩ := List.pairwise_cons.1 hr
    obtain ⟨p1, p2⟩ := List.pairwise_cons.1 hp
    have ne : ∀ {a b : List UInt8}, Op.bytesLess a b = true → b ≠ a := fun {a b} h e => by subst e; rw [bl_irr] at h; cases h
    unfold insB
    split
    · next h1 =>
      refine List.pairwise_cons.2 ⟨fun x hx => h x hx ?_, hp⟩
      rcases List.mem_cons.1 hx with rfl | hx
      · exact ne h1
      · exact ne (bl_tr _ _ _ h1 (r1 x hx))
    · next h1 =>
      split
      · next h2 =>
        refine List.pairwise_cons.2 ⟨fun x hx => ?_, insB_pairs hs r2 p2 (fun x hx => h x (List.mem_cons_of_mem _ hx))⟩
        rcases insB_mem r2 x hx with rfl | ⟨hx, _⟩
        · exact hs _ _ (h (k', y') (List.mem_cons_self ..) (fun e => ne h2 e.symm))
        · exact p1 x hx
      · next h2 =>
        have e : k = k' := bl_tot k k' (by simpa using h1) (by simpa using h2)
        subst e
        exact List.pairwise_cons.2 ⟨fun x hx => h x (List.mem_cons_of_mem _ hx) (ne (r1 x hx)), p2⟩
/-- In the middle. -/
theorem insB_mid {k : List UInt8} {y y0 : Y} {b : List (List UInt8 × Y)} : ∀ {a : List (List UInt8 × Y)}, RisB (a ++ (k, y0) :: b) → insB k y (a ++ (k, y0) :: b) = a ++ (k, y) :: b
  | [], _ => by simp [insB, bl_irr]
  | (k', y') :: t, hr => by
    obtain ⟨r1, r2⟩ := List.pairwise_cons.1 hr
    have hl : Op.bytesLess k' k = true := r1 (k, y0) (by simp)
    have hl2 : Op.bytesLess k k' = false := by
      cases e : Op.bytesLess k k' with
      | false => rfl
      | true => have := bl_tr _ _ _ e hl; rw [bl_irr] at this; cases this
    simp only [List.cons_append, insB, hl, hl2, Bool.false_eq_true, if_false, if_true]
    rw [insB_mid r2]
theorem delL_mid {f : Y → Value} {k : List UInt8} {y0 : Y} {b : List (List UInt8 × Y)} : ∀ {a : List (List UInt8 × Y)}, RisB (a ++ (k, y0) :: b) → delL (str k) ((a ++ (k, y0) :: b).map (pairB f)) = (a ++ b).map (pairB f)
  | [], _ => by simp [delL, pairB, (lessB k k).trans (bl_irr k)]
  | (k', y') :: t, hr => by
    obtain ⟨r1, r2⟩ := List.pairwise_cons.1 hr
    have hl : Op.bytesLess k' k = true := r1 (k, y0) (by simp)
    have hl2 : Op.bytesLess k k' = false := by
      cases e : Op.bytesLess k k' with
      | false => rfl
      | true => have := bl_tr _ _ _ e hl; rw [bl_irr] at this; cases this
    have ih := delL_mid (f := f) r2
    simp only [List.cons_append, List.map_cons, pairB, delL, (lessB k' k).trans hl, (lessB k k').trans hl2, Bool.false_eq_true, if_false, if_true]
    exact congrArg _ ih
theorem getB_put {k : List UInt8} {y : Y} : ∀ {l : List (List UInt8 × Y)}, getB k (insB k y l) = some y
  | [] => by simp [insB, getB, bl_irr]
  | (k', y') :: t => by
    unfold insB
    split
    · simp [getB, bl_irr]
    · next h1 =>
      split
      · next h2 =>
        simp only [getB, h2, if_true]
        rw [if_neg h1]
        exact getB_put
      · simp [getB, bl_irr]
end
/-- What holds of each two holds of any two. -/
theorem pairs_at {Y : Type} {R : Y → Y → Prop} (hs : ∀ a b, R a b → R b a) : ∀ {l : List Y}, l.Pairwise R → ∀ a ∈ l, ∀ b ∈ l, a ≠ b → R a b
  | [], _, a, ha, _, _, _ => by cases ha
  | x :: t, hp, a, ha, b, hb, hne => by
    obtain ⟨p1, p2⟩ := List.pairwise_cons.1 hp
    rcases List.mem_cons.1 ha with h1 | h1
    · rcases List.mem_cons.1 hb with h2 | h2
      · exact absurd (h1.trans h2.symm) hne
      · rw [h1]; exact p1 b h2
    · rcases List.mem_cons.1 hb with h2 | h2
      · rw [h2]; exact hs _ _ (p1 a h1)
      · exact pairs_at hs p2 a h1 b h2 hne
end Go.Proofs.Ytdlacjdddjebgaa
