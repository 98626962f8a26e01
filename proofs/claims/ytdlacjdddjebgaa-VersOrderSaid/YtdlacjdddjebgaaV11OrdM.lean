/- VersOrder: plain facts: keys put once each, in whatever order, make the same chains. -/
import Derived.Test.YtdlacjdddjebgaaV11StayN
namespace Go.Proofs.Ytdlacjdddjebgaa
open Go.RowKit

theorem risB_ext {Y : Type} : ∀ {l m : List (List UInt8 × Y)}, RisB l → RisB m → (∀ x, x ∈ l ↔ x ∈ m) → l = m
  | [], [], _, _, _ => rfl
  | [], y :: m, _, _, h => by have := (h y).2 (by simp); simp at this
  | x :: l, [], _, _, h => by have := (h x).1 (by simp); simp at this
  | x :: l, y :: m, hl, hm, h => by
    obtain ⟨l1, l2⟩ := List.pairwise_cons.1 hl
    obtain ⟨m1, m2⟩ := List.pairwise_cons.1 hm
    have hxy : x = y := by
      rcases List.mem_cons.1 ((h x).1 (by simp)) with e | hx
      · exact e
      · rcases List.mem_cons.1 ((h y).2 (by simp)) with e | hy
        · exact e.symm
        · have := bl_tr _ _ _ (l1 y hy) (m1 x hx)
          rw [bl_irr] at this; cases this
    subst hxy
    rw [risB_ext l2 m2 (fun z => ⟨fun hz => ?_, fun hz => ?_⟩)]
    · rcases List.mem_cons.1 ((h z).1 (by simp [hz])) with rfl | hz'
      · have := l1 z hz; rw [bl_irr] at this; cases this
      · exact hz'
    · rcases List.mem_cons.1 ((h z).2 (by simp [hz])) with rfl | hz'
      · have := m1 z hz; rw [bl_irr] at this; cases this
      · exact hz'
theorem mem_ins_new {Y : Type} {k : List UInt8} {y : Y} {x : List UInt8 × Y} : ∀ {l : List (List UInt8 × Y)}, getB k l = none → (x ∈ insB k y l ↔ x = (k, y) ∨ x ∈ l)
  | [], _ => by simp [insB]
  | (k', y') :: t, h => by
    unfold getB at h
    unfold insB
    cases h1 : Op.bytesLess k k' with
    | true => simp
    | false =>
      cases h2 : Op.bytesLess k' k with
      | true =>
        simp only [h1, h2, Bool.false_eq_true, if_false, if_true] at h ⊢
        rw [List.mem_cons, mem_ins_new h, List.mem_cons]
        constructor
        · rintro (h | h | h)
          · exact .inr (.inl h)
          · exact .inl h
          · exact .inr (.inr h)
        · rintro (h | h | h)
          · exact .inr (.inl h)
          · exact .inl h
          · exact .inr (.inr h)
      | false => simp [h1, h2] at h
theorem get_ins_ne {Y : Type} {k k2 : List UInt8} {y : Y} (hne : k2 ≠ k) : ∀ {l : List (List UInt8 × Y)}, getB k2 (insB k y l) = getB k2 l
  | [] => by
    unfold insB getB getB
    cases h1 : Op.bytesLess k2 k with
    | true => simp
    | false =>
      cases h2 : Op.bytesLess k k2 with
      | true => simp
      | false => exact absurd (bl_tot _ _ h1 h2) hne
  | (k', y') :: t => by
    have ih := get_ins_ne (y := y) hne (l := t)
    cases h1 : Op.bytesLess k k' with
    | true =>
      simp only [insB, h1, if_true]
      cases h3 : Op.bytesLess k2 k with
      | true => simp only [getB, h3, if_true, bl_tr _ _ _ h3 h1]
      | false =>
        cases h4 : Op.bytesLess k k2 with
        | true => simp only [getB, h3, h4, Bool.false_eq_true, if_false, if_true]
        | false => exact absurd (bl_tot _ _ h3 h4) hne
    | false =>
      cases h2 : Op.bytesLess k' k with
      | true => simp only [insB, h1, h2, Bool.false_eq_true, if_false, if_true, getB, ih]
      | false =>
        have e : k = k' := bl_tot k k' h1 h2
        subst e
        simp only [insB, h1, Bool.false_eq_true, if_false]
        cases h3 : Op.bytesLess k2 k with
        | true => simp only [getB, h3, if_true]
        | false =>
          cases h4 : Op.bytesLess k k2 with
          | true => simp only [getB, h3, h4, Bool.false_eq_true, if_false, if_true]
          | false => exact absurd (bl_tot _ _ h3 h4) hne
/-- The version that an operation puts. -/
def verO (o : Op11) : VerVS := if o.kind = 0 then (o.at1, o.v, false) else (o.at1, [], true)
def opsC (P : List Op11) (C : ChC) : ChC := P.foldl (fun C o => opC o C 0) C
theorem opC_new {o : Op11} (hk : o.kind = 0 ∨ o.kind = 1) {C : ChC} (h : getB o.key C = none) : opC o C 0 = if addCVS [] 0 (verO o) = 0 then insB o.key [verO o] C else C := by
  have hv : verC o.key C = [] := by unfold verC; rw [h]; rfl
  unfold opC verO
  rcases hk with e | e
  · rw [if_pos e, if_pos e]
    unfold putC
    rw [hv]; rfl
  · simp only [e, if_true]
    unfold putC
    rw [hv]; rfl
theorem ops_mem : ∀ {P : List Op11} {C : ChC}, (∀ o ∈ P, o.kind = 0 ∨ o.kind = 1) → P.Pairwise (fun a b => a.key ≠ b.key) → (∀ o ∈ P, getB o.key C = none) → ∀ x, x ∈ opsC P C ↔ x ∈ C ∨ ∃ o ∈ P, addCVS [] 0 (verO o) = 0 ∧ x = (o.key, [verO o])
  | [], C, _, _, _, x => by simp [opsC]
  | o :: P, C, hk, hp, hn, x => by
    obtain ⟨p1, p2⟩ := List.pairwise_cons.1 hp
    have h0 := hn o (by simp)
    have e := opC_new (hk o (by simp)) h0
    have hn' : ∀ q ∈ P, getB q.key (opC o C 0) = none := fun q hq => by
      rw [e]
      split
      · rw [get_ins_ne (fun h => p1 q hq h.symm)]; exact hn q (by simp [hq])
      · exact hn q (by simp [hq])
    have ih := ops_mem (C := opC o C 0) (fun q hq => hk q (by simp [hq])) p2 hn' x
    show x ∈ opsC P (opC o C 0) ↔ _
    rw [ih, e]
    by_cases hc : addCVS [] 0 (verO o) = 0
    · rw [if_pos hc, mem_ins_new h0]
      constructor
      · rintro ((h | h) | ⟨q, hq, h⟩)
        · exact .inr ⟨o, by simp, hc, h⟩
        · exact .inl h
        · exact .inr ⟨q, by simp [hq], h⟩
      · rintro (h | ⟨q, hq, h1, h2⟩)
        · exact .inl (.inr h)
        · rcases List.mem_cons.1 hq with rfl | hq
          · exact .inl (.inl h2)
          · exact .inr ⟨q, hq, h1, h2⟩
    · rw [if_neg hc]
      constructor
      · rintro (h | ⟨q, hq, h⟩)
        · exact .inl h
        · exact .inr ⟨q, by simp [hq], h⟩
      · rintro (h | ⟨q, hq, h1, h2⟩)
        · exact .inl h
        · rcases List.mem_cons.1 hq with rfl | hq
          · exact absurd h1 hc
          · exact .inr ⟨q, hq, h1, h2⟩
/-- The same operations in another order: the same chains. -/
theorem ops_order {P Q : List Op11} (hpq : P.Perm Q) (hk : ∀ o ∈ P, o.kind = 0 ∨ o.kind = 1) (hp : P.Pairwise (fun a b => a.key ≠ b.key)) (h1 : RisB (opsC P [])) (h2 : RisB (opsC Q [])) : opsC P [] = opsC Q [] := by
  have hq : Q.Pairwise (fun a b => a.key ≠ b.key) := (hpq.pairwise_iff (fun h e => h e.symm)).1 hp
  refine risB_ext h1 h2 (fun x => ?_)
  rw [ops_mem hk hp (fun _ _ => rfl), ops_mem (fun o ho => hk o (hpq.mem_iff.2 ho)) hq (fun _ _ => rfl)]
  constructor
  · rintro (h | ⟨o, ho, h⟩)
    · exact .inl h
    · exact .inr ⟨o, hpq.mem_iff.1 ho, h⟩
  · rintro (h | ⟨o, ho, h⟩)
    · exact .inl h
    · exact .inr ⟨o, hpq.mem_iff.2 ho, h⟩
end Go.Proofs.Ytdlacjdddjebgaa
