import Derived.Test.YtcgjiddiegepkaaTrMap
/- Trees of maps in order: taking away, plainly. -/
namespace Go.Proofs.Ytcgjiddiegepkaa
open Go.RowKit

/-- The least pair of a tree, and the tree without it. -/
def tlP (l : Tr) (k x : Value) : Value × Value :=
  match l with
  | .nil => (k, x)
  | .node l' k' x' _ _ => tlP l' k' x'
def tlR (l : Tr) (k x : Value) (r : Tr) : Tr :=
  match l with
  | .nil => r
  | .node l' k' x' _ r' => joinT k x (tlR l' k' x' r') r
theorem prs_tl : ∀ (l : Tr) (k x : Value) (r : Tr), prs l ++ (k, x) :: prs r = tlP l k x :: prs (tlR l k x r)
  | .nil, k, x, r => rfl
  | .node l' k' x' n r', k, x, r => by
    unfold tlP tlR
    rw [prs_join, prs_node, prs_tl l' k' x' r']; rfl
theorem WS.tl {K V : Value → Prop} : ∀ {l : Tr} {k x : Value} {r : Tr}, WS K V l → K k → V x → WS K V r → K (tlP l k x).1 ∧ V (tlP l k x).2 ∧ WS K V (tlR l k x r) ∧ ht (tlR l k x r) ≤ 1 + max (ht l) (ht r)
  | .nil, k, x, r, _, hk, hx, hr => ⟨hk, hx, hr, by show ht r ≤ _; omega⟩
  | .node l' k' x' n r', k, x, r, hl, hk, hx, hr => by
    obtain ⟨e, a1, a2, a3, a4⟩ := hl
    obtain ⟨b1, b2, b3, b4⟩ := WS.tl a3 a1 a2 a4
    obtain ⟨c1, c2⟩ := WS.join b3 hr hk hx
    refine ⟨b1, b2, c1, ?_⟩
    show ht (joinT k x (tlR l' k' x' r') r) ≤ 1 + max n (ht r)
    omega
/-- A tree without a key, and whether it was there. -/
def remT (k : Value) : Tr → Tr
  | .nil => .nil
  | .node l k' x' n r =>
    if lessV k k' = true then (if hasT k l = true then joinT k' x' (remT k l) r else .node l k' x' n r)
    else if lessV k' k = true then (if hasT k r = true then joinT k' x' l (remT k r) else .node l k' x' n r)
    else match l, r with
      | .nil, r => r
      | l, .nil => l
      | l, .node rl rk rx _ rr => joinT (tlP rl rk rx).1 (tlP rl rk rx).2 l (tlR rl rk rx rr)
where hasT (k : Value) : Tr → Bool
  | .nil => false
  | .node l k' _ _ r => if lessV k k' = true then hasT k l else if lessV k' k = true then hasT k r else true
abbrev hasT := remT.hasT
/-- Pairs without a key. -/
def delL (k : Value) : List (Value × Value) → List (Value × Value)
  | [] => []
  | (k', x') :: t => if lessV k k' = true then (k', x') :: t else if lessV k' k = true then (k', x') :: delL k t else t
theorem WS.rem {K V : Value → Prop} {k : Value} : ∀ {t : Tr}, WS K V t → WS K V (remT k t) ∧ ht (remT k t) ≤ ht t
  | .nil, _ => ⟨trivial, Nat.le_refl _⟩
  | .node l k' x' n r, h => by
    have h' := h
    obtain ⟨e, a1, a2, a3, a4⟩ := h
    unfold remT
    split
    · split
      · obtain ⟨b1, b2⟩ := WS.rem (k := k) a3
        obtain ⟨c1, c2⟩ := WS.join b1 a4 a1 a2
        exact ⟨c1, by show _ ≤ n; omega⟩
      · exact ⟨h', Nat.le_refl _⟩
    · split
      · split
        · obtain ⟨b1, b2⟩ := WS.rem (k := k) a4
          obtain ⟨c1, c2⟩ := WS.join a3 b1 a1 a2
          exact ⟨c1, by show _ ≤ n; omega⟩
        · exact ⟨h', Nat.le_refl _⟩
      · split
        · exact ⟨a4, by show _ ≤ n; omega⟩
        · exact ⟨a3, by show _ ≤ n; omega⟩
        · next rl rk rx m rr hne =>
          obtain ⟨e2, b1, b2, b3, b4⟩ := a4
          obtain ⟨c1, c2, c3, c4⟩ := WS.tl b3 b1 b2 b4
          obtain ⟨d1, d2⟩ := WS.join a3 c3 c1 c2
          refine ⟨d1, ?_⟩
          have e3 : n = 1 + max (ht l) m := e
          show _ ≤ n
          omega
theorem prs_rem {K V : Value → Prop} (O : Ord K) {k : Value} (hk : K k) : ∀ {t : Tr}, WS K V t → Ris (prs t) → prs (remT k t) = delL k (prs t) ∧ (hasT k t = false → delL k (prs t) = prs t) ∧ (hasT k t = (getL k (prs t)).isSome)
  | .nil, _, _ => ⟨rfl, fun _ => rfl, rfl⟩
  | .node l k' x' n r, h, hr => by
    obtain ⟨_, a1, a2, a3, a4⟩ := h
    rw [prs_node, ris_app] at hr
    obtain ⟨r1, r2, r3⟩ := hr
    obtain ⟨il1, il2, il3⟩ := prs_rem O hk a3 r1
    obtain ⟨ir1, ir2, ir3⟩ := prs_rem O hk a4 r2.2
    have hlk : ∀ p ∈ prs l, K p.1 ∧ lessV p.1 k' = true := fun p hp => ⟨(ws_keys a3 p hp).1, r3 p hp (k', x') (List.mem_cons_self ..)⟩
    have dleft : ∀ (a b : List (Value × Value)), lessV k k' = true → delL k (a ++ (k', x') :: b) = delL k a ++ (k', x') :: b ∧ getL k (a ++ (k', x') :: b) = getL k a := by
      intro a b g
      induction a with
      | nil => simp [delL, getL, g]
      | cons p a ih =>
        obtain ⟨c, y⟩ := p
        simp only [List.cons_append, delL, getL, ih.1, ih.2]
        refine ⟨?_, trivial⟩
        split
        · rfl
        · split <;> rfl
    have dright : ∀ (a b : List (Value × Value)), (∀ p ∈ a, lessV k p.1 = false ∧ lessV p.1 k = true) → delL k (a ++ b) = a ++ delL k b ∧ getL k (a ++ b) = getL k b := by
      intro a b ha
      induction a with
      | nil => exact ⟨rfl, rfl⟩
      | cons p a ih =>
        obtain ⟨c, y⟩ := p
        have h0 := ha (c, y) (List.mem_cons_self ..)
        have ih' := ih (fun p hp => ha p (List.mem_cons_of_mem _ hp))
        simp only [List.cons_append, delL, getL, h0.1, h0.2, Bool.false_eq_true, if_false, if_true, ih'.1, ih'.2, and_self]
    rw [prs_node]
    unfold remT
    simp only [hasT, remT.hasT]
    by_cases g : lessV k k' = true
    · simp only [g, if_true]
      obtain ⟨q1, q2⟩ := dleft (prs l) (prs r) g
      rw [q1, q2]
      refine ⟨?_, fun hn => by rw [il2 hn], il3⟩
      split
      · rw [prs_join, il1]
      · next hn => rw [prs_node, il2 (by simpa using hn)]
    · have g' : lessV k k' = false := by simpa using g
      simp only [g', Bool.false_eq_true, if_false]
      by_cases g2 : lessV k' k = true
      · simp only [g2, if_true]
        obtain ⟨q1, q2⟩ := dright (prs l) ((k', x') :: prs r) (fun p hp => by
          have q1 := O.tr p.1 k' k (hlk p hp).1 a1 hk (hlk p hp).2 g2
          exact ⟨O.asym (hlk p hp).1 hk q1, q1⟩)
        rw [q1, q2]
        have q3 : delL k ((k', x') :: prs r) = (k', x') :: delL k (prs r) := by simp only [delL, g', g2, Bool.false_eq_true, if_false, if_true]
        have q4 : getL k ((k', x') :: prs r) = getL k (prs r) := by simp only [getL, g', g2, Bool.false_eq_true, if_false, if_true]
        rw [q3, q4]
        refine ⟨?_, fun hn => by rw [ir2 hn], ir3⟩
        split
        · rw [prs_join, ir1]
        · next hn => rw [prs_node, ir2 (by simpa using hn)]
      · have g2' : lessV k' k = false := by simpa using g2
        simp only [g2', Bool.false_eq_true, if_false]
        have e := O.tot k k' hk a1 g' g2'
        subst e
        obtain ⟨q1, q2⟩ := dright (prs l) ((k, x') :: prs r) (fun p hp => ⟨O.asym (hlk p hp).1 hk (hlk p hp).2, (hlk p hp).2⟩)
        rw [q1, q2]
        have q3 : delL k ((k, x') :: prs r) = prs r := by simp only [delL, g', Bool.false_eq_true, if_false]
        have q4 : getL k ((k, x') :: prs r) = some x' := by simp only [getL, g', Bool.false_eq_true, if_false]
        rw [q3, q4]
        refine ⟨?_, (fun hn => by simp at hn), rfl⟩
        split
        · simp [prs]
        · simp [prs]
        · rw [prs_join, prs_node]
          exact congrArg (prs l ++ ·) (prs_tl _ _ _ _).symm
/-- What takeLeast tells. -/
def TlPost (P : Value × Value) (t : Tr) (w : World) (e : Ending) (w' : World) : Prop := ∃ p o, e = .returned (.tuple #[.pointer p, .pointer o]) ∧ KV w' p P.1 P.2 ∧ TP w' o t ∧ Below w.heap.size w w'
/-- What remove tells. -/
def RemPost (t : Tr) (z : Bool) (w : World) (e : Ending) (w' : World) : Prop := ∃ o', e = .returned (.tuple #[.pointer o', .bool z]) ∧ TP w' o' t ∧ Below w.heap.size w w'
/-- What is left of two trees of which one is none. -/
def oneT : Tr → Tr → Tr
  | .nil, r => r
  | .node l k x n r, _ => .node l k x n r
theorem len_rem (k : Value) : ∀ t : Tr, (prs t).length = (prs (remT k t)).length + if hasT k t = true then 1 else 0
  | .nil => by simp [remT, hasT, remT.hasT, prs]
  | .node l k' x' n r => by
    have il := len_rem k l
    have ir := len_rem k r
    unfold remT
    simp only [hasT, remT.hasT] at il ir ⊢
    split
    · next g =>
      split
      · next g2 => rw [if_pos g2] at il; rw [prs_join, prs_node, List.length_append, List.length_append]; omega
      · simp
    · split
      · split
        · next g2 => rw [if_pos g2] at ir; rw [prs_join, prs_node, List.length_append, List.length_append, List.length_cons, List.length_cons]; omega
        · simp
      · split
        · simp [prs]
        · simp [prs]
        · rw [prs_join, prs_node, List.length_append, List.length_append, prs_node, List.length_cons, List.length_cons, prs_tl]
          simp only [if_true, List.length_cons]; omega
end Go.Proofs.Ytcgjiddiegepkaa

/- Lists of keys that rise, each with something: plain facts. -/
namespace Go.Proofs.Ytcgjiddiegepkaa
open Go.RowKit

section
variable {Y : Type}
/-- Keys rise. -/
def RisB (l : List (List UInt8 × Y)) : Prop := l.Pairwise (fun a b => Op.bytesLess a.1 b.1 = true)
/-- Put, got, taken away. -/
def insB (k : List UInt8) (y : Y) : List (List UInt8 × Y) → List (List UInt8 × Y)
  | [] => [(k, y)]
  | (k', y') :: t => if Op.bytesLess k k' = true then (k, y) :: (k', y') :: t else if Op.bytesLess k' k = true then (k', y') :: insB k y t else (k, y) :: t
def getB (k : List UInt8) : List (List UInt8 × Y) → Option Y
  | [] => none
  | (k', y') :: t => if Op.bytesLess k k' = true then none else if Op.bytesLess k' k = true then getB k t else some y'
def pairB (f : Y → Value) (p : List UInt8 × Y) : Value × Value := (str p.1, f p.2)
theorem lessB (a b : List UInt8) : lessV (str a) (str b) = Op.bytesLess a b := rfl
theorem ins_map (f : Y → Value) (k : List UInt8) (y : Y) : ∀ l : List (List UInt8 × Y), insL (str k) (f y) (l.map (pairB f)) = (insB k y l).map (pairB f)
  | [] => rfl
  | (k', y') :: t => by
    have ih := ins_map f k y t
    cases h1 : Op.bytesLess k k' with
    | true => simp [insB, pairB, insL, h1, (lessB k k').trans h1]
    | false =>
      cases h2 : Op.bytesLess k' k with
      | true => simp only [List.map_cons, insB, pairB, insL, h1, h2, (lessB k k').trans h1, (lessB k' k).trans h2, Bool.false_eq_true, if_false, if_true]; exact congrArg _ ih
      | false => simp [insB, pairB, insL, h1, h2, (lessB k k').trans h1, (lessB k' k).trans h2]
theorem get_map (f : Y → Value) (k : List UInt8) : ∀ l : List (List UInt8 × Y), getL (str k) (l.map (pairB f)) = (getB k l).map f
  | [] => rfl
  | (k', y') :: t => by
    have ih := get_map f k t
    cases h1 : Op.bytesLess k k' with
    | true => simp [getB, pairB, getL, h1, (lessB k k').trans h1]
    | false =>
      cases h2 : Op.bytesLess k' k with
      | true => simp only [List.map_cons, getB, pairB, getL, h1, h2, (lessB k k').trans h1, (lessB k' k).trans h2, Bool.false_eq_true, if_false, if_true]; exact ih
      | false => simp [getB, pairB, getL, h1, h2, (lessB k k').trans h1, (lessB k' k).trans h2]
theorem ris_map (f : Y → Value) : ∀ l : List (List UInt8 × Y), Ris (l.map (pairB f)) ↔ RisB l
  | [] => by simp [Ris, RisB]
  | (k', y') :: t => by
    have ih := ris_map f t
    unfold RisB at ih ⊢
    rw [List.pairwise_cons, List.map_cons]
    simp only [pairB, Ris]
    rw [ih]
    constructor
    · rintro ⟨h1, h2⟩
      exact ⟨fun q hq => h1 (pairB f q) (List.mem_map_of_mem hq), h2⟩
    · rintro ⟨h1, h2⟩
      refine ⟨fun q hq => ?_, h2⟩
      obtain ⟨p, hp, rfl⟩ := List.mem_map.1 hq
      exact h1 p hp
theorem getB_mem {k : List UInt8} {y : Y} : ∀ {l : List (List UInt8 × Y)}, getB k l = some y → (k, y) ∈ l
  | (k', y') :: t, h => by
    unfold getB at h
    split at h
    · cases h
    · next h1 =>
      split at h
      · exact List.mem_cons_of_mem _ (getB_mem h)
      · next h2 =>
        have e : k = k' := bl_tot k k' (by simpa using h1) (by simpa using h2)
        subst e
        cases h
        exact List.mem_cons_self ..
theorem insB_mem {k : List UInt8} {y : Y} : ∀ {l : List (List UInt8 × Y)}, RisB l → ∀ x ∈ insB k y l, x = (k, y) ∨ (x ∈ l ∧ x.1 ≠ k)
  | [], _, x, hx => .inl (by simpa [insB] using hx)
  | (k', y') :: t, hr, x, hx => by
    obtain ⟨r1, r2⟩ := List.pairwise_cons.1 hr
    have ne : ∀ {a b : List UInt8}, Op.bytesLess a b = true → b ≠ a := fun {a b} h e => by subst e; rw [bl_irr] at h; cases h
    unfold insB at hx
    split at hx
    · next h1 =>
      rcases List.mem_cons.1 hx with rfl | hx
      · exact .inl rfl
      · refine .inr ⟨hx, ?_⟩
        rcases List.mem_cons.1 hx with rfl | hx
        · exact ne h1
        · exact ne (bl_tr _ _ _ h1 (r1 x hx))
    · next h1 =>
      split at hx
      · next h2 =>
        rcases List.mem_cons.1 hx with rfl | hx
        · exact .inr ⟨List.mem_cons_self .., fun e => ne h2 e.symm⟩
        · rcases insB_mem r2 x hx with h | ⟨h, h'⟩
          · exact .inl h
          · exact .inr ⟨List.mem_cons_of_mem _ h, h'⟩
      · next h2 =>
        have e : k = k' := bl_tot k k' (by simpa using h1) (by simpa using h2)
        subst e
        rcases List.mem_cons.1 hx with rfl | hx
        · exact .inl rfl
        · exact .inr ⟨List.mem_cons_of_mem _ hx, ne (r1 x hx)⟩
theorem insB_ris {k : List UInt8} {y : Y} : ∀ {l : List (List UInt8 × Y)}, RisB l → RisB (insB k y l)
  | [], _ => by simp [insB, RisB]
  | (k', y') :: t, hr => by
    obtain ⟨r1, r2⟩ := List.pairwise_cons.1 hr
    unfold insB
    split
    · next h1 =>
      refine List.pairwise_cons.2 ⟨fun x hx => ?_, hr⟩
      rcases List.mem_cons.1 hx with rfl | hx
      · exact h1
      · exact bl_tr _ _ _ h1 (r1 x hx)
    · next h1 =>
      split
      · next h2 =>
        refine List.pairwise_cons.2 ⟨fun x hx => ?_, insB_ris r2⟩
        rcases insB_mem r2 x hx with rfl | ⟨h, _⟩
        · exact h2
        · exact r1 x h
      · next h2 =>
        have e : k = k' := bl_tot k k' (by simpa using h1) (by simpa using h2)
        subst e
        exact List.pairwise_cons.2 ⟨r1, r2⟩
theorem insB_len (k : List UInt8) (y : Y) : ∀ l : List (List UInt8 × Y), (insB k y l).length ≤ l.length + 1
  | [] => by simp [insB]
  | (k', y') :: t => by
    have := insB_len k y t
    unfold insB
    split
    · simp
    · split <;> simp <;> omega
/-- What holds of all pairs of unlike keys holds behind a put. -/
theorem insB_pairs {R : List UInt8 × Y → List UInt8 × Y → Prop} (hs : ∀ a b, R a b → R b a) {k : List UInt8} {y : Y} : ∀ {l : List (List UInt8 × Y)}, RisB l → l.Pairwise R → (∀ x ∈ l, x.1 ≠ k → R (k, y) x) → (insB k y l).Pairwise R
  | [], _, _, _ => by simp [insB]
  | (k', y') :: t, hr, hp, h => by
    obtain ⟨r1, r2⟩ := List.pairwise_cons.1 hr
    obtain ⟨p1, p2⟩ := List.pairwise_cons.1 hp
    have ne : ∀ {a b : List UInt8}, Op.bytesLess a b = true → b ≠ a := fun {a b} h e => by subst e; rw [bl_irr] at h; cases h
    unfold insB
    split
    · next h1 =>
      refine List.pairwise_cons.2 ⟨fun x hx => h x hx ?_, hp⟩
      rcases List.mem_cons.1 hx with rfl | hx
      · exact ne h1
      · exact ne (bl_tr _ _ _ h1 (r1 x hx))
    · next h1 =>
      split
      · next h2 =>
        refine List.pairwise_cons.2 ⟨fun x hx => ?_, insB_pairs hs r2 p2 (fun x hx => h x (List.mem_cons_of_mem _ hx))⟩
        rcases insB_mem r2 x hx with rfl | ⟨hx, _⟩
        · exact hs _ _ (h (k', y') (List.mem_cons_self ..) (fun e => ne h2 e.symm))
        · exact p1 x hx
      · next h2 =>
        have e : k = k' := bl_tot k k' (by simpa using h1) (by simpa using h2)
        subst e
        exact List.pairwise_cons.2 ⟨fun x hx => h x (List.mem_cons_of_mem _ hx) (ne (r1 x hx)), p2⟩
/-- In the middle. -/
theorem insB_mid {k : List UInt8} {y y0 : Y} {b : List (List UInt8 × Y)} : ∀ {a : List (List UInt8 × Y)}, RisB (a ++ (k, y0) :: b) → insB k y (a ++ (k, y0) :: b) = a ++ (k, y) :: b
  | [], _ => by simp [insB, bl_irr]
  | (k', y') :: t, hr => by
    obtain ⟨r1, r2⟩ := List.pairwise_cons.1 hr
    have hl : Op.bytesLess k' k = true := r1 (k, y0) (by simp)
    have hl2 : Op.bytesLess k k' = false := by
      cases e : Op.bytesLess k k' with
      | false => rfl
      | true => have := bl_tr _ _ _ e hl; rw [bl_irr] at this; cases this
    simp only [List.cons_append, insB, hl, hl2, Bool.false_eq_true, if_false, if_true]
    rw [insB_mid r2]
theorem delL_mid {f : Y → Value} {k : List UInt8} {y0 : Y} {b : List (List UInt8 × Y)} : ∀ {a : List (List UInt8 × Y)}, RisB (a ++ (k, y0) :: b) → delL (str k) ((a ++ (k, y0) :: b).map (pairB f)) = (a ++ b).map (pairB f)
  | [], _ => by simp [delL, pairB, (lessB k k).trans (bl_irr k)]
  | (k', y') :: t, hr => by
    obtain ⟨r1, r2⟩ := List.pairwise_cons.1 hr
    have hl : Op.bytesLess k' k = true := r1 (k, y0) (by simp)
    have hl2 : Op.bytesLess k k' = false := by
      cases e : Op.bytesLess k k' with
      | false => rfl
      | true => have := bl_tr _ _ _ e hl; rw [bl_irr] at this; cases this
    have ih := delL_mid (f := f) r2
    simp only [List.cons_append, List.map_cons, pairB, delL, (lessB k' k).trans hl, (lessB k k').trans hl2, Bool.false_eq_true, if_false, if_true]
    exact congrArg _ ih
theorem getB_put {k : List UInt8} {y : Y} : ∀ {l : List (List UInt8 × Y)}, getB k (insB k y l) = some y
  | [] => by simp [insB, getB, bl_irr]
  | (k', y') :: t => by
    unfold insB
    split
    · simp [getB, bl_irr]
    · next h1 =>
      split
      · next h2 =>
        simp only [getB, h2, if_true]
        rw [if_neg h1]
        exact getB_put
      · simp [getB, bl_irr]
end
/-- What holds of each two holds of any two. -/
theorem pairs_at {Y : Type} {R : Y → Y → Prop} (hs : ∀ a b, R a b → R b a) : ∀ {l : List Y}, l.Pairwise R → ∀ a ∈ l, ∀ b ∈ l, a ≠ b → R a b
  | [], _, a, ha, _, _, _ => by cases ha
  | x :: t, hp, a, ha, b, hb, hne => by
    obtain ⟨p1, p2⟩ := List.pairwise_cons.1 hp
    rcases List.mem_cons.1 ha with h1 | h1
    · rcases List.mem_cons.1 hb with h2 | h2
      · exact absurd (h1.trans h2.symm) hne
      · rw [h1]; exact p1 b h2
    · rcases List.mem_cons.1 hb with h2 | h2
      · rw [h2]; exact hs _ _ (p1 a h1)
      · exact pairs_at hs p2 a h1 b h2 hne
end Go.Proofs.Ytcgjiddiegepkaa
