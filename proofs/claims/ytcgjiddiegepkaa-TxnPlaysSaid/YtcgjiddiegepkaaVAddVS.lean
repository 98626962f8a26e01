import Derived.Test.YtcgjiddiegepkaaTrMap
import Derived.Test.YtcgjiddiegepkaaRdV
import Derived.Test.YtcgjiddiegepkaaMrgMath
import Derived.Test.YtcgjiddiegepkaaRowsF
import Derived.Test.YtcgjiddiegepkaaKit
import Derived.Test.YtcgjiddiegepkaaRows
import Derived.Deep.QuietTactic
import Derived.BigQuiet
import Derived.IntWalk
import Derived.Test.YtcgjiddiegepkaaMapVS
import Derived.Deep.LoopGhost
import Derived.Test.YtcgjiddiegepkaaAppN
/- Trees of maps in order: taking away, plainly. -/
namespace Go.Proofs.Ytcgjiddiegepkaa
open Go.RowKit

/-- The least pair of a tree, and the tree without it. -/
def tlP (l : Tr) (k x : Value) : Value × Value :=
  match l with
  | .nil => (k, x)
  | .node l' k' x' _ _ => tlP l' k' x'
def tlR (l : Tr) (k x : Value) (r : Tr) : Tr :=
  match l with
  | .nil => r
  | .node l' k' x' _ r' => joinT k x (tlR l' k' x' r') r
theorem prs_tl : ∀ (l : Tr) (k x : Value) (r : Tr), prs l ++ (k, x) :: prs r = tlP l k x :: prs (tlR l k x r)
  | .nil, k, x, r => rfl
  | .node l' k' x' n r', k, x, r => by
    unfold tlP tlR
    rw [prs_join, prs_node, prs_tl l' k' x' r']; rfl
theorem WS.tl {K V : Value → Prop} : ∀ {l : Tr} {k x : Value} {r : Tr}, WS K V l → K k → V x → WS K V r → K (tlP l k x).1 ∧ V (tlP l k x).2 ∧ WS K V (tlR l k x r) ∧ ht (tlR l k x r) ≤ 1 + max (ht l) (ht r)
  | .nil, k, x, r, _, hk, hx, hr => ⟨hk, hx, hr, by show ht r ≤ _; omega⟩
  | .node l' k' x' n r', k, x, r, hl, hk, hx, hr => by
    obtain ⟨e, a1, a2, a3, a4⟩ := hl
    obtain ⟨b1, b2, b3, b4⟩ := WS.tl a3 a1 a2 a4
    obtain ⟨c1, c2⟩ := WS.join b3 hr hk hx
    refine ⟨b1, b2, c1, ?_⟩
    show ht (joinT k x (tlR l' k' x' r') r) ≤ 1 + max n (ht r)
    omega
/-- A tree without a key, and whether it was there. -/
def remT (k : Value) : Tr → Tr
  | .nil => .nil
  | .node l k' x' n r =>
    if lessV k k' = true then (if hasT k l = true then joinT k' x' (remT k l) r else .node l k' x' n r)
    else if lessV k' k = true then (if hasT k r = true then joinT k' x' l (remT k r) else .node l k' x' n r)
    else match l, r with
      | .nil, r => r
      | l, .nil => l
      | l, .node rl rk rx _ rr => joinT (tlP rl rk rx).1 (tlP rl rk rx).2 l (tlR rl rk rx rr)
where hasT (k : Value) : Tr → Bool
  | .nil => false
  | .node l k' _ _ r => if lessV k k' = true then hasT k l else if lessV k' k = true then hasT k r else true
abbrev hasT := remT.hasT
/-- Pairs without a key. -/
def delL (k : Value) : List (Value × Value) → List (Value × Value)
  | [] => []
  | (k', x') :: t => if lessV k k' = true then (k', x') :: t else if lessV k' k = true then (k', x') :: delL k t else t
theorem WS.rem {K V : Value → Prop} {k : Value} : ∀ {t : Tr}, WS K V t → WS K V (remT k t) ∧ ht (remT k t) ≤ ht t
  | .nil, _ => ⟨trivial, Nat.le_refl _⟩
  | .node l k' x' n r, h => by
    have h' := h
    obtain ⟨e, a1, a2, a3, a4⟩ := h
    unfold remT
    split
    · split
      · obtain ⟨b1, b2⟩ := WS.rem (k := k) a3
        obtain ⟨c1, c2⟩ := WS.join b1 a4 a1 a2
        exact ⟨c1, by show _ ≤ n; omega⟩
      · exact ⟨h', Nat.le_refl _⟩
    · split
      · split
        · obtain ⟨b1, b2⟩ := WS.rem (k := k) a4
          obtain ⟨c1, c2⟩ := WS.join a3 b1 a1 a2
          exact ⟨c1, by show _ ≤ n; omega⟩
        · exact ⟨h', Nat.le_refl _⟩
      · split
        · exact ⟨a4, by show _ ≤ n; omega⟩
        · exact ⟨a3, by show _ ≤ n; omega⟩
        · next rl rk rx m rr hne =>
          obtain ⟨e2, b1, b2, b3, b4⟩ := a4
          obtain ⟨c1, c2, c3, c4⟩ := WS.tl b3 b1 b2 b4
          obtain ⟨d1, d2⟩ := WS.join a3 c3 c1 c2
          refine ⟨d1, ?_⟩
          have e3 : n = 1 + max (ht l) m := e
          show _ ≤ n
          omega
theorem prs_rem {K V : Value → Prop} (O : Ord K) {k : Value} (hk : K k) : ∀ {t : Tr}, WS K V t → Ris (prs t) → prs (remT k t) = delL k (prs t) ∧ (hasT k t = false → delL k (prs t) = prs t) ∧ (hasT k t = (getL k (prs t)).isSome)
  | .nil, _, _ => ⟨rfl, fun _ => rfl, rfl⟩
  | .node l k' x' n r, h, hr => by
    obtain ⟨_, a1, a2, a3, a4⟩ := h
    rw [prs_node, ris_app] at hr
    obtain ⟨r1, r2, r3⟩ := hr
    obtain ⟨il1, il2, il3⟩ := prs_rem O hk a3 r1
    obtain ⟨ir1, ir2, ir3⟩ := prs_rem O hk a4 r2.2
    have hlk : ∀ p ∈ prs l, K p.1 ∧ lessV p.1 k' = true := fun p hp => ⟨(ws_keys a3 p hp).1, r3 p hp (k', x') (List.mem_cons_self ..)⟩
    have dleft : ∀ (a b : List (Value × Value)), lessV k k' = true → delL k (a ++ (k', x') :: b) = delL k a ++ (k', x') :: b ∧ getL k (a ++ (k', x') :: b) = getL k a := by
      intro a b g
      induction a with
      | nil => simp [delL, getL, g]
      | cons p a ih =>
        obtain ⟨c, y⟩ := p
        simp only [List.cons_append, delL, getL, ih.1, ih.2]
        refine ⟨?_, trivial⟩
        split
        · rfl
        · split <;> rfl
    have dright : ∀ (a b : List (Value × Value)), (∀ p ∈ a, lessV k p.1 = false ∧ lessV p.1 k = true) → delL k (a ++ b) = a ++ delL k b ∧ getL k (a ++ b) = getL k b := by
      intro a b ha
      induction a with
      | nil => exact ⟨rfl, rfl⟩
      | cons p a ih =>
        obtain ⟨c, y⟩ := p
        have h0 := ha (c, y) (List.mem_cons_self ..)
        have ih' := ih (fun p hp => ha p (List.mem_cons_of_mem _ hp))
        simp only [List.cons_append, delL, getL, h0.1, h0.2, Bool.false_eq_true, if_false, if_true, ih'.1, ih'.2, and_self]
    rw [prs_node]
    unfold remT
    simp only [hasT, remT.hasT]
    by_cases g : lessV k k' = true
    · simp only [g, if_true]
      obtain ⟨q1, q2⟩ := dleft (prs l) (prs r) g
      rw [q1, q2]
      refine ⟨?_, fun hn => by rw [il2 hn], il3⟩
      split
      · rw [prs_join, il1]
      · next hn => rw [prs_node, il2 (by simpa using hn)]
    · have g' : lessV k k' = false := by simpa using g
      simp only [g', Bool.false_eq_true, if_false]
      by_cases g2 : lessV k' k = true
      · simp only [g2, if_true]
        obtain ⟨q1, q2⟩ := dright (prs l) ((k', x') :: prs r) (fun p hp => by
          have q1 := O.tr p.1 k' k (hlk p hp).1 a1 hk (hlk p hp).2 g2
          exact ⟨O.asym (hlk p hp).1 hk q1, q1⟩)
        rw [q1, q2]
        have q3 : delL k ((k', x') :: prs r) = (k', x') :: delL k (prs r) := by simp only [delL, g', g2, Bool.false_eq_true, if_false, if_true]
        have q4 : getL k ((k', x') :: prs r) = getL k (prs r) := by simp only [getL, g', g2, Bool.false_eq_true, if_false, if_true]
        rw [q3, q4]
        refine ⟨?_, fun hn => by rw [ir2 hn], ir3⟩
        split
        · rw [prs_join, ir1]
        · next hn => rw [prs_node, ir2 (by simpa using hn)]
      · have g2' : lessV k' k = false := by simpa using g2
        simp only [g2', Bool.false_eq_true, if_false]
        have e := O.tot k k' hk a1 g' g2'
        subst e
        obtain ⟨q1, q2⟩ := dright (prs l) ((k, x') :: prs r) (fun p hp => ⟨O.asym (hlk p hp).1 hk (hlk p hp).2, (hlk p hp).2⟩)
        rw [q1, q2]
        have q3 : delL k ((k, x') :: prs r) = prs r := by simp only [delL, g', Bool.false_eq_true, if_false]
        have q4 : getL k ((k, x') :: prs r) = some x' := by simp only [getL, g', Bool.false_eq_true, if_false]
        rw [q3, q4]
        refine ⟨?_, (fun hn => by simp at hn), rfl⟩
        split
        · simp [prs]
        · simp [prs]
        · rw [prs_join, prs_node]
          exact congrArg (prs l ++ ·) (prs_tl _ _ _ _).symm
/-- What takeLeast tells. -/
def TlPost (P : Value × Value) (t : Tr) (w : World) (e : Ending) (w' : World) : Prop := ∃ p o, e = .returned (.tuple #[.pointer p, .pointer o]) ∧ KV w' p P.1 P.2 ∧ TP w' o t ∧ Below w.heap.size w w'
/-- What remove tells. -/
def RemPost (t : Tr) (z : Bool) (w : World) (e : Ending) (w' : World) : Prop := ∃ o', e = .returned (.tuple #[.pointer o', .bool z]) ∧ TP w' o' t ∧ Below w.heap.size w w'
/-- What is left of two trees of which one is none. -/
def oneT : Tr → Tr → Tr
  | .nil, r => r
  | .node l k x n r, _ => .node l k x n r
theorem len_rem (k : Value) : ∀ t : Tr, (prs t).length = (prs (remT k t)).length + if hasT k t = true then 1 else 0
  | .nil => by simp [remT, hasT, remT.hasT, prs]
  | .node l k' x' n r => by
    have il := len_rem k l
    have ir := len_rem k r
    unfold remT
    simp only [hasT, remT.hasT] at il ir ⊢
    split
    · next g =>
      split
      · next g2 => rw [if_pos g2] at il; rw [prs_join, prs_node, List.length_append, List.length_append]; omega
      · simp
    · split
      · split
        · next g2 => rw [if_pos g2] at ir; rw [prs_join, prs_node, List.length_append, List.length_append, List.length_cons, List.length_cons]; omega
        · simp
      · split
        · simp [prs]
        · simp [prs]
        · rw [prs_join, prs_node, List.length_append, List.length_append, prs_node, List.length_cons, List.length_cons, prs_tl]
          simp only [if_true, List.length_cons]; omega
end Go.Proofs.Ytcgjiddiegepkaa

/- Lists of keys that rise, each with something: plain facts. -/
namespace Go.Proofs.Ytcgjiddiegepkaa
open Go.RowKit

section
variable {Y : Type}
/-- Keys rise. -/
def RisB (l : List (List UInt8 × Y)) : Prop := l.Pairwise (fun a b => Op.bytesLess a.1 b.1 = true)
/-- Put, got, taken away. -/
def insB (k : List UInt8) (y : Y) : List (List UInt8 × Y) → List (List UInt8 × Y)
  | [] => [(k, y)]
  | (k', y') :: t => if Op.bytesLess k k' = true then (k, y) :: (k', y') :: t else if Op.bytesLess k' k = true then (k', y') :: insB k y t else (k, y) :: t
def getB (k : List UInt8) : List (List UInt8 × Y) → Option Y
  | [] => none
  | (k', y') :: t => if Op.bytesLess k k' = true then none else if Op.bytesLess k' k = true then getB k t else some y'
def pairB (f : Y → Value) (p : List UInt8 × Y) : Value × Value := (str p.1, f p.2)
theorem lessB (a b : List UInt8) : lessV (str a) (str b) = Op.bytesLess a b := rfl
theorem ins_map (f : Y → Value) (k : List UInt8) (y : Y) : ∀ l : List (List UInt8 × Y), insL (str k) (f y) (l.map (pairB f)) = (insB k y l).map (pairB f)
  | [] => rfl
  | (k', y') :: t => by
    have ih := ins_map f k y t
    cases h1 : Op.bytesLess k k' with
    | true => simp [insB, pairB, insL, h1, (lessB k k').trans h1]
    | false =>
      cases h2 : Op.bytesLess k' k with
      | true => simp only [List.map_cons, insB, pairB, insL, h1, h2, (lessB k k').trans h1, (lessB k' k).trans h2, Bool.false_eq_true, if_false, if_true]; exact congrArg _ ih
      | false => simp [insB, pairB, insL, h1, h2, (lessB k k').trans h1, (lessB k' k).trans h2]
theorem get_map (f : Y → Value) (k : List UInt8) : ∀ l : List (List UInt8 × Y), getL (str k) (l.map (pairB f)) = (getB k l).map f
  | [] => rfl
  | (k', y') :: t => by
    have ih := get_map f k t
    cases h1 : Op.bytesLess k k' with
    | true => simp [getB, pairB, getL, h1, (lessB k k').trans h1]
    | false =>
      cases h2 : Op.bytesLess k' k with
      | true => simp only [List.map_cons, getB, pairB, getL, h1, h2, (lessB k k').trans h1, (lessB k' k).trans h2, Bool.false_eq_true, if_false, if_true]; exact ih
      | false => simp [getB, pairB, getL, h1, h2, (lessB k k').trans h1, (lessB k' k).trans h2]
theorem ris_map (f : Y → Value) : ∀ l : List (List UInt8 × Y), Ris (l.map (pairB f)) ↔ RisB l
  | [] => by simp [Ris, RisB]
  | (k', y') :: t => by
    have ih := ris_map f t
    unfold RisB at ih ⊢
    rw [List.pairwise_cons, List.map_cons]
    simp only [pairB, Ris]
    rw [ih]
    constructor
    · rintro ⟨h1, h2⟩
      exact ⟨fun q hq => h1 (pairB f q) (List.mem_map_of_mem hq), h2⟩
    · rintro ⟨h1, h2⟩
      refine ⟨fun q hq => ?_, h2⟩
      obtain ⟨p, hp, rfl⟩ := List.mem_map.1 hq
      exact h1 p hp
theorem getB_mem {k : List UInt8} {y : Y} : ∀ {l : List (List UInt8 × Y)}, getB k l = some y → (k, y) ∈ l
  | (k', y') :: t, h => by
    unfold getB at h
    split at h
    · cases h
    · next h1 =>
      split at h
      · exact List.mem_cons_of_mem _ (getB_mem h)
      · next h2 =>
        have e : k = k' := bl_tot k k' (by simpa using h1) (by simpa using h2)
        subst e
        cases h
        exact List.mem_cons_self ..
theorem insB_mem {k : List UInt8} {y : Y} : ∀ {l : List (List UInt8 × Y)}, RisB l → ∀ x ∈ insB k y l, x = (k, y) ∨ (x ∈ l ∧ x.1 ≠ k)
  | [], _, x, hx => .inl (by simpa [insB] using hx)
  | (k', y') :: t, hr, x, hx => by
    obtain ⟨r1, r2⟩ := List.pairwise_cons.1 hr
    have ne : ∀ {a b : List UInt8}, Op.bytesLess a b = true → b ≠ a := fun {a b} h e => by subst e; rw [bl_irr] at h; cases h
    unfold insB at hx
    split at hx
    · next h1 =>
      rcases List.mem_cons.1 hx with rfl | hx
      · exact .inl rfl
      · refine .inr ⟨hx, ?_⟩
        rcases List.mem_cons.1 hx with rfl | hx
        · exact ne h1
        · exact ne (bl_tr _ _ _ h1 (r1 x hx))
    · next h1 =>
      split at hx
      · next h2 =>
        rcases List.mem_cons.1 hx with rfl | hx
        · exact .inr ⟨List.mem_cons_self .., fun e => ne h2 e.symm⟩
        · rcases insB_mem r2 x hx with h | ⟨h, h'⟩
          · exact .inl h
          · exact .inr ⟨List.mem_cons_of_mem _ h, h'⟩
      · next h2 =>
        have e : k = k' := bl_tot k k' (by simpa using h1) (by simpa using h2)
        subst e
        rcases List.mem_cons.1 hx with rfl | hx
        · exact .inl rfl
        · exact .inr ⟨List.mem_cons_of_mem _ hx, ne (r1 x hx)⟩
theorem insB_ris {k : List UInt8} {y : Y} : ∀ {l : List (List UInt8 × Y)}, RisB l → RisB (insB k y l)
  | [], _ => by simp [insB, RisB]
  | (k', y') :: t, hr => by
    obtain ⟨r1, r2⟩ := List.pairwise_cons.1 hr
    unfold insB
    split
    · next h1 =>
      refine List.pairwise_cons.2 ⟨fun x hx => ?_, hr⟩
      rcases List.mem_cons.1 hx with rfl | hx
      · exact h1
      · exact bl_tr _ _ _ h1 (r1 x hx)
    · next h1 =>
      split
      · next h2 =>
        refine List.pairwise_cons.2 ⟨fun x hx => ?_, insB_ris r2⟩
        rcases insB_mem r2 x hx with rfl | ⟨h, _⟩
        · exact h2
        · exact r1 x h
      · next h2 =>
        have e : k = k' := bl_tot k k' (by simpa using h1) (by simpa using h2)
        subst e
        exact List.pairwise_cons.2 ⟨r1, r2⟩
theorem insB_len (k : List UInt8) (y : Y) : ∀ l : List (List UInt8 × Y), (insB k y l).length ≤ l.length + 1
  | [] => by simp [insB]
  | (k', y') :: t => by
    have := insB_len k y t
    unfold insB
    split
    · simp
    · split <;> simp <;> omega
/-- What holds of all pairs of unlike keys holds behind a put. -/
theorem insB_pairs {R : List UInt8 × Y → List UInt8 × Y → Prop} (hs : ∀ a b, R a b → R b a) {k : List UInt8} {y : Y} : ∀ {l : List (List UInt8 × Y)}, RisB l → l.Pairwise R → (∀ x ∈ l, x.1 ≠ k → R (k, y) x) → (insB k y l).Pairwise R
  | [], _, _, _ => by simp [insB]
  | (k', y') :: t, hr, hp, h => by
    obtain ⟨r1, r2⟩ := List.pairwise_cons.1 hr
    obtain ⟨p1, p2⟩ := List.pairwise_cons.1 hp
    have ne : ∀ {a b : List UInt8}, Op.bytesLess a b = true → b ≠ a := fun {a b} h e => by subst e; rw [bl_irr] at h; cases h
    unfold insB
    split
    · next h1 =>
      refine List.pairwise_cons.2 ⟨fun x hx => h x hx ?_, hp⟩
      rcases List.mem_cons.1 hx with rfl | hx
      · exact ne h1
      · exact ne (bl_tr _ _ _ h1 (r1 x hx))
    · next h1 =>
      split
      · next h2 =>
        refine List.pairwise_cons.2 ⟨fun x hx => ?_, insB_pairs hs r2 p2 (fun x hx => h x (List.mem_cons_of_mem _ hx))⟩
        rcases insB_mem r2 x hx with rfl | ⟨hx, _⟩
        · exact hs _ _ (h (k', y') (List.mem_cons_self ..) (fun e => ne h2 e.symm))
        · exact p1 x hx
      · next h2 =>
        have e : k = k' := bl_tot k k' (by simpa using h1) (by simpa using h2)
        subst e
        exact List.pairwise_cons.2 ⟨fun x hx => h x (List.mem_cons_of_mem _ hx) (ne (r1 x hx)), p2⟩
/-- In the middle. -/
theorem insB_mid {k : List UInt8} {y y0 : Y} {b : List (List UInt8 × Y)} : ∀ {a : List (List UInt8 × Y)}, RisB (a ++ (k, y0) :: b) → insB k y (a ++ (k, y0) :: b) = a ++ (k, y) :: b
  | [], _ => by simp [insB, bl_irr]
  | (k', y') :: t, hr => by
    obtain ⟨r1, r2⟩ := List.pairwise_cons.1 hr
    have hl : Op.bytesLess k' k = true := r1 (k, y0) (by simp)
    have hl2 : Op.bytesLess k k' = false := by
      cases e : Op.bytesLess k k' with
      | false => rfl
      | true => have := bl_tr _ _ _ e hl; rw [bl_irr] at this; cases this
    simp only [List.cons_append, insB, hl, hl2, Bool.false_eq_true, if_false, if_true]
    rw [insB_mid r2]
theorem delL_mid {f : Y → Value} {k : List UInt8} {y0 : Y} {b : List (List UInt8 × Y)} : ∀ {a : List (List UInt8 × Y)}, RisB (a ++ (k, y0) :: b) → delL (str k) ((a ++ (k, y0) :: b).map (pairB f)) = (a ++ b).map (pairB f)
  | [], _ => by simp [delL, pairB, (lessB k k).trans (bl_irr k)]
  | (k', y') :: t, hr => by
    obtain ⟨r1, r2⟩ := List.pairwise_cons.1 hr
    have hl : Op.bytesLess k' k = true := r1 (k, y0) (by simp)
    have hl2 : Op.bytesLess k k' = false := by
      cases e : Op.bytesLess k k' with
      | false => rfl
      | true => have := bl_tr _ _ _ e hl; rw [bl_irr] at this; cases this
    have ih := delL_mid (f := f) r2
    simp only [List.cons_append, List.map_cons, pairB, delL, (lessB k' k).trans hl, (lessB k k').trans hl2, Bool.false_eq_true, if_false, if_true]
    exact congrArg _ ih
theorem getB_put {k : List UInt8} {y : Y} : ∀ {l : List (List UInt8 × Y)}, getB k (insB k y l) = some y
  | [] => by simp [insB, getB, bl_irr]
  | (k', y') :: t => by
    unfold insB
    split
    · simp [getB, bl_irr]
    · next h1 =>
      split
      · next h2 =>
        simp only [getB, h2, if_true]
        rw [if_neg h1]
        exact getB_put
      · simp [getB, bl_irr]
end
/-- What holds of each two holds of any two. -/
theorem pairs_at {Y : Type} {R : Y → Y → Prop} (hs : ∀ a b, R a b → R b a) : ∀ {l : List Y}, l.Pairwise R → ∀ a ∈ l, ∀ b ∈ l, a ≠ b → R a b
  | [], _, a, ha, _, _, _ => by cases ha
  | x :: t, hp, a, ha, b, hb, hne => by
    obtain ⟨p1, p2⟩ := List.pairwise_cons.1 hp
    rcases List.mem_cons.1 ha with h1 | h1
    · rcases List.mem_cons.1 hb with h2 | h2
      · exact absurd (h1.trans h2.symm) hne
      · rw [h1]; exact p1 b h2
    · rcases List.mem_cons.1 hb with h2 | h2
      · rw [h2]; exact hs _ _ (p1 a h1)
      · exact pairs_at hs p2 a h1 b h2 hne
end Go.Proofs.Ytcgjiddiegepkaa

/- Versions: how many are not above a time: plain facts. -/
namespace Go.Proofs.Ytcgjiddiegepkaa
open Go.RowKit

/-- How many are not above a time. -/
def upN (l : List Int) (t : Int) : Nat := (l.filter (fun a => decide (a ≤ t))).length
/-- Times rise. -/
def RisT (l : List Int) : Prop := l.Pairwise (fun a b => a < b)
theorem upN_is {l : List Int} {t : Int} {n : Nat} (hn : n ≤ l.length) (h1 : ∀ p (h : p < l.length), p < n → l[p] ≤ t) (h2 : ∀ p (h : p < l.length), n ≤ p → t < l[p]) : upN l t = n := by
  unfold upN
  rw [← List.take_append_drop n l, List.filter_append, List.filter_eq_self.2, List.filter_eq_nil_iff.2]
  · simp; omega
  · intro a ha
    obtain ⟨i, hi, rfl⟩ := List.mem_iff_getElem.1 ha
    rw [List.length_drop] at hi
    rw [List.getElem_drop]
    have := h2 (n + i) (by omega) (by omega)
    simp; omega
  · intro a ha
    obtain ⟨i, hi, rfl⟩ := List.mem_iff_getElem.1 ha
    rw [List.length_take] at hi
    rw [List.getElem_take]
    have := h1 i (by omega) (by omega)
    simpa using this
theorem upN_le (l : List Int) (t : Int) : upN l t ≤ l.length := List.length_filter_le _ _
theorem risT_at {l : List Int} (h : RisT l) {i j : Nat} (hi : i < l.length) (hj : j < l.length) (hij : i < j) : l[i] < l[j] := List.pairwise_iff_getElem.1 h i j hi hj hij
/-- In a rising list they are the first ones. -/
theorem upN_spec : ∀ {l : List Int} (_ : RisT l) (t : Int), (∀ p (h : p < l.length), p < upN l t → l[p] ≤ t) ∧ (∀ p (h : p < l.length), upN l t ≤ p → t < l[p])
  | [], _, t => ⟨fun p h => absurd h (Nat.not_lt_zero _), fun p h => absurd h (Nat.not_lt_zero _)⟩
  | a :: l, hr, t => by
    obtain ⟨r1, r2⟩ := List.pairwise_cons.1 hr
    obtain ⟨i1, i2⟩ := upN_spec (l := l) r2 t
    by_cases ha : a ≤ t
    · have e : upN (a :: l) t = upN l t + 1 := by unfold upN; simp [ha]
      rw [e]
      refine ⟨fun p h hp => ?_, fun p h hp => ?_⟩
      · match p, h with
        | 0, _ => exact ha
        | p + 1, h => exact i1 p (by simpa using h) (by omega)
      · match p, h with
        | 0, _ => omega
        | p + 1, h => exact i2 p (by simpa using h) (by omega)
    · have e0 : upN l t = 0 := by
        unfold upN
        rw [List.length_eq_zero_iff, List.filter_eq_nil_iff]
        intro b hb
        have := r1 b hb
        simp; omega
      have e : upN (a :: l) t = 0 := by unfold upN at e0 ⊢; simp [ha]; simpa using e0
      rw [e]
      refine ⟨fun p h hp => by omega, fun p h hp => ?_⟩
      match p, h with
      | 0, _ => simp; omega
      | p + 1, h => exact i2 p (by simpa using h) (by omega)
end Go.Proofs.Ytcgjiddiegepkaa

/- Versions of string: upTo, seen, dropped. -/
namespace Go.Proofs.Ytcgjiddiegepkaa
open Go.RowKit

/-- A version: its time, its value, whether it is gone. -/
abbrev VerVS := Int × (List UInt8) × Bool
def cellsVS (v : VerVS) : List Value := [.int .i64 v.1, str v.2.1, .bool v.2.2]
abbrev encVS (v : VerVS) : Value := .agg #[.int .i64 v.1, str v.2.1, .bool v.2.2]
theorem cellsVS_len (l : List VerVS) : ∀ r ∈ l.map cellsVS, r.length = 3 := by
  intro r hr; obtain ⟨p, _, rfl⟩ := List.mem_map.1 hr; rfl
theorem infoVS : (Try.prog.info? 90).map (fun i => (i.zero, i.size, i.bytes)) = some (some (.agg #[.int .i64 0, str [], .bool false]), 3, 32) := by kernel_rfl
/-- A slice that reads as versions. -/
def RdVS (w : World) (v : Value) (l : List VerVS) : Prop := RdF 3 w v (l.map cellsVS)
theorem RdVS.up {w w' : World} {v : Value} {l : List VerVS} (h : RdVS w v l) (hb : Below w.heap.size w w') : RdVS w' v l := RdF.below h hb (Nat.le_refl _)
theorem RdVS.form {w : World} {v : Value} {l : List VerVS} (h : RdVS w v l) : ∃ a cap, v = .slice a l.length cap ∧ l.length ≤ 9223372036854775807 := by
  obtain ⟨a, cap, hv, h1, _⟩ := h
  rw [List.length_map] at hv h1
  exact ⟨a, cap, hv, h1⟩
theorem RdVS.get {w : World} {a : Option Addr} {n cap : Nat} {l : List VerVS} (h : RdVS w (.slice a n cap) l) {i : Nat} (hi : i < l.length) : ∃ b off, a = some ⟨b, off, none⟩ ∧ w.cell? ⟨b, off + i * 3, none⟩ = some (.int .i64 l[i].1) ∧ w.cell? ⟨b, off + i * 3 + 1, none⟩ = some (str l[i].2.1) ∧ w.cell? ⟨b, off + i * 3 + 2, none⟩ = some (.bool l[i].2.2) := by
  obtain ⟨a', c', he, _, _, _, h4⟩ := h
  simp only [Value.slice.injEq] at he
  obtain ⟨rfl, _, rfl⟩ := he
  obtain ⟨b, off, ha, hc⟩ := h4 (by intro e; rw [List.map_eq_nil_iff] at e; rw [e] at hi; simp at hi)
  have hi' : i < (l.map cellsVS).length := by simpa using hi
  exact ⟨b, off, ha, hc i hi' 0 _ (by simp [cellsVS]), hc i hi' 1 _ (by simp [cellsVS]), hc i hi' 2 _ (by simp [cellsVS])⟩
/-- The times of versions. -/
def timesVS (l : List VerVS) : List Int := l.map (fun v => v.1)
theorem cloUpVS (v : VerVS) (t : Int) (w : World) : Calls Try.prog 89 #[encVS v, .int .i64 t] w fun e w' => e = .returned (.int .i64 (if v.1 ≤ t then -1 else 1)) ∧ Below w.heap.size w w' := by
  obtain ⟨a, b, c⟩ := v
  have HB := Lib.hid (below_alloc w (.cells #[.int .i64 a, str b, .bool c] 90))
  dsimp only
  by_cases h : a ≤ t
  · rw [if_pos h]
    go_enter Try.func89, Try.ntmps89
    go_wp2_with fail
    go_ret
    exact ⟨rfl, HB.out⟩
  · rw [if_neg h]
    go_enter Try.func89, Try.ntmps89
    go_wp2_with fail
    go_ret
    exact ⟨rfl, HB.out⟩
set_option maxRecDepth 100000 in
set_option maxHeartbeats 2000000 in
theorem bsVS_any (v : Value) (l : List VerVS) (t : Int) (w : World) (hv : RdVS w v l) (hr : RisT (timesVS l)) (hl : l.length ≤ 1000000) :
    Calls Try.prog 88 #[v, .int .i64 t, .func (.func 89) #[] #[]] w fun e w' => e = .returned (.tuple #[.int .i64 (upN (timesVS l) t : Int), .bool false]) ∧ Below w.heap.size w w' := by
  obtain ⟨av, cv, rfl, _⟩ := hv.form
  have HV := Lib.hid hv
  have HR := Lib.hid hr
  have eg : ∀ args w, (callFunc 89 args).run Try.prog w = .ok (.enter 89 args) w := enters_of Try.func89 (by kernel_rfl) rfl
  have CU := Lib.hid (fun W v => cloUpVS v t W)
  clear hv hr
  go_enter Try.func88, Try.ntmps88
  go_wp2_with fail
  go_loopw [9, 10] (fun vi vj wr => ∃ i j : Nat, i ≤ j ∧ j ≤ l.length ∧ vi = .int .i64 (i : Int) ∧ vj = .int .i64 (j : Int) ∧ Hid (Below w.heap.size w wr ∧ (∀ p (h : p < (timesVS l).length), p < i → (timesVS l)[p] ≤ t) ∧ (∀ p (h : p < (timesVS l).length), j ≤ p → t < (timesVS l)[p]))) (fun i j _ => (intOf j).toNat - (intOf i).toNat)
  case atStart => exact ⟨0, l.length, Nat.zero_le _, Nat.le_refl _, rfl, rfl, Lib.hid ⟨Below.refl _ _, fun p _ h => absurd h (Nat.not_lt_zero _), fun p h h2 => by unfold timesVS at h; rw [List.length_map] at h; omega⟩⟩
  case round =>
    obtain ⟨i, j, hij, hj, rfl, rfl, HW⟩ := hrel
    by_cases hlt : i < j
    · obtain ⟨h, hh⟩ : ∃ h : Nat, h = (i + j) / 2 := ⟨_, rfl⟩
      have e2 : ((i : Int) + (j : Int)) / 2 = (h : Int) := by omega
      have hlh : h < l.length := by omega
      have g3 : (i : Int) < (j : Int) := by omega
      have g4 : (h : Int) < (l.length : Int) := by omega
      have g5 : (0 : Int) ≤ (h : Int) := by omega
      have hi1 : i ≤ h := by omega
      have hi2 : h < j := by omega
      obtain ⟨bA, oA, rfl, c0, c1, c2⟩ := HV.out.get hlh
      have HT : Hid (∀ p (q : p < (timesVS l).length), (p ≤ h → (timesVS l)[p] ≤ l[h].1) ∧ (h ≤ p → l[h].1 ≤ (timesVS l)[p])) := Lib.hid (fun p q => by
        have hq : h < (timesVS l).length := by unfold timesVS; simpa using hlh
        have e : (timesVS l)[h] = l[h].1 := by simp [timesVS]
        rw [← e]
        constructor
        · intro hp
          rcases Nat.lt_or_eq_of_le hp with hp | rfl
          · exact Int.le_of_lt (risT_at HR.out q hq hp)
          · exact Int.le_refl _
        · intro hp
          rcases Nat.lt_or_eq_of_le hp with hp | rfl
          · exact Int.le_of_lt (risT_at HR.out hq q hp)
          · exact Int.le_refl _)
      obtain ⟨x, hx⟩ : ∃ x, x = l[h] := ⟨_, rfl⟩
      rw [← hx] at c0 c1 c2 HT
      obtain ⟨a, b, c⟩ := x
      dsimp only at c0 c1 c2 HT
      have hlA := World.block_lt_of_cell? w _ c0
      have d0 : wr.cell? ⟨bA, oA + h * 3, none⟩ = some (.int .i64 a) := (HW.out.1.cell (p := ⟨bA, oA + h * 3, none⟩) hlA).trans c0
      have d1 : wr.cell? ⟨bA, oA + h * 3 + 1, none⟩ = some (str b) := (HW.out.1.cell (p := ⟨bA, oA + h * 3 + 1, none⟩) hlA).trans c1
      have d2 : wr.cell? ⟨bA, oA + h * 3 + 2, none⟩ = some (.bool c) := (HW.out.1.cell (p := ⟨bA, oA + h * 3 + 2, none⟩) hlA).trans c2
      have hc := CU.out wr (a, b, c)
      dsimp only at hc
      by_cases ha : a ≤ t
      · rw [if_pos ha] at hc
        have HC := Lib.hid hc
        have HN : Hid (∀ p (q : p < (timesVS l).length), p < h + 1 → (timesVS l)[p] ≤ t) := Lib.hid (fun p q hp => Int.le_trans ((HT.out p q).1 (by omega)) ha)
        clear hc c0 c1 c2 hx hlA HT HV hh ha
        go_wp2_with fail
        refine HC.out.mono ?_
        rintro e w5 ⟨rfl, hb5⟩
        have HX : Hid (Below w.heap.size w w5 ∧ (∀ p (q : p < (timesVS l).length), p < h + 1 → (timesVS l)[p] ≤ t) ∧ (∀ p (h : p < (timesVS l).length), j ≤ p → t < (timesVS l)[p])) := Lib.hid ⟨HW.out.1.trans (hb5.mono HW.out.1.size), HN.out, HW.out.2.2⟩
        clear hb5 HC HN HW
        go_wp2_with fail
        go_roundw
        case rel => exact ⟨h + 1, j, by omega, by omega, by go_num, rfl, HX⟩
        case measure => simp [intOf]; omega
      · rw [if_neg ha] at hc
        have HC := Lib.hid hc
        have HN : Hid (∀ p (q : p < (timesVS l).length), h ≤ p → t < (timesVS l)[p]) := Lib.hid (fun p q hp => by have := (HT.out p q).2 hp; omega)
        clear hc c0 c1 c2 hx hlA HT HV hh ha
        go_wp2_with fail
        refine HC.out.mono ?_
        rintro e w5 ⟨rfl, hb5⟩
        have HX : Hid (Below w.heap.size w w5 ∧ (∀ p (q : p < (timesVS l).length), p < i → (timesVS l)[p] ≤ t) ∧ (∀ p (q : p < (timesVS l).length), h ≤ p → t < (timesVS l)[p])) := Lib.hid ⟨HW.out.1.trans (hb5.mono HW.out.1.size), HW.out.2.1, HN.out⟩
        clear hb5 HC HN HW
        go_wp2_with fail
        go_roundw
        case rel => exact ⟨i, h, by omega, by omega, rfl, rfl, HX⟩
        case measure => simp [intOf]; omega
    · obtain rfl : i = j := by omega
      have g3 : ¬ (i : Int) < (i : Int) := by omega
      have HE : Hid (upN (timesVS l) t = i) := Lib.hid (upN_is (by unfold timesVS; simpa using hj) HW.out.2.1 HW.out.2.2)
      by_cases hil : i < l.length
      · have g4 : (i : Int) < (l.length : Int) := by omega
        have g5 : (0 : Int) ≤ (i : Int) := by omega
        obtain ⟨bA, oA, rfl, c0, c1, c2⟩ := HV.out.get hil
        have hgt : t < l[i].1 := by
          have := HW.out.2.2 i (by unfold timesVS; simpa using hil) (Nat.le_refl _)
          simpa [timesVS] using this
        obtain ⟨x, hx⟩ : ∃ x, x = l[i] := ⟨_, rfl⟩
        rw [← hx] at c0 c1 c2 hgt
        obtain ⟨a, b, c⟩ := x
        dsimp only at c0 c1 c2 hgt
        have hlA := World.block_lt_of_cell? w _ c0
        have d0 : wr.cell? ⟨bA, oA + i * 3, none⟩ = some (.int .i64 a) := (HW.out.1.cell (p := ⟨bA, oA + i * 3, none⟩) hlA).trans c0
        have d1 : wr.cell? ⟨bA, oA + i * 3 + 1, none⟩ = some (str b) := (HW.out.1.cell (p := ⟨bA, oA + i * 3 + 1, none⟩) hlA).trans c1
        have d2 : wr.cell? ⟨bA, oA + i * 3 + 2, none⟩ = some (.bool c) := (HW.out.1.cell (p := ⟨bA, oA + i * 3 + 2, none⟩) hlA).trans c2
        have hc := CU.out wr (a, b, c)
        dsimp only at hc
        rw [if_neg (by omega)] at hc
        have HC := Lib.hid hc
        clear hc c0 c1 c2 hx hlA HV hgt
        go_wp2_with fail
        refine HC.out.mono ?_
        rintro e w5 ⟨rfl, hb5⟩
        have HX := Lib.hid (HW.out.1.trans (hb5.mono HW.out.1.size))
        clear hb5 HC
        go_wp2_with fail
        go_ret2
        exact ⟨by rw [HE.out]; rfl, HX.out⟩
      · obtain rfl : i = l.length := by omega
        have g4 : ¬ (l.length : Int) < (l.length : Int) := by omega
        go_wp2_with fail
        go_ret2
        exact ⟨by rw [HE.out]; rfl, HW.out.1⟩
set_option maxHeartbeats 1000000 in
theorem upVS_any (v : Value) (l : List VerVS) (t : Int) (w : World) (hv : RdVS w v l) (hr : RisT (timesVS l)) (hl : l.length ≤ 1000000) :
    Calls Try.prog 78 #[v, .int .i64 t] w fun e w' => e = .returned (.int .i64 (upN (timesVS l) t : Int)) ∧ Below w.heap.size w w' := by
  have C := Lib.hid (bsVS_any v l t w hv hr hl)
  obtain ⟨N, hN⟩ : ∃ N, N = upN (timesVS l) t := ⟨_, rfl⟩
  rw [← hN] at C ⊢
  clear hv hr hN
  go_enter Try.func78, Try.ntmps78
  go_wp2_with fail
  refine C.out.mono ?_
  rintro e w5 ⟨rfl, hb5⟩
  have HX := Lib.hid hb5
  clear hb5 C
  go_wp2_with fail
  go_ret
  exact ⟨rfl, HX.out⟩
/-- What the last of the first n says. -/
def lastVS (l : List VerVS) (n : Nat) : Option (List UInt8) :=
  match (l.take n).getLast? with
  | none => none
  | some v => if v.2.2 = true then none else some v.2.1
/-- What a key was at a time. -/
def seenVS (l : List VerVS) (t : Int) : Option (List UInt8) := lastVS l (upN (timesVS l) t)
theorem lastVS_zero (l : List VerVS) : lastVS l 0 = none := by simp [lastVS]
theorem lastVS_succ {l : List VerVS} {n : Nat} (h : n < l.length) : lastVS l (n + 1) = if l[n].2.2 = true then none else some l[n].2.1 := by
  unfold lastVS
  rw [List.take_succ_eq_append_getElem h, List.getLast?_concat]
/-- What Get tells of it. -/
def seenEVS (r : Option (List UInt8)) : Ending := .returned (.tuple #[str (r.getD []), .bool r.isSome])
set_option maxHeartbeats 1000000 in
theorem seenVS_any (v : Value) (l : List VerVS) (t : Int) (w : World) (hv : RdVS w v l) (hr : RisT (timesVS l)) (hl : l.length ≤ 1000000) :
    Calls Try.prog 58 #[v, .int .i64 t] w fun e w' => e = seenEVS (seenVS l t) ∧ Below w.heap.size w w' := by
  have C := Lib.hid (upVS_any v l t w hv hr hl)
  obtain ⟨av, cv, rfl, _⟩ := hv.form
  have HV := Lib.hid hv
  have hNl : upN (timesVS l) t ≤ l.length := Nat.le_trans (upN_le _ _) (by unfold timesVS; simp)
  obtain ⟨S, hS⟩ : ∃ S, S = seenVS l t := ⟨_, rfl⟩
  rw [← hS]
  unfold seenVS at hS
  obtain ⟨N, hN⟩ : ∃ N, N = upN (timesVS l) t := ⟨_, rfl⟩
  rw [← hN] at C hNl hS
  clear hv hr hN
  cases N with
  | zero =>
    rw [lastVS_zero] at hS
    subst hS
    go_enter Try.func58, Try.ntmps58
    go_wp2_with fail
    refine C.out.mono ?_
    rintro e w5 ⟨rfl, hb5⟩
    have HX := Lib.hid hb5
    clear hb5 C
    go_wp2_with fail
    go_ret2
    exact ⟨rfl, HX.out⟩
  | succ n =>
    have hln : n < l.length := by omega
    rw [lastVS_succ hln] at hS
    obtain ⟨bA, oA, rfl, c0, c1, c2⟩ := HV.out.get hln
    obtain ⟨x, hx⟩ : ∃ x, x = l[n] := ⟨_, rfl⟩
    rw [← hx] at c0 c1 c2 hS
    obtain ⟨a, b, c⟩ := x
    dsimp only at c0 c1 c2 hS
    have hlA := World.block_lt_of_cell? w _ c0
    have HC3 : Hid (∀ W, Below w.heap.size w W → W.cell? ⟨bA, oA + n * 3 + 1, none⟩ = some (str b) ∧ W.cell? ⟨bA, oA + n * 3 + 2, none⟩ = some (.bool c)) := Lib.hid (fun W h => ⟨(h.cell (p := ⟨bA, oA + n * 3 + 1, none⟩) hlA).trans c1, (h.cell (p := ⟨bA, oA + n * 3 + 2, none⟩) hlA).trans c2⟩)
    obtain ⟨M, hM⟩ : ∃ M : Nat, M = n + 1 := ⟨_, rfl⟩
    rw [← hM] at C
    have hz : decide ((M : Int) = 0) = false := by simp; omega
    have hz2 : ((M : Int) == 0) = false := by simp; omega
    have tm : IntKind.i64.wrap ((M : Int) - 1) = (n : Int) := by rw [show (M : Int) - 1 = (n : Int) by omega]; exact IntWalk.i64_in _ (by omega)
    have tm2 : (M : Int) - 1 = (n : Int) := by omega
    have g4 : (n : Int) < (l.length : Int) := by omega
    have g5 : (0 : Int) ≤ (n : Int) := by omega
    clear hx c0 c1 c2 hlA HV hM hNl
    cases c with
    | true =>
      rw [if_pos rfl] at hS
      subst hS
      go_enter Try.func58, Try.ntmps58
      go_wp2_with fail
      refine C.out.mono ?_
      rintro e w5 ⟨rfl, hb5⟩
      obtain ⟨d1, d2⟩ := HC3.out w5 hb5
      have HX := Lib.hid hb5
      clear hb5 C
      go_wp2_with fail
      go_ret2
      exact ⟨rfl, HX.out⟩
    | false =>
      rw [if_neg (by decide)] at hS
      subst hS
      go_enter Try.func58, Try.ntmps58
      go_wp2_with fail
      refine C.out.mono ?_
      rintro e w5 ⟨rfl, hb5⟩
      obtain ⟨d1, d2⟩ := HC3.out w5 hb5
      have HX := Lib.hid hb5
      clear hb5 C
      go_wp2_with fail
      go_ret2
      exact ⟨rfl, HX.out⟩
end Go.Proofs.Ytcgjiddiegepkaa

/- What a call may turn: the blocks of its own. -/
namespace Go.Proofs.Ytcgjiddiegepkaa
open Go.RowKit

/-- All but the blocks of F lies on. -/
structure Frm (F : Nat → Prop) (w w' : World) : Prop where
  os : w'.os = w.os
  tape : w'.tape = w.tape
  output : w'.output = w.output
  size : w.heap.size ≤ w'.heap.size
  block : ∀ k, k < w.heap.size → ¬ F k → w'.heap[k]? = w.heap[k]?
theorem Frm.refl (F : Nat → Prop) (w : World) : Frm F w w := ⟨rfl, rfl, rfl, Nat.le_refl _, fun _ _ _ => rfl⟩
theorem Frm.of_below {F : Nat → Prop} {w w' : World} (h : Below w.heap.size w w') : Frm F w w' := ⟨h.os, h.tape, h.output, h.size, fun k hk _ => h.block k hk⟩
theorem Frm.of_grown {F : Nat → Prop} {w w' : World} {row : Option Nat} (h : w.grownBy w' row) (hr : ∀ k, row = some k → F k) : Frm F w w' := ⟨h.os, h.tape, h.output, h.size, fun k hk hn => h.block k hk (fun e => hn (hr k e.symm))⟩
theorem Frm.set {F : Nat → Prop} {w : World} {b j : Nat} (u : Value) (hF : F b) : Frm F w (w.setCell ⟨b, j, none⟩ u) := ⟨rfl, rfl, rfl, by simp [World.setCell], fun k _ hn => Below.heap_setCell _ _ _ _ (fun e => hn (e ▸ hF))⟩
theorem Frm.trans {F G : Nat → Prop} {a b c : World} (h : Frm F a b) (k : Frm G b c) (hG : ∀ i, i < a.heap.size → G i → F i) : Frm F a c :=
  ⟨k.os.trans h.os, k.tape.trans h.tape, k.output.trans h.output, Nat.le_trans h.size k.size, fun i hi hn => (k.block i (Nat.lt_of_lt_of_le hi h.size) (fun hg => hn (hG i hi hg))).trans (h.block i hi hn)⟩
theorem Frm.mono {F G : Nat → Prop} {a b : World} (h : Frm F a b) (hG : ∀ i, i < a.heap.size → F i → G i) : Frm G a b := ⟨h.os, h.tape, h.output, h.size, fun i hi hn => h.block i hi (fun hf => hn (hG i hi hf))⟩
theorem Frm.below {F : Nat → Prop} {w w' : World} {B : Nat} (h : Frm F w w') (hB : B ≤ w.heap.size) (hF : ∀ k, F k → B ≤ k) : Below B w w' := ⟨h.os, h.tape, h.output, h.size, fun k hk => h.block k (Nat.lt_of_lt_of_le hk hB) (fun hf => by have := hF k hf; omega)⟩
/-- A row stands when other blocks turn. -/
theorem owns_frm {F : Nat → Prop} {w w' : World} {base size n : Nat} {e : TypeId} {v : Value} {xs : List Value} (h : w.ownsRow base e size v n xs) (hf : Frm F w w') (hn : ∀ k, v.ownBlock = some k → ¬ F k) : w'.ownsRow base e size v n xs := by
  refine ⟨h.1, ?_⟩
  rcases h.2 with hh | ⟨g, cap, cur, rfl, hb', hg, rest⟩
  · exact .inl hh
  · refine .inr ⟨g, cap, cur, rfl, hb', ?_, rest⟩
    rw [hf.block g (Array.getElem?_eq_some_iff.1 hg).1 (hn g (by simp [Value.ownBlock]))]
    exact hg
/-- The block of a row of rows of sz cells. -/
theorem owns_size {w : World} {base size n : Nat} {e : TypeId} {v : Value} {xs : List Value} (h : w.ownsRow base e size v n xs) {k : Nat} (hk : v.ownBlock = some k) {cs : Array Value} {T : TypeId} {z : Nat × Nat} (hc : w.heap[k]? = some (.cells cs T z)) : ∃ cap, cs.size = cap * size := by
  rcases h.2 with ⟨rfl, _⟩ | ⟨g, cap, cur, rfl, _, hg, _, _, h3, _⟩
  · simp [Value.ownBlock] at hk
  · simp only [Value.ownBlock, Option.some.injEq] at hk
    subst hk
    rw [hg] at hc
    simp only [Option.some.injEq, Obj.cells.injEq] at hc
    obtain ⟨rfl, _, _⟩ := hc
    exact ⟨cap, h3⟩
end Go.Proofs.Ytcgjiddiegepkaa

/- What a call of a store may turn: the blocks of its own: trees. -/
namespace Go.Proofs.Ytcgjiddiegepkaa
open Go.RowKit

theorem Frm.of_only {F : Nat → Prop} {w w' : World} {b B : Nat} (h : Only b w w') (hb : Below B w w') (hF : F b) : Frm F w w' := ⟨hb.os, hb.tape, hb.output, h.1, fun k hk hn => h.2 k hk (fun e => hn (e ▸ hF))⟩
/-- A tree stands when blocks turn that are no nodes. -/
theorem TP.frm {F : Nat → Prop} {w w' : World} (hf : Frm F w w') (h5 : ∀ k, F k → ∀ cs T z, w.heap[k]? = some (.cells cs T z) → cs.size ≠ 5) : ∀ {o : Option Addr} {t : Tr}, TP w o t → TP w' o t
  | _, .nil, h => h
  | _, .node _ _ _ _ _, h => by
    obtain ⟨g, T, ol, or, rfl, hc, hl, hr⟩ := h
    refine ⟨g, T, ol, or, rfl, ?_, TP.frm hf h5 hl, TP.frm hf h5 hr⟩
    rw [hf.block g (Array.getElem?_eq_some_iff.1 hc).1 (fun hF => h5 g hF _ _ _ hc rfl)]
    exact hc
theorem MP.frm {F : Nat → Prop} {w w' : World} {b : Nat} {t : Tr} (hf : Frm F w w') (h5 : ∀ k, F k → ∀ cs T z, w.heap[k]? = some (.cells cs T z) → cs.size ≠ 5) (hb : ¬ F b) (h : MP w b t) : MP w' b t := by
  have hlt := h.lt
  obtain ⟨T, o, h, ht⟩ := h
  exact ⟨T, o, by rw [hf.block b hlt hb]; exact h, TP.frm hf h5 ht⟩
end Go.Proofs.Ytcgjiddiegepkaa

/- Maps in order, omap[string,[]handbill/vers.Version[string]]: Get. -/
namespace Go.Proofs.Ytcgjiddiegepkaa
open Go.RowKit

/-- What Get tells. -/
def getEVS (r : Option Value) : Ending := .returned (.tuple #[r.getD (.slice none 0 0), .bool r.isSome])
theorem getE_someVS (x : Value) : Ending.returned (.tuple #[x, .bool true]) = getEVS (some x) := rfl
theorem getE_noneVS : Ending.returned (.tuple #[(.slice none 0 0), .bool false]) = getEVS none := rfl
set_option maxHeartbeats 800000 in
theorem mgetVS_any (b : Nat) (k : Value) (t : Tr) (w : World) (h : MP w b t) (hks : KSVS k) (hw : WS KSVS VSVS t) :
    Calls Try.prog 46 #[.pointer (some ⟨b, 0, none⟩), k] w fun e w' => e = getEVS (getT k t) ∧ w' = w := by
  obtain ⟨T, o, hc, htp⟩ := h
  have c0 : w.cell? ⟨b, 0, none⟩ = some (.pointer o) := by simp [World.cell?, hc]
  obtain ⟨R, hR⟩ : ∃ R, R = getT k t := ⟨_, rfl⟩
  rw [← hR]
  have HR := Lib.hid hR
  have HT := Lib.hid htp
  have HW := Lib.hid hw
  clear hc htp hw hR
  go_enter Try.func46, Try.ntmps46
  go_wp2_with fail
  go_loopg [6] (prs t).length (fun n v wr => ∃ (o' : Option Addr) (t' : Tr), v = .pointer o' ∧ n = (prs t').length ∧ Hid (TP w o' t') ∧ Hid (WS KSVS VSVS t') ∧ Hid (getT k t' = R) ∧ wr = w)
  case atStart => exact ⟨o, t, rfl, rfl, HT, HW, Lib.hid HR.out.symm, rfl⟩
  case round =>
    obtain ⟨o', t', rfl, rfl, HT', HW', HG, rfl⟩ := hrel
    clear c0
    cases t' with
    | nil =>
      obtain rfl : o' = none := HT'.out
      have e : none = R := HG.out
      subst e
      go_wp2_with fail
      go_ret2
      exact ⟨rfl, rfl⟩
    | node l k' x' n r =>
      obtain ⟨b', T', ol, or, rfl, hc', hl, hr⟩ := HT'.out
      obtain ⟨_, a1, a2, a3, a4⟩ := HW'.out
      have d0 := cell_of_row wr b' 0 _ T' (0, 0) hc'
      have d1 := cell_of_row wr b' 1 _ T' (0, 0) hc'
      have d3 := cell_of_row wr b' 3 _ T' (0, 0) hc'
      have d4 := cell_of_row wr b' 4 _ T' (0, 0) hc'
      simp only [List.getElem?_toArray, List.getElem?_cons_zero, List.getElem?_cons_succ] at d0 d1 d3 d4
      have HL := Lib.hid hl
      have HRr := Lib.hid hr
      have A3 := Lib.hid a3
      have A4 := Lib.hid a4
      have eg := HG.out
      unfold getT at eg
      have CC := Lib.hid (fun W => cmpVS_any k k' W hks a1)
      have LL : Hid ((prs l).length < (prs (Tr.node l k' x' n r)).length ∧ (prs r).length < (prs (Tr.node l k' x' n r)).length) := by
        refine Lib.hid ?_
        rw [prs_node, List.length_append, List.length_cons]; omega
      unfold cmpV at CC
      clear hc' hl hr a2 a3 a4
      by_cases g1 : lessV k k' = true
      · rw [if_pos g1] at CC
        rw [if_pos g1] at eg
        have HE := Lib.hid eg
        clear eg g1
        go_wp2_with (go_at_call 62; refine (CC.out _).mono ?_; rintro e w' ⟨rfl, rfl⟩)
        go_roundg (prs l).length
        case measure => exact LL.out.1
        case rel => exact ⟨ol, l, rfl, rfl, HL, A3, HE, rfl⟩
      · rw [if_neg g1] at CC
        rw [if_neg g1] at eg
        by_cases g2 : lessV k' k = true
        · rw [if_pos g2] at CC
          rw [if_pos g2] at eg
          have HE := Lib.hid eg
          clear eg g1 g2
          go_wp2_with (go_at_call 62; refine (CC.out _).mono ?_; rintro e w' ⟨rfl, rfl⟩)
          go_roundg (prs r).length
          case measure => exact LL.out.2
          case rel => exact ⟨or, r, rfl, rfl, HRr, A4, HE, rfl⟩
        · rw [if_neg g2] at CC
          rw [if_neg g2] at eg
          subst eg
          clear g1 g2
          go_wp2_with (go_at_call 62; refine (CC.out _).mono ?_; rintro e w' ⟨rfl, rfl⟩)
          go_ret2
          exact ⟨rfl, rfl⟩
end Go.Proofs.Ytcgjiddiegepkaa

/- A store of versions of string: how it lies; New, Last, add, Put, Kill, Get. -/

namespace Go.Proofs.Ytcgjiddiegepkaa
open Go.RowKit

/-- What a key has: the slice, the versions. -/
abbrev ChVS := Value × List VerVS
abbrev ChsVS := List (List UInt8 × ChVS)
/-- The blocks of a store's own. -/
def BlkVS (s mb : Nat) (S : ChsVS) (k : Nat) : Prop := k = s ∨ k = mb ∨ ∃ x ∈ S, x.2.1.ownBlock = some k
/-- The slice of a key, its versions. -/
def valSVS (key : List UInt8) (S : ChsVS) : Value := ((getB key S).map Prod.fst).getD (.slice none 0 0)
def verSVS (key : List UInt8) (S : ChsVS) : List VerVS := ((getB key S).map Prod.snd).getD []
/-- A store. -/
structure StVS (W : World) (B s mb : Nat) (t : Tr) (S : ChsVS) (cnt low : Int) (k : Nat) : Prop where
  box : W.heap[s]? = some (.cells #[.pointer (some ⟨mb, 0, none⟩), .int .i64 cnt, .int .i64 low] 87 (0, 0))
  mp : MP W mb t
  ws : WS KSVS VSVS t
  pr : prs t = S.map (pairB Prod.fst)
  rs : RisB S
  ch : ∀ x ∈ S, W.ownsRow B 90 3 x.2.1 x.2.2.length (x.2.2.map cellsVS).flatten
  ap : S.Pairwise (fun x y => ∀ b, x.2.1.ownBlock = some b → y.2.1.ownBlock ≠ some b)
  tr : ∀ x ∈ S, RisT (timesVS x.2.2)
  hk : ht t ≤ k ∧ S.length ≤ k ∧ (∀ x ∈ S, x.2.2.length ≤ k)
  lo : B ≤ s ∧ B ≤ mb
theorem StVS.slt {W : World} {B s mb : Nat} {t : Tr} {S : ChsVS} {cnt low : Int} {k : Nat} (h : StVS W B s mb t S cnt low k) : s < W.heap.size := by
  exact (Array.getElem?_eq_some_iff.1 h.box).1
theorem StVS.blk {W : World} {B s mb : Nat} {t : Tr} {S : ChsVS} {cnt low : Int} {k : Nat} (h : StVS W B s mb t S cnt low k) : ∀ i, BlkVS s mb S i → B ≤ i ∧ i < W.heap.size := by
  rintro i (rfl | rfl | ⟨x, hx, hi⟩)
  · exact ⟨h.lo.1, h.slt⟩
  · exact ⟨h.lo.2, h.mp.lt⟩
  · exact World.ownsRow.lt (h.ch x hx) i hi
theorem StVS.ne {W : World} {B s mb : Nat} {t : Tr} {S : ChsVS} {cnt low : Int} {k : Nat} (h : StVS W B s mb t S cnt low k) : s ≠ mb := by
  rintro rfl
  obtain ⟨T, o, hm, _⟩ := h.mp
  rw [h.box] at hm
  simp at hm
theorem StVS.five {W : World} {B s mb : Nat} {t : Tr} {S : ChsVS} {cnt low : Int} {k : Nat} (h : StVS W B s mb t S cnt low k) : ∀ i, BlkVS s mb S i → ∀ cs T z, W.heap[i]? = some (.cells cs T z) → cs.size ≠ 5 := by
  rintro i (rfl | rfl | ⟨x, hx, hi⟩) cs T z hc
  · rw [h.box] at hc
    simp only [Option.some.injEq, Obj.cells.injEq] at hc
    rw [← hc.1]; simp
  · obtain ⟨T', o, hb, _⟩ := h.mp
    rw [hb] at hc
    simp only [Option.some.injEq, Obj.cells.injEq] at hc
    rw [← hc.1]; simp
  · obtain ⟨cap, hcap⟩ := owns_size (h.ch x hx) hi hc
    omega
/-- A chain's block is neither the store's nor the map's. -/
theorem StVS.apart {W : World} {B s mb : Nat} {t : Tr} {S : ChsVS} {cnt low : Int} {k : Nat} (h : StVS W B s mb t S cnt low k) {x : List UInt8 × ChVS} (hx : x ∈ S) {i : Nat} (hi : x.2.1.ownBlock = some i) : i ≠ mb ∧ i ≠ s := by
  constructor
  · rintro rfl
    obtain ⟨T', o, hb, _⟩ := h.mp
    obtain ⟨cap, hcap⟩ := owns_size (h.ch x hx) hi hb
    simp at hcap
    omega
  · rintro rfl
    rcases (h.ch x hx).2 with ⟨h1, _⟩ | ⟨g, cap, cur, h1, _, hg, _, _, h3, _⟩
    · rw [h1] at hi; simp [Value.ownBlock] at hi
    · rw [h1] at hi
      simp only [Value.ownBlock, Option.some.injEq] at hi
      subst hi
      rw [h.box] at hg
      simp at hg
/-- A store stands when blocks turn that are not its own, nor nodes. -/
theorem StVS.frm {W W' : World} {B s mb : Nat} {t : Tr} {S : ChsVS} {cnt low : Int} {k : Nat} (h : StVS W B s mb t S cnt low k) {F : Nat → Prop} (hf : Frm F W W') (h5 : ∀ k, F k → ∀ cs T z, W.heap[k]? = some (.cells cs T z) → cs.size ≠ 5) (hn : ∀ i, BlkVS s mb S i → ¬ F i) : StVS W' B s mb t S cnt low k :=
  ⟨by rw [hf.block s h.slt (hn s (.inl rfl))]; exact h.box, MP.frm hf h5 (hn mb (.inr (.inl rfl))) h.mp, h.ws, h.pr, h.rs, fun x hx => owns_frm (h.ch x hx) hf (fun i hi => hn i (.inr (.inr ⟨x, hx, hi⟩))), h.ap, h.tr, h.hk, h.lo⟩
theorem StVS.below {W W' : World} {B s mb : Nat} {t : Tr} {S : ChsVS} {cnt low : Int} {k : Nat} (h : StVS W B s mb t S cnt low k) (hb : Below W.heap.size W W') : StVS W' B s mb t S cnt low k :=
  h.frm (F := fun _ => False) (Frm.of_below hb) (fun _ hk => hk.elim) (fun _ _ hk => hk)
theorem StVS.drewN {W : World} {B s mb : Nat} {t : Tr} {S : ChsVS} {cnt low : Int} {k : Nat} (h : StVS W B s mb t S cnt low k) (q : Nat) : StVS (W.drewN q) B s mb t S cnt low k := h.below (Below.drewsN (Below.refl _ _) q)
theorem StVS.ris {W : World} {B s mb : Nat} {t : Tr} {S : ChsVS} {cnt low : Int} {k : Nat} (h : StVS W B s mb t S cnt low k) : Ris (prs t) := by rw [h.pr]; exact (ris_map _ _).2 h.rs
theorem keySVS (key : List UInt8) : KSVS (str key) := ⟨key, rfl⟩
theorem StVS.get {W : World} {B s mb : Nat} {t : Tr} {S : ChsVS} {cnt low : Int} {k : Nat} (h : StVS W B s mb t S cnt low k) (key : List UInt8) : getT (str key) t = (getB key S).map Prod.fst := by
  rw [getT_eq ordVS (keySVS key) h.ws h.ris, h.pr, get_map]
/-- A key's chain: how it lies. -/
theorem StVS.chain {W : World} {B s mb : Nat} {t : Tr} {S : ChsVS} {cnt low : Int} {k : Nat} (h : StVS W B s mb t S cnt low k) (key : List UInt8) :
    W.ownsRow B 90 3 (valSVS key S) (verSVS key S).length ((verSVS key S).map cellsVS).flatten ∧ RisT (timesVS (verSVS key S)) ∧ (verSVS key S).length ≤ k := by
  unfold valSVS verSVS
  cases e : getB key S with
  | none => exact ⟨World.ownsRow_nil W _ _ 3, by simp [timesVS, RisT], Nat.zero_le _⟩
  | some y =>
    have hm := getB_mem e
    exact ⟨h.ch _ hm, h.tr _ hm, h.hk.2.2 _ hm⟩
theorem rd_rowVS {w : World} {base : Nat} {e : TypeId} {v : Value} {l : List VerVS} (h : w.ownsRow base e 3 v l.length (l.map cellsVS).flatten) : RdVS w v l := RdF.of_row (cellsVS_len l) (by simpa using h)
theorem getSVS_any {W : World} {B s mb : Nat} {t : Tr} {S : ChsVS} {cnt low : Int} {k : Nat} (h : StVS W B s mb t S cnt low k) (key : List UInt8) :
    Calls Try.prog 46 #[.pointer (some ⟨mb, 0, none⟩), str key] W fun e w' => e = .returned (.tuple #[valSVS key S, .bool (getB key S).isSome]) ∧ W = w' := by
  refine (mgetVS_any mb (str key) t W h.mp (keySVS key) h.ws).mono ?_
  rintro e w' ⟨rfl, rfl⟩
  refine ⟨?_, rfl⟩
  unfold getEVS valSVS
  rw [h.get key]
  simp
/-- When a key's last version was put. -/
def lastTVS (l : List VerVS) : Int := (l.getLast?.map (fun v => v.1)).getD 0
theorem StVS.cells {W : World} {B s mb : Nat} {t : Tr} {S : ChsVS} {cnt low : Int} {k : Nat} (h : StVS W B s mb t S cnt low k) :
    W.cell? ⟨s, 0, none⟩ = some (.pointer (some ⟨mb, 0, none⟩)) ∧ W.cell? ⟨s, 1, none⟩ = some (.int .i64 cnt) ∧ W.cell? ⟨s, 2, none⟩ = some (.int .i64 low) ∧ ∀ j, W.frozen? ⟨s, j, none⟩ = false := by
  refine ⟨by simp [World.cell?, h.box], by simp [World.cell?, h.box], by simp [World.cell?, h.box], fun j => frozen_of_row W s j _ _ h.box⟩
set_option maxHeartbeats 1000000 in
theorem lastVS_any {W : World} {B s mb : Nat} {t : Tr} {S : ChsVS} {cnt low : Int} {k : Nat} (h : StVS W B s mb t S cnt low k) (hk : k ≤ 1000000) (key : List UInt8) :
    Calls Try.prog 24 #[.pointer (some ⟨s, 0, none⟩), str key] W fun e w' => e = .returned (.int .i64 (lastTVS (verSVS key S))) ∧ W = w' := by
  have CG := Lib.hid (getSVS_any h key)
  obtain ⟨c0, _, _, _⟩ := h.cells
  obtain ⟨ho, _, hl⟩ := h.chain key
  obtain ⟨l, hvl⟩ : ∃ l, l = verSVS key S := ⟨_, rfl⟩
  obtain ⟨v, hvv⟩ : ∃ v, v = valSVS key S := ⟨_, rfl⟩
  obtain ⟨z, hz⟩ : ∃ z, z = (getB key S).isSome := ⟨_, rfl⟩
  rw [← hvl] at ho hl ⊢
  rw [← hvv] at ho CG
  rw [← hz] at CG
  have hrd := rd_rowVS ho
  obtain ⟨av, cv, rfl, _⟩ := hrd.form
  have HV := Lib.hid hrd
  clear h ho hvl hvv hz hrd
  by_cases hl0 : l = []
  · subst hl0
    have e : lastTVS ([] : List VerVS) = 0 := rfl
    rw [e]
    clear e
    go_enter Try.func24, Try.ntmps24
    go_wp2_with fail
    refine CG.out.mono ?_
    rintro e w' ⟨rfl, rfl⟩
    go_wp2_with fail
    go_ret
    exact ⟨rfl, rfl⟩
  · obtain ⟨n, hn⟩ : ∃ n, n + 1 = l.length := ⟨l.length - 1, by have := List.length_pos_iff.2 hl0; omega⟩
    have hln : n < l.length := by omega
    have e : lastTVS l = l[n].1 := by
      unfold lastTVS
      rw [List.getLast?_eq_getElem?, show l.length - 1 = n by omega, List.getElem?_eq_getElem hln]; rfl
    rw [e]
    obtain ⟨bA, oA, rfl, c1, _, _⟩ := HV.out.get hln
    obtain ⟨x, hx⟩ : ∃ x, x = l[n].1 := ⟨_, rfl⟩
    rw [← hx] at c1 ⊢
    obtain ⟨N, hN⟩ : ∃ N : Nat, N = l.length := ⟨_, rfl⟩
    rw [← hN] at CG hn hln hl
    have z1 : ((N : Int) == 0) = false := by simp; omega
    have z2 : decide ((N : Int) = 0) = false := by simp; omega
    have tm : IntKind.i64.wrap ((N : Int) - 1) = (n : Int) := by rw [show (N : Int) - 1 = (n : Int) by omega]; exact IntWalk.i64_in _ (by omega)
    have tm2 : (N : Int) - 1 = (n : Int) := by omega
    have g4 : (n : Int) < (N : Int) := by omega
    have g5 : (0 : Int) ≤ (n : Int) := by omega
    clear hl0 hn hx hN e HV hln
    go_enter Try.func24, Try.ntmps24
    go_wp2_with fail
    refine CG.out.mono ?_
    rintro e w' ⟨rfl, rfl⟩
    go_wp2_with fail
    go_ret
    exact ⟨rfl, rfl⟩
end Go.Proofs.Ytcgjiddiegepkaa

/- A store of versions of string: a key's chain put; add, Put, Kill, Get. -/
namespace Go.Proofs.Ytcgjiddiegepkaa
open Go.RowKit

/-- What a put of a chain may turn. -/
def PutFVS (mb : Nat) (v : Value) (i : Nat) : Prop := i = mb ∨ v.ownBlock = some i
theorem valSVS_blk {S : ChsVS} {s mb : Nat} {key : List UInt8} {i : Nat} (h : PutFVS mb (valSVS key S) i) : BlkVS s mb S i := by
  rcases h with rfl | h
  · exact .inr (.inl rfl)
  · unfold valSVS at h
    cases e : getB key S with
    | none => rw [e] at h; simp [Value.ownBlock] at h
    | some y => rw [e] at h; exact .inr (.inr ⟨_, getB_mem e, h⟩)
theorem valSVS_other {W : World} {B s mb : Nat} {t : Tr} {S : ChsVS} {cnt low : Int} {k : Nat} (h : StVS W B s mb t S cnt low k) {key : List UInt8} {x : List UInt8 × ChVS} (hx : x ∈ S) (hne : x.1 ≠ key) {i : Nat} (hi : x.2.1.ownBlock = some i) : (valSVS key S).ownBlock ≠ some i := by
  intro hv
  unfold valSVS at hv
  cases e : getB key S with
  | none => rw [e] at hv; simp [Value.ownBlock] at hv
  | some y =>
    rw [e] at hv
    have hm := getB_mem e
    have hsym : ∀ a b : List UInt8 × ChVS, (∀ b', a.2.1.ownBlock = some b' → b.2.1.ownBlock ≠ some b') → (∀ b', b.2.1.ownBlock = some b' → a.2.1.ownBlock ≠ some b') := fun a b h b' h1 h2 => h b' h2 h1
    exact pairs_at hsym h.ap x hx (key, y) hm (fun e => hne (by rw [e])) i hi hv
theorem putSVS_any {W0 W7 : World} {B s mb : Nat} {t : Tr} {S : ChsVS} {cnt low : Int} {k : Nat} (h : StVS W0 B s mb t S cnt low k) (hk : k ≤ 1000000) (key : List UInt8) (l' : List VerVS) (g n cap : Nat)
    (ho : W7.ownsRow B 90 3 (.slice (some ⟨g, 0, none⟩) n cap) l'.length (l'.map cellsVS).flatten) (hf : Frm (fun i => (valSVS key S).ownBlock = some i) W0 W7) (hr : RisT (timesVS l')) (hl : l'.length ≤ k + 1) (hg : (valSVS key S).ownBlock = some g ∨ W0.heap.size ≤ g) :
    Calls Try.prog 65 #[.pointer (some ⟨mb, 0, none⟩), str key, .slice (some ⟨g, 0, none⟩) n cap] W7 fun e W8 => e = .returned (.bool (newT (str key) t)) ∧
      StVS W8 B s mb (putT (str key) (.slice (some ⟨g, 0, none⟩) n cap) t) (insB key (.slice (some ⟨g, 0, none⟩) n cap, l') S) cnt low (k + 1) ∧ Frm (PutFVS mb (valSVS key S)) W0 W8 := by
  have hF : ∀ i, (valSVS key S).ownBlock = some i → ∃ x ∈ S, x.2.1.ownBlock = some i := by
    intro i hi
    rcases (valSVS_blk (s := s) (mb := mb) (key := key) (S := S) (.inr hi) : BlkVS s mb S i) with rfl | rfl | hx
    · exfalso
      unfold valSVS at hi
      cases e : getB key S with
      | none => rw [e] at hi; simp [Value.ownBlock] at hi
      | some y => rw [e] at hi; exact (h.apart (getB_mem e) hi).2 rfl
    · exfalso
      unfold valSVS at hi
      cases e : getB key S with
      | none => rw [e] at hi; simp [Value.ownBlock] at hi
      | some y => rw [e] at hi; exact (h.apart (getB_mem e) hi).1 rfl
    · exact hx
  have hF5 : ∀ i, (valSVS key S).ownBlock = some i → ∀ cs T z, W0.heap[i]? = some (.cells cs T z) → cs.size ≠ 5 := fun i hi => by
    obtain ⟨x, hx, h1⟩ := hF i hi
    exact h.five i (.inr (.inr ⟨x, hx, h1⟩))
  have hFm : ¬ (valSVS key S).ownBlock = some mb := fun hi => by obtain ⟨x, hx, h1⟩ := hF mb hi; exact (h.apart hx h1).1 rfl
  have hFs : ¬ (valSVS key S).ownBlock = some s := fun hi => by obtain ⟨x, hx, h1⟩ := hF s hi; exact (h.apart hx h1).2 rfl
  have hmp7 : MP W7 mb t := MP.frm hf hF5 hFm h.mp
  have hsl7 : s < W7.heap.size := Nat.lt_of_lt_of_le h.slt hf.size
  have hb7 : W7.heap[s]? = _ := (hf.block s h.slt hFs).trans h.box
  have hch : ∀ x ∈ S, x.1 ≠ key → W7.ownsRow B 90 3 x.2.1 x.2.2.length (x.2.2.map cellsVS).flatten := fun x hx hne => owns_frm (h.ch x hx) hf (fun i hi => valSVS_other h hx hne hi)
  have hprl : (prs t).length ≤ k := by rw [h.pr, List.length_map]; exact h.hk.2.1
  refine (mputVS_any mb (str key) (.slice (some ⟨g, 0, none⟩) n cap) t W7 hmp7 (keySVS key) ⟨_, _, _, rfl⟩ h.ws (by have := h.hk.1; omega) (by omega)).mono ?_
  rintro e W8 ⟨rfl, hm8, ho8, hb8⟩
  have f8 : Frm (fun i => i = mb) W7 W8 := Frm.of_only ho8 hb8 rfl
  obtain ⟨ws1, ws2⟩ := WS.put (K := KSVS) (V := VSVS) (keySVS key) (x := .slice (some ⟨g, 0, none⟩) n cap) ⟨_, _, _, rfl⟩ h.ws
  have nomb : ∀ {v : Value} {l : List VerVS} {i : Nat}, W7.ownsRow B 90 3 v l.length (l.map cellsVS).flatten → v.ownBlock = some i → ¬ i = mb := by
    intro v l i ho hi he
    subst he
    obtain ⟨T', o, hb, _⟩ := hmp7
    obtain ⟨cap, hcap⟩ := owns_size ho hi hb
    simp at hcap
    omega
  have hlen : ((insB key (.slice (some ⟨g, 0, none⟩) n cap, l') S)).length ≤ k + 1 := Nat.le_trans (insB_len _ _ _) (Nat.succ_le_succ h.hk.2.1)
  refine ⟨rfl, ⟨?_, hm8, ws1, ?_, insB_ris h.rs, ?_, ?_, ?_, ⟨by have := h.hk.1; omega, hlen, ?_⟩, h.lo⟩, (hf.mono (fun i _ hi => .inr hi)).trans f8 (fun i _ hi => .inl hi)⟩
  · rw [f8.block s hsl7 h.ne]; exact hb7
  · rw [prs_put ordVS (keySVS key) h.ws h.ris, h.pr]
    exact ins_map Prod.fst key ((.slice (some ⟨g, 0, none⟩) n cap, l') : ChVS) S
  · intro x hx
    rcases insB_mem h.rs x hx with rfl | ⟨hx, hne⟩
    · exact owns_frm ho f8 (fun i hi => nomb ho hi)
    · exact owns_frm (hch x hx hne) f8 (fun i hi => nomb (hch x hx hne) hi)
  · refine insB_pairs (fun a b hab b' h1 h2 => hab b' h2 h1) h.rs h.ap (fun x hx hne b hb => ?_)
    intro hxb
    have hgb : g = b := by simpa [Value.ownBlock] using hb
    subst hgb
    rcases hg with hg | hg
    · exact valSVS_other h hx hne hxb hg
    · have := (World.ownsRow.lt (h.ch x hx) g hxb).2
      omega
  · intro x hx
    rcases insB_mem h.rs x hx with rfl | ⟨hx, _⟩
    · exact hr
    · exact h.tr x hx
  · intro x hx
    rcases insB_mem h.rs x hx with rfl | ⟨hx, _⟩
    · exact hl
    · exact Nat.le_succ_of_le (h.hk.2.2 x hx)
end Go.Proofs.Ytcgjiddiegepkaa
