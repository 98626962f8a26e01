/- Trees of maps in order: taking away, plainly. -/
import Derived.Test.YtdlacjdddjebgaaTrMap
namespace Go.Proofs.Ytdlacjdddjebgaa
open Go.RowKit

/-- The least pair of a tree, and the tree without it. -/
def tlP (l : Tr) (k x : Value) : Value × Value :=
  match l with
  | .nil => (k, x)
  | .node l' k' x' _ _ => tlP l' k' x'
def tlR (l : Tr) (k x : Value) (r : Tr) : Tr :=
  match l with
  | .nil => r
  | .node l' k' x' _ r' => joinT k x (tlR l' k' x' r') r
theorem prs_tl : ∀ (l : Tr) (k x : Value) (r : Tr), prs l ++ (k, x) :: prs r = tlP l k x :: prs (tlR l k x r)
  | .nil, k, x, r => rfl
  | .node l' k' x' n r', k, x, r => by
    unfold tlP tlR
    rw [prs_join, prs_node, prs_tl l' k' x' r']; rfl
theorem WS.tl {K V : Value → Prop} : ∀ {l : Tr} {k x : Value} {r : Tr}, WS K V l → K k → V x → WS K V r → K (tlP l k x).1 ∧ V (tlP l k x).2 ∧ WS K V (tlR l k x r) ∧ ht (tlR l k x r) ≤ 1 + max (ht l) (ht r)
  | .nil, k, x, r, _, hk, hx, hr => ⟨hk, hx, hr, by show ht r ≤ _; omega⟩
  | .node l' k' x' n r', k, x, r, hl, hk, hx, hr => by
    obtain ⟨e, a1, a2, a3, a4⟩ := hl
    obtain ⟨b1, b2, b3, b4⟩ := WS.tl a3 a1 a2 a4
    obtain ⟨c1, c2⟩ := WS.join b3 hr hk hx
    refine ⟨b1, b2, c1, ?_⟩
    show ht (joinT k x (tlR l' k' x' r') r) ≤ 1 + max n (ht r)
    omega
/-- A tree without a key, and whether it was there. -/
def remT (k : Value) : Tr → Tr
  | .nil => .nil
  | .node l k' x' n r =>
    if lessV k k' = true then (if hasT k l = true then joinT k' x' (remT k l) r else .node l k' x' n r)
    else if lessV k' k = true then (if hasT k r = true then joinT k' x' l (remT k r) else .node l k' x' n r)
    else match l, r with
      | .nil, r => r
      | l, .nil => l
      | l, .node rl rk rx _ rr => joinT (tlP rl rk rx).1 (tlP rl rk rx).2 l (tlR rl rk rx rr)
where hasT (k : Value) : Tr → Bool
  | .nil => false
  | .node l k' _ _ r => if lessV k k' = true then hasT k l else if lessV k' k = true then hasT k r else true
abbrev hasT := remT.hasT
/-- Pairs without a key. -/
def delL (k : Value) : List (Value × Value) → List (Value × Value)
  | [] => []
  | (k', x') :: t => if lessV k k' = true then (k', x') :: t else if lessV k' k = true then (k', x') :: delL k t else t
theorem WS.rem {K V : Value → Prop} {k : Value} : ∀ {t : Tr}, WS K V t → WS K V (remT k t) ∧ ht (remT k t) ≤ ht t
  | .nil, _ => ⟨trivial, Nat.le_refl _⟩
  | .node l k' x' n r, h => by
    have h' := h
    obtain ⟨e, a1, a2, a3, a4⟩ := h
    unfold remT
    split
    · split
      · obtain ⟨b1, b2⟩ := WS.rem (k := k) a3
        obtain ⟨c1, c2⟩ := WS.join b1 a4 a1 a2
        exact ⟨c1, by show _ ≤ n; omega⟩
      · exact ⟨h', Nat.le_refl _⟩
    · split
      · split
        · obtain ⟨b1, b2⟩ := WS.rem (k := k) a4
          obtain ⟨c1, c2⟩ := WS.join a3 b1 a1 a2
          exact ⟨c1, by show _ ≤ n; omega⟩
        · exact ⟨h', Nat.le_refl _⟩
      · split
        · exact ⟨a4, by show _ ≤ n; omega⟩
        · exact ⟨a3, by show _ ≤ n; omega⟩
        · next rl rk rx m rr hne =>
          obtain ⟨e2, b1, b2, b3, b4⟩ := a4
          obtain ⟨c1, c2, c3, c4⟩ := WS.tl b3 b1 b2 b4
          obtain ⟨d1, d2⟩ := WS.join a3 c3 c1 c2
          refine ⟨d1, ?_⟩
          have e3 : n = 1 + max (ht l) m := e
          show _ ≤ n
          omega
theorem prs_rem {K V : Value → Prop} (O : Ord K) {k : Value} (hk : K k) : ∀ {t : Tr}, WS K V t → Ris (prs t) → prs (remT k t) = delL k (prs t) ∧ (hasT k t = false → delL k (prs t) = prs t) ∧ (hasT k t = (getL k (prs t)).isSome)
  | .nil, _, _ => ⟨rfl, fun _ => rfl, rfl⟩
  | .node l k' x' n r, h, hr => by
    obtain ⟨_, a1, a2, a3, a4⟩ := h
    rw [prs_node, ris_app] at hr
    obtain ⟨r1, r2, r3⟩ := hr
    obtain ⟨il1, il2, il3⟩ := prs_rem O hk a3 r1
    obtain ⟨ir1, ir2, ir3⟩ := prs_rem O hk a4 r2.2
    have hlk : ∀ p ∈ prs l, K p.1 ∧ lessV p.1 k' = true := fun p hp => ⟨(ws_keys a3 p hp).1, r3 p hp (k', x') (List.mem_cons_self ..)⟩
    have dleft : ∀ (a b : List (Value × Value)), lessV k k' = true → delL k (a ++ (k', x') :: b) = delL k a ++ (k', x') :: b ∧ getL k (a ++ (k', x') :: b) = getL k a := by
      intro a b g
      induction a with
      | nil => simp [delL, getL, g]
      | cons p a ih =>
        obtain ⟨c, y⟩ := p
        simp only [List.cons_append, delL, getL, ih.1, ih.2]
        refine ⟨?_, trivial⟩
        split
        · rfl
        · split <;> rfl
    have dright : ∀ (a b : List (Value × Value)), (∀ p ∈ a, lessV k p.1 = false ∧ lessV p.1 k = true) → delL k (a ++ b) = a ++ delL k b ∧ getL k (a ++ b) = getL k b := by
      intro a b ha
      induction a with
      | nil => exact ⟨rfl, rfl⟩
      | cons p a ih =>
        obtain ⟨c, y⟩ := p
        have h0 := ha (c, y) (List.mem_cons_self ..)
        have ih' := ih (fun p hp => ha p (List.mem_cons_of_mem _ hp))
        simp only [List.cons_append, delL, getL, h0.1, h0.2, Bool.false_eq_true, if_false, if_true, ih'.1, ih'.2, and_self]
    rw [prs_node]
    unfold remT
    simp only [hasT, remT.hasT]
    by_cases g : lessV k k' = true
    · simp only [g, if_true]
      obtain ⟨q1, q2⟩ := dleft (prs l) (prs r) g
      rw [q1, q2]
      refine ⟨?_, fun hn => by rw [il2 hn], il3⟩
      split
      · rw [prs_join, il1]
      · next hn => rw [prs_node, il2 (by simpa using hn)]
    · have g' : lessV k k' = false := by simpa using g
      simp only [g', Bool.false_eq_true, if_false]
      by_cases g2 : lessV k' k = true
      · simp only [g2, if_true]
        obtain ⟨q1, q2⟩ := dright (prs l) ((k', x') :: prs r) (fun p hp => by
          have q1 := O.tr p.1 k' k (hlk p hp).1 a1 hk (hlk p hp).2 g2
          exact ⟨O.asym (hlk p hp).1 hk q1, q1⟩)
        rw [q1, q2]
        have q3 : delL k ((k', x') :: prs r) = (k', x') :: delL k (prs r) := by simp only [delL, g', g2, Bool.false_eq_true, if_false, if_true]
        have q4 : getL k ((k', x') :: prs r) = getL k (prs r) := by simp only [getL, g', g2, Bool.false_eq_true, if_false, if_true]
        rw [q3, q4]
        refine ⟨?_, fun hn => by rw [ir2 hn], ir3⟩
        split
        · rw [prs_join, ir1]
        · next hn => rw [prs_node, ir2 (by simpa using hn)]
      · have g2' : lessV k' k = false := by simpa using g2
        simp only [g2', Bool.false_eq_true, if_false]
        have e := O.tot k k' hk a1 g' g2'
        subst e
        obtain ⟨q1, q2⟩ := dright (prs l) ((k, x') :: prs r) (fun p hp => ⟨O.asym (hlk p hp).1 hk (hlk p hp).2, (hlk p hp).2⟩)
        rw [q1, q2]
        have q3 : delL k ((k, x') :: prs r) = prs r := by simp only [delL, g', Bool.false_eq_true, if_false]
        have q4 : getL k ((k, x') :: prs r) = some x' := by simp only [getL, g', Bool.false_eq_true, if_false]
        rw [q3, q4]
        refine ⟨?_, (fun hn => by simp at hn), rfl⟩
        split
        · simp [prs]
        · simp [prs]
        · rw [prs_join, prs_node]
          exact congrArg (prs l ++ ·) (prs_tl _ _ _ _).symm
/-- What takeLeast tells. -/
def TlPost (P : Value × Value) (t : Tr) (w : World) (e : Ending) (w' : World) : Prop := ∃ p o, e = .returned (.tuple #[.pointer p, .pointer o]) ∧ KV w' p P.1 P.2 ∧ TP w' o t ∧ Below w.heap.size w w'
/-- What remove tells. -/
def RemPost (t : Tr) (z : Bool) (w : World) (e : Ending) (w' : World) : Prop := ∃ o', e = .returned (.tuple #[.pointer o', .bool z]) ∧ TP w' o' t ∧ Below w.heap.size w w'
/-- What is left of two trees of which one is none. -/
def oneT : Tr → Tr → Tr
  | .nil, r => r
  | .node l k x n r, _ => .node l k x n r
theorem len_rem (k : Value) : ∀ t : Tr, (prs t).length = (prs (remT k t)).length + if hasT k t = true then 1 else 0
  | .nil => by simp [remT, hasT, remT.hasT, prs]
  | .node l k' x' n r => by
    have il := len_rem k l
    have ir := len_rem k r
    unfold remT
    simp only [hasT, remT.hasT] at il ir ⊢
    split
    · next g =>
      split
      · next g2 => rw [if_pos g2] at il; rw [prs_join, prs_node, List.length_append, List.length_append]; omega
      · simp
    · split
      · split
        · next g2 => rw [if_pos g2] at ir; rw [prs_join, prs_node, List.length_append, List.length_append, List.length_cons, List.length_cons]; omega
        · simp
      · split
        · simp [prs]
        · simp [prs]
        · rw [prs_join, prs_node, List.length_append, List.length_append, prs_node, List.length_cons, List.length_cons, prs_tl]
          simp only [if_true, List.length_cons]; omega
end Go.Proofs.Ytdlacjdddjebgaa
