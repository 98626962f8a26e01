import Derived.Test.YtcgjiddiegepkaaKit
import Derived.Test.YtcgjiddiegepkaaTrBase
/- Texts' order: plain facts. -/
namespace Go.Proofs.Ytcgjiddiegepkaa
open Go.RowKit

theorem bl_irr : ∀ l : List UInt8, Op.bytesLess l l = false
  | [] => rfl
  | a :: l => by
    rw [Op.bytesLess, bl_irr l]
    simp
theorem bl_tr : ∀ a b c : List UInt8, Op.bytesLess a b = true → Op.bytesLess b c = true → Op.bytesLess a c = true
  | a, [], _, h, _ => by cases a <;> simp [Op.bytesLess] at h
  | _, _ :: _, [], _, h => by simp [Op.bytesLess] at h
  | [], _ :: _, _ :: _, _, _ => rfl
  | x :: a, y :: b, z :: c, h1, h2 => by
    have ih := bl_tr a b c
    simp only [Op.bytesLess, Bool.or_eq_true, Bool.and_eq_true, decide_eq_true_eq, beq_iff_eq, UInt8.lt_iff_toNat_lt] at h1 h2 ⊢
    rcases h1 with h1 | ⟨rfl, h1⟩
    · rcases h2 with h2 | ⟨rfl, h2⟩
      · exact .inl (by omega)
      · exact .inl h1
    · rcases h2 with h2 | ⟨rfl, h2⟩
      · exact .inl h2
      · exact .inr ⟨rfl, ih h1 h2⟩
theorem bl_tot : ∀ a b : List UInt8, Op.bytesLess a b = false → Op.bytesLess b a = false → a = b
  | [], [], _, _ => rfl
  | [], _ :: _, h, _ => by simp [Op.bytesLess] at h
  | _ :: _, [], _, h => by simp [Op.bytesLess] at h
  | x :: a, y :: b, h1, h2 => by
    have ih := bl_tot a b
    simp only [Op.bytesLess, Bool.or_eq_false_iff, Bool.and_eq_false_iff, decide_eq_false_iff_not, beq_eq_false_iff_ne, UInt8.lt_iff_toNat_lt] at h1 h2
    have e : x = y := UInt8.toNat_inj.1 (by omega)
    subst e
    simp only [ne_eq, not_true_eq_false, false_or] at h1 h2
    rw [ih h1.2 h2.2]
end Go.Proofs.Ytcgjiddiegepkaa

/- Trees of maps in order: plain facts. -/
namespace Go.Proofs.Ytcgjiddiegepkaa
open Go.RowKit

/-- Each height told is right; keys and values are of their kinds. -/
def WS (K V : Value → Prop) : Tr → Prop
  | .nil => True
  | .node l k x n r => n = 1 + max (ht l) (ht r) ∧ K k ∧ V x ∧ WS K V l ∧ WS K V r
theorem WS.tie {K V : Value → Prop} {l r : Tr} {k x : Value} (hl : WS K V l) (hr : WS K V r) (hk : K k) (hx : V x) : WS K V (tieT k x l r) := ⟨rfl, hk, hx, hl, hr⟩
theorem WS.pos {K V : Value → Prop} {t : Tr} (_h : WS K V t) (hp : 0 < ht t) : ∃ l k x n r, t = .node l k x n r := by
  cases t with
  | nil => simp [ht] at hp
  | node l k x n r => exact ⟨l, k, x, n, r, rfl⟩
/-- What join makes. -/
def joinT (k x : Value) (l r : Tr) : Tr :=
  if ht r + 1 < ht l then
    match l with
    | .node ll lk lx _ lr =>
      if ht lr ≤ ht ll then tieT lk lx ll (tieT k x lr r)
      else match lr with
        | .node ml mk mx _ mr => tieT mk mx (tieT lk lx ll ml) (tieT k x mr r)
        | .nil => tieT k x l r
    | .nil => tieT k x l r
  else if ht l + 1 < ht r then
    match r with
    | .node rl rk rx _ rr =>
      if ht rl ≤ ht rr then tieT rk rx (tieT k x l rl) rr
      else match rl with
        | .node ml mk mx _ mr => tieT mk mx (tieT k x l ml) (tieT rk rx mr rr)
        | .nil => tieT k x l r
    | .nil => tieT k x l r
  else tieT k x l r
theorem prs_tie (k x : Value) (l r : Tr) : prs (tieT k x l r) = prs l ++ (k, x) :: prs r := rfl
theorem prs_node (k x : Value) (l r : Tr) (n : Nat) : prs (.node l k x n r) = prs l ++ (k, x) :: prs r := rfl
theorem prs_join (k x : Value) (l r : Tr) : prs (joinT k x l r) = prs l ++ (k, x) :: prs r := by
  unfold joinT
  repeat' split
  all_goals simp only [prs_tie, prs_node, List.append_assoc, List.cons_append]
theorem WS.join {K V : Value → Prop} {l r : Tr} {k x : Value} (hl : WS K V l) (hr : WS K V r) (hk : K k) (hx : V x) : WS K V (joinT k x l r) ∧ ht (joinT k x l r) ≤ 1 + max (ht l) (ht r) := by
  unfold joinT
  split
  · next h1 =>
    split
    · next ll lk lx n lr =>
      obtain ⟨e, a1, a2, a3, a4⟩ := hl
      split
      · next h2 =>
        refine ⟨WS.tie a3 (WS.tie a4 hr hk hx) a1 a2, ?_⟩
        simp only [ht_tie]; simp only [ht] at h1 e ⊢; omega
      · next h2 =>
        split
        · next ml mk mx m mr =>
          obtain ⟨e', b1, b2, b3, b4⟩ := a4
          refine ⟨WS.tie (WS.tie a3 b3 a1 a2) (WS.tie b4 hr hk hx) b1 b2, ?_⟩
          simp only [ht_tie]; simp only [ht] at h1 h2 e e' ⊢; omega
        · simp [ht] at h2
    · simp [ht] at h1
  · split
    · next h0 h1 =>
      split
      · next rl rk rx n rr =>
        obtain ⟨e, a1, a2, a3, a4⟩ := hr
        split
        · next h2 =>
          refine ⟨WS.tie (WS.tie hl a3 hk hx) a4 a1 a2, ?_⟩
          simp only [ht_tie]; simp only [ht] at h1 e ⊢; omega
        · next h2 =>
          split
          · next ml mk mx m mr =>
            obtain ⟨e', b1, b2, b3, b4⟩ := a3
            refine ⟨WS.tie (WS.tie hl b3 hk hx) (WS.tie b4 a4 a1 a2) b1 b2, ?_⟩
            simp only [ht_tie]; simp only [ht] at h1 h2 e e' ⊢; omega
          · simp [ht] at h2
      · simp [ht] at h1
    · exact ⟨WS.tie hl hr hk hx, by rw [ht_tie]; exact Nat.le_refl _⟩
/-- Which key is less. -/
def lessV : Value → Value → Bool
  | .int _ a, .int _ b => decide (a < b)
  | .string a, .string b => Op.bytesLess a.data.toList b.data.toList
  | _, _ => false
/-- What Compare tells. -/
def cmpV (a b : Value) : Int := if lessV a b = true then -1 else if lessV b a = true then 1 else 0
/-- What put makes, and whether the key is new. -/
def putT (k x : Value) : Tr → Tr
  | .nil => .node .nil k x 1 .nil
  | .node l k' x' n r => if lessV k k' = true then joinT k' x' (putT k x l) r else if lessV k' k = true then joinT k' x' l (putT k x r) else .node l k x n r
def newT (k : Value) : Tr → Bool
  | .nil => true
  | .node l k' _ _ r => if lessV k k' = true then newT k l else if lessV k' k = true then newT k r else false
theorem WS.put {K V : Value → Prop} {k x : Value} (hk : K k) (hx : V x) : ∀ {t : Tr}, WS K V t → WS K V (putT k x t) ∧ ht (putT k x t) ≤ 1 + ht t
  | .nil, _ => ⟨⟨by simp [ht], hk, hx, trivial, trivial⟩, by simp [putT, ht]⟩
  | .node l k' x' n r, h => by
    obtain ⟨e, a1, a2, a3, a4⟩ := h
    unfold putT
    split
    · obtain ⟨b1, b2⟩ := WS.put hk hx a3
      obtain ⟨c1, c2⟩ := WS.join b1 a4 a1 a2
      refine ⟨c1, ?_⟩
      show _ ≤ 1 + n; omega
    · split
      · obtain ⟨b1, b2⟩ := WS.put hk hx a4
        obtain ⟨c1, c2⟩ := WS.join a3 b1 a1 a2
        refine ⟨c1, ?_⟩
        show _ ≤ 1 + n; omega
      · exact ⟨⟨e, hk, hx, a3, a4⟩, by show n ≤ 1 + n; omega⟩
/-- A pair put among pairs that rise. -/
def insL (k x : Value) : List (Value × Value) → List (Value × Value)
  | [] => [(k, x)]
  | (k', x') :: t => if lessV k k' = true then (k, x) :: (k', x') :: t else if lessV k' k = true then (k', x') :: insL k x t else (k, x) :: t
/-- The value of a key among pairs. -/
def getL (k : Value) : List (Value × Value) → Option Value
  | [] => none
  | (k', x') :: t => if lessV k k' = true then none else if lessV k' k = true then getL k t else some x'
def getT (k : Value) : Tr → Option Value
  | .nil => none
  | .node l k' x' _ r => if lessV k k' = true then getT k l else if lessV k' k = true then getT k r else some x'
/-- Pairs that rise, and what comes behind a key. -/
def Ris : List (Value × Value) → Prop
  | [] => True
  | (k, _) :: t => (∀ q ∈ t, lessV k q.1 = true) ∧ Ris t
theorem ris_app (a b : List (Value × Value)) : Ris (a ++ b) ↔ Ris a ∧ Ris b ∧ ∀ p ∈ a, ∀ q ∈ b, lessV p.1 q.1 = true := by
  induction a with
  | nil => simp [Ris]
  | cons p t ih =>
    obtain ⟨k, x⟩ := p
    simp only [List.cons_append, Ris, ih, List.mem_append, List.mem_cons]
    constructor
    · rintro ⟨h1, h2, h3, h4⟩
      refine ⟨⟨fun q hq => h1 q (.inl hq), h2⟩, h3, fun p hp q hq => ?_⟩
      rcases hp with rfl | hp
      · exact h1 q (.inr hq)
      · exact h4 p hp q hq
    · rintro ⟨⟨h1, h2⟩, h3, h4⟩
      exact ⟨fun q hq => hq.elim (h1 q) (h4 (k, x) (.inl rfl) q), h2, h3, fun p hp => h4 p (.inr hp)⟩
theorem insL_left (k x k' x' : Value) (b : List (Value × Value)) (h : lessV k k' = true) : ∀ a, insL k x (a ++ (k', x') :: b) = insL k x a ++ (k', x') :: b
  | [] => by simp [insL, h]
  | (c, y) :: a => by
    simp only [List.cons_append, insL, insL_left k x k' x' b h a]
    split
    · rfl
    · split <;> rfl
theorem insL_right (k x : Value) (b : List (Value × Value)) : ∀ a : List (Value × Value), (∀ p ∈ a, lessV k p.1 = false ∧ lessV p.1 k = true) → insL k x (a ++ b) = a ++ insL k x b
  | [], _ => rfl
  | (c, y) :: a, h => by
    have h0 := h (c, y) (List.mem_cons_self ..)
    simp only [List.cons_append, insL, h0.1, h0.2, Bool.false_eq_true, if_false, if_true]
    rw [insL_right k x b a (fun p hp => h p (List.mem_cons_of_mem _ hp))]
/-- An order of keys of one kind. -/
structure Ord (K : Value → Prop) : Prop where
  irr : ∀ a, K a → lessV a a = false
  tr : ∀ a b c, K a → K b → K c → lessV a b = true → lessV b c = true → lessV a c = true
  tot : ∀ a b, K a → K b → lessV a b = false → lessV b a = false → a = b
theorem Ord.asym {K : Value → Prop} (O : Ord K) {a b : Value} (ha : K a) (hb : K b) (h : lessV a b = true) : lessV b a = false := by
  cases e : lessV b a with
  | false => rfl
  | true => have := O.tr a b a ha hb ha h e; rw [O.irr a ha] at this; cases this
theorem ws_keys {K V : Value → Prop} : ∀ {t : Tr}, WS K V t → ∀ p ∈ prs t, K p.1 ∧ V p.2
  | .nil, _ => by simp [prs]
  | .node l k x n r, h => by
    obtain ⟨_, a1, a2, a3, a4⟩ := h
    intro p hp
    rw [prs_node, List.mem_append, List.mem_cons] at hp
    rcases hp with hp | rfl | hp
    · exact ws_keys a3 p hp
    · exact ⟨a1, a2⟩
    · exact ws_keys a4 p hp
theorem prs_put {K V : Value → Prop} (O : Ord K) {k x : Value} (hk : K k) : ∀ {t : Tr}, WS K V t → Ris (prs t) → prs (putT k x t) = insL k x (prs t)
  | .nil, _, _ => rfl
  | .node l k' x' n r, h, hr => by
    obtain ⟨_, a1, a2, a3, a4⟩ := h
    rw [prs_node, ris_app] at hr
    obtain ⟨r1, r2, r3⟩ := hr
    have hlk : ∀ p ∈ prs l, K p.1 ∧ lessV p.1 k' = true := fun p hp => ⟨(ws_keys a3 p hp).1, r3 p hp (k', x') (List.mem_cons_self ..)⟩
    unfold putT
    rw [prs_node]
    split
    · next g => rw [prs_join, prs_put O hk a3 r1, insL_left k x k' x' _ g]
    · next g =>
      have g' : lessV k k' = false := by simpa using g
      split
      · next g2 =>
        rw [prs_join, prs_put O hk a4 r2.2]
        rw [insL_right k x _ (prs l) (fun p hp => by
          have q1 := O.tr p.1 k' k (hlk p hp).1 a1 hk (hlk p hp).2 g2
          exact ⟨O.asym (hlk p hp).1 hk q1, q1⟩)]
        simp only [insL, g', g2, Bool.false_eq_true, if_false, if_true]
      · next g2 =>
        have g2' : lessV k' k = false := by simpa using g2
        have e := O.tot k k' hk a1 g' g2'
        subst e
        rw [prs_node, insL_right k x _ (prs l) (fun p hp => ⟨O.asym (hlk p hp).1 hk (hlk p hp).2, (hlk p hp).2⟩)]
        simp only [insL, g', Bool.false_eq_true, if_false]
theorem ris_ins {K : Value → Prop} (O : Ord K) {k x : Value} (hk : K k) : ∀ {l : List (Value × Value)}, (∀ p ∈ l, K p.1) → Ris l → Ris (insL k x l) ∧ ∀ p ∈ insL k x l, p = (k, x) ∨ p ∈ l
  | [], _, _ => by simp [insL, Ris]
  | (k', x') :: t, hK, hr => by
    obtain ⟨h1, h2⟩ := hr
    have hk' := hK (k', x') (List.mem_cons_self ..)
    have hKt : ∀ p ∈ t, K p.1 := fun p hp => hK p (List.mem_cons_of_mem _ hp)
    obtain ⟨i1, i2⟩ := ris_ins (x := x) O hk hKt h2
    unfold insL
    split
    · next g =>
      refine ⟨⟨?_, h1, h2⟩, by simp⟩
      intro q hq
      rcases List.mem_cons.1 hq with rfl | hq
      · exact g
      · exact O.tr _ _ _ hk hk' (hKt q hq) g (h1 q hq)
    · split
      · next g2 =>
        refine ⟨⟨?_, i1⟩, ?_⟩
        · intro q hq
          rcases i2 q hq with rfl | hq
          · exact g2
          · exact h1 q hq
        · intro p hp
          rcases List.mem_cons.1 hp with rfl | hp
          · simp
          · rcases i2 p hp with h | h
            · exact .inl h
            · exact .inr (List.mem_cons_of_mem _ h)
      · next g g2 =>
        have e := O.tot k k' hk hk' (by simpa using g) (by simpa using g2)
        subst e
        refine ⟨⟨h1, h2⟩, ?_⟩
        intro p hp
        rcases List.mem_cons.1 hp with rfl | hp
        · simp
        · exact .inr (List.mem_cons_of_mem _ hp)
/-- What put tells. -/
def PutPost (t : Tr) (z : Bool) (w : World) (e : Ending) (w' : World) : Prop := ∃ b, e = .returned (.tuple #[.pointer (some ⟨b, 0, none⟩), .bool z]) ∧ TP w' (some ⟨b, 0, none⟩) t ∧ Below w.heap.size w w'
end Go.Proofs.Ytcgjiddiegepkaa
