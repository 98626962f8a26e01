/- Texts that rise, each once: words; an append of any source in a region. -/
import Derived.Test.YteibiaplmmdppaaRdV
import Derived.Test.YteibiaplmmdppaaTrMath
import Derived.Laws.OwnMore
import Derived.Laws.AppendOwnNone
namespace Go.Proofs.Yteibiaplmmdppaa
open Go.RowKit

/-- What is appended: a slice, nil or not. -/
def SrcV (w : World) (v : Value) (l : List Value) : Prop :=
  ∃ (a : Option Addr) (cap : Nat), v = .slice a l.length cap ∧ (a = none → cap = 0) ∧ (l ≠ [] → ∃ b off, a = some ⟨b, off, none⟩ ∧ ∀ i (h : i < l.length), w.cell? ⟨b, off + i, none⟩ = some l[i])
/-- An append at a step of a region that draws its order. -/
theorem step_appendV {P : Program} {w : World} {ops : Array Oper} {o : Oper} {a : Act} {K : Act → World → Prop} {Q : Exit → Act → World → Prop} {N : Prop} (hg : o.guard = none) (s x : Operand) (t : TypeId)
    (hop : o.op = Op.call { callee := Callee.builtin Builtin.append, args := #[s, x], argTypes := #[t, t] }) {base : Nat} {e : TypeId} {i : TypeInfo} {z : Value} {bytes : Nat} (h1 : P.underlying t = some (.slice e)) (h2 : P.info? e = some i) (h3 : i.zero = some z) (h4 : i.size = 1) (h5 : i.bytes = bytes)
    (h6 : z.cells.size = 1) {v : Value} {k : Nat} {xs news : List Value} (hs : a.eval s = v) (hown : w.ownsRow base e 1 v k xs) (hy : SrcV w (a.eval x) news) (hu : ∀ u ∈ news, u.oneCell' = true)
    (b1 : k + news.length ≤ maxLen) (b2 : (k + news.length) * bytes ≤ 140737488355328) (b3 : base ≤ w.heap.size)
    (hK : ∀ v' w', w'.ownsRow base e 1 v' (k + news.length) (xs ++ news) → w.grownBy w' v.ownBlock → K (a.put o.dst v') w') :
    if Region.wanted o (yielded ops a.tmps) = true then Oper.wp P o a w K Q else N := by
  have hw : Region.wanted o (yielded ops a.tmps) = true := by simp [Region.wanted, hg]
  rw [if_pos hw]
  obtain ⟨ad, cap, hx, hc1, hc2⟩ := hy
  cases ad with
  | none =>
    obtain rfl := hc1 rfl
    have hm : news = [] := by
      cases news with
      | nil => rfl
      | cons y t => obtain ⟨b, off, h, _⟩ := hc2 (by simp); cases h
    subst hm
    have hrun := run_append_owned_none (P := P) (w := w) base t o.type e i 1 h1 h2 v k xs hown
    unfold Oper.wp
    simp only [List.length_nil] at hx
    simp [execOp, hop, resolve, invoke, builtin, hs, hx, hrun, Result.andThen]
    exact hK v w (by rw [List.append_nil]; exact hown) ⟨rfl, rfl, rfl, Nat.le_refl _, fun _ _ _ => rfl⟩
  | some ad =>
    refine wp_append_own w s x t hop base e i z 1 bytes h1 h2 h3 h4 h5 h6 (by decide) v k xs hs hown ad news.length cap news hx (by simp) ?_ hu b1 b2 b3 ?_
    · intro j u hj
      have hjm : j < news.length := (List.getElem?_eq_some_iff.1 hj).1
      obtain ⟨b, off, hab, hcell⟩ := hc2 (by intro e; subst e; simp at hjm)
      simp only [Option.some.injEq] at hab
      subst hab
      rw [Addr.add_lit, hcell j hjm]
      simpa [hjm] using hj
    · intro v' w' h1 h2 _
      exact hK v' w' h1 h2
/-- The first cells of a row of the call's own. -/
theorem row_take {W : World} {base g n cap : Nat} {e : TypeId} {xs : List Value} (h : W.ownsRow base e 1 (.slice (some ⟨g, 0, none⟩) n cap) n xs) {k : Nat} (hk : k ≤ n) : W.ownsRow base e 1 (.slice (some ⟨g, 0, none⟩) k cap) k (xs.take k) := by
  have hl := h.1
  rcases h.2 with ⟨h', _⟩ | ⟨g', cap', cur, h', hb, hg, h1, h2, h3, h4⟩
  · simp at h'
  · simp only [Value.slice.injEq, Option.some.injEq, Addr.mk.injEq, and_true, true_and] at h'
    obtain ⟨rfl, rfl⟩ := h'
    refine ⟨by simp; omega, .inr ⟨g, cap, cur, rfl, hb, hg, by omega, h2, h3, ?_⟩⟩
    rw [← h4, List.take_take]
    congr 1
    simp
    omega
/-- Its cells. -/
theorem row_cells {W : World} {base g n cap : Nat} {e : TypeId} {xs : List Value} (h : W.ownsRow base e 1 (.slice (some ⟨g, 0, none⟩) n cap) n xs) : n ≤ cap ∧ ∀ i (hi : i < xs.length), W.cell? ⟨g, i, none⟩ = some xs[i] := by
  have hl := h.1
  rcases h.2 with ⟨h', _⟩ | ⟨g', cap', cur, h', hb, hg, h1, h2, h3, h4⟩
  · simp at h'
  · simp only [Value.slice.injEq, Option.some.injEq, Addr.mk.injEq, and_true, true_and] at h'
    obtain ⟨rfl, rfl⟩ := h'
    refine ⟨h1, fun i hi => ?_⟩
    rw [cell_of_row W g i cur e (0, 0) hg]
    obtain ⟨y, hy⟩ : ∃ y, y = xs[i] := ⟨_, rfl⟩
    have e1 : xs[i]? = some y := by simp [hi, hy]
    rw [← hy]
    have e2 := congrArg (fun z => z[i]?) h4
    simp only [List.getElem?_take] at e2
    rw [if_pos (by omega), e1] at e2
    simpa using e2
/-- A text laid among texts that rise. -/
def insU (x : List UInt8) : List (List UInt8) → List (List UInt8)
  | [] => [x]
  | y :: t => if Op.bytesLess x y = true then x :: y :: t else if Op.bytesLess y x = true then y :: insU x t else y :: t
/-- They rise. -/
def RisU : List (List UInt8) → Prop
  | [] => True
  | y :: t => (∀ z ∈ t, Op.bytesLess y z = true) ∧ RisU t
theorem insU_mem (x : List UInt8) : ∀ (l : List (List UInt8)), ∀ z ∈ insU x l, z = x ∨ z ∈ l
  | [], z, h => by simpa [insU] using h
  | y :: t, z, h => by
    unfold insU at h
    split at h
    · simpa using h
    · split at h
      · rcases List.mem_cons.1 h with rfl | h
        · exact .inr (by simp)
        · rcases insU_mem x t z h with h | h
          · exact .inl h
          · exact .inr (List.mem_cons_of_mem _ h)
      · exact .inr h
theorem insU_ris (x : List UInt8) : ∀ {l : List (List UInt8)}, RisU l → RisU (insU x l)
  | [], _ => by simp [insU, RisU]
  | y :: t, h => by
    obtain ⟨h1, h2⟩ := h
    unfold insU
    split
    · next g =>
      refine ⟨fun z hz => ?_, h1, h2⟩
      rcases List.mem_cons.1 hz with rfl | hz
      · exact g
      · exact bl_tr _ _ _ g (h1 z hz)
    · split
      · next g =>
        refine ⟨fun z hz => ?_, insU_ris x h2⟩
        rcases insU_mem x t z hz with rfl | hz
        · exact g
        · exact h1 z hz
      · exact ⟨h1, h2⟩
theorem insU_len (x : List UInt8) : ∀ (l : List (List UInt8)), (insU x l).length ≤ l.length + 1
  | [] => by simp [insU]
  | y :: t => by
    unfold insU
    have := insU_len x t
    split
    · simp
    · split
      · simp; omega
      · simp
/-- Where it is laid: from k on none is less, the one ahead of k is. -/
theorem insU_at (x : List UInt8) : ∀ {l : List (List UInt8)} {k : Nat}, RisU l → k ≤ l.length → (∀ j (h : j < l.length), k ≤ j → Op.bytesLess l[j] x = false) → (∀ h : k - 1 < l.length, 0 < k → Op.bytesLess l[k - 1] x = true) →
    insU x l = if l[k]? = some x then l else l.take k ++ x :: l.drop k
  | [], k, _, hk, _, _ => by
    obtain rfl : k = 0 := by simpa using hk
    simp [insU]
  | y :: t, 0, h, _, h1, _ => by
    have h0 := h1 0 (by simp) (Nat.le_refl _)
    simp only [List.getElem_cons_zero] at h0
    unfold insU
    rw [h0]
    by_cases e : Op.bytesLess x y = true
    · rw [if_pos e]
      have : y ≠ x := by rintro rfl; rw [bl_irr] at e; cases e
      simp [this]
    · rw [if_neg e]
      have : x = y := bl_tot x y (by simpa using e) h0
      subst this
      simp
  | y :: t, k + 1, h, hk, h1, h2 => by
    obtain ⟨r1, r2⟩ := h
    have hlt : Op.bytesLess y x = true := by
      rcases Nat.eq_zero_or_pos k with rfl | hk0
      · simpa using h2 (by simp) (by omega)
      · have hb : k < (y :: t).length := by simp at hk ⊢; omega
        have h3 := h2 (by simpa using hb) (by omega)
        have e : (y :: t)[k + 1 - 1]'(by simpa using hb) = t[k - 1]'(by simp at hb; omega) := by
          have : k + 1 - 1 = (k - 1) + 1 := by omega
          simp only [this, List.getElem_cons_succ]
        rw [e] at h3
        exact bl_tr _ _ _ (r1 _ (List.getElem_mem _)) h3
    have hno : ¬ Op.bytesLess x y = true := fun g => by have := bl_tr _ _ _ g hlt; rw [bl_irr] at this; cases this
    unfold insU
    rw [if_neg hno, if_pos hlt]
    rw [insU_at x (l := t) (k := k) r2 (by simpa using hk) (fun j hj hkj => h1 (j + 1) (by simpa using hj) (by omega)) (fun hb hk0 => by
      have h3 := h2 (by simp; omega) (by omega)
      have : k + 1 - 1 = (k - 1) + 1 := by omega
      simp only [this, List.getElem_cons_succ] at h3
      exact h3)]
    simp only [List.getElem?_cons_succ, List.take_succ_cons, List.drop_succ_cons]
    split <;> simp
end Go.Proofs.Yteibiaplmmdppaa
