/- hbllaw2's rows: words. -/
import Derived.Test.YtdkplhfbcpobaaaUniqMath
import Derived.Test.YtdkplhfbcpobaaaTrMap
import Derived.Test.YtdkplhfbcpobaaaRange
namespace Go.Proofs.Ytdkplhfbcpobaaa
open Go.RowKit

/-- The cells of rows. -/
def flatR : List (Int × List UInt8) → List Value
  | [] => []
  | p :: t => .int .i64 p.1 :: str p.2 :: flatR t
theorem flatR_len : ∀ l : List (Int × List UInt8), (flatR l).length = l.length * 2
  | [] => rfl
  | p :: t => by simp [flatR, flatR_len t]; omega
theorem flatR_app : ∀ a b : List (Int × List UInt8), flatR (a ++ b) = flatR a ++ flatR b
  | [], _ => rfl
  | p :: t, b => by simp [flatR, flatR_app t b]
theorem flatR_take : ∀ (l : List (Int × List UInt8)) (k : Nat), (flatR l).take (k * 2) = flatR (l.take k)
  | [], k => by simp [flatR]
  | p :: t, 0 => by simp [flatR]
  | p :: t, k + 1 => by
    have : (k + 1) * 2 = k * 2 + 1 + 1 := by omega
    simp only [flatR, List.take_succ_cons, this, flatR_take t k]
theorem flatR_drop : ∀ (l : List (Int × List UInt8)) (k : Nat), (flatR l).drop (k * 2) = flatR (l.drop k)
  | [], k => by simp [flatR]
  | p :: t, 0 => by simp [flatR]
  | p :: t, k + 1 => by
    have : (k + 1) * 2 = k * 2 + 1 + 1 := by omega
    simp only [flatR, List.drop_succ_cons, this, flatR_drop t k]
theorem flatR_at : ∀ (l : List (Int × List UInt8)) (i : Nat) (h : i < l.length), (flatR l)[i * 2]? = some (.int .i64 l[i].1) ∧ (flatR l)[i * 2 + 1]? = some (str l[i].2)
  | p :: t, 0, _ => by simp [flatR]
  | p :: t, i + 1, h => by
    have e : (i + 1) * 2 = i * 2 + 1 + 1 := by omega
    have := flatR_at t i (by simpa using h)
    simp only [flatR, e, List.getElem?_cons_succ, List.getElem_cons_succ]
    exact this
theorem flatR_one (l : List (Int × List UInt8)) : ∀ u ∈ flatR l, u.oneCell' = true := by
  induction l with
  | nil => simp [flatR]
  | cons p t ih =>
    intro u hu
    simp only [flatR, List.mem_cons] at hu
    rcases hu with rfl | rfl | hu
    · rfl
    · rfl
    · exact ih u hu
/-- A row laid among rows. -/
def insK (k : Int) (v : List UInt8) : List (Int × List UInt8) → List (Int × List UInt8)
  | [] => [(k, v)]
  | p :: t => if k < p.1 then (k, v) :: p :: t else if p.1 < k then p :: insK k v t else (k, v) :: t
/-- They rise. -/
def RisK : List (Int × List UInt8) → Prop
  | [] => True
  | p :: t => (∀ q ∈ t, p.1 < q.1) ∧ RisK t
theorem insK_mem (k : Int) (v : List UInt8) : ∀ (l : List (Int × List UInt8)), ∀ q ∈ insK k v l, q.1 = k ∨ q ∈ l
  | [], q, h => by simp [insK] at h; simp [h]
  | p :: t, q, h => by
    unfold insK at h
    split at h
    · rcases List.mem_cons.1 h with rfl | h
      · exact .inl rfl
      · exact .inr h
    · split at h
      · rcases List.mem_cons.1 h with rfl | h
        · exact .inr (by simp)
        · rcases insK_mem k v t q h with h | h
          · exact .inl h
          · exact .inr (List.mem_cons_of_mem _ h)
      · rcases List.mem_cons.1 h with rfl | h
        · exact .inl rfl
        · exact .inr (List.mem_cons_of_mem _ h)
theorem insK_ris (k : Int) (v : List UInt8) : ∀ {l : List (Int × List UInt8)}, RisK l → RisK (insK k v l)
  | [], _ => by simp [insK, RisK]
  | p :: t, h => by
    obtain ⟨h1, h2⟩ := h
    unfold insK
    split
    · next g =>
      refine ⟨fun q hq => ?_, h1, h2⟩
      rcases List.mem_cons.1 hq with rfl | hq
      · exact g
      · have := h1 q hq; show k < q.1; omega
    · split
      · next g =>
        refine ⟨fun q hq => ?_, insK_ris k v h2⟩
        rcases insK_mem k v t q hq with h | h
        · omega
        · exact h1 q h
      · next g g2 =>
        refine ⟨fun q hq => ?_, h2⟩
        have := h1 q hq
        show k < q.1
        omega
theorem risK_lt : ∀ {l : List (Int × List UInt8)} {i j : Nat}, RisK l → i < j → (h : j < l.length) → ∀ {h' : i < l.length}, l[i].1 < l[j].1
  | a :: t, 0, j + 1, h, _, hj, _ => h.1 _ (List.getElem_mem (by simpa using hj))
  | a :: t, i + 1, j + 1, h, hij, hj, _ => by
    simp only [List.getElem_cons_succ]
    exact risK_lt h.2 (by omega) (by simpa using hj)
/-- Where it is laid. -/
theorem insK_at (k : Int) (v : List UInt8) : ∀ {l : List (Int × List UInt8)} {p : Nat}, RisK l → p ≤ l.length → (∀ j (h : j < l.length), j < p → l[j].1 < k) → (∀ h : p < l.length, k ≤ l[p].1) →
    insK k v l = if (∃ h : p < l.length, l[p].1 = k) then l.take p ++ (k, v) :: l.drop (p + 1) else l.take p ++ (k, v) :: l.drop p
  | [], p, _, hp, _, _ => by
    obtain rfl : p = 0 := by simpa using hp
    simp [insK]
  | a :: t, 0, h, _, _, h2 => by
    have h0 := h2 (by simp)
    simp only [List.getElem_cons_zero] at h0
    unfold insK
    by_cases e : k < a.1
    · rw [if_pos e, if_neg (by rintro ⟨_, h⟩; simp at h; omega)]
      simp
    · rw [if_neg e, if_neg (by omega), if_pos ⟨by simp, by simp; omega⟩]
      simp
  | a :: t, p + 1, h, hp, h1, h2 => by
    obtain ⟨r1, r2⟩ := h
    have h0 := h1 0 (by simp) (by omega)
    simp only [List.getElem_cons_zero] at h0
    unfold insK
    rw [if_neg (by omega), if_pos h0, insK_at k v (l := t) (p := p) r2 (by simpa using hp) (fun j hj hjp => h1 (j + 1) (by simpa using hj) (by omega)) (fun hb => h2 (by simpa using hb))]
    have e : (∃ h : p + 1 < (a :: t).length, (a :: t)[p + 1].1 = k) ↔ (∃ h : p < t.length, t[p].1 = k) := by
      constructor
      · rintro ⟨h, e⟩; exact ⟨by simpa using h, e⟩
      · rintro ⟨h, e⟩; exact ⟨by simpa using h, e⟩
    by_cases g : ∃ h : p < t.length, t[p].1 = k
    · rw [if_pos g, if_pos (e.2 g)]
      simp
    · rw [if_neg g, if_neg (fun q => g (e.1 q))]
      simp
/-- Rows behind a pointer: the box, the row. -/
structure RowsP (W : World) (bx base : Nat) (vo : Value) (rl : List (Int × List UInt8)) : Prop where
  box : W.heap[bx]? = some (.cells #[vo] 29 (0, 0))
  row : W.ownsRow base 39 2 vo rl.length (flatR rl)
  ris : RisK rl
  sz : base ≤ W.heap.size
theorem RowsP.below {W W' : World} {bx base : Nat} {vo : Value} {rl : List (Int × List UInt8)} (h : RowsP W bx base vo rl) (hb : Below W.heap.size W W') : RowsP W' bx base vo rl := by
  refine ⟨by rw [hb.block bx (Array.getElem?_eq_some_iff.1 h.box).1]; exact h.box, ?_, h.ris, Nat.le_trans h.sz hb.size⟩
  refine ⟨h.row.1, ?_⟩
  rcases h.row.2 with hn | ⟨g, cap, cur, rfl, hg, hc, rest⟩
  · exact .inl hn
  · exact .inr ⟨g, cap, cur, rfl, hg, by rw [hb.block g (Array.getElem?_eq_some_iff.1 hc).1]; exact hc, rest⟩
/-- Its cells. -/
theorem RowsP.cells {W : World} {bx base g n cap : Nat} {rl : List (Int × List UInt8)} (h : RowsP W bx base (.slice (some ⟨g, 0, none⟩) n cap) rl) : n = rl.length ∧ n ≤ cap ∧
    ∀ i (hi : i < rl.length), W.cell? ⟨g, i * 2, none⟩ = some (.int .i64 rl[i].1) ∧ W.cell? ⟨g, i * 2 + 1, none⟩ = some (str rl[i].2) := by
  rcases h.row.2 with ⟨h', _⟩ | ⟨g', cap', cur, h', hb, hg, h1, h2, h3, h4⟩
  · simp at h'
  · simp only [Value.slice.injEq, Option.some.injEq, Addr.mk.injEq, and_true] at h'
    obtain ⟨rfl, rfl, rfl⟩ := h'
    refine ⟨rfl, h1, fun i hi => ?_⟩
    obtain ⟨e1, e2⟩ := flatR_at rl i hi
    rw [cell_of_row W g _ cur _ (0, 0) hg, cell_of_row W g _ cur _ (0, 0) hg]
    have q1 := congrArg (fun z => z[i * 2]?) h4
    have q2 := congrArg (fun z => z[i * 2 + 1]?) h4
    simp only [List.getElem?_take] at q1 q2
    rw [if_pos (by omega), e1] at q1
    rw [if_pos (by omega), e2] at q2
    exact ⟨by simpa using q1, by simpa using q2⟩
end Go.Proofs.Ytdkplhfbcpobaaa
