/- Maps in order: plain facts on what is put and got; of numbers to lists. -/
import Derived.Test.YtdkplhfbcpobaaaCopyIL
import Derived.Test.YtdkplhfbcpobaaaDelIL
import Derived.Test.YtdkplhfbcpobaaaRdV
namespace Go.Proofs.Ytdkplhfbcpobaaa
open Go.RowKit

open Classical in
theorem getL_ins {K : Value → Prop} (O : Ord K) {k k' x : Value} (hk : K k) (hk' : K k') : ∀ {l : List (Value × Value)}, (∀ p ∈ l, K p.1) → Ris l → getL k' (insL k x l) = if k' = k then some x else getL k' l
  | [], _, _ => by
    by_cases h : k' = k
    · subst h; simp [insL, getL, O.irr k' hk']
    · rw [if_neg h]
      unfold insL getL
      split
      · rfl
      · next g =>
        split
        · rfl
        · next g2 => exact absurd (O.tot k' k hk' hk (by simpa using g) (by simpa using g2)) h
  | (c, y) :: t, hK, hr => by
    obtain ⟨h1, h2⟩ := hr
    have hc := hK (c, y) (List.mem_cons_self ..)
    have hKt : ∀ p ∈ t, K p.1 := fun p hp => hK p (List.mem_cons_of_mem _ hp)
    have ih := getL_ins O (k := k) (k' := k') (x := x) hk hk' hKt h2
    by_cases h : k' = k
    · subst h
      rw [if_pos rfl] at ih ⊢
      unfold insL
      split
      · simp [getL, O.irr k' hk']
      · next g =>
        split
        · next g2 =>
          unfold getL
          rw [if_neg g, if_pos g2]
          exact ih
        · simp [getL, O.irr k' hk']
    · rw [if_neg h] at ih ⊢
      unfold insL
      split
      · next g =>
        rw [getL]
        by_cases a : lessV k' k = true
        · have := O.tr k' k c hk' hk hc a g
          rw [if_pos a]
          unfold getL
          rw [if_pos this]
        · rw [if_neg a]
          by_cases a2 : lessV k k' = true
          · rw [if_pos a2]
          · exact absurd (O.tot k' k hk' hk (by simpa using a) (by simpa using a2)) h
      · next g =>
        split
        · next g2 =>
          unfold getL
          rw [ih]
        · next g2 =>
          have e := O.tot k c hk hc (by simpa using g) (by simpa using g2)
          subst e
          unfold getL
          by_cases a : lessV k' k = true
          · rw [if_pos a, if_pos a]
          · rw [if_neg a, if_neg a]
            by_cases a2 : lessV k k' = true
            · rw [if_pos a2, if_pos a2]
            · exact absurd (O.tot k' k hk' hk (by simpa using a) (by simpa using a2)) h
theorem newT_get (k : Value) : ∀ t : Tr, newT k t = !(getT k t).isSome
  | .nil => rfl
  | .node l k' x n r => by
    unfold newT getT
    split
    · exact newT_get k l
    · split
      · exact newT_get k r
      · rfl
/-- A list of two numbers in a block of its own. -/
def Two (W : World) (v : Value) (m x : Int) : Prop := ∃ g, v = .slice (some ⟨g, 0, none⟩) 2 2 ∧ W.heap[g]? = some (.cells #[.int .i64 m, .int .i64 x] 3 (0, 0))
theorem Two.below {W W' : World} {v : Value} {m x : Int} (h : Two W v m x) (hb : Below W.heap.size W W') : Two W' v m x := by
  obtain ⟨g, hv, hc⟩ := h
  exact ⟨g, hv, by rw [hb.block g (Array.getElem?_eq_some_iff.1 hc).1]; exact hc⟩
theorem Two.only {W W' : World} {v : Value} {m x : Int} {b : Nat} {t : Tr} (h : Two W v m x) (hm : MP W b t) (ho : Only b W W') : Two W' v m x := by
  obtain ⟨g, hv, hc⟩ := h
  refine ⟨g, hv, ?_⟩
  rw [ho.2 g (Array.getElem?_eq_some_iff.1 hc).1]
  · exact hc
  · rintro rfl
    obtain ⟨T, o, h, _⟩ := hm
    rw [hc] at h
    simp at h
/-- A map of the first i numbers of l to the places where they stand. -/
structure KInv (l : List Int) (W : World) (i : Nat) (t : Tr) : Prop where
  ws : WS KSIL VSIL t
  rs : Ris (prs t)
  ht : ht t ≤ i
  len : (prs t).length ≤ i
  got : ∀ j (h : j < l.length), j < i → ∃ (m : Nat) (v : Value), j ≤ m ∧ m < i ∧ l[m]? = some l[j] ∧ getL (.int .i64 l[j]) (prs t) = some v ∧ Two W v (m : Int) l[j]
theorem KInv.below {l : List Int} {W W' : World} {i : Nat} {t : Tr} (h : KInv l W i t) (hb : Below W.heap.size W W') : KInv l W' i t :=
  ⟨h.ws, h.rs, h.ht, h.len, fun j hj hi => by obtain ⟨m, v, a, b, c, d, e⟩ := h.got j hj hi; exact ⟨m, v, a, b, c, d, e.below hb⟩⟩
theorem KInv.put {l : List Int} {W W' : World} {i b : Nat} {t : Tr} {v : Value} (h : KInv l W i t) (hl : ∀ x ∈ l, -9223372036854775808 ≤ x ∧ x ≤ 9223372036854775807) (hi : i < l.length) (hm : MP W b t) (ho : Only b W W') (hv : VSIL v) (h2 : Two W v (i : Int) l[i]) : KInv l W' (i + 1) (putT (.int .i64 l[i]) v t) := by
  have ks : ∀ j (hj : j < l.length), KSIL (.int .i64 l[j]) := fun j hj => ⟨_, rfl, hl _ (List.getElem_mem hj)⟩
  have hw := WS.put (k := .int .i64 l[i]) (x := v) (ks i hi) hv h.ws
  have hp := prs_put ordIL (x := v) (ks i hi) h.ws h.rs
  have hkeys : ∀ p ∈ prs t, KSIL p.1 := fun p hp => (ws_keys h.ws p hp).1
  refine ⟨hw.1, by rw [hp]; exact (ris_ins ordIL (ks i hi) hkeys h.rs).1, by have := h.ht; have := hw.2; omega, ?_, ?_⟩
  · rw [len_put]
    have := h.len
    split <;> omega
  · intro j hj hji
    rw [hp, getL_ins ordIL (ks i hi) (ks j hj) hkeys h.rs]
    by_cases e : l[j] = l[i]
    · rw [if_pos (by rw [e])]
      refine ⟨i, v, by omega, by omega, ?_, rfl, ?_⟩
      · rw [e]; simp [hi]
      · rw [e]; exact h2.only hm ho
    · rw [if_neg (by simpa using e)]
      have hlt : j < i := by
        rcases Nat.lt_or_ge j i with h | h
        · exact h
        · obtain rfl : j = i := by omega
          exact absurd rfl e
      obtain ⟨m, v, a, b, c, d, f⟩ := h.got j hj hlt
      exact ⟨m, v, a, by omega, c, d, f.only hm ho⟩
/-- What is put is there. -/
theorem has_put {k x : Value} {t : Tr} (hk : KSIL k) (hx : VSIL x) (hw : WS KSIL VSIL t) (hr : Ris (prs t)) : hasT k (putT k x t) = true := by
  have hkeys : ∀ p ∈ prs t, KSIL p.1 := fun p hp => (ws_keys hw p hp).1
  have hp := prs_put ordIL (x := x) hk hw hr
  have h := (prs_rem ordIL hk (WS.put hk hx hw).1 (by rw [hp]; exact (ris_ins ordIL hk hkeys hr).1)).2.2
  rw [h, hp, getL_ins ordIL hk hk hkeys hr, if_pos rfl]
  rfl
end Go.Proofs.Ytdkplhfbcpobaaa
