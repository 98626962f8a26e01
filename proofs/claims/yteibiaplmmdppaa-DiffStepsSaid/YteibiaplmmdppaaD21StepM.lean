/- DiffSteps: plain facts. -/
import Derived.Test.YteibiaplmmdppaaD21BackM
namespace Go.Proofs.Yteibiaplmmdppaa
open Go.RowKit

theorem nodup_len {α : Type} [DecidableEq α] : ∀ (a b : List α), a.Nodup → (∀ x ∈ a, x ∈ b) → a.length ≤ b.length
  | [], b, _, _ => Nat.zero_le _
  | x :: t, b, hn, h => by
    obtain ⟨h1, h2⟩ := List.nodup_cons.1 hn
    have hx := h x (by simp)
    have := nodup_len t (b.erase x) h2 (fun y hy => by
      have hne : y ≠ x := fun e => h1 (by rw [← e]; exact hy)
      exact (List.mem_erase_of_ne hne).2 (h y (by simp [hy])))
    rw [List.length_erase_of_mem hx] at this
    have h3 := List.length_pos_of_mem hx
    simp
    omega
theorem risC_nodup : ∀ {L : List ChgT}, RisC L → (L.map (fun c => c.1)).Nodup
  | [], _ => List.nodup_nil
  | c :: t, h => by
    obtain ⟨h1, h2⟩ := h
    rw [List.map_cons, List.nodup_cons]
    refine ⟨fun hm => ?_, risC_nodup h2⟩
    obtain ⟨d, hd, e⟩ := List.mem_map.1 hm
    have := h1 d hd
    have e2 : d.1 = c.1 := e
    rw [e2] at this
    have i := ordSS.irr (str c.1) ⟨_, rfl⟩
    simp [lessV] at i
    rw [i] at this
    cases this
/-- A key that has changed is had, and not had alike. -/
theorem chg_unlike {ta tb : Tr} {L : List ChgT} (ha : WS KSSS VSSS ta) (hb : WS KSSS VSSS tb) (ra : Ris (prs ta)) (rb : Ris (prs tb)) (h : chgLSS ta tb = L.map encC) {c : ChgT} (hc : c ∈ L) : getL (str c.1) (prs ta) ≠ getL (str c.1) (prs tb) := by
  have ka : ∀ p ∈ prs ta, KSSS p.1 := fun p hp => (ws_keys ha p hp).1
  have kb : ∀ p ∈ prs tb, KSSS p.1 := fun p hp => (ws_keys hb p hp).1
  intro hE
  have hF := chg_mem ha hb h hc
  have h1 : encC c ∈ chgLSS ta tb := by rw [h]; exact List.mem_map_of_mem hc
  unfold chgLSS chgsSS at h1
  obtain ⟨p, hp, e⟩ := List.mem_filterMap.1 h1
  have hk := (mrg_mem (fun p => KSSS p.1 ∧ VSSS p.2) _ _ (fun p hp => ws_keys ha p hp) (fun p hp => ws_keys hb p hp) p hp).1
  obtain ⟨x, hx, hx2⟩ := chgF_form hk hb e
  have e1 : c.1 = x.1 := by
    obtain ⟨d1, d2, d3⟩ := c
    obtain ⟨x1, x2, x3⟩ := x
    have h3 : d1 = x1 ∧ d2 = x2 ∧ d3 = x3 := by simpa [encC] using hx
    exact h3.1
  have ek : p.1 = str c.1 := by rw [hx2, e1]
  have hin := mrg_mem (fun p => p ∈ prs ta ∨ p ∈ prs tb) _ _ (fun p hp => .inl hp) (fun p hp => .inr hp) p hp
  unfold chgFSS at hF
  rw [getT_eq ordSS ⟨_, rfl⟩ ha ra, getT_eq ordSS ⟨_, rfl⟩ hb rb, hE] at hF
  cases h2 : getL (str c.1) (prs tb) with
  | some y =>
    rw [h2] at hF
    dsimp only at hF
    have hv := (ws_keys hb _ (getL_mem kb ⟨_, rfl⟩ h2)).2
    rw [if_pos (sameB_self hv)] at hF
    cases hF
  | none =>
    rcases hin with hi | hi
    · have := mem_getL ka ra hi
      rw [ek, hE, h2] at this
      cases this
    · have := mem_getL kb rb hi
      rw [ek, h2] at this
      cases this
/-- Of two steps' changes and those of both at once: no more of these than of those together. -/
theorem steps_len {ta tb tc : Tr} {L M N : List ChgT} (ha : WS KSSS VSSS ta) (hb : WS KSSS VSSS tb) (hc : WS KSSS VSSS tc) (ra : Ris (prs ta)) (rb : Ris (prs tb)) (rc : Ris (prs tc))
    (h1 : chgLSS ta tb = L.map encC) (h2 : chgLSS tb tc = M.map encC) (h3 : chgLSS ta tc = N.map encC) : N.length ≤ L.length + M.length := by
  have ka : ∀ p ∈ prs ta, KSSS p.1 := fun p hp => (ws_keys ha p hp).1
  have kb : ∀ p ∈ prs tb, KSSS p.1 := fun p hp => (ws_keys hb p hp).1
  have := nodup_len (N.map (fun c => c.1)) ((L ++ M).map (fun c => c.1)) (risC_nodup (chgL_ris ha hc ra rc h3)) (fun k hk => by
    obtain ⟨c, hcN, rfl⟩ := List.mem_map.1 hk
    refine Classical.byContradiction fun hno => ?_
    have n1 : ∀ d ∈ L, d.1 ≠ c.1 := fun d hd e => hno (List.mem_map.2 ⟨d, by simp [hd], e⟩)
    have n2 : ∀ d ∈ M, d.1 ≠ c.1 := fun d hd e => hno (List.mem_map.2 ⟨d, by simp [hd], e⟩)
    have g1 := fold_none c.1 L ka ra n1
    have g2 := fold_none c.1 M kb rb n2
    rw [fold_chg ha hb ra rb h1] at g1
    rw [fold_chg hb hc rb rc h2] at g2
    exact chg_unlike ha hc ra rc h3 hcN (by rw [← g1, ← g2]))
  simpa using this
/-- What is gone has no value. -/
theorem chg_noval {ta tb : Tr} {L : List ChgT} (ha : WS KSSS VSSS ta) (hb : WS KSSS VSSS tb) (h : chgLSS ta tb = L.map encC) {c : ChgT} (hc : c ∈ L) (hg : c.2.2 = true) : c.2.1 = [] := by
  have hF := chg_mem ha hb h hc
  obtain ⟨k, v, g⟩ := c
  have hg' : g = true := hg
  subst hg'
  unfold chgFSS at hF
  cases h2 : getT (str k) tb with
  | none =>
    rw [h2] at hF
    cases h1 : getT (str k) ta <;> rw [h1] at hF <;> simpa [encC] using hF.symm
  | some y =>
    rw [h2] at hF
    cases h1 : getT (str k) ta with
    | none => rw [h1] at hF; simp [encC] at hF
    | some x =>
      rw [h1] at hF
      dsimp only at hF
      split at hF
      · cases hF
      · simp [encC] at hF
/-- Changes of both steps done one behind the other. -/
theorem steps_fold {ta tb tc : Tr} {L M : List ChgT} (ha : WS KSSS VSSS ta) (hb : WS KSSS VSSS tb) (hc : WS KSSS VSSS tc) (ra : Ris (prs ta)) (rb : Ris (prs tb)) (rc : Ris (prs tc))
    (h1 : chgLSS ta tb = L.map encC) (h2 : chgLSS tb tc = M.map encC) : foldV (prs ta) (L ++ M) = prs tc := by
  rw [foldV_app, fold_chg ha hb ra rb h1, fold_chg hb hc rb rc h2]
/-- Neighbours rise. -/
theorem risC_next : ∀ {L : List ChgT}, RisC L → ∀ {i : Nat} (h : i + 1 < L.length), Op.bytesLess L[i].1 L[i + 1].1 = true := by
  intro L h i hi
  have h2 : RisC (L.drop i) := (risC_app (a := L.take i) (b := L.drop i) (by rwa [List.take_append_drop])).2.1
  rw [List.drop_eq_getElem_cons (show i < L.length by omega)] at h2
  exact h2.1 _ (by rw [List.drop_eq_getElem_cons hi]; exact List.mem_cons_self)
end Go.Proofs.Yteibiaplmmdppaa
