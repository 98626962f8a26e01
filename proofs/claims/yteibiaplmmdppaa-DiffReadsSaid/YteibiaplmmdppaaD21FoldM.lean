/- Changes done to a map: plain facts. -/
import Derived.Test.YteibiaplmmdppaaD21Fold
import Derived.Test.YteibiaplmmdppaaD21Math2
namespace Go.Proofs.Yteibiaplmmdppaa
open Go.RowKit

theorem ss_key (k : List UInt8) : KSSS (str k) := ⟨k, rfl⟩
theorem str_inj {a b : List UInt8} (h : (str a : Value) = str b) : a = b := by simpa using h
/-- A key below all of a rising list is none of it. -/
theorem getL_below {k : Value} : ∀ {l : List (Value × Value)}, (∀ q ∈ l, lessV k q.1 = true) → getL k l = none
  | [], _ => rfl
  | (k', x') :: t, h => by
    have := h (k', x') (by simp)
    simp [getL, this]
theorem getL_ins {k k' v : Value} (hk : KSSS k) (hk' : KSSS k') : ∀ {s : List (Value × Value)}, (∀ p ∈ s, KSSS p.1) → Ris s → (k = k' → getL k (insL k' v s) = some v) ∧ (k ≠ k' → getL k (insL k' v s) = getL k s)
  | [], _, _ => by
    refine ⟨fun e => ?_, fun hne => ?_⟩
    · subst e; simp [insL, getL, ordSS.irr k hk]
    · simp only [insL, getL]
      cases h1 : lessV k k'
      · cases h2 : lessV k' k
        · exact absurd (ordSS.tot k k' hk hk' h1 h2) hne
        · simp
      · simp
  | (a, x) :: t, ks, hr => by
    obtain ⟨r1, r2⟩ := hr
    have ha := ks (a, x) (by simp)
    have ih := getL_ins (v := v) hk hk' (fun p hp => ks p (by simp [hp])) r2
    unfold insL
    cases h1 : lessV k' a
    · cases h2 : lessV a k'
      · obtain rfl := ordSS.tot k' a hk' ha h1 h2
        simp only [Bool.false_eq_true, if_false]
        refine ⟨fun e => ?_, fun hne => ?_⟩
        · subst e; simp [getL, ordSS.irr k hk]
        · simp only [getL]
          cases g1 : lessV k k'
          · cases g2 : lessV k' k
            · exact absurd (ordSS.tot k k' hk hk' g1 g2) hne
            · simp
          · simp
      · simp only [Bool.false_eq_true, if_false, if_true]
        refine ⟨fun e => ?_, fun hne => ?_⟩
        · have h3 : lessV a k = true := by rw [e]; exact h2
          have h4 := ordSS.asym ha hk h3
          simp only [getL, h4, h3, Bool.false_eq_true, if_false, if_true]
          exact ih.1 e
        · simp only [getL]
          rw [ih.2 hne]
    · simp only [if_true]
      refine ⟨fun e => ?_, fun hne => ?_⟩
      · subst e; simp [getL, ordSS.irr k hk]
      · cases g1 : lessV k k'
        · cases g2 : lessV k' k
          · exact absurd (ordSS.tot k k' hk hk' g1 g2) hne
          · simp [getL, g1, g2]
        · have := ordSS.tr k k' a hk hk' ha g1 h1
          simp [getL, g1, this]
theorem getL_del {k k' : Value} (hk : KSSS k) (hk' : KSSS k') : ∀ {s : List (Value × Value)}, (∀ p ∈ s, KSSS p.1) → Ris s → (k = k' → getL k (delL k' s) = none) ∧ (k ≠ k' → getL k (delL k' s) = getL k s)
  | [], _, _ => by simp [delL, getL]
  | (a, x) :: t, ks, hr => by
    obtain ⟨r1, r2⟩ := hr
    have ha := ks (a, x) (by simp)
    have ih := getL_del hk hk' (fun p hp => ks p (by simp [hp])) r2
    unfold delL
    cases h1 : lessV k' a
    · cases h2 : lessV a k'
      · obtain rfl := ordSS.tot k' a hk' ha h1 h2
        simp only [Bool.false_eq_true, if_false]
        refine ⟨fun e => ?_, fun hne => ?_⟩
        · subst e; exact getL_below r1
        · simp only [getL]
          cases g1 : lessV k k'
          · cases g2 : lessV k' k
            · exact absurd (ordSS.tot k k' hk hk' g1 g2) hne
            · simp
          · simp only [if_true]
            exact getL_below (fun q hq => ordSS.tr k k' q.1 hk hk' (ks q (by simp [hq])) g1 (r1 q hq))
      · simp only [Bool.false_eq_true, if_false, if_true]
        refine ⟨fun e => ?_, fun hne => ?_⟩
        · have h3 : lessV a k = true := by rw [e]; exact h2
          have h4 := ordSS.asym ha hk h3
          simp only [getL, h4, h3, Bool.false_eq_true, if_false, if_true]
          exact ih.1 e
        · simp only [getL]
          rw [ih.2 hne]
    · simp only [if_true]
      refine ⟨fun e => ?_, fun _ => trivial⟩
      subst e; simp [getL, h1]
theorem ins_keys {k v : Value} (hk : KSSS k) : ∀ {s : List (Value × Value)}, (∀ p ∈ s, KSSS p.1) → ∀ p ∈ insL k v s, KSSS p.1
  | [], _, p, hp => by simp [insL] at hp; rw [hp]; exact hk
  | (a, x) :: t, ks, p, hp => by
    unfold insL at hp
    split at hp
    · rcases List.mem_cons.1 hp with rfl | hp
      · exact hk
      · exact ks p hp
    · split at hp
      · rcases List.mem_cons.1 hp with rfl | hp
        · exact ks _ (by simp)
        · exact ins_keys hk (fun q hq => ks q (by simp [hq])) p hp
      · rcases List.mem_cons.1 hp with rfl | hp
        · exact hk
        · exact ks p (by simp [hp])
/-- What a change leaves. -/
theorem chgDo_inv {s : List (Value × Value)} (c : ChgT) (ks : ∀ p ∈ s, KSSS p.1) (hr : Ris s) : (∀ p ∈ chgDo s c, KSSS p.1) ∧ Ris (chgDo s c) := by
  unfold chgDo
  split
  · exact ⟨fun p hp => ks p (del_mem _ hp), ris_del _ hr⟩
  · exact ⟨ins_keys (ss_key _) ks, (ris_ins ordSS (ss_key _) ks hr).1⟩
theorem getL_chg {s : List (Value × Value)} (c : ChgT) (k : List UInt8) (ks : ∀ p ∈ s, KSSS p.1) (hr : Ris s) : getL (str k) (chgDo s c) = if k = c.1 then (if c.2.2 = true then none else some (str c.2.1)) else getL (str k) s := by
  unfold chgDo
  by_cases he : k = c.1
  · rw [if_pos he]
    split
    · exact (getL_del (ss_key k) (ss_key c.1) ks hr).1 (by rw [he])
    · exact (getL_ins (ss_key k) (ss_key c.1) ks hr).1 (by rw [he])
  · rw [if_neg he]
    have hne : (str k : Value) ≠ str c.1 := fun h => he (str_inj h)
    split
    · exact (getL_del (ss_key k) (ss_key c.1) ks hr).2 hne
    · exact (getL_ins (ss_key k) (ss_key c.1) ks hr).2 hne
/-- What a key is behind many changes: what the last change of it says. -/
theorem fold_inv : ∀ (L : List ChgT) {s : List (Value × Value)}, (∀ p ∈ s, KSSS p.1) → Ris s → (∀ p ∈ foldV s L, KSSS p.1) ∧ Ris (foldV s L)
  | [], _, ks, hr => ⟨ks, hr⟩
  | c :: L, _, ks, hr => by
    obtain ⟨h1, h2⟩ := chgDo_inv c ks hr
    exact fold_inv L h1 h2
theorem fold_none (k : List UInt8) : ∀ (L : List ChgT) {s : List (Value × Value)}, (∀ p ∈ s, KSSS p.1) → Ris s → (∀ c ∈ L, c.1 ≠ k) → getL (str k) (foldV s L) = getL (str k) s
  | [], _, _, _, _ => rfl
  | c :: L, s, ks, hr, h => by
    obtain ⟨h1, h2⟩ := chgDo_inv c ks hr
    have ih := fold_none k L h1 h2 (fun d hd => h d (by simp [hd]))
    show getL (str k) (foldV (chgDo s c) L) = _
    rw [ih, getL_chg c k ks hr, if_neg (fun e => h c (by simp) e.symm)]
theorem fold_some (k : List UInt8) : ∀ (L : List ChgT) {s : List (Value × Value)} (c : ChgT), (∀ p ∈ s, KSSS p.1) → Ris s → RisC L → c ∈ L → c.1 = k → getL (str k) (foldV s L) = if c.2.2 = true then none else some (str c.2.1)
  | d :: L, s, c, ks, hr, hR, hc, he => by
    obtain ⟨q1, q2⟩ := hR
    obtain ⟨h1, h2⟩ := chgDo_inv d ks hr
    show getL (str k) (foldV (chgDo s d) L) = _
    rcases List.mem_cons.1 hc with rfl | hc
    · rw [fold_none k L h1 h2 (fun e hE hk => by
        have := q1 e hE
        rw [hk, he, bl_irr] at this; cases this), getL_chg c k ks hr, if_pos he.symm]
    · exact fold_some k L c h1 h2 q2 hc he
/-- Two rising lists of the same keys' values are one. -/
theorem ris_eq {a b : List (Value × Value)} (ka : ∀ p ∈ a, KSSS p.1) (kb : ∀ p ∈ b, KSSS p.1) (ra : Ris a) (rb : Ris b) (h : ∀ k : List UInt8, getL (str k) a = getL (str k) b) : a = b := by
  refine ris_ext ka kb ra rb (fun p => ⟨fun hp => ?_, fun hp => ?_⟩)
  · obtain ⟨k, hk⟩ := ka p hp
    have h1 := mem_getL ka ra hp
    rw [hk, h k] at h1
    have := getL_mem kb (ss_key k) h1
    rw [← hk] at this; exact this
  · obtain ⟨k, hk⟩ := kb p hp
    have h1 := mem_getL kb rb hp
    rw [hk, ← h k] at h1
    have := getL_mem ka (ss_key k) h1
    rw [← hk] at this; exact this
/-- Whether a key is among the changes. -/
theorem chg_mem {ta tb : Tr} {L : List ChgT} (ha : WS KSSS VSSS ta) (hb : WS KSSS VSSS tb) (h : chgLSS ta tb = L.map encC) {c : ChgT} (hc : c ∈ L) : chgFSS ta tb (str c.1) = some (encC c) := by
  have h1 : encC c ∈ chgLSS ta tb := by rw [h]; exact List.mem_map_of_mem hc
  unfold chgLSS chgsSS at h1
  obtain ⟨p, hp, e⟩ := List.mem_filterMap.1 h1
  have hk := (mrg_mem (fun p => KSSS p.1 ∧ VSSS p.2) _ _ (fun p hp => ws_keys ha p hp) (fun p hp => ws_keys hb p hp) p hp).1
  obtain ⟨x, hx, hx2⟩ := chgF_form hk hb e
  have e1 : c.1 = x.1 := by
    obtain ⟨d1, d2, d3⟩ := c
    obtain ⟨x1, x2, x3⟩ := x
    have h3 : d1 = x1 ∧ d2 = x2 ∧ d3 = x3 := by simpa [encC] using hx
    exact h3.1
  rw [e1, ← hx2]; exact e
/-- T3: what has changed, done to the first map, is the second one. -/
theorem fold_chg {ta tb : Tr} {L : List ChgT} (ha : WS KSSS VSSS ta) (hb : WS KSSS VSSS tb) (ra : Ris (prs ta)) (rb : Ris (prs tb)) (h : chgLSS ta tb = L.map encC) : foldV (prs ta) L = prs tb := by
  have ka : ∀ p ∈ prs ta, KSSS p.1 := fun p hp => (ws_keys ha p hp).1
  have kb : ∀ p ∈ prs tb, KSSS p.1 := fun p hp => (ws_keys hb p hp).1
  obtain ⟨i1, i2⟩ := fold_inv L ka ra
  have hR := chgL_ris ha hb ra rb h
  refine ris_eq i1 kb i2 rb (fun k => ?_)
  by_cases hm : ∃ c ∈ L, c.1 = k
  · obtain ⟨c, hc, he⟩ := hm
    rw [fold_some k L c ka ra hR hc he]
    have hf := chg_mem ha hb h hc
    rw [he] at hf
    unfold chgFSS at hf
    rw [getT_eq ordSS (ss_key k) ha ra, getT_eq ordSS (ss_key k) hb rb] at hf
    obtain ⟨c1, c2, c3⟩ := c
    cases hB : getL (str k) (prs tb) with
    | none =>
      rw [hB] at hf
      have e3 : c3 = true := by
        cases hA : getL (str k) (prs ta) <;> (rw [hA] at hf; have := Option.some.inj hf; simp [encC] at this; exact this.2.2)
      simp [e3]
    | some y =>
      rw [hB] at hf
      cases hA : getL (str k) (prs ta) with
      | none =>
        rw [hA] at hf
        have := Option.some.inj hf
        simp [encC] at this
        simp [← this.2.2, this.2.1]
      | some x =>
        rw [hA] at hf
        dsimp only at hf
        split at hf
        · cases hf
        · have := Option.some.inj hf
          simp [encC] at this
          simp [← this.2.2, this.2.1]
  · rw [fold_none k L ka ra (fun c hc he => hm ⟨c, hc, he⟩)]
    -- nothing told of it: as it was, or none of either
    cases hA : getL (str k) (prs ta) with
    | none =>
      cases hB : getL (str k) (prs tb) with
      | none => rfl
      | some y =>
        exfalso
        have hp := getL_mem kb (ss_key k) hB
        have hq := (mrg_keys _ _ ka kb).2 _ hp
        have hf : chgFSS ta tb (str k) = some (chgVSS (str k) y false) := by
          unfold chgFSS
          rw [getT_eq ordSS (ss_key k) ha ra, getT_eq ordSS (ss_key k) hb rb, hA, hB]
        have hin : chgVSS (str k) y false ∈ chgLSS ta tb := List.mem_filterMap.2 ⟨_, hq, hf⟩
        rw [h] at hin
        obtain ⟨c, hc, he⟩ := List.mem_map.1 hin
        refine hm ⟨c, hc, ?_⟩
        simp [encC] at he
        exact he.1
    | some x =>
      have hp := getL_mem ka (ss_key k) hA
      obtain ⟨q, hq, hqk⟩ := (mrg_keys _ _ ka kb).1 _ hp
      have hqk' : q.1 = str k := hqk
      have key : ∀ v g, chgFSS ta tb (str k) = some (chgVSS (str k) v g) → False := by
        intro v g hf
        have hin : chgVSS (str k) v g ∈ chgLSS ta tb := List.mem_filterMap.2 ⟨q, hq, by rw [hqk']; exact hf⟩
        rw [h] at hin
        obtain ⟨c, hc, he⟩ := List.mem_map.1 hin
        refine hm ⟨c, hc, ?_⟩
        simp [encC] at he
        exact he.1
      cases hB : getL (str k) (prs tb) with
      | none =>
        exfalso
        refine key (str []) true ?_
        unfold chgFSS
        rw [getT_eq ordSS (ss_key k) ha ra, getT_eq ordSS (ss_key k) hb rb, hA, hB]
      | some y =>
        by_cases hs : sameBSS x y = true
        · have hx := getT_vsSS ha (by rw [getT_eq ordSS (ss_key k) ha ra]; exact hA : getT (str k) ta = some x)
          have hy := getT_vsSS hb (by rw [getT_eq ordSS (ss_key k) hb rb]; exact hB : getT (str k) tb = some y)
          obtain ⟨xl, rfl⟩ := hx
          obtain ⟨yl, rfl⟩ := hy
          have : xl = yl := by simpa [sameBSS] using hs
          rw [this]
        · exfalso
          refine key y false ?_
          unfold chgFSS
          rw [getT_eq ordSS (ss_key k) ha ra, getT_eq ordSS (ss_key k) hb rb, hA, hB]
          simp [hs]
end Go.Proofs.Yteibiaplmmdppaa
