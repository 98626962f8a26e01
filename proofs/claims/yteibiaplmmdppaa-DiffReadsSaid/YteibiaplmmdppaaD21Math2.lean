/- What has changed from map to map: keys rise; nothing has changed. -/
import Derived.Test.YteibiaplmmdppaaD21Math
import Derived.Test.YteibiaplmmdppaaD21After
namespace Go.Proofs.Yteibiaplmmdppaa
open Go.RowKit

theorem mrg_ris : ∀ a b : List (Value × Value), (∀ p ∈ a, KSSS p.1) → (∀ p ∈ b, KSSS p.1) → Ris a → Ris b → Ris (mrgL a b)
  | ra, [], _, _, ha, _ => by rw [mrg_end]; exact ha
  | [], x :: t, _, _, _, hb => by rw [mrg_nil]; exact hb
  | (pk, pv) :: ra, (xk, xv) :: t, ka, kb, ha, hb => by
    have a1 := ka (pk, pv) (by simp)
    have a2 : ∀ q ∈ ra, KSSS q.1 := fun q hq => ka q (by simp [hq])
    have b1 := kb (xk, xv) (by simp)
    have b2 : ∀ q ∈ t, KSSS q.1 := fun q hq => kb q (by simp [hq])
    obtain ⟨h1, h2⟩ := ha
    obtain ⟨g1, g2⟩ := hb
    cases hl : lessV pk xk
    · cases hm : lessV xk pk
      · rw [mrg_same hl hm]
        obtain rfl := ordSS.tot pk xk a1 b1 hl hm
        exact ⟨mrg_mem (fun q => lessV pk q.1 = true) ra t h1 g1, mrg_ris ra t a2 b2 h2 g2⟩
      · rw [mrg_more hl hm]
        refine ⟨mrg_mem (fun q => lessV xk q.1 = true) _ t ?_ g1, mrg_ris ((pk, pv) :: ra) t ka b2 ⟨h1, h2⟩ g2⟩
        intro q hq
        rcases List.mem_cons.1 hq with rfl | hq
        · exact hm
        · exact ordSS.tr _ _ _ b1 a1 (a2 q hq) hm (h1 q hq)
    · rw [mrg_less hl]
      refine ⟨mrg_mem (fun q => lessV pk q.1 = true) ra _ h1 ?_, mrg_ris ra ((xk, xv) :: t) a2 kb h2 ⟨g1, g2⟩⟩
      intro q hq
      rcases List.mem_cons.1 hq with rfl | hq
      · exact hl
      · exact ordSS.tr _ _ _ a1 b1 (b2 q hq) hl (g1 q hq)
termination_by a b => a.length + b.length
theorem mrg_keys : ∀ a b : List (Value × Value), (∀ p ∈ a, KSSS p.1) → (∀ p ∈ b, KSSS p.1) → (∀ p ∈ a, ∃ q ∈ mrgL a b, q.1 = p.1) ∧ (∀ p ∈ b, p ∈ mrgL a b)
  | ra, [], _, _ => by rw [mrg_end]; exact ⟨fun p hp => ⟨p, hp, rfl⟩, fun p hp => (by cases hp)⟩
  | [], x :: t, _, _ => by rw [mrg_nil]; exact ⟨fun p hp => (by cases hp), fun p hp => hp⟩
  | (pk, pv) :: ra, (xk, xv) :: t, ka, kb => by
    have a1 := ka (pk, pv) (by simp)
    have a2 : ∀ q ∈ ra, KSSS q.1 := fun q hq => ka q (by simp [hq])
    have b1 := kb (xk, xv) (by simp)
    have b2 : ∀ q ∈ t, KSSS q.1 := fun q hq => kb q (by simp [hq])
    cases hl : lessV pk xk
    · cases hm : lessV xk pk
      · rw [mrg_same hl hm]
        obtain rfl := ordSS.tot pk xk a1 b1 hl hm
        obtain ⟨i1, i2⟩ := mrg_keys ra t a2 b2
        refine ⟨fun p hp => ?_, fun p hp => ?_⟩
        · rcases List.mem_cons.1 hp with rfl | hp
          · exact ⟨(pk, xv), by simp, rfl⟩
          · obtain ⟨q, hq, e⟩ := i1 p hp
            exact ⟨q, by simp [hq], e⟩
        · rcases List.mem_cons.1 hp with rfl | hp
          · simp
          · simp [i2 p hp]
      · rw [mrg_more hl hm]
        obtain ⟨i1, i2⟩ := mrg_keys ((pk, pv) :: ra) t ka b2
        refine ⟨fun p hp => ?_, fun p hp => ?_⟩
        · obtain ⟨q, hq, e⟩ := i1 p hp
          exact ⟨q, by simp [hq], e⟩
        · rcases List.mem_cons.1 hp with rfl | hp
          · simp
          · simp [i2 p hp]
    · rw [mrg_less hl]
      obtain ⟨i1, i2⟩ := mrg_keys ra ((xk, xv) :: t) a2 kb
      refine ⟨fun p hp => ?_, fun p hp => ?_⟩
      · rcases List.mem_cons.1 hp with rfl | hp
        · exact ⟨(pk, pv), by simp, rfl⟩
        · obtain ⟨q, hq, e⟩ := i1 p hp
          exact ⟨q, by simp [hq], e⟩
      · simp [i2 p hp]
termination_by a b => a.length + b.length
theorem getL_mem : ∀ {l : List (Value × Value)} {k v : Value}, (∀ p ∈ l, KSSS p.1) → KSSS k → getL k l = some v → (k, v) ∈ l
  | [], _, _, _, _, h => by simp [getL] at h
  | (k', x') :: t, k, v, ka, hk, h => by
    unfold getL at h
    cases h1 : lessV k k'
    · cases h2 : lessV k' k
      · simp [h1, h2] at h
        obtain rfl := ordSS.tot k k' hk (ka (k', x') (by simp)) h1 h2
        subst h; simp
      · simp [h1, h2] at h
        have := getL_mem (fun p hp => ka p (by simp [hp])) hk h
        simp [this]
    · simp [h1] at h
theorem mem_getL : ∀ {l : List (Value × Value)} {p : Value × Value}, (∀ p ∈ l, KSSS p.1) → Ris l → p ∈ l → getL p.1 l = some p.2
  | (k', x') :: t, p, ka, hr, hp => by
    obtain ⟨h1, h2⟩ := hr
    have hk' := ka (k', x') (by simp)
    rcases List.mem_cons.1 hp with rfl | hp
    · simp [getL, ordSS.irr k' hk']
    · have h3 := h1 p hp
      have h4 := ordSS.asym hk' (ka p (by simp [hp])) h3
      simp only [getL, h4, h3, Bool.false_eq_true, if_false, if_true]
      exact mem_getL (fun q hq => ka q (by simp [hq])) h2 hp
theorem ris_ext : ∀ {a b : List (Value × Value)}, (∀ p ∈ a, KSSS p.1) → (∀ p ∈ b, KSSS p.1) → Ris a → Ris b → (∀ p, p ∈ a ↔ p ∈ b) → a = b
  | [], [], _, _, _, _, _ => rfl
  | [], x :: t, _, _, _, _, h => by have := (h x).2 (by simp); cases this
  | p :: ra, [], _, _, _, _, h => by have := (h p).1 (by simp); cases this
  | (pk, pv) :: ra, (xk, xv) :: t, ka, kb, ha, hb, h => by
    obtain ⟨h1, h2⟩ := ha
    obtain ⟨g1, g2⟩ := hb
    have hpk := ka (pk, pv) (by simp)
    have hxk := kb (xk, xv) (by simp)
    have e : (pk, pv) = (xk, xv) := by
      have m1 := (h (pk, pv)).1 (by simp)
      have m2 := (h (xk, xv)).2 (by simp)
      rcases List.mem_cons.1 m1 with e | m1
      · exact e
      · rcases List.mem_cons.1 m2 with e | m2
        · exact e.symm
        · have q1 := g1 _ m1
          have q2 := h1 _ m2
          have := ordSS.asym hxk hpk q1
          rw [q2] at this; cases this
    obtain ⟨rfl, rfl⟩ := Prod.mk.inj e
    congr 1
    refine ris_ext (fun q hq => ka q (by simp [hq])) (fun q hq => kb q (by simp [hq])) h2 g2 (fun p => ⟨fun hp => ?_, fun hp => ?_⟩)
    · rcases List.mem_cons.1 ((h p).1 (by simp [hp])) with rfl | q
      · have := h1 _ hp
        rw [ordSS.irr _ hpk] at this; cases this
      · exact q
    · rcases List.mem_cons.1 ((h p).2 (by simp [hp])) with rfl | q
      · have := g1 _ hp
        rw [ordSS.irr _ hpk] at this; cases this
      · exact q
/-- Where nothing has changed the maps are alike. -/
theorem chg_none {ta tb : Tr} (ha : WS KSSS VSSS ta) (hb : WS KSSS VSSS tb) (ra : Ris (prs ta)) (rb : Ris (prs tb)) (h : chgLSS ta tb = []) : prs ta = prs tb := by
  have ka : ∀ p ∈ prs ta, KSSS p.1 := fun p hp => (ws_keys ha p hp).1
  have kb : ∀ p ∈ prs tb, KSSS p.1 := fun p hp => (ws_keys hb p hp).1
  have hn : ∀ p ∈ mrgL (prs ta) (prs tb), chgFSS ta tb p.1 = none := by
    intro p hp
    unfold chgLSS chgsSS at h
    cases e : chgFSS ta tb p.1 with
    | none => rfl
    | some c =>
      have : c ∈ (mrgL (prs ta) (prs tb)).filterMap (fun p => chgFSS ta tb p.1) := List.mem_filterMap.2 ⟨p, hp, e⟩
      rw [h] at this; cases this
  have both : ∀ k, KSSS k → chgFSS ta tb k = none → ∃ x, getT k ta = some x ∧ getT k tb = some x := by
    intro k hk hc
    unfold chgFSS at hc
    cases h1 : getT k ta with
    | none => cases h2 : getT k tb <;> (rw [h1, h2] at hc; cases hc)
    | some x =>
      cases h2 : getT k tb with
      | none => rw [h1, h2] at hc; cases hc
      | some y =>
        rw [h1, h2] at hc
        dsimp only at hc
        obtain ⟨xl, rfl⟩ := getT_vsSS ha h1
        obtain ⟨yl, rfl⟩ := getT_vsSS hb h2
        split at hc
        · next g =>
          have : xl = yl := by simpa [sameBSS] using g
          subst this
          exact ⟨_, rfl, rfl⟩
        · cases hc
  obtain ⟨i1, i2⟩ := mrg_keys _ _ ka kb
  refine ris_ext ka kb ra rb (fun p => ⟨fun hp => ?_, fun hp => ?_⟩)
  · obtain ⟨q, hq, e⟩ := i1 p hp
    obtain ⟨x, h1, h2⟩ := both p.1 (ka p hp) (by rw [← e]; exact hn q hq)
    rw [getT_eq ordSS (ka p hp) ha ra, mem_getL ka ra hp] at h1
    rw [getT_eq ordSS (ka p hp) hb rb] at h2
    cases h1
    exact getL_mem kb (ka p hp) h2
  · obtain ⟨x, h1, h2⟩ := both p.1 (kb p hp) (hn p (i2 p hp))
    rw [getT_eq ordSS (kb p hp) hb rb, mem_getL kb rb hp] at h2
    rw [getT_eq ordSS (kb p hp) ha ra] at h1
    cases h2
    exact getL_mem ka (kb p hp) h1
/-- Keys rise. -/
def RisC : List ChgT → Prop
  | [] => True
  | c :: t => (∀ q ∈ t, Op.bytesLess c.1 q.1 = true) ∧ RisC t
theorem chgs_ris {ta tb : Tr} (hb : WS KSSS VSSS tb) : ∀ (l : List (Value × Value)) (L : List ChgT), (∀ p ∈ l, KSSS p.1) → Ris l → chgsSS ta tb l = L.map encC → RisC L ∧ ∀ c ∈ L, ∃ p ∈ l, p.1 = str c.1
  | [], L, _, _, h => by
    have : L = [] := by
      unfold chgsSS at h
      simpa using h.symm
    subst this
    exact ⟨trivial, fun c hc => by cases hc⟩
  | (k, v) :: t, L, kl, hr, h => by
    obtain ⟨h1, h2⟩ := hr
    have hk := kl (k, v) (by simp)
    have e : chgsSS ta tb ((k, v) :: t) = (chgFSS ta tb k).toList ++ chgsSS ta tb t := by
      have := chgs_appSS ta tb [(k, v)] t
      rw [chgs_oneSS] at this
      exact this
    rw [e] at h
    cases hc : chgFSS ta tb k with
    | none =>
      rw [hc] at h
      obtain ⟨i1, i2⟩ := chgs_ris hb t L (fun p hp => kl p (by simp [hp])) h2 (by simpa using h)
      exact ⟨i1, fun c hc => by obtain ⟨p, hp, e⟩ := i2 c hc; exact ⟨p, by simp [hp], e⟩⟩
    | some c =>
      rw [hc] at h
      obtain ⟨cx, hcx, hcx2⟩ := chgF_form hk hb hc
      cases L with
      | nil => simp at h
      | cons d L' =>
        simp only [Option.toList_some, List.cons_append, List.nil_append, List.map_cons, List.cons.injEq] at h
        obtain ⟨hd, ht⟩ := h
        obtain ⟨i1, i2⟩ := chgs_ris hb t L' (fun p hp => kl p (by simp [hp])) h2 ht
        have hkd : k = str d.1 := by
          have : encC d = encC cx := by rw [← hd, hcx]
          have e1 : d.1 = cx.1 := by
            obtain ⟨d1, d2, d3⟩ := d
            obtain ⟨x1, x2, x3⟩ := cx
            have h3 : d1 = x1 ∧ d2 = x2 ∧ d3 = x3 := by simpa [encC] using this
            exact h3.1
          rw [e1]; exact hcx2
        refine ⟨⟨fun q hq => ?_, i1⟩, fun q hq => ?_⟩
        · obtain ⟨p, hp, e⟩ := i2 q hq
          have := h1 p hp
          rw [hkd, e] at this
          simpa [lessV] using this
        · rcases List.mem_cons.1 hq with rfl | hq
          · exact ⟨(k, v), by simp, hkd⟩
          · obtain ⟨p, hp, e⟩ := i2 q hq
            exact ⟨p, by simp [hp], e⟩
theorem chgL_ris {ta tb : Tr} {L : List ChgT} (ha : WS KSSS VSSS ta) (hb : WS KSSS VSSS tb) (ra : Ris (prs ta)) (rb : Ris (prs tb)) (h : chgLSS ta tb = L.map encC) : RisC L :=
  (chgs_ris hb _ L (fun p hp => (mrg_mem (fun p => KSSS p.1 ∧ VSSS p.2) _ _ (fun p hp => ws_keys ha p hp) (fun p hp => ws_keys hb p hp) p hp).1)
    (mrg_ris _ _ (fun p hp => (ws_keys ha p hp).1) (fun p hp => (ws_keys hb p hp).1) ra rb) h).1
/-- Behind the last key there is nothing. -/
theorem gt_last : ∀ {L : List ChgT} {z : ChgT}, RisC (L ++ [z]) → ∀ c ∈ L ++ [z], gtB c.1 z.1 = false
  | [], z, _, c, hc => by
    have : c = z := by simpa using hc
    subst this
    simp [gtB]
  | d :: L, z, h, c, hc => by
    obtain ⟨h1, h2⟩ := h
    rcases List.mem_cons.1 hc with rfl | hc
    · have := h1 z (by simp)
      simp [gtB, this]
    · exact gt_last h2 c hc
end Go.Proofs.Yteibiaplmmdppaa
