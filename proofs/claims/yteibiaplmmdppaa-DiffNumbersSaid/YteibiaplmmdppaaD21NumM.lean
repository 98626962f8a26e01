/- DiffNumbers: plain facts. -/
import Derived.Test.YteibiaplmmdppaaD21Math2
import Derived.Test.YteibiaplmmdppaaOfMSI
import Derived.Test.YteibiaplmmdppaaUnique
namespace Go.Proofs.Yteibiaplmmdppaa
open Go.RowKit

/-- Texts laid into a map, each with its place's number. -/
def numT (l : List (List UInt8)) : List (Value × Value) := l.zipIdx.foldl (fun s p => insL (str p.1) (.int .i64 ((p.2 : Int) % 3)) s) []
theorem numT_succ {l : List (List UInt8)} {k : Nat} (hlt : k < l.length) : numT (l.take (k + 1)) = insL (str l[k]) (.int .i64 ((k : Int) % 3)) (numT (l.take k)) := by
  unfold numT
  rw [List.take_succ_eq_append_getElem hlt, List.zipIdx_append, List.foldl_append]
  have : (List.take k l).length = k := by rw [List.length_take]; omega
  rw [this]
  simp
theorem ins_key {k v : Value} (hk : KSSS k) : ∀ {s : List (Value × Value)}, (∀ p ∈ s, KSSS p.1) → ∀ z, (∃ p ∈ insL k v s, p.1 = z) ↔ z = k ∨ ∃ p ∈ s, p.1 = z
  | [], _, z => by simp [insL, eq_comm]
  | (k', x') :: t, ks, z => by
    have hk' := ks (k', x') (by simp)
    have ih := ins_key (v := v) hk (s := t) (fun p hp => ks p (by simp [hp])) z
    unfold insL
    split
    · simp [eq_comm]
    · next h1 =>
      split
      · have e1 : (∃ p ∈ (k', x') :: insL k v t, p.1 = z) ↔ k' = z ∨ ∃ p ∈ insL k v t, p.1 = z := by simp
        have e2 : (∃ p ∈ (k', x') :: t, p.1 = z) ↔ k' = z ∨ ∃ p ∈ t, p.1 = z := by simp
        rw [e1, e2, ih]
        constructor
        · rintro (h | h | h)
          · exact .inr (.inl h)
          · exact .inl h
          · exact .inr (.inr h)
        · rintro (h | h | h)
          · exact .inr (.inl h)
          · exact .inl h
          · exact .inr (.inr h)
      · next h2 =>
        have e : k = k' := ordSS.tot k k' hk hk' (by simpa using h1) (by simpa using h2)
        subst e
        have e1 : (∃ p ∈ (k, v) :: t, p.1 = z) ↔ k = z ∨ ∃ p ∈ t, p.1 = z := by simp
        have e2 : (∃ p ∈ (k, x') :: t, p.1 = z) ↔ k = z ∨ ∃ p ∈ t, p.1 = z := by simp
        rw [e1, e2]
        constructor
        · rintro (h | h)
          · exact .inl h.symm
          · exact .inr (.inr h)
        · rintro (h | h | h)
          · exact .inl h.symm
          · exact .inl h
          · exact .inr h
theorem numT_keys : ∀ (l : List (List UInt8)), (∀ p ∈ numT l, KSSS p.1) ∧ ∀ z, (∃ p ∈ numT l, p.1 = z) ↔ ∃ x ∈ l, z = str x := by
  have gen : ∀ (k : Nat) (l : List (List UInt8)), k ≤ l.length → (∀ p ∈ numT (l.take k), KSSS p.1) ∧ ∀ z, (∃ p ∈ numT (l.take k), p.1 = z) ↔ ∃ x ∈ l.take k, z = str x := by
    intro k l
    induction k with
    | zero => intro _; simp [numT]
    | succ k ih =>
      intro hk
      obtain ⟨i1, i2⟩ := ih (by omega)
      have hlt : k < l.length := by omega
      rw [numT_succ hlt]
      refine ⟨fun p hp => ?_, fun z => ?_⟩
      · have := (ins_key ⟨_, rfl⟩ i1 p.1).1 ⟨p, hp, rfl⟩
        rcases this with h | ⟨q, hq, e⟩
        · rw [h]; exact ⟨_, rfl⟩
        · rw [← e]; exact i1 q hq
      · rw [ins_key ⟨_, rfl⟩ i1 z, i2 z, List.take_succ_eq_append_getElem hlt]
        constructor
        · rintro (h | ⟨x, hx, e⟩)
          · exact ⟨l[k], List.mem_append.2 (.inr (List.mem_singleton.2 rfl)), h⟩
          · exact ⟨x, List.mem_append.2 (.inl hx), e⟩
        · rintro ⟨x, hx, e⟩
          rcases List.mem_append.1 hx with h | h
          · exact .inr ⟨x, h, e⟩
          · have hxk : x = l[k] := by simpa using h
            exact .inl (by rw [e, hxk])
  intro l
  have := gen l.length l (Nat.le_refl _)
  rwa [List.take_length] at this
theorem insU_has (x : List UInt8) : ∀ (l : List (List UInt8)) (z : List UInt8), z ∈ insU x l ↔ z = x ∨ z ∈ l
  | [], z => by simp [insU]
  | y :: t, z => by
    unfold insU
    split
    · simp
    · next h1 =>
      split
      · rw [List.mem_cons, insU_has x t z, List.mem_cons]
        constructor
        · rintro (h | h | h)
          · exact .inr (.inl h)
          · exact .inl h
          · exact .inr (.inr h)
        · rintro (h | h | h)
          · exact .inr (.inl h)
          · exact .inl h
          · exact .inr (.inr h)
      · next h2 =>
        have e : x = y := bl_tot x y (by simpa using h1) (by simpa using h2)
        subst e
        simp
theorem uniqF_has (l : List (List UInt8)) (z : List UInt8) : z ∈ uniqF l ↔ z ∈ l := by
  have gen : ∀ (l o : List (List UInt8)), z ∈ l.foldl (fun o x => insU x o) o ↔ z ∈ o ∨ z ∈ l := by
    intro l
    induction l with
    | nil => intro o; simp
    | cons x t ih =>
      intro o
      rw [List.foldl_cons, ih, insU_has, List.mem_cons]
      constructor
      · rintro ((h | h) | h)
        · exact .inr (.inl h)
        · exact .inl h
        · exact .inr (.inr h)
      · rintro (h | h | h)
        · exact .inl (.inr h)
        · exact .inl (.inl h)
        · exact .inr h
  unfold uniqF
  rw [gen]
  simp
theorem uniqF_ris (l : List (List UInt8)) : RisU (uniqF l) := by
  have gen : ∀ (l o : List (List UInt8)), RisU o → RisU (l.foldl (fun o x => insU x o) o) := by
    intro l
    induction l with
    | nil => intro o h; exact h
    | cons x t ih => intro o h; exact ih _ (insU_ris x h)
  exact gen l [] trivial
/-- Only the keys. -/
def kOnly (l : List (Value × Value)) : List (Value × Value) := l.map (fun p => (p.1, p.1))
theorem ris_kOnly : ∀ {l : List (Value × Value)}, Ris l → Ris (kOnly l)
  | [], _ => trivial
  | (k, v) :: t, h => by
    obtain ⟨h1, h2⟩ := h
    refine ⟨fun q hq => ?_, ris_kOnly h2⟩
    obtain ⟨p, hp, rfl⟩ := List.mem_map.1 hq
    exact h1 p hp
theorem risU_pairs : ∀ {l : List (List UInt8)}, RisU l → Ris (l.map (fun x => ((str x : Value), (str x : Value))))
  | [], _ => trivial
  | y :: t, h => by
    obtain ⟨h1, h2⟩ := h
    refine ⟨fun q hq => ?_, risU_pairs h2⟩
    obtain ⟨z, hz, rfl⟩ := List.mem_map.1 hq
    exact h1 z hz
/-- The keys of two such maps merged are the texts, rising, each once. -/
theorem mrg_uniq {a b : List (Value × Value)} {la lb : List (List UInt8)} (ka : ∀ p ∈ a, KSSS p.1) (kb : ∀ p ∈ b, KSSS p.1) (ra : Ris a) (rb : Ris b)
    (ma : ∀ z, (∃ p ∈ a, p.1 = z) ↔ ∃ x ∈ la, z = str x) (mb : ∀ z, (∃ p ∈ b, p.1 = z) ↔ ∃ x ∈ lb, z = str x) (U : List (List UInt8)) (hU : RisU U) (hm : ∀ z, z ∈ U ↔ z ∈ la ∨ z ∈ lb) :
    (mrgL a b).map (fun p => p.1) = U.map str := by
  have km := mrg_mem (fun p => KSSS p.1) a b ka kb
  have h : kOnly (mrgL a b) = U.map (fun x => ((str x : Value), (str x : Value))) := by
    refine ris_ext ?_ ?_ (ris_kOnly (mrg_ris a b ka kb ra rb)) (risU_pairs hU) ?_
    · intro p hp
      obtain ⟨q, hq, rfl⟩ := List.mem_map.1 hp
      exact km q hq
    · intro p hp
      obtain ⟨x, _, rfl⟩ := List.mem_map.1 hp
      exact ⟨x, rfl⟩
    · intro p
      constructor
      · intro hp
        obtain ⟨q, hq, rfl⟩ := List.mem_map.1 hp
        have hin := mrg_mem (fun p => p ∈ a ∨ p ∈ b) _ _ (fun p hp => .inl hp) (fun p hp => .inr hp) q hq
        rcases hin with hi | hi
        · obtain ⟨x, hx, e⟩ := (ma q.1).1 ⟨q, hi, rfl⟩
          exact List.mem_map.2 ⟨x, (hm x).2 (.inl hx), by rw [e]⟩
        · obtain ⟨x, hx, e⟩ := (mb q.1).1 ⟨q, hi, rfl⟩
          exact List.mem_map.2 ⟨x, (hm x).2 (.inr hx), by rw [e]⟩
      · intro hp
        obtain ⟨x, hx, rfl⟩ := List.mem_map.1 hp
        obtain ⟨i1, i2⟩ := mrg_keys a b ka kb
        have : ∃ q ∈ mrgL a b, q.1 = str x := by
          rcases (hm x).1 hx with h | h
          · obtain ⟨p, hp, e⟩ := (ma (str x)).2 ⟨x, h, rfl⟩
            obtain ⟨q, hq, e2⟩ := i1 p hp
            exact ⟨q, hq, e2.trans e⟩
          · obtain ⟨p, hp, e⟩ := (mb (str x)).2 ⟨x, h, rfl⟩
            exact ⟨p, i2 p hp, e⟩
        obtain ⟨q, hq, e⟩ := this
        exact List.mem_map.2 ⟨q, hq, by rw [e]⟩
  have := congrArg (fun l => l.map (fun p : Value × Value => p.1)) h
  simpa [kOnly, List.map_map, Function.comp_def] using this
/-- Is a text's number another one? -/
def difO : Option Value → Option Value → Bool
  | some (.int _ a), some (.int _ b) => a != b
  | none, none => false
  | _, _ => true
def difB (s t : List (Value × Value)) (x : List UInt8) : Bool := difO (getL (str x) s) (getL (str x) t)
theorem fmap_len {α β : Type} (f : α → Option β) : ∀ l : List α, (l.filterMap f).length = l.countP (fun x => (f x).isSome)
  | [] => rfl
  | x :: t => by
    rw [List.filterMap_cons, List.countP_cons]
    cases h : f x with
    | none => simp [fmap_len f t]
    | some y => simp [fmap_len f t]
theorem chgF_dif {ta tb : Tr} {x : List UInt8} (ha : WS KSSI VSSI ta) (hb : WS KSSI VSSI tb) (ra : Ris (prs ta)) (rb : Ris (prs tb)) (hin : (∃ p ∈ prs ta, p.1 = str x) ∨ ∃ p ∈ prs tb, p.1 = str x) :
    (chgFSI ta tb (str x)).isSome = difB (prs ta) (prs tb) x := by
  have ka : ∀ p ∈ prs ta, KSSS p.1 := fun p hp => (ws_keys ha p hp).1
  have kb : ∀ p ∈ prs tb, KSSS p.1 := fun p hp => (ws_keys hb p hp).1
  unfold chgFSI difB
  rw [getT_eq ordSI ⟨_, rfl⟩ ha ra, getT_eq ordSI ⟨_, rfl⟩ hb rb]
  cases h1 : getL (str x) (prs ta) with
  | none =>
    cases h2 : getL (str x) (prs tb) with
    | none =>
      exfalso
      rcases hin with ⟨p, hp, e⟩ | ⟨p, hp, e⟩
      · have := mem_getL ka ra hp
        rw [e, h1] at this; cases this
      · have := mem_getL kb rb hp
        rw [e, h2] at this; cases this
    | some y => simp [difO]
  | some u =>
    cases h2 : getL (str x) (prs tb) with
    | none => simp [difO]
    | some y =>
      obtain ⟨n, hn⟩ := (ws_keys ha _ (getL_mem ka ⟨_, rfl⟩ h1)).2
      obtain ⟨m, hm⟩ := (ws_keys hb _ (getL_mem kb ⟨_, rfl⟩ h2)).2
      have hn' : u = .int .i64 n := hn
      have hm' : y = .int .i64 m := hm
      subst hn' hm'
      by_cases e : n = m
      · subst e; simp [sameBSI, difO]
      · simp [sameBSI, difO, e]
/-- How many changes there are. -/
theorem chgSI_len {ta tb : Tr} {la lb U : List (List UInt8)} (ha : WS KSSI VSSI ta) (hb : WS KSSI VSSI tb) (ra : Ris (prs ta)) (rb : Ris (prs tb))
    (ma : ∀ z, (∃ p ∈ prs ta, p.1 = z) ↔ ∃ x ∈ la, z = str x) (mb : ∀ z, (∃ p ∈ prs tb, p.1 = z) ↔ ∃ x ∈ lb, z = str x) (hU : RisU U) (hm : ∀ z, z ∈ U ↔ z ∈ la ∨ z ∈ lb) :
    (chgLSI ta tb).length = U.countP (difB (prs ta) (prs tb)) := by
  have ka : ∀ p ∈ prs ta, KSSS p.1 := fun p hp => (ws_keys ha p hp).1
  have kb : ∀ p ∈ prs tb, KSSS p.1 := fun p hp => (ws_keys hb p hp).1
  unfold chgLSI chgsSI
  rw [fmap_len]
  have e1 : (mrgL (prs ta) (prs tb)).countP (fun p => (chgFSI ta tb p.1).isSome) = ((mrgL (prs ta) (prs tb)).map (fun p => p.1)).countP (fun k => (chgFSI ta tb k).isSome) := by
    rw [List.countP_map]; rfl
  rw [e1, mrg_uniq ka kb ra rb ma mb U hU hm, List.countP_map]
  apply List.countP_congr
  intro x hx
  have : (chgFSI ta tb (str x)).isSome = difB (prs ta) (prs tb) x := chgF_dif ha hb ra rb (by
    rcases (hm x).1 hx with h | h
    · exact .inl ((ma _).2 ⟨x, h, rfl⟩)
    · exact .inr ((mb _).2 ⟨x, h, rfl⟩))
  simp only [Function.comp_apply]
  rw [this]
end Go.Proofs.Yteibiaplmmdppaa
