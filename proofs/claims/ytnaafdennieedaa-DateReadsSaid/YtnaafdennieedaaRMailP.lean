/- Layer 5: pieces of a text at ' '; digits, names, years and zones of a piece. -/
import Derived.Test.YtnaafdennieedaaRNetR
import Derived.Test.YtnaafdennieedaaRSplitB
import Derived.Test.YtnaafdennieedaaDMails
namespace Go.Proofs.Ytnaafdennieedaa
open Go.RowKit

theorem splitB_ne : ∀ l : List UInt8, splitB l ≠ []
  | [] => by simp [splitB]
  | c :: t => by
    rw [splitB]
    split
    · simp
    · split <;> simp
theorem splitB_app : ∀ (D r : List UInt8), (32 : UInt8) ∉ D → splitB (D ++ 32 :: r) = D :: splitB r
  | [], r, _ => by
    show splitB (32 :: r) = _
    rw [splitB, if_pos rfl]
  | c :: D, r, h => by
    have hc : c ≠ 32 := by
      rintro rfl
      simp at h
    have hD : (32 : UInt8) ∉ D := fun x => h (List.mem_cons_of_mem _ x)
    show splitB (c :: (D ++ 32 :: r)) = _
    rw [splitB, if_neg hc, splitB_app D r hD]
theorem splitB_none : ∀ (D : List UInt8), (32 : UInt8) ∉ D → splitB D = [D]
  | [], _ => rfl
  | c :: D, h => by
    have hc : c ≠ 32 := by
      rintro rfl
      simp at h
    rw [splitB, if_neg hc, splitB_none D (fun x => h (List.mem_cons_of_mem _ x))]
theorem splitB_back : ∀ (r D E : List UInt8) (L : List (List UInt8)), splitB r = D :: E :: L → ∃ q, r = D ++ 32 :: q ∧ splitB q = E :: L
  | [], D, E, L, h => by simp [splitB] at h
  | c :: t, D, E, L, h => by
    rw [splitB] at h
    by_cases hc : c = 32
    · rw [if_pos hc] at h
      injection h with h1 h2
      subst h1
      subst hc
      exact ⟨t, rfl, h2⟩
    · rw [if_neg hc] at h
      cases hs : splitB t with
      | nil => exact absurd hs (splitB_ne t)
      | cons p ps =>
        rw [hs] at h
        simp only at h
        injection h with h1 h2
        subst h1
        obtain ⟨q, e1, e2⟩ := splitB_back t p E L (by rw [hs, h2])
        exact ⟨q, by rw [e1]; rfl, e2⟩
theorem splitB_last : ∀ (r D : List UInt8), splitB r = [D] → r = D
  | [], D, h => by simpa [splitB] using h
  | c :: t, D, h => by
    rw [splitB] at h
    by_cases hc : c = 32
    · rw [if_pos hc] at h
      injection h with h1 h2
      exact absurd h2 (splitB_ne t)
    · rw [if_neg hc] at h
      cases hs : splitB t with
      | nil => exact absurd hs (splitB_ne t)
      | cons p ps =>
        rw [hs] at h
        simp only at h
        injection h with h1 h2
        subst h2
        rw [← h1, splitB_last t p hs]
theorem pk_take (l : List UInt8) (k i : Nat) (h : i < k) : pk (l.take k) i = pk l i := by
  unfold pk
  rw [List.getD_eq_getElem?_getD, List.getD_eq_getElem?_getD, List.getElem?_take, if_pos h]
theorem rdg_take (l : List UInt8) (m : Nat) : ∀ (k i : Nat) (v : Int), i + k ≤ m → rdg (l.take m) k i v = rdg l k i v
  | 0, _, _, _ => rfl
  | k + 1, i, v, h => by rw [rdg_succ, rdg_succ, pk_take _ _ _ (by omega), rdg_take l m k (i + 1) _ (by omega)]
theorem pk_cut (t : List UInt8) (p k i : Nat) (h : i < k) : pk ((t.drop p).take k) i = pk t (p + i) := by rw [pk_take _ _ _ h, pk_drop]
theorem rdgR_cut (t : List UInt8) (p k i n : Nat) (h : p + k ≤ t.length) (hn : i + n ≤ k) : rdgR ((t.drop p).take k) i n = rdgR t (p + i) n := by
  rw [← rdgR_drop t p i n (by omega)]
  unfold rdgR
  rw [List.length_take, List.length_drop, rdg_take _ _ _ _ _ hn, if_pos (by omega), if_pos (by omega)]
theorem rdg_digs (t : List UInt8) : ∀ (k p : Nat) (v : Int), 0 ≤ rdg t k p v → ∀ i, i < k → dgB (pk t (p + i)) = true
  | 0, _, _, _, i, hi => by omega
  | k + 1, p, v, h, i, hi => by
    rw [rdg_succ] at h
    by_cases g : dgB (pk t p) = true
    · rw [if_pos g] at h
      by_cases h0 : i = 0
      · subst h0
        exact g
      · have := rdg_digs t k (p + 1) _ h (i - 1) (by omega)
        rw [show p + 1 + (i - 1) = p + i by omega] at this
        exact this
    · rw [if_neg g] at h
      omega
theorem rdgR_digs {t : List UInt8} {a n : Nat} (h : 0 ≤ rdgR t a n) : a + n ≤ t.length ∧ ∀ i, i < n → dgB (pk t (a + i)) = true := by
  unfold rdgR at h
  by_cases g : a + n ≤ t.length
  · rw [if_pos g] at h
    exact ⟨g, rdg_digs t n a 0 h⟩
  · rw [if_neg g] at h
    omega
theorem no32 (l : List UInt8) (h : ∀ i, i < l.length → pk l i ≠ 32) : (32 : UInt8) ∉ l := by
  intro hm
  obtain ⟨i, hi, e⟩ := List.getElem_of_mem hm
  exact h i hi (by rw [pk_lt l i hi, e])
theorem dg32 {c : UInt8} (h : dgB c = true) : c ≠ 32 := by
  rintro rfl
  revert h
  decide
theorem digs32 {D : List UInt8} (h : 0 ≤ rdgR D 0 D.length) : (32 : UInt8) ∉ D := by
  refine no32 D fun i hi => dg32 ?_
  have := (rdgR_digs h).2 i hi
  rwa [Nat.zero_add] at this
/-- The words of a row. -/
def chk (row : List UInt8) : Nat → Nat → List (List UInt8)
  | 0, _ => []
  | f + 1, i => (row.drop (3 * i)).take 3 :: chk row f (i + 1)
theorem nmAt_pl (row t : List UInt8) (p : Nat) : ∀ f i, plF ((t.drop p).take 3) (chk row f i) (i : Int) = match nmAt row t p f i with | some k => (k : Int) | none => -1
  | 0, i => rfl
  | f + 1, i => by
    rw [nmAt_succ]
    show (if (row.drop (3 * i)).take 3 = (t.drop p).take 3 then (i : Int) else plF ((t.drop p).take 3) (chk row f (i + 1)) ((i : Int) + 1)) = _
    by_cases h : (t.drop p).take 3 = (row.drop (3 * i)).take 3
    · rw [if_pos h, if_pos h.symm]
    · rw [if_neg h, if_neg (fun x => h x.symm)]
      have := nmAt_pl row t p f (i + 1)
      push_cast at this
      exact this
def monsL : List (List UInt8) := chk monL 12 0
def weeksL : List (List UInt8) := chk weekL 7 0
theorem plF_mem (s : List UInt8) : ∀ (l : List (List UInt8)) (i : Int), 0 ≤ plF s l i → s ∈ l
  | [], i, h => by
    have : (0 : Int) ≤ -1 := h
    omega
  | x :: l, i, h => by
    have h' : 0 ≤ (if x = s then i else plF s l (i + 1)) := h
    by_cases g : x = s
    · rw [g]
      exact List.mem_cons_self
    · rw [if_neg g] at h'
      exact List.mem_cons_of_mem _ (plF_mem s l (i + 1) h')
theorem mons_any : ∀ m ∈ monsL, m.length = 3 ∧ (32 : UInt8) ∉ m ∧ (44 : UInt8) ∉ m := by decide
theorem name_up {row t : List UInt8} {m p : Nat} {z : Bool} {r : Nat × Nat × Bool} (e : nameF row m t p z = r) (h : r.2.2 = false) :
    z = false ∧ p + 3 ≤ t.length ∧ (r.1 : Int) = plF ((t.drop p).take 3) (chk row m 0) 0 ∧ r.2.1 = p + 3 := by
  subst e
  have hn := nmAt_pl row t p m 0
  unfold nameF at h ⊢
  by_cases g : p + 3 ≤ t.length
  · rw [if_pos g] at h ⊢
    cases ha : nmAt row t p m 0 with
    | none =>
      rw [ha] at h
      cases h
    | some k =>
      rw [ha] at h hn
      exact ⟨h, g, hn.symm, rfl⟩
  · rw [if_neg g] at h
    cases h
theorem name_hit {row t : List UInt8} {m p : Nat} (z : Bool) (g : p + 3 ≤ t.length) (h : 0 ≤ plF ((t.drop p).take 3) (chk row m 0) 0) :
    ∃ k : Nat, (k : Int) = plF ((t.drop p).take 3) (chk row m 0) 0 ∧ nameF row m t p z = (k, p + 3, z) := by
  have hn := nmAt_pl row t p m 0
  unfold nameF
  rw [if_pos g]
  cases ha : nmAt row t p m 0 with
  | none =>
    rw [ha] at hn
    have e : plF ((t.drop p).take 3) (chk row m 0) 0 = -1 := hn
    omega
  | some k =>
    rw [ha] at hn
    exact ⟨k, hn.symm, rfl⟩
/-- Two digits, and two more. -/
theorem rdgR_four (t : List UInt8) (p : Nat) : (0 ≤ rdgR t p 4 ↔ 0 ≤ rdgR t p 2 ∧ 0 ≤ rdgR t (p + 2) 2) ∧ (0 ≤ rdgR t p 4 → rdgR t p 4 = 100 * rdgR t p 2 + rdgR t (p + 2) 2) := by
  unfold rdgR
  by_cases g : p + 4 ≤ t.length
  · rw [if_pos g, if_pos (show p + 2 ≤ t.length by omega), if_pos (show p + 2 + 2 ≤ t.length by omega)]
    have d (q : Nat) (h : dgB (pk t q) = true) : 48 ≤ (pk t q).toNat := by unfold dgB at h; simp at h; omega
    have z (q : Nat) (v : Int) : rdg t 0 q v = v := rfl
    simp only [rdg_succ, z]
    by_cases h0 : dgB (pk t p) = true
    · have := d p h0
      rw [if_pos h0, if_pos h0]
      by_cases h1 : dgB (pk t (p + 1)) = true
      · have := d _ h1
        rw [if_pos h1, if_pos h1]
        by_cases h2 : dgB (pk t (p + 1 + 1)) = true
        · have := d _ h2
          rw [if_pos h2, show p + 2 = p + 1 + 1 from rfl, if_pos h2]
          by_cases h3 : dgB (pk t (p + 1 + 1 + 1)) = true
          · have := d _ h3
            rw [if_pos h3, if_pos h3]
            omega
          · rw [if_neg h3, if_neg h3]
            omega
        · rw [if_neg h2, show p + 2 = p + 1 + 1 from rfl, if_neg h2]
          omega
      · rw [if_neg h1, if_neg h1]
        omega
    · rw [if_neg h0, if_neg h0]
      omega
  · rw [if_neg g, if_neg (show ¬ p + 2 + 2 ≤ t.length by omega)]
    omega
/-- The year of so many digits. -/
def yv (k : Nat) (v : Int) : Int := if k = 2 then (if v < 69 then v + 2000 else v + 1900) else v
theorem yr_up {t : List UInt8} {p : Nat} {z : Bool} {r : Int × Nat × Bool} (e : yearF t p z = r) (hp : p ≤ t.length) (h : r.2.2 = false) :
    z = false ∧ ∃ k, (k = 4 ∨ k = 2) ∧ r.2.1 = p + k ∧ p + k ≤ t.length ∧ 0 ≤ rdgR t p k ∧ r.1 = yv k (rdgR t p k) := by
  obtain ⟨va, pa, za, ea⟩ : ∃ a b c, numF t 2 0 p z = (a, b, c) := ⟨_, _, _, rfl⟩
  obtain ⟨vb, pb, zb, eb⟩ : ∃ a b c, numF t 2 0 pa za = (a, b, c) := ⟨_, _, _, rfl⟩
  subst e
  unfold yearF at h ⊢
  simp only [ea, eb] at h ⊢
  by_cases hd : dgB (pk t pa) = true
  · rw [if_pos hd] at h ⊢
    dsimp only at h ⊢
    subst h
    have fa : za = false := num_flag (by rw [eb])
    subst fa
    obtain ⟨a0, a1, a2, a3, a4⟩ := num_up ea hp rfl
    dsimp only at a3 a4
    subst a4
    obtain ⟨_, b1, b2, b3, b4⟩ := num_up eb a2 rfl
    dsimp only at b3 b4
    obtain ⟨f1, f2⟩ := rdgR_four t p
    have f3 := f1.2 ⟨a1, b1⟩
    refine ⟨a0, 4, .inl rfl, by omega, by omega, f3, ?_⟩
    show _ = rdgR t p 4
    rw [f2 f3, a3, b3]
  · rw [if_neg hd] at h ⊢
    dsimp only at h ⊢
    subst h
    obtain ⟨a0, a1, a2, a3, a4⟩ := num_up ea hp rfl
    dsimp only at a3 a4
    refine ⟨a0, 2, .inr rfl, a4, a2, a1, ?_⟩
    show _ = (if rdgR t p 2 < 69 then rdgR t p 2 + 2000 else rdgR t p 2 + 1900)
    rw [← a3]
    by_cases g : va ≤ 68
    · rw [if_pos g, if_pos (by omega)]
      omega
    · rw [if_neg g, if_neg (by omega)]
      omega
theorem yr_hit {t : List UInt8} {p k : Nat} (hk : k = 4 ∨ k = 2 ∧ dgB (pk t (p + 2)) = false) (h : 0 ≤ rdgR t p k) : yearF t p false = (yv k (rdgR t p k), p + k, false) := by
  rcases hk with rfl | ⟨rfl, hd⟩
  · obtain ⟨f1, f2⟩ := rdgR_four t p
    obtain ⟨f3, f4⟩ := f1.1 h
    have g := (rdgR_digs h).1
    have e1 : numF t 2 0 p false = (rdgR t p 2, p + 2, false) := num_hit (by omega) f3
    have e2 : numF t 2 0 (p + 2) false = (rdgR t (p + 2) 2, p + 2 + 2, false) := num_hit (by omega) f4
    have e3 := (rdgR_digs f4).2 0 (by omega)
    unfold yearF
    simp only [e1, e2]
    rw [if_pos e3, f2 h]
    rfl
  · have g := (rdgR_digs h).1
    have e1 : numF t 2 0 p false = (rdgR t p 2, p + 2, false) := num_hit (by omega) h
    unfold yearF
    simp only [e1]
    rw [if_neg (by rw [hd]; decide)]
    unfold yv
    rw [if_pos rfl]
    by_cases g2 : rdgR t p 2 ≤ 68
    · rw [if_pos g2, if_pos (by omega), Int.add_comm]
    · rw [if_neg g2, if_neg (by omega), Int.add_comm]
/-- The zone of the rest. -/
theorem mz_hit {t : List UInt8} {p : Nat} (hp : p ≤ t.length) (h : (rzF (t.drop p)).2 = true) : mzF t p false = ((rzF (t.drop p)).1, t.length, false) := by
  have e0 : pk (t.drop p) 0 = pk t p := by rw [pk_drop]; rfl
  unfold rzF at h ⊢
  by_cases g : (t.drop p).length = 5 ∧ (pk (t.drop p) 0 = 43 ∨ pk (t.drop p) 0 = 45)
  · rw [if_pos g] at h ⊢
    by_cases g2 : roffB (rdgR (t.drop p) 1 2) (rdgR (t.drop p) 3 2) = true
    · rw [if_pos g2]
      rw [rdgR_drop t p _ _ hp, rdgR_drop t p _ _ hp] at g2 ⊢
      rw [e0] at g ⊢
      obtain ⟨g1, g3⟩ := g
      rw [List.length_drop] at g1
      unfold roffB at g2
      rw [decide_eq_true_eq] at g2
      have en : numF t 2 0 (p + 1) false = (rdgR t (p + 1) 2, p + 3, false) := num_hit (by omega) g2.1
      have em : numF t 2 0 (p + 3) false = (rdgR t (p + 3) 2, p + 5, false) := num_hit (by omega) g2.2.2.1
      unfold mzF
      rw [if_pos g3]
      simp only [en, em]
      unfold offZ
      rw [decide_eq_false (by omega : ¬ 23 < rdgR t (p + 1) 2), decide_eq_false (by omega : ¬ 59 < rdgR t (p + 3) 2), show t.length = p + 5 by omega]
      rfl
    · rw [if_neg g2] at h
      cases h
  · rw [if_neg g] at h ⊢
    cases hz : zoneV (t.drop p) with
    | none =>
      rw [hz] at h
      cases h
    | some v =>
      have hn : ¬ (pk t p = 43 ∨ pk t p = 45) := by
        rw [← e0]
        rcases zone_cases _ v hz with h | h | h | h | h | h | h | h | h | h | h <;> rw [h.1] <;> decide
      unfold mzF
      rw [if_neg hn, hz]
theorem mz_up {t : List UInt8} {p : Nat} {z : Bool} {r : Int × Nat × Bool} (e : mzF t p z = r) (hp : p ≤ t.length) (h : r.2.2 = false) (hl : r.2.1 = t.length) :
    z = false ∧ (rzF (t.drop p)).2 = true ∧ r.1 = (rzF (t.drop p)).1 := by
  have e0 : pk (t.drop p) 0 = pk t p := by rw [pk_drop]; rfl
  obtain ⟨va, p1, z1, ea⟩ : ∃ a b c, numF t 2 0 (p + 1) z = (a, b, c) := ⟨_, _, _, rfl⟩
  obtain ⟨vm, p2, z2, em⟩ : ∃ a b c, numF t 2 0 p1 z1 = (a, b, c) := ⟨_, _, _, rfl⟩
  subst e
  unfold mzF at h hl ⊢
  simp only [ea, em] at h hl ⊢
  unfold rzF
  by_cases hs : pk t p = 43 ∨ pk t p = 45
  · rw [if_pos hs] at h hl ⊢
    dsimp only at h hl ⊢
    have hlt : p < t.length := pk_ne t p hp (by rcases hs with h | h <;> rw [h] <;> decide)
    unfold offZ at h
    rw [Bool.or_eq_false_iff, Bool.or_eq_false_iff, decide_eq_false_iff_not, decide_eq_false_iff_not] at h
    obtain ⟨f2, g1, g2⟩ := h
    subst f2
    have f1 : z1 = false := num_flag (by rw [em])
    subst f1
    obtain ⟨f0, a1, a2, a3, a4⟩ := num_up ea (by omega) rfl
    dsimp only at a3 a4
    subst a4
    obtain ⟨_, b1, b2, b3, b4⟩ := num_up em a2 rfl
    dsimp only at b3 b4
    rw [e0, if_pos ⟨by rw [List.length_drop]; omega, hs⟩, rdgR_drop t p _ _ hp, rdgR_drop t p _ _ hp]
    rw [show p + 1 + 2 = p + 3 from rfl] at b1 b3
    have hB : roffB (rdgR t (p + 1) 2) (rdgR t (p + 3) 2) = true := decide_eq_true ⟨a1, by omega, b1, by omega⟩
    rw [if_pos hB]
    exact ⟨f0, rfl, by rw [a3, b3]⟩
  · rw [if_neg hs] at h hl ⊢
    rw [e0, if_neg (fun x => hs x.2)]
    cases hz : zoneV (t.drop p) with
    | none =>
      rw [hz] at h
      cases h
    | some v =>
      rw [hz] at h
      exact ⟨h, rfl, rfl⟩
theorem rz32 {Z : List UInt8} (h : (rzF Z).2 = true) : (32 : UInt8) ∉ Z := by
  unfold rzF at h
  by_cases g : Z.length = 5 ∧ (pk Z 0 = 43 ∨ pk Z 0 = 45)
  · rw [if_pos g] at h
    by_cases g2 : roffB (rdgR Z 1 2) (rdgR Z 3 2) = true
    · unfold roffB at g2
      rw [decide_eq_true_eq] at g2
      have d1 := (rdgR_digs g2.1).2
      have d3 := (rdgR_digs g2.2.2.1).2
      refine no32 Z fun i hi => ?_
      have : i = 0 ∨ i = 1 ∨ i = 2 ∨ i = 3 ∨ i = 4 := by omega
      rcases this with h | h | h | h | h <;> subst h
      · rcases g.2 with h | h <;> rw [h] <;> decide
      · exact dg32 (d1 0 (by omega))
      · exact dg32 (d1 1 (by omega))
      · exact dg32 (d3 0 (by omega))
      · exact dg32 (d3 1 (by omega))
    · rw [if_neg g2] at h
      cases h
  · rw [if_neg g] at h
    cases hz : zoneV Z with
    | none =>
      rw [hz] at h
      cases h
    | some v => rcases zone_cases _ v hz with h | h | h | h | h | h | h | h | h | h | h <;> rw [h.1] <;> decide
end Go.Proofs.Ytnaafdennieedaa
