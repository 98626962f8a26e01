/- Layer 5: the document's Mail and date's, plainly. -/
import Derived.Test.YtnaafdennieedaaRMailP
namespace Go.Proofs.Ytnaafdennieedaa
open Go.RowKit

def dOk (D : List UInt8) : Bool := decide ((D.length = 1 ∨ D.length = 2) ∧ 0 ≤ rdgR D 0 D.length)
def yOk (Y : List UInt8) : Bool := decide ((Y.length = 4 ∨ Y.length = 2) ∧ 0 ≤ rdgR Y 0 Y.length)
def tOk (T : List UInt8) : Bool := decide ((T.length = 5 ∨ T.length = 8) ∧ pk T 2 = 58 ∧ (T.length = 8 → pk T 5 = 58) ∧ 0 ≤ rdgR T 0 2 ∧ 0 ≤ rdgR T 3 2 ∧ (T.length = 8 → 0 ≤ rdgR T 6 2))
def sV (T : List UInt8) : Int := if T.length = 8 then rdgR T 6 2 else 0
def mOk (D M Y T Z : List UInt8) : Bool := decide (dOk D = true ∧ 0 ≤ plF M monsL 0 ∧ yOk Y = true ∧ tOk T = true ∧ (rzF Z).2 = true)
def mV (D M Y T Z : List UInt8) : Int × Int := mres (yv Y.length (rdgR Y 0 Y.length)) (1 + plF M monsL 0) (rdgR D 0 D.length) (rdgR T 0 2) (rdgR T 3 2) (sV T) (rzF Z).1
/-- What five pieces tell. -/
def fiveR (D M Y T Z : List UInt8) : Int × Int := if mOk D M Y T Z = true then mV D M Y T Z else (0, 4)
/-- What the document's Mail tells behind a day's name. -/
def mlP (s : List UInt8) : Int × Int :=
  match splitB s with
  | [D, M, Y, T, Z] => fiveR D M Y T Z
  | _ => (0, 4)
theorem t32 {T : List UInt8} (h : tOk T = true) : (32 : UInt8) ∉ T := by
  unfold tOk at h
  rw [decide_eq_true_eq] at h
  obtain ⟨hl, k2, k5, r0, r3, r6⟩ := h
  have d0 := (rdgR_digs r0).2
  have d3 := (rdgR_digs r3).2
  refine no32 T fun i hi => ?_
  by_cases h8 : T.length = 8
  · have d6 := (rdgR_digs (r6 h8)).2
    have : i = 0 ∨ i = 1 ∨ i = 2 ∨ i = 3 ∨ i = 4 ∨ i = 5 ∨ i = 6 ∨ i = 7 := by omega
    rcases this with h | h | h | h | h | h | h | h <;> subst h
    · exact dg32 (d0 0 (by omega))
    · exact dg32 (d0 1 (by omega))
    · rw [k2]; decide
    · exact dg32 (d3 0 (by omega))
    · exact dg32 (d3 1 (by omega))
    · rw [k5 h8]; decide
    · exact dg32 (d6 0 (by omega))
    · exact dg32 (d6 1 (by omega))
  · have : i = 0 ∨ i = 1 ∨ i = 2 ∨ i = 3 ∨ i = 4 := by omega
    rcases this with h | h | h | h | h <;> subst h
    · exact dg32 (d0 0 (by omega))
    · exact dg32 (d0 1 (by omega))
    · rw [k2]; decide
    · exact dg32 (d3 0 (by omega))
    · exact dg32 (d3 1 (by omega))
theorem take_of {r D R : List UInt8} (e : r = D ++ R) : r.take D.length = D := by rw [e, List.take_left']; rfl
/-- Forward: what five good pieces tell is what date's Mail tells. -/
theorem mailC_ok (t : List UInt8) (p : Nat) (D M Y T Z : List UInt8) (e : t.drop p = D ++ 32 :: (M ++ 32 :: (Y ++ 32 :: (T ++ 32 :: Z)))) (h : mOk D M Y T Z = true) (hp : p ≤ t.length) : mailC t p false = mV D M Y T Z := by
  unfold mOk at h
  rw [decide_eq_true_eq] at h
  obtain ⟨hD, hM, hY, hT, hZ⟩ := h
  unfold dOk at hD
  unfold yOk at hY
  unfold tOk at hT
  rw [decide_eq_true_eq] at hD hY hT
  obtain ⟨D1, D2⟩ := hD
  obtain ⟨Y1, Y2⟩ := hY
  obtain ⟨T1, T2, T3, T4, T5, T6⟩ := hT
  have M1 := (mons_any M (plF_mem M _ _ hM)).1
  have d1 := drop_hits t p D _ e
  have d2 := drop_hit t _ 32 _ d1
  have d3 := drop_hits t _ M _ d2
  have d4 := drop_hit t _ 32 _ d3
  have d5 := drop_hits t _ Y _ d4
  have d6 := drop_hit t _ 32 _ d5
  have d7 := drop_hits t _ T _ d6
  have d8 := drop_hit t _ 32 _ d7
  have cD := take_of e
  have cM := take_of d2
  have cY := take_of d4
  have cT := take_of d6
  have hlen := congrArg List.length e
  simp only [List.length_drop, List.length_append, List.length_cons] at hlen
  have s1 := sgnF_hit [32] t _ false 32 _ d1 (by decide)
  have s2 := sgnF_hit [32] t _ false 32 _ d3 (by decide)
  have s3 := sgnF_hit [32] t _ false 32 _ d5 (by decide)
  have s4 := sgnF_hit [32] t _ false 32 _ d7 (by decide)
  have k5 := pk_hit t _ 32 _ d5
  have k7 := pk_hit t _ 32 _ d7
  -- the day
  have rD : rdgR D 0 D.length = rdgR t p D.length := by
    have := rdgR_cut t p D.length 0 D.length (by omega) (by omega)
    rw [cD] at this
    exact this
  have w2 : wdF t p = D.length := by
    have kd := pk_hit t _ 32 _ d1
    unfold wdF
    rcases D1 with h | h
    · rw [h] at kd ⊢
      rw [if_neg]
      rintro ⟨_, g⟩
      rw [kd] at g
      revert g
      decide
    · rw [h] at rD D2 ⊢
      rw [rD] at D2
      have := (rdgR_digs D2).2 1 (by omega)
      rw [if_pos ⟨by omega, this⟩]
  have eD : numF t (wdF t p) 0 p false = (rdgR t p D.length, p + D.length, false) := by
    rw [w2]
    exact num_hit hp (by rw [← rD]; exact D2)
  -- the month
  rw [M1] at cM
  obtain ⟨k, hk, eM⟩ := name_hit (row := monL) (m := 12) false (show p + D.length + 1 + 3 ≤ t.length by omega) (by rw [cM]; exact hM)
  rw [cM] at hk
  rw [M1] at d3 d4 d5 d6 d7 d8 s2 s3 s4 k5 k7 cY cT
  obtain ⟨q, hq⟩ : ∃ q, q = p + D.length + 1 + 3 + 1 := ⟨_, rfl⟩
  rw [← hq] at d4 d5 d6 d7 d8 s2 s3 s4 k5 k7 cY cT
  -- the year
  have rY : rdgR Y 0 Y.length = rdgR t q Y.length := by
    have := rdgR_cut t q Y.length 0 Y.length (by omega) (by omega)
    rw [cY] at this
    exact this
  have eY : yearF t q false = (yv Y.length (rdgR t q Y.length), q + Y.length, false) := by
    refine yr_hit ?_ (by rw [← rY]; exact Y2)
    rcases Y1 with h | h
    · exact .inl h
    · right
      refine ⟨h, ?_⟩
      rw [h] at k5
      rw [k5]
      decide
  obtain ⟨a, ha⟩ : ∃ a, a = q + Y.length + 1 := ⟨_, rfl⟩
  rw [← ha] at d6 d7 d8 s3 s4 k7 cT
  -- the time of day
  have rT0 : rdgR T 0 2 = rdgR t a 2 := by
    have := rdgR_cut t a T.length 0 2 (by omega) (by omega)
    rw [cT] at this
    exact this
  have rT3 : rdgR T 3 2 = rdgR t (a + 3) 2 := by
    have := rdgR_cut t a T.length 3 2 (by omega) (by omega)
    rw [cT] at this
    exact this
  have kT2 : pk t (a + 2) = 58 := by
    have := pk_cut t a T.length 2 (by omega)
    rw [cT] at this
    rw [← this]
    exact T2
  have eh : numF t 2 0 a false = (rdgR t a 2, a + 2, false) := num_hit (by omega) (by rw [← rT0]; exact T4)
  have es : sgnF [58] t (a + 2) false = (pk t (a + 2), a + 3, false) := sgn_on (by omega) (by rw [kT2]; decide)
  have ei : numF t 2 0 (a + 3) false = (rdgR t (a + 3) 2, a + 5, false) := num_hit (by omega) (by rw [← rT3]; exact T5)
  have eS : (if pk t (a + 5) = 58 then numF t 2 0 (a + 5 + 1) false else (0, a + 5, false)) = (sV T, a + T.length, false) := by
    unfold sV
    rcases T1 with h | h
    · rw [h] at k7 ⊢
      rw [if_neg (by rw [k7]; decide), if_neg (by decide)]
    · have k := pk_cut t a T.length 5 (by omega)
      rw [cT, T3 h] at k
      rw [if_pos k.symm, if_pos h]
      have r := rdgR_cut t a T.length 6 2 (by omega) (by omega)
      rw [cT] at r
      have := T6 h
      rw [r] at this
      rw [r, h]
      exact num_hit (by omega) this
  have dZ := mz_hit (t := t) (p := a + T.length + 1) (by omega) (by rw [d8]; exact hZ)
  rw [d8] at dZ
  unfold mailC
  simp only [eD, s1, eM, s2, eY, s3, eh, es, ei, eS, s4, dZ]
  rw [secR_len, hk]
  unfold mV
  rw [rD, rY, rT0, rT3]
  rfl
/-- Back: where date's Mail finds nothing bad, five good pieces stand. -/
theorem mailC_up (t : List UInt8) (p : Nat) (z : Bool) (hp : p ≤ t.length) (hn : mailC t p z ≠ (0, 4)) :
    z = false ∧ ∃ D M Y T Z, t.drop p = D ++ 32 :: (M ++ 32 :: (Y ++ 32 :: (T ++ 32 :: Z))) ∧ mOk D M Y T Z = true := by
  obtain ⟨vd, p1, z1, e1⟩ : ∃ a b c, numF t (wdF t p) 0 p z = (a, b, c) := ⟨_, _, _, rfl⟩
  obtain ⟨v2, p2, z2, e2⟩ : ∃ a b c, sgnF [32] t p1 z1 = (a, b, c) := ⟨_, _, _, rfl⟩
  obtain ⟨vm, p3, z3, e3⟩ : ∃ a b c, nameF monL 12 t p2 z2 = (a, b, c) := ⟨_, _, _, rfl⟩
  obtain ⟨v4, p4, z4, e4⟩ : ∃ a b c, sgnF [32] t p3 z3 = (a, b, c) := ⟨_, _, _, rfl⟩
  obtain ⟨vy, p5, z5, e5⟩ : ∃ a b c, yearF t p4 z4 = (a, b, c) := ⟨_, _, _, rfl⟩
  obtain ⟨v6, p6, z6, e6⟩ : ∃ a b c, sgnF [32] t p5 z5 = (a, b, c) := ⟨_, _, _, rfl⟩
  obtain ⟨vh, p7, z7, e7⟩ : ∃ a b c, numF t 2 0 p6 z6 = (a, b, c) := ⟨_, _, _, rfl⟩
  obtain ⟨v8, p8, z8, e8⟩ : ∃ a b c, sgnF [58] t p7 z7 = (a, b, c) := ⟨_, _, _, rfl⟩
  obtain ⟨vi, p9, z9, e9⟩ : ∃ a b c, numF t 2 0 p8 z8 = (a, b, c) := ⟨_, _, _, rfl⟩
  obtain ⟨vs, p10, z10, e10⟩ : ∃ a b c, (if pk t p9 = 58 then numF t 2 0 (p9 + 1) z9 else (0, p9, z9)) = (a, b, c) := ⟨_, _, _, rfl⟩
  obtain ⟨v11, p11, z11, e11⟩ : ∃ a b c, sgnF [32] t p10 z10 = (a, b, c) := ⟨_, _, _, rfl⟩
  obtain ⟨va, p12, z12, e12⟩ : ∃ a b c, mzF t p11 z11 = (a, b, c) := ⟨_, _, _, rfl⟩
  have e : mailC t p z = secR t p12 z12 vy (1 + (vm : Int)) vd vh vi vs va := by unfold mailC; simp only [e1, e2, e3, e4, e5, e6, e7, e8, e9, e10, e11, e12]
  rw [e] at hn
  clear e
  unfold secR at hn
  by_cases hb : z12 = true ∨ p12 ≠ t.length
  · rw [if_pos hb] at hn
    exact (hn rfl).elim
  clear hn
  have f12 : z12 = false := by
    cases z12 with
    | true => exact (hb (.inl rfl)).elim
    | false => rfl
  have hl : p12 = t.length := Classical.byContradiction fun h => hb (.inr h)
  clear hb
  subst f12
  have f11 : z11 = false := by
    cases z11 with
    | false => rfl
    | true => have := mzF_bad t p11; rw [e12] at this; cases this
  subst f11
  have f10 : z10 = false := (sgn_up e11 rfl).1
  subst f10
  have f9 : z9 = false := by
    by_cases g : pk t p9 = 58
    · rw [if_pos g] at e10
      exact num_flag (by rw [e10])
    · rw [if_neg g] at e10
      exact congrArg (fun r => r.2.2) e10
  subst f9
  have f8 : z8 = false := num_flag (by rw [e9])
  subst f8
  have f7 : z7 = false := (sgn_up e8 rfl).1
  subst f7
  have f6 : z6 = false := num_flag (by rw [e7])
  subst f6
  have f5 : z5 = false := (sgn_up e6 rfl).1
  subst f5
  have f4 : z4 = false := by
    cases z4 with
    | false => rfl
    | true => have := yearF_bad t p4; rw [e5] at this; cases this
  subst f4
  have f3 : z3 = false := (sgn_up e4 rfl).1
  subst f3
  have f2 : z2 = false := (name_up e3 rfl).1
  subst f2
  have f1 : z1 = false := (sgn_up e2 rfl).1
  subst f1
  obtain ⟨f0, r1, l1, _, q1⟩ := num_up e1 hp rfl
  dsimp only at q1
  subst q1
  obtain ⟨_, l2, k2, _, q2⟩ := sgn_up e2 rfl
  dsimp only at q2
  subst q2
  obtain ⟨_, l3, m3, q3⟩ := name_up e3 rfl
  dsimp only at m3 q3
  subst q3
  obtain ⟨_, l4, k4, _, q4⟩ := sgn_up e4 rfl
  dsimp only at q4
  subst q4
  obtain ⟨_, ky, hky, q5, l5, r5, _⟩ := yr_up e5 (by omega) rfl
  dsimp only at q5
  subst q5
  obtain ⟨_, l6, k6, _, q6⟩ := sgn_up e6 rfl
  dsimp only at q6
  subst q6
  obtain ⟨_, r7, l7, _, q7⟩ := num_up e7 (by omega) rfl
  dsimp only at q7
  subst q7
  obtain ⟨_, l8, k8, _, q8⟩ := sgn_up e8 rfl
  dsimp only at q8
  subst q8
  obtain ⟨_, r9, l9, _, q9⟩ := num_up e9 (by omega) rfl
  dsimp only at q9
  subst q9
  obtain ⟨_, l11, k11, _, q11⟩ := sgn_up e11 rfl
  dsimp only at q11
  subst q11
  obtain ⟨_, hz, _⟩ := mz_up e12 (by omega) rfl hl
  have cons1 (q : Nat) (c : UInt8) (hq : q < t.length) (hk : pk t q ∈ [c]) : t.drop q = c :: t.drop (q + 1) := by
    rw [List.drop_eq_getElem_cons hq, ← pk_lt t q hq, List.mem_singleton.1 hk]
  have cut1 (q k : Nat) : t.drop q = (t.drop q).take k ++ t.drop (q + k) := by
    rw [← List.drop_drop, List.take_append_drop]
  have len1 (q k : Nat) (h : q + k ≤ t.length) : ((t.drop q).take k).length = k := by
    rw [List.length_take, List.length_drop]; omega
  have hw : wdF t p = 1 ∨ wdF t p = 2 := by
    unfold wdF
    split
    · exact .inr rfl
    · exact .inl rfl
  clear e1 e2 e3 e4 e5 e6 e7 e8 e9 e11 e12
  generalize hwd : wdF t p = wd at *
  generalize ha : p + wd + 1 + 3 + 1 + ky + 1 = a at *
  -- the length of the time of day
  obtain ⟨kt, hkt, q10, hT⟩ : ∃ kt, (kt = 5 ∨ kt = 8) ∧ p10 = a + kt ∧ (kt = 8 → pk t (a + 5) = 58 ∧ 0 ≤ rdgR t (a + 6) 2) := by
    by_cases g : pk t (a + 2 + 1 + 2) = 58
    · rw [if_pos g] at e10
      obtain ⟨_, r10, l10, _, q10⟩ := num_up e10 (by have := pk_ne t _ l9 (by rw [g]; decide); omega) rfl
      dsimp only at q10
      exact ⟨8, .inr rfl, by omega, fun _ => ⟨g, r10⟩⟩
    · rw [if_neg g] at e10
      refine ⟨5, .inl rfl, ?_, fun h => by omega⟩
      have := congrArg (fun r => r.2.1) e10
      dsimp only at this
      omega
  subst q10
  refine ⟨f0, (t.drop p).take wd, (t.drop (p + wd + 1)).take 3, (t.drop (p + wd + 1 + 3 + 1)).take ky, (t.drop a).take kt, t.drop (a + kt + 1), ?_, ?_⟩
  · rw [← cons1 (a + kt) 32 l11 k11, ← cut1 a kt, ← ha, ← cons1 _ 32 l6 k6, ← cut1 _ ky, ← cons1 _ 32 l4 k4, ← cut1 _ 3, ← cons1 _ 32 l2 k2, ← cut1 p wd]
  · unfold mOk
    rw [decide_eq_true_eq]
    have L1 := len1 p wd (by omega)
    have L5 := len1 (p + wd + 1 + 3 + 1) ky (by omega)
    have LT := len1 a kt (by omega)
    refine ⟨?_, ?_, ?_, ?_, hz⟩
    · unfold dOk
      rw [decide_eq_true_eq, L1, rdgR_cut t p wd 0 wd (by omega) (by omega)]
      exact ⟨hw, r1⟩
    · show 0 ≤ plF _ (chk monL 12 0) 0
      rw [← m3]
      omega
    · unfold yOk
      rw [decide_eq_true_eq, L5, rdgR_cut t _ ky 0 ky (by omega) (by omega)]
      exact ⟨hky, r5⟩
    · unfold tOk
      rw [decide_eq_true_eq, LT, pk_cut t a kt 2 (by omega), rdgR_cut t a kt 0 2 (by omega) (by omega), rdgR_cut t a kt 3 2 (by omega) (by omega)]
      refine ⟨hkt, List.mem_singleton.1 k8, ?_, r7, r9, ?_⟩
      · intro h
        rw [pk_cut t a kt 5 (by omega)]
        exact (hT h).1
      · intro h
        rw [rdgR_cut t a kt 6 2 (by omega) (by omega)]
        exact (hT h).2
theorem mlP_ok (D M Y T Z : List UInt8) (h : mOk D M Y T Z = true) : splitB (D ++ 32 :: (M ++ 32 :: (Y ++ 32 :: (T ++ 32 :: Z)))) = [D, M, Y, T, Z] := by
  unfold mOk at h
  rw [decide_eq_true_eq] at h
  obtain ⟨hD, hM, hY, hT, hZ⟩ := h
  unfold dOk at hD
  unfold yOk at hY
  rw [decide_eq_true_eq] at hD hY
  rw [splitB_app _ _ (digs32 hD.2), splitB_app _ _ (mons_any M (plF_mem M _ _ hM)).2.1, splitB_app _ _ (digs32 hY.2), splitB_app _ _ (t32 hT), splitB_none _ (rz32 hZ)]
/-- date's Mail behind the day's name is the document's. -/
theorem mailC_ref (t : List UInt8) (p : Nat) (hp : p ≤ t.length) : mailC t p false = mlP (t.drop p) := by
  by_cases hn : mailC t p false = (0, 4)
  · unfold mlP
    split
    · rename_i D M Y T Z hs
      unfold fiveR
      by_cases h : mOk D M Y T Z = true
      · rw [if_pos h]
        obtain ⟨q1, a1, b1⟩ := splitB_back _ _ _ _ hs
        obtain ⟨q2, a2, b2⟩ := splitB_back _ _ _ _ b1
        obtain ⟨q3, a3, b3⟩ := splitB_back _ _ _ _ b2
        obtain ⟨q4, a4, b4⟩ := splitB_back _ _ _ _ b3
        have a5 := splitB_last _ _ b4
        subst a5
        subst a4
        subst a3
        subst a2
        exact mailC_ok t p D M Y T q4 a1 h hp
      · rw [if_neg h]
        exact hn
    · exact hn
  · obtain ⟨_, D, M, Y, T, Z, e, h⟩ := mailC_up t p false hp hn
    rw [mailC_ok t p D M Y T Z e h hp, e]
    unfold mlP
    rw [mlP_ok D M Y T Z h]
    exact (if_pos h).symm
/-- What the document's Mail tells. -/
def rmailR (t : List UInt8) : Int × Int :=
  if 5 < t.length ∧ pk t 3 = 44 then
    if plF (t.take 3) weeksL 0 < 0 ∨ pk t 4 ≠ 32 then (0, 4) else mlP (t.drop 5)
  else mlP t
theorem mlP_some (s : List UInt8) (h : mlP s ≠ (0, 4)) : ∃ D M Y T Z, s = D ++ 32 :: (M ++ 32 :: (Y ++ 32 :: (T ++ 32 :: Z))) ∧ mOk D M Y T Z = true := by
  have e := mailC_ref s 0 (Nat.zero_le _)
  rw [List.drop_zero] at e
  rw [← e] at h
  exact (mailC_up s 0 false (Nat.zero_le _) h).2
theorem pk_app (D R : List UInt8) (i : Nat) (h : i < D.length) : pk (D ++ R) i = pk D i := by
  unfold pk
  rw [List.getD_eq_getElem?_getD, List.getD_eq_getElem?_getD, List.getElem?_append_left h]
/-- A good text begins with a digit; no comma is its fourth. -/
theorem mlP_head (s : List UInt8) (h : mlP s ≠ (0, 4)) : dgB (pk s 0) = true ∧ pk s 3 ≠ 44 := by
  obtain ⟨D, M, Y, T, Z, e, hk⟩ := mlP_some s h
  unfold mOk at hk
  rw [decide_eq_true_eq] at hk
  obtain ⟨hD, hM, _⟩ := hk
  unfold dOk at hD
  rw [decide_eq_true_eq] at hD
  have d := (rdgR_digs hD.2).2 0 (by omega)
  have mm := mons_any M (plF_mem M _ _ hM)
  constructor
  · rw [e, pk_app D _ 0 (by omega)]
    exact d
  · have e2 : s.drop (D.length + 1) = M ++ 32 :: (Y ++ 32 :: (T ++ 32 :: Z)) := by
      rw [e, ← List.drop_drop, List.drop_left' rfl]
      rfl
    have key : ∀ i, i < 3 → pk s (D.length + 1 + i) ≠ 44 := by
      intro i hi
      rw [← pk_drop, e2, pk_app M _ i (by omega), pk_lt M i (by omega)]
      exact fun x => mm.2.2 (x ▸ List.getElem_mem _)
    rcases hD.1 with h | h
    · have := key 1 (by omega)
      rw [h] at this
      exact this
    · have := key 0 (by omega)
      rw [h] at this
      exact this
theorem mlP_nil : mlP [] = (0, 4) := rfl
theorem mail_ref (t : List UInt8) : mailR t = rmailR t := by
  by_cases hd : dgB (pk t 0) = true
  · rw [mailR_digit t hd, mailC_ref t 0 (Nat.zero_le _), List.drop_zero]
    unfold rmailR
    by_cases hc : 5 < t.length ∧ pk t 3 = 44
    · rw [if_pos hc]
      have h0 : mlP t = (0, 4) := Classical.byContradiction fun h => (mlP_head t h).2 hc.2
      rw [h0, if_pos]
      left
      have hw : ∀ w ∈ weeksL, dgB (pk w 0) = false := by decide
      by_cases g : 0 ≤ plF (t.take 3) weeksL 0
      · have := hw _ (plF_mem _ _ _ g)
        rw [pk_take t 3 0 (by omega), hd] at this
        cases this
      · omega
    · rw [if_neg hc]
  · have hd' : dgB (pk t 0) = false := by simpa using hd
    rw [mailR_named t hd']
    have hm : mlP t = (0, 4) := Classical.byContradiction fun h => hd (mlP_head t h).1
    unfold rmailR
    rw [hm]
    obtain ⟨v0, p0, z0, e0⟩ : ∃ a b c, nameF weekL 7 t 0 false = (a, b, c) := ⟨_, _, _, rfl⟩
    obtain ⟨v1, p1, z1, e1⟩ : ∃ a b c, sgnF [44] t p0 z0 = (a, b, c) := ⟨_, _, _, rfl⟩
    obtain ⟨v2, p2, z2, e2⟩ : ∃ a b c, sgnF [32] t p1 z1 = (a, b, c) := ⟨_, _, _, rfl⟩
    simp only [e0, e1, e2]
    cases z2 with
    | false =>
      obtain ⟨f1, l2, k2, _, q2⟩ := sgn_up e2 rfl
      dsimp only at q2
      subst f1
      obtain ⟨f0, l1, k1, _, q1⟩ := sgn_up e1 rfl
      dsimp only at q1
      subst f0
      obtain ⟨_, l0, m0, q0⟩ := name_up e0 rfl
      dsimp only at m0 q0
      subst q0
      subst q1
      subst q2
      rw [mailC_ref t _ (by omega)]
      have k3 : pk t 3 = 44 := List.mem_singleton.1 k1
      have k4 : pk t 4 = 32 := List.mem_singleton.1 k2
      by_cases h5 : 5 < t.length
      · rw [if_pos ⟨h5, k3⟩, if_neg]
        rintro (h | h)
        · have : (v0 : Int) = plF (t.take 3) weeksL 0 := m0
          omega
        · exact h k4
      · rw [if_neg (fun h => h5 h.1), List.drop_eq_nil_of_le (by omega)]
        rfl
    | true =>
      rw [mailC_bad]
      by_cases h5 : 5 < t.length ∧ pk t 3 = 44
      · rw [if_pos h5]
        by_cases g : plF (t.take 3) weeksL 0 < 0 ∨ pk t 4 ≠ 32
        · rw [if_pos g]
        · exfalso
          obtain ⟨k, hk, en⟩ := name_hit (row := weekL) (m := 7) (t := t) (p := 0) false (by omega) (by
            show 0 ≤ plF (t.take 3) weeksL 0
            omega)
          rw [en] at e0
          cases e0
          have s1 : sgnF [44] t 3 false = (pk t 3, 4, false) := sgn_on (by omega) (by rw [h5.2]; decide)
          rw [s1] at e1
          cases e1
          have s2 : sgnF [32] t 4 false = (pk t 4, 5, false) := sgn_on (by omega) (by
            have : pk t 4 = 32 := Classical.byContradiction fun x => g (.inr x)
            rw [this]; decide)
          rw [s2] at e2
          cases e2
      · rw [if_neg h5]
end Go.Proofs.Ytnaafdennieedaa
