/- JSON: numbers' texts. -/
import Derived.Test.YtidlhajibjnkeaaDoorJParM
namespace Go.Proofs.YtidlhajibjnkeaaDoor
open Go.RowKit

theorem digP_pt (pre rest : List UInt8) (sg : Int) (u : Nat) (c : UInt8) (hc : c = 46 ∨ c = 101 ∨ c = 69) : digP (pre ++ (Lib.decDigits u ++ c :: rest)) sg pre.length = .err 4 := by
  have hd : dgs ((pre ++ (Lib.decDigits u ++ c :: rest)).drop pre.length) = Lib.decDigits u := by
    rw [List.drop_left]
    exact dgs_all _ _ (dec_dg u) (fun d hd => by
      simp only [List.head?_cons, Option.some.injEq] at hd
      subst hd
      rcases hc with rfl | rfl | rfl <;> decide)
  have hp := dec_ne u
  unfold digP
  rw [hd, if_neg (by rw [List.length_append, List.length_append]; omega), if_neg, if_pos]
  · refine ⟨c, ?_, hc⟩
    rw [List.getElem?_append_right (by omega), List.getElem?_append_right (by omega)]
    have e : pre.length + (Lib.decDigits u).length - pre.length - (Lib.decDigits u).length = 0 := by omega
    rw [e]; rfl
  · rintro (h | ⟨h1, h2⟩)
    · omega
    · rw [List.getElem?_append_right (Nat.le_refl _), Nat.sub_self, List.getElem?_append_left hp] at h1
      have := dec_zero u h1
      omega
theorem numP_pt (pre rest : List UInt8) (n : Int) (c : UInt8) (hc : c = 46 ∨ c = 101 ∨ c = 69) : numP (pre ++ (Lib.itoa n ++ c :: rest)) pre.length = .err 4 := by
  unfold numP Lib.itoa
  by_cases h : n < 0
  · rw [if_pos h]
    have e : (pre ++ (45 :: Lib.decDigits n.natAbs ++ c :: rest))[pre.length]? = some 45 := at_pre pre 45 _
    rw [if_pos e]
    have := digP_pt (pre ++ [45]) rest (-1) n.natAbs c hc
    rw [List.append_assoc, List.length_append] at this
    simpa using this
  · rw [if_neg h]
    have hp := dec_ne n.toNat
    have e : ¬ (pre ++ (Lib.decDigits n.toNat ++ c :: rest))[pre.length]? = some 45 := by
      rw [List.getElem?_append_right (Nat.le_refl _), Nat.sub_self, List.getElem?_append_left hp, List.getElem?_eq_getElem hp]
      intro h2
      have := dec_dg n.toNat _ (List.getElem_mem hp)
      rw [Option.some.inj h2] at this
      exact absurd this (by decide)
    rw [if_neg e]
    exact digP_pt pre rest 1 n.toNat c hc
theorem par_of {T : List UInt8} (hl : T.length ≤ 20000) {e : Nat} (h : valP T 64 0 = .err e) : parP T = .err e := by
  unfold parP
  rw [if_neg (by omega), h]
theorem val_num {T : List UInt8} {c : UInt8} {r : List UInt8} (hT : T = c :: r) (hc : c = 45 ∨ dgJ c = true) : valP T 64 0 = numV (numP T 0) := by
  have hb : isBl c = false := by
    rcases hc with rfl | hc
    · rfl
    · rw [dgJ_iff] at hc
      simp only [isBl, Bool.or_eq_false_iff, beq_eq_false_iff_ne]
      refine ⟨⟨⟨?_, ?_⟩, ?_⟩, ?_⟩ <;> (rintro rfl; exact absurd hc (by decide))
  rw [valP_at (c := c) (by rw [hT]; rfl) hb, casP_num hc]
theorem par_num (n : Int) (hl : (Lib.itoa n).length ≤ 100) : parP (Lib.itoa n) = if 9007199254740991 < n ∨ n < -9007199254740991 then .err 1 else .ok (.mk 4 n [] [] []) (Lib.itoa n).length := by
  obtain ⟨c, r, e, hc, _⟩ := itoa_head n
  have h1 := val_num e hc
  have h2 := numP_pr [] [] n rfl
  simp only [List.nil_append, List.append_nil, List.length_nil, Nat.zero_add] at h2
  by_cases h : 9007199254740991 < n ∨ n < -9007199254740991
  · rw [if_pos h] at h2 ⊢
    exact par_of (by omega) (by rw [h1, h2]; rfl)
  · rw [if_neg h] at h2 ⊢
    unfold parP
    rw [if_neg (by omega), h1, h2]
    simp only [numV, skp_end]
    rw [if_neg (by omega)]
theorem par_pt (n : Int) (c : UInt8) (rest : List UInt8) (hc : c = 46 ∨ c = 101 ∨ c = 69) (hl : (Lib.itoa n ++ c :: rest).length ≤ 20000) : parP (Lib.itoa n ++ c :: rest) = .err 4 := by
  obtain ⟨d, r, e, hd, _⟩ := itoa_head n
  have h1 := val_num (T := Lib.itoa n ++ c :: rest) (c := d) (r := r ++ c :: rest) (by rw [e]; rfl) hd
  have h2 := numP_pt [] rest n c hc
  simp only [List.nil_append, List.length_nil] at h2
  exact par_of hl (by rw [h1, h2]; rfl)
theorem par_0 (n : Int) (hl : (Lib.itoa n).length ≤ 100) : parP (48 :: Lib.itoa n) = .err 4 := by
  have h1 := val_num (T := 48 :: Lib.itoa n) rfl (.inr (by decide))
  by_cases h : n < 0
  · have e : Lib.itoa n = 45 :: Lib.decDigits n.natAbs := by unfold Lib.itoa; rw [if_pos h]
    have h2 : numP (48 :: Lib.itoa n) 0 = .ok 0 1 := by
      unfold numP
      rw [if_neg (by simp), e]
      unfold digP
      have hd : dgs ((48 :: 45 :: Lib.decDigits n.natAbs).drop 0) = [48] := by simp [dgs, dgJ]
      rw [hd]
      simp [capF]
    unfold parP
    rw [if_neg (by simp; omega), h1, h2]
    have hs : skp (48 :: Lib.itoa n) 1 = 1 := skp_no (c := 45) (by rw [e]; rfl) (by decide)
    simp only [numV, hs]
    rw [if_pos (by rw [e]; simp)]
  · have e : Lib.itoa n = Lib.decDigits n.toNat := by unfold Lib.itoa; rw [if_neg h]
    have hp := dec_ne n.toNat
    have h2 : numP (48 :: Lib.itoa n) 0 = .err 4 := by
      unfold numP
      rw [if_neg (by simp), e]
      unfold digP
      have hd : dgs ((48 :: Lib.decDigits n.toNat).drop 0) = 48 :: Lib.decDigits n.toNat := by
        have := dgs_all (48 :: Lib.decDigits n.toNat) [] (by intro c hc; rcases List.mem_cons.1 hc with rfl | hc; decide; exact dec_dg _ c hc) (by simp)
        simpa using this
      rw [hd, if_neg (by simp), if_pos (.inr ⟨rfl, by simp; omega⟩)]
    exact par_of (by simp; omega) (by rw [h1, h2]; rfl)
theorem may_num (n : Int) : mayV (.mk 4 n [] [] []) 64 = (decide (-9007199254740991 ≤ n) && decide (n ≤ 9007199254740991)) := by
  simp [mayV, fitV, mayL, mayM, txN]
theorem itoa_len {n : Int} (h : -9223372036854775808 ≤ n ∧ n ≤ 9223372036854775807) : (Lib.itoa n).length ≤ 21 := by
  unfold Lib.itoa
  have hd : ∀ k u : Nat, u < 10 ^ k → 1 ≤ k → Lib.nDigits u ≤ k := by
    intro k
    induction k with
    | zero => intro u _ h; omega
    | succ k ih =>
      intro u hu _
      by_cases hs : u < 10
      · rw [Lib.nDigits_small hs]; omega
      · rw [Lib.nDigits_big hs]
        have hk : 1 ≤ k := by
          rcases k with _ | k
          · simp at hu; omega
          · omega
        have := ih (u / 10) (by rw [Nat.pow_succ] at hu; omega) hk
        omega
  split
  · rw [List.length_cons, Lib.decDigits_length]
    have := hd 20 n.natAbs (by omega) (by omega)
    omega
  · rw [Lib.decDigits_length]
    have := hd 20 n.toNat (by omega) (by omega)
    omega
end Go.Proofs.YtidlhajibjnkeaaDoor
