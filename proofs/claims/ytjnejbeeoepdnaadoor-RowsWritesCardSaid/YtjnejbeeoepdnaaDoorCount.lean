/- text.Count, text.Valid by their contracts. -/
import Derived.Test.YtjnejbeeoepdnaaDoorSignAt
namespace Go.Proofs.YtjnejbeeoepdnaaDoor
open Go.RowKit

theorem tailR_some : ∀ (k : Nat) (t : List UInt8) (acc a : Nat), tailR k t acc = some a → k ≤ t.length
  | 0, _, _, _, _ => Nat.zero_le _
  | k + 1, [], _, _, h => by simp [tailR] at h
  | k + 1, b :: t, acc, a, h => by
    rw [tailR] at h
    split at h
    · have := tailR_some k t _ _ h; simp; omega
    · cases h
theorem tailE_le (k least : Nat) (t : List UInt8) (acc : Nat) : (tailE k least (tailR k t acc)).2 ≤ t.length + 1 := by
  unfold tailE
  split
  · simp
  · next a h =>
    have := tailR_some k t acc a h
    split
    · simp
    · simp; omega
theorem sgn_le : ∀ t : List UInt8, (sgn t).2 ≤ t.length
  | [] => by simp [sgn]
  | c :: t => by
    rw [sgn]
    split
    · simp
    split
    · exact tailE_le ..
    split
    · exact tailE_le ..
    split
    · exact tailE_le ..
    · simp

/-- How many signs; none: it is no UTF-8. -/
def cntF : Nat → List UInt8 → Option Nat
  | _, [] => some 0
  | 0, _ :: _ => none
  | f + 1, c :: t => if (sgn (c :: t)).2 = 0 then none else (cntF f ((c :: t).drop (sgn (c :: t)).2)).map (· + 1)
def cnt (t : List UInt8) : Option Nat := cntF t.length t
theorem cntF_more : ∀ (f : Nat) (t : List UInt8), t.length ≤ f → ∀ g, t.length ≤ g → cntF f t = cntF g t
  | _, [], _, 0, _ => by simp [cntF]
  | 0, [], _, g + 1, _ => by simp [cntF]
  | f + 1, [], _, g + 1, _ => by simp [cntF]
  | 0, _ :: _, h, _, _ => by simp at h
  | _ + 1, _ :: _, _, 0, h => by simp at h
  | f + 1, c :: t, h, g + 1, h' => by
    simp only [cntF]
    split
    · rfl
    · next hz =>
      rw [cntF_more f _ (by simp at h ⊢; omega) g (by simp at h' ⊢; omega)]
theorem cnt_nil : cnt [] = some 0 := rfl
theorem cnt_step (t : List UInt8) (h : t ≠ []) : cnt t = if (sgn t).2 = 0 then none else (cnt (t.drop (sgn t).2)).map (· + 1) := by
  cases t with
  | nil => exact absurd rfl h
  | cons c t =>
    show cntF (t.length + 1) (c :: t) = _
    rw [cntF]
    split
    · rfl
    · next hz => rw [cnt, cntF_more t.length _ (by simp; omega) _ (Nat.le_refl _)]
def cntI : Option Nat → Int
  | none => -1
  | some n => n
def cntE (t : List UInt8) : Ending := .returned (.int .i64 (cntI (cnt t)))

set_option maxHeartbeats 3200000 in
theorem count_any (t : List UInt8) (w : World) (hl : t.length ≤ 140737488355328) :
    Calls Tryd.prog 85 #[str t] w fun e w' => e = cntE t ∧ w' = w := by
  go_enter Tryd.func85, Tryd.ntmps85
  go_wp2_with fail
  go_loop [3, 4] (fun n i => ∃ k p : Nat, p ≤ t.length ∧ k ≤ p ∧ i = .int .i64 (p : Int) ∧ n = .int .i64 (k : Int) ∧ cnt t = (cnt (t.drop p)).map (· + k))
    (fun _ i => t.length - (intOf i).toNat)
  case atStart => exact ⟨0, 0, Nat.zero_le _, Nat.le_refl _, rfl, rfl, by simp⟩
  case round =>
    obtain ⟨k, p, hp, hk, rfl, rfl, hr⟩ := hrel
    by_cases hlt : p < t.length
    · have n1 : (p : Int) < (t.length : Int) := by omega
      have hst := cnt_step (t.drop p) (by intro h; have := congrArg List.length h; simp at this; omega)
      have hle := sgn_le (t.drop p)
      rw [List.length_drop] at hle
      rw [hst] at hr
      clear hst
      have HR := Lib.hid hr
      clear hr
      obtain ⟨c, z, hcz⟩ : ∃ c z, sgn (t.drop p) = (c, z) := ⟨_, _, rfl⟩
      rw [hcz] at hle
      have HCZ := Lib.hid hcz
      clear hcz
      simp only at hle
      go_wp2_with fail
      refine (signAt_any t p _ hlt hl).mono ?_
      rintro e w' ⟨rfl, rfl⟩
      rw [HCZ.out, sgnE]
      by_cases hz : z = 0
      · have n2 : ((z : Int) == 0) = true := by rw [beq_iff_eq]; omega
        have hfin : cnt t = none := by rw [HR.out, HCZ.out, if_pos hz]; rfl
        have HF := Lib.hid hfin
        clear hfin hz
        go_wp2_with fail
        go_ret
        exact ⟨by rw [cntE, HF.out]; rfl, rfl⟩
      · have n2 : ((z : Int) == 0) = false := by rw [beq_eq_false_iff_ne]; omega
        have hfin : cnt t = (cnt (t.drop (p + z))).map (· + (k + 1)) := by
          rw [HR.out, HCZ.out, if_neg hz, List.drop_drop, Option.map_map]
          congr 1
          funext x
          simp; omega
        have HF := Lib.hid hfin
        clear hfin
        go_wp2_with fail
        go_round
        case rel => exact ⟨k + 1, p + z, by omega, by omega, by go_num, by go_num, HF.out⟩
        case measure => simp [intOf]; omega
    · obtain rfl : p = t.length := by omega
      have n1 : ¬ (t.length : Int) < (t.length : Int) := by omega
      have hfin : cnt t = some k := by rw [hr, List.drop_length, cnt_nil]; simp
      have HF := Lib.hid hfin
      clear hfin hr
      go_wp2_with fail
      go_ret
      exact ⟨by rw [cntE, HF.out]; rfl, rfl⟩

def validB (t : List UInt8) : Bool := (cnt t).isSome
theorem valid_any (t : List UInt8) (w : World) (hl : t.length ≤ 140737488355328) :
    Calls Tryd.prog 82 #[str t] w fun e w' => e = .returned (.bool (validB t)) ∧ w' = w := by
  go_enter Tryd.func82, Tryd.ntmps82
  go_wp2_with fail
  refine (count_any t _ hl).mono ?_
  rintro e w' ⟨rfl, rfl⟩
  rw [cntE]
  cases h : cnt t with
  | none =>
    have hv : validB t = false := by rw [validB, h]; rfl
    have HV := Lib.hid hv
    clear hv h
    simp only [cntI]
    go_wp2_with fail
    go_ret
    exact ⟨by rw [HV.out]; rfl, rfl⟩
  | some n =>
    have hv : validB t = true := by rw [validB, h]; rfl
    have HV := Lib.hid hv
    clear hv h
    have : (0 : Int) ≤ (n : Int) := by omega
    simp only [cntI]
    go_wp2_with fail
    go_ret
    exact ⟨by rw [HV.out]; rfl, rfl⟩
end Go.Proofs.YtjnejbeeoepdnaaDoor
