/- VersStays: plain facts: what is to be seen at a time stays. -/
import Derived.Test.YtdlacjdddjebgaaV11GoneM
namespace Go.Proofs.Ytdlacjdddjebgaa
open Go.RowKit

abbrev ChC := List (List UInt8 × List VerVS)
/-- What is to be seen at a time. -/
def scanC (at1 : Int) (C : ChC) : List PairT := C.filterMap (fun p => (seenVS p.2 at1).map (fun r => (p.1, r)))
theorem less_nil : ∀ a : List UInt8, Op.bytesLess a [] = false
  | [] => rfl
  | _ :: _ => rfl
theorem scanL_nil (at1 : Int) (S : ChsVS) : scanL [] at1 S = scanC at1 (chsVS S) := by
  unfold scanL scanC chsVS
  rw [List.filterMap_map]
  congr 1
  funext x
  unfold scan1
  rw [less_nil]
  rfl
theorem ins_map2 {Y Z : Type} (f : Y → Z) (k : List UInt8) (y : Y) : ∀ l : List (List UInt8 × Y), (insB k y l).map (fun x => (x.1, f x.2)) = insB k (f y) (l.map (fun x => (x.1, f x.2)))
  | [] => rfl
  | (k', y') :: t => by
    have ih := ins_map2 f k y t
    cases h1 : Op.bytesLess k k' with
    | true => simp [insB, h1]
    | false =>
      cases h2 : Op.bytesLess k' k with
      | true => simp only [List.map_cons, insB, h1, h2, Bool.false_eq_true, if_false, if_true, ih]
      | false => simp [insB, h1, h2]
theorem get_map2 {Y Z : Type} (f : Y → Z) (k : List UInt8) : ∀ l : List (List UInt8 × Y), getB k (l.map (fun x => (x.1, f x.2))) = (getB k l).map f
  | [] => rfl
  | (k', y') :: t => by
    have ih := get_map2 f k t
    cases h1 : Op.bytesLess k k' with
    | true => simp [getB, h1]
    | false =>
      cases h2 : Op.bytesLess k' k with
      | true => simp only [List.map_cons, getB, h1, h2, Bool.false_eq_true, if_false, if_true, ih]
      | false => simp [getB, h1, h2]
theorem chs_ins (key : List UInt8) (v : Value) (l : List VerVS) (S : ChsVS) : chsVS (insB key (v, l) S) = insB key l (chsVS S) := ins_map2 (fun y : ChVS => y.2) key (v, l) S
theorem ver_chs (key : List UInt8) (S : ChsVS) : verSVS key S = (getB key (chsVS S)).getD [] := by
  unfold verSVS chsVS
  rw [get_map2 (fun y : ChVS => y.2) key S]
theorem seen_snoc (l : List VerVS) (v : VerVS) (at1 : Int) (h : at1 < v.1) : seenVS (l ++ [v]) at1 = seenVS l at1 := by
  have e : upN (timesVS (l ++ [v])) at1 = upN (timesVS l) at1 := by
    unfold upN timesVS
    rw [List.map_append, List.filter_append]
    have : List.filter (fun a => decide (a ≤ at1)) (List.map (fun v : VerVS => v.1) [v]) = [] := by
      simp; omega
    rw [this, List.append_nil]
  have hn : upN (timesVS l) at1 ≤ l.length := Nat.le_trans (upN_le _ _) (by unfold timesVS; simp)
  unfold seenVS lastVS
  rw [e, List.take_append_of_le_length hn]
theorem scan_put (key : List UInt8) (v : VerVS) (at1 : Int) (hv : at1 < v.1) : ∀ (C : ChC), scanC at1 (insB key ((getB key C).getD [] ++ [v]) C) = scanC at1 C
  | [] => by
    have := seen_snoc [] v at1 hv
    have h0 : seenVS [] at1 = none := rfl
    simp only [getB, Option.getD_none, insB, scanC, List.filterMap_cons, this, h0, Option.map_none, List.filterMap_nil]
  | (k', y') :: t => by
    have ih := scan_put key v at1 hv t
    unfold scanC at ih ⊢
    cases h1 : Op.bytesLess key k' with
    | true =>
      have := seen_snoc [] v at1 hv
      have h0 : seenVS [] at1 = none := rfl
      simp only [getB, h1, if_true, Option.getD_none, insB, List.filterMap_cons, this, h0, Option.map_none]
    | false =>
      cases h2 : Op.bytesLess k' key with
      | true => simp only [getB, insB, h1, h2, Bool.false_eq_true, if_false, if_true, List.filterMap_cons, ih]
      | false =>
        have e : key = k' := bl_tot key k' h1 h2
        subst e
        simp only [getB, insB, h1, Bool.false_eq_true, if_false, Option.getD_some, List.filterMap_cons, seen_snoc y' v at1 hv]
theorem upN_cons (a t : Int) (l : List Int) : upN (a :: l) t = (if a ≤ t then 1 else 0) + upN l t := by
  unfold upN
  by_cases h : a ≤ t
  · simp [h]; omega
  · simp [h]
theorem upN_mono : ∀ (l : List Int) {s t : Int}, s ≤ t → upN l s ≤ upN l t
  | [], _, _, _ => Nat.le_refl _
  | a :: l, s, t, h => by
    have := upN_mono l h
    rw [upN_cons, upN_cons]
    split <;> split <;> omega
/-- A chain without what nobody sees from a time on tells the same from there on. -/
theorem seen_kept {l : List VerVS} (hr : RisT (timesVS l)) {lw at1 : Int} (h : lw ≤ at1) : (dropNVS l lw < l.length ∧ seenVS (l.drop (dropNVS l lw)) at1 = seenVS l at1) ∨ (l.length ≤ dropNVS l lw ∧ seenVS l at1 = none) := by
  have hl : (timesVS l).length = l.length := by unfold timesVS; simp
  obtain ⟨n, hn⟩ : ∃ n, n = upN (timesVS l) lw := ⟨_, rfl⟩
  obtain ⟨N, hN⟩ : ∃ N, N = upN (timesVS l) at1 := ⟨_, rfl⟩
  have hnN : n ≤ N := by rw [hn, hN]; exact upN_mono _ h
  have hNl : N ≤ l.length := by rw [hN, ← hl]; exact upN_le _ _
  obtain ⟨q1, q2⟩ := upN_spec hr at1
  rw [← hN] at q1 q2
  obtain ⟨d, hd⟩ : ∃ d, d = dropNVS l lw := ⟨_, rfl⟩
  -- what is dropped
  have hdn : d ≤ n ∧ (d = n → lastVS l n = none) := by
    rw [hd]
    unfold dropNVS
    rw [← hn]
    cases n with
    | zero => exact ⟨Nat.le_refl _, fun _ => lastVS_zero l⟩
    | succ m =>
      have hm : m < l.length := by omega
      dsimp only
      rw [List.getElem?_eq_getElem hm]
      dsimp only
      by_cases hg : l[m].2.2 = true
      · rw [if_pos hg]
        exact ⟨Nat.le_refl _, fun _ => by rw [lastVS_succ hm, if_pos hg]⟩
      · rw [if_neg hg]
        exact ⟨Nat.le_succ _, fun e => by omega⟩
  rw [← hd]
  have hseen : seenVS l at1 = lastVS l N := by unfold seenVS; rw [← hN]
  rw [hseen]
  by_cases hdl : d < l.length
  · left
    refine ⟨hdl, ?_⟩
    have hup : upN (timesVS (l.drop d)) at1 = N - d := by
      have et : timesVS (l.drop d) = (timesVS l).drop d := by unfold timesVS; rw [List.map_drop]
      rw [et]
      refine upN_is (by rw [List.length_drop, hl]; omega) (fun p hp hpn => ?_) (fun p hp hpn => ?_)
      · rw [List.getElem_drop]
        exact q1 (d + p) (by rw [List.length_drop] at hp; omega) (by omega)
      · rw [List.getElem_drop]
        exact q2 (d + p) (by rw [List.length_drop] at hp; omega) (by omega)
    unfold seenVS
    rw [hup]
    by_cases hNd : N = d
    · rw [show N - d = 0 by omega, lastVS_zero]
      have hdn2 : d = n := by omega
      rw [show N = n by omega]
      exact (hdn.2 hdn2).symm
    · obtain ⟨m, hm⟩ : ∃ m, N = d + m + 1 := ⟨N - d - 1, by omega⟩
      have h1 : m < (l.drop d).length := by rw [List.length_drop]; omega
      rw [show N - d = m + 1 by omega, hm, lastVS_succ h1, lastVS_succ (show d + m < l.length by omega)]
      simp only [List.getElem_drop]
  · right
    refine ⟨by omega, ?_⟩
    have : d = n := by omega
    rw [show N = n by omega]
    exact hdn.2 this
theorem scan_prune (lw at1 : Int) (h : lw ≤ at1) : ∀ (C : ChC), (∀ p ∈ C, RisT (timesVS p.2)) → scanC at1 (pruCVS lw C) = scanC at1 C
  | [], _ => rfl
  | (k, l) :: t, hr => by
    have ih := scan_prune lw at1 h t (fun p hp => hr p (by simp [hp]))
    unfold scanC pruCVS at ih ⊢
    unfold keptVVS at ih ⊢
    have hrl : RisT (timesVS l) := hr (k, l) (by simp)
    rcases seen_kept hrl h with ⟨h1, h2⟩ | ⟨h1, h2⟩
    · have h3 : ¬ (l.drop (dropNVS l lw)).length = 0 := by rw [List.length_drop]; omega
      simp only [List.filterMap_cons, h3, if_false, h2, ih]
    · have h3 : (l.drop (dropNVS l lw)).length = 0 := by rw [List.length_drop]; omega
      simp only [List.filterMap_cons, h3, if_true, h2, Option.map_none, ih]
end Go.Proofs.Ytdlacjdddjebgaa
