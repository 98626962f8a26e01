/- Layer 5: plain facts for DateBack. -/
import Derived.Test.YtnaafdennieedaaDOrder
namespace Go.Proofs.Ytnaafdennieedaa
open Go.RowKit

theorem Rd.row (E : TypeId) (w : World) (l : List UInt8) (hl : l.length ≤ 1000) : Rd (w.alloc (.cells (l.map bv).toArray E)) (.slice (some ⟨w.heap.size, 0, none⟩) l.length l.length) l := by
  refine ⟨_, l.length, rfl, Nat.le_refl _, by unfold maxLen; omega, (fun h => by cases h), fun _ => ⟨w.heap.size, 0, rfl, fun i hi => ?_⟩⟩
  have h := heap_alloc_new w (.cells (l.map bv).toArray E)
  rw [Nat.zero_add, cell_of_row _ w.heap.size i _ E (0, 0) h]
  simp [hi]
theorem digL2 (n : Nat) (h : n < 100) : digL n 2 = [UInt8.ofNat (48 + n / 10), UInt8.ofNat (48 + n % 10)] := by
  rw [digL_succ, digL_succ]
  show [db n 1, db n 0] = _
  unfold db
  rw [show n / 10 ^ 1 % 10 = n / 10 by omega, show n / 10 ^ 0 % 10 = n % 10 by simp]
theorem body_take (y mo d h mi s : Nat) (r : List UInt8) : (dtext y mo d h mi s).take 19 ++ r = digL y 4 ++ (45 :: (digL mo 2 ++ (45 :: (digL d 2 ++ (84 :: (digL h 2 ++ (58 :: (digL mi 2 ++ (58 :: (digL s 2 ++ r)))))))))) := by
  have e : dtext y mo d h mi s = (digL y 4 ++ (45 :: (digL mo 2 ++ (45 :: (digL d 2 ++ (84 :: (digL h 2 ++ (58 :: (digL mi 2 ++ (58 :: digL s 2)))))))))) ++ [90] := by
    rw [dtext_cons]; simp
  rw [e, List.take_append_of_le_length (by simp [digL_length]), List.take_of_length_le (by simp [digL_length])]
  simp
/-- A zone told in hours and minutes. -/
theorem nz_off (t : List UInt8) (c : UInt8) (hc : c = 45 ∨ c = 43) (hr mn : Nat) (h1 : hr ≤ 23) (h2 : mn ≤ 59) (h : t.drop 19 = c :: (digL hr 2 ++ (58 :: digL mn 2))) :
    fracF t 19 false = (19, false) ∧ nzF t 19 false = (offV c hr mn, 25, false) ∧ t.length = 25 := by
  have e1 := pk_hit t 19 c _ h
  have hm : c ∈ [90, 122, 43, 45] := by rcases hc with rfl | rfl <;> decide
  have e2 := sgnF_hit [90, 122, 43, 45] t 19 false c _ h hm
  have d1 := drop_hit t 19 c _ h
  have e3 := numF_hit t false hr _ 2 0 20 d1
  have d2 := drop_hits t 20 _ _ d1
  rw [digL_length] at d2
  have e4 := sgnF_hit [58] t 22 false 58 _ d2 (by decide)
  have d3 := drop_hit t 22 58 _ d2
  have d3' : t.drop 23 = digL mn 2 ++ [] := by rw [List.append_nil]; exact d3
  have e5 := numF_hit t false mn [] 2 0 23 d3'
  have e6 := congrArg List.length d3
  rw [List.length_drop, digL_length] at e6
  refine ⟨?_, ?_, by omega⟩
  · unfold fracF; rw [e1, if_neg (by rcases hc with rfl | rfl <;> decide)]
  · unfold nzF
    simp only [e2, e3, e4, e5]
    rw [if_neg (by rcases hc with rfl | rfl <;> decide)]
    have m1 : (0 : Int) * 10 ^ 2 + ((hr % 10 ^ 2 : Nat) : Int) = hr := by rw [Nat.mod_eq_of_lt (by omega)]; omega
    have m2 : (0 : Int) * 10 ^ 2 + ((mn % 10 ^ 2 : Nat) : Int) = mn := by rw [Nat.mod_eq_of_lt (by omega)]; omega
    rw [m1, m2]
    have z : offZ false hr mn = false := by unfold offZ; simp; omega
    rw [z]
theorem net_off (y mo d h mi s : Nat) (c : UInt8) (hc : c = 45 ∨ c = 43) (hr mn : Nat) (h1 : hr ≤ 23) (h2 : mn ≤ 59) (H : mkB y mo d h mi s = true) :
    netR ((dtext y mo d h mi s).take 19 ++ (c :: (digL hr 2 ++ (58 :: digL mn 2)))) =
      if mkV y mo d h mi s - offV c hr mn < 0 ∨ 253402300800 ≤ mkV y mo d h mi s - offV c hr mn then (0, 1) else (mkV y mo d h mi s - offV c hr mn, 0) := by
  obtain ⟨b1, b2, b3, b4, b5, b6⟩ := mk_small y mo d h mi s H
  obtain ⟨e1, e2⟩ := net_told _ _ y mo d h mi s (body_take y mo d h mi s (c :: (digL hr 2 ++ (58 :: digL mn 2)))) b1 b2 b3 b4 b5 b6
  obtain ⟨e3, e4, e5⟩ := nz_off _ c hc hr mn h1 h2 e2
  rw [e1, e3]
  simp only [e4]
  rw [secR_ok _ _ _ _ _ _ _ _ _ e5.symm H]
theorem net_frac (y mo d h mi s : Nat) (H : mkB y mo d h mi s = true) (hs : s ≤ 59) :
    netR ((dtext y mo d h mi s).take 19 ++ [46, 50, 53, 90]) = (mkV y mo d h mi s, 0) := by
  obtain ⟨b1, b2, b3, b4, b5, b6⟩ := mk_small y mo d h mi s H
  obtain ⟨e1, e2⟩ := net_told _ _ y mo d h mi s (body_take y mo d h mi s [46, 50, 53, 90]) b1 b2 b3 b4 b5 b6
  obtain ⟨t, ht⟩ : ∃ t, t = (dtext y mo d h mi s).take 19 ++ [46, 50, 53, 90] := ⟨_, rfl⟩
  rw [← ht] at e1 e2 ⊢
  have k1 := pk_hit t 19 46 _ e2
  have d1 := drop_hit t 19 46 _ e2
  have d1' : t.drop 20 = digL 2 1 ++ [53, 90] := d1
  have k2 := numF_hit t false 2 [53, 90] 1 0 20 d1'
  have d2 := drop_hit t 20 50 _ d1
  have k3 := pk_hit t 21 53 _ d2
  have d3 := drop_hit t 21 53 _ d2
  have k4 := pk_hit t 22 90 _ d3
  have k5 := sgnF_hit [90, 122, 43, 45] t 22 false 90 [] d3 (by decide)
  have k6 := congrArg List.length d3
  rw [List.length_drop] at k6
  have s1 : skipD t 21 = 22 := by
    rw [(skipD_yes t 21 (by rw [k3]; decide)).2, skipD_no t 22 (by simp at k6; omega) (by rw [k4]; decide)]
  have f1 : fracF t 19 false = (22, false) := by
    unfold fracF
    rw [k1, if_pos rfl, k2]
    simp only
    rw [s1]
  have f2 : nzF t 22 false = (0, 23, false) := by unfold nzF; simp only [k5]; rfl
  rw [e1, f1]
  simp only [f2]
  rw [secR_ok _ _ _ _ _ _ _ _ _ (by simp at k6; omega) H, Int.sub_zero, if_neg]
  have := mkV_max y mo d h mi s H hs
  omega
end Go.Proofs.Ytnaafdennieedaa
