/- NumOrder: the walk. -/
import Derived.Test.YtaelkgebnaeimaaAll
namespace Go.Proofs.Ytaelkgebnaeimaa
open Go.RowKit


/-- What the first test asks is decided, each part of it. -/
theorem len_order {a0 a1 : Int} {lu lv : List UInt8} {eu ev : Int} (hU : VarP a0 lu eu) (hV : VarP a1 lv ev) :
    (eu = 1 ∨ (eu = 0 ∧ ev = 1)) ∨ (eu = 0 ∧ ev = 0 ∧ (a1 ≤ a0 ∨ (a0 < a1 ∧ lu.length ≤ lv.length))) := by
  rcases hU with ⟨h1, p1, p2, rfl⟩ | ⟨h1, _⟩
  · rcases hV with ⟨h2, q1, q2, rfl⟩ | ⟨h2, _⟩
    · have := varL_mono a1.toNat a0.toNat a1.toNat (Nat.le_refl _)
      omega
    · omega
  · omega

/-- The two numbers and their digits held against one another: one of three cases. -/
theorem order_tail (x y : Nat) (lx ly : List UInt8) (e1 : Op.bytesLess lx ly = decide (x < y)) (e2 : (lx == ly) = decide (x = y)) :
    ((x : Int) < (y : Int) ∧ ((x : Int) == (y : Int)) = false ∧ Op.bytesLess lx ly = true ∧ (lx == ly) = false) ∨
    ((x : Int) = (y : Int) ∧ Op.bytesLess lx ly = false ∧ (lx == ly) = true) ∨
    (¬ (x : Int) < (y : Int) ∧ ((x : Int) == (y : Int)) = false ∧ Op.bytesLess lx ly = false ∧ (lx == ly) = false) := by
  rw [e1, e2]
  rcases Nat.lt_trichotomy x y with h | h | h
  · exact .inl ⟨by omega, by rw [beq_eq_false_iff_ne]; omega, decide_eq_true h, decide_eq_false (by omega)⟩
  · exact .inr (.inl ⟨by omega, decide_eq_false (by omega), decide_eq_true h⟩)
  · exact .inr (.inr ⟨by omega, by rw [beq_eq_false_iff_ne]; omega, decide_eq_false (by omega), decide_eq_false (by omega)⟩)

set_option maxHeartbeats 3200000 in
theorem order_walk (a0 a1 a2 : Int) (w : World) (h0 : -9223372036854775808 ≤ a0 ∧ a0 ≤ 9223372036854775807) (h1 : -9223372036854775808 ≤ a1 ∧ a1 ≤ 9223372036854775807) (_h2 : -9223372036854775808 ≤ a2 ∧ a2 ≤ 9223372036854775807) :
    Calls Try.prog 4 #[.int .i64 a0, .int .i64 a1, .int .i64 a2] w fun e w' => e = .returned (.bool true) ∧ Below w.heap.size w w' := by
  have b0 := h0.2
  have b1 := h1.2
  clear h0 h1
  go_enter Try.func4, Try.ntmps4
  go_wp2_with fail
  refine (first_any _).mono ?_
  rintro e w1 ⟨rfl, hb1⟩
  go_wp2_with fail
  refine (dig_all a0 a2 _ b0).mono ?_
  rintro e w2 ⟨l, ok, rfl, hP, hb2⟩
  go_wp2_with fail
  refine (dig_all a1 a2 _ b1).mono ?_
  rintro e w3 ⟨m, yes, rfl, hQ, hb3⟩
  go_wp2_with fail
  refine (var_all a0 _).mono ?_
  rintro e w4 ⟨u, lu, eu, rfl, hU, ho4, hb4⟩
  go_wp2_with fail
  refine (var_all a1 _).mono ?_
  rintro e w5 ⟨v, lv, ev, rfl, hV, ho5, hb5⟩
  obtain ⟨au, cu, rfl⟩ := ho4.len
  obtain ⟨av, cv, rfl⟩ := ho5.len
  have hlo := len_order hU hV
  have hB : Below w.heap.size w w5 := (((hb1.trans (hb2.mono hb1.size)).trans (hb3.mono (Nat.le_trans hb1.size hb2.size))).trans (hb4.mono (by have := hb1.size; have := hb2.size; have := hb3.size; omega))).trans (hb5.mono (by have := hb1.size; have := hb2.size; have := hb3.size; have := hb4.size; omega))
  have hl1 := ho4.rd.lens
  have hl2 := ho5.rd.lens
  clear hU hV ho4 ho5 hb1 hb2 hb3 hb4 hb5
  have hsz := hB.size
  rcases hP with ⟨rfl, p1, p2, p3, p4, rfl⟩ | ⟨rfl, rfl⟩
  · rcases hQ with ⟨rfl, q1, _, _, q4, rfl⟩ | ⟨rfl, rfl⟩
    · obtain ⟨x, rfl⟩ := Int.eq_ofNat_of_zero_le p1
      obtain ⟨y, rfl⟩ := Int.eq_ofNat_of_zero_le q1
      obtain ⟨k, rfl⟩ := Int.eq_ofNat_of_zero_le (show 0 ≤ a2 by omega)
      simp only [Int.toNat_natCast] at p4 q4 ⊢
      have e1 := dig_less x y k p4 q4
      have e2 := dig_same x y k p4 q4
      have e3 := digL_length x k
      have e4 := digL_length y k
      generalize digL x k = lx at *
      generalize digL y k = ly at *
      clear p4 q4
      have ht := order_tail x y lx ly e1 e2
      have t3 : ((lx.length : Int) == (k : Int)) = true := by rw [beq_iff_eq]; omega
      have t4 : ((ly.length : Int) == (k : Int)) = true := by rw [beq_iff_eq]; omega
      clear e1 e2 e3 e4
      rcases ht with ⟨t5, t6, t7, t8⟩ | ⟨t5, t7, t8⟩ | ⟨t5, t6, t7, t8⟩
      all_goals
        rcases hlo with (rfl | ⟨rfl, rfl⟩) | ⟨rfl, rfl, (h | ⟨h, hle⟩)⟩
      all_goals first
        | (exfalso; omega)
        | (go_wp2_with fail
           refine (first_any _).mono ?_
           rintro e w6 ⟨rfl, hb6⟩
           go_wp2_with fail
           go_ret
           exact ⟨by first | rfl | (simp; omega), hB.trans (hb6.mono hsz)⟩)
    · rcases hlo with (rfl | ⟨rfl, rfl⟩) | ⟨rfl, rfl, (h | ⟨h, hle⟩)⟩
      all_goals
        go_wp2_with fail
        refine (first_any _).mono ?_
        rintro e w6 ⟨rfl, hb6⟩
        go_wp2_with fail
        go_ret
        exact ⟨rfl, hB.trans (hb6.mono hsz)⟩
  · rcases hQ with ⟨rfl, _⟩ | ⟨rfl, rfl⟩
    all_goals
      rcases hlo with (rfl | ⟨rfl, rfl⟩) | ⟨rfl, rfl, (h | ⟨h, hle⟩)⟩
    all_goals
      go_wp2_with fail
      refine (first_any _).mono ?_
      rintro e w6 ⟨rfl, hb6⟩
      go_wp2_with fail
      go_ret
      exact ⟨rfl, hB.trans (hb6.mono hsz)⟩
end Go.Proofs.Ytaelkgebnaeimaa
