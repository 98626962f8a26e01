/- KeysBack: the walk. -/
import Derived.Test.YtonkfekjhbfelaaDoorKApart
import Derived.Deep.CutRange
namespace Go.Proofs.YtonkfekjhbfelaaDoor
open Go.RowKit

theorem lenOk_pa0 : LenOk pa0 := by simp [LenOk, pa0]
theorem lenOk_parts (l : List UInt8) (hl : l.length ≤ 100000) : LenOk (partsF (splitL l)) := by
  obtain ⟨h1, h2, h3, h4, h5, h6⟩ := partsF_le (splitL l) l.length (splitL_len l)
  exact ⟨by omega, by omega, by omega, by omega, by omega, by omega⟩
theorem keyP_any (p : Pa) (w : World) (h : LenOk p) : Calls Tryd.prog 9 #[pak p.k p.u p.f p.n p.g p.i] w fun e w' => e = .returned (str (keyP p)) ∧ Below w.heap.size w w' :=
  lkey_any p.k p.u p.f p.n p.g p.i w ⟨h.2.2.2.2.1, h.2.2.2.2.2⟩ h.1 h.2.1 h.2.2.1 h.2.2.2.1
theorem pa_neq (k k2 : Int) (u f n g u2 f2 n2 g2 : List UInt8) (i i2 : Int) (W : World) : (binOp .neq 23 (pak k u f n g i) (pak k2 u2 f2 n2 g2 i2)).run Tryd.prog W = .ok (.bool (!decide (k = k2 ∧ u = u2 ∧ f = f2 ∧ n = n2 ∧ g = g2 ∧ i = i2))) W := by
  have hS : Tryd.prog.underlying 23 = some (.struct (Tryd.prog.fieldsOf 23)) := by kernel_rfl
  have hp : Tryd.prog.stoodInHeld 23 = false := by kernel_rfl
  rw [run_neq_struct, show (10000 : Nat) = 9999 + 1 from rfl, run_equalIn_agg W 9999 23 _ _ hS hp]
  simp only [Program.fieldsOf, Tryd.underlying23]
  go_simp
  by_cases h1 : k = k2 <;> by_cases h2 : u = u2 <;> by_cases h3 : f = f2 <;> by_cases h4 : n = n2 <;> by_cases h5 : g = g2 <;> by_cases h6 : i = i2 <;> simp [h1, h2, h3, h4, h5, h6]
/-- The two entries' keys. -/
theorem entries_order (f : List UInt8) (i n : Int) :
    (numbL (withinL [101, 47] f) i == ([] : List UInt8)) = true ∨
    ((numbL (withinL [101, 47] f) i == ([] : List UInt8)) = false ∧ (numbL (withinL [101, 47] f) n == ([] : List UInt8)) = true) ∨
    ((numbL (withinL [101, 47] f) i == ([] : List UInt8)) = false ∧ (numbL (withinL [101, 47] f) n == ([] : List UInt8)) = false ∧ (∃ bb, Op.bytesLess (numbL (withinL [101, 47] f) i) (numbL (withinL [101, 47] f) n) = bb ∧ decide (i < n) = bb) ∧
      (numbL (withinL [101, 47] f) i).length = (numbL (withinL [101, 47] f) n).length) := by
  by_cases h1 : numbL (withinL [101, 47] f) i = []
  · exact .inl (by rw [h1]; rfl)
  by_cases h2 : numbL (withinL [101, 47] f) n = []
  · exact .inr (.inl ⟨ne_beq h1, by rw [h2]; rfl⟩)
  refine .inr (.inr ⟨ne_beq h1, ne_beq h2, ?_⟩)
  obtain ⟨_, a0, a1, ea⟩ := numbL_some h1
  obtain ⟨_, b0, b1, eb⟩ := numbL_some h2
  have e6 : (10 : Nat) ^ 6 = 1000000 := by decide
  have key : ∀ (p x y : List UInt8), Op.bytesLess (p ++ x) (p ++ y) = Op.bytesLess x y := by
    intro p x y
    induction p with
    | nil => rfl
    | cons c t ih => rw [List.cons_append, List.cons_append, Op.bytesLess, ih]; simp
  refine ⟨⟨decide (i < n), ?_, rfl⟩, by rw [ea, eb]; simp [digL_length]⟩
  rw [ea, eb, key, dig_less _ _ 6 (by omega) (by omega)]
  rw [Bool.eq_iff_iff, decide_eq_true_iff, decide_eq_true_iff]
  omega
/-- What each of a pair is. -/
def PairOk (x y : List UInt8) : Prop := (x == ([] : List UInt8)) = true ∨ ((x == ([] : List UInt8)) = false ∧ (y == ([] : List UInt8)) = false ∧ ¬ (x.length : Int) ≤ (y.length : Int) ∧ (x.take y.length == y) = true ∧ y.length ≤ x.length)
theorem pairOk_app {a b x : List UInt8} (hx : x ≠ [] → a ≠ [] ∧ b ≠ [] ∧ x = a ++ b) : PairOk x a := by
  by_cases h : x = []
  · exact .inl (by rw [h]; rfl)
  obtain ⟨ha, hb, e⟩ := hx h
  have : 0 < b.length := List.length_pos_iff.2 hb
  have hl : x.length = a.length + b.length := by rw [e]; simp
  exact .inr ⟨ne_beq h, ne_beq ha, by omega, by rw [e]; simp, by omega⟩
theorem name_ne {b : List UInt8} (h : nameB b = true) : b ≠ [] := by
  have := (nameB_len h).1
  intro e
  rw [e] at this
  simp at this
theorem dig_ne (n : Nat) : digL n 6 ≠ [] := by
  intro e
  have := digL_length n 6
  rw [e] at this
  simp at this
theorem pair_under (a b : List UInt8) : PairOk (underL a b) a := pairOk_app (b := b) fun h => by
  obtain ⟨h1, h2, h3⟩ := underL_some h
  exact ⟨h1, name_ne h2, h3⟩
theorem pair_numb (a : List UInt8) (i : Int) : PairOk (numbL a i) a := pairOk_app (b := digL i.toNat 6) fun h => by
  obtain ⟨h1, _, _, h3⟩ := numbL_some h
  exact ⟨h1, dig_ne _, h3⟩
set_option maxRecDepth 100000 in
set_option maxHeartbeats 4000000 in
theorem kback_no (pk : Int) (pu pf pn pg s : List UInt8) (pi n : Int) (w : World)
    (hno : 3000 < (pu.length : Int) ∨ (¬ 3000 < (pu.length : Int) ∧ 3000 < (pf.length : Int)) ∨ (¬ 3000 < (pu.length : Int) ∧ ¬ 3000 < (pf.length : Int) ∧ 3000 < (pn.length : Int)) ∨
      (¬ 3000 < (pu.length : Int) ∧ ¬ 3000 < (pf.length : Int) ∧ ¬ 3000 < (pn.length : Int) ∧ 3000 < (pg.length : Int)) ∨ (¬ 3000 < (pu.length : Int) ∧ ¬ 3000 < (pf.length : Int) ∧ ¬ 3000 < (pn.length : Int) ∧ ¬ 3000 < (pg.length : Int) ∧ 3000 < (s.length : Int))) :
    Calls Tryd.prog 4 #[pak pk pu pf pn pg pi, str s, .int .i64 n] w fun e w' => e = .returned (.bool true) ∧ Below w.heap.size w w' := by
  have HK := Lib.hid (PK.made w pk pu pf pn pg pi 23)
  have HB := Lib.hid (below_alloc w (.cells #[.int .i64 pk, str pu, str pf, str pn, str pg, .int .i64 pi] 23))
  rcases hno with g1 | ⟨g1, g2⟩ | ⟨g1, g2, g3⟩ | ⟨g1, g2, g3, g4⟩ | ⟨g1, g2, g3, g4, g5⟩
  all_goals
    go_enter Tryd.func4, Tryd.ntmps4
    go_wp2_with fail
    refine (kfst_any _).mono ?_
    rintro e w1 ⟨rfl, hb1⟩
    obtain ⟨x0, x1, x2, x3, x4, x5⟩ := (pk_up HK.out hb1).cs
    have HB1 := Lib.hid (HB.out.trans (hb1.mono HB.out.size))
    clear hb1
    go_wp2_with fail
    refine (kfst_any _).mono ?_
    rintro e w2 ⟨rfl, hb2⟩
    have HB2 := Lib.hid (HB1.out.trans (hb2.mono HB1.out.size))
    clear hb2
    go_wp2_with fail
    go_ret
    exact ⟨rfl, HB2.out⟩
end Go.Proofs.YtonkfekjhbfelaaDoor
