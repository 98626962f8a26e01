/- DiffBack: the numbers out of range, and all ways in the claim's order. -/
import Derived.Test.YteibiaplmmdppaaD21Back
namespace Go.Proofs.Yteibiaplmmdppaa
open Go.RowKit

set_option maxRecDepth 100000 in
set_option maxHeartbeats 4000000 in
theorem back_no (va vb : Value) (la lb : List PairT) (n : Int) (w : World) (ha : RdP w va la) (hb : RdP w vb lb) (hsa : ∀ p ∈ la, p.1.length ≤ 9223372036854775807 ∧ p.2.length ≤ 9223372036854775807) (hsb : ∀ p ∈ lb, p.1.length ≤ 9223372036854775807 ∧ p.2.length ≤ 9223372036854775807)
    (hn : n < 1 ∨ (¬ n < 1 ∧ 100 < n)) : Calls Try.prog 4 #[va, vb, .int .i64 n] w fun e w' => e = .returned (.bool true) ∧ Below w.heap.size w w' := by
  have F1 := Lib.hid (fun W (h : Below w.heap.size w W) => few_any va la W (RdF.below ha h (Nat.le_refl _)) hsa)
  have F2 := Lib.hid (fun W (h : Below w.heap.size w W) => few_any vb lb W (RdF.below hb h (Nat.le_refl _)) hsb)
  clear ha hb hsa hsb
  go_enter Try.func4, Try.ntmps4
  go_wp2_with fail
  refine (d21first_any w).mono ?_
  rintro e w1 ⟨rfl, hb1⟩
  have H1 := Lib.hid hb1
  clear hb1
  go_wp2_with fail
  refine (F1.out _ H1.out).mono ?_
  rintro e w2 ⟨bA, rfl, hA, hb2⟩
  have H2 := Lib.hid (H1.out.trans (hb2.mono H1.out.size))
  clear hb2 hA H1 F1
  cases bA with
  | false =>
    as_aux_lemma =>
      go_wp2_with fail
      refine (d21first_any _).mono ?_
      rintro e w3 ⟨rfl, hb3⟩
      go_wp2_with fail
      go_ret
      exact ⟨rfl, H2.out.trans (hb3.mono H2.out.size)⟩
  | true =>
  go_wp2_with fail
  refine (F2.out _ H2.out).mono ?_
  rintro e w3 ⟨bB, rfl, hB, hb3⟩
  have H3 := Lib.hid (H2.out.trans (hb3.mono H2.out.size))
  clear hb3 hB H2 F2
  cases bB with
  | false =>
    as_aux_lemma =>
      go_wp2_with fail
      refine (d21first_any _).mono ?_
      rintro e w4 ⟨rfl, hb4⟩
      go_wp2_with fail
      go_ret
      exact ⟨rfl, H3.out.trans (hb4.mono H3.out.size)⟩
  | true =>
  rcases hn with n1 | ⟨n1, n2⟩
  · go_wp2_with fail
    refine (d21first_any _).mono ?_
    rintro e w4 ⟨rfl, hb4⟩
    go_wp2_with fail
    go_ret
    exact ⟨rfl, H3.out.trans (hb4.mono H3.out.size)⟩
  · go_wp2_with fail
    refine (d21first_any _).mono ?_
    rintro e w4 ⟨rfl, hb4⟩
    go_wp2_with fail
    go_ret
    exact ⟨rfl, H3.out.trans (hb4.mono H3.out.size)⟩

theorem back_main (va : Value) (la : List PairT) (vb : Value) (lb : List PairT) (n : Int) (w : World) (ha : RdP w va la) (hsa : ∀ p ∈ la, p.1.length ≤ 9223372036854775807 ∧ p.2.length ≤ 9223372036854775807) (hb : RdP w vb lb) (hsb : ∀ p ∈ lb, p.1.length ≤ 9223372036854775807 ∧ p.2.length ≤ 9223372036854775807)
    (_hn : -9223372036854775808 ≤ n ∧ n ≤ 9223372036854775807) : Calls Try.prog 4 #[va, vb, .int .i64 n] w fun e w' => e = .returned (.bool true) ∧ Below w.heap.size w w' := by
  by_cases h1 : n < 1
  · exact back_no va vb la lb n w ha hb hsa hsb (.inl h1)
  by_cases h2 : 100 < n
  · exact back_no va vb la lb n w ha hb hsa hsb (.inr ⟨h1, h2⟩)
  have h := back_yes va vb la lb n.toNat w ha hb hsa hsb (by omega) (by omega)
  rwa [Int.toNat_of_nonneg (by omega)] at h
end Go.Proofs.Yteibiaplmmdppaa
