/- Layer 5: appendDigits, Print. -/
import Derived.Test.YtnaafdennieedaaDDays
import Derived.Test.YtnaafdennieedaaMath
namespace Go.Proofs.Ytnaafdennieedaa
open Go.RowKit

theorem digL_snoc (n k : Nat) : digL n (k + 1) = digL (n / 10) k ++ [db n 0] := by
  unfold digL
  rw [List.range_succ, List.map_append]
  congr 1
  · apply List.map_congr_left
    intro j hj
    have hj' : j < k := by simpa using hj
    unfold db
    rw [Nat.div_div_eq_div_mul, show k + 1 - 1 - j = k - 1 - j + 1 by omega, Nat.pow_succ, Nat.mul_comm]
  · simp
/-- What appendDigits leaves. -/
def ADPost (base : Nat) (w : World) (l : List UInt8) (e : Ending) (w' : World) : Prop := ∃ v', e = .returned v' ∧ Own 5 w' base v' l ∧ Below base w w' ∧ w.heap.size ≤ w'.heap.size
theorem ad_any : ∀ (k : Nat) (v : Value) (l : List UInt8) (n : Nat) (x : Int) (w : World) (base : Nat), Own 5 w base v l → base ≤ w.heap.size → l.length ≤ 100 → k ≤ 4 → x = (k : Int) + 1 → n ≤ 9999 →
    Calls Try.prog 39 #[v, .int .i64 (n : Int), .int .i64 x] w (ADPost base w (l ++ digL n (k + 1)))
  | 0, v, l, n, x, w, base, hown, hbase, hl, hk, hx, hn => by
    subst hx
    have e : digL n (0 + 1) = [db n 0] := by rw [digL_snoc]; rfl
    have hb0 : (48 + (n : Int) % 10) = ((db n 0).toNat : Int) := by rw [db_toNat]; omega
    have HB0 := Lib.hid hb0
    rw [e]
    clear hb0 e
    go_enter Try.func39, Try.ntmps39
    go_wp2_with (at_builtin; refine hold ?_)
    intro _
    refine bt.append1 rfl _ _ rfl base v l (db n 0) _ ?_ hown rfl rfl (by omega) hbase ?_
    · have := HB0.out; omega
    intro v' w2 hown2 hg2
    have hb2 := hown.grows hg2 (Nat.le_refl _) hbase
    have hs := hg2.size
    go_wp2_with fail
    go_ret
    exact ⟨v', rfl, hown2, hb2, hs⟩
  | k + 1, v, l, n, x, w, base, hown, hbase, hl, hk, hx, hn => by
    subst hx
    have e : digL n (k + 1 + 1) = digL (n / 10) (k + 1) ++ [db n 0] := digL_snoc n (k + 1)
    have hb0 : (48 + (n : Int) % 10) = ((db n 0).toNat : Int) := by rw [db_toNat]; omega
    have HB0 := Lib.hid hb0
    have n1 : (1 : Int) < ((k + 1 : Nat) : Int) + 1 := by omega
    have hlen : (digL (n / 10) (k + 1)).length = k + 1 := digL_length _ _
    have HL := Lib.hid hlen
    have IH := Lib.hid (fun W h1 h2 => ad_any k v l (n / 10) ((k : Int) + 1) W base h1 h2 hl (by omega) rfl (by omega))
    obtain ⟨D, hD⟩ : ∃ D, D = digL (n / 10) (k + 1) := ⟨_, rfl⟩
    rw [← hD] at IH e HL
    rw [e, ← List.append_assoc]
    clear hb0 e hD hlen
    have e3 : ((k + 1 : Nat) : Int) = (k : Int) + 1 := by omega
    rw [e3] at n1
    rw [e3]
    have e4 : ((n / 10 : Nat) : Int) = (n : Int) / 10 := by omega
    rw [e4] at IH
    clear e3 e4
    go_enter Try.func39, Try.ntmps39
    go_wp2_with fail
    refine (IH.out _ hown hbase).mono ?_
    rintro e w1 ⟨v1, rfl, hown1, hb1, hs1⟩
    have hbase1 : base ≤ w1.heap.size := Nat.le_trans hbase hs1
    go_wp2_with (at_builtin; refine hold ?_)
    intro _
    refine bt.append1 rfl _ _ rfl base v1 (l ++ D) (db n 0) _ ?_ hown1 rfl rfl ?_ hbase1 ?_
    · have := HB0.out; omega
    · have := HL.out; rw [List.length_append]; omega
    intro v' w2 hown2 hg2
    have hb2 := hown1.grows hg2 (Nat.le_refl _) hbase1
    have hs := hg2.size
    go_wp2_with fail
    go_ret
    exact ⟨v', rfl, hown2, hb1.trans hb2, Nat.le_trans hs1 hs⟩
end Go.Proofs.Ytnaafdennieedaa
