/- A token that came in, opened: no condition. -/
import Derived.Test.YtfibplegbaanmaaDoorOpen
import Derived.Test.YtfibplegbaanmaaDoorToken
import Derived.Lib.SmallJoins
namespace Go.Proofs.YtfibplegbaanmaaDoor
open Go.ChangeShapes Go.WideShapes Go.ChangeAt Go.RowKit Go.Deep

/-- The type is a struct of a string, two integers, a string. -/
structure TokType (P : Program) (T : TypeId) (n0 n1 n2 n3 : Field) : Prop where
  s : P.underlying T = some (.struct #[n0, n1, n2, n3])
  one : oneCellFields P #[n0, n1, n2, n3] = true
  c : P.cellsOf T = 4
  u0 : P.underlying n0.type = some .string
  u1 : P.underlying n1.type = some (.int .i64)
  u2 : P.underlying n2.type = some (.int .i64)
  u3 : P.underlying n3.type = some .string
theorem tok_open {H : Type} {enc : TypeId × Value → H} {P : Program} {W : World} {base : Nat} {T : TypeId} {n0 n1 n2 n3 : Field} {v : Value} {d : DataW H} {p : List MemPlace} (K : TokType P T n0 n1 n2 n3)
    (hv : Value.okWide P W .any base T v) (h : DataW.Trod enc P W 0 (fun _ => true) true T v d p) :
    ∃ (u k : List UInt8) (f t : Int), v = tok u f t k ∧ u.length ≤ 9223372036854775807 ∧ k.length ≤ 9223372036854775807 ∧ (-9223372036854775808 ≤ f ∧ f ≤ 9223372036854775807) ∧ (-9223372036854775808 ≤ t ∧ t ≤ 9223372036854775807) := by
  obtain ⟨v0, v1, v2, v3, y0, y1, y2, y3, n, rfl, _, _, h0, h1, h2, h3⟩ := Go.Joins.open_agg4 K.s K.one K.c hv h
  obtain ⟨s0, e0, _, w0⟩ := DataW.trod_string K.u0 h0
  obtain ⟨i1, e1, _, w1⟩ := DataW.trod_int K.u1 h1
  obtain ⟨i2, e2, _, w2⟩ := DataW.trod_int K.u2 h2
  obtain ⟨s3, e3, _, w3⟩ := DataW.trod_string K.u3 h3
  simp only [List.cons.injEq, and_true] at e0 e1 e2 e3
  subst e0 e1 e2 e3
  have g0 : s0.data.toList.length ≤ 9223372036854775807 := by
    have e : s0.data.toList.length = s0.size := by cases s0; rfl
    rw [e]; unfold maxLen at w0; exact w0
  have g3 : s3.data.toList.length ≤ 9223372036854775807 := by
    have e : s3.data.toList.length = s3.size := by cases s3; rfl
    rw [e]; unfold maxLen at w3; exact w3
  exact ⟨s0.data.toList, s3.data.toList, i1, i2, by cases s0; cases s3; rfl, g0, g3, wf_i64 w1, wf_i64 w2⟩
end Go.Proofs.YtfibplegbaanmaaDoor
