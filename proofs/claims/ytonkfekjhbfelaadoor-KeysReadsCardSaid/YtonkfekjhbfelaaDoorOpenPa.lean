/- Parts that came in, opened: no condition. -/
import Derived.Test.YtonkfekjhbfelaaDoorOpen
import Derived.Test.YtonkfekjhbfelaaDoorKApart
import Derived.Lib.SmallJoins
namespace Go.Proofs.YtonkfekjhbfelaaDoor
open Go.ChangeShapes Go.WideShapes Go.ChangeAt Go.RowKit Go.Deep

theorem array6 {α : Type} {cs : Array α} (h : cs.size = 6) : ∃ c0 c1 c2 c3 c4 c5, cs = #[c0, c1, c2, c3, c4, c5] := by
  obtain ⟨l⟩ := cs
  match l, h with
  | [c0, c1, c2, c3, c4, c5], _ => exact ⟨c0, c1, c2, c3, c4, c5, rfl⟩
/-- The type is a struct of an integer, four strings, an integer. -/
structure PaType (P : Program) (T : TypeId) (n0 n1 n2 n3 n4 n5 : Field) : Prop where
  s : P.underlying T = some (.struct #[n0, n1, n2, n3, n4, n5])
  c : P.cellsOf T = 6
  o : n0.offset = 0 ∧ n1.offset = 1 ∧ n2.offset = 2 ∧ n3.offset = 3 ∧ n4.offset = 4 ∧ n5.offset = 5
  k : P.cellsOf n0.type = 1 ∧ P.cellsOf n1.type = 1 ∧ P.cellsOf n2.type = 1 ∧ P.cellsOf n3.type = 1 ∧ P.cellsOf n4.type = 1 ∧ P.cellsOf n5.type = 1
  u0 : P.underlying n0.type = some (.int .i64)
  u1 : P.underlying n1.type = some .string
  u2 : P.underlying n2.type = some .string
  u3 : P.underlying n3.type = some .string
  u4 : P.underlying n4.type = some .string
  u5 : P.underlying n5.type = some (.int .i64)
theorem str_of_len {s : ByteArray} (w0 : s.size ≤ maxLen) : s.data.toList.length ≤ 9223372036854775807 := by
  have e : s.data.toList.length = s.size := by cases s; rfl
  rw [e]; unfold maxLen at w0; exact w0
theorem pa_open {H : Type} {enc : TypeId × Value → H} {P : Program} {W : World} {base : Nat} {T : TypeId} {n0 n1 n2 n3 n4 n5 : Field} {v : Value} {d : DataW H} {p : List MemPlace} (K : PaType P T n0 n1 n2 n3 n4 n5)
    (hv : Value.okWide P W .any base T v) (h : DataW.Trod enc P W 0 (fun _ => true) true T v d p) : ∃ q : Pa, v = pa q ∧ LenOk q := by
  obtain ⟨cs, rfl, hsz⟩ := okWide_struct K.s hv
  obtain ⟨c0, c1, c2, c3, c4, c5, rfl⟩ := array6 (hsz.trans K.c)
  obtain ⟨fuel, hf⟩ := h
  obtain ⟨xs, n, _, _, hl, hlen, hx⟩ := DataW.trod_struct K.s hf
  obtain ⟨o0, o1, o2, o3, o4, o5⟩ := K.o
  obtain ⟨k0, k1, k2, k3, k4, k5⟩ := K.k
  match xs, hlen with
  | [y0, y1, y2, y3, y4, y5], _ =>
    have h0 := hx 0 n0 rfl
    have h1 := hx 1 n1 rfl
    have h2 := hx 2 n2 rfl
    have h3 := hx 3 n3 rfl
    have h4 := hx 4 n4 rfl
    have h5 := hx 5 n5 rfl
    simp only [o0, o1, o2, o3, o4, o5, k0, k1, k2, k3, k4, k5, Value.cells, List.drop_succ_cons, List.drop_zero, List.take_succ_cons, List.take_zero] at h0 h1 h2 h3 h4 h5
    obtain ⟨i0, e0, _, w0⟩ := DataW.trod_int K.u0 h0
    obtain ⟨s1, e1, _, w1⟩ := DataW.trod_string K.u1 h1
    obtain ⟨s2, e2, _, w2⟩ := DataW.trod_string K.u2 h2
    obtain ⟨s3, e3, _, w3⟩ := DataW.trod_string K.u3 h3
    obtain ⟨s4, e4, _, w4⟩ := DataW.trod_string K.u4 h4
    obtain ⟨i5, e5, _, w5⟩ := DataW.trod_int K.u5 h5
    simp only [List.cons.injEq, and_true] at e0 e1 e2 e3 e4 e5
    subst e0 e1 e2 e3 e4 e5
    refine ⟨⟨i0, s1.data.toList, s2.data.toList, s3.data.toList, s4.data.toList, i5⟩, rfl, str_of_len w1, str_of_len w2, str_of_len w3, str_of_len w4, (wf_i64 w5).1, (wf_i64 w5).2⟩
end Go.Proofs.YtonkfekjhbfelaaDoor
