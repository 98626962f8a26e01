/- A step's append of a string; an owned slice's form. -/
import Derived.Test.YtfibplegbaanmaaDoorToken
import Derived.Deep.RegionLaw
import Derived.Deep.RegionHeld3
namespace Go.Proofs.YtfibplegbaanmaaDoor
open Go.RowKit
theorem Own.form {E : TypeId} {w : World} {base : Nat} {v : Value} {l : List UInt8} (h : Own E w base v l) : ∃ a n c, v = .slice a n c := by
  obtain ⟨a, cap, hv, _⟩ := h.rd
  exact ⟨a, _, cap, hv⟩
section
variable {P : Program} {T U E : TypeId} {ops : Array Oper} {rest : List Oper} {o : Oper} {a : Act} {Q : Exit → Act → World → Prop} {w : World}
theorem BT.stepAppendStr {K : Act → World → Prop} {N : Prop} (B : BT P T E) (hU : P.underlying U = some .string) (hgd : o.guard = none) (s x : Operand) (ho : o.op = .call { callee := .builtin .append, args := #[s, x], argTypes := #[T, U] })
    (base : Nat) (v : Value) (l m : List UInt8) (hs : a.eval s = v) (hown : Own E w base v l) (hx : a.eval x = str m) (hlen : l.length + m.length ≤ 140737488355328) (hbase : base ≤ w.heap.size)
    (h : ∀ ad n cp w', Own E w' base (.slice ad n cp) (l ++ m) → w.grownBy w' v.ownBlock → K (a.put o.dst (.slice ad n cp)) w') :
    if Region.wanted o (yielded ops a.tmps) = true then Oper.wp P o a w K Q else N := by
  have hw : Region.wanted o (yielded ops a.tmps) = true := by simp [Region.wanted, hgd]
  rw [if_pos hw]
  obtain ⟨i, hi, h1, h2, h3⟩ := info_parts B.info
  obtain ⟨v', w', hr, h4, h5, _⟩ := Lib.run_append_own_string (P := P) w base T U o.type E i B.t hU hi h1 h2 h3 v l.length (l.map bv) hown ⟨m.toArray⟩ (by unfold maxLen; simp [ByteArray.size]; omega) (by simpa [ByteArray.size] using hlen) hbase
  unfold Oper.wp execOp
  simp only [ho, resolve, invoke, builtin, Sem.run_bind, Sem.run_pure, Result.andThen_ok, List.map_toArray, List.map_cons, List.map_nil, hs, hx, hr]
  have ho : Own E w' base v' (l ++ m) := by
    unfold Own
    rw [strCells_map] at h4
    simpa [ByteArray.size] using h4
  obtain ⟨ad, n, cp, rfl⟩ := ho.form
  exact h ad n cp w' ho h5
end
theorem below_undrew' {B : Nat} {w w' : World} (h : Below B w w') : Below B w w'.drew := ⟨h.os, h.tape, h.output, h.size, h.block⟩
end Go.Proofs.YtfibplegbaanmaaDoor
