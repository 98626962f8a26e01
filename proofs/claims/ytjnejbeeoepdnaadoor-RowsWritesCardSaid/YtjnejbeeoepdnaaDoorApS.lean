/- append(b, s...), in a seat without the reader of texts. -/
import Derived.Test.YtjnejbeeoepdnaaDoorSignAt
import Derived.Lib.AppendStr
namespace Go.Proofs.YtjnejbeeoepdnaaDoor
open Go.RowKit

theorem strCells_map (l : List UInt8) : Lib.strCells ⟨l.toArray⟩ = l.map bv := by
  simp [Lib.strCells, bv]
section
variable {P : Program} {T U E : TypeId} {ops : Array Oper} {rest : List Oper} {o : Oper} {a : Act} {Q : Exit → Act → World → Prop} {w : World}
/-- 'append(b, s...)', s a string. -/
theorem BT.appendStr (B : BT P T E) (hU : P.underlying U = some .string) (hgd : o.guard = none) (s x : Operand) (ho : o.op = .call { callee := .builtin .append, args := #[s, x], argTypes := #[T, U] })
    (base : Nat) (v : Value) (l m : List UInt8) (hown : Own E w base v l) (hs : a.eval s = v) (hx : a.eval x = str m) (hlen : l.length + m.length ≤ 140737488355328) (hbase : base ≤ w.heap.size)
    (h : ∀ v' w', Own E w' base v' (l ++ m) → w.grownBy w' v.ownBlock → wpList P ops Q rest (a.put o.dst v') w') :
    wpList P ops Q (o :: rest) a w := by
  obtain ⟨i, hi, h1, h2, h3⟩ := info_parts B.info
  refine Lib.wpList_append_own_string w hgd s x T U ho base E i B.t hU hi h1 h2 h3 v l.length (l.map bv) hs hown ⟨m.toArray⟩ hx (by unfold maxLen; simp [ByteArray.size]; omega) (by simpa [ByteArray.size] using hlen) hbase ?_
  intro v' w' h1 h2 _
  refine h v' w' ?_ h2
  unfold Own
  rw [strCells_map] at h1
  simpa [ByteArray.size] using h1
end
end Go.Proofs.YtjnejbeeoepdnaaDoor
