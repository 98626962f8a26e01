/- JSON: what may be, what is printed: plain words. -/
import Derived.Test.YtjnejbeeoepdnaaDoorJBase
import Derived.Test.YtjnejbeeoepdnaaDoorQuote
import Derived.Lib.ItoaNum
import Derived.Lib.AppendStr
namespace Go.Proofs.YtjnejbeeoepdnaaDoor
open Go.RowKit

theorem strCells_map (l : List UInt8) : Lib.strCells ⟨l.toArray⟩ = l.map bv := by
  simp [Lib.strCells, bv]
theorem Own.form {E : TypeId} {w : World} {base : Nat} {v : Value} {l : List UInt8} (h : Own E w base v l) : ∃ a n cap, v = .slice a n cap := by
  obtain ⟨a, cap, hv, _⟩ := h.rd
  exact ⟨a, _, cap, hv⟩

def txF (s : List UInt8) : Bool := decide (s.length ≤ 8000) && validB s
def fitV (k n : Int) (s : List UInt8) (l m : Nat) : Bool :=
  (decide (k = 4) || decide (n = 0)) && decide (-9007199254740991 ≤ n) && decide (n ≤ 9007199254740991) && (decide (k = 5) || decide (s = [])) && txF s && (decide (k = 6) || decide (l = 0)) && (decide (k = 7) || decide (m = 0))
def aftB (p : Option (List UInt8)) (nm : List UInt8) : Bool := match p with
  | none => true
  | some q => Op.bytesLess q nm
mutual
/-- May a value be, where so many may be open? -/
def mayV : JV → Nat → Bool
  | .mk k n s l m, d => decide (0 < d) && decide (1 ≤ k) && decide (k ≤ 7) && fitV k n s l.length m.length && mayL l (d - 1) && mayM m none (d - 1)
def mayL : List JV → Nat → Bool
  | [], _ => true
  | v :: t, d => mayV v d && mayL t d
def mayM : List (List UInt8 × JV) → Option (List UInt8) → Nat → Bool
  | [], _, _ => true
  | (nm, v) :: t, p, d => aftB p nm && txF nm && mayV v d && mayM t (some nm) d
end
def quo (s : List UInt8) : List UInt8 := 34 :: qbL s ++ [34]
mutual
/-- A value's text. -/
def prV : JV → List UInt8
  | .mk k n s l m => if k = 1 then [110, 117, 108, 108] else if k = 2 then [102, 97, 108, 115, 101] else if k = 3 then [116, 114, 117, 101] else if k = 4 then Lib.itoa n else if k = 5 then quo s else if k = 6 then 91 :: ((prT l).drop 1 ++ [93]) else 123 :: ((prU m).drop 1 ++ [125])
/-- Parts, each behind a comma. -/
def prT : List JV → List UInt8
  | [] => []
  | v :: t => 44 :: (prV v ++ prT t)
def prU : List (List UInt8 × JV) → List UInt8
  | [] => []
  | (nm, v) :: t => 44 :: (quo nm ++ 58 :: (prV v ++ prU t))
end
/-- Values, part by part. -/
theorem JV.ind {P : JV → Prop} (h : ∀ v : JV, (∀ x ∈ v.l, P x) → (∀ x ∈ v.m, P x.2) → P v) : ∀ v, P v := by
  intro v
  have key : ∀ n : Nat, ∀ v : JV, SizeOf.sizeOf v ≤ n → P v := by
    intro n
    induction n with
    | zero => intro v hv; cases v; simp at hv
    | succ n ih =>
      intro v hv
      refine h v (fun x hx => ih x ?_) (fun x hx => ih x.2 ?_)
      · cases v with
        | mk k m s l o =>
          have := List.sizeOf_lt_of_mem (show x ∈ l from hx)
          simp at hv
          omega
      · cases v with
        | mk k m s l o =>
          have := List.sizeOf_lt_of_mem (show x ∈ o from hx)
          obtain ⟨a, b⟩ := x
          simp at hv this
          show SizeOf.sizeOf b ≤ n
          omega
  exact key _ v (Nat.le_refl _)
end Go.Proofs.YtjnejbeeoepdnaaDoor
