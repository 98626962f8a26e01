/- JSON: what is read, plainly. -/
import Derived.Test.YtidlhajibjnkeaaGreatDoorJBase
import Derived.Test.YtidlhajibjnkeaaGreatDoorUnquote
namespace Go.Proofs.YtidlhajibjnkeaaGreatDoor
open Go.RowKit

/-- What is read: a value and the place behind it, or an error. -/
inductive JR (α : Type) where
  | ok (v : α) (p : Nat)
  | err (e : Nat)
def isBl (c : UInt8) : Bool := c == 32 || c == 9 || c == 10 || c == 13
def dgJ (c : UInt8) : Bool := decide (48 ≤ c.toNat) && decide (c.toNat ≤ 57)
def blk : List UInt8 → Nat
  | [] => 0
  | c :: t => if isBl c = true then blk t + 1 else 0
/-- The place of the next byte that is no blank. -/
def skp (b : List UInt8) (p : Nat) : Nat := p + blk (b.drop p)
theorem blk_le : ∀ l : List UInt8, blk l ≤ l.length
  | [] => Nat.le_refl _
  | c :: t => by
    unfold blk
    split
    · have := blk_le t; simp; omega
    · simp
theorem skp_le (b : List UInt8) {p : Nat} (hp : p ≤ b.length) : skp b p ≤ b.length := by
  unfold skp
  have := blk_le (b.drop p)
  rw [List.length_drop] at this; omega
theorem skp_ge (b : List UInt8) (p : Nat) : p ≤ skp b p := Nat.le_add_right _ _
theorem skp_bl {b : List UInt8} {p : Nat} {c : UInt8} (h : b[p]? = some c) (hc : isBl c = true) : skp b p = skp b (p + 1) := by
  have hp := (List.getElem?_eq_some_iff.1 h).1
  have he := (List.getElem?_eq_some_iff.1 h).2
  unfold skp
  rw [List.drop_eq_getElem_cons hp, he]
  simp only [blk, hc, if_true]; omega
theorem skp_no {b : List UInt8} {p : Nat} {c : UInt8} (h : b[p]? = some c) (hc : isBl c = false) : skp b p = p := by
  have hp := (List.getElem?_eq_some_iff.1 h).1
  have he := (List.getElem?_eq_some_iff.1 h).2
  unfold skp
  rw [List.drop_eq_getElem_cons hp, he]
  simp only [blk, hc]; simp
theorem skp_end (b : List UInt8) : skp b b.length = b.length := by unfold skp; simp [blk]
/-- A word that has to stand there: what went wrong. -/
def wrdP (b : List UInt8) : List UInt8 → Nat → Nat
  | [], _ => 0
  | c :: t, p => match b[p]? with
    | none => 2
    | some d => if d = c then wrdP b t (p + 1) else 4
/-- The digits' number, no longer told once it is too great. -/
def capF : List UInt8 → Nat → Nat
  | [], n => n
  | c :: t, n => capF t (if n ≤ 9007199254740991 then 10 * n + (c.toNat - 48) else n)
def dgs : List UInt8 → List UInt8
  | [] => []
  | c :: t => if dgJ c = true then c :: dgs t else []
/-- A whole number behind its sign. -/
def digP (b : List UInt8) (sg : Int) (p : Nat) : JR Int :=
  if p = b.length then .err 2
  else if (dgs (b.drop p)).length = 0 ∨ (b[p]? = some 48 ∧ 1 < (dgs (b.drop p)).length) then .err 4
  else if (∃ c, b[p + (dgs (b.drop p)).length]? = some c ∧ (c = 46 ∨ c = 101 ∨ c = 69)) then .err 4
  else if 9007199254740991 < capF (dgs (b.drop p)) 0 then .err 1
  else .ok (sg * (capF (dgs (b.drop p)) 0 : Int)) (p + (dgs (b.drop p)).length)
def numP (b : List UInt8) (p : Nat) : JR Int := if b[p]? = some 45 then digP b (-1) (p + 1) else digP b 1 p
/-- A text. -/
def txtP (b : List UInt8) (p : Nat) : JR (List UInt8) :=
  if (unqR b p).2.2 ≠ 0 then .err (unqR b p).2.2 else if 8000 < (unqR b p).1.length then .err 3 else .ok (unqR b p).1 (unqR b p).2.1
/-- The byte that opens a list or an object at p: does the one that ends it follow at once? -/
def entP (b : List UInt8) (c : UInt8) (p : Nat) : JR Bool :=
  match b[skp b (p + 1)]? with
  | none => .err 2
  | some d => if d = c then .ok true (skp b (p + 1) + 1) else .ok false (skp b (p + 1))
/-- What stands behind a part: was it the end? -/
def behP (b : List UInt8) (c : UInt8) (p : Nat) : JR Bool :=
  match b[skp b p]? with
  | none => .err 2
  | some d => if d = c then .ok true (skp b p + 1) else if d = 44 then .ok false (skp b p + 1) else .err 4
/-- Parts of a list. -/
def itsP (f : Nat → JR JV) (b : List UInt8) : Nat → Nat → List JV → JR (List JV)
  | 0, _, _ => .err 0
  | n + 1, p, acc => match f p with
    | .err e => .err e
    | .ok v q => match behP b 93 q with
      | .err e => .err e
      | .ok true r => .ok (acc ++ [v]) r
      | .ok false r => itsP f b n r (acc ++ [v])
def lstP (f : Nat → JR JV) (b : List UInt8) (p : Nat) : JR (List JV) :=
  match entP b 93 p with
  | .err e => .err e
  | .ok true q => .ok [] q
  | .ok false q => itsP f b (b.length + 1) q []
/-- A member, behind members of these names. -/
def memP (f : Nat → JR JV) (b : List UInt8) (ns : List (List UInt8)) (p : Nat) : JR MemT :=
  if skp b p = b.length then .err 2 else
  match txtP b (skp b p) with
  | .err e => .err e
  | .ok name q => if name ∈ ns then .err 4 else
    match b[skp b q]? with
    | none => .err 2
    | some d => if d ≠ 58 then .err 4 else
      match f (skp b q + 1) with
      | .err e => .err e
      | .ok v r => .ok (name, v) r
def mesP (f : Nat → JR JV) (b : List UInt8) : Nat → Nat → List MemT → JR (List MemT)
  | 0, _, _ => .err 0
  | n + 1, p, acc => match memP f b (acc.map (fun m => m.1)) p with
    | .err e => .err e
    | .ok m q => match behP b 125 q with
      | .err e => .err e
      | .ok true r => .ok (acc ++ [m]) r
      | .ok false r => mesP f b n r (acc ++ [m])
/-- Members by rising names. -/
def srtM (l : List MemT) : List MemT := l.mergeSort (fun a b => !Op.bytesLess b.1 a.1)
def objP (f : Nat → JR JV) (b : List UInt8) (p : Nat) : JR (List MemT) :=
  match entP b 125 p with
  | .err e => .err e
  | .ok true q => .ok [] q
  | .ok false q => match mesP f b (b.length + 1) q [] with
    | .err e => .err e
    | .ok l r => .ok (srtM l) r
/-- A byte that begins a value. -/
def stB (c : UInt8) : Bool := c ∈ ([91, 123, 34, 45, 48, 49, 50, 51, 52, 53, 54, 55, 56, 57, 116, 102, 110] : List UInt8)
def lstV : JR (List JV) → JR JV
  | .err e => .err e
  | .ok l q => .ok (.mk 6 0 [] l []) q
def objV : JR (List MemT) → JR JV
  | .err e => .err e
  | .ok l q => .ok (.mk 7 0 [] [] l) q
def txtV : JR (List UInt8) → JR JV
  | .err e => .err e
  | .ok s q => .ok (.mk 5 0 s [] []) q
def numV : JR Int → JR JV
  | .err e => .err e
  | .ok n q => .ok (.mk 4 n [] [] []) q
/-- A value whose first byte is c, at p. -/
def casP (lst : Nat → JR (List JV)) (obj : Nat → JR (List MemT)) (b : List UInt8) (c : UInt8) (p : Nat) : JR JV :=
  if c = 91 then lstV (lst p)
  else if c = 123 then objV (obj p)
  else if c = 34 then txtV (txtP b p)
  else if c = 45 ∨ dgJ c = true then numV (numP b p)
  else if c = 116 then (if wrdP b [116, 114, 117, 101] p = 0 then .ok (.mk 3 0 [] [] []) (p + 4) else .err (wrdP b [116, 114, 117, 101] p))
  else if c = 102 then (if wrdP b [102, 97, 108, 115, 101] p = 0 then .ok (.mk 2 0 [] [] []) (p + 5) else .err (wrdP b [102, 97, 108, 115, 101] p))
  else if c = 110 then (if wrdP b [110, 117, 108, 108] p = 0 then .ok (.mk 1 0 [] [] []) (p + 4) else .err (wrdP b [110, 117, 108, 108] p))
  else .err 4
/-- A value, where d lists and objects more may be open. -/
def valP (b : List UInt8) : Nat → Nat → JR JV
  | 0, p => match b[skp b p]? with
    | none => .err 2
    | some c => if stB c = true then .err 10 else .err 4
  | d + 1, p => match b[skp b p]? with
    | none => .err 2
    | some c => casP (lstP (valP b d) b) (objP (valP b d) b) b c (skp b p)
/-- A whole text. -/
def parP (b : List UInt8) : JR JV :=
  if 20000 < b.length then .err 3 else
  match valP b 64 0 with
  | .err e => .err e
  | .ok v q => if skp b q < b.length then .err 4 else .ok v b.length
end Go.Proofs.YtidlhajibjnkeaaGreatDoor
