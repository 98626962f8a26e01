/- hbllaw11's operations: how they lie; few; put. -/
import Derived.Test.YtcgjiddiegepkaaV11StayM
namespace Go.Proofs.Ytcgjiddiegepkaa
open Go.RowKit

/-- An operation: its kind, its time, three texts. -/
structure Op11 where
  kind : Int
  at1 : Int
  key : List UInt8
  v : List UInt8
  hi : List UInt8
instance inhOp11 : Inhabited Op11 := ⟨⟨0, 0, [], [], []⟩⟩
def Op11.ok (o : Op11) : Prop := (-9223372036854775808 ≤ o.kind ∧ o.kind ≤ 9223372036854775807) ∧ (-9223372036854775808 ≤ o.at1 ∧ o.at1 ≤ 9223372036854775807) ∧ o.key.length ≤ 9223372036854775807 ∧ o.v.length ≤ 9223372036854775807 ∧ o.hi.length ≤ 9223372036854775807
def cells11 (o : Op11) : List Value := [.int .i64 o.kind, .int .i64 o.at1, str o.key, str o.v, str o.hi]
abbrev enc11 (o : Op11) : Value := .agg #[.int .i64 o.kind, .int .i64 o.at1, str o.key, str o.v, str o.hi]
def Rd11 (w : World) (v : Value) (l : List Op11) : Prop := RdF 5 w v (l.map cells11)
theorem Rd11.up {w w' : World} {v : Value} {l : List Op11} (h : Rd11 w v l) (hb : Below w.heap.size w w') : Rd11 w' v l := RdF.below h hb (Nat.le_refl _)
theorem Rd11.form {w : World} {v : Value} {l : List Op11} (h : Rd11 w v l) : ∃ a cap, v = .slice a l.length cap ∧ l.length ≤ 9223372036854775807 := by
  obtain ⟨a, cap, hv, h1, _⟩ := h
  rw [List.length_map] at hv h1
  exact ⟨a, cap, hv, h1⟩
theorem Rd11.get {w : World} {a : Option Addr} {n cap : Nat} {l : List Op11} (h : Rd11 w (.slice a n cap) l) {i : Nat} (hi : i < l.length) : ∃ b off, a = some ⟨b, off, none⟩ ∧ w.cell? ⟨b, off + i * 5, none⟩ = some (.int .i64 l[i].kind) ∧ w.cell? ⟨b, off + i * 5 + 1, none⟩ = some (.int .i64 l[i].at1) ∧ w.cell? ⟨b, off + i * 5 + 2, none⟩ = some (str l[i].key) ∧ w.cell? ⟨b, off + i * 5 + 3, none⟩ = some (str l[i].v) ∧ w.cell? ⟨b, off + i * 5 + 4, none⟩ = some (str l[i].hi) := by
  obtain ⟨a', c', he, _, _, _, h4⟩ := h
  simp only [Value.slice.injEq] at he
  obtain ⟨rfl, _, rfl⟩ := he
  obtain ⟨b, off, ha, hc⟩ := h4 (by intro e; rw [List.map_eq_nil_iff] at e; rw [e] at hi; simp at hi)
  have hi' : i < (l.map cells11).length := by simpa using hi
  exact ⟨b, off, ha, hc i hi' 0 _ (by simp [cells11]), hc i hi' 1 _ (by simp [cells11]), hc i hi' 2 _ (by simp [cells11]), hc i hi' 3 _ (by simp [cells11]), hc i hi' 4 _ (by simp [cells11])⟩
end Go.Proofs.Ytcgjiddiegepkaa
