/- num.Digits and num.Var at every argument. -/
import Derived.Test.YtaelkgebnaeimaaFirst
import Derived.Test.YtaelkgebnaeimaaMath
namespace Go.Proofs.Ytaelkgebnaeimaa
open Go.RowKit

/-- What Digits tells: the digits, and that they are some. -/
def DigP (n wd : Int) (l : List UInt8) (ok : Bool) : Prop :=
  (ok = true ∧ 0 ≤ n ∧ 1 ≤ wd ∧ wd ≤ 18 ∧ n.toNat < 10 ^ wd.toNat ∧ l = digL n.toNat wd.toNat) ∨ (ok = false ∧ l = [])

def DigPost (n wd : Int) (w : World) (e : Ending) (w' : World) : Prop :=
  ∃ l ok, e = .returned (.tuple #[str l, .bool ok]) ∧ DigP n wd l ok ∧ Below w.heap.size w w'

theorem dig_all (n wd : Int) (w : World) (hn : n ≤ 9223372036854775807) : Calls Try.prog 16 #[.int .i64 n, .int .i64 wd] w (DigPost n wd w) := by
  by_cases h : n < 0 ∨ wd < 1 ∨ 18 < wd
  · refine (dig_bad n wd w h).mono ?_
    rintro e w' ⟨rfl, rfl⟩
    exact ⟨[], false, rfl, .inr ⟨rfl, rfl⟩, Below.refl _ _⟩
  · obtain ⟨m, rfl⟩ := Int.eq_ofNat_of_zero_le (show 0 ≤ n by omega)
    obtain ⟨k, rfl⟩ := Int.eq_ofNat_of_zero_le (show 0 ≤ wd by omega)
    refine (dig_any m k w (by omega) (by omega) (by omega)).mono ?_
    rintro e w' ⟨rfl, hb⟩
    by_cases hl : m < 10 ^ k
    · exact ⟨digL m k, true, by unfold digE; rw [if_pos hl, decide_eq_true hl], .inl ⟨rfl, by omega, by omega, by omega, hl, rfl⟩, hb⟩
    · exact ⟨[], false, by unfold digE; rw [if_neg hl, decide_eq_false hl], .inr ⟨rfl, rfl⟩, hb⟩

/-- What Var tells. -/
def VarP (n : Int) (l : List UInt8) (er : Int) : Prop :=
  (er = 0 ∧ 0 ≤ n ∧ n ≤ 72057594037927935 ∧ l = varL n.toNat) ∨ (er = 1 ∧ (n < 0 ∨ 72057594037927935 < n) ∧ l = [])
def VarPost (n : Int) (w : World) (e : Ending) (w' : World) : Prop :=
  ∃ v l er, e = .returned (.tuple #[v, .int .i64 er]) ∧ VarP n l er ∧ Own 5 w' w.heap.size v l ∧ Below w.heap.size w w'

theorem var_all (n : Int) (w : World) : Calls Try.prog 11 #[.int .i64 n] w (VarPost n w) := by
  by_cases h : n < 0 ∨ 72057594037927935 < n
  · refine (var_bad n w h).mono ?_
    rintro e w' ⟨rfl, rfl⟩
    exact ⟨_, [], 1, rfl, .inr ⟨rfl, h, rfl⟩, Own.nil _ _ _, Below.refl _ _⟩
  · obtain ⟨m, rfl⟩ := Int.eq_ofNat_of_zero_le (show 0 ≤ n by omega)
    refine (var_ok m w (by omega)).mono ?_
    rintro e w' ⟨v, rfl, ho, hb⟩
    exact ⟨v, _, 0, rfl, .inl ⟨rfl, by omega, by omega, rfl⟩, ho, hb⟩

theorem Own.len {E : TypeId} {w : World} {base : Nat} {v : Value} {l : List UInt8} (h : Own E w base v l) : ∃ a cap, v = .slice a l.length cap := by
  obtain ⟨a, cap, hv, _⟩ := h.rd
  exact ⟨a, cap, hv⟩
end Go.Proofs.Ytaelkgebnaeimaa
