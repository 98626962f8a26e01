/- diff.copyOf[string], diff.Of[string]. -/
import Derived.Test.YteibiaplmmdppaaOfSS
import Derived.Test.YteibiaplmmdppaaCopySS
namespace Go.Proofs.Yteibiaplmmdppaa
open Go.RowKit

/-- A map, or none. -/
def MOSS (w : World) (v : Value) (t : Tr) : Prop := (∃ b, v = .pointer (some ⟨b, 0, none⟩) ∧ MP w b t) ∨ (v = .pointer none ∧ t = .nil)
theorem MOSS.below {w w' : World} {v : Value} {t : Tr} (h : MOSS w v t) (hb : Below w.heap.size w w') : MOSS w' v t := by
  rcases h with ⟨b, e, h⟩ | h
  · exact .inl ⟨b, e, h.below hb⟩
  · exact .inr h
theorem copyOfSS_any (v : Value) (t : Tr) (w : World) (h : MOSS w v t) : Calls Try.prog 32 #[v] w fun e w' => ∃ c, e = .returned (.pointer (some ⟨c, 0, none⟩)) ∧ w.heap.size ≤ c ∧ MP w' c t ∧ Below w.heap.size w w' := by
  rcases h with ⟨b, rfl, h⟩ | ⟨rfl, rfl⟩
  · have C := Lib.hid (copySS_any b t w h)
    clear h
    go_enter Try.func32, Try.ntmps32
    go_wp2_with fail
    refine C.out.mono ?_
    rintro e w1 ⟨c, rfl, hc, hm, hb⟩
    have HC := Lib.hid (And.intro hc (And.intro hm hb))
    clear hc hm hb
    go_wp2_with fail
    go_ret
    exact ⟨c, rfl, by rw [HC.out.1]; exact Nat.le_refl _, HC.out.2.1, HC.out.2.2⟩
  · have C := Lib.hid (newSS_any w)
    go_enter Try.func32, Try.ntmps32
    go_wp2_with fail
    refine C.out.mono ?_
    rintro e w1 ⟨c, rfl, hc, hm, hb⟩
    have HC := Lib.hid (And.intro hc (And.intro hm hb))
    clear hc hm hb
    go_wp2_with fail
    go_ret
    exact ⟨c, rfl, by rw [HC.out.1]; exact Nat.le_refl _, HC.out.2.1, HC.out.2.2⟩
/-- What Of tells. -/
def OfESS (w : World) (ta tb : Tr) (e : Ending) (w' : World) : Prop :=
  ∃ ba bb b1 b2, e = .returned (.func (.func 33) #[] #[.pointer (some ⟨ba, 0, none⟩), .pointer (some ⟨bb, 0, none⟩)]) ∧ MP w' b1 ta ∧ MP w' b2 tb ∧ w'.cell? ⟨ba, 0, none⟩ = some (.pointer (some ⟨b1, 0, none⟩)) ∧ w'.cell? ⟨bb, 0, none⟩ = some (.pointer (some ⟨b2, 0, none⟩)) ∧ Below w.heap.size w w'
theorem ofSS_any (va vb : Value) (ta tb : Tr) (w : World) (ha : MOSS w va ta) (hb : MOSS w vb tb) : Calls Try.prog 13 #[va, vb] w (OfESS w ta tb) := by
  have C1 := Lib.hid (copyOfSS_any va ta w ha)
  have HB := Lib.hid hb
  clear ha hb
  go_enter Try.func13, Try.ntmps13
  go_wp2_with fail
  refine C1.out.mono ?_
  rintro e w1 ⟨c1, rfl, _, hm1, hb1⟩
  have C2 := Lib.hid (copyOfSS_any vb tb w1 (HB.out.below hb1))
  have H1 := Lib.hid (And.intro hm1 hb1)
  clear hm1 hb1 C1 HB
  go_wp2_with fail
  refine C2.out.mono ?_
  rintro e w2 ⟨c2, rfl, _, hm2, hb2⟩
  have H2 := Lib.hid (And.intro (H1.out.1.below hb2) (And.intro hm2 (H1.out.2.trans (hb2.mono H1.out.2.size))))
  clear hm2 hb2 C2 H1
  go_wp2_with fail
  go_ret
  obtain ⟨h1, h2, h3⟩ := H2.out
  have l1 := below_alloc w2 (.cells #[.pointer (some ⟨c1, 0, none⟩)] 25)
  have l2 := below_alloc (w2.alloc (.cells #[.pointer (some ⟨c1, 0, none⟩)] 25)) (.cells #[.pointer (some ⟨c2, 0, none⟩)] 25)
  have l3 := l1.trans (l2.mono l1.size)
  refine ⟨w2.heap.size, w2.heap.size + 1, c1, c2, rfl, h1.below l3, h2.below l3, ((Boxed.new w2 _ _).alloc _).cell, ?_, h3.trans (l3.mono h3.size)⟩
  have := (Boxed.new (w2.alloc (.cells #[.pointer (some ⟨c1, 0, none⟩)] 25)) 25 (.pointer (some ⟨c2, 0, none⟩))).cell
  rw [World.size_alloc] at this
  exact this
end Go.Proofs.Yteibiaplmmdppaa
