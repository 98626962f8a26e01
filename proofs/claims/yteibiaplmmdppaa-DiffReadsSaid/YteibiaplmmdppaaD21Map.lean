/- hbllaw21.Map: pairs as a map. -/
import Derived.Test.YteibiaplmmdppaaTISS
import Derived.Test.YteibiaplmmdppaaRdV
import Derived.Test.YteibiaplmmdppaaMrgMath
import Derived.Test.YteibiaplmmdppaaRowsF
import Derived.Deep.RegionHeld3
namespace Go.Proofs.Yteibiaplmmdppaa
open Go.RowKit

/-- Pairs laid into a map, in order. -/
def mapV (l : List PairT) : List (Value × Value) := l.foldl (fun L p => insL (str p.1) (str p.2) L) []
theorem mapV_succ {l : List PairT} {k : Nat} (hlt : k < l.length) : mapV (l.take (k + 1)) = insL (str l[k].1) (str l[k].2) (mapV (l.take k)) := by
  unfold mapV
  rw [List.take_succ_eq_append_getElem hlt, List.foldl_append]
  rfl
/-- A map that holds just these. -/
def MapOf (W : World) (b : Nat) (l : List PairT) : Prop := ∃ t, TISS W b l.length t ∧ prs t = mapV l
theorem MapOf.below {W W' : World} {b : Nat} {l : List PairT} (h : MapOf W b l) (hb : Below W.heap.size W W') : MapOf W' b l := by
  obtain ⟨t, h1, h2⟩ := h
  exact ⟨t, h1.below hb, h2⟩
/-- Under way. -/
def MapAt (w W : World) (b k : Nat) (l : List PairT) : Prop := Below w.heap.size w W ∧ w.heap.size ≤ b ∧ ∃ t, TISS W b k t ∧ prs t = mapV (l.take k)
set_option maxRecDepth 100000 in
set_option maxHeartbeats 4000000 in
theorem map_any (v : Value) (l : List PairT) (W : World) (hv : RdP W v l) (hl : l.length ≤ 100000) :
    Calls Try.prog 10 #[v] W fun e w' => ∃ b, e = .returned (.pointer (some ⟨b, 0, none⟩)) ∧ W.heap.size ≤ b ∧ MapOf w' b l ∧ Below W.heap.size W w' := by
  obtain ⟨av, cv, rfl, _⟩ := hv.form
  have HV := Lib.hid hv
  clear hv
  go_enter Try.func10, Try.ntmps10
  go_wp2_with fail
  refine (newSS_any W).mono ?_
  rintro e w2 ⟨b, rfl, hb, hm2, hb2⟩
  have HB2 : Hid (MapAt W w2 b 0 l) := Lib.hid ⟨hb2, by rw [hb]; exact Nat.le_refl _, .nil, TISS.nil hm2, rfl⟩
  clear hb hm2 hb2
  go_wp2_with fail
  go_loopw [4] (fun i wr => ∃ k : Nat, k ≤ l.length ∧ i = .int .i64 (k : Int) ∧ Hid (MapAt W wr b k l)) (fun i _ => l.length - (intOf i).toNat)
  case atStart => exact ⟨0, Nat.zero_le _, rfl, HB2⟩
  case round =>
    obtain ⟨k, hk, rfl, HR⟩ := hrel
    by_cases hlt : k < l.length
    · have g3 : (k : Int) < (l.length : Int) := by omega
      have g4 : (0 : Int) ≤ (k : Int) := by omega
      obtain ⟨bA, oA, rfl, c0, c1⟩ := HV.out.get hlt
      obtain ⟨x, hx⟩ : ∃ x, x = l[k].1 := ⟨_, rfl⟩
      obtain ⟨y, hy⟩ : ∃ y, y = l[k].2 := ⟨_, rfl⟩
      have HS := mapV_succ hlt
      rw [← hx, ← hy] at HS
      replace HS := Lib.hid HS
      rw [← hx] at c0
      rw [← hy] at c1
      have hlA := World.block_lt_of_cell? W _ c0
      have d0 : wr.cell? ⟨bA, oA + k * 2, none⟩ = some (str x) := (HR.out.1.cell (p := ⟨bA, oA + k * 2, none⟩) hlA).trans c0
      have d1 : wr.cell? ⟨bA, oA + k * 2 + 1, none⟩ = some (str y) := (HR.out.1.cell (p := ⟨bA, oA + k * 2 + 1, none⟩) hlA).trans c1
      obtain ⟨W0, hW0⟩ : ∃ W0, W0 = wr.drew := ⟨_, rfl⟩
      obtain ⟨h1, h2, t, h3, h4⟩ := HR.out
      have hd : Below wr.heap.size wr W0 := by rw [hW0]; exact Below.drewsN (Below.refl _ _) 1
      have HW0 : Hid (Below W.heap.size W W0 ∧ W.heap.size ≤ b ∧ TISS W0 b k t ∧ prs t = mapV (l.take k)) := Lib.hid ⟨h1.trans (hd.mono h1.size), h2, h3.below hd, h4⟩
      have CP : Hid (Calls Try.prog 31 #[.pointer (some ⟨b, 0, none⟩), str x, str y] W0 (MapPost b (putT (str x) (str y) t) (newT (str x) t) W0)) :=
        Lib.hid (by
          obtain ⟨_, _, h2, _⟩ := HW0.out
          have := h2.ht
          have := h2.len
          exact mputSS_any b _ _ t W0 h2.mp ⟨_, rfl⟩ ⟨_, rfl⟩ h2.ws (by omega) (by omega))
      have HKEEP : Hid (∀ w', Below b W0 w' → w'.cell? ⟨bA, oA + k * 2, none⟩ = some (str x) ∧ w'.cell? ⟨bA, oA + k * 2 + 1, none⟩ = some (str y)) := Lib.hid (fun w' h => by
        have h3 : bA < W.heap.size := hlA
        have h4 := HW0.out.2.1
        rw [h.cell (p := ⟨bA, oA + k * 2, none⟩) (by show bA < b; omega), h.cell (p := ⟨bA, oA + k * 2 + 1, none⟩) (by show bA < b; omega), hW0]
        exact ⟨d0, d1⟩)
      rw [hW0] at CP HW0 HKEEP
      clear c0 c1 hx hy hlA HV HB2 HR hW0 hd h1 h2 h3 h4
      go_wp2_with fail
      go_region_held3 (fun w' => w'.cell? ⟨bA, oA + k * 2, none⟩ = some (str x) ∧ w'.cell? ⟨bA, oA + k * 2 + 1, none⟩ = some (str y))
        (first
          | (exact ⟨d0, d1⟩)
          | (exact HKEEP.out _ hb3)
          | go_keep)
        ((first
          | (go_at_call 31; refine CP.out.mono ?_; rintro e w3 ⟨rfl, hm3, ho3, hb3⟩)
          | fail))
      all_goals
        have HN : Hid (MapAt W w3 b (k + 1) l) := by
          obtain ⟨h1, h2, h3, h4⟩ := HW0.out
          obtain ⟨h5, h6⟩ := h3.put (v := str y) ⟨_, rfl⟩ ⟨_, rfl⟩ hm3
          exact Lib.hid ⟨h1.trans (hb3.mono h2), h2, _, h5, by rw [h6, h4, HS.out]⟩
        clear hm3 ho3 hb3
        go_wp2_with fail
        go_roundw
        case rel => exact ⟨k + 1, by omega, by go_num, HN⟩
        case measure => simp [intOf]; omega
    · obtain rfl : k = l.length := by omega
      have g3 : ¬ (l.length : Int) < (l.length : Int) := by omega
      clear HB2 HV
      go_wp2_with fail
      go_ret
      obtain ⟨h1, h2, t, h3, h4⟩ := HR.out
      exact ⟨b, rfl, h2, ⟨t, h3, by rw [h4, List.take_length]⟩, h1⟩
end Go.Proofs.Yteibiaplmmdppaa
