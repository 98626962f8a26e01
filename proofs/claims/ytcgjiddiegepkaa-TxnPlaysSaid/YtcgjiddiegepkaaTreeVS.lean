/- Trees of omap[string,[]handbill/vers.Version[string]]: height, tie, join. -/
import Derived.Test.YtcgjiddiegepkaaTrBase
import Derived.Deep.RegionHeld3
namespace Go.Proofs.Ytcgjiddiegepkaa
open Go.RowKit

/-- height. -/
theorem heightVS_any (o : Option Addr) (t : Tr) (w : World) (h : TP w o t) : Calls Try.prog 94 #[.pointer o] w fun e w' => e = .returned (.int .i64 (ht t : Int)) ∧ w' = w := by
  cases t with
  | nil =>
    obtain rfl := h
    go_enter Try.func94, Try.ntmps94
    go_wp2
    go_ret
    exact ⟨rfl, rfl⟩
  | node l k x n r =>
    obtain ⟨b, T, ol, or, rfl, hc, _, _⟩ := h
    have c2 : w.cell? ⟨b, 2, none⟩ = some (.int .i64 (n : Int)) := by simp [World.cell?, hc]
    clear hc
    go_enter Try.func94, Try.ntmps94
    go_wp2
    go_ret
    exact ⟨rfl, rfl⟩
/-- How keys, values of this kind read. -/
def KSVS (k : Value) : Prop := ∃ l : List UInt8, k = str l
def VSVS (x : Value) : Prop := ∃ (a : Option Addr) (n c : Nat), x = .slice a n c
/-- tie: a new node over two trees. -/
theorem tieVS_any (p ol or : Option Addr) (k x : Value) (l r : Tr) (w : World) (hk : KV w p k x) (hks : KSVS k) (hxs : VSVS x) (hl : TP w ol l) (hr : TP w or r) (hs : ht l < 4611686018427387904 ∧ ht r < 4611686018427387904) :
    Calls Try.prog 95 #[.pointer p, .pointer ol, .pointer or] w (TiePost (tieT k x l r) w) := by
  obtain ⟨kn, rfl⟩ := hks
  obtain ⟨xa, xn, xc, rfl⟩ := hxs
  obtain ⟨b, T, hh, pl, pr, rfl, hc⟩ := hk
  have c0 := cell_of_row w b 0 _ T (0, 0) hc
  have c1 := cell_of_row w b 1 _ T (0, 0) hc
  simp only [List.getElem?_toArray, List.getElem?_cons_zero, List.getElem?_cons_succ] at c0 c1
  obtain ⟨hs1, hs2⟩ := hs
  have CL := Lib.hid (heightVS_any ol l w.drew (hl.drewN 1))
  have CR := Lib.hid (heightVS_any or r w.drew (hr.drewN 1))
  have HL := Lib.hid hl
  have HR := Lib.hid hr
  obtain ⟨a, ha⟩ : ∃ a : Nat, a = ht l := ⟨_, rfl⟩
  obtain ⟨d, hd⟩ : ∃ d : Nat, d = ht r := ⟨_, rfl⟩
  rw [← ha] at hs1 CL
  rw [← hd] at hs2 CR
  have HA := Lib.hid ha
  have HD := Lib.hid hd
  clear hl hr hc ha hd
  go_enter Try.func95, Try.ntmps95
  go_wp2_with fail
  go_region_held3 (fun w' => w'.cell? ⟨b, 0, none⟩ = some (str kn) ∧ w'.cell? ⟨b, 1, none⟩ = some (.slice xa xn xc))
    (first
      | (exact ⟨c0, c1⟩)
      | go_keep)
    ((first
      | (go_at_call 94
         (with_reducible refine CL.out.mono ?_)
         rintro e w' ⟨rfl, rfl⟩)
      | (go_at_call 94
         (with_reducible refine CR.out.mono ?_)
         rintro e w' ⟨rfl, rfl⟩)
      | fail))
  obtain ⟨H, hH⟩ : ∃ H : Nat, H = 1 + max a d := ⟨_, rfl⟩
  have hm : IntKind.i64.wrap (1 + if a < d then (d : Int) else (a : Int)) = (H : Int) := by
    have e : (1 + if a < d then (d : Int) else (a : Int)) = (H : Int) := by split <;> omega
    rw [e]
    exact IntWalk.i64_in _ ⟨by omega, by omega⟩
  have HH : Hid (H = 1 + max (ht l) (ht r)) := by
    rw [HA.out, HD.out] at hH
    exact Lib.hid hH
  rw [hm]
  clear hm hH
  go_wp2_with fail
  all_goals
    go_ret
    refine ⟨w.heap.size, rfl, ?_, Below.drewsN (below_alloc _ _) 1⟩
    have hb : Below w.heap.size w (w.alloc (.cells #[(str kn), (.slice xa xn xc), .int .i64 (H : Int), .pointer ol, .pointer or] 124)) := below_alloc _ _
    unfold tieT
    rw [← HH.out]
    exact TP.drewN 1 ⟨_, _, ol, or, rfl, heap_alloc_new w _, TP.below hb HL.out, TP.below hb HR.out⟩
end Go.Proofs.Ytcgjiddiegepkaa
