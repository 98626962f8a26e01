/- Layer 5: DateMails. -/
import Derived.Test.YtnaafdennieedaaDTwo
import Derived.Deep.RegionHeld3
import Derived.Deep.RegionWith
namespace Go.Proofs.Ytnaafdennieedaa
open Go.RowKit

def mres (y mo d h mi s a : Int) : Int × Int := if mkB y mo d h mi s = false ∨ mkV y mo d h mi s - a < 0 ∨ 253402300800 ≤ mkV y mo d h mi s - a then (0, 1) else (mkV y mo d h mi s - a, 0)
theorem secR_len (t : List UInt8) (y mo d h mi s a : Int) : secR t t.length false y mo d h mi s a = mres y mo d h mi s a := by
  unfold secR mres; rw [if_neg (by simp)]
theorem mail_one (d k y h mi s q : Nat) (hd : d < 100) (hk : k < 12) (hy2 : y ≤ 2068) (hh : h < 100) (hmi : mi < 100) (hs : s < 100) (hq : q < 10) :
    mailR (mtext d k (digL (y / 100) 2 ++ digL y 2) h mi s q) = mres y (1 + (k : Int)) d h mi s (zoneS q) := by
  obtain ⟨t, ht⟩ : ∃ t, t = mtext d k (digL (y / 100) 2 ++ digL y 2) h mi s q := ⟨_, rfl⟩
  rw [← ht]
  have e : dgB (pk t 0) = true := by
    have h0 : t.drop 0 = db d 1 :: (([db d 0] ++ (32 :: (monN k ++ (32 :: ((digL (y / 100) 2 ++ digL y 2) ++ (32 :: (digL h 2 ++ (58 :: (digL mi 2 ++ (58 :: (digL s 2 ++ (32 :: zoneN q))))))))))))) := by
      rw [List.drop_zero, ht, mtext, digL2_cons d]; rfl
    rw [pk_hit t 0 _ _ h0]; exact db_dig _ _
  rw [mailR_digit t e, mailC_told t 0 d k _ y h mi s q (by rw [List.drop_zero]; exact ht) hd hk hh hmi hs hq (fun p r g => year4_at t y (by omega) p r g), secR_len]
theorem mail_two (d k y h mi s q : Nat) (hd : d < 100) (hk : k < 12) (hy1 : 1970 ≤ y) (hy2 : y ≤ 2068) (hh : h < 100) (hmi : mi < 100) (hs : s < 100) (hq : q < 10) :
    mailR ([84, 117, 101, 44, 32] ++ mtext d k (digL y 2) h mi s q) = mres y (1 + (k : Int)) d h mi s (zoneS q) := by
  obtain ⟨t, ht⟩ : ∃ t, t = [84, 117, 101, 44, 32] ++ mtext d k (digL y 2) h mi s q := ⟨_, rfl⟩
  rw [← ht]
  have d0 : t.drop 0 = 84 :: (117 :: (101 :: (44 :: (32 :: mtext d k (digL y 2) h mi s q)))) := by rw [List.drop_zero, ht]; rfl
  have d3 : t.drop 3 = 44 :: (32 :: mtext d k (digL y 2) h mi s q) := by rw [ht]; rfl
  have d5 : t.drop 5 = mtext d k (digL y 2) h mi s q := by rw [ht]; rfl
  have hl : 3 ≤ t.length := by
    have := congrArg List.length d3
    rw [List.length_drop, List.length_cons] at this; omega
  have h3 : (t.drop 0).take 3 = [84, 117, 101] := by rw [d0]; rfl
  have e : dgB (pk t 0) = false := by rw [pk_hit t 0 _ _ d0]; decide
  have n0 : nameF weekL 7 t 0 false = (1, 3, false) := by
    have g : nmAt weekL t 0 7 0 = some 1 := by simp only [nmAt_succ, h3]; rfl
    unfold nameF; rw [if_pos (by omega), g]
  have s1 := sgnF_hit [44] t 3 false 44 _ d3 (by decide)
  have s2 := sgnF_hit [32] t 4 false 32 _ (drop_hit t 3 _ _ d3) (by decide)
  rw [mailR_named t e]
  simp only [n0, s1, s2]
  rw [mailC_told t 5 d k _ y h mi s q d5 hd hk hh hmi hs hq (fun p r g => year2_at t y hy1 hy2 p r g), secR_len]
theorem mail_three (r : List UInt8) : mailR ([84, 117, 101, 115] ++ r) = (0, 4) := by
  obtain ⟨t, ht⟩ : ∃ t, t = [84, 117, 101, 115] ++ r := ⟨_, rfl⟩
  rw [← ht]
  have d0 : t.drop 0 = 84 :: (117 :: (101 :: (115 :: r))) := by rw [List.drop_zero, ht]; rfl
  have d3 : t.drop 3 = 115 :: r := by rw [ht]; rfl
  have hl : 3 ≤ t.length := by
    have := congrArg List.length d3
    rw [List.length_drop, List.length_cons] at this; omega
  have h3 : (t.drop 0).take 3 = [84, 117, 101] := by rw [d0]; rfl
  have e : dgB (pk t 0) = false := by rw [pk_hit t 0 _ _ d0]; decide
  have n0 : nameF weekL 7 t 0 false = (1, 3, false) := by
    have g : nmAt weekL t 0 7 0 = some 1 := by simp only [nmAt_succ, h3]; rfl
    unfold nameF; rw [if_pos (by omega), g]
  have s1 : sgnF [44] t 3 false = (0, 3, true) := by
    unfold sgnF; rw [pk_hit t 3 _ _ d3, if_neg (by simp)]
  rw [mailR_named t e]
  simp only [n0, s1]
  rw [sgnF_bad]
  exact mailC_bad t _
/-- The blocks of the words of months, of zones, of the zones' hours. -/
def NB (w : World) (b : Nat) : Prop := ∀ k, k < 12 → w.cell? ⟨b, k, none⟩ = some (str (monN k))
def ZB (w : World) (b : Nat) : Prop := ∀ k, k < 10 → w.cell? ⟨b, k, none⟩ = some (str (zoneN k))
theorem mails_world (w : World) : Below w.heap.size w (((w.alloc (.cells #[str [74, 97, 110], str [70, 101, 98], str [77, 97, 114], str [65, 112, 114], str [77, 97, 121], str [74, 117, 110], str [74, 117, 108], str [65, 117, 103], str [83, 101, 112], str [79, 99, 116], str [78, 111, 118], str [68, 101, 99]] 9)).alloc
    (.cells #[str [71, 77, 84], str [69, 83, 84], str [69, 68, 84], str [67, 83, 84], str [67, 68, 84], str [77, 83, 84], str [77, 68, 84], str [80, 83, 84], str [80, 68, 84], str [43, 48, 49, 51, 48]] 9)).alloc
    (.cells #[.int .i64 0, .int .i64 (-5), .int .i64 (-4), .int .i64 (-6), .int .i64 (-5), .int .i64 (-7), .int .i64 (-6), .int .i64 (-8), .int .i64 (-7), .int .i64 0] 3)) ∧
  NB (((w.alloc (.cells #[str [74, 97, 110], str [70, 101, 98], str [77, 97, 114], str [65, 112, 114], str [77, 97, 121], str [74, 117, 110], str [74, 117, 108], str [65, 117, 103], str [83, 101, 112], str [79, 99, 116], str [78, 111, 118], str [68, 101, 99]] 9)).alloc
    (.cells #[str [71, 77, 84], str [69, 83, 84], str [69, 68, 84], str [67, 83, 84], str [67, 68, 84], str [77, 83, 84], str [77, 68, 84], str [80, 83, 84], str [80, 68, 84], str [43, 48, 49, 51, 48]] 9)).alloc
    (.cells #[.int .i64 0, .int .i64 (-5), .int .i64 (-4), .int .i64 (-6), .int .i64 (-5), .int .i64 (-7), .int .i64 (-6), .int .i64 (-8), .int .i64 (-7), .int .i64 0] 3)) w.heap.size ∧
  ZB (((w.alloc (.cells #[str [74, 97, 110], str [70, 101, 98], str [77, 97, 114], str [65, 112, 114], str [77, 97, 121], str [74, 117, 110], str [74, 117, 108], str [65, 117, 103], str [83, 101, 112], str [79, 99, 116], str [78, 111, 118], str [68, 101, 99]] 9)).alloc
    (.cells #[str [71, 77, 84], str [69, 83, 84], str [69, 68, 84], str [67, 83, 84], str [67, 68, 84], str [77, 83, 84], str [77, 68, 84], str [80, 83, 84], str [80, 68, 84], str [43, 48, 49, 51, 48]] 9)).alloc
    (.cells #[.int .i64 0, .int .i64 (-5), .int .i64 (-4), .int .i64 (-6), .int .i64 (-5), .int .i64 (-7), .int .i64 (-6), .int .i64 (-8), .int .i64 (-7), .int .i64 0] 3)) (w.heap.size + 1) := by
  have s1 := heap_alloc_new w (.cells #[str [74, 97, 110], str [70, 101, 98], str [77, 97, 114], str [65, 112, 114], str [77, 97, 121], str [74, 117, 110], str [74, 117, 108], str [65, 117, 103], str [83, 101, 112], str [79, 99, 116], str [78, 111, 118], str [68, 101, 99]] 9)
  generalize hw1 : w.alloc (.cells #[str [74, 97, 110], str [70, 101, 98], str [77, 97, 114], str [65, 112, 114], str [77, 97, 121], str [74, 117, 110], str [74, 117, 108], str [65, 117, 103], str [83, 101, 112], str [79, 99, 116], str [78, 111, 118], str [68, 101, 99]] 9) = w1 at s1 ⊢
  have z1 : w1.heap.size = w.heap.size + 1 := by rw [← hw1]; simp
  have g1 : Below w.heap.size w w1 := by rw [← hw1]; exact below_alloc _ _
  have s2 := heap_alloc_new w1 (.cells #[str [71, 77, 84], str [69, 83, 84], str [69, 68, 84], str [67, 83, 84], str [67, 68, 84], str [77, 83, 84], str [77, 68, 84], str [80, 83, 84], str [80, 68, 84], str [43, 48, 49, 51, 48]] 9)
  generalize hw2 : w1.alloc (.cells #[str [71, 77, 84], str [69, 83, 84], str [69, 68, 84], str [67, 83, 84], str [67, 68, 84], str [77, 83, 84], str [77, 68, 84], str [80, 83, 84], str [80, 68, 84], str [43, 48, 49, 51, 48]] 9) = w2 at s2 ⊢
  have z2 : w2.heap.size = w.heap.size + 2 := by rw [← hw2]; simp [z1]
  have g2 : Below w1.heap.size w1 w2 := by rw [← hw2]; exact below_alloc _ _
  have g3 := below_alloc w2 (.cells #[.int .i64 0, .int .i64 (-5), .int .i64 (-4), .int .i64 (-6), .int .i64 (-5), .int .i64 (-7), .int .i64 (-6), .int .i64 (-8), .int .i64 (-7), .int .i64 0] 3)
  generalize w2.alloc (.cells #[.int .i64 0, .int .i64 (-5), .int .i64 (-4), .int .i64 (-6), .int .i64 (-5), .int .i64 (-7), .int .i64 (-6), .int .i64 (-8), .int .i64 (-7), .int .i64 0] 3) = w3 at g3 ⊢
  refine ⟨(g1.trans (g2.mono (by omega))).trans (g3.mono (by omega)), ?_, ?_⟩
  · intro k hk
    have s1' : w3.heap[w.heap.size]? = _ := ((g3.block w.heap.size (by omega)).trans (g2.block w.heap.size (by omega))).trans s1
    rw [cell_of_row _ w.heap.size k _ 9 (0, 0) s1']
    have : k = 0 ∨ k = 1 ∨ k = 2 ∨ k = 3 ∨ k = 4 ∨ k = 5 ∨ k = 6 ∨ k = 7 ∨ k = 8 ∨ k = 9 ∨ k = 10 ∨ k = 11 := by omega
    rcases this with h | h | h | h | h | h | h | h | h | h | h | h <;> subst h <;> rfl
  · intro k hk
    have s2' : w3.heap[w1.heap.size]? = _ := (g3.block w1.heap.size (by omega)).trans s2
    rw [z1] at s2'
    rw [cell_of_row _ (w.heap.size + 1) k _ 9 (0, 0) s2']
    have : k = 0 ∨ k = 1 ∨ k = 2 ∨ k = 3 ∨ k = 4 ∨ k = 5 ∨ k = 6 ∨ k = 7 ∨ k = 8 ∨ k = 9 := by omega
    rcases this with h | h | h | h | h | h | h | h | h | h <;> subst h <;> rfl
theorem mail_r1 (d k y h mi s q : Nat) (V SH : Int) (M : Bool) (hd : d < 100) (hk : k < 12) (hy2 : y ≤ 2068) (hh : h < 100) (hmi : mi < 100) (hs : s < 100) (hq : q < 10) (hV : V = mkV y ((k : Int) + 1) d h mi s) (hM : M = mkB y ((k : Int) + 1) d h mi s) (hSH : SH = zoneS q) :
    mailR (mtext d k (digL (y / 100) 2 ++ digL y 2) h mi s q) = (if M = false ∨ V - SH < 0 ∨ 253402300800 ≤ V - SH then (0, 1) else (V - SH, 0)) := by
  have R1 := mail_one d k y h mi s q hd hk hy2 hh hmi hs hq
  unfold mres at R1
  rw [Int.add_comm 1 (k : Int), ← hV, ← hM, ← hSH] at R1
  exact R1
theorem mail_r2 (d k y h mi s q : Nat) (V SH : Int) (M : Bool) (hd : d < 100) (hk : k < 12) (hy1 : 1970 ≤ y) (hy2 : y ≤ 2068) (hh : h < 100) (hmi : mi < 100) (hs : s < 100) (hq : q < 10) (hV : V = mkV y ((k : Int) + 1) d h mi s) (hM : M = mkB y ((k : Int) + 1) d h mi s) (hSH : SH = zoneS q) :
    mailR ([84, 117, 101, 44, 32] ++ mtext d k (digL y 2) h mi s q) = (if M = false ∨ V - SH < 0 ∨ 253402300800 ≤ V - SH then (0, 1) else (V - SH, 0)) := by
  have R1 := mail_two d k y h mi s q hd hk hy1 hy2 hh hmi hs hq
  unfold mres at R1
  rw [Int.add_comm 1 (k : Int), ← hV, ← hM, ← hSH] at R1
  exact R1
theorem keep1 {W W' : World} {a j : Nat} {v : Value} (h : W.cell? ⟨a, j, none⟩ = some v) (hb : Below W.heap.size W W') : W'.cell? ⟨a, j, none⟩ = some v := by
  rw [hb.cell (p := ⟨a, j, none⟩) (World.block_lt_of_cell? W _ h)]; exact h
theorem NB.below {W W' : World} {b : Nat} (h : NB W b) (hb : Below W.heap.size W W') : NB W' b := fun k hk => keep1 (h k hk) hb
theorem ZB.below {W W' : World} {b : Nat} (h : ZB W b) (hb : Below W.heap.size W W') : ZB W' b := fun k hk => keep1 (h k hk) hb
end Go.Proofs.Ytnaafdennieedaa
