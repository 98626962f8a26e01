/- num.Unhex by its contract. -/
import Derived.Test.YtfibplegbaanmaaDoorHex
namespace Go.Proofs.YtfibplegbaanmaaDoor
open Go.RowKit

/-- Two digits of 16 as a byte. -/
def hexB (c d : UInt8) : UInt8 := UInt8.ofNat ((hexD c).toNat * 16 + (hexD d).toNat)
/-- The first k pairs of digits are such. -/
def hexOkK (t : List UInt8) (k : Nat) : Prop := ∀ j, j < k → 0 ≤ hexD (t.getD (2 * j) 0) ∧ 0 ≤ hexD (t.getD (2 * j + 1) 0)
def unhexK (t : List UInt8) (k : Nat) : List UInt8 := (List.range k).map fun j => hexB (t.getD (2 * j) 0) (t.getD (2 * j + 1) 0)
theorem unhexK_succ (t : List UInt8) (k : Nat) : unhexK t (k + 1) = unhexK t k ++ [hexB (t.getD (2 * k) 0) (t.getD (2 * k + 1) 0)] := by
  unfold unhexK; rw [List.range_succ, List.map_append]; rfl
theorem unhexK_length (t : List UInt8) (k : Nat) : (unhexK t k).length = k := by simp [unhexK]
theorem hexOkK_succ (t : List UInt8) (k : Nat) (h : hexOkK t k) (h1 : 0 ≤ hexD (t.getD (2 * k) 0)) (h2 : 0 ≤ hexD (t.getD (2 * k + 1) 0)) : hexOkK t (k + 1) := by
  intro j hj
  by_cases e : j = k
  · subst e; exact ⟨h1, h2⟩
  · exact h j (by omega)
theorem hexD_range (c : UInt8) : -1 ≤ hexD c ∧ hexD c ≤ 15 := by
  unfold hexD
  split
  · omega
  · split <;> omega

theorem digit_ret (c : UInt8) (w : World) : Calls Tryd.prog 33 #[.int .u8 (c.toNat : Int)] w fun e w' => e = .returned (.int .i64 (hexD c)) ∧ w' = w := digit_any c w

theorem or_nib (x y : Int) (h0 : 0 ≤ x) (h1 : x ≤ 15) (h2 : 0 ≤ y) (h3 : y ≤ 15) : bits .or .i64 (x * 16) y = x * 16 + y := by
  rw [bits_join .i64 63 (by decide) wraps_i64 4 _ _ (by omega) (by omega) (by omega) (by omega) (by omega) (by omega)]
theorem hexB_byte (c d : UInt8) (h1 : 0 ≤ hexD c) (h2 : 0 ≤ hexD d) : (hexD c * 16 + hexD d) % 256 = ((hexB c d).toNat : Int) := by
  have r1 := hexD_range c
  have r2 := hexD_range d
  unfold hexB
  rw [UInt8.toNat_ofNat']
  omega
theorem getD_mk (t : List UInt8) (j : Nat) (h : j < (ByteArray.mk t.toArray).size) : (ByteArray.mk t.toArray)[j]'h = t.getD j 0 := by
  have h' : j < t.length := by simpa [ByteArray.size] using h
  simp [List.getD, List.getElem?_eq_getElem h']
  rfl

def UnhexPost (t : List UInt8) (w : World) (e : Ending) (w' : World) : Prop :=
  Below w.heap.size w w' ∧
  ((∃ v, e = .returned (.tuple #[v, .bool true]) ∧ t.length % 2 = 0 ∧ hexOkK t (t.length / 2) ∧ Own 5 w' w.heap.size v (unhexK t (t.length / 2))) ∨
   (e = .returned (.tuple #[.slice none 0 0, .bool false]) ∧ (t.length % 2 = 1 ∨ ¬ hexOkK t (t.length / 2))))

set_option maxHeartbeats 1600000 in
theorem unhex_any (t : List UInt8) (w : World) (hl : t.length ≤ 140737488355328) : Calls Tryd.prog 23 #[str t] w (UnhexPost t w) := by
  by_cases hodd : t.length % 2 = 1
  · have ho : ((t.length : Int) % 2 != 0) = true := by rw [bne_iff_ne]; omega
    have ho' : ((t.length : Int) % 2 == 0) = false := by rw [beq_eq_false_iff_ne]; omega
    go_enter Tryd.func23, Tryd.ntmps23
    go_wp2_with fail
    go_ret2
    exact ⟨Below.refl _ _, .inr ⟨rfl, .inl hodd⟩⟩
  · have ho : ((t.length : Int) % 2 != 0) = false := by rw [bne_eq_false_iff_eq]; omega
    have ho' : ((t.length : Int) % 2 == 0) = true := by rw [beq_iff_eq]; omega
    obtain ⟨n, hn⟩ : ∃ n, t.length = 2 * n := ⟨t.length / 2, by omega⟩
    have hn2 : t.length / 2 = n := by omega
    go_enter Tryd.func23, Tryd.ntmps23
    go_wp2_with (at_make; refine hold ?_)
    intro _
    refine bt.make0 rfl _ _ rfl n _ rfl rfl rfl (by omega) ?_
    intro w1 hown1 hg1
    have hb1 : Below w.heap.size w w1 := (Below.refl _ _).grown hg1 (Nat.le_refl _) (by simp)
    go_wp2_with fail
    go_loopw [4, 5] (fun v i wr => ∃ k : Nat, k ≤ n ∧ i = .int .i64 ((2 * k : Nat) : Int) ∧ hexOkK t k ∧ Own 5 wr w.heap.size v (unhexK t k) ∧ Below w.heap.size w wr)
      (fun _ i _ => 2 * n - (intOf i).toNat)
    case atStart => exact ⟨0, Nat.zero_le _, rfl, fun j hj => by omega, hown1, hb1⟩
    case round =>
      obtain ⟨k, hk, rfl, hok, hown, hb⟩ := hrel
      have HOK := Lib.hid hok
      have HN := Lib.hid hn
      have HN2 := Lib.hid hn2
      clear hok hn2
      by_cases hlt : k < n
      · have hlt' : ((2 * k : Nat) : Int) < 2 * (n : Int) := by omega
        obtain ⟨j, hj⟩ : ∃ j, j = 2 * k := ⟨_, rfl⟩
        rw [← hj] at hlt' ⊢
        go_wp2_with fail
        have w1' : IntKind.i64.wrap ((j : Int) + 1) = (j : Int) + 1 := IntWalk.i64_in _ ⟨by omega, by omega⟩
        have w2' : (0 : Int) ≤ (j : Int) + 1 := by omega
        have w3' : ((j : Int) + 1).toNat = j + 1 := by omega
        have b1 : (0 : Int) ≤ (j : Int) := by omega
        have b2 : (j : Int) < (t.length : Int) := by omega
        have b3 : (j : Int) + 1 < (t.length : Int) := by omega
        have c2 : (j : Int) < 2 * (n : Int) := by omega
        have c3 : (j : Int) + 1 < 2 * (n : Int) := by omega
        have c4 : j < 2 * n := by omega
        have c5 : j + 1 < 2 * n := by omega
        have b4 : j < t.length := by omega
        have b5 : j + 1 < t.length := by omega
        have HJ := Lib.hid hj
        clear hj
        go_quiet ((go_at_call 33; exact Calls.quiet_of_same (digit_ret _ _)))
        obtain ⟨c, hc⟩ : ∃ c, c = (ByteArray.mk t.toArray)[j]'(by simpa [ByteArray.size] using b4) := ⟨_, rfl⟩
        obtain ⟨d, hd⟩ : ∃ d, d = (ByteArray.mk t.toArray)[j + 1]'(by simpa [ByteArray.size] using b5) := ⟨_, rfl⟩
        rw [← hc, ← hd]
        rw [getD_mk, HJ.out] at hc hd
        have HC := Lib.hid hc
        have HD := Lib.hid hd
        clear hc hd w1' w3'
        have rc := hexD_range c
        have rd := hexD_range d
        have hsz := hb.size
        have hn3 : n ≤ 70368744177664 := by omega
        by_cases hcn : hexD c < 0
        · go_wp2_with fail
          go_ret2
          refine ⟨Below.drewsN hb _, .inr ⟨rfl, .inr fun h => ?_⟩⟩
          rw [HN2.out] at h
          have := (h k hlt).1
          rw [← HC.out] at this
          omega
        · have hcn' : 0 ≤ hexD c := by omega
          by_cases hdn : hexD d < 0
          · go_wp2_with fail
            go_ret2
            refine ⟨Below.drewsN hb _, .inr ⟨rfl, .inr fun h => ?_⟩⟩
            rw [HN2.out] at h
            have := (h k hlt).2
            rw [← HD.out] at this
            omega
          · have hdn' : 0 ≤ hexD d := by omega
            have ho := or_nib (hexD c) (hexD d) hcn' (by omega) hdn' (by omega)
            have hbb := hexB_byte c d hcn' hdn'
            have hwd : (hexD c * 16) = (hexD c * 16) := rfl
            generalize hxc : hexD c = xc at *
            generalize hxd : hexD d = xd at *
            have HXC := Lib.hid hxc
            have HXD := Lib.hid hxd
            have HBB := Lib.hid hbb
            clear hxc hxd hbb hwd
            go_wp2_with (at_builtin; refine hold ?_)
            intro _
            refine bt.append1 rfl _ _ rfl w.heap.size _ (unhexK t k) (hexB c d) _ ?_ (show Own 5 (wr.drewN nq) w.heap.size u4 (unhexK t k) from hown) rfl rfl ?_ ?_ ?_
            · have := HBB.out
              omega
            · rw [unhexK_length]; omega
            · exact hsz
            intro v' w2 hown2 hg2
            have hb2 : Below w.heap.size (wr.drewN nq) w2 := (Below.refl _ _).grown hg2 hsz (fun b e => (hown.base b e).1)
            go_wp2_with fail
            go_roundw
            case rel =>
              refine ⟨k + 1, by omega, by have := HJ.out; go_num, hexOkK_succ t k HOK.out ?_ ?_, ?_, (Below.drewsN hb nq).trans hb2⟩
              · rw [← HC.out, HXC.out]; exact hcn'
              · rw [← HD.out, HXD.out]; exact hdn'
              · rw [unhexK_succ, ← HC.out, ← HD.out]; exact hown2
            case measure => have := HJ.out; simp [intOf]; omega
      · obtain rfl : k = n := by omega
        have hlt' : ¬ ((2 * k : Nat) : Int) < 2 * (k : Int) := by omega
        go_wp2_with fail
        go_ret2
        exact ⟨hb, .inl ⟨_, rfl, by rw [HN.out]; omega, by rw [HN2.out]; exact HOK.out, by rw [HN2.out]; exact hown⟩⟩
end Go.Proofs.YtfibplegbaanmaaDoor
