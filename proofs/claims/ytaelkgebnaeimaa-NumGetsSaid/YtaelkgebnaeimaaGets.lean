/- NumGets: the walk. -/
import Derived.Test.YtaelkgebnaeimaaFirst
import Derived.Test.YtaelkgebnaeimaaMath
namespace Go.Proofs.Ytaelkgebnaeimaa
open Go.RowKit

theorem numL_from : ∀ (m : List UInt8) (a : Nat), m.foldl (fun n c => n * 256 + c.toNat) a = a * 256 ^ m.length + numL m
  | [], a => by simp [numL]
  | c :: m, a => by
    have h1 := numL_from m (a * 256 + c.toNat)
    have h2 := numL_from m (0 * 256 + c.toNat)
    unfold numL
    rw [List.foldl_cons, List.foldl_cons, h1, h2, List.length_cons, Nat.pow_succ, Nat.add_mul, Nat.zero_mul, Nat.zero_add, Nat.mul_assoc, Nat.mul_comm 256, Nat.add_assoc]
theorem numL_append (l m : List UInt8) : numL (l ++ m) = numL l * 256 ^ m.length + numL m := by
  conv => lhs; unfold numL
  rw [List.foldl_append]
  exact numL_from m _
theorem getElem_cut (l : List UInt8) (i : Nat) (h : i < l.length) : numL l / 256 ^ (l.length - 1 - i) % 256 = l[i].toNat := by
  have e : l = l.take i ++ [l[i]] ++ l.drop (i + 1) := by simp
  have hd : (l.drop (i + 1)).length = l.length - 1 - i := by simp; omega
  have hlt := numL_lt _ (l.drop (i + 1)) hd
  have hn : numL l = (numL (l.take i) * 256 + l[i].toNat) * 256 ^ (l.length - 1 - i) + numL (l.drop (i + 1)) := by
    conv => lhs; rw [e, numL_append, numL_snoc, hd]
  rw [hn, Nat.mul_comm, Nat.mul_add_div (Nat.pow_pos (by omega)), Nat.div_eq_of_lt hlt]
  have := l[i].toNat_lt
  omega
theorem putL_numL (l : List UInt8) : putL (numL l) l.length = l := by
  apply List.ext_getElem
  · simp [putL]
  · intro i h1 h2
    simp only [putL, List.getElem_map, List.getElem_range, pb]
    rw [← UInt8.toNat_inj, UInt8.toNat_ofNat', getElem_cut l i h2]

/-- A window of what reads as bytes. -/
theorem Rd.win {w : World} {b off n cap : Nat} {l : List UInt8} (h : Rd w (.slice (some ⟨b, off, none⟩) n cap) l) (p k : Nat) (hp : p + k ≤ l.length) :
    Rd w (.slice (some ⟨b, off + p, none⟩) k (cap - p)) (win l p k) := by
  have hc := h.cells.2
  obtain ⟨a, cap', hv, h1, h2, h3, h4⟩ := h
  simp only [Value.slice.injEq] at hv
  obtain ⟨rfl, rfl, rfl⟩ := hv
  have hl := win_length l p k hp
  refine ⟨_, cap - p, by rw [hl], by rw [hl]; omega, by omega, (fun h => by cases h), fun _ => ⟨b, off + p, rfl, fun i hi => ?_⟩⟩
  rw [hl] at hi
  rw [Nat.add_assoc, hc (p + i) (by omega)]
  simp [Ytaelkgebnaeimaa.win]

set_option maxHeartbeats 1600000 in
theorem gets_walk (v : Value) (l : List UInt8) (a1 a2 : Int) (w : World) (hv : Rd w v l) (_h1 : -9223372036854775808 ≤ a1 ∧ a1 ≤ 9223372036854775807) (_h2 : -9223372036854775808 ≤ a2 ∧ a2 ≤ 9223372036854775807) :
    Calls Try.prog 6 #[v, .int .i64 a1, .int .i64 a2] w fun e w' => e = .returned (.bool true) ∧ Below w.heap.size w w' := by
  have hl := hv.lens
  obtain ⟨a, cap, rfl, hc1, hc2, hc3, hc4⟩ := hv
  have hv' : Rd w (.slice a l.length cap) l := ⟨a, cap, rfl, hc1, hc2, hc3, hc4⟩
  have HV := Lib.hid hv'
  clear hv'
  clear hc4 hc3
  by_cases hbig : 8000 < l.length
  · have hbig' : (8000 : Int) < (l.length : Int) := by omega
    go_enter Try.func6, Try.ntmps6
    go_wp2_with fail
    refine (first_any _).mono ?_
    rintro e w1 ⟨rfl, hb1⟩
    go_wp2_with fail
    refine (first_any _).mono ?_
    rintro e w2 ⟨rfl, hb2⟩
    go_wp2_with fail
    go_ret
    exact ⟨rfl, hb1.trans (hb2.mono hb1.size)⟩
  have hbig' : ¬ (8000 : Int) < (l.length : Int) := by omega
  by_cases hr : a2 < 1 ∨ 6 < a2 ∨ a1 < 0 ∨ (l.length : Int) < a1
  · rcases Int.lt_or_le a2 1 with g1 | g1
    all_goals rcases Int.lt_or_le 6 a2 with g2 | g2
    all_goals rcases Int.lt_or_le a1 0 with g3 | g3
    all_goals rcases Int.lt_or_le (l.length : Int) a1 with g4 | g4
    all_goals first
      | (exfalso; omega)
      | (go_enter Try.func6, Try.ntmps6
         go_wp2_with fail
         refine (first_any _).mono ?_
         rintro e w1 ⟨rfl, hb1⟩
         go_wp2_with fail
         refine (get_range a l.length cap a1 a2 _ hr).mono ?_
         rintro e w2 ⟨rfl, rfl⟩
         go_wp2_with fail
         refine (first_any _).mono ?_
         rintro e w2 ⟨rfl, hb2⟩
         go_wp2_with fail
         go_ret
         exact ⟨rfl, hb1.trans (hb2.mono hb1.size)⟩)
  have g1 : 1 ≤ a2 := by omega
  have g2 : a2 ≤ 6 := by omega
  have g3 : 0 ≤ a1 := by omega
  have g4 : a1 ≤ (l.length : Int) := by omega
  by_cases hs : (l.length : Int) - a1 < a2
  · go_enter Try.func6, Try.ntmps6
    go_wp2_with fail
    refine (first_any _).mono ?_
    rintro e w1 ⟨rfl, hb1⟩
    go_wp2_with fail
    refine (get_short a l.length cap a1 a2 _ hl g1 g2 g3 g4 hs).mono ?_
    rintro e w2 ⟨rfl, rfl⟩
    go_wp2_with fail
    refine (first_any _).mono ?_
    rintro e w2 ⟨rfl, hb2⟩
    go_wp2_with fail
    go_ret
    exact ⟨by first | rfl | (simp; omega), hb1.trans (hb2.mono hb1.size)⟩
  obtain ⟨p, rfl⟩ := Int.eq_ofNat_of_zero_le g3
  obtain ⟨k, rfl⟩ := Int.eq_ofNat_of_zero_le (show 0 ≤ a2 by omega)
  have hk1 : 1 ≤ k := by omega
  have hk2 : k ≤ 6 := by omega
  have hpk : p + k ≤ l.length := by omega
  have hs' : ¬ (l.length : Int) - (k : Int) < (p : Int) := by omega
  obtain ⟨b, off, rfl⟩ : ∃ b off, a = some ⟨b, off, none⟩ := by
    obtain ⟨a', cap', hv, _, _, _, h4⟩ := HV.out
    simp only [Value.slice.injEq] at hv
    obtain ⟨rfl, _, _⟩ := hv
    obtain ⟨b, off, h, _⟩ := h4 (by intro e; subst e; simp at hpk; omega)
    exact ⟨b, off, h⟩
  unfold maxLen at hc2
  have hwl := win_length l p k hpk
  obtain ⟨y, hy⟩ : ∃ y, y = numL (win l p k) := ⟨_, rfl⟩
  have hyb : y < 256 ^ k := by rw [hy]; exact numL_lt k _ hwl
  have hyp : putL y k = win l p k := by
    have := putL_numL (win l p k)
    rw [hwl, ← hy] at this
    exact this
  have hz : (y : Int) / 2 ^ (8 * k) = 0 := by
    rw [pow_8]
    norm_cast
    exact Nat.div_eq_of_lt hyb
  have HZ := Lib.hid hz
  have HY := Lib.hid hy
  have HP := Lib.hid hyp
  have HB := Lib.hid hyb
  clear hz hy hyp hyb hr hs hwl
  go_enter Try.func6, Try.ntmps6
  go_wp2_with fail
  refine (first_any _).mono ?_
  rintro e w1 ⟨rfl, hb1⟩
  go_wp2_with fail
  have hR1 := HV.out.below hb1 (Nat.le_refl _)
  refine (get_any _ l p k _ hR1 hk1 hk2 hpk).mono ?_
  rintro e w2 ⟨rfl, rfl⟩
  rw [← HY.out]
  go_wp2_with fail
  refine (put_ok y k _ hk1 hk2 HB.out).mono ?_
  rintro e w2 ⟨x, rfl, ho2, hb2⟩
  rw [HP.out] at ho2
  go_wp2_with fail
  refine (first_any _).mono ?_
  rintro e w3 ⟨rfl, hb3⟩
  have hR3 := ((hR1.below hb2 (Nat.le_refl _)).below hb3 (Nat.le_refl _)).win p k hpk
  have ho3 := (ho2.below hb3 (Nat.le_refl _)).rd
  go_wp2_with fail
  refine (bytes_any _ _ _ _ _ ho3 hR3).mono ?_
  rintro e w4 ⟨rfl, rfl⟩
  have hzz := HZ.out
  go_wp2_with fail
  go_ret
  exact ⟨rfl, (hb1.trans (hb2.mono hb1.size)).trans (hb3.mono (Nat.le_trans hb1.size hb2.size))⟩
end Go.Proofs.Ytaelkgebnaeimaa
