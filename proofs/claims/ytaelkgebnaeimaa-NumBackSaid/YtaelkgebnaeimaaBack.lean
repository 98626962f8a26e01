/- NumBack: the walk. -/
import Derived.Test.YtaelkgebnaeimaaUnhex
import Derived.Test.YtaelkgebnaeimaaAll
import Derived.Test.YtaelkgebnaeimaaVarMath
namespace Go.Proofs.Ytaelkgebnaeimaa
open Go.RowKit

theorem hexD_S : ∀ m : Fin 16, hexD (hexS m.val) = (m.val : Int) := by decide
theorem hexB_S (c : UInt8) : hexB (hexS (c.toNat / 16)) (hexS (c.toNat % 16)) = c := by
  have hc := c.toNat_lt
  have h1 := hexD_S ⟨c.toNat / 16, by omega⟩
  have h2 := hexD_S ⟨c.toNat % 16, by omega⟩
  simp only at h1 h2
  unfold hexB
  rw [h1, h2, ← UInt8.toNat_inj, UInt8.toNat_ofNat']
  omega
theorem unhexK_cons (a b : UInt8) (t : List UInt8) (k : Nat) : unhexK (a :: b :: t) (k + 1) = hexB a b :: unhexK t k := by
  unfold unhexK
  rw [List.range_succ_eq_map, List.map_cons, List.map_map]
  rfl
theorem hexL_cons (c : UInt8) (t : List UInt8) : hexL (c :: t) = hexS (c.toNat / 16) :: hexS (c.toNat % 16) :: hexL t := rfl
theorem unhex_hex : ∀ l : List UInt8, unhexK (hexL l) l.length = l ∧ hexOkK (hexL l) l.length
  | [] => ⟨rfl, fun j hj => by simp at hj⟩
  | c :: t => by
    obtain ⟨h1, h2⟩ := unhex_hex t
    have hc := c.toNat_lt
    refine ⟨by rw [hexL_cons, List.length_cons, unhexK_cons, h1, hexB_S], fun j hj => ?_⟩
    rw [hexL_cons]
    cases j with
    | zero =>
      have h3 := hexD_S ⟨c.toNat / 16, by omega⟩
      have h4 := hexD_S ⟨c.toNat % 16, by omega⟩
      simp only at h3 h4
      simp only [List.getD_cons_zero, Nat.mul_zero, Nat.zero_add, List.getD_cons_succ]
      omega
    | succ j =>
      have := h2 j (by simpa using hj)
      rw [show 2 * (j + 1) = 2 * j + 1 + 1 by omega, List.getD_cons_succ, List.getD_cons_succ, List.getD_cons_succ, List.getD_cons_succ]
      exact this

theorem putL_succ (n wd : Nat) : putL n (wd + 1) = putL (n / 256) wd ++ [UInt8.ofNat n] := by
  unfold putL
  rw [List.range_succ, List.map_append]
  congr 1
  · apply List.map_congr_left
    intro j hj
    have := List.mem_range.1 hj
    unfold pb
    rw [Nat.div_div_eq_div_mul, show wd + 1 - 1 - j = (wd - 1 - j) + 1 by omega, Nat.pow_succ, Nat.mul_comm 256]
  · simp [pb]
theorem numL_putL : ∀ (wd n : Nat), n < 256 ^ wd → numL (putL n wd) = n
  | 0, n, h => by simp at h; subst h; rfl
  | wd + 1, n, h => by
    rw [putL_succ, numL_snoc, numL_putL wd (n / 256) (by rw [Nat.pow_succ] at h; omega), UInt8.toNat_ofNat']
    omega
theorem win_end (b l : List UInt8) : win (b ++ l) b.length l.length = l := by simp [win]

/-- Get at every place. -/
theorem get_all (x : Value) (l : List UInt8) (p : Nat) (wd : Int) (w : World) (hx : Rd w x l) (hp : p ≤ l.length) :
    Calls Try.prog 13 #[x, .int .i64 p, .int .i64 wd] w fun e w' => ∃ v g : Int, e = .returned (.tuple #[.int .i64 v, .int .i64 g]) ∧
      (1 ≤ wd → wd ≤ 6 → p + wd.toNat ≤ l.length → g = 0 ∧ v = ((numL (win l p wd.toNat) : Nat) : Int)) ∧ w' = w := by
  have hl := hx.lens
  obtain ⟨a, cap, hv, _⟩ := id hx
  by_cases h1 : wd < 1 ∨ 6 < wd
  · subst hv
    refine (get_range a l.length cap p wd w (by omega)).mono ?_
    rintro e w' ⟨rfl, rfl⟩
    exact ⟨0, 1, rfl, fun h2 h3 _ => by omega, rfl⟩
  · by_cases h2 : (l.length : Int) - p < wd
    · subst hv
      refine (get_short a l.length cap p wd w hl (by omega) (by omega) (by omega) (by omega) h2).mono ?_
      rintro e w' ⟨rfl, rfl⟩
      exact ⟨0, 2, rfl, fun _ _ h3 => by omega, rfl⟩
    · obtain ⟨k, rfl⟩ := Int.eq_ofNat_of_zero_le (show 0 ≤ wd by omega)
      refine (get_any x l p k w hx (by omega) (by omega) (by omega)).mono ?_
      rintro e w' ⟨rfl, rfl⟩
      exact ⟨_, 0, rfl, fun _ _ _ => ⟨rfl, rfl⟩, rfl⟩

/-- Put at every number. -/
def PutP (n wd : Int) (l : List UInt8) (er : Int) : Prop :=
  (er = 0 ∧ 0 ≤ n ∧ 1 ≤ wd ∧ wd ≤ 6 ∧ n.toNat < 256 ^ wd.toNat ∧ l = putL n.toNat wd.toNat) ∨ (er = 1 ∧ l = [])
def PutPost (n wd : Int) (w : World) (e : Ending) (w' : World) : Prop :=
  ∃ v l er, e = .returned (.tuple #[v, .int .i64 er]) ∧ PutP n wd l er ∧ Own 5 w' w.heap.size v l ∧ Below w.heap.size w w'
theorem put_all (n wd : Int) (w : World) : Calls Try.prog 10 #[.int .i64 n, .int .i64 wd] w (PutPost n wd w) := by
  by_cases h : wd < 1 ∨ 6 < wd ∨ n < 0
  · refine (put_bad n wd w h).mono ?_
    rintro e w' ⟨rfl, rfl⟩
    exact ⟨_, [], 1, rfl, .inr ⟨rfl, rfl⟩, Own.nil _ _ _, Below.refl _ _⟩
  · obtain ⟨m, rfl⟩ := Int.eq_ofNat_of_zero_le (show 0 ≤ n by omega)
    obtain ⟨k, rfl⟩ := Int.eq_ofNat_of_zero_le (show 0 ≤ wd by omega)
    by_cases hl : m < 256 ^ k
    · refine (put_ok m k w (by omega) (by omega) hl).mono ?_
      rintro e w' ⟨v, rfl, ho, hb⟩
      exact ⟨v, _, 0, rfl, .inl ⟨rfl, by omega, by omega, by omega, hl, rfl⟩, ho, hb⟩
    · refine (put_much m k w (by omega) (by omega) hl).mono ?_
      rintro e w' ⟨rfl, rfl⟩
      exact ⟨_, [], 1, rfl, .inr ⟨rfl, rfl⟩, Own.nil _ _ _, Below.refl _ _⟩

set_option maxRecDepth 100000 in
set_option maxHeartbeats 3200000 in
theorem back_walk (a0 a1 : Int) (v : Value) (l : List UInt8) (w : World) (_h0 : -9223372036854775808 ≤ a0 ∧ a0 ≤ 9223372036854775807) (_h1 : -9223372036854775808 ≤ a1 ∧ a1 ≤ 9223372036854775807) (hv : Rd w v l) :
    Calls Try.prog 3 #[.int .i64 a0, .int .i64 a1, v] w fun e w' => e = .returned (.bool true) ∧ Below w.heap.size w w' := by
  have hl := hv.lens
  have HV := Lib.hid hv
  obtain ⟨a, cap, rfl, hc1, hc2, hc3, hc4⟩ := hv
  clear hc4 hc3
  by_cases hbig : 8000 < l.length
  · have hbig' : (8000 : Int) < (l.length : Int) := by omega
    go_enter Try.func3, Try.ntmps3
    go_wp2_with fail
    refine (first_any _).mono ?_
    rintro e w1 ⟨rfl, hb1⟩
    go_wp2_with fail
    refine (first_any _).mono ?_
    rintro e w2 ⟨rfl, hb2⟩
    go_wp2_with fail
    go_ret
    exact ⟨rfl, hb1.trans (hb2.mono hb1.size)⟩
  have hbig' : ¬ (8000 : Int) < (l.length : Int) := by omega
  have huh := unhex_hex l
  have hll := hexL_length l
  have HUH := Lib.hid huh
  have HLL := Lib.hid hll
  clear huh hll
  go_enter Try.func3, Try.ntmps3
  go_wp2_with fail
  refine (first_any _).mono ?_
  rintro e w1 ⟨rfl, hb1⟩
  have s1 := hb1.size
  have hR1 := HV.out.below hb1 (Nat.le_refl _)
  go_wp2_with fail
  refine (hex_any _ l _ hR1 (by omega)).mono ?_
  rintro e w2 ⟨rfl, hb2⟩
  have s2 := hb2.size
  have hR2 := hR1.below hb2 (Nat.le_refl _)
  go_wp2_with fail
  refine (unhex_any (hexL l) _ (by rw [HLL.out]; omega)).mono ?_
  rintro e w3 ⟨hb3, hu⟩
  have s3 := hb3.size
  have hR3 := hR2.below hb3 (Nat.le_refl _)
  rcases hu with ⟨u, rfl, _, _, hou⟩ | ⟨rfl, hbad⟩
  · rw [HLL.out, show 2 * l.length / 2 = l.length by omega, HUH.out.1] at hou
    go_wp2_with fail
    refine (put_all a0 a1 _).mono ?_
    rintro e w4 ⟨x, lx, ex, rfl, hP, hox, hb4⟩
    have s4 := hb4.size
    have hR4 := hR3.below hb4 (Nat.le_refl _)
    go_wp2_with fail
    refine (var_all a0 _).mono ?_
    rintro e w5 ⟨y, ly, ey, rfl, hV, hoy, hb5⟩
    have s5 := hb5.size
    have hR5 := hR4.below hb5 (Nat.le_refl _)
    have hB : Below w.heap.size w w5 := (((hb1.trans (hb2.mono (by omega))).trans (hb3.mono (by omega))).trans (hb4.mono (by omega))).trans (hb5.mono (by omega))
    have hou5 := ((hou.rd.below hb4 (Nat.le_refl _)).below hb5 (Nat.le_refl _))
    have hox5 := hox.rd.below hb5 (Nat.le_refl _)
    have hoy5 := hoy.rd
    obtain ⟨ax, cx, hxe⟩ := hox.len
    obtain ⟨ay, cy, hye⟩ := hoy.len
    subst hxe hye
    clear hb1 hb2 hb3 hb4 hb5 hou hox hoy hR1 hR2 hR3 hR4
    go_wp2_with fail
    refine (bytes_any _ _ _ _ _ hou5 hR5).mono ?_
    rintro e w6 ⟨rfl, rfl⟩
    have hbe : (l == l) = true := by simp
    rw [hbe]
    have hcopy := copy_any _ l _ hR5 (by omega)
    have hVc : (ey = 0 ∧ 0 ≤ a0 ∧ a0 < 72057594037927936 ∧ ly = varL a0.toNat ∧ 1 ≤ ly.length ∧ ly.length ≤ 8) ∨ (ey = 1 ∧ 0 ≤ a0 ∧ ¬ a0 < 72057594037927936 ∧ ly.length ≤ 8) ∨ (ey = 1 ∧ a0 < 0 ∧ ly.length ≤ 8) := by
      rcases hV with ⟨rfl, v1, v2, rfl⟩ | ⟨rfl, v1, rfl⟩
      · exact .inl ⟨rfl, v1, by omega, rfl, varL_pos _, varL_len 7 _ (by omega)⟩
      · rcases v1 with v1 | v1
        · exact .inr (.inr ⟨rfl, v1, by simp⟩)
        · exact .inr (.inl ⟨rfl, by omega, by omega, by simp⟩)
    have hPl : lx.length ≤ 6 := by
      rcases hP with ⟨_, _, p1, p2, _, rfl⟩ | ⟨_, rfl⟩
      · rw [putL_length]; omega
      · simp
    have hle8 : ly.length ≤ 8 := by omega
    clear hV
    have HVc := Lib.hid hVc
    have hty : (ey = 0 ∧ 0 ≤ a0 ∧ a0 < 72057594037927936) ∨ (ey = 1 ∧ 0 ≤ a0 ∧ ¬ a0 < 72057594037927936) ∨ (ey = 1 ∧ a0 < 0) := by omega
    clear hVc
    rcases hty with ⟨rfl, t1, t2⟩ | ⟨rfl, t1, t2⟩ | ⟨rfl, t1⟩
    all_goals
      go_wp2_with (at_builtin; refine hold ?_)
      refine hcopy.mono ?_
      rintro e w7 ⟨v7, rfl, ho7, hb7⟩
      have s7 := hb7.size
      go_wp2_with (at_builtin; refine hold ?_)
      intro _
      refine bt.appendS rfl _ _ rfl w6.heap.size _ _ l lx ho7 (hox5.below hb7 (Nat.le_refl _)) rfl rfl (by omega) (by omega) ?_
      intro v8 w8 ho8 hg8
      have hb8 := ho7.grows hg8 (Nat.le_refl _) (by omega)
      have s8 := hb8.size
      go_wp2_with fail
      refine (get_all v8 (l ++ lx) l.length a1 w8 ho8.rd (by simp)).mono ?_
      rintro e w9 ⟨gv, gg, rfl, hgp, rfl⟩
      have hR8 := hR5.below (hb7.trans hb8) (Nat.le_refl _)
      have hy8 := hoy5.below (hb7.trans hb8) (Nat.le_refl _)
      have hGP := Lib.hid hgp
      clear hgp
      go_wp2_with (at_builtin; refine hold ?_)
      refine (copy_any _ l _ hR8 (by omega)).mono ?_
      rintro e w10 ⟨v10, rfl, ho10, hb10⟩
      have s10 := hb10.size
      go_wp2_with (at_builtin; refine hold ?_)
      intro _
      refine bt.appendS rfl _ _ rfl w9.heap.size _ _ l ly ho10 (hy8.below hb10 (Nat.le_refl _)) rfl rfl (by omega) (by omega) ?_
      intro v11 w11 ho11 hg11
      have hb11 := ho10.grows hg11 (Nat.le_refl _) (by omega)
      have s11 := hb11.size
      go_wp2_with (at_builtin; refine hold ?_)
      intro _
      refine bt.append1 rfl _ _ rfl w9.heap.size _ (l ++ ly) 7 _ rfl ho11 rfl rfl (by simp; omega) (by omega) ?_
      intro v12 w12 ho12 hg12
      have hb12 := ho11.grows hg12 (Nat.le_refl _) (by omega)
      have s12 := hb12.size
      go_wp2_with fail
      refine (rvar_any v12 (l ++ ly ++ [7]) l.length w12 ho12.rd (by simp) (by simp; omega)).mono ?_
      rintro e w13 ⟨rfl, rfl⟩
      have hB13 : Below w.heap.size w w13 := (hB.trans ((hb7.trans hb8).mono (by omega))).trans (((hb10.trans hb11).trans hb12).mono (by omega))
    -- the number in few bytes is read again
    · obtain ⟨n, rfl⟩ := Int.eq_ofNat_of_zero_le t1
      have hly : ly = varL n ∧ 1 ≤ ly.length ∧ ly.length ≤ 8 := by
        rcases HVc.out with ⟨_, _, _, h, h1, h2⟩ | ⟨h, _⟩ | ⟨h, _⟩
        · exact ⟨by simpa using h, h1, h2⟩
        · omega
        · omega
      obtain ⟨hly, hy1, hy2⟩ := hly
      have hrv : rv 8 ((l ++ ly ++ [7]).drop l.length) l.length 0 0 = (n, l.length + ly.length, 0) := by
        rw [List.append_assoc, List.drop_left, hly, rv_varL [7] 8 n l.length 0 0 (by rw [← hly]; exact hy2) (.inl rfl)]
        simp
      rw [hrv]
      have HLY := Lib.hid hly
      clear hrv hly
      unfold rvE
      have z1 : ((n : Int) != (n : Int)) = false := by simp
      have z2 : ¬ ((ly.length : Int) < 1) := by omega
      have z3 : ¬ ((8 : Int) < (ly.length : Int)) := by omega
      have z4 : ((((l.length + ly.length : Nat) : Int)) != (l.length : Int) + (ly.length : Int)) = false := by rw [bne_eq_false_iff_eq]; omega
      simp only
      go_wp2_with fail
      refine (first_any _).mono ?_
      rintro e w14 ⟨rfl, hb14⟩
      rcases hP with ⟨rfl, p0, p1, p2, p3, rfl⟩ | ⟨rfl, rfl⟩
      · obtain ⟨k, rfl⟩ := Int.eq_ofNat_of_zero_le (show 0 ≤ a1 by omega)
        have hg := hGP.out p1 p2 (by simp [putL_length])
        simp only [Int.toNat_natCast] at hg p3 ⊢
        have hw : numL (win (l ++ putL n k) l.length k) = n := by
          have := win_end l (putL n k)
          rw [putL_length] at this
          rw [this, numL_putL k n p3]
        rw [hw] at hg
        obtain ⟨rfl, rfl⟩ := hg
        have z5 : (((putL n k).length : Int) == (k : Int)) = true := by rw [putL_length]; simp
        go_wp2_with fail
        go_ret
        exact ⟨rfl, hB13.trans (hb14.mono hB13.size)⟩
      · go_wp2_with fail
        go_ret
        exact ⟨rfl, hB13.trans (hb14.mono hB13.size)⟩
    all_goals
      generalize rv 8 ((l ++ ly ++ [7]).drop l.length) l.length 0 0 = r
      unfold rvE
      go_wp2_with fail
      refine (first_any _).mono ?_
      rintro e w14 ⟨rfl, hb14⟩
      rcases hP with ⟨rfl, p0, p1, p2, p3, rfl⟩ | ⟨rfl, rfl⟩
      · obtain ⟨k, rfl⟩ := Int.eq_ofNat_of_zero_le (show 0 ≤ a1 by omega)
        obtain ⟨n, rfl⟩ := Int.eq_ofNat_of_zero_le p0
        have hg := hGP.out p1 p2 (by simp [putL_length])
        simp only [Int.toNat_natCast] at hg p3 ⊢
        have hw : numL (win (l ++ putL n k) l.length k) = n := by
          have := win_end l (putL n k)
          rw [putL_length] at this
          rw [this, numL_putL k n p3]
        rw [hw] at hg
        obtain ⟨rfl, rfl⟩ := hg
        have z5 : (((putL n k).length : Int) == (k : Int)) = true := by rw [putL_length]; simp
        go_wp2_with fail
        go_ret
        exact ⟨rfl, hB13.trans (hb14.mono hB13.size)⟩
      · go_wp2_with fail
        go_ret
        exact ⟨rfl, hB13.trans (hb14.mono hB13.size)⟩
  · exfalso
    rw [HLL.out, show 2 * l.length / 2 = l.length by omega] at hbad
    rcases hbad with h | h
    · omega
    · exact h HUH.out.2
end Go.Proofs.Ytaelkgebnaeimaa
