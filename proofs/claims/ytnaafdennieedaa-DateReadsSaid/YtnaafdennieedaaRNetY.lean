/- Layer 5: hblref1.Net, where signs and numbers stand. -/
import Derived.Test.YtnaafdennieedaaRNet
import Derived.Test.YtnaafdennieedaaRNetR
namespace Go.Proofs.Ytnaafdennieedaa
open Go.RowKit

/-- What a zone, or none, makes of the rest. -/
def ofO (x : Option Int) (y mo d h mi s : Int) : Int × Int := match x with | some o => mres y mo d h mi s o | none => (0, 4)
theorem rnetR_eq (t : List UInt8) : rnetR t = ofO (rofO (t.drop (frE t))) (rdgR t 0 4) (rdgR t 5 2) (rdgR t 8 2) (rdgR t 11 2) (rdgR t 14 2) (rdgR t 17 2) := rfl
/-- In which ways a zone's text may be good or bad. -/
theorem zone_ways (l : List UInt8) : (l = [90] ∧ rofO l = some 0) ∨ (l = [122] ∧ rofO l = some 0) ∨
    (((l == [90]) = false ∧ (l == [122]) = false) ∧ ((l.length ≠ 6 ∧ rofO l = none) ∨ (l.length = 6 ∧ ((¬ (pk l 0 = 43 ∨ pk l 0 = 45) ∧ rofO l = none) ∨ ((pk l 0 = 43 ∨ pk l 0 = 45) ∧ ((pk l 3 ≠ 58 ∧ rofO l = none) ∨
      (pk l 3 = 58 ∧ rofO l = if (if roffB (rdgR l 1 2) (rdgR l 4 2) = true then (offV (pk l 0) (rdgR l 1 2) (rdgR l 4 2), true) else (0, false)).2 = true then some (if roffB (rdgR l 1 2) (rdgR l 4 2) = true then (offV (pk l 0) (rdgR l 1 2) (rdgR l 4 2), true) else (0, false)).1 else none))))))) := by
  by_cases h1 : l = [90]
  · exact .inl ⟨h1, by rw [h1]; rfl⟩
  by_cases h2 : l = [122]
  · exact .inr (.inl ⟨h2, by rw [h2]; rfl⟩)
  refine .inr (.inr ⟨⟨by simpa using h1, by simpa using h2⟩, ?_⟩)
  have e : ¬ (l = [90] ∨ l = [122]) := fun h => h.elim h1 h2
  unfold rofO
  rw [if_neg e]
  by_cases h6 : l.length = 6
  · refine .inr ⟨h6, ?_⟩
    by_cases h0 : pk l 0 = 43 ∨ pk l 0 = 45
    · refine .inr ⟨h0, ?_⟩
      by_cases h3 : pk l 3 = 58
      · refine .inr ⟨h3, ?_⟩
        by_cases g : roffB (rdgR l 1 2) (rdgR l 4 2) = true
        · rw [if_pos ⟨h6, h0, h3, g⟩, if_pos g]
          rfl
        · rw [if_neg (fun x => g x.2.2.2), if_neg g]
          rfl
      · exact .inl ⟨h3, if_neg (fun x => h3 x.2.2.1)⟩
    · exact .inl ⟨h0, if_neg (fun x => h0 x.2.1)⟩
  · exact .inl ⟨h6, if_neg (fun x => h6 x.1)⟩
theorem roff_any (c : UInt8) (a b : Int) (W : World) : Calls Try.prog 36 #[.int .i64 a, .int .i64 b, .int .u8 (c.toNat : Int)] W fun e w' => e = .returned (.tuple #[.int .i64 (if roffB a b = true then (offV c a b, true) else (0, false)).1, .bool (if roffB a b = true then (offV c a b, true) else (0, false)).2]) ∧ w' = W := by
  by_cases g : roffB a b = true
  · rw [if_pos g]
    unfold roffB at g
    rw [decide_eq_true_eq] at g
    exact roff_yes c a b W g.1 g.2.1 g.2.2.1 g.2.2.2
  · rw [if_neg g]
    unfold roffB at g
    rw [decide_eq_true_eq] at g
    exact roff_no c a b W (by omega)
theorem roff_bd (c : UInt8) (a b : Int) : -30000000 ≤ (if roffB a b = true then (offV c a b, true) else (0, false)).1 ∧ (if roffB a b = true then (offV c a b, true) else (0, false)).1 ≤ 30000000 := by
  by_cases g : roffB a b = true
  · rw [if_pos g]
    unfold roffB at g
    rw [decide_eq_true_eq] at g
    exact offV_bd c a b (by omega) (by omega) (by omega) (by omega)
  · rw [if_neg g]
    exact ⟨by decide, by decide⟩

set_option maxRecDepth 100000 in
set_option maxHeartbeats 16000000 in
theorem rnet_ya (t : List UInt8) (w : World) (hl : t.length ≤ 140737488355328) (H : rhdB t = true) (HG : rngB t = true) (h19 : ¬ pk t 19 = 46) : Calls Try.prog 12 #[str t] w fun e w' => e = twoE (if frE t = 20 then (0, 4) else rnetR t) ∧ Below w.heap.size w w' := by
  rw [rnetR_eq]
  unfold rhdB at H
  rw [decide_eq_true_eq] at H
  have h20 : 20 ≤ t.length := H.1
  have l0 : ¬ (t.length : Int) < 20 := by omega
  obtain ⟨c4, hc4⟩ : ∃ c, c = pk t 4 := ⟨_, rfl⟩
  rw [← hc4] at H
  have g4 : (ByteArray.mk t.toArray)[4]'(by simp [ByteArray.size]; omega) = c4 := by rw [hc4, pk_lt t 4 (by omega)]; rfl
  have m4 : (4 : Int) < (t.length : Int) := by omega
  clear hc4
  obtain ⟨c7, hc7⟩ : ∃ c, c = pk t 7 := ⟨_, rfl⟩
  rw [← hc7] at H
  have g7 : (ByteArray.mk t.toArray)[7]'(by simp [ByteArray.size]; omega) = c7 := by rw [hc7, pk_lt t 7 (by omega)]; rfl
  have m7 : (7 : Int) < (t.length : Int) := by omega
  clear hc7
  obtain ⟨c10, hc10⟩ : ∃ c, c = pk t 10 := ⟨_, rfl⟩
  rw [← hc10] at H
  have g10 : (ByteArray.mk t.toArray)[10]'(by simp [ByteArray.size]; omega) = c10 := by rw [hc10, pk_lt t 10 (by omega)]; rfl
  have m10 : (10 : Int) < (t.length : Int) := by omega
  clear hc10
  obtain ⟨c13, hc13⟩ : ∃ c, c = pk t 13 := ⟨_, rfl⟩
  rw [← hc13] at H
  have g13 : (ByteArray.mk t.toArray)[13]'(by simp [ByteArray.size]; omega) = c13 := by rw [hc13, pk_lt t 13 (by omega)]; rfl
  have m13 : (13 : Int) < (t.length : Int) := by omega
  clear hc13
  obtain ⟨c16, hc16⟩ : ∃ c, c = pk t 16 := ⟨_, rfl⟩
  rw [← hc16] at H
  have g16 : (ByteArray.mk t.toArray)[16]'(by simp [ByteArray.size]; omega) = c16 := by rw [hc16, pk_lt t 16 (by omega)]; rfl
  have m16 : (16 : Int) < (t.length : Int) := by omega
  clear hc16
  obtain ⟨_, k4, k7, k10, k13, k16⟩ := H
  have n4 : ((c4.toNat : Int) != 45) = false := eqb k4 rfl
  have n7 : ((c7.toNat : Int) != 45) = false := eqb k7 rfl
  have HN : (((c10.toNat : Int) != 84) = false) ∨ (((c10.toNat : Int) != 84) = true ∧ ((c10.toNat : Int) != 116) = false) := by
    by_cases k : c10 = 84
    · exact .inl (eqb k rfl)
    · exact .inr ⟨neqb k rfl, eqb (k10.resolve_left k) rfl⟩
  have n13 : ((c13.toNat : Int) != 58) = false := eqb k13 rfl
  have n16 : ((c16.toNat : Int) != 58) = false := eqb k16 rfl
  clear k4 k7 k10 k13 k16
  unfold rngB at HG
  rw [decide_eq_true_eq] at HG
  obtain ⟨y, hy⟩ : ∃ x, x = rdgR t 0 4 := ⟨_, rfl⟩
  rw [← hy]
  have D0 : Hid (∀ W, Calls Try.prog 31 #[str t, .int .i64 0, .int .i64 4] W fun e w' => e = .returned (.int .i64 y) ∧ w' = W) := Lib.hid (fun W => by rw [hy]; exact rdigits_any t 0 4 W hl (by omega) (by omega))
  rw [← hy] at HG
  clear hy
  obtain ⟨mo, hmo⟩ : ∃ x, x = rdgR t 5 2 := ⟨_, rfl⟩
  rw [← hmo]
  have D1 : Hid (∀ W, Calls Try.prog 31 #[str t, .int .i64 5, .int .i64 2] W fun e w' => e = .returned (.int .i64 mo) ∧ w' = W) := Lib.hid (fun W => by rw [hmo]; exact rdigits_any t 5 2 W hl (by omega) (by omega))
  rw [← hmo] at HG
  clear hmo
  obtain ⟨d, hd⟩ : ∃ x, x = rdgR t 8 2 := ⟨_, rfl⟩
  rw [← hd]
  have D2 : Hid (∀ W, Calls Try.prog 31 #[str t, .int .i64 8, .int .i64 2] W fun e w' => e = .returned (.int .i64 d) ∧ w' = W) := Lib.hid (fun W => by rw [hd]; exact rdigits_any t 8 2 W hl (by omega) (by omega))
  rw [← hd] at HG
  clear hd
  obtain ⟨h, hh⟩ : ∃ x, x = rdgR t 11 2 := ⟨_, rfl⟩
  rw [← hh]
  have D3 : Hid (∀ W, Calls Try.prog 31 #[str t, .int .i64 11, .int .i64 2] W fun e w' => e = .returned (.int .i64 h) ∧ w' = W) := Lib.hid (fun W => by rw [hh]; exact rdigits_any t 11 2 W hl (by omega) (by omega))
  rw [← hh] at HG
  clear hh
  obtain ⟨mi, hmi⟩ : ∃ x, x = rdgR t 14 2 := ⟨_, rfl⟩
  rw [← hmi]
  have D4 : Hid (∀ W, Calls Try.prog 31 #[str t, .int .i64 14, .int .i64 2] W fun e w' => e = .returned (.int .i64 mi) ∧ w' = W) := Lib.hid (fun W => by rw [hmi]; exact rdigits_any t 14 2 W hl (by omega) (by omega))
  rw [← hmi] at HG
  clear hmi
  obtain ⟨s, hs⟩ : ∃ x, x = rdgR t 17 2 := ⟨_, rfl⟩
  rw [← hs]
  have D5 : Hid (∀ W, Calls Try.prog 31 #[str t, .int .i64 17, .int .i64 2] W fun e w' => e = .returned (.int .i64 s) ∧ w' = W) := Lib.hid (fun W => by rw [hs]; exact rdigits_any t 17 2 W hl (by omega) (by omega))
  rw [← hs] at HG
  clear hs
  obtain ⟨z0, z1, z2, z3, z4, z5⟩ := HG
  have n0 : ¬ y < 0 := by omega
  have n1 : ¬ mo < 0 := by omega
  have n2 : ¬ d < 0 := by omega
  have n3 : ¬ h < 0 := by omega
  have n5 : ¬ mi < 0 := by omega
  have n6 : ¬ s < 0 := by omega
  clear z0 z1 z2 z3 z4 z5
  obtain ⟨c19, hc19⟩ : ∃ c, c = pk t 19 := ⟨_, rfl⟩
  have g19 : (ByteArray.mk t.toArray)[19]'(by simp [ByteArray.size]; omega) = c19 := by rw [hc19, pk_lt t 19 (by omega)]; rfl
  have m19 : (19 : Int) < (t.length : Int) := by omega
  have q19 : ((c19.toNat : Int) == 46) = false := by
    rw [beq_eq_false_iff_ne]
    intro h
    exact h19 (by rw [← hc19]; exact UInt8.toNat_inj.1 (by show c19.toNat = 46; omega))
  have hE : frE t = 19 := if_neg h19
  rw [hE, if_neg (by decide)]
  obtain ⟨l, hl0⟩ : ∃ l, l = t.drop 19 := ⟨_, rfl⟩
  have s1 : (ByteArray.mk t.toArray).extract 19 t.length = ByteArray.mk l.toArray := by rw [str_cut, List.take_of_length_le (by simp), hl0]
  have r2 : (19 : Int) ≤ (t.length : Int) := by omega
  rw [← hl0]
  have hll : l.length ≤ 140737488355328 := by rw [hl0, List.length_drop]; omega
  clear hl0 hc19 h19
  have HW := Lib.hid (zone_ways l)
  obtain ⟨R, hR⟩ : ∃ R, R = ofO (rofO l) y mo d h mi s := ⟨_, rfl⟩
  rw [← hR]
  have HR := Lib.hid hR
  clear hR
  have CM : Hid (∀ W o, -30000000 ≤ o → o ≤ 30000000 → Calls Try.prog 33 #[.int .i64 y, .int .i64 mo, .int .i64 d, .int .i64 h, .int .i64 mi, .int .i64 s, .int .i64 o] W fun e w' => e = twoE (mres y mo d h mi s o) ∧ w' = W) := Lib.hid (fun W o h1 h2 => rmade_any y mo d h mi s o W h1 h2)
  rcases HN with n10 | ⟨n10, o10⟩
  all_goals
    go_enter Try.func12, Try.ntmps12
    go_wp2_with fail
    refine (D0.out _).mono ?_
    rintro e w0 ⟨rfl, rfl⟩
    go_wp2_with fail
    refine (D1.out _).mono ?_
    rintro e w1 ⟨rfl, rfl⟩
    go_wp2_with fail
    refine (D2.out _).mono ?_
    rintro e w2 ⟨rfl, rfl⟩
    go_wp2_with fail
    refine (D3.out _).mono ?_
    rintro e w3 ⟨rfl, rfl⟩
    go_wp2_with fail
    refine (D4.out _).mono ?_
    rintro e w4 ⟨rfl, rfl⟩
    go_wp2_with fail
    refine (D5.out _).mono ?_
    rintro e w5 ⟨rfl, rfl⟩
    clear D0 D1 D2 D3 D4 D5
    have HR1 := HR.out
    rcases HW.out with ⟨rfl, eo⟩ | ⟨rfl, eo⟩ | ⟨⟨b0, b1⟩, ⟨h6, eo⟩ | ⟨h6, ⟨h0, eo⟩ | ⟨h0, ⟨h3, eo⟩ | ⟨h3, eo⟩⟩⟩⟩
    · rw [eo] at HR1
      have HR2 : Hid (R = mres y mo d h mi s 0) := Lib.hid HR1
      clear HR1 eo HR HW
      go_wp2_with fail
      refine (CM.out _ 0 (by decide) (by decide)).mono ?_
      rintro e w7 ⟨rfl, rfl⟩
      rw [← HR2.out]
      unfold twoE
      go_wp2_with fail
      go_ret2
      exact ⟨rfl, by first | exact Below.refl _ _ | exact Below.drewsN (Below.refl _ _) _⟩
    · rw [eo] at HR1
      have HR2 : Hid (R = mres y mo d h mi s 0) := Lib.hid HR1
      clear HR1 eo HR HW
      go_wp2_with fail
      refine (CM.out _ 0 (by decide) (by decide)).mono ?_
      rintro e w7 ⟨rfl, rfl⟩
      rw [← HR2.out]
      unfold twoE
      go_wp2_with fail
      go_ret2
      exact ⟨rfl, by first | exact Below.refl _ _ | exact Below.drewsN (Below.refl _ _) _⟩
    · have d6 : ((l.length : Int) != 6) = true := by
        rw [bne_iff_ne]
        intro h
        exact h6 (by omega)
      rw [eo] at HR1
      have HR2 := Lib.hid HR1
      clear HR1 eo HR HW
      clear h6
      go_wp2_with fail
      go_ret2
      exact ⟨congrArg twoE HR2.out.symm, by first | exact Below.refl _ _ | exact Below.drewsN (Below.refl _ _) _⟩
    · have d6 : ((l.length : Int) != 6) = false := by rw [h6]; rfl
      have l0 : (0 : Int) < (l.length : Int) := by omega
      have l3 : (3 : Int) < (l.length : Int) := by omega
      obtain ⟨c0, hc0⟩ : ∃ c, c = pk l 0 := ⟨_, rfl⟩
      have k0 : 0 < l.length := by omega
      have k3 : 3 < l.length := by omega
      have gc0 : (ByteArray.mk l.toArray)[0]'(by simpa [ByteArray.size] using k0) = c0 := by rw [hc0, pk_lt l 0 (by omega)]; rfl
      rw [← hc0] at h0
      rw [eo] at HR1
      have HR2 := Lib.hid HR1
      clear HR1 eo HR HW
      have f0 : ((c0.toNat : Int) != 43) = true := neqb (fun h => h0 (.inl h)) rfl
      have f1 : ((c0.toNat : Int) != 45) = true := neqb (fun h => h0 (.inr h)) rfl
      clear h6 h0 hc0
      go_wp2_with fail
      go_ret2
      exact ⟨congrArg twoE HR2.out.symm, by first | exact Below.refl _ _ | exact Below.drewsN (Below.refl _ _) _⟩
    · have d6 : ((l.length : Int) != 6) = false := by rw [h6]; rfl
      have l0 : (0 : Int) < (l.length : Int) := by omega
      have l3 : (3 : Int) < (l.length : Int) := by omega
      obtain ⟨c0, hc0⟩ : ∃ c, c = pk l 0 := ⟨_, rfl⟩
      have k0 : 0 < l.length := by omega
      have k3 : 3 < l.length := by omega
      have gc0 : (ByteArray.mk l.toArray)[0]'(by simpa [ByteArray.size] using k0) = c0 := by rw [hc0, pk_lt l 0 (by omega)]; rfl
      rw [← hc0] at h0
      obtain ⟨c3, hc3⟩ : ∃ c, c = pk l 3 := ⟨_, rfl⟩
      have gc3 : (ByteArray.mk l.toArray)[3]'(by simpa [ByteArray.size] using k3) = c3 := by rw [hc3, pk_lt l 3 (by omega)]; rfl
      rw [← hc3] at h3
      have HS : (((c0.toNat : Int) != 43) = false) ∨ (((c0.toNat : Int) != 43) = true ∧ ((c0.toNat : Int) != 45) = false) := by
        by_cases k : c0 = 43
        · exact .inl (eqb k rfl)
        · exact .inr ⟨neqb k rfl, eqb (h0.resolve_left k) rfl⟩
      rw [eo] at HR1
      have HR2 := Lib.hid HR1
      clear HR1 eo HR HW
      have f3 : ((c3.toNat : Int) != 58) = true := neqb h3 rfl
      clear h6 h0 h3 hc0 hc3
      rcases HS with f0 | ⟨f0, f1⟩
      all_goals
        go_wp2_with fail
        go_ret2
        exact ⟨congrArg twoE HR2.out.symm, by first | exact Below.refl _ _ | exact Below.drewsN (Below.refl _ _) _⟩
    · have d6 : ((l.length : Int) != 6) = false := by rw [h6]; rfl
      have l0 : (0 : Int) < (l.length : Int) := by omega
      have l3 : (3 : Int) < (l.length : Int) := by omega
      obtain ⟨c0, hc0⟩ : ∃ c, c = pk l 0 := ⟨_, rfl⟩
      have k0 : 0 < l.length := by omega
      have k3 : 3 < l.length := by omega
      have gc0 : (ByteArray.mk l.toArray)[0]'(by simpa [ByteArray.size] using k0) = c0 := by rw [hc0, pk_lt l 0 (by omega)]; rfl
      rw [← hc0] at h0
      obtain ⟨c3, hc3⟩ : ∃ c, c = pk l 3 := ⟨_, rfl⟩
      have gc3 : (ByteArray.mk l.toArray)[3]'(by simpa [ByteArray.size] using k3) = c3 := by rw [hc3, pk_lt l 3 (by omega)]; rfl
      rw [← hc3] at h3
      have HS : (((c0.toNat : Int) != 43) = false) ∨ (((c0.toNat : Int) != 43) = true ∧ ((c0.toNat : Int) != 45) = false) := by
        by_cases k : c0 = 43
        · exact .inl (eqb k rfl)
        · exact .inr ⟨neqb k rfl, eqb (h0.resolve_left k) rfl⟩
      have f3 : ((c3.toNat : Int) != 58) = false := eqb h3 rfl
      have C1 : Hid (∀ W, Calls Try.prog 31 #[str l, .int .i64 1, .int .i64 2] W fun e w' => e = .returned (.int .i64 (rdgR l 1 2)) ∧ w' = W) := Lib.hid (fun W => rdigits_any l 1 2 W (by omega) (by omega) (by omega))
      have C2 : Hid (∀ W, Calls Try.prog 31 #[str l, .int .i64 4, .int .i64 2] W fun e w' => e = .returned (.int .i64 (rdgR l 4 2)) ∧ w' = W) := Lib.hid (fun W => rdigits_any l 4 2 W (by omega) (by omega) (by omega))
      rw [← hc0] at eo
      obtain ⟨va, hva⟩ : ∃ a, a = rdgR l 1 2 := ⟨_, rfl⟩
      obtain ⟨vb, hvb⟩ : ∃ b, b = rdgR l 4 2 := ⟨_, rfl⟩
      rw [← hva] at C1 eo
      rw [← hvb] at C2 eo
      have CO := Lib.hid (roff_any c0 va vb)
      obtain ⟨rb1, rb2⟩ := roff_bd c0 va vb
      obtain ⟨r, hr⟩ : ∃ r, r = (if roffB va vb = true then (offV c0 va vb, true) else (0, false)) := ⟨_, rfl⟩
      rw [← hr] at eo CO rb1 rb2
      clear hva hvb hr
      obtain ⟨o, ok⟩ := r
      dsimp only at eo CO rb1 rb2
      rw [eo] at HR1
      have HY : Hid (ok = true → R = mres y mo d h mi s o) := Lib.hid (fun hk => by rw [HR1, hk]; rfl)
      have HZ : Hid (ok = false → R = (0, 4)) := Lib.hid (fun hk => by rw [HR1, hk]; rfl)
      clear HR1 eo HR HW
      clear h6 h0 h3 hc0 hc3
      rcases HS with f0 | ⟨f0, f1⟩
      all_goals
        go_wp2_with fail
        go_quiet ((first
          | (go_at_call 31; with_reducible exact Calls.quiet_of_same (C1.out _))
          | (go_at_call 31; with_reducible exact Calls.quiet_of_same (C2.out _))
          | (go_at_call 36; with_reducible exact Calls.quiet_of_same (CO.out _))))
        clear C1 C2 CO
        cases ok with
        | true =>
          go_wp2_with fail
          refine (CM.out _ o rb1 rb2).mono ?_
          rintro e w7 ⟨rfl, rfl⟩
          have e9 : R = mres y mo d h mi s o := by simpa using HY.out
          rw [← e9]
          clear e9
          unfold twoE
          go_wp2_with fail
          go_ret2
          exact ⟨rfl, by first | exact Below.refl _ _ | exact Below.drewsN (Below.refl _ _) _⟩
        | false =>
          have e9 : Hid (R = (0, 4)) := Lib.hid (by simpa using HZ.out)
          go_wp2_with fail
          go_ret2
          exact ⟨congrArg twoE e9.out.symm, by first | exact Below.refl _ _ | exact Below.drewsN (Below.refl _ _) _⟩
end Go.Proofs.Ytnaafdennieedaa
