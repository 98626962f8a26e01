/- hblref.Dec: a number in decimal digits. -/
import Derived.Test.YtjnejbeeoepdnaaDoorSignAt
import Derived.Test.YtjnejbeeoepdnaaDoorTLaw
import Derived.Lib.ItoaNum
import Derived.Deep.RegionWith
namespace Go.Proofs.YtjnejbeeoepdnaaDoor
open Go.RowKit
attribute [local go_sem] str_cat

theorem itoa_nat (u : Nat) : Lib.itoa (u : Int) = Lib.decDigits u := by unfold Lib.itoa; rw [if_neg (by omega)]; rfl
theorem dec_small {u : Nat} (h : u < 10) : Lib.decDigits u = [UInt8.ofNat (48 + u)] := Lib.decDigits_one h
theorem dec_big {u : Nat} (h : ¬ u < 10) : Lib.decDigits u = Lib.decDigits (u / 10) ++ [UInt8.ofNat (48 + u % 10)] := by rw [Lib.decDigits, dif_neg h]
theorem dec_len {u : Nat} (h : u < 18446744073709551616) : (Lib.decDigits u).length ≤ 20 := by
  rw [Lib.decDigits_length]
  have h2 : ∀ k u : Nat, u < 10 ^ k → 1 ≤ k → Lib.nDigits u ≤ k := by
    intro k
    induction k with
    | zero => intro u _ h; omega
    | succ k ih =>
      intro u hu _
      by_cases hs : u < 10
      · rw [Lib.nDigits_small hs]; omega
      · rw [Lib.nDigits_big hs]
        have hk : 1 ≤ k := by
          rcases k with _ | k
          · simp at hu; omega
          · omega
        have := ih (u / 10) (by rw [Nat.pow_succ] at hu; omega) hk
        omega
  exact h2 20 u (by omega) (by omega)
theorem Below.undrew {B : Nat} {w w' : World} (h : Below B w.drew w') : Below B w w' := ⟨h.os, h.tape, h.output, h.size, h.block⟩
/-- A byte alone, as a string, in whatever world behind. -/
theorem conv_one (c : UInt8) (n : Int) (hn : n = (c.toNat : Int)) (w W : World) (hb : Below (w.heap.size + 1) (w.alloc (.cells #[.int .u8 n] 5)) W) :
    (convert 81 9 (.slice (some ⟨w.heap.size, 0, none⟩) 1 1)).run Tryd.prog W = .ok (str [c]) W :=
  bt.toString (S := 9) Tryd.underlying9 ((Rd.one 5 w c n hn).below hb (by simp))
set_option maxRecDepth 100000 in
set_option maxHeartbeats 1000000 in
theorem dec_any : ∀ (u : Nat), u < 9223372036854775808 → ∀ w : World, Calls Tryd.prog 67 #[.int .i64 (u : Int)] w fun e w' => e = .returned (str (Lib.decDigits u)) ∧ Below w.heap.size w w' := by
  intro u
  induction u using Nat.strongRecOn with
  | ind u ih =>
    intro hu w
    have n0 : ¬ (u : Int) < 0 := by omega
    by_cases hs : u < 10
    · rw [dec_small hs]
      have n1 : (u : Int) < 10 := by omega
      obtain ⟨c, hc⟩ : ∃ c, c = UInt8.ofNat (48 + u) := ⟨_, rfl⟩
      have hcn : ((48 : Int) + (u : Int)) = (c.toNat : Int) := by rw [hc, UInt8.toNat_ofNat']; omega
      rw [← hc]
      have k1 := conv_one c _ hcn w _ (Below.refl _ _)
      clear hc hs ih
      have HN := Lib.hid hcn
      clear hcn
      go_enter Tryd.func67, Tryd.ntmps67
      go_wp2
      go_ret
      exact ⟨rfl, below_alloc _ _⟩
    · rw [dec_big hs]
      have n1 : ¬ (u : Int) < 10 := by omega
      obtain ⟨q, hq⟩ : ∃ q, q = u / 10 := ⟨_, rfl⟩
      obtain ⟨r, hr⟩ : ∃ r, r = u % 10 := ⟨_, rfl⟩
      have HD := Lib.hid (ih (u / 10) (by omega) (by omega))
      have hl := dec_len (u := u / 10) (by omega)
      rw [← hq] at HD hl ⊢
      rw [← hr]
      obtain ⟨D, hD⟩ : ∃ D, D = Lib.decDigits q := ⟨_, rfl⟩
      rw [← hD] at HD hl ⊢
      obtain ⟨c, hc⟩ : ∃ c, c = UInt8.ofNat (48 + r) := ⟨_, rfl⟩
      have hr10 : r < 10 := by omega
      have hcn : (48 : Int) + (r : Int) = (c.toNat : Int) := by rw [hc, UInt8.toNat_ofNat']; omega
      rw [← hc]
      have e0 : (u : Int) / 10 = (q : Int) := by omega
      have e0' : Int.tdiv (u : Int) 10 = (q : Int) := by rw [Int.tdiv_eq_ediv_of_nonneg (by omega)]; omega
      have e1 : (u : Int) % 10 = (r : Int) := by omega
      have e1' : Int.tmod (u : Int) 10 = (r : Int) := by rw [Int.tmod_eq_emod_of_nonneg (by omega)]; omega
      have e2 : IntKind.i64.wrap (c.toNat : Int) = (c.toNat : Int) := IntWalk.i64_in _ (by have := c.toNat_lt; omega)
      have e4 : IntKind.i64.wrap (q : Int) = (q : Int) := IntWalk.i64_in _ (by omega)
      have e3 : (c.toNat : Int) % 256 = (c.toNat : Int) := by have := c.toNat_lt; omega
      have e3' : IntKind.u8.wrap (c.toNat : Int) = (c.toNat : Int) := by have := c.toNat_lt; show (c.toNat : Int) % 256 = _; omega
      have hlen : ¬ (9223372036854775807 < D.length + 1) := by omega
      clear hD hc hs ih hq hr
      have HCA : Hid (Calls Tryd.prog 67 #[.int .i64 (q : Int)] ((w.alloc (.cells #[.int .u8 (c.toNat : Int)] 5)).drew) fun e w' => e = .returned (str D) ∧ Below w.heap.size w w' ∧ (convert 81 9 (.slice (some ⟨w.heap.size, 0, none⟩) 1 1)).run Tryd.prog w' = .ok (str [c]) w') := Lib.hid ((HD.out _).mono (fun e w' ⟨h1, h2⟩ => ⟨h1, (below_alloc w _).trans ((Below.undrew h2).mono (by simp)), conv_one c _ rfl w w' (by simpa using Below.undrew h2)⟩))
      have HCB : Hid (∀ W, Calls Tryd.prog 67 #[.int .i64 (q : Int)] W fun e w' => e = .returned (str D) ∧ Below W.heap.size W w') := HD
      have k0 : ∀ W : World, (convert 81 9 (.slice (some ⟨W.heap.size, 0, none⟩) 1 1)).run Tryd.prog (W.alloc (.cells #[.int .u8 (c.toNat : Int)] 5)) = .ok (str [c]) (W.alloc (.cells #[.int .u8 (c.toNat : Int)] 5)) := fun W => conv_one c _ rfl W _ (Below.refl _ _)
      have k1 : ∀ W : World, (convert 81 9 (.slice (some ⟨W.heap.size, 0, none⟩) 1 1)).run Tryd.prog (W.alloc (.cells #[.int .u8 (c.toNat : Int)] 5)).drew = .ok (str [c]) (W.alloc (.cells #[.int .u8 (c.toNat : Int)] 5)).drew := fun W => conv_one c _ rfl W _ (Below.drewsN (Below.refl _ _) 1)
      go_enter Tryd.func67, Tryd.ntmps67
      go_wp2_with fail
      go_region_with (first
        | (go_at_call 67
           (with_reducible refine HCA.out.mono ?_)
           rintro e w1 ⟨rfl, hb1, hk1⟩)
        | (go_at_call 67
           (with_reducible refine (HCB.out _).mono ?_)
           rintro e w1 ⟨rfl, hb1⟩)
        | fail)
      all_goals
        go_wp2_with fail
        go_ret
        first
          | exact ⟨rfl, hb1⟩
          | exact ⟨rfl, (Below.undrew hb1).trans ((below_alloc w1 _).mono (Below.undrew hb1).size)⟩
          | exact ⟨rfl, Below.drewsN ((Below.undrew hb1).trans ((below_alloc w1 _).mono (Below.undrew hb1).size)) 1⟩
set_option maxRecDepth 100000 in
set_option maxHeartbeats 1000000 in
theorem decN_any (n : Int) (h : -9223372036854775808 ≤ n ∧ n ≤ 9223372036854775807) (w : World) : Calls Tryd.prog 67 #[.int .i64 n] w fun e w' => e = .returned (str (Lib.itoa n)) ∧ Below w.heap.size w w' := by
  by_cases h0 : 0 ≤ n
  · obtain ⟨u, rfl⟩ : ∃ u : Nat, n = (u : Int) := ⟨n.toNat, by omega⟩
    rw [itoa_nat]
    exact dec_any u (by omega) w
  · obtain ⟨u, rfl⟩ : ∃ u : Nat, n = -(u : Int) := ⟨(-n).toNat, by omega⟩
    have hu : 0 < u ∧ u ≤ 9223372036854775808 := by omega
    have hit : Lib.itoa (-(u : Int)) = 45 :: Lib.decDigits u := by
      unfold Lib.itoa
      rw [if_pos (by omega), Int.natAbs_neg, Int.natAbs_natCast]
    rw [hit]
    obtain ⟨q, hq⟩ : ∃ q, q = u / 10 := ⟨_, rfl⟩
    obtain ⟨r, hr⟩ : ∃ r, r = u % 10 := ⟨_, rfl⟩
    obtain ⟨c, hc⟩ : ∃ c, c = UInt8.ofNat (48 + r) := ⟨_, rfl⟩
    have hr10 : r < 10 := by omega
    obtain ⟨z, hz⟩ : ∃ z : Int, z = -(r : Int) := ⟨_, rfl⟩
    obtain ⟨p, hp⟩ : ∃ p : Int, p = -(q : Int) := ⟨_, rfl⟩
    have hcn : (48 : Int) - z = (c.toNat : Int) := by rw [hz, hc, UInt8.toNat_ofNat']; omega
    have e0' : Int.tdiv (-(u : Int)) 10 = p := by rw [hp, Int.neg_tdiv, Int.tdiv_eq_ediv_of_nonneg (by omega)]; omega
    have e1' : Int.tmod (-(u : Int)) 10 = z := by rw [hz, Int.neg_tmod, Int.tmod_eq_emod_of_nonneg (by omega)]; omega
    obtain ⟨m, hm⟩ : ∃ m : Int, m = -(u : Int) := ⟨_, rfl⟩
    rw [← hm] at e0' e1' ⊢
    have n0 : m < 0 := by omega
    have e2 : IntKind.i64.wrap (c.toNat : Int) = (c.toNat : Int) := IntWalk.i64_in _ (by have := c.toNat_lt; omega)
    have e3 : (c.toNat : Int) % 256 = (c.toNat : Int) := by have := c.toNat_lt; omega
    have e3' : IntKind.u8.wrap (c.toNat : Int) = (c.toNat : Int) := by have := c.toNat_lt; show (c.toNat : Int) % 256 = _; omega
    by_cases hs : u < 10
    · have hd : Lib.decDigits u = [c] := by rw [dec_small hs, hc, hr, Nat.mod_eq_of_lt hs]
      rw [hd]
      have hq0 : p = 0 := by omega
      rw [hq0] at e0'
      have k1 := conv_one c _ rfl w _ (Below.refl _ _)
      have z1 : IntKind.i64.wrap 0 = 0 := rfl
      clear hd hs hq0 hp hz hm hc hr hq hit hu h0 h
      go_enter Tryd.func67, Tryd.ntmps67
      go_wp2
      go_ret
      exact ⟨rfl, below_alloc _ _⟩
    · have hd : Lib.decDigits u = Lib.decDigits q ++ [c] := by rw [dec_big hs, hc, hr, hq]
      rw [hd]
      have HD := Lib.hid (dec_any q (by omega))
      have hl := dec_len (u := q) (by omega)
      obtain ⟨D, hD⟩ : ∃ D, D = Lib.decDigits q := ⟨_, rfl⟩
      rw [← hD] at HD hl ⊢
      have hp0 : (p == 0) = false := by rw [beq_eq_false_iff_ne]; omega
      have hpn : -p = (q : Int) := by omega
      have e4 : IntKind.i64.wrap (q : Int) = (q : Int) := IntWalk.i64_in _ (by omega)
      have e5 : IntKind.i64.wrap p = p := IntWalk.i64_in _ (by omega)
      have hlen : ¬ (9223372036854775807 < D.length + 1 + 1) := by omega
      have hlen2 : ¬ (9223372036854775807 < D.length + 1) := by omega
      clear hD hc hs hq hr hd hit hu h0 h hp hz hm
      have HCA : Hid (Calls Tryd.prog 67 #[.int .i64 (q : Int)] ((w.alloc (.cells #[.int .u8 (c.toNat : Int)] 5)).drew) fun e w' => e = .returned (str D) ∧ Below w.heap.size w w' ∧ (convert 81 9 (.slice (some ⟨w.heap.size, 0, none⟩) 1 1)).run Tryd.prog w' = .ok (str [c]) w') := Lib.hid ((HD.out _).mono (fun e w' ⟨h1, h2⟩ => ⟨h1, (below_alloc w _).trans ((Below.undrew h2).mono (by simp)), conv_one c _ rfl w w' (by simpa using Below.undrew h2)⟩))
      have HCB : Hid (∀ W, Calls Tryd.prog 67 #[.int .i64 (q : Int)] W fun e w' => e = .returned (str D) ∧ Below W.heap.size W w') := HD
      have k0 : ∀ W : World, (convert 81 9 (.slice (some ⟨W.heap.size, 0, none⟩) 1 1)).run Tryd.prog (W.alloc (.cells #[.int .u8 (c.toNat : Int)] 5)) = .ok (str [c]) (W.alloc (.cells #[.int .u8 (c.toNat : Int)] 5)) := fun W => conv_one c _ rfl W _ (Below.refl _ _)
      have k1 : ∀ W : World, (convert 81 9 (.slice (some ⟨W.heap.size, 0, none⟩) 1 1)).run Tryd.prog (W.alloc (.cells #[.int .u8 (c.toNat : Int)] 5)).drew = .ok (str [c]) (W.alloc (.cells #[.int .u8 (c.toNat : Int)] 5)).drew := fun W => conv_one c _ rfl W _ (Below.drewsN (Below.refl _ _) 1)
      go_enter Tryd.func67, Tryd.ntmps67
      go_wp2_with fail
      go_region_with (first
        | (go_at_call 67
           (with_reducible refine HCA.out.mono ?_)
           rintro e w1 ⟨rfl, hb1, hk1⟩)
        | (go_at_call 67
           (with_reducible refine (HCB.out _).mono ?_)
           rintro e w1 ⟨rfl, hb1⟩)
        | fail)
      all_goals
        go_wp2_with fail
        go_ret
        first
          | exact ⟨rfl, hb1⟩
          | exact ⟨rfl, (Below.undrew hb1).trans ((below_alloc w1 _).mono (Below.undrew hb1).size)⟩
          | exact ⟨rfl, Below.drewsN ((Below.undrew hb1).trans ((below_alloc w1 _).mono (Below.undrew hb1).size)) 1⟩
end Go.Proofs.YtjnejbeeoepdnaaDoor
