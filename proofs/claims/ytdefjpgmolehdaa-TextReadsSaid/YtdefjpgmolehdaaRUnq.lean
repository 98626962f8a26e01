/- hblref1's Unquote by its contract. -/
import Derived.Test.YtdefjpgmolehdaaREsc
namespace Go.Proofs.Ytdefjpgmolehdaa
open Go.RowKit

attribute [local go_sem] str_cat

theorem escR_err (t : List UInt8) (p : Nat) : (refEscR t p).2.2 = (escR t (p + 1)).1 := by
  unfold refEscR
  split
  · next h => exact h.symm
  · rfl

set_option maxRecDepth 100000 in
set_option maxHeartbeats 6400000 in
theorem refUnquote_any (t : List UInt8) (a : Int) (w : World) (hl : t.length ≤ 17592186044416) :
    Calls Try.prog 12 #[str t, .int .i64 a] w fun e w' => e = unqE (unqR t a) ∧ Below w.heap.size w w' := by
  by_cases h1 : a < 0
  · have hv : unqR t a = ([], 0, 1) := by rw [unqR, if_pos (.inl h1)]
    rw [hv]
    clear hv
    go_enter Try.func12, Try.ntmps12
    go_wp2_with fail
    go_ret3
    exact ⟨rfl, Below.refl _ _⟩
  by_cases h2 : (t.length : Int) < a
  · have hv : unqR t a = ([], 0, 1) := by rw [unqR, if_pos (.inr h2)]
    rw [hv]
    clear hv
    go_enter Try.func12, Try.ntmps12
    go_wp2_with fail
    go_ret3
    exact ⟨rfl, Below.refl _ _⟩
  obtain ⟨p, rfl⟩ := Int.eq_ofNat_of_zero_le (show 0 ≤ a by omega)
  have hp : p ≤ t.length := by omega
  have g1 : (0 : Int) ≤ (p : Int) := by omega
  have g2 : (p : Int) ≤ (t.length : Int) := by omega
  have hu : unqR t (p : Int) = if wantN t p 34 ≠ 0 then ([], 0, wantN t p 34) else unqF (t.length + 1) t (p + 1) [] := by rw [unqR, if_neg (by omega)]; rfl
  have HU := Lib.hid hu
  clear hu h1 h2
  by_cases hlt : p < t.length
  · have n1 : ((p : Int) == (t.length : Int)) = false := by rw [beq_eq_false_iff_ne]; omega
    have n2 : (p : Int) < (t.length : Int) := by omega
    obtain ⟨d, hd⟩ : ∃ d, d = t[p] := ⟨_, rfl⟩
    have hgd : (ByteArray.mk t.toArray)[p]'(by simpa [ByteArray.size] using hlt) = d := hd.symm
    have hd' : t[p]? = some d := by rw [hd]; exact List.getElem?_eq_getElem hlt
    have HD := Lib.hid hd'
    clear hd hd'
    by_cases h34 : d = 34
    · have n4 : ((d.toNat : Int) != 34) = false := by rw [h34]; rfl
      have hw : wantN t p 34 = 0 := by rw [wantN, if_pos hlt, HD.out, h34, if_pos rfl]
      have hv : unqR t (p : Int) = unqF (t.length + 1) t (p + 1) [] := by rw [HU.out, hw, if_neg (by simp)]
      have HV := Lib.hid hv
      have x1 : decide (t.length < p) = false := by simp; omega
      have x2 : decide ((p : Int) < 0) = false := by simp
      clear hv hw h34
      go_enter Try.func12, Try.ntmps12
      go_wp2_with fail
      go_loopw [1, 7] (fun i s wr => ∃ (f q : Nat) (o : List UInt8), i = .int .i64 (q : Int) ∧ s = str o ∧ t.length - q < f ∧ q ≤ t.length ∧ o.length ≤ 4 * q ∧ Below w.heap.size w wr ∧ Hid (unqR t (p : Int) = unqF f t q o))
        (fun i _ _ => t.length - (intOf i).toNat)
      case atStart => exact ⟨t.length + 1, p + 1, [], by go_num, rfl, by omega, by omega, by simp, Below.refl _ _, HV⟩
      case round =>
        obtain ⟨f, q, o, rfl, rfl, hf, hq, ho, hb, hr⟩ := hrel
        obtain ⟨f, rfl⟩ : ∃ g, f = g + 1 := ⟨f - 1, by omega⟩
        have hr2 := hr.out
        rw [unqF] at hr2
        have hus := stepR_use t q hq
        have hpos := stepR_pos t q
        have HR := Lib.hid hr2
        have HUS := Lib.hid hus
        have HPOS := Lib.hid hpos
        clear hr hr2 hus hpos
        by_cases hqt : q < t.length
        · have q2 : (q : Int) < (t.length : Int) := by omega
          have q3 : (0 : Int) ≤ (q : Int) := by omega
          obtain ⟨c, hc⟩ : ∃ c, c = t[q] := ⟨_, rfl⟩
          have hgc : (ByteArray.mk t.toArray)[q]'(by simpa [ByteArray.size] using hqt) = c := hc.symm
          have hc' : t[q]? = some c := by rw [hc]; exact List.getElem?_eq_getElem hqt
          have hstep : stepR t q = (if c = 34 then (true, 0, 1, [])
            else if c = 92 then (false, (escR t (q + 1)).1, (escR t (q + 1)).2.1 + 1, (escR t (q + 1)).2.2)
            else if (sgn (t.drop q)).2 = 0 ∨ (sgn (t.drop q)).1 < 32 then (false, 4, 0, [])
            else (false, 0, (sgn (t.drop q)).2, (t.drop q).take (sgn (t.drop q)).2)) := by rw [stepR, hc']
          have HST := Lib.hid hstep
          have hc255 := c.toNat_lt
          have hdrop : t.drop q = c :: t.drop (q + 1) := by rw [hc]; exact List.drop_eq_getElem_cons hqt
          have HDR := Lib.hid hdrop
          clear hc hc' hstep hdrop
          by_cases hc34 : c = 34
          · have m1 : ((c.toNat : Int) == 34) = true := by rw [hc34]; rfl
            have hs : stepR t q = (true, 0, 1, []) := by rw [HST.out, if_pos hc34]
            have hv : unqR t (p : Int) = (o, q + 1, 0) := by rw [HR.out, hs]; simp
            have HV := Lib.hid hv
            clear hv hs hc34
            go_wp2_with fail
            go_ret3
            exact ⟨by rw [HV.out]; rfl, hb⟩
          have m1 : ((c.toNat : Int) == 34) = false := by
            rw [beq_eq_false_iff_ne]; intro h; exact hc34 (UInt8.toNat_inj.1 (by simpa using (by omega : c.toNat = 34)))
          by_cases hc92 : c = 92
          · have m2 : ((c.toNat : Int) == 92) = true := by rw [hc92]; rfl
            have hs : stepR t q = (false, (escR t (q + 1)).1, (escR t (q + 1)).2.1 + 1, (escR t (q + 1)).2.2) := by rw [HST.out, if_neg hc34, if_pos hc92]
            obtain ⟨er, us, by_, he⟩ : ∃ er us by_, escR t (q + 1) = (er, us, by_) := ⟨_, _, _, rfl⟩
            rw [he] at hs
            simp only at hs
            have hus := HUS.out
            rw [hs] at hus
            simp only at hus
            have HE := Lib.hid he
            by_cases he0 : er = 0
            · subst he0
              have hre : refEscR t q = (by_, q + 1 + us, 0) := by rw [refEscR, he]; rfl
              have hv : unqR t (p : Int) = unqF f t (q + 1 + us) (o ++ by_) := by
                rw [HR.out, hs]; simp only; rw [if_neg (by simp), if_neg (by simp), show q + (us + 1) = q + 1 + us by omega]
              have hcat := str_cat o by_
              have q5 : ¬ (9223372036854775807 < o.length + by_.length) := by omega
              have HRE := Lib.hid hre
              have HV := Lib.hid hv
              obtain ⟨qn, hqn⟩ : ∃ qn, qn = q + 1 + us := ⟨_, rfl⟩
              have HQN := Lib.hid hqn
              have CE : ∀ W, Calls Try.prog 24 #[str t, .int .i64 (q : Int)] W fun e w' => e = .returned (.tuple #[str by_, .int .i64 (qn : Int), .int .i64 0]) ∧ Below W.heap.size W w' := fun W => by
                have := refEscape_any t q W hqt (by omega)
                rw [hre, ← hqn] at this
                exact this
              have HCE := Lib.hid CE
              clear hv hs hc34 hc92 he hre CE hqn
              go_wp2_with fail
              refine (HCE.out _).mono ?_
              rintro e w2 ⟨rfl, hb2⟩
              go_wp2_with fail
              go_roundw
              case rel => exact ⟨f, qn, o ++ by_, rfl, rfl, by have := HQN.out; omega, by have := HQN.out; omega, by have := HQN.out; rw [List.length_append]; omega, hb.trans (hb2.mono hb.size), by rw [HQN.out]; exact HV⟩
              case measure => have := HQN.out; simp [intOf]; omega
            · have n0 : ((er : Int) != 0) = true := by rw [bne_iff_ne]; omega
              have hre : refEscR t q = ([], 0, er) := by rw [refEscR, he, if_neg he0]
              have hv : unqR t (p : Int) = ([], 0, er) := by rw [HR.out, hs]; simp only; rw [if_pos he0]
              have HV := Lib.hid hv
              have CE : ∀ W, Calls Try.prog 24 #[str t, .int .i64 (q : Int)] W fun e w' => e = .returned (.tuple #[str [], .int .i64 0, .int .i64 (er : Int)]) ∧ Below W.heap.size W w' := fun W => by
                have := refEscape_any t q W hqt (by omega)
                rw [hre] at this
                exact this
              have HCE := Lib.hid CE
              clear hv hs hc34 hc92 he hre CE he0
              go_wp2_with fail
              refine (HCE.out _).mono ?_
              rintro e w2 ⟨rfl, hb2⟩
              go_wp2_with fail
              go_ret3
              exact ⟨by rw [HV.out]; rfl, hb.trans (hb2.mono hb.size)⟩
          have m2 : ((c.toNat : Int) == 92) = false := by
            rw [beq_eq_false_iff_ne]; intro h; exact hc92 (UInt8.toNat_inj.1 (by simpa using (by omega : c.toNat = 92)))
          have hle := sgn_le (t.drop q)
          rw [List.length_drop] at hle
          have hge32 : (sgn (t.drop q)).2 ≠ 0 → ((sgn (t.drop q)).1 < 32 ↔ c.toNat < 32) := by
            rw [HDR.out]
            intro hz
            by_cases h128 : c.toNat < 128
            · rw [sgn_small c _ h128]
            · obtain ⟨k, least, acc, a, h1, h2, h3, h4⟩ := sgn_big c _ (by omega) hz
              rw [h1]; simp only; omega
          obtain ⟨x, z, hxz⟩ : ∃ x z, sgn (t.drop q) = (x, z) := ⟨_, _, rfl⟩
          have hs := HST.out
          rw [if_neg hc34, if_neg hc92, hxz] at hs
          rw [hxz] at hle hge32
          simp only at hle hge32 hs
          have CS : ∀ W, Calls Try.prog 25 #[str t, .int .i64 (q : Int)] W fun e w' => e = .returned (.tuple #[.int .i64 (x : Int), .int .i64 (z : Int), .bool (decide (z ≠ 0))]) ∧ w' = W := fun W => by
            have := refSign_any t q W hqt (by omega)
            rw [hxz] at this
            exact this
          have HG := Lib.hid hge32
          have HS := Lib.hid hs
          clear hc34 hc92 hxz hs hge32
          by_cases hz : z = 0
          · have hs2 : stepR t q = (false, 4, 0, []) := by rw [HS.out, if_pos (.inl hz)]
            have hv : unqR t (p : Int) = ([], 0, 4) := by rw [HR.out, hs2]; rfl
            rw [show decide (z ≠ 0) = false by simp [hz]] at CS
            have HCS := Lib.hid CS
            have HV := Lib.hid hv
            clear hv hz CS hs2
            go_wp2_with fail
            refine (HCS.out _).mono ?_
            rintro e w2 ⟨rfl, rfl⟩
            go_wp2_with fail
            go_ret3
            exact ⟨by rw [HV.out]; rfl, hb⟩
          rw [show decide (z ≠ 0) = true by simp [hz]] at CS
          have HCS := Lib.hid CS
          clear CS
          by_cases h32 : c.toNat < 32
          · have m3 : (c.toNat : Int) < 32 := by omega
            have hs2 : stepR t q = (false, 4, 0, []) := by rw [HS.out, if_pos (.inr ((HG.out hz).2 h32))]
            have hv : unqR t (p : Int) = ([], 0, 4) := by rw [HR.out, hs2]; rfl
            have HV := Lib.hid hv
            clear hv hz hs2
            go_wp2_with fail
            refine (HCS.out _).mono ?_
            rintro e w2 ⟨rfl, rfl⟩
            go_wp2_with fail
            go_ret3
            exact ⟨by rw [HV.out]; rfl, hb⟩
          · have m3 : ¬ (c.toNat : Int) < 32 := by omega
            obtain ⟨y, hy⟩ : ∃ y, y = (t.drop q).take z := ⟨_, rfl⟩
            have hylen : y.length = z := by rw [hy]; simp; omega
            have hs2 : stepR t q = (false, 0, z, y) := by rw [HS.out, if_neg (by rintro (h | h); exact hz h; exact h32 ((HG.out hz).1 h)), hy]
            have hv : unqR t (p : Int) = unqF f t (q + z) (o ++ y) := by rw [HR.out, hs2]; rfl
            have hcat := str_cat o y
            have hcut : (ByteArray.mk t.toArray).extract q (q + z) = ByteArray.mk y.toArray := by rw [str_cut, hy]; simp
            have q5 : ¬ (9223372036854775807 < o.length + y.length) := by omega
            have q6 : (q : Int) + (z : Int) ≤ (t.length : Int) := by omega
            have q7 : (q : Int) ≤ (q : Int) + (z : Int) := by omega
            have q8 : ((q : Int) + (z : Int)).toNat = q + z := by omega
            have q9 : (0 : Int) ≤ (q : Int) + (z : Int) := by omega
            have HV := Lib.hid hv
            have HYL := Lib.hid hylen
            have q10 : IntKind.i64.wrap ((q : Int) + (z : Int)) = (q : Int) + (z : Int) := IntWalk.i64_in _ ⟨by omega, by omega⟩
            have HZ := Lib.hid hz
            clear hv hy hylen hz hs2
            go_wp2_with fail
            refine (HCS.out _).mono ?_
            rintro e w2 ⟨rfl, rfl⟩
            go_wp2_with fail
            go_roundw
            case rel => exact ⟨f, q + z, o ++ y, by go_num, rfl, by have := HZ.out; omega, by omega, by rw [List.length_append, HYL.out]; omega, hb, HV⟩
            case measure => have := HZ.out; clear q10; simp [intOf]; omega
        · have q2 : ¬ (q : Int) < (t.length : Int) := by omega
          have hs : stepR t q = (false, 2, 0, []) := by rw [stepR, List.getElem?_eq_none (by omega)]
          have hv : unqR t (p : Int) = ([], 0, 2) := by rw [HR.out, hs]; rfl
          have HV := Lib.hid hv
          clear hv hs
          go_wp2_with fail
          go_ret3
          exact ⟨by rw [HV.out]; rfl, hb⟩
    · have n4 : ((d.toNat : Int) != 34) = true := by
        rw [bne_iff_ne]; intro h; exact h34 (UInt8.toNat_inj.1 (by simpa using (by omega : d.toNat = 34)))
      have hw : wantN t p 34 = 4 := by rw [wantN, if_pos hlt, HD.out, if_neg (by simpa using h34)]
      have hv : unqR t (p : Int) = ([], 0, 4) := by rw [HU.out, hw]; rfl
      have HV := Lib.hid hv
      clear hv hw h34
      go_enter Try.func12, Try.ntmps12
      go_wp2_with fail
      go_ret3
      exact ⟨by rw [HV.out]; rfl, Below.refl _ _⟩
  · obtain rfl : p = t.length := by omega
    have n1 : ((t.length : Int) == (t.length : Int)) = true := beq_self_eq_true _
    have hw : wantN t t.length 34 = 2 := by rw [wantN, if_neg hlt]
    have hv : unqR t (t.length : Int) = ([], 0, 2) := by rw [HU.out, hw]; rfl
    have HV := Lib.hid hv
    clear hv hw
    go_enter Try.func12, Try.ntmps12
    go_wp2_with fail
    go_ret3
    exact ⟨by rw [HV.out]; rfl, Below.refl _ _⟩
end Go.Proofs.Ytdefjpgmolehdaa
