/- JSON: the reader: number. -/
import Derived.Test.YtidlhajibjnkeaaGreatDoorJNum
namespace Go.Proofs.YtidlhajibjnkeaaGreatDoor
open Go.RowKit

theorem digP_short {t : List UInt8} {sg : Int} {p : Nat} (h : p = t.length) : digP t sg p = .err 2 := by unfold digP; rw [if_pos h]
theorem digP_form {t : List UInt8} {sg : Int} {p : Nat} (h : p ≠ t.length) (h1 : (dgs (t.drop p)).length = 0 ∨ (t[p]? = some 48 ∧ 1 < (dgs (t.drop p)).length)) : digP t sg p = .err 4 := by unfold digP; rw [if_neg h, if_pos h1]
theorem digP_point {t : List UInt8} {sg : Int} {p : Nat} (h : p ≠ t.length) (h1 : ¬ ((dgs (t.drop p)).length = 0 ∨ (t[p]? = some 48 ∧ 1 < (dgs (t.drop p)).length))) (h2 : ∃ c, t[p + (dgs (t.drop p)).length]? = some c ∧ (c = 46 ∨ c = 101 ∨ c = 69)) : digP t sg p = .err 4 := by unfold digP; rw [if_neg h, if_neg h1, if_pos h2]
theorem digP_range {t : List UInt8} {sg : Int} {p : Nat} (h : p ≠ t.length) (h1 : ¬ ((dgs (t.drop p)).length = 0 ∨ (t[p]? = some 48 ∧ 1 < (dgs (t.drop p)).length))) (h2 : ¬ ∃ c, t[p + (dgs (t.drop p)).length]? = some c ∧ (c = 46 ∨ c = 101 ∨ c = 69)) (h3 : 9007199254740991 < capF (dgs (t.drop p)) 0) : digP t sg p = .err 1 := by unfold digP; rw [if_neg h, if_neg h1, if_neg h2, if_pos h3]
theorem digP_ok {t : List UInt8} {sg : Int} {p : Nat} (h : p ≠ t.length) (h1 : ¬ ((dgs (t.drop p)).length = 0 ∨ (t[p]? = some 48 ∧ 1 < (dgs (t.drop p)).length))) (h2 : ¬ ∃ c, t[p + (dgs (t.drop p)).length]? = some c ∧ (c = 46 ∨ c = 101 ∨ c = 69)) (h3 : ¬ 9007199254740991 < capF (dgs (t.drop p)) 0) : digP t sg p = .ok (sg * (capF (dgs (t.drop p)) 0 : Int)) (p + (dgs (t.drop p)).length) := by unfold digP; rw [if_neg h, if_neg h1, if_neg h2, if_neg h3]
theorem ptE (c : UInt8) : c ∈ ([46, 101, 69] : List UInt8) ↔ (c = 46 ∨ c = 101 ∨ c = 69) := by simp
set_option maxRecDepth 100000 in
set_option maxHeartbeats 4000000 in
theorem number_any (t : List UInt8) (b p o : Nat) (w : World) (h : JRb w b t p o) (hp : p < t.length) (hl : t.length ≤ 140737488355328) :
    Calls Tryz.prog 44 #[.pointer (some ⟨b, 0, none⟩)] w (NumJ t w b o (numP t p)) := by
  have HD := Lib.hid (JSt.refl h)
  have c0 := h.c0
  have c1 := h.c1
  have f1 := h.fr 1
  clear h
  obtain ⟨R, hR⟩ : ∃ R, R = numP t p := ⟨_, rfl⟩
  rw [← hR]
  have HR := Lib.hid hR
  clear hR
  have n2 : (p : Int) < (t.length : Int) := by omega
  have n3 : (0 : Int) ≤ (p : Int) := by omega
  obtain ⟨c, hc⟩ : ∃ c, c = t[p] := ⟨_, rfl⟩
  have hgc : (ByteArray.mk t.toArray)[p]'(by simpa [ByteArray.size] using hp) = c := hc.symm
  have hc? : t[p]? = some c := by rw [hc]; exact List.getElem?_eq_getElem hp
  by_cases hs : c = 45
  · have HP : Hid (R = digP t (-1) (p + 1)) := Lib.hid (by rw [HR.out]; unfold numP; rw [hc?, hs, if_pos rfl])
    have s1 : ((c.toNat : Int) == 45) = true := by rw [hs]; rfl
    clear hc hc? hs HR
    go_enter Tryz.func44, Tryz.ntmps44
    go_wp2_with fail
    go_quiet (fail)
    obtain ⟨P1, hP1⟩ : ∃ P1, P1 = p + 1 := ⟨_, rfl⟩
    have hp1 : P1 ≤ t.length := by omega
    have HD1 := Lib.hid ((HD.out.drewN nq).setAt P1 ((p : Int) + 1) (by omega))
    rw [← hP1] at HP
    have e1 : (p : Int) + 1 = (P1 : Int) := by omega
    rw [e1] at HD1
    clear hP1
    go_wp2_with fail
    generalize (w.drewN nq).setCell ⟨b, 1, none⟩ (.int .i64 (P1 : Int)) = W1 at *
    have HD := HD1
    clear HD1 c0 c1 f1 n2 n3 hgc
    have c0 := HD.out.1.c0
    have c1 := HD.out.1.c1
    by_cases hpe : P1 = t.length
    · have m1 : ((P1 : Int) == (t.length : Int)) = true := by rw [hpe]; exact beq_self_eq_true _
      have HE : Hid (R = .err 2) := Lib.hid (by rw [HP.out]; exact digP_short hpe)
      clear HP hpe
      go_quiet (fail)
      go_wp2_with fail
      go_ret2
      rw [HE.out]
      exact ⟨rfl, by decide, _, _, HD.out.drewN _⟩
    have m1 : ((P1 : Int) == (t.length : Int)) = false := by rw [beq_eq_false_iff_ne]; omega
    have m2 : (P1 : Int) < (t.length : Int) := by omega
    have m3 : (0 : Int) ≤ (P1 : Int) := by omega
    obtain ⟨g, hg⟩ : ∃ g, g = t[P1] := ⟨_, rfl⟩
    have hgg : (ByteArray.mk t.toArray)[P1]'(by simp [ByteArray.size]; omega) = g := hg.symm
    have HG : Hid (t[P1]? = some g) := Lib.hid (by rw [hg]; exact List.getElem?_eq_getElem (by omega))
    obtain ⟨D, hD⟩ : ∃ D, D = dgs (t.drop P1) := ⟨_, rfl⟩
    have HDl : Hid (∀ k (h : k < D.length), t[P1 + k]? = some D[k] ∧ dgJ D[k] = true) := Lib.hid (fun k h => by
      subst hD
      have := dgs_at (t.drop P1) k h
      rw [List.getElem?_drop] at this
      exact this)
    have HDe : Hid (∀ x, t[P1 + D.length]? = some x → dgJ x = false) := Lib.hid (fun x h => by
      subst hD
      exact dgs_end (t.drop P1) x (by rw [List.getElem?_drop]; exact h))
    have hDl : P1 + D.length ≤ t.length := by
      have := dgs_le (t.drop P1)
      rw [← hD, List.length_drop] at this; omega
    have HF1 : Hid (D.length = 0 ∨ (t[P1]? = some 48 ∧ 1 < D.length) → R = .err 4) := Lib.hid (fun h => by rw [HP.out]; exact digP_form hpe (by rw [← hD]; exact h))
    have HF2 : Hid (¬ (D.length = 0 ∨ (t[P1]? = some 48 ∧ 1 < D.length)) → (∃ c, t[P1 + D.length]? = some c ∧ (c = 46 ∨ c = 101 ∨ c = 69)) → R = .err 4) := Lib.hid (fun h h2 => by rw [HP.out]; exact digP_point hpe (by rw [← hD]; exact h) (by rw [← hD]; exact h2))
    have HF3 : Hid (¬ (D.length = 0 ∨ (t[P1]? = some 48 ∧ 1 < D.length)) → (¬ ∃ c, t[P1 + D.length]? = some c ∧ (c = 46 ∨ c = 101 ∨ c = 69)) → 9007199254740991 < capF D 0 → R = .err 1) := Lib.hid (fun h h2 h3 => by rw [HP.out]; exact digP_range hpe (by rw [← hD]; exact h) (by rw [← hD]; exact h2) (by rw [← hD]; exact h3))
    have HF4 : Hid (¬ (D.length = 0 ∨ (t[P1]? = some 48 ∧ 1 < D.length)) → (¬ ∃ c, t[P1 + D.length]? = some c ∧ (c = 46 ∨ c = 101 ∨ c = 69)) → ¬ 9007199254740991 < capF D 0 → R = .ok ((-1) * (capF D 0 : Int)) (P1 + D.length)) := Lib.hid (fun h h2 h3 => by rw [HP.out, hD]; exact digP_ok hpe (by rw [← hD]; exact h) (by rw [← hD]; exact h2) (by rw [← hD]; exact h3))
    clear hg hD HP hpe
    go_quiet (fail)
    go_wp2_with fail
    go_loopg [6] D.length (fun gk v wr => ∃ (k q n : Nat), k + gk = D.length ∧ v = .int .i64 (n : Int) ∧ Hid (n = capF (D.take k) 0) ∧ Hid (q = P1 + k) ∧ q ≤ t.length ∧ n ≤ 90071992547409919 ∧ Hid (JSt w b t q o wr))
    case atStart => exact ⟨0, P1, 0, by omega, rfl, Lib.hid rfl, Lib.hid rfl, hp1, by omega, Lib.hid (HD.out.drewN _)⟩
    case round =>
      obtain ⟨k, q, n, hk, rfl, HN, HQ, hq, hn, HD⟩ := hrel
      have c0 := HD.out.1.c0
      have c1 := HD.out.1.c1
      have f1 := HD.out.1.fr 1
      by_cases hlt : k < D.length
      · obtain ⟨e1, e2⟩ := HDl.out k hlt
        rw [← HQ.out] at e1
        have hql : q < t.length := (List.getElem?_eq_some_iff.1 e1).1
        obtain ⟨x, hx⟩ : ∃ x, x = D[k] := ⟨_, rfl⟩
        rw [← hx] at e1 e2
        have hgx : (ByteArray.mk t.toArray)[q]'(by simpa [ByteArray.size] using hql) = x := (List.getElem?_eq_some_iff.1 e1).2
        obtain ⟨a1, a2⟩ := (dgJ_iff x).1 e2
        have a3 : (48 : Int) ≤ (x.toNat : Int) := by omega
        have a4 : (x.toNat : Int) ≤ 57 := by omega
        have n1 : (q : Int) < (t.length : Int) := by omega
        have n3 : (0 : Int) ≤ (q : Int) := by omega
        have CD : Hid (∀ W, Calls Tryz.prog 43 #[.int .u8 (x.toNat : Int)] W fun e w' => e = .returned (.bool true) ∧ w' = W) := Lib.hid (fun W => by have := jdigit_any x W; rw [e2] at this; exact this)
        have hsn : capF (D.take (k + 1)) 0 = if n ≤ 9007199254740991 then 10 * n + (x.toNat - 48) else n := by
          rw [List.take_add_one, List.getElem?_eq_getElem hlt, ← hx]
          show capF (D.take k ++ [x]) 0 = _
          rw [capF_snoc, ← HN.out]
        have HK := Lib.hid hk
        clear hx e1 e2 hk
        by_cases hbig : n ≤ 9007199254740991
        · rw [if_pos hbig] at hsn
          have g1 : decide ((n : Int) ≤ 9007199254740991) = true := decide_eq_true (by omega)
          obtain ⟨n', hn'⟩ : ∃ n', n' = 10 * n + (x.toNat - 48) := ⟨_, rfl⟩
          have hn'l : n' ≤ 90071992547409919 := by omega
          have u1 : (10 : Int) * (n : Int) + ((x.toNat : Int) - 48) = (n' : Int) := by omega
          have HS2 : Hid (n' = capF (D.take (k + 1)) 0) := Lib.hid (by rw [hsn, hn'])
          clear hn' hsn
          go_wp2_with fail
          go_quiet ((go_at_call 43; exact Calls.quiet_of_same (CD.out _)))
          go_wp2_with fail
          go_quiet (fail)
          go_wp2_with fail
          go_roundg (gk - 1)
          case measure => have := HK.out; omega
          case rel => exact ⟨k + 1, q + 1, n', by have := HK.out; omega, by first | rfl | exact congrArg (Value.int .i64) u1 | exact congrArg (Value.int .i64) (by omega), HS2, Lib.hid (by have := HQ.out; omega), by omega, hn'l, Lib.hid ((HD.out.drewN _).setAt (q + 1) ((q : Int) + 1) (by omega))⟩
        · rw [if_neg hbig] at hsn
          have g1 : decide ((n : Int) ≤ 9007199254740991) = false := decide_eq_false (by omega)
          have HS2 : Hid (n = capF (D.take (k + 1)) 0) := Lib.hid hsn.symm
          clear hsn
          go_wp2_with fail
          go_quiet ((go_at_call 43; exact Calls.quiet_of_same (CD.out _)))
          go_wp2_with fail
          go_roundg (gk - 1)
          case measure => have := HK.out; omega
          case rel => exact ⟨k + 1, q + 1, n, by have := HK.out; omega, rfl, HS2, Lib.hid (by have := HQ.out; omega), by omega, hn, Lib.hid ((HD.out.drewN _).setAt (q + 1) ((q : Int) + 1) (by omega))⟩
      · obtain rfl : k = D.length := by omega
        have HN2 : Hid (n = capF D 0) := Lib.hid (by have := HN.out; rwa [List.take_length] at this)
        clear hk HN hlt
        have HA : Hid ((D.length = 0 ∨ (t[P1]? = some 48 ∧ 1 < D.length)) ↔ (q = P1 ∨ (g = 48 ∧ P1 + 1 < q))) := Lib.hid (by
          have h1 := HQ.out
          have h2 := HG.out
          rw [h2]
          simp only [Option.some.injEq]
          constructor
          · rintro (h | ⟨h, h'⟩)
            · exact .inl (by omega)
            · exact .inr ⟨h, by omega⟩
          · rintro (h | ⟨h, h'⟩)
            · exact .inl (by omega)
            · exact .inr ⟨h, by omega⟩)
        by_cases hql : q < t.length
        · have n1 : (q : Int) < (t.length : Int) := by omega
          have n3 : (0 : Int) ≤ (q : Int) := by omega
          obtain ⟨x, hx⟩ : ∃ x, x = t[q] := ⟨_, rfl⟩
          have hgx : (ByteArray.mk t.toArray)[q]'(by simpa [ByteArray.size] using hql) = x := hx.symm
          have hx? : t[P1 + D.length]? = some x := by rw [← HQ.out, hx]; exact List.getElem?_eq_getElem hql
          have CD : Hid (∀ W, Calls Tryz.prog 43 #[.int .u8 (x.toNat : Int)] W fun e w' => e = .returned (.bool false) ∧ w' = W) := Lib.hid (fun W => by have := jdigit_any x W; rw [HDe.out x hx?] at this; exact this)
          obtain ⟨i, CI, hi⟩ := inJ [46, 101, 69] x
          rw [ptE] at hi
          have CI := Lib.hid CI
          have HB : Hid ((∃ c, t[P1 + D.length]? = some c ∧ (c = 46 ∨ c = 101 ∨ c = 69)) ↔ 0 ≤ i) := Lib.hid (by
            rw [hx?, hi]
            constructor
            · rintro ⟨c, hc, h⟩; cases hc; exact h
            · intro h; exact ⟨x, rfl, h⟩)
          clear hx hx? hi
          by_cases hA : q = P1 ∨ (g = 48 ∧ P1 + 1 < q)
          · have HE := Lib.hid (HF1.out (HA.out.2 hA))
            rcases hA with hA | ⟨hA, hA2⟩
            · have t1 : ((q : Int) == (P1 : Int)) = true := by rw [hA]; exact beq_self_eq_true _
              have HA1 := Lib.hid hA
              clear hA
              go_wp2_with fail
              go_quiet ((go_at_call 43; exact Calls.quiet_of_same (CD.out _)))
              go_wp2_with fail
              go_ret2
              rw [HE.out]
              exact ⟨rfl, by decide, _, _, by first | exact HD.out.drewN _ | exact (HD.out.drewN _).drewN _⟩
            · have t1 : ((q : Int) == (P1 : Int)) = false := by rw [beq_eq_false_iff_ne]; omega
              have t2 : ((g.toNat : Int) == 48) = true := by rw [hA]; rfl
              have t3 : decide ((P1 : Int) + 1 < (q : Int)) = true := decide_eq_true (by omega)
              have HA1 := Lib.hid hA
              clear hA
              go_wp2_with fail
              go_quiet ((go_at_call 43; exact Calls.quiet_of_same (CD.out _)))
              go_wp2_with fail
              go_ret2
              rw [HE.out]
              exact ⟨rfl, by decide, _, _, by first | exact HD.out.drewN _ | exact (HD.out.drewN _).drewN _⟩
          · have HnA : Hid (¬ (D.length = 0 ∨ (t[P1]? = some 48 ∧ 1 < D.length))) := Lib.hid (fun h => hA (HA.out.1 h))
            have t1 : ((q : Int) == (P1 : Int)) = false := by rw [beq_eq_false_iff_ne]; intro h; exact hA (.inl (by omega))
            have key : ∃ b2 : Bool, ((g.toNat : Int) == 48) = b2 ∧ (b2 = true → decide ((P1 : Int) + 1 < (q : Int)) = false) := by
              refine ⟨_, rfl, fun h => decide_eq_false (fun h2 => hA (.inr ⟨?_, by omega⟩))⟩
              have := eq_of_beq h
              exact UInt8.toNat_inj.1 (by have h48 : (48 : UInt8).toNat = 48 := rfl; omega)
            obtain ⟨b2, t2, t3⟩ := key
            clear hA HA HF1
            by_cases hpt : 0 ≤ i
            · have d1 : decide (0 ≤ i) = true := decide_eq_true hpt
              have HE := Lib.hid (HF2.out HnA.out (HB.out.2 hpt))
              cases b2
              all_goals
                try replace t3 := t3 rfl
                go_wp2_with fail
                go_quiet ((go_at_call 43; exact Calls.quiet_of_same (CD.out _)))
                go_wp2_with fail
                go_quiet ((go_at_call 39; exact quiet_two (CI.out _)))
                go_wp2_with fail
                go_ret2
                rw [HE.out]
                exact ⟨rfl, by decide, _, _, by first | exact HD.out.drewN _ | exact (HD.out.drewN _).drewN _⟩
            · have d1 : decide (0 ≤ i) = false := decide_eq_false hpt
              have HnB : Hid (¬ ∃ c, t[P1 + D.length]? = some c ∧ (c = 46 ∨ c = 101 ∨ c = 69)) := Lib.hid (fun h => hpt (HB.out.1 h))
              by_cases hr : 9007199254740991 < n
              · have d2 : decide ((9007199254740991 : Int) < (n : Int)) = true := decide_eq_true (by omega)
                have HE := Lib.hid (HF3.out HnA.out HnB.out (by rw [← HN2.out]; exact hr))
                cases b2
                all_goals
                  try replace t3 := t3 rfl
                  go_wp2_with fail
                  go_quiet ((go_at_call 43; exact Calls.quiet_of_same (CD.out _)))
                  go_wp2_with fail
                  go_quiet ((go_at_call 39; exact quiet_two (CI.out _)))
                  go_wp2_with fail
                  go_ret2
                  rw [HE.out]
                  exact ⟨rfl, by decide, _, _, by first | exact HD.out.drewN _ | exact (HD.out.drewN _).drewN _⟩
              · have d2 : decide ((9007199254740991 : Int) < (n : Int)) = false := decide_eq_false (by omega)
                have HE := Lib.hid (HF4.out HnA.out HnB.out (by rw [← HN2.out]; exact hr))
                cases b2
                all_goals
                  try replace t3 := t3 rfl
                  go_wp2_with fail
                  go_quiet ((go_at_call 43; exact Calls.quiet_of_same (CD.out _)))
                  go_wp2_with fail
                  go_quiet ((go_at_call 39; exact quiet_two (CI.out _)))
                  go_wp2_with fail
                  go_ret2
                  rw [HE.out, ← HN2.out, ← HQ.out]
                  exact ⟨by simp, HD.out.drewN _, by omega, by omega, by omega⟩
        · obtain rfl : q = t.length := by omega
          have n1 : decide ((t.length : Int) < (t.length : Int)) = false := decide_eq_false (by omega)
          have n2 : ¬ ((t.length : Int) < (t.length : Int)) := by omega
          have HnB : Hid (¬ ∃ c, t[P1 + D.length]? = some c ∧ (c = 46 ∨ c = 101 ∨ c = 69)) := Lib.hid (by rw [← HQ.out, List.getElem?_eq_none (Nat.le_refl _)]; rintro ⟨c, h, _⟩; cases h)
          by_cases hA : t.length = P1 ∨ (g = 48 ∧ P1 + 1 < t.length)
          · have HE := Lib.hid (HF1.out (HA.out.2 hA))
            rcases hA with hA | ⟨hA, hA2⟩
            · exfalso; omega
            · have t1 : ((t.length : Int) == (P1 : Int)) = false := by rw [beq_eq_false_iff_ne]; omega
              have t2 : ((g.toNat : Int) == 48) = true := by rw [hA]; rfl
              have t3 : decide ((P1 : Int) + 1 < (t.length : Int)) = true := decide_eq_true (by omega)
              have HA1 := Lib.hid hA
              clear hA
              go_wp2_with fail
              go_quiet (fail)
              go_wp2_with fail
              go_ret2
              rw [HE.out]
              exact ⟨rfl, by decide, _, _, by first | exact HD.out.drewN _ | exact (HD.out.drewN _).drewN _⟩
          · have HnA : Hid (¬ (D.length = 0 ∨ (t[P1]? = some 48 ∧ 1 < D.length))) := Lib.hid (fun h => hA (HA.out.1 h))
            have t1 : ((t.length : Int) == (P1 : Int)) = false := by rw [beq_eq_false_iff_ne]; intro h; exact hA (.inl (by omega))
            have key : ∃ b2 : Bool, ((g.toNat : Int) == 48) = b2 ∧ (b2 = true → decide ((P1 : Int) + 1 < (t.length : Int)) = false) := by
              refine ⟨_, rfl, fun h => decide_eq_false (fun h2 => hA (.inr ⟨?_, by omega⟩))⟩
              have := eq_of_beq h
              exact UInt8.toNat_inj.1 (by have h48 : (48 : UInt8).toNat = 48 := rfl; omega)
            obtain ⟨b2, t2, t3⟩ := key
            clear hA HA HF1
            by_cases hr : 9007199254740991 < n
            · have d2 : decide ((9007199254740991 : Int) < (n : Int)) = true := decide_eq_true (by omega)
              have HE := Lib.hid (HF3.out HnA.out HnB.out (by rw [← HN2.out]; exact hr))
              cases b2
              all_goals
                try replace t3 := t3 rfl
                go_wp2_with fail
                go_quiet (fail)
                go_wp2_with fail
                go_quiet (fail)
                go_wp2_with fail
                go_ret2
                rw [HE.out]
                exact ⟨rfl, by decide, _, _, by first | exact HD.out.drewN _ | exact (HD.out.drewN _).drewN _⟩
            · have d2 : decide ((9007199254740991 : Int) < (n : Int)) = false := decide_eq_false (by omega)
              have HE := Lib.hid (HF4.out HnA.out HnB.out (by rw [← HN2.out]; exact hr))
              cases b2
              all_goals
                try replace t3 := t3 rfl
                go_wp2_with fail
                go_quiet (fail)
                go_wp2_with fail
                go_quiet (fail)
                go_wp2_with fail
                go_ret2
                rw [HE.out, ← HN2.out, ← HQ.out]
                exact ⟨by simp, HD.out.drewN _, by omega, by omega, by omega⟩
  · have HP : Hid (R = digP t 1 p) := Lib.hid (by rw [HR.out]; unfold numP; rw [hc?, if_neg (by simpa using hs)])
    have s1 : ((c.toNat : Int) == 45) = false := by rw [beq_eq_false_iff_ne]; intro h; exact hs (UInt8.toNat_inj.1 (by have : (45 : UInt8).toNat = 45 := rfl; omega))
    clear hc hc? hs HR
    go_enter Tryz.func44, Tryz.ntmps44
    go_wp2_with fail
    go_quiet (fail)
    go_wp2_with fail
    obtain ⟨P1, hP1⟩ : ∃ P1, P1 = p := ⟨_, rfl⟩
    have hp1 : P1 ≤ t.length := by omega
    have HD1 := Lib.hid (HD.out.drewN nq)
    subst hP1
    generalize w.drewN nq = W1 at *
    have HD := HD1
    clear HD1 c0 c1 f1 n2 n3 hgc hp
    have c0 := HD.out.1.c0
    have c1 := HD.out.1.c1
    by_cases hpe : P1 = t.length
    · have m1 : ((P1 : Int) == (t.length : Int)) = true := by rw [hpe]; exact beq_self_eq_true _
      have HE : Hid (R = .err 2) := Lib.hid (by rw [HP.out]; exact digP_short hpe)
      clear HP hpe
      go_quiet (fail)
      go_wp2_with fail
      go_ret2
      rw [HE.out]
      exact ⟨rfl, by decide, _, _, HD.out.drewN _⟩
    have m1 : ((P1 : Int) == (t.length : Int)) = false := by rw [beq_eq_false_iff_ne]; omega
    have m2 : (P1 : Int) < (t.length : Int) := by omega
    have m3 : (0 : Int) ≤ (P1 : Int) := by omega
    obtain ⟨g, hg⟩ : ∃ g, g = t[P1] := ⟨_, rfl⟩
    have hgg : (ByteArray.mk t.toArray)[P1]'(by simp [ByteArray.size]; omega) = g := hg.symm
    have HG : Hid (t[P1]? = some g) := Lib.hid (by rw [hg]; exact List.getElem?_eq_getElem (by omega))
    obtain ⟨D, hD⟩ : ∃ D, D = dgs (t.drop P1) := ⟨_, rfl⟩
    have HDl : Hid (∀ k (h : k < D.length), t[P1 + k]? = some D[k] ∧ dgJ D[k] = true) := Lib.hid (fun k h => by
      subst hD
      have := dgs_at (t.drop P1) k h
      rw [List.getElem?_drop] at this
      exact this)
    have HDe : Hid (∀ x, t[P1 + D.length]? = some x → dgJ x = false) := Lib.hid (fun x h => by
      subst hD
      exact dgs_end (t.drop P1) x (by rw [List.getElem?_drop]; exact h))
    have hDl : P1 + D.length ≤ t.length := by
      have := dgs_le (t.drop P1)
      rw [← hD, List.length_drop] at this; omega
    have HF1 : Hid (D.length = 0 ∨ (t[P1]? = some 48 ∧ 1 < D.length) → R = .err 4) := Lib.hid (fun h => by rw [HP.out]; exact digP_form hpe (by rw [← hD]; exact h))
    have HF2 : Hid (¬ (D.length = 0 ∨ (t[P1]? = some 48 ∧ 1 < D.length)) → (∃ c, t[P1 + D.length]? = some c ∧ (c = 46 ∨ c = 101 ∨ c = 69)) → R = .err 4) := Lib.hid (fun h h2 => by rw [HP.out]; exact digP_point hpe (by rw [← hD]; exact h) (by rw [← hD]; exact h2))
    have HF3 : Hid (¬ (D.length = 0 ∨ (t[P1]? = some 48 ∧ 1 < D.length)) → (¬ ∃ c, t[P1 + D.length]? = some c ∧ (c = 46 ∨ c = 101 ∨ c = 69)) → 9007199254740991 < capF D 0 → R = .err 1) := Lib.hid (fun h h2 h3 => by rw [HP.out]; exact digP_range hpe (by rw [← hD]; exact h) (by rw [← hD]; exact h2) (by rw [← hD]; exact h3))
    have HF4 : Hid (¬ (D.length = 0 ∨ (t[P1]? = some 48 ∧ 1 < D.length)) → (¬ ∃ c, t[P1 + D.length]? = some c ∧ (c = 46 ∨ c = 101 ∨ c = 69)) → ¬ 9007199254740991 < capF D 0 → R = .ok (1 * (capF D 0 : Int)) (P1 + D.length)) := Lib.hid (fun h h2 h3 => by rw [HP.out, hD]; exact digP_ok hpe (by rw [← hD]; exact h) (by rw [← hD]; exact h2) (by rw [← hD]; exact h3))
    clear hg hD HP hpe
    go_quiet (fail)
    go_wp2_with fail
    go_loopg [6] D.length (fun gk v wr => ∃ (k q n : Nat), k + gk = D.length ∧ v = .int .i64 (n : Int) ∧ Hid (n = capF (D.take k) 0) ∧ Hid (q = P1 + k) ∧ q ≤ t.length ∧ n ≤ 90071992547409919 ∧ Hid (JSt w b t q o wr))
    case atStart => exact ⟨0, P1, 0, by omega, rfl, Lib.hid rfl, Lib.hid rfl, hp1, by omega, Lib.hid (HD.out.drewN _)⟩
    case round =>
      obtain ⟨k, q, n, hk, rfl, HN, HQ, hq, hn, HD⟩ := hrel
      have c0 := HD.out.1.c0
      have c1 := HD.out.1.c1
      have f1 := HD.out.1.fr 1
      by_cases hlt : k < D.length
      · obtain ⟨e1, e2⟩ := HDl.out k hlt
        rw [← HQ.out] at e1
        have hql : q < t.length := (List.getElem?_eq_some_iff.1 e1).1
        obtain ⟨x, hx⟩ : ∃ x, x = D[k] := ⟨_, rfl⟩
        rw [← hx] at e1 e2
        have hgx : (ByteArray.mk t.toArray)[q]'(by simpa [ByteArray.size] using hql) = x := (List.getElem?_eq_some_iff.1 e1).2
        obtain ⟨a1, a2⟩ := (dgJ_iff x).1 e2
        have a3 : (48 : Int) ≤ (x.toNat : Int) := by omega
        have a4 : (x.toNat : Int) ≤ 57 := by omega
        have n1 : (q : Int) < (t.length : Int) := by omega
        have n3 : (0 : Int) ≤ (q : Int) := by omega
        have CD : Hid (∀ W, Calls Tryz.prog 43 #[.int .u8 (x.toNat : Int)] W fun e w' => e = .returned (.bool true) ∧ w' = W) := Lib.hid (fun W => by have := jdigit_any x W; rw [e2] at this; exact this)
        have hsn : capF (D.take (k + 1)) 0 = if n ≤ 9007199254740991 then 10 * n + (x.toNat - 48) else n := by
          rw [List.take_add_one, List.getElem?_eq_getElem hlt, ← hx]
          show capF (D.take k ++ [x]) 0 = _
          rw [capF_snoc, ← HN.out]
        have HK := Lib.hid hk
        clear hx e1 e2 hk
        by_cases hbig : n ≤ 9007199254740991
        · rw [if_pos hbig] at hsn
          have g1 : decide ((n : Int) ≤ 9007199254740991) = true := decide_eq_true (by omega)
          obtain ⟨n', hn'⟩ : ∃ n', n' = 10 * n + (x.toNat - 48) := ⟨_, rfl⟩
          have hn'l : n' ≤ 90071992547409919 := by omega
          have u1 : (10 : Int) * (n : Int) + ((x.toNat : Int) - 48) = (n' : Int) := by omega
          have HS2 : Hid (n' = capF (D.take (k + 1)) 0) := Lib.hid (by rw [hsn, hn'])
          clear hn' hsn
          go_wp2_with fail
          go_quiet ((go_at_call 43; exact Calls.quiet_of_same (CD.out _)))
          go_wp2_with fail
          go_quiet (fail)
          go_wp2_with fail
          go_roundg (gk - 1)
          case measure => have := HK.out; omega
          case rel => exact ⟨k + 1, q + 1, n', by have := HK.out; omega, by first | rfl | exact congrArg (Value.int .i64) u1 | exact congrArg (Value.int .i64) (by omega), HS2, Lib.hid (by have := HQ.out; omega), by omega, hn'l, Lib.hid ((HD.out.drewN _).setAt (q + 1) ((q : Int) + 1) (by omega))⟩
        · rw [if_neg hbig] at hsn
          have g1 : decide ((n : Int) ≤ 9007199254740991) = false := decide_eq_false (by omega)
          have HS2 : Hid (n = capF (D.take (k + 1)) 0) := Lib.hid hsn.symm
          clear hsn
          go_wp2_with fail
          go_quiet ((go_at_call 43; exact Calls.quiet_of_same (CD.out _)))
          go_wp2_with fail
          go_roundg (gk - 1)
          case measure => have := HK.out; omega
          case rel => exact ⟨k + 1, q + 1, n, by have := HK.out; omega, rfl, HS2, Lib.hid (by have := HQ.out; omega), by omega, hn, Lib.hid ((HD.out.drewN _).setAt (q + 1) ((q : Int) + 1) (by omega))⟩
      · obtain rfl : k = D.length := by omega
        have HN2 : Hid (n = capF D 0) := Lib.hid (by have := HN.out; rwa [List.take_length] at this)
        clear hk HN hlt
        have HA : Hid ((D.length = 0 ∨ (t[P1]? = some 48 ∧ 1 < D.length)) ↔ (q = P1 ∨ (g = 48 ∧ P1 + 1 < q))) := Lib.hid (by
          have h1 := HQ.out
          have h2 := HG.out
          rw [h2]
          simp only [Option.some.injEq]
          constructor
          · rintro (h | ⟨h, h'⟩)
            · exact .inl (by omega)
            · exact .inr ⟨h, by omega⟩
          · rintro (h | ⟨h, h'⟩)
            · exact .inl (by omega)
            · exact .inr ⟨h, by omega⟩)
        by_cases hql : q < t.length
        · have n1 : (q : Int) < (t.length : Int) := by omega
          have n3 : (0 : Int) ≤ (q : Int) := by omega
          obtain ⟨x, hx⟩ : ∃ x, x = t[q] := ⟨_, rfl⟩
          have hgx : (ByteArray.mk t.toArray)[q]'(by simpa [ByteArray.size] using hql) = x := hx.symm
          have hx? : t[P1 + D.length]? = some x := by rw [← HQ.out, hx]; exact List.getElem?_eq_getElem hql
          have CD : Hid (∀ W, Calls Tryz.prog 43 #[.int .u8 (x.toNat : Int)] W fun e w' => e = .returned (.bool false) ∧ w' = W) := Lib.hid (fun W => by have := jdigit_any x W; rw [HDe.out x hx?] at this; exact this)
          obtain ⟨i, CI, hi⟩ := inJ [46, 101, 69] x
          rw [ptE] at hi
          have CI := Lib.hid CI
          have HB : Hid ((∃ c, t[P1 + D.length]? = some c ∧ (c = 46 ∨ c = 101 ∨ c = 69)) ↔ 0 ≤ i) := Lib.hid (by
            rw [hx?, hi]
            constructor
            · rintro ⟨c, hc, h⟩; cases hc; exact h
            · intro h; exact ⟨x, rfl, h⟩)
          clear hx hx? hi
          by_cases hA : q = P1 ∨ (g = 48 ∧ P1 + 1 < q)
          · have HE := Lib.hid (HF1.out (HA.out.2 hA))
            rcases hA with hA | ⟨hA, hA2⟩
            · have t1 : ((q : Int) == (P1 : Int)) = true := by rw [hA]; exact beq_self_eq_true _
              have HA1 := Lib.hid hA
              clear hA
              go_wp2_with fail
              go_quiet ((go_at_call 43; exact Calls.quiet_of_same (CD.out _)))
              go_wp2_with fail
              go_ret2
              rw [HE.out]
              exact ⟨rfl, by decide, _, _, by first | exact HD.out.drewN _ | exact (HD.out.drewN _).drewN _⟩
            · have t1 : ((q : Int) == (P1 : Int)) = false := by rw [beq_eq_false_iff_ne]; omega
              have t2 : ((g.toNat : Int) == 48) = true := by rw [hA]; rfl
              have t3 : decide ((P1 : Int) + 1 < (q : Int)) = true := decide_eq_true (by omega)
              have HA1 := Lib.hid hA
              clear hA
              go_wp2_with fail
              go_quiet ((go_at_call 43; exact Calls.quiet_of_same (CD.out _)))
              go_wp2_with fail
              go_ret2
              rw [HE.out]
              exact ⟨rfl, by decide, _, _, by first | exact HD.out.drewN _ | exact (HD.out.drewN _).drewN _⟩
          · have HnA : Hid (¬ (D.length = 0 ∨ (t[P1]? = some 48 ∧ 1 < D.length))) := Lib.hid (fun h => hA (HA.out.1 h))
            have t1 : ((q : Int) == (P1 : Int)) = false := by rw [beq_eq_false_iff_ne]; intro h; exact hA (.inl (by omega))
            have key : ∃ b2 : Bool, ((g.toNat : Int) == 48) = b2 ∧ (b2 = true → decide ((P1 : Int) + 1 < (q : Int)) = false) := by
              refine ⟨_, rfl, fun h => decide_eq_false (fun h2 => hA (.inr ⟨?_, by omega⟩))⟩
              have := eq_of_beq h
              exact UInt8.toNat_inj.1 (by have h48 : (48 : UInt8).toNat = 48 := rfl; omega)
            obtain ⟨b2, t2, t3⟩ := key
            clear hA HA HF1
            by_cases hpt : 0 ≤ i
            · have d1 : decide (0 ≤ i) = true := decide_eq_true hpt
              have HE := Lib.hid (HF2.out HnA.out (HB.out.2 hpt))
              cases b2
              all_goals
                try replace t3 := t3 rfl
                go_wp2_with fail
                go_quiet ((go_at_call 43; exact Calls.quiet_of_same (CD.out _)))
                go_wp2_with fail
                go_quiet ((go_at_call 39; exact quiet_two (CI.out _)))
                go_wp2_with fail
                go_ret2
                rw [HE.out]
                exact ⟨rfl, by decide, _, _, by first | exact HD.out.drewN _ | exact (HD.out.drewN _).drewN _⟩
            · have d1 : decide (0 ≤ i) = false := decide_eq_false hpt
              have HnB : Hid (¬ ∃ c, t[P1 + D.length]? = some c ∧ (c = 46 ∨ c = 101 ∨ c = 69)) := Lib.hid (fun h => hpt (HB.out.1 h))
              by_cases hr : 9007199254740991 < n
              · have d2 : decide ((9007199254740991 : Int) < (n : Int)) = true := decide_eq_true (by omega)
                have HE := Lib.hid (HF3.out HnA.out HnB.out (by rw [← HN2.out]; exact hr))
                cases b2
                all_goals
                  try replace t3 := t3 rfl
                  go_wp2_with fail
                  go_quiet ((go_at_call 43; exact Calls.quiet_of_same (CD.out _)))
                  go_wp2_with fail
                  go_quiet ((go_at_call 39; exact quiet_two (CI.out _)))
                  go_wp2_with fail
                  go_ret2
                  rw [HE.out]
                  exact ⟨rfl, by decide, _, _, by first | exact HD.out.drewN _ | exact (HD.out.drewN _).drewN _⟩
              · have d2 : decide ((9007199254740991 : Int) < (n : Int)) = false := decide_eq_false (by omega)
                have HE := Lib.hid (HF4.out HnA.out HnB.out (by rw [← HN2.out]; exact hr))
                cases b2
                all_goals
                  try replace t3 := t3 rfl
                  go_wp2_with fail
                  go_quiet ((go_at_call 43; exact Calls.quiet_of_same (CD.out _)))
                  go_wp2_with fail
                  go_quiet ((go_at_call 39; exact quiet_two (CI.out _)))
                  go_wp2_with fail
                  go_ret2
                  rw [HE.out, ← HN2.out, ← HQ.out]
                  exact ⟨by simp, HD.out.drewN _, by omega, by omega, by omega⟩
        · obtain rfl : q = t.length := by omega
          have n1 : decide ((t.length : Int) < (t.length : Int)) = false := decide_eq_false (by omega)
          have n2 : ¬ ((t.length : Int) < (t.length : Int)) := by omega
          have HnB : Hid (¬ ∃ c, t[P1 + D.length]? = some c ∧ (c = 46 ∨ c = 101 ∨ c = 69)) := Lib.hid (by rw [← HQ.out, List.getElem?_eq_none (Nat.le_refl _)]; rintro ⟨c, h, _⟩; cases h)
          by_cases hA : t.length = P1 ∨ (g = 48 ∧ P1 + 1 < t.length)
          · have HE := Lib.hid (HF1.out (HA.out.2 hA))
            rcases hA with hA | ⟨hA, hA2⟩
            · exfalso; omega
            · have t1 : ((t.length : Int) == (P1 : Int)) = false := by rw [beq_eq_false_iff_ne]; omega
              have t2 : ((g.toNat : Int) == 48) = true := by rw [hA]; rfl
              have t3 : decide ((P1 : Int) + 1 < (t.length : Int)) = true := decide_eq_true (by omega)
              have HA1 := Lib.hid hA
              clear hA
              go_wp2_with fail
              go_quiet (fail)
              go_wp2_with fail
              go_ret2
              rw [HE.out]
              exact ⟨rfl, by decide, _, _, by first | exact HD.out.drewN _ | exact (HD.out.drewN _).drewN _⟩
          · have HnA : Hid (¬ (D.length = 0 ∨ (t[P1]? = some 48 ∧ 1 < D.length))) := Lib.hid (fun h => hA (HA.out.1 h))
            have t1 : ((t.length : Int) == (P1 : Int)) = false := by rw [beq_eq_false_iff_ne]; intro h; exact hA (.inl (by omega))
            have key : ∃ b2 : Bool, ((g.toNat : Int) == 48) = b2 ∧ (b2 = true → decide ((P1 : Int) + 1 < (t.length : Int)) = false) := by
              refine ⟨_, rfl, fun h => decide_eq_false (fun h2 => hA (.inr ⟨?_, by omega⟩))⟩
              have := eq_of_beq h
              exact UInt8.toNat_inj.1 (by have h48 : (48 : UInt8).toNat = 48 := rfl; omega)
            obtain ⟨b2, t2, t3⟩ := key
            clear hA HA HF1
            by_cases hr : 9007199254740991 < n
            · have d2 : decide ((9007199254740991 : Int) < (n : Int)) = true := decide_eq_true (by omega)
              have HE := Lib.hid (HF3.out HnA.out HnB.out (by rw [← HN2.out]; exact hr))
              cases b2
              all_goals
                try replace t3 := t3 rfl
                go_wp2_with fail
                go_quiet (fail)
                go_wp2_with fail
                go_quiet (fail)
                go_wp2_with fail
                go_ret2
                rw [HE.out]
                exact ⟨rfl, by decide, _, _, by first | exact HD.out.drewN _ | exact (HD.out.drewN _).drewN _⟩
            · have d2 : decide ((9007199254740991 : Int) < (n : Int)) = false := decide_eq_false (by omega)
              have HE := Lib.hid (HF4.out HnA.out HnB.out (by rw [← HN2.out]; exact hr))
              cases b2
              all_goals
                try replace t3 := t3 rfl
                go_wp2_with fail
                go_quiet (fail)
                go_wp2_with fail
                go_quiet (fail)
                go_wp2_with fail
                go_ret2
                rw [HE.out, ← HN2.out, ← HQ.out]
                exact ⟨by simp, HD.out.drewN _, by omega, by omega, by omega⟩
end Go.Proofs.YtidlhajibjnkeaaGreatDoor