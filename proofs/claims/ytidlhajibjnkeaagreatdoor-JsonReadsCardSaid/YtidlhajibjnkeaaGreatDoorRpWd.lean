import Derived.Test.YtidlhajibjnkeaaGreatDoorRpRd
import Derived.Test.YtidlhajibjnkeaaGreatDoorRUnqP
/- hblref1.Parse: the document's reader: begins, next, empty, text, word. -/
namespace Go.Proofs.YtidlhajibjnkeaaGreatDoor
open Go.RowKit

theorem tst (c k : UInt8) {z : Int} (hz : z = (k.toNat : Int)) : ((c.toNat : Int) == z) = (c == k) := by
  subst hz
  by_cases h : c = k
  · rw [h]; simp
  · rw [beq_eq_false_iff_ne.2 h, beq_eq_false_iff_ne]
    intro e
    exact h (UInt8.toNat_inj.1 (by omega))
theorem tstn (c k : UInt8) {z : Int} (hz : z = (k.toNat : Int)) : ((c.toNat : Int) != z) = (c != k) := by
  unfold bne
  rw [tst c k hz]
theorem eq_of {c k : UInt8} (h : c = k) : (c == k) = true := by rw [h]; simp
theorem ne_of {c k : UInt8} (h : c ≠ k) : (c == k) = false := by simpa using h
theorem neq_of {c k : UInt8} (h : c = k) : (c != k) = false := by rw [h]; simp
theorem nne_of {c k : UInt8} (h : c ≠ k) : (c != k) = true := by simpa using h
theorem stB_iff (c : UInt8) : stB c = (c == 34 || c == 91 || c == 123 || c == 45 || (decide (48 ≤ c.toNat) && decide (c.toNat ≤ 57)) || c == 116 || c == 102 || c == 110) := by
  have key : ∀ j : Fin 256, stB (UInt8.ofNat j.val) = (UInt8.ofNat j.val == 34 || UInt8.ofNat j.val == 91 || UInt8.ofNat j.val == 123 || UInt8.ofNat j.val == 45 || (decide (48 ≤ (UInt8.ofNat j.val).toNat) && decide ((UInt8.ofNat j.val).toNat ≤ 57)) || UInt8.ofNat j.val == 116 || UInt8.ofNat j.val == 102 || UInt8.ofNat j.val == 110) := by decide +kernel
  have h := key ⟨c.toNat, c.toNat_lt⟩
  have e : UInt8.ofNat c.toNat = c := by simp
  rw [e] at h
  exact h
theorem beg_ways (c : UInt8) : (stB c = true ∧ ((c.toNat : Int) == 34) = true) ∨
    (stB c = true ∧ ((c.toNat : Int) == 34) = false ∧ ((c.toNat : Int) == 91) = true) ∨
    (stB c = true ∧ ((c.toNat : Int) == 34) = false ∧ ((c.toNat : Int) == 91) = false ∧ ((c.toNat : Int) == 123) = true) ∨
    (stB c = true ∧ ((c.toNat : Int) == 34) = false ∧ ((c.toNat : Int) == 91) = false ∧ ((c.toNat : Int) == 123) = false ∧ ((c.toNat : Int) == 45) = true) ∨
    (stB c = true ∧ ((c.toNat : Int) == 34) = false ∧ ((c.toNat : Int) == 91) = false ∧ ((c.toNat : Int) == 123) = false ∧ ((c.toNat : Int) == 45) = false ∧ (48 : Int) ≤ (c.toNat : Int) ∧ (c.toNat : Int) ≤ 57) ∨
    (stB c = true ∧ ((c.toNat : Int) == 34) = false ∧ ((c.toNat : Int) == 91) = false ∧ ((c.toNat : Int) == 123) = false ∧ ((c.toNat : Int) == 45) = false ∧ ¬ (48 : Int) ≤ (c.toNat : Int) ∧ ((c.toNat : Int) == 116) = true) ∨
    (stB c = true ∧ ((c.toNat : Int) == 34) = false ∧ ((c.toNat : Int) == 91) = false ∧ ((c.toNat : Int) == 123) = false ∧ ((c.toNat : Int) == 45) = false ∧ ¬ (48 : Int) ≤ (c.toNat : Int) ∧ ((c.toNat : Int) == 116) = false ∧ ((c.toNat : Int) == 102) = true) ∨
    (stB c = true ∧ ((c.toNat : Int) == 34) = false ∧ ((c.toNat : Int) == 91) = false ∧ ((c.toNat : Int) == 123) = false ∧ ((c.toNat : Int) == 45) = false ∧ ¬ (48 : Int) ≤ (c.toNat : Int) ∧ ((c.toNat : Int) == 116) = false ∧ ((c.toNat : Int) == 102) = false ∧ ((c.toNat : Int) == 110) = true) ∨
    (stB c = false ∧ ((c.toNat : Int) == 34) = false ∧ ((c.toNat : Int) == 91) = false ∧ ((c.toNat : Int) == 123) = false ∧ ((c.toNat : Int) == 45) = false ∧ ¬ (48 : Int) ≤ (c.toNat : Int) ∧ ((c.toNat : Int) == 116) = false ∧ ((c.toNat : Int) == 102) = false ∧ ((c.toNat : Int) == 110) = false) ∨
    (stB c = true ∧ ((c.toNat : Int) == 34) = false ∧ ((c.toNat : Int) == 91) = false ∧ ((c.toNat : Int) == 123) = false ∧ ((c.toNat : Int) == 45) = false ∧ (48 : Int) ≤ (c.toNat : Int) ∧ ¬ (c.toNat : Int) ≤ 57 ∧ ((c.toNat : Int) == 116) = true) ∨
    (stB c = true ∧ ((c.toNat : Int) == 34) = false ∧ ((c.toNat : Int) == 91) = false ∧ ((c.toNat : Int) == 123) = false ∧ ((c.toNat : Int) == 45) = false ∧ (48 : Int) ≤ (c.toNat : Int) ∧ ¬ (c.toNat : Int) ≤ 57 ∧ ((c.toNat : Int) == 116) = false ∧ ((c.toNat : Int) == 102) = true) ∨
    (stB c = true ∧ ((c.toNat : Int) == 34) = false ∧ ((c.toNat : Int) == 91) = false ∧ ((c.toNat : Int) == 123) = false ∧ ((c.toNat : Int) == 45) = false ∧ (48 : Int) ≤ (c.toNat : Int) ∧ ¬ (c.toNat : Int) ≤ 57 ∧ ((c.toNat : Int) == 116) = false ∧ ((c.toNat : Int) == 102) = false ∧ ((c.toNat : Int) == 110) = true) ∨
    (stB c = false ∧ ((c.toNat : Int) == 34) = false ∧ ((c.toNat : Int) == 91) = false ∧ ((c.toNat : Int) == 123) = false ∧ ((c.toNat : Int) == 45) = false ∧ (48 : Int) ≤ (c.toNat : Int) ∧ ¬ (c.toNat : Int) ≤ 57 ∧ ((c.toNat : Int) == 116) = false ∧ ((c.toNat : Int) == 102) = false ∧ ((c.toNat : Int) == 110) = false) := by
  rw [stB_iff]
  simp only [tst c 34 (z := 34) rfl, tst c 91 (z := 91) rfl, tst c 123 (z := 123) rfl, tst c 45 (z := 45) rfl, tst c 116 (z := 116) rfl, tst c 102 (z := 102) rfl, tst c 110 (z := 110) rfl]
  by_cases g1 : 48 ≤ c.toNat
  · have g1' : (48 : Int) ≤ (c.toNat : Int) := by omega
    by_cases g2 : c.toNat ≤ 57
    · have g2' : (c.toNat : Int) ≤ 57 := by omega
      simp only [g1, g1', g2, g2']
      cases (c == 34) <;> cases (c == 91) <;> cases (c == 123) <;> cases (c == 45) <;> cases (c == 116) <;> cases (c == 102) <;> cases (c == 110) <;> simp
    · have g2' : ¬ (c.toNat : Int) ≤ 57 := by omega
      simp only [g1, g1', g2, g2']
      cases (c == 34) <;> cases (c == 91) <;> cases (c == 123) <;> cases (c == 45) <;> cases (c == 116) <;> cases (c == 102) <;> cases (c == 110) <;> simp
  · have g1' : ¬ (48 : Int) ≤ (c.toNat : Int) := by omega
    simp only [g1, g1']
    cases (c == 34) <;> cases (c == 91) <;> cases (c == 123) <;> cases (c == 45) <;> cases (c == 116) <;> cases (c == 102) <;> cases (c == 110) <;> simp
set_option maxHeartbeats 1000000 in
theorem rbegins_any (c : UInt8) (w : World) : Calls Tryz.prog 46 #[.int .u8 (c.toNat : Int)] w fun e w' => e = .returned (.bool (stB c)) ∧ w' = w := by
  rcases beg_ways c with ⟨e, h0⟩ | ⟨e, h0, h1⟩ | ⟨e, h0, h1, h2⟩ | ⟨e, h0, h1, h2, h3⟩ | ⟨e, h0, h1, h2, h3, h4, h5⟩ | ⟨e, h0, h1, h2, h3, h4, h5⟩ | ⟨e, h0, h1, h2, h3, h4, h5, h6⟩ | ⟨e, h0, h1, h2, h3, h4, h5, h6, h7⟩ | ⟨e, h0, h1, h2, h3, h4, h5, h6, h7⟩ | ⟨e, h0, h1, h2, h3, h4, h5, h6⟩ | ⟨e, h0, h1, h2, h3, h4, h5, h6, h7⟩ | ⟨e, h0, h1, h2, h3, h4, h5, h6, h7, h8⟩ | ⟨e, h0, h1, h2, h3, h4, h5, h6, h7, h8⟩
  all_goals
    rw [e]
    clear e
    go_enter Tryz.func46, Tryz.ntmps46
    go_wp2_with fail
    go_ret
    exact ⟨rfl, rfl⟩
/-- What next tells: nothing more behind an error. -/
def NxR (t : List UInt8) (d : UInt8) (p x : Nat) (z : Bool) (q y : Nat) : Prop :=
  (x ≠ 0 → z = false ∧ y = x) ∧ (x = 0 → match behP t d p with
    | .ok true r => z = false ∧ q = r ∧ y = 0
    | .ok false r => z = true ∧ q = r ∧ y = 0
    | .err c => z = false ∧ y = c ∧ c ≠ 0)
set_option maxRecDepth 100000 in
set_option maxHeartbeats 4000000 in
theorem rnext_any (t : List UInt8) (b p x : Nat) (d : UInt8) (w : World) (h : JRb w b t p x) (hp : p ≤ t.length) (hl : t.length ≤ 140737488355328) (hd : d ≠ 44) :
    Calls Tryz.prog 71 #[.pointer (some ⟨b, 0, none⟩), .int .u8 (d.toNat : Int)] w fun e w' => ∃ z q y, e = .returned (.bool z) ∧ q ≤ t.length ∧ JSt w b t q y w' ∧ NxR t d p x z q y := by
  have CS := Lib.hid (rskip_any t b p x w h hp hl)
  clear h
  have hq := skp_le t hp
  obtain ⟨q, hqq⟩ : ∃ q, q = skp t p := ⟨_, rfl⟩
  rw [← hqq] at CS hq
  by_cases hx : x = 0
  · subst hx
    have e0 : (((0 : Nat) : Int) != 0) = false := rfl
    by_cases hlt : q < t.length
    · have m1 : ((q : Int) == (t.length : Int)) = false := by rw [beq_eq_false_iff_ne]; omega
      have m2 : (q : Int) < (t.length : Int) := by omega
      have m3 : (0 : Int) ≤ (q : Int) := by omega
      obtain ⟨c, hc⟩ : ∃ c, c = t[q] := ⟨_, rfl⟩
      have hgc : (ByteArray.mk t.toArray)[q]'(by simpa [ByteArray.size] using hlt) = c := hc.symm
      have hB : behP t d p = if c = d then .ok true (q + 1) else if c = 44 then .ok false (q + 1) else .err 4 := by
        unfold behP
        rw [← hqq, List.getElem?_eq_getElem hlt, ← hc]
      have HB := Lib.hid hB
      have HQL := Lib.hid hlt
      have r1 : (q : Int) ≤ 140737488355328 := by omega
      have n44 := tstn c 44 (z := 44) rfl
      have nd := tstn c d (z := (d.toNat : Int)) rfl
      have t44 := tst c 44 (z := 44) rfl
      by_cases k44 : c = 44
      · rw [neq_of k44] at n44
        rw [eq_of k44] at t44
        have HN : Hid (NxR t d p 0 true (q + 1) 0) := Lib.hid ⟨fun h => absurd rfl h, fun _ => by rw [HB.out, if_neg (by rw [k44]; exact fun h => hd h.symm), if_pos k44]; exact ⟨rfl, rfl, rfl⟩⟩
        clear hB HB hc hqq nd k44
        go_enter Tryz.func71, Tryz.ntmps71
        go_wp2_with fail
        refine CS.out.mono ?_
        rintro e w1 ⟨rfl, hs⟩
        have HD := Lib.hid hs
        have c0 := hs.1.c0
        have c1 := hs.1.c1
        have c2 := hs.1.c2
        have f1 := hs.1.fr 1
        clear hs CS
        go_wp2_with fail
        go_quiet (fail)
        go_wp2_with fail
        go_quiet (fail)
        go_wp2_with fail
        go_quiet (fail)
        go_wp2_with fail
        go_ret
        exact ⟨true, q + 1, 0, rfl, HQL.out, (JSt.setAt (HD.out.drewN _) (q + 1) ((q : Int) + 1) (by omega)).drewN _, HN.out⟩
      · rw [nne_of k44] at n44
        rw [ne_of k44] at t44
        by_cases kd : c = d
        · rw [neq_of kd] at nd
          have HN : Hid (NxR t d p 0 false (q + 1) 0) := Lib.hid ⟨fun h => absurd rfl h, fun _ => by rw [HB.out, if_pos kd]; exact ⟨rfl, rfl, rfl⟩⟩
          clear hB HB hc hqq kd k44
          go_enter Tryz.func71, Tryz.ntmps71
          go_wp2_with fail
          refine CS.out.mono ?_
          rintro e w1 ⟨rfl, hs⟩
          have HD := Lib.hid hs
          have c0 := hs.1.c0
          have c1 := hs.1.c1
          have c2 := hs.1.c2
          have f1 := hs.1.fr 1
          clear hs CS
          go_wp2_with fail
          go_quiet (fail)
          go_wp2_with fail
          go_quiet (fail)
          go_wp2_with fail
          go_quiet (fail)
          go_wp2_with fail
          go_ret
          exact ⟨false, q + 1, 0, rfl, HQL.out, (JSt.setAt (HD.out.drewN _) (q + 1) ((q : Int) + 1) (by omega)).drewN _, HN.out⟩
        · rw [nne_of kd] at nd
          have HN : Hid (NxR t d p 0 false q 4) := Lib.hid ⟨fun h => absurd rfl h, fun _ => by rw [HB.out, if_neg kd, if_neg k44]; exact ⟨rfl, rfl, by decide⟩⟩
          clear hB HB hc hqq kd k44
          go_enter Tryz.func71, Tryz.ntmps71
          go_wp2_with fail
          refine CS.out.mono ?_
          rintro e w1 ⟨rfl, hs⟩
          have HD := Lib.hid hs
          have c0 := hs.1.c0
          have c1 := hs.1.c1
          have c2 := hs.1.c2
          have f1 := hs.1.fr 1
          clear hs CS
          go_wp2_with fail
          go_quiet (fail)
          go_wp2_with fail
          go_quiet (fail)
          go_wp2_with fail
          refine (rfail_first 4 (HD.out.drewN _).1).mono ?_
          rintro e w2 ⟨rfl, hs2⟩
          have HX := Lib.hid ((HD.out.drewN _).trans hs2)
          clear hs2
          go_wp2_with fail
          go_ret
          exact ⟨false, q, 4, rfl, Nat.le_of_lt HQL.out, HX.out, HN.out⟩
    · obtain rfl : q = t.length := by omega
      have m1 : ((t.length : Int) == (t.length : Int)) = true := beq_self_eq_true _
      have HN : Hid (NxR t d p 0 false t.length 2) := Lib.hid ⟨fun h => absurd rfl h, fun _ => by unfold behP; rw [← hqq, List.getElem?_eq_none (by omega)]; exact ⟨rfl, rfl, by decide⟩⟩
      clear hlt hq hqq
      go_enter Tryz.func71, Tryz.ntmps71
      go_wp2_with fail
      refine CS.out.mono ?_
      rintro e w1 ⟨rfl, hs⟩
      have HD := Lib.hid hs
      have c0 := hs.1.c0
      have c1 := hs.1.c1
      have c2 := hs.1.c2
      clear hs CS
      go_wp2_with fail
      go_quiet (fail)
      go_wp2_with fail
      refine (rfail_first 2 (HD.out.drewN _).1).mono ?_
      rintro e w2 ⟨rfl, hs2⟩
      have HX := Lib.hid ((HD.out.drewN _).trans hs2)
      clear hs2
      go_wp2_with fail
      go_ret
      exact ⟨false, _, 2, rfl, Nat.le_refl _, HX.out, HN.out⟩
  · have e0 : ((x : Int) != 0) = true := by rw [bne_iff_ne]; omega
    have HN : Hid (NxR t d p x false q x) := Lib.hid ⟨fun _ => ⟨rfl, rfl⟩, fun h => absurd h hx⟩
    clear hx hqq
    go_enter Tryz.func71, Tryz.ntmps71
    go_wp2_with fail
    refine CS.out.mono ?_
    rintro e w1 ⟨rfl, hs⟩
    have HD := Lib.hid hs
    have c2 := hs.1.c2
    clear hs CS
    go_wp2_with fail
    go_ret
    exact ⟨false, q, x, rfl, hq, HD.out, HN.out⟩
/-- What empty tells: does the end stand at once? -/
def EmR (t : List UInt8) (d : UInt8) (p : Nat) (z : Bool) (q : Nat) : Prop :=
  match entP t d p with
  | .ok true r => z = true ∧ q = r
  | .ok false r => z = false ∧ q = r
  | .err c => z = false ∧ q = t.length ∧ c = 2
set_option maxRecDepth 100000 in
set_option maxHeartbeats 4000000 in
theorem rempty_any (t : List UInt8) (b p x : Nat) (d : UInt8) (w : World) (h : JRb w b t p x) (hp : p < t.length) (hl : t.length ≤ 140737488355328) :
    Calls Tryz.prog 70 #[.pointer (some ⟨b, 0, none⟩), .int .u8 (d.toNat : Int)] w fun e w' => ∃ z q, e = .returned (.bool z) ∧ q ≤ t.length ∧ JSt w b t q x w' ∧ EmR t d p z q := by
  have HD := Lib.hid (JSt.refl h)
  have c1 := h.c1
  have f1 := h.fr 1
  have r1 : (p : Int) ≤ 140737488355328 := by omega
  have CS := Lib.hid (fun (W : World) (hj : JRb W b t (p + 1) x) => rskip_any t b (p + 1) x W hj hp hl)
  have hq := skp_le t hp
  obtain ⟨q, hqq⟩ : ∃ q, q = skp t (p + 1) := ⟨_, rfl⟩
  rw [← hqq] at CS
  replace hq : q ≤ t.length := by rw [hqq]; exact skp_le t hp
  clear h
  by_cases hlt : q < t.length
  · have m1 : (q : Int) < (t.length : Int) := by omega
    have m3 : (0 : Int) ≤ (q : Int) := by omega
    have r2 : (q : Int) ≤ 140737488355328 := by omega
    obtain ⟨c, hc⟩ : ∃ c, c = t[q] := ⟨_, rfl⟩
    have hgc : (ByteArray.mk t.toArray)[q]'(by simpa [ByteArray.size] using hlt) = c := hc.symm
    have HB : Hid (entP t d p = if c = d then .ok true (q + 1) else .ok false q) := Lib.hid (by
      unfold entP
      rw [← hqq, List.getElem?_eq_getElem hlt, ← hc])
    have HQL := Lib.hid hlt
    have td := tst c d (z := (d.toNat : Int)) rfl
    by_cases kd : c = d
    · rw [eq_of kd] at td
      have HN : Hid (EmR t d p true (q + 1)) := Lib.hid (by unfold EmR; rw [HB.out, if_pos kd]; exact ⟨rfl, rfl⟩)
      clear HB hc hqq kd hp hq
      go_enter Tryz.func70, Tryz.ntmps70
      go_wp2_with fail
      have HJ := Lib.hid (HD.out.setAt (p + 1) ((p : Int) + 1) (by omega))
      refine (CS.out _ HJ.out.1).mono ?_
      rintro e w1 ⟨rfl, hs⟩
      have HD2 := Lib.hid (HJ.out.trans hs)
      have c0 := hs.1.c0
      have c1 := hs.1.c1
      have f1 := hs.1.fr 1
      clear hs CS HJ
      go_wp2_with fail
      go_quiet (fail)
      go_wp2_with fail
      go_ret
      exact ⟨true, q + 1, rfl, HQL.out, (JSt.setAt (HD2.out.drewN _) (q + 1) ((q : Int) + 1) (by omega)), HN.out⟩
    · rw [ne_of kd] at td
      have HN : Hid (EmR t d p false q) := Lib.hid (by unfold EmR; rw [HB.out, if_neg kd]; exact ⟨rfl, rfl⟩)
      clear HB hc hqq kd hp hq
      go_enter Tryz.func70, Tryz.ntmps70
      go_wp2_with fail
      have HJ := Lib.hid (HD.out.setAt (p + 1) ((p : Int) + 1) (by omega))
      refine (CS.out _ HJ.out.1).mono ?_
      rintro e w1 ⟨rfl, hs⟩
      have HD2 := Lib.hid (HJ.out.trans hs)
      have c0 := hs.1.c0
      have c1 := hs.1.c1
      have f1 := hs.1.fr 1
      clear hs CS HJ
      go_wp2_with fail
      go_quiet (fail)
      go_wp2_with fail
      go_ret
      exact ⟨false, q, rfl, Nat.le_of_lt HQL.out, HD2.out.drewN _, HN.out⟩
  · obtain rfl : q = t.length := by omega
    have m1 : ¬ (t.length : Int) < (t.length : Int) := by omega
    have HN : Hid (EmR t d p false t.length) := Lib.hid (by unfold EmR entP; rw [← hqq, List.getElem?_eq_none (by omega)]; exact ⟨rfl, rfl, rfl⟩)
    clear hqq hlt hp hq
    go_enter Tryz.func70, Tryz.ntmps70
    go_wp2_with fail
    have HJ := Lib.hid (HD.out.setAt (p + 1) ((p : Int) + 1) (by omega))
    refine (CS.out _ HJ.out.1).mono ?_
    rintro e w1 ⟨rfl, hs⟩
    have HD2 := Lib.hid (HJ.out.trans hs)
    have c0 := hs.1.c0
    have c1 := hs.1.c1
    have f1 := hs.1.fr 1
    clear hs CS HJ
    go_wp2_with fail
    go_quiet (fail)
    go_wp2_with fail
    go_ret
    exact ⟨false, _, rfl, Nat.le_refl _, HD2.out.drewN _, HN.out⟩
/-- What text tells. -/
def TxR (t : List UInt8) (p : Nat) (s : List UInt8) (q x : Nat) : Prop :=
  match txtP t p with
  | .ok s0 q0 => s = s0 ∧ q = q0 ∧ x = 0
  | .err c => x = c ∧ c ≠ 0
set_option maxRecDepth 100000 in
set_option maxHeartbeats 4000000 in
theorem rtext_any (t : List UInt8) (b p : Nat) (w : World) (h : JRb w b t p 0) (hp : p ≤ t.length) (hl : t.length ≤ 17592186044416) :
    Calls Tryz.prog 48 #[.pointer (some ⟨b, 0, none⟩)] w fun e w' => ∃ s q x, e = .returned (str s) ∧ s.length ≤ 4 * t.length ∧ q ≤ t.length ∧ JSt w b t q x w' ∧ TxR t p s q x := by
  have HD := Lib.hid (JSt.refl h)
  have c0 := h.c0
  have c1 := h.c1
  have CU := Lib.hid (fun W => refUnquote_any t (p : Int) W hl)
  have hun : (unqR t (p : Int)).1.length ≤ 4 * t.length ∧ (unqR t (p : Int)).2.1 ≤ t.length := by
    unfold unqR
    split
    · exact ⟨by simp, Nat.zero_le _⟩
    · split
      · exact ⟨by simp, Nat.zero_le _⟩
      · rename_i h1 h2
        have h3 : wantN t ((p : Int).toNat) 34 = 0 := by simpa using h2
        have := wantN_zero h3
        exact unqF_len _ t _ [] (by omega) (by simp)
  obtain ⟨U, hU⟩ : ∃ U, U = unqR t (p : Int) := ⟨_, rfl⟩
  have HT : Hid (txtP t p = if U.2.2 ≠ 0 then .err U.2.2 else if 8000 < U.1.length then .err 3 else .ok U.1 U.2.1) := Lib.hid (by rw [hU]; rfl)
  rw [← hU] at CU hun
  clear hU h
  obtain ⟨s, q, x⟩ := U
  dsimp only at hun
  unfold unqE at CU
  dsimp only at CU
  have z0 := Lib.hid (fun p : BelowBy w => BelowBy.cell c0 p)
  have z1 := Lib.hid (fun p : BelowBy w => BelowBy.cell c1 p)
  clear c0 c1
  obtain ⟨h1, h2⟩ := hun
  by_cases hx : x = 0
  · subst hx
    have e0 : (((0 : Nat) : Int) != 0) = false := rfl
    by_cases hlen : 8000 < s.length
    · have m1 : (8000 : Int) < (s.length : Int) := by omega
      have HN : Hid (TxR t p s q 3) := Lib.hid (by unfold TxR; rw [HT.out, if_neg (by simp), if_pos hlen]; exact ⟨rfl, by decide⟩)
      clear HT hlen
      go_enter Tryz.func48, Tryz.ntmps48
      go_wp2_with fail
      refine wp_region_quiet_below (by kernel_rfl) (by kernel_rfl) ?_
      iterate 16 (first | go_big_quiet_skip | (go_big_quiet_want; go_big_quiet_op; first | go_big_quiet_on | (simp only [z0.out, z1.out, Result.andThen, true_and, forall_const, exists_eq_left']; go_big_quiet_on) | go_big_quiet_call ((go_at_call 69; exact Calls.below_of (CU.out _)))) | fail)
      refine wpQuiet_nil ?_
      rintro w3 ⟨⟨_, hb3⟩, rfl⟩
      have HX := Lib.hid (HD.out.below hb3)
      have c1 := HX.out.1.c1
      have f1 := HX.out.1.fr 1
      clear hb3 CU z0 z1
      go_wp2_with fail
      replace HX := Lib.hid (HX.out.setAt q _ rfl)
      refine (rfail_first 3 HX.out.1).mono ?_
      rintro e w3 ⟨rfl, hs3⟩
      have HX3 := Lib.hid (HX.out.trans hs3)
      clear hs3
      go_wp2_with fail
      go_ret
      exact ⟨s, q, 3, rfl, h1, h2, HX3.out, HN.out⟩
    · have m1 : ¬ (8000 : Int) < (s.length : Int) := by omega
      have HN : Hid (TxR t p s q 0) := Lib.hid (by unfold TxR; rw [HT.out, if_neg (by simp), if_neg hlen]; exact ⟨rfl, rfl, rfl⟩)
      clear HT hlen
      go_enter Tryz.func48, Tryz.ntmps48
      go_wp2_with fail
      refine wp_region_quiet_below (by kernel_rfl) (by kernel_rfl) ?_
      iterate 16 (first | go_big_quiet_skip | (go_big_quiet_want; go_big_quiet_op; first | go_big_quiet_on | (simp only [z0.out, z1.out, Result.andThen, true_and, forall_const, exists_eq_left']; go_big_quiet_on) | go_big_quiet_call ((go_at_call 69; exact Calls.below_of (CU.out _)))) | fail)
      refine wpQuiet_nil ?_
      rintro w3 ⟨⟨_, hb3⟩, rfl⟩
      have HX := Lib.hid (HD.out.below hb3)
      have c1 := HX.out.1.c1
      have f1 := HX.out.1.fr 1
      clear hb3 CU z0 z1
      go_wp2_with fail
      replace HX := Lib.hid (HX.out.setAt q _ rfl)
      go_ret
      exact ⟨s, q, 0, rfl, h1, h2, HX.out, HN.out⟩
  · have e0 : ((x : Int) != 0) = true := by rw [bne_iff_ne]; omega
    have HN : Hid (TxR t p [] p x) := Lib.hid (by unfold TxR; rw [HT.out, if_pos hx]; exact ⟨rfl, hx⟩)
    clear HT hx
    go_enter Tryz.func48, Tryz.ntmps48
    go_wp2_with fail
    refine wp_region_quiet_below (by kernel_rfl) (by kernel_rfl) ?_
    iterate 16 (first | go_big_quiet_skip | (go_big_quiet_want; go_big_quiet_op; first | go_big_quiet_on | (simp only [z0.out, z1.out, Result.andThen, true_and, forall_const, exists_eq_left']; go_big_quiet_on) | go_big_quiet_call ((go_at_call 69; exact Calls.below_of (CU.out _)))) | fail)
    refine wpQuiet_nil ?_
    rintro w3 ⟨⟨_, hb3⟩, rfl⟩
    have HX := Lib.hid (HD.out.below hb3)
    clear hb3 CU z0 z1
    go_wp2_with fail
    refine (rfail_first x HX.out.1).mono ?_
    rintro e w3 ⟨rfl, hs3⟩
    have HX3 := Lib.hid (HX.out.trans hs3)
    clear hs3
    go_wp2_with fail
    go_ret
    exact ⟨[], p, x, rfl, by simp, hp, HX3.out, HN.out⟩
end Go.Proofs.YtidlhajibjnkeaaGreatDoor

/- hblref1.Parse: the document's reader: words. -/
namespace Go.Proofs.YtidlhajibjnkeaaGreatDoor
open Go.RowKit

/-- What was read, or the first error. -/
def Res (r : JR JV) (v : JV) (q x : Nat) : Prop :=
  match r with
  | .ok v0 q0 => v = v0 ∧ q = q0 ∧ x = 0
  | .err c => x = c ∧ c ≠ 0
/-- What a part of the reader tells: a value, right or not, the reader behind it. -/
def RV (t : List UInt8) (w : World) (b : Nat) (r : JR JV) (e : Ending) (w' : World) : Prop :=
  ∃ v cs q x, e = .returned (.agg cs.toArray) ∧ RdJ w' (fun i => w.heap.size ≤ i) v cs ∧ JSt w b t q x w' ∧ q ≤ t.length ∧ Res r v q x
theorem rdj0 (W : World) (F : Nat → Prop) (k n : Int) (s : List UInt8) : RdJ W F (.mk k n s [] []) [.int .i64 k, .int .i64 n, str s, .slice none 0 0, .slice none 0 0] := by
  unfold RdJ
  exact ⟨_, _, rfl, ⟨[], RdFB.nil _ _ _, by unfold RdL; trivial⟩, [], RdFB.nil _ _ _, by unfold RdM; trivial⟩
theorem rv_flat {t : List UInt8} {w W : World} {b q x : Nat} {r : JR JV} {k n : Int} {s : List UInt8} (hs : JSt w b t q x W) (hq : q ≤ t.length) (hr : Res r (.mk k n s [] []) q x) :
    RV t w b r (.returned (.agg #[.int .i64 k, .int .i64 n, str s, .slice none 0 0, .slice none 0 0])) W :=
  ⟨_, _, q, x, rfl, rdj0 W _ k n s, hs, hq, hr⟩
set_option maxRecDepth 100000 in
set_option maxHeartbeats 4000000 in
theorem rword_any (t wd : List UInt8) (kd : Int) (b p : Nat) (w : World) (h : JRb w b t p 0) (hp : p ≤ t.length) (hl : t.length ≤ 140737488355328) (hw : wd.length ≤ 100) :
    Calls Tryz.prog 47 #[.pointer (some ⟨b, 0, none⟩), str wd, .int .i64 kd] w (RV t w b (if wrdP t wd p = 0 then .ok (.mk kd 0 [] [] []) (p + wd.length) else .err (wrdP t wd p))) := by
  obtain ⟨Wa, hWa, hba, hbx, hsz⟩ := zero_box w
  have hb := h.lt
  have HD : Hid (JSt w b t p 0 Wa) := Lib.hid ((JSt.refl h).below hba)
  have HZ := Lib.hid (And.intro hbx hb)
  obtain ⟨R, hR⟩ : ∃ R, R = wrdP t wd p := ⟨_, rfl⟩
  rw [← hR]
  have HR := Lib.hid hR
  obtain ⟨r, hr⟩ : ∃ r, r = (if R = 0 then JR.ok (JV.mk kd 0 [] [] []) (p + wd.length) else JR.err R) := ⟨_, rfl⟩
  rw [← hr]
  have HRR := Lib.hid hr
  clear hr hR hba hbx hsz hb h
  go_enter Tryz.func47, Tryz.ntmps47
  go_upto_region 1 with fail
  rw [← hWa]
  clear hWa
  go_wp2_with fail
  go_loopw [7] (fun i wr => ∃ k : Nat, k ≤ wd.length ∧ i = .int .i64 (k : Int) ∧ Hid (wrdP t (wd.drop k) (p + k) = R ∧ p + k ≤ t.length) ∧ Hid (JSt w b t p 0 wr ∧ wr.heap[w.heap.size]? = some (.cells #[.int .i64 0, .int .i64 0, str [], .slice none 0 0, .slice none 0 0] 35 (0, 0)))) (fun i _ => wd.length - (intOf i).toNat)
  case atStart => exact ⟨0, Nat.zero_le _, rfl, Lib.hid ⟨HR.out.symm, hp⟩, Lib.hid ⟨HD.out, HZ.out.1⟩⟩
  case round =>
    obtain ⟨k, hk, rfl, HEQ, HS⟩ := hrel
    have HE := Lib.hid HEQ.out.1
    have HQ := Lib.hid HEQ.out.2
    clear HEQ
    have c0 := HS.out.1.1.c0
    have c1 := HS.out.1.1.c1
    have f1 := HS.out.1.1.fr 1
    have p1 : (p : Int) ≤ 140737488355328 := by omega
    have p0 : (0 : Int) ≤ (p : Int) := by omega
    have wl : (wd.length : Int) ≤ 100 := by omega
    by_cases hlt : k < wd.length
    · have g1 : (k : Int) < (wd.length : Int) := by omega
      have g2 : (0 : Int) ≤ (k : Int) := by omega
      have hat := wrdP_at t wd p k hlt
      rw [HE.out] at hat
      obtain ⟨y, hy⟩ : ∃ y, y = wd[k] := ⟨_, rfl⟩
      have hgy : (ByteArray.mk wd.toArray)[k]'(by simpa [ByteArray.size] using hlt) = y := hy.symm
      rw [← hy] at hat
      obtain ⟨q, hq⟩ : ∃ q, q = p + k := ⟨_, rfl⟩
      have hqi : (p : Int) + (k : Int) = (q : Int) := by omega
      rw [← hq] at hat
      have HQ2 := Lib.hid hq
      by_cases hpl : q < t.length
      · have n1 : ¬ (t.length : Int) ≤ (q : Int) := by omega
        have n2 : (q : Int) < (t.length : Int) := by omega
        have n3 : (0 : Int) ≤ (q : Int) := by omega
        obtain ⟨c, hc⟩ : ∃ c, c = t[q] := ⟨_, rfl⟩
        have hgc : (ByteArray.mk t.toArray)[q]'(by simpa [ByteArray.size] using hpl) = c := hc.symm
        rw [List.getElem?_eq_getElem hpl, ← hc] at hat
        dsimp only at hat
        have m1 := tstn c y (z := (y.toNat : Int)) rfl
        by_cases hcx : c = y
        · rw [if_pos hcx] at hat
          rw [neq_of hcx] at m1
          have HE2 := Lib.hid hat.symm
          clear hat hc hy HE hcx hq
          go_wp2_with fail
          go_quiet (fail)
          go_wp2_with fail
          go_quiet (fail)
          go_wp2_with fail
          go_roundw
          case rel => exact ⟨k + 1, by omega, by go_num, Lib.hid ⟨HE2.out, by have := HQ2.out; omega⟩, Lib.hid ⟨HS.out.1.drewN _, box_up HS.out.2 (Below.drewsN (Below.refl _ _) _)⟩⟩
          case measure => simp [intOf]; omega
        · rw [if_neg hcx] at hat
          rw [nne_of hcx] at m1
          subst hat
          clear hc hy HE hcx HR hq
          go_wp2_with fail
          go_quiet (fail)
          go_wp2_with fail
          go_quiet (fail)
          go_wp2_with fail
          refine (rfail_first 4 (HS.out.1.drewN _).1).mono ?_
          rintro e w2 ⟨rfl, hs2⟩
          have hz := box_frm (box_up HS.out.2 (Below.drewsN (Below.refl _ _) _)) hs2.2 (by have := HZ.out.2; omega)
          have HX := Lib.hid (And.intro hz ((HS.out.1.drewN _).trans hs2))
          have b0 := box_cell hz 0
          have b1 := box_cell hz 1
          have b2 := box_cell hz 2
          have b3 := box_cell hz 3
          have b4 := box_cell hz 4
          have hfz := box_fr hz
          clear hz hs2
          go_wp2_with fail
          refine bodyPost_any_world (fun W => W.heap[w.heap.size]? = some (.cells #[.int .i64 0, .int .i64 0, str [], .slice none 0 0, .slice none 0 0] 35 (0, 0)) ∧ Frm (fun i => i = w.heap.size) w2 W) (five_set HX.out.1 _ _ _ _ _) ?_
          clear b0 b1 b2 b3 b4 hfz
          rintro w9 ⟨h9, hf9⟩
          have k0 := box_cell h9 0
          have k1 := box_cell h9 1
          have k2 := box_cell h9 2
          have k3 := box_cell h9 3
          have k4 := box_cell h9 4
          refine bodyPost_ret (v := .agg #[.int .i64 0, .int .i64 0, str [], .slice none 0 0, .slice none 0 0]) (by simp [results, Tryz.results47, go_sem, k0, k1, k2, k3, k4]) rfl ?_
          exact rv_flat (JSt.grow HX.out.2 hf9 (fun i e => by have := HZ.out.2; omega)) hp (by rw [HRR.out]; exact ⟨rfl, by decide⟩)
      · have n1 : (t.length : Int) ≤ (q : Int) := by omega
        rw [List.getElem?_eq_none (by omega)] at hat
        dsimp only at hat
        subst hat
        clear hy HE HR hq
        go_wp2_with fail
        go_quiet (fail)
        go_wp2_with fail
        refine (rfail_first 2 (HS.out.1.drewN _).1).mono ?_
        rintro e w2 ⟨rfl, hs2⟩
        have hz := box_frm (box_up HS.out.2 (Below.drewsN (Below.refl _ _) _)) hs2.2 (by have := HZ.out.2; omega)
        have HX := Lib.hid (And.intro hz ((HS.out.1.drewN _).trans hs2))
        have b0 := box_cell hz 0
        have b1 := box_cell hz 1
        have b2 := box_cell hz 2
        have b3 := box_cell hz 3
        have b4 := box_cell hz 4
        have hfz := box_fr hz
        clear hz hs2
        go_wp2_with fail
        refine bodyPost_any_world (fun W => W.heap[w.heap.size]? = some (.cells #[.int .i64 0, .int .i64 0, str [], .slice none 0 0, .slice none 0 0] 35 (0, 0)) ∧ Frm (fun i => i = w.heap.size) w2 W) (five_set HX.out.1 _ _ _ _ _) ?_
        clear b0 b1 b2 b3 b4 hfz
        rintro w9 ⟨h9, hf9⟩
        have k0 := box_cell h9 0
        have k1 := box_cell h9 1
        have k2 := box_cell h9 2
        have k3 := box_cell h9 3
        have k4 := box_cell h9 4
        refine bodyPost_ret (v := .agg #[.int .i64 0, .int .i64 0, str [], .slice none 0 0, .slice none 0 0]) (by simp [results, Tryz.results47, go_sem, k0, k1, k2, k3, k4]) rfl ?_
        exact rv_flat (JSt.grow HX.out.2 hf9 (fun i e => by have := HZ.out.2; omega)) hp (by rw [HRR.out]; exact ⟨rfl, by decide⟩)
    · obtain rfl : k = wd.length := by omega
      have g1 : ¬ ((wd.length : Int) < (wd.length : Int)) := by omega
      have e : R = 0 := by have := HE.out; rw [List.drop_length] at this; exact this.symm
      subst e
      clear HE HR
      go_upto_region 9 with fail
      refine wp_any_world (fun W => W.heap[w.heap.size]? = some (.cells #[.int .i64 0, .int .i64 0, str [], .slice none 0 0, .slice none 0 0] 35 (0, 0)) ∧ JSt w b t (p + wd.length) 0 W) ⟨box_far _ HS.out.2 (by have := HZ.out.2; omega), HS.out.1.setAt (p + wd.length) _ (by omega)⟩ ?_
      clear c0 c1 f1
      rintro w2 ⟨hz, hs2⟩
      have HX := Lib.hid (And.intro hz hs2)
      clear hs2
      have b0 := box_cell hz 0
      have b1 := box_cell hz 1
      have b2 := box_cell hz 2
      have b3 := box_cell hz 3
      have b4 := box_cell hz 4
      have hfz := box_fr hz
      clear hz
      go_wp2_with fail
      refine bodyPost_any_world (fun W => W.heap[w.heap.size]? = some (.cells #[.int .i64 kd, .int .i64 0, str [], .slice none 0 0, .slice none 0 0] 35 (0, 0)) ∧ Frm (fun i => i = w.heap.size) w2 W) (five_set HX.out.1 _ _ _ _ _) ?_
      clear b0 b1 b2 b3 b4 hfz
      rintro w9 ⟨h9, hf9⟩
      have k0 := box_cell h9 0
      have k1 := box_cell h9 1
      have k2 := box_cell h9 2
      have k3 := box_cell h9 3
      have k4 := box_cell h9 4
      refine bodyPost_ret (v := .agg #[.int .i64 kd, .int .i64 0, str [], .slice none 0 0, .slice none 0 0]) (by simp [results, Tryz.results47, go_sem, k0, k1, k2, k3, k4]) rfl ?_
      exact rv_flat (JSt.grow HX.out.2 hf9 (fun i e => by have := HZ.out.2; omega)) HQ.out (by rw [HRR.out]; exact ⟨rfl, rfl, rfl⟩)
end Go.Proofs.YtidlhajibjnkeaaGreatDoor
