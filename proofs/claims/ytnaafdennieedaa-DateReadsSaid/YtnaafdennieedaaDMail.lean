/- Layer 5: Mail, Any. -/
import Derived.Test.YtnaafdennieedaaDNet
namespace Go.Proofs.Ytnaafdennieedaa
open Go.RowKit

def weekL : List UInt8 := [77, 111, 110, 84, 117, 101, 87, 101, 100, 84, 104, 117, 70, 114, 105, 83, 97, 116, 83, 117, 110]
def monL : List UInt8 := [74, 97, 110, 70, 101, 98, 77, 97, 114, 65, 112, 114, 77, 97, 121, 74, 117, 110, 74, 117, 108, 65, 117, 103, 83, 101, 112, 79, 99, 116, 78, 111, 118, 68, 101, 99]
/-- How many digits of a day stand at p. -/
def wdF (t : List UInt8) (p : Nat) : Nat := if p + 1 < t.length ∧ dgB (pk t (p + 1)) = true then 2 else 1
/-- What Mail tells. -/
def mailR (t : List UInt8) : Int × Int :=
  let n := nameF weekL 7 t 0 false
  let g1 := sgnF [44] t n.2.1 n.2.2
  let g2 := sgnF [32] t g1.2.1 g1.2.2
  let c := if dgB (pk t 0) = true then (0, false) else (g2.2.1, g2.2.2)
  let d := numF t (wdF t c.1) 0 c.1 c.2
  let s3 := sgnF [32] t d.2.1 d.2.2
  let m := nameF monL 12 t s3.2.1 s3.2.2
  let s4 := sgnF [32] t m.2.1 m.2.2
  let y := yearF t s4.2.1 s4.2.2
  let s5 := sgnF [32] t y.2.1 y.2.2
  let h := numF t 2 0 s5.2.1 s5.2.2
  let s6 := sgnF [58] t h.2.1 h.2.2
  let i := numF t 2 0 s6.2.1 s6.2.2
  let s := if pk t i.2.1 = 58 then numF t 2 0 (i.2.1 + 1) i.2.2 else (0, i.2.1, i.2.2)
  let s7 := sgnF [32] t s.2.1 s.2.2
  let a := mzF t s7.2.1 s7.2.2
  secR t a.2.1 a.2.2 y.1 (1 + (m.1 : Int)) d.1 h.1 i.1 s.1 a.1
theorem nameF_ex (row t : List UInt8) (m p : Nat) (z : Bool) (hp : p ≤ t.length) : ∃ c q u, nameF row m t p z = (c, q, u) ∧ q ≤ t.length ∧ c ≤ m := ⟨_, _, _, rfl, (nameF_le row t m p z hp).1, (nameF_le row t m p z hp).2⟩
set_option maxHeartbeats 6400000 in
set_option maxRecDepth 100000 in
theorem mail_any (t : List UInt8) (w : World) (hl : t.length ≤ 140737488355328) :
    Calls Try.prog 9 #[str t] w fun e w' => e = twoE (mailR t) ∧ Below w.heap.size w w' := by
  obtain ⟨vn, pn, zn, en, ln, hin⟩ := nameF_ex weekL t 7 0 false (Nat.zero_le _)
  obtain ⟨vg1, pg1, zg1, eg1, lg1⟩ := sgnF_ex [44] t pn zn ln
  obtain ⟨vg2, pg2, zg2, eg2, lg2⟩ := sgnF_ex [32] t pg1 zg1 lg1
  obtain ⟨pc, zc, ec, lc⟩ : ∃ pc zc, (if dgB (pk t 0) = true then (0, false) else (pg2, zg2)) = (pc, zc) ∧ pc ≤ t.length := by
    split
    · exact ⟨_, _, rfl, Nat.zero_le _⟩
    · exact ⟨_, _, rfl, lg2⟩
  obtain ⟨wd, ewd⟩ : ∃ wd, wdF t pc = wd := ⟨_, rfl⟩
  have lwd : wd ≤ 2 := by rw [← ewd]; unfold wdF; split <;> omega
  obtain ⟨vd, pd, zd, ed, ld⟩ := numF_ex t wd pc zc lc
  obtain ⟨vs3, ps3, zs3, es3, ls3⟩ := sgnF_ex [32] t pd zd ld
  obtain ⟨vm, pm, zm, em, lm, him⟩ := nameF_ex monL t 12 ps3 zs3 ls3
  obtain ⟨vs4, ps4, zs4, es4, ls4⟩ := sgnF_ex [32] t pm zm lm
  obtain ⟨vy, py, zy, ey, ly, loy, hiy⟩ := year_ex t ps4 zs4 ls4
  obtain ⟨vs5, ps5, zs5, es5, ls5⟩ := sgnF_ex [32] t py zy ly
  obtain ⟨vh, ph, zh, eh, lh, loh, hih⟩ := num2_ex t ps5 zs5 ls5
  obtain ⟨vs6, ps6, zs6, es6, ls6⟩ := sgnF_ex [58] t ph zh lh
  obtain ⟨vi, pi, zi, ei, li, loi, hii⟩ := num2_ex t ps6 zs6 ls6
  obtain ⟨vs, ps, zs, es, ls⟩ : ∃ v q u, (if pk t pi = 58 then numF t 2 0 (pi + 1) zi else (0, pi, zi)) = (v, q, u) ∧ q ≤ t.length := by
    split
    · next g =>
      obtain ⟨v, q, u, h1, h2, _⟩ := num2_ex t (pi + 1) zi (pk_ne t pi li (by rw [g]; decide))
      exact ⟨v, q, u, h1, h2⟩
    · exact ⟨_, _, _, rfl, li⟩
  obtain ⟨v7, p7, z7, e7, l7⟩ := sgnF_ex [32] t ps zs ls
  obtain ⟨va, pa, za, ea, la, loa, hia⟩ := mz_ex t p7 z7 l7
  have e : mailR t = secR t pa za vy (1 + (vm : Int)) vd vh vi vs va := by unfold mailR; simp only [en, eg1, eg2, ec, ewd, ed, es3, em, es4, ey, es5, eh, es6, ei, es, e7, ea]
  rw [e]
  have Hen := Lib.hid en
  have Heg1 := Lib.hid eg1
  have Heg2 := Lib.hid eg2
  have Hec := Lib.hid ec
  have Hewd := Lib.hid ewd
  have Hed := Lib.hid ed
  have Hes3 := Lib.hid es3
  have Hem := Lib.hid em
  have Hes4 := Lib.hid es4
  have Hey := Lib.hid ey
  have Hes5 := Lib.hid es5
  have Heh := Lib.hid eh
  have Hes6 := Lib.hid es6
  have Hei := Lib.hid ei
  have Hes := Lib.hid es
  have He7 := Lib.hid e7
  have Hea := Lib.hid ea
  clear e en eg1 eg2 ec ewd ed es3 em es4 ey es5 eh es6 ei es e7 ea
  have hn2 : ∃ x : Bool, (((pc : Int) + 1 < (t.length : Int) ∧ dgB (pk t (pc + 1)) = x) ∨ (¬ (pc : Int) + 1 < (t.length : Int) ∧ x = false)) ∧ (if x = true then (1 : Int) else 0) = (wd : Int) - 1 := by
    have e := Hewd.out
    unfold wdF at e
    by_cases g : pc + 1 < t.length
    · refine ⟨dgB (pk t (pc + 1)), .inl ⟨by omega, rfl⟩, ?_⟩
      cases hx : dgB (pk t (pc + 1))
      · rw [if_neg (by simp [hx])] at e; simp; omega
      · rw [if_pos ⟨g, hx⟩] at e; simp; omega
    · refine ⟨false, .inr ⟨by omega, rfl⟩, ?_⟩
      rw [if_neg (fun h => g h.1)] at e; simp; omega
  obtain ⟨x, hx, hxw⟩ := hn2
  have BT1 := Lib.hid (fun W => btoi_any x W)
  rw [hxw] at BT1
  clear hxw
  have hgx : ∀ h : pc + 1 < t.length, (ByteArray.mk t.toArray)[pc + 1]'(by simpa [ByteArray.size] using h) = pk t (pc + 1) := fun h => (pk_lt t (pc + 1) h).symm
  have HGX := Lib.hid hgx
  have r0 : (0 : Int) ≤ (pc : Int) + 1 := by omega
  have r1 : ((pc : Int) + 1).toNat = pc + 1 := by omega
  have w1 : (1 : Int) ≤ (wd : Int) := by
    have e := Hewd.out
    unfold wdF at e
    split at e <;> omega
  have w2 : (wd : Int) ≤ 2 := by omega
  have n0 : ((0 : Nat) : Int) = 0 := rfl
  have fm1 : (0 : Int) ≤ (vm : Int) := by omega
  have fm2 : (vm : Int) ≤ 12 := by omega
  clear hgx
  cases hd0 : dgB (pk t 0)
  · have e := Hec.out
    rw [hd0] at e
    simp only [Bool.false_eq_true, if_false, Prod.mk.injEq] at e
    have He := Lib.hid e
    clear e
    go_enter Try.func9, Try.ntmps9
    go_wp2_with fail
    have hD := Lib.hid (DR.made w t 0 rfl 39)
    have hB := Lib.hid (below_alloc w (.cells #[str t, .int .i64 0, .bool false] 39))
    refine (peek_to hD hB (Nat.zero_le _) hl).mono ?_
    rintro e w1 ⟨rfl, hD, hB⟩
    go_wp2_with (go_at_call 20; refine (isDigit_any _ _).mono ?_; rintro e w' ⟨rfl, rfl⟩)
    refine (name_to (m := 7) Hen hD hB (Nat.zero_le _) hl rfl (by omega)).mono ?_
    rintro e w1 ⟨rfl, hD, hB⟩
    go_wp2_with fail
    refine (sign_to Heg1 hD hB ln hl).mono ?_
    rintro e w1 ⟨rfl, hD, hB⟩
    go_wp2_with fail
    refine (sign_to Heg2 hD hB lg1 hl).mono ?_
    rintro e w1 ⟨rfl, hD, hB⟩
    have hD := Lib.hid (show DR w1 w.heap.size t pc zc by rw [← He.out.1, ← He.out.2]; exact hD.out)
    rcases hx with ⟨g1, g2⟩ | ⟨g1, rfl⟩
    · have hgk := HGX.out (by omega)
      have d1 := hD.out.c1
      go_wp2_with (first
        | (go_at_call 20; refine (isDigit_any _ _).mono ?_; rintro e w' ⟨rfl, rfl⟩)
        | (go_at_call 25; refine (BT1.out _).mono ?_; rintro e w' ⟨rfl, rfl⟩))
      clear d1
      refine (dnumber_to (wd := wd) (by omega) Hed hD hB lc hl (by omega)).mono ?_
      rintro e w1 ⟨rfl, hD, hB⟩
      go_wp2_with fail
      refine (sign_to Hes3 hD hB ld hl).mono ?_
      rintro e w1 ⟨rfl, hD, hB⟩
      go_wp2_with fail
      refine (name_to (m := 12) Hem hD hB ls3 hl rfl (by omega)).mono ?_
      rintro e w1 ⟨rfl, hD, hB⟩
      go_wp2_with fail
      refine (sign_to Hes4 hD hB lm hl).mono ?_
      rintro e w1 ⟨rfl, hD, hB⟩
      go_wp2_with fail
      refine (year_to Hey hD hB ls4 hl).mono ?_
      rintro e w1 ⟨rfl, hD, hB⟩
      go_wp2_with fail
      refine (sign_to Hes5 hD hB ly hl).mono ?_
      rintro e w1 ⟨rfl, hD, hB⟩
      go_wp2_with fail
      refine (dnumber_to rfl Heh hD hB ls5 hl (by omega)).mono ?_
      rintro e w1 ⟨rfl, hD, hB⟩
      go_wp2_with fail
      refine (sign_to Hes6 hD hB lh hl).mono ?_
      rintro e w1 ⟨rfl, hD, hB⟩
      go_wp2_with fail
      refine (dnumber_to rfl Hei hD hB ls6 hl (by omega)).mono ?_
      rintro e w1 ⟨rfl, hD, hB⟩
      go_wp2_with fail
      refine (peek_to hD hB li hl).mono ?_
      rintro e w1 ⟨rfl, hD, hB⟩
      by_cases g58 : pk t pi = 58
      · have hc58 : (((pk t pi).toNat : Int) == 58) = true := by rw [g58]; rfl
        have hlt := pk_ne t pi li (by rw [g58]; decide)
        have HS1 : Hid (numF t 2 0 (pi + 1) zi = (vs, ps, zs)) := by
          have e := Hes.out
          rw [if_pos g58] at e
          exact Lib.hid e
        clear g58
        have d1 := hD.out.c1
        have d2 := hD.out.fr 1
        go_wp2_with fail
        have hD1 := Lib.hid (hD.out.setAt (pi + 1) ((pi : Int) + 1) (by omega))
        have hB1 := Lib.hid (hB.out.setCell (p := ⟨w.heap.size, 1, none⟩) (Nat.le_refl _) (.int .i64 ((pi : Int) + 1)))
        clear d1 d2
        refine (dnumber_to rfl HS1 hD1 hB1 hlt hl (by omega)).mono ?_
        rintro e w1 ⟨rfl, hD, hB⟩
        go_wp2_with fail
        refine (sign_to He7 hD hB ls hl).mono ?_
        rintro e w1 ⟨rfl, hD, hB⟩
        go_wp2_with fail
        refine (mz_to Hea hD hB l7 hl).mono ?_
        rintro e w1 ⟨rfl, hD, hB⟩
        go_wp2_with fail
        refine (second_to vy (1 + (vm : Int)) vd vh vi vs va hD hB loa hia).mono ?_
        rintro e w1 ⟨rfl, hB⟩
        unfold twoE
        go_wp2_with fail
        go_ret2
        exact ⟨rfl, hB⟩
      · have hc58 : (((pk t pi).toNat : Int) == 58) = false := by
          rw [beq_eq_false_iff_ne]; intro h; exact g58 (UInt8.toNat_inj.1 (by have : (58 : UInt8).toNat = 58 := rfl; omega))
        have HS1 : (0, pi, zi) = (vs, ps, zs) := by
          have e := Hes.out
          rw [if_neg g58] at e
          exact e
        simp only [Prod.mk.injEq] at HS1
        have HS2 := Lib.hid HS1
        clear g58 HS1
        have hD := Lib.hid (show DR _ w.heap.size t ps zs by rw [← HS2.out.2.1, ← HS2.out.2.2]; exact hD.out)
        go_wp2_with fail
        refine (sign_to He7 hD hB ls hl).mono ?_
        rintro e w1 ⟨rfl, hD, hB⟩
        go_wp2_with fail
        refine (mz_to Hea hD hB l7 hl).mono ?_
        rintro e w1 ⟨rfl, hD, hB⟩
        go_wp2_with fail
        have e0 := HS2.out.1
        refine (second_to vy (1 + (vm : Int)) vd vh vi 0 va hD hB loa hia).mono ?_
        rintro e w1 ⟨rfl, hB⟩
        rw [e0]
        unfold twoE
        clear e0
        go_wp2_with fail
        go_ret2
        exact ⟨rfl, hB⟩
    · have d1 := hD.out.c1
      go_wp2_with (first
        | (go_at_call 20; refine (isDigit_any _ _).mono ?_; rintro e w' ⟨rfl, rfl⟩)
        | (go_at_call 25; refine (BT1.out _).mono ?_; rintro e w' ⟨rfl, rfl⟩))
      clear d1
      refine (dnumber_to (wd := wd) (by omega) Hed hD hB lc hl (by omega)).mono ?_
      rintro e w1 ⟨rfl, hD, hB⟩
      go_wp2_with fail
      refine (sign_to Hes3 hD hB ld hl).mono ?_
      rintro e w1 ⟨rfl, hD, hB⟩
      go_wp2_with fail
      refine (name_to (m := 12) Hem hD hB ls3 hl rfl (by omega)).mono ?_
      rintro e w1 ⟨rfl, hD, hB⟩
      go_wp2_with fail
      refine (sign_to Hes4 hD hB lm hl).mono ?_
      rintro e w1 ⟨rfl, hD, hB⟩
      go_wp2_with fail
      refine (year_to Hey hD hB ls4 hl).mono ?_
      rintro e w1 ⟨rfl, hD, hB⟩
      go_wp2_with fail
      refine (sign_to Hes5 hD hB ly hl).mono ?_
      rintro e w1 ⟨rfl, hD, hB⟩
      go_wp2_with fail
      refine (dnumber_to rfl Heh hD hB ls5 hl (by omega)).mono ?_
      rintro e w1 ⟨rfl, hD, hB⟩
      go_wp2_with fail
      refine (sign_to Hes6 hD hB lh hl).mono ?_
      rintro e w1 ⟨rfl, hD, hB⟩
      go_wp2_with fail
      refine (dnumber_to rfl Hei hD hB ls6 hl (by omega)).mono ?_
      rintro e w1 ⟨rfl, hD, hB⟩
      go_wp2_with fail
      refine (peek_to hD hB li hl).mono ?_
      rintro e w1 ⟨rfl, hD, hB⟩
      by_cases g58 : pk t pi = 58
      · have hc58 : (((pk t pi).toNat : Int) == 58) = true := by rw [g58]; rfl
        have hlt := pk_ne t pi li (by rw [g58]; decide)
        have HS1 : Hid (numF t 2 0 (pi + 1) zi = (vs, ps, zs)) := by
          have e := Hes.out
          rw [if_pos g58] at e
          exact Lib.hid e
        clear g58
        have d1 := hD.out.c1
        have d2 := hD.out.fr 1
        go_wp2_with fail
        have hD1 := Lib.hid (hD.out.setAt (pi + 1) ((pi : Int) + 1) (by omega))
        have hB1 := Lib.hid (hB.out.setCell (p := ⟨w.heap.size, 1, none⟩) (Nat.le_refl _) (.int .i64 ((pi : Int) + 1)))
        clear d1 d2
        refine (dnumber_to rfl HS1 hD1 hB1 hlt hl (by omega)).mono ?_
        rintro e w1 ⟨rfl, hD, hB⟩
        go_wp2_with fail
        refine (sign_to He7 hD hB ls hl).mono ?_
        rintro e w1 ⟨rfl, hD, hB⟩
        go_wp2_with fail
        refine (mz_to Hea hD hB l7 hl).mono ?_
        rintro e w1 ⟨rfl, hD, hB⟩
        go_wp2_with fail
        refine (second_to vy (1 + (vm : Int)) vd vh vi vs va hD hB loa hia).mono ?_
        rintro e w1 ⟨rfl, hB⟩
        unfold twoE
        go_wp2_with fail
        go_ret2
        exact ⟨rfl, hB⟩
      · have hc58 : (((pk t pi).toNat : Int) == 58) = false := by
          rw [beq_eq_false_iff_ne]; intro h; exact g58 (UInt8.toNat_inj.1 (by have : (58 : UInt8).toNat = 58 := rfl; omega))
        have HS1 : (0, pi, zi) = (vs, ps, zs) := by
          have e := Hes.out
          rw [if_neg g58] at e
          exact e
        simp only [Prod.mk.injEq] at HS1
        have HS2 := Lib.hid HS1
        clear g58 HS1
        have hD := Lib.hid (show DR _ w.heap.size t ps zs by rw [← HS2.out.2.1, ← HS2.out.2.2]; exact hD.out)
        go_wp2_with fail
        refine (sign_to He7 hD hB ls hl).mono ?_
        rintro e w1 ⟨rfl, hD, hB⟩
        go_wp2_with fail
        refine (mz_to Hea hD hB l7 hl).mono ?_
        rintro e w1 ⟨rfl, hD, hB⟩
        go_wp2_with fail
        have e0 := HS2.out.1
        refine (second_to vy (1 + (vm : Int)) vd vh vi 0 va hD hB loa hia).mono ?_
        rintro e w1 ⟨rfl, hB⟩
        rw [e0]
        unfold twoE
        clear e0
        go_wp2_with fail
        go_ret2
        exact ⟨rfl, hB⟩
  · have e := Hec.out
    rw [hd0] at e
    simp only [if_true, Prod.mk.injEq] at e
    have He := Lib.hid e
    clear e
    go_enter Try.func9, Try.ntmps9
    go_wp2_with fail
    have hD := Lib.hid (DR.made w t 0 rfl 39)
    have hB := Lib.hid (below_alloc w (.cells #[str t, .int .i64 0, .bool false] 39))
    refine (peek_to hD hB (Nat.zero_le _) hl).mono ?_
    rintro e w1 ⟨rfl, hD, hB⟩
    have hD := Lib.hid (show DR w1 w.heap.size t pc zc by rw [← He.out.1, ← He.out.2]; exact hD.out)
    rcases hx with ⟨g1, g2⟩ | ⟨g1, rfl⟩
    · have hgk := HGX.out (by omega)
      have d1 := hD.out.c1
      go_wp2_with (first
        | (go_at_call 20; refine (isDigit_any _ _).mono ?_; rintro e w' ⟨rfl, rfl⟩)
        | (go_at_call 25; refine (BT1.out _).mono ?_; rintro e w' ⟨rfl, rfl⟩))
      clear d1
      refine (dnumber_to (wd := wd) (by omega) Hed hD hB lc hl (by omega)).mono ?_
      rintro e w1 ⟨rfl, hD, hB⟩
      go_wp2_with fail
      refine (sign_to Hes3 hD hB ld hl).mono ?_
      rintro e w1 ⟨rfl, hD, hB⟩
      go_wp2_with fail
      refine (name_to (m := 12) Hem hD hB ls3 hl rfl (by omega)).mono ?_
      rintro e w1 ⟨rfl, hD, hB⟩
      go_wp2_with fail
      refine (sign_to Hes4 hD hB lm hl).mono ?_
      rintro e w1 ⟨rfl, hD, hB⟩
      go_wp2_with fail
      refine (year_to Hey hD hB ls4 hl).mono ?_
      rintro e w1 ⟨rfl, hD, hB⟩
      go_wp2_with fail
      refine (sign_to Hes5 hD hB ly hl).mono ?_
      rintro e w1 ⟨rfl, hD, hB⟩
      go_wp2_with fail
      refine (dnumber_to rfl Heh hD hB ls5 hl (by omega)).mono ?_
      rintro e w1 ⟨rfl, hD, hB⟩
      go_wp2_with fail
      refine (sign_to Hes6 hD hB lh hl).mono ?_
      rintro e w1 ⟨rfl, hD, hB⟩
      go_wp2_with fail
      refine (dnumber_to rfl Hei hD hB ls6 hl (by omega)).mono ?_
      rintro e w1 ⟨rfl, hD, hB⟩
      go_wp2_with fail
      refine (peek_to hD hB li hl).mono ?_
      rintro e w1 ⟨rfl, hD, hB⟩
      by_cases g58 : pk t pi = 58
      · have hc58 : (((pk t pi).toNat : Int) == 58) = true := by rw [g58]; rfl
        have hlt := pk_ne t pi li (by rw [g58]; decide)
        have HS1 : Hid (numF t 2 0 (pi + 1) zi = (vs, ps, zs)) := by
          have e := Hes.out
          rw [if_pos g58] at e
          exact Lib.hid e
        clear g58
        have d1 := hD.out.c1
        have d2 := hD.out.fr 1
        go_wp2_with fail
        have hD1 := Lib.hid (hD.out.setAt (pi + 1) ((pi : Int) + 1) (by omega))
        have hB1 := Lib.hid (hB.out.setCell (p := ⟨w.heap.size, 1, none⟩) (Nat.le_refl _) (.int .i64 ((pi : Int) + 1)))
        clear d1 d2
        refine (dnumber_to rfl HS1 hD1 hB1 hlt hl (by omega)).mono ?_
        rintro e w1 ⟨rfl, hD, hB⟩
        go_wp2_with fail
        refine (sign_to He7 hD hB ls hl).mono ?_
        rintro e w1 ⟨rfl, hD, hB⟩
        go_wp2_with fail
        refine (mz_to Hea hD hB l7 hl).mono ?_
        rintro e w1 ⟨rfl, hD, hB⟩
        go_wp2_with fail
        refine (second_to vy (1 + (vm : Int)) vd vh vi vs va hD hB loa hia).mono ?_
        rintro e w1 ⟨rfl, hB⟩
        unfold twoE
        go_wp2_with fail
        go_ret2
        exact ⟨rfl, hB⟩
      · have hc58 : (((pk t pi).toNat : Int) == 58) = false := by
          rw [beq_eq_false_iff_ne]; intro h; exact g58 (UInt8.toNat_inj.1 (by have : (58 : UInt8).toNat = 58 := rfl; omega))
        have HS1 : (0, pi, zi) = (vs, ps, zs) := by
          have e := Hes.out
          rw [if_neg g58] at e
          exact e
        simp only [Prod.mk.injEq] at HS1
        have HS2 := Lib.hid HS1
        clear g58 HS1
        have hD := Lib.hid (show DR _ w.heap.size t ps zs by rw [← HS2.out.2.1, ← HS2.out.2.2]; exact hD.out)
        go_wp2_with fail
        refine (sign_to He7 hD hB ls hl).mono ?_
        rintro e w1 ⟨rfl, hD, hB⟩
        go_wp2_with fail
        refine (mz_to Hea hD hB l7 hl).mono ?_
        rintro e w1 ⟨rfl, hD, hB⟩
        go_wp2_with fail
        have e0 := HS2.out.1
        refine (second_to vy (1 + (vm : Int)) vd vh vi 0 va hD hB loa hia).mono ?_
        rintro e w1 ⟨rfl, hB⟩
        rw [e0]
        unfold twoE
        clear e0
        go_wp2_with fail
        go_ret2
        exact ⟨rfl, hB⟩
    · have d1 := hD.out.c1
      go_wp2_with (first
        | (go_at_call 20; refine (isDigit_any _ _).mono ?_; rintro e w' ⟨rfl, rfl⟩)
        | (go_at_call 25; refine (BT1.out _).mono ?_; rintro e w' ⟨rfl, rfl⟩))
      clear d1
      refine (dnumber_to (wd := wd) (by omega) Hed hD hB lc hl (by omega)).mono ?_
      rintro e w1 ⟨rfl, hD, hB⟩
      go_wp2_with fail
      refine (sign_to Hes3 hD hB ld hl).mono ?_
      rintro e w1 ⟨rfl, hD, hB⟩
      go_wp2_with fail
      refine (name_to (m := 12) Hem hD hB ls3 hl rfl (by omega)).mono ?_
      rintro e w1 ⟨rfl, hD, hB⟩
      go_wp2_with fail
      refine (sign_to Hes4 hD hB lm hl).mono ?_
      rintro e w1 ⟨rfl, hD, hB⟩
      go_wp2_with fail
      refine (year_to Hey hD hB ls4 hl).mono ?_
      rintro e w1 ⟨rfl, hD, hB⟩
      go_wp2_with fail
      refine (sign_to Hes5 hD hB ly hl).mono ?_
      rintro e w1 ⟨rfl, hD, hB⟩
      go_wp2_with fail
      refine (dnumber_to rfl Heh hD hB ls5 hl (by omega)).mono ?_
      rintro e w1 ⟨rfl, hD, hB⟩
      go_wp2_with fail
      refine (sign_to Hes6 hD hB lh hl).mono ?_
      rintro e w1 ⟨rfl, hD, hB⟩
      go_wp2_with fail
      refine (dnumber_to rfl Hei hD hB ls6 hl (by omega)).mono ?_
      rintro e w1 ⟨rfl, hD, hB⟩
      go_wp2_with fail
      refine (peek_to hD hB li hl).mono ?_
      rintro e w1 ⟨rfl, hD, hB⟩
      by_cases g58 : pk t pi = 58
      · have hc58 : (((pk t pi).toNat : Int) == 58) = true := by rw [g58]; rfl
        have hlt := pk_ne t pi li (by rw [g58]; decide)
        have HS1 : Hid (numF t 2 0 (pi + 1) zi = (vs, ps, zs)) := by
          have e := Hes.out
          rw [if_pos g58] at e
          exact Lib.hid e
        clear g58
        have d1 := hD.out.c1
        have d2 := hD.out.fr 1
        go_wp2_with fail
        have hD1 := Lib.hid (hD.out.setAt (pi + 1) ((pi : Int) + 1) (by omega))
        have hB1 := Lib.hid (hB.out.setCell (p := ⟨w.heap.size, 1, none⟩) (Nat.le_refl _) (.int .i64 ((pi : Int) + 1)))
        clear d1 d2
        refine (dnumber_to rfl HS1 hD1 hB1 hlt hl (by omega)).mono ?_
        rintro e w1 ⟨rfl, hD, hB⟩
        go_wp2_with fail
        refine (sign_to He7 hD hB ls hl).mono ?_
        rintro e w1 ⟨rfl, hD, hB⟩
        go_wp2_with fail
        refine (mz_to Hea hD hB l7 hl).mono ?_
        rintro e w1 ⟨rfl, hD, hB⟩
        go_wp2_with fail
        refine (second_to vy (1 + (vm : Int)) vd vh vi vs va hD hB loa hia).mono ?_
        rintro e w1 ⟨rfl, hB⟩
        unfold twoE
        go_wp2_with fail
        go_ret2
        exact ⟨rfl, hB⟩
      · have hc58 : (((pk t pi).toNat : Int) == 58) = false := by
          rw [beq_eq_false_iff_ne]; intro h; exact g58 (UInt8.toNat_inj.1 (by have : (58 : UInt8).toNat = 58 := rfl; omega))
        have HS1 : (0, pi, zi) = (vs, ps, zs) := by
          have e := Hes.out
          rw [if_neg g58] at e
          exact e
        simp only [Prod.mk.injEq] at HS1
        have HS2 := Lib.hid HS1
        clear g58 HS1
        have hD := Lib.hid (show DR _ w.heap.size t ps zs by rw [← HS2.out.2.1, ← HS2.out.2.2]; exact hD.out)
        go_wp2_with fail
        refine (sign_to He7 hD hB ls hl).mono ?_
        rintro e w1 ⟨rfl, hD, hB⟩
        go_wp2_with fail
        refine (mz_to Hea hD hB l7 hl).mono ?_
        rintro e w1 ⟨rfl, hD, hB⟩
        go_wp2_with fail
        have e0 := HS2.out.1
        refine (second_to vy (1 + (vm : Int)) vd vh vi 0 va hD hB loa hia).mono ?_
        rintro e w1 ⟨rfl, hB⟩
        rw [e0]
        unfold twoE
        clear e0
        go_wp2_with fail
        go_ret2
        exact ⟨rfl, hB⟩
theorem any_any (t : List UInt8) (w : World) (hl : t.length ≤ 140737488355328) :
    Calls Try.prog 13 #[str t] w fun e w' => e = twoE (if (netR t).2 = 4 then mailR t else netR t) ∧ Below w.heap.size w w' := by
  obtain ⟨r, hr⟩ : ∃ r, r = netR t := ⟨_, rfl⟩
  have CN := Lib.hid (fun W => net_any t W hl)
  rw [← hr] at CN
  rw [← hr]
  clear hr
  obtain ⟨x, y⟩ := r
  by_cases h4 : y = 4
  · subst h4
    go_enter Try.func13, Try.ntmps13
    go_wp2_with fail
    refine (CN.out _).mono ?_
    rintro e w1 ⟨rfl, hb1⟩
    unfold twoE
    go_wp2_with fail
    refine (mail_any t _ hl).mono ?_
    rintro e w2 ⟨rfl, hb2⟩
    have HB := Lib.hid (hb1.trans (hb2.mono hb1.size))
    clear hb1 hb2
    unfold twoE
    go_wp2_with fail
    go_ret2
    exact ⟨rfl, HB.out⟩
  · have n1 : (y == 4) = false := by rw [beq_eq_false_iff_ne]; exact h4
    rw [if_neg h4]
    clear h4
    go_enter Try.func13, Try.ntmps13
    go_wp2_with fail
    refine (CN.out _).mono ?_
    rintro e w1 ⟨rfl, hb1⟩
    have HB := Lib.hid hb1
    clear hb1
    unfold twoE
    go_wp2_with fail
    go_ret2
    exact ⟨rfl, HB.out⟩
end Go.Proofs.Ytnaafdennieedaa
