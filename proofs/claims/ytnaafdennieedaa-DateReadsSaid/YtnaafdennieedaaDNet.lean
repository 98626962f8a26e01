/- Layer 5: second; Net, Mail, Any. -/
import Derived.Test.YtnaafdennieedaaDMz
namespace Go.Proofs.Ytnaafdennieedaa
open Go.RowKit

theorem dby_last (w : World) : Calls Try.prog 37 #[.int .i64 10000] w fun e w' => e = .returned (.int .i64 2932897) ∧ w' = w :=
  (dby_any 10000 w (by omega) (by omega)).mono fun _ _ ⟨he, hw⟩ => ⟨he.trans rfl, hw⟩
theorem btoi_any (x : Bool) (w : World) : Calls Try.prog 25 #[.bool x] w fun e w' => e = .returned (.int .i64 (if x = true then 1 else 0)) ∧ w' = w := by
  cases x
  · go_enter Try.func25, Try.ntmps25
    go_wp2
    go_ret
    exact ⟨rfl, rfl⟩
  · go_enter Try.func25, Try.ntmps25
    go_wp2
    go_ret
    exact ⟨rfl, rfl⟩
/-- What second tells. -/
def secR (t : List UInt8) (p : Nat) (z : Bool) (y mo d h mi s a : Int) : Int × Int :=
  if z = true ∨ p ≠ t.length then (0, 4) else
  if mkB y mo d h mi s = false ∨ mkV y mo d h mi s - a < 0 ∨ 253402300800 ≤ mkV y mo d h mi s - a then (0, 1) else (mkV y mo d h mi s - a, 0)
def twoE (r : Int × Int) : Ending := .returned (.tuple #[.int .i64 r.1, .int .i64 r.2])
theorem mkV_bd (y mo d h mi s : Int) (H : mkB y mo d h mi s = true) : 0 ≤ mkV y mo d h mi s ∧ mkV y mo d h mi s ≤ 300000000000 := by
  obtain ⟨a1, a2, a3, a4, a5, a6, a7, a8, a9, a10, a11, a12⟩ := (mkB_iff _ _ _ _ _ _).1 H
  have hd := (dof_bd y mo (by omega)).2
  obtain ⟨b1, b2⟩ := db_bd y mo d a1 a2 a3 a4 a5 (by omega)
  unfold mkV; omega
set_option maxHeartbeats 1600000 in
set_option maxRecDepth 100000 in
theorem second_to {t : List UInt8} {b p : Nat} {z : Bool} {w0 w : World} (y mo d h mi s a : Int) (hD : Hid (DR w b t p z)) (hB : Hid (Below b w0 w)) (ha1 : -30000000 ≤ a) (ha2 : a ≤ 30000000) :
    Calls Try.prog 28 #[.pointer (some ⟨b, 0, none⟩), .int .i64 y, .int .i64 mo, .int .i64 d, .int .i64 h, .int .i64 mi, .int .i64 s, .int .i64 a] w fun e w' => e = twoE (secR t p z y mo d h mi s a) ∧ Below b w0 w' := by
  have c0 := hD.out.c0
  have c1 := hD.out.c1
  have c2 := hD.out.c2
  unfold secR twoE
  cases z with
  | true =>
    rw [if_pos (.inl rfl)]
    go_enter Try.func28, Try.ntmps28
    go_wp2_with fail
    go_quiet (fail)
    go_wp2_with fail
    go_ret2
    exact ⟨rfl, Below.drewsN hB.out _⟩
  | false =>
    by_cases hp : p = t.length
    · subst hp
      rw [if_neg (by simp)]
      have n1 : ((t.length : Int) != (t.length : Int)) = false := bne_self_eq_false _
      cases H : mkB y mo d h mi s with
      | false =>
        have CM := Lib.hid (fun W => make_no y mo d h mi s W H)
        rw [if_pos (.inl rfl)]
        clear H
        go_enter Try.func28, Try.ntmps28
        go_wp2_with fail
        go_quiet (fail)
        go_wp2_with (go_at_call 17; refine (CM.out _).mono ?_; rintro e w' ⟨rfl, rfl⟩)
        go_ret2
        exact ⟨rfl, Below.drewsN hB.out _⟩
      | true =>
        obtain ⟨v1, v2⟩ := mkV_bd y mo d h mi s H
        have CM := Lib.hid (fun W => make_yes y mo d h mi s W H)
        obtain ⟨V, hV⟩ : ∃ V, V = mkV y mo d h mi s := ⟨_, rfl⟩
        rw [← hV] at v1 v2 CM
        rw [← hV]
        clear hV H
        by_cases g1 : V - a < 0
        · rw [if_pos (.inr (.inl g1))]
          go_enter Try.func28, Try.ntmps28
          go_wp2_with fail
          go_quiet (fail)
          go_wp2_with (go_at_call 17; refine (CM.out _).mono ?_; rintro e w' ⟨rfl, rfl⟩)
          go_ret2
          exact ⟨rfl, Below.drewsN hB.out _⟩
        by_cases g2 : 253402300800 ≤ V - a
        · rw [if_pos (.inr (.inr g2))]
          go_enter Try.func28, Try.ntmps28
          go_wp2_with fail
          go_quiet (fail)
          go_wp2_with (first
            | (go_at_call 17; refine (CM.out _).mono ?_; rintro e w' ⟨rfl, rfl⟩)
            | (go_at_call 37; refine (dby_last _).mono ?_; rintro e w' ⟨rfl, rfl⟩))
          go_ret2
          exact ⟨rfl, Below.drewsN hB.out _⟩
        rw [if_neg (by simp; omega)]
        go_enter Try.func28, Try.ntmps28
        go_wp2_with fail
        go_quiet (fail)
        go_wp2_with (first
          | (go_at_call 17; refine (CM.out _).mono ?_; rintro e w' ⟨rfl, rfl⟩)
          | (go_at_call 37; refine (dby_last _).mono ?_; rintro e w' ⟨rfl, rfl⟩))
        go_ret2
        exact ⟨rfl, Below.drewsN hB.out _⟩
    · have n1 : ((p : Int) != (t.length : Int)) = true := by rw [bne_iff_ne]; omega
      rw [if_pos (.inr hp)]
      clear hp
      go_enter Try.func28, Try.ntmps28
      go_wp2_with fail
      go_quiet (fail)
      go_wp2_with fail
      go_ret2
      exact ⟨rfl, Below.drewsN hB.out _⟩

/-- What Net tells. -/
def netR (t : List UInt8) : Int × Int :=
  let y := numF t 4 0 0 false
  let s1 := sgnF [45] t y.2.1 y.2.2
  let m := numF t 2 0 s1.2.1 s1.2.2
  let s2 := sgnF [45] t m.2.1 m.2.2
  let d := numF t 2 0 s2.2.1 s2.2.2
  let s3 := sgnF [84, 116] t d.2.1 d.2.2
  let h := numF t 2 0 s3.2.1 s3.2.2
  let s4 := sgnF [58] t h.2.1 h.2.2
  let i := numF t 2 0 s4.2.1 s4.2.2
  let s5 := sgnF [58] t i.2.1 i.2.2
  let s := numF t 2 0 s5.2.1 s5.2.2
  let f := fracF t s.2.1 s.2.2
  let a := nzF t f.1 f.2
  secR t a.2.1 a.2.2 y.1 m.1 d.1 h.1 i.1 s.1 a.1
set_option maxHeartbeats 1600000 in
set_option maxRecDepth 100000 in
theorem net_any (t : List UInt8) (w : World) (hl : t.length ≤ 140737488355328) :
    Calls Try.prog 11 #[str t] w fun e w' => e = twoE (netR t) ∧ Below w.heap.size w w' := by
  obtain ⟨vy, py, zy, ey, ly, loy, hiy⟩ := num4_ex t 0 false (Nat.zero_le _)
  obtain ⟨vs1, ps1, zs1, es1, ls1⟩ := sgnF_ex [45] t py zy ly
  obtain ⟨vm, pm, zm, em, lm, lom, him⟩ := num2_ex t ps1 zs1 ls1
  obtain ⟨vs2, ps2, zs2, es2, ls2⟩ := sgnF_ex [45] t pm zm lm
  obtain ⟨vd, pd, zd, ed, ld, lod, hid⟩ := num2_ex t ps2 zs2 ls2
  obtain ⟨vs3, ps3, zs3, es3, ls3⟩ := sgnF_ex [84, 116] t pd zd ld
  obtain ⟨vh, ph, zh, eh, lh, loh, hih⟩ := num2_ex t ps3 zs3 ls3
  obtain ⟨vs4, ps4, zs4, es4, ls4⟩ := sgnF_ex [58] t ph zh lh
  obtain ⟨vi, pi, zi, ei, li, loi, hii⟩ := num2_ex t ps4 zs4 ls4
  obtain ⟨vs5, ps5, zs5, es5, ls5⟩ := sgnF_ex [58] t pi zi li
  obtain ⟨vs, ps, zs, es, ls, los, his⟩ := num2_ex t ps5 zs5 ls5
  obtain ⟨pf, zf, ef, lf⟩ := frac_ex t ps zs ls
  obtain ⟨va, pa, za, ea, la, loa, hia⟩ := nz_ex t pf zf lf
  have e : netR t = secR t pa za vy vm vd vh vi vs va := by unfold netR; simp only [ey, es1, em, es2, ed, es3, eh, es4, ei, es5, es, ef, ea]
  rw [e]
  have Hey := Lib.hid ey
  have Hes1 := Lib.hid es1
  have Hem := Lib.hid em
  have Hes2 := Lib.hid es2
  have Hed := Lib.hid ed
  have Hes3 := Lib.hid es3
  have Heh := Lib.hid eh
  have Hes4 := Lib.hid es4
  have Hei := Lib.hid ei
  have Hes5 := Lib.hid es5
  have Hes := Lib.hid es
  have Hef := Lib.hid ef
  have Hea := Lib.hid ea
  clear e ey es1 em es2 ed es3 eh es4 ei es5 es ef ea
  go_enter Try.func11, Try.ntmps11
  go_wp2_with fail
  have hD := Lib.hid (DR.made w t 0 rfl 39)
  have hB := Lib.hid (below_alloc w (.cells #[str t, .int .i64 0, .bool false] 39))
  refine (dnumber_to rfl Hey hD hB (Nat.zero_le _) hl (by omega)).mono ?_
  rintro e w1 ⟨rfl, hD, hB⟩
  go_wp2_with fail
  refine (sign_to Hes1 hD hB ly hl).mono ?_
  rintro e w1 ⟨rfl, hD, hB⟩
  go_wp2_with fail
  refine (dnumber_to rfl Hem hD hB ls1 hl (by omega)).mono ?_
  rintro e w1 ⟨rfl, hD, hB⟩
  go_wp2_with fail
  refine (sign_to Hes2 hD hB lm hl).mono ?_
  rintro e w1 ⟨rfl, hD, hB⟩
  go_wp2_with fail
  refine (dnumber_to rfl Hed hD hB ls2 hl (by omega)).mono ?_
  rintro e w1 ⟨rfl, hD, hB⟩
  go_wp2_with fail
  refine (sign_to Hes3 hD hB ld hl).mono ?_
  rintro e w1 ⟨rfl, hD, hB⟩
  go_wp2_with fail
  refine (dnumber_to rfl Heh hD hB ls3 hl (by omega)).mono ?_
  rintro e w1 ⟨rfl, hD, hB⟩
  go_wp2_with fail
  refine (sign_to Hes4 hD hB lh hl).mono ?_
  rintro e w1 ⟨rfl, hD, hB⟩
  go_wp2_with fail
  refine (dnumber_to rfl Hei hD hB ls4 hl (by omega)).mono ?_
  rintro e w1 ⟨rfl, hD, hB⟩
  go_wp2_with fail
  refine (sign_to Hes5 hD hB li hl).mono ?_
  rintro e w1 ⟨rfl, hD, hB⟩
  go_wp2_with fail
  refine (dnumber_to rfl Hes hD hB ls5 hl (by omega)).mono ?_
  rintro e w1 ⟨rfl, hD, hB⟩
  go_wp2_with fail
  refine (frac_to Hef hD hB ls hl).mono ?_
  rintro e w1 ⟨rfl, hD, hB⟩
  go_wp2_with fail
  refine (nz_to Hea hD hB lf hl).mono ?_
  rintro e w1 ⟨rfl, hD, hB⟩
  go_wp2_with fail
  refine (second_to vy vm vd vh vi vs va hD hB loa hia).mono ?_
  rintro e w1 ⟨rfl, hB⟩
  unfold twoE
  go_wp2_with fail
  go_ret2
  exact ⟨rfl, hB⟩
end Go.Proofs.Ytnaafdennieedaa
