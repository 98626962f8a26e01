/- JSON: the reader: next, leave, enter, behind, text. -/
import Derived.Test.YtegblhmcfemfgaaGreatDoorJRd
import Derived.Test.YtegblhmcfemfgaaGreatDoorQuietB
namespace Go.Proofs.YtegblhmcfemfgaaGreatDoor
open Go.RowKit

/-- What next tells. -/
def nxC (t : List UInt8) (p : Nat) : UInt8 := t.getD (skp t p) 0
def nxE (t : List UInt8) (p : Nat) : Nat := if skp t p < t.length then 0 else 2
set_option maxHeartbeats 1000000 in
theorem next_any (t : List UInt8) (b p o : Nat) (w : World) (h : JRb w b t p o) (hp : p ≤ t.length) (hl : t.length ≤ 140737488355328) :
    Calls Tryz.prog 95 #[.pointer (some ⟨b, 0, none⟩)] w fun e w' => e = .returned (.tuple #[.int .u8 ((nxC t p).toNat : Int), .int .i64 (nxE t p : Int)]) ∧ JSt w b t (skp t p) o w' := by
  have CB := Lib.hid (blanks_any t b p o w h hp hl)
  obtain ⟨q, hq⟩ : ∃ q, q = skp t p := ⟨_, rfl⟩
  have hql : q ≤ t.length := by rw [hq]; exact skp_le t hp
  unfold nxC nxE
  rw [← hq] at CB ⊢
  clear hq h
  by_cases hlt : q < t.length
  · rw [if_pos hlt]
    have n1 : ((q : Int) == (t.length : Int)) = false := by rw [beq_eq_false_iff_ne]; omega
    have n2 : (q : Int) < (t.length : Int) := by omega
    have n3 : (0 : Int) ≤ (q : Int) := by omega
    obtain ⟨c, hc⟩ : ∃ c, c = t[q] := ⟨_, rfl⟩
    have hgd : (ByteArray.mk t.toArray)[q]'(by simpa [ByteArray.size] using hlt) = c := hc.symm
    have e : t.getD q 0 = c := by simp [List.getD, hlt, hc]
    rw [e]
    clear hc e
    go_enter Tryz.func95, Tryz.ntmps95
    go_wp2_with fail
    refine CB.out.mono ?_
    rintro e w1 ⟨rfl, h1⟩
    have HD := Lib.hid h1
    have c0 := h1.1.c0
    have c1 := h1.1.c1
    clear h1 CB
    go_wp2_with fail
    go_quiet (fail)
    go_wp2_with fail
    go_quiet (fail)
    go_wp2_with fail
    go_ret2
    exact ⟨rfl, (HD.out.drewN _).drewN _⟩
  · obtain rfl : q = t.length := by omega
    rw [if_neg hlt]
    have n1 : ((t.length : Int) == (t.length : Int)) = true := beq_self_eq_true _
    have e : t.getD t.length 0 = 0 := by simp
    rw [e]
    clear e
    go_enter Tryz.func95, Tryz.ntmps95
    go_wp2_with fail
    refine CB.out.mono ?_
    rintro e w1 ⟨rfl, h1⟩
    have HD := Lib.hid h1
    have c0 := h1.1.c0
    have c1 := h1.1.c1
    clear h1 CB
    go_wp2_with fail
    go_quiet (fail)
    go_wp2_with fail
    go_ret2
    exact ⟨rfl, HD.out.drewN _⟩
theorem leave_any (t : List UInt8) (b p o : Nat) (w : World) (h : JRb w b t p (o + 1)) (hp : p ≤ 140737488355328) (ho : o ≤ 1000) :
    Calls Tryz.prog 142 #[.pointer (some ⟨b, 0, none⟩)] w fun e w' => e = .returned (.tuple #[]) ∧ JSt w b t (p + 1) o w' := by
  have HD := Lib.hid (JSt.refl h)
  have c1 := h.c1
  have f1 := h.fr 1
  have c2 : (w.setCell ⟨b, 1, none⟩ (.int .i64 ((p : Int) + 1))).cell? ⟨b, 2, none⟩ = some (.int .i64 ((o + 1 : Nat) : Int)) := (h.setAt (p + 1) _ (by omega)).c2
  have f2 : (w.setCell ⟨b, 1, none⟩ (.int .i64 ((p : Int) + 1))).frozen? ⟨b, 2, none⟩ = false := (h.setAt (p + 1) _ (by omega)).fr 2
  clear h
  go_enter Tryz.func142, Tryz.ntmps142
  go_wp2_with fail
  go_end0
  exact ⟨rfl, (HD.out.setAt (p + 1) _ (by omega)).setOpen o _ (by omega)⟩
/-- What enter tells. -/
def EntJ (t : List UInt8) (w : World) (b o : Nat) (r : JR Bool) (e : Ending) (w' : World) : Prop :=
  match r with
  | .err c => e = .returned (.tuple #[.bool false, .int .i64 (c : Int)]) ∧ c ≠ 0 ∧ ∃ q o', JSt w b t q o' w'
  | .ok true q => e = .returned (.tuple #[.bool true, .int .i64 0]) ∧ JSt w b t q o w' ∧ q ≤ t.length
  | .ok false q => e = .returned (.tuple #[.bool false, .int .i64 0]) ∧ JSt w b t q (o + 1) w' ∧ q ≤ t.length
theorem nx_some {t : List UInt8} {p : Nat} {c : UInt8} (h : t[skp t p]? = some c) : nxC t p = c ∧ nxE t p = 0 ∧ skp t p < t.length := by
  obtain ⟨h1, h2⟩ := List.getElem?_eq_some_iff.1 h
  refine ⟨?_, if_pos h1, h1⟩
  unfold nxC
  simp [List.getD, h]
theorem nx_none {t : List UInt8} {p : Nat} (h : t[skp t p]? = none) : nxC t p = 0 ∧ nxE t p = 2 := by
  have h1 := List.getElem?_eq_none_iff.1 h
  refine ⟨?_, if_neg (by omega)⟩
  unfold nxC
  simp [List.getD, h]
set_option maxHeartbeats 1000000 in
theorem enter_any (t : List UInt8) (b p o : Nat) (d : UInt8) (w : World) (h : JRb w b t p o) (hp : p < t.length) (hl : t.length ≤ 140737488355328) (ho : o ≤ 1000) :
    Calls Tryz.prog 122 #[.pointer (some ⟨b, 0, none⟩), .int .u8 (d.toNat : Int)] w (EntJ t w b o (entP t d p)) := by
  have HD := Lib.hid (JSt.refl h)
  have c1 := h.c1
  have f1 := h.fr 1
  have c2 : (w.setCell ⟨b, 1, none⟩ (.int .i64 ((p : Int) + 1))).cell? ⟨b, 2, none⟩ = some (.int .i64 (o : Int)) := (h.setAt (p + 1) _ (by omega)).c2
  have f2 : (w.setCell ⟨b, 1, none⟩ (.int .i64 ((p : Int) + 1))).frozen? ⟨b, 2, none⟩ = false := (h.setAt (p + 1) _ (by omega)).fr 2
  have HD2 := Lib.hid ((HD.out.setAt (p + 1) ((p : Int) + 1) (by omega)).setOpen (o + 1) ((o : Int) + 1) (by omega))
  have CN := Lib.hid (next_any t b (p + 1) (o + 1) _ HD2.out.1 (by omega) hl)
  have hq := skp_le t (p := p + 1) (by omega)
  clear h HD
  cases hx : t[skp t (p + 1)]? with
  | none =>
    obtain ⟨e1, e2⟩ := nx_none hx
    have hE : entP t d p = .err 2 := by unfold entP; rw [hx]
    rw [hE]
    rw [e1, e2] at CN
    clear hx e1 e2 hE
    go_enter Tryz.func122, Tryz.ntmps122
    go_wp2_with fail
    refine CN.out.mono ?_
    rintro e w1 ⟨rfl, h1⟩
    have HX := Lib.hid (HD2.out.trans h1)
    clear h1 CN c1 f1 c2 f2 HD2
    go_wp2_with fail
    go_ret2
    exact ⟨rfl, by decide, _, _, HX.out⟩
  | some c =>
    obtain ⟨e1, e2, hlt⟩ := nx_some hx
    rw [e1, e2] at CN
    obtain ⟨q, hqq⟩ : ∃ q, q = skp t (p + 1) := ⟨_, rfl⟩
    by_cases hcd : c = d
    · subst hcd
      have hE : entP t c p = .ok true (q + 1) := by unfold entP; rw [hx]; simp [hqq]
      rw [hE]
      rw [← hqq] at CN hlt
      clear hx e1 e2 hE hqq hq
      have n1 : ((c.toNat : Int) != (c.toNat : Int)) = false := bne_self_eq_false _
      go_enter Tryz.func122, Tryz.ntmps122
      go_wp2_with fail
      refine CN.out.mono ?_
      rintro e w1 ⟨rfl, h1⟩
      have HX := Lib.hid (HD2.out.trans h1)
      have CL := Lib.hid (leave_any t b q o w1 h1.1 (by omega) ho)
      clear h1 CN c1 f1 c2 f2 HD2
      go_wp2_with fail
      refine CL.out.mono ?_
      rintro e w2 ⟨rfl, h2⟩
      have HX2 := Lib.hid (HX.out.trans h2)
      clear h2 CL HX
      go_wp2_with fail
      go_ret2
      exact ⟨rfl, HX2.out, hlt⟩
    · have hE : entP t d p = .ok false q := by unfold entP; rw [hx]; simp [hcd, hqq]
      rw [hE]
      rw [← hqq] at CN hq
      have n1 : ((c.toNat : Int) != (d.toNat : Int)) = true := by
        rw [bne_iff_ne]; intro h; exact hcd (UInt8.toNat_inj.1 (by omega))
      clear hx e1 e2 hE hqq hcd hlt
      go_enter Tryz.func122, Tryz.ntmps122
      go_wp2_with fail
      refine CN.out.mono ?_
      rintro e w1 ⟨rfl, h1⟩
      have HX := Lib.hid (HD2.out.trans h1)
      clear h1 CN c1 f1 c2 f2 HD2
      go_wp2_with fail
      go_ret2
      exact ⟨rfl, HX.out, hq⟩
/-- What behind tells: the one that ends it takes one away. -/
def BehJ (t : List UInt8) (w : World) (b o : Nat) (r : JR Bool) (e : Ending) (w' : World) : Prop :=
  match r with
  | .err c => e = .returned (.tuple #[.bool false, .int .i64 (c : Int)]) ∧ c ≠ 0 ∧ ∃ q o', JSt w b t q o' w'
  | .ok true q => e = .returned (.tuple #[.bool true, .int .i64 0]) ∧ JSt w b t q o w' ∧ q ≤ t.length
  | .ok false q => e = .returned (.tuple #[.bool false, .int .i64 0]) ∧ JSt w b t q (o + 1) w' ∧ q ≤ t.length
set_option maxHeartbeats 1000000 in
theorem behind_any (t : List UInt8) (b p o : Nat) (d : UInt8) (w : World) (h : JRb w b t p (o + 1)) (hp : p ≤ t.length) (hl : t.length ≤ 140737488355328) (ho : o ≤ 1000) :
    Calls Tryz.prog 123 #[.pointer (some ⟨b, 0, none⟩), .int .u8 (d.toNat : Int)] w (BehJ t w b o (behP t d p)) := by
  have CN := Lib.hid (next_any t b p (o + 1) _ h hp hl)
  clear h
  cases hx : t[skp t p]? with
  | none =>
    obtain ⟨e1, e2⟩ := nx_none hx
    have hE : behP t d p = .err 2 := by unfold behP; rw [hx]
    rw [hE]
    rw [e1, e2] at CN
    clear hx e1 e2 hE
    go_enter Tryz.func123, Tryz.ntmps123
    go_wp2_with fail
    refine CN.out.mono ?_
    rintro e w1 ⟨rfl, h1⟩
    have HX := Lib.hid h1
    clear h1 CN
    go_wp2_with fail
    go_ret2
    exact ⟨rfl, by decide, _, _, HX.out⟩
  | some c =>
    obtain ⟨e1, e2, hlt⟩ := nx_some hx
    rw [e1, e2] at CN
    obtain ⟨q, hqq⟩ : ∃ q, q = skp t p := ⟨_, rfl⟩
    by_cases hcd : c = d
    · subst hcd
      have hE : behP t c p = .ok true (q + 1) := by unfold behP; rw [hx]; simp [hqq]
      rw [hE]
      rw [← hqq] at CN hlt
      clear hx e1 e2 hE hqq
      have n1 : ((c.toNat : Int) == (c.toNat : Int)) = true := beq_self_eq_true _
      go_enter Tryz.func123, Tryz.ntmps123
      go_wp2_with fail
      refine CN.out.mono ?_
      rintro e w1 ⟨rfl, h1⟩
      have HX := Lib.hid h1
      have CL := Lib.hid (leave_any t b q o w1 h1.1 (by omega) ho)
      clear h1 CN
      go_wp2_with fail
      refine CL.out.mono ?_
      rintro e w2 ⟨rfl, h2⟩
      have HX2 := Lib.hid (HX.out.trans h2)
      clear h2 CL HX
      go_wp2_with fail
      go_ret2
      exact ⟨rfl, HX2.out, hlt⟩
    · have n1 : ((c.toNat : Int) == (d.toNat : Int)) = false := by
        rw [beq_eq_false_iff_ne]; intro h; exact hcd (UInt8.toNat_inj.1 (by omega))
      by_cases hc44 : c = 44
      · subst hc44
        have hE : behP t d p = .ok false (q + 1) := by unfold behP; rw [hx]; simp [hqq, hcd]
        rw [hE]
        rw [← hqq] at CN hlt
        have n1' : ((44 : Int) == (d.toNat : Int)) = false := n1
        clear hx e1 e2 hE hqq hcd
        go_enter Tryz.func123, Tryz.ntmps123
        go_wp2_with fail
        refine CN.out.mono ?_
        rintro e w1 ⟨rfl, h1⟩
        have HX := Lib.hid h1
        have c1 := h1.1.c1
        have f1 := h1.1.fr 1
        clear h1 CN
        go_wp2_with fail
        go_ret2
        exact ⟨rfl, HX.out.setAt (q + 1) _ (by omega), hlt⟩
      · have hE : behP t d p = .err 4 := by unfold behP; rw [hx]; simp [hcd, hc44]
        rw [hE]
        have n2 : ((c.toNat : Int) == 44) = false := by
          rw [beq_eq_false_iff_ne]; intro h; exact hc44 (UInt8.toNat_inj.1 (by have : (44 : UInt8).toNat = 44 := rfl; omega))
        clear hx e1 e2 hE hqq hcd hc44
        go_enter Tryz.func123, Tryz.ntmps123
        go_wp2_with fail
        refine CN.out.mono ?_
        rintro e w1 ⟨rfl, h1⟩
        have HX := Lib.hid h1
        clear h1 CN
        go_wp2_with fail
        go_ret2
        exact ⟨rfl, by decide, _, _, HX.out⟩
/-- What text tells. -/
def TxtJ (t : List UInt8) (w : World) (b o : Nat) (r : JR (List UInt8)) (e : Ending) (w' : World) : Prop :=
  match r with
  | .err c => e = .returned (.tuple #[str [], .int .i64 (c : Int)]) ∧ c ≠ 0 ∧ ∃ q o', JSt w b t q o' w'
  | .ok s q => e = .returned (.tuple #[str s, .int .i64 0]) ∧ JSt w b t q o w' ∧ q ≤ t.length ∧ s.length ≤ 8000
set_option maxHeartbeats 1000000 in
theorem jtext_any (t : List UInt8) (b p o : Nat) (w : World) (h : JRb w b t p o) (hl : t.length ≤ 17592186044416) :
    Calls Tryz.prog 99 #[.pointer (some ⟨b, 0, none⟩)] w (TxtJ t w b o (txtP t p)) := by
  have HD := Lib.hid (JSt.refl h)
  have CU := Lib.hid (fun W => unquote_any t (p : Int) W hl)
  obtain ⟨hu1, hu2⟩ := unqR_len t (p : Int)
  unfold txtP
  have cc0 := h.c0
  have cc1 := h.c1
  clear h
  obtain ⟨⟨s, q, c⟩, hu⟩ : ∃ u, u = unqR t (p : Int) := ⟨_, rfl⟩
  rw [← hu] at CU hu1 hu2 ⊢
  dsimp only at hu1 hu2 ⊢
  unfold unqE at CU
  dsimp only at CU
  clear hu
  have z0 := Lib.hid (fun p : BelowBy w => BelowBy.cell cc0 p)
  have z1 := Lib.hid (fun p : BelowBy w => BelowBy.cell cc1 p)
  clear cc0 cc1
  by_cases hc : c = 0
  · subst hc
    rw [if_neg (by simp)]
    by_cases hs : 8000 < s.length
    · rw [if_pos hs]
      have d1 : decide ((8000 : Int) < (s.length : Int)) = true := decide_eq_true (by omega)
      go_enter Tryz.func99, Tryz.ntmps99
      go_wp2_with fail
      refine wp_region_quiet_below (by kernel_rfl) (by kernel_rfl) ?_
      iterate 16 (first | go_big_quiet_skip | (go_big_quiet_want; go_big_quiet_op; first | go_big_quiet_on | (simp only [z0.out, z1.out, Result.andThen, true_and, forall_const, exists_eq_left']; go_big_quiet_on) | go_big_quiet_call ((go_at_call 128; exact Calls.below_of (CU.out _)))) | fail)
      refine wpQuiet_nil ?_
      rintro w3 ⟨⟨_, hb3⟩, rfl⟩
      have HX := Lib.hid (HD.out.below hb3)
      clear hb3 CU z0 z1
      go_wp2_with fail
      go_ret2
      exact ⟨rfl, by decide, _, _, HX.out⟩
    · rw [if_neg hs]
      have d1 : decide ((8000 : Int) < (s.length : Int)) = false := decide_eq_false (by omega)
      go_enter Tryz.func99, Tryz.ntmps99
      go_wp2_with fail
      refine wp_region_quiet_below (by kernel_rfl) (by kernel_rfl) ?_
      iterate 16 (first | go_big_quiet_skip | (go_big_quiet_want; go_big_quiet_op; first | go_big_quiet_on | (simp only [z0.out, z1.out, Result.andThen, true_and, forall_const, exists_eq_left']; go_big_quiet_on) | go_big_quiet_call ((go_at_call 128; exact Calls.below_of (CU.out _)))) | fail)
      refine wpQuiet_nil ?_
      rintro w3 ⟨⟨_, hb3⟩, rfl⟩
      have h3 := HD.out.below hb3
      have f1 := h3.1.fr 1
      have k1 := h3.1.c1
      have HX := Lib.hid h3
      clear h3 hb3 CU z0 z1
      go_wp2_with fail
      go_ret2
      exact ⟨rfl, HX.out.setAt q _ rfl, hu2, by omega⟩
  · rw [if_pos hc]
    have d1 : ((c : Int) != 0) = true := by rw [bne_iff_ne]; omega
    go_enter Tryz.func99, Tryz.ntmps99
    go_wp2_with fail
    refine wp_region_quiet_below (by kernel_rfl) (by kernel_rfl) ?_
    iterate 16 (first | go_big_quiet_skip | (go_big_quiet_want; go_big_quiet_op; first | go_big_quiet_on | (simp only [z0.out, z1.out, Result.andThen, true_and, forall_const, exists_eq_left']; go_big_quiet_on) | go_big_quiet_call ((go_at_call 128; exact Calls.below_of (CU.out _)))) | fail)
    refine wpQuiet_nil ?_
    rintro w3 ⟨⟨_, hb3⟩, rfl⟩
    have HX := Lib.hid (HD.out.below hb3)
    clear hb3 CU z0 z1
    go_wp2_with fail
    go_ret2
    exact ⟨rfl, hc, _, _, HX.out⟩
end Go.Proofs.YtegblhmcfemfgaaGreatDoor
