/- The reader's escape by its contract. -/
import Derived.Test.YtegblhmcfemfgaaGreatDoorUnit
namespace Go.Proofs.YtegblhmcfemfgaaGreatDoor
open Go.RowKit

/-- What stands behind a backslash: the error, how many bytes were read, the bytes that it says. -/
def escR (t : List UInt8) (p : Nat) : Nat × Nat × List UInt8 :=
  match t[p]? with
  | none => (2, 0, [])
  | some c => if c = 117 then ((unitR t (p + 1)).1, (unitR t (p + 1)).2.1 + 1, (unitR t (p + 1)).2.2)
    else if (meB c).2 = true then (0, 1, [(meB c).1]) else (4, 1, [])

set_option maxHeartbeats 1600000 in
theorem escape_any (t o : List UInt8) (b p : Nat) (w : World) (h : RS w b t p o) (hp : p ≤ t.length) (hl : t.length ≤ 140737488355328) (ho : o.length ≤ 70368744177664) :
    Calls Tryz.prog 165 #[.pointer (some ⟨b, 0, none⟩)] w fun e w' =>
      e = .returned (.int .i64 ((escR t p).1 : Int)) ∧ RS w' b t (p + (escR t p).2.1) (o ++ (escR t p).2.2) ∧ Below b w w' := by
  have h0 := h.c0
  have h1 := h.c1
  have hf := h.fr 1
  have hbw := h.lt
  have HRS := Lib.hid h
  clear h
  by_cases hlt : p < t.length
  · have n1 : ((p : Int) == (t.length : Int)) = false := by rw [beq_eq_false_iff_ne]; omega
    have n2 : (p : Int) < (t.length : Int) := by omega
    have n3 : (0 : Int) ≤ (p : Int) := by omega
    obtain ⟨d, hd⟩ : ∃ d, d = t[p] := ⟨_, rfl⟩
    have hgd : (ByteArray.mk t.toArray)[p]'(by simpa [ByteArray.size] using hlt) = d := hd.symm
    have hd' : t[p]? = some d := by rw [hd]; exact List.getElem?_eq_getElem hlt
    have HE := Lib.hid (show escR t p = (match some d with | none => (2, 0, []) | some c => if c = 117 then ((unitR t (p + 1)).1, (unitR t (p + 1)).2.1 + 1, (unitR t (p + 1)).2.2) else if (meB c).2 = true then (0, 1, [(meB c).1]) else (4, 1, [])) by rw [escR, hd'])
    clear hd hd'
    by_cases hu : d = 117
    · have n4 : ((d.toNat : Int) == 117) = true := by rw [hu]; rfl
      have HU := Lib.hid hu
      clear hu
      go_enter Tryz.func165, Tryz.ntmps165
      go_wp2_with fail
      go_quiet (fail)
      have hrs5 := HRS.out.drewN nq
      have hb5 := Below.drewsN (Below.refl b w) nq
      generalize w.drewN nq = w5 at hrs5 hb5 ⊢
      have h05 := hrs5.c0
      have h15 := hrs5.c1
      have hf5 := hrs5.fr 1
      have hbw5 := hrs5.lt
      have HRS5 := Lib.hid hrs5
      clear hrs5 h0 h1 hf hbw
      go_wp2_with fail
      go_quiet (fail)
      go_wp2_with fail
      have hrs6 := (HRS5.out.drewN nq).setAt (p + 1) ((p : Int) + 1) (by omega)
      have hb6 := Below.setCell (p := ⟨b, 1, none⟩) (Below.drewsN hb5 nq) (Nat.le_refl b) (.int .i64 ((p : Int) + 1))
      refine (unit_any t o b (p + 1) _ hrs6 (by omega) hl ho).mono ?_
      rintro e w7 ⟨rfl, hrs7, hb7⟩
      go_wp2_with fail
      go_ret
      have hv : escR t p = ((unitR t (p + 1)).1, (unitR t (p + 1)).2.1 + 1, (unitR t (p + 1)).2.2) := by rw [HE.out]; exact if_pos HU.out
      rw [hv]
      refine ⟨rfl, ?_, hb6.trans hb7⟩
      show RS w7 b t (p + ((unitR t (p + 1)).2.1 + 1)) _
      rw [show p + ((unitR t (p + 1)).2.1 + 1) = p + 1 + (unitR t (p + 1)).2.1 by omega]
      exact hrs7
    · have n4 : ((d.toNat : Int) == 117) = false := by
        rw [beq_eq_false_iff_ne]; intro h; exact hu (UInt8.toNat_inj.1 (by simpa using (by omega : d.toNat = 117)))
      have HU := Lib.hid hu
      clear hu
      go_enter Tryz.func165, Tryz.ntmps165
      go_wp2_with fail
      go_quiet (fail)
      have hrs5 := HRS.out.drewN nq
      have hb5 := Below.drewsN (Below.refl b w) nq
      generalize w.drewN nq = w5 at hrs5 hb5 ⊢
      have h05 := hrs5.c0
      have h15 := hrs5.c1
      have hf5 := hrs5.fr 1
      have hbw5 := hrs5.lt
      have HRS5 := Lib.hid hrs5
      clear hrs5 h0 h1 hf hbw
      go_wp2_with fail
      go_quiet (fail)
      go_wp2_with fail
      have hrs6 := (HRS5.out.drewN nq).setAt (p + 1) ((p : Int) + 1) (by omega)
      have hb6 := Below.setCell (p := ⟨b, 1, none⟩) (Below.drewsN hb5 nq) (Nat.le_refl b) (.int .i64 ((p : Int) + 1))
      refine (meant_any d _).mono ?_
      rintro e w7 ⟨rfl, rfl⟩
      obtain ⟨x, ok, hx⟩ : ∃ x ok, meB d = (x, ok) := ⟨_, _, rfl⟩
      rw [meE, hx]
      simp only
      have HX := Lib.hid hx
      clear hx
      generalize ((w5.drewN nq).setCell ⟨b, 1, none⟩ (.int .i64 ((p : Int) + 1))) = w8 at hrs6 hb6 ⊢
      cases ok
      · go_wp2_with fail
        go_ret
        have hv : escR t p = (4, 1, []) := by rw [HE.out]; exact (if_neg HU.out).trans (if_neg (by rw [HX.out]; simp))
        exact ⟨by rw [hv]; rfl, by rw [hv, List.append_nil]; exact hrs6, hb6⟩
      · obtain ⟨v, hc2, hov⟩ := hrs6.c2
        have hf2 := hrs6.fr 2
        have hbw8 := hrs6.lt
        have H6 := Lib.hid hrs6
        clear hrs6
        go_wp2_with (at_builtin; refine hold ?_)
        intro _
        refine bt.append1 rfl _ _ rfl (b + 1) v o x _ rfl hov rfl rfl (by omega) hbw8 ?_
        intro v4 w4 hov4 hg4
        obtain ⟨a4, n5, cap4, rfl⟩ := hov4.form
        obtain ⟨hc4, hf4⟩ := H6.out.still hc2 hg4
        have hb4 := hb6.grown hg4 (by have := hb6.size; omega) (fun k e => by have := hov.base k e; omega)
        go_wp2_with fail
        go_ret
        have hv : escR t p = (0, 1, [x]) := by rw [HE.out]; exact (if_neg HU.out).trans ((if_pos (by rw [HX.out])).trans (by rw [HX.out]))
        exact ⟨by rw [hv]; rfl, by rw [hv]; exact H6.out.setOut hc2 hg4 hov4, Below.setCell (p := ⟨b, 2, none⟩) hb4 (Nat.le_refl b) _⟩
  · obtain rfl : p = t.length := by omega
    have n1 : ((t.length : Int) == (t.length : Int)) = true := beq_self_eq_true _
    have hw : escR t t.length = (2, 0, []) := by rw [escR, List.getElem?_eq_none (Nat.le_refl _)]
    rw [hw]
    clear hw
    go_enter Tryz.func165, Tryz.ntmps165
    go_wp2_with fail
    go_quiet (fail)
    go_wp2_with fail
    go_ret
    exact ⟨rfl, by rw [List.append_nil]; exact HRS.out.drewN _, Below.drewsN (Below.refl _ _) _⟩
end Go.Proofs.YtegblhmcfemfgaaGreatDoor
