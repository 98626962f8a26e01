/- The reader's step by its contract. -/
import Derived.Test.YtidlhajibjnkeaaGreatDoorEscape
import Derived.Lib.AppendStr
import Derived.Deep.RegionLaw
namespace Go.Proofs.YtidlhajibjnkeaaGreatDoor
open Go.RowKit

theorem strCells_map (l : List UInt8) : Lib.strCells ⟨l.toArray⟩ = l.map bv := by
  simp [Lib.strCells, bv]
theorem sub_str (t : List UInt8) (p z n : Nat) (hn : n = p + z) : Value.string ((ByteArray.mk t.toArray).extract p n) = str ((t.drop p).take z) := by
  subst hn
  unfold str
  congr 1
  apply ByteArray.ext
  simp [ByteArray.data_extract, List.extract_toArray]
section
variable {P : Program} {T U E : TypeId} {ops : Array Oper} {rest : List Oper} {o : Oper} {a : Act} {Q : Exit → Act → World → Prop} {w : World}
/-- 'append(b, s...)', s a string. -/
theorem BT.appendStr (B : BT P T E) (hU : P.underlying U = some .string) (hgd : o.guard = none) (s x : Operand) (ho : o.op = .call { callee := .builtin .append, args := #[s, x], argTypes := #[T, U] })
    (base : Nat) (v : Value) (l m : List UInt8) (hown : Own E w base v l) (hs : a.eval s = v) (hx : a.eval x = str m) (hlen : l.length + m.length ≤ 140737488355328) (hbase : base ≤ w.heap.size)
    (h : ∀ v' w', Own E w' base v' (l ++ m) → w.grownBy w' v.ownBlock → wpList P ops Q rest (a.put o.dst v') w') :
    wpList P ops Q (o :: rest) a w := by
  obtain ⟨i, hi, h1, h2, h3⟩ := info_parts B.info
  refine Lib.wpList_append_own_string w hgd s x T U ho base E i B.t hU hi h1 h2 h3 v l.length (l.map bv) hs hown ⟨m.toArray⟩ hx (by unfold maxLen; simp [ByteArray.size]; omega) (by simpa [ByteArray.size] using hlen) hbase ?_
  intro v' w' h1 h2 _
  refine h v' w' ?_ h2
  unfold Own
  rw [strCells_map] at h1
  simpa [ByteArray.size] using h1
theorem BT.stepAppendStr {K : Act → World → Prop} {N : Prop} (B : BT P T E) (hU : P.underlying U = some .string) (hgd : o.guard = none) (s x : Operand) (ho : o.op = .call { callee := .builtin .append, args := #[s, x], argTypes := #[T, U] })
    (base : Nat) (v : Value) (l m : List UInt8) (hs : a.eval s = v) (hown : Own E w base v l) (hx : a.eval x = str m) (hlen : l.length + m.length ≤ 140737488355328) (hbase : base ≤ w.heap.size)
    (h : ∀ ad n cp w', Own E w' base (.slice ad n cp) (l ++ m) → w.grownBy w' v.ownBlock → K (a.put o.dst (.slice ad n cp)) w') :
    if Region.wanted o (yielded ops a.tmps) = true then Oper.wp P o a w K Q else N := by
  have hw : Region.wanted o (yielded ops a.tmps) = true := by simp [Region.wanted, hgd]
  rw [if_pos hw]
  obtain ⟨i, hi, h1, h2, h3⟩ := info_parts B.info
  obtain ⟨v', w', hr, h4, h5, _⟩ := Lib.run_append_own_string (P := P) w base T U o.type E i B.t hU hi h1 h2 h3 v l.length (l.map bv) hown ⟨m.toArray⟩ (by unfold maxLen; simp [ByteArray.size]; omega) (by simpa [ByteArray.size] using hlen) hbase
  unfold Oper.wp execOp
  simp only [ho, resolve, invoke, builtin, Sem.run_bind, Sem.run_pure, Result.andThen_ok, List.map_toArray, List.map_cons, List.map_nil, hs, hx, hr]
  have ho : Own E w' base v' (l ++ m) := by
    unfold Own
    rw [strCells_map] at h4
    simpa [ByteArray.size] using h4
  obtain ⟨ad, n, cp, rfl⟩ := ho.form
  exact h ad n cp w' ho h5
end
theorem RS.still4 {w w' : World} {b p : Nat} {t o : List UInt8} {v : Value} (h : RS w b t p o) (hc : w.cell? ⟨b, 2, none⟩ = some v) (hg : w.grownBy w' v.ownBlock) :
    w'.cell? ⟨b, 0, none⟩ = some (str t) ∧ w'.cell? ⟨b, 1, none⟩ = some (.int .i64 (p : Int)) ∧ w'.cell? ⟨b, 2, none⟩ = some v ∧ w'.frozen? ⟨b, 2, none⟩ = false := by
  obtain ⟨v0, T, h, ho⟩ := h
  have e : v0 = v := by simpa [World.cell?, h] using hc
  subst e
  have hb : w'.heap[b]? = some (.cells #[str t, .int .i64 (p : Int), v0] T (0, 0)) := by
    rw [hg.block b (Array.getElem?_eq_some_iff.1 h).1 (fun e => by have := ho.base b e.symm; omega)]
    exact h
  exact ⟨by simp [World.cell?, hb], by simp [World.cell?, hb], by simp [World.cell?, hb], frozen_of_row w' b 2 _ T hb⟩

theorem grown_undrew {w w' : World} {r : Option Nat} (h : w.drew.grownBy w' r) : w.grownBy w' r := ⟨h.os, h.tape, h.output, h.size, h.block⟩
theorem Own.drew1 {E : TypeId} {w : World} {base : Nat} {v : Value} {l : List UInt8} (h : Own E w base v l) : Own E w.drew base v l := h
/-- A step: is it the end, the error, how many bytes were read, the bytes that it says. -/
def stepR (t : List UInt8) (p : Nat) : Bool × Nat × Nat × List UInt8 :=
  match t[p]? with
  | none => (false, 2, 0, [])
  | some c => if c = 34 then (true, 0, 1, [])
    else if c = 92 then (false, (escR t (p + 1)).1, (escR t (p + 1)).2.1 + 1, (escR t (p + 1)).2.2)
    else if (sgn (t.drop p)).2 = 0 ∨ (sgn (t.drop p)).1 < 32 then (false, 4, 0, [])
    else (false, 0, (sgn (t.drop p)).2, (t.drop p).take (sgn (t.drop p)).2)

set_option maxRecDepth 100000 in
set_option maxHeartbeats 3200000 in
theorem step_any (t o : List UInt8) (b p : Nat) (w : World) (h : RS w b t p o) (hp : p ≤ t.length) (hl : t.length ≤ 70368744177664) (ho : o.length ≤ 70368744177664) :
    Calls Tryz.prog 85 #[.pointer (some ⟨b, 0, none⟩)] w fun e w' =>
      e = .returned (.tuple #[.bool (stepR t p).1, .int .i64 ((stepR t p).2.1 : Int)]) ∧ RS w' b t (p + (stepR t p).2.2.1) (o ++ (stepR t p).2.2.2) ∧ Below b w w' := by
  have h0 := h.c0
  have h1 := h.c1
  have hf := h.fr 1
  have hbw := h.lt
  have HRS := Lib.hid h
  clear h
  by_cases hlt : p < t.length
  · have n1 : ((p : Int) == (t.length : Int)) = false := by rw [beq_eq_false_iff_ne]; omega
    have n2 : (p : Int) < (t.length : Int) := by omega
    have n3 : (0 : Int) ≤ (p : Int) := by omega
    obtain ⟨d, hd⟩ : ∃ d, d = t[p] := ⟨_, rfl⟩
    have hgd : (ByteArray.mk t.toArray)[p]'(by simpa [ByteArray.size] using hlt) = d := hd.symm
    have hd' : t[p]? = some d := by rw [hd]; exact List.getElem?_eq_getElem hlt
    have HE := Lib.hid (show stepR t p = (if d = 34 then (true, 0, 1, [])
      else if d = 92 then (false, (escR t (p + 1)).1, (escR t (p + 1)).2.1 + 1, (escR t (p + 1)).2.2)
      else if (sgn (t.drop p)).2 = 0 ∨ (sgn (t.drop p)).1 < 32 then (false, 4, 0, [])
      else (false, 0, (sgn (t.drop p)).2, (t.drop p).take (sgn (t.drop p)).2)) by rw [stepR, hd'])
    clear hd hd'
    go_enter Tryz.func85, Tryz.ntmps85
    go_wp2_with fail
    go_quiet (fail)
    have hrs5 := HRS.out.drewN nq
    have hb5 := Below.drewsN (Below.refl b w) nq
    generalize w.drewN nq = w5 at hrs5 hb5 ⊢
    have h05 := hrs5.c0
    have h15 := hrs5.c1
    have hf5 := hrs5.fr 1
    have hbw5 := hrs5.lt
    have HRS5 := Lib.hid hrs5
    clear hrs5 h0 h1 hf hbw
    go_wp2_with fail
    go_quiet (fail)
    have hrs6 := HRS5.out.drewN nq
    have hb6 := Below.drewsN hb5 nq
    generalize w5.drewN nq = w6 at hrs6 hb6 ⊢
    have h06 := hrs6.c0
    have h16 := hrs6.c1
    have hf6 := hrs6.fr 1
    have hbw6 := hrs6.lt
    have HRS6 := Lib.hid hrs6
    clear hrs6 h05 h15 hf5 hbw5 HRS5
    by_cases hq : d = 34
    · have m1 : ((d.toNat : Int) == 34) = true := by rw [hq]; rfl
      have hv : stepR t p = (true, 0, 1, []) := by rw [HE.out, if_pos hq]
      have HV := Lib.hid hv
      clear hv hq
      go_wp2_with fail
      go_ret2
      exact ⟨by rw [HV.out]; rfl, by rw [HV.out, List.append_nil]; exact HRS6.out.setAt (p + 1) _ (by omega), Below.setCell (p := ⟨b, 1, none⟩) hb6 (Nat.le_refl b) _⟩
    have m1 : ((d.toNat : Int) == 34) = false := by
      rw [beq_eq_false_iff_ne]; intro h; exact hq (UInt8.toNat_inj.1 (by simpa using (by omega : d.toNat = 34)))
    by_cases hs : d = 92
    · have m2 : ((d.toNat : Int) == 92) = true := by rw [hs]; rfl
      have hv : stepR t p = (false, (escR t (p + 1)).1, (escR t (p + 1)).2.1 + 1, (escR t (p + 1)).2.2) := by rw [HE.out, if_neg hq, if_pos hs]
      have HV := Lib.hid hv
      clear hv hq hs
      have hrs7 := (HRS6.out).setAt (p + 1) ((p : Int) + 1) (by omega)
      have hb7 := Below.setCell (p := ⟨b, 1, none⟩) hb6 (Nat.le_refl b) (.int .i64 ((p : Int) + 1))
      go_wp2_with fail
      refine (escape_any t o b (p + 1) _ hrs7 (by omega) (by omega) ho).mono ?_
      rintro e w8 ⟨rfl, hrs8, hb8⟩
      go_wp2_with fail
      go_ret2
      refine ⟨by rw [HV.out]; rfl, ?_, hb7.trans hb8⟩
      rw [HV.out]
      show RS w8 b t (p + ((escR t (p + 1)).2.1 + 1)) _
      rw [show p + ((escR t (p + 1)).2.1 + 1) = p + 1 + (escR t (p + 1)).2.1 by omega]
      exact hrs8
    have m2 : ((d.toNat : Int) == 92) = false := by
      rw [beq_eq_false_iff_ne]; intro h; exact hs (UInt8.toNat_inj.1 (by simpa using (by omega : d.toNat = 92)))
    have hle := sgn_le (t.drop p)
    rw [List.length_drop] at hle
    obtain ⟨c, z, hcz⟩ : ∃ c z, sgn (t.drop p) = (c, z) := ⟨_, _, rfl⟩
    have hE2 := HE.out
    rw [if_neg hq, if_neg hs, hcz] at hE2
    rw [hcz] at hle
    simp only at hle hE2
    have HE2 := Lib.hid hE2
    have hsa : ∀ W, Calls Tryz.prog 103 #[str t, .int .i64 (p : Int)] W fun e w' => e = .returned (.tuple #[.int .i64 (c : Int), .int .i64 (z : Int)]) ∧ w' = W := fun W => by
      have := signAt_any t p W hlt (by omega)
      rw [hcz] at this
      exact this
    have HSA := Lib.hid hsa
    clear hq hs hcz hE2 hsa
    obtain ⟨C, hC⟩ : ∃ C : Int, C = (c : Int) := ⟨_, rfl⟩
    have HC := Lib.hid hC
    by_cases hz : z = 0
    · have m3 : ((z : Int) == 0) = true := by rw [beq_iff_eq]; omega
      have hv : stepR t p = (false, 4, 0, []) := by rw [HE2.out, if_pos (.inl hz)]
      have HV := Lib.hid hv
      clear hv hz hC
      go_wp2_with fail
      go_quiet ((go_at_call 103; exact Calls.quiet_of_same (HSA.out _)))
      go_wp2_with fail
      go_ret2
      exact ⟨by rw [HV.out]; rfl, by rw [HV.out, List.append_nil]; exact HRS6.out.drewN _, Below.drewsN hb6 _⟩
    have m3 : ((z : Int) == 0) = false := by rw [beq_eq_false_iff_ne]; omega
    by_cases hc : c < 32
    · have m4 : (c : Int) < 32 := by omega
      have hv : stepR t p = (false, 4, 0, []) := by rw [HE2.out, if_pos (.inr hc)]
      have HV := Lib.hid hv
      clear hv hz hC
      go_wp2_with fail
      go_quiet ((go_at_call 103; exact Calls.quiet_of_same (HSA.out _)))
      go_wp2_with fail
      go_ret2
      exact ⟨by rw [HV.out]; rfl, by rw [HV.out, List.append_nil]; exact HRS6.out.drewN _, Below.drewsN hb6 _⟩
    have m4 : ¬ (c : Int) < 32 := by omega
    have hv : stepR t p = (false, 0, z, (t.drop p).take z) := by rw [HE2.out, if_neg (by rintro (h | h) <;> contradiction)]
    have HV := Lib.hid hv
    clear hv hz hC hc
    have m9 : z ≤ t.length := by omega
    have m5 : IntKind.i64.wrap ((p : Int) + (z : Int)) = (p : Int) + (z : Int) := IntWalk.i64_in _ ⟨by omega, by omega⟩
    have m6 : (p : Int) + (z : Int) ≤ (t.length : Int) := by omega
    have m7 : (p : Int) ≤ (p : Int) + (z : Int) := by omega
    have m8 : (0 : Int) ≤ (p : Int) + (z : Int) := by omega
    go_wp2_with fail
    go_quiet ((go_at_call 103; exact Calls.quiet_of_same (HSA.out _)))
    have hrs7 := HRS6.out.drewN nq
    have hb7 := Below.drewsN hb6 nq
    generalize w6.drewN nq = w7 at hrs7 hb7 ⊢
    have h07 := hrs7.c0
    have h17 := hrs7.c1
    obtain ⟨v, hc2, hov⟩ := hrs7.c2
    have hf7 := hrs7.fr 1
    have hf72 := hrs7.fr 2
    have hbw7 := hrs7.lt
    have HRS7 := Lib.hid hrs7
    clear hrs7 h06 h16 hf6 hbw6 HRS6
    go_wp2_with fail
    have htk : ((t.drop p).take z).length = z := by simp; omega
    have HTK := Lib.hid htk
    clear htk
    have hlt2 : o.length + ((t.drop p).take z).length ≤ 140737488355328 := by rw [HTK.out]; clear m5; omega
    have hnat : ((p : Int) + (z : Int)).toNat = p + z := by omega
    have hsub := sub_str t p z _ hnat
    have HSUB := Lib.hid hsub
    have hhs : b + 1 ≤ w7.drew.heap.size := hbw7
    clear hsub hnat
    go_region_law ((
           refine bt.stepAppendStr Tryz.underlying9 (by rfl) (.tmp 67) (.tmp 82) (by rfl) (b + 1) v o ((t.drop p).take z) (by rfl) hov.drew1 HSUB.out hlt2 hhs ?_
           intro ad10 n10 cp10 w10 ho10 hg10
           have hc10 := (HRS7.out.still hc2 (grown_undrew hg10)).1
           have hf10 := (HRS7.out.still hc2 (grown_undrew hg10)).2))
    all_goals
      have hb10 := hb7.grown (grown_undrew hg10) (Nat.le_of_lt hbw7) (fun k e => by have := hov.base k e; omega)
      have hrs10 := HRS7.out.setOut hc2 (grown_undrew hg10) ho10
      have hb11 := Below.setCell (p := ⟨b, 2, none⟩) hb10 (Nat.le_refl b) (.slice ad10 n10 cp10)
      clear ho10 hg10
      generalize w10.setCell ⟨b, 2, none⟩ (.slice ad10 n10 cp10) = w11 at hrs10 hb11 ⊢
      have h110 := hrs10.c1
      have hf110 := hrs10.fr 1
      have H10 := Lib.hid hrs10
      clear hrs10
      go_wp2_with fail
      go_ret2
      exact ⟨by rw [HV.out]; rfl, by rw [HV.out]; exact H10.out.setAt (p + z) _ (by omega), Below.setCell (p := ⟨b, 1, none⟩) hb11 (Nat.le_refl b) _⟩
  · obtain rfl : p = t.length := by omega
    have n1 : ((t.length : Int) == (t.length : Int)) = true := beq_self_eq_true _
    have hw : stepR t t.length = (false, 2, 0, []) := by rw [stepR, List.getElem?_eq_none (Nat.le_refl _)]
    rw [hw]
    clear hw
    go_enter Tryz.func85, Tryz.ntmps85
    go_wp2_with fail
    go_quiet (fail)
    go_wp2_with fail
    go_ret2
    exact ⟨rfl, by rw [List.append_nil]; exact HRS.out.drewN _, Below.drewsN (Below.refl _ _) _⟩
end Go.Proofs.YtidlhajibjnkeaaGreatDoor
