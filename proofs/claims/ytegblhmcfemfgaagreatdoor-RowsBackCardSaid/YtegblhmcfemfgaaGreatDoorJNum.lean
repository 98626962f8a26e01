/- JSON: the reader: word, number. -/
import Derived.Test.YtegblhmcfemfgaaGreatDoorJNx
namespace Go.Proofs.YtegblhmcfemfgaaGreatDoor
open Go.RowKit

theorem jdigit_any (c : UInt8) (w : World) : Calls Tryz.prog 100 #[.int .u8 (c.toNat : Int)] w fun e w' => e = .returned (.bool (dgJ c)) ∧ w' = w := by
  unfold dgJ
  by_cases h1 : 48 ≤ c.toNat
  · by_cases h2 : c.toNat ≤ 57
    · have a1 : (48 : Int) ≤ (c.toNat : Int) := by omega
      have a2 : (c.toNat : Int) ≤ 57 := by omega
      go_enter Tryz.func100, Tryz.ntmps100
      go_wp2
      go_ret
      exact ⟨by simp_all, rfl⟩
    · have a1 : (48 : Int) ≤ (c.toNat : Int) := by omega
      have a2 : ¬ (c.toNat : Int) ≤ 57 := by omega
      go_enter Tryz.func100, Tryz.ntmps100
      go_wp2
      go_ret
      exact ⟨by simp_all, rfl⟩
  · have a1 : ¬ (48 : Int) ≤ (c.toNat : Int) := by omega
    go_enter Tryz.func100, Tryz.ntmps100
    go_wp2
    go_ret
    exact ⟨by simp_all, rfl⟩
/-- What word tells. -/
def WrdJ (t : List UInt8) (w : World) (b o p : Nat) (wd : List UInt8) (e : Ending) (w' : World) : Prop :=
  e = .returned (.int .i64 (wrdP t wd p : Int)) ∧ (wrdP t wd p = 0 → JSt w b t (p + wd.length) o w' ∧ p + wd.length ≤ t.length) ∧ ∃ q o', JSt w b t q o' w'
theorem wrdP_at (t wd : List UInt8) (p k : Nat) (hk : k < wd.length) : wrdP t (wd.drop k) (p + k) = match t[p + k]? with
    | none => 2
    | some d => if d = wd[k] then wrdP t (wd.drop (k + 1)) (p + (k + 1)) else 4 := by
  rw [List.drop_eq_getElem_cons hk]
  rfl
set_option maxHeartbeats 1000000 in
theorem word_any (t wd : List UInt8) (b p o : Nat) (w : World) (h : JRb w b t p o) (hp : p ≤ t.length) (hl : t.length ≤ 140737488355328) (hw : wd.length ≤ 100) :
    Calls Tryz.prog 102 #[.pointer (some ⟨b, 0, none⟩), str wd] w (WrdJ t w b o p wd) := by
  have HD := Lib.hid (JSt.refl h)
  clear h
  obtain ⟨R, hR⟩ : ∃ R, R = wrdP t wd p := ⟨_, rfl⟩
  unfold WrdJ
  rw [← hR]
  have HR := Lib.hid hR
  clear hR
  go_enter Tryz.func102, Tryz.ntmps102
  go_wp2_with fail
  go_loopw [8] (fun i wr => ∃ k q : Nat, k ≤ wd.length ∧ i = .int .i64 (k : Int) ∧ q ≤ t.length ∧ Hid (q = p + k) ∧ Hid (wrdP t (wd.drop k) q = R) ∧ Hid (JSt w b t q o wr)) (fun i _ => wd.length - (intOf i).toNat)
  case atStart => exact ⟨0, p, Nat.zero_le _, rfl, hp, Lib.hid rfl, Lib.hid HR.out.symm, HD⟩
  case round =>
    obtain ⟨k, q, hk, rfl, hq, HQ, HE, HD⟩ := hrel
    have c0 := HD.out.1.c0
    have c1 := HD.out.1.c1
    have f1 := HD.out.1.fr 1
    by_cases hlt : k < wd.length
    · have g1 : (k : Int) < (wd.length : Int) := by omega
      have g2 : (0 : Int) ≤ (k : Int) := by omega
      have hat := wrdP_at t wd p k hlt
      rw [← HQ.out, HE.out, show p + (k + 1) = q + 1 by have := HQ.out; omega] at hat
      obtain ⟨x, hx⟩ : ∃ x, x = wd[k] := ⟨_, rfl⟩
      have hgx : (ByteArray.mk wd.toArray)[k]'(by simpa [ByteArray.size] using hlt) = x := hx.symm
      rw [← hx] at hat
      by_cases hpl : q < t.length
      · have n1 : ((q : Int) == (t.length : Int)) = false := by rw [beq_eq_false_iff_ne]; omega
        have n2 : (q : Int) < (t.length : Int) := by omega
        have n3 : (0 : Int) ≤ (q : Int) := by omega
        obtain ⟨c, hc⟩ : ∃ c, c = t[q] := ⟨_, rfl⟩
        have hgc : (ByteArray.mk t.toArray)[q]'(by simpa [ByteArray.size] using hpl) = c := hc.symm
        rw [List.getElem?_eq_getElem hpl, ← hc] at hat
        dsimp only at hat
        by_cases hcx : c = x
        · rw [if_pos hcx] at hat
          subst hcx
          have m1 : ((c.toNat : Int) != (c.toNat : Int)) = false := bne_self_eq_false _
          have HE2 := Lib.hid hat.symm
          clear hat hc hx HE
          go_wp2_with fail
          go_quiet (fail)
          go_wp2_with fail
          go_quiet (fail)
          go_wp2_with fail
          go_roundw
          case rel => exact ⟨k + 1, q + 1, by omega, by go_num, by omega, Lib.hid (by have := HQ.out; omega), HE2, Lib.hid ((HD.out.drewN _).setAt (q + 1) ((q : Int) + 1) (by omega))⟩
          case measure => simp [intOf]; omega
        · rw [if_neg hcx] at hat
          have m1 : ((c.toNat : Int) != (x.toNat : Int)) = true := by rw [bne_iff_ne]; intro h; exact hcx (UInt8.toNat_inj.1 (by omega))
          subst hat
          clear hc hx HE hcx HR
          go_wp2_with fail
          go_quiet (fail)
          go_wp2_with fail
          go_quiet (fail)
          go_wp2_with fail
          go_ret
          exact ⟨rfl, by simp, _, _, (HD.out.drewN _).drewN _⟩
      · obtain rfl : q = t.length := by omega
        have n1 : ((t.length : Int) == (t.length : Int)) = true := beq_self_eq_true _
        rw [List.getElem?_eq_none (by omega)] at hat
        dsimp only at hat
        subst hat
        clear hx HE HR
        go_wp2_with fail
        go_quiet (fail)
        go_wp2_with fail
        go_ret
        exact ⟨rfl, by simp, _, _, HD.out.drewN _⟩
    · obtain rfl : k = wd.length := by omega
      have g1 : ¬ ((wd.length : Int) < (wd.length : Int)) := by omega
      have e : R = 0 := by have := HE.out; rw [List.drop_length] at this; exact this.symm
      subst e
      clear HE HR
      go_wp2_with fail
      go_ret
      exact ⟨rfl, by simpa [HQ.out] using And.intro HD.out hq, _, _, HD.out⟩
/-- A callee that leaves the world as it is, in a second region that draws. -/
theorem quiet_two {P : Program} {f : FuncId} {args : Array Value} {w : World} {k n : Nat} {v : Value}
    (h : Calls P f args (w.drewN (k + n)) fun e w' => e = .returned v ∧ w' = w.drewN (k + n)) : Calls P f args (w.drewN (k + n)) fun e w'' => e = .returned v ∧ ∃ m, w'' = w.drewN (k + m) :=
  h.mono fun _ _ ⟨he, hm⟩ => ⟨he, n, hm⟩
/-- Facts on digits. -/
theorem dgs_le : ∀ l : List UInt8, (dgs l).length ≤ l.length
  | [] => Nat.le_refl _
  | c :: t => by
    unfold dgs
    split
    · have := dgs_le t; simp; omega
    · simp
theorem dgs_at : ∀ (l : List UInt8) (k : Nat) (h : k < (dgs l).length), l[k]? = some (dgs l)[k] ∧ dgJ (dgs l)[k] = true
  | [], k, h => by simp [dgs] at h
  | c :: t, k, h => by
    unfold dgs at h ⊢
    split at h
    · next hd =>
      simp only [hd, if_true]
      cases k with
      | zero => simp [hd]
      | succ k => simpa using dgs_at t k (by simpa using h)
    · simp at h
theorem dgs_end : ∀ (l : List UInt8) (c : UInt8), l[(dgs l).length]? = some c → dgJ c = false
  | [], c, h => by simp [dgs] at h
  | d :: t, c, h => by
    unfold dgs at h
    split at h
    · next hd => exact dgs_end t c (by simpa using h)
    · next hd => simp at h; subst h; simpa using hd
theorem capF_snoc (c : UInt8) : ∀ (l : List UInt8) (n : Nat), capF (l ++ [c]) n = if capF l n ≤ 9007199254740991 then 10 * capF l n + (c.toNat - 48) else capF l n
  | [], n => rfl
  | d :: t, n => by simp only [List.cons_append, capF]; exact capF_snoc c t _
theorem capF_le : ∀ (l : List UInt8) (n : Nat), (∀ c ∈ l, c.toNat ≤ 57) → n ≤ 90071992547409919 → capF l n ≤ 90071992547409919
  | [], _, _, h => h
  | c :: t, n, hc, h => by
    unfold capF
    refine capF_le t _ (fun d hd => hc d (by simp [hd])) ?_
    have := hc c (by simp)
    split <;> omega
theorem dgJ_iff (c : UInt8) : dgJ c = true ↔ 48 ≤ c.toNat ∧ c.toNat ≤ 57 := by simp [dgJ]
/-- What number tells. -/
def NumJ (t : List UInt8) (w : World) (b o : Nat) (r : JR Int) (e : Ending) (w' : World) : Prop :=
  match r with
  | .err c => e = .returned (.tuple #[.int .i64 0, .int .i64 (c : Int)]) ∧ c ≠ 0 ∧ ∃ q o', JSt w b t q o' w'
  | .ok n q => e = .returned (.tuple #[.int .i64 n, .int .i64 0]) ∧ JSt w b t q o w' ∧ q ≤ t.length ∧ -9007199254740991 ≤ n ∧ n ≤ 9007199254740991
end Go.Proofs.YtegblhmcfemfgaaGreatDoor
