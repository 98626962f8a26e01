/- Layer 5: the reader of times: name, year, fraction, offset, zones, second. -/
import Derived.Test.YtnaafdennieedaaDCal
namespace Go.Proofs.Ytnaafdennieedaa
open Go.RowKit

theorem str_cat (a b : List UInt8) : ByteArray.mk a.toArray ++ ByteArray.mk b.toArray = ByteArray.mk (a ++ b).toArray := by
  apply ByteArray.ext
  simp
theorem str_cut (t : List UInt8) (p n : Nat) : (ByteArray.mk t.toArray).extract p n = ByteArray.mk ((t.drop p).take (n - p)).toArray := by
  apply ByteArray.ext
  simp [List.take_drop]

theorem peek_to {t : List UInt8} {b p : Nat} {z : Bool} {w0 w : World} (h : Hid (DR w b t p z)) (hb : Hid (Below b w0 w)) (hp : p ≤ t.length) (hl : t.length ≤ 140737488355328) :
    Calls Try.prog 21 #[.pointer (some ⟨b, 0, none⟩)] w fun e w' => e = .returned (.int .u8 ((pk t p).toNat : Int)) ∧ Hid (DR w' b t p z) ∧ Hid (Below b w0 w') :=
  (peek_any t b p z w h.out hp hl).mono fun _ _ ⟨he, h1, h2⟩ => ⟨he, Lib.hid h1, Lib.hid (hb.out.trans h2)⟩
theorem sign_to {of t : List UInt8} {b p p1 : Nat} {z z1 : Bool} {c : UInt8} {w0 w : World} (hA : Hid (sgnF of t p z = (c, p1, z1))) (h : Hid (DR w b t p z)) (hb : Hid (Below b w0 w)) (hp : p ≤ t.length) (hl : t.length ≤ 140737488355328) :
    Calls Try.prog 23 #[.pointer (some ⟨b, 0, none⟩), str of] w fun e w' => e = .returned (.int .u8 (c.toNat : Int)) ∧ Hid (DR w' b t p1 z1) ∧ Hid (Below b w0 w') := by
  have := sign_any of t b p z w h.out hp hl
  rw [hA.out] at this
  exact this.mono fun _ _ ⟨he, h1, h2⟩ => ⟨he, Lib.hid h1, Lib.hid (hb.out.trans h2)⟩
theorem dnumber_to {wd : Nat} {n y : Int} {t : List UInt8} {b p p1 : Nat} {z z1 : Bool} {w0 w : World} (hn : n = (wd : Int)) (hA : Hid (numF t wd 0 p z = (y, p1, z1))) (h : Hid (DR w b t p z)) (hb : Hid (Below b w0 w)) (hp : p ≤ t.length) (hl : t.length ≤ 140737488355328) (hwd : wd ≤ 4) :
    Calls Try.prog 24 #[.pointer (some ⟨b, 0, none⟩), .int .i64 n] w fun e w' => e = .returned (.int .i64 y) ∧ Hid (DR w' b t p1 z1) ∧ Hid (Below b w0 w') := by
  have := dnumber_any wd t b p z w h.out hp hl hwd
  rw [hA.out] at this
  subst hn
  exact this.mono fun _ _ ⟨he, h1, h2⟩ => ⟨he, Lib.hid h1, Lib.hid (hb.out.trans h2)⟩

/-- Which word of a row stands at p. -/
def nmAt (row t : List UInt8) (p : Nat) : Nat → Nat → Option Nat
  | 0, _ => none
  | f + 1, i => if (t.drop p).take 3 = (row.drop (3 * i)).take 3 then some i else nmAt row t p f (i + 1)
theorem nmAt_zero (row t : List UInt8) (p i : Nat) : nmAt row t p 0 i = none := rfl
theorem nmAt_succ (row t : List UInt8) (p f i : Nat) : nmAt row t p (f + 1) i = if (t.drop p).take 3 = (row.drop (3 * i)).take 3 then some i else nmAt row t p f (i + 1) := rfl
/-- What name reads of a row of m words. -/
def nameF (row : List UInt8) (m : Nat) (t : List UInt8) (p : Nat) (bad : Bool) : Nat × Nat × Bool :=
  if p + 3 ≤ t.length then match nmAt row t p m 0 with | some i => (i, p + 3, bad) | none => (0, p, true) else (0, p, true)
theorem nmAt_lt (row t : List UInt8) (p : Nat) : ∀ f i k, nmAt row t p f i = some k → k < i + f
  | 0, i, k, h => by simp [nmAt_zero] at h
  | f + 1, i, k, h => by
    rw [nmAt_succ] at h
    split at h
    · have := Option.some.inj h; omega
    · have := nmAt_lt row t p f (i + 1) k h; omega
theorem nameF_le (row t : List UInt8) (m p : Nat) (bad : Bool) (hp : p ≤ t.length) : (nameF row m t p bad).2.1 ≤ t.length ∧ (nameF row m t p bad).1 ≤ m := by
  unfold nameF
  split
  · split
    · next k hk => exact ⟨by assumption, by have := nmAt_lt row t p m 0 k hk; simp; omega⟩
    · exact ⟨hp, Nat.zero_le _⟩
  · exact ⟨hp, Nat.zero_le _⟩
set_option maxHeartbeats 400000 in
theorem name_to {row t : List UInt8} {m b p q p1 : Nat} {bad z1 : Bool} {w0 w : World} (hA : Hid (nameF row m t p bad = (q, p1, z1))) (h : Hid (DR w b t p bad)) (hb : Hid (Below b w0 w)) (hp : p ≤ t.length) (hl : t.length ≤ 140737488355328) (hrow : row.length = 3 * m) (hm : m ≤ 12) :
    Calls Try.prog 22 #[.pointer (some ⟨b, 0, none⟩), str row] w fun e w' =>
      e = .returned (.int .i64 (q : Int)) ∧ Hid (DR w' b t p1 z1) ∧ Hid (Below b w0 w') := by
  have c0 := h.out.c0
  have c1 := h.out.c1
  by_cases h3 : p + 3 ≤ t.length
  · have n1 : (3 : Int) ≤ (t.length : Int) - (p : Int) := by omega
    have n2 : IntKind.i64.wrap ((t.length : Int) - (p : Int)) = (t.length : Int) - (p : Int) := IntWalk.i64_in _ ⟨by omega, by omega⟩
    go_enter Try.func22, Try.ntmps22
    go_wp2_with fail
    go_quiet (fail)
    go_wp2_with fail
    clear n1 n2 c0 c1
    have hA' : Hid ((match nmAt row t p m 0 with | some i => (i, p + 3, bad) | none => (0, p, true)) = (q, p1, z1)) := by
      have e := hA.out
      unfold nameF at e
      rw [if_pos h3] at e
      exact Lib.hid e
    have hD := Lib.hid (h.out.drewN nq)
    have hB := Lib.hid (Below.drewsN hb.out nq)
    clear hA h hb
    have HROW := Lib.hid hrow
    go_loopw [5] (fun i wr => ∃ k K : Nat, k ≤ m ∧ Hid (K = 3 * k) ∧ i = .int .i64 (K : Int) ∧ Hid (nmAt row t p (m - k) k = nmAt row t p m 0) ∧ Hid (DR wr b t p bad) ∧ Hid (Below b w0 wr)) (fun i _ => 36 - (intOf i).toNat)
    case atStart => exact ⟨0, 0, Nat.zero_le _, Lib.hid rfl, rfl, Lib.hid rfl, hD, hB⟩
    case round =>
      obtain ⟨k, K, hk, HK3, rfl, HE, HD, HB⟩ := hrel
      by_cases hlt : k < m
      · have hK3 := HK3.out
        have d0 := HD.out.c0
        have d1 := HD.out.c1
        have d2 := HD.out.fr 1
        have n1 : (K : Int) < (row.length : Int) := by omega
        have s1 : (ByteArray.mk t.toArray).extract p (p + 3) = ByteArray.mk ((t.drop p).take 3).toArray := by rw [str_cut, show p + 3 - p = 3 by omega]
        have s2 : (ByteArray.mk row.toArray).extract K (K + 3) = ByteArray.mk ((row.drop K).take 3).toArray := by rw [str_cut, show K + 3 - K = 3 by omega]
        obtain ⟨x, hx⟩ : ∃ x, x = (t.drop p).take 3 := ⟨_, rfl⟩
        obtain ⟨y, hy⟩ : ∃ y, y = (row.drop K).take 3 := ⟨_, rfl⟩
        have HE2 : Hid ((if x = y then some k else nmAt row t p (m - (k + 1)) (k + 1)) = nmAt row t p m 0) := by
          have e := HE.out
          rw [show m - k = (m - (k + 1)) + 1 by omega, nmAt_succ, ← HK3.out, ← hx, ← hy] at e
          exact Lib.hid e
        rw [← hx] at s1
        rw [← hy] at s2
        have r1 : IntKind.i64.wrap ((p : Int) + 3) = (p : Int) + 3 := IntWalk.i64_in _ ⟨by omega, by omega⟩
        have r2 : IntKind.i64.wrap ((K : Int) + 3) = (K : Int) + 3 := IntWalk.i64_in _ ⟨by omega, by omega⟩
        have r3 : (0 : Int) ≤ (p : Int) := by omega
        have r4 : (p : Int) ≤ (p : Int) + 3 := by omega
        have r5 : (p : Int) + 3 ≤ (t.length : Int) := by omega
        have r6 : ((p : Int) + 3).toNat = p + 3 := by omega
        have r7 : (0 : Int) ≤ (K : Int) := by omega
        have r8 : (K : Int) ≤ (K : Int) + 3 := by omega
        have r9 : (K : Int) + 3 ≤ (row.length : Int) := by omega
        have r10 : ((K : Int) + 3).toNat = K + 3 := by omega
        have r11 : (0 : Int) ≤ (p : Int) + 3 := by omega
        have r12 : (0 : Int) ≤ (K : Int) + 3 := by omega
        have HK : Hid (k < m ∧ m ≤ 12 ∧ p + 3 ≤ t.length) := Lib.hid ⟨hlt, hm, h3⟩
        clear hx hy hrow hk hlt h3 hp hm hK3
        have hK0 : (0 : Int) ≤ (K : Int) := by omega
        have hK1 : (K : Int) ≤ 36 := by have := HK.out; have := HK3.out; omega
        by_cases hxy : x = y
        · have g : (x == y) = true := by rw [hxy]; simp
          have e1 : nmAt row t p m 0 = some k := by rw [← HE2.out, if_pos hxy]
          have e2 : (k, p + 3, bad) = (q, p1, z1) := by rw [← hA'.out, e1]
          simp only [Prod.mk.injEq] at e2
          obtain ⟨rfl, rfl, rfl⟩ := e2
          clear e1 hxy
          go_wp2_with fail
          go_quiet (fail)
          clear r1 r2 r6 r10 s1 s2 d0 d2
          have d1 := (HD.out.drewN nq).c1
          have d2 := (HD.out.drewN nq).fr 1
          go_wp2_with fail
          go_ret
          refine ⟨?_, ?_, ?_⟩
          · have := HK3.out
            have e : (K : Int) / 3 = (k : Int) := by omega
            show Ending.returned (.int .i64 ((K : Int) / 3)) = _
            rw [e]
          · exact Lib.hid ((HD.out.drewN _).setAt _ _ (by simp))
          · exact Lib.hid ((Below.drewsN HB.out _).setCell (p := ⟨b, 1, none⟩) (Nat.le_refl b) _)
        · have g : (x == y) = false := by simpa using hxy
          have e1 : Hid (nmAt row t p (m - (k + 1)) (k + 1) = nmAt row t p m 0) := by
            have e := HE2.out
            rw [if_neg hxy] at e
            exact Lib.hid e
          clear hxy
          go_wp2_with fail
          go_quiet (fail)
          clear r1 r2 r6 r10 s1 s2 d0 d2
          have HDn := Lib.hid (HD.out.drewN nq)
          have HBn := Lib.hid (Below.drewsN HB.out nq)
          go_wp2_with fail
          go_roundw
          case rel => exact ⟨k + 1, K + 3, by have := HK.out; omega, Lib.hid (by have := HK3.out; omega), by go_num, e1, HDn, HBn⟩
          case measure =>
            have := HK.out; have := HK3.out
            simp [intOf]; omega
      · obtain rfl : k = m := by omega
        have hK3 := HK3.out
        have n1 : ¬ (K : Int) < (row.length : Int) := by omega
        have e1 : nmAt row t p k 0 = none := by rw [← HE.out, Nat.sub_self, nmAt_zero]
        have e2 : (0, p, true) = (q, p1, z1) := by rw [← hA'.out, e1]
        simp only [Prod.mk.injEq] at e2
        obtain ⟨rfl, rfl, rfl⟩ := e2
        have d2 := HD.out.c2
        have d3 := HD.out.fr 2
        clear e1 hK3 hrow
        go_wp2_with fail
        go_ret
        exact ⟨rfl, Lib.hid (HD.out.setBad true), Lib.hid (HB.out.setCell (p := ⟨b, 2, none⟩) (Nat.le_refl b) _)⟩
  · have n1 : ¬ (3 : Int) ≤ (t.length : Int) - (p : Int) := by omega
    have n2 : IntKind.i64.wrap ((t.length : Int) - (p : Int)) = (t.length : Int) - (p : Int) := IntWalk.i64_in _ ⟨by omega, by omega⟩
    have d2 := h.out.c2
    have d3 := h.out.fr 2
    have e2 : (0, p, true) = (q, p1, z1) := by
      have e := hA.out
      unfold nameF at e
      rw [if_neg h3] at e
      exact e
    simp only [Prod.mk.injEq] at e2
    obtain ⟨rfl, rfl, rfl⟩ := e2
    go_enter Try.func22, Try.ntmps22
    go_wp2_with fail
    go_quiet (fail)
    clear n2
    go_wp2_with fail
    go_ret
    exact ⟨rfl, Lib.hid ((h.out.drewN _).setBad true), Lib.hid ((Below.drewsN hb.out _).setCell (p := ⟨b, 2, none⟩) (Nat.le_refl b) _)⟩
end Go.Proofs.Ytnaafdennieedaa
