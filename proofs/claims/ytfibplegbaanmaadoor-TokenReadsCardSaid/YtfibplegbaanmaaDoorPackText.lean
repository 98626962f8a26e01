/- pack.Reader's Text by its contract. -/
import Derived.Test.YtfibplegbaanmaaDoorPack
namespace Go.Proofs.YtfibplegbaanmaaDoor
open Go.RowKit

/-- A text read at a place. -/
def textR (l : List UInt8) (p : Nat) (bad : Bool) : List UInt8 × Nat × Bool :=
  if l.length < (numR l p bad).2.1 + (numR l p bad).1 then ([], (numR l p bad).2.1, true)
  else ((l.drop (numR l p bad).2.1).take (numR l p bad).1, (numR l p bad).2.1 + (numR l p bad).1, (numR l p bad).2.2)
theorem Rd.sub {w : World} {b off n cap : Nat} {l : List UInt8} (h : Rd w (.slice (some ⟨b, off, none⟩) n cap) l) (p k : Nat) (hk : p + k ≤ l.length) :
    Rd w (.slice (some ⟨b, off + p, none⟩) k (cap - p)) ((l.drop p).take k) := by
  have hc := h.cells.2
  obtain ⟨a, cap', hv, h1, h2, h3, h4⟩ := h
  simp only [Value.slice.injEq] at hv
  obtain ⟨rfl, rfl, rfl⟩ := hv
  have hl : ((l.drop p).take k).length = k := by simp; omega
  refine ⟨_, cap - p, by rw [hl], by rw [hl]; omega, by omega, (fun h => by cases h), fun _ => ⟨b, off + p, rfl, fun i hi => ?_⟩⟩
  rw [hl] at hi
  rw [Nat.add_assoc, hc (p + i) (by omega)]
  simp
theorem numR_bounds (l : List UInt8) (p : Nat) (bad : Bool) (hp : p ≤ l.length) : (numR l p bad).2.1 ≤ l.length := by
  unfold numR
  split
  · exact hp
  · have := rv_le 8 (l.drop p) p 0 0
    rw [List.length_drop] at this
    simp only; omega

set_option maxRecDepth 100000 in
set_option maxHeartbeats 3200000 in
theorem rtext_any (w : World) (b : Nat) (v : Value) (l : List UInt8) (p : Nat) (bad : Bool) (h : PR w b v l p bad) (hl : l.length ≤ 140737488355328) :
    Calls Tryd.prog 26 #[.pointer (some ⟨b, 0, none⟩)] w fun e w' => e = .returned (str (textR l p bad).1) ∧ PR w' b v l (textR l p bad).2.1 (textR l p bad).2.2 ∧ Below b w w' := by
  have CN := Lib.hid (rnumber_any w b v l p bad h hl)
  have hpl := numR_bounds l p bad h.pl
  have ht := textR.eq_def l p bad
  obtain ⟨n, q, bd, hr⟩ : ∃ n q bd, numR l p bad = (n, q, bd) := ⟨_, _, _, rfl⟩
  rw [hr] at hpl ht
  simp only at hpl ht
  have HT := Lib.hid ht
  have HR := Lib.hid hr
  clear ht hr
  go_enter Tryd.func26, Tryd.ntmps26
  go_wp2_with fail
  refine (CN.out).mono ?_
  rintro e w1 ⟨rfl, hpr, hb1⟩
  rw [HR.out] at hpr ⊢
  simp only at hpr ⊢
  obtain ⟨N, hN⟩ : ∃ N : Int, N = (n : Int) := ⟨_, rfl⟩
  rw [← hN]
  have h0 := hpr.c0
  have h1 := hpr.c1
  have h2 := hpr.c2
  have hf1 := hpr.fr 1
  have hf2 := hpr.fr 2
  have hbw := hpr.lt
  have hrd := hpr.rd
  have hlo := hpr.lo
  have HPR := Lib.hid hpr
  have m1 : IntKind.i64.wrap ((l.length : Int) - (q : Int)) = (l.length : Int) - (q : Int) := IntWalk.i64_in _ ⟨by omega, by omega⟩
  obtain ⟨a0, cap0, hv0, hc1, hc2, hc3, hc4⟩ := id hrd
  subst hv0
  have HRD := Lib.hid hrd
  have HC4 := Lib.hid hc4
  have HLO := Lib.hid hlo
  clear hpr hrd hc4 hlo
  by_cases hbig : l.length < q + n
  · have k1 : (l.length : Int) - (q : Int) < N := by omega
    have hv : textR l p bad = ([], q, true) := by rw [HT.out, if_pos hbig]
    have HV := Lib.hid hv
    have HNN := Lib.hid hN
    clear hv hbig hN
    go_wp2_with fail
    go_quiet (fail)
    go_wp2_with fail
    go_ret
    exact ⟨by rw [HV.out]; rfl, by rw [HV.out]; exact (HPR.out.drewN _).setBad, Below.setCell (p := ⟨b, 2, none⟩) (Below.drewsN hb1 _) (Nat.le_refl b) _⟩
  · have k1 : ¬ (l.length : Int) - (q : Int) < N := by omega
    have hv : textR l p bad = ((l.drop q).take n, q + n, bd) := by rw [HT.out, if_neg hbig]
    have HV := Lib.hid hv
    have k2 : IntKind.i64.wrap ((q : Int) + N - N) = (q : Int) := by rw [show (q : Int) + N - N = (q : Int) by omega]; exact IntWalk.i64_in _ ⟨by omega, by omega⟩
    have k3 : (q : Int) + N ≤ (l.length : Int) := by omega
    have k4 : (0 : Int) ≤ (q : Int) + N := by omega
    have k5 : (q : Int) ≤ (q : Int) + N := by omega
    have k6 : (q : Int) + N ≤ (cap0 : Int) := by omega
    have k7 : ((q : Int) + N).toNat = q + n := by omega
    have k8 : (0 : Int) ≤ N := by omega
    have hqn : q + n ≤ l.length := by omega
    have HNN := Lib.hid hN
    clear hv hbig hN
    go_wp2_with fail
    go_quiet (fail)
    have hpr2 := (HPR.out.drewN nq).setAt (q + n) ((q : Int) + N) (by have := HNN.out; omega) hqn
    have hb2 := Below.setCell (p := ⟨b, 1, none⟩) (Below.drewsN hb1 nq) (Nat.le_refl b) (.int .i64 ((q : Int) + N))
    go_wp2_with fail
    generalize (w1.drewN nq).setCell ⟨b, 1, none⟩ (.int .i64 ((q : Int) + N)) = w2 at hpr2 hb2 ⊢
    have g0 := hpr2.c0
    have g1 : w2.cell? ⟨b, 1, none⟩ = some (.int .i64 ((q : Int) + N)) := by rw [hpr2.c1, show ((q + n : Nat) : Int) = (q : Int) + N by have := HNN.out; omega]
    have hrd2 := hpr2.rd
    have HPR2 := Lib.hid hpr2
    clear hpr2 h0 h1 h2 hf1 hf2 hbw
    have k9 : (q : Int) + N - N = (q : Int) := by omega
    have k10 : (0 : Int) ≤ (q : Int) := by omega
    have k11 : q + n - q = n := by omega
    by_cases hl0 : l = []
    · subst hl0
      obtain rfl : q = 0 := by simpa using hpl
      obtain rfl : n = 0 := by simpa using hqn
      have hz : ∀ (x : Option Addr) (c : Nat), c ≤ maxLen → (x = none → c = 0) → ∀ m, (convert 37 9 (.slice x 0 c)).run Tryd.prog (w2.drewN m) = .ok (str []) (w2.drewN m) := fun x c h1 h2 m =>
        bt.toString Tryd.underlying9 ⟨x, c, rfl, by simp, h1, h2, fun h => absurd rfl h⟩
      cases a0 with
      | none =>
        obtain rfl := hc3 rfl
        have hconv := hz none 0 (by decide) (fun _ => rfl)
        have HV2 : Hid (textR [] p bad = ([], 0, bd)) := Lib.hid (by rw [HV.out]; simp)
        clear hz
        obtain rfl : N = 0 := HNN.out
        go_wp2_with fail
        go_quiet (fail)
        go_wp2_with fail
        go_ret
        exact ⟨by rw [HV2.out]; rfl, by rw [HV2.out]; exact HPR2.out.drewN _, Below.drewsN hb2 _⟩
      | some ad =>
        have HV2 : Hid (textR [] p bad = ([], 0, bd)) := Lib.hid (by rw [HV.out]; simp)
        obtain rfl : N = 0 := HNN.out
        by_cases hcap : cap0 = 0
        · subst hcap
          have hconv := hz (some ad) 0 (by decide) (fun _ => rfl)
          clear hz
          go_wp2_with fail
          go_quiet (fail)
          go_wp2_with fail
          go_ret
          exact ⟨by rw [HV2.out]; rfl, by rw [HV2.out]; exact HPR2.out.drewN _, Below.drewsN hb2 _⟩
        · have hconv := hz (some ad) cap0 hc2 (fun h => by cases h)
          have hcap1 : (cap0 = 0) = False := eq_false hcap
          have hcap2 : (0 : Int) ≤ (cap0 : Int) := by omega
          have hcap3 : ¬ ((cap0 : Int) < 0) := by omega
          clear k1 k2 k3 k4 k5 k6 k7 k9 k10 k11
          have kw : IntKind.i64.wrap 0 = 0 := rfl
          clear hz hcap
          go_wp2_with fail
          go_quiet (fail)
          go_wp2_with fail
          go_ret
          exact ⟨by rw [HV2.out]; rfl, by rw [HV2.out]; exact HPR2.out.drewN _, Below.drewsN hb2 _⟩
    · obtain ⟨g, off, rfl, -⟩ := HC4.out hl0
      by_cases hcap : cap0 = q
      · obtain rfl : n = 0 := by omega
        obtain rfl : N = 0 := HNN.out
        have hz : ∀ m, (convert 37 9 (.slice (some ⟨g, off, none⟩) 0 0)).run Tryd.prog (w2.drewN m) = .ok (str []) (w2.drewN m) := fun m =>
          bt.toString Tryd.underlying9 ⟨_, 0, rfl, by simp, by decide, (fun h => by cases h), fun h => absurd rfl h⟩
        have HV2 : Hid (textR l p bad = ([], q, bd)) := Lib.hid (by rw [HV.out]; simp)
        subst hcap
        go_wp2_with fail
        go_quiet (fail)
        go_wp2_with fail
        go_ret
        exact ⟨by rw [HV2.out]; rfl, by rw [HV2.out]; exact HPR2.out.drewN _, Below.drewsN hb2 _⟩
      · have hsub := fun m => bt.toString (w := w2.drewN m) (S := 9) Tryd.underlying9 ((hrd2.sub q n hqn).drewN m)
        have HCAP := Lib.hid hcap
        have hcap1 : (cap0 = q) = False := eq_false hcap
        clear hcap
        go_wp2_with fail
        go_quiet (fail)
        go_wp2_with fail
        go_ret
        exact ⟨by rw [HV.out]; rfl, by rw [HV.out]; exact HPR2.out.drewN _, Below.drewsN hb2 _⟩
end Go.Proofs.YtfibplegbaanmaaDoor
