/- hbllaw11.put; hblref.Pairs of lists that read alike. -/
import Derived.Test.YtdlacjdddjebgaaVGen
import Derived.Test.YtdlacjdddjebgaaOps11
namespace Go.Proofs.Ytdlacjdddjebgaa
open Go.RowKit

/-- What an operation that puts leaves. -/
def opC (o : Op11) (C : ChC) (low : Int) : ChC := if o.kind = 0 then putC C low o.key (o.at1, o.v, false) else if o.kind = 1 then putC C low o.key (o.at1, [], true) else C
theorem scan_opC (o : Op11) (C : ChC) (low : Int) (at1 : Int) (h : at1 < o.at1) : scanC at1 (opC o C low) = scanC at1 C := by
  unfold opC
  split
  · exact scan_putC C low _ _ at1 h
  · split
    · exact scan_putC C low _ _ at1 h
    · rfl
set_option maxHeartbeats 2000000 in
theorem putO {X W : World} {K : Nat → Prop} {s mb : Nat} {C : ChC} {low : Int} {n : Nat} (h : SG X K W s mb C low n) (hn : n ≤ 9000) (o : Op11) :
    Calls Try.prog 33 #[.pointer (some ⟨s, 0, none⟩), enc11 o] W fun e W' => e = .returned (.tuple #[]) ∧ SG X K W' s mb (opC o C low) low (n + 1) ∧ Kp K W W' := by
  obtain ⟨kd, a, ky, y, hi⟩ := o
  unfold opC enc11
  dsimp only
  have hbl := below_alloc W (.cells #[.int .i64 kd, .int .i64 a, str ky, str y, str hi] 32)
  have HS := Lib.hid (h.below hbl)
  have HK : Hid (Kp K W _) := Lib.hid (Kp.of hbl)
  clear hbl
  have CP := Lib.hid (putG HS.out (by omega) ky a y)
  have CK := Lib.hid (killG HS.out (by omega) ky a)
  clear h
  by_cases h0 : kd = 0
  · subst h0
    rw [if_pos rfl]
    go_enter Try.func33, Try.ntmps33
    go_wp2_with fail
    refine CP.out.mono ?_
    rintro e w2 ⟨rfl, h2, h3⟩
    have H2 := Lib.hid (And.intro h2 (HK.out.tr h3))
    clear h2 h3 HK CP CK HS
    go_wp2_with fail
    first
      | exact bodyPost_ret (results_none rfl _ _ _) rfl ⟨rfl, H2.out.1, H2.out.2⟩
      | (go_end0; exact ⟨rfl, H2.out.1, H2.out.2⟩)
  by_cases h1 : kd = 1
  · subst h1
    rw [if_neg h0, if_pos rfl]
    go_enter Try.func33, Try.ntmps33
    go_wp2_with fail
    refine CK.out.mono ?_
    rintro e w2 ⟨rfl, h2, h3⟩
    have H2 := Lib.hid (And.intro h2 (HK.out.tr h3))
    clear h2 h3 HK CP CK HS
    go_wp2_with fail
    first
      | exact bodyPost_ret (results_none rfl _ _ _) rfl ⟨rfl, H2.out.1, H2.out.2⟩
      | (go_end0; exact ⟨rfl, H2.out.1, H2.out.2⟩)
  rw [if_neg h0, if_neg h1]
  have d0 : (kd == 0) = false := beq_eq_false_iff_ne.2 h0
  have d1 : (kd == 1) = false := beq_eq_false_iff_ne.2 h1
  go_enter Try.func33, Try.ntmps33
  go_wp2_with fail
  first
    | exact bodyPost_ret (results_none rfl _ _ _) rfl ⟨rfl, HS.out.wide (by omega), HK.out⟩
    | (go_end0; exact ⟨rfl, HS.out.wide (by omega), HK.out⟩)
set_option maxHeartbeats 4000000 in
/-- Two lists of pairs that read alike. -/
theorem alikePairs_any (va vb : Value) (L : List PairT) (w : World) (ha : RdP w va L) (hb : RdP w vb L) :
    Calls Try.prog 29 #[va, vb] w fun e w' => e = .returned (.bool true) ∧ Below w.heap.size w w' := by
  obtain ⟨aa, ca, rfl, hl⟩ := ha.form
  obtain ⟨ab, cb, rfl, _⟩ := hb.form
  have HA := Lib.hid ha
  have HB := Lib.hid hb
  clear ha hb
  go_enter Try.func29, Try.ntmps29
  go_wp2_with fail
  go_loopw [5] (fun i wr => ∃ (k q : Nat), k ≤ L.length ∧ i = .int .i64 (k : Int) ∧ wr = w.drewN q) (fun i _ => L.length - (intOf i).toNat)
  case atStart => exact ⟨0, 0, Nat.zero_le _, rfl, rfl⟩
  case round =>
    obtain ⟨k, q, hk, rfl, rfl⟩ := hrel
    by_cases hlt : k < L.length
    · have g3 : (k : Int) < (L.length : Int) := by omega
      have g4 : (0 : Int) ≤ (k : Int) := by omega
      obtain ⟨bA, oA, rfl, c0, c1⟩ := HA.out.get hlt
      obtain ⟨bB, oB, rfl, e0, e1⟩ := HB.out.get hlt
      obtain ⟨⟨ck, cv⟩, hc⟩ : ∃ c, c = L[k] := ⟨_, rfl⟩
      rw [← hc] at c0 c1 e0 e1
      dsimp only at c0 c1 e0 e1
      have n1 : (ck != ck) = false := bne_self_eq_false _
      have n2 : (cv != cv) = false := bne_self_eq_false _
      clear hc HA HB
      go_wp2_with fail
      go_quiet (fail)
      go_wp2_with fail
      go_roundw
      case rel => exact ⟨k + 1, _, by omega, by go_num, rfl⟩
      case measure => simp [intOf]; omega
    · obtain rfl : k = L.length := by omega
      have g3 : ¬ (L.length : Int) < (L.length : Int) := by omega
      go_wp2_with fail
      go_ret
      exact ⟨rfl, Below.drewsN (Below.refl _ w) q⟩
end Go.Proofs.Ytdlacjdddjebgaa
