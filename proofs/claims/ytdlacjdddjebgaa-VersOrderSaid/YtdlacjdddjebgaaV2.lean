/- Two stores side by side. -/
import Derived.Test.YtdlacjdddjebgaaV11Put
namespace Go.Proofs.Ytdlacjdddjebgaa
open Go.RowKit

/-- Two stores under X whose blocks are apart. -/
def S2 (X : World) (K : Nat → Prop) (W : World) (sa ma : Nat) (Ca : ChC) (la : Int) (na : Nat) (sb mb : Nat) (Cb : ChC) (lb : Int) (nb : Nat) : Prop :=
  ∃ ta Sa tb Sb, StVS W X.heap.size sa ma ta Sa (totC Ca : Int) la na ∧ chsVS Sa = Ca ∧ totC Ca ≤ na ∧ StVS W X.heap.size sb mb tb Sb (totC Cb : Int) lb nb ∧ chsVS Sb = Cb ∧ totC Cb ≤ nb ∧ Below X.heap.size X W ∧ (∀ i, BlkVS sa ma Sa i → ¬ BlkVS sb mb Sb i) ∧ ∀ i, K i → i < W.heap.size ∧ ¬ BlkVS sa ma Sa i ∧ ¬ BlkVS sb mb Sb i
variable {X W : World} {K : Nat → Prop} {sa ma sb mb : Nat} {Ca Cb : ChC} {la lb : Int} {na nb : Nat}
theorem S2.swap (h : S2 X K W sa ma Ca la na sb mb Cb lb nb) : S2 X K W sb mb Cb lb nb sa ma Ca la na := by
  obtain ⟨ta, Sa, tb, Sb, h1, h2, h3, h4, h5, h6, h7, h8, h9⟩ := h
  exact ⟨tb, Sb, ta, Sa, h4, h5, h6, h1, h2, h3, h7, fun i hb ha => h8 i ha hb, fun i hi => ⟨(h9 i hi).1, (h9 i hi).2.2, (h9 i hi).2.1⟩⟩
theorem S2.below {W' : World} (h : S2 X K W sa ma Ca la na sb mb Cb lb nb) (hb : Below W.heap.size W W') : S2 X K W' sa ma Ca la na sb mb Cb lb nb := by
  obtain ⟨ta, Sa, tb, Sb, h1, h2, h3, h4, h5, h6, h7, h8, h9⟩ := h
  exact ⟨ta, Sa, tb, Sb, h1.below hb, h2, h3, h4.below hb, h5, h6, h7.trans (hb.mono h7.size), h8, fun i hi => ⟨Nat.lt_of_lt_of_le (h9 i hi).1 hb.size, (h9 i hi).2⟩⟩
/-- What came behind them may be kept. -/
theorem S2.keep {W' : World} (h : S2 X K W sa ma Ca la na sb mb Cb lb nb) (hb : Below W.heap.size W W') : S2 X (fun i => W.heap.size ≤ i ∧ i < W'.heap.size) W' sa ma Ca la na sb mb Cb lb nb := by
  obtain ⟨ta, Sa, tb, Sb, h1, h2, h3, h4, h5, h6, h7, h8, h9⟩ := h
  refine ⟨ta, Sa, tb, Sb, h1.below hb, h2, h3, h4.below hb, h5, h6, h7.trans (hb.mono h7.size), h8, fun i hi => ⟨hi.2, fun e => ?_, fun e => ?_⟩⟩
  · have := (h1.blk i e).2; omega
  · have := (h4.blk i e).2; omega
theorem S2.bel (h : S2 X K W sa ma Ca la na sb mb Cb lb nb) : Below X.heap.size X W := by
  obtain ⟨ta, Sa, tb, Sb, h1, h2, h3, h4, h5, h6, h7, h8, h9⟩ := h
  exact h7
theorem S2.wide {na' nb' : Nat} (h : S2 X K W sa ma Ca la na sb mb Cb lb nb) (ha : na ≤ na') (hb : nb ≤ nb') : S2 X K W sa ma Ca la na' sb mb Cb lb nb' := by
  obtain ⟨ta, Sa, tb, Sb, h1, h2, h3, h4, h5, h6, h7, h8, h9⟩ := h
  exact ⟨ta, Sa, tb, Sb, h1.wide ha, h2, by omega, h4.wide hb, h5, by omega, h7, h8, h9⟩
/-- One of them, as a store. -/
theorem S2.sg (h : S2 X K W sa ma Ca la na sb mb Cb lb nb) : SG X K W sa ma Ca la na := by
  obtain ⟨ta, Sa, tb, Sb, h1, h2, h3, h4, h5, h6, h7, h8, h9⟩ := h
  exact ⟨ta, Sa, h1, h2, h7, h3, fun i hi => ⟨(h9 i hi).1, (h9 i hi).2.1⟩⟩
theorem new2 (h : SG X (fun _ => False) W sa ma Ca la na) : Calls Try.prog 9 #[] W fun e W' => ∃ s mb, e = .returned (.pointer (some ⟨s, 0, none⟩)) ∧ S2 X (fun _ => False) W' sa ma Ca la na s mb [] 0 0 := by
  obtain ⟨t, S, h1, h2, h3, h4, _⟩ := h
  refine (newVS_st W).mono ?_
  rintro e W' ⟨s, mb, rfl, h5, h6, _⟩
  have hB := h3.size
  refine ⟨s, mb, rfl, t, S, .nil, [], h1.below h6, h2, h4, ⟨h5.box, h5.mp, h5.ws, h5.pr, h5.rs, by simp, h5.ap, h5.tr, h5.hk, ⟨by have := h5.lo.1; omega, by have := h5.lo.2; omega⟩⟩, rfl, Nat.le_refl _, h3.trans (h6.mono hB), fun i hi hj => ?_, fun _ h => h.elim⟩
  have a := (h1.blk i hi).2
  have b := (h5.blk i hj).1
  omega
/-- What a Put, a Kill at the first leaves of both. -/
def Add2 (X : World) (K : Nat → Prop) (W : World) (sa ma : Nat) (Ca : ChC) (la : Int) (na : Nat) (sb mb : Nat) (Cb : ChC) (lb : Int) (nb : Nat) (key : List UInt8) (v : VerVS) (e : Ending) (W' : World) : Prop :=
  e = .returned (.int .i64 (addCVS (verC key Ca) la v)) ∧ S2 X K W' sa ma (putC Ca la key v) la (na + 1) sb mb Cb lb nb ∧ Kp K W W'
theorem add2_of {ta tb : Tr} {Sa Sb : ChsVS} (h1 : StVS W X.heap.size sa ma ta Sa (totC Ca : Int) la na) (h2 : chsVS Sa = Ca) (h3 : totC Ca ≤ na) (h4 : StVS W X.heap.size sb mb tb Sb (totC Cb : Int) lb nb) (h5 : chsVS Sb = Cb) (h6 : totC Cb ≤ nb) (h7 : Below X.heap.size X W) (h8 : ∀ i, BlkVS sa ma Sa i → ¬ BlkVS sb mb Sb i) (h9 : ∀ i, K i → i < W.heap.size ∧ ¬ BlkVS sa ma Sa i ∧ ¬ BlkVS sb mb Sb i) (key : List UInt8) (v : VerVS) {e : Ending} {W' : World}
    (h : AddPVS W X.heap.size sa ma Sa (totC Ca : Int) la na key v (addCVS (verSVS key Sa) la v) e W') : Add2 X K W sa ma Ca la na sb mb Cb lb nb key v e W' := by
  have hv : verSVS key Sa = verC key Ca := by rw [ver_chs, h2]; rfl
  obtain ⟨rfl, g1, g2⟩ := h
  rw [hv] at g1 g2
  unfold Add2 putC
  rw [hv]
  refine ⟨rfl, ?_⟩
  by_cases h0 : addCVS (verC key Ca) la v = 0
  · rw [if_pos h0]
    obtain ⟨t', v', g3, g4, g5⟩ := g2 h0
    rw [hv] at g3 g5
    have ht := tot_ins key v Ca
    refine ⟨⟨t', insB key (v', verC key Ca ++ [v]) Sa, tb, Sb, ?_, ?_, by rw [ht]; omega, h4.frm g4 h1.five (fun i hi ha => h8 i ha hi), h5, h6, h1.down g4 h7 (Nat.le_refl _), fun i hi hj => ?_, fun i hi => ⟨Nat.lt_of_lt_of_le (h9 i hi).1 g4.size, fun e => ?_, (h9 i hi).2.2⟩⟩, g4.mono (fun i _ hb hk => (h9 i hk).2.1 hb)⟩
    · rw [ht]; exact g3
    · rw [chs_ins, h2]
    · rcases g5 i hi with h | h
      · exact h8 i h hj
      · have := (h4.blk i hj).2; omega
    · rcases g5 i e with h | h
      · exact (h9 i hi).2.1 h
      · have := (h9 i hi).1; omega
  · rw [if_neg h0]
    have hb := g1 h0
    exact ⟨⟨ta, Sa, tb, Sb, (h1.below hb).wide (by omega), h2, by omega, h4.below hb, h5, h6, h7.trans (hb.mono h7.size), h8, fun i hi => ⟨Nat.lt_of_lt_of_le (h9 i hi).1 hb.size, (h9 i hi).2⟩⟩, Kp.of hb⟩
theorem put2 (h : S2 X K W sa ma Ca la na sb mb Cb lb nb) (hn : na ≤ 10000) (key : List UInt8) (at1 : Int) (x : List UInt8) :
    Calls Try.prog 11 #[.pointer (some ⟨sa, 0, none⟩), .int .i64 at1, str key, str x] W (Add2 X K W sa ma Ca la na sb mb Cb lb nb key (at1, x, false)) := by
  obtain ⟨ta, Sa, tb, Sb, h1, h2, h3, h4, h5, h6, h7, h8, h9⟩ := h
  exact (putVS_st h1 (by omega) (by omega) key at1 x h7.size).mono (fun e W' h => add2_of h1 h2 h3 h4 h5 h6 h7 h8 h9 key _ h)
theorem kill2 (h : S2 X K W sa ma Ca la na sb mb Cb lb nb) (hn : na ≤ 10000) (key : List UInt8) (at1 : Int) :
    Calls Try.prog 13 #[.pointer (some ⟨sa, 0, none⟩), .int .i64 at1, str key] W (Add2 X K W sa ma Ca la na sb mb Cb lb nb key (at1, [], true)) := by
  obtain ⟨ta, Sa, tb, Sb, h1, h2, h3, h4, h5, h6, h7, h8, h9⟩ := h
  exact (killVS_st h1 (by omega) (by omega) key at1 h7.size).mono (fun e W' h => add2_of h1 h2 h3 h4 h5 h6 h7 h8 h9 key _ h)
set_option maxHeartbeats 2000000 in
theorem putO2 (h : S2 X K W sa ma Ca la na sb mb Cb lb nb) (hn : na ≤ 9000) (o : Op11) :
    Calls Try.prog 33 #[.pointer (some ⟨sa, 0, none⟩), enc11 o] W fun e W' => e = .returned (.tuple #[]) ∧ S2 X K W' sa ma (opC o Ca la) la (na + 1) sb mb Cb lb nb ∧ Kp K W W' := by
  obtain ⟨kd, a, ky, y, hi⟩ := o
  unfold opC enc11
  dsimp only
  have HK : Hid (Kp K W _) := Lib.hid (Kp.of (below_alloc W (.cells #[.int .i64 kd, .int .i64 a, str ky, str y, str hi] 32)))
  have HS := Lib.hid (h.below (below_alloc W (.cells #[.int .i64 kd, .int .i64 a, str ky, str y, str hi] 32)))
  have CP := Lib.hid (put2 HS.out (by omega) ky a y)
  have CK := Lib.hid (kill2 HS.out (by omega) ky a)
  clear h
  by_cases h0 : kd = 0
  · subst h0
    rw [if_pos rfl]
    go_enter Try.func33, Try.ntmps33
    go_wp2_with fail
    refine CP.out.mono ?_
    rintro e w2 ⟨rfl, h2, h3⟩
    have H2 := Lib.hid (And.intro h2 (HK.out.tr h3))
    clear h2 h3 CP CK HS
    go_wp2_with fail
    first
      | exact bodyPost_ret (results_none rfl _ _ _) rfl ⟨rfl, H2.out⟩
      | (go_end0; exact ⟨rfl, H2.out⟩)
  by_cases h1 : kd = 1
  · subst h1
    rw [if_neg h0, if_pos rfl]
    go_enter Try.func33, Try.ntmps33
    go_wp2_with fail
    refine CK.out.mono ?_
    rintro e w2 ⟨rfl, h2, h3⟩
    have H2 := Lib.hid (And.intro h2 (HK.out.tr h3))
    clear h2 h3 CP CK HS
    go_wp2_with fail
    first
      | exact bodyPost_ret (results_none rfl _ _ _) rfl ⟨rfl, H2.out⟩
      | (go_end0; exact ⟨rfl, H2.out⟩)
  rw [if_neg h0, if_neg h1]
  have d0 : (kd == 0) = false := beq_eq_false_iff_ne.2 h0
  have d1 : (kd == 1) = false := beq_eq_false_iff_ne.2 h1
  have HX : Hid (S2 X K _ sa ma Ca la (na + 1) sb mb Cb lb nb) := Lib.hid (by
    exact HS.out.wide (by omega) (Nat.le_refl _))
  go_enter Try.func33, Try.ntmps33
  go_wp2_with fail
  first
    | exact bodyPost_ret (results_none rfl _ _ _) rfl ⟨rfl, HX.out, HK.out⟩
    | (go_end0; exact ⟨rfl, HX.out, HK.out⟩)
end Go.Proofs.Ytdlacjdddjebgaa
