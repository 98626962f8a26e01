/- A store of any keys, told by its chains: Put, Kill, Prune, Get. -/
import Derived.Test.YtdlacjdddjebgaaV11StayM
namespace Go.Proofs.Ytdlacjdddjebgaa
open Go.RowKit

theorem ht_len {K V : Value → Prop} : ∀ {t : Tr}, WS K V t → ht t ≤ (prs t).length
  | .nil, _ => Nat.zero_le _
  | .node l k x n r, h => by
    obtain ⟨h1, _, _, h2, h3⟩ := h
    have a := ht_len h2
    have b := ht_len h3
    simp only [ht, prs, List.length_append, List.length_cons]
    omega
/-- How many versions. -/
def totC (C : ChC) : Nat := (C.map (fun p => p.2.length)).sum
/-- A chain of a key. -/
def verC (key : List UInt8) (C : ChC) : List VerVS := (getB key C).getD []
theorem tot_ins (key : List UInt8) (v : VerVS) : ∀ C : ChC, totC (insB key (verC key C ++ [v]) C) = totC C + 1
  | [] => by simp [verC, getB, insB, totC]
  | (k', y') :: t => by
    have ih := tot_ins key v t
    unfold verC totC at ih ⊢
    cases h1 : Op.bytesLess key k' with
    | true => simp [getB, insB, h1]; omega
    | false =>
      cases h2 : Op.bytesLess k' key with
      | true => simp only [getB, insB, h1, h2, Bool.false_eq_true, if_false, if_true, List.map_cons, List.sum_cons, ih]; omega
      | false => simp [getB, insB, h1, h2]; omega
theorem tot_at : ∀ {C : ChC} {p : List UInt8 × List VerVS}, p ∈ C → p.2.length ≤ totC C
  | q :: t, p, h => by
    unfold totC
    rcases List.mem_cons.1 h with rfl | h
    · simp
    · have := tot_at h
      unfold totC at this
      simp only [List.map_cons, List.sum_cons]; omega
theorem pru_len (lw : Int) (C : ChC) : (pruCVS lw C).length ≤ C.length := List.length_filterMap_le _ _
theorem tot_pru (lw : Int) : ∀ C : ChC, totC (pruCVS lw C) + pruDVS lw C = totC C
  | [] => rfl
  | (k, l) :: t => by
    have ih := tot_pru lw t
    have hd := dropNVS_le l lw
    have hk : (keptVVS lw l).length = l.length - dropNVS l lw := by unfold keptVVS; rw [List.length_drop]
    have hD : pruDVS lw ((k, l) :: t) = dropNVS l lw + pruDVS lw t := by simp [pruDVS]
    have hT : totC ((k, l) :: t) = l.length + totC t := by simp [totC]
    rw [hD, hT]
    unfold pruCVS at ih ⊢
    rw [List.filterMap_cons]
    by_cases h0 : (keptVVS lw l).length = 0
    · simp only [h0, if_true]; omega
    · simp only [h0, if_false]
      have : ∀ X : ChC, totC ((k, keptVVS lw l) :: X) = (keptVVS lw l).length + totC X := fun X => by simp [totC]
      rw [this]; omega
/-- A store under X: its chains C, of n calls at most; the blocks K are not its own. -/
def SG (X : World) (K : Nat → Prop) (W : World) (s mb : Nat) (C : ChC) (low : Int) (n : Nat) : Prop := ∃ t S, StVS W X.heap.size s mb t S (totC C : Int) low n ∧ chsVS S = C ∧ Below X.heap.size X W ∧ totC C ≤ n ∧ ∀ i, K i → i < W.heap.size ∧ ¬ BlkVS s mb S i
/-- The blocks K lie on. -/
abbrev Kp (K : Nat → Prop) (W W' : World) : Prop := Frm (fun i => ¬ K i) W W'
theorem Kp.of {K : Nat → Prop} {W W' : World} (h : Below W.heap.size W W') : Kp K W W' := Frm.of_below h
theorem Kp.tr {K : Nat → Prop} {a b c : World} (h : Kp K a b) (k : Kp K b c) : Kp K a c := Frm.trans h k (fun _ _ hi => hi)
variable {X W : World} {K : Nat → Prop} {s mb : Nat} {C : ChC} {low : Int} {n : Nat}
theorem SG.below {W' : World} (h : SG X K W s mb C low n) (hb : Below W.heap.size W W') : SG X K W' s mb C low n := by
  obtain ⟨t, S, h1, h2, h3, h4, h5⟩ := h
  exact ⟨t, S, h1.below hb, h2, h3.trans (hb.mono h3.size), h4, fun i hi => ⟨Nat.lt_of_lt_of_le (h5 i hi).1 hb.size, (h5 i hi).2⟩⟩
/-- What came behind it may be kept. -/
theorem SG.keep {W' : World} (h : SG X K W s mb C low n) (hb : Below W.heap.size W W') : SG X (fun i => W.heap.size ≤ i ∧ i < W'.heap.size) W' s mb C low n := by
  obtain ⟨t, S, h1, h2, h3, h4, h5⟩ := h
  refine ⟨t, S, h1.below hb, h2, h3.trans (hb.mono h3.size), h4, fun i hi => ⟨hi.2, fun e => ?_⟩⟩
  have := (h1.blk i e).2
  omega
theorem SG.wide {n' : Nat} (h : SG X K W s mb C low n) (hn : n ≤ n') : SG X K W s mb C low n' := by
  obtain ⟨t, S, h1, h2, h3, h4, h5⟩ := h
  exact ⟨t, S, h1.wide hn, h2, h3, by omega, h5⟩
theorem SG.bel (h : SG X K W s mb C low n) : Below X.heap.size X W := by
  obtain ⟨t, S, h1, h2, h3, h4, h5⟩ := h
  exact h3
theorem SG.ris (h : SG X K W s mb C low n) : (∀ p ∈ C, RisT (timesVS p.2)) ∧ RisB C ∧ C.length ≤ n := by
  obtain ⟨t, S, h1, rfl, h3, h4, _⟩ := h
  refine ⟨fun p hp => ?_, ?_, by unfold chsVS; rw [List.length_map]; exact h1.hk.2.1⟩
  · obtain ⟨x, hx, rfl⟩ := List.mem_map.1 hp
    exact h1.tr x hx
  · have := h1.rs
    unfold RisB at this ⊢
    unfold chsVS
    exact List.pairwise_map.2 this
/-- What a Put, a Kill leaves. -/
def putC (C : ChC) (low : Int) (key : List UInt8) (v : VerVS) : ChC := if addCVS (verC key C) low v = 0 then insB key (verC key C ++ [v]) C else C
def AddG (X : World) (K : Nat → Prop) (W : World) (s mb : Nat) (C : ChC) (low : Int) (n : Nat) (key : List UInt8) (v : VerVS) (e : Ending) (W' : World) : Prop :=
  e = .returned (.int .i64 (addCVS (verC key C) low v)) ∧ SG X K W' s mb (putC C low key v) low (n + 1) ∧ Kp K W W'
theorem addG_of {t : Tr} {S : ChsVS} (h1 : StVS W X.heap.size s mb t S (totC C : Int) low n) (h2 : chsVS S = C) (h3 : Below X.heap.size X W) (h4 : totC C ≤ n) (h5 : ∀ i, K i → i < W.heap.size ∧ ¬ BlkVS s mb S i) (key : List UInt8) (v : VerVS) {e : Ending} {W' : World}
    (h : AddPVS W X.heap.size s mb S (totC C : Int) low n key v (addCVS (verSVS key S) low v) e W') : AddG X K W s mb C low n key v e W' := by
  have hv : verSVS key S = verC key C := by rw [ver_chs, h2]; rfl
  obtain ⟨rfl, h6, h7⟩ := h
  rw [hv] at h6 h7
  unfold AddG putC
  rw [hv]
  refine ⟨rfl, ?_⟩
  by_cases h0 : addCVS (verC key C) low v = 0
  · rw [if_pos h0]
    obtain ⟨t', v', h8, h9, h10⟩ := h7 h0
    rw [hv] at h8 h10
    have ht := tot_ins key v C
    refine ⟨⟨t', insB key (v', verC key C ++ [v]) S, ?_, ?_, h1.down h9 h3 (Nat.le_refl _), by rw [ht]; omega, fun i hi => ⟨Nat.lt_of_lt_of_le (h5 i hi).1 h9.size, fun e => ?_⟩⟩, h9.mono (fun i _ hb hk => (h5 i hk).2 hb)⟩
    · rw [ht]; exact h8
    · rw [chs_ins, h2]
    · rcases h10 i e with h | h
      · exact (h5 i hi).2 h
      · have := (h5 i hi).1; omega
  · rw [if_neg h0]
    exact ⟨SG.wide ⟨t, S, h1.below (h6 h0), h2, h3.trans ((h6 h0).mono h3.size), h4, fun i hi => ⟨Nat.lt_of_lt_of_le (h5 i hi).1 (h6 h0).size, (h5 i hi).2⟩⟩ (by omega), Kp.of (h6 h0)⟩
theorem putG (h : SG X K W s mb C low n) (hn : n ≤ 10000) (key : List UInt8) (at1 : Int) (x : List UInt8) :
    Calls Try.prog 11 #[.pointer (some ⟨s, 0, none⟩), .int .i64 at1, str key, str x] W (AddG X K W s mb C low n key (at1, x, false)) := by
  obtain ⟨t, S, h1, h2, h3, h4, h5⟩ := h
  exact (putVS_st h1 (by omega) (by omega) key at1 x h3.size).mono (fun e W' h => addG_of h1 h2 h3 h4 h5 key _ h)
theorem killG (h : SG X K W s mb C low n) (hn : n ≤ 10000) (key : List UInt8) (at1 : Int) :
    Calls Try.prog 13 #[.pointer (some ⟨s, 0, none⟩), .int .i64 at1, str key] W (AddG X K W s mb C low n key (at1, [], true)) := by
  obtain ⟨t, S, h1, h2, h3, h4, h5⟩ := h
  exact (killVS_st h1 (by omega) (by omega) key at1 h3.size).mono (fun e W' h => addG_of h1 h2 h3 h4 h5 key _ h)
/-- What a Prune leaves. -/
def pruG (lw low : Int) (C : ChC) : ChC := if low < lw ∧ lw ≤ 1099511627776 then pruCVS lw C else C
def pruLow (lw low : Int) : Int := if low < lw ∧ lw ≤ 1099511627776 then lw else low
def pruN (lw low : Int) (C : ChC) : Nat := if low < lw ∧ lw ≤ 1099511627776 then pruDVS lw C else 0
theorem pruneG (h : SG X K W s mb C low n) (hn : n ≤ 10000) (lw : Int) :
    Calls Try.prog 15 #[.pointer (some ⟨s, 0, none⟩), .int .i64 lw] W fun e W' => e = .returned (.int .i64 (pruN lw low C : Int)) ∧ SG X K W' s mb (pruG lw low C) (pruLow lw low) n ∧ Kp K W W' := by
  have hh := h
  obtain ⟨t, S, h1, h2, h3, h4, hK⟩ := h
  unfold pruG pruLow pruN
  by_cases hl : low < lw ∧ lw ≤ 1099511627776
  · rw [if_pos hl, if_pos hl, if_pos hl]
    refine (pruneYVS_any h1 hn (by omega) lw hl.1 hl.2 h3.size).mono ?_
    rintro e W' ⟨rfl, ⟨t', S', h5, h6, h7⟩, h8⟩
    rw [h2] at h5 h6
    rw [h2]
    have ht := tot_pru lw C
    have e1 : ((totC C : Int) - (pruDVS lw C : Int)) = (totC (pruCVS lw C) : Int) := by omega
    rw [e1] at h5
    have hS : S'.length ≤ n := by
      have a1 : S'.length = (pruCVS lw C).length := by rw [← h6]; unfold chsVS; rw [List.length_map]
      have a2 : C.length = S.length := by rw [← h2]; unfold chsVS; rw [List.length_map]
      have := pru_len lw C
      have := h1.hk.2.1
      omega
    refine ⟨rfl, ⟨t', S', ⟨h5.box, h5.mp, h5.ws, h5.pr, h5.rs, h5.ch, h5.ap, h5.tr, ⟨?_, hS, fun x hx => ?_⟩, h5.lo⟩, h6, h1.down h8 h3 (Nat.le_refl _), by omega, fun i hi => ⟨Nat.lt_of_lt_of_le (hK i hi).1 h8.size, fun e => ?_⟩⟩, h8.mono (fun i _ hb hk => (hK i hk).2 hb)⟩
    · have a := ht_len h5.ws
      rw [h5.pr, List.length_map] at a
      omega
    · have : (x.1, x.2.2) ∈ pruCVS lw C := by rw [← h6]; exact List.mem_map.2 ⟨x, hx, rfl⟩
      have := tot_at this
      dsimp only at this
      omega
    · rcases h7 i e with h | h
      · exact (hK i hi).2 h
      · have := (hK i hi).1; omega
  · rw [if_neg hl, if_neg hl, if_neg hl]
    refine (pruneNVS_any h1 lw (by omega)).mono ?_
    rintro e W' ⟨rfl, hb⟩
    exact ⟨rfl, hh.below hb, Kp.of hb⟩
theorem newG (X : World) : Calls Try.prog 9 #[] X fun e W' => ∃ s mb, e = .returned (.pointer (some ⟨s, 0, none⟩)) ∧ SG X (fun _ => False) W' s mb [] 0 0 :=
  (newVS_st X).mono (by
    rintro e W' ⟨s, mb, rfl, h1, h2, _⟩
    exact ⟨s, mb, rfl, .nil, [], h1, rfl, h2, Nat.le_refl _, fun _ h => h.elim⟩)
theorem getG (h : SG X K W s mb C low n) (hn : n ≤ 10000) (key : List UInt8) (at1 : Int) :
    Calls Try.prog 27 #[.pointer (some ⟨s, 0, none⟩), str key, .int .i64 at1] W fun e W' => e = seenEVS (seenVS (verC key C) at1) ∧ Below W.heap.size W W' := by
  obtain ⟨t, S, h1, h2, h3, h4, h5⟩ := h
  have := getVS_st h1 (by omega) key at1
  rw [ver_chs, h2] at this
  exact this
theorem lowG (h : SG X K W s mb C low n) :
    Calls Try.prog 19 #[.pointer (some ⟨s, 0, none⟩)] W fun e W' => e = .returned (.int .i64 low) ∧ W = W' := by
  obtain ⟨t, S, h1, h2, h3, h4, h5⟩ := h
  exact lowVS_one (X := X) ⟨t, S, h1, h2, h3⟩
theorem scannedG (h : SG X K W s mb C low n) (hn : n ≤ 10000) (at1 m : Int) (hm : 1 ≤ m) :
    Calls Try.prog 30 #[.func (.func 52) #[] #[.pointer (some ⟨W.heap.size, 0, none⟩), .pointer (some ⟨W.heap.size + 1, 0, none⟩), .pointer (some ⟨W.heap.size + 2, 0, none⟩), .pointer (some ⟨W.heap.size + 3, 0, none⟩)], .int .i64 m] (scanW W s [] [] at1) (PrsP (scanW W s [] [] at1) ((scanC at1 C).take m.toNat)) := by
  obtain ⟨t, S, h1, h2, h3, h4, h5⟩ := h
  have := scanned_any h1 (by omega) at1 m hm
  rw [scanL_nil, h2] at this
  exact this
/-- What a Scan's Pairs leave: the row lies, all that was lies on. -/
theorem scanP_read {W' : World} {at1 : Int} {L : List PairT} {e : Ending} (h : PrsP (scanW W s [] [] at1) L e W') : ∃ v, e = .returned v ∧ W'.ownsRow W.heap.size 55 2 v L.length (L.map cellsP).flatten ∧ RdP W' v L ∧ Below W.heap.size W W' := by
  obtain ⟨v, rfl, h1, h2⟩ := h
  have hbl := (scanW_box W s [] [] at1).2
  refine ⟨v, rfl, row_mono h1 hbl.size, RdF.of_row (fun r hr => ?_) (by simpa using h1), hbl.trans (h2.mono hbl.size)⟩
  obtain ⟨p, _, rfl⟩ := List.mem_map.1 hr
  rfl
/-- What is to be seen at a time stays behind a Put of a later time. -/
theorem scan_putC (C : ChC) (low : Int) (key : List UInt8) (v : VerVS) (at1 : Int) (h : at1 < v.1) : scanC at1 (putC C low key v) = scanC at1 C := by
  unfold putC
  split
  · exact scan_put key v at1 h C
  · rfl
theorem scan_pruG (lw low : Int) (C : ChC) (at1 : Int) (h : lw ≤ at1) (hr : ∀ p ∈ C, RisT (timesVS p.2)) : scanC at1 (pruG lw low C) = scanC at1 C := by
  unfold pruG
  split
  · exact scan_prune lw at1 h C hr
  · rfl
end Go.Proofs.Ytdlacjdddjebgaa
