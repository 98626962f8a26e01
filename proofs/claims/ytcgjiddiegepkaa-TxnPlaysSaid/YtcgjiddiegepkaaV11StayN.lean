import Derived.Test.YtcgjiddiegepkaaV11StayM
import Derived.Test.YtcgjiddiegepkaaOps11
/- A store of any keys, told by its chains: Put, Kill, Prune, Get. -/
namespace Go.Proofs.Ytcgjiddiegepkaa
open Go.RowKit

theorem ht_len {K V : Value → Prop} : ∀ {t : Tr}, WS K V t → ht t ≤ (prs t).length
  | .nil, _ => Nat.zero_le _
  | .node l k x n r, h => by
    obtain ⟨h1, _, _, h2, h3⟩ := h
    have a := ht_len h2
    have b := ht_len h3
    simp only [ht, prs, List.length_append, List.length_cons]
    omega
/-- How many versions. -/
def totC (C : ChC) : Nat := (C.map (fun p => p.2.length)).sum
/-- A chain of a key. -/
def verC (key : List UInt8) (C : ChC) : List VerVS := (getB key C).getD []
theorem tot_ins (key : List UInt8) (v : VerVS) : ∀ C : ChC, totC (insB key (verC key C ++ [v]) C) = totC C + 1
  | [] => by simp [verC, getB, insB, totC]
  | (k', y') :: t => by
    have ih := tot_ins key v t
    unfold verC totC at ih ⊢
    cases h1 : Op.bytesLess key k' with
    | true => simp [getB, insB, h1]; omega
    | false =>
      cases h2 : Op.bytesLess k' key with
      | true => simp only [getB, insB, h1, h2, Bool.false_eq_true, if_false, if_true, List.map_cons, List.sum_cons, ih]; omega
      | false => simp [getB, insB, h1, h2]; omega
theorem tot_at : ∀ {C : ChC} {p : List UInt8 × List VerVS}, p ∈ C → p.2.length ≤ totC C
  | q :: t, p, h => by
    unfold totC
    rcases List.mem_cons.1 h with rfl | h
    · simp
    · have := tot_at h
      unfold totC at this
      simp only [List.map_cons, List.sum_cons]; omega
/-- A store under X: its chains C, of n calls at most; the blocks K are not its own. -/
def SG (X : World) (K : Nat → Prop) (W : World) (s mb : Nat) (C : ChC) (low : Int) (n : Nat) : Prop := ∃ t S, StVS W X.heap.size s mb t S (totC C : Int) low n ∧ chsVS S = C ∧ Below X.heap.size X W ∧ totC C ≤ n ∧ ∀ i, K i → i < W.heap.size ∧ ¬ BlkVS s mb S i
/-- The blocks K lie on. -/
abbrev Kp (K : Nat → Prop) (W W' : World) : Prop := Frm (fun i => ¬ K i) W W'
theorem Kp.of {K : Nat → Prop} {W W' : World} (h : Below W.heap.size W W') : Kp K W W' := Frm.of_below h
theorem Kp.tr {K : Nat → Prop} {a b c : World} (h : Kp K a b) (k : Kp K b c) : Kp K a c := Frm.trans h k (fun _ _ hi => hi)
variable {X W : World} {K : Nat → Prop} {s mb : Nat} {C : ChC} {low : Int} {n : Nat}
theorem SG.below {W' : World} (h : SG X K W s mb C low n) (hb : Below W.heap.size W W') : SG X K W' s mb C low n := by
  obtain ⟨t, S, h1, h2, h3, h4, h5⟩ := h
  exact ⟨t, S, h1.below hb, h2, h3.trans (hb.mono h3.size), h4, fun i hi => ⟨Nat.lt_of_lt_of_le (h5 i hi).1 hb.size, (h5 i hi).2⟩⟩
/-- What came behind it may be kept. -/
theorem SG.keep {W' : World} (h : SG X K W s mb C low n) (hb : Below W.heap.size W W') : SG X (fun i => W.heap.size ≤ i ∧ i < W'.heap.size) W' s mb C low n := by
  obtain ⟨t, S, h1, h2, h3, h4, h5⟩ := h
  refine ⟨t, S, h1.below hb, h2, h3.trans (hb.mono h3.size), h4, fun i hi => ⟨hi.2, fun e => ?_⟩⟩
  have := (h1.blk i e).2
  omega
theorem SG.wide {n' : Nat} (h : SG X K W s mb C low n) (hn : n ≤ n') : SG X K W s mb C low n' := by
  obtain ⟨t, S, h1, h2, h3, h4, h5⟩ := h
  exact ⟨t, S, h1.wide hn, h2, h3, by omega, h5⟩
theorem SG.bel (h : SG X K W s mb C low n) : Below X.heap.size X W := by
  obtain ⟨t, S, h1, h2, h3, h4, h5⟩ := h
  exact h3
theorem SG.ris (h : SG X K W s mb C low n) : (∀ p ∈ C, RisT (timesVS p.2)) ∧ RisB C ∧ C.length ≤ n := by
  obtain ⟨t, S, h1, rfl, h3, h4, _⟩ := h
  refine ⟨fun p hp => ?_, ?_, by unfold chsVS; rw [List.length_map]; exact h1.hk.2.1⟩
  · obtain ⟨x, hx, rfl⟩ := List.mem_map.1 hp
    exact h1.tr x hx
  · have := h1.rs
    unfold RisB at this ⊢
    unfold chsVS
    exact List.pairwise_map.2 this
/-- What a Put, a Kill leaves. -/
def putC (C : ChC) (low : Int) (key : List UInt8) (v : VerVS) : ChC := if addCVS (verC key C) low v = 0 then insB key (verC key C ++ [v]) C else C
def AddG (X : World) (K : Nat → Prop) (W : World) (s mb : Nat) (C : ChC) (low : Int) (n : Nat) (key : List UInt8) (v : VerVS) (e : Ending) (W' : World) : Prop :=
  e = .returned (.int .i64 (addCVS (verC key C) low v)) ∧ SG X K W' s mb (putC C low key v) low (n + 1) ∧ Kp K W W'
theorem addG_of {t : Tr} {S : ChsVS} (h1 : StVS W X.heap.size s mb t S (totC C : Int) low n) (h2 : chsVS S = C) (h3 : Below X.heap.size X W) (h4 : totC C ≤ n) (h5 : ∀ i, K i → i < W.heap.size ∧ ¬ BlkVS s mb S i) (key : List UInt8) (v : VerVS) {e : Ending} {W' : World}
    (h : AddPVS W X.heap.size s mb S (totC C : Int) low n key v (addCVS (verSVS key S) low v) e W') : AddG X K W s mb C low n key v e W' := by
  have hv : verSVS key S = verC key C := by rw [ver_chs, h2]; rfl
  obtain ⟨rfl, h6, h7⟩ := h
  rw [hv] at h6 h7
  unfold AddG putC
  rw [hv]
  refine ⟨rfl, ?_⟩
  by_cases h0 : addCVS (verC key C) low v = 0
  · rw [if_pos h0]
    obtain ⟨t', v', h8, h9, h10⟩ := h7 h0
    rw [hv] at h8 h10
    have ht := tot_ins key v C
    refine ⟨⟨t', insB key (v', verC key C ++ [v]) S, ?_, ?_, h1.down h9 h3 (Nat.le_refl _), by rw [ht]; omega, fun i hi => ⟨Nat.lt_of_lt_of_le (h5 i hi).1 h9.size, fun e => ?_⟩⟩, h9.mono (fun i _ hb hk => (h5 i hk).2 hb)⟩
    · rw [ht]; exact h8
    · rw [chs_ins, h2]
    · rcases h10 i e with h | h
      · exact (h5 i hi).2 h
      · have := (h5 i hi).1; omega
  · rw [if_neg h0]
    exact ⟨SG.wide ⟨t, S, h1.below (h6 h0), h2, h3.trans ((h6 h0).mono h3.size), h4, fun i hi => ⟨Nat.lt_of_lt_of_le (h5 i hi).1 (h6 h0).size, (h5 i hi).2⟩⟩ (by omega), Kp.of (h6 h0)⟩
theorem putG (h : SG X K W s mb C low n) (hn : n ≤ 10000) (key : List UInt8) (at1 : Int) (x : List UInt8) :
    Calls Try.prog 25 #[.pointer (some ⟨s, 0, none⟩), .int .i64 at1, str key, str x] W (AddG X K W s mb C low n key (at1, x, false)) := by
  obtain ⟨t, S, h1, h2, h3, h4, h5⟩ := h
  exact (putVS_st h1 (by omega) (by omega) key at1 x h3.size).mono (fun e W' h => addG_of h1 h2 h3 h4 h5 key _ h)
theorem killG (h : SG X K W s mb C low n) (hn : n ≤ 10000) (key : List UInt8) (at1 : Int) :
    Calls Try.prog 27 #[.pointer (some ⟨s, 0, none⟩), .int .i64 at1, str key] W (AddG X K W s mb C low n key (at1, [], true)) := by
  obtain ⟨t, S, h1, h2, h3, h4, h5⟩ := h
  exact (killVS_st h1 (by omega) (by omega) key at1 h3.size).mono (fun e W' h => addG_of h1 h2 h3 h4 h5 key _ h)
theorem newG (X : World) : Calls Try.prog 38 #[] X fun e W' => ∃ s mb, e = .returned (.pointer (some ⟨s, 0, none⟩)) ∧ SG X (fun _ => False) W' s mb [] 0 0 :=
  (newVS_st X).mono (by
    rintro e W' ⟨s, mb, rfl, h1, h2, _⟩
    exact ⟨s, mb, rfl, .nil, [], h1, rfl, h2, Nat.le_refl _, fun _ h => h.elim⟩)
theorem getG (h : SG X K W s mb C low n) (hn : n ≤ 10000) (key : List UInt8) (at1 : Int) :
    Calls Try.prog 43 #[.pointer (some ⟨s, 0, none⟩), str key, .int .i64 at1] W fun e W' => e = seenEVS (seenVS (verC key C) at1) ∧ Below W.heap.size W W' := by
  obtain ⟨t, S, h1, h2, h3, h4, h5⟩ := h
  have := getVS_st h1 (by omega) key at1
  rw [ver_chs, h2] at this
  exact this
theorem scannedG (h : SG X K W s mb C low n) (hn : n ≤ 10000) (at1 m : Int) (hm : 1 ≤ m) :
    Calls Try.prog 21 #[.func (.func 56) #[] #[.pointer (some ⟨W.heap.size, 0, none⟩), .pointer (some ⟨W.heap.size + 1, 0, none⟩), .pointer (some ⟨W.heap.size + 2, 0, none⟩), .pointer (some ⟨W.heap.size + 3, 0, none⟩)], .int .i64 m] (scanW W s [] [] at1) (PrsP (scanW W s [] [] at1) ((scanC at1 C).take m.toNat)) := by
  obtain ⟨t, S, h1, h2, h3, h4, h5⟩ := h
  have := scanned_any h1 (by omega) at1 m hm
  rw [scanL_nil, h2] at this
  exact this
/-- What a Scan's Pairs leave: the row lies, all that was lies on. -/
theorem scanP_read {W' : World} {at1 : Int} {L : List PairT} {e : Ending} (h : PrsP (scanW W s [] [] at1) L e W') : ∃ v, e = .returned v ∧ W'.ownsRow W.heap.size 63 2 v L.length (L.map cellsP).flatten ∧ RdP W' v L ∧ Below W.heap.size W W' := by
  obtain ⟨v, rfl, h1, h2⟩ := h
  have hbl := (scanW_box W s [] [] at1).2
  refine ⟨v, rfl, row_mono h1 hbl.size, RdF.of_row (fun r hr => ?_) (by simpa using h1), hbl.trans (h2.mono hbl.size)⟩
  obtain ⟨p, _, rfl⟩ := List.mem_map.1 hr
  rfl
/-- What is to be seen at a time stays behind a Put of a later time. -/
theorem scan_putC (C : ChC) (low : Int) (key : List UInt8) (v : VerVS) (at1 : Int) (h : at1 < v.1) : scanC at1 (putC C low key v) = scanC at1 C := by
  unfold putC
  split
  · exact scan_put key v at1 h C
  · rfl
end Go.Proofs.Ytcgjiddiegepkaa

/- hbllaw11.put; hblref.Pairs of lists that read alike. -/
namespace Go.Proofs.Ytcgjiddiegepkaa
open Go.RowKit

set_option maxHeartbeats 4000000 in
/-- Two lists of pairs that read alike. -/
theorem alikePairs_any (va vb : Value) (L : List PairT) (w : World) (ha : RdP w va L) (hb : RdP w vb L) :
    Calls Try.prog 20 #[va, vb] w fun e w' => e = .returned (.bool true) ∧ Below w.heap.size w w' := by
  obtain ⟨aa, ca, rfl, hl⟩ := ha.form
  obtain ⟨ab, cb, rfl, _⟩ := hb.form
  have HA := Lib.hid ha
  have HB := Lib.hid hb
  clear ha hb
  go_enter Try.func20, Try.ntmps20
  go_wp2_with fail
  go_loopw [5] (fun i wr => ∃ (k q : Nat), k ≤ L.length ∧ i = .int .i64 (k : Int) ∧ wr = w.drewN q) (fun i _ => L.length - (intOf i).toNat)
  case atStart => exact ⟨0, 0, Nat.zero_le _, rfl, rfl⟩
  case round =>
    obtain ⟨k, q, hk, rfl, rfl⟩ := hrel
    by_cases hlt : k < L.length
    · have g3 : (k : Int) < (L.length : Int) := by omega
      have g4 : (0 : Int) ≤ (k : Int) := by omega
      obtain ⟨bA, oA, rfl, c0, c1⟩ := HA.out.get hlt
      obtain ⟨bB, oB, rfl, e0, e1⟩ := HB.out.get hlt
      obtain ⟨⟨ck, cv⟩, hc⟩ : ∃ c, c = L[k] := ⟨_, rfl⟩
      rw [← hc] at c0 c1 e0 e1
      dsimp only at c0 c1 e0 e1
      have n1 : (ck != ck) = false := bne_self_eq_false _
      have n2 : (cv != cv) = false := bne_self_eq_false _
      clear hc HA HB
      go_wp2_with fail
      go_quiet (fail)
      go_wp2_with fail
      go_roundw
      case rel => exact ⟨k + 1, _, by omega, by go_num, rfl⟩
      case measure => simp [intOf]; omega
    · obtain rfl : k = L.length := by omega
      have g3 : ¬ (L.length : Int) < (L.length : Int) := by omega
      go_wp2_with fail
      go_ret
      exact ⟨rfl, Below.drewsN (Below.refl _ w) q⟩
end Go.Proofs.Ytcgjiddiegepkaa

/- VersStays: what is scanned rises, each tells what Get tells; a list's beginning. -/
namespace Go.Proofs.Ytcgjiddiegepkaa
open Go.RowKit

theorem getB_in {Y : Type} {k : List UInt8} {y : Y} : ∀ {l : List (List UInt8 × Y)}, RisB l → (k, y) ∈ l → getB k l = some y
  | (k', y') :: t, hr, h => by
    obtain ⟨r1, r2⟩ := List.pairwise_cons.1 hr
    rcases List.mem_cons.1 h with e | h
    · simp only [Prod.mk.injEq] at e
      obtain ⟨rfl, rfl⟩ := e
      simp [getB, bl_irr]
    · have h1 : Op.bytesLess k' k = true := r1 (k, y) h
      have h2 : Op.bytesLess k k' = false := by
        cases e : Op.bytesLess k k' with
        | false => rfl
        | true => have := bl_tr _ _ _ e h1; rw [bl_irr] at this; cases this
      simp only [getB, h1, h2, Bool.false_eq_true, if_false, if_true]
      exact getB_in r2 h
theorem scan_at {C : ChC} {at1 : Int} (hr : RisB C) {p : PairT} (hp : p ∈ scanC at1 C) : seenVS (verC p.1 C) at1 = some p.2 := by
  obtain ⟨q, hq, e⟩ := List.mem_filterMap.1 hp
  obtain ⟨r, hr2, e2⟩ := Option.map_eq_some_iff.1 e
  subst e2
  dsimp only
  unfold verC
  rw [getB_in hr (show (q.1, q.2) ∈ C from hq)]
  exact hr2
theorem scan_ris {at1 : Int} : ∀ {C : ChC}, RisB C → RisB (scanC at1 C)
  | [], _ => List.Pairwise.nil
  | (k, l) :: t, hr => by
    obtain ⟨r1, r2⟩ := List.pairwise_cons.1 hr
    have ih := scan_ris (at1 := at1) r2
    unfold scanC at ih ⊢
    rw [List.filterMap_cons]
    cases e : seenVS l at1 with
    | none => simpa [e] using ih
    | some v =>
      simp only [Option.map_some]
      refine List.pairwise_cons.2 ⟨fun q hq => ?_, ih⟩
      obtain ⟨z, hz, e3⟩ := List.mem_filterMap.1 hq
      obtain ⟨r, _, rfl⟩ := Option.map_eq_some_iff.1 e3
      exact r1 z hz
theorem scan_len (at1 : Int) (C : ChC) : (scanC at1 C).length ≤ C.length := List.length_filterMap_le _ _
theorem RdP.take {w : World} {a : Option Addr} {n cap : Nat} {l : List PairT} (h : RdP w (.slice a n cap) l) (m : Nat) (hm : m ≤ l.length) : RdP w (.slice a m cap) (l.take m) := by
  obtain ⟨a', c', he, h1, h2, h3, h4⟩ := h
  simp only [Value.slice.injEq] at he
  obtain ⟨rfl, _, rfl⟩ := he
  rw [List.length_map] at h1 h2
  have el : ((l.take m).map cellsP).length = m := by rw [List.length_map, List.length_take]; omega
  refine ⟨a, cap, by rw [el], by rw [el]; omega, by rw [el]; omega, h3, fun hne => ?_⟩
  obtain ⟨b, off, ha, hc⟩ := h4 (by
    intro e
    rw [List.map_eq_nil_iff] at e
    subst e
    simp at hne)
  refine ⟨b, off, ha, fun i hi j u hu => ?_⟩
  rw [el] at hi
  have hi2 : i < (l.map cellsP).length := by rw [List.length_map]; omega
  refine hc i hi2 j u ?_
  rw [← hu]
  simp
theorem take_min {α : Type} (l : List α) (n : Nat) : l.take (min n l.length) = l.take n := by
  by_cases h : n ≤ l.length
  · rw [Nat.min_eq_left h]
  · rw [Nat.min_eq_right (by omega), List.take_length, List.take_of_length_le (by omega)]
theorem scannedB {X W : World} {K : Nat → Prop} {s mb : Nat} {C : ChC} {low : Int} {n b : Nat} (h : SG X K W s mb C low n) (hn : n ≤ 10000) (at1 m : Int) (hm : 1 ≤ m) (hb : ScB W b (b + 1) (b + 2) (b + 3) s [] [] at1) :
    Calls Try.prog 21 #[.func (.func 56) #[] #[.pointer (some ⟨b, 0, none⟩), .pointer (some ⟨b + 1, 0, none⟩), .pointer (some ⟨b + 2, 0, none⟩), .pointer (some ⟨b + 3, 0, none⟩)], .int .i64 m] W (PrsP W ((scanC at1 C).take m.toNat)) := by
  obtain ⟨t, S, h1, h2, h3, h4, h5⟩ := h
  have hl : (scanL [] at1 S).length ≤ 1000000 := by
    have := List.length_filterMap_le (scan1 [] at1) S
    have := h1.hk.2.1
    unfold scanL; omega
  have := v11pairs_any (Ok := fun W2 => Below W.heap.size W W2) m hm hl (enters_of Try.func56 (by kernel_rfl) rfl) (fun W' h => h) (fun W' hW' => scanAll_any h1 (by omega) hb hW' (by decide))
  rw [scanL_nil, h2] at this
  exact this
theorem prs_read {W W' : World} {L : List PairT} {e : Ending} (h : PrsP W L e W') : ∃ a c, e = .returned (.slice a L.length c) ∧ RdP W' (.slice a L.length c) L ∧ Below W.heap.size W W' := by
  obtain ⟨v, rfl, h1, h2⟩ := h
  have hr : RdP W' v L := RdF.of_row (fun r hr => by obtain ⟨p, _, rfl⟩ := List.mem_map.1 hr; rfl) (by simpa using h1)
  obtain ⟨a, c, rfl, _⟩ := hr.form
  exact ⟨a, c, rfl, hr, h2⟩
end Go.Proofs.Ytcgjiddiegepkaa
