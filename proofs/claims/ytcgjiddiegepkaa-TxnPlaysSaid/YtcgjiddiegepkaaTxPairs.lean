/- hbllaw11.Pairs over what writes boxes of its own. -/
import Derived.Test.YtcgjiddiegepkaaV11Pairs
import Derived.Test.YtcgjiddiegepkaaTxScn
namespace Go.Proofs.Ytcgjiddiegepkaa
open Go.RowKit
attribute [local go_sem] Oper.semAt_some wide_fn wide_depth

theorem prsI_ownW {Tw : TypeId → Prop} (ht1 : ¬ Tw 3) (ht2 : ¬ Tw 43) (ht3 : ¬ Tw 63) (w : World) (N : Nat) {B : Nat} (hB : w.heap.size ≤ B) : OwnFromT Tw B (PrsI w N) :=
  OwnFromT.and ((boxRowN_ownT _ _ _ _ _ (fun pre : List PairT => pre.length) (fun pre => (pre.map cellsP).flatten) ht2 ht3).from _) (OwnFromT.and ((boxed_ownT _ _ _ ht1).from _) (ownFromT_below (Nat.le_refl _) hB))
set_option maxRecDepth 100000 in
set_option maxHeartbeats 8000000 in
theorem v11pairsW_any {Tw : TypeId → Prop} (ht1 : ¬ Tw 3) (ht2 : ¬ Tw 43) (ht3 : ¬ Tw 63) {Ok : World → Prop} {gf : Nat} {lb : Array Value} {L : List PairT} {w : World} (n : Int) (h1 : 1 ≤ n) (hx : L.length ≤ 1000000)
    (eg : ∀ args w, (callFunc gf args).run Try.prog w = .ok (.enter gf args) w) (hOk : ∀ W, Below w.heap.size w W → Ok W)
    (hs : ∀ W', Below w.heap.size w W' → SeqsW Tw Try.prog gf lb (fun p : PairT => #[str p.1, str p.2]) Ok (fun T => T = 63) L W') :
    Calls Try.prog 21 #[.func (.func gf) #[] lb, .int .i64 n] w (PrsP w (L.take n.toNat)) := by
  have hfn : ∀ w, (binOp .eql 46 (.func (.func gf) #[] lb) .nilFunc).run Try.prog w = .ok (.bool false) w := fun w => by kernel_rfl
  obtain ⟨i0, hi, hz0, hz1, hz2⟩ := info_parts infoPair
  obtain ⟨N, hN, hN1⟩ : ∃ N : Nat, n = (N : Int) ∧ 1 ≤ N := ⟨n.toNat, by omega, by omega⟩
  subst hN
  refine (callsIn_wide (n := 9)).1 ?_
  refine callsIn_of_wp_marks Try.func21 rfl trivial ?_ rfl
  simp only [Try.ntmps21, List.size_toArray, List.length_cons, List.length_nil, Nat.reduceAdd, Nat.reduceSub, Array.replicate_succ, Array.replicate_zero, List.push_toArray, List.append_toArray, List.nil_append, List.cons_append]
  have g1 : decide ((N : Int) < 1) = false := decide_eq_false (by omega)
  gi_wp2
  have bN := Boxed.new w 3 (.int .i64 (N : Int))
  have bA := Boxed.new (w.alloc (.cells #[.int .i64 (N : Int)] 3)) 43 (.slice none 0 0)
  simp only [World.size_alloc] at bA
  have hB0 : Below w.heap.size w ((w.alloc (.cells #[.int .i64 (N : Int)] 3)).alloc (.cells #[.slice none 0 0] 43)) := (((Below.refl _ w).alloc (Nat.le_refl _) _).alloc (by simp) _)
  refine range_lawW (Tw := Tw) (gf := gf) (lb := lb) rfl eg (Ok := Ok) (Wr := fun T => T = 63) (xs := L) (fun W' h => hs W' (hB0.trans (h.mono (by simp; omega)))) (by intro x; rfl)
    (fun pre W => PrsI w N pre W ∧ pre.length < N)
    (fun c pre W => PrsI w N pre W ∧ c = .exit 0 ∧ pre.length = N)
    (OwnFromT.and (prsI_ownW ht1 ht2 ht3 w N (by simp; omega)) (ownFromT_pure _ _ (fun pre : List PairT => pre.length < N)))
    (fun c => OwnFromT.and (prsI_ownW ht1 ht2 ht3 w N (by simp; omega)) (ownFromT_pure _ _ (fun pre : List PairT => c = .exit 0 ∧ pre.length = N)))
    ⟨⟨⟨_, bA, World.ownsRow_nil _ _ _ _⟩, bN.alloc _, hB0⟩, by simp; omega⟩ (fun pre W h => hOk W h.1.2.2) ?a1 ?assign ?body ?done ?stop
  case assign =>
    intro l x W K hK
    gi_wp2
    exact hK
  case body =>
    rintro l2 pre ⟨ck, cv⟩ W _ ⟨⟨⟨v, hv, hrow⟩, hn, hB⟩, hlt⟩ ⟨t, ht⟩
    have cvv := hv.cell
    have cn := hn.cell
    have hlen : pre.length + 1 ≤ 1000000 := by
      have := congrArg List.length ht
      simp at this; omega
    have hsz : w.heap.size + 2 ≤ W.heap.size := hv.lt
    have ex : ((pre ++ [((ck, cv) : PairT)]).map cellsP).flatten = (pre.map cellsP).flatten ++ [str ck, str cv] := by simp [cellsP]
    have HE := Lib.hid (And.intro ex (And.intro hB hlt))
    dsimp only
    clear ex hB ht hlt hs hOk hB0 bN bA hx
    by_cases hlast : pre.length + 1 = N
    all_goals
      first
        | (have hq : ((pre.length : Int) + 1 == (N : Int)) = true := by rw [beq_iff_eq]; omega)
        | (have hq : ((pre.length : Int) + 1 == (N : Int)) = false := by rw [beq_eq_false_iff_ne]; omega)
      have HL := Lib.hid hlast
      clear hlast
      gi_wp2_with (gi_at_builtin; refine wpListIn_append_own _ rfl _ _ 43 rfl (w.heap.size + 2) 63 i0 (.agg #[str [], str []]) 2 32 Try.underlying43 hi hz0 hz1 hz2 rfl (by decide) _ _ _ rfl (hrow.alloc _) ⟨W.heap.size, 0, none⟩ 1 1 [str ck, str cv] rfl rfl (cell_two_new _ _ _ _) (by simp [Value.oneCell']) (by simp only [maxLen]; omega) (by omega) (by simp; omega) ?_; intro v' w1 hown' hgrow _; obtain ⟨g', cap', rfl⟩ := ownsRow_succ hown'; obtain ⟨hv1, hv2, hr2, hbel⟩ := appended2 hv (by omega) hsz hrow hown' hgrow; have hT := boxT (Wr := fun T => T = 63) (v' := .slice (some ⟨g', 0, none⟩) (pre.length + 1) cap') (D := w.heap.size + 2) hv (by decide) hrow hgrow rfl (by omega); have hn1 := (hn.alloc _).kept hgrow (fun e => by have := (hrow.lt _ e.symm).1; omega); have hn2 := hn1.other (show w.heap.size ≠ w.heap.size + 1 by omega) (.slice (some ⟨g', 0, none⟩) (pre.length + 1) cap'); have hc1 := hv1.cell; have hf1 := hv1.frozen; have c6 := hv2.cell; have c7 := hn2.cell; clear hown' hgrow)
      obtain ⟨ex, hB, hlt⟩ := HE.out
      have hrr : (w1.setCell ⟨w.heap.size + 1, 0, none⟩ (.slice (some ⟨g', 0, none⟩) (pre.length + 1) cap')).ownsRow (w.heap.size + 2) 63 2 (.slice (some ⟨g', 0, none⟩) (pre.length + 1) cap') (pre ++ [((ck, cv) : PairT)]).length ((pre ++ [((ck, cv) : PairT)]).map cellsP).flatten := by rw [ex, List.length_append]; exact hr2
      first
        | exact ⟨hT.more (by simp), ⟨⟨_, hv2, hrr⟩, hn2, hB.trans (hbel _ (by omega))⟩, rfl, by simpa using HL.out⟩
        | exact ⟨hT.more (by simp), ⟨⟨_, hv2, hrr⟩, hn2, hB.trans (hbel _ (by omega))⟩, by have := HL.out; simp; omega⟩
  case done =>
    rintro D W hD ⟨⟨⟨v, hv, hrow⟩, hn, hB⟩, hlt⟩ hK
    have cv := hv.cell
    have et : L.take (N : Int).toNat = L := List.take_of_length_le (by omega)
    have HE := Lib.hid (And.intro hlt et)
    clear hlt et
    gi_wp2
    refine ⟨by simp, .inl ⟨_, _, rfl, run_takeDeferred hK, ?_⟩⟩
    exact ⟨_, results_tmp rfl _ _ _, v, rfl, by rw [HE.out.2]; exact row_mono (b := w.heap.size + 2) (b' := w.heap.size) (ownsRow_putObj hrow _ hK rfl) (by omega), hB.trans (belowK_b (w := w) (Nat.le_refl _) W D _ _ (by simp at hD; omega) hK rfl rfl)⟩
  case stop =>
    rintro D c pre W hD ⟨t, ht⟩ ⟨⟨⟨v, hv, hrow⟩, hn, hB⟩, rfl, hN2⟩ hK
    have cv := hv.cell
    have et : pre = L.take N := by
      rw [ht, ← hN2]; simp
    have HE := Lib.hid (And.intro ht (And.intro et hN2))
    clear ht et hN2
    gi_wp2
    refine ⟨by simp, .inl ⟨_, _, rfl, run_takeDeferred hK, ?_⟩⟩
    exact ⟨_, results_tmp rfl _ _ _, v, rfl, by rw [show L.take (N : Int).toNat = pre from HE.out.2.1.symm]; exact row_mono (b := w.heap.size + 2) (b' := w.heap.size) (ownsRow_putObj hrow _ hK rfl) (by omega), hB.trans (belowK_b (w := w) (Nat.le_refl _) W D _ _ (by simp at hD; omega) hK rfl rfl)⟩
/-- What a transaction's Scan tells, as a slice. -/
theorem txPairs_any {w : World} {B s mb b1 b2 b3 tb wb : Nat} {t tw : Tr} {S : ChsVS} {cnt low : Int} {k : Nat} (h : StVS w B s mb t S cnt low k) (hk : k ≤ 100000) (hmq : MQ w wb tw) (hws : WS KSVW VSVW tw) (hlw : (prs tw).length ≤ 100000) {lo : List UInt8} {at1 : Int} (htx : TxB w tb s at1 wb) (hL : TxL w b1 b2 b3 tb lo []) (n : Int) (h1 : 1 ≤ n) (hx : (seenW (txL lo at1 S tw)).length ≤ 1000000) :
    Calls Try.prog 21 #[.func (.func 49) #[] #[.pointer (some ⟨b1, 0, none⟩), .pointer (some ⟨b2, 0, none⟩), .pointer (some ⟨b3, 0, none⟩)], .int .i64 n] w (PrsP w ((seenW (txL lo at1 S tw)).take n.toNat)) :=
  v11pairsW_any (Tw := MrgTVW) (by unfold MrgTVW; decide) (by unfold MrgTVW; decide) (by unfold MrgTVW; decide) (Ok := fun W2 => Below w.heap.size w W2) n h1 hx (enters_of Try.func49 (by kernel_rfl) rfl) (fun W hW => hW) (fun W' hW' => scanTx_any h hk hmq hws hlw htx (hL.below hW') hW' (by decide) (by decide) (by decide) (by decide) (by decide) (by decide))
end Go.Proofs.Ytcgjiddiegepkaa
