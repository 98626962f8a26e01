import Derived.Test.YtcgjiddiegepkaaTxWrH
import Derived.Deep.RegionHeld3
import Derived.Test.YtcgjiddiegepkaaRfPut
import Derived.Test.YtcgjiddiegepkaaVScanH
import Derived.Test.YtcgjiddiegepkaaTxPairs
import Derived.Test.YtcgjiddiegepkaaTxSeesM
/- txn: Scan below a hi, ranged over. -/
namespace Go.Proofs.Ytcgjiddiegepkaa
open Go.RowKit
attribute [local go_sem] Oper.semAt_some wide_fn wide_depth
abbrev rgF (n : Nat) : Value := .func (.func 82) #[] #[.pointer (some ⟨n + 5, 0, none⟩), .pointer (some ⟨n + 6, 0, none⟩), .pointer (some ⟨n + 7, 0, none⟩)]
structure Mg1H (W' : World) (n tb : Nat) (lo hi : List UInt8) : Prop where
  s1 : Boxed W' n 30 (.pointer (some ⟨tb, 0, none⟩))
  s2 : Boxed W' (n + 1) 9 (str lo)
  s3 : Boxed W' (n + 2) 9 (str hi)
structure Mg2H (W' : World) (n tb wb : Nat) (lo hi : List UInt8) : Prop where
  m1 : Mg1H W' n tb lo hi
  w1 : Boxed W' (n + 5) 72 (.pointer (some ⟨wb, 0, none⟩))
  w2 : Boxed W' (n + 6) 9 (str lo)
  w3 : Boxed W' (n + 7) 9 (str hi)
structure Mg3H (W' : World) (n tb wb : Nat) (lo hi : List UInt8) : Prop where
  m2 : Mg2H W' n tb wb lo hi
  g1 : Boxed W' (n + 8) 96 (stF n)
  g2 : Boxed W' (n + 9) 96 (rgF n)
theorem Mg1H.up {W W' : World} {n tb : Nat} {lo hi : List UInt8} (h : Mg1H W n tb lo hi) (hb : Below W.heap.size W W') : Mg1H W' n tb lo hi := ⟨boxed_up h.s1 hb, boxed_up h.s2 hb, boxed_up h.s3 hb⟩
theorem Mg2H.up {W W' : World} {n tb wb : Nat} {lo hi : List UInt8} (h : Mg2H W n tb wb lo hi) (hb : Below W.heap.size W W') : Mg2H W' n tb wb lo hi := ⟨h.m1.up hb, boxed_up h.w1 hb, boxed_up h.w2 hb, boxed_up h.w3 hb⟩
theorem Mg3H.up {W W' : World} {n tb wb : Nat} {lo hi : List UInt8} (h : Mg3H W n tb wb lo hi) (hb : Below W.heap.size W W') : Mg3H W' n tb wb lo hi := ⟨h.m2.up hb, boxed_up h.g1 hb, boxed_up h.g2 hb⟩
theorem OnW.drew {W1 W' : World} {m : Nat} (h : OnW W1 m W') : OnW W1 m W'.drew := ⟨h.1.trans ((Below.drewsN (Below.refl _ _) 1).mono h.1.size), h.2⟩
theorem stored_onH {W1 W' : World} {n tb : Nat} {lo hi : List UInt8} (h : OnW W1 n W') : Calls Try.prog 51 #[.pointer (some ⟨tb, 0, none⟩), str lo, str hi] W' fun e w' => e = .returned (stF n) ∧ Hid (OnW W1 (n + 3) w' ∧ Mg1H w' n tb lo hi) := by
  refine (txn_stored W' tb lo hi).mono ?_
  rintro e w' ⟨rfl, rfl⟩
  have a1 := h.alloc (.cells #[.pointer (some ⟨tb, 0, none⟩)] 30)
  have a2 := a1.alloc (.cells #[str lo] 9)
  have a3 := a2.alloc (.cells #[str hi] 9)
  refine ⟨by rw [h.2], Lib.hid ⟨a3, ((boxed_at h.2).alloc _).alloc _, (boxed_at a1.2).alloc _, boxed_at a2.2⟩⟩
theorem written_onH {W1 W' : World} {n tb s wb : Nat} {at1 : Int} {lo : List UInt8} {hic : UInt8} {his : List UInt8} (htx : ∀ W', Below W1.heap.size W1 W' → TxB W' tb s at1 wb) (h : Hid (OnW W1 (n + 3) W' ∧ Mg1H W' n tb lo (hic :: his))) : Calls Try.prog 52 #[.pointer (some ⟨tb, 0, none⟩), str lo, str (hic :: his)] W' fun e w' => e = .returned (rgF n) ∧ Hid (OnW W1 (n + 8) w' ∧ Mg2H w' n tb wb lo (hic :: his)) := by
  obtain ⟨h1, h2⟩ := h.out
  refine (txn_writtenH W' tb s wb at1 lo hic his (htx _ h1.1)).mono ?_
  rintro e w' ⟨rfl, hw⟩
  unfold wrHW spanWVW at hw
  have a1 := h1.alloc (.cells #[.pointer (some ⟨tb, 0, none⟩)] 30)
  have a2 := (a1.alloc (.cells #[str lo] 9)).drew
  have a3 := a2.alloc (.cells #[.pointer (some ⟨wb, 0, none⟩)] 72)
  have a4 := a3.alloc (.cells #[str lo] 9)
  have a5 := a4.alloc (.cells #[str (hic :: his)] 9)
  rw [← hw] at a5
  have hbl : Below W'.heap.size W' w' := by
    rw [hw]
    exact ((((Below.drewsN (((Below.refl _ W').alloc (Nat.le_refl _) _).alloc (by simp) _) 1).alloc (by simp; omega) _).alloc (by simp; omega) _).alloc (by simp; omega) _)
  refine ⟨by rw [h1.2], Lib.hid ⟨a5, h2.up hbl, ?_, ?_, ?_⟩⟩
  · rw [hw]; exact ((boxed_at a2.2).alloc _).alloc _
  · rw [hw]; exact (boxed_at a3.2).alloc _
  · rw [hw]; exact boxed_at a4.2
theorem merge_onH {W1 W' : World} {n tb wb : Nat} {lo hi : List UInt8} (h : Hid (OnW W1 (n + 8) W' ∧ Mg2H W' n tb wb lo hi)) : Calls Try.prog 50 #[stF n, rgF n] W' fun e w' => e = .returned (.func (.func 67) #[] #[.pointer (some ⟨n + 8, 0, none⟩), .pointer (some ⟨n + 9, 0, none⟩)]) ∧ Hid (OnW W1 (n + 10) w' ∧ Mg3H w' n tb wb lo hi) := by
  obtain ⟨h1, h2⟩ := h.out
  refine (merge_anyVW (va := stF n) (.inr ⟨_, _, rfl⟩) 82 #[.pointer (some ⟨n + 5, 0, none⟩), .pointer (some ⟨n + 6, 0, none⟩), .pointer (some ⟨n + 7, 0, none⟩)] W').mono ?_
  rintro e w' ⟨rfl, rfl⟩
  have a1 := h1.alloc (.cells #[stF n] 96)
  have a2 := a1.alloc (.cells #[rgF n] 96)
  refine ⟨by rw [h1.2], Lib.hid ⟨a2, (h2.up (below_alloc W' _)).up (below_alloc _ _), (boxed_at h1.2).alloc _, boxed_at a1.2⟩⟩
/-- What a transaction sees below a hi, as Merge has it. -/
def txLH (lo hi : List UInt8) (at1 : Int) (S : ChsVS) (tw : Tr) : List (Value × Value) := mrgL ((scanL lo at1 (cutS lo hi S)).map stW) (btwVW (str lo) (str hi) tw)
set_option maxRecDepth 100000 in
set_option maxHeartbeats 8000000 in
theorem scanTxH_any {Wr : TypeId → Prop} {w W : World} {B s mb b1 b2 b3 tb wb : Nat} {t tw : Tr} {S : ChsVS} {cnt low : Int} {k : Nat} (h : StVS w B s mb t S cnt low k) (hk : k ≤ 100000) (hmq : MQ w wb tw) (hws : WS KSVW VSVW tw) (hlw : (prs tw).length ≤ 100000) (hrs : Ris (prs tw)) {lo : List UInt8} {hic : UInt8} {his : List UInt8} {at1 : Int} (htx : TxB w tb s at1 wb) (hL : TxL W b1 b2 b3 tb lo (hic :: his)) (hW : Below w.heap.size w W)
    (hw1 : ¬ Wr 126) (hw2 : ¬ Wr 129) (hw3 : ¬ Wr 109) (hw4 : ¬ Wr 58) (hw5 : ¬ Wr 94) (hw6 : ¬ Wr 9) :
    SeqsW MrgTVW Try.prog 49 #[.pointer (some ⟨b1, 0, none⟩), .pointer (some ⟨b2, 0, none⟩), .pointer (some ⟨b3, 0, none⟩)] (fun p : PairT => #[str p.1, str p.2]) (fun W2 => Below w.heap.size w W2) Wr (seenW (txLH lo (hic :: his) at1 S tw)) W := by
  intro l J Jx hJ hJx hOk hY h0
  obtain ⟨xs, hxs⟩ : ∃ xs, xs = txLH lo (hic :: his) at1 S tw := ⟨_, rfl⟩
  rw [← hxs] at hY ⊢
  obtain ⟨W1, hW1⟩ : ∃ W1, W1 = (W.alloc (.cells #[.func (.yield l) #[] #[]] 94)).drew := ⟨_, rfl⟩
  have l1 : Below W.heap.size W W1 := by rw [hW1]; exact Below.drewsN (below_alloc W _) 1
  have hz1 : W1.heap.size = W.heap.size + 1 := by rw [hW1]; simp
  have lw1 : Below w.heap.size w W1 := hW.trans (l1.mono hW.size)
  have bY : Boxed W1 W.heap.size 94 (.func (.yield l) #[] #[]) := by rw [hW1]; exact Boxed.new W 94 (.func (.yield l) #[] #[])
  obtain ⟨n, hn⟩ : ∃ n, n = W.heap.size + 1 := ⟨_, rfl⟩
  have HB0 : Hid (OnW W1 n W1) := Lib.hid ⟨Below.refl _ _, by rw [hn]; exact hz1⟩
  have HTX : Hid (∀ W', Below W1.heap.size W1 W' → TxB W' tb s at1 wb) := Lib.hid (fun W' hb => htx.below (lw1.trans (hb.mono lw1.size)))
  have HS : Hid (∀ W', Below W1.heap.size W1 W' → W'.cell? ⟨b1, 0, none⟩ = some (.pointer (some ⟨tb, 0, none⟩)) ∧ W'.cell? ⟨b2, 0, none⟩ = some (str lo) ∧ W'.cell? ⟨b3, 0, none⟩ = some (str (hic :: his))) := Lib.hid (fun W' hb => by
    obtain ⟨q1, q2, q3⟩ := (hL.below l1).below hb
    exact ⟨q1, q2, q3⟩)
  refine (callsIn_wide (n := 9)).1 ?_
  refine callsIn_of_wp_marks Try.func49 rfl trivial ?_ rfl
  simp only [Try.ntmps49, List.size_toArray, List.length_cons, List.length_nil, Nat.reduceAdd, Nat.reduceSub, Array.replicate_succ, Array.replicate_zero, List.push_toArray, List.append_toArray, List.nil_append, List.cons_append]
  gi_wp2_with fail
  refine onlyF_cut (fun a W' => a = { tmps := #[.func (.yield l) #[] #[], .pointer (some ⟨b1, 0, none⟩), .pointer (some ⟨b2, 0, none⟩), .pointer (some ⟨b3, 0, none⟩), .pointer (some ⟨W.heap.size, 0, none⟩), undef, undef, .pointer (some ⟨tb, 0, none⟩), str lo, str (hic :: his), stF n, .pointer (some ⟨tb, 0, none⟩), str lo, str (hic :: his), rgF n, .func (.func 67) #[] #[.pointer (some ⟨n + 8, 0, none⟩), .pointer (some ⟨n + 9, 0, none⟩)], undef, undef, undef, undef, undef, undef, undef, undef, undef, undef, undef, undef, undef], defers := [] } ∧ Hid (OnW W1 (n + 10) W' ∧ Mg3H W' n tb wb lo (hic :: his))) ?_ ?_
  · clear bY hz1 l1 lw1 hn
    refine wpIn_wide.2 ?_
    subst hW1
    go_region_held3 (fun W' => W'.cell? ⟨b1, 0, none⟩ = some (.pointer (some ⟨tb, 0, none⟩)) ∧ W'.cell? ⟨b2, 0, none⟩ = some (str lo) ∧ W'.cell? ⟨b3, 0, none⟩ = some (str (hic :: his)))
      (first
        | (exact HS.out _ (Below.refl _ _))
        | (exact HS.out _ HC.out.1.1)
        | go_keep)
      ((first
        | (go_at_call 51; refine Calls.mono (stored_onH HB0.out) ?_; rintro e w2 ⟨rfl, HC⟩)
        | (go_at_call 52; refine Calls.mono (written_onH HTX.out HC) ?_; rintro e w2 ⟨rfl, HC⟩)
        | (go_at_call 50; refine Calls.mono (merge_onH HC) ?_; rintro e w2 ⟨rfl, HC⟩)
        | fail))
    all_goals
      dsimp only [OnlyF]
      exact ⟨rfl, HC⟩
  · rintro a w2 ⟨rfl, HM⟩
    obtain ⟨⟨l2, hz2⟩, hmg⟩ := HM.out
    have lw2 : Below w.heap.size w w2 := lw1.trans (l2.mono (by have := lw1.size; omega))
    have bY2 : Boxed w2 W.heap.size 94 (.func (.yield l) #[] #[]) := boxed_up bY l2
    have hxa : ((scanL lo at1 (cutS lo (hic :: his) S)).map stW).length ≤ 1000000 := by
      rw [List.length_map]
      have := List.length_filterMap_le (scan1 lo at1) (cutS lo (hic :: his) S)
      have h2 : (cutS lo (hic :: his) S).length ≤ S.length := List.length_filter_le _ _
      have := h.hk.2.1
      unfold scanL; omega
    have ebt := btwVW_filter ordVW (K := KSVW) (V := VSVW) ⟨lo, rfl⟩ ⟨hic :: his, rfl⟩ hws hrs
    have hkb : ∀ p ∈ btwVW (str lo) (str (hic :: his)) tw, KSVW p.1 ∧ VSVW p.2 := fun p hp => ws_keys hws p (by rw [ebt] at hp; exact (List.mem_filter.1 hp).1)
    have hxb : (btwVW (str lo) (str (hic :: his)) tw).length ≤ 1000000 := by
      have := List.length_filter_le (fun p : Value × Value => !lessV p.1 (str lo) && lessV p.1 (str (hic :: his))) (prs tw)
      rw [ebt]; omega
    have hseq : ∀ W', Below w2.heap.size w2 W' → SeqsW MrgTVW Try.prog 67 #[.pointer (some ⟨n + 8, 0, none⟩), .pointer (some ⟨n + 9, 0, none⟩)] (fun p : Value × Value => #[p.1, p.2]) (fun W2 => Below w.heap.size w W2 ∧ W2.cell? ⟨n + 6, 0, none⟩ = some (str lo)) Wr xs W' := fun W' hW' => by
      rw [hxs]
      have hm3 := hmg.up hW'
      refine merg2_seqsVW hxa hxb (stW_kinds _) hkb (fun W3 hW3 => ?_) (enters_of Try.func82 (by kernel_rfl) rfl) (fun W3 hW3 => ?_) hm3.g1.cell hm3.g2.cell hw1 hw2 hw3 hw4
      · have hb3 := hW'.trans (hW3.mono hW'.size)
        have hm4 := hmg.up hb3
        have lw3 := lw2.trans (hb3.mono lw2.size)
        exact gather_anyVW hxa (stW_kinds _) (enters_of Try.func70 (by kernel_rfl) rfl) (fun W4 h4 => h4) (fun W4 h4 => storedH_any (h.below lw3) hk (htx.below lw3) ⟨hm4.m2.m1.s1.cell, hm4.m2.m1.s2.cell, hm4.m2.m1.s3.cell⟩ h4 (by decide) (by decide) (by decide) (by decide) (by decide))
      · have hb3 := hW'.trans (hW3.mono hW'.size)
        have hm4 := hmg.up hb3
        exact fun l J Jx hJ hJx hOk => spans2VW_any hmq hws ⟨lo, rfl⟩ ⟨hic :: his, rfl⟩ hm4.m2.w1.cell hm4.m2.w2.cell hm4.m2.w3.cell (lw2.trans (hb3.mono lw2.size)) l J Jx hJ hJx (fun s2 W2 hj => NQ.of_below (hOk s2 W2 hj).1)
    have hj0 : J (seenW []) w2 := own_below hJ.plain (own_below hJ.plain h0 l1) l2
    have HXK : Hid (∀ p ∈ xs, KSVW p.1 ∧ VSVW p.2) := Lib.hid (by rw [hxs]; exact mrg_mem _ _ _ (stW_kinds _) hkb)
    have b4 := hmg.m2.w2
    have HZ := Lib.hid (And.intro hz2 hn)
    clear hW1 l1 hz1 lw1 bY l2 h htx hL HS HB0 hmq hws hmg HM hxs hxa hxb hz2 hn hkb ebt HTX
    gi_wp2_with fail
    refine range_lawA (Tw := MrgTVW) (gf := 67) (lb := #[.pointer (some ⟨n + 8, 0, none⟩), .pointer (some ⟨n + 9, 0, none⟩)]) rfl (enters_of Try.func67 (by kernel_rfl) rfl) (Wr := Wr) (xs := xs) hseq (by intro x; rfl)
      (fun pre W2 => J (seenW pre) W2 ∧ Boxed W2 W.heap.size 94 (.func (.yield l) #[] #[]) ∧ Boxed W2 (n + 6) 9 (str lo))
      (fun c _ W2 => c = .ret ∧ ∃ out, (∃ t', seenW xs = out ++ t') ∧ Jx out W2)
      (OwnFromT.and ?ownj (OwnFromT.and (boxed_ownT (Tw := MrgTVW) _ _ (fun _ : List (Value × Value) => .func (.yield l) #[] #[]) (by unfold MrgTVW; decide) |>.from _) (boxed_ownT (Tw := MrgTVW) _ _ (fun _ : List (Value × Value) => str lo) (by unfold MrgTVW; decide) |>.from _))) (fun c => ?ownx) ⟨hj0, bY2, b4⟩ (fun pre W2 h => ⟨hOk _ _ h.1, h.2.2.cell⟩)
      (fun x b => { tmps := #[.func (.yield l) #[] #[], .pointer (some ⟨b1, 0, none⟩), .pointer (some ⟨b2, 0, none⟩), .pointer (some ⟨b3, 0, none⟩), .pointer (some ⟨W.heap.size, 0, none⟩), x.1, .pointer (some ⟨b, 0, none⟩), .pointer (some ⟨tb, 0, none⟩), str lo, str (hic :: his), stF n, .pointer (some ⟨tb, 0, none⟩), str lo, str (hic :: his), rgF n, .func (.func 67) #[] #[.pointer (some ⟨n + 8, 0, none⟩), .pointer (some ⟨n + 9, 0, none⟩)], x.1, x.2, undef, undef, undef, undef, undef, undef, undef, undef, undef, undef, undef], defers := [] }) (fun x => .cells #[wA x.2, wB x.2, wC x.2] 58) ?assign ?body ?done ?stop
    case ownj =>
      rintro s' X Y row hj hg hr
      exact hJ _ _ _ _ hj hg (fun r e => ⟨by have := (hr r e).1; have := HZ.out; omega, (hr r e).2⟩)
    case ownx =>
      rintro s' X Y row ⟨hc, out, ht, hj⟩ hg hr
      exact ⟨hc, out, ht, hJx _ _ _ _ hj hg (fun r e => ⟨by have := (hr r e).1; have := HZ.out; omega, (hr r e).2⟩)⟩
    case assign =>
      intro l2 x W' K hx2 hK
      obtain ⟨xk, xv⟩ := x
      obtain ⟨⟨kx, hkx⟩, ⟨ya, yb, yc, hyv⟩⟩ := HXK.out _ hx2
      dsimp only at hkx hyv
      subst hkx hyv
      have HK := Lib.hid hK
      clear hK
      dsimp only
      gi_wp2
      exact HK.out
    case body =>
      rintro l2 pre ⟨xk, xv⟩ b W2 hl2 hbl hbo ⟨hj, hby, hb4⟩ ⟨tl, ht⟩
      obtain ⟨⟨key, rfl⟩, ⟨ya, yb, yc, rfl⟩⟩ := HXK.out (xk, xv) (by rw [ht]; simp)
      have hbx : W2.heap[b]? = some (.cells #[str ya, str yb, .bool yc] 58 (0, 0)) := hbo
      have z1 : W2.cell? ⟨b, 1, none⟩ = some (str yb) := cell_of_row W2 b 1 _ _ (0, 0) hbx
      have z2 : W2.cell? ⟨b, 2, none⟩ = some (.bool yc) := cell_of_row W2 b 2 _ _ (0, 0) hbx
      have cY : W2.cell? ⟨W.heap.size, 0, none⟩ = some (.func (.yield l) #[] #[]) := hby.cell
      have hsn := seenW_snoc pre (str key, .agg #[str ya, str yb, .bool yc])
      rw [decW_eq] at hsn
      have hst : seenW xs = seenW pre ++ ((if yc then none else some (key, yb)).toList ++ seenW tl) := by
        rw [ht, show (str key, Value.agg #[str ya, str yb, .bool yc]) :: tl = [(str key, Value.agg #[str ya, str yb, .bool yc])] ++ tl from rfl, ← List.append_assoc, seenW_app, hsn, List.append_assoc]
      clear hbo hbx ht hseq hj0 bY2 b4
      dsimp only
      cases yc with
      | true =>
        have HH := Lib.hid (And.intro hsn (And.intro hj (And.intro hby hb4)))
        clear hsn hst hj hby hb4
        gi_wp2_with fail
        obtain ⟨e1, e2, e3, e4⟩ := HH.out
        exact ⟨KT.refl _ _ _, by rw [e1]; simpa using e2, e3, e4⟩
      | false =>
        have hY1 := hY (seenW pre) (key, yb) W2 hj ⟨seenW tl, by rw [hst]; rfl⟩ 6
        obtain ⟨fn, tmps, assign, body, hy, hR⟩ := hY1
        have HH := Lib.hid (And.intro hsn (And.intro hst (And.intro hby hb4)))
        dsimp only at hy hR
        clear hsn hst hj hby hb4
        gi_wp2_with (refine hR.mono ?_; clear hR; rintro e W4 ⟨hk, ⟨rfl, hj4⟩ | ⟨rfl, hx4⟩⟩)
        · obtain ⟨e1, e2, e3, e4⟩ := HH.out
          have hz := HZ.out
          exact ⟨hk.more (by omega), by rw [e1]; exact hj4, hk.box e3 (Nat.le_refl _) hw5, hk.box e4 (by omega) hw6⟩
        · obtain ⟨e1, e2, e3, e4⟩ := HH.out
          have hz := HZ.out
          exact ⟨hk.more (by omega), rfl, _, ⟨seenW tl, by rw [e2, ← List.append_assoc]; rfl⟩, hx4⟩
    case done =>
      rintro D W2 hD ⟨hj, _, _⟩ hK
      gi_wp2
      refine ⟨by simp, .inl ⟨_, _, rfl, run_takeDeferred hK, ?_⟩⟩
      exact ⟨_, results_none rfl _ _ _, ⟨_, rfl⟩, .inl (hJ.plain.putObj _ hj (by have := HZ.out; omega) hK rfl)⟩
    case stop =>
      rintro D c pre W2 hD hx ⟨rfl, out, ht, hj⟩ hK
      gi_wp2
      refine ⟨by simp, .inl ⟨_, _, rfl, run_takeDeferred hK, ?_⟩⟩
      exact ⟨_, results_none rfl _ _ _, ⟨_, rfl⟩, .inr ⟨out, ht, hJx.plain.putObj _ hj (by have := HZ.out; omega) hK rfl⟩⟩
end Go.Proofs.Ytcgjiddiegepkaa

/- hblref11's Count, Scan. -/
namespace Go.Proofs.Ytcgjiddiegepkaa
open Go.RowKit
section
variable {W : World} {B b : Nat} {vo : Value} {R : List RRow} {low : Int}
theorem tot_takeR (R : List RRow) (i : Nat) (h : i < R.length) : totC (chR (R.take (i + 1))) = totC (chR (R.take i)) + R[i].2.2.length := by
  rw [List.take_add_one, List.getElem?_eq_getElem h]
  simp only [totC, chR, List.map_append, List.sum_append, Option.toList, List.map_cons, List.map_nil, List.sum_cons, List.sum_nil, Nat.add_zero]
theorem tot_leR (R : List RRow) (i : Nat) : totC (chR (R.take i)) ≤ totC (chR R) := by
  have : totC (chR R) = totC (chR (R.take i)) + totC (chR (R.drop i)) := by
    conv => lhs; rw [← List.take_append_drop i R]
    simp only [totC, chR, List.map_append, List.sum_append]
  omega
theorem filter_mid {Y : Type} (f : Y → Bool) (C : List Y) (p i : Nat) (hpi : p ≤ i) (h1 : ∀ j (h : j < C.length), j < p → f C[j] = false) (h2 : ∀ j (h : j < C.length), p ≤ j → j < i → f C[j] = true) (h3 : ∀ j (h : j < C.length), i ≤ j → f C[j] = false) : C.filter f = (C.take i).drop p := by
  have e : C = C.take p ++ ((C.take i).drop p ++ C.drop i) := by
    have e1 : (C.take i).take p = C.take p := by rw [List.take_take]; congr 1; omega
    rw [← List.append_assoc, ← e1, List.take_append_drop, List.take_append_drop]
  have f1 : (C.take p).filter f = [] := by
    rw [List.filter_eq_nil_iff]
    intro x hx
    obtain ⟨j, hj, rfl⟩ := List.mem_iff_getElem.1 hx
    have hj2 := hj
    rw [List.length_take] at hj2
    rw [List.getElem_take, h1 j (by omega) (by omega)]; simp
  have f2 : ((C.take i).drop p).filter f = (C.take i).drop p := by
    rw [List.filter_eq_self]
    intro x hx
    obtain ⟨j, hj, rfl⟩ := List.mem_iff_getElem.1 hx
    have hj2 := hj
    rw [List.length_drop, List.length_take] at hj2
    rw [List.getElem_drop, List.getElem_take]
    exact h2 (p + j) (by omega) (by omega) (by omega)
  have f3 : (C.drop i).filter f = [] := by
    rw [List.filter_eq_nil_iff]
    intro x hx
    obtain ⟨j, hj, rfl⟩ := List.mem_iff_getElem.1 hx
    have hj2 := hj
    rw [List.length_drop] at hj2
    rw [List.getElem_drop, h3 (i + j) (by omega) (by omega)]; simp
  conv => lhs; rw [e]
  rw [List.filter_append, List.filter_append, f1, f2, f3]
  simp
def hiB (hi k : List UInt8) : Bool := hi == [] || Op.bytesLess k hi
/-- What is scanned from lo on and below hi. -/
def scanH (lo hi : List UInt8) (at1 : Int) (C : ChC) : List PairT := scanC at1 (C.filter (fun p => !Op.bytesLess p.1 lo && hiB hi p.1))
theorem scan_cut {R : List RRow} {lo hi : List UInt8} {at1 : Int} {p i : Nat} (hr : RisB (chR R)) (hp : PlaceB lo (chR R) p) (hpi : p ≤ i) (hi1 : i ≤ R.length) (h2 : ∀ j (h : j < R.length), p ≤ j → j < i → hiB hi R[j].1 = true) (h3 : ∀ h : i < R.length, hiB hi R[i].1 = false) : scanH lo hi at1 (chR R) = scanC at1 ((chR R).take i |>.drop p) := by
  unfold scanH
  rw [filter_mid _ _ p i hpi]
  · intro j h hj
    rw [hp.lo j h hj]; rfl
  · intro j h hj hj2
    have h' : j < R.length := by rwa [chR_len] at h
    rw [hp.hi j h hj, chR_key h h', h2 j h' hj hj2]; rfl
  · intro j h hj
    have h' : j < R.length := by rwa [chR_len] at h
    have hi' : i < R.length := by omega
    have e := h3 hi'
    rw [chR_key h h']
    have : hiB hi R[j].1 = false := by
      unfold hiB at e ⊢
      rw [Bool.or_eq_false_iff] at e ⊢
      refine ⟨e.1, ?_⟩
      by_cases q : i = j
      · subst q; exact e.2
      · cases h4 : Op.bytesLess R[j].1 hi with
        | false => rfl
        | true =>
          have := bl_tr _ _ _ (rs_lt hr (show i < j by omega) h') h4
          rw [e.2] at this; cases this
    rw [this, Bool.and_false]
theorem scan_snoc {R : List RRow} {at1 : Int} {p i : Nat} (hpi : p ≤ i) (hi : i < R.length) : scanC at1 (((chR R).take (i + 1)).drop p) = scanC at1 (((chR R).take i).drop p) ++ ((seenVS R[i].2.2 at1).map (fun r => (R[i].1, r))).toList := by
  have h' : i < (chR R).length := by rw [chR_len]; exact hi
  have e : ((chR R).take (i + 1)).drop p = ((chR R).take i).drop p ++ [(chR R)[i]] := by
    rw [List.take_add_one, List.getElem?_eq_getElem h', List.drop_append_of_le_length (by rw [List.length_take]; omega)]
    rfl
  rw [e]
  unfold scanC
  rw [List.filterMap_append]
  congr 1
  have e2 : (chR R)[i] = (R[i].1, R[i].2.2) := by simp [chR]
  rw [e2]
  cases h : seenVS R[i].2.2 at1 <;> simp [h]
theorem scanC_len (at1 : Int) (C : ChC) : (scanC at1 C).length ≤ C.length := List.length_filterMap_le _ _
set_option maxRecDepth 100000 in
set_option maxHeartbeats 8000000 in
theorem rscan_any {W : World} {B b : Nat} {vo : Value} {R : List RRow} {low : Int} (h : RS W B b vo R low) (hn : R.length ≤ 1000000) (hc : ∀ r ∈ R, RisT (timesVS r.2.2) ∧ r.2.2.length ≤ 1000000 ∧ ∀ x ∈ r.2.2, x.2.2 = true → x.2.1 = []) (lo hi : List UInt8) (t : Int) :
    Calls Try.prog 53 #[.pointer (some ⟨b, 0, none⟩), str lo, str hi, .int .i64 t] W (PrsP W (scanH lo hi t (chR R))) := by
  have CF := Lib.hid (rfind_any h hn lo)
  obtain ⟨a, cap, rfl⟩ := h.form
  have HS := Lib.hid h
  have HC := Lib.hid hc
  obtain ⟨i0, hinf, hz0, hz1, hz2⟩ := info_parts infoPair
  have HQ : Hid (hi = [] ∨ ∃ c s, hi = c :: s) := Lib.hid (by cases hi with | nil => exact .inl rfl | cons c s => exact .inr ⟨c, s, rfl⟩)
  clear h hc
  go_enter Try.func53, Try.ntmps53
  go_wp2_with fail
  refine CF.out.mono ?_
  rintro e w1 ⟨p, zb, rfl, hp, hz, hb⟩
  have HP := Lib.hid hp
  have hpl : p ≤ R.length := by have := hp.le; rwa [chR_len] at this
  have HB1 := Lib.hid hb
  clear hp hz hb CF
  go_wp2_with fail
  go_loopw [9, 10] (fun vo vi wr => ∃ i : Nat, p ≤ i ∧ i ≤ R.length ∧ vi = .int .i64 (i : Int) ∧ Hid (∃ L, L = scanC t (((chR R).take i).drop p) ∧ wr.ownsRow W.heap.size 63 2 vo L.length (L.map cellsP).flatten ∧ L.length ≤ R.length ∧ Below W.heap.size W wr) ∧ Hid (∀ j (h : j < R.length), p ≤ j → j < i → hiB hi R[j].1 = true)) (fun _ vi _ => R.length - (intOf vi).toNat)
  case atStart => exact ⟨p, Nat.le_refl _, hpl, rfl, Lib.hid ⟨[], by simp [scanC], World.ownsRow_nil _ _ _ _, by simp, HB1.out⟩, Lib.hid (fun j _ h1 h2 => absurd h2 (by omega))⟩
  case round =>
    obtain ⟨i, hpi, hil, rfl, HI, HU⟩ := hrel
    obtain ⟨L, hL, hrow, hLl, hbel⟩ := HI.out
    have HL := Lib.hid hL
    have HH := Lib.hid (And.intro hrow (And.intro hLl hbel))
    have HSr := Lib.hid (HS.out.below hbel)
    obtain ⟨s0, _, _, _⟩ := HSr.out.cells
    clear hL hrow hLl hbel HI
    by_cases hlt : i < R.length
    · have g1 : (i : Int) < (R.length : Int) := by omega
      have g1d : decide ((i : Int) < (R.length : Int)) = true := by simp; omega
      have g3 : (0 : Int) ≤ (i : Int) := by omega
      obtain ⟨g, cap', ha, c0, c1⟩ := HSr.out.get hlt
      simp only [Value.slice.injEq, true_and] at ha
      obtain ⟨rfl, rfl⟩ := ha
      obtain ⟨y, hy⟩ : ∃ y, y = R[i].1 := ⟨_, rfl⟩
      obtain ⟨u, hu⟩ : ∃ u, u = R[i].2.1 := ⟨_, rfl⟩
      obtain ⟨sv, hsv⟩ : ∃ sv, sv = seenVS R[i].2.2 t := ⟨_, rfl⟩
      rw [← hy] at c0
      rw [← hu] at c1
      have CS := Lib.hid (rseen_any R[i].2.1 R[i].2.2 t wr (HSr.out.ch R[i] (List.getElem_mem hlt)).1 (HC.out R[i] (List.getElem_mem hlt)).1 (HC.out R[i] (List.getElem_mem hlt)).2.1 (HC.out R[i] (List.getElem_mem hlt)).2.2)
      rw [← hu, ← hsv] at CS
      have HSN := Lib.hid (scan_snoc (at1 := t) hpi hlt)
      rw [← hsv, ← hy, ← HL.out] at HSN
      have HY := Lib.hid hy
      have w2 : IntKind.i64.wrap ((i : Int) + 1) = (i : Int) + 1 := IntWalk.i64_in _ ⟨by omega, by omega⟩
      clear hy hu hsv
      rcases HQ.out with rfl | ⟨hc, hs, rfl⟩
      · have HKY : Hid (hiB [] y = true) := Lib.hid rfl
        have HU2 : Hid (∀ j (h : j < R.length), p ≤ j → j < i + 1 → hiB [] R[j].1 = true) := Lib.hid (fun j h h1 h2 => by
        by_cases q : j = i
        · subst q; rw [← HY.out]; exact HKY.out
        · exact HU.out j h h1 (by omega))
        go_wp2_with fail
        refine CS.out.mono ?_
        rintro e w5 ⟨he, hb5⟩
        have HSr5 := Lib.hid (HSr.out.below hb5)
        obtain ⟨s5, _, _, _⟩ := HSr5.out.cells
        obtain ⟨g', cap', ha, c5, _⟩ := HSr5.out.get hlt
        simp only [Value.slice.injEq, Option.some.injEq, Addr.mk.injEq, and_true, true_and] at ha
        obtain ⟨rfl, rfl⟩ := ha
        rw [← HY.out] at c5
        have HR5 := Lib.hid (And.intro (owns_below HH.out.1 hb5 (Nat.le_refl _)) (And.intro HH.out.2.1 (HH.out.2.2.trans (hb5.mono HH.out.2.2.size))))
        clear hb5 CS s0 c0 c1 HH HSr HSr5
        cases sv with
        | none =>
          obtain rfl : e = .returned (.tuple #[str [], .bool false]) := he
          go_wp2_with fail
          go_roundw
          case rel => exact ⟨i + 1, by omega, by omega, by go_num, Lib.hid ⟨L, by rw [HSN.out]; simp, HR5.out⟩, HU2⟩
          case measure => simp [intOf]; omega
        | some sx =>
          obtain rfl : e = .returned (.tuple #[str sx, .bool true]) := he
          go_wp2_with (at_builtin; refine hold ?_)
          intro _
          refine wpList_appendF (by rfl) _ _ 43 (by rfl) W.heap.size 63 i0 _ 2 32 Try.underlying43 hinf hz0 hz1 hz2 rfl (by decide) u9 L.length _ (by rfl) (World.ownsRow.alloc HR5.out.1 _) (.slice (some ⟨w5.heap.size, 0, none⟩) 1 1) [cellsP (y, sx)] (by simp [cellsP]) (by simp [cellsP, Value.oneCell']) (by rfl) (RdF.lit [cellsP (y, sx)] (by simp [cellsP]) (heap_alloc_new _ _) rfl (by simp)) (fun c h => by cases h) (by have := HR5.out.2.1; simp [maxLen]; omega) (by have := HR5.out.2.1; simp; omega) (by have := HR5.out.2.2.size; simp; omega) ?_
          intro v7 w7 ho7 hg7
          have HN : Hid (∃ L, L = scanC t (((chR R).take (i + 1)).drop p) ∧ w7.ownsRow W.heap.size 63 2 v7 L.length (L.map cellsP).flatten ∧ L.length ≤ R.length ∧ Below W.heap.size W w7) := Lib.hid ⟨L ++ [(y, sx)], by rw [HSN.out]; simp, by simpa using ho7, by rw [show L ++ [(y, sx)] = scanC t (((chR R).take (i + 1)).drop p) by rw [HSN.out]; simp]; refine Nat.le_trans (scanC_len _ _) ?_; rw [List.length_drop, List.length_take, chR_len]; omega, (HR5.out.2.2.alloc HR5.out.2.2.size _).grown hg7 (by have := HR5.out.2.2.size; simp; omega) (fun j ej => (World.ownsRow.lt HR5.out.1 j ej).1)⟩
          clear ho7 hg7 s5 c5 HR5
          go_wp2_with fail
          go_roundw
          case rel => exact ⟨i + 1, by omega, by omega, by go_num, HN, HU2⟩
          case measure => simp [intOf]; omega
      · cases hl : Op.bytesLess y (hc :: hs) with
        | true =>
          have HKY : Hid (hiB (hc :: hs) y = true) := Lib.hid (by unfold hiB; rw [hl, Bool.or_true])
          have HU2 : Hid (∀ j (h : j < R.length), p ≤ j → j < i + 1 → hiB (hc :: hs) R[j].1 = true) := Lib.hid (fun j h h1 h2 => by
          by_cases q : j = i
          · subst q; rw [← HY.out]; exact HKY.out
          · exact HU.out j h h1 (by omega))
          go_wp2_with fail
          refine CS.out.mono ?_
          rintro e w5 ⟨he, hb5⟩
          have HSr5 := Lib.hid (HSr.out.below hb5)
          obtain ⟨s5, _, _, _⟩ := HSr5.out.cells
          obtain ⟨g', cap', ha, c5, _⟩ := HSr5.out.get hlt
          simp only [Value.slice.injEq, Option.some.injEq, Addr.mk.injEq, and_true, true_and] at ha
          obtain ⟨rfl, rfl⟩ := ha
          rw [← HY.out] at c5
          have HR5 := Lib.hid (And.intro (owns_below HH.out.1 hb5 (Nat.le_refl _)) (And.intro HH.out.2.1 (HH.out.2.2.trans (hb5.mono HH.out.2.2.size))))
          clear hb5 CS s0 c0 c1 HH HSr HSr5
          cases sv with
          | none =>
            obtain rfl : e = .returned (.tuple #[str [], .bool false]) := he
            go_wp2_with fail
            go_roundw
            case rel => exact ⟨i + 1, by omega, by omega, by go_num, Lib.hid ⟨L, by rw [HSN.out]; simp, HR5.out⟩, HU2⟩
            case measure => simp [intOf]; omega
          | some sx =>
            obtain rfl : e = .returned (.tuple #[str sx, .bool true]) := he
            go_wp2_with (at_builtin; refine hold ?_)
            intro _
            refine wpList_appendF (by rfl) _ _ 43 (by rfl) W.heap.size 63 i0 _ 2 32 Try.underlying43 hinf hz0 hz1 hz2 rfl (by decide) u9 L.length _ (by rfl) (World.ownsRow.alloc HR5.out.1 _) (.slice (some ⟨w5.heap.size, 0, none⟩) 1 1) [cellsP (y, sx)] (by simp [cellsP]) (by simp [cellsP, Value.oneCell']) (by rfl) (RdF.lit [cellsP (y, sx)] (by simp [cellsP]) (heap_alloc_new _ _) rfl (by simp)) (fun c h => by cases h) (by have := HR5.out.2.1; simp [maxLen]; omega) (by have := HR5.out.2.1; simp; omega) (by have := HR5.out.2.2.size; simp; omega) ?_
            intro v7 w7 ho7 hg7
            have HN : Hid (∃ L, L = scanC t (((chR R).take (i + 1)).drop p) ∧ w7.ownsRow W.heap.size 63 2 v7 L.length (L.map cellsP).flatten ∧ L.length ≤ R.length ∧ Below W.heap.size W w7) := Lib.hid ⟨L ++ [(y, sx)], by rw [HSN.out]; simp, by simpa using ho7, by rw [show L ++ [(y, sx)] = scanC t (((chR R).take (i + 1)).drop p) by rw [HSN.out]; simp]; refine Nat.le_trans (scanC_len _ _) ?_; rw [List.length_drop, List.length_take, chR_len]; omega, (HR5.out.2.2.alloc HR5.out.2.2.size _).grown hg7 (by have := HR5.out.2.2.size; simp; omega) (fun j ej => (World.ownsRow.lt HR5.out.1 j ej).1)⟩
            clear ho7 hg7 s5 c5 HR5
            go_wp2_with fail
            go_roundw
            case rel => exact ⟨i + 1, by omega, by omega, by go_num, HN, HU2⟩
            case measure => simp [intOf]; omega
        | false =>
          have HKY : Hid (hiB (hc :: hs) y = false) := Lib.hid (by unfold hiB; rw [hl]; rfl)
          have HE := Lib.hid (scan_cut (at1 := t) HS.out.rs HP.out hpi (by omega) HU.out (fun _ => by rw [← HY.out]; exact HKY.out))
          go_wp2_with fail
          go_ret
          exact ⟨u9, by first | rfl | go_num, by rw [HE.out, ← HL.out]; exact HH.out.1, HH.out.2.2⟩
    · obtain rfl : i = R.length := by omega
      have g1 : ¬ (R.length : Int) < (R.length : Int) := by omega
      have g1d : decide ((R.length : Int) < (R.length : Int)) = false := by simp
      have HE := Lib.hid (scan_cut (at1 := t) HS.out.rs HP.out hpi (by omega) HU.out (fun h => absurd h (by omega)))
      go_wp2_with fail
      go_ret
      exact ⟨u9, by first | rfl | go_num, by rw [HE.out, ← HL.out]; exact HH.out.1, HH.out.2.2⟩
end
end Go.Proofs.Ytcgjiddiegepkaa

/- What is scanned, told by the chains. -/
namespace Go.Proofs.Ytcgjiddiegepkaa
open Go.RowKit
theorem scanL_cut (lo hi : List UInt8) (at1 : Int) (f : List UInt8 → Bool) (S : ChsVS) (hf : ∀ k, hiB hi k = f k) : scanL lo at1 (S.filter (fun x => !Op.bytesLess x.1 lo && f x.1)) = scanH lo hi at1 (chsVS S) := by
  unfold scanL scanH scanC chsVS
  rw [List.filterMap_filter, List.filterMap_filter, List.filterMap_map]
  congr 1
  funext x
  simp only [Function.comp, scan1, hf]
  cases Op.bytesLess x.1 lo <;> cases f x.1 <;> simp
theorem scanL_hi (lo : List UInt8) (c : UInt8) (s : List UInt8) (at1 : Int) (S : ChsVS) : scanL lo at1 (cutS lo (c :: s) S) = scanH lo (c :: s) at1 (chsVS S) := scanL_cut lo (c :: s) at1 (fun k => Op.bytesLess k (c :: s)) S (fun k => by unfold hiB; rfl)
theorem scanL_all (lo : List UInt8) (at1 : Int) (S : ChsVS) : scanL lo at1 S = scanH lo [] at1 (chsVS S) := by
  rw [← scanL_cut lo [] at1 (fun _ => true) S (fun k => rfl)]
  unfold scanL
  rw [List.filterMap_filter]
  congr 1
  funext x
  unfold scan1
  cases Op.bytesLess x.1 lo <;> simp
theorem scanH_len (lo hi : List UInt8) (at1 : Int) (C : ChC) : (scanH lo hi at1 C).length ≤ C.length := Nat.le_trans (scanC_len _ _) (List.length_filter_le _ _)
theorem scannedH {X W : World} {K : Nat → Prop} {s mb : Nat} {C : ChC} {low : Int} {n : Nat} (h : SG X K W s mb C low n) (hn : n ≤ 10000) (lo hi : List UInt8) (at1 m : Int) (hm : 1 ≤ m) :
    Calls Try.prog 21 #[.func (.func 56) #[] #[.pointer (some ⟨W.heap.size, 0, none⟩), .pointer (some ⟨W.heap.size + 1, 0, none⟩), .pointer (some ⟨W.heap.size + 2, 0, none⟩), .pointer (some ⟨W.heap.size + 3, 0, none⟩)], .int .i64 m] (scanW W s lo hi at1) (PrsP (scanW W s lo hi at1) ((scanH lo hi at1 C).take m.toNat)) := by
  obtain ⟨t, S, h1, h2, h3, h4, h5⟩ := h
  obtain ⟨hb, hbl⟩ := scanW_box W s lo hi at1
  have hl : (scanH lo hi at1 C).length ≤ 1000000 := by
    have e1 := scanH_len lo hi at1 C
    have e2 : C.length = S.length := by rw [← h2]; simp [chsVS]
    have := h1.hk.2.1
    omega
  have hs : ∀ W', Below (scanW W s lo hi at1).heap.size (scanW W s lo hi at1) W' → Seqs Try.prog 56 #[.pointer (some ⟨W.heap.size, 0, none⟩), .pointer (some ⟨W.heap.size + 1, 0, none⟩), .pointer (some ⟨W.heap.size + 2, 0, none⟩), .pointer (some ⟨W.heap.size + 3, 0, none⟩)] (fun p : PairT => #[str p.1, str p.2]) (fun W2 => Below (scanW W s lo hi at1).heap.size (scanW W s lo hi at1) W2) (fun T => T = 63) (scanH lo hi at1 C) W' := fun W' hW' => by
    rw [← h2]
    cases hi with
    | nil => rw [← scanL_all]; exact scanAll_any (h1.below hbl) (by omega) hb hW' (by decide)
    | cons c q => rw [← scanL_hi]; exact scanHi_any (h1.below hbl) (by omega) hb hW' (by decide)
  exact v11pairs_any (Ok := fun W2 => Below (scanW W s lo hi at1).heap.size (scanW W s lo hi at1) W2) m hm hl (enters_of Try.func56 (by kernel_rfl) rfl) (fun W' h => h) hs
theorem scanH_read {W W' : World} {s : Nat} {lo hi : List UInt8} {at1 : Int} {L : List PairT} {e : Ending} (h : PrsP (scanW W s lo hi at1) L e W') : ∃ v, e = .returned v ∧ RdP W' v L ∧ Below W.heap.size W W' := by
  obtain ⟨v, rfl, h1, h2⟩ := h
  have hbl := (scanW_box W s lo hi at1).2
  refine ⟨v, rfl, RdF.of_row (fun r hr => ?_) (by simpa using h1), hbl.trans (h2.mono hbl.size)⟩
  obtain ⟨p, _, rfl⟩ := List.mem_map.1 hr
  rfl
end Go.Proofs.Ytcgjiddiegepkaa

/- hbllaw11.Pairs over Scan below a hi. -/
namespace Go.Proofs.Ytcgjiddiegepkaa
open Go.RowKit
/-- What a transaction's Scan tells, as a slice. -/
theorem txPairsH_any {w : World} {B s mb b1 b2 b3 tb wb : Nat} {t tw : Tr} {S : ChsVS} {cnt low : Int} {k : Nat} (h : StVS w B s mb t S cnt low k) (hk : k ≤ 100000) (hmq : MQ w wb tw) (hws : WS KSVW VSVW tw) (hlw : (prs tw).length ≤ 100000) (hrs : Ris (prs tw)) {lo : List UInt8} {hic : UInt8} {his : List UInt8} {at1 : Int} (htx : TxB w tb s at1 wb) (hL : TxL w b1 b2 b3 tb lo (hic :: his)) (n : Int) (h1 : 1 ≤ n) (hx : (seenW (txLH lo (hic :: his) at1 S tw)).length ≤ 1000000) :
    Calls Try.prog 21 #[.func (.func 49) #[] #[.pointer (some ⟨b1, 0, none⟩), .pointer (some ⟨b2, 0, none⟩), .pointer (some ⟨b3, 0, none⟩)], .int .i64 n] w (PrsP w ((seenW (txLH lo (hic :: his) at1 S tw)).take n.toNat)) :=
  v11pairsW_any (Tw := MrgTVW) (by unfold MrgTVW; decide) (by unfold MrgTVW; decide) (by unfold MrgTVW; decide) (Ok := fun W2 => Below w.heap.size w W2) n h1 hx (enters_of Try.func49 (by kernel_rfl) rfl) (fun W hW => hW) (fun W' hW' => scanTxH_any h hk hmq hws hlw hrs htx (hL.below hW') hW' (by decide) (by decide) (by decide) (by decide) (by decide) (by decide))
end Go.Proofs.Ytcgjiddiegepkaa

/- What a transaction sees from lo on and below hi. -/
namespace Go.Proofs.Ytcgjiddiegepkaa
open Go.RowKit
/-- From lo on and below hi. -/
def inR (lo hi k : List UInt8) : Bool := !Op.bytesLess k lo && hiB hi k
def sawR (lo hi : List UInt8) (at1 : Int) (C : ChC) (L : OwnL) : List PairT := (sawP (scanC at1 C) L).filter (fun z => inR lo hi z.1)
theorem ris_filter {Y : Type} {l : List (List UInt8 × Y)} (h : RisB l) (f : List UInt8 → Bool) : RisB (l.filter (fun z => f z.1)) := List.Pairwise.filter _ h
theorem saw_filter {A : List PairT} {L : OwnL} (ha : RisB A) (hl : RisB L) (f : List UInt8 → Bool) : sawP (A.filter (fun z => f z.1)) (L.filter (fun z => f z.1)) = (sawP A L).filter (fun z => f z.1) := by
  refine ris_ext (ris_saw _ _ (ris_filter ha f) (ris_filter hl f)) (ris_filter (ris_saw _ _ ha hl) f) (fun z => ?_)
  rw [mem_saw _ _ (ris_filter ha f) (ris_filter hl f), List.mem_filter, mem_saw _ _ ha hl]
  unfold OwnP
  constructor
  · rintro (⟨x, hx, e1, e2, e3⟩ | ⟨hz, hn⟩)
    · obtain ⟨hx, hf⟩ := List.mem_filter.1 hx
      exact ⟨.inl ⟨x, hx, e1, e2, e3⟩, by rw [← e1]; exact hf⟩
    · obtain ⟨hz, hf⟩ := List.mem_filter.1 hz
      exact ⟨.inr ⟨hz, fun x hx e => hn x (List.mem_filter.2 ⟨hx, by rw [e]; exact hf⟩) e⟩, hf⟩
  · rintro ⟨⟨x, hx, e1, e2, e3⟩ | ⟨hz, hn⟩, hf⟩
    · exact .inl ⟨x, List.mem_filter.2 ⟨hx, by rw [e1]; exact hf⟩, e1, e2, e3⟩
    · exact .inr ⟨List.mem_filter.2 ⟨hz, hf⟩, fun x hx => hn x (List.mem_filter.1 hx).1⟩
theorem scanC_filter (at1 : Int) (f : List UInt8 → Bool) : ∀ C : ChC, scanC at1 (C.filter (fun p => f p.1)) = (scanC at1 C).filter (fun z => f z.1)
  | [] => rfl
  | p :: t => by
    have ih := scanC_filter at1 f t
    unfold scanC at ih ⊢
    cases hf : f p.1 with
    | true =>
      rw [List.filter_cons_of_pos (by simpa using hf), List.filterMap_cons, List.filterMap_cons]
      cases hs : seenVS p.2 at1 with
      | none => simpa using ih
      | some r => simp only [Option.map_some]; rw [ih, List.filter_cons_of_pos (by simpa using hf)]
    | false =>
      rw [List.filter_cons_of_neg (by simp [hf]), List.filterMap_cons]
      cases hs : seenVS p.2 at1 with
      | none => simpa using ih
      | some r => simp only [Option.map_some]; rw [ih, List.filter_cons_of_neg (by simp [hf])]
theorem scanH_eq (lo hi : List UInt8) (at1 : Int) (C : ChC) : scanH lo hi at1 C = (scanC at1 C).filter (fun z => inR lo hi z.1) := scanC_filter at1 (inR lo hi) C
theorem own_filter (g : List UInt8 → Bool) (L : OwnL) (f : Value × Value → Bool) (h : ∀ x : List UInt8 × WrT, f (pairB fW x) = g x.1) : (L.map (pairB fW)).filter f = (L.filter (fun x => g x.1)).map (pairB fW) := by
  rw [List.filter_map]
  congr 1
  apply List.filter_congr
  intro x _
  exact h x
theorem saw_lo {S : ChsVS} {tw : Tr} {L : OwnL} (lo : List UInt8) (at1 : Int) (hs : RisB (chsVS S)) (hl : RisB L) (hp : prs tw = L.map (pairB fW)) : seenW (txL lo at1 S tw) = sawR lo [] at1 (chsVS S) L := by
  unfold txL fromW sawR
  rw [hp, own_filter (inR lo []) L _ (fun x => by unfold inR hiB; simp [pairB, lessB]), scanL_all, scanH_eq, saw_plain]
  exact saw_filter (scan_ris hs) hl (inR lo [])
theorem saw_hi {S : ChsVS} {tw : Tr} {L : OwnL} (lo : List UInt8) (hic : UInt8) (his : List UInt8) (at1 : Int) (hs : RisB (chsVS S)) (hl : RisB L) (hp : prs tw = L.map (pairB fW)) (hw : WS KSVW VSVW tw) : seenW (txLH lo (hic :: his) at1 S tw) = sawR lo (hic :: his) at1 (chsVS S) L := by
  unfold txLH sawR
  rw [btwVW_filter ordVW (K := KSVW) (V := VSVW) ⟨lo, rfl⟩ ⟨hic :: his, rfl⟩ hw (by rw [hp]; exact (ris_map _ _).2 hl), hp, own_filter (inR lo (hic :: his)) L _ (fun x => by unfold inR hiB; simp [pairB, lessB]), scanL_hi, scanH_eq, saw_plain]
  exact saw_filter (scan_ris hs) hl (inR lo (hic :: his))
theorem sawR_len (lo hi : List UInt8) (at1 : Int) (C : ChC) (L : OwnL) : (sawR lo hi at1 C L).length ≤ C.length + L.length := by
  have h1 : (sawR lo hi at1 C L).length ≤ (sawP (scanC at1 C) L).length := List.length_filter_le _ _
  have h2 := saw_len at1 C L
  rw [sawT_eq] at h2
  omega
theorem sawR_all (at1 : Int) (C : ChC) (L : OwnL) : sawR [] [] at1 C L = sawP (scanC at1 C) L := by
  unfold sawR
  rw [List.filter_eq_self]
  intro z _
  unfold inR hiB
  rw [less_nil]; rfl
variable {X W : World} {s mb : Nat} {C : ChC} {low : Int} {n tb wb : Nat} {at1 : Int} {L : OwnL} {k : Nat}
theorem ttScanned (h : TT X W s mb C low n tb wb at1 L k) (hn : n ≤ 10000) (hk : k ≤ 100000) {b1 b2 b3 : Nat} {lo hi : List UInt8} (hL : TxL W b1 b2 b3 tb lo hi) (m : Int) (hm : 1 ≤ m) :
    Calls Try.prog 21 #[.func (.func 49) #[] #[.pointer (some ⟨b1, 0, none⟩), .pointer (some ⟨b2, 0, none⟩), .pointer (some ⟨b3, 0, none⟩)], .int .i64 m] W (PrsP W ((sawR lo hi at1 C L).take m.toNat)) := by
  obtain ⟨t, S, h1, h2, h3, h4, h6⟩ := h.sg
  obtain ⟨tw, m1, m2, m3⟩ := h.tx.mp
  have hkk := h.tx.hk
  have hC : C.length ≤ n := by rw [← h2]; unfold chsVS; rw [List.length_map]; exact h1.hk.2.1
  have hR := h.sg.ris.2.1
  have hll := sawR_len lo hi at1 C L
  subst h2
  cases hi with
  | nil =>
    have e := saw_lo (tw := tw) lo at1 hR h.tx.rs m3
    have := txPairs_any h1 (by omega) m1 m2 (by rw [m3, List.length_map]; omega) h.tx.box hL m hm (by rw [e]; omega)
    rw [e] at this
    exact this
  | cons c q =>
    have e := saw_hi (tw := tw) lo c q at1 hR h.tx.rs m3 m2
    have := txPairsH_any h1 (by omega) m1 m2 (by rw [m3, List.length_map]; omega) (by rw [m3]; exact (ris_map _ _).2 h.tx.rs) h.tx.box hL m hm (by rw [e]; omega)
    rw [e] at this
    exact this
theorem ttScanR (_ : TT X W s mb C low n tb wb at1 L k) (lo hi : List UInt8) : Calls Try.prog 29 #[.pointer (some ⟨tb, 0, none⟩), str lo, str hi] W fun e W' => ∃ b1, e = .returned (.func (.func 49) #[] #[.pointer (some ⟨b1, 0, none⟩), .pointer (some ⟨b1 + 1, 0, none⟩), .pointer (some ⟨b1 + 2, 0, none⟩)]) ∧ TxL W' b1 (b1 + 1) (b1 + 2) tb lo hi ∧ Below W.heap.size W W' := by
  refine (txn_scan W tb lo hi).mono ?_
  rintro e W' ⟨rfl, rfl⟩
  exact ⟨W.heap.size, rfl, txL_new W tb lo hi, (((Below.refl _ _).alloc (Nat.le_refl _) _).alloc (by simp) _).alloc (by simp; omega) _⟩
end Go.Proofs.Ytcgjiddiegepkaa
