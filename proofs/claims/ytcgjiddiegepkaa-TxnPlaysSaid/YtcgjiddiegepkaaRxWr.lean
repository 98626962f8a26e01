/- hblref11.Txn's write, Put, Delete. -/
import Derived.Test.YtcgjiddiegepkaaRxSt
import Derived.Deep.RegionHeld
import Derived.Deep.CutRange
import Derived.Deep.AppendLies
import Derived.Deep.QuietTactic
import Derived.BigQuiet
namespace Go.Proofs.Ytcgjiddiegepkaa
open Go.RowKit
variable {W : World} {B rb b : Nat} {at1 : Int} {vo : Value} {L : OwnL}
theorem rx_ahead {g cap p : Nat} (h : RT W B rb b at1 (.slice (some ⟨g, 0, none⟩) L.length cap) L) (hp : p ≤ L.length) : W.ownsRow B 58 3 (.slice (some ⟨g, 0, none⟩) p cap) p (((L.map Prod.snd).map cellsWr).take p).flatten := by
  have := row_takeF h.row hp
  rwa [flat_take 3 _ (cellsWr_len _)] at this
theorem rx_behind {g cap p : Nat} (h : RT W B rb b at1 (.slice (some ⟨g, 0, none⟩) L.length cap) L) (hp : p ≤ L.length) : RdF 3 W (.slice (if cap = p then (some ⟨g, 0, none⟩ : Option Addr) else some ⟨g, p * 3, none⟩) (L.length - p) (cap - p)) (((L.map Prod.snd).drop p).map cellsWr) := by
  have := rdf_behind (sz := 3) (p := p) (cellsWr_len (L.map Prod.snd)) (by simpa using h.row) (by simpa using hp) rfl
  simpa [List.map_drop] using this
theorem rx_ins {W : World} {g c p : Nat} {w : WrT} (hp : p ≤ L.length) (h : W.ownsRow B 58 3 (.slice (some ⟨g, 0, none⟩) (p + ((w :: (L.map Prod.snd).drop p).map cellsWr).length) c) (p + ((w :: (L.map Prod.snd).drop p).map cellsWr).length) ((((L.map Prod.snd).map cellsWr).take p).flatten ++ ((w :: (L.map Prod.snd).drop p).map cellsWr).flatten)) :
    W.ownsRow B 58 3 (.slice (some ⟨g, 0, none⟩) (L.length + 1) c) ((L.map Prod.snd).take p ++ w :: (L.map Prod.snd).drop p).length (((L.map Prod.snd).take p ++ w :: (L.map Prod.snd).drop p).map cellsWr).flatten := by
  have := ins_wr (R := L.map Prod.snd) (by simpa using hp) h
  rwa [List.length_map] at this
theorem rx_ins0 {W : World} {g c : Nat} {w : WrT} (h : W.ownsRow B 58 3 (.slice (some ⟨g, 0, none⟩) (0 + ((w :: List.drop 0 []).map cellsWr).length) c) (0 + ((w :: List.drop 0 []).map cellsWr).length) ([] ++ ((w :: List.drop 0 []).map cellsWr).flatten)) :
    W.ownsRow B 58 3 (.slice (some ⟨g, 0, none⟩) (([] : OwnL).length + 1) c) ((([] : OwnL).map Prod.snd).take 0 ++ w :: (([] : OwnL).map Prod.snd).drop 0).length (((([] : OwnL).map Prod.snd).take 0 ++ w :: (([] : OwnL).map Prod.snd).drop 0).map cellsWr).flatten := by simpa using h
theorem place_rx {key : List UInt8} (hr : RisB L) {p : Nat} (hp : p ≤ L.length) (h1 : ∀ j (h : j < L.length), j < p → Op.bytesLess L[j].1 key = true) (h2 : ∀ h : p < L.length, Op.bytesLess L[p].1 key = false) : PlaceB key L p := by
  refine ⟨hp, h1, fun j h hj => ?_⟩
  have hp' : p < L.length := by omega
  by_cases e : j = p
  · subst e; exact h2 hp'
  · cases h3 : Op.bytesLess L[j].1 key with
    | false => rfl
    | true =>
      have := bl_tr _ _ _ ((List.pairwise_iff_getElem.1 hr) p j hp' h (by omega)) h3
      rw [h2 hp'] at this; cases this
theorem frm_three {F : Nat → Prop} {W W' : World} {x : Nat} {a b c : Value} (h : W.cell? ⟨x, 0, none⟩ = some a ∧ W.cell? ⟨x, 1, none⟩ = some b ∧ W.cell? ⟨x, 2, none⟩ = some c) (hf : Frm F W W') (hn : ¬ F x) : W'.cell? ⟨x, 0, none⟩ = some a ∧ W'.cell? ⟨x, 1, none⟩ = some b ∧ W'.cell? ⟨x, 2, none⟩ = some c := by
  have e := hf.block x (World.block_lt_of_cell? W _ h.1) hn
  have k : ∀ j, W'.cell? ⟨x, j, none⟩ = W.cell? ⟨x, j, none⟩ := fun j => by simp only [World.cell?, e]
  exact ⟨(k 0).trans h.1, (k 1).trans h.2.1, (k 2).trans h.2.2⟩
theorem wrt_frm {W : World} {w : WrT} {e : Ending} {W' : World} (h : WrtP W B rb b at1 vo L w e W') : Frm (BlkT rb vo) W W' := by
  obtain ⟨_, _, _, h3, _⟩ := h
  exact h3
theorem wrC_long {w : WrT} (h : w.1 = [] ∨ 1200 < w.1.length ∨ 6000 < w.2.1.length) : wrC L w = 3 := if_pos h
theorem wrC_set {w : WrT} {p : Nat} (h : ¬ (w.1 = [] ∨ 1200 < w.1.length ∨ 6000 < w.2.1.length)) (hr : RisB L) (hP : PlaceB w.1 L p) (hp : p < L.length) (hk : L[p].1 = w.1) : wrC L w = 0 := by
  unfold wrC
  rw [if_neg h, if_neg]
  rw [getB_at w.1 hr hP, dif_pos hp, if_pos hk]
  simp
theorem wrC_new {w : WrT} {p : Nat} (h : ¬ (w.1 = [] ∨ 1200 < w.1.length ∨ 6000 < w.2.1.length)) (hr : RisB L) (hP : PlaceB w.1 L p) (hno : ¬ ∃ hp : p < L.length, L[p].1 = w.1) : wrC L w = if L.length = 1000 then 17 else 0 := by
  unfold wrC
  have hg : getB w.1 L = none := by
    rw [getB_at w.1 hr hP]
    split
    · next h1 =>
      split
      · next h2 => exact absurd ⟨h1, h2⟩ hno
      · rfl
    · rfl
  rw [if_neg h, hg]
  simp
theorem wrt_up {W3 : World} {w : WrT} {e : Ending} {W' : World} (hb : Below W.heap.size W W3) (h : WrtP W3 B rb b at1 vo L w e W') : WrtP W B rb b at1 vo L w e W' := by
  obtain ⟨h1, vo', h2, h3, h4⟩ := h
  exact ⟨h1, vo', h2, (Frm.of_below (F := BlkT rb vo) hb).trans h3 (fun _ _ h => h), fun k hk => (h4 k hk).imp id (fun h => Nat.le_trans hb.size h)⟩
set_option maxRecDepth 100000 in
set_option maxHeartbeats 16000000 in
theorem rxwrite_any (h : RT W B rb b at1 vo L) (ky y : List UInt8) (gn : Bool) (_ : ky.length ≤ 9223372036854775807) (_ : y.length ≤ 9223372036854775807) : Calls Try.prog 41 #[.pointer (some ⟨rb, 0, none⟩), .agg #[str ky, str y, .bool gn]] W (WrtP W B rb b at1 vo L (ky, y, gn)) := by
  obtain ⟨W1, hW1⟩ : ∃ W1, W1 = W.alloc (.cells #[str ky, str y, .bool gn] 58) := ⟨_, rfl⟩
  have hb1 : Below W.heap.size W W1 := by rw [hW1]; exact below_alloc _ _
  have hbx : W1.heap[W.heap.size]? = some (.cells #[str ky, str y, .bool gn] 58 (0, 0)) := by rw [hW1]; exact heap_alloc_new _ _
  obtain ⟨wx, hwx⟩ : ∃ wx, wx = W.heap.size := ⟨_, rfl⟩
  rw [← hwx] at hbx
  have HW1 : Hid (∀ W', Below W1.heap.size W1 W' → W'.cell? ⟨wx, 0, none⟩ = some (str ky) ∧ W'.cell? ⟨wx, 1, none⟩ = some (str y) ∧ W'.cell? ⟨wx, 2, none⟩ = some (.bool gn)) := Lib.hid (fun W' hb => by
    have e := box_upR hbx hb
    exact ⟨by simp [World.cell?, e], by simp [World.cell?, e], by simp [World.cell?, e]⟩)
  have HR1 := Lib.hid (h.below hb1)
  have HB1 := Lib.hid hb1
  obtain ⟨a3, c3, rfl⟩ := h.form
  have hln : L.length ≤ 1000 := h.ln
  have HRI : Hid (RisB L) := Lib.hid h.rs
  have HH := Lib.hid h
  have HXN : Hid (∀ k, BlkT rb (.slice a3 L.length c3) k → k < wx) := Lib.hid (fun k hk => by have := (HH.out.blk k hk).2; rw [hwx]; exact this)
  have HN : Hid (∀ W' c, Below W1.heap.size W1 W' → wrC L (ky, y, gn) = c → c ≠ 0 → WrtP W B rb b at1 (.slice a3 L.length c3) L (ky, y, gn) (.returned (.int .i64 c)) W') := Lib.hid (fun W' c hb hc h0 => wrtP_no HH.out hc h0 (HB1.out.trans (hb.mono HB1.out.size)))
  obtain ⟨q0, q1, q2⟩ := HW1.out W1 (Below.refl _ _)
  have q3 := HR1.out.cells.2.2.1
  clear h hb1 hbx
  go_enter Try.func41, Try.ntmps41
  go_upto_region 1 with fail
  rw [← hW1, ← hwx]
  clear hW1 hwx
  by_cases d0 : (ky.length : Int) < 1
  · have e0 : decide ((ky.length : Int) < 1) = true := decide_eq_true d0
    have HX := Lib.hid (HN.out W1 3 (Below.refl _ _) (wrC_long (.inl (List.eq_nil_of_length_eq_zero (by dsimp only; omega)))) (by decide))
    clear HN HW1 HR1 HB1 HH HRI
    go_wp2_with fail
    go_ret
    exact HX.out
  have e0 : decide ((ky.length : Int) < 1) = false := decide_eq_false d0
  by_cases d1 : (1200 : Int) < (ky.length : Int)
  · have e1 : decide ((1200 : Int) < (ky.length : Int)) = true := decide_eq_true d1
    have HX := Lib.hid (HN.out W1 3 (Below.refl _ _) (wrC_long (.inr (.inl (by dsimp only; omega)))) (by decide))
    clear HN HW1 HR1 HB1 HH HRI
    go_wp2_with fail
    go_ret
    exact HX.out
  have e1 : decide ((1200 : Int) < (ky.length : Int)) = false := decide_eq_false d1
  by_cases d2 : (6000 : Int) < (y.length : Int)
  · have e2 : decide ((6000 : Int) < (y.length : Int)) = true := decide_eq_true d2
    have HX := Lib.hid (HN.out W1 3 (Below.refl _ _) (wrC_long (.inr (.inr (by dsimp only; omega)))) (by decide))
    clear HN HW1 HR1 HB1 HH HRI
    go_wp2_with fail
    go_ret
    exact HX.out
  have e2 : decide ((6000 : Int) < (y.length : Int)) = false := decide_eq_false d2
  have HSH : Hid (¬ (ky = [] ∨ 1200 < ky.length ∨ 6000 < y.length)) := Lib.hid (by
    rintro (h | h | h)
    · rw [h] at d0; simp at d0
    · omega
    · omega)
  go_wp2_with fail
  go_loopw [5] (fun v wr => ∃ (p q : Nat), p ≤ L.length ∧ v = .int .i64 (p : Int) ∧ Hid (∀ j (h : j < L.length), j < p → Op.bytesLess L[j].1 ky = true) ∧ wr = W1.drewN q) (fun v _ => L.length - (intOf v).toNat)
  case atStart => exact ⟨0, 0, Nat.zero_le _, rfl, Lib.hid (fun _ _ h => absurd h (by omega)), rfl⟩
  case round =>
    obtain ⟨p, q, hp, rfl, HLO, rfl⟩ := hrel
    have hpl : p ≤ L.length := hp
    by_cases hlt3 : p < L.length
    · have g5 : decide ((p : Int) < (L.length : Int)) = true := decide_eq_true (by omega)
      have g5' : (p : Int) < (L.length : Int) := by omega
      have g6 : (0 : Int) ≤ (p : Int) := by omega
      obtain ⟨g, cap, he, hpc0, c0, -⟩ := HR1.out.get hlt3
      simp only [Value.slice.injEq, true_and] at he
      obtain ⟨rfl, rfl⟩ := he
      obtain ⟨yk, hyk⟩ : ∃ yk, yk = L[p].1 := ⟨_, rfl⟩
      have HYK : Hid (L[p].1 = yk) := Lib.hid hyk.symm
      rw [← hyk] at c0
      have hpc : p ≤ c3 := by omega
      clear hyk
      cases hl : Op.bytesLess yk ky with
      | true =>
        have HN2 : Hid (∀ j (h : j < L.length), j < p + 1 → Op.bytesLess L[j].1 ky = true) := Lib.hid (fun j h hj => by
          by_cases e : j = p
          · subst e; rw [HYK.out]; exact hl
          · exact HLO.out j h (by omega))
        clear HLO HYK
        go_wp2_with fail
        go_quiet (fail)
        go_wp2_with fail
        go_roundw
        case rel => exact ⟨p + 1, _, by omega, by go_num, HN2, rfl⟩
        case measure => simp [intOf]; omega
      | false =>
        have HP : Hid (PlaceB ky L p) := Lib.hid (place_rx HRI.out (by omega) HLO.out (fun h => by rw [HYK.out]; exact hl))
        clear HLO
        obtain ⟨z, hzk⟩ : ∃ z, z = (yk == ky) := ⟨_, rfl⟩
        have hzk2 := hzk.symm
        clear hzk
        cases z
        rotate_left
        · have HK : Hid (L[p].1 = ky) := Lib.hid (by rw [HYK.out]; exact beq_iff_eq.1 hzk2)
          have HZ : Hid (wrC L (ky, y, gn) = 0) := Lib.hid (wrC_set HSH.out HRI.out HP.out hlt3 HK.out)
          have hlt2 : p < L.length := hlt3
          go_wp2_with fail
          go_quiet (fail)
          go_upto_region 6 with fail
          go_quiet (fail)
          go_upto_region 7 with fail
          generalize hW3 : ((W1.drewN q).drewN _).drewN _ = W3
          have hb3 : Below W1.heap.size W1 W3 := by rw [← hW3]; exact Below.drewsN (Below.drewsN (Below.drewsN (Below.refl _ _) _) _) _
          have hb03 := HB1.out.trans (hb3.mono HB1.out.size)
          have HR := Lib.hid (HR1.out.below hb3)
          have HW : Hid (∀ W', Below W3.heap.size W3 W' → W'.cell? ⟨wx, 0, none⟩ = some (str ky) ∧ W'.cell? ⟨wx, 1, none⟩ = some (str y) ∧ W'.cell? ⟨wx, 2, none⟩ = some (.bool gn)) := Lib.hid (fun W' hb => HW1.out W' (hb3.trans (hb.mono hb3.size)))
          have HUP : Hid (∀ e W', WrtP W3 B rb b at1 (.slice (some ⟨g, 0, none⟩) L.length c3) L (ky, y, gn) e W' → WrtP W B rb b at1 (.slice (some ⟨g, 0, none⟩) L.length c3) L (ky, y, gn) e W') := Lib.hid (fun e W' h => wrt_up hb03 h)
          clear hW3 HN HR1 HB1 HW1 HH hb3 hb03 q0 q1 q2 q3 c0
          obtain ⟨wc, hwc⟩ : ∃ x, x = W3.drew := ⟨_, rfl⟩
          have HB := Lib.hid (show Below W3.heap.size W3 wc by rw [hwc]; exact Below.drewsN (Below.refl _ _) 1)
          refine wp_region_held_drew (S := (fun _ => True)) (by kernel_rfl) (trivial) (fun hHeld => ?_)
          rw [← hwc]
          clear hwc
          clear hHeld
          have hHeld : True := trivial
          refine wpAnyH_take (i := 0) (v := ?v1) rfl (by kernel_rfl) (by kernel_rfl) (by kernel_rfl) (fun _ _ _ h => h) (Or.inl ⟨by rfl, ?hy1⟩) (by assumption) ?_
          case hy1 => (intro w hSw; clear hSw; go_simp; try with_reducible rfl)
          go_simp
          refine wpAnyH_take (i := 1) (v := ?v2) rfl (by kernel_rfl) (by kernel_rfl) (by kernel_rfl) (fun _ _ _ h => h) (Or.inl ⟨by rfl, ?hy2⟩) (by assumption) ?_
          case hy2 => (intro w hSw; clear hSw; go_simp; try with_reducible rfl)
          go_simp
          refine wpAnyH_take (i := 2) (v := ?v3) rfl (by kernel_rfl) (by kernel_rfl) (by kernel_rfl) (fun _ _ _ h => h) (Or.inl ⟨by rfl, ?hy3⟩) (by assumption) ?_
          case hy3 => (intro w hSw; clear hSw; go_simp; try with_reducible rfl)
          go_simp
          refine wpAnyH_take (i := 4) (v := ?v4) rfl (by kernel_rfl) (by kernel_rfl) (by kernel_rfl) (fun _ _ _ h => h) (Or.inl ⟨by rfl, ?hy4⟩) (by assumption) ?_
          case hy4 => (intro w hSw; clear hSw; go_simp; try with_reducible rfl)
          go_simp
          refine wpAnyH_ready (rs := [3, 5]) (by kernel_rfl) (by simp) (AllReadyH.cons rfl (fun K hK => ?_) (AllReadyH.cons rfl (fun K hK => ?_) AllReadyH.nil))
          · have cq := (HR.out.below HB.out).cells.2.2.1
            go_simp
            clear cq
            refine hK.out _ _ (trivial) (fun hHeld => ?_)
            clear hK K
            refine wpAnyH_ready (rs := [5]) (by kernel_rfl) (by simp) (AllReadyH.cons rfl (fun K hK => ?_) AllReadyH.nil)
            have cq := HW.out wc HB.out
            obtain ⟨cq0, cq1, cq2⟩ := cq
            go_simp
            clear cq0 cq1 cq2
            refine hK.out _ _ (trivial) (fun hHeld => ?_)
            clear hK K
            refine wpAnyH_take (i := 6) (v := ?v5) rfl (by kernel_rfl) (by kernel_rfl) (by kernel_rfl) (fun _ _ _ h => h) (Or.inl ⟨by rfl, ?hy5⟩) (by assumption) ?_
            case hy5 => (intro w hSw; clear hSw; go_simp; try with_reducible rfl)
            go_simp
            refine wpAnyH_ready (rs := [7]) (by kernel_rfl) (by simp) (AllReadyH.cons rfl (fun K hK => ?_) AllReadyH.nil)
            obtain ⟨g', cap', he, _, v0, v1, v2, f0, f1, f2⟩ := (HR.out.below HB.out).get hlt2
            simp only [Value.slice.injEq, Option.some.injEq, Addr.mk.injEq, and_true, true_and] at he
            obtain ⟨rfl, rfl⟩ := he
            have HSW := Lib.hid (HR.out.setw HB.out HP.out hlt3 HK.out HZ.out rfl)
            go_simp
            clear v0 v1 v2 f0 f1 f2
            refine hK.out _ _ (trivial) (fun hHeld => ?_)
            clear hK K
            refine wpAnyH_done (by kernel_rfl) ?_ _
            have HX := Lib.hid (HUP.out _ _ HSW.out)
            clear HSW HUP HR HB
            go_wp2_with fail
            go_ret
            exact HX.out
          · have cq := HW.out wc HB.out
            obtain ⟨cq0, cq1, cq2⟩ := cq
            go_simp
            clear cq0 cq1 cq2
            refine hK.out _ _ (trivial) (fun hHeld => ?_)
            clear hK K
            refine wpAnyH_ready (rs := [3]) (by kernel_rfl) (by simp) (AllReadyH.cons rfl (fun K hK => ?_) AllReadyH.nil)
            have cq := (HR.out.below HB.out).cells.2.2.1
            go_simp
            clear cq
            refine hK.out _ _ (trivial) (fun hHeld => ?_)
            clear hK K
            refine wpAnyH_take (i := 6) (v := ?v6) rfl (by kernel_rfl) (by kernel_rfl) (by kernel_rfl) (fun _ _ _ h => h) (Or.inl ⟨by rfl, ?hy6⟩) (by assumption) ?_
            case hy6 => (intro w hSw; clear hSw; go_simp; try with_reducible rfl)
            go_simp
            refine wpAnyH_ready (rs := [7]) (by kernel_rfl) (by simp) (AllReadyH.cons rfl (fun K hK => ?_) AllReadyH.nil)
            obtain ⟨g', cap', he, _, v0, v1, v2, f0, f1, f2⟩ := (HR.out.below HB.out).get hlt2
            simp only [Value.slice.injEq, Option.some.injEq, Addr.mk.injEq, and_true, true_and] at he
            obtain ⟨rfl, rfl⟩ := he
            have HSW := Lib.hid (HR.out.setw HB.out HP.out hlt3 HK.out HZ.out rfl)
            go_simp
            clear v0 v1 v2 f0 f1 f2
            refine hK.out _ _ (trivial) (fun hHeld => ?_)
            clear hK K
            refine wpAnyH_done (by kernel_rfl) ?_ _
            have HX := Lib.hid (HUP.out _ _ HSW.out)
            clear HSW HUP HR HB
            go_wp2_with fail
            go_ret
            exact HX.out
        have HNO : Hid (¬ ∃ h : p < L.length, L[p].1 = ky) := Lib.hid (fun ⟨h, e⟩ => by
          rw [HYK.out] at e
          rw [e, beq_self_eq_true] at hzk2
          cases hzk2)
        have HWC := Lib.hid (wrC_new (w := (ky, y, gn)) HSH.out HRI.out HP.out HNO.out)
        clear HYK
        go_wp2_with fail
        go_quiet (fail)
        go_upto_region 6 with fail
        go_quiet (fail)
        go_upto_region 9 with fail
        generalize hW3 : ((W1.drewN q).drewN _).drewN _ = W3
        have hb3 : Below W1.heap.size W1 W3 := by rw [← hW3]; exact Below.drewsN (Below.drewsN (Below.drewsN (Below.refl _ _) _) _) _
        have hb03 := HB1.out.trans (hb3.mono HB1.out.size)
        have HR := Lib.hid (HR1.out.below hb3)
        have q4 := HR.out.cells.2.2.1
        by_cases h1000 : L.length = 1000
        · have e9 : decide ((1000 : Int) ≤ (L.length : Int)) = true := decide_eq_true (by omega)
          have e9' : (1000 : Int) ≤ (L.length : Int) := by omega
          have HX := Lib.hid (HN.out W3 17 hb3 (by rw [HWC.out, if_pos h1000]) (by decide))
          clear hW3 HN HR1 HB1 HW1 HH hb3 hb03 q0 q1 q2 q3 HR HWC HP HNO h1000
          go_wp2_with fail
          go_ret
          exact HX.out
        have e9 : decide ((1000 : Int) ≤ (L.length : Int)) = false := decide_eq_false (by omega)
        have e9' : ¬ (1000 : Int) ≤ (L.length : Int) := by omega
        have HZ : Hid (wrC L (ky, y, gn) = 0) := Lib.hid (by rw [HWC.out, if_neg h1000])
        have hL1 : L.length + 1 ≤ 1000 := by omega
        have HW : Hid (∀ W', Below W3.heap.size W3 W' → W'.cell? ⟨wx, 0, none⟩ = some (str ky) ∧ W'.cell? ⟨wx, 1, none⟩ = some (str y) ∧ W'.cell? ⟨wx, 2, none⟩ = some (.bool gn)) := Lib.hid (fun W' hb => HW1.out W' (hb3.trans (hb.mono hb3.size)))
        have HWX : Hid (∀ k, BlkT rb (.slice (some ⟨g, 0, none⟩) L.length c3) k → k ≠ wx) := Lib.hid (fun k hk e => by have := HXN.out k hk; omega)
        have HWK : Hid (∀ W', Frm (BlkT rb (.slice (some ⟨g, 0, none⟩) L.length c3)) W3 W' → W'.cell? ⟨wx, 0, none⟩ = some (str ky) ∧ W'.cell? ⟨wx, 1, none⟩ = some (str y) ∧ W'.cell? ⟨wx, 2, none⟩ = some (.bool gn)) := Lib.hid (fun W' hf => frm_three (HW.out W3 (Below.refl _ _)) hf (fun hk => HWX.out _ hk rfl))
        have HBS : Hid (B ≤ W3.heap.size) := Lib.hid (by have h1 := HR.out.lt; have h2 := HR.out.blt; omega)
        have HUP : Hid (∀ e W', WrtP W3 B rb b at1 (.slice (some ⟨g, 0, none⟩) L.length c3) L (ky, y, gn) e W' → WrtP W B rb b at1 (.slice (some ⟨g, 0, none⟩) L.length c3) L (ky, y, gn) e W') := Lib.hid (fun e W' h => wrt_up hb03 h)
        have HFI : Hid (∀ W6 g6 c, W6.ownsRow B 58 3 (.slice (some ⟨g6, 0, none⟩) (L.length + 1) c) ((L.map Prod.snd).take p ++ (ky, y, gn) :: (L.map Prod.snd).drop p).length (((L.map Prod.snd).take p ++ (ky, y, gn) :: (L.map Prod.snd).drop p).map cellsWr).flatten → Frm (fun k => Value.ownBlock (.slice (some ⟨g, 0, none⟩) L.length c3) = some k) W3 W6 → (Value.ownBlock (.slice (some ⟨g, 0, none⟩) L.length c3) = some g6 ∨ W3.heap.size ≤ g6) → WrtP W3 B rb b at1 (.slice (some ⟨g, 0, none⟩) L.length c3) L (ky, y, gn) (.returned (.int .i64 0)) (W6.setCell ⟨rb, 2, none⟩ (.slice (some ⟨g6, 0, none⟩) (L.length + 1) c)) ∧ W6.cell? ⟨rb, 2, none⟩ = some (.slice (some ⟨g, 0, none⟩) L.length c3) ∧ W6.frozen? ⟨rb, 2, none⟩ = false) := Lib.hid (fun W6 g6 c h1 h2 h3 => HR.out.insw HP.out HNO.out HZ.out hL1 h1 h2 h3)
        clear hW3 HN HR1 HB1 HW1 HH hb3 hb03 q0 q1 q2 q3 HWC HP HNO HZ h1000 HRI HSH HWX HXN
        obtain ⟨i1, hj, hy0, hy1, hy2⟩ := info_parts infoWr
        go_upto_region 11 with fail
        obtain ⟨wc, hwc⟩ : ∃ x, x = W3.drew := ⟨_, rfl⟩
        have HB := Lib.hid (show Below W3.heap.size W3 wc by rw [hwc]; exact Below.drewsN (Below.refl _ _) 1)
        refine wp_region_held_drew (S := (fun W' => W'.cell? ⟨wx, 0, none⟩ = some (str ky) ∧ W'.cell? ⟨wx, 1, none⟩ = some (str y) ∧ W'.cell? ⟨wx, 2, none⟩ = some (.bool gn))) (by kernel_rfl) (by rw [← hwc]; exact HW.out _ HB.out) (fun hHeld => ?_)
        rw [← hwc] at hHeld ⊢
        clear hwc
        refine wpAnyH_take (i := 0) (v := ?v7) rfl (by kernel_rfl) (by kernel_rfl) (by kernel_rfl) (fun _ _ _ h => h) (Or.inl ⟨by rfl, ?hy7⟩) (by assumption) ?_
        case hy7 => (intro w hSw; clear hSw; go_simp; try with_reducible rfl)
        go_simp
        refine wpAnyH_take (i := 1) (v := ?v8) rfl (by kernel_rfl) (by kernel_rfl) (by kernel_rfl) (fun _ _ _ h => h) (Or.inl ⟨by rfl, ?hy8⟩) (by assumption) ?_
        case hy8 => (intro w hSw; clear hSw; go_simp; try with_reducible rfl)
        go_simp
        refine wpAnyH_take (i := 2) (v := ?v9) rfl (by kernel_rfl) (by kernel_rfl) (by kernel_rfl) (fun _ _ _ h => h) (Or.inl ⟨by rfl, ?hy9⟩) (by assumption) ?_
        case hy9 => (intro w hSw; clear hSw; go_simp; try with_reducible rfl)
        go_simp
        refine wpAnyH_take (i := 3) (v := ?v10) rfl (by kernel_rfl) (by kernel_rfl) (by kernel_rfl) (fun _ _ _ h => h) (Or.inl ⟨by rfl, ?hy10⟩) (by assumption) ?_
        case hy10 => (intro w hSw; clear hSw; go_simp; try with_reducible rfl)
        go_simp
        refine wpAnyH_take (i := 5) (v := ?v11) rfl (by kernel_rfl) (by kernel_rfl) (by kernel_rfl) (fun _ _ _ h => h) (Or.inl ⟨by rfl, ?hy11⟩) (by assumption) ?_
        case hy11 => (intro w hSw; clear hSw; go_simp; try with_reducible rfl)
        go_simp
        refine wpAnyH_take (i := 7) (v := ?v12) rfl (by kernel_rfl) (by kernel_rfl) (by kernel_rfl) (fun _ _ _ h => h) (Or.inl ⟨by rfl, ?hy12⟩) (by assumption) ?_
        case hy12 => (intro w hSw; obtain ⟨hs0, hs1, hs2⟩ := hSw; go_simp; try with_reducible rfl)
        go_simp
        refine wpAnyH_take (i := 9) (v := ?v13) rfl (by kernel_rfl) (by kernel_rfl) (by kernel_rfl) (fun _ _ _ h => h) (Or.inl ⟨by rfl, ?hy13⟩) (by assumption) ?_
        case hy13 => (intro w hSw; clear hSw; go_simp; try with_reducible rfl)
        go_simp
        refine wpAnyH_take (i := 10) (v := ?v14) rfl (by kernel_rfl) (by kernel_rfl) (by kernel_rfl) (fun _ _ _ h => h) (Or.inl ⟨by rfl, ?hy14⟩) (by assumption) ?_
        case hy14 => (intro w hSw; clear hSw; go_simp; try with_reducible rfl)
        go_simp
        refine wpAnyH_take (i := 11) (v := ?v15) rfl (by kernel_rfl) (by kernel_rfl) (by kernel_rfl) (fun _ _ _ h => h) (Or.inl ⟨by rfl, ?hy15⟩) (by assumption) ?_
        case hy15 => (intro w hSw; clear hSw; go_simp; try with_reducible rfl)
        go_simp
        refine wpAnyH_take (i := 13) (v := ?v16) rfl (by kernel_rfl) (by kernel_rfl) (by kernel_rfl) (fun _ _ _ h => h) (Or.inl ⟨by rfl, ?hy16⟩) (by assumption) ?_
        case hy16 => (intro w hSw; clear hSw; go_simp; try with_reducible rfl)
        go_simp
        refine wpAnyH_ready (rs := [4, 8, 12]) (by kernel_rfl) (by simp) (AllReadyH.cons rfl (fun K hK => ?_) (AllReadyH.cons rfl (fun K hK => ?_) (AllReadyH.cons rfl (fun K hK => ?_) AllReadyH.nil)))
        · have cq := (HR.out.below HB.out).cells.2.2.1
          go_simp
          clear cq
          refine hK.out _ _ (HW.out _ HB.out) (fun hHeld => ?_)
          clear hK K
          refine wpAnyH_take (i := 6) (v := ?v17) rfl (by kernel_rfl) (by kernel_rfl) (by kernel_rfl) (fun _ _ _ h => h) (Or.inl ⟨by rfl, ?hy17⟩) (by assumption) ?_
          case hy17 => (intro w hSw; clear hSw; go_simp; try with_reducible rfl)
          go_simp
          refine wpAnyH_ready (rs := [8, 12]) (by kernel_rfl) (by simp) (AllReadyH.cons rfl (fun K hK => ?_) (AllReadyH.cons rfl (fun K hK => ?_) AllReadyH.nil))
          · go_simp
            obtain ⟨k4, hk4⟩ : ∃ k, k = wc.heap.size := ⟨_, rfl⟩
            obtain ⟨wd, hwd⟩ : ∃ W, W = wc.alloc (.cells #[str ky, str y, .bool gn] 58) := ⟨_, rfl⟩
            have hbs : Below wc.heap.size wc wd := by rw [hwd]; exact below_alloc _ _
            have HL4 := Lib.hid (show wd.ownsRow W3.heap.size 58 3 (.slice (some ⟨k4, 0, none⟩) 1 1) 1 (cellsWr (ky, y, gn)) by rw [hwd, hk4]; exact World.ownsRow_lit (e := 58) (size := 3) wc #[str ky, str y, .bool gn] 1 HB.out.size (by decide) rfl)
            have HB := Lib.hid (HB.out.trans (hbs.mono HB.out.size))
            rw [← hwd, ← hk4]
            clear hwd hk4 hbs
            rename World => wc
            refine hK.out _ _ (HW.out _ HB.out) (fun hHeld => ?_)
            clear hK K
            refine wpAnyH_ready (rs := [12]) (by kernel_rfl) (by simp) (AllReadyH.cons rfl (fun K hK => ?_) AllReadyH.nil)
            have cq := (HR.out.below HB.out).cells.2.2.1
            go_simp
            clear cq
            refine hK.out _ _ (HW.out _ HB.out) (fun hHeld => ?_)
            clear hK K
            refine wpAnyH_take (i := 14) (v := ?v18) rfl (by kernel_rfl) (by kernel_rfl) (by kernel_rfl) (fun _ _ _ h => h) (Or.inl ⟨by rfl, ?hy18⟩) (by assumption) ?_
            case hy18 => (intro w hSw; clear hSw; go_simp; try with_reducible rfl)
            go_simp
            refine wpAnyH_ready (rs := [15]) (by kernel_rfl) (by simp) (AllReadyH.cons rfl (fun K hK => ?_) AllReadyH.nil)
            refine step_appendG (by rfl) _ _ 54 (by rfl) W3.heap.size 58 i1 _ 3 40 Try.underlying54 hj hy0 hy1 hy2 rfl (by decide) k4 1 1 _ (by rfl) HL4.out _ (((L.map Prod.snd).drop p).map cellsWr) (cellsWr_len _) (one_cellsWr _) (by rfl) (rx_behind (HR.out.below HB.out) hpl) (fun c h => by first | exact ite_noneW h | cases h) ?_ ?_ HB.out.size ?_
            · simp [maxLen]; omega
            · simp; omega
            intro g8 c8 wd r8 gr8
            have HB := Lib.hid (HB.out.grown gr8 HB.out.size (fun k e => by cases e; exact (HL4.out.lt k4 rfl).1))
            have HR8 := Lib.hid (ins_rowW (R := (L.map Prod.snd)) (p := p) r8)
            clear r8 gr8
            rename World => wc
            go_simp
            refine hK.out _ _ (HW.out _ HB.out) (fun hHeld => ?_)
            clear hK K
            refine wpAnyH_ready (rs := [16]) (by kernel_rfl) (by simp) (AllReadyH.cons rfl (fun K hK => ?_) AllReadyH.nil)
            refine step_appendH (by rfl) _ _ 54 (by rfl) B 58 i1 _ 3 40 Try.underlying54 hj hy0 hy1 hy2 rfl (by decide) (.slice (some ⟨g, 0, none⟩) p c3) p _ (by rfl) (rx_ahead (HR.out.below HB.out) hpl) _ (((ky, y, gn) :: (L.map Prod.snd).drop p).map cellsWr) (cellsWr_len _) (one_cellsWr _) (by rfl) (HR8.out _ (by first | (simp; done) | (rw [List.length_map]))) (by simp) ?_ ?_ (Nat.le_trans HBS.out HB.out.size) ?_
            · simp [maxLen]; omega
            · simp; omega
            intro g9 c9 wd r9 gr9 lo9
            have HI := Lib.hid (HFI.out wd g9 c9 (rx_ins (L := L) hpl r9) ((Frm.of_below HB.out).trans (Frm.of_grown gr9 (fun k e => by first | exact e | (simpa [Value.ownBlock] using e))) (fun _ _ h => h)) (lo9.imp (fun e => by first | exact e | (simpa [Value.ownBlock] using e)) (fun e => by rw [e]; exact HB.out.size)))
            have HWF := Lib.hid (HWK.out wd ((Frm.of_below HB.out).trans (Frm.of_grown gr9 (fun k e => Or.inr (by first | exact e | (simpa [Value.ownBlock] using e)))) (fun _ _ h => h)))
            have HWG := Lib.hid (HWK.out _ (wrt_frm HI.out.1))
            clear r9 gr9 lo9
            rename World => wc
            rw [show p + (((ky, y, gn) :: (L.map Prod.snd).drop p).map cellsWr).length = L.length + 1 by simp; omega]
            go_simp
            refine hK.out _ _ (HWF.out) (fun hHeld => ?_)
            clear hK K
            refine wpAnyH_take (i := 17) (v := ?v19) rfl (by kernel_rfl) (by kernel_rfl) (by kernel_rfl) (fun _ _ _ h => h) (Or.inl ⟨by rfl, ?hy19⟩) (by assumption) ?_
            case hy19 => (intro w hSw; clear hSw; go_simp; try with_reducible rfl)
            go_simp
            refine wpAnyH_take (i := 18) (v := ?v20) rfl (by kernel_rfl) (by kernel_rfl) (by kernel_rfl) (fun _ _ _ h => h) (Or.inl ⟨by rfl, ?hy20⟩) (by assumption) ?_
            case hy20 => (intro w hSw; clear hSw; go_simp; try with_reducible rfl)
            go_simp
            refine wpAnyH_ready (rs := [19]) (by kernel_rfl) (by simp) (AllReadyH.cons rfl (fun K hK => ?_) AllReadyH.nil)
            have cq := HI.out.2.1
            have fq := HI.out.2.2
            go_simp
            clear cq fq
            refine hK.out _ _ (HWG.out) (fun hHeld => ?_)
            clear hK K
            refine wpAnyH_done (by kernel_rfl) ?_ _
            have HX := Lib.hid (HUP.out _ _ HI.out.1)
            clear HI HUP HFI HR HB
            go_wp2_with fail
            all_goals (go_ret; exact HX.out)
          · have cq := (HR.out.below HB.out).cells.2.2.1
            go_simp
            clear cq
            refine hK.out _ _ (HW.out _ HB.out) (fun hHeld => ?_)
            clear hK K
            refine wpAnyH_take (i := 14) (v := ?v21) rfl (by kernel_rfl) (by kernel_rfl) (by kernel_rfl) (fun _ _ _ h => h) (Or.inl ⟨by rfl, ?hy21⟩) (by assumption) ?_
            case hy21 => (intro w hSw; clear hSw; go_simp; try with_reducible rfl)
            go_simp
            refine wpAnyH_ready (rs := [8]) (by kernel_rfl) (by simp) (AllReadyH.cons rfl (fun K hK => ?_) AllReadyH.nil)
            go_simp
            obtain ⟨k4, hk4⟩ : ∃ k, k = wc.heap.size := ⟨_, rfl⟩
            obtain ⟨wd, hwd⟩ : ∃ W, W = wc.alloc (.cells #[str ky, str y, .bool gn] 58) := ⟨_, rfl⟩
            have hbs : Below wc.heap.size wc wd := by rw [hwd]; exact below_alloc _ _
            have HL4 := Lib.hid (show wd.ownsRow W3.heap.size 58 3 (.slice (some ⟨k4, 0, none⟩) 1 1) 1 (cellsWr (ky, y, gn)) by rw [hwd, hk4]; exact World.ownsRow_lit (e := 58) (size := 3) wc #[str ky, str y, .bool gn] 1 HB.out.size (by decide) rfl)
            have HB := Lib.hid (HB.out.trans (hbs.mono HB.out.size))
            rw [← hwd, ← hk4]
            clear hwd hk4 hbs
            rename World => wc
            refine hK.out _ _ (HW.out _ HB.out) (fun hHeld => ?_)
            clear hK K
            refine wpAnyH_ready (rs := [15]) (by kernel_rfl) (by simp) (AllReadyH.cons rfl (fun K hK => ?_) AllReadyH.nil)
            refine step_appendG (by rfl) _ _ 54 (by rfl) W3.heap.size 58 i1 _ 3 40 Try.underlying54 hj hy0 hy1 hy2 rfl (by decide) k4 1 1 _ (by rfl) HL4.out _ (((L.map Prod.snd).drop p).map cellsWr) (cellsWr_len _) (one_cellsWr _) (by rfl) (rx_behind (HR.out.below HB.out) hpl) (fun c h => by first | exact ite_noneW h | cases h) ?_ ?_ HB.out.size ?_
            · simp [maxLen]; omega
            · simp; omega
            intro g8 c8 wd r8 gr8
            have HB := Lib.hid (HB.out.grown gr8 HB.out.size (fun k e => by cases e; exact (HL4.out.lt k4 rfl).1))
            have HR8 := Lib.hid (ins_rowW (R := (L.map Prod.snd)) (p := p) r8)
            clear r8 gr8
            rename World => wc
            go_simp
            refine hK.out _ _ (HW.out _ HB.out) (fun hHeld => ?_)
            clear hK K
            refine wpAnyH_ready (rs := [16]) (by kernel_rfl) (by simp) (AllReadyH.cons rfl (fun K hK => ?_) AllReadyH.nil)
            refine step_appendH (by rfl) _ _ 54 (by rfl) B 58 i1 _ 3 40 Try.underlying54 hj hy0 hy1 hy2 rfl (by decide) (.slice (some ⟨g, 0, none⟩) p c3) p _ (by rfl) (rx_ahead (HR.out.below HB.out) hpl) _ (((ky, y, gn) :: (L.map Prod.snd).drop p).map cellsWr) (cellsWr_len _) (one_cellsWr _) (by rfl) (HR8.out _ (by first | (simp; done) | (rw [List.length_map]))) (by simp) ?_ ?_ (Nat.le_trans HBS.out HB.out.size) ?_
            · simp [maxLen]; omega
            · simp; omega
            intro g9 c9 wd r9 gr9 lo9
            have HI := Lib.hid (HFI.out wd g9 c9 (rx_ins (L := L) hpl r9) ((Frm.of_below HB.out).trans (Frm.of_grown gr9 (fun k e => by first | exact e | (simpa [Value.ownBlock] using e))) (fun _ _ h => h)) (lo9.imp (fun e => by first | exact e | (simpa [Value.ownBlock] using e)) (fun e => by rw [e]; exact HB.out.size)))
            have HWF := Lib.hid (HWK.out wd ((Frm.of_below HB.out).trans (Frm.of_grown gr9 (fun k e => Or.inr (by first | exact e | (simpa [Value.ownBlock] using e)))) (fun _ _ h => h)))
            have HWG := Lib.hid (HWK.out _ (wrt_frm HI.out.1))
            clear r9 gr9 lo9
            rename World => wc
            rw [show p + (((ky, y, gn) :: (L.map Prod.snd).drop p).map cellsWr).length = L.length + 1 by simp; omega]
            go_simp
            refine hK.out _ _ (HWF.out) (fun hHeld => ?_)
            clear hK K
            refine wpAnyH_take (i := 17) (v := ?v22) rfl (by kernel_rfl) (by kernel_rfl) (by kernel_rfl) (fun _ _ _ h => h) (Or.inl ⟨by rfl, ?hy22⟩) (by assumption) ?_
            case hy22 => (intro w hSw; clear hSw; go_simp; try with_reducible rfl)
            go_simp
            refine wpAnyH_take (i := 18) (v := ?v23) rfl (by kernel_rfl) (by kernel_rfl) (by kernel_rfl) (fun _ _ _ h => h) (Or.inl ⟨by rfl, ?hy23⟩) (by assumption) ?_
            case hy23 => (intro w hSw; clear hSw; go_simp; try with_reducible rfl)
            go_simp
            refine wpAnyH_ready (rs := [19]) (by kernel_rfl) (by simp) (AllReadyH.cons rfl (fun K hK => ?_) AllReadyH.nil)
            have cq := HI.out.2.1
            have fq := HI.out.2.2
            go_simp
            clear cq fq
            refine hK.out _ _ (HWG.out) (fun hHeld => ?_)
            clear hK K
            refine wpAnyH_done (by kernel_rfl) ?_ _
            have HX := Lib.hid (HUP.out _ _ HI.out.1)
            clear HI HUP HFI HR HB
            go_wp2_with fail
            all_goals (go_ret; exact HX.out)
        · go_simp
          obtain ⟨k4, hk4⟩ : ∃ k, k = wc.heap.size := ⟨_, rfl⟩
          obtain ⟨wd, hwd⟩ : ∃ W, W = wc.alloc (.cells #[str ky, str y, .bool gn] 58) := ⟨_, rfl⟩
          have hbs : Below wc.heap.size wc wd := by rw [hwd]; exact below_alloc _ _
          have HL4 := Lib.hid (show wd.ownsRow W3.heap.size 58 3 (.slice (some ⟨k4, 0, none⟩) 1 1) 1 (cellsWr (ky, y, gn)) by rw [hwd, hk4]; exact World.ownsRow_lit (e := 58) (size := 3) wc #[str ky, str y, .bool gn] 1 HB.out.size (by decide) rfl)
          have HB := Lib.hid (HB.out.trans (hbs.mono HB.out.size))
          rw [← hwd, ← hk4]
          clear hwd hk4 hbs
          rename World => wc
          refine hK.out _ _ (HW.out _ HB.out) (fun hHeld => ?_)
          clear hK K
          refine wpAnyH_ready (rs := [4, 12]) (by kernel_rfl) (by simp) (AllReadyH.cons rfl (fun K hK => ?_) (AllReadyH.cons rfl (fun K hK => ?_) AllReadyH.nil))
          · have cq := (HR.out.below HB.out).cells.2.2.1
            go_simp
            clear cq
            refine hK.out _ _ (HW.out _ HB.out) (fun hHeld => ?_)
            clear hK K
            refine wpAnyH_take (i := 6) (v := ?v24) rfl (by kernel_rfl) (by kernel_rfl) (by kernel_rfl) (fun _ _ _ h => h) (Or.inl ⟨by rfl, ?hy24⟩) (by assumption) ?_
            case hy24 => (intro w hSw; clear hSw; go_simp; try with_reducible rfl)
            go_simp
            refine wpAnyH_ready (rs := [12]) (by kernel_rfl) (by simp) (AllReadyH.cons rfl (fun K hK => ?_) AllReadyH.nil)
            have cq := (HR.out.below HB.out).cells.2.2.1
            go_simp
            clear cq
            refine hK.out _ _ (HW.out _ HB.out) (fun hHeld => ?_)
            clear hK K
            refine wpAnyH_take (i := 14) (v := ?v25) rfl (by kernel_rfl) (by kernel_rfl) (by kernel_rfl) (fun _ _ _ h => h) (Or.inl ⟨by rfl, ?hy25⟩) (by assumption) ?_
            case hy25 => (intro w hSw; clear hSw; go_simp; try with_reducible rfl)
            go_simp
            refine wpAnyH_ready (rs := [15]) (by kernel_rfl) (by simp) (AllReadyH.cons rfl (fun K hK => ?_) AllReadyH.nil)
            refine step_appendG (by rfl) _ _ 54 (by rfl) W3.heap.size 58 i1 _ 3 40 Try.underlying54 hj hy0 hy1 hy2 rfl (by decide) k4 1 1 _ (by rfl) HL4.out _ (((L.map Prod.snd).drop p).map cellsWr) (cellsWr_len _) (one_cellsWr _) (by rfl) (rx_behind (HR.out.below HB.out) hpl) (fun c h => by first | exact ite_noneW h | cases h) ?_ ?_ HB.out.size ?_
            · simp [maxLen]; omega
            · simp; omega
            intro g8 c8 wd r8 gr8
            have HB := Lib.hid (HB.out.grown gr8 HB.out.size (fun k e => by cases e; exact (HL4.out.lt k4 rfl).1))
            have HR8 := Lib.hid (ins_rowW (R := (L.map Prod.snd)) (p := p) r8)
            clear r8 gr8
            rename World => wc
            go_simp
            refine hK.out _ _ (HW.out _ HB.out) (fun hHeld => ?_)
            clear hK K
            refine wpAnyH_ready (rs := [16]) (by kernel_rfl) (by simp) (AllReadyH.cons rfl (fun K hK => ?_) AllReadyH.nil)
            refine step_appendH (by rfl) _ _ 54 (by rfl) B 58 i1 _ 3 40 Try.underlying54 hj hy0 hy1 hy2 rfl (by decide) (.slice (some ⟨g, 0, none⟩) p c3) p _ (by rfl) (rx_ahead (HR.out.below HB.out) hpl) _ (((ky, y, gn) :: (L.map Prod.snd).drop p).map cellsWr) (cellsWr_len _) (one_cellsWr _) (by rfl) (HR8.out _ (by first | (simp; done) | (rw [List.length_map]))) (by simp) ?_ ?_ (Nat.le_trans HBS.out HB.out.size) ?_
            · simp [maxLen]; omega
            · simp; omega
            intro g9 c9 wd r9 gr9 lo9
            have HI := Lib.hid (HFI.out wd g9 c9 (rx_ins (L := L) hpl r9) ((Frm.of_below HB.out).trans (Frm.of_grown gr9 (fun k e => by first | exact e | (simpa [Value.ownBlock] using e))) (fun _ _ h => h)) (lo9.imp (fun e => by first | exact e | (simpa [Value.ownBlock] using e)) (fun e => by rw [e]; exact HB.out.size)))
            have HWF := Lib.hid (HWK.out wd ((Frm.of_below HB.out).trans (Frm.of_grown gr9 (fun k e => Or.inr (by first | exact e | (simpa [Value.ownBlock] using e)))) (fun _ _ h => h)))
            have HWG := Lib.hid (HWK.out _ (wrt_frm HI.out.1))
            clear r9 gr9 lo9
            rename World => wc
            rw [show p + (((ky, y, gn) :: (L.map Prod.snd).drop p).map cellsWr).length = L.length + 1 by simp; omega]
            go_simp
            refine hK.out _ _ (HWF.out) (fun hHeld => ?_)
            clear hK K
            refine wpAnyH_take (i := 17) (v := ?v26) rfl (by kernel_rfl) (by kernel_rfl) (by kernel_rfl) (fun _ _ _ h => h) (Or.inl ⟨by rfl, ?hy26⟩) (by assumption) ?_
            case hy26 => (intro w hSw; clear hSw; go_simp; try with_reducible rfl)
            go_simp
            refine wpAnyH_take (i := 18) (v := ?v27) rfl (by kernel_rfl) (by kernel_rfl) (by kernel_rfl) (fun _ _ _ h => h) (Or.inl ⟨by rfl, ?hy27⟩) (by assumption) ?_
            case hy27 => (intro w hSw; clear hSw; go_simp; try with_reducible rfl)
            go_simp
            refine wpAnyH_ready (rs := [19]) (by kernel_rfl) (by simp) (AllReadyH.cons rfl (fun K hK => ?_) AllReadyH.nil)
            have cq := HI.out.2.1
            have fq := HI.out.2.2
            go_simp
            clear cq fq
            refine hK.out _ _ (HWG.out) (fun hHeld => ?_)
            clear hK K
            refine wpAnyH_done (by kernel_rfl) ?_ _
            have HX := Lib.hid (HUP.out _ _ HI.out.1)
            clear HI HUP HFI HR HB
            go_wp2_with fail
            all_goals (go_ret; exact HX.out)
          · have cq := (HR.out.below HB.out).cells.2.2.1
            go_simp
            clear cq
            refine hK.out _ _ (HW.out _ HB.out) (fun hHeld => ?_)
            clear hK K
            refine wpAnyH_take (i := 14) (v := ?v28) rfl (by kernel_rfl) (by kernel_rfl) (by kernel_rfl) (fun _ _ _ h => h) (Or.inl ⟨by rfl, ?hy28⟩) (by assumption) ?_
            case hy28 => (intro w hSw; clear hSw; go_simp; try with_reducible rfl)
            go_simp
            refine wpAnyH_ready (rs := [4, 15]) (by kernel_rfl) (by simp) (AllReadyH.cons rfl (fun K hK => ?_) (AllReadyH.cons rfl (fun K hK => ?_) AllReadyH.nil))
            · have cq := (HR.out.below HB.out).cells.2.2.1
              go_simp
              clear cq
              refine hK.out _ _ (HW.out _ HB.out) (fun hHeld => ?_)
              clear hK K
              refine wpAnyH_take (i := 6) (v := ?v29) rfl (by kernel_rfl) (by kernel_rfl) (by kernel_rfl) (fun _ _ _ h => h) (Or.inl ⟨by rfl, ?hy29⟩) (by assumption) ?_
              case hy29 => (intro w hSw; clear hSw; go_simp; try with_reducible rfl)
              go_simp
              refine wpAnyH_ready (rs := [15]) (by kernel_rfl) (by simp) (AllReadyH.cons rfl (fun K hK => ?_) AllReadyH.nil)
              refine step_appendG (by rfl) _ _ 54 (by rfl) W3.heap.size 58 i1 _ 3 40 Try.underlying54 hj hy0 hy1 hy2 rfl (by decide) k4 1 1 _ (by rfl) HL4.out _ (((L.map Prod.snd).drop p).map cellsWr) (cellsWr_len _) (one_cellsWr _) (by rfl) (rx_behind (HR.out.below HB.out) hpl) (fun c h => by first | exact ite_noneW h | cases h) ?_ ?_ HB.out.size ?_
              · simp [maxLen]; omega
              · simp; omega
              intro g8 c8 wd r8 gr8
              have HB := Lib.hid (HB.out.grown gr8 HB.out.size (fun k e => by cases e; exact (HL4.out.lt k4 rfl).1))
              have HR8 := Lib.hid (ins_rowW (R := (L.map Prod.snd)) (p := p) r8)
              clear r8 gr8
              rename World => wc
              go_simp
              refine hK.out _ _ (HW.out _ HB.out) (fun hHeld => ?_)
              clear hK K
              refine wpAnyH_ready (rs := [16]) (by kernel_rfl) (by simp) (AllReadyH.cons rfl (fun K hK => ?_) AllReadyH.nil)
              refine step_appendH (by rfl) _ _ 54 (by rfl) B 58 i1 _ 3 40 Try.underlying54 hj hy0 hy1 hy2 rfl (by decide) (.slice (some ⟨g, 0, none⟩) p c3) p _ (by rfl) (rx_ahead (HR.out.below HB.out) hpl) _ (((ky, y, gn) :: (L.map Prod.snd).drop p).map cellsWr) (cellsWr_len _) (one_cellsWr _) (by rfl) (HR8.out _ (by first | (simp; done) | (rw [List.length_map]))) (by simp) ?_ ?_ (Nat.le_trans HBS.out HB.out.size) ?_
              · simp [maxLen]; omega
              · simp; omega
              intro g9 c9 wd r9 gr9 lo9
              have HI := Lib.hid (HFI.out wd g9 c9 (rx_ins (L := L) hpl r9) ((Frm.of_below HB.out).trans (Frm.of_grown gr9 (fun k e => by first | exact e | (simpa [Value.ownBlock] using e))) (fun _ _ h => h)) (lo9.imp (fun e => by first | exact e | (simpa [Value.ownBlock] using e)) (fun e => by rw [e]; exact HB.out.size)))
              have HWF := Lib.hid (HWK.out wd ((Frm.of_below HB.out).trans (Frm.of_grown gr9 (fun k e => Or.inr (by first | exact e | (simpa [Value.ownBlock] using e)))) (fun _ _ h => h)))
              have HWG := Lib.hid (HWK.out _ (wrt_frm HI.out.1))
              clear r9 gr9 lo9
              rename World => wc
              rw [show p + (((ky, y, gn) :: (L.map Prod.snd).drop p).map cellsWr).length = L.length + 1 by simp; omega]
              go_simp
              refine hK.out _ _ (HWF.out) (fun hHeld => ?_)
              clear hK K
              refine wpAnyH_take (i := 17) (v := ?v30) rfl (by kernel_rfl) (by kernel_rfl) (by kernel_rfl) (fun _ _ _ h => h) (Or.inl ⟨by rfl, ?hy30⟩) (by assumption) ?_
              case hy30 => (intro w hSw; clear hSw; go_simp; try with_reducible rfl)
              go_simp
              refine wpAnyH_take (i := 18) (v := ?v31) rfl (by kernel_rfl) (by kernel_rfl) (by kernel_rfl) (fun _ _ _ h => h) (Or.inl ⟨by rfl, ?hy31⟩) (by assumption) ?_
              case hy31 => (intro w hSw; clear hSw; go_simp; try with_reducible rfl)
              go_simp
              refine wpAnyH_ready (rs := [19]) (by kernel_rfl) (by simp) (AllReadyH.cons rfl (fun K hK => ?_) AllReadyH.nil)
              have cq := HI.out.2.1
              have fq := HI.out.2.2
              go_simp
              clear cq fq
              refine hK.out _ _ (HWG.out) (fun hHeld => ?_)
              clear hK K
              refine wpAnyH_done (by kernel_rfl) ?_ _
              have HX := Lib.hid (HUP.out _ _ HI.out.1)
              clear HI HUP HFI HR HB
              go_wp2_with fail
              all_goals (go_ret; exact HX.out)
            · refine step_appendG (by rfl) _ _ 54 (by rfl) W3.heap.size 58 i1 _ 3 40 Try.underlying54 hj hy0 hy1 hy2 rfl (by decide) k4 1 1 _ (by rfl) HL4.out _ (((L.map Prod.snd).drop p).map cellsWr) (cellsWr_len _) (one_cellsWr _) (by rfl) (rx_behind (HR.out.below HB.out) hpl) (fun c h => by first | exact ite_noneW h | cases h) ?_ ?_ HB.out.size ?_
              · simp [maxLen]; omega
              · simp; omega
              intro g8 c8 wd r8 gr8
              have HB := Lib.hid (HB.out.grown gr8 HB.out.size (fun k e => by cases e; exact (HL4.out.lt k4 rfl).1))
              have HR8 := Lib.hid (ins_rowW (R := (L.map Prod.snd)) (p := p) r8)
              clear r8 gr8
              rename World => wc
              go_simp
              refine hK.out _ _ (HW.out _ HB.out) (fun hHeld => ?_)
              clear hK K
              refine wpAnyH_ready (rs := [4]) (by kernel_rfl) (by simp) (AllReadyH.cons rfl (fun K hK => ?_) AllReadyH.nil)
              have cq := (HR.out.below HB.out).cells.2.2.1
              go_simp
              clear cq
              refine hK.out _ _ (HW.out _ HB.out) (fun hHeld => ?_)
              clear hK K
              refine wpAnyH_take (i := 6) (v := ?v32) rfl (by kernel_rfl) (by kernel_rfl) (by kernel_rfl) (fun _ _ _ h => h) (Or.inl ⟨by rfl, ?hy32⟩) (by assumption) ?_
              case hy32 => (intro w hSw; clear hSw; go_simp; try with_reducible rfl)
              go_simp
              refine wpAnyH_ready (rs := [16]) (by kernel_rfl) (by simp) (AllReadyH.cons rfl (fun K hK => ?_) AllReadyH.nil)
              refine step_appendH (by rfl) _ _ 54 (by rfl) B 58 i1 _ 3 40 Try.underlying54 hj hy0 hy1 hy2 rfl (by decide) (.slice (some ⟨g, 0, none⟩) p c3) p _ (by rfl) (rx_ahead (HR.out.below HB.out) hpl) _ (((ky, y, gn) :: (L.map Prod.snd).drop p).map cellsWr) (cellsWr_len _) (one_cellsWr _) (by rfl) (HR8.out _ (by first | (simp; done) | (rw [List.length_map]))) (by simp) ?_ ?_ (Nat.le_trans HBS.out HB.out.size) ?_
              · simp [maxLen]; omega
              · simp; omega
              intro g9 c9 wd r9 gr9 lo9
              have HI := Lib.hid (HFI.out wd g9 c9 (rx_ins (L := L) hpl r9) ((Frm.of_below HB.out).trans (Frm.of_grown gr9 (fun k e => by first | exact e | (simpa [Value.ownBlock] using e))) (fun _ _ h => h)) (lo9.imp (fun e => by first | exact e | (simpa [Value.ownBlock] using e)) (fun e => by rw [e]; exact HB.out.size)))
              have HWF := Lib.hid (HWK.out wd ((Frm.of_below HB.out).trans (Frm.of_grown gr9 (fun k e => Or.inr (by first | exact e | (simpa [Value.ownBlock] using e)))) (fun _ _ h => h)))
              have HWG := Lib.hid (HWK.out _ (wrt_frm HI.out.1))
              clear r9 gr9 lo9
              rename World => wc
              rw [show p + (((ky, y, gn) :: (L.map Prod.snd).drop p).map cellsWr).length = L.length + 1 by simp; omega]
              go_simp
              refine hK.out _ _ (HWF.out) (fun hHeld => ?_)
              clear hK K
              refine wpAnyH_take (i := 17) (v := ?v33) rfl (by kernel_rfl) (by kernel_rfl) (by kernel_rfl) (fun _ _ _ h => h) (Or.inl ⟨by rfl, ?hy33⟩) (by assumption) ?_
              case hy33 => (intro w hSw; clear hSw; go_simp; try with_reducible rfl)
              go_simp
              refine wpAnyH_take (i := 18) (v := ?v34) rfl (by kernel_rfl) (by kernel_rfl) (by kernel_rfl) (fun _ _ _ h => h) (Or.inl ⟨by rfl, ?hy34⟩) (by assumption) ?_
              case hy34 => (intro w hSw; clear hSw; go_simp; try with_reducible rfl)
              go_simp
              refine wpAnyH_ready (rs := [19]) (by kernel_rfl) (by simp) (AllReadyH.cons rfl (fun K hK => ?_) AllReadyH.nil)
              have cq := HI.out.2.1
              have fq := HI.out.2.2
              go_simp
              clear cq fq
              refine hK.out _ _ (HWG.out) (fun hHeld => ?_)
              clear hK K
              refine wpAnyH_done (by kernel_rfl) ?_ _
              have HX := Lib.hid (HUP.out _ _ HI.out.1)
              clear HI HUP HFI HR HB
              go_wp2_with fail
              all_goals (go_ret; exact HX.out)
        · have cq := (HR.out.below HB.out).cells.2.2.1
          go_simp
          clear cq
          refine hK.out _ _ (HW.out _ HB.out) (fun hHeld => ?_)
          clear hK K
          refine wpAnyH_take (i := 14) (v := ?v35) rfl (by kernel_rfl) (by kernel_rfl) (by kernel_rfl) (fun _ _ _ h => h) (Or.inl ⟨by rfl, ?hy35⟩) (by assumption) ?_
          case hy35 => (intro w hSw; clear hSw; go_simp; try with_reducible rfl)
          go_simp
          refine wpAnyH_ready (rs := [4, 8]) (by kernel_rfl) (by simp) (AllReadyH.cons rfl (fun K hK => ?_) (AllReadyH.cons rfl (fun K hK => ?_) AllReadyH.nil))
          · have cq := (HR.out.below HB.out).cells.2.2.1
            go_simp
            clear cq
            refine hK.out _ _ (HW.out _ HB.out) (fun hHeld => ?_)
            clear hK K
            refine wpAnyH_take (i := 6) (v := ?v36) rfl (by kernel_rfl) (by kernel_rfl) (by kernel_rfl) (fun _ _ _ h => h) (Or.inl ⟨by rfl, ?hy36⟩) (by assumption) ?_
            case hy36 => (intro w hSw; clear hSw; go_simp; try with_reducible rfl)
            go_simp
            refine wpAnyH_ready (rs := [8]) (by kernel_rfl) (by simp) (AllReadyH.cons rfl (fun K hK => ?_) AllReadyH.nil)
            go_simp
            obtain ⟨k4, hk4⟩ : ∃ k, k = wc.heap.size := ⟨_, rfl⟩
            obtain ⟨wd, hwd⟩ : ∃ W, W = wc.alloc (.cells #[str ky, str y, .bool gn] 58) := ⟨_, rfl⟩
            have hbs : Below wc.heap.size wc wd := by rw [hwd]; exact below_alloc _ _
            have HL4 := Lib.hid (show wd.ownsRow W3.heap.size 58 3 (.slice (some ⟨k4, 0, none⟩) 1 1) 1 (cellsWr (ky, y, gn)) by rw [hwd, hk4]; exact World.ownsRow_lit (e := 58) (size := 3) wc #[str ky, str y, .bool gn] 1 HB.out.size (by decide) rfl)
            have HB := Lib.hid (HB.out.trans (hbs.mono HB.out.size))
            rw [← hwd, ← hk4]
            clear hwd hk4 hbs
            rename World => wc
            refine hK.out _ _ (HW.out _ HB.out) (fun hHeld => ?_)
            clear hK K
            refine wpAnyH_ready (rs := [15]) (by kernel_rfl) (by simp) (AllReadyH.cons rfl (fun K hK => ?_) AllReadyH.nil)
            refine step_appendG (by rfl) _ _ 54 (by rfl) W3.heap.size 58 i1 _ 3 40 Try.underlying54 hj hy0 hy1 hy2 rfl (by decide) k4 1 1 _ (by rfl) HL4.out _ (((L.map Prod.snd).drop p).map cellsWr) (cellsWr_len _) (one_cellsWr _) (by rfl) (rx_behind (HR.out.below HB.out) hpl) (fun c h => by first | exact ite_noneW h | cases h) ?_ ?_ HB.out.size ?_
            · simp [maxLen]; omega
            · simp; omega
            intro g8 c8 wd r8 gr8
            have HB := Lib.hid (HB.out.grown gr8 HB.out.size (fun k e => by cases e; exact (HL4.out.lt k4 rfl).1))
            have HR8 := Lib.hid (ins_rowW (R := (L.map Prod.snd)) (p := p) r8)
            clear r8 gr8
            rename World => wc
            go_simp
            refine hK.out _ _ (HW.out _ HB.out) (fun hHeld => ?_)
            clear hK K
            refine wpAnyH_ready (rs := [16]) (by kernel_rfl) (by simp) (AllReadyH.cons rfl (fun K hK => ?_) AllReadyH.nil)
            refine step_appendH (by rfl) _ _ 54 (by rfl) B 58 i1 _ 3 40 Try.underlying54 hj hy0 hy1 hy2 rfl (by decide) (.slice (some ⟨g, 0, none⟩) p c3) p _ (by rfl) (rx_ahead (HR.out.below HB.out) hpl) _ (((ky, y, gn) :: (L.map Prod.snd).drop p).map cellsWr) (cellsWr_len _) (one_cellsWr _) (by rfl) (HR8.out _ (by first | (simp; done) | (rw [List.length_map]))) (by simp) ?_ ?_ (Nat.le_trans HBS.out HB.out.size) ?_
            · simp [maxLen]; omega
            · simp; omega
            intro g9 c9 wd r9 gr9 lo9
            have HI := Lib.hid (HFI.out wd g9 c9 (rx_ins (L := L) hpl r9) ((Frm.of_below HB.out).trans (Frm.of_grown gr9 (fun k e => by first | exact e | (simpa [Value.ownBlock] using e))) (fun _ _ h => h)) (lo9.imp (fun e => by first | exact e | (simpa [Value.ownBlock] using e)) (fun e => by rw [e]; exact HB.out.size)))
            have HWF := Lib.hid (HWK.out wd ((Frm.of_below HB.out).trans (Frm.of_grown gr9 (fun k e => Or.inr (by first | exact e | (simpa [Value.ownBlock] using e)))) (fun _ _ h => h)))
            have HWG := Lib.hid (HWK.out _ (wrt_frm HI.out.1))
            clear r9 gr9 lo9
            rename World => wc
            rw [show p + (((ky, y, gn) :: (L.map Prod.snd).drop p).map cellsWr).length = L.length + 1 by simp; omega]
            go_simp
            refine hK.out _ _ (HWF.out) (fun hHeld => ?_)
            clear hK K
            refine wpAnyH_take (i := 17) (v := ?v37) rfl (by kernel_rfl) (by kernel_rfl) (by kernel_rfl) (fun _ _ _ h => h) (Or.inl ⟨by rfl, ?hy37⟩) (by assumption) ?_
            case hy37 => (intro w hSw; clear hSw; go_simp; try with_reducible rfl)
            go_simp
            refine wpAnyH_take (i := 18) (v := ?v38) rfl (by kernel_rfl) (by kernel_rfl) (by kernel_rfl) (fun _ _ _ h => h) (Or.inl ⟨by rfl, ?hy38⟩) (by assumption) ?_
            case hy38 => (intro w hSw; clear hSw; go_simp; try with_reducible rfl)
            go_simp
            refine wpAnyH_ready (rs := [19]) (by kernel_rfl) (by simp) (AllReadyH.cons rfl (fun K hK => ?_) AllReadyH.nil)
            have cq := HI.out.2.1
            have fq := HI.out.2.2
            go_simp
            clear cq fq
            refine hK.out _ _ (HWG.out) (fun hHeld => ?_)
            clear hK K
            refine wpAnyH_done (by kernel_rfl) ?_ _
            have HX := Lib.hid (HUP.out _ _ HI.out.1)
            clear HI HUP HFI HR HB
            go_wp2_with fail
            all_goals (go_ret; exact HX.out)
          · go_simp
            obtain ⟨k4, hk4⟩ : ∃ k, k = wc.heap.size := ⟨_, rfl⟩
            obtain ⟨wd, hwd⟩ : ∃ W, W = wc.alloc (.cells #[str ky, str y, .bool gn] 58) := ⟨_, rfl⟩
            have hbs : Below wc.heap.size wc wd := by rw [hwd]; exact below_alloc _ _
            have HL4 := Lib.hid (show wd.ownsRow W3.heap.size 58 3 (.slice (some ⟨k4, 0, none⟩) 1 1) 1 (cellsWr (ky, y, gn)) by rw [hwd, hk4]; exact World.ownsRow_lit (e := 58) (size := 3) wc #[str ky, str y, .bool gn] 1 HB.out.size (by decide) rfl)
            have HB := Lib.hid (HB.out.trans (hbs.mono HB.out.size))
            rw [← hwd, ← hk4]
            clear hwd hk4 hbs
            rename World => wc
            refine hK.out _ _ (HW.out _ HB.out) (fun hHeld => ?_)
            clear hK K
            refine wpAnyH_ready (rs := [4, 15]) (by kernel_rfl) (by simp) (AllReadyH.cons rfl (fun K hK => ?_) (AllReadyH.cons rfl (fun K hK => ?_) AllReadyH.nil))
            · have cq := (HR.out.below HB.out).cells.2.2.1
              go_simp
              clear cq
              refine hK.out _ _ (HW.out _ HB.out) (fun hHeld => ?_)
              clear hK K
              refine wpAnyH_take (i := 6) (v := ?v39) rfl (by kernel_rfl) (by kernel_rfl) (by kernel_rfl) (fun _ _ _ h => h) (Or.inl ⟨by rfl, ?hy39⟩) (by assumption) ?_
              case hy39 => (intro w hSw; clear hSw; go_simp; try with_reducible rfl)
              go_simp
              refine wpAnyH_ready (rs := [15]) (by kernel_rfl) (by simp) (AllReadyH.cons rfl (fun K hK => ?_) AllReadyH.nil)
              refine step_appendG (by rfl) _ _ 54 (by rfl) W3.heap.size 58 i1 _ 3 40 Try.underlying54 hj hy0 hy1 hy2 rfl (by decide) k4 1 1 _ (by rfl) HL4.out _ (((L.map Prod.snd).drop p).map cellsWr) (cellsWr_len _) (one_cellsWr _) (by rfl) (rx_behind (HR.out.below HB.out) hpl) (fun c h => by first | exact ite_noneW h | cases h) ?_ ?_ HB.out.size ?_
              · simp [maxLen]; omega
              · simp; omega
              intro g8 c8 wd r8 gr8
              have HB := Lib.hid (HB.out.grown gr8 HB.out.size (fun k e => by cases e; exact (HL4.out.lt k4 rfl).1))
              have HR8 := Lib.hid (ins_rowW (R := (L.map Prod.snd)) (p := p) r8)
              clear r8 gr8
              rename World => wc
              go_simp
              refine hK.out _ _ (HW.out _ HB.out) (fun hHeld => ?_)
              clear hK K
              refine wpAnyH_ready (rs := [16]) (by kernel_rfl) (by simp) (AllReadyH.cons rfl (fun K hK => ?_) AllReadyH.nil)
              refine step_appendH (by rfl) _ _ 54 (by rfl) B 58 i1 _ 3 40 Try.underlying54 hj hy0 hy1 hy2 rfl (by decide) (.slice (some ⟨g, 0, none⟩) p c3) p _ (by rfl) (rx_ahead (HR.out.below HB.out) hpl) _ (((ky, y, gn) :: (L.map Prod.snd).drop p).map cellsWr) (cellsWr_len _) (one_cellsWr _) (by rfl) (HR8.out _ (by first | (simp; done) | (rw [List.length_map]))) (by simp) ?_ ?_ (Nat.le_trans HBS.out HB.out.size) ?_
              · simp [maxLen]; omega
              · simp; omega
              intro g9 c9 wd r9 gr9 lo9
              have HI := Lib.hid (HFI.out wd g9 c9 (rx_ins (L := L) hpl r9) ((Frm.of_below HB.out).trans (Frm.of_grown gr9 (fun k e => by first | exact e | (simpa [Value.ownBlock] using e))) (fun _ _ h => h)) (lo9.imp (fun e => by first | exact e | (simpa [Value.ownBlock] using e)) (fun e => by rw [e]; exact HB.out.size)))
              have HWF := Lib.hid (HWK.out wd ((Frm.of_below HB.out).trans (Frm.of_grown gr9 (fun k e => Or.inr (by first | exact e | (simpa [Value.ownBlock] using e)))) (fun _ _ h => h)))
              have HWG := Lib.hid (HWK.out _ (wrt_frm HI.out.1))
              clear r9 gr9 lo9
              rename World => wc
              rw [show p + (((ky, y, gn) :: (L.map Prod.snd).drop p).map cellsWr).length = L.length + 1 by simp; omega]
              go_simp
              refine hK.out _ _ (HWF.out) (fun hHeld => ?_)
              clear hK K
              refine wpAnyH_take (i := 17) (v := ?v40) rfl (by kernel_rfl) (by kernel_rfl) (by kernel_rfl) (fun _ _ _ h => h) (Or.inl ⟨by rfl, ?hy40⟩) (by assumption) ?_
              case hy40 => (intro w hSw; clear hSw; go_simp; try with_reducible rfl)
              go_simp
              refine wpAnyH_take (i := 18) (v := ?v41) rfl (by kernel_rfl) (by kernel_rfl) (by kernel_rfl) (fun _ _ _ h => h) (Or.inl ⟨by rfl, ?hy41⟩) (by assumption) ?_
              case hy41 => (intro w hSw; clear hSw; go_simp; try with_reducible rfl)
              go_simp
              refine wpAnyH_ready (rs := [19]) (by kernel_rfl) (by simp) (AllReadyH.cons rfl (fun K hK => ?_) AllReadyH.nil)
              have cq := HI.out.2.1
              have fq := HI.out.2.2
              go_simp
              clear cq fq
              refine hK.out _ _ (HWG.out) (fun hHeld => ?_)
              clear hK K
              refine wpAnyH_done (by kernel_rfl) ?_ _
              have HX := Lib.hid (HUP.out _ _ HI.out.1)
              clear HI HUP HFI HR HB
              go_wp2_with fail
              all_goals (go_ret; exact HX.out)
            · refine step_appendG (by rfl) _ _ 54 (by rfl) W3.heap.size 58 i1 _ 3 40 Try.underlying54 hj hy0 hy1 hy2 rfl (by decide) k4 1 1 _ (by rfl) HL4.out _ (((L.map Prod.snd).drop p).map cellsWr) (cellsWr_len _) (one_cellsWr _) (by rfl) (rx_behind (HR.out.below HB.out) hpl) (fun c h => by first | exact ite_noneW h | cases h) ?_ ?_ HB.out.size ?_
              · simp [maxLen]; omega
              · simp; omega
              intro g8 c8 wd r8 gr8
              have HB := Lib.hid (HB.out.grown gr8 HB.out.size (fun k e => by cases e; exact (HL4.out.lt k4 rfl).1))
              have HR8 := Lib.hid (ins_rowW (R := (L.map Prod.snd)) (p := p) r8)
              clear r8 gr8
              rename World => wc
              go_simp
              refine hK.out _ _ (HW.out _ HB.out) (fun hHeld => ?_)
              clear hK K
              refine wpAnyH_ready (rs := [4]) (by kernel_rfl) (by simp) (AllReadyH.cons rfl (fun K hK => ?_) AllReadyH.nil)
              have cq := (HR.out.below HB.out).cells.2.2.1
              go_simp
              clear cq
              refine hK.out _ _ (HW.out _ HB.out) (fun hHeld => ?_)
              clear hK K
              refine wpAnyH_take (i := 6) (v := ?v42) rfl (by kernel_rfl) (by kernel_rfl) (by kernel_rfl) (fun _ _ _ h => h) (Or.inl ⟨by rfl, ?hy42⟩) (by assumption) ?_
              case hy42 => (intro w hSw; clear hSw; go_simp; try with_reducible rfl)
              go_simp
              refine wpAnyH_ready (rs := [16]) (by kernel_rfl) (by simp) (AllReadyH.cons rfl (fun K hK => ?_) AllReadyH.nil)
              refine step_appendH (by rfl) _ _ 54 (by rfl) B 58 i1 _ 3 40 Try.underlying54 hj hy0 hy1 hy2 rfl (by decide) (.slice (some ⟨g, 0, none⟩) p c3) p _ (by rfl) (rx_ahead (HR.out.below HB.out) hpl) _ (((ky, y, gn) :: (L.map Prod.snd).drop p).map cellsWr) (cellsWr_len _) (one_cellsWr _) (by rfl) (HR8.out _ (by first | (simp; done) | (rw [List.length_map]))) (by simp) ?_ ?_ (Nat.le_trans HBS.out HB.out.size) ?_
              · simp [maxLen]; omega
              · simp; omega
              intro g9 c9 wd r9 gr9 lo9
              have HI := Lib.hid (HFI.out wd g9 c9 (rx_ins (L := L) hpl r9) ((Frm.of_below HB.out).trans (Frm.of_grown gr9 (fun k e => by first | exact e | (simpa [Value.ownBlock] using e))) (fun _ _ h => h)) (lo9.imp (fun e => by first | exact e | (simpa [Value.ownBlock] using e)) (fun e => by rw [e]; exact HB.out.size)))
              have HWF := Lib.hid (HWK.out wd ((Frm.of_below HB.out).trans (Frm.of_grown gr9 (fun k e => Or.inr (by first | exact e | (simpa [Value.ownBlock] using e)))) (fun _ _ h => h)))
              have HWG := Lib.hid (HWK.out _ (wrt_frm HI.out.1))
              clear r9 gr9 lo9
              rename World => wc
              rw [show p + (((ky, y, gn) :: (L.map Prod.snd).drop p).map cellsWr).length = L.length + 1 by simp; omega]
              go_simp
              refine hK.out _ _ (HWF.out) (fun hHeld => ?_)
              clear hK K
              refine wpAnyH_take (i := 17) (v := ?v43) rfl (by kernel_rfl) (by kernel_rfl) (by kernel_rfl) (fun _ _ _ h => h) (Or.inl ⟨by rfl, ?hy43⟩) (by assumption) ?_
              case hy43 => (intro w hSw; clear hSw; go_simp; try with_reducible rfl)
              go_simp
              refine wpAnyH_take (i := 18) (v := ?v44) rfl (by kernel_rfl) (by kernel_rfl) (by kernel_rfl) (fun _ _ _ h => h) (Or.inl ⟨by rfl, ?hy44⟩) (by assumption) ?_
              case hy44 => (intro w hSw; clear hSw; go_simp; try with_reducible rfl)
              go_simp
              refine wpAnyH_ready (rs := [19]) (by kernel_rfl) (by simp) (AllReadyH.cons rfl (fun K hK => ?_) AllReadyH.nil)
              have cq := HI.out.2.1
              have fq := HI.out.2.2
              go_simp
              clear cq fq
              refine hK.out _ _ (HWG.out) (fun hHeld => ?_)
              clear hK K
              refine wpAnyH_done (by kernel_rfl) ?_ _
              have HX := Lib.hid (HUP.out _ _ HI.out.1)
              clear HI HUP HFI HR HB
              go_wp2_with fail
              all_goals (go_ret; exact HX.out)
    · have g5 : decide ((p : Int) < (L.length : Int)) = false := decide_eq_false (by omega)
      have g5' : ¬ (p : Int) < (L.length : Int) := by omega
      have HP : Hid (PlaceB ky L p) := Lib.hid (place_rx HRI.out (by omega) HLO.out (fun h => absurd h hlt3))
      have HNO : Hid (¬ ∃ h : p < L.length, L[p].1 = ky) := Lib.hid (fun ⟨h, _⟩ => hlt3 h)
      have HWC := Lib.hid (wrC_new (w := (ky, y, gn)) HSH.out HRI.out HP.out HNO.out)
      have hpe : p = L.length := by omega
      have HPE := Lib.hid hpe
      clear HLO hpe
      go_wp2_with fail
      go_quiet (fail)
      go_upto_region 6 with fail
      go_quiet (fail)
      go_upto_region 9 with fail
      generalize hW3 : ((W1.drewN q).drewN _).drewN _ = W3
      have hb3 : Below W1.heap.size W1 W3 := by rw [← hW3]; exact Below.drewsN (Below.drewsN (Below.drewsN (Below.refl _ _) _) _) _
      have hb03 := HB1.out.trans (hb3.mono HB1.out.size)
      have HR := Lib.hid (HR1.out.below hb3)
      have q4 := HR.out.cells.2.2.1
      by_cases h1000 : L.length = 1000
      · have e9 : decide ((1000 : Int) ≤ (L.length : Int)) = true := decide_eq_true (by omega)
        have e9' : (1000 : Int) ≤ (L.length : Int) := by omega
        have HX := Lib.hid (HN.out W3 17 hb3 (by rw [HWC.out, if_pos h1000]) (by decide))
        clear hW3 HN HR1 HB1 HW1 HH hb3 hb03 q0 q1 q2 q3 HR HWC HP HNO h1000
        go_wp2_with fail
        go_ret
        exact HX.out
      have e9 : decide ((1000 : Int) ≤ (L.length : Int)) = false := decide_eq_false (by omega)
      have e9' : ¬ (1000 : Int) ≤ (L.length : Int) := by omega
      have HZ : Hid (wrC L (ky, y, gn) = 0) := Lib.hid (by rw [HWC.out, if_neg h1000])
      have hL1 : L.length + 1 ≤ 1000 := by omega
      have HW : Hid (∀ W', Below W3.heap.size W3 W' → W'.cell? ⟨wx, 0, none⟩ = some (str ky) ∧ W'.cell? ⟨wx, 1, none⟩ = some (str y) ∧ W'.cell? ⟨wx, 2, none⟩ = some (.bool gn)) := Lib.hid (fun W' hb => HW1.out W' (hb3.trans (hb.mono hb3.size)))
      have HWX : Hid (∀ k, BlkT rb (.slice a3 L.length c3) k → k ≠ wx) := Lib.hid (fun k hk e => by have := HXN.out k hk; omega)
      have HWK : Hid (∀ W', Frm (BlkT rb (.slice a3 L.length c3)) W3 W' → W'.cell? ⟨wx, 0, none⟩ = some (str ky) ∧ W'.cell? ⟨wx, 1, none⟩ = some (str y) ∧ W'.cell? ⟨wx, 2, none⟩ = some (.bool gn)) := Lib.hid (fun W' hf => frm_three (HW.out W3 (Below.refl _ _)) hf (fun hk => HWX.out _ hk rfl))
      have HBS : Hid (B ≤ W3.heap.size) := Lib.hid (by have h1 := HR.out.lt; have h2 := HR.out.blt; omega)
      have HUP : Hid (∀ e W', WrtP W3 B rb b at1 (.slice a3 L.length c3) L (ky, y, gn) e W' → WrtP W B rb b at1 (.slice a3 L.length c3) L (ky, y, gn) e W') := Lib.hid (fun e W' h => wrt_up hb03 h)
      have HFI : Hid (∀ W6 g6 c, W6.ownsRow B 58 3 (.slice (some ⟨g6, 0, none⟩) (L.length + 1) c) ((L.map Prod.snd).take p ++ (ky, y, gn) :: (L.map Prod.snd).drop p).length (((L.map Prod.snd).take p ++ (ky, y, gn) :: (L.map Prod.snd).drop p).map cellsWr).flatten → Frm (fun k => Value.ownBlock (.slice a3 L.length c3) = some k) W3 W6 → (Value.ownBlock (.slice a3 L.length c3) = some g6 ∨ W3.heap.size ≤ g6) → WrtP W3 B rb b at1 (.slice a3 L.length c3) L (ky, y, gn) (.returned (.int .i64 0)) (W6.setCell ⟨rb, 2, none⟩ (.slice (some ⟨g6, 0, none⟩) (L.length + 1) c)) ∧ W6.cell? ⟨rb, 2, none⟩ = some (.slice a3 L.length c3) ∧ W6.frozen? ⟨rb, 2, none⟩ = false) := Lib.hid (fun W6 g6 c h1 h2 h3 => HR.out.insw HP.out HNO.out HZ.out hL1 h1 h2 h3)
      clear hW3 HN HR1 HB1 HW1 HH hb3 hb03 q0 q1 q2 q3 HWC HP HNO HZ h1000 HRI HSH HWX HXN
      obtain ⟨i1, hj, hy0, hy1, hy2⟩ := info_parts infoWr
      go_upto_region 11 with fail
      rcases HR.out.row.2 with ⟨hv, h0⟩ | ⟨g, cap, cur, hv, -, -, hcap, -⟩
      · obtain rfl := List.eq_nil_of_length_eq_zero h0
        simp only [Value.slice.injEq] at hv
        obtain ⟨rfl, -, rfl⟩ := hv
        obtain rfl : p = 0 := by simpa using hpl
        clear h0
        obtain ⟨wc, hwc⟩ : ∃ x, x = W3.drew := ⟨_, rfl⟩
        have HB := Lib.hid (show Below W3.heap.size W3 wc by rw [hwc]; exact Below.drewsN (Below.refl _ _) 1)
        refine wp_region_held_drew (S := (fun W' => W'.cell? ⟨wx, 0, none⟩ = some (str ky) ∧ W'.cell? ⟨wx, 1, none⟩ = some (str y) ∧ W'.cell? ⟨wx, 2, none⟩ = some (.bool gn))) (by kernel_rfl) (by rw [← hwc]; exact HW.out _ HB.out) (fun hHeld => ?_)
        rw [← hwc] at hHeld ⊢
        clear hwc
        refine wpAnyH_take (i := 0) (v := ?v45) rfl (by kernel_rfl) (by kernel_rfl) (by kernel_rfl) (fun _ _ _ h => h) (Or.inl ⟨by rfl, ?hy45⟩) (by assumption) ?_
        case hy45 => (intro w hSw; clear hSw; go_simp; try with_reducible rfl)
        go_simp
        refine wpAnyH_take (i := 1) (v := ?v46) rfl (by kernel_rfl) (by kernel_rfl) (by kernel_rfl) (fun _ _ _ h => h) (Or.inl ⟨by rfl, ?hy46⟩) (by assumption) ?_
        case hy46 => (intro w hSw; clear hSw; go_simp; try with_reducible rfl)
        go_simp
        refine wpAnyH_take (i := 2) (v := ?v47) rfl (by kernel_rfl) (by kernel_rfl) (by kernel_rfl) (fun _ _ _ h => h) (Or.inl ⟨by rfl, ?hy47⟩) (by assumption) ?_
        case hy47 => (intro w hSw; clear hSw; go_simp; try with_reducible rfl)
        go_simp
        refine wpAnyH_take (i := 3) (v := ?v48) rfl (by kernel_rfl) (by kernel_rfl) (by kernel_rfl) (fun _ _ _ h => h) (Or.inl ⟨by rfl, ?hy48⟩) (by assumption) ?_
        case hy48 => (intro w hSw; clear hSw; go_simp; try with_reducible rfl)
        go_simp
        refine wpAnyH_take (i := 5) (v := ?v49) rfl (by kernel_rfl) (by kernel_rfl) (by kernel_rfl) (fun _ _ _ h => h) (Or.inl ⟨by rfl, ?hy49⟩) (by assumption) ?_
        case hy49 => (intro w hSw; clear hSw; go_simp; try with_reducible rfl)
        go_simp
        refine wpAnyH_take (i := 7) (v := ?v50) rfl (by kernel_rfl) (by kernel_rfl) (by kernel_rfl) (fun _ _ _ h => h) (Or.inl ⟨by rfl, ?hy50⟩) (by assumption) ?_
        case hy50 => (intro w hSw; obtain ⟨hs0, hs1, hs2⟩ := hSw; go_simp; try with_reducible rfl)
        go_simp
        refine wpAnyH_take (i := 9) (v := ?v51) rfl (by kernel_rfl) (by kernel_rfl) (by kernel_rfl) (fun _ _ _ h => h) (Or.inl ⟨by rfl, ?hy51⟩) (by assumption) ?_
        case hy51 => (intro w hSw; clear hSw; go_simp; try with_reducible rfl)
        go_simp
        refine wpAnyH_take (i := 10) (v := ?v52) rfl (by kernel_rfl) (by kernel_rfl) (by kernel_rfl) (fun _ _ _ h => h) (Or.inl ⟨by rfl, ?hy52⟩) (by assumption) ?_
        case hy52 => (intro w hSw; clear hSw; go_simp; try with_reducible rfl)
        go_simp
        refine wpAnyH_take (i := 11) (v := ?v53) rfl (by kernel_rfl) (by kernel_rfl) (by kernel_rfl) (fun _ _ _ h => h) (Or.inl ⟨by rfl, ?hy53⟩) (by assumption) ?_
        case hy53 => (intro w hSw; clear hSw; go_simp; try with_reducible rfl)
        go_simp
        refine wpAnyH_take (i := 13) (v := ?v54) rfl (by kernel_rfl) (by kernel_rfl) (by kernel_rfl) (fun _ _ _ h => h) (Or.inl ⟨by rfl, ?hy54⟩) (by assumption) ?_
        case hy54 => (intro w hSw; clear hSw; go_simp; try with_reducible rfl)
        go_simp
        refine wpAnyH_ready (rs := [4, 8, 12]) (by kernel_rfl) (by simp) (AllReadyH.cons rfl (fun K hK => ?_) (AllReadyH.cons rfl (fun K hK => ?_) (AllReadyH.cons rfl (fun K hK => ?_) AllReadyH.nil)))
        · have cq := (HR.out.below HB.out).cells.2.2.1
          go_simp
          clear cq
          refine hK.out _ _ (HW.out _ HB.out) (fun hHeld => ?_)
          clear hK K
          refine wpAnyH_take (i := 6) (v := ?v55) rfl (by kernel_rfl) (by kernel_rfl) (by kernel_rfl) (fun _ _ _ h => h) (Or.inl ⟨by rfl, ?hy55⟩) (by assumption) ?_
          case hy55 => (intro w hSw; clear hSw; go_simp; try with_reducible rfl)
          go_simp
          refine wpAnyH_ready (rs := [8, 12]) (by kernel_rfl) (by simp) (AllReadyH.cons rfl (fun K hK => ?_) (AllReadyH.cons rfl (fun K hK => ?_) AllReadyH.nil))
          · go_simp
            obtain ⟨k4, hk4⟩ : ∃ k, k = wc.heap.size := ⟨_, rfl⟩
            obtain ⟨wd, hwd⟩ : ∃ W, W = wc.alloc (.cells #[str ky, str y, .bool gn] 58) := ⟨_, rfl⟩
            have hbs : Below wc.heap.size wc wd := by rw [hwd]; exact below_alloc _ _
            have HL4 := Lib.hid (show wd.ownsRow W3.heap.size 58 3 (.slice (some ⟨k4, 0, none⟩) 1 1) 1 (cellsWr (ky, y, gn)) by rw [hwd, hk4]; exact World.ownsRow_lit (e := 58) (size := 3) wc #[str ky, str y, .bool gn] 1 HB.out.size (by decide) rfl)
            have HB := Lib.hid (HB.out.trans (hbs.mono HB.out.size))
            rw [← hwd, ← hk4]
            clear hwd hk4 hbs
            rename World => wc
            refine hK.out _ _ (HW.out _ HB.out) (fun hHeld => ?_)
            clear hK K
            refine wpAnyH_ready (rs := [12]) (by kernel_rfl) (by simp) (AllReadyH.cons rfl (fun K hK => ?_) AllReadyH.nil)
            have cq := (HR.out.below HB.out).cells.2.2.1
            go_simp
            clear cq
            refine hK.out _ _ (HW.out _ HB.out) (fun hHeld => ?_)
            clear hK K
            refine wpAnyH_take (i := 14) (v := ?v56) rfl (by kernel_rfl) (by kernel_rfl) (by kernel_rfl) (fun _ _ _ h => h) (Or.inl ⟨by rfl, ?hy56⟩) (by assumption) ?_
            case hy56 => (intro w hSw; clear hSw; go_simp; try with_reducible rfl)
            go_simp
            refine wpAnyH_ready (rs := [15]) (by kernel_rfl) (by simp) (AllReadyH.cons rfl (fun K hK => ?_) AllReadyH.nil)
            refine step_appendG (by rfl) _ _ 54 (by rfl) W3.heap.size 58 i1 _ 3 40 Try.underlying54 hj hy0 hy1 hy2 rfl (by decide) k4 1 1 _ (by rfl) HL4.out _ (List.map cellsWr []) (cellsWr_len _) (one_cellsWr _) (by rfl) ((show RdF 3 wc (.slice none 0 0) (List.map cellsWr []) from ⟨none, 0, rfl, by simp, by simp, by simp, fun h => absurd rfl h⟩)) (fun c h => by cases h; rfl) ?_ ?_ HB.out.size ?_
            · simp [maxLen]
            · simp
            intro g8 c8 wd r8 gr8
            have HB := Lib.hid (HB.out.grown gr8 HB.out.size (fun k e => by cases e; exact (HL4.out.lt k4 rfl).1))
            have HR8 := Lib.hid (ins_rowW (R := []) (p := 0) r8)
            clear r8 gr8
            rename World => wc
            go_simp
            refine hK.out _ _ (HW.out _ HB.out) (fun hHeld => ?_)
            clear hK K
            refine wpAnyH_ready (rs := [16]) (by kernel_rfl) (by simp) (AllReadyH.cons rfl (fun K hK => ?_) AllReadyH.nil)
            refine step_appendH (by rfl) _ _ 54 (by rfl) B 58 i1 _ 3 40 Try.underlying54 hj hy0 hy1 hy2 rfl (by decide) (.slice none 0 0) 0 [] (by rfl) (World.ownsRow_nil _ _ _ _) _ (((ky, y, gn) :: List.drop 0 []).map cellsWr) (cellsWr_len _) (one_cellsWr _) (by rfl) (HR8.out _ (by first | (simp; done) | (rw [List.length_map]))) (by simp) ?_ ?_ (Nat.le_trans HBS.out HB.out.size) ?_
            · simp [maxLen]
            · simp
            intro g9 c9 wd r9 gr9 lo9
            have HI := Lib.hid (HFI.out wd g9 c9 (rx_ins0 r9) ((Frm.of_below HB.out).trans (Frm.of_grown gr9 (fun k e => by first | exact e | (simpa [Value.ownBlock] using e))) (fun _ _ h => h)) (lo9.imp (fun e => by first | exact e | (simpa [Value.ownBlock] using e)) (fun e => by rw [e]; exact HB.out.size)))
            have HWF := Lib.hid (HWK.out wd ((Frm.of_below HB.out).trans (Frm.of_grown gr9 (fun k e => Or.inr (by first | exact e | (simpa [Value.ownBlock] using e)))) (fun _ _ h => h)))
            have HWG := Lib.hid (HWK.out _ (wrt_frm HI.out.1))
            clear r9 gr9 lo9
            rename World => wc
            go_simp
            refine hK.out _ _ (HWF.out) (fun hHeld => ?_)
            clear hK K
            refine wpAnyH_take (i := 17) (v := ?v57) rfl (by kernel_rfl) (by kernel_rfl) (by kernel_rfl) (fun _ _ _ h => h) (Or.inl ⟨by rfl, ?hy57⟩) (by assumption) ?_
            case hy57 => (intro w hSw; clear hSw; go_simp; try with_reducible rfl)
            go_simp
            refine wpAnyH_take (i := 18) (v := ?v58) rfl (by kernel_rfl) (by kernel_rfl) (by kernel_rfl) (fun _ _ _ h => h) (Or.inl ⟨by rfl, ?hy58⟩) (by assumption) ?_
            case hy58 => (intro w hSw; clear hSw; go_simp; try with_reducible rfl)
            go_simp
            refine wpAnyH_ready (rs := [19]) (by kernel_rfl) (by simp) (AllReadyH.cons rfl (fun K hK => ?_) AllReadyH.nil)
            have cq := HI.out.2.1
            have fq := HI.out.2.2
            go_simp
            clear cq fq
            refine hK.out _ _ (HWG.out) (fun hHeld => ?_)
            clear hK K
            refine wpAnyH_done (by kernel_rfl) ?_ _
            have HX := Lib.hid (HUP.out _ _ HI.out.1)
            clear HI HUP HFI HR HB
            go_wp2_with fail
            all_goals (go_ret; exact HX.out)
          · have cq := (HR.out.below HB.out).cells.2.2.1
            go_simp
            clear cq
            refine hK.out _ _ (HW.out _ HB.out) (fun hHeld => ?_)
            clear hK K
            refine wpAnyH_take (i := 14) (v := ?v59) rfl (by kernel_rfl) (by kernel_rfl) (by kernel_rfl) (fun _ _ _ h => h) (Or.inl ⟨by rfl, ?hy59⟩) (by assumption) ?_
            case hy59 => (intro w hSw; clear hSw; go_simp; try with_reducible rfl)
            go_simp
            refine wpAnyH_ready (rs := [8]) (by kernel_rfl) (by simp) (AllReadyH.cons rfl (fun K hK => ?_) AllReadyH.nil)
            go_simp
            obtain ⟨k4, hk4⟩ : ∃ k, k = wc.heap.size := ⟨_, rfl⟩
            obtain ⟨wd, hwd⟩ : ∃ W, W = wc.alloc (.cells #[str ky, str y, .bool gn] 58) := ⟨_, rfl⟩
            have hbs : Below wc.heap.size wc wd := by rw [hwd]; exact below_alloc _ _
            have HL4 := Lib.hid (show wd.ownsRow W3.heap.size 58 3 (.slice (some ⟨k4, 0, none⟩) 1 1) 1 (cellsWr (ky, y, gn)) by rw [hwd, hk4]; exact World.ownsRow_lit (e := 58) (size := 3) wc #[str ky, str y, .bool gn] 1 HB.out.size (by decide) rfl)
            have HB := Lib.hid (HB.out.trans (hbs.mono HB.out.size))
            rw [← hwd, ← hk4]
            clear hwd hk4 hbs
            rename World => wc
            refine hK.out _ _ (HW.out _ HB.out) (fun hHeld => ?_)
            clear hK K
            refine wpAnyH_ready (rs := [15]) (by kernel_rfl) (by simp) (AllReadyH.cons rfl (fun K hK => ?_) AllReadyH.nil)
            refine step_appendG (by rfl) _ _ 54 (by rfl) W3.heap.size 58 i1 _ 3 40 Try.underlying54 hj hy0 hy1 hy2 rfl (by decide) k4 1 1 _ (by rfl) HL4.out _ (List.map cellsWr []) (cellsWr_len _) (one_cellsWr _) (by rfl) ((show RdF 3 wc (.slice none 0 0) (List.map cellsWr []) from ⟨none, 0, rfl, by simp, by simp, by simp, fun h => absurd rfl h⟩)) (fun c h => by cases h; rfl) ?_ ?_ HB.out.size ?_
            · simp [maxLen]
            · simp
            intro g8 c8 wd r8 gr8
            have HB := Lib.hid (HB.out.grown gr8 HB.out.size (fun k e => by cases e; exact (HL4.out.lt k4 rfl).1))
            have HR8 := Lib.hid (ins_rowW (R := []) (p := 0) r8)
            clear r8 gr8
            rename World => wc
            go_simp
            refine hK.out _ _ (HW.out _ HB.out) (fun hHeld => ?_)
            clear hK K
            refine wpAnyH_ready (rs := [16]) (by kernel_rfl) (by simp) (AllReadyH.cons rfl (fun K hK => ?_) AllReadyH.nil)
            refine step_appendH (by rfl) _ _ 54 (by rfl) B 58 i1 _ 3 40 Try.underlying54 hj hy0 hy1 hy2 rfl (by decide) (.slice none 0 0) 0 [] (by rfl) (World.ownsRow_nil _ _ _ _) _ (((ky, y, gn) :: List.drop 0 []).map cellsWr) (cellsWr_len _) (one_cellsWr _) (by rfl) (HR8.out _ (by first | (simp; done) | (rw [List.length_map]))) (by simp) ?_ ?_ (Nat.le_trans HBS.out HB.out.size) ?_
            · simp [maxLen]
            · simp
            intro g9 c9 wd r9 gr9 lo9
            have HI := Lib.hid (HFI.out wd g9 c9 (rx_ins0 r9) ((Frm.of_below HB.out).trans (Frm.of_grown gr9 (fun k e => by first | exact e | (simpa [Value.ownBlock] using e))) (fun _ _ h => h)) (lo9.imp (fun e => by first | exact e | (simpa [Value.ownBlock] using e)) (fun e => by rw [e]; exact HB.out.size)))
            have HWF := Lib.hid (HWK.out wd ((Frm.of_below HB.out).trans (Frm.of_grown gr9 (fun k e => Or.inr (by first | exact e | (simpa [Value.ownBlock] using e)))) (fun _ _ h => h)))
            have HWG := Lib.hid (HWK.out _ (wrt_frm HI.out.1))
            clear r9 gr9 lo9
            rename World => wc
            go_simp
            refine hK.out _ _ (HWF.out) (fun hHeld => ?_)
            clear hK K
            refine wpAnyH_take (i := 17) (v := ?v60) rfl (by kernel_rfl) (by kernel_rfl) (by kernel_rfl) (fun _ _ _ h => h) (Or.inl ⟨by rfl, ?hy60⟩) (by assumption) ?_
            case hy60 => (intro w hSw; clear hSw; go_simp; try with_reducible rfl)
            go_simp
            refine wpAnyH_take (i := 18) (v := ?v61) rfl (by kernel_rfl) (by kernel_rfl) (by kernel_rfl) (fun _ _ _ h => h) (Or.inl ⟨by rfl, ?hy61⟩) (by assumption) ?_
            case hy61 => (intro w hSw; clear hSw; go_simp; try with_reducible rfl)
            go_simp
            refine wpAnyH_ready (rs := [19]) (by kernel_rfl) (by simp) (AllReadyH.cons rfl (fun K hK => ?_) AllReadyH.nil)
            have cq := HI.out.2.1
            have fq := HI.out.2.2
            go_simp
            clear cq fq
            refine hK.out _ _ (HWG.out) (fun hHeld => ?_)
            clear hK K
            refine wpAnyH_done (by kernel_rfl) ?_ _
            have HX := Lib.hid (HUP.out _ _ HI.out.1)
            clear HI HUP HFI HR HB
            go_wp2_with fail
            all_goals (go_ret; exact HX.out)
        · go_simp
          obtain ⟨k4, hk4⟩ : ∃ k, k = wc.heap.size := ⟨_, rfl⟩
          obtain ⟨wd, hwd⟩ : ∃ W, W = wc.alloc (.cells #[str ky, str y, .bool gn] 58) := ⟨_, rfl⟩
          have hbs : Below wc.heap.size wc wd := by rw [hwd]; exact below_alloc _ _
          have HL4 := Lib.hid (show wd.ownsRow W3.heap.size 58 3 (.slice (some ⟨k4, 0, none⟩) 1 1) 1 (cellsWr (ky, y, gn)) by rw [hwd, hk4]; exact World.ownsRow_lit (e := 58) (size := 3) wc #[str ky, str y, .bool gn] 1 HB.out.size (by decide) rfl)
          have HB := Lib.hid (HB.out.trans (hbs.mono HB.out.size))
          rw [← hwd, ← hk4]
          clear hwd hk4 hbs
          rename World => wc
          refine hK.out _ _ (HW.out _ HB.out) (fun hHeld => ?_)
          clear hK K
          refine wpAnyH_ready (rs := [4, 12]) (by kernel_rfl) (by simp) (AllReadyH.cons rfl (fun K hK => ?_) (AllReadyH.cons rfl (fun K hK => ?_) AllReadyH.nil))
          · have cq := (HR.out.below HB.out).cells.2.2.1
            go_simp
            clear cq
            refine hK.out _ _ (HW.out _ HB.out) (fun hHeld => ?_)
            clear hK K
            refine wpAnyH_take (i := 6) (v := ?v62) rfl (by kernel_rfl) (by kernel_rfl) (by kernel_rfl) (fun _ _ _ h => h) (Or.inl ⟨by rfl, ?hy62⟩) (by assumption) ?_
            case hy62 => (intro w hSw; clear hSw; go_simp; try with_reducible rfl)
            go_simp
            refine wpAnyH_ready (rs := [12]) (by kernel_rfl) (by simp) (AllReadyH.cons rfl (fun K hK => ?_) AllReadyH.nil)
            have cq := (HR.out.below HB.out).cells.2.2.1
            go_simp
            clear cq
            refine hK.out _ _ (HW.out _ HB.out) (fun hHeld => ?_)
            clear hK K
            refine wpAnyH_take (i := 14) (v := ?v63) rfl (by kernel_rfl) (by kernel_rfl) (by kernel_rfl) (fun _ _ _ h => h) (Or.inl ⟨by rfl, ?hy63⟩) (by assumption) ?_
            case hy63 => (intro w hSw; clear hSw; go_simp; try with_reducible rfl)
            go_simp
            refine wpAnyH_ready (rs := [15]) (by kernel_rfl) (by simp) (AllReadyH.cons rfl (fun K hK => ?_) AllReadyH.nil)
            refine step_appendG (by rfl) _ _ 54 (by rfl) W3.heap.size 58 i1 _ 3 40 Try.underlying54 hj hy0 hy1 hy2 rfl (by decide) k4 1 1 _ (by rfl) HL4.out _ (List.map cellsWr []) (cellsWr_len _) (one_cellsWr _) (by rfl) ((show RdF 3 wc (.slice none 0 0) (List.map cellsWr []) from ⟨none, 0, rfl, by simp, by simp, by simp, fun h => absurd rfl h⟩)) (fun c h => by cases h; rfl) ?_ ?_ HB.out.size ?_
            · simp [maxLen]
            · simp
            intro g8 c8 wd r8 gr8
            have HB := Lib.hid (HB.out.grown gr8 HB.out.size (fun k e => by cases e; exact (HL4.out.lt k4 rfl).1))
            have HR8 := Lib.hid (ins_rowW (R := []) (p := 0) r8)
            clear r8 gr8
            rename World => wc
            go_simp
            refine hK.out _ _ (HW.out _ HB.out) (fun hHeld => ?_)
            clear hK K
            refine wpAnyH_ready (rs := [16]) (by kernel_rfl) (by simp) (AllReadyH.cons rfl (fun K hK => ?_) AllReadyH.nil)
            refine step_appendH (by rfl) _ _ 54 (by rfl) B 58 i1 _ 3 40 Try.underlying54 hj hy0 hy1 hy2 rfl (by decide) (.slice none 0 0) 0 [] (by rfl) (World.ownsRow_nil _ _ _ _) _ (((ky, y, gn) :: List.drop 0 []).map cellsWr) (cellsWr_len _) (one_cellsWr _) (by rfl) (HR8.out _ (by first | (simp; done) | (rw [List.length_map]))) (by simp) ?_ ?_ (Nat.le_trans HBS.out HB.out.size) ?_
            · simp [maxLen]
            · simp
            intro g9 c9 wd r9 gr9 lo9
            have HI := Lib.hid (HFI.out wd g9 c9 (rx_ins0 r9) ((Frm.of_below HB.out).trans (Frm.of_grown gr9 (fun k e => by first | exact e | (simpa [Value.ownBlock] using e))) (fun _ _ h => h)) (lo9.imp (fun e => by first | exact e | (simpa [Value.ownBlock] using e)) (fun e => by rw [e]; exact HB.out.size)))
            have HWF := Lib.hid (HWK.out wd ((Frm.of_below HB.out).trans (Frm.of_grown gr9 (fun k e => Or.inr (by first | exact e | (simpa [Value.ownBlock] using e)))) (fun _ _ h => h)))
            have HWG := Lib.hid (HWK.out _ (wrt_frm HI.out.1))
            clear r9 gr9 lo9
            rename World => wc
            go_simp
            refine hK.out _ _ (HWF.out) (fun hHeld => ?_)
            clear hK K
            refine wpAnyH_take (i := 17) (v := ?v64) rfl (by kernel_rfl) (by kernel_rfl) (by kernel_rfl) (fun _ _ _ h => h) (Or.inl ⟨by rfl, ?hy64⟩) (by assumption) ?_
            case hy64 => (intro w hSw; clear hSw; go_simp; try with_reducible rfl)
            go_simp
            refine wpAnyH_take (i := 18) (v := ?v65) rfl (by kernel_rfl) (by kernel_rfl) (by kernel_rfl) (fun _ _ _ h => h) (Or.inl ⟨by rfl, ?hy65⟩) (by assumption) ?_
            case hy65 => (intro w hSw; clear hSw; go_simp; try with_reducible rfl)
            go_simp
            refine wpAnyH_ready (rs := [19]) (by kernel_rfl) (by simp) (AllReadyH.cons rfl (fun K hK => ?_) AllReadyH.nil)
            have cq := HI.out.2.1
            have fq := HI.out.2.2
            go_simp
            clear cq fq
            refine hK.out _ _ (HWG.out) (fun hHeld => ?_)
            clear hK K
            refine wpAnyH_done (by kernel_rfl) ?_ _
            have HX := Lib.hid (HUP.out _ _ HI.out.1)
            clear HI HUP HFI HR HB
            go_wp2_with fail
            all_goals (go_ret; exact HX.out)
          · have cq := (HR.out.below HB.out).cells.2.2.1
            go_simp
            clear cq
            refine hK.out _ _ (HW.out _ HB.out) (fun hHeld => ?_)
            clear hK K
            refine wpAnyH_take (i := 14) (v := ?v66) rfl (by kernel_rfl) (by kernel_rfl) (by kernel_rfl) (fun _ _ _ h => h) (Or.inl ⟨by rfl, ?hy66⟩) (by assumption) ?_
            case hy66 => (intro w hSw; clear hSw; go_simp; try with_reducible rfl)
            go_simp
            refine wpAnyH_ready (rs := [4, 15]) (by kernel_rfl) (by simp) (AllReadyH.cons rfl (fun K hK => ?_) (AllReadyH.cons rfl (fun K hK => ?_) AllReadyH.nil))
            · have cq := (HR.out.below HB.out).cells.2.2.1
              go_simp
              clear cq
              refine hK.out _ _ (HW.out _ HB.out) (fun hHeld => ?_)
              clear hK K
              refine wpAnyH_take (i := 6) (v := ?v67) rfl (by kernel_rfl) (by kernel_rfl) (by kernel_rfl) (fun _ _ _ h => h) (Or.inl ⟨by rfl, ?hy67⟩) (by assumption) ?_
              case hy67 => (intro w hSw; clear hSw; go_simp; try with_reducible rfl)
              go_simp
              refine wpAnyH_ready (rs := [15]) (by kernel_rfl) (by simp) (AllReadyH.cons rfl (fun K hK => ?_) AllReadyH.nil)
              refine step_appendG (by rfl) _ _ 54 (by rfl) W3.heap.size 58 i1 _ 3 40 Try.underlying54 hj hy0 hy1 hy2 rfl (by decide) k4 1 1 _ (by rfl) HL4.out _ (List.map cellsWr []) (cellsWr_len _) (one_cellsWr _) (by rfl) ((show RdF 3 wc (.slice none 0 0) (List.map cellsWr []) from ⟨none, 0, rfl, by simp, by simp, by simp, fun h => absurd rfl h⟩)) (fun c h => by cases h; rfl) ?_ ?_ HB.out.size ?_
              · simp [maxLen]
              · simp
              intro g8 c8 wd r8 gr8
              have HB := Lib.hid (HB.out.grown gr8 HB.out.size (fun k e => by cases e; exact (HL4.out.lt k4 rfl).1))
              have HR8 := Lib.hid (ins_rowW (R := []) (p := 0) r8)
              clear r8 gr8
              rename World => wc
              go_simp
              refine hK.out _ _ (HW.out _ HB.out) (fun hHeld => ?_)
              clear hK K
              refine wpAnyH_ready (rs := [16]) (by kernel_rfl) (by simp) (AllReadyH.cons rfl (fun K hK => ?_) AllReadyH.nil)
              refine step_appendH (by rfl) _ _ 54 (by rfl) B 58 i1 _ 3 40 Try.underlying54 hj hy0 hy1 hy2 rfl (by decide) (.slice none 0 0) 0 [] (by rfl) (World.ownsRow_nil _ _ _ _) _ (((ky, y, gn) :: List.drop 0 []).map cellsWr) (cellsWr_len _) (one_cellsWr _) (by rfl) (HR8.out _ (by first | (simp; done) | (rw [List.length_map]))) (by simp) ?_ ?_ (Nat.le_trans HBS.out HB.out.size) ?_
              · simp [maxLen]
              · simp
              intro g9 c9 wd r9 gr9 lo9
              have HI := Lib.hid (HFI.out wd g9 c9 (rx_ins0 r9) ((Frm.of_below HB.out).trans (Frm.of_grown gr9 (fun k e => by first | exact e | (simpa [Value.ownBlock] using e))) (fun _ _ h => h)) (lo9.imp (fun e => by first | exact e | (simpa [Value.ownBlock] using e)) (fun e => by rw [e]; exact HB.out.size)))
              have HWF := Lib.hid (HWK.out wd ((Frm.of_below HB.out).trans (Frm.of_grown gr9 (fun k e => Or.inr (by first | exact e | (simpa [Value.ownBlock] using e)))) (fun _ _ h => h)))
              have HWG := Lib.hid (HWK.out _ (wrt_frm HI.out.1))
              clear r9 gr9 lo9
              rename World => wc
              go_simp
              refine hK.out _ _ (HWF.out) (fun hHeld => ?_)
              clear hK K
              refine wpAnyH_take (i := 17) (v := ?v68) rfl (by kernel_rfl) (by kernel_rfl) (by kernel_rfl) (fun _ _ _ h => h) (Or.inl ⟨by rfl, ?hy68⟩) (by assumption) ?_
              case hy68 => (intro w hSw; clear hSw; go_simp; try with_reducible rfl)
              go_simp
              refine wpAnyH_take (i := 18) (v := ?v69) rfl (by kernel_rfl) (by kernel_rfl) (by kernel_rfl) (fun _ _ _ h => h) (Or.inl ⟨by rfl, ?hy69⟩) (by assumption) ?_
              case hy69 => (intro w hSw; clear hSw; go_simp; try with_reducible rfl)
              go_simp
              refine wpAnyH_ready (rs := [19]) (by kernel_rfl) (by simp) (AllReadyH.cons rfl (fun K hK => ?_) AllReadyH.nil)
              have cq := HI.out.2.1
              have fq := HI.out.2.2
              go_simp
              clear cq fq
              refine hK.out _ _ (HWG.out) (fun hHeld => ?_)
              clear hK K
              refine wpAnyH_done (by kernel_rfl) ?_ _
              have HX := Lib.hid (HUP.out _ _ HI.out.1)
              clear HI HUP HFI HR HB
              go_wp2_with fail
              all_goals (go_ret; exact HX.out)
            · refine step_appendG (by rfl) _ _ 54 (by rfl) W3.heap.size 58 i1 _ 3 40 Try.underlying54 hj hy0 hy1 hy2 rfl (by decide) k4 1 1 _ (by rfl) HL4.out _ (List.map cellsWr []) (cellsWr_len _) (one_cellsWr _) (by rfl) ((show RdF 3 wc (.slice none 0 0) (List.map cellsWr []) from ⟨none, 0, rfl, by simp, by simp, by simp, fun h => absurd rfl h⟩)) (fun c h => by cases h; rfl) ?_ ?_ HB.out.size ?_
              · simp [maxLen]
              · simp
              intro g8 c8 wd r8 gr8
              have HB := Lib.hid (HB.out.grown gr8 HB.out.size (fun k e => by cases e; exact (HL4.out.lt k4 rfl).1))
              have HR8 := Lib.hid (ins_rowW (R := []) (p := 0) r8)
              clear r8 gr8
              rename World => wc
              go_simp
              refine hK.out _ _ (HW.out _ HB.out) (fun hHeld => ?_)
              clear hK K
              refine wpAnyH_ready (rs := [4]) (by kernel_rfl) (by simp) (AllReadyH.cons rfl (fun K hK => ?_) AllReadyH.nil)
              have cq := (HR.out.below HB.out).cells.2.2.1
              go_simp
              clear cq
              refine hK.out _ _ (HW.out _ HB.out) (fun hHeld => ?_)
              clear hK K
              refine wpAnyH_take (i := 6) (v := ?v70) rfl (by kernel_rfl) (by kernel_rfl) (by kernel_rfl) (fun _ _ _ h => h) (Or.inl ⟨by rfl, ?hy70⟩) (by assumption) ?_
              case hy70 => (intro w hSw; clear hSw; go_simp; try with_reducible rfl)
              go_simp
              refine wpAnyH_ready (rs := [16]) (by kernel_rfl) (by simp) (AllReadyH.cons rfl (fun K hK => ?_) AllReadyH.nil)
              refine step_appendH (by rfl) _ _ 54 (by rfl) B 58 i1 _ 3 40 Try.underlying54 hj hy0 hy1 hy2 rfl (by decide) (.slice none 0 0) 0 [] (by rfl) (World.ownsRow_nil _ _ _ _) _ (((ky, y, gn) :: List.drop 0 []).map cellsWr) (cellsWr_len _) (one_cellsWr _) (by rfl) (HR8.out _ (by first | (simp; done) | (rw [List.length_map]))) (by simp) ?_ ?_ (Nat.le_trans HBS.out HB.out.size) ?_
              · simp [maxLen]
              · simp
              intro g9 c9 wd r9 gr9 lo9
              have HI := Lib.hid (HFI.out wd g9 c9 (rx_ins0 r9) ((Frm.of_below HB.out).trans (Frm.of_grown gr9 (fun k e => by first | exact e | (simpa [Value.ownBlock] using e))) (fun _ _ h => h)) (lo9.imp (fun e => by first | exact e | (simpa [Value.ownBlock] using e)) (fun e => by rw [e]; exact HB.out.size)))
              have HWF := Lib.hid (HWK.out wd ((Frm.of_below HB.out).trans (Frm.of_grown gr9 (fun k e => Or.inr (by first | exact e | (simpa [Value.ownBlock] using e)))) (fun _ _ h => h)))
              have HWG := Lib.hid (HWK.out _ (wrt_frm HI.out.1))
              clear r9 gr9 lo9
              rename World => wc
              go_simp
              refine hK.out _ _ (HWF.out) (fun hHeld => ?_)
              clear hK K
              refine wpAnyH_take (i := 17) (v := ?v71) rfl (by kernel_rfl) (by kernel_rfl) (by kernel_rfl) (fun _ _ _ h => h) (Or.inl ⟨by rfl, ?hy71⟩) (by assumption) ?_
              case hy71 => (intro w hSw; clear hSw; go_simp; try with_reducible rfl)
              go_simp
              refine wpAnyH_take (i := 18) (v := ?v72) rfl (by kernel_rfl) (by kernel_rfl) (by kernel_rfl) (fun _ _ _ h => h) (Or.inl ⟨by rfl, ?hy72⟩) (by assumption) ?_
              case hy72 => (intro w hSw; clear hSw; go_simp; try with_reducible rfl)
              go_simp
              refine wpAnyH_ready (rs := [19]) (by kernel_rfl) (by simp) (AllReadyH.cons rfl (fun K hK => ?_) AllReadyH.nil)
              have cq := HI.out.2.1
              have fq := HI.out.2.2
              go_simp
              clear cq fq
              refine hK.out _ _ (HWG.out) (fun hHeld => ?_)
              clear hK K
              refine wpAnyH_done (by kernel_rfl) ?_ _
              have HX := Lib.hid (HUP.out _ _ HI.out.1)
              clear HI HUP HFI HR HB
              go_wp2_with fail
              all_goals (go_ret; exact HX.out)
        · have cq := (HR.out.below HB.out).cells.2.2.1
          go_simp
          clear cq
          refine hK.out _ _ (HW.out _ HB.out) (fun hHeld => ?_)
          clear hK K
          refine wpAnyH_take (i := 14) (v := ?v73) rfl (by kernel_rfl) (by kernel_rfl) (by kernel_rfl) (fun _ _ _ h => h) (Or.inl ⟨by rfl, ?hy73⟩) (by assumption) ?_
          case hy73 => (intro w hSw; clear hSw; go_simp; try with_reducible rfl)
          go_simp
          refine wpAnyH_ready (rs := [4, 8]) (by kernel_rfl) (by simp) (AllReadyH.cons rfl (fun K hK => ?_) (AllReadyH.cons rfl (fun K hK => ?_) AllReadyH.nil))
          · have cq := (HR.out.below HB.out).cells.2.2.1
            go_simp
            clear cq
            refine hK.out _ _ (HW.out _ HB.out) (fun hHeld => ?_)
            clear hK K
            refine wpAnyH_take (i := 6) (v := ?v74) rfl (by kernel_rfl) (by kernel_rfl) (by kernel_rfl) (fun _ _ _ h => h) (Or.inl ⟨by rfl, ?hy74⟩) (by assumption) ?_
            case hy74 => (intro w hSw; clear hSw; go_simp; try with_reducible rfl)
            go_simp
            refine wpAnyH_ready (rs := [8]) (by kernel_rfl) (by simp) (AllReadyH.cons rfl (fun K hK => ?_) AllReadyH.nil)
            go_simp
            obtain ⟨k4, hk4⟩ : ∃ k, k = wc.heap.size := ⟨_, rfl⟩
            obtain ⟨wd, hwd⟩ : ∃ W, W = wc.alloc (.cells #[str ky, str y, .bool gn] 58) := ⟨_, rfl⟩
            have hbs : Below wc.heap.size wc wd := by rw [hwd]; exact below_alloc _ _
            have HL4 := Lib.hid (show wd.ownsRow W3.heap.size 58 3 (.slice (some ⟨k4, 0, none⟩) 1 1) 1 (cellsWr (ky, y, gn)) by rw [hwd, hk4]; exact World.ownsRow_lit (e := 58) (size := 3) wc #[str ky, str y, .bool gn] 1 HB.out.size (by decide) rfl)
            have HB := Lib.hid (HB.out.trans (hbs.mono HB.out.size))
            rw [← hwd, ← hk4]
            clear hwd hk4 hbs
            rename World => wc
            refine hK.out _ _ (HW.out _ HB.out) (fun hHeld => ?_)
            clear hK K
            refine wpAnyH_ready (rs := [15]) (by kernel_rfl) (by simp) (AllReadyH.cons rfl (fun K hK => ?_) AllReadyH.nil)
            refine step_appendG (by rfl) _ _ 54 (by rfl) W3.heap.size 58 i1 _ 3 40 Try.underlying54 hj hy0 hy1 hy2 rfl (by decide) k4 1 1 _ (by rfl) HL4.out _ (List.map cellsWr []) (cellsWr_len _) (one_cellsWr _) (by rfl) ((show RdF 3 wc (.slice none 0 0) (List.map cellsWr []) from ⟨none, 0, rfl, by simp, by simp, by simp, fun h => absurd rfl h⟩)) (fun c h => by cases h; rfl) ?_ ?_ HB.out.size ?_
            · simp [maxLen]
            · simp
            intro g8 c8 wd r8 gr8
            have HB := Lib.hid (HB.out.grown gr8 HB.out.size (fun k e => by cases e; exact (HL4.out.lt k4 rfl).1))
            have HR8 := Lib.hid (ins_rowW (R := []) (p := 0) r8)
            clear r8 gr8
            rename World => wc
            go_simp
            refine hK.out _ _ (HW.out _ HB.out) (fun hHeld => ?_)
            clear hK K
            refine wpAnyH_ready (rs := [16]) (by kernel_rfl) (by simp) (AllReadyH.cons rfl (fun K hK => ?_) AllReadyH.nil)
            refine step_appendH (by rfl) _ _ 54 (by rfl) B 58 i1 _ 3 40 Try.underlying54 hj hy0 hy1 hy2 rfl (by decide) (.slice none 0 0) 0 [] (by rfl) (World.ownsRow_nil _ _ _ _) _ (((ky, y, gn) :: List.drop 0 []).map cellsWr) (cellsWr_len _) (one_cellsWr _) (by rfl) (HR8.out _ (by first | (simp; done) | (rw [List.length_map]))) (by simp) ?_ ?_ (Nat.le_trans HBS.out HB.out.size) ?_
            · simp [maxLen]
            · simp
            intro g9 c9 wd r9 gr9 lo9
            have HI := Lib.hid (HFI.out wd g9 c9 (rx_ins0 r9) ((Frm.of_below HB.out).trans (Frm.of_grown gr9 (fun k e => by first | exact e | (simpa [Value.ownBlock] using e))) (fun _ _ h => h)) (lo9.imp (fun e => by first | exact e | (simpa [Value.ownBlock] using e)) (fun e => by rw [e]; exact HB.out.size)))
            have HWF := Lib.hid (HWK.out wd ((Frm.of_below HB.out).trans (Frm.of_grown gr9 (fun k e => Or.inr (by first | exact e | (simpa [Value.ownBlock] using e)))) (fun _ _ h => h)))
            have HWG := Lib.hid (HWK.out _ (wrt_frm HI.out.1))
            clear r9 gr9 lo9
            rename World => wc
            go_simp
            refine hK.out _ _ (HWF.out) (fun hHeld => ?_)
            clear hK K
            refine wpAnyH_take (i := 17) (v := ?v75) rfl (by kernel_rfl) (by kernel_rfl) (by kernel_rfl) (fun _ _ _ h => h) (Or.inl ⟨by rfl, ?hy75⟩) (by assumption) ?_
            case hy75 => (intro w hSw; clear hSw; go_simp; try with_reducible rfl)
            go_simp
            refine wpAnyH_take (i := 18) (v := ?v76) rfl (by kernel_rfl) (by kernel_rfl) (by kernel_rfl) (fun _ _ _ h => h) (Or.inl ⟨by rfl, ?hy76⟩) (by assumption) ?_
            case hy76 => (intro w hSw; clear hSw; go_simp; try with_reducible rfl)
            go_simp
            refine wpAnyH_ready (rs := [19]) (by kernel_rfl) (by simp) (AllReadyH.cons rfl (fun K hK => ?_) AllReadyH.nil)
            have cq := HI.out.2.1
            have fq := HI.out.2.2
            go_simp
            clear cq fq
            refine hK.out _ _ (HWG.out) (fun hHeld => ?_)
            clear hK K
            refine wpAnyH_done (by kernel_rfl) ?_ _
            have HX := Lib.hid (HUP.out _ _ HI.out.1)
            clear HI HUP HFI HR HB
            go_wp2_with fail
            all_goals (go_ret; exact HX.out)
          · go_simp
            obtain ⟨k4, hk4⟩ : ∃ k, k = wc.heap.size := ⟨_, rfl⟩
            obtain ⟨wd, hwd⟩ : ∃ W, W = wc.alloc (.cells #[str ky, str y, .bool gn] 58) := ⟨_, rfl⟩
            have hbs : Below wc.heap.size wc wd := by rw [hwd]; exact below_alloc _ _
            have HL4 := Lib.hid (show wd.ownsRow W3.heap.size 58 3 (.slice (some ⟨k4, 0, none⟩) 1 1) 1 (cellsWr (ky, y, gn)) by rw [hwd, hk4]; exact World.ownsRow_lit (e := 58) (size := 3) wc #[str ky, str y, .bool gn] 1 HB.out.size (by decide) rfl)
            have HB := Lib.hid (HB.out.trans (hbs.mono HB.out.size))
            rw [← hwd, ← hk4]
            clear hwd hk4 hbs
            rename World => wc
            refine hK.out _ _ (HW.out _ HB.out) (fun hHeld => ?_)
            clear hK K
            refine wpAnyH_ready (rs := [4, 15]) (by kernel_rfl) (by simp) (AllReadyH.cons rfl (fun K hK => ?_) (AllReadyH.cons rfl (fun K hK => ?_) AllReadyH.nil))
            · have cq := (HR.out.below HB.out).cells.2.2.1
              go_simp
              clear cq
              refine hK.out _ _ (HW.out _ HB.out) (fun hHeld => ?_)
              clear hK K
              refine wpAnyH_take (i := 6) (v := ?v77) rfl (by kernel_rfl) (by kernel_rfl) (by kernel_rfl) (fun _ _ _ h => h) (Or.inl ⟨by rfl, ?hy77⟩) (by assumption) ?_
              case hy77 => (intro w hSw; clear hSw; go_simp; try with_reducible rfl)
              go_simp
              refine wpAnyH_ready (rs := [15]) (by kernel_rfl) (by simp) (AllReadyH.cons rfl (fun K hK => ?_) AllReadyH.nil)
              refine step_appendG (by rfl) _ _ 54 (by rfl) W3.heap.size 58 i1 _ 3 40 Try.underlying54 hj hy0 hy1 hy2 rfl (by decide) k4 1 1 _ (by rfl) HL4.out _ (List.map cellsWr []) (cellsWr_len _) (one_cellsWr _) (by rfl) ((show RdF 3 wc (.slice none 0 0) (List.map cellsWr []) from ⟨none, 0, rfl, by simp, by simp, by simp, fun h => absurd rfl h⟩)) (fun c h => by cases h; rfl) ?_ ?_ HB.out.size ?_
              · simp [maxLen]
              · simp
              intro g8 c8 wd r8 gr8
              have HB := Lib.hid (HB.out.grown gr8 HB.out.size (fun k e => by cases e; exact (HL4.out.lt k4 rfl).1))
              have HR8 := Lib.hid (ins_rowW (R := []) (p := 0) r8)
              clear r8 gr8
              rename World => wc
              go_simp
              refine hK.out _ _ (HW.out _ HB.out) (fun hHeld => ?_)
              clear hK K
              refine wpAnyH_ready (rs := [16]) (by kernel_rfl) (by simp) (AllReadyH.cons rfl (fun K hK => ?_) AllReadyH.nil)
              refine step_appendH (by rfl) _ _ 54 (by rfl) B 58 i1 _ 3 40 Try.underlying54 hj hy0 hy1 hy2 rfl (by decide) (.slice none 0 0) 0 [] (by rfl) (World.ownsRow_nil _ _ _ _) _ (((ky, y, gn) :: List.drop 0 []).map cellsWr) (cellsWr_len _) (one_cellsWr _) (by rfl) (HR8.out _ (by first | (simp; done) | (rw [List.length_map]))) (by simp) ?_ ?_ (Nat.le_trans HBS.out HB.out.size) ?_
              · simp [maxLen]
              · simp
              intro g9 c9 wd r9 gr9 lo9
              have HI := Lib.hid (HFI.out wd g9 c9 (rx_ins0 r9) ((Frm.of_below HB.out).trans (Frm.of_grown gr9 (fun k e => by first | exact e | (simpa [Value.ownBlock] using e))) (fun _ _ h => h)) (lo9.imp (fun e => by first | exact e | (simpa [Value.ownBlock] using e)) (fun e => by rw [e]; exact HB.out.size)))
              have HWF := Lib.hid (HWK.out wd ((Frm.of_below HB.out).trans (Frm.of_grown gr9 (fun k e => Or.inr (by first | exact e | (simpa [Value.ownBlock] using e)))) (fun _ _ h => h)))
              have HWG := Lib.hid (HWK.out _ (wrt_frm HI.out.1))
              clear r9 gr9 lo9
              rename World => wc
              go_simp
              refine hK.out _ _ (HWF.out) (fun hHeld => ?_)
              clear hK K
              refine wpAnyH_take (i := 17) (v := ?v78) rfl (by kernel_rfl) (by kernel_rfl) (by kernel_rfl) (fun _ _ _ h => h) (Or.inl ⟨by rfl, ?hy78⟩) (by assumption) ?_
              case hy78 => (intro w hSw; clear hSw; go_simp; try with_reducible rfl)
              go_simp
              refine wpAnyH_take (i := 18) (v := ?v79) rfl (by kernel_rfl) (by kernel_rfl) (by kernel_rfl) (fun _ _ _ h => h) (Or.inl ⟨by rfl, ?hy79⟩) (by assumption) ?_
              case hy79 => (intro w hSw; clear hSw; go_simp; try with_reducible rfl)
              go_simp
              refine wpAnyH_ready (rs := [19]) (by kernel_rfl) (by simp) (AllReadyH.cons rfl (fun K hK => ?_) AllReadyH.nil)
              have cq := HI.out.2.1
              have fq := HI.out.2.2
              go_simp
              clear cq fq
              refine hK.out _ _ (HWG.out) (fun hHeld => ?_)
              clear hK K
              refine wpAnyH_done (by kernel_rfl) ?_ _
              have HX := Lib.hid (HUP.out _ _ HI.out.1)
              clear HI HUP HFI HR HB
              go_wp2_with fail
              all_goals (go_ret; exact HX.out)
            · refine step_appendG (by rfl) _ _ 54 (by rfl) W3.heap.size 58 i1 _ 3 40 Try.underlying54 hj hy0 hy1 hy2 rfl (by decide) k4 1 1 _ (by rfl) HL4.out _ (List.map cellsWr []) (cellsWr_len _) (one_cellsWr _) (by rfl) ((show RdF 3 wc (.slice none 0 0) (List.map cellsWr []) from ⟨none, 0, rfl, by simp, by simp, by simp, fun h => absurd rfl h⟩)) (fun c h => by cases h; rfl) ?_ ?_ HB.out.size ?_
              · simp [maxLen]
              · simp
              intro g8 c8 wd r8 gr8
              have HB := Lib.hid (HB.out.grown gr8 HB.out.size (fun k e => by cases e; exact (HL4.out.lt k4 rfl).1))
              have HR8 := Lib.hid (ins_rowW (R := []) (p := 0) r8)
              clear r8 gr8
              rename World => wc
              go_simp
              refine hK.out _ _ (HW.out _ HB.out) (fun hHeld => ?_)
              clear hK K
              refine wpAnyH_ready (rs := [4]) (by kernel_rfl) (by simp) (AllReadyH.cons rfl (fun K hK => ?_) AllReadyH.nil)
              have cq := (HR.out.below HB.out).cells.2.2.1
              go_simp
              clear cq
              refine hK.out _ _ (HW.out _ HB.out) (fun hHeld => ?_)
              clear hK K
              refine wpAnyH_take (i := 6) (v := ?v80) rfl (by kernel_rfl) (by kernel_rfl) (by kernel_rfl) (fun _ _ _ h => h) (Or.inl ⟨by rfl, ?hy80⟩) (by assumption) ?_
              case hy80 => (intro w hSw; clear hSw; go_simp; try with_reducible rfl)
              go_simp
              refine wpAnyH_ready (rs := [16]) (by kernel_rfl) (by simp) (AllReadyH.cons rfl (fun K hK => ?_) AllReadyH.nil)
              refine step_appendH (by rfl) _ _ 54 (by rfl) B 58 i1 _ 3 40 Try.underlying54 hj hy0 hy1 hy2 rfl (by decide) (.slice none 0 0) 0 [] (by rfl) (World.ownsRow_nil _ _ _ _) _ (((ky, y, gn) :: List.drop 0 []).map cellsWr) (cellsWr_len _) (one_cellsWr _) (by rfl) (HR8.out _ (by first | (simp; done) | (rw [List.length_map]))) (by simp) ?_ ?_ (Nat.le_trans HBS.out HB.out.size) ?_
              · simp [maxLen]
              · simp
              intro g9 c9 wd r9 gr9 lo9
              have HI := Lib.hid (HFI.out wd g9 c9 (rx_ins0 r9) ((Frm.of_below HB.out).trans (Frm.of_grown gr9 (fun k e => by first | exact e | (simpa [Value.ownBlock] using e))) (fun _ _ h => h)) (lo9.imp (fun e => by first | exact e | (simpa [Value.ownBlock] using e)) (fun e => by rw [e]; exact HB.out.size)))
              have HWF := Lib.hid (HWK.out wd ((Frm.of_below HB.out).trans (Frm.of_grown gr9 (fun k e => Or.inr (by first | exact e | (simpa [Value.ownBlock] using e)))) (fun _ _ h => h)))
              have HWG := Lib.hid (HWK.out _ (wrt_frm HI.out.1))
              clear r9 gr9 lo9
              rename World => wc
              go_simp
              refine hK.out _ _ (HWF.out) (fun hHeld => ?_)
              clear hK K
              refine wpAnyH_take (i := 17) (v := ?v81) rfl (by kernel_rfl) (by kernel_rfl) (by kernel_rfl) (fun _ _ _ h => h) (Or.inl ⟨by rfl, ?hy81⟩) (by assumption) ?_
              case hy81 => (intro w hSw; clear hSw; go_simp; try with_reducible rfl)
              go_simp
              refine wpAnyH_take (i := 18) (v := ?v82) rfl (by kernel_rfl) (by kernel_rfl) (by kernel_rfl) (fun _ _ _ h => h) (Or.inl ⟨by rfl, ?hy82⟩) (by assumption) ?_
              case hy82 => (intro w hSw; clear hSw; go_simp; try with_reducible rfl)
              go_simp
              refine wpAnyH_ready (rs := [19]) (by kernel_rfl) (by simp) (AllReadyH.cons rfl (fun K hK => ?_) AllReadyH.nil)
              have cq := HI.out.2.1
              have fq := HI.out.2.2
              go_simp
              clear cq fq
              refine hK.out _ _ (HWG.out) (fun hHeld => ?_)
              clear hK K
              refine wpAnyH_done (by kernel_rfl) ?_ _
              have HX := Lib.hid (HUP.out _ _ HI.out.1)
              clear HI HUP HFI HR HB
              go_wp2_with fail
              all_goals (go_ret; exact HX.out)
      · simp only [Value.slice.injEq, true_and] at hv
        obtain ⟨rfl, rfl⟩ := hv
        have hpc : p ≤ c3 := Nat.le_trans hpl hcap
        clear hcap cur
        obtain ⟨wc, hwc⟩ : ∃ x, x = W3.drew := ⟨_, rfl⟩
        have HB := Lib.hid (show Below W3.heap.size W3 wc by rw [hwc]; exact Below.drewsN (Below.refl _ _) 1)
        refine wp_region_held_drew (S := (fun W' => W'.cell? ⟨wx, 0, none⟩ = some (str ky) ∧ W'.cell? ⟨wx, 1, none⟩ = some (str y) ∧ W'.cell? ⟨wx, 2, none⟩ = some (.bool gn))) (by kernel_rfl) (by rw [← hwc]; exact HW.out _ HB.out) (fun hHeld => ?_)
        rw [← hwc] at hHeld ⊢
        clear hwc
        refine wpAnyH_take (i := 0) (v := ?v83) rfl (by kernel_rfl) (by kernel_rfl) (by kernel_rfl) (fun _ _ _ h => h) (Or.inl ⟨by rfl, ?hy83⟩) (by assumption) ?_
        case hy83 => (intro w hSw; clear hSw; go_simp; try with_reducible rfl)
        go_simp
        refine wpAnyH_take (i := 1) (v := ?v84) rfl (by kernel_rfl) (by kernel_rfl) (by kernel_rfl) (fun _ _ _ h => h) (Or.inl ⟨by rfl, ?hy84⟩) (by assumption) ?_
        case hy84 => (intro w hSw; clear hSw; go_simp; try with_reducible rfl)
        go_simp
        refine wpAnyH_take (i := 2) (v := ?v85) rfl (by kernel_rfl) (by kernel_rfl) (by kernel_rfl) (fun _ _ _ h => h) (Or.inl ⟨by rfl, ?hy85⟩) (by assumption) ?_
        case hy85 => (intro w hSw; clear hSw; go_simp; try with_reducible rfl)
        go_simp
        refine wpAnyH_take (i := 3) (v := ?v86) rfl (by kernel_rfl) (by kernel_rfl) (by kernel_rfl) (fun _ _ _ h => h) (Or.inl ⟨by rfl, ?hy86⟩) (by assumption) ?_
        case hy86 => (intro w hSw; clear hSw; go_simp; try with_reducible rfl)
        go_simp
        refine wpAnyH_take (i := 5) (v := ?v87) rfl (by kernel_rfl) (by kernel_rfl) (by kernel_rfl) (fun _ _ _ h => h) (Or.inl ⟨by rfl, ?hy87⟩) (by assumption) ?_
        case hy87 => (intro w hSw; clear hSw; go_simp; try with_reducible rfl)
        go_simp
        refine wpAnyH_take (i := 7) (v := ?v88) rfl (by kernel_rfl) (by kernel_rfl) (by kernel_rfl) (fun _ _ _ h => h) (Or.inl ⟨by rfl, ?hy88⟩) (by assumption) ?_
        case hy88 => (intro w hSw; obtain ⟨hs0, hs1, hs2⟩ := hSw; go_simp; try with_reducible rfl)
        go_simp
        refine wpAnyH_take (i := 9) (v := ?v89) rfl (by kernel_rfl) (by kernel_rfl) (by kernel_rfl) (fun _ _ _ h => h) (Or.inl ⟨by rfl, ?hy89⟩) (by assumption) ?_
        case hy89 => (intro w hSw; clear hSw; go_simp; try with_reducible rfl)
        go_simp
        refine wpAnyH_take (i := 10) (v := ?v90) rfl (by kernel_rfl) (by kernel_rfl) (by kernel_rfl) (fun _ _ _ h => h) (Or.inl ⟨by rfl, ?hy90⟩) (by assumption) ?_
        case hy90 => (intro w hSw; clear hSw; go_simp; try with_reducible rfl)
        go_simp
        refine wpAnyH_take (i := 11) (v := ?v91) rfl (by kernel_rfl) (by kernel_rfl) (by kernel_rfl) (fun _ _ _ h => h) (Or.inl ⟨by rfl, ?hy91⟩) (by assumption) ?_
        case hy91 => (intro w hSw; clear hSw; go_simp; try with_reducible rfl)
        go_simp
        refine wpAnyH_take (i := 13) (v := ?v92) rfl (by kernel_rfl) (by kernel_rfl) (by kernel_rfl) (fun _ _ _ h => h) (Or.inl ⟨by rfl, ?hy92⟩) (by assumption) ?_
        case hy92 => (intro w hSw; clear hSw; go_simp; try with_reducible rfl)
        go_simp
        refine wpAnyH_ready (rs := [4, 8, 12]) (by kernel_rfl) (by simp) (AllReadyH.cons rfl (fun K hK => ?_) (AllReadyH.cons rfl (fun K hK => ?_) (AllReadyH.cons rfl (fun K hK => ?_) AllReadyH.nil)))
        · have cq := (HR.out.below HB.out).cells.2.2.1
          go_simp
          clear cq
          refine hK.out _ _ (HW.out _ HB.out) (fun hHeld => ?_)
          clear hK K
          refine wpAnyH_take (i := 6) (v := ?v93) rfl (by kernel_rfl) (by kernel_rfl) (by kernel_rfl) (fun _ _ _ h => h) (Or.inl ⟨by rfl, ?hy93⟩) (by assumption) ?_
          case hy93 => (intro w hSw; clear hSw; go_simp; try with_reducible rfl)
          go_simp
          refine wpAnyH_ready (rs := [8, 12]) (by kernel_rfl) (by simp) (AllReadyH.cons rfl (fun K hK => ?_) (AllReadyH.cons rfl (fun K hK => ?_) AllReadyH.nil))
          · go_simp
            obtain ⟨k4, hk4⟩ : ∃ k, k = wc.heap.size := ⟨_, rfl⟩
            obtain ⟨wd, hwd⟩ : ∃ W, W = wc.alloc (.cells #[str ky, str y, .bool gn] 58) := ⟨_, rfl⟩
            have hbs : Below wc.heap.size wc wd := by rw [hwd]; exact below_alloc _ _
            have HL4 := Lib.hid (show wd.ownsRow W3.heap.size 58 3 (.slice (some ⟨k4, 0, none⟩) 1 1) 1 (cellsWr (ky, y, gn)) by rw [hwd, hk4]; exact World.ownsRow_lit (e := 58) (size := 3) wc #[str ky, str y, .bool gn] 1 HB.out.size (by decide) rfl)
            have HB := Lib.hid (HB.out.trans (hbs.mono HB.out.size))
            rw [← hwd, ← hk4]
            clear hwd hk4 hbs
            rename World => wc
            refine hK.out _ _ (HW.out _ HB.out) (fun hHeld => ?_)
            clear hK K
            refine wpAnyH_ready (rs := [12]) (by kernel_rfl) (by simp) (AllReadyH.cons rfl (fun K hK => ?_) AllReadyH.nil)
            have cq := (HR.out.below HB.out).cells.2.2.1
            go_simp
            clear cq
            refine hK.out _ _ (HW.out _ HB.out) (fun hHeld => ?_)
            clear hK K
            refine wpAnyH_take (i := 14) (v := ?v94) rfl (by kernel_rfl) (by kernel_rfl) (by kernel_rfl) (fun _ _ _ h => h) (Or.inl ⟨by rfl, ?hy94⟩) (by assumption) ?_
            case hy94 => (intro w hSw; clear hSw; go_simp; try with_reducible rfl)
            go_simp
            refine wpAnyH_ready (rs := [15]) (by kernel_rfl) (by simp) (AllReadyH.cons rfl (fun K hK => ?_) AllReadyH.nil)
            refine step_appendG (by rfl) _ _ 54 (by rfl) W3.heap.size 58 i1 _ 3 40 Try.underlying54 hj hy0 hy1 hy2 rfl (by decide) k4 1 1 _ (by rfl) HL4.out _ (((L.map Prod.snd).drop p).map cellsWr) (cellsWr_len _) (one_cellsWr _) (by rfl) (rx_behind (HR.out.below HB.out) hpl) (fun c h => by first | exact ite_noneW h | cases h) ?_ ?_ HB.out.size ?_
            · simp [maxLen]; omega
            · simp; omega
            intro g8 c8 wd r8 gr8
            have HB := Lib.hid (HB.out.grown gr8 HB.out.size (fun k e => by cases e; exact (HL4.out.lt k4 rfl).1))
            have HR8 := Lib.hid (ins_rowW (R := (L.map Prod.snd)) (p := p) r8)
            clear r8 gr8
            rename World => wc
            go_simp
            refine hK.out _ _ (HW.out _ HB.out) (fun hHeld => ?_)
            clear hK K
            refine wpAnyH_ready (rs := [16]) (by kernel_rfl) (by simp) (AllReadyH.cons rfl (fun K hK => ?_) AllReadyH.nil)
            refine step_appendH (by rfl) _ _ 54 (by rfl) B 58 i1 _ 3 40 Try.underlying54 hj hy0 hy1 hy2 rfl (by decide) (.slice (some ⟨g, 0, none⟩) p c3) p _ (by rfl) (rx_ahead (HR.out.below HB.out) hpl) _ (((ky, y, gn) :: (L.map Prod.snd).drop p).map cellsWr) (cellsWr_len _) (one_cellsWr _) (by rfl) (HR8.out _ (by first | (simp; done) | (rw [List.length_map]))) (by simp) ?_ ?_ (Nat.le_trans HBS.out HB.out.size) ?_
            · simp [maxLen]; omega
            · simp; omega
            intro g9 c9 wd r9 gr9 lo9
            have HI := Lib.hid (HFI.out wd g9 c9 (rx_ins (L := L) hpl r9) ((Frm.of_below HB.out).trans (Frm.of_grown gr9 (fun k e => by first | exact e | (simpa [Value.ownBlock] using e))) (fun _ _ h => h)) (lo9.imp (fun e => by first | exact e | (simpa [Value.ownBlock] using e)) (fun e => by rw [e]; exact HB.out.size)))
            have HWF := Lib.hid (HWK.out wd ((Frm.of_below HB.out).trans (Frm.of_grown gr9 (fun k e => Or.inr (by first | exact e | (simpa [Value.ownBlock] using e)))) (fun _ _ h => h)))
            have HWG := Lib.hid (HWK.out _ (wrt_frm HI.out.1))
            clear r9 gr9 lo9
            rename World => wc
            rw [show p + (((ky, y, gn) :: (L.map Prod.snd).drop p).map cellsWr).length = L.length + 1 by simp; omega]
            go_simp
            refine hK.out _ _ (HWF.out) (fun hHeld => ?_)
            clear hK K
            refine wpAnyH_take (i := 17) (v := ?v95) rfl (by kernel_rfl) (by kernel_rfl) (by kernel_rfl) (fun _ _ _ h => h) (Or.inl ⟨by rfl, ?hy95⟩) (by assumption) ?_
            case hy95 => (intro w hSw; clear hSw; go_simp; try with_reducible rfl)
            go_simp
            refine wpAnyH_take (i := 18) (v := ?v96) rfl (by kernel_rfl) (by kernel_rfl) (by kernel_rfl) (fun _ _ _ h => h) (Or.inl ⟨by rfl, ?hy96⟩) (by assumption) ?_
            case hy96 => (intro w hSw; clear hSw; go_simp; try with_reducible rfl)
            go_simp
            refine wpAnyH_ready (rs := [19]) (by kernel_rfl) (by simp) (AllReadyH.cons rfl (fun K hK => ?_) AllReadyH.nil)
            have cq := HI.out.2.1
            have fq := HI.out.2.2
            go_simp
            clear cq fq
            refine hK.out _ _ (HWG.out) (fun hHeld => ?_)
            clear hK K
            refine wpAnyH_done (by kernel_rfl) ?_ _
            have HX := Lib.hid (HUP.out _ _ HI.out.1)
            clear HI HUP HFI HR HB
            go_wp2_with fail
            all_goals (go_ret; exact HX.out)
          · have cq := (HR.out.below HB.out).cells.2.2.1
            go_simp
            clear cq
            refine hK.out _ _ (HW.out _ HB.out) (fun hHeld => ?_)
            clear hK K
            refine wpAnyH_take (i := 14) (v := ?v97) rfl (by kernel_rfl) (by kernel_rfl) (by kernel_rfl) (fun _ _ _ h => h) (Or.inl ⟨by rfl, ?hy97⟩) (by assumption) ?_
            case hy97 => (intro w hSw; clear hSw; go_simp; try with_reducible rfl)
            go_simp
            refine wpAnyH_ready (rs := [8]) (by kernel_rfl) (by simp) (AllReadyH.cons rfl (fun K hK => ?_) AllReadyH.nil)
            go_simp
            obtain ⟨k4, hk4⟩ : ∃ k, k = wc.heap.size := ⟨_, rfl⟩
            obtain ⟨wd, hwd⟩ : ∃ W, W = wc.alloc (.cells #[str ky, str y, .bool gn] 58) := ⟨_, rfl⟩
            have hbs : Below wc.heap.size wc wd := by rw [hwd]; exact below_alloc _ _
            have HL4 := Lib.hid (show wd.ownsRow W3.heap.size 58 3 (.slice (some ⟨k4, 0, none⟩) 1 1) 1 (cellsWr (ky, y, gn)) by rw [hwd, hk4]; exact World.ownsRow_lit (e := 58) (size := 3) wc #[str ky, str y, .bool gn] 1 HB.out.size (by decide) rfl)
            have HB := Lib.hid (HB.out.trans (hbs.mono HB.out.size))
            rw [← hwd, ← hk4]
            clear hwd hk4 hbs
            rename World => wc
            refine hK.out _ _ (HW.out _ HB.out) (fun hHeld => ?_)
            clear hK K
            refine wpAnyH_ready (rs := [15]) (by kernel_rfl) (by simp) (AllReadyH.cons rfl (fun K hK => ?_) AllReadyH.nil)
            refine step_appendG (by rfl) _ _ 54 (by rfl) W3.heap.size 58 i1 _ 3 40 Try.underlying54 hj hy0 hy1 hy2 rfl (by decide) k4 1 1 _ (by rfl) HL4.out _ (((L.map Prod.snd).drop p).map cellsWr) (cellsWr_len _) (one_cellsWr _) (by rfl) (rx_behind (HR.out.below HB.out) hpl) (fun c h => by first | exact ite_noneW h | cases h) ?_ ?_ HB.out.size ?_
            · simp [maxLen]; omega
            · simp; omega
            intro g8 c8 wd r8 gr8
            have HB := Lib.hid (HB.out.grown gr8 HB.out.size (fun k e => by cases e; exact (HL4.out.lt k4 rfl).1))
            have HR8 := Lib.hid (ins_rowW (R := (L.map Prod.snd)) (p := p) r8)
            clear r8 gr8
            rename World => wc
            go_simp
            refine hK.out _ _ (HW.out _ HB.out) (fun hHeld => ?_)
            clear hK K
            refine wpAnyH_ready (rs := [16]) (by kernel_rfl) (by simp) (AllReadyH.cons rfl (fun K hK => ?_) AllReadyH.nil)
            refine step_appendH (by rfl) _ _ 54 (by rfl) B 58 i1 _ 3 40 Try.underlying54 hj hy0 hy1 hy2 rfl (by decide) (.slice (some ⟨g, 0, none⟩) p c3) p _ (by rfl) (rx_ahead (HR.out.below HB.out) hpl) _ (((ky, y, gn) :: (L.map Prod.snd).drop p).map cellsWr) (cellsWr_len _) (one_cellsWr _) (by rfl) (HR8.out _ (by first | (simp; done) | (rw [List.length_map]))) (by simp) ?_ ?_ (Nat.le_trans HBS.out HB.out.size) ?_
            · simp [maxLen]; omega
            · simp; omega
            intro g9 c9 wd r9 gr9 lo9
            have HI := Lib.hid (HFI.out wd g9 c9 (rx_ins (L := L) hpl r9) ((Frm.of_below HB.out).trans (Frm.of_grown gr9 (fun k e => by first | exact e | (simpa [Value.ownBlock] using e))) (fun _ _ h => h)) (lo9.imp (fun e => by first | exact e | (simpa [Value.ownBlock] using e)) (fun e => by rw [e]; exact HB.out.size)))
            have HWF := Lib.hid (HWK.out wd ((Frm.of_below HB.out).trans (Frm.of_grown gr9 (fun k e => Or.inr (by first | exact e | (simpa [Value.ownBlock] using e)))) (fun _ _ h => h)))
            have HWG := Lib.hid (HWK.out _ (wrt_frm HI.out.1))
            clear r9 gr9 lo9
            rename World => wc
            rw [show p + (((ky, y, gn) :: (L.map Prod.snd).drop p).map cellsWr).length = L.length + 1 by simp; omega]
            go_simp
            refine hK.out _ _ (HWF.out) (fun hHeld => ?_)
            clear hK K
            refine wpAnyH_take (i := 17) (v := ?v98) rfl (by kernel_rfl) (by kernel_rfl) (by kernel_rfl) (fun _ _ _ h => h) (Or.inl ⟨by rfl, ?hy98⟩) (by assumption) ?_
            case hy98 => (intro w hSw; clear hSw; go_simp; try with_reducible rfl)
            go_simp
            refine wpAnyH_take (i := 18) (v := ?v99) rfl (by kernel_rfl) (by kernel_rfl) (by kernel_rfl) (fun _ _ _ h => h) (Or.inl ⟨by rfl, ?hy99⟩) (by assumption) ?_
            case hy99 => (intro w hSw; clear hSw; go_simp; try with_reducible rfl)
            go_simp
            refine wpAnyH_ready (rs := [19]) (by kernel_rfl) (by simp) (AllReadyH.cons rfl (fun K hK => ?_) AllReadyH.nil)
            have cq := HI.out.2.1
            have fq := HI.out.2.2
            go_simp
            clear cq fq
            refine hK.out _ _ (HWG.out) (fun hHeld => ?_)
            clear hK K
            refine wpAnyH_done (by kernel_rfl) ?_ _
            have HX := Lib.hid (HUP.out _ _ HI.out.1)
            clear HI HUP HFI HR HB
            go_wp2_with fail
            all_goals (go_ret; exact HX.out)
        · go_simp
          obtain ⟨k4, hk4⟩ : ∃ k, k = wc.heap.size := ⟨_, rfl⟩
          obtain ⟨wd, hwd⟩ : ∃ W, W = wc.alloc (.cells #[str ky, str y, .bool gn] 58) := ⟨_, rfl⟩
          have hbs : Below wc.heap.size wc wd := by rw [hwd]; exact below_alloc _ _
          have HL4 := Lib.hid (show wd.ownsRow W3.heap.size 58 3 (.slice (some ⟨k4, 0, none⟩) 1 1) 1 (cellsWr (ky, y, gn)) by rw [hwd, hk4]; exact World.ownsRow_lit (e := 58) (size := 3) wc #[str ky, str y, .bool gn] 1 HB.out.size (by decide) rfl)
          have HB := Lib.hid (HB.out.trans (hbs.mono HB.out.size))
          rw [← hwd, ← hk4]
          clear hwd hk4 hbs
          rename World => wc
          refine hK.out _ _ (HW.out _ HB.out) (fun hHeld => ?_)
          clear hK K
          refine wpAnyH_ready (rs := [4, 12]) (by kernel_rfl) (by simp) (AllReadyH.cons rfl (fun K hK => ?_) (AllReadyH.cons rfl (fun K hK => ?_) AllReadyH.nil))
          · have cq := (HR.out.below HB.out).cells.2.2.1
            go_simp
            clear cq
            refine hK.out _ _ (HW.out _ HB.out) (fun hHeld => ?_)
            clear hK K
            refine wpAnyH_take (i := 6) (v := ?v100) rfl (by kernel_rfl) (by kernel_rfl) (by kernel_rfl) (fun _ _ _ h => h) (Or.inl ⟨by rfl, ?hy100⟩) (by assumption) ?_
            case hy100 => (intro w hSw; clear hSw; go_simp; try with_reducible rfl)
            go_simp
            refine wpAnyH_ready (rs := [12]) (by kernel_rfl) (by simp) (AllReadyH.cons rfl (fun K hK => ?_) AllReadyH.nil)
            have cq := (HR.out.below HB.out).cells.2.2.1
            go_simp
            clear cq
            refine hK.out _ _ (HW.out _ HB.out) (fun hHeld => ?_)
            clear hK K
            refine wpAnyH_take (i := 14) (v := ?v101) rfl (by kernel_rfl) (by kernel_rfl) (by kernel_rfl) (fun _ _ _ h => h) (Or.inl ⟨by rfl, ?hy101⟩) (by assumption) ?_
            case hy101 => (intro w hSw; clear hSw; go_simp; try with_reducible rfl)
            go_simp
            refine wpAnyH_ready (rs := [15]) (by kernel_rfl) (by simp) (AllReadyH.cons rfl (fun K hK => ?_) AllReadyH.nil)
            refine step_appendG (by rfl) _ _ 54 (by rfl) W3.heap.size 58 i1 _ 3 40 Try.underlying54 hj hy0 hy1 hy2 rfl (by decide) k4 1 1 _ (by rfl) HL4.out _ (((L.map Prod.snd).drop p).map cellsWr) (cellsWr_len _) (one_cellsWr _) (by rfl) (rx_behind (HR.out.below HB.out) hpl) (fun c h => by first | exact ite_noneW h | cases h) ?_ ?_ HB.out.size ?_
            · simp [maxLen]; omega
            · simp; omega
            intro g8 c8 wd r8 gr8
            have HB := Lib.hid (HB.out.grown gr8 HB.out.size (fun k e => by cases e; exact (HL4.out.lt k4 rfl).1))
            have HR8 := Lib.hid (ins_rowW (R := (L.map Prod.snd)) (p := p) r8)
            clear r8 gr8
            rename World => wc
            go_simp
            refine hK.out _ _ (HW.out _ HB.out) (fun hHeld => ?_)
            clear hK K
            refine wpAnyH_ready (rs := [16]) (by kernel_rfl) (by simp) (AllReadyH.cons rfl (fun K hK => ?_) AllReadyH.nil)
            refine step_appendH (by rfl) _ _ 54 (by rfl) B 58 i1 _ 3 40 Try.underlying54 hj hy0 hy1 hy2 rfl (by decide) (.slice (some ⟨g, 0, none⟩) p c3) p _ (by rfl) (rx_ahead (HR.out.below HB.out) hpl) _ (((ky, y, gn) :: (L.map Prod.snd).drop p).map cellsWr) (cellsWr_len _) (one_cellsWr _) (by rfl) (HR8.out _ (by first | (simp; done) | (rw [List.length_map]))) (by simp) ?_ ?_ (Nat.le_trans HBS.out HB.out.size) ?_
            · simp [maxLen]; omega
            · simp; omega
            intro g9 c9 wd r9 gr9 lo9
            have HI := Lib.hid (HFI.out wd g9 c9 (rx_ins (L := L) hpl r9) ((Frm.of_below HB.out).trans (Frm.of_grown gr9 (fun k e => by first | exact e | (simpa [Value.ownBlock] using e))) (fun _ _ h => h)) (lo9.imp (fun e => by first | exact e | (simpa [Value.ownBlock] using e)) (fun e => by rw [e]; exact HB.out.size)))
            have HWF := Lib.hid (HWK.out wd ((Frm.of_below HB.out).trans (Frm.of_grown gr9 (fun k e => Or.inr (by first | exact e | (simpa [Value.ownBlock] using e)))) (fun _ _ h => h)))
            have HWG := Lib.hid (HWK.out _ (wrt_frm HI.out.1))
            clear r9 gr9 lo9
            rename World => wc
            rw [show p + (((ky, y, gn) :: (L.map Prod.snd).drop p).map cellsWr).length = L.length + 1 by simp; omega]
            go_simp
            refine hK.out _ _ (HWF.out) (fun hHeld => ?_)
            clear hK K
            refine wpAnyH_take (i := 17) (v := ?v102) rfl (by kernel_rfl) (by kernel_rfl) (by kernel_rfl) (fun _ _ _ h => h) (Or.inl ⟨by rfl, ?hy102⟩) (by assumption) ?_
            case hy102 => (intro w hSw; clear hSw; go_simp; try with_reducible rfl)
            go_simp
            refine wpAnyH_take (i := 18) (v := ?v103) rfl (by kernel_rfl) (by kernel_rfl) (by kernel_rfl) (fun _ _ _ h => h) (Or.inl ⟨by rfl, ?hy103⟩) (by assumption) ?_
            case hy103 => (intro w hSw; clear hSw; go_simp; try with_reducible rfl)
            go_simp
            refine wpAnyH_ready (rs := [19]) (by kernel_rfl) (by simp) (AllReadyH.cons rfl (fun K hK => ?_) AllReadyH.nil)
            have cq := HI.out.2.1
            have fq := HI.out.2.2
            go_simp
            clear cq fq
            refine hK.out _ _ (HWG.out) (fun hHeld => ?_)
            clear hK K
            refine wpAnyH_done (by kernel_rfl) ?_ _
            have HX := Lib.hid (HUP.out _ _ HI.out.1)
            clear HI HUP HFI HR HB
            go_wp2_with fail
            all_goals (go_ret; exact HX.out)
          · have cq := (HR.out.below HB.out).cells.2.2.1
            go_simp
            clear cq
            refine hK.out _ _ (HW.out _ HB.out) (fun hHeld => ?_)
            clear hK K
            refine wpAnyH_take (i := 14) (v := ?v104) rfl (by kernel_rfl) (by kernel_rfl) (by kernel_rfl) (fun _ _ _ h => h) (Or.inl ⟨by rfl, ?hy104⟩) (by assumption) ?_
            case hy104 => (intro w hSw; clear hSw; go_simp; try with_reducible rfl)
            go_simp
            refine wpAnyH_ready (rs := [4, 15]) (by kernel_rfl) (by simp) (AllReadyH.cons rfl (fun K hK => ?_) (AllReadyH.cons rfl (fun K hK => ?_) AllReadyH.nil))
            · have cq := (HR.out.below HB.out).cells.2.2.1
              go_simp
              clear cq
              refine hK.out _ _ (HW.out _ HB.out) (fun hHeld => ?_)
              clear hK K
              refine wpAnyH_take (i := 6) (v := ?v105) rfl (by kernel_rfl) (by kernel_rfl) (by kernel_rfl) (fun _ _ _ h => h) (Or.inl ⟨by rfl, ?hy105⟩) (by assumption) ?_
              case hy105 => (intro w hSw; clear hSw; go_simp; try with_reducible rfl)
              go_simp
              refine wpAnyH_ready (rs := [15]) (by kernel_rfl) (by simp) (AllReadyH.cons rfl (fun K hK => ?_) AllReadyH.nil)
              refine step_appendG (by rfl) _ _ 54 (by rfl) W3.heap.size 58 i1 _ 3 40 Try.underlying54 hj hy0 hy1 hy2 rfl (by decide) k4 1 1 _ (by rfl) HL4.out _ (((L.map Prod.snd).drop p).map cellsWr) (cellsWr_len _) (one_cellsWr _) (by rfl) (rx_behind (HR.out.below HB.out) hpl) (fun c h => by first | exact ite_noneW h | cases h) ?_ ?_ HB.out.size ?_
              · simp [maxLen]; omega
              · simp; omega
              intro g8 c8 wd r8 gr8
              have HB := Lib.hid (HB.out.grown gr8 HB.out.size (fun k e => by cases e; exact (HL4.out.lt k4 rfl).1))
              have HR8 := Lib.hid (ins_rowW (R := (L.map Prod.snd)) (p := p) r8)
              clear r8 gr8
              rename World => wc
              go_simp
              refine hK.out _ _ (HW.out _ HB.out) (fun hHeld => ?_)
              clear hK K
              refine wpAnyH_ready (rs := [16]) (by kernel_rfl) (by simp) (AllReadyH.cons rfl (fun K hK => ?_) AllReadyH.nil)
              refine step_appendH (by rfl) _ _ 54 (by rfl) B 58 i1 _ 3 40 Try.underlying54 hj hy0 hy1 hy2 rfl (by decide) (.slice (some ⟨g, 0, none⟩) p c3) p _ (by rfl) (rx_ahead (HR.out.below HB.out) hpl) _ (((ky, y, gn) :: (L.map Prod.snd).drop p).map cellsWr) (cellsWr_len _) (one_cellsWr _) (by rfl) (HR8.out _ (by first | (simp; done) | (rw [List.length_map]))) (by simp) ?_ ?_ (Nat.le_trans HBS.out HB.out.size) ?_
              · simp [maxLen]; omega
              · simp; omega
              intro g9 c9 wd r9 gr9 lo9
              have HI := Lib.hid (HFI.out wd g9 c9 (rx_ins (L := L) hpl r9) ((Frm.of_below HB.out).trans (Frm.of_grown gr9 (fun k e => by first | exact e | (simpa [Value.ownBlock] using e))) (fun _ _ h => h)) (lo9.imp (fun e => by first | exact e | (simpa [Value.ownBlock] using e)) (fun e => by rw [e]; exact HB.out.size)))
              have HWF := Lib.hid (HWK.out wd ((Frm.of_below HB.out).trans (Frm.of_grown gr9 (fun k e => Or.inr (by first | exact e | (simpa [Value.ownBlock] using e)))) (fun _ _ h => h)))
              have HWG := Lib.hid (HWK.out _ (wrt_frm HI.out.1))
              clear r9 gr9 lo9
              rename World => wc
              rw [show p + (((ky, y, gn) :: (L.map Prod.snd).drop p).map cellsWr).length = L.length + 1 by simp; omega]
              go_simp
              refine hK.out _ _ (HWF.out) (fun hHeld => ?_)
              clear hK K
              refine wpAnyH_take (i := 17) (v := ?v106) rfl (by kernel_rfl) (by kernel_rfl) (by kernel_rfl) (fun _ _ _ h => h) (Or.inl ⟨by rfl, ?hy106⟩) (by assumption) ?_
              case hy106 => (intro w hSw; clear hSw; go_simp; try with_reducible rfl)
              go_simp
              refine wpAnyH_take (i := 18) (v := ?v107) rfl (by kernel_rfl) (by kernel_rfl) (by kernel_rfl) (fun _ _ _ h => h) (Or.inl ⟨by rfl, ?hy107⟩) (by assumption) ?_
              case hy107 => (intro w hSw; clear hSw; go_simp; try with_reducible rfl)
              go_simp
              refine wpAnyH_ready (rs := [19]) (by kernel_rfl) (by simp) (AllReadyH.cons rfl (fun K hK => ?_) AllReadyH.nil)
              have cq := HI.out.2.1
              have fq := HI.out.2.2
              go_simp
              clear cq fq
              refine hK.out _ _ (HWG.out) (fun hHeld => ?_)
              clear hK K
              refine wpAnyH_done (by kernel_rfl) ?_ _
              have HX := Lib.hid (HUP.out _ _ HI.out.1)
              clear HI HUP HFI HR HB
              go_wp2_with fail
              all_goals (go_ret; exact HX.out)
            · refine step_appendG (by rfl) _ _ 54 (by rfl) W3.heap.size 58 i1 _ 3 40 Try.underlying54 hj hy0 hy1 hy2 rfl (by decide) k4 1 1 _ (by rfl) HL4.out _ (((L.map Prod.snd).drop p).map cellsWr) (cellsWr_len _) (one_cellsWr _) (by rfl) (rx_behind (HR.out.below HB.out) hpl) (fun c h => by first | exact ite_noneW h | cases h) ?_ ?_ HB.out.size ?_
              · simp [maxLen]; omega
              · simp; omega
              intro g8 c8 wd r8 gr8
              have HB := Lib.hid (HB.out.grown gr8 HB.out.size (fun k e => by cases e; exact (HL4.out.lt k4 rfl).1))
              have HR8 := Lib.hid (ins_rowW (R := (L.map Prod.snd)) (p := p) r8)
              clear r8 gr8
              rename World => wc
              go_simp
              refine hK.out _ _ (HW.out _ HB.out) (fun hHeld => ?_)
              clear hK K
              refine wpAnyH_ready (rs := [4]) (by kernel_rfl) (by simp) (AllReadyH.cons rfl (fun K hK => ?_) AllReadyH.nil)
              have cq := (HR.out.below HB.out).cells.2.2.1
              go_simp
              clear cq
              refine hK.out _ _ (HW.out _ HB.out) (fun hHeld => ?_)
              clear hK K
              refine wpAnyH_take (i := 6) (v := ?v108) rfl (by kernel_rfl) (by kernel_rfl) (by kernel_rfl) (fun _ _ _ h => h) (Or.inl ⟨by rfl, ?hy108⟩) (by assumption) ?_
              case hy108 => (intro w hSw; clear hSw; go_simp; try with_reducible rfl)
              go_simp
              refine wpAnyH_ready (rs := [16]) (by kernel_rfl) (by simp) (AllReadyH.cons rfl (fun K hK => ?_) AllReadyH.nil)
              refine step_appendH (by rfl) _ _ 54 (by rfl) B 58 i1 _ 3 40 Try.underlying54 hj hy0 hy1 hy2 rfl (by decide) (.slice (some ⟨g, 0, none⟩) p c3) p _ (by rfl) (rx_ahead (HR.out.below HB.out) hpl) _ (((ky, y, gn) :: (L.map Prod.snd).drop p).map cellsWr) (cellsWr_len _) (one_cellsWr _) (by rfl) (HR8.out _ (by first | (simp; done) | (rw [List.length_map]))) (by simp) ?_ ?_ (Nat.le_trans HBS.out HB.out.size) ?_
              · simp [maxLen]; omega
              · simp; omega
              intro g9 c9 wd r9 gr9 lo9
              have HI := Lib.hid (HFI.out wd g9 c9 (rx_ins (L := L) hpl r9) ((Frm.of_below HB.out).trans (Frm.of_grown gr9 (fun k e => by first | exact e | (simpa [Value.ownBlock] using e))) (fun _ _ h => h)) (lo9.imp (fun e => by first | exact e | (simpa [Value.ownBlock] using e)) (fun e => by rw [e]; exact HB.out.size)))
              have HWF := Lib.hid (HWK.out wd ((Frm.of_below HB.out).trans (Frm.of_grown gr9 (fun k e => Or.inr (by first | exact e | (simpa [Value.ownBlock] using e)))) (fun _ _ h => h)))
              have HWG := Lib.hid (HWK.out _ (wrt_frm HI.out.1))
              clear r9 gr9 lo9
              rename World => wc
              rw [show p + (((ky, y, gn) :: (L.map Prod.snd).drop p).map cellsWr).length = L.length + 1 by simp; omega]
              go_simp
              refine hK.out _ _ (HWF.out) (fun hHeld => ?_)
              clear hK K
              refine wpAnyH_take (i := 17) (v := ?v109) rfl (by kernel_rfl) (by kernel_rfl) (by kernel_rfl) (fun _ _ _ h => h) (Or.inl ⟨by rfl, ?hy109⟩) (by assumption) ?_
              case hy109 => (intro w hSw; clear hSw; go_simp; try with_reducible rfl)
              go_simp
              refine wpAnyH_take (i := 18) (v := ?v110) rfl (by kernel_rfl) (by kernel_rfl) (by kernel_rfl) (fun _ _ _ h => h) (Or.inl ⟨by rfl, ?hy110⟩) (by assumption) ?_
              case hy110 => (intro w hSw; clear hSw; go_simp; try with_reducible rfl)
              go_simp
              refine wpAnyH_ready (rs := [19]) (by kernel_rfl) (by simp) (AllReadyH.cons rfl (fun K hK => ?_) AllReadyH.nil)
              have cq := HI.out.2.1
              have fq := HI.out.2.2
              go_simp
              clear cq fq
              refine hK.out _ _ (HWG.out) (fun hHeld => ?_)
              clear hK K
              refine wpAnyH_done (by kernel_rfl) ?_ _
              have HX := Lib.hid (HUP.out _ _ HI.out.1)
              clear HI HUP HFI HR HB
              go_wp2_with fail
              all_goals (go_ret; exact HX.out)
        · have cq := (HR.out.below HB.out).cells.2.2.1
          go_simp
          clear cq
          refine hK.out _ _ (HW.out _ HB.out) (fun hHeld => ?_)
          clear hK K
          refine wpAnyH_take (i := 14) (v := ?v111) rfl (by kernel_rfl) (by kernel_rfl) (by kernel_rfl) (fun _ _ _ h => h) (Or.inl ⟨by rfl, ?hy111⟩) (by assumption) ?_
          case hy111 => (intro w hSw; clear hSw; go_simp; try with_reducible rfl)
          go_simp
          refine wpAnyH_ready (rs := [4, 8]) (by kernel_rfl) (by simp) (AllReadyH.cons rfl (fun K hK => ?_) (AllReadyH.cons rfl (fun K hK => ?_) AllReadyH.nil))
          · have cq := (HR.out.below HB.out).cells.2.2.1
            go_simp
            clear cq
            refine hK.out _ _ (HW.out _ HB.out) (fun hHeld => ?_)
            clear hK K
            refine wpAnyH_take (i := 6) (v := ?v112) rfl (by kernel_rfl) (by kernel_rfl) (by kernel_rfl) (fun _ _ _ h => h) (Or.inl ⟨by rfl, ?hy112⟩) (by assumption) ?_
            case hy112 => (intro w hSw; clear hSw; go_simp; try with_reducible rfl)
            go_simp
            refine wpAnyH_ready (rs := [8]) (by kernel_rfl) (by simp) (AllReadyH.cons rfl (fun K hK => ?_) AllReadyH.nil)
            go_simp
            obtain ⟨k4, hk4⟩ : ∃ k, k = wc.heap.size := ⟨_, rfl⟩
            obtain ⟨wd, hwd⟩ : ∃ W, W = wc.alloc (.cells #[str ky, str y, .bool gn] 58) := ⟨_, rfl⟩
            have hbs : Below wc.heap.size wc wd := by rw [hwd]; exact below_alloc _ _
            have HL4 := Lib.hid (show wd.ownsRow W3.heap.size 58 3 (.slice (some ⟨k4, 0, none⟩) 1 1) 1 (cellsWr (ky, y, gn)) by rw [hwd, hk4]; exact World.ownsRow_lit (e := 58) (size := 3) wc #[str ky, str y, .bool gn] 1 HB.out.size (by decide) rfl)
            have HB := Lib.hid (HB.out.trans (hbs.mono HB.out.size))
            rw [← hwd, ← hk4]
            clear hwd hk4 hbs
            rename World => wc
            refine hK.out _ _ (HW.out _ HB.out) (fun hHeld => ?_)
            clear hK K
            refine wpAnyH_ready (rs := [15]) (by kernel_rfl) (by simp) (AllReadyH.cons rfl (fun K hK => ?_) AllReadyH.nil)
            refine step_appendG (by rfl) _ _ 54 (by rfl) W3.heap.size 58 i1 _ 3 40 Try.underlying54 hj hy0 hy1 hy2 rfl (by decide) k4 1 1 _ (by rfl) HL4.out _ (((L.map Prod.snd).drop p).map cellsWr) (cellsWr_len _) (one_cellsWr _) (by rfl) (rx_behind (HR.out.below HB.out) hpl) (fun c h => by first | exact ite_noneW h | cases h) ?_ ?_ HB.out.size ?_
            · simp [maxLen]; omega
            · simp; omega
            intro g8 c8 wd r8 gr8
            have HB := Lib.hid (HB.out.grown gr8 HB.out.size (fun k e => by cases e; exact (HL4.out.lt k4 rfl).1))
            have HR8 := Lib.hid (ins_rowW (R := (L.map Prod.snd)) (p := p) r8)
            clear r8 gr8
            rename World => wc
            go_simp
            refine hK.out _ _ (HW.out _ HB.out) (fun hHeld => ?_)
            clear hK K
            refine wpAnyH_ready (rs := [16]) (by kernel_rfl) (by simp) (AllReadyH.cons rfl (fun K hK => ?_) AllReadyH.nil)
            refine step_appendH (by rfl) _ _ 54 (by rfl) B 58 i1 _ 3 40 Try.underlying54 hj hy0 hy1 hy2 rfl (by decide) (.slice (some ⟨g, 0, none⟩) p c3) p _ (by rfl) (rx_ahead (HR.out.below HB.out) hpl) _ (((ky, y, gn) :: (L.map Prod.snd).drop p).map cellsWr) (cellsWr_len _) (one_cellsWr _) (by rfl) (HR8.out _ (by first | (simp; done) | (rw [List.length_map]))) (by simp) ?_ ?_ (Nat.le_trans HBS.out HB.out.size) ?_
            · simp [maxLen]; omega
            · simp; omega
            intro g9 c9 wd r9 gr9 lo9
            have HI := Lib.hid (HFI.out wd g9 c9 (rx_ins (L := L) hpl r9) ((Frm.of_below HB.out).trans (Frm.of_grown gr9 (fun k e => by first | exact e | (simpa [Value.ownBlock] using e))) (fun _ _ h => h)) (lo9.imp (fun e => by first | exact e | (simpa [Value.ownBlock] using e)) (fun e => by rw [e]; exact HB.out.size)))
            have HWF := Lib.hid (HWK.out wd ((Frm.of_below HB.out).trans (Frm.of_grown gr9 (fun k e => Or.inr (by first | exact e | (simpa [Value.ownBlock] using e)))) (fun _ _ h => h)))
            have HWG := Lib.hid (HWK.out _ (wrt_frm HI.out.1))
            clear r9 gr9 lo9
            rename World => wc
            rw [show p + (((ky, y, gn) :: (L.map Prod.snd).drop p).map cellsWr).length = L.length + 1 by simp; omega]
            go_simp
            refine hK.out _ _ (HWF.out) (fun hHeld => ?_)
            clear hK K
            refine wpAnyH_take (i := 17) (v := ?v113) rfl (by kernel_rfl) (by kernel_rfl) (by kernel_rfl) (fun _ _ _ h => h) (Or.inl ⟨by rfl, ?hy113⟩) (by assumption) ?_
            case hy113 => (intro w hSw; clear hSw; go_simp; try with_reducible rfl)
            go_simp
            refine wpAnyH_take (i := 18) (v := ?v114) rfl (by kernel_rfl) (by kernel_rfl) (by kernel_rfl) (fun _ _ _ h => h) (Or.inl ⟨by rfl, ?hy114⟩) (by assumption) ?_
            case hy114 => (intro w hSw; clear hSw; go_simp; try with_reducible rfl)
            go_simp
            refine wpAnyH_ready (rs := [19]) (by kernel_rfl) (by simp) (AllReadyH.cons rfl (fun K hK => ?_) AllReadyH.nil)
            have cq := HI.out.2.1
            have fq := HI.out.2.2
            go_simp
            clear cq fq
            refine hK.out _ _ (HWG.out) (fun hHeld => ?_)
            clear hK K
            refine wpAnyH_done (by kernel_rfl) ?_ _
            have HX := Lib.hid (HUP.out _ _ HI.out.1)
            clear HI HUP HFI HR HB
            go_wp2_with fail
            all_goals (go_ret; exact HX.out)
          · go_simp
            obtain ⟨k4, hk4⟩ : ∃ k, k = wc.heap.size := ⟨_, rfl⟩
            obtain ⟨wd, hwd⟩ : ∃ W, W = wc.alloc (.cells #[str ky, str y, .bool gn] 58) := ⟨_, rfl⟩
            have hbs : Below wc.heap.size wc wd := by rw [hwd]; exact below_alloc _ _
            have HL4 := Lib.hid (show wd.ownsRow W3.heap.size 58 3 (.slice (some ⟨k4, 0, none⟩) 1 1) 1 (cellsWr (ky, y, gn)) by rw [hwd, hk4]; exact World.ownsRow_lit (e := 58) (size := 3) wc #[str ky, str y, .bool gn] 1 HB.out.size (by decide) rfl)
            have HB := Lib.hid (HB.out.trans (hbs.mono HB.out.size))
            rw [← hwd, ← hk4]
            clear hwd hk4 hbs
            rename World => wc
            refine hK.out _ _ (HW.out _ HB.out) (fun hHeld => ?_)
            clear hK K
            refine wpAnyH_ready (rs := [4, 15]) (by kernel_rfl) (by simp) (AllReadyH.cons rfl (fun K hK => ?_) (AllReadyH.cons rfl (fun K hK => ?_) AllReadyH.nil))
            · have cq := (HR.out.below HB.out).cells.2.2.1
              go_simp
              clear cq
              refine hK.out _ _ (HW.out _ HB.out) (fun hHeld => ?_)
              clear hK K
              refine wpAnyH_take (i := 6) (v := ?v115) rfl (by kernel_rfl) (by kernel_rfl) (by kernel_rfl) (fun _ _ _ h => h) (Or.inl ⟨by rfl, ?hy115⟩) (by assumption) ?_
              case hy115 => (intro w hSw; clear hSw; go_simp; try with_reducible rfl)
              go_simp
              refine wpAnyH_ready (rs := [15]) (by kernel_rfl) (by simp) (AllReadyH.cons rfl (fun K hK => ?_) AllReadyH.nil)
              refine step_appendG (by rfl) _ _ 54 (by rfl) W3.heap.size 58 i1 _ 3 40 Try.underlying54 hj hy0 hy1 hy2 rfl (by decide) k4 1 1 _ (by rfl) HL4.out _ (((L.map Prod.snd).drop p).map cellsWr) (cellsWr_len _) (one_cellsWr _) (by rfl) (rx_behind (HR.out.below HB.out) hpl) (fun c h => by first | exact ite_noneW h | cases h) ?_ ?_ HB.out.size ?_
              · simp [maxLen]; omega
              · simp; omega
              intro g8 c8 wd r8 gr8
              have HB := Lib.hid (HB.out.grown gr8 HB.out.size (fun k e => by cases e; exact (HL4.out.lt k4 rfl).1))
              have HR8 := Lib.hid (ins_rowW (R := (L.map Prod.snd)) (p := p) r8)
              clear r8 gr8
              rename World => wc
              go_simp
              refine hK.out _ _ (HW.out _ HB.out) (fun hHeld => ?_)
              clear hK K
              refine wpAnyH_ready (rs := [16]) (by kernel_rfl) (by simp) (AllReadyH.cons rfl (fun K hK => ?_) AllReadyH.nil)
              refine step_appendH (by rfl) _ _ 54 (by rfl) B 58 i1 _ 3 40 Try.underlying54 hj hy0 hy1 hy2 rfl (by decide) (.slice (some ⟨g, 0, none⟩) p c3) p _ (by rfl) (rx_ahead (HR.out.below HB.out) hpl) _ (((ky, y, gn) :: (L.map Prod.snd).drop p).map cellsWr) (cellsWr_len _) (one_cellsWr _) (by rfl) (HR8.out _ (by first | (simp; done) | (rw [List.length_map]))) (by simp) ?_ ?_ (Nat.le_trans HBS.out HB.out.size) ?_
              · simp [maxLen]; omega
              · simp; omega
              intro g9 c9 wd r9 gr9 lo9
              have HI := Lib.hid (HFI.out wd g9 c9 (rx_ins (L := L) hpl r9) ((Frm.of_below HB.out).trans (Frm.of_grown gr9 (fun k e => by first | exact e | (simpa [Value.ownBlock] using e))) (fun _ _ h => h)) (lo9.imp (fun e => by first | exact e | (simpa [Value.ownBlock] using e)) (fun e => by rw [e]; exact HB.out.size)))
              have HWF := Lib.hid (HWK.out wd ((Frm.of_below HB.out).trans (Frm.of_grown gr9 (fun k e => Or.inr (by first | exact e | (simpa [Value.ownBlock] using e)))) (fun _ _ h => h)))
              have HWG := Lib.hid (HWK.out _ (wrt_frm HI.out.1))
              clear r9 gr9 lo9
              rename World => wc
              rw [show p + (((ky, y, gn) :: (L.map Prod.snd).drop p).map cellsWr).length = L.length + 1 by simp; omega]
              go_simp
              refine hK.out _ _ (HWF.out) (fun hHeld => ?_)
              clear hK K
              refine wpAnyH_take (i := 17) (v := ?v116) rfl (by kernel_rfl) (by kernel_rfl) (by kernel_rfl) (fun _ _ _ h => h) (Or.inl ⟨by rfl, ?hy116⟩) (by assumption) ?_
              case hy116 => (intro w hSw; clear hSw; go_simp; try with_reducible rfl)
              go_simp
              refine wpAnyH_take (i := 18) (v := ?v117) rfl (by kernel_rfl) (by kernel_rfl) (by kernel_rfl) (fun _ _ _ h => h) (Or.inl ⟨by rfl, ?hy117⟩) (by assumption) ?_
              case hy117 => (intro w hSw; clear hSw; go_simp; try with_reducible rfl)
              go_simp
              refine wpAnyH_ready (rs := [19]) (by kernel_rfl) (by simp) (AllReadyH.cons rfl (fun K hK => ?_) AllReadyH.nil)
              have cq := HI.out.2.1
              have fq := HI.out.2.2
              go_simp
              clear cq fq
              refine hK.out _ _ (HWG.out) (fun hHeld => ?_)
              clear hK K
              refine wpAnyH_done (by kernel_rfl) ?_ _
              have HX := Lib.hid (HUP.out _ _ HI.out.1)
              clear HI HUP HFI HR HB
              go_wp2_with fail
              all_goals (go_ret; exact HX.out)
            · refine step_appendG (by rfl) _ _ 54 (by rfl) W3.heap.size 58 i1 _ 3 40 Try.underlying54 hj hy0 hy1 hy2 rfl (by decide) k4 1 1 _ (by rfl) HL4.out _ (((L.map Prod.snd).drop p).map cellsWr) (cellsWr_len _) (one_cellsWr _) (by rfl) (rx_behind (HR.out.below HB.out) hpl) (fun c h => by first | exact ite_noneW h | cases h) ?_ ?_ HB.out.size ?_
              · simp [maxLen]; omega
              · simp; omega
              intro g8 c8 wd r8 gr8
              have HB := Lib.hid (HB.out.grown gr8 HB.out.size (fun k e => by cases e; exact (HL4.out.lt k4 rfl).1))
              have HR8 := Lib.hid (ins_rowW (R := (L.map Prod.snd)) (p := p) r8)
              clear r8 gr8
              rename World => wc
              go_simp
              refine hK.out _ _ (HW.out _ HB.out) (fun hHeld => ?_)
              clear hK K
              refine wpAnyH_ready (rs := [4]) (by kernel_rfl) (by simp) (AllReadyH.cons rfl (fun K hK => ?_) AllReadyH.nil)
              have cq := (HR.out.below HB.out).cells.2.2.1
              go_simp
              clear cq
              refine hK.out _ _ (HW.out _ HB.out) (fun hHeld => ?_)
              clear hK K
              refine wpAnyH_take (i := 6) (v := ?v118) rfl (by kernel_rfl) (by kernel_rfl) (by kernel_rfl) (fun _ _ _ h => h) (Or.inl ⟨by rfl, ?hy118⟩) (by assumption) ?_
              case hy118 => (intro w hSw; clear hSw; go_simp; try with_reducible rfl)
              go_simp
              refine wpAnyH_ready (rs := [16]) (by kernel_rfl) (by simp) (AllReadyH.cons rfl (fun K hK => ?_) AllReadyH.nil)
              refine step_appendH (by rfl) _ _ 54 (by rfl) B 58 i1 _ 3 40 Try.underlying54 hj hy0 hy1 hy2 rfl (by decide) (.slice (some ⟨g, 0, none⟩) p c3) p _ (by rfl) (rx_ahead (HR.out.below HB.out) hpl) _ (((ky, y, gn) :: (L.map Prod.snd).drop p).map cellsWr) (cellsWr_len _) (one_cellsWr _) (by rfl) (HR8.out _ (by first | (simp; done) | (rw [List.length_map]))) (by simp) ?_ ?_ (Nat.le_trans HBS.out HB.out.size) ?_
              · simp [maxLen]; omega
              · simp; omega
              intro g9 c9 wd r9 gr9 lo9
              have HI := Lib.hid (HFI.out wd g9 c9 (rx_ins (L := L) hpl r9) ((Frm.of_below HB.out).trans (Frm.of_grown gr9 (fun k e => by first | exact e | (simpa [Value.ownBlock] using e))) (fun _ _ h => h)) (lo9.imp (fun e => by first | exact e | (simpa [Value.ownBlock] using e)) (fun e => by rw [e]; exact HB.out.size)))
              have HWF := Lib.hid (HWK.out wd ((Frm.of_below HB.out).trans (Frm.of_grown gr9 (fun k e => Or.inr (by first | exact e | (simpa [Value.ownBlock] using e)))) (fun _ _ h => h)))
              have HWG := Lib.hid (HWK.out _ (wrt_frm HI.out.1))
              clear r9 gr9 lo9
              rename World => wc
              rw [show p + (((ky, y, gn) :: (L.map Prod.snd).drop p).map cellsWr).length = L.length + 1 by simp; omega]
              go_simp
              refine hK.out _ _ (HWF.out) (fun hHeld => ?_)
              clear hK K
              refine wpAnyH_take (i := 17) (v := ?v119) rfl (by kernel_rfl) (by kernel_rfl) (by kernel_rfl) (fun _ _ _ h => h) (Or.inl ⟨by rfl, ?hy119⟩) (by assumption) ?_
              case hy119 => (intro w hSw; clear hSw; go_simp; try with_reducible rfl)
              go_simp
              refine wpAnyH_take (i := 18) (v := ?v120) rfl (by kernel_rfl) (by kernel_rfl) (by kernel_rfl) (fun _ _ _ h => h) (Or.inl ⟨by rfl, ?hy120⟩) (by assumption) ?_
              case hy120 => (intro w hSw; clear hSw; go_simp; try with_reducible rfl)
              go_simp
              refine wpAnyH_ready (rs := [19]) (by kernel_rfl) (by simp) (AllReadyH.cons rfl (fun K hK => ?_) AllReadyH.nil)
              have cq := HI.out.2.1
              have fq := HI.out.2.2
              go_simp
              clear cq fq
              refine hK.out _ _ (HWG.out) (fun hHeld => ?_)
              clear hK K
              refine wpAnyH_done (by kernel_rfl) ?_ _
              have HX := Lib.hid (HUP.out _ _ HI.out.1)
              clear HI HUP HFI HR HB
              go_wp2_with fail
              all_goals (go_ret; exact HX.out)
theorem rxPut_any (h : RT W B rb b at1 vo L) (ky y : List UInt8) (hk : ky.length ≤ 9223372036854775807) (hy : y.length ≤ 9223372036854775807) : Calls Try.prog 15 #[.pointer (some ⟨rb, 0, none⟩), str ky, str y] W (WrtP W B rb b at1 vo L (ky, y, false)) := by
  have CW := Lib.hid (rxwrite_any h ky y false hk hy)
  clear h
  go_enter Try.func15, Try.ntmps15
  go_wp2_with fail
  refine CW.out.mono ?_
  rintro e w' ⟨rfl, h⟩
  have H := Lib.hid h
  clear h CW
  go_wp2_with fail
  go_ret
  exact ⟨rfl, H.out⟩
theorem rxDelete_any (h : RT W B rb b at1 vo L) (ky : List UInt8) (hk : ky.length ≤ 9223372036854775807) : Calls Try.prog 17 #[.pointer (some ⟨rb, 0, none⟩), str ky] W (WrtP W B rb b at1 vo L (ky, [], true)) := by
  have CW := Lib.hid (rxwrite_any h ky [] true hk (by simp))
  clear h
  go_enter Try.func17, Try.ntmps17
  go_wp2_with fail
  refine CW.out.mono ?_
  rintro e w' ⟨rfl, h⟩
  have H := Lib.hid h
  clear h CW
  go_wp2_with fail
  go_ret
  exact ⟨rfl, H.out⟩
end Go.Proofs.Ytcgjiddiegepkaa
