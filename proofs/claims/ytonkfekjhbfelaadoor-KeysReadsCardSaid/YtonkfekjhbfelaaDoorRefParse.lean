/- hblref14.Parse, by its contract. -/
import Derived.Test.YtonkfekjhbfelaaDoorRefKey
import Derived.Test.YtonkfekjhbfelaaDoorRefNumb
import Derived.Test.YtonkfekjhbfelaaDoorRefSplit
import Derived.Test.YtonkfekjhbfelaaDoorRefUnx
import Derived.Test.YtonkfekjhbfelaaDoorKApart
import Derived.Deep.CutRange
import Derived.Deep.CutBlock
import Derived.BigRegion
namespace Go.Proofs.YtonkfekjhbfelaaDoor
open Go.RowKit

theorem PK.other {w : World} {b c : Nat} {k i k2 i2 : Int} {u f n g u2 f2 n2 g2 : List UInt8} (h : PK w b k u f n g i) (hne : c ≠ b) : PK (set6 w c k2 u2 f2 n2 g2 i2) b k u f n g i := by
  obtain ⟨T, h⟩ := h
  refine ⟨T, ?_⟩
  have key : ∀ (W : World) (j : Nat) (x : Value), (W.setCell ⟨c, j, none⟩ x).heap[b]? = W.heap[b]? := by
    intro W j x
    show (W.heap.modify c _)[b]? = _
    rw [Array.getElem?_modify, if_neg hne]
  unfold set6
  simp only [key]
  exact h
/-- A region alone: at its end what is asked, at a panic nothing (so that no slot written ahead of a panic counts). -/
def OnlyN (R : Act → World → Prop) : Exit → Act → World → Prop
  | .normal, a, w => R a w
  | _, _, _ => False
theorem only_normal {P : Program} {c : Code} {Q : Exit → Act → World → Prop} {a : Act} {w : World} (h : c.wp P (OnlyN (fun a w => Q .normal a w)) a w) : c.wp P Q a w := by
  refine wp_mono h ?_
  intro e a' w' hq
  cases e with
  | normal => exact hq
  | exit id => exact hq.elim
  | goto l => exact hq.elim
  | ret => exact hq.elim
  | panic ch => exact hq.elim
  | outgrown => exact hq.elim
/-- What the switch leaves. -/
def SW (w wc : World) (b : Nat) (p : Pa) : Prop := PK wc b p.k p.u p.f p.n p.g p.i ∧ PK wc w.heap.size 0 [] [] [] [] 0 ∧ Below w.heap.size w wc
theorem SW.drew {w wc : World} {b : Nat} {p : Pa} (h : SW w wc b p) : SW w wc.drew b p := ⟨h.1, h.2.1, below_drew h.2.2⟩
theorem SW.set {w wc : World} {b : Nat} {p : Pa} (h : SW w wc b p) (hb : w.heap.size < b) (k : Int) (u f n g : List UInt8) (i : Int) : SW w (set6 wc b k u f n g i) b ⟨k, u, f, n, g, i⟩ :=
  ⟨h.1.set k u f n g i, h.2.1.other (by omega), below_set6 h.2.2 (by omega) k u f n g i⟩
theorem SW.up {w W W' : World} {b : Nat} {p : Pa} (h : SW w W b p) (hb : Below W.heap.size W W') : SW w W' b p := ⟨pk_up h.1 hb, pk_up h.2.1 hb, h.2.2.trans (hb.mono h.2.2.size)⟩
theorem SW.laid {w w1 : World} (h1 : PK w1 w.heap.size 0 [] [] [] [] 0) (hb : Below w.heap.size w w1) (k : Int) (u f n g : List UInt8) (i : Int) (T : TypeId) : SW w (w1.alloc (.cells #[.int .i64 k, str u, str f, str n, str g, .int .i64 i] T)) w1.heap.size ⟨k, u, f, n, g, i⟩ :=
  ⟨PK.made w1 k u f n g i T, pk_up h1 (below_alloc w1 _), hb.alloc hb.size _⟩
/-- The parts are stored whole. -/
theorem store_parts {a : Act} {w : World} {b : Nat} {k i k2 i2 : Int} {u f n g u2 f2 n2 g2 : List UInt8} {K : Act → World → Prop} {Q : Exit → Act → World → Prop} {p q : Operand} {ty : TypeId} {pos : String} {after : Array Edge}
    (hp : a.eval p = .pointer (some ⟨b, 0, none⟩)) (hq : a.eval q = pak k u f n g i) (h : PK w b k2 u2 f2 n2 g2 i2) (hk : K a (set6 w b k u f n g i)) :
    Oper.wp Tryd.prog { dst := none, op := Op.store 27 p q, type := ty, pos := pos, after := after, guard := none } a w K Q := by
  have key : ∀ ρ : Operand → Value, ρ p = .pointer (some ⟨b, 0, none⟩) → ρ q = pak k u f n g i → (execOp ρ { dst := none, op := Op.store 27 p q, type := ty, pos := pos, after := after, guard := none }).run Tryd.prog w = .ok .skip (set6 w b k u f n g i) := by
    intro ρ hp hq
    obtain ⟨z0, z1, z2, z3, z4, z5⟩ := h.cs
    obtain ⟨y0, y1, y2, y3, y4, y5⟩ := h.frs
    unfold pak at hq
    go_simp
  unfold Oper.wp
  rw [key a.eval hp hq]
  exact hk
set_option maxRecDepth 100000 in
set_option maxHeartbeats 40000000 in
theorem rparse_any (l : List UInt8) (w : World) (hl : l.length ≤ 100000) :
    Calls Tryd.prog 8 #[str l] w fun e w' => ((okF l ∧ e = .returned (.tuple #[pa (partsF (splitL l)), .bool true])) ∨ (¬ okF l ∧ e = .returned (.tuple #[pa pa0, .bool false]))) ∧ Below w.heap.size w w' := by
  obtain ⟨W, hW⟩ : ∃ W, W = w.alloc (.cells #[.int .i64 0, str [], str [], str [], str [], .int .i64 0] 27) := ⟨_, rfl⟩
  have HB : Hid (Below w.heap.size w W) := Lib.hid (by rw [hW]; exact below_alloc w _)
  have HP := PK.made w 0 [] [] [] [] 0 27
  rw [← hW] at HP
  replace HP := Lib.hid HP
  have HWS : Hid (W.heap.size = w.heap.size + 1) := Lib.hid (by rw [hW]; simp)
  have CS := Lib.hid (rsplit_any l W hl)
  have hle := splitL_len l
  obtain ⟨L, hL⟩ : ∃ L, L = splitL l := ⟨_, rfl⟩
  have HOK := Lib.hid (show okF l ↔ (l ≠ [] ∧ keyP (partsF L) = l) by rw [hL]; exact Iff.rfl)
  rw [← hL] at CS hle ⊢
  have hpl := partsF_le L l.length hle
  have HLE := Lib.hid (fun x hx => Nat.le_trans (hle x hx) hl)
  obtain ⟨p, hp⟩ : ∃ p, p = partsF L := ⟨_, rfl⟩
  rw [← hp] at hpl HOK ⊢
  have HPL := Lib.hid hp
  clear hp hle hL
  obtain ⟨pk, pu, pf, pn, pg, pi⟩ := p
  obtain ⟨l1, l2, l3, l4, l5, l6⟩ := hpl
  dsimp only at l1 l2 l3 l4 l5 l6
  have CK := Lib.hid (fun W => rkey_any pk pu pf pn pg pi W ⟨by omega, by omega⟩ (by omega) (by omega) (by omega) (by omega))
  obtain ⟨K, hK⟩ : ∃ K, K = keyL pk pu pf pn pg pi := ⟨_, rfl⟩
  replace HOK : Hid (okF l ↔ (l ≠ [] ∧ K = l)) := Lib.hid (by rw [hK]; exact HOK.out)
  rw [← hK] at CK
  clear hK l1 l2 l3 l4 l5 l6 hl
  go_enter Tryd.func8, Tryd.ntmps8
  go_wp2_with fail
  simp only [← hW]
  clear hW
  refine CS.out.mono ?_
  rintro e w1 ⟨v, rfl, hv, hb1⟩
  have hrv := RdV.of_row (by simpa using hv : w1.ownsRow W.heap.size 9 1 v (L.map str).length (L.map str))
  have HP1 := Lib.hid (pk_up HP.out hb1)
  have HB1 := Lib.hid (HB.out.trans (hb1.mono HB.out.size))
  have HLT : Hid (w.heap.size < w1.heap.size) := Lib.hid (by have := HWS.out; have := hb1.size; omega)
  have hex : ∃ va vc, v = .slice va L.length vc := by
    obtain ⟨va, vc, h, _⟩ := hrv
    exact ⟨va, vc, by rw [List.length_map] at h; exact h⟩
  obtain ⟨va, vc, rfl⟩ := hex
  have HRV := Lib.hid hrv
  clear hv hb1 CS HP HB hrv HWS
  go_upto_block 0 with fail
  go_cut [4] from 8 to 147 (fun v4 wc => v4 = .slice va L.length vc ∧ Hid (SW w wc w1.heap.size ⟨pk, pu, pf, pn, pg, pi⟩))
  case first =>
    rcases L with _ | ⟨a, _ | ⟨b, _ | ⟨c, _ | ⟨d, _ | ⟨e5, r⟩⟩⟩⟩⟩
    · as_aux_lemma =>
        have hpl := HPL.out
        obtain ⟨rfl, rfl, rfl, rfl, rfl, rfl⟩ := Pa.mk.inj hpl
        clear hpl
        have HSW := Lib.hid (SW.laid HP1.out HB1.out 0 [] [] [] [] 0 27)
        go_wp2_with fail
        go_meet
        case rel => exact ⟨rfl, HSW⟩
    · as_aux_lemma =>
        have hpl := HPL.out
        obtain ⟨rfl, rfl, rfl, rfl, rfl, rfl⟩ := Pa.mk.inj hpl
        clear hpl
        have HSW := Lib.hid (SW.laid HP1.out HB1.out 0 [] [] [] [] 0 27)
        go_wp2_with fail
        go_meet
        case rel => exact ⟨rfl, HSW⟩
    · as_aux_lemma =>
        obtain ⟨bl, off, cap, hv, hne, hc⟩ := (show RdV w1 (.slice va 2 vc) [str a, str b] from HRV.out).at (by simp) (.cells #[.int .i64 0, str [], str [], str [], str [], .int .i64 0] 27)
        simp only [Value.slice.injEq] at hv
        obtain ⟨rfl, -, rfl⟩ := hv
        have x0 := hc 0 (by simp)
        have x1 := hc 1 (by simp)
        simp only [Nat.add_zero, List.getElem_cons_zero, List.getElem_cons_succ] at x0 x1
        clear hc HRV
        by_cases ha : a = [102]
        · subst ha
          obtain ⟨rfl, rfl, rfl, rfl, rfl, rfl⟩ := Pa.mk.inj (show (⟨1, [], b, [], [], 0⟩ : Pa) = ⟨pk, pu, pf, pn, pg, pi⟩ from HPL.out.symm)
          have HSW := Lib.hid (SW.laid HP1.out HB1.out 1 [] b [] [] 0 27)
          go_wp2_with fail
          go_meet
          case rel => exact ⟨rfl, HSW⟩
        · obtain ⟨rfl, rfl, rfl, rfl, rfl, rfl⟩ := Pa.mk.inj (show (⟨pk, pu, pf, pn, pg, pi⟩ : Pa) = ⟨0, [], [], [], [], 0⟩ by rw [HPL.out]; show (if a = [102] then _ else pa0) = _; rw [if_neg ha]; rfl)
          have t0 := ne_beq ha
          have HSW := Lib.hid (SW.laid HP1.out HB1.out 0 [] [] [] [] 0 27)
          clear ha
          go_wp2_with fail
          go_meet
          case rel => exact ⟨rfl, HSW⟩
    · as_aux_lemma =>
        obtain ⟨bl, off, cap, hv, hne, hc⟩ := (show RdV w1 (.slice va 3 vc) [str a, str b, str c] from HRV.out).at (by simp) (.cells #[.int .i64 0, str [], str [], str [], str [], .int .i64 0] 27)
        simp only [Value.slice.injEq] at hv
        obtain ⟨rfl, -, rfl⟩ := hv
        have x0 := hc 0 (by simp)
        have x1 := hc 1 (by simp)
        have x2 := hc 2 (by simp)
        simp only [Nat.add_zero, List.getElem_cons_zero, List.getElem_cons_succ] at x0 x1 x2
        clear hc HRV
        by_cases h101 : a = [101]
        · subst h101
          obtain ⟨rfl, rfl, rfl, rfl, rfl, rfl⟩ := Pa.mk.inj (show (⟨2, [], b, [], [], numF c⟩ : Pa) = ⟨pk, pu, pf, pn, pg, pi⟩ from HPL.out.symm)
          obtain ⟨W2, hW2⟩ : ∃ W, W = w1.alloc (.cells #[.int .i64 0, str [], str [], str [], str [], .int .i64 0] 27) := ⟨_, rfl⟩
          have HS2 : Hid (SW w W2 w1.heap.size pa0) := Lib.hid (by rw [hW2]; exact SW.laid HP1.out HB1.out 0 [] [] [] [] 0 27)
          rw [← hW2] at x1 x2
          have C3 := Lib.hid (fun W => rnumber_any c W (HLE.out c (by simp)))
          have HC := Lib.hid (And.intro x1 x2)
          have HSW := Lib.hid ((HS2.out.set HLT.out 2 [] b [] [] (numF c)).drew)
          go_wp2_with fail
          simp only [← hW2]
          clear hW2
          obtain ⟨z0, z1, z2, z3, z4, z5⟩ := (show PK W2 w1.heap.size 0 [] [] [] [] 0 from HS2.out.1).cs
          obtain ⟨y0, y1, y2, y3, y4, y5⟩ := (show PK W2 w1.heap.size 0 [] [] [] [] 0 from HS2.out.1).frs
          refine only_normal ?_
          refine wp_region_any (by kernel_rfl) ?_
          change wpAny _ _ _ _ _ _ _ (World.drew _)
          refine wpAny_take (i := 0) (v := ?v1) rfl (by kernel_rfl) (by kernel_rfl) (by kernel_rfl) (fun _ _ _ h => h) (Or.inl ⟨by rfl, ?hy1⟩) ?_
          case hy1 => (intro w; go_simp; try with_reducible rfl)
          go_simp
          refine wpAny_take (i := 1) (v := ?v2) rfl (by kernel_rfl) (by kernel_rfl) (by kernel_rfl) (fun _ _ _ h => h) (Or.inl ⟨by rfl, ?hy2⟩) ?_
          case hy2 => (intro w; go_simp; try with_reducible rfl)
          go_simp
          refine wpAny_take (i := 3) (v := ?v3) rfl (by kernel_rfl) (by kernel_rfl) (by kernel_rfl) (fun _ _ _ h => h) (Or.inl ⟨by rfl, ?hy3⟩) ?_
          case hy3 => (intro w; go_simp; try with_reducible rfl)
          go_simp
          refine wpAny_take (i := 4) (v := ?v4) rfl (by kernel_rfl) (by kernel_rfl) (by kernel_rfl) (fun _ _ _ h => h) (Or.inl ⟨by rfl, ?hy4⟩) ?_
          case hy4 => (intro w; go_simp; try with_reducible rfl)
          go_simp
          refine wpAny_ready (rs := [2, 5]) (by kernel_rfl) (by simp) (AllReady.cons rfl (fun K hK => ?_) (AllReady.cons rfl (fun K hK => ?_) AllReady.nil))
          · go_simp
            refine hK _ _ ?_
            clear hK K
            refine wpAny_ready (rs := [5]) (by kernel_rfl) (by simp) (AllReady.cons rfl (fun K hK => ?_) AllReady.nil)
            go_simp
            refine hK _ _ ?_
            clear hK K
            refine wpAny_ready (rs := [6]) (by kernel_rfl) (by simp) (AllReady.cons rfl (fun K hK => ?_) AllReady.nil)
            go_simp
            refine (C3.out _).mono ?_
            rintro e w6 ⟨rfl, rfl⟩
            refine hK _ _ ?_
            clear hK K
            refine wpAny_take (i := 7) (v := ?v5) rfl (by kernel_rfl) (by kernel_rfl) (by kernel_rfl) (fun _ _ _ h => h) (Or.inl ⟨by rfl, ?hy5⟩) ?_
            case hy5 => (intro w; go_simp; try with_reducible rfl)
            go_simp
            refine wpAny_ready (rs := [8]) (by kernel_rfl) (by simp) (BigFrame.allReady_want rfl rfl (fun K hK => ?_) AllReady.nil)
            refine store_parts (k := 2) (u := []) (f := b) (n := []) (g := []) (i := (numF c)) (by rfl) (by rfl) HS2.out.drew.1 ?_
            refine hK _ _ ?_
            clear hK K
            refine wpAny_done (by kernel_rfl) ?_ _
            dsimp only [OnlyN]
            obtain ⟨W5, hW5⟩ : ∃ W5, W5 = set6 (World.drew W2) w1.heap.size 2 [] b [] [] (numF c) := ⟨_, rfl⟩
            rw [← hW5]
            have HSW : Hid (SW w W5 w1.heap.size ⟨2, [], b, [], [], (numF c)⟩) := Lib.hid (by rw [hW5]; exact HS2.out.drew.set HLT.out 2 [] b [] [] (numF c))
            clear hW5
            go_wp2_with fail
            go_meet
            case rel => exact ⟨rfl, HSW⟩
          · go_simp
            refine hK _ _ ?_
            clear hK K
            refine wpAny_ready (rs := [2, 6]) (by kernel_rfl) (by simp) (AllReady.cons rfl (fun K hK => ?_) (AllReady.cons rfl (fun K hK => ?_) AllReady.nil))
            · go_simp
              refine hK _ _ ?_
              clear hK K
              refine wpAny_ready (rs := [6]) (by kernel_rfl) (by simp) (AllReady.cons rfl (fun K hK => ?_) AllReady.nil)
              go_simp
              refine (C3.out _).mono ?_
              rintro e w6 ⟨rfl, rfl⟩
              refine hK _ _ ?_
              clear hK K
              refine wpAny_take (i := 7) (v := ?v6) rfl (by kernel_rfl) (by kernel_rfl) (by kernel_rfl) (fun _ _ _ h => h) (Or.inl ⟨by rfl, ?hy6⟩) ?_
              case hy6 => (intro w; go_simp; try with_reducible rfl)
              go_simp
              refine wpAny_ready (rs := [8]) (by kernel_rfl) (by simp) (BigFrame.allReady_want rfl rfl (fun K hK => ?_) AllReady.nil)
              refine store_parts (k := 2) (u := []) (f := b) (n := []) (g := []) (i := (numF c)) (by rfl) (by rfl) HS2.out.drew.1 ?_
              refine hK _ _ ?_
              clear hK K
              refine wpAny_done (by kernel_rfl) ?_ _
              dsimp only [OnlyN]
              obtain ⟨W5, hW5⟩ : ∃ W5, W5 = set6 (World.drew W2) w1.heap.size 2 [] b [] [] (numF c) := ⟨_, rfl⟩
              rw [← hW5]
              have HSW : Hid (SW w W5 w1.heap.size ⟨2, [], b, [], [], (numF c)⟩) := Lib.hid (by rw [hW5]; exact HS2.out.drew.set HLT.out 2 [] b [] [] (numF c))
              clear hW5
              go_wp2_with fail
              go_meet
              case rel => exact ⟨rfl, HSW⟩
            · go_simp
              refine (C3.out _).mono ?_
              rintro e w6 ⟨rfl, rfl⟩
              refine hK _ _ ?_
              clear hK K
              refine wpAny_ready (rs := [2]) (by kernel_rfl) (by simp) (AllReady.cons rfl (fun K hK => ?_) AllReady.nil)
              go_simp
              refine hK _ _ ?_
              clear hK K
              refine wpAny_take (i := 7) (v := ?v7) rfl (by kernel_rfl) (by kernel_rfl) (by kernel_rfl) (fun _ _ _ h => h) (Or.inl ⟨by rfl, ?hy7⟩) ?_
              case hy7 => (intro w; go_simp; try with_reducible rfl)
              go_simp
              refine wpAny_ready (rs := [8]) (by kernel_rfl) (by simp) (BigFrame.allReady_want rfl rfl (fun K hK => ?_) AllReady.nil)
              refine store_parts (k := 2) (u := []) (f := b) (n := []) (g := []) (i := (numF c)) (by rfl) (by rfl) HS2.out.drew.1 ?_
              refine hK _ _ ?_
              clear hK K
              refine wpAny_done (by kernel_rfl) ?_ _
              dsimp only [OnlyN]
              obtain ⟨W5, hW5⟩ : ∃ W5, W5 = set6 (World.drew W2) w1.heap.size 2 [] b [] [] (numF c) := ⟨_, rfl⟩
              rw [← hW5]
              have HSW : Hid (SW w W5 w1.heap.size ⟨2, [], b, [], [], (numF c)⟩) := Lib.hid (by rw [hW5]; exact HS2.out.drew.set HLT.out 2 [] b [] [] (numF c))
              clear hW5
              go_wp2_with fail
              go_meet
              case rel => exact ⟨rfl, HSW⟩
        by_cases h103 : a = [103]
        · subst h103
          obtain ⟨rfl, rfl, rfl, rfl, rfl, rfl⟩ := Pa.mk.inj (show (⟨3, [], b, [], unhexF c, 0⟩ : Pa) = ⟨pk, pu, pf, pn, pg, pi⟩ from HPL.out.symm)
          obtain ⟨W2, hW2⟩ : ∃ W, W = w1.alloc (.cells #[.int .i64 0, str [], str [], str [], str [], .int .i64 0] 27) := ⟨_, rfl⟩
          have HS2 : Hid (SW w W2 w1.heap.size pa0) := Lib.hid (by rw [hW2]; exact SW.laid HP1.out HB1.out 0 [] [] [] [] 0 27)
          have HC := Lib.hid (show W2.cell? ⟨bl, off + 1, none⟩ = some (str b) by rw [hW2]; exact x1)
          have CU : Hid (Calls Tryd.prog 28 #[str c] W2 fun e w' => ∃ v ok, e = .returned (.tuple #[v, .bool ok]) ∧ Rd w' v (unhexF c) ∧ Below W2.heap.size W2 w') := Lib.hid (by
            have := HLE.out c (by simp)
            refine (refUnhex_any c W2 (by omega)).mono ?_
            rintro e w' ⟨hb, ⟨v, rfl, h1, h2, ho⟩ | ⟨rfl, h⟩⟩
            · exact ⟨v, true, rfl, by unfold unhexF; rw [if_pos ⟨h1, h2⟩]; exact ho.rd, hb⟩
            · refine ⟨_, false, rfl, ?_, hb⟩
              have e : unhexF c = [] := by
                unfold unhexF
                rw [if_neg]
                rintro ⟨h1, h2⟩
                rcases h with h | h
                · omega
                · exact h h2
              rw [e]
              exact Rd.nil _)
          go_wp2_with fail
          simp only [← hW2]
          refine CU.out.mono ?_
          rintro e w6 ⟨v, ok, rfl, hv, hb6⟩
          have hcv := bt.toString (w := w6.drew) (S := 9) Tryd.underlying9 hv.drew1
          obtain ⟨va', vc', rfl, _⟩ := hv
          have HS6 := Lib.hid (HS2.out.up hb6)
          have c1 : w6.cell? ⟨bl, off + 1, none⟩ = some (str b) := by
            rw [hb6.cell (World.block_lt_of_cell? W2 _ HC.out)]; exact HC.out
          obtain ⟨z0, z1, z2, z3, z4, z5⟩ := (show PK w6 w1.heap.size 0 [] [] [] [] 0 from HS6.out.1).cs
          obtain ⟨y0, y1, y2, y3, y4, y5⟩ := (show PK w6 w1.heap.size 0 [] [] [] [] 0 from HS6.out.1).frs
          have HSW := Lib.hid ((HS6.out.set HLT.out 3 [] b [] (unhexF c) 0).drew)
          clear hb6 hW2 HS2 CU HC
          go_wp2_with fail
          refine only_normal ?_
          refine wp_region_any (by kernel_rfl) ?_
          change wpAny _ _ _ _ _ _ _ (World.drew _)
          refine wpAny_take (i := 0) (v := ?v8) rfl (by kernel_rfl) (by kernel_rfl) (by kernel_rfl) (fun _ _ _ h => h) (Or.inl ⟨by rfl, ?hy8⟩) ?_
          case hy8 => (intro w; go_simp; try with_reducible rfl)
          go_simp
          refine wpAny_take (i := 1) (v := ?v9) rfl (by kernel_rfl) (by kernel_rfl) (by kernel_rfl) (fun _ _ _ h => h) (Or.inl ⟨by rfl, ?hy9⟩) ?_
          case hy9 => (intro w; go_simp; try with_reducible rfl)
          go_simp
          refine wpAny_take (i := 3) (v := ?v10) rfl (by kernel_rfl) (by kernel_rfl) (by kernel_rfl) (fun _ _ _ h => h) (Or.inl ⟨by rfl, ?hy10⟩) ?_
          case hy10 => (intro w; go_simp; try with_reducible rfl)
          go_simp
          refine wpAny_ready (rs := [2, 4]) (by kernel_rfl) (by simp) (AllReady.cons rfl (fun K hK => ?_) (AllReady.cons rfl (fun K hK => ?_) AllReady.nil))
          · go_simp
            refine hK _ _ ?_
            clear hK K
            refine wpAny_ready (rs := [4]) (by kernel_rfl) (by simp) (AllReady.cons rfl (fun K hK => ?_) AllReady.nil)
            go_simp
            refine hK _ _ ?_
            clear hK K
            refine wpAny_take (i := 5) (v := ?v11) rfl (by kernel_rfl) (by kernel_rfl) (by kernel_rfl) (fun _ _ _ h => h) (Or.inl ⟨by rfl, ?hy11⟩) ?_
            case hy11 => (intro w; go_simp; try with_reducible rfl)
            go_simp
            refine wpAny_ready (rs := [6]) (by kernel_rfl) (by simp) (BigFrame.allReady_want rfl rfl (fun K hK => ?_) AllReady.nil)
            refine store_parts (k := 3) (u := []) (f := b) (n := []) (g := (unhexF c)) (i := 0) (by rfl) (by rfl) HS6.out.drew.1 ?_
            refine hK _ _ ?_
            clear hK K
            refine wpAny_done (by kernel_rfl) ?_ _
            dsimp only [OnlyN]
            obtain ⟨W5, hW5⟩ : ∃ W5, W5 = set6 (World.drew w6) w1.heap.size 3 [] b [] (unhexF c) 0 := ⟨_, rfl⟩
            rw [← hW5]
            have HSW : Hid (SW w W5 w1.heap.size ⟨3, [], b, [], (unhexF c), 0⟩) := Lib.hid (by rw [hW5]; exact HS6.out.drew.set HLT.out 3 [] b [] (unhexF c) 0)
            clear hW5
            go_wp2_with fail
            go_meet
            case rel => exact ⟨rfl, HSW⟩
          · go_simp
            refine hK _ _ ?_
            clear hK K
            refine wpAny_ready (rs := [2]) (by kernel_rfl) (by simp) (AllReady.cons rfl (fun K hK => ?_) AllReady.nil)
            go_simp
            refine hK _ _ ?_
            clear hK K
            refine wpAny_take (i := 5) (v := ?v12) rfl (by kernel_rfl) (by kernel_rfl) (by kernel_rfl) (fun _ _ _ h => h) (Or.inl ⟨by rfl, ?hy12⟩) ?_
            case hy12 => (intro w; go_simp; try with_reducible rfl)
            go_simp
            refine wpAny_ready (rs := [6]) (by kernel_rfl) (by simp) (BigFrame.allReady_want rfl rfl (fun K hK => ?_) AllReady.nil)
            refine store_parts (k := 3) (u := []) (f := b) (n := []) (g := (unhexF c)) (i := 0) (by rfl) (by rfl) HS6.out.drew.1 ?_
            refine hK _ _ ?_
            clear hK K
            refine wpAny_done (by kernel_rfl) ?_ _
            dsimp only [OnlyN]
            obtain ⟨W5, hW5⟩ : ∃ W5, W5 = set6 (World.drew w6) w1.heap.size 3 [] b [] (unhexF c) 0 := ⟨_, rfl⟩
            rw [← hW5]
            have HSW : Hid (SW w W5 w1.heap.size ⟨3, [], b, [], (unhexF c), 0⟩) := Lib.hid (by rw [hW5]; exact HS6.out.drew.set HLT.out 3 [] b [] (unhexF c) 0)
            clear hW5
            go_wp2_with fail
            go_meet
            case rel => exact ⟨rfl, HSW⟩
        by_cases h115 : a = [115]
        · subst h115
          obtain ⟨rfl, rfl, rfl, rfl, rfl, rfl⟩ := Pa.mk.inj (show (⟨4, b, c, [], [], 0⟩ : Pa) = ⟨pk, pu, pf, pn, pg, pi⟩ from HPL.out.symm)
          obtain ⟨W2, hW2⟩ : ∃ W, W = w1.alloc (.cells #[.int .i64 0, str [], str [], str [], str [], .int .i64 0] 27) := ⟨_, rfl⟩
          have HS2 : Hid (SW w W2 w1.heap.size pa0) := Lib.hid (by rw [hW2]; exact SW.laid HP1.out HB1.out 0 [] [] [] [] 0 27)
          rw [← hW2] at x1 x2
          have HC := Lib.hid (And.intro x1 x2)
          have HSW := Lib.hid ((HS2.out.set HLT.out 4 b c [] [] 0).drew)
          go_wp2_with fail
          simp only [← hW2]
          clear hW2
          obtain ⟨z0, z1, z2, z3, z4, z5⟩ := (show PK W2 w1.heap.size 0 [] [] [] [] 0 from HS2.out.1).cs
          obtain ⟨y0, y1, y2, y3, y4, y5⟩ := (show PK W2 w1.heap.size 0 [] [] [] [] 0 from HS2.out.1).frs
          refine only_normal ?_
          refine wp_region_any (by kernel_rfl) ?_
          change wpAny _ _ _ _ _ _ _ (World.drew _)
          refine wpAny_take (i := 0) (v := ?v13) rfl (by kernel_rfl) (by kernel_rfl) (by kernel_rfl) (fun _ _ _ h => h) (Or.inl ⟨by rfl, ?hy13⟩) ?_
          case hy13 => (intro w; go_simp; try with_reducible rfl)
          go_simp
          refine wpAny_take (i := 1) (v := ?v14) rfl (by kernel_rfl) (by kernel_rfl) (by kernel_rfl) (fun _ _ _ h => h) (Or.inl ⟨by rfl, ?hy14⟩) ?_
          case hy14 => (intro w; go_simp; try with_reducible rfl)
          go_simp
          refine wpAny_take (i := 3) (v := ?v15) rfl (by kernel_rfl) (by kernel_rfl) (by kernel_rfl) (fun _ _ _ h => h) (Or.inl ⟨by rfl, ?hy15⟩) ?_
          case hy15 => (intro w; go_simp; try with_reducible rfl)
          go_simp
          refine wpAny_take (i := 4) (v := ?v16) rfl (by kernel_rfl) (by kernel_rfl) (by kernel_rfl) (fun _ _ _ h => h) (Or.inl ⟨by rfl, ?hy16⟩) ?_
          case hy16 => (intro w; go_simp; try with_reducible rfl)
          go_simp
          refine wpAny_ready (rs := [2, 5]) (by kernel_rfl) (by simp) (AllReady.cons rfl (fun K hK => ?_) (AllReady.cons rfl (fun K hK => ?_) AllReady.nil))
          · go_simp
            refine hK _ _ ?_
            clear hK K
            refine wpAny_ready (rs := [5]) (by kernel_rfl) (by simp) (AllReady.cons rfl (fun K hK => ?_) AllReady.nil)
            go_simp
            refine hK _ _ ?_
            clear hK K
            refine wpAny_take (i := 6) (v := ?v17) rfl (by kernel_rfl) (by kernel_rfl) (by kernel_rfl) (fun _ _ _ h => h) (Or.inl ⟨by rfl, ?hy17⟩) ?_
            case hy17 => (intro w; go_simp; try with_reducible rfl)
            go_simp
            refine wpAny_ready (rs := [7]) (by kernel_rfl) (by simp) (BigFrame.allReady_want rfl rfl (fun K hK => ?_) AllReady.nil)
            refine store_parts (k := 4) (u := b) (f := c) (n := []) (g := []) (i := 0) (by rfl) (by rfl) HS2.out.drew.1 ?_
            refine hK _ _ ?_
            clear hK K
            refine wpAny_done (by kernel_rfl) ?_ _
            dsimp only [OnlyN]
            obtain ⟨W5, hW5⟩ : ∃ W5, W5 = set6 (World.drew W2) w1.heap.size 4 b c [] [] 0 := ⟨_, rfl⟩
            rw [← hW5]
            have HSW : Hid (SW w W5 w1.heap.size ⟨4, b, c, [], [], 0⟩) := Lib.hid (by rw [hW5]; exact HS2.out.drew.set HLT.out 4 b c [] [] 0)
            clear hW5
            go_wp2_with fail
            go_meet
            case rel => exact ⟨rfl, HSW⟩
          · go_simp
            refine hK _ _ ?_
            clear hK K
            refine wpAny_ready (rs := [2]) (by kernel_rfl) (by simp) (AllReady.cons rfl (fun K hK => ?_) AllReady.nil)
            go_simp
            refine hK _ _ ?_
            clear hK K
            refine wpAny_take (i := 6) (v := ?v18) rfl (by kernel_rfl) (by kernel_rfl) (by kernel_rfl) (fun _ _ _ h => h) (Or.inl ⟨by rfl, ?hy18⟩) ?_
            case hy18 => (intro w; go_simp; try with_reducible rfl)
            go_simp
            refine wpAny_ready (rs := [7]) (by kernel_rfl) (by simp) (BigFrame.allReady_want rfl rfl (fun K hK => ?_) AllReady.nil)
            refine store_parts (k := 4) (u := b) (f := c) (n := []) (g := []) (i := 0) (by rfl) (by rfl) HS2.out.drew.1 ?_
            refine hK _ _ ?_
            clear hK K
            refine wpAny_done (by kernel_rfl) ?_ _
            dsimp only [OnlyN]
            obtain ⟨W5, hW5⟩ : ∃ W5, W5 = set6 (World.drew W2) w1.heap.size 4 b c [] [] 0 := ⟨_, rfl⟩
            rw [← hW5]
            have HSW : Hid (SW w W5 w1.heap.size ⟨4, b, c, [], [], 0⟩) := Lib.hid (by rw [hW5]; exact HS2.out.drew.set HLT.out 4 b c [] [] 0)
            clear hW5
            go_wp2_with fail
            go_meet
            case rel => exact ⟨rfl, HSW⟩
        by_cases h100 : a = [100]
        · subst h100
          obtain ⟨rfl, rfl, rfl, rfl, rfl, rfl⟩ := Pa.mk.inj (show (⟨5, b, [], c, [], 0⟩ : Pa) = ⟨pk, pu, pf, pn, pg, pi⟩ from HPL.out.symm)
          obtain ⟨W2, hW2⟩ : ∃ W, W = w1.alloc (.cells #[.int .i64 0, str [], str [], str [], str [], .int .i64 0] 27) := ⟨_, rfl⟩
          have HS2 : Hid (SW w W2 w1.heap.size pa0) := Lib.hid (by rw [hW2]; exact SW.laid HP1.out HB1.out 0 [] [] [] [] 0 27)
          rw [← hW2] at x1 x2
          have HC := Lib.hid (And.intro x1 x2)
          have HSW := Lib.hid ((HS2.out.set HLT.out 5 b [] c [] 0).drew)
          go_wp2_with fail
          simp only [← hW2]
          clear hW2
          obtain ⟨z0, z1, z2, z3, z4, z5⟩ := (show PK W2 w1.heap.size 0 [] [] [] [] 0 from HS2.out.1).cs
          obtain ⟨y0, y1, y2, y3, y4, y5⟩ := (show PK W2 w1.heap.size 0 [] [] [] [] 0 from HS2.out.1).frs
          refine only_normal ?_
          refine wp_region_any (by kernel_rfl) ?_
          change wpAny _ _ _ _ _ _ _ (World.drew _)
          refine wpAny_take (i := 0) (v := ?v19) rfl (by kernel_rfl) (by kernel_rfl) (by kernel_rfl) (fun _ _ _ h => h) (Or.inl ⟨by rfl, ?hy19⟩) ?_
          case hy19 => (intro w; go_simp; try with_reducible rfl)
          go_simp
          refine wpAny_take (i := 1) (v := ?v20) rfl (by kernel_rfl) (by kernel_rfl) (by kernel_rfl) (fun _ _ _ h => h) (Or.inl ⟨by rfl, ?hy20⟩) ?_
          case hy20 => (intro w; go_simp; try with_reducible rfl)
          go_simp
          refine wpAny_take (i := 3) (v := ?v21) rfl (by kernel_rfl) (by kernel_rfl) (by kernel_rfl) (fun _ _ _ h => h) (Or.inl ⟨by rfl, ?hy21⟩) ?_
          case hy21 => (intro w; go_simp; try with_reducible rfl)
          go_simp
          refine wpAny_take (i := 4) (v := ?v22) rfl (by kernel_rfl) (by kernel_rfl) (by kernel_rfl) (fun _ _ _ h => h) (Or.inl ⟨by rfl, ?hy22⟩) ?_
          case hy22 => (intro w; go_simp; try with_reducible rfl)
          go_simp
          refine wpAny_ready (rs := [2, 5]) (by kernel_rfl) (by simp) (AllReady.cons rfl (fun K hK => ?_) (AllReady.cons rfl (fun K hK => ?_) AllReady.nil))
          · go_simp
            refine hK _ _ ?_
            clear hK K
            refine wpAny_ready (rs := [5]) (by kernel_rfl) (by simp) (AllReady.cons rfl (fun K hK => ?_) AllReady.nil)
            go_simp
            refine hK _ _ ?_
            clear hK K
            refine wpAny_take (i := 6) (v := ?v23) rfl (by kernel_rfl) (by kernel_rfl) (by kernel_rfl) (fun _ _ _ h => h) (Or.inl ⟨by rfl, ?hy23⟩) ?_
            case hy23 => (intro w; go_simp; try with_reducible rfl)
            go_simp
            refine wpAny_ready (rs := [7]) (by kernel_rfl) (by simp) (BigFrame.allReady_want rfl rfl (fun K hK => ?_) AllReady.nil)
            refine store_parts (k := 5) (u := b) (f := []) (n := c) (g := []) (i := 0) (by rfl) (by rfl) HS2.out.drew.1 ?_
            refine hK _ _ ?_
            clear hK K
            refine wpAny_done (by kernel_rfl) ?_ _
            dsimp only [OnlyN]
            obtain ⟨W5, hW5⟩ : ∃ W5, W5 = set6 (World.drew W2) w1.heap.size 5 b [] c [] 0 := ⟨_, rfl⟩
            rw [← hW5]
            have HSW : Hid (SW w W5 w1.heap.size ⟨5, b, [], c, [], 0⟩) := Lib.hid (by rw [hW5]; exact HS2.out.drew.set HLT.out 5 b [] c [] 0)
            clear hW5
            go_wp2_with fail
            go_meet
            case rel => exact ⟨rfl, HSW⟩
          · go_simp
            refine hK _ _ ?_
            clear hK K
            refine wpAny_ready (rs := [2]) (by kernel_rfl) (by simp) (AllReady.cons rfl (fun K hK => ?_) AllReady.nil)
            go_simp
            refine hK _ _ ?_
            clear hK K
            refine wpAny_take (i := 6) (v := ?v24) rfl (by kernel_rfl) (by kernel_rfl) (by kernel_rfl) (fun _ _ _ h => h) (Or.inl ⟨by rfl, ?hy24⟩) ?_
            case hy24 => (intro w; go_simp; try with_reducible rfl)
            go_simp
            refine wpAny_ready (rs := [7]) (by kernel_rfl) (by simp) (BigFrame.allReady_want rfl rfl (fun K hK => ?_) AllReady.nil)
            refine store_parts (k := 5) (u := b) (f := []) (n := c) (g := []) (i := 0) (by rfl) (by rfl) HS2.out.drew.1 ?_
            refine hK _ _ ?_
            clear hK K
            refine wpAny_done (by kernel_rfl) ?_ _
            dsimp only [OnlyN]
            obtain ⟨W5, hW5⟩ : ∃ W5, W5 = set6 (World.drew W2) w1.heap.size 5 b [] c [] 0 := ⟨_, rfl⟩
            rw [← hW5]
            have HSW : Hid (SW w W5 w1.heap.size ⟨5, b, [], c, [], 0⟩) := Lib.hid (by rw [hW5]; exact HS2.out.drew.set HLT.out 5 b [] c [] 0)
            clear hW5
            go_wp2_with fail
            go_meet
            case rel => exact ⟨rfl, HSW⟩
        by_cases h109 : a = [109]
        · subst h109
          obtain ⟨rfl, rfl, rfl, rfl, rfl, rfl⟩ := Pa.mk.inj (show (⟨7, b, c, [], [], 0⟩ : Pa) = ⟨pk, pu, pf, pn, pg, pi⟩ from HPL.out.symm)
          obtain ⟨W2, hW2⟩ : ∃ W, W = w1.alloc (.cells #[.int .i64 0, str [], str [], str [], str [], .int .i64 0] 27) := ⟨_, rfl⟩
          have HS2 : Hid (SW w W2 w1.heap.size pa0) := Lib.hid (by rw [hW2]; exact SW.laid HP1.out HB1.out 0 [] [] [] [] 0 27)
          rw [← hW2] at x1 x2
          have HC := Lib.hid (And.intro x1 x2)
          have HSW := Lib.hid ((HS2.out.set HLT.out 7 b c [] [] 0).drew)
          go_wp2_with fail
          simp only [← hW2]
          clear hW2
          obtain ⟨z0, z1, z2, z3, z4, z5⟩ := (show PK W2 w1.heap.size 0 [] [] [] [] 0 from HS2.out.1).cs
          obtain ⟨y0, y1, y2, y3, y4, y5⟩ := (show PK W2 w1.heap.size 0 [] [] [] [] 0 from HS2.out.1).frs
          refine only_normal ?_
          refine wp_region_any (by kernel_rfl) ?_
          change wpAny _ _ _ _ _ _ _ (World.drew _)
          refine wpAny_take (i := 0) (v := ?v25) rfl (by kernel_rfl) (by kernel_rfl) (by kernel_rfl) (fun _ _ _ h => h) (Or.inl ⟨by rfl, ?hy25⟩) ?_
          case hy25 => (intro w; go_simp; try with_reducible rfl)
          go_simp
          refine wpAny_take (i := 1) (v := ?v26) rfl (by kernel_rfl) (by kernel_rfl) (by kernel_rfl) (fun _ _ _ h => h) (Or.inl ⟨by rfl, ?hy26⟩) ?_
          case hy26 => (intro w; go_simp; try with_reducible rfl)
          go_simp
          refine wpAny_take (i := 3) (v := ?v27) rfl (by kernel_rfl) (by kernel_rfl) (by kernel_rfl) (fun _ _ _ h => h) (Or.inl ⟨by rfl, ?hy27⟩) ?_
          case hy27 => (intro w; go_simp; try with_reducible rfl)
          go_simp
          refine wpAny_take (i := 4) (v := ?v28) rfl (by kernel_rfl) (by kernel_rfl) (by kernel_rfl) (fun _ _ _ h => h) (Or.inl ⟨by rfl, ?hy28⟩) ?_
          case hy28 => (intro w; go_simp; try with_reducible rfl)
          go_simp
          refine wpAny_ready (rs := [2, 5]) (by kernel_rfl) (by simp) (AllReady.cons rfl (fun K hK => ?_) (AllReady.cons rfl (fun K hK => ?_) AllReady.nil))
          · go_simp
            refine hK _ _ ?_
            clear hK K
            refine wpAny_ready (rs := [5]) (by kernel_rfl) (by simp) (AllReady.cons rfl (fun K hK => ?_) AllReady.nil)
            go_simp
            refine hK _ _ ?_
            clear hK K
            refine wpAny_take (i := 6) (v := ?v29) rfl (by kernel_rfl) (by kernel_rfl) (by kernel_rfl) (fun _ _ _ h => h) (Or.inl ⟨by rfl, ?hy29⟩) ?_
            case hy29 => (intro w; go_simp; try with_reducible rfl)
            go_simp
            refine wpAny_ready (rs := [7]) (by kernel_rfl) (by simp) (BigFrame.allReady_want rfl rfl (fun K hK => ?_) AllReady.nil)
            refine store_parts (k := 7) (u := b) (f := c) (n := []) (g := []) (i := 0) (by rfl) (by rfl) HS2.out.drew.1 ?_
            refine hK _ _ ?_
            clear hK K
            refine wpAny_done (by kernel_rfl) ?_ _
            dsimp only [OnlyN]
            obtain ⟨W5, hW5⟩ : ∃ W5, W5 = set6 (World.drew W2) w1.heap.size 7 b c [] [] 0 := ⟨_, rfl⟩
            rw [← hW5]
            have HSW : Hid (SW w W5 w1.heap.size ⟨7, b, c, [], [], 0⟩) := Lib.hid (by rw [hW5]; exact HS2.out.drew.set HLT.out 7 b c [] [] 0)
            clear hW5
            go_wp2_with fail
            go_meet
            case rel => exact ⟨rfl, HSW⟩
          · go_simp
            refine hK _ _ ?_
            clear hK K
            refine wpAny_ready (rs := [2]) (by kernel_rfl) (by simp) (AllReady.cons rfl (fun K hK => ?_) AllReady.nil)
            go_simp
            refine hK _ _ ?_
            clear hK K
            refine wpAny_take (i := 6) (v := ?v30) rfl (by kernel_rfl) (by kernel_rfl) (by kernel_rfl) (fun _ _ _ h => h) (Or.inl ⟨by rfl, ?hy30⟩) ?_
            case hy30 => (intro w; go_simp; try with_reducible rfl)
            go_simp
            refine wpAny_ready (rs := [7]) (by kernel_rfl) (by simp) (BigFrame.allReady_want rfl rfl (fun K hK => ?_) AllReady.nil)
            refine store_parts (k := 7) (u := b) (f := c) (n := []) (g := []) (i := 0) (by rfl) (by rfl) HS2.out.drew.1 ?_
            refine hK _ _ ?_
            clear hK K
            refine wpAny_done (by kernel_rfl) ?_ _
            dsimp only [OnlyN]
            obtain ⟨W5, hW5⟩ : ∃ W5, W5 = set6 (World.drew W2) w1.heap.size 7 b c [] [] 0 := ⟨_, rfl⟩
            rw [← hW5]
            have HSW : Hid (SW w W5 w1.heap.size ⟨7, b, c, [], [], 0⟩) := Lib.hid (by rw [hW5]; exact HS2.out.drew.set HLT.out 7 b c [] [] 0)
            clear hW5
            go_wp2_with fail
            go_meet
            case rel => exact ⟨rfl, HSW⟩
        obtain ⟨rfl, rfl, rfl, rfl, rfl, rfl⟩ := Pa.mk.inj (show (⟨pk, pu, pf, pn, pg, pi⟩ : Pa) = ⟨0, [], [], [], [], 0⟩ by rw [HPL.out]; show threeF a b c = _; unfold threeF; rw [if_neg h101, if_neg h103, if_neg h115, if_neg h100, if_neg h109]; rfl)
        have t1 := ne_beq h101
        have t2 := ne_beq h103
        have t3 := ne_beq h115
        have t4 := ne_beq h100
        have t5 := ne_beq h109
        have HSW := Lib.hid (SW.laid HP1.out HB1.out 0 [] [] [] [] 0 27)
        clear h101 h103 h115 h100 h109
        go_wp2_with fail
        go_meet
        case rel => exact ⟨rfl, HSW⟩
    · as_aux_lemma =>
        obtain ⟨bl, off, cap, hv, hne, hc⟩ := (show RdV w1 (.slice va 4 vc) [str a, str b, str c, str d] from HRV.out).at (by simp) (.cells #[.int .i64 0, str [], str [], str [], str [], .int .i64 0] 27)
        simp only [Value.slice.injEq] at hv
        obtain ⟨rfl, -, rfl⟩ := hv
        have x0 := hc 0 (by simp)
        have x1 := hc 1 (by simp)
        have x2 := hc 2 (by simp)
        have x3 := hc 3 (by simp)
        simp only [Nat.add_zero, List.getElem_cons_zero, List.getElem_cons_succ] at x0 x1 x2 x3
        clear hc HRV
        by_cases ha : a = [114]
        · subst ha
          obtain ⟨rfl, rfl, rfl, rfl, rfl, rfl⟩ := Pa.mk.inj (show (⟨6, b, c, [], [], numF d⟩ : Pa) = ⟨pk, pu, pf, pn, pg, pi⟩ from HPL.out.symm)
          obtain ⟨W2, hW2⟩ : ∃ W, W = w1.alloc (.cells #[.int .i64 0, str [], str [], str [], str [], .int .i64 0] 27) := ⟨_, rfl⟩
          have HS2 : Hid (SW w W2 w1.heap.size pa0) := Lib.hid (by rw [hW2]; exact SW.laid HP1.out HB1.out 0 [] [] [] [] 0 27)
          rw [← hW2] at x1 x2 x3
          have C3 := Lib.hid (fun W => rnumber_any d W (HLE.out d (by simp)))
          have HC := Lib.hid (And.intro x1 (And.intro x2 x3))
          have HSW := Lib.hid ((HS2.out.set HLT.out 6 b c [] [] (numF d)).drew)
          go_wp2_with fail
          simp only [← hW2]
          clear hW2
          obtain ⟨z0, z1, z2, z3, z4, z5⟩ := (show PK W2 w1.heap.size 0 [] [] [] [] 0 from HS2.out.1).cs
          obtain ⟨y0, y1, y2, y3, y4, y5⟩ := (show PK W2 w1.heap.size 0 [] [] [] [] 0 from HS2.out.1).frs
          refine only_normal ?_
          refine wp_region_any (by kernel_rfl) ?_
          change wpAny _ _ _ _ _ _ _ (World.drew _)
          refine wpAny_take (i := 0) (v := ?v31) rfl (by kernel_rfl) (by kernel_rfl) (by kernel_rfl) (fun _ _ _ h => h) (Or.inl ⟨by rfl, ?hy31⟩) ?_
          case hy31 => (intro w; go_simp; try with_reducible rfl)
          go_simp
          refine wpAny_take (i := 1) (v := ?v32) rfl (by kernel_rfl) (by kernel_rfl) (by kernel_rfl) (fun _ _ _ h => h) (Or.inl ⟨by rfl, ?hy32⟩) ?_
          case hy32 => (intro w; go_simp; try with_reducible rfl)
          go_simp
          refine wpAny_take (i := 3) (v := ?v33) rfl (by kernel_rfl) (by kernel_rfl) (by kernel_rfl) (fun _ _ _ h => h) (Or.inl ⟨by rfl, ?hy33⟩) ?_
          case hy33 => (intro w; go_simp; try with_reducible rfl)
          go_simp
          refine wpAny_take (i := 4) (v := ?v34) rfl (by kernel_rfl) (by kernel_rfl) (by kernel_rfl) (fun _ _ _ h => h) (Or.inl ⟨by rfl, ?hy34⟩) ?_
          case hy34 => (intro w; go_simp; try with_reducible rfl)
          go_simp
          refine wpAny_take (i := 6) (v := ?v35) rfl (by kernel_rfl) (by kernel_rfl) (by kernel_rfl) (fun _ _ _ h => h) (Or.inl ⟨by rfl, ?hy35⟩) ?_
          case hy35 => (intro w; go_simp; try with_reducible rfl)
          go_simp
          refine wpAny_take (i := 7) (v := ?v36) rfl (by kernel_rfl) (by kernel_rfl) (by kernel_rfl) (fun _ _ _ h => h) (Or.inl ⟨by rfl, ?hy36⟩) ?_
          case hy36 => (intro w; go_simp; try with_reducible rfl)
          go_simp
          refine wpAny_ready (rs := [2, 5, 8]) (by kernel_rfl) (by simp) (AllReady.cons rfl (fun K hK => ?_) (AllReady.cons rfl (fun K hK => ?_) (AllReady.cons rfl (fun K hK => ?_) AllReady.nil)))
          · go_simp
            refine hK _ _ ?_
            clear hK K
            refine wpAny_ready (rs := [5, 8]) (by kernel_rfl) (by simp) (AllReady.cons rfl (fun K hK => ?_) (AllReady.cons rfl (fun K hK => ?_) AllReady.nil))
            · go_simp
              refine hK _ _ ?_
              clear hK K
              refine wpAny_ready (rs := [8]) (by kernel_rfl) (by simp) (AllReady.cons rfl (fun K hK => ?_) AllReady.nil)
              go_simp
              refine hK _ _ ?_
              clear hK K
              refine wpAny_ready (rs := [9]) (by kernel_rfl) (by simp) (AllReady.cons rfl (fun K hK => ?_) AllReady.nil)
              go_simp
              refine (C3.out _).mono ?_
              rintro e w6 ⟨rfl, rfl⟩
              refine hK _ _ ?_
              clear hK K
              refine wpAny_take (i := 10) (v := ?v37) rfl (by kernel_rfl) (by kernel_rfl) (by kernel_rfl) (fun _ _ _ h => h) (Or.inl ⟨by rfl, ?hy37⟩) ?_
              case hy37 => (intro w; go_simp; try with_reducible rfl)
              go_simp
              refine wpAny_ready (rs := [11]) (by kernel_rfl) (by simp) (BigFrame.allReady_want rfl rfl (fun K hK => ?_) AllReady.nil)
              refine store_parts (k := 6) (u := b) (f := c) (n := []) (g := []) (i := (numF d)) (by rfl) (by rfl) HS2.out.drew.1 ?_
              refine hK _ _ ?_
              clear hK K
              refine wpAny_done (by kernel_rfl) ?_ _
              dsimp only [OnlyN]
              obtain ⟨W5, hW5⟩ : ∃ W5, W5 = set6 (World.drew W2) w1.heap.size 6 b c [] [] (numF d) := ⟨_, rfl⟩
              rw [← hW5]
              have HSW : Hid (SW w W5 w1.heap.size ⟨6, b, c, [], [], (numF d)⟩) := Lib.hid (by rw [hW5]; exact HS2.out.drew.set HLT.out 6 b c [] [] (numF d))
              clear hW5
              go_wp2_with fail
              go_meet
              case rel => exact ⟨rfl, HSW⟩
            · go_simp
              refine hK _ _ ?_
              clear hK K
              refine wpAny_ready (rs := [5, 9]) (by kernel_rfl) (by simp) (AllReady.cons rfl (fun K hK => ?_) (AllReady.cons rfl (fun K hK => ?_) AllReady.nil))
              · go_simp
                refine hK _ _ ?_
                clear hK K
                refine wpAny_ready (rs := [9]) (by kernel_rfl) (by simp) (AllReady.cons rfl (fun K hK => ?_) AllReady.nil)
                go_simp
                refine (C3.out _).mono ?_
                rintro e w6 ⟨rfl, rfl⟩
                refine hK _ _ ?_
                clear hK K
                refine wpAny_take (i := 10) (v := ?v38) rfl (by kernel_rfl) (by kernel_rfl) (by kernel_rfl) (fun _ _ _ h => h) (Or.inl ⟨by rfl, ?hy38⟩) ?_
                case hy38 => (intro w; go_simp; try with_reducible rfl)
                go_simp
                refine wpAny_ready (rs := [11]) (by kernel_rfl) (by simp) (BigFrame.allReady_want rfl rfl (fun K hK => ?_) AllReady.nil)
                refine store_parts (k := 6) (u := b) (f := c) (n := []) (g := []) (i := (numF d)) (by rfl) (by rfl) HS2.out.drew.1 ?_
                refine hK _ _ ?_
                clear hK K
                refine wpAny_done (by kernel_rfl) ?_ _
                dsimp only [OnlyN]
                obtain ⟨W5, hW5⟩ : ∃ W5, W5 = set6 (World.drew W2) w1.heap.size 6 b c [] [] (numF d) := ⟨_, rfl⟩
                rw [← hW5]
                have HSW : Hid (SW w W5 w1.heap.size ⟨6, b, c, [], [], (numF d)⟩) := Lib.hid (by rw [hW5]; exact HS2.out.drew.set HLT.out 6 b c [] [] (numF d))
                clear hW5
                go_wp2_with fail
                go_meet
                case rel => exact ⟨rfl, HSW⟩
              · go_simp
                refine (C3.out _).mono ?_
                rintro e w6 ⟨rfl, rfl⟩
                refine hK _ _ ?_
                clear hK K
                refine wpAny_ready (rs := [5]) (by kernel_rfl) (by simp) (AllReady.cons rfl (fun K hK => ?_) AllReady.nil)
                go_simp
                refine hK _ _ ?_
                clear hK K
                refine wpAny_take (i := 10) (v := ?v39) rfl (by kernel_rfl) (by kernel_rfl) (by kernel_rfl) (fun _ _ _ h => h) (Or.inl ⟨by rfl, ?hy39⟩) ?_
                case hy39 => (intro w; go_simp; try with_reducible rfl)
                go_simp
                refine wpAny_ready (rs := [11]) (by kernel_rfl) (by simp) (BigFrame.allReady_want rfl rfl (fun K hK => ?_) AllReady.nil)
                refine store_parts (k := 6) (u := b) (f := c) (n := []) (g := []) (i := (numF d)) (by rfl) (by rfl) HS2.out.drew.1 ?_
                refine hK _ _ ?_
                clear hK K
                refine wpAny_done (by kernel_rfl) ?_ _
                dsimp only [OnlyN]
                obtain ⟨W5, hW5⟩ : ∃ W5, W5 = set6 (World.drew W2) w1.heap.size 6 b c [] [] (numF d) := ⟨_, rfl⟩
                rw [← hW5]
                have HSW : Hid (SW w W5 w1.heap.size ⟨6, b, c, [], [], (numF d)⟩) := Lib.hid (by rw [hW5]; exact HS2.out.drew.set HLT.out 6 b c [] [] (numF d))
                clear hW5
                go_wp2_with fail
                go_meet
                case rel => exact ⟨rfl, HSW⟩
          · go_simp
            refine hK _ _ ?_
            clear hK K
            refine wpAny_ready (rs := [2, 8]) (by kernel_rfl) (by simp) (AllReady.cons rfl (fun K hK => ?_) (AllReady.cons rfl (fun K hK => ?_) AllReady.nil))
            · go_simp
              refine hK _ _ ?_
              clear hK K
              refine wpAny_ready (rs := [8]) (by kernel_rfl) (by simp) (AllReady.cons rfl (fun K hK => ?_) AllReady.nil)
              go_simp
              refine hK _ _ ?_
              clear hK K
              refine wpAny_ready (rs := [9]) (by kernel_rfl) (by simp) (AllReady.cons rfl (fun K hK => ?_) AllReady.nil)
              go_simp
              refine (C3.out _).mono ?_
              rintro e w6 ⟨rfl, rfl⟩
              refine hK _ _ ?_
              clear hK K
              refine wpAny_take (i := 10) (v := ?v40) rfl (by kernel_rfl) (by kernel_rfl) (by kernel_rfl) (fun _ _ _ h => h) (Or.inl ⟨by rfl, ?hy40⟩) ?_
              case hy40 => (intro w; go_simp; try with_reducible rfl)
              go_simp
              refine wpAny_ready (rs := [11]) (by kernel_rfl) (by simp) (BigFrame.allReady_want rfl rfl (fun K hK => ?_) AllReady.nil)
              refine store_parts (k := 6) (u := b) (f := c) (n := []) (g := []) (i := (numF d)) (by rfl) (by rfl) HS2.out.drew.1 ?_
              refine hK _ _ ?_
              clear hK K
              refine wpAny_done (by kernel_rfl) ?_ _
              dsimp only [OnlyN]
              obtain ⟨W5, hW5⟩ : ∃ W5, W5 = set6 (World.drew W2) w1.heap.size 6 b c [] [] (numF d) := ⟨_, rfl⟩
              rw [← hW5]
              have HSW : Hid (SW w W5 w1.heap.size ⟨6, b, c, [], [], (numF d)⟩) := Lib.hid (by rw [hW5]; exact HS2.out.drew.set HLT.out 6 b c [] [] (numF d))
              clear hW5
              go_wp2_with fail
              go_meet
              case rel => exact ⟨rfl, HSW⟩
            · go_simp
              refine hK _ _ ?_
              clear hK K
              refine wpAny_ready (rs := [2, 9]) (by kernel_rfl) (by simp) (AllReady.cons rfl (fun K hK => ?_) (AllReady.cons rfl (fun K hK => ?_) AllReady.nil))
              · go_simp
                refine hK _ _ ?_
                clear hK K
                refine wpAny_ready (rs := [9]) (by kernel_rfl) (by simp) (AllReady.cons rfl (fun K hK => ?_) AllReady.nil)
                go_simp
                refine (C3.out _).mono ?_
                rintro e w6 ⟨rfl, rfl⟩
                refine hK _ _ ?_
                clear hK K
                refine wpAny_take (i := 10) (v := ?v41) rfl (by kernel_rfl) (by kernel_rfl) (by kernel_rfl) (fun _ _ _ h => h) (Or.inl ⟨by rfl, ?hy41⟩) ?_
                case hy41 => (intro w; go_simp; try with_reducible rfl)
                go_simp
                refine wpAny_ready (rs := [11]) (by kernel_rfl) (by simp) (BigFrame.allReady_want rfl rfl (fun K hK => ?_) AllReady.nil)
                refine store_parts (k := 6) (u := b) (f := c) (n := []) (g := []) (i := (numF d)) (by rfl) (by rfl) HS2.out.drew.1 ?_
                refine hK _ _ ?_
                clear hK K
                refine wpAny_done (by kernel_rfl) ?_ _
                dsimp only [OnlyN]
                obtain ⟨W5, hW5⟩ : ∃ W5, W5 = set6 (World.drew W2) w1.heap.size 6 b c [] [] (numF d) := ⟨_, rfl⟩
                rw [← hW5]
                have HSW : Hid (SW w W5 w1.heap.size ⟨6, b, c, [], [], (numF d)⟩) := Lib.hid (by rw [hW5]; exact HS2.out.drew.set HLT.out 6 b c [] [] (numF d))
                clear hW5
                go_wp2_with fail
                go_meet
                case rel => exact ⟨rfl, HSW⟩
              · go_simp
                refine (C3.out _).mono ?_
                rintro e w6 ⟨rfl, rfl⟩
                refine hK _ _ ?_
                clear hK K
                refine wpAny_ready (rs := [2]) (by kernel_rfl) (by simp) (AllReady.cons rfl (fun K hK => ?_) AllReady.nil)
                go_simp
                refine hK _ _ ?_
                clear hK K
                refine wpAny_take (i := 10) (v := ?v42) rfl (by kernel_rfl) (by kernel_rfl) (by kernel_rfl) (fun _ _ _ h => h) (Or.inl ⟨by rfl, ?hy42⟩) ?_
                case hy42 => (intro w; go_simp; try with_reducible rfl)
                go_simp
                refine wpAny_ready (rs := [11]) (by kernel_rfl) (by simp) (BigFrame.allReady_want rfl rfl (fun K hK => ?_) AllReady.nil)
                refine store_parts (k := 6) (u := b) (f := c) (n := []) (g := []) (i := (numF d)) (by rfl) (by rfl) HS2.out.drew.1 ?_
                refine hK _ _ ?_
                clear hK K
                refine wpAny_done (by kernel_rfl) ?_ _
                dsimp only [OnlyN]
                obtain ⟨W5, hW5⟩ : ∃ W5, W5 = set6 (World.drew W2) w1.heap.size 6 b c [] [] (numF d) := ⟨_, rfl⟩
                rw [← hW5]
                have HSW : Hid (SW w W5 w1.heap.size ⟨6, b, c, [], [], (numF d)⟩) := Lib.hid (by rw [hW5]; exact HS2.out.drew.set HLT.out 6 b c [] [] (numF d))
                clear hW5
                go_wp2_with fail
                go_meet
                case rel => exact ⟨rfl, HSW⟩
          · go_simp
            refine hK _ _ ?_
            clear hK K
            refine wpAny_ready (rs := [2, 5, 9]) (by kernel_rfl) (by simp) (AllReady.cons rfl (fun K hK => ?_) (AllReady.cons rfl (fun K hK => ?_) (AllReady.cons rfl (fun K hK => ?_) AllReady.nil)))
            · go_simp
              refine hK _ _ ?_
              clear hK K
              refine wpAny_ready (rs := [5, 9]) (by kernel_rfl) (by simp) (AllReady.cons rfl (fun K hK => ?_) (AllReady.cons rfl (fun K hK => ?_) AllReady.nil))
              · go_simp
                refine hK _ _ ?_
                clear hK K
                refine wpAny_ready (rs := [9]) (by kernel_rfl) (by simp) (AllReady.cons rfl (fun K hK => ?_) AllReady.nil)
                go_simp
                refine (C3.out _).mono ?_
                rintro e w6 ⟨rfl, rfl⟩
                refine hK _ _ ?_
                clear hK K
                refine wpAny_take (i := 10) (v := ?v43) rfl (by kernel_rfl) (by kernel_rfl) (by kernel_rfl) (fun _ _ _ h => h) (Or.inl ⟨by rfl, ?hy43⟩) ?_
                case hy43 => (intro w; go_simp; try with_reducible rfl)
                go_simp
                refine wpAny_ready (rs := [11]) (by kernel_rfl) (by simp) (BigFrame.allReady_want rfl rfl (fun K hK => ?_) AllReady.nil)
                refine store_parts (k := 6) (u := b) (f := c) (n := []) (g := []) (i := (numF d)) (by rfl) (by rfl) HS2.out.drew.1 ?_
                refine hK _ _ ?_
                clear hK K
                refine wpAny_done (by kernel_rfl) ?_ _
                dsimp only [OnlyN]
                obtain ⟨W5, hW5⟩ : ∃ W5, W5 = set6 (World.drew W2) w1.heap.size 6 b c [] [] (numF d) := ⟨_, rfl⟩
                rw [← hW5]
                have HSW : Hid (SW w W5 w1.heap.size ⟨6, b, c, [], [], (numF d)⟩) := Lib.hid (by rw [hW5]; exact HS2.out.drew.set HLT.out 6 b c [] [] (numF d))
                clear hW5
                go_wp2_with fail
                go_meet
                case rel => exact ⟨rfl, HSW⟩
              · go_simp
                refine (C3.out _).mono ?_
                rintro e w6 ⟨rfl, rfl⟩
                refine hK _ _ ?_
                clear hK K
                refine wpAny_ready (rs := [5]) (by kernel_rfl) (by simp) (AllReady.cons rfl (fun K hK => ?_) AllReady.nil)
                go_simp
                refine hK _ _ ?_
                clear hK K
                refine wpAny_take (i := 10) (v := ?v44) rfl (by kernel_rfl) (by kernel_rfl) (by kernel_rfl) (fun _ _ _ h => h) (Or.inl ⟨by rfl, ?hy44⟩) ?_
                case hy44 => (intro w; go_simp; try with_reducible rfl)
                go_simp
                refine wpAny_ready (rs := [11]) (by kernel_rfl) (by simp) (BigFrame.allReady_want rfl rfl (fun K hK => ?_) AllReady.nil)
                refine store_parts (k := 6) (u := b) (f := c) (n := []) (g := []) (i := (numF d)) (by rfl) (by rfl) HS2.out.drew.1 ?_
                refine hK _ _ ?_
                clear hK K
                refine wpAny_done (by kernel_rfl) ?_ _
                dsimp only [OnlyN]
                obtain ⟨W5, hW5⟩ : ∃ W5, W5 = set6 (World.drew W2) w1.heap.size 6 b c [] [] (numF d) := ⟨_, rfl⟩
                rw [← hW5]
                have HSW : Hid (SW w W5 w1.heap.size ⟨6, b, c, [], [], (numF d)⟩) := Lib.hid (by rw [hW5]; exact HS2.out.drew.set HLT.out 6 b c [] [] (numF d))
                clear hW5
                go_wp2_with fail
                go_meet
                case rel => exact ⟨rfl, HSW⟩
            · go_simp
              refine hK _ _ ?_
              clear hK K
              refine wpAny_ready (rs := [2, 9]) (by kernel_rfl) (by simp) (AllReady.cons rfl (fun K hK => ?_) (AllReady.cons rfl (fun K hK => ?_) AllReady.nil))
              · go_simp
                refine hK _ _ ?_
                clear hK K
                refine wpAny_ready (rs := [9]) (by kernel_rfl) (by simp) (AllReady.cons rfl (fun K hK => ?_) AllReady.nil)
                go_simp
                refine (C3.out _).mono ?_
                rintro e w6 ⟨rfl, rfl⟩
                refine hK _ _ ?_
                clear hK K
                refine wpAny_take (i := 10) (v := ?v45) rfl (by kernel_rfl) (by kernel_rfl) (by kernel_rfl) (fun _ _ _ h => h) (Or.inl ⟨by rfl, ?hy45⟩) ?_
                case hy45 => (intro w; go_simp; try with_reducible rfl)
                go_simp
                refine wpAny_ready (rs := [11]) (by kernel_rfl) (by simp) (BigFrame.allReady_want rfl rfl (fun K hK => ?_) AllReady.nil)
                refine store_parts (k := 6) (u := b) (f := c) (n := []) (g := []) (i := (numF d)) (by rfl) (by rfl) HS2.out.drew.1 ?_
                refine hK _ _ ?_
                clear hK K
                refine wpAny_done (by kernel_rfl) ?_ _
                dsimp only [OnlyN]
                obtain ⟨W5, hW5⟩ : ∃ W5, W5 = set6 (World.drew W2) w1.heap.size 6 b c [] [] (numF d) := ⟨_, rfl⟩
                rw [← hW5]
                have HSW : Hid (SW w W5 w1.heap.size ⟨6, b, c, [], [], (numF d)⟩) := Lib.hid (by rw [hW5]; exact HS2.out.drew.set HLT.out 6 b c [] [] (numF d))
                clear hW5
                go_wp2_with fail
                go_meet
                case rel => exact ⟨rfl, HSW⟩
              · go_simp
                refine (C3.out _).mono ?_
                rintro e w6 ⟨rfl, rfl⟩
                refine hK _ _ ?_
                clear hK K
                refine wpAny_ready (rs := [2]) (by kernel_rfl) (by simp) (AllReady.cons rfl (fun K hK => ?_) AllReady.nil)
                go_simp
                refine hK _ _ ?_
                clear hK K
                refine wpAny_take (i := 10) (v := ?v46) rfl (by kernel_rfl) (by kernel_rfl) (by kernel_rfl) (fun _ _ _ h => h) (Or.inl ⟨by rfl, ?hy46⟩) ?_
                case hy46 => (intro w; go_simp; try with_reducible rfl)
                go_simp
                refine wpAny_ready (rs := [11]) (by kernel_rfl) (by simp) (BigFrame.allReady_want rfl rfl (fun K hK => ?_) AllReady.nil)
                refine store_parts (k := 6) (u := b) (f := c) (n := []) (g := []) (i := (numF d)) (by rfl) (by rfl) HS2.out.drew.1 ?_
                refine hK _ _ ?_
                clear hK K
                refine wpAny_done (by kernel_rfl) ?_ _
                dsimp only [OnlyN]
                obtain ⟨W5, hW5⟩ : ∃ W5, W5 = set6 (World.drew W2) w1.heap.size 6 b c [] [] (numF d) := ⟨_, rfl⟩
                rw [← hW5]
                have HSW : Hid (SW w W5 w1.heap.size ⟨6, b, c, [], [], (numF d)⟩) := Lib.hid (by rw [hW5]; exact HS2.out.drew.set HLT.out 6 b c [] [] (numF d))
                clear hW5
                go_wp2_with fail
                go_meet
                case rel => exact ⟨rfl, HSW⟩
            · go_simp
              refine (C3.out _).mono ?_
              rintro e w6 ⟨rfl, rfl⟩
              refine hK _ _ ?_
              clear hK K
              refine wpAny_ready (rs := [2, 5]) (by kernel_rfl) (by simp) (AllReady.cons rfl (fun K hK => ?_) (AllReady.cons rfl (fun K hK => ?_) AllReady.nil))
              · go_simp
                refine hK _ _ ?_
                clear hK K
                refine wpAny_ready (rs := [5]) (by kernel_rfl) (by simp) (AllReady.cons rfl (fun K hK => ?_) AllReady.nil)
                go_simp
                refine hK _ _ ?_
                clear hK K
                refine wpAny_take (i := 10) (v := ?v47) rfl (by kernel_rfl) (by kernel_rfl) (by kernel_rfl) (fun _ _ _ h => h) (Or.inl ⟨by rfl, ?hy47⟩) ?_
                case hy47 => (intro w; go_simp; try with_reducible rfl)
                go_simp
                refine wpAny_ready (rs := [11]) (by kernel_rfl) (by simp) (BigFrame.allReady_want rfl rfl (fun K hK => ?_) AllReady.nil)
                refine store_parts (k := 6) (u := b) (f := c) (n := []) (g := []) (i := (numF d)) (by rfl) (by rfl) HS2.out.drew.1 ?_
                refine hK _ _ ?_
                clear hK K
                refine wpAny_done (by kernel_rfl) ?_ _
                dsimp only [OnlyN]
                obtain ⟨W5, hW5⟩ : ∃ W5, W5 = set6 (World.drew W2) w1.heap.size 6 b c [] [] (numF d) := ⟨_, rfl⟩
                rw [← hW5]
                have HSW : Hid (SW w W5 w1.heap.size ⟨6, b, c, [], [], (numF d)⟩) := Lib.hid (by rw [hW5]; exact HS2.out.drew.set HLT.out 6 b c [] [] (numF d))
                clear hW5
                go_wp2_with fail
                go_meet
                case rel => exact ⟨rfl, HSW⟩
              · go_simp
                refine hK _ _ ?_
                clear hK K
                refine wpAny_ready (rs := [2]) (by kernel_rfl) (by simp) (AllReady.cons rfl (fun K hK => ?_) AllReady.nil)
                go_simp
                refine hK _ _ ?_
                clear hK K
                refine wpAny_take (i := 10) (v := ?v48) rfl (by kernel_rfl) (by kernel_rfl) (by kernel_rfl) (fun _ _ _ h => h) (Or.inl ⟨by rfl, ?hy48⟩) ?_
                case hy48 => (intro w; go_simp; try with_reducible rfl)
                go_simp
                refine wpAny_ready (rs := [11]) (by kernel_rfl) (by simp) (BigFrame.allReady_want rfl rfl (fun K hK => ?_) AllReady.nil)
                refine store_parts (k := 6) (u := b) (f := c) (n := []) (g := []) (i := (numF d)) (by rfl) (by rfl) HS2.out.drew.1 ?_
                refine hK _ _ ?_
                clear hK K
                refine wpAny_done (by kernel_rfl) ?_ _
                dsimp only [OnlyN]
                obtain ⟨W5, hW5⟩ : ∃ W5, W5 = set6 (World.drew W2) w1.heap.size 6 b c [] [] (numF d) := ⟨_, rfl⟩
                rw [← hW5]
                have HSW : Hid (SW w W5 w1.heap.size ⟨6, b, c, [], [], (numF d)⟩) := Lib.hid (by rw [hW5]; exact HS2.out.drew.set HLT.out 6 b c [] [] (numF d))
                clear hW5
                go_wp2_with fail
                go_meet
                case rel => exact ⟨rfl, HSW⟩
        obtain ⟨rfl, rfl, rfl, rfl, rfl, rfl⟩ := Pa.mk.inj (show (⟨pk, pu, pf, pn, pg, pi⟩ : Pa) = ⟨0, [], [], [], [], 0⟩ by rw [HPL.out]; show (if a = [114] then _ else pa0) = _; rw [if_neg ha]; rfl)
        have t0 := ne_beq ha
        have HSW := Lib.hid (SW.laid HP1.out HB1.out 0 [] [] [] [] 0 27)
        clear ha
        go_wp2_with fail
        go_meet
        case rel => exact ⟨rfl, HSW⟩
    · as_aux_lemma =>
        have hpl := HPL.out
        obtain ⟨rfl, rfl, rfl, rfl, rfl, rfl⟩ := Pa.mk.inj hpl
        clear hpl
        have hlen : (a :: b :: c :: d :: e5 :: r).length = r.length + 5 := by simp
        have t2 : ((r.length : Int) + 5 == 2) = false := by rw [beq_eq_false_iff_ne]; omega
        have HSW := Lib.hid (SW.laid HP1.out HB1.out 0 [] [] [] [] 0 27)
        go_wp2_with fail
        go_meet
        case rel => exact ⟨rfl, HSW⟩
  case rest =>
  obtain ⟨rfl, HSW⟩ := hcut
  obtain ⟨w2, hw2⟩ : ∃ w, w = wc := ⟨_, rfl⟩
  subst hw2
  clear HP1 HB1 HRV HPL HLE HLT
  by_cases h0 : l = []
  · have hno : ¬ okF l := fun h => (HOK.out.1 h).1 h0
    have HNO := Lib.hid hno
    subst h0
    clear hno HOK
    obtain ⟨z0, z1, z2, z3, z4, z5⟩ := HSW.out.2.1.cs
    obtain ⟨y0, y1, y2, y3, y4, y5⟩ := HSW.out.2.1.frs
    have HBN := Lib.hid (below_set6 HSW.out.2.2 (Nat.le_refl w.heap.size) 0 [] [] [] [] 0)
    clear HSW
    go_wp2_with fail
    refine bodyPost_ret (v := .tuple #[pa pa0, .bool false]) (by simp [results, Tryd.results8, go_sem, z0, z1, z2, z3, z4, z5, pa0]) rfl ⟨.inr ⟨HNO.out, rfl⟩, ?_⟩
    exact HBN.out
  · have t0 := ne_beq h0
    have HNE := Lib.hid h0
    obtain ⟨q0, q1, q2, q3, q4, q5⟩ := HSW.out.1.cs
    clear h0
    go_wp2_with fail
    refine (CK.out _).mono ?_
    rintro e w4 ⟨rfl, hb4⟩
    have HS4 := Lib.hid (HSW.out.up hb4)
    clear hb4 CK HSW q0 q1 q2 q3 q4 q5
    obtain ⟨y0, y1, y2, y3, y4, y5⟩ := HS4.out.2.1.frs
    obtain ⟨z0, z1, z2, z3, z4, z5⟩ := HS4.out.2.1.cs
    by_cases hk : K = l
    · have HYES := Lib.hid (HOK.out.2 ⟨HNE.out, hk⟩)
      have t1 : (K == l) = true := by rw [hk]; simp
      obtain ⟨q0, q1, q2, q3, q4, q5⟩ := HS4.out.1.cs
      have HBN := Lib.hid (below_set6 HS4.out.2.2 (Nat.le_refl _) pk pu pf pn pg pi)
      clear hk HOK HS4
      go_wp2_with fail
      refine bodyPost_ret (v := .tuple #[pak pk pu pf pn pg pi, .bool true]) (by simp [results, Tryd.results8, go_sem, z0, z1, z2, z3, z4, z5]) rfl ⟨.inl ⟨HYES.out, rfl⟩, ?_⟩
      exact HBN.out
    · have HNO := Lib.hid (show ¬ okF l from fun h => hk (HOK.out.1 h).2)
      have t1 := ne_beq hk
      have HBN := Lib.hid (below_set6 HS4.out.2.2 (Nat.le_refl _) 0 [] [] [] [] 0)
      clear hk HOK HS4
      go_wp2_with fail
      refine bodyPost_ret (v := .tuple #[pa pa0, .bool false]) (by simp [results, Tryd.results8, go_sem, z0, z1, z2, z3, z4, z5, pa0]) rfl ⟨.inr ⟨HNO.out, rfl⟩, ?_⟩
      exact HBN.out
end Go.Proofs.YtonkfekjhbfelaaDoor
