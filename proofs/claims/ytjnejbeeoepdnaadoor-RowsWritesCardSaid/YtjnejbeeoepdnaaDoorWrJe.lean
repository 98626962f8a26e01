/- Joined: MkPut, RwMkP, RjMks, RjAny, RowIns, RwWr, RwWrW, Open, OpenM, OpenRw. -/
import Derived.Test.YtjnejbeeoepdnaaDoorRwObj
import Derived.Test.YtjnejbeeoepdnaaDoorWrJm
import Derived.Deep.AppendLies
import Derived.Test.YtjnejbeeoepdnaaDoorRwPut2
import Derived.Test.YtjnejbeeoepdnaaDoorRjRows0
import Derived.Deep.RegionHeld
import Derived.Test.YtjnejbeeoepdnaaDoorRjRows2
import Derived.Test.YtjnejbeeoepdnaaDoorRjRows3
import Derived.Test.YtjnejbeeoepdnaaDoorAppN
import Derived.Laws.AppendOwnNone
import Derived.Laws.OwnMore
import Derived.Test.YtjnejbeeoepdnaaDoorBx
import Derived.Deep.CutRange
import Derived.Test.YtjnejbeeoepdnaaDoorKit
import Derived.ProofKit
import Derived.OpenShut
import Derived.ShutString
import Derived.ChangeOld
import Derived.Lib.SmallJoins
namespace Go.Proofs.YtjnejbeeoepdnaaDoor
open Go.RowKit

theorem infoJk : (Tryd.prog.info? 54).map (fun i => (i.zero, i.size, i.bytes)) = some (some (.agg #[.int .i64 0, .int .i64 0, str [], .slice none 0 0, .slice none 0 0]), 5, 80) := by kernel_rfl
/-- Marks as a value. -/
def markJ (m : MarkT) : JV := .mk 6 0 [] [.mk 4 m.1 [] [] [], .mk 4 m.2 [] [] []] []
def marksN : List UInt8 := [109, 97, 114, 107, 115]
def mksJ (l : List MarkT) : JV := .mk 7 0 [] [] [(marksN, .mk 6 0 [] (l.map markJ) [])]
theorem txMarks : txF marksN = true := by kernel_rfl
theorem txNil : txF [] = true := by kernel_rfl
theorem markJ_may {m : MarkT} (h : mayB m = true) (d : Nat) (hd : 2 ≤ d) : mayV (markJ m) d = true := by
  obtain ⟨e, rfl⟩ : ∃ e, d = e + 2 := ⟨d - 2, by omega⟩
  unfold mayB at h
  have h := of_decide_eq_true h
  obtain ⟨a, b⟩ := m
  dsimp only at h
  simp [markJ, mayV, fitV, mayL, mayM, txNil]
  omega
theorem marks_mayL : ∀ {l : List MarkT}, (∀ m ∈ l, mayB m = true) → ∀ d, 2 ≤ d → mayL (l.map markJ) d = true
  | [], _, d, _ => rfl
  | m :: t, h, d, hd => by
    rw [List.map_cons, mayL, markJ_may (h m (by simp)) d hd, marks_mayL (fun x hx => h x (by simp [hx])) d hd]
    rfl
theorem mksJ_may {l : List MarkT} (h : ∀ m ∈ l, mayB m = true) : mayV (mksJ l) 64 = true := by
  have := marks_mayL h 62 (by omega)
  simp [mksJ, mayV, fitV, mayL, mayM, txNil, txMarks, aftB, this]
theorem RdFB.lit {F : Nat → Prop} {sz : Nat} {w : World} {b n : Nat} {T : TypeId} (L : List (List Value)) (hr : ∀ r ∈ L, r.length = sz) (h : w.heap[b]? = some (.cells L.flatten.toArray T (0, 0))) (hn : n = L.length) (hl : L.length ≤ 9223372036854775807) (hF : F b) : RdFB F sz w (.slice (some ⟨b, 0, none⟩) n n) L := by
  obtain ⟨a, cap, hv, h1, h2, h3, h4⟩ := RdF.lit (w := w) (b := b) (n := n) (T := T) L hr h hn hl
  refine ⟨a, cap, hv, h1, h2, h3, fun hne => ?_⟩
  obtain ⟨b', off, ha, hc⟩ := h4 hne
  simp only [Value.slice.injEq] at hv
  rw [ha] at hv
  simp only [Option.some.injEq, Addr.mk.injEq, and_true] at hv
  obtain ⟨⟨rfl, rfl⟩, _⟩ := hv
  exact ⟨b, 0, ha, hF, hc⟩
theorem plainK (W : World) (F : Nat → Prop) (k n : Int) (s : List UInt8) : RdJ W F (.mk k n s [] []) [.int .i64 k, .int .i64 n, str s, .slice none 0 0, .slice none 0 0] :=
  RdJ.mk0 (v := .mk k n s [] []) (RdFB.nil _ _ _) (by unfold RdL; trivial) (RdFB.nil _ _ _) (by unfold RdM; trivial)
/-- A mark's value, as it is laid. -/
theorem markJ_lies {W : World} {F : Nat → Prop} {b : Nat} {T : TypeId} (m : MarkT) (h : W.heap[b]? = some (.cells #[.int .i64 4, .int .i64 m.1, str [], .slice none 0 0, .slice none 0 0, .int .i64 4, .int .i64 m.2, str [], .slice none 0 0, .slice none 0 0] T (0, 0))) (hF : F b) :
    RdJ W F (markJ m) [.int .i64 6, .int .i64 0, str [], .slice (some ⟨b, 0, none⟩) 2 2, .slice none 0 0] := by
  refine RdJ.mk0 (v := markJ m) (rl := [[.int .i64 4, .int .i64 m.1, str [], .slice none 0 0, .slice none 0 0], [.int .i64 4, .int .i64 m.2, str [], .slice none 0 0, .slice none 0 0]]) (RdFB.lit _ (by simp) h rfl (by simp) hF) ?_ (RdFB.nil _ _ _) (by unfold markJ; unfold RdM; trivial)
  show RdL W F [.mk 4 m.1 [] [] [], .mk 4 m.2 [] [] []] _
  unfold RdL
  refine ⟨plainK _ _ _ _ _, ?_⟩
  unfold RdL
  refine ⟨plainK _ _ _ _ _, ?_⟩
  unfold RdL
  trivial
/-- Values under way in a row of the call's own. -/
def RowJ (base : Nat) (acc : List JV) (vl : Value) (W : World) : Prop :=
  ∃ rows, W.ownsRow base 54 5 vl acc.length rows.flatten ∧ RdL W (fun i => base ≤ i ∧ i < W.heap.size ∧ vl.ownBlock ≠ some i) acc rows
theorem RowJ.up {base : Nat} {acc : List JV} {vl : Value} {W W' : World} (h : RowJ base acc vl W) (hb : Below W.heap.size W W') : RowJ base acc vl W' := by
  obtain ⟨rows, h1, h2⟩ := h
  exact ⟨rows, owns_below h1 hb (Nat.le_refl _), (h2.up hb).mono (fun i hi hF => ⟨hF.1, hi, hF.2.2⟩)⟩
theorem RowJ.add {base B0 : Nat} {acc : List JV} {vl : Value} {rows : List (List Value)} {W w4 : World} {g cap : Nat} {v : JV} {cs : List Value} {ob : Obj} (_ : W.ownsRow base 54 5 vl acc.length rows.flatten) (h4 : RdL W (fun i => base ≤ i ∧ i < W.heap.size ∧ vl.ownBlock ≠ some i) acc rows) (hB : base ≤ B0)
    (hvb : ∀ k, vl.ownBlock = some k → k < B0) (hv : RdJ W (fun i => B0 ≤ i) v cs)
    (ho : w4.ownsRow base 54 5 (.slice (some ⟨g, 0, none⟩) (acc.length + 1) cap) (acc.length + 1) (rows.flatten ++ cs)) (hg : (W.alloc ob).grownBy w4 vl.ownBlock) (hl : vl.ownBlock = some g ∨ g = W.heap.size + 1) :
    RowJ base (acc ++ [v]) (.slice (some ⟨g, 0, none⟩) (acc.length + 1) cap) w4 ∧ Frm (fun i => vl.ownBlock = some i) W w4 := by
  have f1 : Frm (fun i => vl.ownBlock = some i) W w4 := (Frm.of_below (below_alloc W ob)).trans (Frm.of_grown hg (fun k hk => hk)) (fun _ _ h => h)
  refine ⟨⟨rows ++ [cs], ?_, RdL.snoc ?_ ?_⟩, f1⟩
  · rw [List.flatten_append, List.length_append]
    simp only [List.flatten_cons, List.flatten_nil, List.append_nil, List.length_singleton]
    exact ho
  · refine RdJ.mono (F := fun i => B0 ≤ i ∧ i < W.heap.size) ?_ (fun i hi hF => ⟨by omega, hi, fun e => ?_⟩)
    · exact (hv.mono (G := fun i => B0 ≤ i ∧ i < W.heap.size) (fun i hi hF => ⟨hF, hi⟩)).frm f1 (fun i hi e => by have := hvb i e; omega)
    · simp only [Value.ownBlock, Option.some.injEq] at e
      subst e
      rcases hl with h | h
      · have := hvb _ h; omega
      · omega
  · have := h4.frm f1 (fun i hi e => hi.2.2 e)
    refine this.mono (fun i hi hF => ⟨hF.1, hi, fun e => ?_⟩)
    simp only [Value.ownBlock, Option.some.injEq] at e
    subst e
    rcases hl with h | h
    · exact hF.2.2 h
    · omega
/-- A row under way, as a slice of values. -/
theorem RowJ.rd {base : Nat} {acc : List JV} {vl : Value} {W : World} (h : RowJ base acc vl W) : ∃ a c rows, vl = .slice a acc.length c ∧ RdFB (fun _ => True) 5 W (.slice a acc.length c) rows ∧ RdL W (fun _ => True) acc rows := by
  obtain ⟨rows, h3, h4⟩ := h
  obtain ⟨r1, r2⟩ := RdL.rows h4
  have hf : ∃ a c, vl = .slice a acc.length c := by
    rcases h3.2 with ⟨rfl, h0⟩ | ⟨g, cap, _, rfl, _⟩
    · exact ⟨none, 0, by rw [h0]⟩
    · exact ⟨_, cap, rfl⟩
  obtain ⟨a, c, rfl⟩ := hf
  refine ⟨a, c, rows, rfl, ?_, h4.mono (fun _ _ _ => trivial)⟩
  rw [← r1] at h3 ⊢
  exact RdFB.of_row r2 h3 (fun _ _ => trivial)
theorem itoa_short {n : Int} (h : -9223372036854775808 ≤ n ∧ n ≤ 9223372036854775807) : (Lib.itoa n).length ≤ 21 := by
  unfold Lib.itoa
  have hd : ∀ k u : Nat, u < 10 ^ k → 1 ≤ k → Lib.nDigits u ≤ k := by
    intro k
    induction k with
    | zero => intro u _ h; omega
    | succ k ih =>
      intro u hu _
      by_cases hs : u < 10
      · rw [Lib.nDigits_small hs]; omega
      · rw [Lib.nDigits_big hs]
        have hk : 1 ≤ k := by
          rcases k with _ | k
          · simp at hu; omega
          · omega
        have := ih (u / 10) (by rw [Nat.pow_succ] at hu; omega) hk
        omega
  split
  · rw [List.length_cons, Lib.decDigits_length]
    have := hd 20 n.natAbs (by omega) (by omega)
    omega
  · rw [Lib.decDigits_length]
    have := hd 20 n.toNat (by omega) (by omega)
    omega
theorem marks_len : ∀ {l : List MarkT}, (∀ m ∈ l, mayB m = true) → (prT (l.map markJ)).length ≤ 50 * l.length
  | [], _ => by simp [prT]
  | m :: t, h => by
    have ih := marks_len (l := t) (fun x hx => h x (by simp [hx]))
    have hm := h m (by simp)
    unfold mayB at hm
    have hm := of_decide_eq_true hm
    have h1 := itoa_short (n := m.1) (by omega)
    have h2 := itoa_short (n := m.2) (by omega)
    rw [List.map_cons, prT]
    have e : prV (markJ m) = 91 :: ((prT [.mk 4 m.1 [] [] [], .mk 4 m.2 [] [] []]).drop 1 ++ [93]) := rfl
    have e1 : prV (.mk 4 m.1 [] [] []) = Lib.itoa m.1 := rfl
    have e2 : prV (.mk 4 m.2 [] [] []) = Lib.itoa m.2 := rfl
    rw [e]
    simp [prT, e1, e2]
    omega
theorem mksJ_len {l : List MarkT} (h : MayL l) : (prV (mksJ l)).length ≤ 1000 := by
  have h1 := marks_len (stair_may h.1)
  have h2 := h.2
  have e : prV (mksJ l) = 123 :: ((prU [(marksN, .mk 6 0 [] (l.map markJ) [])]).drop 1 ++ [125]) := rfl
  have e1 : prV (.mk 6 0 [] (l.map markJ) []) = 91 :: ((prT (l.map markJ)).drop 1 ++ [93]) := rfl
  have e2 : (quo marksN).length = 7 := by decide
  rw [e]
  simp [prU, e1, e2]
  omega
/-- PutMarks under way. -/
def PmI (w : World) (l : List MarkT) (k : Nat) (vl : Value) (W : World) : Prop := Below w.heap.size w W ∧ RowJ w.heap.size ((l.take k).map markJ) vl W
set_option maxRecDepth 100000 in
set_option maxHeartbeats 4000000 in
theorem putMarks_yes (v : Value) (l : List MarkT) (w : World) (hv : RdMk w v l) (hm : MayL l) (ht : TabJ w.heap.size w) :
    Calls Tryd.prog 13 #[v] w fun e w' => e = .returned (.tuple #[str (prV (mksJ l)), .int .i64 0]) ∧ Below w.heap.size w w' := by
  obtain ⟨i0, hi, hz0, hz1, hz2⟩ := info_parts infoJk
  have HT := Lib.hid ht
  have HV := Lib.hid hv
  have HM := Lib.hid hm
  have C1 := pmay_any v l w hv
  rw [mayL_yes hm] at C1
  have C1 := Lib.hid C1
  obtain ⟨av, cv, rfl, hlen⟩ := hv.form
  have h8 := hm.2
  clear ht hv hm
  go_enter Tryd.func13, Tryd.ntmps13
  go_wp2_with fail
  refine C1.out.mono ?_
  rintro e w1 ⟨rfl, hb1⟩
  have HB1 := Lib.hid hb1
  clear hb1 C1
  go_wp2_with fail
  go_loopw [4, 12] (fun v4 v12 wr => ∃ k : Nat, k ≤ l.length ∧ v12 = .int .i64 (k : Int) ∧ Hid (PmI w l k v4 wr)) (fun _ v12 _ => l.length - (intOf v12).toNat)
  case atStart => exact ⟨0, Nat.zero_le _, rfl, Lib.hid ⟨HB1.out, [], World.ownsRow_nil _ _ _ _, by simp [RdL]⟩⟩
  case round =>
    obtain ⟨v4, hv4⟩ : ∃ v4, v4 = u4 := ⟨_, rfl⟩
    subst hv4
    obtain ⟨k, hk, rfl, HI⟩ := hrel
    by_cases hlt : k < l.length
    · have n1 : (k : Int) < (l.length : Int) := by omega
      have n3 : (0 : Int) ≤ (k : Int) := by omega
      obtain ⟨b, off, rfl, c0, c1⟩ := (HV.out.up HI.out.1).get hlt
      obtain ⟨m, hmm⟩ : ∃ m, m = l[k] := ⟨_, rfl⟩
      rw [← hmm] at c0 c1
      have HTK : Hid ((l.take (k + 1)).map markJ = (l.take k).map markJ ++ [markJ m]) := Lib.hid (by rw [List.take_add_one, List.getElem?_eq_getElem hlt, Option.toList_some, List.map_append, hmm]; rfl)
      obtain ⟨acc, hacc⟩ : ∃ acc, acc = (l.take k).map markJ := ⟨_, rfl⟩
      have hal : acc.length = k := by rw [hacc]; simp; omega
      have HIB := Lib.hid HI.out.1
      have HIR := HI.out.2
      rw [← hacc] at HTK HIR
      obtain ⟨rows, ho0, hr0⟩ := HIR
      clear hacc hmm HI
      obtain ⟨W1, hW1⟩ : ∃ W1, W1 = (wr.alloc (.cells #[.int .i64 m.1, .int .i64 m.2] 49)).alloc (.cells #[.int .i64 4, .int .i64 m.1, .string ⟨#[]⟩, .slice none 0 0, .slice none 0 0, .int .i64 4, .int .i64 m.2, .string ⟨#[]⟩, .slice none 0 0, .slice none 0 0] 54) := ⟨_, rfl⟩
      have hb1 : Below wr.heap.size wr W1 := by rw [hW1]; exact below_two _ _ _
      have hbx : W1.heap[wr.heap.size + 1]? = some (.cells #[.int .i64 4, .int .i64 m.1, str [], .slice none 0 0, .slice none 0 0, .int .i64 4, .int .i64 m.2, str [], .slice none 0 0, .slice none 0 0] 54 (0, 0)) := by
        rw [hW1]
        have := heap_alloc_new (wr.alloc (.cells #[.int .i64 m.1, .int .i64 m.2] 49)) (.cells #[.int .i64 4, .int .i64 m.1, .string ⟨#[]⟩, .slice none 0 0, .slice none 0 0, .int .i64 4, .int .i64 m.2, .string ⟨#[]⟩, .slice none 0 0, .slice none 0 0] 54)
        simpa using this
      have hs1 : W1.heap.size = wr.heap.size + 2 := by rw [hW1]; simp
      have HR : Hid (W1.ownsRow w.heap.size 54 5 v4 acc.length rows.flatten ∧ RdL W1 (fun i => w.heap.size ≤ i ∧ i < W1.heap.size ∧ v4.ownBlock ≠ some i) acc rows ∧ ∀ j, v4.ownBlock = some j → j < wr.heap.size) := Lib.hid ⟨owns_below ho0 hb1 (Nat.le_refl _), (hr0.up hb1).mono (fun i hi hF => ⟨hF.1, hi, hF.2.2⟩), fun j hj => (ho0.lt j hj).2⟩
      have HX := Lib.hid (And.intro hbx (And.intro hs1 hb1))
      have hnew : (W1.alloc (.cells #[.int .i64 6, .int .i64 0, .string ⟨#[]⟩, .slice (some ⟨wr.heap.size + 1, 0, none⟩) 2 2, .slice none 0 0] 54)).heap[wr.heap.size + 1 + 1]? = some (.cells #[.int .i64 6, .int .i64 0, str [], .slice (some ⟨wr.heap.size + 1, 0, none⟩) 2 2, .slice none 0 0] 54 (0, 0)) := by
        have := heap_alloc_new W1 (.cells #[.int .i64 6, .int .i64 0, .string ⟨#[]⟩, .slice (some ⟨wr.heap.size + 1, 0, none⟩) 2 2, .slice none 0 0] 54)
        rw [hs1] at this
        exact this
      have HNW := Lib.hid hnew
      have hk8 : k ≤ 8 := by omega
      have hal8 : acc.length ≤ 8 := by omega
      have HAL := Lib.hid hal
      clear ho0 hr0 hb1 hbx hs1 hal hnew
      go_wp2_with (at_builtin; refine hold ?_)
      rw [← hW1]
      clear hW1
      intro _
      rw [← HAL.out]
      refine wpList_append_lies _ (by rfl) _ _ 51 (by rfl) w.heap.size 54 i0 _ 5 80 Tryd.underlying51 hi hz0 hz1 hz2 rfl (by decide) v4 acc.length rows.flatten (by rfl) (owns_frm (F := fun _ => False) HR.out.1 (Frm.of_below (below_alloc W1 _)) (fun _ _ h => h)) ⟨wr.heap.size + 1 + 1, 0, none⟩ 1 1 [.int .i64 6, .int .i64 0, str [], .slice (some ⟨wr.heap.size + 1, 0, none⟩) 2 2, .slice none 0 0] (by rfl) (by rfl) (World.news_of_block HNW.out) (by simp [Value.oneCell']) (by decide) (by simp only [maxLen]; omega) (by omega) (by have := HIB.out.size; have := HX.out.2.2.size; simp; omega) _ rfl ?_
      intro g cap w4 ho hg hl4 _
      have hadd := RowJ.add HR.out.1 HR.out.2.1 (B0 := wr.heap.size + 1) (by have := HIB.out.size; omega) (fun j hj => Nat.lt_succ_of_lt (HR.out.2.2 j hj)) (markJ_lies (F := fun i => wr.heap.size + 1 ≤ i) m HX.out.1 (Nat.le_refl _)) ho hg (by simpa using hl4)
      have HN : Hid (PmI w l (k + 1) (.slice (some ⟨g, 0, none⟩) (acc.length + 1) cap) w4) := Lib.hid ⟨(HIB.out.trans (HX.out.2.2.mono HIB.out.size)).trans (hadd.2.below (Nat.le_trans HIB.out.size HX.out.2.2.size) (fun j hj => (HR.out.1.lt j hj).1)), by rw [HTK.out]; exact hadd.1⟩
      clear hadd ho hg hl4
      go_wp2_with fail
      go_roundw
      case rel => exact ⟨k + 1, by omega, by first | go_num | (rw [HAL.out]; go_num), HN⟩
      case measure => (have := HAL.out; simp [intOf]; omega)
    · obtain rfl : k = l.length := by omega
      have n2 : ¬ (l.length : Int) < (l.length : Int) := by omega
      have HR4 := HI.out.2
      rw [List.take_length] at HR4
      obtain ⟨a4, c4, rows4, e4, hrf, hrl⟩ := HR4.rd
      rw [List.length_map] at e4 hrf
      subst e4
      have HRW := Lib.hid (And.intro hrf hrl)
      have HWB := Lib.hid HI.out.1
      have CL : Hid (Calls Tryd.prog 30 #[str [109, 97, 114, 107, 115], .slice a4 l.length c4] wr fun e w' => e = .returned (.agg #[str [109, 97, 114, 107, 115], .int .i64 6, .int .i64 0, str [], .slice a4 l.length c4, .slice none 0 0]) ∧ Below wr.heap.size wr w') := Lib.hid (bList_any _ _ _ _ _)
      clear HR4 hrf hrl HI
      go_wp2_with fail
      refine CL.out.mono ?_
      rintro e w2 ⟨rfl, hb2⟩
      obtain ⟨W3, hW3⟩ : ∃ W3, W3 = w2.alloc (.cells #[str [109, 97, 114, 107, 115], .int .i64 6, .int .i64 0, str [], .slice a4 l.length c4, .slice none 0 0] 56) := ⟨_, rfl⟩
      have hb3 : Below wr.heap.size wr W3 := by rw [hW3]; exact hb2.trans ((below_alloc _ _).mono hb2.size)
      have hbx : W3.heap[w2.heap.size]? = some (.cells #[str [109, 97, 114, 107, 115], .int .i64 6, .int .i64 0, str [], .slice a4 l.length c4, .slice none 0 0] 56 (0, 0)) := by rw [hW3]; exact heap_alloc_new _ _
      have hB3 := HWB.out.trans (hb3.mono HWB.out.size)
      have CO := object_yes (F := fun _ => True) (w := W3) (am := some ⟨w2.heap.size, 0, none⟩) (lm := 1) (cm := 1) (ms := [(marksN, .mk 6 0 [] (l.map markJ) [])]) (rows := [[str [109, 97, 114, 107, 115], .int .i64 6, .int .i64 0, str [], .slice a4 l.length c4, .slice none 0 0]])
        (RdFB.lit _ (by simp) hbx rfl (by simp) trivial) (by
          unfold RdM
          refine ⟨⟨_, rfl, RdJ.mk0 (v := .mk 6 0 [] (l.map markJ) []) (HRW.out.1.frm (Frm.of_below (F := fun _ => False) hb3) (fun _ _ e => e)) (HRW.out.2.up hb3) (RdFB.nil _ _ _) (by unfold RdM; trivial)⟩, ?_⟩
          unfold RdM
          trivial) (mksJ_may (stair_may HM.out.1)) (by have := mksJ_len HM.out; unfold mksJ at this; omega) (fun w' h' => HT.out w' (hB3.trans (h'.mono hB3.size)))
      have CO := Lib.hid CO
      have HB3 := Lib.hid hB3
      clear hb2 hb3 hbx hB3 CL
      go_wp2_with fail
      rw [← hW3]
      clear hW3
      refine CO.out.mono ?_
      rintro e w5 ⟨rfl, hb5⟩
      have HX := Lib.hid (HB3.out.trans (hb5.mono HB3.out.size))
      clear hb5 CO
      go_wp2_with fail
      go_ret2
      exact ⟨rfl, HX.out⟩
end Go.Proofs.YtjnejbeeoepdnaaDoor
namespace Go.Proofs.YtjnejbeeoepdnaaDoor
open Go.RowKit

def mksMs (l : List MarkT) : List MemT := [(marksN, .mk 6 0 [] (l.map markJ) [])]
def putMksR (l : List MarkT) : List UInt8 × Int := if MayL l then objR (mksMs l) else ([], 4)
theorem mks_obj {l : List MarkT} (h : MayL l) : objR (mksMs l) = (prV (mksJ l), 0) := by
  have := mksJ_may (stair_may h.1)
  unfold objR mksMs
  unfold mksJ at this ⊢
  rw [if_pos this]
set_option maxRecDepth 100000 in
set_option maxHeartbeats 4000000 in
theorem putMks_any (v : Value) (l : List MarkT) (w : World) (hv : RdMk w v l) (ht : TabJ w.heap.size w) :
    Calls Tryd.prog 13 #[v] w fun e w' => e = .returned (.tuple #[str (putMksR l).1, .int .i64 (putMksR l).2]) ∧ Below w.heap.size w w' := by
  by_cases hm : MayL l
  · have := putMarks_yes v l w hv hm ht
    unfold putMksR
    rw [if_pos hm, mks_obj hm]
    exact this
  · unfold putMksR
    rw [if_neg hm]
    have C1 := pmay_any v l w hv
    rw [mayL_no hm] at C1
    have C1 := Lib.hid C1
    obtain ⟨av, cv, rfl, _⟩ := hv.form
    clear hv hm ht
    go_enter Tryd.func13, Tryd.ntmps13
    go_wp2_with fail
    refine C1.out.mono ?_
    rintro e w1 ⟨rfl, hb1⟩
    have HX := Lib.hid hb1
    clear hb1 C1
    go_wp2_with fail
    go_ret2
    exact ⟨rfl, HX.out⟩
end Go.Proofs.YtjnejbeeoepdnaaDoor
namespace Go.Proofs.YtjnejbeeoepdnaaDoor
open Go.RowKit

theorem infoRjV : (Tryd.prog.info? 63).map (fun i => (i.zero, i.size, i.bytes)) = some (some (.agg #[.int .i64 0, .int .i64 0, str [], .slice none 0 0, .slice none 0 0]), 5, 80) := by kernel_rfl
/-- Values under way in a row of the call's own. -/
def RowRj (base : Nat) (acc : List JV) (vl : Value) (W : World) : Prop :=
  ∃ rows, W.ownsRow base 63 5 vl acc.length rows.flatten ∧ RdL W (fun i => base ≤ i ∧ i < W.heap.size ∧ vl.ownBlock ≠ some i) acc rows
theorem RowRj.up {base : Nat} {acc : List JV} {vl : Value} {W W' : World} (h : RowRj base acc vl W) (hb : Below W.heap.size W W') : RowRj base acc vl W' := by
  obtain ⟨rows, h1, h2⟩ := h
  exact ⟨rows, owns_below h1 hb (Nat.le_refl _), (h2.up hb).mono (fun i hi hF => ⟨hF.1, hi, hF.2.2⟩)⟩
theorem RowRj.add {base B0 : Nat} {acc : List JV} {vl : Value} {rows : List (List Value)} {W w4 : World} {g cap : Nat} {v : JV} {cs : List Value} {ob : Obj} (_ : W.ownsRow base 63 5 vl acc.length rows.flatten) (h4 : RdL W (fun i => base ≤ i ∧ i < W.heap.size ∧ vl.ownBlock ≠ some i) acc rows) (hB : base ≤ B0)
    (hvb : ∀ k, vl.ownBlock = some k → k < B0) (hv : RdJ W (fun i => B0 ≤ i) v cs)
    (ho : w4.ownsRow base 63 5 (.slice (some ⟨g, 0, none⟩) (acc.length + 1) cap) (acc.length + 1) (rows.flatten ++ cs)) (hg : (W.alloc ob).grownBy w4 vl.ownBlock) (hl : vl.ownBlock = some g ∨ g = W.heap.size + 1) :
    RowRj base (acc ++ [v]) (.slice (some ⟨g, 0, none⟩) (acc.length + 1) cap) w4 ∧ Frm (fun i => vl.ownBlock = some i) W w4 := by
  have f1 : Frm (fun i => vl.ownBlock = some i) W w4 := (Frm.of_below (below_alloc W ob)).trans (Frm.of_grown hg (fun k hk => hk)) (fun _ _ h => h)
  refine ⟨⟨rows ++ [cs], ?_, RdL.snoc ?_ ?_⟩, f1⟩
  · rw [List.flatten_append, List.length_append]
    simp only [List.flatten_cons, List.flatten_nil, List.append_nil, List.length_singleton]
    exact ho
  · refine RdJ.mono (F := fun i => B0 ≤ i ∧ i < W.heap.size) ?_ (fun i hi hF => ⟨by omega, hi, fun e => ?_⟩)
    · exact (hv.mono (G := fun i => B0 ≤ i ∧ i < W.heap.size) (fun i hi hF => ⟨hF, hi⟩)).frm f1 (fun i hi e => by have := hvb i e; omega)
    · simp only [Value.ownBlock, Option.some.injEq] at e
      subst e
      rcases hl with h | h
      · have := hvb _ h; omega
      · omega
  · have := h4.frm f1 (fun i hi e => hi.2.2 e)
    refine this.mono (fun i hi hF => ⟨hF.1, hi, fun e => ?_⟩)
    simp only [Value.ownBlock, Option.some.injEq] at e
    subst e
    rcases hl with h | h
    · exact hF.2.2 h
    · omega
/-- A row under way, as a slice of values. -/
theorem RowRj.rd {base : Nat} {acc : List JV} {vl : Value} {W : World} (h : RowRj base acc vl W) : ∃ a c rows, vl = .slice a acc.length c ∧ RdFB (fun _ => True) 5 W (.slice a acc.length c) rows ∧ RdL W (fun _ => True) acc rows := by
  obtain ⟨rows, h3, h4⟩ := h
  obtain ⟨r1, r2⟩ := RdL.rows h4
  have hf : ∃ a c, vl = .slice a acc.length c := by
    rcases h3.2 with ⟨rfl, h0⟩ | ⟨g, cap, _, rfl, _⟩
    · exact ⟨none, 0, by rw [h0]⟩
    · exact ⟨_, cap, rfl⟩
  obtain ⟨a, c, rfl⟩ := hf
  refine ⟨a, c, rows, rfl, ?_, h4.mono (fun _ _ _ => trivial)⟩
  rw [← r1] at h3 ⊢
  exact RdFB.of_row r2 h3 (fun _ _ => trivial)

theorem RowRj.frm {F : Nat → Prop} {base : Nat} {acc : List JV} {vl : Value} {W W' : World} (h : RowRj base acc vl W) (hf : Frm F W W') (hF : ∀ i, F i → i < base) : RowRj base acc vl W' := by
  obtain ⟨rows, h1, h2⟩ := h
  refine ⟨rows, owns_frm h1 hf (fun k hk e => by have := hF k e; have := (h1.lt k hk).1; omega), ?_⟩
  exact (h2.frm hf (fun i hi e => by have := hF i e; omega)).mono (fun i hi hF => ⟨hF.1, Nat.lt_of_lt_of_le hF.2.1 hf.size, hF.2.2⟩)
theorem new_of {W0 W : World} (_ : Below W0.heap.size W0 W) (o : Obj) : (W.alloc o).heap[W.heap.size]? = some o := heap_alloc_new W o
/-- Under way: the value in its box, its list. -/
structure PmR (w W : World) (B : Nat) (l : List MarkT) (k : Nat) (vl : Value) : Prop where
  bel : Below w.heap.size w W
  lt : w.heap.size ≤ B ∧ B < W.heap.size
  box : W.heap[B]? = some (.cells #[.int .i64 6, .int .i64 0, str [], vl, .slice none 0 0] 63 (0, 0))
  row : RowRj (B + 1) ((l.take k).map markJ) vl W
theorem PmR.up {w W W' : World} {B k : Nat} {l : List MarkT} {vl : Value} (h : PmR w W B l k vl) (hb : Below W.heap.size W W') : PmR w W' B l k vl :=
  ⟨h.bel.trans (hb.mono h.bel.size), ⟨h.lt.1, Nat.lt_of_lt_of_le h.lt.2 hb.size⟩, by rw [hb.block B h.lt.2]; exact h.box, h.row.up hb⟩
theorem PmR.cell {w W : World} {B k : Nat} {l : List MarkT} {vl : Value} (h : PmR w W B l k vl) : W.cell? ⟨B, 3, none⟩ = some vl ∧ W.frozen? ⟨B, 3, none⟩ = false := by
  have hb := h.box
  exact ⟨by simp [World.cell?, hb], frozen_of_row W B 3 _ _ hb⟩
/-- A mark more. -/
theorem PmR.add {w W w4 : World} {B k g cap b0 : Nat} {l : List MarkT} {vl : Value} {m : MarkT} {acc : List JV} {rows : List (List Value)} {ob : Obj} (h : PmR w W B l k vl) (_ : (l.take k).map markJ = acc) (hl : (l.take (k + 1)).map markJ = acc ++ [markJ m])
    (h1 : W.ownsRow (B + 1) 63 5 vl acc.length rows.flatten) (h4 : RdL W (fun i => B + 1 ≤ i ∧ i < W.heap.size ∧ vl.ownBlock ≠ some i) acc rows) (hB0 : B + 1 ≤ b0) (hvb : ∀ j, vl.ownBlock = some j → j < b0)
    (hb0 : W.heap[b0]? = some (.cells #[.int .i64 4, .int .i64 m.1, str [], .slice none 0 0, .slice none 0 0, .int .i64 4, .int .i64 m.2, str [], .slice none 0 0, .slice none 0 0] 63 (0, 0)))
    (ho : w4.ownsRow (B + 1) 63 5 (.slice (some ⟨g, 0, none⟩) (acc.length + 1) cap) (acc.length + 1) (rows.flatten ++ [.int .i64 6, .int .i64 0, str [], .slice (some ⟨b0, 0, none⟩) 2 2, .slice none 0 0])) (hg : (W.alloc ob).grownBy w4 vl.ownBlock) (hl4 : vl.ownBlock = some g ∨ g = W.heap.size + 1) :
    PmR w (w4.setCell ⟨B, 3, none⟩ (.slice (some ⟨g, 0, none⟩) (acc.length + 1) cap)) B l (k + 1) (.slice (some ⟨g, 0, none⟩) (acc.length + 1) cap) ∧ w4.cell? ⟨B, 3, none⟩ = some vl ∧ w4.frozen? ⟨B, 3, none⟩ = false ∧ Below w.heap.size w w4 := by
  obtain ⟨h5, h6⟩ := RowRj.add h1 h4 hB0 hvb (markJ_lies (F := fun i => b0 ≤ i) m hb0 (Nat.le_refl _)) ho hg hl4
  have hnB : ¬ vl.ownBlock = some B := fun e => by have := (h1.lt B e).1; omega
  have hbx : w4.heap[B]? = some (.cells #[.int .i64 6, .int .i64 0, str [], vl, .slice none 0 0] 63 (0, 0)) := by rw [h6.block B h.lt.2 hnB]; exact h.box
  have hbel : Below w.heap.size w w4 := h.bel.trans (h6.below h.bel.size (fun j hj => by have := (h1.lt j hj).1; have := h.lt.1; omega))
  have f2 : Frm (fun i => i = B) w4 (w4.setCell ⟨B, 3, none⟩ (.slice (some ⟨g, 0, none⟩) (acc.length + 1) cap)) := Frm.set _ rfl
  refine ⟨⟨hbel.trans (f2.below hbel.size (fun j hj => by subst hj; exact h.lt.1)), ⟨h.lt.1, Nat.lt_of_lt_of_le (Array.getElem?_eq_some_iff.1 hbx).1 f2.size⟩, ?_, ?_⟩, by simp [World.cell?, hbx], frozen_of_row w4 B 3 _ _ hbx, hbel⟩
  · rw [heap_setCell_same w4 B 3 _ _ _ hbx]
    rfl
  · rw [hl]
    exact h5.frm f2 (fun i hi => by omega)
/-- The marks' cells. -/
def SMk (bA o : Nat) (m : MarkT) (W : World) : Prop := W.cell? ⟨bA, o, none⟩ = some (.int .i64 m.1) ∧ W.cell? ⟨bA, o + 1, none⟩ = some (.int .i64 m.2)
theorem mks_lenI {l : List MarkT} (hlen : l.length ≤ 50) (hI : ∀ m ∈ l, (-9223372036854775808 ≤ m.1 ∧ m.1 ≤ 9223372036854775807) ∧ (-9223372036854775808 ≤ m.2 ∧ m.2 ≤ 9223372036854775807)) : (prV (.mk 7 0 [] [] (mksMs l))).length ≤ 1000000 := by
  have key : ∀ l : List MarkT, (∀ m ∈ l, (-9223372036854775808 ≤ m.1 ∧ m.1 ≤ 9223372036854775807) ∧ (-9223372036854775808 ≤ m.2 ∧ m.2 ≤ 9223372036854775807)) → (prT (l.map markJ)).length ≤ 50 * l.length := by
    intro l
    induction l with
    | nil => intro _; simp [prT]
    | cons m t ih =>
      intro h
      have ih := ih (fun x hx => h x (by simp [hx]))
      have hm := h m (by simp)
      have h1 := itoa_short hm.1
      have h2 := itoa_short hm.2
      rw [List.map_cons, prT]
      have e : prV (markJ m) = 91 :: ((prT [.mk 4 m.1 [] [] [], .mk 4 m.2 [] [] []]).drop 1 ++ [93]) := rfl
      have e1 : prV (.mk 4 m.1 [] [] []) = Lib.itoa m.1 := rfl
      have e2 : prV (.mk 4 m.2 [] [] []) = Lib.itoa m.2 := rfl
      rw [e]
      simp [prT, e1, e2]
      omega
  have h1 := key l hI
  have e : prV (.mk 7 0 [] [] (mksMs l)) = 123 :: ((prU (mksMs l)).drop 1 ++ [125]) := rfl
  have e1 : prV (.mk 6 0 [] (l.map markJ) []) = 91 :: ((prT (l.map markJ)).drop 1 ++ [93]) := rfl
  have e2 : (quo marksN).length = 7 := by decide
  rw [e]
  simp [mksMs, prU, e1, e2]
  omega
theorem mark_stL : ∀ l : List MarkT, stL (l.map markJ)
  | [] => by unfold List.map stL; trivial
  | m :: t => by
    rw [List.map_cons]
    unfold stL
    refine ⟨?_, mark_stL t⟩
    unfold markJ
    simp [stV, stL, stM]
theorem mks_st {l : List MarkT} : stM (mksMs l) := by
  unfold mksMs stM
  refine ⟨by decide, ?_, by unfold stM; trivial⟩
  unfold stV
  exact ⟨by simp, mark_stL l, by unfold stM; trivial⟩
set_option maxRecDepth 100000 in
set_option maxHeartbeats 8000000 in
theorem rputMks_any (v : Value) (l : List MarkT) (w : World) (hv : RdMk w v l) (hlen : l.length ≤ 50) (hI : ∀ m ∈ l, (-9223372036854775808 ≤ m.1 ∧ m.1 ≤ 9223372036854775807) ∧ (-9223372036854775808 ≤ m.2 ∧ m.2 ≤ 9223372036854775807)) :
    Calls Tryd.prog 14 #[v] w fun e w' => e = .returned (.tuple #[str (refO (mksMs l) (mayLk l)).1, .int .i64 (refO (mksMs l) (mayLk l)).2]) ∧ Below w.heap.size w w' := by
  obtain ⟨i0, hi, hz0, hz1, hz2⟩ := info_parts infoRjV
  have HV := Lib.hid hv
  have HL := Lib.hid (mks_lenI hlen hI)
  obtain ⟨av, cv, rfl, _⟩ := hv.form
  obtain ⟨MB, hMB⟩ : ∃ MB, MB = mayLk l := ⟨_, rfl⟩
  rw [← hMB]
  obtain ⟨R1, hR1⟩ : ∃ R1, R1 = (refO (mksMs l) MB).1 := ⟨_, rfl⟩
  obtain ⟨R2, hR2⟩ : ∃ R2, R2 = (refO (mksMs l) MB).2 := ⟨_, rfl⟩
  rw [← hR1, ← hR2]
  have HMB := Lib.hid hMB
  have HR1 := Lib.hid hR1
  have HR2 := Lib.hid hR2
  clear hv hI hMB hR1 hR2
  go_enter Tryd.func14, Tryd.ntmps14
  go_wp2_with fail
  go_loopw [5] (fun i wr => ∃ (k : Nat) (vl : Value), k ≤ l.length ∧ i = .int .i64 (k : Int) ∧ Hid (PmR w wr w.heap.size l k vl)) (fun i _ => l.length - (intOf i).toNat)
  case atStart => exact ⟨0, .slice none 0 0, Nat.zero_le _, rfl, Lib.hid ⟨below_alloc _ _, ⟨Nat.le_refl _, by simp⟩, heap_alloc_new w _, [], World.ownsRow_nil _ _ _ _, by simp [RdL]⟩⟩
  case round =>
    obtain ⟨k, vl, hk, rfl, HI⟩ := hrel
    by_cases hlt : k < l.length
    · have n1 : (k : Int) < (l.length : Int) := by omega
      have n3 : (0 : Int) ≤ (k : Int) := by omega
      have n4 : IntKind.i64.wrap ((k : Int) + 1) = (k : Int) + 1 := IntWalk.i64_in _ ⟨by omega, by omega⟩
      obtain ⟨b, off, rfl, c0, c1⟩ := HV.out.get hlt
      obtain ⟨m, hmm⟩ : ∃ m, m = l[k] := ⟨_, rfl⟩
      rw [← hmm] at c0 c1
      have HTK : Hid ((l.take (k + 1)).map markJ = (l.take k).map markJ ++ [markJ m]) := Lib.hid (by rw [List.take_add_one, List.getElem?_eq_getElem hlt, Option.toList_some, List.map_append, hmm]; rfl)
      obtain ⟨acc, hacc⟩ : ∃ acc, acc = (l.take k).map markJ := ⟨_, rfl⟩
      have hal : acc.length = k := by rw [hacc]; simp; omega
      have HKM : Hid (∀ W, Below w.heap.size w W → SMk b (off + k * 2) m W) := Lib.hid (fun W hb => ⟨(hb.cell (p := ⟨b, off + k * 2, none⟩) (World.block_lt_of_cell? w _ c0)).trans c0, (hb.cell (p := ⟨b, off + k * 2 + 1, none⟩) (World.block_lt_of_cell? w _ c1)).trans c1⟩)
      rw [← hacc] at HTK
      have HACC := Lib.hid hacc.symm
      have HAL := Lib.hid hal
      have hal5 : acc.length ≤ 50 := by omega
      obtain ⟨W0, hW0⟩ : ∃ W0, W0 = wr.drew := ⟨_, rfl⟩
      have HP : Hid (PmR w W0 w.heap.size l k vl) := Lib.hid (by rw [hW0]; exact HI.out.up (Below.drewsN (Below.refl _ _) 1))
      have HB : Hid (Below W0.heap.size W0 W0) := Lib.hid (Below.refl _ _)
      clear c0 c1 hacc hmm hal HI HV
      go_wp2_with fail
      refine wp_region_held_drew (S := SMk b (off + k * 2) m) (by kernel_rfl) (HKM.out _ (by have := HP.out.bel; rw [hW0] at this; exact this)) (fun hHeld => ?_)
      rw [← hW0] at hHeld ⊢
      clear hW0
      refine wpAnyH_take (i := 0) (v := ?v1) rfl (by kernel_rfl) (by kernel_rfl) (by kernel_rfl) (fun _ _ _ h => h) (Or.inl ⟨by rfl, ?hy1⟩) (by assumption) ?_
      case hy1 => (intro w hSw; clear hSw; go_simp; try with_reducible rfl)
      go_simp
      refine wpAnyH_take (i := 2) (v := ?v2) rfl (by kernel_rfl) (by kernel_rfl) (by kernel_rfl) (fun _ _ _ h => h) (Or.inl ⟨by rfl, ?hy2⟩) (by assumption) ?_
      case hy2 => (intro w hSw; clear hSw; go_simp; try with_reducible rfl)
      go_simp
      refine wpAnyH_take (i := 3) (v := ?v3) rfl (by kernel_rfl) (by kernel_rfl) (by kernel_rfl) (fun _ _ _ h => h) (Or.inl ⟨by rfl, ?hy3⟩) (by assumption) ?_
      case hy3 => (intro w hSw; clear hSw; go_simp; try with_reducible rfl)
      go_simp
      refine wpAnyH_take (i := 4) (v := ?v4) rfl (by kernel_rfl) (by kernel_rfl) (by kernel_rfl) (fun _ _ _ h => h) (Or.inl ⟨by rfl, ?hy4⟩) (by assumption) ?_
      case hy4 => (intro w hSw; clear hSw; go_simp; try with_reducible rfl)
      go_simp
      refine wpAnyH_take (i := 5) (v := ?v5) rfl (by kernel_rfl) (by kernel_rfl) (by kernel_rfl) (fun _ _ _ h => h) (Or.inl ⟨by rfl, ?hy5⟩) (by assumption) ?_
      case hy5 => (intro w hSw; clear hSw; go_simp; try with_reducible rfl)
      go_simp
      refine wpAnyH_take (i := 6) (v := ?v6) rfl (by kernel_rfl) (by kernel_rfl) (by kernel_rfl) (fun _ _ _ h => h) (Or.inl ⟨by rfl, ?hy6⟩) (by assumption) ?_
      case hy6 => (intro w hSw; obtain ⟨hs0, hs1⟩ := hSw; go_simp; try with_reducible rfl)
      go_simp
      refine wpAnyH_take (i := 8) (v := ?v7) rfl (by kernel_rfl) (by kernel_rfl) (by kernel_rfl) (fun _ _ _ h => h) (Or.inl ⟨by rfl, ?hy7⟩) (by assumption) ?_
      case hy7 => (intro w hSw; clear hSw; go_simp; try with_reducible rfl)
      go_simp
      refine wpAnyH_take (i := 9) (v := ?v8) rfl (by kernel_rfl) (by kernel_rfl) (by kernel_rfl) (fun _ _ _ h => h) (Or.inl ⟨by rfl, ?hy8⟩) (by assumption) ?_
      case hy8 => (intro w hSw; clear hSw; go_simp; try with_reducible rfl)
      go_simp
      refine wpAnyH_take (i := 10) (v := ?v9) rfl (by kernel_rfl) (by kernel_rfl) (by kernel_rfl) (fun _ _ _ h => h) (Or.inl ⟨by rfl, ?hy9⟩) (by assumption) ?_
      case hy9 => (intro w hSw; clear hSw; go_simp; try with_reducible rfl)
      go_simp
      refine wpAnyH_take (i := 11) (v := ?v10) rfl (by kernel_rfl) (by kernel_rfl) (by kernel_rfl) (fun _ _ _ h => h) (Or.inl ⟨by rfl, ?hy10⟩) (by assumption) ?_
      case hy10 => (intro w hSw; clear hSw; go_simp; try with_reducible rfl)
      go_simp
      refine wpAnyH_take (i := 12) (v := ?v11) rfl (by kernel_rfl) (by kernel_rfl) (by kernel_rfl) (fun _ _ _ h => h) (Or.inl ⟨by rfl, ?hy11⟩) (by assumption) ?_
      case hy11 => (intro w hSw; obtain ⟨hs0, hs1⟩ := hSw; go_simp; try with_reducible rfl)
      go_simp
      refine wpAnyH_ready (rs := [1, 7]) (by kernel_rfl) (by simp) (AllReadyH.cons rfl (fun K hK => ?_) (AllReadyH.cons rfl (fun K hK => ?_) AllReadyH.nil))
      · have cq := (HP.out.up HB.out).cell.1
        go_simp
        clear cq
        refine hK.out _ _ (HKM.out _ (HP.out.bel.trans (HB.out.mono HP.out.bel.size))) (fun hHeld => ?_)
        clear hK K
        refine wpAnyH_ready (rs := [7]) (by kernel_rfl) (by simp) (AllReadyH.cons rfl (fun K hK => ?_) AllReadyH.nil)
        go_simp
        refine (rnum1_any _ _).mono ?_
        rintro e wq ⟨rfl, hb⟩
        have HB := Lib.hid (HB.out.trans (hb.mono HB.out.size))
        clear hb
        go_simp
        refine hK.out _ _ (HKM.out _ (HP.out.bel.trans (HB.out.mono HP.out.bel.size))) (fun hHeld => ?_)
        clear hK K
        refine wpAnyH_ready (rs := [13]) (by kernel_rfl) (by simp) (AllReadyH.cons rfl (fun K hK => ?_) AllReadyH.nil)
        go_simp
        refine (rnum1_any _ _).mono ?_
        rintro e wq ⟨rfl, hb⟩
        have HB := Lib.hid (HB.out.trans (hb.mono HB.out.size))
        clear hb
        go_simp
        refine hK.out _ _ (HKM.out _ (HP.out.bel.trans (HB.out.mono HP.out.bel.size))) (fun hHeld => ?_)
        clear hK K
        refine wpAnyH_ready (rs := [14]) (by kernel_rfl) (by simp) (AllReadyH.cons rfl (fun K hK => ?_) AllReadyH.nil)
        go_simp
        have HQ := HB
        obtain ⟨WN, hWN⟩ : ∃ W, W = wq.alloc (.cells #[.int .i64 4, .int .i64 m.1, str [], .slice none 0 0, .slice none 0 0, .int .i64 4, .int .i64 m.2, str [], .slice none 0 0, .slice none 0 0] 63) := ⟨_, rfl⟩
        have HN1 := Lib.hid (show WN.heap[wq.heap.size]? = some (.cells #[.int .i64 4, .int .i64 m.1, str [], .slice none 0 0, .slice none 0 0, .int .i64 4, .int .i64 m.2, str [], .slice none 0 0, .slice none 0 0] 63 (0, 0)) by rw [hWN]; exact heap_alloc_new _ _)
        have HB := Lib.hid (show Below W0.heap.size W0 WN by rw [hWN]; exact HQ.out.trans ((below_alloc _ _).mono HQ.out.size))
        rw [← hWN]
        clear hWN
        refine hK.out _ _ (HKM.out _ (HP.out.bel.trans (HB.out.mono HP.out.bel.size))) (fun hHeld => ?_)
        clear hK K
        refine wpAnyH_take (i := 15) (v := ?v12) rfl (by kernel_rfl) (by kernel_rfl) (by kernel_rfl) (fun _ _ _ h => h) (Or.inl ⟨by rfl, ?hy12⟩) (by assumption) ?_
        case hy12 => (intro w hSw; clear hSw; go_simp; try with_reducible rfl)
        go_simp
        refine wpAnyH_ready (rs := [16]) (by kernel_rfl) (by simp) (AllReadyH.cons rfl (fun K hK => ?_) AllReadyH.nil)
        go_simp
        have HBN := HB
        obtain ⟨WM, hWM⟩ : ∃ W, W = WN.alloc (.cells #[.int .i64 6, .int .i64 0, .string ⟨#[]⟩, .slice (some ⟨wq.heap.size, 0, none⟩) 2 2, .slice none 0 0] 63) := ⟨_, rfl⟩
        have HM1 := Lib.hid hWM
        have HB := Lib.hid (show Below W0.heap.size W0 WM by rw [hWM]; exact HBN.out.trans ((below_alloc _ _).mono HBN.out.size))
        rw [← hWM]
        clear hWM
        refine hK.out _ _ (HKM.out _ (HP.out.bel.trans (HB.out.mono HP.out.bel.size))) (fun hHeld => ?_)
        clear hK K
        refine wpAnyH_ready (rs := [17]) (by kernel_rfl) (by simp) (AllReadyH.cons rfl (fun K hK => ?_) AllReadyH.nil)
        obtain ⟨rows, ho0, hr0⟩ := (HP.out.up HBN.out).row
        rw [HACC.out] at ho0 hr0
        refine step_append_lies _ (by rfl) _ _ 60 (by rfl) (w.heap.size + 1) 63 i0 _ 5 80 Tryd.underlying60 hi hz0 hz1 hz2 rfl (by decide) vl acc.length rows.flatten (by rfl) (owns_frm (F := fun _ => False) ho0 (Frm.of_below (by rw [HM1.out]; exact below_alloc _ _)) (fun _ _ h => h)) ⟨WN.heap.size, 0, none⟩ 1 1 [.int .i64 6, .int .i64 0, str [], .slice (some ⟨wq.heap.size, 0, none⟩) 2 2, .slice none 0 0] (by rfl) (by rfl) (World.news_of_block (by rw [HM1.out]; exact heap_alloc_new _ _)) (by simp [Value.oneCell']) (by decide) (by simp only [maxLen]; omega) (by omega) (by have := HB.out.size; have := HP.out.lt; omega) _ rfl ?_
        intro g cap w4 ho hg hl4 _
        rw [HM1.out] at hg hl4
        obtain ⟨rows5, ho5, _⟩ := (HP.out.up HQ.out).row
        have HAD := Lib.hid (PmR.add (HP.out.up HBN.out) HACC.out HTK.out ho0 hr0 (b0 := wq.heap.size) (by have := HQ.out.size; have := HP.out.lt; omega) (fun j hj => (ho5.lt j hj).2) HN1.out ho hg (by simpa using hl4))
        clear ho hg hl4 ho0 hr0 ho5
        go_simp
        refine hK.out _ _ (HKM.out _ HAD.out.2.2.2) (fun hHeld => ?_)
        clear hK K
        refine wpAnyH_take (i := 18) (v := ?v13) rfl (by kernel_rfl) (by kernel_rfl) (by kernel_rfl) (fun _ _ _ h => h) (Or.inl ⟨by rfl, ?hy13⟩) (by assumption) ?_
        case hy13 => (intro w hSw; clear hSw; go_simp; try with_reducible rfl)
        go_simp
        refine wpAnyH_ready (rs := [19]) (by kernel_rfl) (by simp) (AllReadyH.cons rfl (fun K hK => ?_) AllReadyH.nil)
        have cq := HAD.out.2.1
        have fq := HAD.out.2.2.1
        go_simp
        clear cq fq
        refine hK.out _ _ (HKM.out _ HAD.out.1.bel) (fun hHeld => ?_)
        clear hK K
        refine wpAnyH_done (by kernel_rfl) ?_ _
        have HN := Lib.hid HAD.out.1
        clear HAD HKM HP HB HQ HN1 HTK HACC HBN HM1
        rw [HAL.out] at HN ⊢
        go_wp2_with fail
        go_roundw
        case rel => exact ⟨k + 1, _, by omega, by go_num, HN⟩
        case measure => simp [intOf]; omega
      · go_simp
        refine (rnum1_any _ _).mono ?_
        rintro e wq ⟨rfl, hb⟩
        have HB := Lib.hid (HB.out.trans (hb.mono HB.out.size))
        clear hb
        go_simp
        refine hK.out _ _ (HKM.out _ (HP.out.bel.trans (HB.out.mono HP.out.bel.size))) (fun hHeld => ?_)
        clear hK K
        refine wpAnyH_ready (rs := [1, 13]) (by kernel_rfl) (by simp) (AllReadyH.cons rfl (fun K hK => ?_) (AllReadyH.cons rfl (fun K hK => ?_) AllReadyH.nil))
        · have cq := (HP.out.up HB.out).cell.1
          go_simp
          clear cq
          refine hK.out _ _ (HKM.out _ (HP.out.bel.trans (HB.out.mono HP.out.bel.size))) (fun hHeld => ?_)
          clear hK K
          refine wpAnyH_ready (rs := [13]) (by kernel_rfl) (by simp) (AllReadyH.cons rfl (fun K hK => ?_) AllReadyH.nil)
          go_simp
          refine (rnum1_any _ _).mono ?_
          rintro e wq ⟨rfl, hb⟩
          have HB := Lib.hid (HB.out.trans (hb.mono HB.out.size))
          clear hb
          go_simp
          refine hK.out _ _ (HKM.out _ (HP.out.bel.trans (HB.out.mono HP.out.bel.size))) (fun hHeld => ?_)
          clear hK K
          refine wpAnyH_ready (rs := [14]) (by kernel_rfl) (by simp) (AllReadyH.cons rfl (fun K hK => ?_) AllReadyH.nil)
          go_simp
          have HQ := HB
          obtain ⟨WN, hWN⟩ : ∃ W, W = wq.alloc (.cells #[.int .i64 4, .int .i64 m.1, str [], .slice none 0 0, .slice none 0 0, .int .i64 4, .int .i64 m.2, str [], .slice none 0 0, .slice none 0 0] 63) := ⟨_, rfl⟩
          have HN1 := Lib.hid (show WN.heap[wq.heap.size]? = some (.cells #[.int .i64 4, .int .i64 m.1, str [], .slice none 0 0, .slice none 0 0, .int .i64 4, .int .i64 m.2, str [], .slice none 0 0, .slice none 0 0] 63 (0, 0)) by rw [hWN]; exact heap_alloc_new _ _)
          have HB := Lib.hid (show Below W0.heap.size W0 WN by rw [hWN]; exact HQ.out.trans ((below_alloc _ _).mono HQ.out.size))
          rw [← hWN]
          clear hWN
          refine hK.out _ _ (HKM.out _ (HP.out.bel.trans (HB.out.mono HP.out.bel.size))) (fun hHeld => ?_)
          clear hK K
          refine wpAnyH_take (i := 15) (v := ?v14) rfl (by kernel_rfl) (by kernel_rfl) (by kernel_rfl) (fun _ _ _ h => h) (Or.inl ⟨by rfl, ?hy14⟩) (by assumption) ?_
          case hy14 => (intro w hSw; clear hSw; go_simp; try with_reducible rfl)
          go_simp
          refine wpAnyH_ready (rs := [16]) (by kernel_rfl) (by simp) (AllReadyH.cons rfl (fun K hK => ?_) AllReadyH.nil)
          go_simp
          have HBN := HB
          obtain ⟨WM, hWM⟩ : ∃ W, W = WN.alloc (.cells #[.int .i64 6, .int .i64 0, .string ⟨#[]⟩, .slice (some ⟨wq.heap.size, 0, none⟩) 2 2, .slice none 0 0] 63) := ⟨_, rfl⟩
          have HM1 := Lib.hid hWM
          have HB := Lib.hid (show Below W0.heap.size W0 WM by rw [hWM]; exact HBN.out.trans ((below_alloc _ _).mono HBN.out.size))
          rw [← hWM]
          clear hWM
          refine hK.out _ _ (HKM.out _ (HP.out.bel.trans (HB.out.mono HP.out.bel.size))) (fun hHeld => ?_)
          clear hK K
          refine wpAnyH_ready (rs := [17]) (by kernel_rfl) (by simp) (AllReadyH.cons rfl (fun K hK => ?_) AllReadyH.nil)
          obtain ⟨rows, ho0, hr0⟩ := (HP.out.up HBN.out).row
          rw [HACC.out] at ho0 hr0
          refine step_append_lies _ (by rfl) _ _ 60 (by rfl) (w.heap.size + 1) 63 i0 _ 5 80 Tryd.underlying60 hi hz0 hz1 hz2 rfl (by decide) vl acc.length rows.flatten (by rfl) (owns_frm (F := fun _ => False) ho0 (Frm.of_below (by rw [HM1.out]; exact below_alloc _ _)) (fun _ _ h => h)) ⟨WN.heap.size, 0, none⟩ 1 1 [.int .i64 6, .int .i64 0, str [], .slice (some ⟨wq.heap.size, 0, none⟩) 2 2, .slice none 0 0] (by rfl) (by rfl) (World.news_of_block (by rw [HM1.out]; exact heap_alloc_new _ _)) (by simp [Value.oneCell']) (by decide) (by simp only [maxLen]; omega) (by omega) (by have := HB.out.size; have := HP.out.lt; omega) _ rfl ?_
          intro g cap w4 ho hg hl4 _
          rw [HM1.out] at hg hl4
          obtain ⟨rows5, ho5, _⟩ := (HP.out.up HQ.out).row
          have HAD := Lib.hid (PmR.add (HP.out.up HBN.out) HACC.out HTK.out ho0 hr0 (b0 := wq.heap.size) (by have := HQ.out.size; have := HP.out.lt; omega) (fun j hj => (ho5.lt j hj).2) HN1.out ho hg (by simpa using hl4))
          clear ho hg hl4 ho0 hr0 ho5
          go_simp
          refine hK.out _ _ (HKM.out _ HAD.out.2.2.2) (fun hHeld => ?_)
          clear hK K
          refine wpAnyH_take (i := 18) (v := ?v15) rfl (by kernel_rfl) (by kernel_rfl) (by kernel_rfl) (fun _ _ _ h => h) (Or.inl ⟨by rfl, ?hy15⟩) (by assumption) ?_
          case hy15 => (intro w hSw; clear hSw; go_simp; try with_reducible rfl)
          go_simp
          refine wpAnyH_ready (rs := [19]) (by kernel_rfl) (by simp) (AllReadyH.cons rfl (fun K hK => ?_) AllReadyH.nil)
          have cq := HAD.out.2.1
          have fq := HAD.out.2.2.1
          go_simp
          clear cq fq
          refine hK.out _ _ (HKM.out _ HAD.out.1.bel) (fun hHeld => ?_)
          clear hK K
          refine wpAnyH_done (by kernel_rfl) ?_ _
          have HN := Lib.hid HAD.out.1
          clear HAD HKM HP HB HQ HN1 HTK HACC HBN HM1
          rw [HAL.out] at HN ⊢
          go_wp2_with fail
          go_roundw
          case rel => exact ⟨k + 1, _, by omega, by go_num, HN⟩
          case measure => simp [intOf]; omega
        · go_simp
          refine (rnum1_any _ _).mono ?_
          rintro e wq ⟨rfl, hb⟩
          have HB := Lib.hid (HB.out.trans (hb.mono HB.out.size))
          clear hb
          go_simp
          refine hK.out _ _ (HKM.out _ (HP.out.bel.trans (HB.out.mono HP.out.bel.size))) (fun hHeld => ?_)
          clear hK K
          refine wpAnyH_ready (rs := [1, 14]) (by kernel_rfl) (by simp) (AllReadyH.cons rfl (fun K hK => ?_) (AllReadyH.cons rfl (fun K hK => ?_) AllReadyH.nil))
          · have cq := (HP.out.up HB.out).cell.1
            go_simp
            clear cq
            refine hK.out _ _ (HKM.out _ (HP.out.bel.trans (HB.out.mono HP.out.bel.size))) (fun hHeld => ?_)
            clear hK K
            refine wpAnyH_ready (rs := [14]) (by kernel_rfl) (by simp) (AllReadyH.cons rfl (fun K hK => ?_) AllReadyH.nil)
            go_simp
            have HQ := HB
            obtain ⟨WN, hWN⟩ : ∃ W, W = wq.alloc (.cells #[.int .i64 4, .int .i64 m.1, str [], .slice none 0 0, .slice none 0 0, .int .i64 4, .int .i64 m.2, str [], .slice none 0 0, .slice none 0 0] 63) := ⟨_, rfl⟩
            have HN1 := Lib.hid (show WN.heap[wq.heap.size]? = some (.cells #[.int .i64 4, .int .i64 m.1, str [], .slice none 0 0, .slice none 0 0, .int .i64 4, .int .i64 m.2, str [], .slice none 0 0, .slice none 0 0] 63 (0, 0)) by rw [hWN]; exact heap_alloc_new _ _)
            have HB := Lib.hid (show Below W0.heap.size W0 WN by rw [hWN]; exact HQ.out.trans ((below_alloc _ _).mono HQ.out.size))
            rw [← hWN]
            clear hWN
            refine hK.out _ _ (HKM.out _ (HP.out.bel.trans (HB.out.mono HP.out.bel.size))) (fun hHeld => ?_)
            clear hK K
            refine wpAnyH_take (i := 15) (v := ?v16) rfl (by kernel_rfl) (by kernel_rfl) (by kernel_rfl) (fun _ _ _ h => h) (Or.inl ⟨by rfl, ?hy16⟩) (by assumption) ?_
            case hy16 => (intro w hSw; clear hSw; go_simp; try with_reducible rfl)
            go_simp
            refine wpAnyH_ready (rs := [16]) (by kernel_rfl) (by simp) (AllReadyH.cons rfl (fun K hK => ?_) AllReadyH.nil)
            go_simp
            have HBN := HB
            obtain ⟨WM, hWM⟩ : ∃ W, W = WN.alloc (.cells #[.int .i64 6, .int .i64 0, .string ⟨#[]⟩, .slice (some ⟨wq.heap.size, 0, none⟩) 2 2, .slice none 0 0] 63) := ⟨_, rfl⟩
            have HM1 := Lib.hid hWM
            have HB := Lib.hid (show Below W0.heap.size W0 WM by rw [hWM]; exact HBN.out.trans ((below_alloc _ _).mono HBN.out.size))
            rw [← hWM]
            clear hWM
            refine hK.out _ _ (HKM.out _ (HP.out.bel.trans (HB.out.mono HP.out.bel.size))) (fun hHeld => ?_)
            clear hK K
            refine wpAnyH_ready (rs := [17]) (by kernel_rfl) (by simp) (AllReadyH.cons rfl (fun K hK => ?_) AllReadyH.nil)
            obtain ⟨rows, ho0, hr0⟩ := (HP.out.up HBN.out).row
            rw [HACC.out] at ho0 hr0
            refine step_append_lies _ (by rfl) _ _ 60 (by rfl) (w.heap.size + 1) 63 i0 _ 5 80 Tryd.underlying60 hi hz0 hz1 hz2 rfl (by decide) vl acc.length rows.flatten (by rfl) (owns_frm (F := fun _ => False) ho0 (Frm.of_below (by rw [HM1.out]; exact below_alloc _ _)) (fun _ _ h => h)) ⟨WN.heap.size, 0, none⟩ 1 1 [.int .i64 6, .int .i64 0, str [], .slice (some ⟨wq.heap.size, 0, none⟩) 2 2, .slice none 0 0] (by rfl) (by rfl) (World.news_of_block (by rw [HM1.out]; exact heap_alloc_new _ _)) (by simp [Value.oneCell']) (by decide) (by simp only [maxLen]; omega) (by omega) (by have := HB.out.size; have := HP.out.lt; omega) _ rfl ?_
            intro g cap w4 ho hg hl4 _
            rw [HM1.out] at hg hl4
            obtain ⟨rows5, ho5, _⟩ := (HP.out.up HQ.out).row
            have HAD := Lib.hid (PmR.add (HP.out.up HBN.out) HACC.out HTK.out ho0 hr0 (b0 := wq.heap.size) (by have := HQ.out.size; have := HP.out.lt; omega) (fun j hj => (ho5.lt j hj).2) HN1.out ho hg (by simpa using hl4))
            clear ho hg hl4 ho0 hr0 ho5
            go_simp
            refine hK.out _ _ (HKM.out _ HAD.out.2.2.2) (fun hHeld => ?_)
            clear hK K
            refine wpAnyH_take (i := 18) (v := ?v17) rfl (by kernel_rfl) (by kernel_rfl) (by kernel_rfl) (fun _ _ _ h => h) (Or.inl ⟨by rfl, ?hy17⟩) (by assumption) ?_
            case hy17 => (intro w hSw; clear hSw; go_simp; try with_reducible rfl)
            go_simp
            refine wpAnyH_ready (rs := [19]) (by kernel_rfl) (by simp) (AllReadyH.cons rfl (fun K hK => ?_) AllReadyH.nil)
            have cq := HAD.out.2.1
            have fq := HAD.out.2.2.1
            go_simp
            clear cq fq
            refine hK.out _ _ (HKM.out _ HAD.out.1.bel) (fun hHeld => ?_)
            clear hK K
            refine wpAnyH_done (by kernel_rfl) ?_ _
            have HN := Lib.hid HAD.out.1
            clear HAD HKM HP HB HQ HN1 HTK HACC HBN HM1
            rw [HAL.out] at HN ⊢
            go_wp2_with fail
            go_roundw
            case rel => exact ⟨k + 1, _, by omega, by go_num, HN⟩
            case measure => simp [intOf]; omega
          · go_simp
            have HQ := HB
            obtain ⟨WN, hWN⟩ : ∃ W, W = wq.alloc (.cells #[.int .i64 4, .int .i64 m.1, str [], .slice none 0 0, .slice none 0 0, .int .i64 4, .int .i64 m.2, str [], .slice none 0 0, .slice none 0 0] 63) := ⟨_, rfl⟩
            have HN1 := Lib.hid (show WN.heap[wq.heap.size]? = some (.cells #[.int .i64 4, .int .i64 m.1, str [], .slice none 0 0, .slice none 0 0, .int .i64 4, .int .i64 m.2, str [], .slice none 0 0, .slice none 0 0] 63 (0, 0)) by rw [hWN]; exact heap_alloc_new _ _)
            have HB := Lib.hid (show Below W0.heap.size W0 WN by rw [hWN]; exact HQ.out.trans ((below_alloc _ _).mono HQ.out.size))
            rw [← hWN]
            clear hWN
            refine hK.out _ _ (HKM.out _ (HP.out.bel.trans (HB.out.mono HP.out.bel.size))) (fun hHeld => ?_)
            clear hK K
            refine wpAnyH_take (i := 15) (v := ?v18) rfl (by kernel_rfl) (by kernel_rfl) (by kernel_rfl) (fun _ _ _ h => h) (Or.inl ⟨by rfl, ?hy18⟩) (by assumption) ?_
            case hy18 => (intro w hSw; clear hSw; go_simp; try with_reducible rfl)
            go_simp
            refine wpAnyH_ready (rs := [1, 16]) (by kernel_rfl) (by simp) (AllReadyH.cons rfl (fun K hK => ?_) (AllReadyH.cons rfl (fun K hK => ?_) AllReadyH.nil))
            · have cq := (HP.out.up HB.out).cell.1
              go_simp
              clear cq
              refine hK.out _ _ (HKM.out _ (HP.out.bel.trans (HB.out.mono HP.out.bel.size))) (fun hHeld => ?_)
              clear hK K
              refine wpAnyH_ready (rs := [16]) (by kernel_rfl) (by simp) (AllReadyH.cons rfl (fun K hK => ?_) AllReadyH.nil)
              go_simp
              have HBN := HB
              obtain ⟨WM, hWM⟩ : ∃ W, W = WN.alloc (.cells #[.int .i64 6, .int .i64 0, .string ⟨#[]⟩, .slice (some ⟨wq.heap.size, 0, none⟩) 2 2, .slice none 0 0] 63) := ⟨_, rfl⟩
              have HM1 := Lib.hid hWM
              have HB := Lib.hid (show Below W0.heap.size W0 WM by rw [hWM]; exact HBN.out.trans ((below_alloc _ _).mono HBN.out.size))
              rw [← hWM]
              clear hWM
              refine hK.out _ _ (HKM.out _ (HP.out.bel.trans (HB.out.mono HP.out.bel.size))) (fun hHeld => ?_)
              clear hK K
              refine wpAnyH_ready (rs := [17]) (by kernel_rfl) (by simp) (AllReadyH.cons rfl (fun K hK => ?_) AllReadyH.nil)
              obtain ⟨rows, ho0, hr0⟩ := (HP.out.up HBN.out).row
              rw [HACC.out] at ho0 hr0
              refine step_append_lies _ (by rfl) _ _ 60 (by rfl) (w.heap.size + 1) 63 i0 _ 5 80 Tryd.underlying60 hi hz0 hz1 hz2 rfl (by decide) vl acc.length rows.flatten (by rfl) (owns_frm (F := fun _ => False) ho0 (Frm.of_below (by rw [HM1.out]; exact below_alloc _ _)) (fun _ _ h => h)) ⟨WN.heap.size, 0, none⟩ 1 1 [.int .i64 6, .int .i64 0, str [], .slice (some ⟨wq.heap.size, 0, none⟩) 2 2, .slice none 0 0] (by rfl) (by rfl) (World.news_of_block (by rw [HM1.out]; exact heap_alloc_new _ _)) (by simp [Value.oneCell']) (by decide) (by simp only [maxLen]; omega) (by omega) (by have := HB.out.size; have := HP.out.lt; omega) _ rfl ?_
              intro g cap w4 ho hg hl4 _
              rw [HM1.out] at hg hl4
              obtain ⟨rows5, ho5, _⟩ := (HP.out.up HQ.out).row
              have HAD := Lib.hid (PmR.add (HP.out.up HBN.out) HACC.out HTK.out ho0 hr0 (b0 := wq.heap.size) (by have := HQ.out.size; have := HP.out.lt; omega) (fun j hj => (ho5.lt j hj).2) HN1.out ho hg (by simpa using hl4))
              clear ho hg hl4 ho0 hr0 ho5
              go_simp
              refine hK.out _ _ (HKM.out _ HAD.out.2.2.2) (fun hHeld => ?_)
              clear hK K
              refine wpAnyH_take (i := 18) (v := ?v19) rfl (by kernel_rfl) (by kernel_rfl) (by kernel_rfl) (fun _ _ _ h => h) (Or.inl ⟨by rfl, ?hy19⟩) (by assumption) ?_
              case hy19 => (intro w hSw; clear hSw; go_simp; try with_reducible rfl)
              go_simp
              refine wpAnyH_ready (rs := [19]) (by kernel_rfl) (by simp) (AllReadyH.cons rfl (fun K hK => ?_) AllReadyH.nil)
              have cq := HAD.out.2.1
              have fq := HAD.out.2.2.1
              go_simp
              clear cq fq
              refine hK.out _ _ (HKM.out _ HAD.out.1.bel) (fun hHeld => ?_)
              clear hK K
              refine wpAnyH_done (by kernel_rfl) ?_ _
              have HN := Lib.hid HAD.out.1
              clear HAD HKM HP HB HQ HN1 HTK HACC HBN HM1
              rw [HAL.out] at HN ⊢
              go_wp2_with fail
              go_roundw
              case rel => exact ⟨k + 1, _, by omega, by go_num, HN⟩
              case measure => simp [intOf]; omega
            · go_simp
              have HBN := HB
              obtain ⟨WM, hWM⟩ : ∃ W, W = WN.alloc (.cells #[.int .i64 6, .int .i64 0, .string ⟨#[]⟩, .slice (some ⟨wq.heap.size, 0, none⟩) 2 2, .slice none 0 0] 63) := ⟨_, rfl⟩
              have HM1 := Lib.hid hWM
              have HB := Lib.hid (show Below W0.heap.size W0 WM by rw [hWM]; exact HBN.out.trans ((below_alloc _ _).mono HBN.out.size))
              rw [← hWM]
              clear hWM
              refine hK.out _ _ (HKM.out _ (HP.out.bel.trans (HB.out.mono HP.out.bel.size))) (fun hHeld => ?_)
              clear hK K
              refine wpAnyH_ready (rs := [1]) (by kernel_rfl) (by simp) (AllReadyH.cons rfl (fun K hK => ?_) AllReadyH.nil)
              have cq := (HP.out.up HB.out).cell.1
              go_simp
              clear cq
              refine hK.out _ _ (HKM.out _ (HP.out.bel.trans (HB.out.mono HP.out.bel.size))) (fun hHeld => ?_)
              clear hK K
              refine wpAnyH_ready (rs := [17]) (by kernel_rfl) (by simp) (AllReadyH.cons rfl (fun K hK => ?_) AllReadyH.nil)
              obtain ⟨rows, ho0, hr0⟩ := (HP.out.up HBN.out).row
              rw [HACC.out] at ho0 hr0
              refine step_append_lies _ (by rfl) _ _ 60 (by rfl) (w.heap.size + 1) 63 i0 _ 5 80 Tryd.underlying60 hi hz0 hz1 hz2 rfl (by decide) vl acc.length rows.flatten (by rfl) (owns_frm (F := fun _ => False) ho0 (Frm.of_below (by rw [HM1.out]; exact below_alloc _ _)) (fun _ _ h => h)) ⟨WN.heap.size, 0, none⟩ 1 1 [.int .i64 6, .int .i64 0, str [], .slice (some ⟨wq.heap.size, 0, none⟩) 2 2, .slice none 0 0] (by rfl) (by rfl) (World.news_of_block (by rw [HM1.out]; exact heap_alloc_new _ _)) (by simp [Value.oneCell']) (by decide) (by simp only [maxLen]; omega) (by omega) (by have := HB.out.size; have := HP.out.lt; omega) _ rfl ?_
              intro g cap w4 ho hg hl4 _
              rw [HM1.out] at hg hl4
              obtain ⟨rows5, ho5, _⟩ := (HP.out.up HQ.out).row
              have HAD := Lib.hid (PmR.add (HP.out.up HBN.out) HACC.out HTK.out ho0 hr0 (b0 := wq.heap.size) (by have := HQ.out.size; have := HP.out.lt; omega) (fun j hj => (ho5.lt j hj).2) HN1.out ho hg (by simpa using hl4))
              clear ho hg hl4 ho0 hr0 ho5
              go_simp
              refine hK.out _ _ (HKM.out _ HAD.out.2.2.2) (fun hHeld => ?_)
              clear hK K
              refine wpAnyH_take (i := 18) (v := ?v20) rfl (by kernel_rfl) (by kernel_rfl) (by kernel_rfl) (fun _ _ _ h => h) (Or.inl ⟨by rfl, ?hy20⟩) (by assumption) ?_
              case hy20 => (intro w hSw; clear hSw; go_simp; try with_reducible rfl)
              go_simp
              refine wpAnyH_ready (rs := [19]) (by kernel_rfl) (by simp) (AllReadyH.cons rfl (fun K hK => ?_) AllReadyH.nil)
              have cq := HAD.out.2.1
              have fq := HAD.out.2.2.1
              go_simp
              clear cq fq
              refine hK.out _ _ (HKM.out _ HAD.out.1.bel) (fun hHeld => ?_)
              clear hK K
              refine wpAnyH_done (by kernel_rfl) ?_ _
              have HN := Lib.hid HAD.out.1
              clear HAD HKM HP HB HQ HN1 HTK HACC HBN HM1
              rw [HAL.out] at HN ⊢
              go_wp2_with fail
              go_roundw
              case rel => exact ⟨k + 1, _, by omega, by go_num, HN⟩
              case measure => simp [intOf]; omega
    · obtain rfl : k = l.length := by omega
      have n2 : ¬ (l.length : Int) < (l.length : Int) := by omega
      have HR4 := HI.out.row
      rw [List.take_length] at HR4
      obtain ⟨a4, c4, rows4, e4, hrf, hrl⟩ := HR4.rd
      rw [List.length_map] at e4 hrf
      subst e4
      have HRW := Lib.hid (And.intro hrf hrl)
      have HBX := Lib.hid HI.out
      have hbx := HI.out.box
      have d0 : wr.cell? ⟨w.heap.size, 0, none⟩ = some (.int .i64 6) := by simp [World.cell?, hbx]
      have d1 : wr.cell? ⟨w.heap.size, 1, none⟩ = some (.int .i64 0) := by simp [World.cell?, hbx]
      have d2 : wr.cell? ⟨w.heap.size, 2, none⟩ = some (str []) := by simp [World.cell?, hbx]
      have d3 : wr.cell? ⟨w.heap.size, 3, none⟩ = some (.slice a4 l.length c4) := by simp [World.cell?, hbx]
      have d4 : wr.cell? ⟨w.heap.size, 4, none⟩ = some (.slice none 0 0) := by simp [World.cell?, hbx]
      obtain ⟨W2, hW2⟩ : ∃ W2, W2 = wr.alloc (.cells #[str [109, 97, 114, 107, 115], .int .i64 6, .int .i64 0, str [], .slice a4 l.length c4, .slice none 0 0] 67) := ⟨_, rfl⟩
      have hb2 : Below wr.heap.size wr W2 := by rw [hW2]; exact below_alloc _ _
      have hnew : W2.heap[wr.heap.size]? = some (.cells #[str [109, 97, 114, 107, 115], .int .i64 6, .int .i64 0, str [], .slice a4 l.length c4, .slice none 0 0] 67 (0, 0)) := by rw [hW2]; exact heap_alloc_new _ _
      have CO := Lib.hid (robj_any (some ⟨wr.heap.size, 0, none⟩) 1 1 W2)
      have CM := Lib.hid (fun W (h : Below w.heap.size w W) => rmay_any (.slice av l.length cv) l W (HV.out.up h))
      have CP : Hid (∀ ok W, Below W2.heap.size W2 W → Calls Tryd.prog 21 #[.agg #[.int .i64 7, .int .i64 0, str [], .slice none 0 0, .slice (some ⟨wr.heap.size, 0, none⟩) 1 1], .bool ok] W fun e w' => e = .returned (.tuple #[str (refO (mksMs l) ok).1, .int .i64 (refO (mksMs l) ok).2]) ∧ Below W.heap.size W w') := Lib.hid (fun ok W hb => by
        have hbx2 := box_up hnew hb
        have hb02 := hb2.trans (hb.mono hb2.size)
        exact rprinted_any (mksMs l) ok mks_st (fun _ => HL.out) (fun _ => True) W _ (RdJ.mk0 (v := .mk 7 0 [] [] (mksMs l)) (RdFB.nil _ _ _) (by unfold RdL; trivial) (RdFB.lit6 [[str [109, 97, 114, 107, 115], .int .i64 6, .int .i64 0, str [], .slice a4 l.length c4, .slice none 0 0]] (by simp) hbx2 rfl (by simp) trivial) (by
          show RdM W (fun _ => True) (mksMs l) _
          unfold mksMs RdM
          refine ⟨⟨_, rfl, RdJ.mk0 (v := .mk 6 0 [] (l.map markJ) []) (HRW.out.1.frm (Frm.of_below (F := fun _ => False) hb02) (fun _ _ e => e)) (HRW.out.2.up hb02) (RdFB.nil _ _ _) (by unfold RdM; trivial)⟩, ?_⟩
          unfold RdM
          trivial)))
      have HB2 := Lib.hid hb2
      rw [← HMB.out] at CM
      have CPX := CP.out MB
      rw [← HR1.out, ← HR2.out] at CPX
      have CPX := Lib.hid CPX
      have HWB := Lib.hid HI.out.bel
      clear hbx hb2 hnew CP HR4 hrf hrl HI HBX HRW
      go_wp2_with fail
      rw [← hW2]
      clear hW2 d0 d1 d2 d3 d4
      refine CO.out.mono ?_
      rintro e w3 ⟨rfl, hb3⟩
      have HB3 := Lib.hid (And.intro hb3 (HWB.out.trans ((HB2.out.trans (hb3.mono HB2.out.size)).mono HWB.out.size)))
      clear hb3 CO
      go_wp2_with fail
      refine (CM.out _ HB3.out.2).mono ?_
      rintro e w4 ⟨rfl, hb4⟩
      have HB4 := Lib.hid (And.intro (HB3.out.1.trans (hb4.mono HB3.out.1.size)) (HB3.out.2.trans (hb4.mono HB3.out.2.size)))
      clear hb4 CM
      go_wp2_with fail
      refine (CPX.out _ HB4.out.1).mono ?_
      rintro e w5 ⟨rfl, hb5⟩
      have HX := Lib.hid (HB4.out.2.trans (hb5.mono HB4.out.2.size))
      clear hb5 CPX
      go_wp2_with fail
      go_ret2
      exact ⟨rfl, HX.out⟩
end Go.Proofs.YtjnejbeeoepdnaaDoor
namespace Go.Proofs.YtjnejbeeoepdnaaDoor
open Go.RowKit

theorem refO_no (ms : List MemT) : refO ms false = ([], 4) := by unfold refO; rw [if_neg (by simp)]
theorem rputFeed_any (t : List UInt8) (n : Int) (w : World) (ht : t.length ≤ 9223372036854775807) : Calls Tryd.prog 6 #[.agg #[str t, .int .i64 n]] w fun e w' => e = .returned (.tuple #[str (putFeedR t n).1, .int .i64 (putFeedR t n).2]) ∧ Below w.heap.size w w' := by
  rw [← refO_feed]
  by_cases h1 : 0 ≤ n
  · by_cases h2 : n ≤ 1000000
    · rw [decide_eq_true h1, decide_eq_true h2, Bool.true_and, Bool.true_and]
      exact rputPutFeed_2 t n w ht h1 h2
    · rw [decide_eq_true h1, decide_eq_false h2, Bool.true_and, Bool.false_and]
      exact rputPutFeed_1 t n w ht h1 h2
  · rw [decide_eq_false h1, Bool.false_and, Bool.false_and]
    exact rputPutFeed_0 t n w ht h1
theorem rputState_any (a b : Int) (w : World) : Calls Tryd.prog 12 #[.agg #[.int .i64 a, .int .i64 b]] w fun e w' => e = .returned (.tuple #[str (putStateR a b).1, .int .i64 (putStateR a b).2]) ∧ Below w.heap.size w w' := by
  rw [← refO_state]
  by_cases h1 : 0 ≤ a
  · by_cases h2 : a ≤ 2
    · by_cases h3 : b = 0
      · rw [decide_eq_true h1, decide_eq_true h2, decide_eq_true h3, Bool.true_or, Bool.true_and, Bool.true_and, Bool.true_and]
        exact rputPutState_3 a b w h1 h2 h3
      · by_cases h4 : b = 1
        · rw [decide_eq_true h1, decide_eq_true h2, decide_eq_true h4, Bool.or_true, Bool.true_and, Bool.true_and, Bool.true_and]
          exact rputPutState_4 a b w h1 h2 h4
        · rw [decide_eq_true h1, decide_eq_true h2, decide_eq_false h3, decide_eq_false h4, Bool.or_false, Bool.and_false, Bool.false_and]
          exact rputPutState_2 a b w h1 h2 h3 h4
    · rw [decide_eq_true h1, decide_eq_false h2, Bool.true_and, Bool.false_and, Bool.false_and]
      exact rputPutState_1 a b w h1 h2
  · rw [decide_eq_false h1, Bool.false_and, Bool.false_and, Bool.false_and]
    exact rputPutState_0 a b w h1
theorem short_valid {s : List UInt8} (h : s.length ≤ 500) : shortB s = validB s := by unfold shortB; rw [decide_eq_true h, Bool.true_and]
theorem short_long {s : List UInt8} (h : 500 < s.length) : shortB s = false := by unfold shortB; rw [decide_eq_false (by omega), Bool.false_and]
theorem tx_bad {s : List UInt8} (h : validB s = false) : txF s = false := by unfold txF; rw [h, Bool.and_false]
def okE (g l t : List UInt8) (n : Int) : Bool := !(g == []) && (shortB g && (shortB l && (shortB t && (decide (0 ≤ n) && decide (n ≤ 1099511627776)))))
theorem refO_entry (g l t : List UInt8) (n : Int) : refO (entMs g l t n) (okE g l t n) = putEntR g l t n := by
  unfold putEntR
  by_cases hb : badE g l t n
  · rw [if_pos hb]
    have : okE g l t n = false := by
      unfold okE
      rcases hb with h | h | h | h | h | h
      · rw [h]; rfl
      · rw [short_long h]; simp
      · rw [short_long h]; simp
      · rw [short_long h]; simp
      · rw [decide_eq_false (show ¬ 0 ≤ n by omega)]; simp
      · rw [decide_eq_false (show ¬ n ≤ 1099511627776 by omega)]; simp
    rw [this, refO_no]
  · rw [if_neg hb]
    have hb2 := hb
    unfold badE at hb2
    have q0 : g ≠ [] := fun e => hb2 (.inl e)
    have e0 : (g == []) = false := by rw [beq_eq_false_iff_ne]; exact q0
    unfold okE
    rw [e0, short_valid (show g.length ≤ 500 by omega), short_valid (show l.length ≤ 500 by omega), short_valid (show t.length ≤ 500 by omega), decide_eq_true (show 0 ≤ n by omega), decide_eq_true (show n ≤ 1099511627776 by omega)]
    cases hg : validB g with
    | false => exact (refO_no _).trans (objR_no (mem_valid (nm := guidN) (s := g) (by simp [entMs]) (tx_bad hg))).symm
    | true =>
      cases hl : validB l with
      | false => exact (refO_no _).trans (objR_no (mem_valid (nm := linkN) (s := l) (by simp [entMs]) (tx_bad hl))).symm
      | true =>
        cases ht : validB t with
        | false => exact (refO_no _).trans (objR_no (mem_valid (nm := titleN) (s := t) (by simp [entMs]) (tx_bad ht))).symm
        | true => exact if_pos rfl
theorem rputEnt_any (m : Int) (g t l : List UInt8) (n : Int) (w : World) (hg : g.length ≤ 9223372036854775807) (hl : l.length ≤ 9223372036854775807) (ht : t.length ≤ 9223372036854775807) : Calls Tryd.prog 8 #[.agg #[.int .i64 m, str g, str t, str l, .int .i64 n]] w fun e w' => e = .returned (.tuple #[str (putEntR g l t n).1, .int .i64 (putEntR g l t n).2]) ∧ Below w.heap.size w w' := by
  rw [← refO_entry]
  unfold okE
  cases h0 : (g == []) with
  | true => exact rputPutEntry_0 m g t l n w hg hl ht h0
  | false =>
    cases s1 : shortB g with
    | false => exact rputPutEntry_1 m g t l n w hg hl ht h0 s1
    | true =>
      cases s2 : shortB l with
      | false => exact rputPutEntry_2 m g t l n w hg hl ht h0 s1 s2
      | true =>
        cases s3 : shortB t with
        | false => exact rputPutEntry_3 m g t l n w hg hl ht h0 s1 s2 s3
        | true =>
          by_cases h1 : 0 ≤ n
          · rw [decide_eq_true h1]
            exact rputPutEntry_5 m g t l n w hg hl ht h0 s1 s2 s3 h1
          · rw [decide_eq_false h1]
            exact rputPutEntry_4 m g t l n w hg hl ht h0 s1 s2 s3 h1
theorem rputMarks_any (v : Value) (l : List MarkT) (w : World) (hv : RdMk w v l) (hlen : l.length ≤ 50) (hI : ∀ m ∈ l, (-9223372036854775808 ≤ m.1 ∧ m.1 ≤ 9223372036854775807) ∧ (-9223372036854775808 ≤ m.2 ∧ m.2 ≤ 9223372036854775807)) :
    Calls Tryd.prog 14 #[v] w fun e w' => e = .returned (.tuple #[str (putMksR l).1, .int .i64 (putMksR l).2]) ∧ Below w.heap.size w w' := by
  have h := rputMks_any v l w hv hlen hI
  have e : refO (mksMs l) (mayLk l) = putMksR l := by
    unfold putMksR
    by_cases hm : MayL l
    · rw [if_pos hm, mayL_yes hm]; exact if_pos rfl
    · rw [if_neg hm, mayL_no hm, refO_no]
  rwa [e] at h
end Go.Proofs.YtjnejbeeoepdnaaDoor
namespace Go.Proofs.YtjnejbeeoepdnaaDoor
open Go.RowKit

theorem flat_take (sz : Nat) : ∀ (L : List (List Value)) (_ : ∀ r ∈ L, r.length = sz) (k : Nat), L.flatten.take (k * sz) = (L.take k).flatten
  | [], _, k => by simp
  | r :: t, _, 0 => by simp
  | r :: t, hr, k + 1 => by
    have e := hr r (by simp)
    have ih := flat_take sz t (fun r hr' => hr r (by simp [hr'])) k
    rw [List.flatten_cons, List.take_succ_cons, List.flatten_cons, List.take_append, List.take_of_length_le (by rw [e, Nat.succ_mul]; omega), e, show (k + 1) * sz - sz = k * sz by rw [Nat.succ_mul]; omega, ih]
theorem flat_drop (sz : Nat) : ∀ (L : List (List Value)) (_ : ∀ r ∈ L, r.length = sz) (k : Nat), L.flatten.drop (k * sz) = (L.drop k).flatten
  | [], _, k => by simp
  | r :: t, _, 0 => by simp
  | r :: t, hr, k + 1 => by
    have e := hr r (by simp)
    have ih := flat_drop sz t (fun r hr' => hr r (by simp [hr'])) k
    rw [List.flatten_cons, List.drop_succ_cons, List.drop_append, List.drop_of_length_le (by rw [e, Nat.succ_mul]; omega), e, show (k + 1) * sz - sz = k * sz by rw [Nat.succ_mul]; omega, ih, List.nil_append]
theorem flat_set (sz : Nat) : ∀ (L : List (List Value)) (_ : ∀ r ∈ L, r.length = sz) (p : Nat) (hp : p < L.length) (j : Nat) (_ : j < sz) (u : Value), L.flatten.set (p * sz + j) u = (L.set p (L[p].set j u)).flatten
  | r :: t, hr, 0, _, j, hj, u => by
    have e := hr r (by simp)
    rw [Nat.zero_mul, Nat.zero_add, List.flatten_cons, List.set_append_left _ _ (by omega)]
    rfl
  | r :: t, hr, p + 1, hp, j, hj, u => by
    have e := hr r (by simp)
    have ih := flat_set sz t (fun r hr' => hr r (by simp [hr'])) p (by simpa using hp) j hj u
    rw [List.flatten_cons, List.set_append_right _ _ (by rw [e, Nat.succ_mul]; omega), e, show (p + 1) * sz + j - sz = p * sz + j by rw [Nat.succ_mul]; omega, ih]
    rfl
/-- The first of a row. -/
theorem row_takeF {W : World} {base g n cap sz : Nat} {e : TypeId} {xs : List Value} (h : W.ownsRow base e sz (.slice (some ⟨g, 0, none⟩) n cap) n xs) {k : Nat} (hk : k ≤ n) : W.ownsRow base e sz (.slice (some ⟨g, 0, none⟩) k cap) k (xs.take (k * sz)) := by
  have hl := h.1
  have hm : k * sz ≤ n * sz := Nat.mul_le_mul_right sz hk
  rcases h.2 with ⟨h', _⟩ | ⟨g', cap', cur, h', hb, hg, h1, h2, h3, h4⟩
  · simp at h'
  · simp only [Value.slice.injEq, Option.some.injEq, Addr.mk.injEq, and_true] at h'
    obtain ⟨rfl, _, rfl⟩ := h'
    refine ⟨by simp; omega, .inr ⟨g, cap, cur, rfl, hb, hg, by omega, h2, h3, ?_⟩⟩
    rw [← h4, List.take_take, Nat.min_eq_left hm]
theorem row_cap {W : World} {base g n cap sz : Nat} {e : TypeId} {k : Nat} {xs : List Value} (h : W.ownsRow base e sz (.slice (some ⟨g, 0, none⟩) n cap) k xs) : n = k ∧ n ≤ cap ∧ cap ≤ 9223372036854775807 := by
  rcases h.2 with ⟨h', _⟩ | ⟨g', cap', cur, h', hb, hg, h1, h2, h3, h4⟩
  · simp at h'
  · simp only [Value.slice.injEq, Option.some.injEq, Addr.mk.injEq, and_true] at h'
    obtain ⟨rfl, rfl, rfl⟩ := h'
    simp only [maxLen] at h2
    exact ⟨rfl, h1, by omega⟩
theorem RdF.drop {sz : Nat} {w : World} {g off n c : Nat} {L : List (List Value)} (h : RdF sz w (.slice (some ⟨g, off, none⟩) n c) L) (k : Nat) (hk : k ≤ L.length) : RdF sz w (.slice (some ⟨g, off + k * sz, none⟩) (n - k) (c - k)) (L.drop k) := by
  obtain ⟨a', c', he, h1, h2, h3, h4⟩ := h
  simp only [Value.slice.injEq] at he
  obtain ⟨ha, rfl, rfl⟩ := he
  refine ⟨_, c - k, by rw [List.length_drop], by rw [List.length_drop]; omega, by rw [List.length_drop]; omega, by omega, fun hne => ⟨g, off + k * sz, rfl, fun i hi j u hu => ?_⟩⟩
  obtain ⟨b, o, hb, hc⟩ := h4 (by intro e; apply hne; simp [e])
  rw [← ha] at hb
  simp only [Option.some.injEq, Addr.mk.injEq, and_true] at hb
  obtain ⟨rfl, rfl⟩ := hb
  have hi' : k + i < L.length := by rw [List.length_drop] at hi; omega
  have := hc (k + i) hi' j u (by rw [List.getElem_drop] at hu; exact hu)
  rw [show off + k * sz + i * sz + j = off + (k + i) * sz + j by rw [Nat.add_mul]; omega]
  exact this
theorem RdF.empty {sz : Nat} {w : World} {a : Addr} {c : Nat} (hc : c ≤ 9223372036854775807) : RdF sz w (.slice (some a) 0 c) [] := ⟨_, c, rfl, by simp, by simp, hc, fun h => absurd rfl h⟩
/-- What stands from p on in a row of the call's own, wherever the slice is said to lie. -/
theorem rdf_behind {W : World} {base g cap sz p : Nat} {e : TypeId} {L : List (List Value)} (hr : ∀ r ∈ L, r.length = sz) (h : W.ownsRow base e sz (.slice (some ⟨g, 0, none⟩) L.length cap) L.length L.flatten) (hp : p ≤ L.length)
    {A : Option Addr} (hA : (if cap = p then (some ⟨g, 0, none⟩ : Option Addr) else some ⟨g, p * sz, none⟩) = A) : RdF sz W (.slice A (L.length - p) (cap - p)) (L.drop p) := by
  obtain ⟨_, h1, h2⟩ := row_cap h
  by_cases hc : cap = p
  · rw [if_pos hc] at hA
    have e1 : L.length - p = 0 := by omega
    rw [← hA, e1, List.drop_eq_nil_of_le (by omega)]
    exact RdF.empty (by omega)
  · rw [if_neg hc] at hA
    rw [← hA]
    have := (RdF.of_row hr h).drop p hp
    simpa using this
/-- An append of rows to a row of the call's own, in a region that draws. -/
theorem step_appendF {P : Program} {w : World} {ops : Array Oper} {o : Oper} {a : Act} {K : Act → World → Prop} {Q : Exit → Act → World → Prop} {N : Prop} (hgd : o.guard = none) (s x : Operand) (t : TypeId)
    (ho : o.op = .call { callee := .builtin .append, args := #[s, x], argTypes := #[t, t] }) (base : Nat) (e : TypeId) (i : TypeInfo) (z : Value) (size bytes : Nat) (ht : P.underlying t = some (.slice e)) (hi : P.info? e = some i) (hz : i.zero = some z)
    (hsize : i.size = size) (hby : i.bytes = bytes) (hzs : z.cells.size = size) (hsz : 0 < size)
    (v : Value) (n : Nat) (xs : List Value) (hs : a.eval s = v) (hown : w.ownsRow base e size v n xs)
    (y : Value) (L : List (List Value)) (hL : ∀ r ∈ L, r.length = size) (hone : ∀ u ∈ L.flatten, u.oneCell' = true) (hx : a.eval x = y) (hy : RdF size w y L) (hnil : ∀ c, y = .slice none 0 c → c = 0)
    (h63 : n + L.length ≤ maxLen) (hbytes : (n + L.length) * bytes ≤ 140737488355328) (hbase : base ≤ w.heap.size)
    (hK : ∀ v' w', w'.ownsRow base e size v' (n + L.length) (xs ++ L.flatten) → w.grownBy w' v.ownBlock → K (a.put o.dst v') w') :
    if Region.wanted o (yielded ops a.tmps) = true then Oper.wp P o a w K Q else N := by
  have hw : Region.wanted o (yielded ops a.tmps) = true := by simp [Region.wanted, hgd]
  rw [if_pos hw]
  obtain ⟨ad, cap, rfl, h1, h2, h3, h4⟩ := hy
  by_cases hne : L = []
  · subst hne
    cases ad with
    | none =>
      obtain rfl := hnil cap rfl
      have hrun := run_append_owned_none (P := P) (w := w) base t o.type e i size ht hi v n xs hown
      unfold Oper.wp
      simp only [List.length_nil] at hx
      simp [execOp, ho, resolve, invoke, builtin, hs, hx, hrun, Result.andThen]
      exact hK v w (by simpa using hown) ⟨rfl, rfl, rfl, Nat.le_refl _, fun _ _ _ => rfl⟩
    | some ad =>
      exact wp_append_own w s x t ho base e i z size bytes ht hi hz hsize hby hzs hsz v n xs hs hown ad 0 cap [] hx (by simp) (by simp) (by simp) h63 hbytes hbase (fun v' w' g1 g2 _ => hK v' w' (by simpa using g1) g2)
  · obtain ⟨b, off, rfl, hc⟩ := h4 hne
    refine wp_append_own w s x t ho base e i z size bytes ht hi hz hsize hby hzs hsz v n xs hs hown ⟨b, off, none⟩ L.length cap L.flatten hx (flat_len size L hL) ?_ hone h63 hbytes hbase (fun v' w' g1 g2 _ => hK v' w' g1 g2)
    intro j u hj
    have hjl : j < L.length * size := by
      have := (List.getElem?_eq_some_iff.1 hj).1
      rwa [flat_len size L hL] at this
    have hq : j / size < L.length := Nat.div_lt_of_lt_mul (by rwa [Nat.mul_comm] at hjl)
    have hr : j % size < size := Nat.mod_lt _ hsz
    have ej : j = j / size * size + j % size := by rw [Nat.mul_comm]; exact (Nat.div_add_mod j size).symm
    have hf := flat_at size L hL (j / size) hq (j % size) hr
    rw [← ej, hj] at hf
    have := hc (j / size) hq (j % size) u hf.symm
    rw [Addr.add_lit]
    rw [show off + j = off + j / size * size + j % size by rw [Nat.add_assoc, ← ej]]
    exact this
/-- What an append of rows to a row of the call's own comes to. -/
theorem run_append_rows {P : Program} {w : World} (t ty : TypeId) (base : Nat) (e : TypeId) (i : TypeInfo) (z : Value) (size bytes : Nat) (ht : P.underlying t = some (.slice e)) (hi : P.info? e = some i) (hz : i.zero = some z)
    (hsize : i.size = size) (hby : i.bytes = bytes) (hzs : z.cells.size = size) (hsz : 0 < size) (g cap n : Nat) (xs : List Value) (hown : w.ownsRow base e size (.slice (some ⟨g, 0, none⟩) n cap) n xs)
    (y : Value) (L : List (List Value)) (hL : ∀ r ∈ L, r.length = size) (hone : ∀ u ∈ L.flatten, u.oneCell' = true) (hy : RdF size w y L) (hnil : ∀ c, y = .slice none 0 c → c = 0)
    (h63 : n + L.length ≤ maxLen) (hbytes : (n + L.length) * bytes ≤ 140737488355328) (hbase : base ≤ w.heap.size) :
    ∃ g' cap' w', (Builtin.append_ #[t, t] ty #[.slice (some ⟨g, 0, none⟩) n cap, y]).run P w = .ok (.slice (some ⟨g', 0, none⟩) (n + L.length) cap') w' ∧ w'.ownsRow base e size (.slice (some ⟨g', 0, none⟩) (n + L.length) cap') (n + L.length) (xs ++ L.flatten) ∧ w.grownBy w' (some g) := by
  obtain ⟨ad, c, rfl, h1, h2, h3, h4⟩ := hy
  by_cases hne : L = []
  · subst hne
    cases ad with
    | none =>
      obtain rfl := hnil c rfl
      exact ⟨g, cap, w, run_append_owned_none (P := P) (w := w) base t ty e i size ht hi _ n xs hown, by simpa using hown, rfl, rfl, rfl, Nat.le_refl _, fun _ _ _ => rfl⟩
    | some ad =>
      subst hsize
      rcases hown.2 with ⟨h', _⟩ | ⟨g', cap', cur, h', hbg, hgb, hnc, hcm, hcs, htake⟩
      · simp at h'
      · simp only [Value.slice.injEq, Option.some.injEq, Addr.mk.injEq, and_true] at h'
        obtain ⟨rfl, _, rfl⟩ := h'
        have hr := run_append_room (P := P) w t ty e i ht hi g n cap cur hgb ad 0 c [] (by simp) (by simp) (by simp) (by omega) (by rw [hcs]; simpa using Nat.mul_le_mul_right _ hnc)
        refine ⟨g, cap, _, hr, ⟨by simpa using hown.1, .inr ⟨g, cap, _, rfl, hbg, setRow_heap w g cur _ e _ hgb, hnc, hcm, ?_, ?_⟩⟩, ⟨rfl, rfl, rfl, by simp, fun k _ hk => setRow_other w g k _ (fun e => hk (by rw [e]))⟩⟩
        · have hle : n * i.size ≤ cur.size := by rw [hcs]; exact Nat.mul_le_mul_right _ hnc
          simp only [List.size_toArray, List.length_append, List.length_take, List.length_drop, Array.length_toList, List.append_nil, List.length_nil, Nat.add_zero]
          have := hown.1
          omega
        · rw [htake, List.flatten_nil, List.append_nil]
          have : n * i.size = xs.length := hown.1.symm
          simp [this]
  · obtain ⟨b, off, rfl, hc⟩ := h4 hne
    obtain ⟨v', w', q1, q2, q3, _⟩ := run_append_own (P := P) w base t ty e i z size bytes ht hi hz hsize hby hzs hsz _ n xs hown ⟨b, off, none⟩ L.length c L.flatten (flat_len size L hL) (fun j u hj => by
      have hjl : j < L.length * size := by
        have := (List.getElem?_eq_some_iff.1 hj).1
        rwa [flat_len size L hL] at this
      have hq : j / size < L.length := Nat.div_lt_of_lt_mul (by rwa [Nat.mul_comm] at hjl)
      have hr : j % size < size := Nat.mod_lt _ hsz
      have ej : j = j / size * size + j % size := by rw [Nat.mul_comm]; exact (Nat.div_add_mod j size).symm
      have hf := flat_at size L hL (j / size) hq (j % size) hr
      rw [← ej, hj] at hf
      have := hc (j / size) hq (j % size) u hf.symm
      rw [Addr.add_lit]
      rw [show off + j = off + j / size * size + j % size by rw [Nat.add_assoc, ← ej]]
      exact this) hone h63 hbytes hbase
    have hpos : 0 < L.length := List.length_pos_iff.2 hne
    rcases q2.2 with ⟨_, h0⟩ | ⟨g', c', _, h2', _⟩
    · omega
    · subst h2'
      exact ⟨g', c', w', q1, q2, q3⟩
/-- The same at a step of a region that draws, and at one of a list. -/
theorem step_appendG {P : Program} {w : World} {ops : Array Oper} {o : Oper} {a : Act} {K : Act → World → Prop} {Q : Exit → Act → World → Prop} {N : Prop} (hgd : o.guard = none) (s x : Operand) (t : TypeId)
    (ho : o.op = .call { callee := .builtin .append, args := #[s, x], argTypes := #[t, t] }) (base : Nat) (e : TypeId) (i : TypeInfo) (z : Value) (size bytes : Nat) (ht : P.underlying t = some (.slice e)) (hi : P.info? e = some i) (hz : i.zero = some z)
    (hsize : i.size = size) (hby : i.bytes = bytes) (hzs : z.cells.size = size) (hsz : 0 < size) (g cap n : Nat) (xs : List Value) (hs : a.eval s = .slice (some ⟨g, 0, none⟩) n cap) (hown : w.ownsRow base e size (.slice (some ⟨g, 0, none⟩) n cap) n xs)
    (y : Value) (L : List (List Value)) (hL : ∀ r ∈ L, r.length = size) (hone : ∀ u ∈ L.flatten, u.oneCell' = true) (hx : a.eval x = y) (hy : RdF size w y L) (hnil : ∀ c, y = .slice none 0 c → c = 0)
    (h63 : n + L.length ≤ maxLen) (hbytes : (n + L.length) * bytes ≤ 140737488355328) (hbase : base ≤ w.heap.size)
    (hK : ∀ g' cap' w', w'.ownsRow base e size (.slice (some ⟨g', 0, none⟩) (n + L.length) cap') (n + L.length) (xs ++ L.flatten) → w.grownBy w' (some g) → K (a.put o.dst (.slice (some ⟨g', 0, none⟩) (n + L.length) cap')) w') :
    if Region.wanted o (yielded ops a.tmps) = true then Oper.wp P o a w K Q else N := by
  have hw : Region.wanted o (yielded ops a.tmps) = true := by simp [Region.wanted, hgd]
  rw [if_pos hw]
  obtain ⟨g', cap', w', hrun, r1, r2⟩ := run_append_rows (P := P) (w := w) t o.type base e i z size bytes ht hi hz hsize hby hzs hsz g cap n xs hown y L hL hone hy hnil h63 hbytes hbase
  unfold Oper.wp
  simp [execOp, ho, resolve, invoke, builtin, hs, hx, hrun, Result.andThen]
  exact hK g' cap' w' r1 r2
theorem wpList_appendG {P : Program} {w : World} {ops : Array Oper} {rest : List Oper} {o : Oper} {a : Act} {Q : Exit → Act → World → Prop} (hgd : o.guard = none) (s x : Operand) (t : TypeId)
    (ho : o.op = .call { callee := .builtin .append, args := #[s, x], argTypes := #[t, t] }) (base : Nat) (e : TypeId) (i : TypeInfo) (z : Value) (size bytes : Nat) (ht : P.underlying t = some (.slice e)) (hi : P.info? e = some i) (hz : i.zero = some z)
    (hsize : i.size = size) (hby : i.bytes = bytes) (hzs : z.cells.size = size) (hsz : 0 < size) (g cap n : Nat) (xs : List Value) (hs : a.eval s = .slice (some ⟨g, 0, none⟩) n cap) (hown : w.ownsRow base e size (.slice (some ⟨g, 0, none⟩) n cap) n xs)
    (y : Value) (L : List (List Value)) (hL : ∀ r ∈ L, r.length = size) (hone : ∀ u ∈ L.flatten, u.oneCell' = true) (hx : a.eval x = y) (hy : RdF size w y L) (hnil : ∀ c, y = .slice none 0 c → c = 0)
    (h63 : n + L.length ≤ maxLen) (hbytes : (n + L.length) * bytes ≤ 140737488355328) (hbase : base ≤ w.heap.size)
    (h : ∀ g' cap' w', w'.ownsRow base e size (.slice (some ⟨g', 0, none⟩) (n + L.length) cap') (n + L.length) (xs ++ L.flatten) → w.grownBy w' (some g) → wpList P ops Q rest (a.put o.dst (.slice (some ⟨g', 0, none⟩) (n + L.length) cap')) w') : wpList P ops Q (o :: rest) a w := by
  refine wpList_plain hgd fun K hK => ?_
  obtain ⟨g', cap', w', hrun, r1, r2⟩ := run_append_rows (P := P) (w := w) t o.type base e i z size bytes ht hi hz hsize hby hzs hsz g cap n xs hown y L hL hone hy hnil h63 hbytes hbase
  unfold Oper.wp
  simp [execOp, ho, resolve, invoke, builtin, hs, hx, hrun, Result.andThen]
  exact hK _ _ (h g' cap' w' r1 r2)
/-- A row's cell may be written; what it is then. -/
theorem row_free {W : World} {base g n cap sz : Nat} {e : TypeId} {k : Nat} {xs : List Value} (h : W.ownsRow base e sz (.slice (some ⟨g, 0, none⟩) n cap) k xs) (j : Nat) : W.frozen? ⟨g, j, none⟩ = false := by
  rcases h.2 with ⟨h', _⟩ | ⟨g', cap', cur, h', hb, hg, _⟩
  · simp at h'
  · simp only [Value.slice.injEq, Option.some.injEq, Addr.mk.injEq, and_true] at h'
    obtain ⟨rfl, _, rfl⟩ := h'
    exact frozen_of_row W g j cur _ hg
end Go.Proofs.YtjnejbeeoepdnaaDoor
namespace Go.Proofs.YtjnejbeeoepdnaaDoor
open Go.RowKit

/-- What lies on through RowsWrites. -/
structure WrS (w W : World) (ft : List UInt8) (fn en : Int) (eg et el : List UInt8) (ew s1 s2 : Int) (vl : Value) (ml : List MarkT) : Prop where
  hb : Below w.heap.size w W
  b5 : W.heap[w.heap.size]? = some (.cells #[str ft, .int .i64 fn] 23 (0, 0))
  b6 : W.heap[w.heap.size + 1]? = some (.cells #[.int .i64 en, str eg, str et, str el, .int .i64 ew] 25 (0, 0))
  b8 : W.heap[w.heap.size + 2]? = some (.cells #[.int .i64 s1, .int .i64 s2] 27 (0, 0))
  mks : RdMk W vl ml
section
variable {w W W' : World} {ft : List UInt8} {fn en : Int} {eg et el : List UInt8} {ew s1 s2 : Int} {vl : Value} {ml : List MarkT}
theorem WrS.up (h : WrS w W ft fn en eg et el ew s1 s2 vl ml) (hb : Below W.heap.size W W') : WrS w W' ft fn en eg et el ew s1 s2 vl ml :=
  ⟨h.hb.trans (hb.mono h.hb.size), box_up h.b5 hb, box_up h.b6 hb, box_up h.b8 hb, h.mks.up hb⟩
theorem WrS.made (hv : RdMk w vl ml) : WrS w (((w.alloc (.cells #[str ft, .int .i64 fn] 23)).alloc (.cells #[.int .i64 en, str eg, str et, str el, .int .i64 ew] 25)).alloc (.cells #[.int .i64 s1, .int .i64 s2] 27)) ft fn en eg et el ew s1 s2 vl ml := by
  obtain ⟨w1, h1⟩ : ∃ w1, w1 = w.alloc (.cells #[str ft, .int .i64 fn] 23) := ⟨_, rfl⟩
  have z1 : w1.heap.size = w.heap.size + 1 := by rw [h1]; simp
  have k1 : Below w.heap.size w w1 := by rw [h1]; exact below_alloc _ _
  have c1 : w1.heap[w.heap.size]? = some (.cells #[str ft, .int .i64 fn] 23 (0, 0)) := by rw [h1]; exact heap_alloc_new _ _
  rw [← h1]
  obtain ⟨w2, h2⟩ : ∃ w2, w2 = w1.alloc (.cells #[.int .i64 en, str eg, str et, str el, .int .i64 ew] 25) := ⟨_, rfl⟩
  have z2 : w2.heap.size = w.heap.size + 2 := by rw [h2]; simp; omega
  have k2 : Below w1.heap.size w1 w2 := by rw [h2]; exact below_alloc _ _
  have c2 : w2.heap[w.heap.size + 1]? = some (.cells #[.int .i64 en, str eg, str et, str el, .int .i64 ew] 25 (0, 0)) := by rw [h2, ← z1]; exact heap_alloc_new _ _
  rw [← h2]
  obtain ⟨w3, h3⟩ : ∃ w3, w3 = w2.alloc (.cells #[.int .i64 s1, .int .i64 s2] 27) := ⟨_, rfl⟩
  have k3 : Below w2.heap.size w2 w3 := by rw [h3]; exact below_alloc _ _
  have c3 : w3.heap[w.heap.size + 2]? = some (.cells #[.int .i64 s1, .int .i64 s2] 27 (0, 0)) := by rw [h3, ← z2]; exact heap_alloc_new _ _
  rw [← h3]
  have q2 := k1.trans (k2.mono k1.size)
  have q3 := q2.trans (k3.mono q2.size)
  exact ⟨q3, box_up (box_up c1 k2) k3, box_up c2 k3, c3, hv.up q3⟩
end
theorem one_cellsM (l : List MarkT) : ∀ u ∈ (l.map cellsM).flatten, u.oneCell' = true := by
  intro u hu
  obtain ⟨r, hr, hu⟩ := List.mem_flatten.1 hu
  obtain ⟨c, _, rfl⟩ := List.mem_map.1 hr
  simp only [cellsM, List.mem_cons, List.not_mem_nil, or_false] at hu
  rcases hu with rfl | rfl <;> rfl
set_option maxRecDepth 100000 in
set_option maxHeartbeats 64000000 in
theorem writes_row (ft : List UInt8) (fn en : Int) (eg et el : List UInt8) (ew : Int) (fo : List UInt8) (s1 s2 : Int) (vl : Value) (ml : List MarkT) (w : World) (hft : ft.length ≤ 9223372036854775807) (hfo : fo.length ≤ 9223372036854775807) (hg : eg.length ≤ 9223372036854775807) (hl : el.length ≤ 9223372036854775807) (htl : et.length ≤ 9223372036854775807)
    (hv : RdMk w vl ml) (hnil : ∀ c, vl = .slice none 0 c → c = 0) (hI : ∀ m ∈ ml, (-9223372036854775808 ≤ m.1 ∧ m.1 ≤ 9223372036854775807) ∧ (-9223372036854775808 ≤ m.2 ∧ m.2 ≤ 9223372036854775807)) (ht : TabJ w.heap.size w) :
    Calls Tryd.prog 3 #[.agg #[str ft, .int .i64 fn], .agg #[.int .i64 en, str eg, str et, str el, .int .i64 ew], str fo, .agg #[.int .i64 s1, .int .i64 s2], vl] w fun e w' => e = .returned (.bool true) ∧ Below w.heap.size w w' := by
  have HA0 := WrS.made (ft := ft) (fn := fn) (en := en) (eg := eg) (et := et) (el := el) (ew := ew) (s1 := s1) (s2 := s2) hv
  obtain ⟨Wa, hWa⟩ : ∃ Wa, Wa = ((w.alloc (.cells #[str ft, .int .i64 fn] 23)).alloc (.cells #[.int .i64 en, str eg, str et, str el, .int .i64 ew] 25)).alloc (.cells #[.int .i64 s1, .int .i64 s2] 27) := ⟨_, rfl⟩
  rw [← hWa] at HA0
  have HA := Lib.hid HA0
  have TB : Hid (∀ W, Below w.heap.size w W → TabJ W.heap.size W) := Lib.hid (fun W hb w' h' => ht w' (hb.trans (h'.mono hb.size)))
  have FST : Hid (∀ W, Calls Tryd.prog 4 #[] W fun e w' => e = .returned (.bool true) ∧ Below W.heap.size W w') := Lib.hid mkfirst_any
  have HNL := Lib.hid hnil
  have HIL := Lib.hid hI
  obtain ⟨av, cv, rfl, _⟩ := hv.form
  have C1 := Lib.hid (FST.out Wa)
  have HLL := Lib.hid (And.intro hfo (And.intro hg (And.intro hl (And.intro htl hft))))
  obtain ⟨i0, hi, hz0, hz1, hz2⟩ := info_parts infoMk
  clear hft hfo hg hl htl ht HA0 hv hnil hI
  obtain ⟨k1, r1⟩ : ∃ s, wrap64 ((ft.length : Int) + (eg.length : Int)) = s := ⟨_, rfl⟩
  obtain ⟨k2, r2⟩ : ∃ s, wrap64 (k1 + (et.length : Int)) = s := ⟨_, rfl⟩
  obtain ⟨k3, r3⟩ : ∃ s, wrap64 (k2 + (el.length : Int)) = s := ⟨_, rfl⟩
  obtain ⟨k4, r4⟩ : ∃ s, wrap64 (k3 + (fo.length : Int)) = s := ⟨_, rfl⟩
  by_cases h2 : 20000 < k4
  · have z1 : decide (20000 < k4) = true := decide_eq_true h2
    go_enter Tryd.func3, Tryd.ntmps3
    go_wp2_with fail
    rw [← hWa]
    refine C1.out.mono ?_
    rintro e w1 ⟨rfl, hb1⟩
    have H1 := Lib.hid (HA.out.up hb1)
    clear hb1 C1 hWa HA
    have p0 := box_cell H1.out.b5 0
    have q1 := box_cell H1.out.b6 1
    have q2 := box_cell H1.out.b6 2
    have q3 := box_cell H1.out.b6 3
    have CF := Lib.hid (FST.out w1)
    go_wp2_with fail
    refine CF.out.mono ?_
    rintro e w99 ⟨rfl, hb99⟩
    have HX := Lib.hid (H1.out.hb.trans (hb99.mono H1.out.hb.size))
    clear hb99 CF
    go_wp2_with fail
    go_ret
    exact ⟨rfl, HX.out⟩
  · have z1 : decide (20000 < k4) = false := decide_eq_false h2
    by_cases h3 : 50 < ml.length
    · have z2 : decide ((50 : Int) < (ml.length : Int)) = true := decide_eq_true (by omega)
      go_enter Tryd.func3, Tryd.ntmps3
      go_wp2_with fail
      rw [← hWa]
      refine C1.out.mono ?_
      rintro e w1 ⟨rfl, hb1⟩
      have H1 := Lib.hid (HA.out.up hb1)
      clear hb1 C1 hWa HA
      have p0 := box_cell H1.out.b5 0
      have q1 := box_cell H1.out.b6 1
      have q2 := box_cell H1.out.b6 2
      have q3 := box_cell H1.out.b6 3
      have CF := Lib.hid (FST.out w1)
      go_wp2_with fail
      refine CF.out.mono ?_
      rintro e w99 ⟨rfl, hb99⟩
      have HX := Lib.hid (H1.out.hb.trans (hb99.mono H1.out.hb.size))
      clear hb99 CF
      go_wp2_with fail
      go_ret
      exact ⟨rfl, HX.out⟩
    · have z2 : decide ((50 : Int) < (ml.length : Int)) = false := decide_eq_false (by omega)
      have hml : ml.length ≤ 50 := by omega
      clear h2 h3
      go_enter Tryd.func3, Tryd.ntmps3
      go_wp2_with fail
      rw [← hWa]
      refine C1.out.mono ?_
      rintro e w1 ⟨rfl, hb1⟩
      have H1 := Lib.hid (HA.out.up hb1)
      clear hb1 C1 hWa HA
      have p0 := box_cell H1.out.b5 0
      have q1 := box_cell H1.out.b6 1
      have q2 := box_cell H1.out.b6 2
      have q3 := box_cell H1.out.b6 3
      go_wp2_with (at_builtin; refine hold ?_)
      intro _
      refine wpList_appendG (by rfl) _ _ 28 (by rfl) w1.heap.size 49 i0 _ 2 16 Tryd.underlying28 hi hz0 hz1 hz2 rfl (by decide) w1.heap.size 0 0 [] (by rfl) (World.ownsRow_lit (e := 49) (size := 2) w1 #[] 0 (Nat.le_refl _) (by decide) rfl) (.slice av ml.length cv) (ml.map cellsM) (cellsM_len ml) (one_cellsM ml) (by rfl) (H1.out.mks.up (below_alloc w1 _)) HNL.out ?_ ?_ ?_ ?_
      · rw [List.length_map]; simp [maxLen]; omega
      · rw [List.length_map]; omega
      · simp
      intro gI cI w2 hoI hgI
      rw [List.length_map, Nat.zero_add, List.nil_append] at hoI
      rw [List.length_map, Nat.zero_add]
      have hbI : Below w1.heap.size w1 w2 := ((Below.refl _ w1).alloc (Nat.le_refl _) _).grown hgI (by simp) (fun k e => by cases e; exact Nat.le_refl _)
      have H2 := Lib.hid (H1.out.up hbI)
      have HIN := Lib.hid (show RdMk w2 (.slice (some ⟨gI, 0, none⟩) ml.length cI) ml from RdMk.of_row hoI)
      clear hoI hgI hbI p0 q1 q2 q3 H1
      -- CALLS
      obtain ⟨RF1, hRF1⟩ : ∃ x, x = (putFeedR ft fn).1 := ⟨_, rfl⟩
      obtain ⟨RF2, hRF2⟩ : ∃ x, x = (putFeedR ft fn).2 := ⟨_, rfl⟩
      obtain ⟨RE1, hRE1⟩ : ∃ x, x = (putEntR eg el et ew).1 := ⟨_, rfl⟩
      obtain ⟨RE2, hRE2⟩ : ∃ x, x = (putEntR eg el et ew).2 := ⟨_, rfl⟩
      obtain ⟨RS1, hRS1⟩ : ∃ x, x = (putSubR fo).1 := ⟨_, rfl⟩
      obtain ⟨RS2, hRS2⟩ : ∃ x, x = (putSubR fo).2 := ⟨_, rfl⟩
      obtain ⟨RT1, hRT1⟩ : ∃ x, x = (putStateR s1 s2).1 := ⟨_, rfl⟩
      obtain ⟨RT2, hRT2⟩ : ∃ x, x = (putStateR s1 s2).2 := ⟨_, rfl⟩
      obtain ⟨RM1, hRM1⟩ : ∃ x, x = (putMksR ml).1 := ⟨_, rfl⟩
      obtain ⟨RM2, hRM2⟩ : ∃ x, x = (putMksR ml).2 := ⟨_, rfl⟩
      have CF1 := Lib.hid (fun W (h : Below w.heap.size w W) => show Calls Tryd.prog 5 #[.agg #[str ft, .int .i64 fn]] W fun e w' => e = .returned (.tuple #[str RF1, .int .i64 RF2]) ∧ Below W.heap.size W w' by rw [hRF1, hRF2]; exact putFeed_any ft fn W (TB.out W h))
      have CF2 := Lib.hid (fun W (h : Below w.heap.size w W) => show Calls Tryd.prog 6 #[.agg #[str ft, .int .i64 fn]] W fun e w' => e = .returned (.tuple #[str RF1, .int .i64 RF2]) ∧ Below W.heap.size W w' by rw [hRF1, hRF2]; exact rputFeed_any ft fn W HLL.out.2.2.2.2)
      have CE1 := Lib.hid (fun W (h : Below w.heap.size w W) => show Calls Tryd.prog 7 #[.agg #[.int .i64 en, str eg, str et, str el, .int .i64 ew]] W fun e w' => e = .returned (.tuple #[str RE1, .int .i64 RE2]) ∧ Below W.heap.size W w' by rw [hRE1, hRE2]; exact putEnt_any en eg et el ew W HLL.out.2.1 HLL.out.2.2.1 HLL.out.2.2.2.1 (TB.out W h))
      have CE2 := Lib.hid (fun W (h : Below w.heap.size w W) => show Calls Tryd.prog 8 #[.agg #[.int .i64 en, str eg, str et, str el, .int .i64 ew]] W fun e w' => e = .returned (.tuple #[str RE1, .int .i64 RE2]) ∧ Below W.heap.size W w' by rw [hRE1, hRE2]; exact rputEnt_any en eg et el ew W HLL.out.2.1 HLL.out.2.2.1 HLL.out.2.2.2.1)
      have CS1 := Lib.hid (fun W (h : Below w.heap.size w W) => show Calls Tryd.prog 9 #[str fo] W fun e w' => e = .returned (.tuple #[str RS1, .int .i64 RS2]) ∧ Below W.heap.size W w' by rw [hRS1, hRS2]; exact putSub_any fo W HLL.out.1 (TB.out W h))
      have CS2 := Lib.hid (fun W (h : Below w.heap.size w W) => show Calls Tryd.prog 10 #[str fo] W fun e w' => e = .returned (.tuple #[str RS1, .int .i64 RS2]) ∧ Below W.heap.size W w' by rw [hRS1, hRS2]; exact rputSub_any fo W HLL.out.1)
      have CT1 := Lib.hid (fun W (h : Below w.heap.size w W) => show Calls Tryd.prog 11 #[.agg #[.int .i64 s1, .int .i64 s2]] W fun e w' => e = .returned (.tuple #[str RT1, .int .i64 RT2]) ∧ Below W.heap.size W w' by rw [hRT1, hRT2]; exact putState_any s1 s2 W (TB.out W h))
      have CT2 := Lib.hid (fun W (h : Below w.heap.size w W) => show Calls Tryd.prog 12 #[.agg #[.int .i64 s1, .int .i64 s2]] W fun e w' => e = .returned (.tuple #[str RT1, .int .i64 RT2]) ∧ Below W.heap.size W w' by rw [hRT1, hRT2]; exact rputState_any s1 s2 W)
      have CM1 := Lib.hid (fun W (h : Below w.heap.size w W) (hm : RdMk W (.slice (some ⟨gI, 0, none⟩) ml.length cI) ml) => show Calls Tryd.prog 13 #[.slice (some ⟨gI, 0, none⟩) ml.length cI] W fun e w' => e = .returned (.tuple #[str RM1, .int .i64 RM2]) ∧ Below W.heap.size W w' by rw [hRM1, hRM2]; exact putMks_any _ ml W hm (TB.out W h))
      have CM2 := Lib.hid (fun W u (hm : RdMk W u ml) => show Calls Tryd.prog 14 #[u] W fun e w' => e = .returned (.tuple #[str RM1, .int .i64 RM2]) ∧ Below W.heap.size W w' by rw [hRM1, hRM2]; exact rputMarks_any _ ml W hm hml HIL.out)
      have CK := Lib.hid (fun W (hm : RdMk W (.slice av ml.length cv) ml) => marks_any _ ml W hm (by omega))
      clear hRF1 hRF2 hRE1 hRE2 hRS1 hRS2 hRT1 hRT2 hRM1 hRM2 r1 r2 r3 r4 z1 z2
      have q0 := box_cell H2.out.b5 0
      have q1 := box_cell H2.out.b5 1
      go_wp2_with fail
      refine (CF1.out _ H2.out.hb).mono ?_
      rintro e w3 ⟨rfl, hb⟩
      have H3 := Lib.hid (H2.out.up hb)
      have HIN := Lib.hid (HIN.out.up hb)
      clear hb q0 q1
      have q0 := box_cell H3.out.b5 0
      have q1 := box_cell H3.out.b5 1
      go_wp2_with fail
      refine (CF2.out _ H3.out.hb).mono ?_
      rintro e w4 ⟨rfl, hb⟩
      have H4 := Lib.hid (H3.out.up hb)
      have HIN := Lib.hid (HIN.out.up hb)
      clear hb q0 q1
      have q0 := box_cell H4.out.b6 0
      have q1 := box_cell H4.out.b6 1
      have q2 := box_cell H4.out.b6 2
      have q3 := box_cell H4.out.b6 3
      have q4 := box_cell H4.out.b6 4
      go_wp2_with fail
      refine (CE1.out _ H4.out.hb).mono ?_
      rintro e w5 ⟨rfl, hb⟩
      have H5 := Lib.hid (H4.out.up hb)
      have HIN := Lib.hid (HIN.out.up hb)
      clear hb q0 q1 q2 q3 q4
      have q0 := box_cell H5.out.b6 0
      have q1 := box_cell H5.out.b6 1
      have q2 := box_cell H5.out.b6 2
      have q3 := box_cell H5.out.b6 3
      have q4 := box_cell H5.out.b6 4
      go_wp2_with fail
      refine (CE2.out _ H5.out.hb).mono ?_
      rintro e w6 ⟨rfl, hb⟩
      have H6 := Lib.hid (H5.out.up hb)
      have HIN := Lib.hid (HIN.out.up hb)
      clear hb q0 q1 q2 q3 q4
      go_wp2_with fail
      refine (CS1.out _ H6.out.hb).mono ?_
      rintro e w7 ⟨rfl, hb⟩
      have H7 := Lib.hid (H6.out.up hb)
      have HIN := Lib.hid (HIN.out.up hb)
      clear hb
      go_wp2_with fail
      refine (CS2.out _ H7.out.hb).mono ?_
      rintro e w8 ⟨rfl, hb⟩
      have H8 := Lib.hid (H7.out.up hb)
      have HIN := Lib.hid (HIN.out.up hb)
      clear hb
      have q0 := box_cell H8.out.b8 0
      have q1 := box_cell H8.out.b8 1
      go_wp2_with fail
      refine (CT1.out _ H8.out.hb).mono ?_
      rintro e w9 ⟨rfl, hb⟩
      have H9 := Lib.hid (H8.out.up hb)
      have HIN := Lib.hid (HIN.out.up hb)
      clear hb q0 q1
      have q0 := box_cell H9.out.b8 0
      have q1 := box_cell H9.out.b8 1
      go_wp2_with fail
      refine (CT2.out _ H9.out.hb).mono ?_
      rintro e w10 ⟨rfl, hb⟩
      have H10 := Lib.hid (H9.out.up hb)
      have HIN := Lib.hid (HIN.out.up hb)
      clear hb q0 q1
      go_wp2_with fail
      refine (CM1.out _ H10.out.hb HIN.out).mono ?_
      rintro e w11 ⟨rfl, hb⟩
      have H11 := Lib.hid (H10.out.up hb)
      have HIN := Lib.hid (HIN.out.up hb)
      clear hb
      go_wp2_with fail
      refine (CK.out _ H11.out.mks).mono ?_
      rintro e w12 ⟨u, rfl, hu, hb⟩
      have H12 := Lib.hid (H11.out.up hb)
      have HIN := Lib.hid (HIN.out.up hb)
      have HU := Lib.hid hu
      obtain ⟨au, cu, rfl, _⟩ := hu.form
      clear hb hu
      go_wp2_with fail
      refine (CM2.out _ _ HU.out).mono ?_
      rintro e w13 ⟨rfl, hb⟩
      have H13 := Lib.hid (H12.out.up hb)
      have HIN := Lib.hid (HIN.out.up hb)
      clear hb
      go_wp2_with fail
      refine (FST.out _).mono ?_
      rintro e w14 ⟨rfl, hb⟩
      have H14 := Lib.hid (H13.out.up hb)
      have HIN := Lib.hid (HIN.out.up hb)
      clear hb
      have eF1 : (RF1 == RF1) = true := beq_self_eq_true _
      have eF2 : (RF2 == RF2) = true := beq_self_eq_true _
      have eE1 : (RE1 == RE1) = true := beq_self_eq_true _
      have eE2 : (RE2 == RE2) = true := beq_self_eq_true _
      have eS1 : (RS1 == RS1) = true := beq_self_eq_true _
      have eS2 : (RS2 == RS2) = true := beq_self_eq_true _
      have eT1 : (RT1 == RT1) = true := beq_self_eq_true _
      have eT2 : (RT2 == RT2) = true := beq_self_eq_true _
      have eM1 : (RM1 == RM1) = true := beq_self_eq_true _
      have eM2 : (RM2 == RM2) = true := beq_self_eq_true _
      go_wp2_with fail
      refine (CK.out _ H14.out.mks).mono ?_
      rintro e w15 ⟨u, rfl, hu, hb⟩
      have H15 := Lib.hid (H14.out.up hb)
      have HIN := Lib.hid (HIN.out.up hb)
      have HU := Lib.hid hu
      obtain ⟨au, cu, rfl, _⟩ := hu.form
      clear hb hu
      go_wp2_with fail
      refine (samek_any _ _ ml _ HIN.out HU.out (by omega)).mono ?_
      rintro e wZ ⟨rfl, hb⟩
      have HX := Lib.hid (H15.out.hb.trans (hb.mono H15.out.hb.size))
      clear hb
      go_wp2_with fail
      go_ret
      exact ⟨rfl, HX.out⟩
end Go.Proofs.YtjnejbeeoepdnaaDoor
namespace Go.Proofs.YtjnejbeeoepdnaaDoor
open Go.RowKit

theorem writes_main (ft : List UInt8) (fn em : Int) (eg et el : List UInt8) (ew : Int) (fo : ByteArray) (s1 s2 : Int) (vl : Value) (ml : List MarkT) (w : World) (hft : ft.length ≤ 9223372036854775807) (_ : -9223372036854775808 ≤ fn ∧ fn ≤ 9223372036854775807)
    (hg : eg.length ≤ 9223372036854775807) (ht : et.length ≤ 9223372036854775807) (hl : el.length ≤ 9223372036854775807) (hfo : fo.size ≤ maxLen) (_ : -9223372036854775808 ≤ s1 ∧ s1 ≤ 9223372036854775807) (_ : -9223372036854775808 ≤ s2 ∧ s2 ≤ 9223372036854775807)
    (hv : RdMk w vl ml) (hn : ∀ c, vl = .slice none 0 c → c = 0) (hI : ∀ x ∈ ml, (-9223372036854775808 ≤ x.1 ∧ x.1 ≤ 9223372036854775807) ∧ (-9223372036854775808 ≤ x.2 ∧ x.2 ≤ 9223372036854775807)) (hT : TabJ w.heap.size w) :
    Calls Tryd.prog 3 #[.agg #[str ft, .int .i64 fn], .agg #[.int .i64 em, str eg, str et, str el, .int .i64 ew], .string fo, .agg #[.int .i64 s1, .int .i64 s2], vl] w fun e w' => e = .returned (.bool true) ∧ Below w.heap.size w w' := by
  obtain ⟨⟨l⟩⟩ := fo
  exact writes_row ft fn em eg et el ew l s1 s2 vl ml w hft (by unfold maxLen at hfo; exact hfo) hg hl ht hv hn hI hT
end Go.Proofs.YtjnejbeeoepdnaaDoor
namespace Go.Proofs.YtjnejbeeoepdnaaDoor
open Go.ChangeShapes Go.WideShapes Go.ChangeAt Go.RowKit

theorem wf_u8 {x : Int} (h : (Lit.int .u8 x).wf = true) : 0 ≤ x ∧ x < 256 := by
  have h1 : IntKind.u8.min = 0 := rfl
  have h2 : IntKind.u8.max = 255 := rfl
  simp only [Lit.wf, Bool.and_eq_true, decide_eq_true_eq] at h
  omega
theorem wf_i64 {x : Int} (h : (Lit.int .i64 x).wf = true) : -9223372036854775808 ≤ x ∧ x ≤ 9223372036854775807 := by
  have h1 : IntKind.i64.min = -9223372036854775808 := rfl
  have h2 : IntKind.i64.max = 9223372036854775807 := rfl
  simp only [Lit.wf, Bool.and_eq_true, decide_eq_true_eq] at h
  omega

/-- A slice of bytes that came in, nil or not, reads as some bytes. -/
theorem rd_open {H : Type} {enc : TypeId × Value → H} {P : Program} {t e : TypeId} (ht : P.underlying t = some (.slice e)) (he : P.underlying e = some (.int .u8)) (hc : P.cellsOf e = 1) {W : World} {a0 : Option Addr} {len cap : Nat} {d : DataW H} {p : List MemPlace}
    (h : DataW.Trod enc P W 0 (fun _ => true) true t (.slice a0 len cap) d p) : ∃ l : List UInt8, Rd W (.slice a0 len cap) l := by
  obtain ⟨fuel, hf⟩ := h
  rcases open_ints ht he hc hf with ⟨hcs, _⟩ | ⟨x, l, c, zs, hcs, _, hl, hm, hz, _, hcell, hwz⟩
  · simp [Value.cells] at hcs
    obtain ⟨rfl, rfl, rfl⟩ := hcs
    exact ⟨[], Rd.nil W⟩
  · simp [Value.cells] at hcs
    obtain ⟨rfl, rfl, rfl⟩ := hcs
    have hz' : zs.length = cap := by simpa using hz
    have hlen : ((zs.take len).map fun n => UInt8.ofNat n.toNat).length = len := by simp; omega
    refine ⟨(zs.take len).map fun n => UInt8.ofNat n.toNat, some x, cap, by rw [hlen], by omega, hm, (fun h => by cases h), fun hne => ?_⟩
    have hpos : 0 < zs.length := by
      rcases Nat.eq_zero_or_pos zs.length with h0 | h0
      · exfalso; apply hne; rw [List.eq_nil_of_length_eq_zero h0]; simp
      · exact h0
    obtain ⟨b, off, spot⟩ := x
    have hspot : spot = none := by simpa [Addr.add] using World.cell?_spot (hcell 0 hpos)
    subst hspot
    refine ⟨b, off, rfl, fun i hi => ?_⟩
    have hi' : i < len := by rw [hlen] at hi; exact hi
    have hiz : i < zs.length := by omega
    have := hcell i hiz
    rw [Addr.add_lit] at this
    rw [this]
    have hw := wf_u8 (hwz zs[i] (List.getElem_mem hiz))
    simp only [List.getElem_map, List.getElem_take, bv, UInt8.toNat_ofNat', List.getD_eq_getElem?_getD, List.getElem?_eq_getElem hiz, Option.getD_some]
    congr 2
    omega
end Go.Proofs.YtjnejbeeoepdnaaDoor
namespace Go.Proofs.YtjnejbeeoepdnaaDoor
open Go.ChangeShapes Go.WideShapes Go.ChangeAt Go.RowKit Go.Deep

theorem array2 {α : Type} {cs : Array α} (h : cs.size = 2) : ∃ c0 c1, cs = #[c0, c1] := by
  obtain ⟨l⟩ := cs
  match l, h with
  | [c0, c1], _ => exact ⟨c0, c1, rfl⟩
theorem mark_open {H : Type} {enc : TypeId × Value → H} {P : Program} {W : World} {base : Nat} {T : TypeId} {n0 n1 : Field} {v : Value} {d : DataW H} {p : List MemPlace} (hs : P.underlying T = some (.struct #[n0, n1])) (hc : P.cellsOf T = 2)
    (o : (n0.offset = 0 ∧ n1.offset = 1) ∧ P.cellsOf n0.type = 1 ∧ P.cellsOf n1.type = 1) (u0 : P.underlying n0.type = some (.int .i64)) (u1 : P.underlying n1.type = some (.int .i64))
    (hv : Value.okWide P W .any base T v) (h : DataW.Trod enc P W 0 (fun _ => true) true T v d p) : ∃ q : MarkT, v = .agg #[.int .i64 q.1, .int .i64 q.2] ∧ (-9223372036854775808 ≤ q.1 ∧ q.1 ≤ 9223372036854775807) ∧ (-9223372036854775808 ≤ q.2 ∧ q.2 ≤ 9223372036854775807) := by
  obtain ⟨cs, rfl, hsz⟩ := okWide_struct hs hv
  obtain ⟨c0, c1, rfl⟩ := array2 (hsz.trans hc)
  obtain ⟨fuel, hf⟩ := h
  obtain ⟨xs, n, _, _, hl, hlen, hx⟩ := DataW.trod_struct hs hf
  obtain ⟨⟨o0, o1⟩, k0, k1⟩ := o
  match xs, hlen with
  | [y0, y1], _ =>
    have h0 := hx 0 n0 rfl
    have h1 := hx 1 n1 rfl
    simp only [o0, o1, k0, k1, Value.cells, List.drop_succ_cons, List.drop_zero, List.take_succ_cons, List.take_zero] at h0 h1
    obtain ⟨i0, e0, _, w0⟩ := DataW.trod_int u0 h0
    obtain ⟨i1, e1, _, w1⟩ := DataW.trod_int u1 h1
    simp only [List.cons.injEq, and_true] at e0 e1
    subst e0 e1
    exact ⟨(i0, i1), rfl, wf_i64 w0, wf_i64 w1⟩
theorem marks_open {H : Type} {enc : TypeId × Value → H} {P : Program} {t e : TypeId} {f0 f1 : Field} (ht : P.underlying t = some (.slice e)) (he : P.underlying e = some (.struct #[f0, f1])) (ce : P.cellsOf e = 2)
    (o : (f0.offset = 0 ∧ f1.offset = 1) ∧ P.cellsOf f0.type = 1 ∧ P.cellsOf f1.type = 1)
    (u0 : P.underlying f0.type = some (.int .i64)) (u1 : P.underlying f1.type = some (.int .i64)) {W : World} {a0 : Option Addr} {len cap : Nat} {d : DataW H} {p : List MemPlace}
    (h : DataW.Trod enc P W 0 (fun _ => true) true t (.slice a0 len cap) d p) : ∃ l : List MarkT, RdMk W (.slice a0 len cap) l ∧ (a0 = none → cap = 0) ∧ ∀ x ∈ l, (-9223372036854775808 ≤ x.1 ∧ x.1 ≤ 9223372036854775807) ∧ (-9223372036854775808 ≤ x.2 ∧ x.2 ≤ 9223372036854775807) := by
  obtain ⟨⟨o0, o1⟩, c0, c1⟩ := o
  obtain ⟨fuel, hf⟩ := h
  rcases Go.Deep.open_slice ht hf with ⟨hcs, _⟩ | ⟨x, n, c, m, _, D, Pl, hcs, _, hl, hm, hmm, _, hx⟩
  · simp [Value.cells] at hcs
    obtain ⟨rfl, rfl, rfl⟩ := hcs
    exact ⟨[], ⟨none, 0, rfl, by simp, by simp, by simp, fun h => absurd rfl h⟩, fun _ => rfl, by simp⟩
  · simp [Value.cells] at hcs
    obtain ⟨rfl, rfl, rfl⟩ := hcs
    have hmc : m = cap := by simpa using hmm
    have each : ∀ i, i < m → ∃ q : MarkT, ((-9223372036854775808 ≤ q.1 ∧ q.1 ≤ 9223372036854775807) ∧ (-9223372036854775808 ≤ q.2 ∧ q.2 ≤ 9223372036854775807)) ∧ W.cell? (x.add (i * 2)) = some (.int .i64 q.1) ∧ W.cell? (x.add (i * 2 + 1)) = some (.int .i64 q.2) := by
      intro i hi
      obtain ⟨cs', h1, h2⟩ := hx i hi
      rw [ce] at h1
      obtain ⟨_, hlen, hcell⟩ := World.cells?_some h1
      obtain ⟨xs, k, hk, hxy, _, hxl, hf⟩ := DataW.trod_struct he h2
      match xs, hxl, cs', hlen with
      | [y0, y1], _, [v0, v1], _ =>
        have g0 := hf 0 f0 rfl
        have g1 := hf 1 f1 rfl
        simp [o0, o1, c0, c1] at g0 g1
        obtain ⟨z0, e0, _, w0⟩ := DataW.trod_int u0 g0
        obtain ⟨z1, e1, _, w1⟩ := DataW.trod_int u1 g1
        simp only [List.cons.injEq, and_true] at e0 e1
        subst e0; subst e1
        have k0 := hcell 0 (by omega)
        have k1 := hcell 1 (by omega)
        rw [Go.Deep.add_add] at k0 k1
        exact ⟨(z0, z1), ⟨wf_i64 w0, wf_i64 w1⟩, by simpa using k0, by simpa using k1⟩
    obtain ⟨q, hq⟩ := Go.Deep.choose_lt each
    refine ⟨(List.range len).map q, ⟨some x, cap, by simp, by simp; simp only [maxLen] at hm; omega, by simp; omega, by simp only [maxLen] at hm; omega, fun hne => ?_⟩, (fun h => by cases h), fun y hy => ?_⟩
    · have hpos : 0 < len := by
        rcases Nat.eq_zero_or_pos len with h0 | h0
        · exfalso; apply hne; rw [h0]; simp
        · exact h0
      obtain ⟨b, off, spot⟩ := x
      have hspot : spot = none := by simpa [Addr.add] using World.cell?_spot (hq 0 (by omega)).2.1
      subst hspot
      refine ⟨b, off, rfl, fun i hi j u hu => ?_⟩
      have hi' : i < len := by simpa using hi
      have := (hq i (by omega)).2
      simp only [Addr.add_lit] at this
      simp only [List.getElem_map, List.getElem_range] at hu
      match j, hu with
      | 0, hu => simp [cellsM] at hu; subst hu; exact this.1
      | 1, hu => simp [cellsM] at hu; subst hu; exact this.2
      | (j + 2), hu => simp [cellsM] at hu
    · obtain ⟨i, hi, rfl⟩ := List.mem_map.1 hy
      exact (hq i (by have := List.mem_range.1 hi; omega)).1
end Go.Proofs.YtjnejbeeoepdnaaDoor
namespace Go.Proofs.YtjnejbeeoepdnaaDoor
open Go.ChangeShapes Go.WideShapes Go.ChangeAt Go.RowKit Go.Deep

theorem feed_open {H : Type} {enc : TypeId × Value → H} {P : Program} {W : World} {base : Nat} {T : TypeId} {n0 n1 : Field} {v : Value} {d : DataW H} {p : List MemPlace} (hs : P.underlying T = some (.struct #[n0, n1])) (hc : P.cellsOf T = 2)
    (o : (n0.offset = 0 ∧ n1.offset = 1) ∧ P.cellsOf n0.type = 1 ∧ P.cellsOf n1.type = 1) (u0 : P.underlying n0.type = some .string) (u1 : P.underlying n1.type = some (.int .i64))
    (hv : Value.okWide P W .any base T v) (h : DataW.Trod enc P W 0 (fun _ => true) true T v d p) : ∃ (t : List UInt8) (n : Int), v = .agg #[str t, .int .i64 n] ∧ t.length ≤ 9223372036854775807 ∧ (-9223372036854775808 ≤ n ∧ n ≤ 9223372036854775807) := by
  obtain ⟨cs, rfl, hsz⟩ := okWide_struct hs hv
  obtain ⟨c0, c1, rfl⟩ := array2 (hsz.trans hc)
  obtain ⟨fuel, hf⟩ := h
  obtain ⟨xs, n, _, _, hl, hlen, hx⟩ := DataW.trod_struct hs hf
  obtain ⟨⟨o0, o1⟩, k0, k1⟩ := o
  match xs, hlen with
  | [y0, y1], _ =>
    have h0 := hx 0 n0 rfl
    have h1 := hx 1 n1 rfl
    simp only [o0, o1, k0, k1, Value.cells, List.drop_succ_cons, List.drop_zero, List.take_succ_cons, List.take_zero] at h0 h1
    obtain ⟨i0, e0, _, w0⟩ := DataW.trod_string u0 h0
    obtain ⟨i1, e1, _, w1⟩ := DataW.trod_int u1 h1
    simp only [List.cons.injEq, and_true] at e0 e1
    subst e0 e1
    have g0 : i0.data.toList.length ≤ 9223372036854775807 := by
      have e : i0.data.toList.length = i0.size := by cases i0; rfl
      rw [e]; unfold maxLen at w0; exact w0
    exact ⟨i0.data.toList, i1, by cases i0; rfl, g0, wf_i64 w1⟩
theorem array5 {α : Type} {cs : Array α} (h : cs.size = 5) : ∃ c0 c1 c2 c3 c4, cs = #[c0, c1, c2, c3, c4] := by
  obtain ⟨l⟩ := cs
  match l, h with
  | [c0, c1, c2, c3, c4], _ => exact ⟨c0, c1, c2, c3, c4, rfl⟩
theorem str_lens (i : ByteArray) (h : i.size ≤ maxLen) : i.data.toList.length ≤ 9223372036854775807 := by
  have e : i.data.toList.length = i.size := by cases i; rfl
  rw [e]; unfold maxLen at h; exact h
theorem entry_open {H : Type} {enc : TypeId × Value → H} {P : Program} {W : World} {base : Nat} {T : TypeId} {n0 n1 n2 n3 n4 : Field} {v : Value} {d : DataW H} {p : List MemPlace} (hs : P.underlying T = some (.struct #[n0, n1, n2, n3, n4])) (hc : P.cellsOf T = 5)
    (o : (n0.offset = 0 ∧ n1.offset = 1 ∧ n2.offset = 2 ∧ n3.offset = 3 ∧ n4.offset = 4) ∧ P.cellsOf n0.type = 1 ∧ P.cellsOf n1.type = 1 ∧ P.cellsOf n2.type = 1 ∧ P.cellsOf n3.type = 1 ∧ P.cellsOf n4.type = 1)
    (u0 : P.underlying n0.type = some (.int .i64)) (u1 : P.underlying n1.type = some .string) (u2 : P.underlying n2.type = some .string) (u3 : P.underlying n3.type = some .string) (u4 : P.underlying n4.type = some (.int .i64))
    (hv : Value.okWide P W .any base T v) (h : DataW.Trod enc P W 0 (fun _ => true) true T v d p) :
    ∃ (m : Int) (g t l : List UInt8) (n : Int), v = .agg #[.int .i64 m, str g, str t, str l, .int .i64 n] ∧ g.length ≤ 9223372036854775807 ∧ t.length ≤ 9223372036854775807 ∧ l.length ≤ 9223372036854775807 := by
  obtain ⟨cs, rfl, hsz⟩ := okWide_struct hs hv
  obtain ⟨c0, c1, c2, c3, c4, rfl⟩ := array5 (hsz.trans hc)
  obtain ⟨fuel, hf⟩ := h
  obtain ⟨xs, n, _, _, hl, hlen, hx⟩ := DataW.trod_struct hs hf
  obtain ⟨⟨o0, o1, o2, o3, o4⟩, k0, k1, k2, k3, k4⟩ := o
  match xs, hlen with
  | [y0, y1, y2, y3, y4], _ =>
    have h0 := hx 0 n0 rfl
    have h1 := hx 1 n1 rfl
    have h2 := hx 2 n2 rfl
    have h3 := hx 3 n3 rfl
    have h4 := hx 4 n4 rfl
    simp only [o0, o1, o2, o3, o4, k0, k1, k2, k3, k4, Value.cells, List.drop_succ_cons, List.drop_zero, List.take_succ_cons, List.take_zero] at h0 h1 h2 h3 h4
    obtain ⟨i0, e0, _, w0⟩ := DataW.trod_int u0 h0
    obtain ⟨i1, e1, _, w1⟩ := DataW.trod_string u1 h1
    obtain ⟨i2, e2, _, w2⟩ := DataW.trod_string u2 h2
    obtain ⟨i3, e3, _, w3⟩ := DataW.trod_string u3 h3
    obtain ⟨i4, e4, _, w4⟩ := DataW.trod_int u4 h4
    simp only [List.cons.injEq, and_true] at e0 e1 e2 e3 e4
    subst e0 e1 e2 e3 e4
    exact ⟨i0, i1.data.toList, i2.data.toList, i3.data.toList, i4, by cases i1; cases i2; cases i3; rfl, str_lens _ w1, str_lens _ w2, str_lens _ w3⟩
end Go.Proofs.YtjnejbeeoepdnaaDoor
