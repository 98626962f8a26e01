import Derived.Test.YtegblhmcfemfgaaGreatDoorRwObj
import Derived.Test.YtegblhmcfemfgaaGreatDoorMkMayP
import Derived.Test.YtegblhmcfemfgaaGreatDoorMkMore
import Derived.Deep.AppendLies
import Derived.Test.YtegblhmcfemfgaaGreatDoorRwIf
namespace Go.Proofs.YtegblhmcfemfgaaGreatDoor
open Go.RowKit
theorem infoJk : (Tryz.prog.info? 72).map (fun i => (i.zero, i.size, i.bytes)) = some (some (.agg #[.int .i64 0, .int .i64 0, str [], .slice none 0 0, .slice none 0 0]), 5, 80) := by kernel_rfl
def markJ (m : MarkT) : JV := .mk 6 0 [] [.mk 4 m.1 [] [] [], .mk 4 m.2 [] [] []] []
def marksN : List UInt8 := [109, 97, 114, 107, 115]
def mksJ (l : List MarkT) : JV := .mk 7 0 [] [] [(marksN, .mk 6 0 [] (l.map markJ) [])]
theorem txMarks : txF marksN = true := by kernel_rfl
theorem txNil : txF [] = true := by kernel_rfl
theorem markJ_may {m : MarkT} (h : mayB m = true) (d : Nat) (hd : 2 ≤ d) : mayV (markJ m) d = true := by
 obtain ⟨e, rfl⟩ : ∃ e, d = e + 2 := ⟨d - 2, by omega⟩
 unfold mayB at h
 have h := of_decide_eq_true h
 obtain ⟨a, b⟩ := m
 dsimp only at h
 simp [markJ, mayV, fitV, mayL, mayM, txNil]
 omega
theorem marks_mayL : ∀ {l : List MarkT}, (∀ m ∈ l, mayB m = true) → ∀ d, 2 ≤ d → mayL (l.map markJ) d = true
 | [], _, d, _ => rfl
 | m :: t, h, d, hd => by
   rw [List.map_cons, mayL, markJ_may (h m (by simp)) d hd, marks_mayL (fun x hx => h x (by simp [hx])) d hd]
   rfl
theorem mksJ_may {l : List MarkT} (h : ∀ m ∈ l, mayB m = true) : mayV (mksJ l) 64 = true := by
 have := marks_mayL h 62 (by omega)
 simp [mksJ, mayV, fitV, mayL, mayM, txNil, txMarks, aftB, this]
theorem RdFB.lit {F : Nat → Prop} {sz : Nat} {w : World} {b n : Nat} {T : TypeId} (L : List (List Value)) (hr : ∀ r ∈ L, r.length = sz) (h : w.heap[b]? = some (.cells L.flatten.toArray T (0, 0))) (hn : n = L.length) (hl : L.length ≤ 9223372036854775807) (hF : F b) : RdFB F sz w (.slice (some ⟨b, 0, none⟩) n n) L := by
 obtain ⟨a, cap, hv, h1, h2, h3, h4⟩ := RdF.lit (w := w) (b := b) (n := n) (T := T) L hr h hn hl
 refine ⟨a, cap, hv, h1, h2, h3, fun hne => ?_⟩
 obtain ⟨b', off, ha, hc⟩ := h4 hne
 simp only [Value.slice.injEq] at hv
 rw [ha] at hv
 simp only [Option.some.injEq, Addr.mk.injEq, and_true] at hv
 obtain ⟨⟨rfl, rfl⟩, _⟩ := hv
 exact ⟨b, 0, ha, hF, hc⟩
theorem plainK (W : World) (F : Nat → Prop) (k n : Int) (s : List UInt8) : RdJ W F (.mk k n s [] []) [.int .i64 k, .int .i64 n, str s, .slice none 0 0, .slice none 0 0] :=
 RdJ.mk0 (v := .mk k n s [] []) (RdFB.nil _ _ _) (by unfold RdL; trivial) (RdFB.nil _ _ _) (by unfold RdM; trivial)
theorem markJ_lies {W : World} {F : Nat → Prop} {b : Nat} {T : TypeId} (m : MarkT) (h : W.heap[b]? = some (.cells #[.int .i64 4, .int .i64 m.1, str [], .slice none 0 0, .slice none 0 0, .int .i64 4, .int .i64 m.2, str [], .slice none 0 0, .slice none 0 0] T (0, 0))) (hF : F b) :
 RdJ W F (markJ m) [.int .i64 6, .int .i64 0, str [], .slice (some ⟨b, 0, none⟩) 2 2, .slice none 0 0] := by
 refine RdJ.mk0 (v := markJ m) (rl := [[.int .i64 4, .int .i64 m.1, str [], .slice none 0 0, .slice none 0 0], [.int .i64 4, .int .i64 m.2, str [], .slice none 0 0, .slice none 0 0]]) (RdFB.lit _ (by simp) h rfl (by simp) hF) ?_ (RdFB.nil _ _ _) (by unfold markJ; unfold RdM; trivial)
 show RdL W F [.mk 4 m.1 [] [] [], .mk 4 m.2 [] [] []] _
 unfold RdL
 refine ⟨plainK _ _ _ _ _, ?_⟩
 unfold RdL
 refine ⟨plainK _ _ _ _ _, ?_⟩
 unfold RdL
 trivial
def RowJ (base : Nat) (acc : List JV) (vl : Value) (W : World) : Prop :=
 ∃ rows, W.ownsRow base 72 5 vl acc.length rows.flatten ∧ RdL W (fun i => base ≤ i ∧ i < W.heap.size ∧ vl.ownBlock ≠ some i) acc rows
theorem RowJ.add {base B0 : Nat} {acc : List JV} {vl : Value} {rows : List (List Value)} {W w4 : World} {g cap : Nat} {v : JV} {cs : List Value} {ob : Obj} (_ : W.ownsRow base 72 5 vl acc.length rows.flatten) (h4 : RdL W (fun i => base ≤ i ∧ i < W.heap.size ∧ vl.ownBlock ≠ some i) acc rows) (hB : base ≤ B0)
 (hvb : ∀ k, vl.ownBlock = some k → k < B0) (hv : RdJ W (fun i => B0 ≤ i) v cs)
 (ho : w4.ownsRow base 72 5 (.slice (some ⟨g, 0, none⟩) (acc.length + 1) cap) (acc.length + 1) (rows.flatten ++ cs)) (hg : (W.alloc ob).grownBy w4 vl.ownBlock) (hl : vl.ownBlock = some g ∨ g = W.heap.size + 1) :
 RowJ base (acc ++ [v]) (.slice (some ⟨g, 0, none⟩) (acc.length + 1) cap) w4 ∧ Frm (fun i => vl.ownBlock = some i) W w4 := by
 have f1 : Frm (fun i => vl.ownBlock = some i) W w4 := (Frm.of_below (below_alloc W ob)).trans (Frm.of_grown hg (fun k hk => hk)) (fun _ _ h => h)
 refine ⟨⟨rows ++ [cs], ?_, RdL.snoc ?_ ?_⟩, f1⟩
 · rw [List.flatten_append, List.length_append]
   simp only [List.flatten_cons, List.flatten_nil, List.append_nil, List.length_singleton]
   exact ho
 · refine RdJ.mono (F := fun i => B0 ≤ i ∧ i < W.heap.size) ?_ (fun i hi hF => ⟨by omega, hi, fun e => ?_⟩)
   · exact (hv.mono (G := fun i => B0 ≤ i ∧ i < W.heap.size) (fun i hi hF => ⟨hF, hi⟩)).frm f1 (fun i hi e => by have := hvb i e; omega)
   simp only [Value.ownBlock, Option.some.injEq] at e
   subst e
   rcases hl with h | h
   · have := hvb _ h; omega
   omega
 have := h4.frm f1 (fun i hi e => hi.2.2 e)
 refine this.mono (fun i hi hF => ⟨hF.1, hi, fun e => ?_⟩)
 simp only [Value.ownBlock, Option.some.injEq] at e
 subst e
 rcases hl with h | h
 · exact hF.2.2 h
 omega
theorem RowJ.rd {base : Nat} {acc : List JV} {vl : Value} {W : World} (h : RowJ base acc vl W) : ∃ a c rows, vl = .slice a acc.length c ∧ RdFB (fun _ => True) 5 W (.slice a acc.length c) rows ∧ RdL W (fun _ => True) acc rows := by
 obtain ⟨rows, h3, h4⟩ := h
 obtain ⟨r1, r2⟩ := RdL.rows h4
 have hf : ∃ a c, vl = .slice a acc.length c := by
  rcases h3.2 with ⟨rfl, h0⟩ | ⟨g, cap, _, rfl, _⟩
  · exact ⟨none, 0, by rw [h0]⟩
  exact ⟨_, cap, rfl⟩
 obtain ⟨a, c, rfl⟩ := hf
 refine ⟨a, c, rows, rfl, ?_, h4.mono (fun _ _ _ => trivial)⟩
 rw [← r1] at h3 ⊢
 exact RdFB.of_row r2 h3 (fun _ _ => trivial)
theorem itoa_short {n : Int} (h : -9223372036854775808 ≤ n ∧ n ≤ 9223372036854775807) : (Lib.itoa n).length ≤ 21 := by
 unfold Lib.itoa
 have hd : ∀ k u : Nat, u < 10 ^ k → 1 ≤ k → Lib.nDigits u ≤ k := by
  intro k
  induction k with
  | zero => intro u _ h; omega
  | succ k ih =>
   intro u hu _
   by_cases hs : u < 10
   · rw [Lib.nDigits_small hs]; omega
   rw [Lib.nDigits_big hs]
   have hk : 1 ≤ k := by
    rcases k with _ | k
    · simp at hu; omega
    omega
   have := ih (u / 10) (by rw [Nat.pow_succ] at hu; omega) hk
   omega
 split
 · rw [List.length_cons, Lib.decDigits_length]
   have := hd 20 n.natAbs (by omega) (by omega)
   omega
 rw [Lib.decDigits_length]
 have := hd 20 n.toNat (by omega) (by omega)
 omega
theorem marks_len : ∀ {l : List MarkT}, (∀ m ∈ l, mayB m = true) → (prT (l.map markJ)).length ≤ 50 * l.length
 | [], _ => by simp [prT]
 | m :: t, h => by
   have ih := marks_len (l := t) (fun x hx => h x (by simp [hx]))
   have hm := h m (by simp)
   unfold mayB at hm
   have hm := of_decide_eq_true hm
   have h1 := itoa_short (n := m.1) (by omega)
   have h2 := itoa_short (n := m.2) (by omega)
   rw [List.map_cons, prT]
   have e : prV (markJ m) = 91 :: ((prT [.mk 4 m.1 [] [] [], .mk 4 m.2 [] [] []]).drop 1 ++ [93]) := rfl
   have e1 : prV (.mk 4 m.1 [] [] []) = Lib.itoa m.1 := rfl
   have e2 : prV (.mk 4 m.2 [] [] []) = Lib.itoa m.2 := rfl
   rw [e]
   simp [prT, e1, e2]
   omega
theorem mksJ_len {l : List MarkT} (h : MayL l) : (prV (mksJ l)).length ≤ 1000 := by
 have h1 := marks_len (stair_may h.1)
 have h2 := h.2
 have e : prV (mksJ l) = 123 :: ((prU [(marksN, .mk 6 0 [] (l.map markJ) [])]).drop 1 ++ [125]) := rfl
 have e1 : prV (.mk 6 0 [] (l.map markJ) []) = 91 :: ((prT (l.map markJ)).drop 1 ++ [93]) := rfl
 have e2 : (quo marksN).length = 7 := by decide
 rw [e]
 simp [prU, e1, e2]
 omega
def PmI (w : World) (l : List MarkT) (k : Nat) (vl : Value) (W : World) : Prop := Below w.heap.size w W ∧ RowJ w.heap.size ((l.take k).map markJ) vl W
set_option maxRecDepth 100000 in
set_option maxHeartbeats 4000000 in
theorem putMarks_yes (v : Value) (l : List MarkT) (w : World) (hv : RdMk w v l) (hm : MayL l) (ht : TabJ w.heap.size w) :
 Calls Tryz.prog 11 #[v] w fun e w' => e = .returned (.tuple #[str (prV (mksJ l)), .int .i64 0]) ∧ Below w.heap.size w w' := by
 obtain ⟨i0, hi, hz0, hz1, hz2⟩ := info_parts infoJk
 have HT := Lib.hid ht
 have HV := Lib.hid hv
 have HM := Lib.hid hm
 have C1 := pmay_any v l w hv
 rw [mayL_yes hm] at C1
 have C1 := Lib.hid C1
 obtain ⟨av, cv, rfl, hlen⟩ := hv.form
 have h8 := hm.2
 clear ht hv hm
 go_enter Tryz.func11, Tryz.ntmps11
 go_wp2_with fail
 refine C1.out.mono ?_
 rintro e w1 ⟨rfl, hb1⟩
 have HB1 := Lib.hid hb1
 clear hb1 C1
 go_wp2_with fail
 go_loopw [4, 12] (fun v4 v12 wr => ∃ k : Nat, k ≤ l.length ∧ v12 = .int .i64 (k : Int) ∧ Hid (PmI w l k v4 wr)) (fun _ v12 _ => l.length - (intOf v12).toNat)
 case atStart => exact ⟨0, Nat.zero_le _, rfl, Lib.hid ⟨HB1.out, [], World.ownsRow_nil _ _ _ _, by simp [RdL]⟩⟩
 case round =>
  obtain ⟨v4, hv4⟩ : ∃ v4, v4 = u4 := ⟨_, rfl⟩
  subst hv4
  obtain ⟨k, hk, rfl, HI⟩ := hrel
  by_cases hlt : k < l.length
  · have n1 : (k : Int) < (l.length : Int) := by omega
    have n3 : (0 : Int) ≤ (k : Int) := by omega
    obtain ⟨b, off, rfl, c0, c1⟩ := (HV.out.up HI.out.1).get hlt
    obtain ⟨m, hmm⟩ : ∃ m, m = l[k] := ⟨_, rfl⟩
    rw [← hmm] at c0 c1
    have HTK : Hid ((l.take (k + 1)).map markJ = (l.take k).map markJ ++ [markJ m]) := Lib.hid (by rw [List.take_add_one, List.getElem?_eq_getElem hlt, Option.toList_some, List.map_append, hmm]; rfl)
    obtain ⟨acc, hacc⟩ : ∃ acc, acc = (l.take k).map markJ := ⟨_, rfl⟩
    have hal : acc.length = k := by rw [hacc]; simp; omega
    have HIB := Lib.hid HI.out.1
    have HIR := HI.out.2
    rw [← hacc] at HTK HIR
    obtain ⟨rows, ho0, hr0⟩ := HIR
    clear hacc hmm HI
    obtain ⟨W1, hW1⟩ : ∃ W1, W1 = (wr.alloc (.cells #[.int .i64 m.1, .int .i64 m.2] 67)).alloc (.cells #[.int .i64 4, .int .i64 m.1, .string ⟨#[]⟩, .slice none 0 0, .slice none 0 0, .int .i64 4, .int .i64 m.2, .string ⟨#[]⟩, .slice none 0 0, .slice none 0 0] 72) := ⟨_, rfl⟩
    have hb1 : Below wr.heap.size wr W1 := by rw [hW1]; exact below_two _ _ _
    have hbx : W1.heap[wr.heap.size + 1]? = some (.cells #[.int .i64 4, .int .i64 m.1, str [], .slice none 0 0, .slice none 0 0, .int .i64 4, .int .i64 m.2, str [], .slice none 0 0, .slice none 0 0] 72 (0, 0)) := by
     rw [hW1]
     have := heap_alloc_new (wr.alloc (.cells #[.int .i64 m.1, .int .i64 m.2] 67)) (.cells #[.int .i64 4, .int .i64 m.1, .string ⟨#[]⟩, .slice none 0 0, .slice none 0 0, .int .i64 4, .int .i64 m.2, .string ⟨#[]⟩, .slice none 0 0, .slice none 0 0] 72)
     simpa using this
    have hs1 : W1.heap.size = wr.heap.size + 2 := by rw [hW1]; simp
    have HR : Hid (W1.ownsRow w.heap.size 72 5 v4 acc.length rows.flatten ∧ RdL W1 (fun i => w.heap.size ≤ i ∧ i < W1.heap.size ∧ v4.ownBlock ≠ some i) acc rows ∧ ∀ j, v4.ownBlock = some j → j < wr.heap.size) := Lib.hid ⟨owns_below ho0 hb1 (Nat.le_refl _), (hr0.up hb1).mono (fun i hi hF => ⟨hF.1, hi, hF.2.2⟩), fun j hj => (ho0.lt j hj).2⟩
    have HX := Lib.hid (And.intro hbx (And.intro hs1 hb1))
    have hnew : (W1.alloc (.cells #[.int .i64 6, .int .i64 0, .string ⟨#[]⟩, .slice (some ⟨wr.heap.size + 1, 0, none⟩) 2 2, .slice none 0 0] 72)).heap[wr.heap.size + 1 + 1]? = some (.cells #[.int .i64 6, .int .i64 0, str [], .slice (some ⟨wr.heap.size + 1, 0, none⟩) 2 2, .slice none 0 0] 72 (0, 0)) := by
     have := heap_alloc_new W1 (.cells #[.int .i64 6, .int .i64 0, .string ⟨#[]⟩, .slice (some ⟨wr.heap.size + 1, 0, none⟩) 2 2, .slice none 0 0] 72)
     rw [hs1] at this
     exact this
    have HNW := Lib.hid hnew
    have hk8 : k ≤ 8 := by omega
    have hal8 : acc.length ≤ 8 := by omega
    have HAL := Lib.hid hal
    clear ho0 hr0 hb1 hbx hs1 hal hnew
    go_wp2_with (at_builtin; refine hold ?_)
    rw [← hW1]
    clear hW1
    intro _
    rw [← HAL.out]
    refine wpList_append_lies _ (by rfl) _ _ 69 (by rfl) w.heap.size 72 i0 _ 5 80 Tryz.underlying69 hi hz0 hz1 hz2 rfl (by decide) v4 acc.length rows.flatten (by rfl) (owns_frm (F := fun _ => False) HR.out.1 (Frm.of_below (below_alloc W1 _)) (fun _ _ h => h)) ⟨wr.heap.size + 1 + 1, 0, none⟩ 1 1 [.int .i64 6, .int .i64 0, str [], .slice (some ⟨wr.heap.size + 1, 0, none⟩) 2 2, .slice none 0 0] (by rfl) (by rfl) (World.news_of_block HNW.out) (by simp [Value.oneCell']) (by decide) (by simp only [maxLen]; omega) (by omega) (by have := HIB.out.size; have := HX.out.2.2.size; simp; omega) _ rfl ?_
    intro g cap w4 ho hg hl4 _
    have hadd := RowJ.add HR.out.1 HR.out.2.1 (B0 := wr.heap.size + 1) (by have := HIB.out.size; omega) (fun j hj => Nat.lt_succ_of_lt (HR.out.2.2 j hj)) (markJ_lies (F := fun i => wr.heap.size + 1 ≤ i) m HX.out.1 (Nat.le_refl _)) ho hg (by simpa using hl4)
    have HN : Hid (PmI w l (k + 1) (.slice (some ⟨g, 0, none⟩) (acc.length + 1) cap) w4) := Lib.hid ⟨(HIB.out.trans (HX.out.2.2.mono HIB.out.size)).trans (hadd.2.below (Nat.le_trans HIB.out.size HX.out.2.2.size) (fun j hj => (HR.out.1.lt j hj).1)), by rw [HTK.out]; exact hadd.1⟩
    clear hadd ho hg hl4
    go_wp2_with fail
    go_roundw
    case rel => exact ⟨k + 1, by omega, by first | go_num | (rw [HAL.out]; go_num), HN⟩
    case measure => (have := HAL.out; simp [intOf]; omega)
  obtain rfl : k = l.length := by omega
  have n2 : ¬ (l.length : Int) < (l.length : Int) := by omega
  have HR4 := HI.out.2
  rw [List.take_length] at HR4
  obtain ⟨a4, c4, rows4, e4, hrf, hrl⟩ := HR4.rd
  rw [List.length_map] at e4 hrf
  subst e4
  have HRW := Lib.hid (And.intro hrf hrl)
  have HWB := Lib.hid HI.out.1
  have CL : Hid (Calls Tryz.prog 32 #[str [109, 97, 114, 107, 115], .slice a4 l.length c4] wr fun e w' => e = .returned (.agg #[str [109, 97, 114, 107, 115], .int .i64 6, .int .i64 0, str [], .slice a4 l.length c4, .slice none 0 0]) ∧ Below wr.heap.size wr w') := Lib.hid (bList_any _ _ _ _ _)
  clear HR4 hrf hrl HI
  go_wp2_with fail
  refine CL.out.mono ?_
  rintro e w2 ⟨rfl, hb2⟩
  obtain ⟨W3, hW3⟩ : ∃ W3, W3 = w2.alloc (.cells #[str [109, 97, 114, 107, 115], .int .i64 6, .int .i64 0, str [], .slice a4 l.length c4, .slice none 0 0] 74) := ⟨_, rfl⟩
  have hb3 : Below wr.heap.size wr W3 := by rw [hW3]; exact hb2.trans ((below_alloc _ _).mono hb2.size)
  have hbx : W3.heap[w2.heap.size]? = some (.cells #[str [109, 97, 114, 107, 115], .int .i64 6, .int .i64 0, str [], .slice a4 l.length c4, .slice none 0 0] 74 (0, 0)) := by rw [hW3]; exact heap_alloc_new _ _
  have hB3 := HWB.out.trans (hb3.mono HWB.out.size)
  have CO := object_yes (F := fun _ => True) (w := W3) (am := some ⟨w2.heap.size, 0, none⟩) (lm := 1) (cm := 1) (ms := [(marksN, .mk 6 0 [] (l.map markJ) [])]) (rows := [[str [109, 97, 114, 107, 115], .int .i64 6, .int .i64 0, str [], .slice a4 l.length c4, .slice none 0 0]])
   (RdFB.lit _ (by simp) hbx rfl (by simp) trivial) (by
     unfold RdM
     refine ⟨⟨_, rfl, RdJ.mk0 (v := .mk 6 0 [] (l.map markJ) []) (HRW.out.1.frm (Frm.of_below (F := fun _ => False) hb3) (fun _ _ e => e)) (HRW.out.2.up hb3) (RdFB.nil _ _ _) (by unfold RdM; trivial)⟩, ?_⟩
     unfold RdM
     trivial) (mksJ_may (stair_may HM.out.1)) (by have := mksJ_len HM.out; unfold mksJ at this; omega) (fun w' h' => HT.out w' (hB3.trans (h'.mono hB3.size)))
  have CO := Lib.hid CO
  have HB3 := Lib.hid hB3
  clear hb2 hb3 hbx hB3 CL
  go_wp2_with fail
  rw [← hW3]
  clear hW3
  refine CO.out.mono ?_
  rintro e w5 ⟨rfl, hb5⟩
  have HX := Lib.hid (HB3.out.trans (hb5.mono HB3.out.size))
  clear hb5 CO
  go_wp2_with fail
  go_ret2
  exact ⟨rfl, HX.out⟩
end Go.Proofs.YtegblhmcfemfgaaGreatDoor
set_option maxRecDepth 100000
set_option maxHeartbeats 4000000
namespace Go.Proofs.YtegblhmcfemfgaaGreatDoor
open Go.RowKit
def mksMs (l : List MarkT) : List MemT := [(marksN, .mk 6 0 [] (l.map markJ) [])]
def putMksR (l : List MarkT) : List UInt8 × Int := if MayL l then objR (mksMs l) else ([], 4)
theorem mks_obj {l : List MarkT} (h : MayL l) : objR (mksMs l) = (prV (mksJ l), 0) := by
 have := mksJ_may (stair_may h.1)
 unfold objR mksMs
 unfold mksJ at this ⊢
 rw [if_pos this]
theorem putMks_any (v : Value) (l : List MarkT) (w : World) (hv : RdMk w v l) (ht : TabJ w.heap.size w) :
 Calls Tryz.prog 11 #[v] w fun e w' => e = .returned (.tuple #[str (putMksR l).1, .int .i64 (putMksR l).2]) ∧ Below w.heap.size w w' := by
 by_cases hm : MayL l
 · have := putMarks_yes v l w hv hm ht
   unfold putMksR
   rw [if_pos hm, mks_obj hm]
   exact this
 unfold putMksR
 rw [if_neg hm]
 have C1 := pmay_any v l w hv
 rw [mayL_no hm] at C1
 have C1 := Lib.hid C1
 obtain ⟨av, cv, rfl, _⟩ := hv.form
 clear hv hm ht
 go_enter Tryz.func11, Tryz.ntmps11
 go_wp2_with fail
 refine C1.out.mono ?_
 rintro e w1 ⟨rfl, hb1⟩
 have HX := Lib.hid hb1
 clear hb1 C1
 go_wp2_with fail
 go_ret2
 exact ⟨rfl, HX.out⟩
theorem ifMks_any (s : List UInt8) (v : Value) (l : List MarkT) (w : World) (hv : RdMk w v l) (ht : TabJ w.heap.size w) :
 Calls Tryz.prog 41 #[str s, v, .func (.func 11) #[] #[]] w fun e w' => ∃ u, e = .returned (.tuple #[u, .bool (okR (putMksR l) s)]) ∧ RdMk w' u (if okR (putMksR l) s = true then l else []) ∧ Below w.heap.size w w' := by
 have CP := putMks_any v l w hv ht
 unfold okR
 obtain ⟨R1, hR1⟩ : ∃ R1, R1 = (putMksR l).1 := ⟨_, rfl⟩
 obtain ⟨R2, hR2⟩ : ∃ R2, R2 = (putMksR l).2 := ⟨_, rfl⟩
 rw [← hR1, ← hR2] at CP
 rw [← hR1, ← hR2]
 have CP := Lib.hid CP
 have HV := Lib.hid hv
 obtain ⟨av, cv, rfl, _⟩ := hv.form
 clear hR1 hR2 ht hv
 cases q1 : (R2 == 0) with
 | false =>
  go_enter Tryz.func41, Tryz.ntmps41
  go_wp2_with fail
  refine CP.out.mono ?_
  rintro e w2 ⟨rfl, hb2⟩
  have HX := Lib.hid hb2
  clear hb2 CP
  go_wp2_with fail
  go_ret2
  exact ⟨_, rfl, RdMk.nil _, HX.out⟩
 | true =>
  cases q2 : (R1 == s) with
  | false =>
   go_enter Tryz.func41, Tryz.ntmps41
   go_wp2_with fail
   refine CP.out.mono ?_
   rintro e w2 ⟨rfl, hb2⟩
   have HX := Lib.hid hb2
   clear hb2 CP
   go_wp2_with fail
   go_ret2
   exact ⟨_, rfl, RdMk.nil _, HX.out⟩
  | true =>
   go_enter Tryz.func41, Tryz.ntmps41
   go_wp2_with fail
   refine CP.out.mono ?_
   rintro e w2 ⟨rfl, hb2⟩
   have HX := Lib.hid (And.intro hb2 (HV.out.up hb2))
   clear hb2 CP
   go_wp2_with fail
   go_ret2
   exact ⟨_, rfl, HX.out.2, HX.out.1⟩
end Go.Proofs.YtegblhmcfemfgaaGreatDoor
