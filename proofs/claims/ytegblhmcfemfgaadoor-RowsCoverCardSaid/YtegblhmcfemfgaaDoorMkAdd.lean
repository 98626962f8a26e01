/- rows.Add. -/
import Derived.Test.YtegblhmcfemfgaaDoorMkMayP
import Derived.Test.YtegblhmcfemfgaaDoorMkMore
import Derived.Test.YtegblhmcfemfgaaDoorMkSort
import Derived.Lib.SmallJoins
namespace Go.Proofs.YtegblhmcfemfgaaDoor
open Go.RowKit

/-- A mark in its box, at the first new block; all that lay lies on. -/
structure BoxAt (w W : World) (m : MarkT) : Prop where
  hb : Below w.heap.size w W
  c0 : W.cell? ⟨w.heap.size, 0, none⟩ = some (.int .i64 m.1)
  c1 : W.cell? ⟨w.heap.size, 1, none⟩ = some (.int .i64 m.2)
  sz : w.heap.size + 1 ≤ W.heap.size
theorem BoxAt.new (w : World) (m : MarkT) (T : TypeId) : BoxAt w (w.alloc (.cells #[.int .i64 m.1, .int .i64 m.2] T)) m := ⟨below_alloc w _, by simp, by simp, by simp⟩
theorem BoxAt.low {w W W' : World} {m : MarkT} (h : BoxAt w W m) (hb : Below (w.heap.size + 1) W W') : BoxAt w W' m :=
  ⟨h.hb.trans (hb.mono (Nat.le_succ _)), (hb.cell (p := ⟨w.heap.size, 0, none⟩) (Nat.lt_succ_self _)).trans h.c0, (hb.cell (p := ⟨w.heap.size, 1, none⟩) (Nat.lt_succ_self _)).trans h.c1, Nat.le_trans h.sz hb.size⟩
theorem BoxAt.up {w W W' : World} {m : MarkT} (h : BoxAt w W m) (hb : Below W.heap.size W W') : BoxAt w W' m := h.low (hb.mono h.sz)
theorem BoxAt.alloc {w W : World} {m : MarkT} (h : BoxAt w W m) (o : Obj) : BoxAt w (W.alloc o) m := h.up (below_alloc W o)
theorem BoxAt.grown {w W W' : World} {m : MarkT} {row : Option Nat} (h : BoxAt w W m) (hg : W.grownBy W' row) (hk : ∀ k, row = some k → w.heap.size + 1 ≤ k) : BoxAt w W' m :=
  h.low ((Below.refl _ _).grown hg h.sz hk)
/-- What Add tells. -/
def AddE (w : World) (r : List MarkT × Int) (e : Ending) (w' : World) : Prop := ∃ u, e = .returned (.tuple #[u, .int .i64 r.2]) ∧ RdMk w' u r.1 ∧ (∀ c, u = .slice none 0 c → c = 0) ∧ FreshV w.heap.size u ∧ Below w.heap.size w w'
/-- Under way. -/
def AddAt (w W : World) (v : Value) (l : List MarkT) (m : MarkT) (k : Nat) : Prop :=
  W.ownsRow (w.heap.size + 1) 24 2 v (m :: leftM m (l.take k)).length ((m :: leftM m (l.take k)).map cellsM).flatten ∧ BoxAt w W m
theorem rdm_nil (w : World) : RdMk w (.slice none 0 0) [] := ⟨none, 0, rfl, by simp, by simp, by simp, fun h => absurd rfl h⟩
theorem left_len (m : MarkT) (l : List MarkT) (k : Nat) : (leftM m (l.take k)).length ≤ l.length := Nat.le_trans (leftM_len m _) (by rw [List.length_take]; omega)
set_option maxRecDepth 100000 in
set_option maxHeartbeats 4000000 in
theorem padd_any (v : Value) (l : List MarkT) (m : MarkT) (w : World) (hv : RdMk w v l) (hn : ∀ c, v = .slice none 0 c → c = 0) :
    Calls Tryd.prog 6 #[v, encM m] w (AddE w (addL l m)) := by
  obtain ⟨i0, hi, hz0, hz1, hz2⟩ := info_parts infoMk
  have HB0 := Lib.hid (BoxAt.new w m 24)
  have C1 := Lib.hid (pmay_any v l _ (hv.up HB0.out.hb))
  have HV := Lib.hid hv
  have HN := Lib.hid hn
  obtain ⟨R, hR⟩ : ∃ R, R = addL l m := ⟨_, rfl⟩
  rw [← hR]
  have HR := Lib.hid hR
  have eg : ∀ args w, (callFunc 23 args).run Tryd.prog w = .ok (.enter 23 args) w := enters_of Tryd.func23 (by kernel_rfl) rfl
  have EG := Lib.hid eg
  have CM := Lib.hid (fun W => may_any m W)
  have CD := Lib.hid (fun W x => dom_any m x W)
  have HLT := Lib.hid (fun k (h : k < l.length) => leftM_snoc (m := m) h)
  have HLL := Lib.hid (left_len m l)
  obtain ⟨a, b⟩ := m
  obtain ⟨r1, hr1⟩ : ∃ r, r = mayLk l := ⟨_, rfl⟩
  obtain ⟨r2, hr2⟩ : ∃ r, r = mayB (a, b) := ⟨_, rfl⟩
  rw [← hr1] at C1
  rw [← hr2] at CM
  have HR1 := Lib.hid hr1
  have HR2 := Lib.hid hr2
  clear hv hn hR eg hr1 hr2
  go_enter Tryd.func6, Tryd.ntmps6
  go_wp2_with fail
  refine C1.out.mono ?_
  rintro e w1 ⟨rfl, hb1⟩
  have H1 := Lib.hid (HB0.out.up hb1)
  clear hb1 C1
  cases r1 with
  | false =>
    as_aux_lemma =>
      go_wp2_with fail
      go_ret2
      exact ⟨_, by rw [HR.out, addL_bad (.inl HR1.out.symm)]; rfl, by rw [HR.out, addL_bad (.inl HR1.out.symm)]; exact rdm_nil _, (fun c h => by cases h; rfl), fresh_nil _ _ _, H1.out.hb⟩
  | true =>
  have d0 := H1.out.c0
  have d1 := H1.out.c1
  dsimp only at d0 d1
  go_wp2_with fail
  refine (CM.out _).mono ?_
  rintro e w2 ⟨rfl, hb2⟩
  have H2 := Lib.hid (H1.out.up hb2)
  clear hb2 d0 d1 H1
  cases r2 with
  | false =>
    as_aux_lemma =>
      go_wp2_with fail
      go_ret2
      exact ⟨_, by rw [HR.out, addL_bad (.inr HR2.out.symm)]; rfl, by rw [HR.out, addL_bad (.inr HR2.out.symm)]; exact rdm_nil _, (fun c h => by cases h; rfl), fresh_nil _ _ _, H2.out.hb⟩
  | true =>
  have HA := Lib.hid (contains_any 23 #[.pointer (some ⟨w.heap.size, 0, none⟩)] EG.out (fun x => domB x (a, b)) v l w2 (HV.out.up H2.out.hb) (fun W x hb => cloDom_any x (a, b) w.heap.size W (H2.out.up hb).c0 (H2.out.up hb).c1))
  obtain ⟨r3, hr3⟩ : ∃ r, r = l.any (fun x => domB x (a, b)) := ⟨_, rfl⟩
  rw [← hr3] at HA
  have HR3 := Lib.hid hr3
  clear hr3 EG
  go_wp2_with fail
  refine HA.out.mono ?_
  rintro e w3 ⟨rfl, hb3⟩
  have H3 := Lib.hid (H2.out.up hb3)
  clear hb3 HA H2
  cases r3 with
  | true =>
    as_aux_lemma =>
      have hlen : l.length ≤ 8 := (mayLk_of HR1.out.symm).2
      have HC := Lib.hid (clone_any v l w3 (HV.out.up H3.out.hb) HN.out (by omega))
      clear hlen
      go_wp2_with fail
      refine HC.out.mono ?_
      rintro e w4 ⟨u, rfl, hu, hun, huf, hb4⟩
      have HU := Lib.hid (And.intro hu (And.intro hun (And.intro (huf.mono H3.out.hb.size) (H3.out.hb.trans (hb4.mono H3.out.hb.size)))))
      clear hu hun huf hb4 HC
      go_wp2_with fail
      go_ret2
      exact ⟨_, by rw [HR.out, addL_dom HR1.out.symm HR2.out.symm HR3.out.symm]; rfl, by rw [HR.out, addL_dom HR1.out.symm HR2.out.symm HR3.out.symm]; exact HU.out.1, HU.out.2.1, HU.out.2.2.1, HU.out.2.2.2⟩
  | false =>
  have d0 := H3.out.c0
  have d1 := H3.out.c1
  dsimp only at d0 d1
  have h8 : l.length ≤ 8 := (mayLk_of HR1.out.symm).2
  obtain ⟨av, cv, rfl, _⟩ := HV.out.form
  have HS0 : Hid (AddAt w (w3.alloc (.cells #[.int .i64 a, .int .i64 b] 24)) (.slice (some ⟨w3.heap.size, 0, none⟩) 1 1) l (a, b) 0) := Lib.hid ⟨by
    refine ⟨by simp [leftM, cellsM], .inr ⟨w3.heap.size, 1, _, rfl, H3.out.sz, heap_alloc_new _ _, by simp [leftM], by decide, rfl, by simp [leftM, cellsM]⟩⟩, H3.out.alloc _⟩
  clear H3
  go_wp2_with fail
  clear d0 d1
  go_loopw [6, 26] (fun o i wr => ∃ k : Nat, k ≤ l.length ∧ i = .int .i64 (k : Int) ∧ Hid (AddAt w wr o l (a, b) k)) (fun _ i _ => l.length - (intOf i).toNat)
  case atStart => exact ⟨0, Nat.zero_le _, rfl, HS0⟩
  case round =>
    clear HS0
    obtain ⟨k, hk, rfl, HW⟩ := hrel
    obtain ⟨vo, hvo⟩ : ∃ v, v = u6 := ⟨_, rfl⟩
    subst hvo
    by_cases hlt : k < l.length
    · as_aux_lemma =>
        have g3 : (k : Int) < (l.length : Int) := by omega
        have g4 : (0 : Int) ≤ (k : Int) := by omega
        obtain ⟨bA, oA, rfl, c0, c1⟩ := HV.out.get hlt
        have HSN := Lib.hid (HLT.out k hlt)
        obtain ⟨x, hx⟩ : ∃ x, x = l[k] := ⟨_, rfl⟩
        rw [← hx] at c0 c1 HSN
        obtain ⟨c, d⟩ := x
        dsimp only at c0 c1
        have hlA := World.block_lt_of_cell? w _ c0
        have e0 : wr.cell? ⟨bA, oA + k * 2, none⟩ = some (.int .i64 c) := (HW.out.2.hb.cell (p := ⟨bA, oA + k * 2, none⟩) hlA).trans c0
        have e1 : wr.cell? ⟨bA, oA + k * 2 + 1, none⟩ = some (.int .i64 d) := (HW.out.2.hb.cell (p := ⟨bA, oA + k * 2 + 1, none⟩) hlA).trans c1
        have HX := Lib.hid (HW.out.2.alloc (.cells #[.int .i64 c, .int .i64 d] 24))
        have d0 := HX.out.c0
        have d1 := HX.out.c1
        dsimp only at d0 d1
        clear c0 c1 hx hlA HV
        go_wp2_with fail
        refine (CD.out _ (c, d)).mono ?_
        rintro e w5 ⟨rfl, hb5⟩
        obtain ⟨rd, hrd⟩ : ∃ r, r = domB (a, b) (c, d) := ⟨_, rfl⟩
        rw [← hrd] at HSN ⊢
        have H5 := Lib.hid (HX.out.up hb5)
        have HO : Hid (w5.ownsRow (w.heap.size + 1) 24 2 vo ((a, b) :: leftM (a, b) (l.take k)).length (((a, b) :: leftM (a, b) (l.take k)).map cellsM).flatten) :=
          Lib.hid (owns_below (World.ownsRow.alloc HW.out.1 _) hb5 (Nat.le_refl _))
        have f0 : w5.cell? ⟨wr.heap.size, 0, none⟩ = some (.int .i64 c) := (hb5.cell (p := ⟨wr.heap.size, 0, none⟩) (by simp)).trans (by simp)
        have f1 : w5.cell? ⟨wr.heap.size, 1, none⟩ = some (.int .i64 d) := (hb5.cell (p := ⟨wr.heap.size, 1, none⟩) (by simp)).trans (by simp)
        clear hb5 d0 d1 hrd HX HW e0 e1
        cases rd with
        | true =>
          have HN : Hid (AddAt w w5 vo l (a, b) (k + 1)) := Lib.hid ⟨by rw [HSN.out, if_pos rfl, List.append_nil]; exact HO.out, H5.out⟩
          clear HO H5 HSN
          go_wp2_with fail
          go_roundw
          case rel => exact ⟨k + 1, by omega, by go_num, HN⟩
          case measure => simp [intOf]; omega
        | false =>
          have hll := HLL.out k
          obtain ⟨N, hN⟩ : ∃ N, N = ((a, b) :: leftM (a, b) (l.take k)).length := ⟨_, rfl⟩
          have hN9 : N ≤ 9 := by rw [hN, List.length_cons]; omega
          have HNN := Lib.hid hN
          clear hN hll
          go_wp2_with (at_builtin; refine hold ?_)
          intro _
          refine wpList_appendF (by rfl) _ _ 22 (by rfl) (w.heap.size + 1) 24 i0 _ 2 16 Tryd.underlying22 hi hz0 hz1 hz2 rfl (by decide) vo N _ (by rfl) (by rw [HNN.out]; exact World.ownsRow.alloc HO.out _) (.slice (some ⟨w5.heap.size, 0, none⟩) 1 1) [cellsM (c, d)] (by simp [cellsM]) (by simp [cellsM, Value.oneCell']) (by rfl) (RdF.lit [cellsM (c, d)] (by simp [cellsM]) (heap_alloc_new _ _) rfl (by simp)) (fun c h => by cases h) (by simp [maxLen]; omega) (by simp; omega) (by have := H5.out.sz; simp; omega) ?_
          intro v' w' ho hg
          have HN : Hid (AddAt w w' v' l (a, b) (k + 1)) := Lib.hid ⟨by
            rw [HSN.out, if_neg (by decide)]
            rw [HNN.out] at ho
            simpa using ho, (H5.out.alloc _).grown hg (fun j ej => (World.ownsRow.lt HO.out j ej).1)⟩
          clear ho hg HO H5 HSN HNN
          go_wp2_with fail
          go_roundw
          case rel => exact ⟨k + 1, by omega, by go_num, HN⟩
          case measure => simp [intOf]; omega
    · as_aux_lemma =>
        obtain rfl : k = l.length := by omega
        have g3 : ¬ (l.length : Int) < (l.length : Int) := by omega
        have ho := HW.out.1
        have hbx := HW.out.2
        rw [List.take_length] at ho
        have hll := leftM_len (a, b) l
        obtain ⟨N, hN⟩ : ∃ N, N = ((a, b) :: leftM (a, b) l).length := ⟨_, rfl⟩
        have hN0 : N = (leftM (a, b) l).length + 1 := by rw [hN, List.length_cons]
        have hN9 : N ≤ 9 := by omega
        rw [← hN] at ho
        rcases Joins.ownsRow_forms ho with ⟨_, h0⟩ | ⟨g, cap, rfl⟩
        · omega
        · have HO := Lib.hid ho
          have HBX := Lib.hid hbx
          have HNN := Lib.hid hN
          by_cases h9 : 8 < N
          · have HE := Lib.hid (addL_many HR1.out.symm HR2.out.symm HR3.out.symm (by omega))
            clear ho hbx hN hN0 hll HW
            have g9 : (8 : Int) < (N : Int) := by omega
            go_wp2_with fail
            go_ret2
            exact ⟨_, by rw [HR.out, HE.out]; rfl, by rw [HR.out, HE.out]; exact rdm_nil _, (fun c h => by cases h; rfl), fresh_nil _ _ _, HBX.out.hb⟩
          · have HE := Lib.hid (addL_new HR1.out.symm HR2.out.symm HR3.out.symm (by omega))
            have hst := (mayLk_of HR1.out.symm).1
            have hmy : ∀ x ∈ (a, b) :: leftM (a, b) l, mayB x = true := by
              intro x hx
              rcases List.mem_cons.1 hx with rfl | hx
              · exact HR2.out.symm
              · exact stair_may hst x (List.mem_filter.1 hx).1
            have hs := sort_any (w.heap.size + 1) g cap ((a, b) :: leftM (a, b) l) wr hmy (by rw [← hN]; exact ho) (by rw [← hN]; omega)
            rw [← hN] at hs
            have HS := Lib.hid hs
            have HI := Lib.hid (fun d h1 h2 => sort_is hst HR3.out.symm (d := d) h1 h2)
            clear ho hbx hN hN0 hll HW hs hst hmy
            have g9 : ¬ (8 : Int) < (N : Int) := by omega
            go_wp2_with fail
            refine HS.out.mono ?_
            rintro e w6 ⟨rfl, dl, hp, hpw, hrd, hb6⟩
            have hdl := HI.out dl hp hpw
            have HD : Hid (RdMk w6 (.slice (some ⟨g, 0, none⟩) N cap) (insM (a, b) (leftM (a, b) l)) ∧ FreshV w.heap.size (.slice (some ⟨g, 0, none⟩) N cap) ∧ Below w.heap.size w w6) := Lib.hid ⟨by rw [← hdl]; exact hrd, (fresh_row HO.out).mono (Nat.le_succ _), HBX.out.hb.trans (hb6.mono (Nat.le_succ _))⟩
            clear hp hpw hrd hb6 hdl HI HS
            go_wp2_with fail
            go_ret2
            exact ⟨_, by rw [HR.out, HE.out]; rfl, by rw [HR.out, HE.out]; exact HD.out.1, (fun c h => by cases h), HD.out.2.1, HD.out.2.2⟩
end Go.Proofs.YtegblhmcfemfgaaDoor
