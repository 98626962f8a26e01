/- json.Members: what it ranges over. -/
import Derived.Test.YtidlhajibjnkeaaGreatDoorJCopy
import Derived.Test.YtidlhajibjnkeaaGreatDoorRangeV
import Derived.LoopNIn
import Derived.LoopIn
import Derived.Shelf.RegionOpen
import Derived.TacticsInMore
namespace Go.Proofs.YtidlhajibjnkeaaGreatDoor
open Go.RowKit
attribute [local go_sem] Oper.semAt_some wide_fn wide_depth

/-- What comes: a name, and a value in memory of its own, made since a world of which X holds. -/
def MbR (X : World → Prop) (x : MemT) (args : Array Value) (W : World) : Prop := ∃ cs W1, args = #[str x.1, .agg cs.toArray] ∧ X W1 ∧ W1.heap.size ≤ W.heap.size ∧ (∀ (k : Nat) (c : Array Value) (T : TypeId) (p : Nat × Nat), W1.heap[k]? = some (Obj.cells c T p) → W.heap[k]? = some (Obj.cells c T p)) ∧ RdJ W (fun i => W1.heap.size ≤ i) x.2 cs
/-- What Members needs of a world: the kept value in its box. -/
def MemOk (B : Nat) (v : JV) (cs : List Value) (W : World) : Prop := W.heap[B]? = some (.cells cs.toArray 28 (0, 0)) ∧ RdJ W (fun _ => True) v cs
/-- The members that are told. -/
def memL (v : JV) : List MemT := if v.kind = 7 then v.m else []
theorem grown_belowJ {w w' : World} (h : Below w.heap.size w w') (row : Option Nat := none) : w.grownBy w' row := ⟨h.1, h.2, h.3, h.size, fun k hk _ => h.block k hk⟩
/-- What is no cells turns: a value lies on. -/
theorem RdFB.grownN {F : Nat → Prop} {sz : Nat} {W W' : World} {row : Option Nat} {v : Value} {L : List (List Value)} (h : RdFB F sz W v L) (hg : W.grownBy W' row) (hr : ∀ r, row = some r → ∃ o, W.heap[r]? = some o ∧ o.isCells = false) : RdFB F sz W' v L := by
  obtain ⟨a, cap, hv, h1, h2, h3, h4⟩ := h
  refine ⟨a, cap, hv, h1, h2, h3, fun hl => ?_⟩
  obtain ⟨b, off, ha, hF, hc⟩ := h4 hl
  refine ⟨b, off, ha, hF, fun i hi j u hu => ?_⟩
  have h0 := hc i hi j u hu
  have hlt := World.block_lt_of_cell? W _ h0
  have hne : some b ≠ row := fun e => by
    obtain ⟨o, ho, hn⟩ := hr b e.symm
    simp only [World.cell?, ho] at h0
    cases o <;> simp_all [Obj.isCells]
  have e := hg.block b hlt hne
  rw [← h0]
  simp only [World.cell?, e]
theorem RdJ.grownN {F : Nat → Prop} {W W' : World} {row : Option Nat} {v : JV} {cs : List Value} (h : RdJ W F v cs) (hg : W.grownBy W' row) (hr : ∀ r, row = some r → ∃ o, W.heap[r]? = some o ∧ o.isCells = false) : RdJ W' F v cs :=
  h.move (fun _ _ _ _ h => h.grownN hg hr)
theorem two_bool {e : Ending} {A B : Prop} (h : (e = .returned (.bool true) ∧ A) ∨ (e = .returned (.bool false) ∧ B)) : ∃ bb : Bool, e = .returned (.bool bb) ∧ ((bb = true ∧ A) ∨ (bb = false ∧ B)) := by
  rcases h with ⟨h, h'⟩ | ⟨h, h'⟩
  · exact ⟨true, h, .inl ⟨rfl, h'⟩⟩
  · exact ⟨false, h, .inr ⟨rfl, h'⟩⟩
theorem mbR_own (Z : World → Prop) (B : Nat) (x : MemT) (args : Array Value) : OwnFrom B (fun (_ : Unit) W => MbR Z x args W) := by
  rintro _ X Y row ⟨cs, W1, h1, h2, hz, h3, h4⟩ hg hr
  refine ⟨cs, W1, h1, h2, Nat.le_trans hz hg.size, fun k c T p hk => ?_, h4.grownN hg (fun r e => (hr r e).2)⟩
  have h5 := h3 k c T p hk
  refine (hg.block k (Array.getElem?_eq_some_iff.1 h5).1 (fun e => ?_)).trans h5
  obtain ⟨_, o, ho, hn⟩ := hr k e.symm
  rw [h5] at ho
  cases ho
  cases hn
set_option maxRecDepth 100000 in
set_option maxHeartbeats 4000000 in
theorem mems_any {Tw Wr : TypeId → Prop} (X : World → Prop) {B : Nat} {v : JV} {cs : List Value} {W : World} (hsz : szV v ≤ 1000000000) :
    SeqsV Tw Tryz.prog 35 #[.pointer (some ⟨B, 0, none⟩)] (MbR X) (fun W => MemOk B v cs W ∧ X W) Wr (memL v) W := by
  intro l0 J Jx hJ hJx hOk hY h0
  obtain ⟨⟨hbx, hv⟩, _⟩ := hOk _ _ h0
  obtain ⟨al, ll, cl, am, lm, cm, rfl, _, ⟨rm, hrm, hmm, rfl⟩⟩ := hv.open
  have hZ : v.m.length ≤ 1000000000 := by
    have := szV_mk v
    have := szM_len v.m
    omega
  have HS : Hid (∀ x ∈ v.m, szV x.2 ≤ 1000000000) := Lib.hid (fun x hx => by
    have := szV_mk v
    have := szM_mem hx
    omega)
  have hm : Tryz.prog.follows .mixedOrders = true := by kernel_rfl
  have q0 := box_cell hbx 0
  have q4 := box_cell hbx 4
  unfold memL at hY ⊢
  by_cases h7 : v.kind = 7
  · rw [if_pos h7] at hY ⊢
    have t1 : (v.kind != 7) = false := by rw [h7]; rfl
    clear h7 hv hrm hmm hbx hsz
    refine (callsIn_wide (n := 9)).1 ?_
    refine callsIn_of_wp Tryz.func35 rfl trivial ?_ rfl
    simp only [Tryz.ntmps35, List.size_toArray, List.length_cons, List.length_nil, Nat.reduceAdd, Nat.reduceSub, Array.replicate_succ, Array.replicate_zero, List.push_toArray, List.append_toArray, List.nil_append, List.cons_append]
    gi_wp2
    clear q0 q4
    gi_loopw [11] (fun av wr => ∃ k : Nat, k ≤ v.m.length ∧ av = .int .i64 (k : Int) ∧ J (v.m.take k) wr) (fun av _ => v.m.length - (intOf av).toNat)
    case atStart => exact ⟨0, Nat.zero_le _, rfl, by rw [List.take_zero]; exact h0⟩
    case round =>
      clear h0
      obtain ⟨k, hk, rfl, hj⟩ := hrel
      by_cases hlt : k < v.m.length
      · have n1 : (k : Int) < (v.m.length : Int) := by omega
        have n3 : (0 : Int) ≤ (k : Int) := by omega
        obtain ⟨⟨hbx, hv⟩, _⟩ := hOk _ _ hj
        obtain ⟨al', ll', cl', am', lm', cm', hcs, _, ⟨rm, hrm, hmm, hlm⟩⟩ := hv.open
        cases hcs
        obtain ⟨b, off, a, n, c, a', n', c', rfl, _, hbw, hx, c0, c1, c2, c3, c4, c5⟩ := RdJ.memb hrm hmm hlt
        have HSX := Lib.hid (HS.out _ (List.getElem_mem hlt))
        have hYk := hY (v.m.take k) v.m[k]
        have HT : Hid (v.m.take (k + 1) = v.m.take k ++ [v.m[k]]) := Lib.hid (by simp)
        have HD : Hid (v.m = v.m.take k ++ v.m[k] :: v.m.drop (k + 1)) := Lib.hid (by rw [← List.drop_eq_getElem_cons hlt, List.take_append_drop])
        obtain ⟨x, hxx⟩ : ∃ x, x = v.m[k].2 := ⟨_, rfl⟩
        obtain ⟨nk, hnm⟩ : ∃ nk, nk = v.m[k].1 := ⟨_, rfl⟩
        have hpr : v.m[k] = (nk, x) := by rw [hxx, hnm]
        rw [hpr] at hYk HT HD
        rw [← hxx] at hx c1 c2 c3 HSX
        rw [← hnm] at c0
        clear hxx hnm hpr hv hrm hmm
        obtain ⟨W1, hW1⟩ : ∃ W1, W1 = wr.alloc (.cells #[str nk, .int .i64 x.kind, .int .i64 x.n, str x.s, .slice a n c, .slice a' n' c'] 53) := ⟨_, rfl⟩
        have hb1 : Below wr.heap.size wr W1.drew := by rw [hW1]; exact Below.drewsN (below_alloc _ _) 1
        have hbx1 : W1.drew.heap[wr.heap.size]? = some (.cells #[str nk, .int .i64 x.kind, .int .i64 x.n, str x.s, .slice a n c, .slice a' n' c'] 53 (0, 0)) := by
          show W1.heap[wr.heap.size]? = _
          rw [hW1]; exact heap_alloc_new wr _
        have hj1 : J (v.m.take k) W1.drew := hJ.plain _ _ _ none hj (grown_belowJ hb1) (fun r e => by cases e)
        have CV := Lib.hid (callsIn_wide (n := 8).2 (copy_any x HSX.out (fun _ => True) W1.drew _ (hx.up hb1)))
        have p0 := box_cell hbx1 0
        have p1 := box_cell hbx1 1
        have p2 := box_cell hbx1 2
        have p3 := box_cell hbx1 3
        have p4 := box_cell hbx1 4
        have p5 := box_cell hbx1 5
        gi_wp2_with fail
        rw [← hW1]
        have HX := Lib.hid (And.intro hbx1 (And.intro hb1 hj1))
        have HYk := Lib.hid hYk
        clear hW1 c0 c1 c2 c3 c4 c5 hbw hx hb1 hbx1 hj1 hYk hY
        gi_region_with_o (first
          | (refine CV.out.mono ?_; rintro e w2 ⟨cs2, rfl, hv2, hb2⟩; have e0 : w2.cell? ⟨wr.heap.size, 0, none⟩ = some (str nk) := box_cell (box_up HX.out.1 hb2) 0; obtain ⟨a2, n2, c2, a3, m3, c3, rfl, _, _⟩ := hv2.open; obtain ⟨fn, tmps, assign, body, hy, hR⟩ := HYk.out #[str nk, .agg #[.int .i64 x.kind, .int .i64 x.n, str x.s, .slice a2 n2 c2, .slice a3 m3 c3]] w2 (hJ.plain _ _ _ none HX.out.2.2 (grown_belowJ hb2) (fun r e => by cases e)) ⟨_, W1.drew, rfl, (hOk _ _ HX.out.2.2).2, hb2.size, fun k c T p hk => (hb2.block k (Array.getElem?_eq_some_iff.1 hk).1).trans hk, hv2⟩ ⟨_, HD.out⟩ 8)
          | (refine hR.mono ?_; clear hR; rintro e W3 ⟨hk3, h3⟩; obtain ⟨bb, rfl, hj3⟩ := two_bool h3; clear h3))
        all_goals (
          rcases hj3 with ⟨rfl, hj3⟩ | ⟨rfl, hx3⟩
          · gi_wp2_with fail
            go_roundw
            case rel => exact ⟨k + 1, by omega, by go_num, by rw [HT.out]; exact hj3⟩
            case measure => simp [intOf]; omega
          · gi_wp2_with fail
            exact ⟨rfl, _, results_none rfl _ _ _, ⟨_, rfl⟩, .inr ⟨v.m.take k ++ [(nk, x)], ⟨v.m.drop (k + 1), by rw [List.append_assoc]; exact HD.out⟩, hx3⟩⟩)
      · obtain rfl : k = v.m.length := by omega
        have n2 : ¬ (v.m.length : Int) < (v.m.length : Int) := by omega
        clear hY
        gi_wp2_with fail
        exact ⟨rfl, _, results_none rfl _ _ _, ⟨_, rfl⟩, .inl (by rw [List.take_length] at hj; exact hj)⟩
  · rw [if_neg h7] at hY ⊢
    have t1 : (v.kind != 7) = true := by rw [bne_iff_ne]; exact h7
    clear h7 hY
    refine (callsIn_wide (n := 9)).1 ?_
    refine callsIn_of_wp Tryz.func35 rfl trivial ?_ rfl
    simp only [Tryz.ntmps35, List.size_toArray, List.length_cons, List.length_nil, Nat.reduceAdd, Nat.reduceSub, Array.replicate_succ, Array.replicate_zero, List.push_toArray, List.append_toArray, List.nil_append, List.cons_append]
    gi_wp2
    exact ⟨rfl, _, results_none rfl _ _ _, ⟨_, rfl⟩, .inl h0⟩
/-- json.Members: a function over a copy in a box. -/
theorem members_any (v : JV) (hsz : szV v ≤ 1000000000) (F : Nat → Prop) (w : World) (cs : List Value) (h : RdJ w F v cs) :
    Calls Tryz.prog 20 #[.agg cs.toArray] w fun e w' => ∃ B cs', e = .returned (.func (.func 35) #[] #[.pointer (some ⟨B, 0, none⟩)]) ∧ w.heap.size ≤ B ∧ B < w'.heap.size ∧ MemOk B v cs' w' ∧ Below w.heap.size w w' := by
  obtain ⟨al, ll, cl, am, lm, cm, rfl, _, _⟩ := id h.open
  obtain ⟨W0, hW0⟩ : ∃ W0, W0 = w.alloc (.cells #[.int .i64 v.kind, .int .i64 v.n, str v.s, .slice al ll cl, .slice am lm cm] 28) := ⟨_, rfl⟩
  have hb0 : Below w.heap.size w W0 := by rw [hW0]; exact below_alloc _ _
  have hx0 : W0.heap[w.heap.size]? = some (.cells #[.int .i64 v.kind, .int .i64 v.n, str v.s, .slice al ll cl, .slice am lm cm] 28 (0, 0)) := by rw [hW0]; exact heap_alloc_new w _
  have CV := Lib.hid (copy_any v hsz F W0 _ (h.up hb0))
  have HB := Lib.hid hb0
  clear h hsz hb0
  go_enter Tryz.func20, Tryz.ntmps20
  go_upto_region 1 with fail
  rw [← hW0]
  clear hW0
  have q0 := box_cell hx0 0
  have q1 := box_cell hx0 1
  have q2 := box_cell hx0 2
  have q3 := box_cell hx0 3
  have q4 := box_cell hx0 4
  clear hx0
  go_wp2_with fail
  refine CV.out.mono ?_
  rintro e w2 ⟨cs2, rfl, hv2, hb2⟩
  obtain ⟨a2, n2, c2, a3, m3, c3, rfl, _, _⟩ := id hv2.open
  have H2 := Lib.hid (And.intro hv2 hb2)
  clear CV q0 q1 q2 q3 q4 hv2 hb2
  go_wp2_with fail
  go_ret
  obtain ⟨hv2, hb2⟩ := H2.out
  have s0 := HB.out.size
  have s2 := hb2.size
  refine ⟨_, _, rfl, ?_, ?_, ⟨heap_alloc_new w2 _, (hv2.up (below_alloc _ _)).mono (fun _ _ _ => trivial)⟩, HB.out.trans ((hb2.mono s0).trans ((below_alloc _ _).mono (by omega)))⟩
  · omega
  · simp
end Go.Proofs.YtidlhajibjnkeaaGreatDoor
