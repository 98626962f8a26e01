import Derived.Ground.SlsfProg
import Derived.Shelf.SlSortCmp.WholeK
import Derived.Test.YtegblhmcfemfgaaGreatDoorProg
import Derived.Test.YtegblhmcfemfgaaGreatDoorMkBase
import Derived.Test.YtegblhmcfemfgaaGreatDoorMkMayP
import Derived.Test.YtegblhmcfemfgaaGreatDoorMkMore
import Derived.Lib.SmallJoins
import Derived.Test.YtegblhmcfemfgaaGreatDoorMkMath
import Derived.Test.YtegblhmcfemfgaaGreatDoorRwGets
import Derived.Test.YtegblhmcfemfgaaGreatDoorJParM
import Derived.Test.YtegblhmcfemfgaaGreatDoorRwEntG
import Derived.Test.YtegblhmcfemfgaaGreatDoorRwMks
import Derived.Test.YtegblhmcfemfgaaGreatDoorJCut
import Derived.Test.YtegblhmcfemfgaaGreatDoorRgGets
import Derived.Test.YtegblhmcfemfgaaGreatDoorAppN
import Derived.Deep.CutRange
import Derived.Test.YtegblhmcfemfgaaGreatDoorWTake
import Derived.Deep.RegionHeld
namespace Go.Proofs
open Go.Shelf
def Tryz.sortM_ren : Go.Shelf.Ren := ⟨fun | 6 => 53 | 15 => 70 | 14 => 69 | 28 => 88 | 29 => 89 | 20 => 80 | 21 => 81 | 22 => 82 | 23 => 83 | 24 => 84 | 25 => 85 | 26 => 86 | 27 => 87 | 46 => 112 | 47 => 113 | 48 => 114 | 49 => 115 | 50 => 116 | 57 => 137 | n => n, fun | 22 => 28 | 24 => 67 | 25 => 105 | 3 => 3 | 39 => 127 | 0 => 0 | 53 => 147 | 55 => 149 | 4 => 4 | 46 => 140 | 45 => 139 | 50 => 144 | 5 => 5 | 9 => 9 | 66 => 170 | 70 => 174 | 76 => 190 | 77 => 191 | n => n, fun | n => n⟩
theorem Tryz.sortM : Go.Proofs.SlLaysF0.n6 Tryz.prog Tryz.sortM_ren := {
 mixed := by kernel_rfl
 f6 := ⟨Tryz.f53.name, by decide, Tryz.func53.trans (congrArg some (by kernel_rfl))⟩
 f14 := ⟨Tryz.f69.name, by decide, Tryz.func69.trans (congrArg some (by kernel_rfl))⟩
 f15 := Tryz.func70.trans (congrArg some (by kernel_rfl))
 f20 := ⟨Tryz.f80.name, by decide, Tryz.func80.trans (congrArg some (by kernel_rfl))⟩
 f21 := ⟨Tryz.f81.name, by decide, Tryz.func81.trans (congrArg some (by kernel_rfl))⟩
 f22 := ⟨Tryz.f82.name, by decide, Tryz.func82.trans (congrArg some (by kernel_rfl))⟩
 f23 := ⟨Tryz.f83.name, by decide, Tryz.func83.trans (congrArg some (by kernel_rfl))⟩
 f24 := ⟨Tryz.f84.name, by decide, Tryz.func84.trans (congrArg some (by kernel_rfl))⟩
 f25 := ⟨Tryz.f85.name, by decide, Tryz.func85.trans (congrArg some (by kernel_rfl))⟩
 f26 := ⟨Tryz.f86.name, by decide, Tryz.func86.trans (congrArg some (by kernel_rfl))⟩
 f27 := ⟨Tryz.f87.name, by decide, Tryz.func87.trans (congrArg some (by kernel_rfl))⟩
 f28 := Tryz.func88.trans (congrArg some (by kernel_rfl))
 f29 := Tryz.func89.trans (congrArg some (by kernel_rfl))
 f46 := ⟨Tryz.f112.name, by decide, Tryz.func112.trans (congrArg some (by kernel_rfl))⟩
 f47 := Tryz.func113.trans (congrArg some (by kernel_rfl))
 f48 := Tryz.func114.trans (congrArg some (by kernel_rfl))
 f49 := ⟨Tryz.f115.name, by decide, Tryz.func115.trans (congrArg some (by kernel_rfl))⟩
 f50 := ⟨Tryz.f116.name, by decide, Tryz.func116.trans (congrArg some (by kernel_rfl))⟩
 f57 := ⟨Tryz.f137.name, by decide, Tryz.func137.trans (congrArg some (by kernel_rfl))⟩
 t0 := Tryz.underlying0
 a0 := Tryz.isAgg0
 z0 := Tryz.sizeOf0
 v0 := Tryz.zeroValue0
 t3 := Tryz.underlying3
 a3 := Tryz.isAgg3
 z3 := Tryz.sizeOf3
 v3 := Tryz.zeroValue3
 t4 := Tryz.underlying4
 a4 := Tryz.isAgg4
 z4 := Tryz.sizeOf4
 v4 := Tryz.zeroValue4
 t5 := Tryz.underlying5
 a5 := Tryz.isAgg5
 z5 := Tryz.sizeOf5
 v5 := Tryz.zeroValue5
 t9 := Tryz.underlying9
 a9 := Tryz.isAgg9
 z9 := Tryz.sizeOf9
 v9 := Tryz.zeroValue9
 t22 := Tryz.underlying28
 a22 := Tryz.isAgg28
 z22 := Tryz.sizeOf28
 v22 := Tryz.zeroValue28
 t25 := Tryz.underlying105
 a25 := Tryz.isAgg105
 z25 := Tryz.sizeOf105
 v25 := Tryz.zeroValue105
 t39 := Tryz.underlying127
 a39 := Tryz.isAgg127
 z39 := Tryz.sizeOf127
 v39 := Tryz.zeroValue127
 t45 := Tryz.underlying139
 a45 := Tryz.isAgg139
 z45 := Tryz.sizeOf139
 v45 := Tryz.zeroValue139
 t46 := Tryz.underlying140
 a46 := Tryz.isAgg140
 z46 := Tryz.sizeOf140
 v46 := Tryz.zeroValue140
 t50 := Tryz.underlying144
 a50 := Tryz.isAgg144
 z50 := Tryz.sizeOf144
 v50 := Tryz.zeroValue144
 t53 := Tryz.underlying147
 a53 := Tryz.isAgg147
 z53 := Tryz.sizeOf147
 v53 := Tryz.zeroValue147
 t55 := Tryz.underlying149
 a55 := Tryz.isAgg149
 z55 := Tryz.sizeOf149
 v55 := Tryz.zeroValue149
 t66 := Tryz.underlying170
 a66 := Tryz.isAgg170
 z66 := Tryz.sizeOf170
 v66 := Tryz.zeroValue170
 t70 := Tryz.underlying174
 a70 := Tryz.isAgg174
 z70 := Tryz.sizeOf174
 v70 := Tryz.zeroValue174
 t76 := Tryz.underlying190
 a76 := Tryz.isAgg190
 z76 := Tryz.sizeOf190
 v76 := Tryz.zeroValue190
 t77 := Tryz.underlying191
 a77 := Tryz.isAgg191
 z77 := Tryz.sizeOf191
 v77 := Tryz.zeroValue191 }
end Go.Proofs
namespace Go.Proofs.YtegblhmcfemfgaaGreatDoor
open Go.RowKit
def MayM : Type := {m : MarkT // mayB m = true}
instance inhMay : Inhabited MayM := ⟨⟨(0, 1), rfl⟩⟩
def encY (x : MayM) : List Value := cellsM x.1
def cfM (x y : MayM) : Int := y.1.1 - x.1.1
theorem may_time (x : MayM) : 0 ≤ x.1.1 ∧ x.1.1 ≤ 1099511627776 := by
 have := x.2
 unfold mayB at this
 rw [decide_eq_true_eq] at this
 exact ⟨this.1, this.2.1⟩
theorem cloSort_any (x y : MayM) (W : World) : Calls Tryz.prog 54 #[encM x.1, encM y.1] W fun e w' => e = .returned (.int .i64 (cfM x y)) ∧ ∃ q os', w' = Go.Sort.grow (W.drewN q) os' := by
 obtain ⟨h1, h2⟩ := may_time x
 obtain ⟨h3, h4⟩ := may_time y
 unfold cfM
 obtain ⟨⟨a, b⟩, _⟩ := x
 obtain ⟨⟨c, d⟩, _⟩ := y
 dsimp only at h1 h2 h3 h4 ⊢
 have hw : IntKind.i64.wrap (c - a) = c - a := IntWalk.i64_in _ (by omega)
 go_enter Tryz.func54, Tryz.ntmps54
 go_wp2_with fail
 go_ret
 exact ⟨rfl, 0, _, by rw [Go.Sort.alloc_eq_grow, Go.Sort.alloc_eq_grow, Go.Sort.grow_grow]; rfl⟩
theorem ltM (x y : MayM) : ltOf cfM x y = decide (y.1.1 < x.1.1) := by
 unfold ltOf cfM
 by_cases h : y.1.1 < x.1.1
 · rw [decide_eq_true h, decide_eq_true (by omega)]
 rw [decide_eq_false h, decide_eq_false (by omega)]
theorem swoM : Go.Sort.SWO (ltOf cfM) where
 irrefl x := by rw [ltM]; simp
 trans x y z h1 h2 := by rw [ltM] at *; simp at *; omega
 ntrans x y z h1 h2 := by rw [ltM] at *; simp at *; omega
def mayOf : (l : List MarkT) → (∀ m ∈ l, mayB m = true) → List MayM
 | [], _ => []
 | x :: t, h => ⟨x, h x (by simp)⟩ :: mayOf t (fun m hm => h m (by simp [hm]))
theorem mayOf_map : ∀ (l : List MarkT) (h : ∀ m ∈ l, mayB m = true), (mayOf l h).map (fun x : MayM => x.1) = l
 | [], _ => rfl
 | x :: t, h => by
   show x :: (mayOf t _).map (fun x : MayM => x.1) = x :: t
   rw [mayOf_map t]
theorem mayOf_len (l : List MarkT) (h : ∀ m ∈ l, mayB m = true) : (mayOf l h).length = l.length := by
 have := congrArg List.length (mayOf_map l h)
 simpa using this
theorem arr_get {α : Type} [Inhabited α] (l : List α) (i : Nat) (h : i < l.length) : l.toArray[i]! = l[i] := by
 rw [getElem!_pos l.toArray i (by simpa using h)]; simp
theorem holds_of {w : World} {n0 B cap : Nat} {T : TypeId} {l : List MarkT} (h : ∀ m ∈ l, mayB m = true) (hr : w.ownsRow n0 T 2 (.slice (some ⟨B, 0, none⟩) l.length cap) l.length (l.map cellsM).flatten) :
 Go.Sort.HoldsK encY 2 w B 0 (mayOf l h).toArray ∧ B < w.heap.size ∧ n0 ≤ B ∧ l.length ≤ 9223372036854775807 ∧ l.length ≤ cap ∧ cap ≤ 9223372036854775807 := by
 rcases hr.2 with ⟨he, _⟩ | ⟨g, cap', cur, he, hg0, hg, h1, h2, h3, h4⟩
 · cases he
 simp only [Value.slice.injEq, Option.some.injEq, Addr.mk.injEq] at he
 obtain ⟨⟨rfl, _⟩, _, rfl⟩ := he
 have hlt : B < w.heap.size := by
  by_cases q : B < w.heap.size
  · exact q
  rw [Array.getElem?_eq_none (by omega)] at hg; cases hg
 simp only [maxLen] at h2
 refine ⟨fun j hj => ?_, hlt, hg0, by omega, h1, by omega⟩
 rw [Go.Sort.size_flatK] at hj
 have hs : (mayOf l h).toArray.size = l.length := by simp [mayOf_len]
 rw [hs] at hj
 have hi : j / 2 < l.length := by omega
 have hf := flat_at 2 (l.map cellsM) (cellsM_len l) (j / 2) (by simpa using hi) (j % 2) (by omega)
 have ej : j / 2 * 2 + j % 2 = j := by omega
 rw [ej] at hf
 have e2 := congrArg (fun z => z[j]?) h4
 simp only [List.getElem?_take] at e2
 rw [if_pos hj, hf] at e2
 have hm : (mayOf l h).toArray[j / 2]!.1 = l[j / 2] := by
  rw [arr_get _ _ (by rw [mayOf_len]; exact hi)]
  have := congrArg (fun z => z[j / 2]?) (mayOf_map l h)
  simp only [List.getElem?_map] at this
  rw [List.getElem?_eq_getElem (by rw [mayOf_len]; exact hi), List.getElem?_eq_getElem hi] at this
  simpa using this
 constructor
 · rw [Go.Sort.get_flatK _ _ _ _ (by rw [hs]; exact hj)]
   simp only [World.cell?, hg, Nat.zero_add, id, encY, hm]
   have hc : (cellsM l[j / 2])[j % 2]? = some ((cellsM l[j / 2])[j % 2]!) := by
    have : j % 2 < (cellsM l[j / 2]).length := by simp [cellsM]; omega
    rw [getElem!_pos (cellsM l[j / 2]) (j % 2) this, List.getElem?_eq_getElem this]
   simp only [List.getElem_map] at e2
   rw [hc] at e2
   simpa using e2
 simp [World.frozen?, hg]
theorem below_sort {w : World} {n0 B n : Nat} {d : Array MayM} {os : Array Obj} (h : n0 ≤ B) (hlt : B < w.heap.size) : Below n0 w (sortWorldK encY 2 w B 0 n d os) := by
 unfold sortWorldK Go.Sort.putRowK Go.Sort.putRow Go.Sort.mapBlock Go.Sort.grow Go.Sort.ahead
 refine ⟨rfl, rfl, rfl, ?_, fun k hk => ?_⟩
 · simp
 simp only [Array.getElem?_append, Array.size_modify]
 rw [if_pos (by omega), Array.getElem?_modify, if_neg (by omega)]
set_option maxHeartbeats 1000000 in
theorem sort_any (n0 B cap : Nat) (l : List MarkT) (w : World) (h : ∀ m ∈ l, mayB m = true) (hr : w.ownsRow n0 67 2 (.slice (some ⟨B, 0, none⟩) l.length cap) l.length (l.map cellsM).flatten) (h12 : l.length ≤ 1000) :
 Calls Tryz.prog 53 #[.slice (some ⟨B, 0, none⟩) l.length cap, .func (.func 54) #[] #[]] w fun e w' => e = .returned (.tuple #[]) ∧ ∃ d : List MarkT, d.Perm l ∧ d.Pairwise (fun a b => b.1 ≤ a.1) ∧ RdMk w' (.slice (some ⟨B, 0, none⟩) l.length cap) d ∧ Below n0 w w' := by
 obtain ⟨hH, hlt, hn, hmax, hcap, hcapm⟩ := holds_of h hr
 have hsz : (mayOf l h).toArray.size = l.length := by simp [mayOf_len]
 have eg : ∀ args w, (callFunc 54 args).run Tryz.prog w = .ok (.enter 54 args) w := enters_of Tryz.func54 (by kernel_rfl) rfl
 have hcon := AnyQ.slices_SortFunc Tryz.sortM 2 Tryz.isAgg67 Tryz.sizeOf67 encY (fun _ => rfl) (fun x v hv => by simp [encY, cellsM] at hv; rcases hv with rfl | rfl <;> rfl) cfM swoM 54 #[] B 0 cap (mayOf l h).toArray w eg (fun _ _ _ _ x y => cloSort_any x y _) hH hlt (by rw [hsz]; omega)
 rw [hsz] at hcon
 refine Calls.mono (f := 53) hcon ?_
 rintro e w' ⟨rfl, d', n, os, hp, hs, rfl⟩
 refine ⟨rfl, d'.toList.map (fun x : MayM => x.1), ?_, ?_, ?_, below_sort hn hlt⟩
 · have h3 := hp.2.2
   have h1 := hp.1
   rw [Array.extract_eq_self_of_le (by omega), Array.extract_eq_self_of_le (by omega)] at h3
   have := h3.map (fun x : MayM => x.1)
   rw [List.toList_toArray, mayOf_map] at this
   exact this
 · rw [List.pairwise_map, List.pairwise_iff_getElem]
   intro i j hi hj hij
   have h1 := hp.1
   rw [hsz] at h1
   have hq := hs i j (Nat.zero_le _) hij (by simpa [h1] using hj)
   rw [ltM, decide_eq_false_iff_not] at hq
   rw [getElem!_pos d' i (by simpa using hi), getElem!_pos d' j (by simpa using hj)] at hq
   simp only [Array.getElem_toList]
   omega
 have h1 := hp.1
 have hH' := holdsK_sortWorldK_c encY 2 w B 0 (mayOf l h).toArray d' n os hH hlt h1
 rw [hsz] at h1
 have hl : (d'.toList.map (fun x : MayM => x.1)).length = l.length := by simp [h1]
 have hl2 : ((d'.toList.map (fun x : MayM => x.1)).map cellsM).length = l.length := by rw [List.length_map, hl]
 refine ⟨_, cap, by rw [hl2], by rw [hl2]; exact hmax, by rw [hl2]; exact hcap, hcapm, fun _ => ⟨B, 0, rfl, fun i hi j u hu => ?_⟩⟩
 have hi' : i < d'.size := by simpa using hi
 have hj : j < 2 := by
  have := (List.getElem?_eq_some_iff.1 hu).1
  simpa [cellsM] using this
 have := (Go.Sort.HoldsK.cell hH' hi' hj).1
 rw [this, getElem!_pos d' i hi']
 simp only [List.getElem_map, Array.getElem_toList] at hu
 unfold encY
 rw [← hu]
 have h2 : j < (cellsM d'[i].1).length := by simpa [cellsM] using hj
 rw [getElem!_pos (cellsM d'[i].1) j h2, List.getElem?_eq_getElem h2]
structure BoxAt (w W : World) (m : MarkT) : Prop where
 hb : Below w.heap.size w W
 c0 : W.cell? ⟨w.heap.size, 0, none⟩ = some (.int .i64 m.1)
 c1 : W.cell? ⟨w.heap.size, 1, none⟩ = some (.int .i64 m.2)
 sz : w.heap.size + 1 ≤ W.heap.size
theorem BoxAt.new (w : World) (m : MarkT) (T : TypeId) : BoxAt w (w.alloc (.cells #[.int .i64 m.1, .int .i64 m.2] T)) m := ⟨below_alloc w _, by simp, by simp, by simp⟩
theorem BoxAt.low {w W W' : World} {m : MarkT} (h : BoxAt w W m) (hb : Below (w.heap.size + 1) W W') : BoxAt w W' m :=
 ⟨h.hb.trans (hb.mono (Nat.le_succ _)), (hb.cell (p := ⟨w.heap.size, 0, none⟩) (Nat.lt_succ_self _)).trans h.c0, (hb.cell (p := ⟨w.heap.size, 1, none⟩) (Nat.lt_succ_self _)).trans h.c1, Nat.le_trans h.sz hb.size⟩
theorem BoxAt.up {w W W' : World} {m : MarkT} (h : BoxAt w W m) (hb : Below W.heap.size W W') : BoxAt w W' m := h.low (hb.mono h.sz)
theorem BoxAt.alloc {w W : World} {m : MarkT} (h : BoxAt w W m) (o : Obj) : BoxAt w (W.alloc o) m := h.up (below_alloc W o)
theorem BoxAt.grown {w W W' : World} {m : MarkT} {row : Option Nat} (h : BoxAt w W m) (hg : W.grownBy W' row) (hk : ∀ k, row = some k → w.heap.size + 1 ≤ k) : BoxAt w W' m :=
 h.low ((Below.refl _ _).grown hg h.sz hk)
def AddE (w : World) (r : List MarkT × Int) (e : Ending) (w' : World) : Prop := ∃ u, e = .returned (.tuple #[u, .int .i64 r.2]) ∧ RdMk w' u r.1 ∧ (∀ c, u = .slice none 0 c → c = 0) ∧ FreshV w.heap.size u ∧ Below w.heap.size w w'
def AddAt (w W : World) (v : Value) (l : List MarkT) (m : MarkT) (k : Nat) : Prop :=
 W.ownsRow (w.heap.size + 1) 67 2 v (m :: leftM m (l.take k)).length ((m :: leftM m (l.take k)).map cellsM).flatten ∧ BoxAt w W m
theorem rdm_nil (w : World) : RdMk w (.slice none 0 0) [] := ⟨none, 0, rfl, by simp, by simp, by simp, fun h => absurd rfl h⟩
theorem left_len (m : MarkT) (l : List MarkT) (k : Nat) : (leftM m (l.take k)).length ≤ l.length := Nat.le_trans (leftM_len m _) (by rw [List.length_take]; omega)
set_option maxRecDepth 100000 in
set_option maxHeartbeats 4000000 in
theorem padd_any (v : Value) (l : List MarkT) (m : MarkT) (w : World) (hv : RdMk w v l) (hn : ∀ c, v = .slice none 0 c → c = 0) :
 Calls Tryz.prog 25 #[v, encM m] w (AddE w (addL l m)) := by
 obtain ⟨i0, hi, hz0, hz1, hz2⟩ := info_parts infoMk
 have HB0 := Lib.hid (BoxAt.new w m 67)
 have C1 := Lib.hid (pmay_any v l _ (hv.up HB0.out.hb))
 have HV := Lib.hid hv
 have HN := Lib.hid hn
 obtain ⟨R, hR⟩ : ∃ R, R = addL l m := ⟨_, rfl⟩
 rw [← hR]
 have HR := Lib.hid hR
 have eg : ∀ args w, (callFunc 50 args).run Tryz.prog w = .ok (.enter 50 args) w := enters_of Tryz.func50 (by kernel_rfl) rfl
 have EG := Lib.hid eg
 have CM := Lib.hid (fun W => may_any m W)
 have CD := Lib.hid (fun W x => dom_any m x W)
 have HLT := Lib.hid (fun k (h : k < l.length) => leftM_snoc (m := m) h)
 have HLL := Lib.hid (left_len m l)
 obtain ⟨a, b⟩ := m
 obtain ⟨r1, hr1⟩ : ∃ r, r = mayLk l := ⟨_, rfl⟩
 obtain ⟨r2, hr2⟩ : ∃ r, r = mayB (a, b) := ⟨_, rfl⟩
 rw [← hr1] at C1
 rw [← hr2] at CM
 have HR1 := Lib.hid hr1
 have HR2 := Lib.hid hr2
 clear hv hn hR eg hr1 hr2
 go_enter Tryz.func25, Tryz.ntmps25
 go_wp2_with fail
 refine C1.out.mono ?_
 rintro e w1 ⟨rfl, hb1⟩
 have H1 := Lib.hid (HB0.out.up hb1)
 clear hb1 C1
 cases r1 with
 | false =>
  as_aux_lemma =>
   go_wp2_with fail
   go_ret2
   exact ⟨_, by rw [HR.out, addL_bad (.inl HR1.out.symm)]; rfl, by rw [HR.out, addL_bad (.inl HR1.out.symm)]; exact rdm_nil _, (fun c h => by cases h; rfl), fresh_nil _ _ _, H1.out.hb⟩
 | true =>
 have d0 := H1.out.c0
 have d1 := H1.out.c1
 dsimp only at d0 d1
 go_wp2_with fail
 refine (CM.out _).mono ?_
 rintro e w2 ⟨rfl, hb2⟩
 have H2 := Lib.hid (H1.out.up hb2)
 clear hb2 d0 d1 H1
 cases r2 with
 | false =>
  as_aux_lemma =>
   go_wp2_with fail
   go_ret2
   exact ⟨_, by rw [HR.out, addL_bad (.inr HR2.out.symm)]; rfl, by rw [HR.out, addL_bad (.inr HR2.out.symm)]; exact rdm_nil _, (fun c h => by cases h; rfl), fresh_nil _ _ _, H2.out.hb⟩
 | true =>
 have HA := Lib.hid (contains_any 50 #[.pointer (some ⟨w.heap.size, 0, none⟩)] EG.out (fun x => domB x (a, b)) v l w2 (HV.out.up H2.out.hb) (fun W x hb => cloDom_any x (a, b) w.heap.size W (H2.out.up hb).c0 (H2.out.up hb).c1))
 obtain ⟨r3, hr3⟩ : ∃ r, r = l.any (fun x => domB x (a, b)) := ⟨_, rfl⟩
 rw [← hr3] at HA
 have HR3 := Lib.hid hr3
 clear hr3 EG
 go_wp2_with fail
 refine HA.out.mono ?_
 rintro e w3 ⟨rfl, hb3⟩
 have H3 := Lib.hid (H2.out.up hb3)
 clear hb3 HA H2
 cases r3 with
 | true =>
  as_aux_lemma =>
   have hlen : l.length ≤ 8 := (mayLk_of HR1.out.symm).2
   have HC := Lib.hid (clone_any v l w3 (HV.out.up H3.out.hb) HN.out (by omega))
   clear hlen
   go_wp2_with fail
   refine HC.out.mono ?_
   rintro e w4 ⟨u, rfl, hu, hun, huf, hb4⟩
   have HU := Lib.hid (And.intro hu (And.intro hun (And.intro (huf.mono H3.out.hb.size) (H3.out.hb.trans (hb4.mono H3.out.hb.size)))))
   clear hu hun huf hb4 HC
   go_wp2_with fail
   go_ret2
   exact ⟨_, by rw [HR.out, addL_dom HR1.out.symm HR2.out.symm HR3.out.symm]; rfl, by rw [HR.out, addL_dom HR1.out.symm HR2.out.symm HR3.out.symm]; exact HU.out.1, HU.out.2.1, HU.out.2.2.1, HU.out.2.2.2⟩
 | false =>
 have d0 := H3.out.c0
 have d1 := H3.out.c1
 dsimp only at d0 d1
 have h8 : l.length ≤ 8 := (mayLk_of HR1.out.symm).2
 obtain ⟨av, cv, rfl, _⟩ := HV.out.form
 have HS0 : Hid (AddAt w (w3.alloc (.cells #[.int .i64 a, .int .i64 b] 67)) (.slice (some ⟨w3.heap.size, 0, none⟩) 1 1) l (a, b) 0) := Lib.hid ⟨by
  refine ⟨by simp [leftM, cellsM], .inr ⟨w3.heap.size, 1, _, rfl, H3.out.sz, heap_alloc_new _ _, by simp [leftM], by decide, rfl, by simp [leftM, cellsM]⟩⟩, H3.out.alloc _⟩
 clear H3
 go_wp2_with fail
 clear d0 d1
 go_loopw [6, 26] (fun o i wr => ∃ k : Nat, k ≤ l.length ∧ i = .int .i64 (k : Int) ∧ Hid (AddAt w wr o l (a, b) k)) (fun _ i _ => l.length - (intOf i).toNat)
 case atStart => exact ⟨0, Nat.zero_le _, rfl, HS0⟩
 case round =>
  clear HS0
  obtain ⟨k, hk, rfl, HW⟩ := hrel
  obtain ⟨vo, hvo⟩ : ∃ v, v = u6 := ⟨_, rfl⟩
  subst hvo
  by_cases hlt : k < l.length
  · as_aux_lemma =>
     have g3 : (k : Int) < (l.length : Int) := by omega
     have g4 : (0 : Int) ≤ (k : Int) := by omega
     obtain ⟨bA, oA, rfl, c0, c1⟩ := HV.out.get hlt
     have HSN := Lib.hid (HLT.out k hlt)
     obtain ⟨x, hx⟩ : ∃ x, x = l[k] := ⟨_, rfl⟩
     rw [← hx] at c0 c1 HSN
     obtain ⟨c, d⟩ := x
     dsimp only at c0 c1
     have hlA := World.block_lt_of_cell? w _ c0
     have e0 : wr.cell? ⟨bA, oA + k * 2, none⟩ = some (.int .i64 c) := (HW.out.2.hb.cell (p := ⟨bA, oA + k * 2, none⟩) hlA).trans c0
     have e1 : wr.cell? ⟨bA, oA + k * 2 + 1, none⟩ = some (.int .i64 d) := (HW.out.2.hb.cell (p := ⟨bA, oA + k * 2 + 1, none⟩) hlA).trans c1
     have HX := Lib.hid (HW.out.2.alloc (.cells #[.int .i64 c, .int .i64 d] 67))
     have d0 := HX.out.c0
     have d1 := HX.out.c1
     dsimp only at d0 d1
     clear c0 c1 hx hlA HV
     go_wp2_with fail
     refine (CD.out _ (c, d)).mono ?_
     rintro e w5 ⟨rfl, hb5⟩
     obtain ⟨rd, hrd⟩ : ∃ r, r = domB (a, b) (c, d) := ⟨_, rfl⟩
     rw [← hrd] at HSN ⊢
     have H5 := Lib.hid (HX.out.up hb5)
     have HO : Hid (w5.ownsRow (w.heap.size + 1) 67 2 vo ((a, b) :: leftM (a, b) (l.take k)).length (((a, b) :: leftM (a, b) (l.take k)).map cellsM).flatten) :=
      Lib.hid (owns_below (World.ownsRow.alloc HW.out.1 _) hb5 (Nat.le_refl _))
     have f0 : w5.cell? ⟨wr.heap.size, 0, none⟩ = some (.int .i64 c) := (hb5.cell (p := ⟨wr.heap.size, 0, none⟩) (by simp)).trans (by simp)
     have f1 : w5.cell? ⟨wr.heap.size, 1, none⟩ = some (.int .i64 d) := (hb5.cell (p := ⟨wr.heap.size, 1, none⟩) (by simp)).trans (by simp)
     clear hb5 d0 d1 hrd HX HW e0 e1
     cases rd with
     | true =>
      have HN : Hid (AddAt w w5 vo l (a, b) (k + 1)) := Lib.hid ⟨by rw [HSN.out, if_pos rfl, List.append_nil]; exact HO.out, H5.out⟩
      clear HO H5 HSN
      go_wp2_with fail
      go_roundw
      case rel => exact ⟨k + 1, by omega, by go_num, HN⟩
      case measure => simp [intOf]; omega
     | false =>
      have hll := HLL.out k
      obtain ⟨N, hN⟩ : ∃ N, N = ((a, b) :: leftM (a, b) (l.take k)).length := ⟨_, rfl⟩
      have hN9 : N ≤ 9 := by rw [hN, List.length_cons]; omega
      have HNN := Lib.hid hN
      clear hN hll
      go_wp2_with (at_builtin; refine hold ?_)
      intro _
      refine wpList_appendF (by rfl) _ _ 28 (by rfl) (w.heap.size + 1) 67 i0 _ 2 16 Tryz.underlying28 hi hz0 hz1 hz2 rfl (by decide) vo N _ (by rfl) (by rw [HNN.out]; exact World.ownsRow.alloc HO.out _) (.slice (some ⟨w5.heap.size, 0, none⟩) 1 1) [cellsM (c, d)] (by simp [cellsM]) (by simp [cellsM, Value.oneCell']) (by rfl) (RdF.lit [cellsM (c, d)] (by simp [cellsM]) (heap_alloc_new _ _) rfl (by simp)) (fun c h => by cases h) (by simp [maxLen]; omega) (by simp; omega) (by have := H5.out.sz; simp; omega) ?_
      intro v' w' ho hg
      have HN : Hid (AddAt w w' v' l (a, b) (k + 1)) := Lib.hid ⟨by
       rw [HSN.out, if_neg (by decide)]
       rw [HNN.out] at ho
       simpa using ho, (H5.out.alloc _).grown hg (fun j ej => (World.ownsRow.lt HO.out j ej).1)⟩
      clear ho hg HO H5 HSN HNN
      go_wp2_with fail
      go_roundw
      case rel => exact ⟨k + 1, by omega, by go_num, HN⟩
      case measure => simp [intOf]; omega
  as_aux_lemma =>
   obtain rfl : k = l.length := by omega
   have g3 : ¬ (l.length : Int) < (l.length : Int) := by omega
   have ho := HW.out.1
   have hbx := HW.out.2
   rw [List.take_length] at ho
   have hll := leftM_len (a, b) l
   obtain ⟨N, hN⟩ : ∃ N, N = ((a, b) :: leftM (a, b) l).length := ⟨_, rfl⟩
   have hN0 : N = (leftM (a, b) l).length + 1 := by rw [hN, List.length_cons]
   have hN9 : N ≤ 9 := by omega
   rw [← hN] at ho
   rcases Joins.ownsRow_forms ho with ⟨_, h0⟩ | ⟨g, cap, rfl⟩
   · omega
   have HO := Lib.hid ho
   have HBX := Lib.hid hbx
   have HNN := Lib.hid hN
   by_cases h9 : 8 < N
   · have HE := Lib.hid (addL_many HR1.out.symm HR2.out.symm HR3.out.symm (by omega))
     clear ho hbx hN hN0 hll HW
     have g9 : (8 : Int) < (N : Int) := by omega
     go_wp2_with fail
     go_ret2
     exact ⟨_, by rw [HR.out, HE.out]; rfl, by rw [HR.out, HE.out]; exact rdm_nil _, (fun c h => by cases h; rfl), fresh_nil _ _ _, HBX.out.hb⟩
   have HE := Lib.hid (addL_new HR1.out.symm HR2.out.symm HR3.out.symm (by omega))
   have hst := (mayLk_of HR1.out.symm).1
   have hmy : ∀ x ∈ (a, b) :: leftM (a, b) l, mayB x = true := by
    intro x hx
    rcases List.mem_cons.1 hx with rfl | hx
    · exact HR2.out.symm
    exact stair_may hst x (List.mem_filter.1 hx).1
   have hs := sort_any (w.heap.size + 1) g cap ((a, b) :: leftM (a, b) l) wr hmy (by rw [← hN]; exact ho) (by rw [← hN]; omega)
   rw [← hN] at hs
   have HS := Lib.hid hs
   have HI := Lib.hid (fun d h1 h2 => sort_is hst HR3.out.symm (d := d) h1 h2)
   clear ho hbx hN hN0 hll HW hs hst hmy
   have g9 : ¬ (8 : Int) < (N : Int) := by omega
   go_wp2_with fail
   refine HS.out.mono ?_
   rintro e w6 ⟨rfl, dl, hp, hpw, hrd, hb6⟩
   have hdl := HI.out dl hp hpw
   have HD : Hid (RdMk w6 (.slice (some ⟨g, 0, none⟩) N cap) (insM (a, b) (leftM (a, b) l)) ∧ FreshV w.heap.size (.slice (some ⟨g, 0, none⟩) N cap) ∧ Below w.heap.size w w6) := Lib.hid ⟨by rw [← hdl]; exact hrd, (fresh_row HO.out).mono (Nat.le_succ _), HBX.out.hb.trans (hb6.mono (Nat.le_succ _))⟩
   clear hp hpw hrd hb6 hdl HI HS
   go_wp2_with fail
   go_ret2
   exact ⟨_, by rw [HR.out, HE.out]; rfl, by rw [HR.out, HE.out]; exact HD.out.1, (fun c h => by cases h), HD.out.2.1, HD.out.2.2⟩
theorem add_ex1 : addL [(100, 5)] (50, 10) = ([(100, 5), (50, 10)], 0) := by decide
theorem add_ex2 : addL [(50, 5)] (100, 10) = ([(100, 10)], 0) := by decide
set_option maxRecDepth 100000 in
set_option maxHeartbeats 2000000 in
theorem mkfirst_any (w : World) : Calls Tryz.prog 6 #[] w fun e w' => e = .returned (.bool true) ∧ Below w.heap.size w w' := by
 have C1 := Lib.hid (padd_any (.slice (some ⟨w.heap.size, 0, none⟩) 1 1) [(100, 5)] (50, 10) (w.alloc (.cells #[.int .i64 100, .int .i64 5] 67)) (RdF.lit [cellsM (100, 5)] (by simp [cellsM]) (heap_alloc_new _ _) rfl (by simp)) (fun c h => by cases h))
 have C2 := Lib.hid (fun W : World => padd_any (.slice (some ⟨W.heap.size, 0, none⟩) 1 1) [(50, 5)] (100, 10) (W.alloc (.cells #[.int .i64 50, .int .i64 5] 67)) (RdF.lit [cellsM (50, 5)] (by simp [cellsM]) (heap_alloc_new _ _) rfl (by simp)) (fun c h => by cases h))
 rw [add_ex1] at C1
 rw [add_ex2] at C2
 have H0 := Lib.hid (below_alloc w (.cells #[.int .i64 100, .int .i64 5] 67))
 go_enter Tryz.func6, Tryz.ntmps6
 go_wp2_with fail
 refine C1.out.mono ?_
 rintro e w1 ⟨u1, rfl, hr1, _, _, hb1⟩
 have H1 := Lib.hid (And.intro hr1 (H0.out.trans (hb1.mono H0.out.size)))
 clear hr1 hb1 C1 H0
 go_wp2_with fail
 refine (C2.out w1).mono ?_
 rintro e w2 ⟨u2, rfl, hr2, _, _, hb2⟩
 have hb3 := (below_alloc w1 (.cells #[.int .i64 50, .int .i64 5] 67)).trans (hb2.mono (by simp))
 obtain ⟨a1, c1, rfl, _⟩ := H1.out.1.form
 obtain ⟨a2, c2, rfl, _⟩ := hr2.form
 obtain ⟨b1, o1, rfl, x0, _⟩ := RdMk.get (H1.out.1.up hb3) (i := 0) (by simp)
 obtain ⟨b2, o2, rfl, _, y1⟩ := RdMk.get hr2 (i := 0) (by simp)
 have HX := Lib.hid (H1.out.2.trans (hb3.mono H1.out.2.size))
 simp at x0 y1
 clear hb2 hb3 hr2 C2 H1
 go_wp2_with fail
 go_ret
 exact ⟨rfl, HX.out⟩
theorem objR_ok {ms : List MemT} (h : (objR ms).2 = 0) : mayV (.mk 7 0 [] [] ms) 64 = true ∧ (objR ms).1 = prV (.mk 7 0 [] [] ms) := by
 by_cases hm : mayV (.mk 7 0 [] [] ms) 64 = true
 · unfold objR
   rw [if_pos hm]
   exact ⟨hm, rfl⟩
 unfold objR at h
 rw [if_neg hm] at h
 cases h
theorem quo_le (s : List UInt8) : (quo s).length ≤ 6 * s.length + 2 := by
 have := qbL_len s
 simp [quo]; omega
theorem sub_pr {s : List UInt8} (hn : ¬ (s ≠ [] ∧ nameB s = false)) : (prV (.mk 7 0 [] [] (subMs s))).length ≤ 20000 := by
 have hl : s.length ≤ 20 := by
  by_cases hs : s = []
  · subst hs; simp
  cases hb : nameB s
  · exact absurd ⟨hs, hb⟩ hn
  exact (nameB_len hb).2
 have h1 := quo_le s
 have h2 : (quo folderN).length = 8 := by decide
 have e1 : prV (.mk 5 0 s [] []) = quo s := rfl
 have e : prV (.mk 7 0 [] [] (subMs s)) = 123 :: ((prU (subMs s)).drop 1 ++ [125]) := rfl
 rw [e]
 simp [subMs, prU, e1, h2]
 omega
theorem valOf_pr {ms : List MemT} (hm : mayV (.mk 7 0 [] [] ms) 64 = true) (hl : (prV (.mk 7 0 [] [] ms)).length ≤ 20000) : valOf (prV (.mk 7 0 [] [] ms)) = .mk 7 0 [] [] ms := by
 unfold valOf
 rw [par_pr hm hl]
theorem sub_self {s : List UInt8} (h : (putSubR s).2 = 0) : valOf (putSubR s).1 = .mk 7 0 [] [] (subMs s) := by
 have hb : ¬ (s ≠ [] ∧ nameB s = false) := fun hb => by unfold putSubR at h; rw [if_pos hb] at h; cases h
 have e1 : putSubR s = objR (subMs s) := by unfold putSubR; rw [if_neg hb]
 rw [e1] at h ⊢
 obtain ⟨hm, e⟩ := objR_ok h
 rw [e]
 exact valOf_pr hm (sub_pr hb)
structure RowT (ms : List MemT) (s : List UInt8) : Prop where
 ok : (objR ms).2 = 0
 txt : s = (objR ms).1
 len : (prV (.mk 7 0 [] [] ms)).length ≤ 20000
theorem RowT.val {ms : List MemT} {s : List UInt8} (h : RowT ms s) : valOf s = .mk 7 0 [] [] ms := by
 obtain ⟨hm, e⟩ := objR_ok h.ok
 rw [h.txt, e]
 exact valOf_pr hm h.len
theorem mks_pr {l : List MarkT} (h : MayL l) : (prV (.mk 7 0 [] [] (mksMs l))).length ≤ 20000 := Nat.le_trans (mksJ_len h) (by omega)
theorem mks_row {l : List MarkT} (h : (putMksR l).2 = 0) : RowT (mksMs l) (putMksR l).1 ∧ putMksR l = objR (mksMs l) := by
 have hb : MayL l := Decidable.byContradiction fun hb => by unfold putMksR at h; rw [if_neg hb] at h; cases h
 have e1 : putMksR l = objR (mksMs l) := by unfold putMksR; rw [if_pos hb]
 exact ⟨⟨by rw [← e1]; exact h, by rw [e1], mks_pr hb⟩, e1⟩
theorem rg_num {v : JV} {d : Nat} (h : mayV v d = true) : -9007199254740991 ≤ v.n ∧ v.n ≤ 9007199254740991 := by
 cases v with
 | mk k n s l m =>
  simp only [mayV, fitV, Bool.and_eq_true, decide_eq_true_eq] at h
  exact ⟨h.1.1.2.1.1.1.1.1.2, h.1.1.2.1.1.1.1.2⟩
theorem rg_list {v : JV} {d : Nat} (h : mayV v d = true) : mayL v.l (d - 1) = true := by
 cases v with
 | mk k n s l m =>
  simp only [mayV, Bool.and_eq_true] at h
  exact h.1.2
theorem rg_mem : ∀ {l : List JV} {d : Nat}, mayL l d = true → ∀ v ∈ l, mayV v d = true
 | [], _, _, v, hv => by cases hv
 | x :: t, d, h, v, hv => by
   simp only [mayL, Bool.and_eq_true] at h
   rcases List.mem_cons.1 hv with rfl | hv
   · exact h.1
   exact rg_mem h.2 v hv
theorem rg_fnd : ∀ {l : List MemT} {p : Option (List UInt8)} {d : Nat} {nm : List UInt8} {x : JV}, mayM l p d = true → fndM l nm = some x → mayV x d = true
 | [], _, _, _, _, _, h2 => by cases h2
 | (a, v) :: t, p, d, nm, x, h, h2 => by
   simp only [mayM, Bool.and_eq_true] at h
   simp only [fndM] at h2
   split at h2
   · cases h2
     exact h.1.2
   exact rg_fnd h.2 h2
theorem rg_get {v x : JV} {d : Nat} {nm : List UInt8} (h : mayV v d = true) (hx : getJ v nm = some x) : mayV x (d - 1) = true := by
 cases v with
 | mk k n s l m =>
  simp only [mayV, Bool.and_eq_true] at h
  unfold getJ at hx
  split at hx
  · exact rg_fnd h.2 hx
  cases hx
def fltM (l : List JV) : List MarkT := ((l.take 9).filter (fun v => v.l.length == 2)).map mk2
theorem flt_len (l : List JV) : (fltM l).length ≤ 9 := by
 unfold fltM
 have := List.length_filter_le (fun v : JV => v.l.length == 2) (l.take 9)
 simp only [List.length_map]
 simp only [List.length_take] at this
 omega
theorem flt_two {l : List JV} (h : twoB l = true) (hl : l.length ≤ 9) : fltM l = l.map mk2 := by
 unfold fltM
 rw [List.take_of_length_le hl, List.filter_eq_self.2]
 intro v hv
 unfold twoB at h
 exact List.all_eq_true.1 h v hv
theorem memD_may {s nm : List UInt8} : ∀ v ∈ (memD (valOf s) nm).l, ∀ u ∈ v.l, -9007199254740991 ≤ u.n ∧ u.n ≤ 9007199254740991 := by
 intro v hv u hu
 have hz : ∀ nm', getJ (.mk 0 0 [] [] []) nm' = none := fun nm' => rfl
 unfold memD at hv
 cases hg : getJ (valOf s) nm with
 | none =>
  rw [hg] at hv
  cases hv
 | some x =>
  rw [hg] at hv
  cases hp : parP s with
  | err e =>
   have : valOf s = .mk 0 0 [] [] [] := by unfold valOf; rw [hp]
   rw [this, hz] at hg
   cases hg
  | ok w q =>
   have e : valOf s = w := by unfold valOf; rw [hp]
   rw [e] at hg
   have h1 := rg_get (parP_may hp) hg
   have h2 := rg_mem (rg_list h1) v hv
   have h3 := rg_mem (rg_list h2) u hu
   exact rg_num h3
theorem flt_range {s nm : List UInt8} : ∀ m ∈ fltM (memD (valOf s) nm).l, (-9223372036854775808 ≤ m.1 ∧ m.1 ≤ 9223372036854775807) ∧ (-9223372036854775808 ≤ m.2 ∧ m.2 ≤ 9223372036854775807) := by
 intro m hm
 unfold fltM at hm
 obtain ⟨v, hv, rfl⟩ := List.mem_map.1 hm
 obtain ⟨hv, h2⟩ := List.mem_filter.1 hv
 obtain ⟨a, b, hab, e⟩ := mk2_of (v := v) (by simpa using h2)
 have h3 := memD_may v (List.mem_of_mem_take hv)
 rw [hab] at h3
 have h4 := h3 a (by simp)
 have h5 := h3 b (by simp)
 rw [e]
 exact ⟨⟨by show _ ≤ a.n; omega, by show a.n ≤ _; omega⟩, ⟨by show _ ≤ b.n; omega, by show b.n ≤ _; omega⟩⟩
theorem rg_okR {r : List UInt8 × Int} {s : List UInt8} (h : okR r s = true) : r.2 = 0 ∧ r.1 = s := by
 unfold okR at h
 simpa using h
theorem mk2_markJ' (l : List MarkT) : (l.map markJ).map mk2 = l := by
 rw [List.map_map]
 conv => rhs; rw [← List.map_id l]
 rfl
theorem two_markJ' (l : List MarkT) : twoB (l.map markJ) = true := by
 unfold twoB
 rw [List.all_map, List.all_eq_true]
 intro m _
 rfl
theorem flt_ok (s : List UInt8) : okR (putMksR (fltM (memD (valOf s) marksN).l)) s = mksOk s ∧ (mksOk s = true → fltM (memD (valOf s) marksN).l = mksOf s) := by
 have key : mksOk s = true → fltM (memD (valOf s) marksN).l = mksOf s := by
  intro h
  unfold mksOk at h
  rw [Bool.and_eq_true] at h
  have h1 := (rg_okR h.2).1
  have h2 : ((memD (valOf s) marksN).l.map mk2).length ≤ 8 := by
   unfold putMksR at h1
   split at h1
   · next hm => exact hm.2
   cases h1
  rw [List.length_map] at h2
  exact flt_two h.1 (by omega)
 refine ⟨?_, key⟩
 cases hk : mksOk s with
 | true =>
  rw [key hk]
  unfold mksOk at hk
  rw [Bool.and_eq_true] at hk
  exact hk.2
 | false =>
  cases ho : okR (putMksR (fltM (memD (valOf s) marksN).l)) s with
  | false => rfl
  | true =>
   generalize fltM (memD (valOf s) marksN).l = l at ho
   obtain ⟨h1, h2⟩ := rg_okR ho
   have hv : memD (valOf s) marksN = .mk 6 0 [] (l.map markJ) [] := by
    rw [← h2, (mks_row h1).1.val]
    rfl
   unfold mksOk at hk
   rw [hv] at hk
   simp only [JV.l] at hk
   rw [two_markJ', mk2_markJ', ho] at hk
   cases hk
def fltK (l : List JV) (k : Nat) : List MarkT := ((l.take k).filter (fun v => v.l.length == 2)).map mk2
theorem fltK_yes {l : List JV} {k : Nat} (h : k < l.length) (h2 : l[k].l.length = 2) : fltK l (k + 1) = fltK l k ++ [mk2 l[k]] := by
 unfold fltK
 rw [List.take_succ_eq_append_getElem h, List.filter_append, List.map_append]
 simp [h2]
theorem fltK_no {l : List JV} {k : Nat} (h : k < l.length) (h2 : l[k].l.length ≠ 2) : fltK l (k + 1) = fltK l k := by
 unfold fltK
 rw [List.take_succ_eq_append_getElem h, List.filter_append, List.map_append]
 simp [h2]
theorem fltK_end (l : List JV) : fltK l (min l.length 9) = fltM l := by
 unfold fltK fltM
 rcases Nat.le_total l.length 9 with h | h
 · rw [Nat.min_eq_left h, List.take_length, List.take_of_length_le h]
 rw [Nat.min_eq_right h]
theorem fltK_len (l : List JV) (k : Nat) : (fltK l k).length ≤ k := by
 unfold fltK
 have := List.length_filter_le (fun v : JV => v.l.length == 2) (l.take k)
 simp only [List.length_map]
 simp only [List.length_take] at this
 omega
theorem infoMr : (Tryz.prog.info? 91).map (fun i => (i.zero, i.size, i.bytes)) = some (some (.agg #[.int .i64 0, .int .i64 0]), 2, 16) := by kernel_rfl
theorem five_eq5 {x0 x1 x2 x3 x4 y0 y1 y2 y3 y4 : Value} (h : [x0, x1, x2, x3, x4] = [y0, y1, y2, y3, y4]) : x3 = y3 ∧ x4 = y4 := by
 simp only [List.cons.injEq] at h
 exact ⟨h.2.2.2.1, h.2.2.2.2.1⟩
def GrI (W2 W : World) (l : List JV) (v : Value) (k : Nat) : Prop := Below W2.heap.size W2 W ∧ W.ownsRow W2.heap.size 91 2 v (fltK l k).length ((fltK l k).map cellsM).flatten
set_option maxRecDepth 100000 in
set_option maxHeartbeats 8000000 in
theorem rgMks_any (s : List UInt8) (w : World) (hl : s.length ≤ 1000000) :
 Calls Tryz.prog 24 #[str s] w fun e w' => ∃ u, e = .returned (.tuple #[u, .bool (mksOk s)]) ∧ RdMk w' u (if mksOk s = true then mksOf s else []) ∧ Below w.heap.size w w' := by
 have CP := part_any s marksN w hl
 obtain ⟨h1, h2⟩ := flt_ok s
 have h3 := flt_range (s := s) (nm := marksN)
 obtain ⟨X, hX⟩ : ∃ X, X = memD (valOf s) marksN := ⟨_, rfl⟩
 rw [← hX] at CP h1 h2 h3
 obtain ⟨OK, hOK⟩ : ∃ OK, OK = mksOk s := ⟨_, rfl⟩
 obtain ⟨LL, hLL⟩ : ∃ LL, LL = (if OK = true then mksOf s else []) := ⟨_, rfl⟩
 rw [← hOK] at h1 h2 ⊢
 rw [← hLL]
 obtain ⟨t, c0, htc⟩ : ∃ t c, (t, c) = putMksR (fltM X.l) := ⟨_, _, rfl⟩
 have hok := okR_of (putMksR (fltM X.l)) s
 rw [← htc] at hok
 rw [htc, h1] at hok
 rw [← htc] at hok
 have CM : Hid (∀ (v : Value) (W : World), RdMk W v (fltM X.l) → Calls Tryz.prog 47 #[v] W fun e w' => e = .returned (.tuple #[str t, .int .i64 c0]) ∧ Below W.heap.size W w') := Lib.hid (fun v W hv => by
  have h := rputMarks_any v (fltM X.l) W hv (Nat.le_trans (flt_len _) (by omega)) h3
  rw [← htc] at h
  exact h)
 have HOK := Lib.hid hok
 have HLL : Hid (LL = (if OK = true then fltM X.l else [])) := Lib.hid (by
  rw [hLL]
  cases ho : OK with
  | true => rw [h2 ho]
  | false => rfl)
 obtain ⟨i0, hi, hz0, hz1, hz2⟩ := info_parts infoMr
 have CP : Hid (Calls Tryz.prog 42 #[str s, str [109, 97, 114, 107, 115]] w fun e w' => ∃ cs, e = .returned (.agg cs.toArray) ∧ RdJ w' (fun _ => True) X cs ∧ Below w.heap.size w w') := Lib.hid CP
 clear hX hOK hLL hok htc h1 h2 h3 hl
 go_enter Tryz.func24, Tryz.ntmps24
 go_wp2_with fail
 refine CP.out.mono ?_
 rintro e w1 ⟨cs, rfl, hv, hb1⟩
 obtain ⟨al, ll, cl, am, lm, cm, rfl, ⟨rl, hrl, hll, rfl⟩, _⟩ := hv.open
 go_upto_region 2 with fail
 refine wp_any_world (fun W => Below w1.heap.size w1 W ∧ W.heap[w1.heap.size]? = some (.cells #[.int .i64 X.kind, .int .i64 X.n, str X.s, .slice al X.l.length cl, .slice am lm cm] 95 (0, 0))) ⟨below_alloc _ _, heap_alloc_new _ _⟩ ?_
 rintro w2 ⟨hb2, hx2⟩
 obtain ⟨q, hq⟩ : ∃ q, q = w1.heap.size := ⟨_, rfl⟩
 rw [← hq] at hx2 ⊢
 have H2 := Lib.hid (And.intro (hb1.trans (hb2.mono hb1.size)) hx2)
 have HL := Lib.hid (And.intro (hrl.frm (Frm.of_below (F := fun _ => False) hb2) (fun _ _ e => e)) (hll.up hb2))
 clear hb1 hv CP hrl hll hb2 hx2 hq
 go_wp2_with fail
 go_loopw [5, 6] (fun lv iv wr => ∃ k : Nat, k ≤ min X.l.length 9 ∧ iv = .int .i64 (k : Int) ∧ Hid (GrI w2 wr X.l lv k)) (fun _ iv _ => min X.l.length 9 - (intOf iv).toNat)
 case atStart => exact ⟨0, Nat.zero_le _, rfl, Lib.hid ⟨Below.refl _ _, World.ownsRow_nil _ _ _ 2⟩⟩
 case round =>
  obtain ⟨v5, hv5⟩ : ∃ v, v = u5 := ⟨_, rfl⟩
  subst hv5
  obtain ⟨k, hk, rfl, HI⟩ := hrel
  have hbq := box_up H2.out.2 HI.out.1
  have p3 := box_cell hbq 3
  have i0' : (0 : Int) ≤ (k : Int) := by omega
  clear hbq
  go_upto_region 4 with fail
  go_cut [19] from 11 to 51 (fun c wx => c = .bool (decide (k < min X.l.length 9)) ∧ wx = wr)
  case first =>
   by_cases a1 : k < X.l.length
   · have n1 : (k : Int) < (X.l.length : Int) := by omega
     by_cases a2 : k ≤ 8
     · have n2 : (k : Int) ≤ 8 := by omega
       have hd : decide (k < min X.l.length 9) = true := decide_eq_true (by omega)
       clear hk
       go_wp2_with fail
       go_meet
       exact ⟨by rw [hd], rfl⟩
     have n2 : ¬ (k : Int) ≤ 8 := by omega
     have hd : decide (k < min X.l.length 9) = false := decide_eq_false (by omega)
     clear hk
     go_wp2_with fail
     go_meet
     exact ⟨by rw [hd], rfl⟩
   have n1 : ¬ (k : Int) < (X.l.length : Int) := by omega
   have hd : decide (k < min X.l.length 9) = false := decide_eq_false (by omega)
   clear hk
   go_wp2_with fail
   go_meet
   exact ⟨by rw [hd], rfl⟩
  case rest =>
  obtain ⟨hv19, hwx⟩ := hcut
  have hwy := hwx.symm
  clear hwx
  subst hwy
  by_cases hlt : k < min X.l.length 9
  · rw [decide_eq_true hlt] at hv19
    subst hv19
    have hlx : k < X.l.length := by omega
    have hk9 : (k : Int) < 9 := by omega
    have n1 : (k : Int) < (X.l.length : Int) := by omega
    obtain ⟨b, off, a, n, c, a', n', c', rfl, _, hbw, hx, c0', c1, c2, c3, c4⟩ := RdJ.part HL.out.1 HL.out.2 hlx
    obtain ⟨x, hxx⟩ : ∃ x, x = X.l[k] := ⟨_, rfl⟩
    rw [← hxx] at hx
    have HXX := Lib.hid hxx
    clear hxx
    obtain ⟨al2, ll2, cl2, am2, lm2, cm2, he, ⟨rl2, hrl2, hll2, hn2⟩, _⟩ := hx.open
    obtain ⟨he3, _⟩ := five_eq5 he
    simp only [Value.slice.injEq] at he3
    obtain ⟨rfl, rfl, rfl⟩ := he3
    subst hn2
    have e3 : wr.cell? ⟨b, off + k * 5 + 3, none⟩ = some (.slice a x.l.length c) := (HI.out.1.cell (p := ⟨b, off + k * 5 + 3, none⟩) hbw).trans c3
    have HBW := Lib.hid hbw
    clear c0' c1 c2 c3 c4 hx he hbw
    go_upto_region 6 with fail
    by_cases h2 : x.l.length = 2
    · obtain ⟨A, B, hAB, hmk⟩ := mk2_of h2
      rw [hAB] at hll2
      rw [h2] at hrl2 e3
      obtain ⟨b2, off2, y1, y2, y3, y4, y5, y6, rfl, _, hbw2, _, _, f1, _⟩ := RdJ.part hrl2 hll2 (k := 0) (by simp)
      obtain ⟨b3, off3, z1, z2, z3, z4, z5, z6, he3, _, hbw3, _, _, g1, _⟩ := RdJ.part hrl2 hll2 (k := 1) (by simp)
      simp only [Option.some.injEq, Addr.mk.injEq, and_true] at he3
      obtain ⟨rfl, rfl⟩ := he3
      have f1 : w2.cell? ⟨b2, off2 + 1, none⟩ = some (.int .i64 A.n) := by simpa using f1
      have g1 : w2.cell? ⟨b2, off2 + 5 + 1, none⟩ = some (.int .i64 B.n) := by simpa using g1
      have HTK : Hid (fltK X.l (k + 1) = fltK X.l k ++ [(A.n, B.n)]) := Lib.hid (by rw [fltK_yes hlx (by rw [← HXX.out]; exact h2), ← HXX.out, hmk])
      have HKS : Hid (∀ W', Below w2.heap.size w2 W' → W'.cell? ⟨q, 3, none⟩ = some (.slice (some ⟨b, off, none⟩) X.l.length cl) ∧ W'.cell? ⟨b, off + k * 5 + 3, none⟩ = some (.slice (some ⟨b2, off2, none⟩) 2 c) ∧ W'.cell? ⟨b2, off2 + 1, none⟩ = some (.int .i64 A.n) ∧ W'.cell? ⟨b2, off2 + 5 + 1, none⟩ = some (.int .i64 B.n)) := Lib.hid (by
       have p3' := box_cell H2.out.2 3
       have e3' := (HI.out.1.cell (p := ⟨b, off + k * 5 + 3, none⟩) HBW.out).symm.trans e3
       exact fun W' hb => ⟨box_cell (box_up H2.out.2 hb) 3, (hb.cell (p := ⟨b, off + k * 5 + 3, none⟩) HBW.out).trans e3', (hb.cell (p := ⟨b2, off2 + 1, none⟩) hbw2).trans f1, (hb.cell (p := ⟨b2, off2 + 5 + 1, none⟩) hbw2).trans g1⟩)
      have HB : Hid (Below w2.heap.size w2 wr.drew) := Lib.hid (Below.drewsN HI.out.1 1)
      have HO : Hid (wr.drew.ownsRow w2.heap.size 91 2 v5 (fltK X.l k).length ((fltK X.l k).map cellsM).flatten) := Lib.hid HI.out.2
      have HN9 := Lib.hid (fltK_len X.l k)
      obtain ⟨m, hm⟩ : ∃ m, m = (fltK X.l k).length := ⟨_, rfl⟩
      rw [← hm] at HO HN9
      have HM := Lib.hid hm
      have hmk9 : m ≤ 9 := by have := HN9.out; omega
      clear hm f1 g1 hrl2 hll2 hAB h2 hbw2 hbw3
      go_wp2_with fail
      go_region_held3 (fun W' => W'.cell? ⟨q, 3, none⟩ = some (.slice (some ⟨b, off, none⟩) X.l.length cl) ∧ W'.cell? ⟨b, off + k * 5 + 3, none⟩ = some (.slice (some ⟨b2, off2, none⟩) 2 c) ∧ W'.cell? ⟨b2, off2 + 1, none⟩ = some (.int .i64 A.n) ∧ W'.cell? ⟨b2, off2 + 5 + 1, none⟩ = some (.int .i64 B.n))
       (first
         | (exact HS7.out)
         | (exact HKS.out _ (Below.trans HB.out ((below_alloc _ _).mono HB.out.size)))
         | (exact HKS.out _ HB.out)
         | go_keep)
       ((first
         | (refine step_appendN (by rfl) _ _ 51 (by rfl) (size := 2) (bytes := 16) Tryz.underlying51 hi hz0 hz1 hz2 rfl (by decide) (by rfl) (World.ownsRow.alloc HO.out _) [.int .i64 A.n, .int .i64 B.n] (by rfl) (heap_alloc_new _ _) rfl ?_ ?_ ?_ ?_ ?_
            · intro u hu
              simp only [List.mem_cons, List.not_mem_nil, or_false] at hu
              rcases hu with rfl | rfl <;> rfl
            · unfold maxLen; omega
            · omega
            · have := HB.out.size; simp at this ⊢; omega
            intro v7 w7 ho7 hg7
            have HB7 := Lib.hid ((HB.out.trans ((below_alloc wr.drew _).mono HB.out.size)).grown hg7 (Nat.le_trans HB.out.size (below_alloc wr.drew _).size) (fun j ej => (World.ownsRow.lt HO.out j ej).1))
            have HS7 := Lib.hid (HKS.out w7 HB7.out)
            have HN : Hid (GrI w2 w7 X.l v7 (k + 1)) := Lib.hid ⟨HB7.out, by rw [HTK.out, List.length_append, ← HM.out, List.map_append, List.flatten_append]; exact ho7⟩
            clear ho7 hg7)
         | fail))
      all_goals
       clear HKS HS7
       go_wp2_with fail
       go_roundw
       case rel => exact ⟨k + 1, by omega, by go_num, HN⟩
       case measure => simp [intOf]; omega
    have t2 : ((x.l.length : Int) == 2) = false := by rw [beq_eq_false_iff_ne]; omega
    have t3 : (x.l.length == 2) = false := by rw [beq_eq_false_iff_ne]; exact h2
    have HN : Hid (GrI w2 wr X.l v5 (k + 1)) := Lib.hid ⟨HI.out.1, by rw [fltK_no hlx (by rw [← HXX.out]; exact h2)]; exact HI.out.2⟩
    go_wp2_with fail
    go_roundw
    case rel => exact ⟨k + 1, by omega, by go_num, HN⟩
    case measure => simp [intOf]; omega
  rw [decide_eq_false hlt] at hv19
  subst hv19
  obtain rfl : k = min X.l.length 9 := by omega
  have HR : Hid (RdMk wr v5 (fltM X.l)) := Lib.hid (by
   have h := HI.out.2
   rw [fltK_end] at h
   exact RdMk.of_row h)
  have HWB : Hid (Below w.heap.size w wr) := Lib.hid (H2.out.1.trans (HI.out.1.mono H2.out.1.size))
  have C7 := Lib.hid (CM.out v5 wr HR.out)
  obtain ⟨a6, c6, rfl, _⟩ := HR.out.form
  clear HI p3 hlt hk CM
  go_wp2_with fail
  refine C7.out.mono ?_
  rintro e w5 ⟨rfl, hb5⟩
  have HU := Lib.hid (And.intro (HWB.out.trans (hb5.mono HWB.out.size)) (HR.out.up hb5))
  clear hb5 C7
  rcases HOK.out with ⟨t1, e9⟩ | ⟨t1, t2, e9⟩ | ⟨t1, t2, e9⟩
  · have E9 := Lib.hid e9
    clear e9 HOK
    have n1 : ¬ c0 = 0 := by simpa using t1
    have n2 : (c0 != 0) = true := by simpa using t1
    go_wp2_with fail
    go_ret2
    exact ⟨.slice none 0 0, by rw [E9.out]; rfl, by rw [HLL.out, E9.out]; exact RdMk.nil _, HU.out.1⟩
  · have E9 := Lib.hid e9
    clear e9 HOK
    obtain rfl : c0 = 0 := by simpa using t1
    clear t1
    have t2 : (t == s) = false := t2
    have n3 : ¬ t = s := by simpa using t2
    have n4 : (!t == s) = true := by rw [t2]; rfl
    go_wp2_with fail
    go_ret2
    exact ⟨.slice none 0 0, by rw [E9.out]; rfl, by rw [HLL.out, E9.out]; exact RdMk.nil _, HU.out.1⟩
  have E9 := Lib.hid e9
  clear e9 HOK
  obtain rfl : c0 = 0 := by simpa using t1
  clear t1
  obtain rfl : t = s := by simpa using t2
  clear t2
  go_wp2_with fail
  go_ret2
  refine ⟨_, ?_, by rw [HLL.out, E9.out]; exact HU.out.2, HU.out.1⟩
  rw [E9.out]
  rfl
end Go.Proofs.YtegblhmcfemfgaaGreatDoor
set_option maxRecDepth 100000
set_option maxHeartbeats 16000000
namespace Go.Proofs.YtegblhmcfemfgaaGreatDoor
open Go.RowKit
theorem feed_both (s : List UInt8) (hl : s.length ≤ 1000000) : ∃ ft fn p, (∀ W : World, TabJ W.heap.size W → Calls Tryz.prog 12 #[str s] W fun e w' => e = .returned (.tuple #[.agg #[str ft, .int .i64 fn], .bool p]) ∧ Below W.heap.size W w') ∧ ∀ W : World, Calls Tryz.prog 20 #[str s] W fun e w' => e = .returned (.tuple #[.agg #[str ft, .int .i64 fn], .bool p]) ∧ Below W.heap.size W w' := by
 cases hp : okR (putFeedR (wrdO (valOf s) titleN) (nbrO (valOf s) [110])) s with
 | true =>
  refine ⟨wrdO (valOf s) titleN, nbrO (valOf s) [110], true, fun W ht => ?_, fun W => ?_⟩
  · have h := getFeed_any s W hl ht
    simp only [show okR (putFeedR (wrdO (valOf s) [116, 105, 116, 108, 101]) (nbrO (valOf s) [110])) s = true from hp, if_true] at h
    exact h
  have h := rgFeed_any s W hl
  simp only [show okR (putFeedR (wrdO (valOf s) titleN) (nbrO (valOf s) [110])) s = true from hp, if_true] at h
  exact h
 | false =>
  refine ⟨[], 0, false, fun W ht => ?_, fun W => ?_⟩
  · have h := getFeed_any s W hl ht
    simp only [show okR (putFeedR (wrdO (valOf s) [116, 105, 116, 108, 101]) (nbrO (valOf s) [110])) s = false from hp, Bool.false_eq_true, if_false] at h
    exact h
  have h := rgFeed_any s W hl
  simp only [show okR (putFeedR (wrdO (valOf s) titleN) (nbrO (valOf s) [110])) s = false from hp, Bool.false_eq_true, if_false] at h
  exact h
theorem state_both (s : List UInt8) (hl : s.length ≤ 1000000) : ∃ s1 s2 p, (∀ W : World, TabJ W.heap.size W → Calls Tryz.prog 15 #[str s] W fun e w' => e = .returned (.tuple #[.agg #[.int .i64 s1, .int .i64 s2], .bool p]) ∧ Below W.heap.size W w') ∧ ∀ W : World, Calls Tryz.prog 23 #[str s] W fun e w' => e = .returned (.tuple #[.agg #[.int .i64 s1, .int .i64 s2], .bool p]) ∧ Below W.heap.size W w' := by
 cases hp : okR (putStateR (nbrO (valOf s) readN) (nbrO (valOf s) starN)) s with
 | true =>
  refine ⟨nbrO (valOf s) readN, nbrO (valOf s) starN, true, fun W ht => ?_, fun W => ?_⟩
  · have h := getState_any s W hl ht
    simp only [show okR (putStateR (nbrO (valOf s) [114, 101, 97, 100]) (nbrO (valOf s) [115, 116, 97, 114])) s = true from hp, if_true] at h
    exact h
  have h := rgState_any s W hl
  simp only [show okR (putStateR (nbrO (valOf s) readN) (nbrO (valOf s) starN)) s = true from hp, if_true] at h
  exact h
 | false =>
  refine ⟨0, 0, false, fun W ht => ?_, fun W => ?_⟩
  · have h := getState_any s W hl ht
    simp only [show okR (putStateR (nbrO (valOf s) [114, 101, 97, 100]) (nbrO (valOf s) [115, 116, 97, 114])) s = false from hp, Bool.false_eq_true, if_false] at h
    exact h
  have h := rgState_any s W hl
  simp only [show okR (putStateR (nbrO (valOf s) readN) (nbrO (valOf s) starN)) s = false from hp, Bool.false_eq_true, if_false] at h
  exact h
theorem sub_both (s : List UInt8) (hl : s.length ≤ 1000000) : ∃ fo p, (∀ W : World, TabJ W.heap.size W → Calls Tryz.prog 14 #[str s] W fun e w' => e = .returned (.tuple #[str fo, .bool p]) ∧ Below W.heap.size W w') ∧ ∀ W : World, Calls Tryz.prog 22 #[str s] W fun e w' => e = .returned (.tuple #[str fo, .bool p]) ∧ Below W.heap.size W w' := by
 cases hp : okR (putSubR (wrdO (valOf s) folderN)) s with
 | true =>
  refine ⟨wrdO (valOf s) folderN, true, fun W ht => ?_, fun W => ?_⟩
  · have h := getSub_any s W hl ht
    simp only [show okR (putSubR (wrdO (valOf s) folderN)) s = true from hp, if_true] at h
    exact h
  have h := rgSub_any s W hl
  simp only [show okR (putSubR (wrdO (valOf s) folderN)) s = true from hp, if_true] at h
  exact h
 | false =>
  refine ⟨[], false, fun W ht => ?_, fun W => ?_⟩
  · have h := getSub_any s W hl ht
    simp only [show okR (putSubR (wrdO (valOf s) folderN)) s = false from hp, Bool.false_eq_true, if_false] at h
    exact h
  have h := rgSub_any s W hl
  simp only [show okR (putSubR (wrdO (valOf s) folderN)) s = false from hp, Bool.false_eq_true, if_false] at h
  exact h
theorem ent_both (s : List UInt8) (num : Int) (hl : s.length ≤ 1000000) : ∃ em eg et el ew p, (∀ W : World, TabJ W.heap.size W → Calls Tryz.prog 13 #[str s, .int .i64 num] W fun e w' => e = .returned (.tuple #[.agg #[.int .i64 em, str eg, str et, str el, .int .i64 ew], .bool p]) ∧ Below W.heap.size W w') ∧ ∀ W : World, Calls Tryz.prog 21 #[str s, .int .i64 num] W fun e w' => e = .returned (.tuple #[.agg #[.int .i64 em, str eg, str et, str el, .int .i64 ew], .bool p]) ∧ Below W.heap.size W w' := by
 cases hp : entOk s with
 | true =>
  refine ⟨num, wrdO (valOf s) guidN, wrdO (valOf s) titleN, wrdO (valOf s) linkN, nbrO (valOf s) whenN, true, fun W ht => ?_, fun W => ?_⟩
  · have h := getEnt_any s num W hl ht
    simp only [show entOk s = true from hp, if_true] at h
    exact h
  have h := rgEntry_any s num W hl
  simp only [show entOk s = true from hp, if_true] at h
  exact h
 | false =>
  refine ⟨0, [], [], [], 0, false, fun W ht => ?_, fun W => ?_⟩
  · have h := getEnt_any s num W hl ht
    simp only [show entOk s = false from hp, Bool.false_eq_true, if_false] at h
    exact h
  have h := rgEntry_any s num W hl
  simp only [show entOk s = false from hp, Bool.false_eq_true, if_false] at h
  exact h
theorem reads_long (s : List UInt8) (n : Int) (w : World) (hl : 20000 < s.length) (hl2 : s.length ≤ 9223372036854775807) :
 Calls Tryz.prog 5 #[str s, .int .i64 n] w fun e w' => e = .returned (.bool true) ∧ Below w.heap.size w w' := by
 have k1 : (20000 : Int) < (s.length : Int) := by omega
 have FST : Hid (∀ W, Calls Tryz.prog 6 #[] W fun e w' => e = .returned (.bool true) ∧ Below W.heap.size W w') := Lib.hid mkfirst_any
 have C1 := Lib.hid (FST.out w)
 clear hl hl2
 go_enter Tryz.func5, Tryz.ntmps5
 go_wp2_with fail
 refine C1.out.mono ?_
 rintro e w1 ⟨rfl, hb1⟩
 have HB1 := Lib.hid hb1
 have C2 := Lib.hid (FST.out w1)
 clear hb1 C1
 go_wp2_with fail
 refine C2.out.mono ?_
 rintro e w2 ⟨rfl, hb2⟩
 have HB2 := Lib.hid (HB1.out.trans (hb2.mono HB1.out.size))
 clear hb2 C2
 go_wp2_with fail
 go_ret
 exact ⟨rfl, HB2.out⟩
theorem reads_rows (s : List UInt8) (n : Int) (w : World) (hl : s.length ≤ 20000) (ht : TabJ w.heap.size w) :
 Calls Tryz.prog 5 #[str s, .int .i64 n] w fun e w' => e = .returned (.bool true) ∧ Below w.heap.size w w' := by
 have k1 : ¬ (20000 : Int) < (s.length : Int) := by omega
 obtain ⟨ft, fn, p1, F1, F2⟩ := feed_both s (by omega)
 obtain ⟨em, eg, et, el, ew, p2, E1, E2⟩ := ent_both s n (by omega)
 obtain ⟨fo, p3, S1, S2⟩ := sub_both s (by omega)
 obtain ⟨s1, s2, p4, T1, T2⟩ := state_both s (by omega)
 have M1 := fun W h => getMks_any s W (by omega) h
 have M2 := fun W => rgMks_any s W (by omega)
 obtain ⟨ml, hml⟩ : ∃ l, l = (if mksOk s = true then mksOf s else []) := ⟨_, rfl⟩
 have hmln : ml.length ≤ 1000000 := by
  rw [hml]
  split
  · next hk =>
    rw [← (flt_ok s).2 hk]
    exact Nat.le_trans (flt_len _) (by omega)
  simp
 rw [← hml] at M1 M2
 generalize mksOk s = p5 at M1 M2
 have HML := Lib.hid hmln
 have F1 := Lib.hid F1
 have F2 := Lib.hid F2
 have E1 := Lib.hid E1
 have E2 := Lib.hid E2
 have S1 := Lib.hid S1
 have S2 := Lib.hid S2
 have T1 := Lib.hid T1
 have T2 := Lib.hid T2
 have M1 := Lib.hid M1
 have M2 := Lib.hid M2
 have HT := Lib.hid ht
 have FST : Hid (∀ W, Calls Tryz.prog 6 #[] W fun e w' => e = .returned (.bool true) ∧ Below W.heap.size W w') := Lib.hid mkfirst_any
 have C1 := Lib.hid (FST.out w)
 clear hl ht hml hmln
 go_enter Tryz.func5, Tryz.ntmps5
 go_wp2_with fail
 refine C1.out.mono ?_
 rintro e w1 ⟨rfl, hb⟩
 have HB := Lib.hid hb
 clear hb C1
 have CC := Lib.hid (F1.out w1 (fun w' h' => HT.out w' (HB.out.trans (h'.mono HB.out.size))))
 clear F1
 go_wp2_with fail
 refine CC.out.mono ?_
 rintro e w2 ⟨rfl, hb⟩
 have HB := Lib.hid (HB.out.trans (hb.mono HB.out.size))
 clear hb CC
 go_upto_region 6 with fail
 refine wp_any_world (fun W => Below w2.heap.size w2 W ∧ W.heap[w2.heap.size]? = some (.cells #[str ft, .int .i64 fn] 23 (0, 0))) ⟨below_alloc _ _, heap_alloc_new _ _⟩ ?_
 rintro w3 ⟨hb, hx⟩
 obtain ⟨q5, hq⟩ : ∃ q, q = w2.heap.size := ⟨_, rfl⟩
 rw [← hq] at hx ⊢
 have HB := Lib.hid (HB.out.trans (hb.mono HB.out.size))
 have Hq5 := Lib.hid hx
 clear hb hx hq
 have CC := Lib.hid (F2.out w3)
 clear F2
 go_wp2_with fail
 refine CC.out.mono ?_
 rintro e w4 ⟨rfl, hb⟩
 have HB := Lib.hid (HB.out.trans (hb.mono HB.out.size))
 have Hq5 := Lib.hid (box_up Hq5.out hb)
 clear hb CC
 go_upto_region 7 with fail
 refine wp_any_world (fun W => Below w4.heap.size w4 W ∧ W.heap[w4.heap.size]? = some (.cells #[str ft, .int .i64 fn] 55 (0, 0))) ⟨below_alloc _ _, heap_alloc_new _ _⟩ ?_
 rintro w5 ⟨hb, hx⟩
 obtain ⟨q7, hq⟩ : ∃ q, q = w4.heap.size := ⟨_, rfl⟩
 rw [← hq] at hx ⊢
 have HB := Lib.hid (HB.out.trans (hb.mono HB.out.size))
 have Hq5 := Lib.hid (box_up Hq5.out hb)
 have Hq7 := Lib.hid hx
 clear hb hx hq
 have CC := Lib.hid (E1.out w5 (fun w' h' => HT.out w' (HB.out.trans (h'.mono HB.out.size))))
 clear E1
 go_wp2_with fail
 refine CC.out.mono ?_
 rintro e w6 ⟨rfl, hb⟩
 have HB := Lib.hid (HB.out.trans (hb.mono HB.out.size))
 have Hq5 := Lib.hid (box_up Hq5.out hb)
 have Hq7 := Lib.hid (box_up Hq7.out hb)
 clear hb CC
 go_upto_region 8 with fail
 refine wp_any_world (fun W => Below w6.heap.size w6 W ∧ W.heap[w6.heap.size]? = some (.cells #[.int .i64 em, str eg, str et, str el, .int .i64 ew] 25 (0, 0))) ⟨below_alloc _ _, heap_alloc_new _ _⟩ ?_
 rintro w7 ⟨hb, hx⟩
 obtain ⟨q9, hq⟩ : ∃ q, q = w6.heap.size := ⟨_, rfl⟩
 rw [← hq] at hx ⊢
 have HB := Lib.hid (HB.out.trans (hb.mono HB.out.size))
 have Hq5 := Lib.hid (box_up Hq5.out hb)
 have Hq7 := Lib.hid (box_up Hq7.out hb)
 have Hq9 := Lib.hid hx
 clear hb hx hq
 have CC := Lib.hid (E2.out w7)
 clear E2
 go_wp2_with fail
 refine CC.out.mono ?_
 rintro e w8 ⟨rfl, hb⟩
 have HB := Lib.hid (HB.out.trans (hb.mono HB.out.size))
 have Hq5 := Lib.hid (box_up Hq5.out hb)
 have Hq7 := Lib.hid (box_up Hq7.out hb)
 have Hq9 := Lib.hid (box_up Hq9.out hb)
 clear hb CC
 go_upto_region 9 with fail
 refine wp_any_world (fun W => Below w8.heap.size w8 W ∧ W.heap[w8.heap.size]? = some (.cells #[.int .i64 em, str eg, str et, str el, .int .i64 ew] 25 (0, 0))) ⟨below_alloc _ _, heap_alloc_new _ _⟩ ?_
 rintro w9 ⟨hb, hx⟩
 obtain ⟨q11, hq⟩ : ∃ q, q = w8.heap.size := ⟨_, rfl⟩
 rw [← hq] at hx ⊢
 have HB := Lib.hid (HB.out.trans (hb.mono HB.out.size))
 have Hq5 := Lib.hid (box_up Hq5.out hb)
 have Hq7 := Lib.hid (box_up Hq7.out hb)
 have Hq9 := Lib.hid (box_up Hq9.out hb)
 have Hq11 := Lib.hid hx
 clear hb hx hq
 have CC := Lib.hid (S1.out w9 (fun w' h' => HT.out w' (HB.out.trans (h'.mono HB.out.size))))
 clear S1
 go_wp2_with fail
 refine CC.out.mono ?_
 rintro e w10 ⟨rfl, hb⟩
 have HB := Lib.hid (HB.out.trans (hb.mono HB.out.size))
 have Hq5 := Lib.hid (box_up Hq5.out hb)
 have Hq7 := Lib.hid (box_up Hq7.out hb)
 have Hq9 := Lib.hid (box_up Hq9.out hb)
 have Hq11 := Lib.hid (box_up Hq11.out hb)
 clear hb CC
 have CC := Lib.hid (S2.out w10)
 clear S2
 go_wp2_with fail
 refine CC.out.mono ?_
 rintro e w11 ⟨rfl, hb⟩
 have HB := Lib.hid (HB.out.trans (hb.mono HB.out.size))
 have Hq5 := Lib.hid (box_up Hq5.out hb)
 have Hq7 := Lib.hid (box_up Hq7.out hb)
 have Hq9 := Lib.hid (box_up Hq9.out hb)
 have Hq11 := Lib.hid (box_up Hq11.out hb)
 clear hb CC
 have CC := Lib.hid (T1.out w11 (fun w' h' => HT.out w' (HB.out.trans (h'.mono HB.out.size))))
 clear T1
 go_wp2_with fail
 refine CC.out.mono ?_
 rintro e w12 ⟨rfl, hb⟩
 have HB := Lib.hid (HB.out.trans (hb.mono HB.out.size))
 have Hq5 := Lib.hid (box_up Hq5.out hb)
 have Hq7 := Lib.hid (box_up Hq7.out hb)
 have Hq9 := Lib.hid (box_up Hq9.out hb)
 have Hq11 := Lib.hid (box_up Hq11.out hb)
 clear hb CC
 go_upto_region 12 with fail
 refine wp_any_world (fun W => Below w12.heap.size w12 W ∧ W.heap[w12.heap.size]? = some (.cells #[.int .i64 s1, .int .i64 s2] 27 (0, 0))) ⟨below_alloc _ _, heap_alloc_new _ _⟩ ?_
 rintro w13 ⟨hb, hx⟩
 obtain ⟨q17, hq⟩ : ∃ q, q = w12.heap.size := ⟨_, rfl⟩
 rw [← hq] at hx ⊢
 have HB := Lib.hid (HB.out.trans (hb.mono HB.out.size))
 have Hq5 := Lib.hid (box_up Hq5.out hb)
 have Hq7 := Lib.hid (box_up Hq7.out hb)
 have Hq9 := Lib.hid (box_up Hq9.out hb)
 have Hq11 := Lib.hid (box_up Hq11.out hb)
 have Hq17 := Lib.hid hx
 clear hb hx hq
 have CC := Lib.hid (T2.out w13)
 clear T2
 go_wp2_with fail
 refine CC.out.mono ?_
 rintro e w14 ⟨rfl, hb⟩
 have HB := Lib.hid (HB.out.trans (hb.mono HB.out.size))
 have Hq5 := Lib.hid (box_up Hq5.out hb)
 have Hq7 := Lib.hid (box_up Hq7.out hb)
 have Hq9 := Lib.hid (box_up Hq9.out hb)
 have Hq11 := Lib.hid (box_up Hq11.out hb)
 have Hq17 := Lib.hid (box_up Hq17.out hb)
 clear hb CC
 go_upto_region 13 with fail
 refine wp_any_world (fun W => Below w14.heap.size w14 W ∧ W.heap[w14.heap.size]? = some (.cells #[.int .i64 s1, .int .i64 s2] 58 (0, 0))) ⟨below_alloc _ _, heap_alloc_new _ _⟩ ?_
 rintro w15 ⟨hb, hx⟩
 obtain ⟨q19, hq⟩ : ∃ q, q = w14.heap.size := ⟨_, rfl⟩
 rw [← hq] at hx ⊢
 have HB := Lib.hid (HB.out.trans (hb.mono HB.out.size))
 have Hq5 := Lib.hid (box_up Hq5.out hb)
 have Hq7 := Lib.hid (box_up Hq7.out hb)
 have Hq9 := Lib.hid (box_up Hq9.out hb)
 have Hq11 := Lib.hid (box_up Hq11.out hb)
 have Hq17 := Lib.hid (box_up Hq17.out hb)
 have Hq19 := Lib.hid hx
 clear hb hx hq
 have CC := Lib.hid (M1.out w15 (fun w' h' => HT.out w' (HB.out.trans (h'.mono HB.out.size))))
 clear M1
 go_wp2_with fail
 refine CC.out.mono ?_
 rintro e w16 ⟨u, rfl, hu, hb⟩
 obtain ⟨au1, cu1, rfl, _⟩ := hu.form
 have HB := Lib.hid (HB.out.trans (hb.mono HB.out.size))
 have Hq5 := Lib.hid (box_up Hq5.out hb)
 have Hq7 := Lib.hid (box_up Hq7.out hb)
 have Hq9 := Lib.hid (box_up Hq9.out hb)
 have Hq11 := Lib.hid (box_up Hq11.out hb)
 have Hq17 := Lib.hid (box_up Hq17.out hb)
 have Hq19 := Lib.hid (box_up Hq19.out hb)
 have Hu1 := Lib.hid hu
 clear hu
 clear hb CC
 have CC := Lib.hid (M2.out w16)
 clear M2
 go_wp2_with fail
 refine CC.out.mono ?_
 rintro e w17 ⟨u, rfl, hu, hb⟩
 obtain ⟨au2, cu2, rfl, _⟩ := hu.form
 have HB := Lib.hid (HB.out.trans (hb.mono HB.out.size))
 have Hq5 := Lib.hid (box_up Hq5.out hb)
 have Hq7 := Lib.hid (box_up Hq7.out hb)
 have Hq9 := Lib.hid (box_up Hq9.out hb)
 have Hq11 := Lib.hid (box_up Hq11.out hb)
 have Hq17 := Lib.hid (box_up Hq17.out hb)
 have Hq19 := Lib.hid (box_up Hq19.out hb)
 have Hu1 := Lib.hid (Hu1.out.up hb)
 have Hu2 := Lib.hid hu
 clear hu
 clear hb CC
 have CC := Lib.hid (FST.out w17)
 go_wp2_with fail
 refine CC.out.mono ?_
 rintro e wa ⟨rfl, hb⟩
 have HB := Lib.hid (HB.out.trans (hb.mono HB.out.size))
 have Hq5 := Lib.hid (box_up Hq5.out hb)
 have Hq7 := Lib.hid (box_up Hq7.out hb)
 have Hq9 := Lib.hid (box_up Hq9.out hb)
 have Hq11 := Lib.hid (box_up Hq11.out hb)
 have Hq17 := Lib.hid (box_up Hq17.out hb)
 have Hq19 := Lib.hid (box_up Hq19.out hb)
 have Hu1 := Lib.hid (Hu1.out.up hb)
 have Hu2 := Lib.hid (Hu2.out.up hb)
 clear hb CC
 obtain ⟨z00, z01⟩ := box2 Hq5.out
 obtain ⟨z10, z11⟩ := box2 Hq7.out
 obtain ⟨z20, z21, z22, z23, z24⟩ := box5 Hq9.out
 obtain ⟨z30, z31, z32, z33, z34⟩ := box5 Hq11.out
 have CC := Lib.hid (entry_same em eg et el ew wa)
 go_wp2_with fail
 refine CC.out.mono ?_
 rintro e wb ⟨rfl, hb⟩
 have HB := Lib.hid (HB.out.trans (hb.mono HB.out.size))
 have Hq5 := Lib.hid (box_up Hq5.out hb)
 have Hq7 := Lib.hid (box_up Hq7.out hb)
 have Hq9 := Lib.hid (box_up Hq9.out hb)
 have Hq11 := Lib.hid (box_up Hq11.out hb)
 have Hq17 := Lib.hid (box_up Hq17.out hb)
 have Hq19 := Lib.hid (box_up Hq19.out hb)
 have Hu1 := Lib.hid (Hu1.out.up hb)
 have Hu2 := Lib.hid (Hu2.out.up hb)
 clear hb CC
 clear z00 z01 z10 z11 z20 z21 z22 z23 z24 z30 z31 z32 z33 z34
 obtain ⟨z40, z41⟩ := box2 Hq17.out
 obtain ⟨z50, z51⟩ := box2 Hq19.out
 have CC := Lib.hid (samek_any _ _ ml wb Hu1.out Hu2.out HML.out)
 go_wp2_with fail
 refine CC.out.mono ?_
 rintro e wd ⟨rfl, hb⟩
 have HB := Lib.hid (HB.out.trans (hb.mono HB.out.size))
 clear hb CC
 clear z40 z41 z50 z51
 go_wp2_with fail
 go_ret
 exact ⟨rfl, HB.out⟩
theorem reads_main (fo : ByteArray) (n : Int) (w : World) (hfo : fo.size ≤ maxLen) (_ : -9223372036854775808 ≤ n ∧ n ≤ 9223372036854775807) (ht : TabJ w.heap.size w) :
 Calls Tryz.prog 5 #[.string fo, .int .i64 n] w fun e w' => e = .returned (.bool true) ∧ Below w.heap.size w w' := by
 obtain ⟨⟨l⟩⟩ := fo
 by_cases h : l.length ≤ 20000
 · exact reads_rows l n w h ht
 exact reads_long l n w (by omega) (by unfold maxLen at hfo; exact hfo)
end Go.Proofs.YtegblhmcfemfgaaGreatDoor
