/- Marks sorted by falling times: slices.SortFunc, off the shelf. -/
import Derived.Test.YtegblhmcfemfgaaDoorMkBase
import Derived.Test.YtegblhmcfemfgaaDoorMkSortL
namespace Go.Proofs.YtegblhmcfemfgaaDoor
open Go.RowKit

/-- A mark that may be. -/
def MayM : Type := {m : MarkT // mayB m = true}
instance inhMay : Inhabited MayM := ⟨⟨(0, 1), rfl⟩⟩
def encY (x : MayM) : List Value := cellsM x.1
def cfM (x y : MayM) : Int := y.1.1 - x.1.1
theorem may_time (x : MayM) : 0 ≤ x.1.1 ∧ x.1.1 ≤ 1099511627776 := by
  have := x.2
  unfold mayB at this
  rw [decide_eq_true_eq] at this
  exact ⟨this.1, this.2.1⟩
theorem cloSort_any (x y : MayM) (W : World) : Calls Tryd.prog 27 #[encM x.1, encM y.1] W fun e w' => e = .returned (.int .i64 (cfM x y)) ∧ ∃ q os', w' = Go.Sort.grow (W.drewN q) os' := by
  obtain ⟨h1, h2⟩ := may_time x
  obtain ⟨h3, h4⟩ := may_time y
  unfold cfM
  obtain ⟨⟨a, b⟩, _⟩ := x
  obtain ⟨⟨c, d⟩, _⟩ := y
  dsimp only at h1 h2 h3 h4 ⊢
  have hw : IntKind.i64.wrap (c - a) = c - a := IntWalk.i64_in _ (by omega)
  go_enter Tryd.func27, Tryd.ntmps27
  go_wp2_with fail
  go_ret
  exact ⟨rfl, 0, _, by rw [Go.Sort.alloc_eq_grow, Go.Sort.alloc_eq_grow, Go.Sort.grow_grow]; rfl⟩
theorem ltM (x y : MayM) : ltOf cfM x y = decide (y.1.1 < x.1.1) := by
  unfold ltOf cfM
  by_cases h : y.1.1 < x.1.1
  · rw [decide_eq_true h, decide_eq_true (by omega)]
  · rw [decide_eq_false h, decide_eq_false (by omega)]
theorem swoM : Go.Sort.SWO (ltOf cfM) where
  irrefl x := by rw [ltM]; simp
  trans x y z h1 h2 := by rw [ltM] at *; simp at *; omega
  ntrans x y z h1 h2 := by rw [ltM] at *; simp at *; omega
/-- The marks that may be, as such. -/
def mayOf : (l : List MarkT) → (∀ m ∈ l, mayB m = true) → List MayM
  | [], _ => []
  | x :: t, h => ⟨x, h x (by simp)⟩ :: mayOf t (fun m hm => h m (by simp [hm]))
theorem mayOf_map : ∀ (l : List MarkT) (h : ∀ m ∈ l, mayB m = true), (mayOf l h).map (fun x : MayM => x.1) = l
  | [], _ => rfl
  | x :: t, h => by
    show x :: (mayOf t _).map (fun x : MayM => x.1) = x :: t
    rw [mayOf_map t]
theorem mayOf_len (l : List MarkT) (h : ∀ m ∈ l, mayB m = true) : (mayOf l h).length = l.length := by
  have := congrArg List.length (mayOf_map l h)
  simpa using this
theorem arr_get {α : Type} [Inhabited α] (l : List α) (i : Nat) (h : i < l.length) : l.toArray[i]! = l[i] := by
  rw [getElem!_pos l.toArray i (by simpa using h)]; simp
/-- A row of its own holds its marks, none of them frozen. -/
theorem holds_of {w : World} {n0 B cap : Nat} {T : TypeId} {l : List MarkT} (h : ∀ m ∈ l, mayB m = true) (hr : w.ownsRow n0 T 2 (.slice (some ⟨B, 0, none⟩) l.length cap) l.length (l.map cellsM).flatten) :
    Go.Sort.HoldsK encY 2 w B 0 (mayOf l h).toArray ∧ B < w.heap.size ∧ n0 ≤ B ∧ l.length ≤ 9223372036854775807 ∧ l.length ≤ cap ∧ cap ≤ 9223372036854775807 := by
  rcases hr.2 with ⟨he, _⟩ | ⟨g, cap', cur, he, hg0, hg, h1, h2, h3, h4⟩
  · cases he
  · simp only [Value.slice.injEq, Option.some.injEq, Addr.mk.injEq] at he
    obtain ⟨⟨rfl, _⟩, _, rfl⟩ := he
    have hlt : B < w.heap.size := by
      by_cases q : B < w.heap.size
      · exact q
      · rw [Array.getElem?_eq_none (by omega)] at hg; cases hg
    simp only [maxLen] at h2
    refine ⟨fun j hj => ?_, hlt, hg0, by omega, h1, by omega⟩
    rw [Go.Sort.size_flatK] at hj
    have hs : (mayOf l h).toArray.size = l.length := by simp [mayOf_len]
    rw [hs] at hj
    have hi : j / 2 < l.length := by omega
    have hf := flat_at 2 (l.map cellsM) (cellsM_len l) (j / 2) (by simpa using hi) (j % 2) (by omega)
    have ej : j / 2 * 2 + j % 2 = j := by omega
    rw [ej] at hf
    have e2 := congrArg (fun z => z[j]?) h4
    simp only [List.getElem?_take] at e2
    rw [if_pos hj, hf] at e2
    have hm : (mayOf l h).toArray[j / 2]!.1 = l[j / 2] := by
      rw [arr_get _ _ (by rw [mayOf_len]; exact hi)]
      have := congrArg (fun z => z[j / 2]?) (mayOf_map l h)
      simp only [List.getElem?_map] at this
      rw [List.getElem?_eq_getElem (by rw [mayOf_len]; exact hi), List.getElem?_eq_getElem hi] at this
      simpa using this
    constructor
    · rw [Go.Sort.get_flatK _ _ _ _ (by rw [hs]; exact hj)]
      simp only [World.cell?, hg, Nat.zero_add, id, encY, hm]
      have hc : (cellsM l[j / 2])[j % 2]? = some ((cellsM l[j / 2])[j % 2]!) := by
        have : j % 2 < (cellsM l[j / 2]).length := by simp [cellsM]; omega
        rw [getElem!_pos (cellsM l[j / 2]) (j % 2) this, List.getElem?_eq_getElem this]
      simp only [List.getElem_map] at e2
      rw [hc] at e2
      simpa using e2
    · simp [World.frozen?, hg]
/-- What the sort leaves below the row's block. -/
theorem below_sort {w : World} {n0 B n : Nat} {d : Array MayM} {os : Array Obj} (h : n0 ≤ B) (hlt : B < w.heap.size) : Below n0 w (sortWorldK encY 2 w B 0 n d os) := by
  unfold sortWorldK Go.Sort.putRowK Go.Sort.putRow Go.Sort.mapBlock Go.Sort.grow Go.Sort.ahead
  refine ⟨rfl, rfl, rfl, ?_, fun k hk => ?_⟩
  · simp
  · simp only [Array.getElem?_append, Array.size_modify]
    rw [if_pos (by omega), Array.getElem?_modify, if_neg (by omega)]
set_option maxHeartbeats 1000000 in
theorem sort_any (n0 B cap : Nat) (l : List MarkT) (w : World) (h : ∀ m ∈ l, mayB m = true) (hr : w.ownsRow n0 24 2 (.slice (some ⟨B, 0, none⟩) l.length cap) l.length (l.map cellsM).flatten) (h12 : l.length ≤ 1000) :
    Calls Tryd.prog 26 #[.slice (some ⟨B, 0, none⟩) l.length cap, .func (.func 27) #[] #[]] w fun e w' => e = .returned (.tuple #[]) ∧ ∃ d : List MarkT, d.Perm l ∧ d.Pairwise (fun a b => b.1 ≤ a.1) ∧ RdMk w' (.slice (some ⟨B, 0, none⟩) l.length cap) d ∧ Below n0 w w' := by
  obtain ⟨hH, hlt, hn, hmax, hcap, hcapm⟩ := holds_of h hr
  have hsz : (mayOf l h).toArray.size = l.length := by simp [mayOf_len]
  have eg : ∀ args w, (callFunc 27 args).run Tryd.prog w = .ok (.enter 27 args) w := enters_of Tryd.func27 (by kernel_rfl) rfl
  have hcon := AnyQ.slices_SortFunc Tryd.sortM 2 Tryd.isAgg24 Tryd.sizeOf24 encY (fun _ => rfl) (fun x v hv => by simp [encY, cellsM] at hv; rcases hv with rfl | rfl <;> rfl) cfM swoM 27 #[] B 0 cap (mayOf l h).toArray w eg (fun _ _ _ _ x y => cloSort_any x y _) hH hlt (by rw [hsz]; omega)
  rw [hsz] at hcon
  refine Calls.mono (f := 26) hcon ?_
  rintro e w' ⟨rfl, d', n, os, hp, hs, rfl⟩
  refine ⟨rfl, d'.toList.map (fun x : MayM => x.1), ?_, ?_, ?_, below_sort hn hlt⟩
  · have h3 := hp.2.2
    have h1 := hp.1
    rw [Array.extract_eq_self_of_le (by omega), Array.extract_eq_self_of_le (by omega)] at h3
    have := h3.map (fun x : MayM => x.1)
    rw [List.toList_toArray, mayOf_map] at this
    exact this
  · rw [List.pairwise_map, List.pairwise_iff_getElem]
    intro i j hi hj hij
    have h1 := hp.1
    rw [hsz] at h1
    have hq := hs i j (Nat.zero_le _) hij (by simpa [h1] using hj)
    rw [ltM, decide_eq_false_iff_not] at hq
    rw [getElem!_pos d' i (by simpa using hi), getElem!_pos d' j (by simpa using hj)] at hq
    simp only [Array.getElem_toList]
    omega
  · have h1 := hp.1
    have hH' := holdsK_sortWorldK_c encY 2 w B 0 (mayOf l h).toArray d' n os hH hlt h1
    rw [hsz] at h1
    have hl : (d'.toList.map (fun x : MayM => x.1)).length = l.length := by simp [h1]
    have hl2 : ((d'.toList.map (fun x : MayM => x.1)).map cellsM).length = l.length := by rw [List.length_map, hl]
    refine ⟨_, cap, by rw [hl2], by rw [hl2]; exact hmax, by rw [hl2]; exact hcap, hcapm, fun _ => ⟨B, 0, rfl, fun i hi j u hu => ?_⟩⟩
    have hi' : i < d'.size := by simpa using hi
    have hj : j < 2 := by
      have := (List.getElem?_eq_some_iff.1 hu).1
      simpa [cellsM] using this
    have := (Go.Sort.HoldsK.cell hH' hi' hj).1
    rw [this, getElem!_pos d' i hi']
    simp only [List.getElem_map, Array.getElem_toList] at hu
    unfold encY
    rw [← hu]
    have h2 : j < (cellsM d'[i].1).length := by simpa [cellsM] using hj
    rw [getElem!_pos (cellsM d'[i].1) j h2, List.getElem?_eq_getElem h2]
end Go.Proofs.YtegblhmcfemfgaaDoor
