import Derived.Ground.SlsfProg
import Derived.Shelf.SlSortCmp.WholeK
import Derived.Test.YtidlhajibjnkeaaGreatDoorProg
import Derived.Shelf.Small.Strs
import Derived.Test.YtidlhajibjnkeaaGreatDoorJMemb
import Derived.Test.YtidlhajibjnkeaaGreatDoorBl
/-
  DERIVED: THE SHELF's CONTRACTS AT THIS DUMP, IN PLAIN WORDS (tools/lay-plain.mjs out of 'YtidlhajibjnkeaaGreatDoorSortL.lean', which tools/lay-shelf.mjs wrote): THE SAME DECLARATIONS UNDER THE SAME NAMES: 'import', 'namespace', 'open', 'def', 'theorem' AND NOTHING ELSE: no command of the shelf's: FOR A HAND-IN. Each laying: the table of numbers ('.._ren') and one theorem, a field a fact of the dump's own or the kernel's comparison; each contract: ONE APPLICATION.
-/
namespace Go.Proofs
open Go.Shelf
def Tryz.sortJ_ren : Go.Shelf.Ren := ⟨fun | 6 => 65 | 15 => 82 | 14 => 81 | 28 => 99 | 29 => 100 | 20 => 91 | 21 => 92 | 22 => 93 | 23 => 94 | 24 => 95 | 25 => 96 | 26 => 97 | 27 => 98 | 46 => 111 | 47 => 112 | 48 => 113 | 49 => 114 | 50 => 115 | 57 => 124 | n => n, fun | 22 => 26 | 24 => 53 | 25 => 109 | 3 => 3 | 39 => 117 | 0 => 0 | 53 => 136 | 55 => 124 | 4 => 4 | 46 => 129 | 45 => 128 | 50 => 133 | 5 => 5 | 9 => 9 | 66 => 149 | 70 => 153 | 76 => 163 | 77 => 140 | n => n, fun | n => n⟩
theorem Tryz.sortJ : Go.Proofs.SlLaysF0.n6 Tryz.prog Tryz.sortJ_ren := {
  mixed := by kernel_rfl
  f6 := ⟨Tryz.f65.name, by decide, Tryz.func65.trans (congrArg some (by kernel_rfl))⟩
  f14 := ⟨Tryz.f81.name, by decide, Tryz.func81.trans (congrArg some (by kernel_rfl))⟩
  f15 := Tryz.func82.trans (congrArg some (by kernel_rfl))
  f20 := ⟨Tryz.f91.name, by decide, Tryz.func91.trans (congrArg some (by kernel_rfl))⟩
  f21 := ⟨Tryz.f92.name, by decide, Tryz.func92.trans (congrArg some (by kernel_rfl))⟩
  f22 := ⟨Tryz.f93.name, by decide, Tryz.func93.trans (congrArg some (by kernel_rfl))⟩
  f23 := ⟨Tryz.f94.name, by decide, Tryz.func94.trans (congrArg some (by kernel_rfl))⟩
  f24 := ⟨Tryz.f95.name, by decide, Tryz.func95.trans (congrArg some (by kernel_rfl))⟩
  f25 := ⟨Tryz.f96.name, by decide, Tryz.func96.trans (congrArg some (by kernel_rfl))⟩
  f26 := ⟨Tryz.f97.name, by decide, Tryz.func97.trans (congrArg some (by kernel_rfl))⟩
  f27 := ⟨Tryz.f98.name, by decide, Tryz.func98.trans (congrArg some (by kernel_rfl))⟩
  f28 := Tryz.func99.trans (congrArg some (by kernel_rfl))
  f29 := Tryz.func100.trans (congrArg some (by kernel_rfl))
  f46 := ⟨Tryz.f111.name, by decide, Tryz.func111.trans (congrArg some (by kernel_rfl))⟩
  f47 := Tryz.func112.trans (congrArg some (by kernel_rfl))
  f48 := Tryz.func113.trans (congrArg some (by kernel_rfl))
  f49 := ⟨Tryz.f114.name, by decide, Tryz.func114.trans (congrArg some (by kernel_rfl))⟩
  f50 := ⟨Tryz.f115.name, by decide, Tryz.func115.trans (congrArg some (by kernel_rfl))⟩
  f57 := ⟨Tryz.f124.name, by decide, Tryz.func124.trans (congrArg some (by kernel_rfl))⟩
  t0 := Tryz.underlying0
  a0 := Tryz.isAgg0
  z0 := Tryz.sizeOf0
  v0 := Tryz.zeroValue0
  t3 := Tryz.underlying3
  a3 := Tryz.isAgg3
  z3 := Tryz.sizeOf3
  v3 := Tryz.zeroValue3
  t4 := Tryz.underlying4
  a4 := Tryz.isAgg4
  z4 := Tryz.sizeOf4
  v4 := Tryz.zeroValue4
  t5 := Tryz.underlying5
  a5 := Tryz.isAgg5
  z5 := Tryz.sizeOf5
  v5 := Tryz.zeroValue5
  t9 := Tryz.underlying9
  a9 := Tryz.isAgg9
  z9 := Tryz.sizeOf9
  v9 := Tryz.zeroValue9
  t22 := Tryz.underlying26
  a22 := Tryz.isAgg26
  z22 := Tryz.sizeOf26
  v22 := Tryz.zeroValue26
  t25 := Tryz.underlying109
  a25 := Tryz.isAgg109
  z25 := Tryz.sizeOf109
  v25 := Tryz.zeroValue109
  t39 := Tryz.underlying117
  a39 := Tryz.isAgg117
  z39 := Tryz.sizeOf117
  v39 := Tryz.zeroValue117
  t45 := Tryz.underlying128
  a45 := Tryz.isAgg128
  z45 := Tryz.sizeOf128
  v45 := Tryz.zeroValue128
  t46 := Tryz.underlying129
  a46 := Tryz.isAgg129
  z46 := Tryz.sizeOf129
  v46 := Tryz.zeroValue129
  t50 := Tryz.underlying133
  a50 := Tryz.isAgg133
  z50 := Tryz.sizeOf133
  v50 := Tryz.zeroValue133
  t53 := Tryz.underlying136
  a53 := Tryz.isAgg136
  z53 := Tryz.sizeOf136
  v53 := Tryz.zeroValue136
  t55 := Tryz.underlying124
  a55 := Tryz.isAgg124
  z55 := Tryz.sizeOf124
  v55 := Tryz.zeroValue124
  t66 := Tryz.underlying149
  a66 := Tryz.isAgg149
  z66 := Tryz.sizeOf149
  v66 := Tryz.zeroValue149
  t70 := Tryz.underlying153
  a70 := Tryz.isAgg153
  z70 := Tryz.sizeOf153
  v70 := Tryz.zeroValue153
  t76 := Tryz.underlying163
  a76 := Tryz.isAgg163
  z76 := Tryz.sizeOf163
  v76 := Tryz.zeroValue163
  t77 := Tryz.underlying140
  a77 := Tryz.isAgg140
  z77 := Tryz.sizeOf140
  v77 := Tryz.zeroValue140 }
end Go.Proofs

/- The contract of strings.Compare, off the shelf. -/
namespace Go.Proofs
open Go.Shelf
def Tryz.lays106_ren : Go.Shelf.Ren := ⟨fun | 106 => 67 | 213 => 83 | 265 => 101 | n => n, fun | 9 => 9 | 3 => 3 | n => n, fun | n => n⟩
theorem Tryz.lays106 : Go.Proofs.Lays.n106 Tryz.prog Tryz.lays106_ren := {
  mixed := by kernel_rfl
  f106 := Tryz.func67.trans (congrArg some (by kernel_rfl))
  f213 := Tryz.func83.trans (congrArg some (by kernel_rfl))
  f265 := Tryz.func101.trans (congrArg some (by kernel_rfl))
  t3 := Tryz.underlying3
  a3 := Tryz.isAgg3
  z3 := Tryz.sizeOf3
  v3 := Tryz.zeroValue3
  t9 := Tryz.underlying9
  a9 := Tryz.isAgg9
  z9 := Tryz.sizeOf9
  v9 := Tryz.zeroValue9 }
open Go.RowKit in
/-- strings.Compare: "Compare returns an integer comparing two strings lexicographically. The result will be 0 if a == b, -1 if a < b, and +1 if a > b.": IT RETURNS 'Lib.compareBytes a b'; the world is as it was. (LAID: no walk: one application.) -/
theorem Tryz.strings_Compare (a b : ByteArray) (w : World) :
    Calls Tryz.prog 67 #[.string a, .string b] w fun e w' => e = .returned (.int .i64 (Lib.compareBytes a.data.toList b.data.toList)) ∧ w' = w := Any.strings_Compare Tryz.lays106 a b w
end Go.Proofs

/- JSON: members sorted by their names: slices.SortFunc, off the shelf. -/
namespace Go.Proofs.YtidlhajibjnkeaaGreatDoor
open Go.RowKit

/-- A member as it lies. -/
structure MemR where
  m : MemT
  c1 : Value
  c2 : Value
  c3 : Value
  c4 : Value
  c5 : Value
  h : ∀ v ∈ [c1, c2, c3, c4, c5], v.oneCell' = true
instance inhMemR : Inhabited MemR := ⟨⟨default, .int .i64 0, .int .i64 0, .int .i64 0, .int .i64 0, .int .i64 0, by simp [Value.oneCell']⟩⟩
def encR (x : MemR) : List Value := [str x.m.1, x.c1, x.c2, x.c3, x.c4, x.c5]
def cmpR (x y : MemR) : Int := Lib.compareBytes x.m.1 y.m.1
theorem cmp_less : ∀ a b : List UInt8, Lib.compareBytes a b < 0 ↔ Op.bytesLess a b = true
  | [], [] => by simp [Lib.compareBytes, Op.bytesLess]
  | [], _ :: _ => by simp [Lib.compareBytes, Op.bytesLess]
  | _ :: _, [] => by simp [Lib.compareBytes, Op.bytesLess]
  | a :: s, b :: t => by
    have ih := cmp_less s t
    unfold Lib.compareBytes Op.bytesLess
    by_cases h1 : a < b
    · simp [h1]
    · by_cases h2 : b < a
      · simp only [h1, h2, if_false, if_true]
        have : a ≠ b := fun e => by subst e; exact h1 h2
        simp [this]
      · have e : a = b := UInt8.toNat_inj.1 (by rw [UInt8.lt_iff_toNat_lt] at h1 h2; omega)
        subst e
        simp only [h1, if_false]
        rw [ih]
        simp
theorem ltR (x y : MemR) : ltOf cmpR x y = Op.bytesLess x.m.1 y.m.1 := by
  unfold ltOf cmpR
  have := cmp_less x.m.1 y.m.1
  cases h : Op.bytesLess x.m.1 y.m.1 with
  | true => exact decide_eq_true (this.2 h)
  | false => exact decide_eq_false (fun h2 => by rw [this.1 h2] at h; cases h)
theorem swoR : Go.Sort.SWO (ltOf cmpR) where
  irrefl x := by rw [ltR]; exact bl_irr _
  trans x y z h1 h2 := by rw [ltR] at *; exact bl_tr _ _ _ h1 h2
  ntrans x y z h1 h2 := by
    rw [ltR] at *
    cases h : Op.bytesLess x.m.1 z.m.1 with
    | false => rfl
    | true =>
      cases h3 : Op.bytesLess y.m.1 x.m.1 with
      | true =>
        have := bl_tr _ _ _ h3 h
        rw [this] at h2; cases h2
      | false =>
        have e := bl_tot _ _ h1 h3
        rw [e, h2] at h; cases h
theorem cloR_any (x y : MemR) (W : World) : Calls Tryz.prog 66 #[.agg (encR x).toArray, .agg (encR y).toArray] W fun e w' => e = .returned (.int .i64 (cmpR x y)) ∧ ∃ q os', w' = Go.Sort.grow (W.drewN q) os' := by
  have CC : Hid (∀ W, Calls Tryz.prog 67 #[str x.m.1, str y.m.1] W fun e w' => e = .returned (.int .i64 (cmpR x y)) ∧ w' = W) := Lib.hid (fun W => Tryz.strings_Compare _ _ W)
  obtain ⟨c, hc⟩ : ∃ c, c = cmpR x y := ⟨_, rfl⟩
  rw [← hc] at CC ⊢
  obtain ⟨⟨k, v⟩, c1, c2, c3, c4, c5, h⟩ := x
  obtain ⟨⟨k', v'⟩, d1, d2, d3, d4, d5, h'⟩ := y
  dsimp only [encR] at CC ⊢
  clear hc
  simp only [List.mem_cons, List.not_mem_nil, or_false, forall_eq_or_imp, forall_eq] at h h'
  obtain ⟨h1, h2, h3, h4, h5⟩ := h
  obtain ⟨g1, g2, g3, g4, g5⟩ := h'
  go_enter Tryz.func66, Tryz.ntmps66
  go_wp2_with fail
  refine (CC.out _).mono ?_
  rintro e w' ⟨rfl, hw⟩
  have HW := Lib.hid hw
  clear hw CC
  go_wp2_with fail
  go_ret
  exact ⟨rfl, 0, _, by rw [HW.out, Go.Sort.alloc_eq_grow, Go.Sort.alloc_eq_grow, Go.Sort.grow_grow]; rfl⟩
theorem arrR (l : List MemR) (i : Nat) (h : i < l.length) : l.toArray[i]! = l[i] := by
  rw [getElem!_pos l.toArray i (by simpa using h)]; simp
theorem encR_len (l : List MemR) : ∀ r ∈ l.map encR, r.length = 6 := by
  intro r hr
  obtain ⟨x, _, rfl⟩ := List.mem_map.1 hr
  rfl
theorem holdsR {w : World} {n0 B cap : Nat} {T : TypeId} {l : List MemR} (hr : w.ownsRow n0 T 6 (.slice (some ⟨B, 0, none⟩) l.length cap) l.length (l.map encR).flatten) :
    Go.Sort.HoldsK encR 6 w B 0 l.toArray ∧ B < w.heap.size ∧ n0 ≤ B ∧ l.length ≤ 9223372036854775807 ∧ l.length ≤ cap ∧ cap ≤ 9223372036854775807 := by
  rcases hr.2 with ⟨he, _⟩ | ⟨g, cap', cur, he, hg0, hg, h1, h2, h3, h4⟩
  · cases he
  · simp only [Value.slice.injEq, Option.some.injEq, Addr.mk.injEq] at he
    obtain ⟨⟨rfl, _⟩, _, rfl⟩ := he
    have hlt : B < w.heap.size := by
      by_cases q : B < w.heap.size
      · exact q
      · rw [Array.getElem?_eq_none (by omega)] at hg; cases hg
    simp only [maxLen] at h2
    refine ⟨fun j hj => ?_, hlt, hg0, by omega, h1, by omega⟩
    rw [Go.Sort.size_flatK] at hj
    have hs : l.toArray.size = l.length := by simp
    rw [hs] at hj
    have hi : j / 6 < l.length := by omega
    have hf := flat_at 6 (l.map encR) (encR_len l) (j / 6) (by simpa using hi) (j % 6) (by omega)
    have ej : j / 6 * 6 + j % 6 = j := by omega
    rw [ej] at hf
    have e2 := congrArg (fun z => z[j]?) h4
    simp only [List.getElem?_take] at e2
    rw [if_pos hj, hf] at e2
    constructor
    · rw [Go.Sort.get_flatK _ _ _ _ (by rw [hs]; exact hj)]
      simp only [World.cell?, hg, Nat.zero_add, id]
      rw [arrR l _ hi]
      have hc : (encR l[j / 6])[j % 6]? = some ((encR l[j / 6])[j % 6]!) := by
        have : j % 6 < (encR l[j / 6]).length := by simp [encR]; omega
        rw [getElem!_pos (encR l[j / 6]) (j % 6) this, List.getElem?_eq_getElem this]
      simp only [List.getElem_map] at e2
      rw [hc] at e2
      simpa using e2
    · simp [World.frozen?, hg]
theorem frm_sortR {w : World} {B n : Nat} {d : Array MemR} {os : Array Obj} : Frm (fun i => i = B) w (sortWorldK encR 6 w B 0 n d os) := by
  unfold sortWorldK Go.Sort.putRowK Go.Sort.putRow Go.Sort.mapBlock Go.Sort.grow Go.Sort.ahead
  refine ⟨rfl, rfl, rfl, ?_, fun k hk hn => ?_⟩
  · simp
  · simp only [Array.getElem?_append, Array.size_modify]
    rw [if_pos (by omega), Array.getElem?_modify, if_neg (by omega)]
set_option maxHeartbeats 1000000 in
theorem jsort_any (n0 B cap : Nat) (l : List MemR) (w : World) (hr : w.ownsRow n0 53 6 (.slice (some ⟨B, 0, none⟩) l.length cap) l.length (l.map encR).flatten) (h12 : l.length ≤ 1000000) :
    Calls Tryz.prog 65 #[.slice (some ⟨B, 0, none⟩) l.length cap, .func (.func 66) #[] #[]] w fun e w' => e = .returned (.tuple #[]) ∧ ∃ d : List MemR, d.Perm l ∧ d.Pairwise (fun a b => Op.bytesLess b.m.1 a.m.1 = false) ∧ RdFB (fun i => i = B) 6 w' (.slice (some ⟨B, 0, none⟩) l.length cap) (d.map encR) ∧ Frm (fun i => i = B) w w' := by
  obtain ⟨hH, hlt, hn, hmax, hcap, hcapm⟩ := holdsR hr
  have hsz : l.toArray.size = l.length := by simp
  have eg : ∀ args w, (callFunc 66 args).run Tryz.prog w = .ok (.enter 66 args) w := enters_of Tryz.func66 (by kernel_rfl) rfl
  have hcon := AnyQ.slices_SortFunc Tryz.sortJ 6 Tryz.isAgg53 Tryz.sizeOf53 encR (fun _ => rfl) (fun x v hv => by
    have := x.h
    simp only [encR, List.mem_cons, List.not_mem_nil, or_false] at hv
    rcases hv with rfl | hv
    · rfl
    · exact this v (by simpa using hv)) cmpR swoR 66 #[] B 0 cap l.toArray w eg (fun _ _ _ _ x y => cloR_any x y _) hH hlt (by rw [hsz]; omega)
  rw [hsz] at hcon
  refine Calls.mono (f := 65) hcon ?_
  rintro e w' ⟨rfl, d', n, os, hp, hs, rfl⟩
  refine ⟨rfl, d'.toList, ?_, ?_, ?_, frm_sortR⟩
  · have h3 := hp.2.2
    have h1 := hp.1
    rw [Array.extract_eq_self_of_le (by omega), Array.extract_eq_self_of_le (by omega)] at h3
    simpa using h3
  · rw [List.pairwise_iff_getElem]
    intro i j hi hj hij
    have h1 := hp.1
    rw [hsz] at h1
    have hq := hs i j (Nat.zero_le _) hij (by simpa [h1] using hj)
    rw [ltR] at hq
    rw [getElem!_pos d' i (by simpa using hi), getElem!_pos d' j (by simpa using hj)] at hq
    simpa using hq
  · have h1 := hp.1
    have hH' := holdsK_sortWorldK_c encR 6 w B 0 l.toArray d' n os hH hlt h1
    rw [hsz] at h1
    have hl : d'.toList.length = l.length := by simp [h1]
    have hl2 : (d'.toList.map encR).length = l.length := by rw [List.length_map, hl]
    refine ⟨_, cap, by rw [hl2], by rw [hl2]; exact hmax, by rw [hl2]; exact hcap, hcapm, fun _ => ⟨B, 0, rfl, rfl, fun i hi j u hu => ?_⟩⟩
    have hi' : i < d'.size := by simpa using hi
    have hj : j < 6 := by
      have := (List.getElem?_eq_some_iff.1 hu).1
      simpa [encR] using this
    have := (Go.Sort.HoldsK.cell hH' hi' hj).1
    rw [this, getElem!_pos d' i hi']
    simp only [List.getElem_map, Array.getElem_toList] at hu
    rw [← hu]
    have h2 : j < (encR d'[i]).length := by simpa [encR] using hj
    rw [getElem!_pos (encR d'[i]) j h2, List.getElem?_eq_getElem h2]
/-- Members as they lie, in whatever order. -/
theorem rdM_all {W : World} {F : Nat → Prop} : ∀ {d : List MemR}, (∀ x ∈ d, RdJ W F x.m.2 [x.c1, x.c2, x.c3, x.c4, x.c5]) → RdM W F (d.map (fun x => x.m)) (d.map encR)
  | [], _ => by unfold RdM; trivial
  | x :: t, h => by
    have h1 := h x (by simp)
    have h2 := rdM_all (d := t) (fun y hy => h y (by simp [hy]))
    obtain ⟨⟨k, v⟩, c1, c2, c3, c4, c5, hc⟩ := x
    simp only [List.map_cons]
    unfold RdM
    exact ⟨⟨_, rfl, h1⟩, h2⟩
theorem rdM_some {W : World} {F : Nat → Prop} : ∀ {l : List MemT} {rs : List (List Value)}, RdM W F l rs → ∃ d : List MemR, d.map (fun x => x.m) = l ∧ d.map encR = rs ∧ ∀ x ∈ d, RdJ W F x.m.2 [x.c1, x.c2, x.c3, x.c4, x.c5]
  | [], [], _ => ⟨[], rfl, rfl, by simp⟩
  | (k, v) :: t, r :: rs, h => by
    unfold RdM at h
    obtain ⟨⟨cs, rfl, hv⟩, h2⟩ := h
    obtain ⟨d, h3, h4, h5⟩ := rdM_some h2
    obtain ⟨al, ll, cl, am, lm, cm, rfl, _, _⟩ := hv.open
    refine ⟨⟨(k, v), .int .i64 v.kind, .int .i64 v.n, str v.s, .slice al ll cl, .slice am lm cm, by simp [Value.oneCell']⟩ :: d, by simp [h3], by simp [h4, encR], fun x hx => ?_⟩
    rcases List.mem_cons.1 hx with rfl | hx
    · exact hv
    · exact h5 x hx
  | [], _ :: _, h => by unfold RdM at h; exact h.elim
  | _ :: _, [], h => by unfold RdM at h; exact h.elim
end Go.Proofs.YtidlhajibjnkeaaGreatDoor
