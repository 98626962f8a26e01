/- diff.Of[string]: what is told; what it ranges over. -/
import Derived.Test.YteibiaplmmdppaaMergeSS
import Derived.Test.YteibiaplmmdppaaKeysWSS
import Derived.Test.YteibiaplmmdppaaAllSS
import Derived.Test.YteibiaplmmdppaaGetSS
import Derived.Test.YteibiaplmmdppaaDSameSS
namespace Go.Proofs.Yteibiaplmmdppaa
open Go.RowKit
attribute [local go_sem] Oper.semAt_some wide_fn wide_depth

/-- Are two values the same? -/
def sameBSS : Value → Value → Bool
  | .string a, .string b => a.data.toList == b.data.toList
  | _, _ => false
/-- A change. -/
abbrev chgVSS (k v : Value) (g : Bool) : Value := .agg #[k, v, .bool g]
/-- What has become of a key; nothing, if it is as it was. -/
def chgFSS (ta tb : Tr) (k : Value) : Option Value :=
  match getT k ta, getT k tb with
  | some x, some y => if sameBSS x y = true then none else some (chgVSS k y false)
  | none, some y => some (chgVSS k y false)
  | _, none => some (chgVSS k (str []) true)
/-- All changes of some pairs' keys. -/
def chgsSS (ta tb : Tr) (l : List (Value × Value)) : List Value := l.filterMap (fun p => chgFSS ta tb p.1)
def chgLSS (ta tb : Tr) : List Value := chgsSS ta tb (mrgL (prs ta) (prs tb))
theorem chgs_appSS (ta tb : Tr) (a b : List (Value × Value)) : chgsSS ta tb (a ++ b) = chgsSS ta tb a ++ chgsSS ta tb b := by simp [chgsSS]
/-- What All ranges over, wherever its box lies. -/
theorem alls2SS_any {Wr : TypeId → Prop} {b Bm : Nat} {t : Tr} {w W : World} (hm : MP w b t) (hW : Below w.heap.size w W) (hc : W.cell? ⟨Bm, 0, none⟩ = some (.pointer (some ⟨b, 0, none⟩))) :
    Seqs Try.prog 51 #[.pointer (some ⟨Bm, 0, none⟩)] (fun p => #[p.1, p.2]) (NK w) Wr (prs t) W := by
  intro l J Jx hJ hJx hOk hY h0
  obtain ⟨T, o, hb, ht⟩ := hm
  have hb' : W.heap[b]? = some (.cells #[.pointer o, .int .i64 ((prs t).length : Int)] T (0, 0)) := by rw [hW.block b (Array.getElem?_eq_some_iff.1 hb).1]; exact hb
  have c0 : W.cell? ⟨b, 0, none⟩ = some (.pointer o) := by simp [World.cell?, hb']
  have hr := riseSS_any (xs := prs t) hJ hOk hY t o [] W 8 ht h0 ⟨[], by simp⟩
  have hdd : ∀ k : Nat, (Fence.wide.depth.isSome = true → 1 ≤ k) := fun k h => by cases h
  clear hb hb' ht
  refine (callsIn_wide (n := 9)).1 ?_
  refine callsIn_of_wp Try.func51 rfl trivial ?_ rfl
  simp only [Try.ntmps51, List.size_toArray, List.length_cons, List.length_nil, Nat.reduceAdd, Nat.reduceSub, Array.replicate_succ, Array.replicate_zero, List.push_toArray, List.append_toArray, List.nil_append, List.cons_append]
  gi_wp2_with (gi_at_call 52; refine hr.mono ?_; clear hr; rintro e W1 (⟨rfl, hJ1⟩ | ⟨rfl, q, hq, hx⟩))
  · go_end0
    exact ⟨⟨_, rfl⟩, .inl (by simpa using hJ1)⟩
  · go_end0
    exact ⟨⟨_, rfl⟩, .inr ⟨q, hq, by simpa using hx⟩⟩
/-- Two maps as Of has them. -/
structure OfPSS (w : World) (b1 b2 : Nat) (ta tb : Tr) : Prop where
  ma : MP w b1 ta
  mb : MP w b2 tb
  wa : WS KSSS VSSS ta
  wb : WS KSSS VSSS tb
  la : (prs ta).length ≤ 1000000
  lb : (prs tb).length ≤ 1000000
/-- The boxes that All, All, Merge, Keys make: what is ranged over. -/
theorem of_readySS {Wr : TypeId → Prop} {w w6 : World} {b1 b2 Ba Bb : Nat} {ta tb : Tr} (h : OfPSS w b1 b2 ta tb) (hW : Below w.heap.size w w6) (ha : w6.cell? ⟨Ba, 0, none⟩ = some (.pointer (some ⟨b1, 0, none⟩))) (hb : w6.cell? ⟨Bb, 0, none⟩ = some (.pointer (some ⟨b2, 0, none⟩)))
    (w1 : ¬ Wr 92) (w2 : ¬ Wr 95) (w3 : ¬ Wr 63) (w4 : ¬ Wr 75) (w9 : World)
    (e9 : w9 = (((w6.alloc (.cells #[.func (.func 51) #[] #[.pointer (some ⟨Ba, 0, none⟩)]] 70)).alloc (.cells #[.func (.func 51) #[] #[.pointer (some ⟨Bb, 0, none⟩)]] 70)).alloc (.cells #[.func (.func 48) #[] #[.pointer (some ⟨w6.heap.size, 0, none⟩), .pointer (some ⟨w6.heap.size + 1, 0, none⟩)]] 70))) :
    ∀ W', Below w9.heap.size w9 W' → SeqsW MrgTSS Try.prog 46 #[.pointer (some ⟨w6.heap.size + 2, 0, none⟩)] (fun p : Value × Value => #[p.1]) (NK w) Wr (mrgL (prs ta) (prs tb)) W' := by
  have s9 : w9.heap.size = w6.heap.size + 3 := by rw [e9]; simp
  have l9 : Below w6.heap.size w6 w9 := by rw [e9]; exact (((Below.refl _ w6).alloc (Nat.le_refl _) _).alloc (by simp) _).alloc (by simp; omega) _
  have c0 : w9.cell? ⟨w6.heap.size, 0, none⟩ = some (.func (.func 51) #[] #[.pointer (some ⟨Ba, 0, none⟩)]) := by rw [e9]; exact (((Boxed.new w6 _ _).alloc _).alloc _).cell
  have c1 : w9.cell? ⟨w6.heap.size + 1, 0, none⟩ = some (.func (.func 51) #[] #[.pointer (some ⟨Bb, 0, none⟩)]) := by
    have := (Boxed.new (w6.alloc (.cells #[.func (.func 51) #[] #[.pointer (some ⟨Ba, 0, none⟩)]] 70)) 70 (.func (.func 51) #[] #[.pointer (some ⟨Bb, 0, none⟩)])).alloc (.cells #[.func (.func 48) #[] #[.pointer (some ⟨w6.heap.size, 0, none⟩), .pointer (some ⟨w6.heap.size + 1, 0, none⟩)]] 70)
    rw [World.size_alloc] at this
    rw [e9]; exact this.cell
  have c2 : w9.cell? ⟨w6.heap.size + 2, 0, none⟩ = some (.func (.func 48) #[] #[.pointer (some ⟨w6.heap.size, 0, none⟩), .pointer (some ⟨w6.heap.size + 1, 0, none⟩)]) := by
    have := Boxed.new ((w6.alloc (.cells #[.func (.func 51) #[] #[.pointer (some ⟨Ba, 0, none⟩)]] 70)).alloc (.cells #[.func (.func 51) #[] #[.pointer (some ⟨Bb, 0, none⟩)]] 70)) 70 (.func (.func 48) #[] #[.pointer (some ⟨w6.heap.size, 0, none⟩), .pointer (some ⟨w6.heap.size + 1, 0, none⟩)])
    simp only [World.size_alloc] at this
    rw [e9]; exact this.cell
  clear e9
  intro W' hW'
  have at6 : ∀ {X : World}, Below w9.heap.size w9 X → ∀ {B : Nat} {v : Value}, w6.cell? ⟨B, 0, none⟩ = some v → X.cell? ⟨B, 0, none⟩ = some v := fun {X} hX {B v} hc => by
    have hlt := World.block_lt_of_cell? w6 _ hc
    exact ((hX.cell (p := ⟨B, 0, none⟩) (by show B < _; have : B < w6.heap.size := hlt; omega)).trans (l9.cell (p := ⟨B, 0, none⟩) hlt)).trans hc
  have at9 : ∀ {X : World}, Below w9.heap.size w9 X → ∀ {B : Nat} {v : Value}, w9.cell? ⟨B, 0, none⟩ = some v → X.cell? ⟨B, 0, none⟩ = some v := fun {X} hX {B v} hc =>
    (hX.cell (p := ⟨B, 0, none⟩) (World.block_lt_of_cell? w9 _ hc)).trans hc
  have toW : ∀ {X : World}, Below w9.heap.size w9 X → Below w.heap.size w X := fun hX => (hW.trans (l9.mono hW.size)).trans (hX.mono (by have := hW.size; omega))
  refine keysWSS_any (gf := 48) (enters_of Try.func48 (by kernel_rfl) rfl) (fun X hX => ?_) (at9 hW' c2) w4 (by unfold MrgTSS; decide)
  have hX9 := hW'.trans (hX.mono hW'.size)
  refine merg2_seqsSS (va := .func (.func 51) #[] #[.pointer (some ⟨Ba, 0, none⟩)]) h.la h.lb (fun p hp => ws_keys h.wa p hp) (fun p hp => ws_keys h.wb p hp) (fun Y hY => ?_) (enters_of Try.func51 (by kernel_rfl) rfl) (fun Y hY => ?_) (at9 hX9 c0) (at9 hX9 c1) w1 w2 w3
  · have hY9 := hX9.trans (hY.mono hX9.size)
    exact gather_anySS (Ok := NK w) h.la (fun p hp => ws_keys h.wa p hp) (enters_of Try.func51 (by kernel_rfl) rfl) (fun Z hZ => NK.of_below (toW (hY9.trans (hZ.mono hY9.size))))
      (fun Z hZ => alls2SS_any h.ma (toW (hY9.trans (hZ.mono hY9.size))) (at6 (hY9.trans (hZ.mono hY9.size)) ha))
  · have hY9 := hX9.trans (hY.mono hX9.size)
    exact alls2SS_any h.mb (toW hY9) (at6 hY9 hb)
end Go.Proofs.Yteibiaplmmdppaa
