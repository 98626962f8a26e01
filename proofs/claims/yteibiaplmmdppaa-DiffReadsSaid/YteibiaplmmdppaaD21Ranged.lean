/- hbllaw21.ranged: what is ranged over, as a slice. -/
import Derived.Test.YteibiaplmmdppaaAheadSS
import Derived.Test.YteibiaplmmdppaaRangeA
import Derived.Test.YteibiaplmmdppaaRdV
import Derived.Test.YteibiaplmmdppaaMrgMath
import Derived.Test.YteibiaplmmdppaaRowsF
import Derived.OwnWalkIn
import Derived.TacticsInMore
import Derived.Maps.AppendAt
namespace Go.Proofs.Yteibiaplmmdppaa
open Go.RowKit
attribute [local go_sem] Oper.semAt_some wide_fn wide_depth

theorem cell_three_new (w : World) (x y z : Value) (t : TypeId) : ∀ j u, [x, y, z][j]? = some u → (w.alloc (.cells #[x, y, z] t)).cell? ((⟨w.heap.size, 0, none⟩ : Addr).add j) = some u := by
  intro j u hj
  match j, hj with
  | 0, hj => simp at hj; subst hj; simp [Addr.add]
  | 1, hj => simp at hj; subst hj; simp [Addr.add]
  | 2, hj => simp at hj; subst hj; simp [Addr.add]
  | (j + 3), hj => simp at hj
/-- A box that holds a row of structs. -/
def BoxRowN (n₀ B : Nat) (T E : TypeId) (sz : Nat) (W : World) (k : Nat) (l : List Value) : Prop := ∃ v, Boxed W B T v ∧ W.ownsRow n₀ E sz v k l
theorem boxRowN_ownT {Tw : TypeId → Prop} {β : Type} (n₀ B : Nat) (T E : TypeId) (sz : Nat) (k : β → Nat) (f : β → List Value) (hT : ¬ Tw T) (hE : ¬ Tw E) : OwnT Tw (fun s W => BoxRowN n₀ B T E sz W (k s) (f s)) := by
  rintro s X Y row ⟨v, hv, hr⟩ hg hrow
  refine ⟨v, boxed_ownT (β := Unit) B T (fun _ => v) hT () X Y row hv hg hrow, hr.kept hg ?_⟩
  rcases hr.2 with ⟨rfl, _⟩ | ⟨g, cap, cur, rfl, _, hgb, _⟩
  · exact .inl rfl
  · refine .inr fun e' => ?_
    obtain ⟨o, ho, hc⟩ := hrow g (by simpa [Value.ownBlock] using e'.symm)
    rw [hgb] at ho
    cases ho
    rcases hc with hc | ⟨c, T, p, hc, hT'⟩
    · cases hc
    · cases hc; exact hE hT'
/-- A struct's cells. -/
def aggL : Value → List Value
  | .agg a => a.toList
  | _ => []
def flatV (l : List Value) : List Value := l.flatMap aggL
theorem flatV_enc (L : List ChgT) : flatV (L.map encC) = (L.map cellsC).flatten := by
  unfold flatV
  induction L with
  | nil => rfl
  | cons c t ih => simp only [List.map_cons, List.flatMap_cons, List.flatten_cons, ih]; rfl
theorem flatV_snoc (l : List Value) (x : Value) : flatV (l ++ [x]) = flatV l ++ aggL x := by simp [flatV]
theorem infoChg : (Try.prog.info? 48).map (fun i => (i.zero, i.size, i.bytes)) = some (some (.agg #[str [], str [], .bool false]), 3, 40) := by kernel_rfl
/-- What ranged keeps from round to round. -/
def RangedI (w : World) (N : Nat) (pre : List Value) (W : World) : Prop :=
  BoxRowN (w.heap.size + 2) (w.heap.size + 1) 35 48 3 W pre.length (flatV pre) ∧ Boxed W w.heap.size 3 (.int .i64 (N : Int)) ∧ Below w.heap.size w W
theorem rangedI_own (w : World) (N : Nat) {B : Nat} (hB : w.heap.size ≤ B) : OwnFromT MrgTSS B (RangedI w N) :=
  OwnFromT.and ((boxRowN_ownT _ _ _ _ _ (fun pre : List Value => pre.length) flatV (by unfold MrgTSS; decide) (by unfold MrgTSS; decide)).from _) (OwnFromT.and ((boxed_ownT _ _ _ (by unfold MrgTSS; decide)).from _) (ownFromT_below (Nat.le_refl _) hB))
def RangedP (w : World) (L : List ChgT) (e : Ending) (w' : World) : Prop := ∃ v, e = .returned v ∧ w'.ownsRow w.heap.size 48 3 v L.length (L.map cellsC).flatten ∧ Below w.heap.size w w'
set_option maxRecDepth 100000 in
set_option maxHeartbeats 8000000 in
theorem ranged_any {Ok : World → Prop} {gf : Nat} {lb : Array Value} {L : List ChgT} {w : World} (n : Int) (h1 : 1 ≤ n) (hx : L.length ≤ 1000000)
    (eg : ∀ args w, (callFunc gf args).run Try.prog w = .ok (.enter gf args) w) (hOk : ∀ W, Below w.heap.size w W → Ok W)
    (hs : ∀ W', Below w.heap.size w W' → SeqsW MrgTSS Try.prog gf lb (fun c : Value => #[c]) Ok (fun T => T = 48) (L.map encC) W') :
    Calls Try.prog 14 #[.func (.func gf) #[] lb, .int .i64 n] w (RangedP w (L.take n.toNat)) := by
  have hfn : ∀ w, (binOp .eql 33 (.func (.func gf) #[] lb) .nilFunc).run Try.prog w = .ok (.bool false) w := fun w => by kernel_rfl
  obtain ⟨i0, hi, hz0, hz1, hz2⟩ := info_parts infoChg
  obtain ⟨N, hN, hN1⟩ : ∃ N : Nat, n = (N : Int) ∧ 1 ≤ N := ⟨n.toNat, by omega, by omega⟩
  subst hN
  refine (callsIn_wide (n := 9)).1 ?_
  refine callsIn_of_wp_marks Try.func14 rfl trivial ?_ rfl
  simp only [Try.ntmps14, List.size_toArray, List.length_cons, List.length_nil, Nat.reduceAdd, Nat.reduceSub, Array.replicate_succ, Array.replicate_zero, List.push_toArray, List.append_toArray, List.nil_append, List.cons_append]
  gi_wp2
  have bN := Boxed.new w 3 (.int .i64 (N : Int))
  have bA := Boxed.new (w.alloc (.cells #[.int .i64 (N : Int)] 3)) 35 (.slice none 0 0)
  simp only [World.size_alloc] at bA
  have hB0 : Below w.heap.size w ((w.alloc (.cells #[.int .i64 (N : Int)] 3)).alloc (.cells #[.slice none 0 0] 35)) := (((Below.refl _ w).alloc (Nat.le_refl _) _).alloc (by simp) _)
  refine range_lawA (Tw := MrgTSS) (gf := gf) (lb := lb) rfl eg (Wr := fun T => T = 48) (xs := L.map encC) (fun W' h => hs W' (hB0.trans (h.mono (by simp; omega)))) (by intro x; rfl)
    (fun pre W => RangedI w N pre W ∧ pre.length < N)
    (fun c pre W => RangedI w N pre W ∧ c = .exit 0 ∧ pre.length = N)
    (OwnFromT.and (rangedI_own w N (by simp; omega)) (ownFromT_pure _ _ (fun pre : List Value => pre.length < N)))
    (fun c => OwnFromT.and (rangedI_own w N (by simp; omega)) (ownFromT_pure _ _ (fun pre : List Value => c = .exit 0 ∧ pre.length = N)))
    ⟨⟨⟨_, bA, World.ownsRow_nil _ _ _ _⟩, bN.alloc _, hB0⟩, by simp; omega⟩ (fun pre W h => hOk W h.1.2.2)
    (fun x b => { tmps := #[.func (.func gf) #[] lb, .int .i64 (N : Int), undef, .pointer (some ⟨w.heap.size, 0, none⟩), .slice none 0 0, .pointer (some ⟨w.heap.size + 1, 0, none⟩), .pointer (some ⟨b, 0, none⟩), .func (.func gf) #[] lb, .bool false, .bool false, .int .i64 (N : Int), .bool (decide ((N : Int) < 1)), .bool (decide ((N : Int) < 1)), .func (.func gf) #[] lb, x, undef, undef, undef, undef, undef, undef, undef, undef, undef], defers := [] })
    (fun x => .cells (aggL x).toArray 48) ?assign ?body ?done ?stop
  case assign =>
    intro l x W K hx hK
    obtain ⟨⟨ck, cv, cg⟩, _, rfl⟩ := List.mem_map.1 hx
    have HK := Lib.hid (show K { tmps := #[.func (.func gf) #[] lb, .int .i64 (N : Int), undef, .pointer (some ⟨w.heap.size, 0, none⟩), .slice none 0 0, .pointer (some ⟨w.heap.size + 1, 0, none⟩), .pointer (some ⟨W.heap.size, 0, none⟩), .func (.func gf) #[] lb, .bool false, .bool false, .int .i64 (N : Int), .bool (decide ((N : Int) < 1)), .bool (decide ((N : Int) < 1)), .func (.func gf) #[] lb, .agg #[str ck, str cv, .bool cg], undef, undef, undef, undef, undef, undef, undef, undef, undef], defers := [] } (W.alloc (.cells #[str ck, str cv, .bool cg] 48)) from hK)
    clear hK hx
    dsimp only [encC]
    gi_wp2
    exact HK.out
  case body =>
    rintro l2 pre x b W _ hbl hbo ⟨⟨⟨v, hv, hrow⟩, hn, hB⟩, hlt⟩ ⟨t, ht⟩
    obtain ⟨⟨ck, cv, cg⟩, _, rfl⟩ := List.mem_map.1 (show x ∈ L.map encC by rw [ht]; simp)
    have hbx : W.heap[b]? = some (.cells #[str ck, str cv, .bool cg] 48 (0, 0)) := hbo
    have c0 : W.cell? ⟨b, 0, none⟩ = some (str ck) := by simp [World.cell?, hbx]
    have c1 : W.cell? ⟨b, 1, none⟩ = some (str cv) := by simp [World.cell?, hbx]
    have c2 : W.cell? ⟨b, 2, none⟩ = some (.bool cg) := by simp [World.cell?, hbx]
    have cvv := hv.cell
    have hlen : pre.length + 1 ≤ 1000000 := by
      have := congrArg List.length ht
      simp at this; omega
    have hsz : w.heap.size + 2 ≤ W.heap.size := hv.lt
    have ex : flatV (pre ++ [encC (ck, cv, cg)]) = flatV pre ++ [str ck, str cv, .bool cg] := by rw [flatV_snoc]; rfl
    have HE := Lib.hid (And.intro ex (And.intro hB hlt))
    dsimp only [encC]
    clear hbo hbx ex hB ht hlt hs hOk hB0 bN bA hx
    by_cases hlast : pre.length + 1 = N
    all_goals
      first
        | (have hq : ((pre.length : Int) + 1 == (N : Int)) = true := by rw [beq_iff_eq]; omega)
        | (have hq : ((pre.length : Int) + 1 == (N : Int)) = false := by rw [beq_eq_false_iff_ne]; omega)
      have HL := Lib.hid hlast
      clear hlast
      gi_wp2_with (gi_at_builtin; refine wpListIn_append_own _ rfl _ _ 35 rfl (w.heap.size + 2) 48 i0 (.agg #[str [], str [], .bool false]) 3 40 Try.underlying35 hi hz0 hz1 hz2 rfl (by decide) _ _ _ rfl (hrow.alloc _) ⟨W.heap.size, 0, none⟩ 1 1 [str ck, str cv, .bool cg] rfl rfl (cell_three_new _ _ _ _ _) (by simp [Value.oneCell']) (by simp only [maxLen]; omega) (by omega) (by simp; omega) ?_; intro v' w1 hown' hgrow _; obtain ⟨g', cap', rfl⟩ := ownsRow_succ hown'; obtain ⟨hv1, hv2, hr2, hbel⟩ := appended2 hv (by omega) hsz hrow hown' hgrow; have hT := boxT (Wr := fun T => T = 48) (v' := .slice (some ⟨g', 0, none⟩) (pre.length + 1) cap') (D := w.heap.size + 2) hv (by decide) hrow hgrow rfl (by omega); have hn1 := (hn.alloc _).kept hgrow (fun e => by have := (hrow.lt _ e.symm).1; omega); have hn2 := hn1.other (show w.heap.size ≠ w.heap.size + 1 by omega) (.slice (some ⟨g', 0, none⟩) (pre.length + 1) cap'); have cn1 := hn1.cell; have hc1 := hv1.cell; have hf1 := hv1.frozen)
      obtain ⟨ex, hB, hlt⟩ := HE.out
      have hrr : (w1.setCell ⟨w.heap.size + 1, 0, none⟩ (.slice (some ⟨g', 0, none⟩) (pre.length + 1) cap')).ownsRow (w.heap.size + 2) 48 3 (.slice (some ⟨g', 0, none⟩) (pre.length + 1) cap') (pre ++ [encC (ck, cv, cg)]).length (flatV (pre ++ [encC (ck, cv, cg)])) := by rw [ex, List.length_append]; exact hr2
      first
        | exact ⟨hT.more (by simp), ⟨⟨_, hv2, hrr⟩, hn2, hB.trans (hbel _ (by omega))⟩, rfl, by simpa using HL.out⟩
        | exact ⟨hT.more (by simp), ⟨⟨_, hv2, hrr⟩, hn2, hB.trans (hbel _ (by omega))⟩, by have := HL.out; simp; omega⟩
  case done =>
    rintro D W hD ⟨⟨⟨v, hv, hrow⟩, hn, hB⟩, hlt⟩ hK
    have cv := hv.cell
    rw [flatV_enc, List.length_map] at hrow
    rw [List.length_map] at hlt
    have et : L.take (N : Int).toNat = L := List.take_of_length_le (by omega)
    have HE := Lib.hid (And.intro hlt et)
    clear hlt et
    gi_wp2
    refine ⟨by simp, .inl ⟨_, _, rfl, run_takeDeferred hK, ?_⟩⟩
    exact ⟨_, results_tmp rfl _ _ _, v, rfl, by rw [HE.out.2]; exact row_mono (b := w.heap.size + 2) (b' := w.heap.size) (ownsRow_putObj hrow _ hK rfl) (by omega), hB.trans (belowK_b (w := w) (Nat.le_refl _) W D _ _ (by simp at hD; omega) hK rfl rfl)⟩
  case stop =>
    rintro D c pre W hD ⟨t, ht⟩ ⟨⟨⟨v, hv, hrow⟩, hn, hB⟩, rfl, hN2⟩ hK
    have cv := hv.cell
    have et : pre = (L.take N).map encC := by
      have h := congrArg (List.take N) ht
      have e1 : List.take N (pre ++ t) = pre := by rw [← hN2]; simp
      rw [e1, ← List.map_take] at h
      exact h.symm
    rw [et, flatV_enc, List.length_map] at hrow
    have HE := Lib.hid (And.intro ht (And.intro et hN2))
    clear ht et hN2
    gi_wp2
    refine ⟨by simp, .inl ⟨_, _, rfl, run_takeDeferred hK, ?_⟩⟩
    exact ⟨_, results_tmp rfl _ _ _, v, rfl, row_mono (b := w.heap.size + 2) (b' := w.heap.size) (ownsRow_putObj hrow _ hK rfl) (by omega), hB.trans (belowK_b (w := w) (Nat.le_refl _) W D _ _ (by simp at hD; omega) hK rfl rfl)⟩
end Go.Proofs.Yteibiaplmmdppaa
