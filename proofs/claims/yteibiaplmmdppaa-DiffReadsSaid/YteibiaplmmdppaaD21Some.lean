/- diff.Some[string]: the first changes, and whether there are more. -/
import Derived.Test.YteibiaplmmdppaaD21Ranged
namespace Go.Proofs.Yteibiaplmmdppaa
open Go.RowKit
attribute [local go_sem] Oper.semAt_some wide_fn wide_depth

theorem rowN_form {w : World} {base sz k : Nat} {e : TypeId} {v : Value} {xs : List Value} (h : w.ownsRow base e sz v k xs) : ∃ a c, v = .slice a k c := by
  rcases h.2 with ⟨rfl, hn⟩ | ⟨g, cap, cur, rfl, _⟩
  · exact ⟨none, 0, by rw [hn]⟩
  · exact ⟨_, _, rfl⟩
def SomeI (w : World) (n : Int) (pre : List Value) (W : World) : Prop :=
  BoxRowN (w.heap.size + 4) (w.heap.size + 3) 35 48 3 W pre.length (flatV pre) ∧ Boxed W w.heap.size 3 (.int .i64 n) ∧ Boxed W (w.heap.size + 1) 35 (.slice none 0 0) ∧ Boxed W (w.heap.size + 2) 4 (.bool false) ∧ Below w.heap.size w W
theorem someI_own (w : World) (n : Int) {B : Nat} (hB : w.heap.size ≤ B) : OwnFromT MrgTSS B (SomeI w n) :=
  OwnFromT.and ((boxRowN_ownT _ _ _ _ _ (fun pre : List Value => pre.length) flatV (by unfold MrgTSS; decide) (by unfold MrgTSS; decide)).from _) (OwnFromT.and ((boxed_ownT _ _ _ (by unfold MrgTSS; decide)).from _) (OwnFromT.and ((boxed_ownT _ _ _ (by unfold MrgTSS; decide)).from _) (OwnFromT.and ((boxed_ownT _ _ _ (by unfold MrgTSS; decide)).from _) (ownFromT_below (Nat.le_refl _) hB))))
/-- Where it ends early. -/
def SomeX (w : World) (n : Int) (q : List Value) (W : World) : Prop :=
  ∃ (pre : List Value) (x : Value), q = pre ++ [x] ∧ n ≤ (pre.length : Int) ∧ (pre.length : Int) ≤ max n 0 ∧ BoxRowN (w.heap.size + 4) (w.heap.size + 1) 35 48 3 W pre.length (flatV pre) ∧ Boxed W (w.heap.size + 2) 4 (.bool true) ∧ Below w.heap.size w W
theorem someX_own (w : World) (n : Int) {B : Nat} (hB : w.heap.size ≤ B) : OwnFromT MrgTSS B (SomeX w n) := by
  rintro s X Y row ⟨pre, x, e, h1, h2, h3, h4, h5⟩ hg hr
  refine ⟨pre, x, e, h1, h2, ?_⟩
  have h := OwnFromT.and (β := Unit) (((boxRowN_ownT (Tw := MrgTSS) (w.heap.size + 4) (w.heap.size + 1) 35 48 3 (fun _ => pre.length) (fun _ => flatV pre) (by unfold MrgTSS; decide) (by unfold MrgTSS; decide)).from B)) (OwnFromT.and ((boxed_ownT (Tw := MrgTSS) (w.heap.size + 2) 4 (fun _ => .bool true) (by unfold MrgTSS; decide)).from B) (ownFromT_below (Nat.le_refl _) hB))
  exact h () X Y row ⟨h3, h4, h5⟩ hg hr
def SomeP (w : World) (L : List ChgT) (n : Int) (e : Ending) (w' : World) : Prop := ∃ v, e = .returned (.tuple #[v, .bool (decide (max n 0 < (L.length : Int)))]) ∧ w'.ownsRow w.heap.size 48 3 v (L.take n.toNat).length ((L.take n.toNat).map cellsC).flatten ∧ Below w.heap.size w w'
set_option maxRecDepth 100000 in
set_option maxHeartbeats 8000000 in
theorem some_any {Ok : World → Prop} {gf : Nat} {lb : Array Value} {L : List ChgT} {w : World} (n : Int) (hx : L.length ≤ 1000000)
    (eg : ∀ args w, (callFunc gf args).run Try.prog w = .ok (.enter gf args) w) (hOk : ∀ W, Below w.heap.size w W → Ok W)
    (hs : ∀ W', Below w.heap.size w W' → SeqsW MrgTSS Try.prog gf lb (fun c : Value => #[c]) Ok (fun T => T = 48) (L.map encC) W') :
    Calls Try.prog 15 #[.func (.func gf) #[] lb, .int .i64 n] w (SomeP w L n) := by
  have hfn : ∀ w, (binOp .eql 33 (.func (.func gf) #[] lb) .nilFunc).run Try.prog w = .ok (.bool false) w := fun w => by kernel_rfl
  obtain ⟨i0, hi, hz0, hz1, hz2⟩ := info_parts infoChg
  refine (callsIn_wide (n := 9)).1 ?_
  refine callsIn_of_wp_marks Try.func15 rfl trivial ?_ rfl
  simp only [Try.ntmps15, List.size_toArray, List.length_cons, List.length_nil, Nat.reduceAdd, Nat.reduceSub, Array.replicate_succ, Array.replicate_zero, List.push_toArray, List.append_toArray, List.nil_append, List.cons_append]
  gi_wp2
  obtain ⟨wa, hwa⟩ : ∃ x, x = w.alloc (.cells #[.int .i64 n] 3) := ⟨_, rfl⟩
  obtain ⟨wb, hwb⟩ : ∃ x, x = wa.alloc (.cells #[.slice none 0 0] 35) := ⟨_, rfl⟩
  obtain ⟨wc, hwc⟩ : ∃ x, x = wb.alloc (.cells #[.bool false] 4) := ⟨_, rfl⟩
  obtain ⟨wd, hwd⟩ : ∃ x, x = wc.alloc (.cells #[.slice none 0 0] 35) := ⟨_, rfl⟩
  have sa : wa.heap.size = w.heap.size + 1 := by rw [hwa]; simp
  have sb : wb.heap.size = w.heap.size + 2 := by rw [hwb]; simp [sa]
  have sc : wc.heap.size = w.heap.size + 3 := by rw [hwc]; simp [sb]
  have sd : wd.heap.size = w.heap.size + 4 := by rw [hwd]; simp [sc]
  have bN : Boxed wd w.heap.size 3 (.int .i64 n) := by rw [hwd, hwc, hwb, hwa]; exact (((Boxed.new w _ _).alloc _).alloc _).alloc _
  have bR : Boxed wd (w.heap.size + 1) 35 (.slice none 0 0) := by rw [hwd, hwc, hwb, ← sa]; exact ((Boxed.new wa _ _).alloc _).alloc _
  have bB : Boxed wd (w.heap.size + 2) 4 (.bool false) := by rw [hwd, hwc, ← sb]; exact (Boxed.new wb _ _).alloc _
  have bA : Boxed wd (w.heap.size + 3) 35 (.slice none 0 0) := by rw [hwd, ← sc]; exact Boxed.new wc _ _
  have hB0 : Below w.heap.size w wd := by rw [hwd, hwc, hwb, hwa]; exact ((((Below.refl _ w).alloc (Nat.le_refl _) _).alloc (by simp) _).alloc (by simp; omega) _).alloc (by simp; omega) _
  rw [← hwa, ← hwb, ← hwc, ← hwd]
  have HSD := Lib.hid sd
  refine range_lawA (Tw := MrgTSS) (gf := gf) (lb := lb) rfl eg (Wr := fun T => T = 48) (xs := L.map encC) (fun W' h => hs W' (hB0.trans (h.mono (by omega)))) (by intro x; rfl)
    (fun pre W => SomeI w n pre W ∧ (pre.length : Int) ≤ max n 0)
    (fun c q W => c = .ret ∧ SomeX w n q W)
    (OwnFromT.and (someI_own w n (by omega)) (ownFromT_pure _ _ (fun pre : List Value => (pre.length : Int) ≤ max n 0)))
    (fun c => OwnFromT.and (ownFromT_pure _ _ (fun _ : List Value => c = .ret)) (someX_own w n (by omega)))
    ⟨⟨⟨_, bA, World.ownsRow_nil _ _ _ _⟩, bN, bR, bB, hB0⟩, by simp; omega⟩ (fun pre W h => hOk W h.1.2.2.2.2)
    (fun x b => { tmps := #[.func (.func gf) #[] lb, .int .i64 n, undef, .pointer (some ⟨w.heap.size, 0, none⟩), .pointer (some ⟨w.heap.size + 1, 0, none⟩), .pointer (some ⟨w.heap.size + 2, 0, none⟩), .pointer (some ⟨w.heap.size + 3, 0, none⟩), .pointer (some ⟨b, 0, none⟩), .func (.func gf) #[] lb, .bool false, undef, .func (.func gf) #[] lb, x, undef, undef, undef, undef, undef, undef, undef, undef, undef, undef], defers := [] })
    (fun x => .cells (aggL x).toArray 48) ?assign ?body ?done ?stop
  case assign =>
    intro l x W K hx hK
    obtain ⟨⟨ck, cv, cg⟩, _, rfl⟩ := List.mem_map.1 hx
    have HK := Lib.hid (show K { tmps := #[.func (.func gf) #[] lb, .int .i64 n, undef, .pointer (some ⟨w.heap.size, 0, none⟩), .pointer (some ⟨w.heap.size + 1, 0, none⟩), .pointer (some ⟨w.heap.size + 2, 0, none⟩), .pointer (some ⟨w.heap.size + 3, 0, none⟩), .pointer (some ⟨W.heap.size, 0, none⟩), .func (.func gf) #[] lb, .bool false, undef, .func (.func gf) #[] lb, .agg #[str ck, str cv, .bool cg], undef, undef, undef, undef, undef, undef, undef, undef, undef, undef], defers := [] } (W.alloc (.cells #[str ck, str cv, .bool cg] 48)) from hK)
    clear hK hx hwa hwb hwc hwd sa sb sc sd
    dsimp only [encC]
    gi_wp2
    exact HK.out
  case body =>
    rintro l2 pre x b W _ hbl hbo ⟨⟨⟨v, hv, hrow⟩, hn, hR, hT2, hB⟩, hlt⟩ ⟨t, ht⟩
    obtain ⟨⟨ck, cv, cg⟩, _, rfl⟩ := List.mem_map.1 (show x ∈ L.map encC by rw [ht]; simp)
    have hbx : W.heap[b]? = some (.cells #[str ck, str cv, .bool cg] 48 (0, 0)) := hbo
    have c0 : W.cell? ⟨b, 0, none⟩ = some (str ck) := by simp [World.cell?, hbx]
    have c1 : W.cell? ⟨b, 1, none⟩ = some (str cv) := by simp [World.cell?, hbx]
    have c2 : W.cell? ⟨b, 2, none⟩ = some (.bool cg) := by simp [World.cell?, hbx]
    have cvv := hv.cell
    have cn := hn.cell
    have hlen : pre.length + 1 ≤ 1000000 := by
      have := congrArg List.length ht
      simp at this; omega
    have hsz : w.heap.size + 4 ≤ W.heap.size := hv.lt
    obtain ⟨va, vc, rfl⟩ := rowN_form hrow
    have ex : flatV (pre ++ [encC (ck, cv, cg)]) = flatV pre ++ [str ck, str cv, .bool cg] := by rw [flatV_snoc]; rfl
    have HE := Lib.hid (And.intro ex (And.intro hB hlt))
    dsimp only [encC]
    clear hbo hbx ex hB ht hlt hs hOk hB0 bN bA bR bB hx hwa hwb hwc hwd sa sb sc sd
    by_cases hge : n ≤ (pre.length : Int)
    · have cR := hR.cell
      have fR := hR.frozen
      have cT := (hT2.other (show w.heap.size + 2 ≠ w.heap.size + 1 by omega) (.slice va pre.length vc)).cell
      have fT := (hT2.other (show w.heap.size + 2 ≠ w.heap.size + 1 by omega) (.slice va pre.length vc)).frozen
      have HG := Lib.hid hge
      gi_wp2_with fail
      obtain ⟨ex, hB, hlt⟩ := HE.out
      have sd := HSD.out
      have ne1 : (Value.slice va pre.length vc).ownBlock = none ∨ (Value.slice va pre.length vc).ownBlock ≠ some (w.heap.size + 1) := .inr fun e => by have := (hrow.lt _ e).1; omega
      have ne2 : (Value.slice va pre.length vc).ownBlock = none ∨ (Value.slice va pre.length vc).ownBlock ≠ some (w.heap.size + 2) := .inr fun e => by have := (hrow.lt _ e).1; omega
      exact ⟨(KT.of_grown (grownBy_setCell' _ _ _) (fun j e => .inl (by cases e; omega))).trans (KT.of_grown (grownBy_setCell' _ _ _) (fun j e => .inl (by cases e; omega))), rfl, pre, _, rfl, HG.out, hlt,
        ⟨_, (hR.set _).other (by omega) _, (hrow.kept (grownBy_setCell' _ _ _) ne1).kept (grownBy_setCell' _ _ _) ne2⟩, (hT2.other (by omega) _).set _, (hB.setCell (p := ⟨w.heap.size + 1, 0, none⟩) (by show w.heap.size ≤ w.heap.size + 1; omega) _).setCell (p := ⟨w.heap.size + 2, 0, none⟩) (by show w.heap.size ≤ w.heap.size + 2; omega) _⟩
    · have HG := Lib.hid hge
      gi_wp2_with (gi_at_builtin; refine wpListIn_append_own _ rfl _ _ 35 rfl (w.heap.size + 4) 48 i0 (.agg #[str [], str [], .bool false]) 3 40 Try.underlying35 hi hz0 hz1 hz2 rfl (by decide) _ _ _ rfl (hrow.alloc _) ⟨W.heap.size, 0, none⟩ 1 1 [str ck, str cv, .bool cg] rfl rfl (cell_three_new _ _ _ _ _) (by simp [Value.oneCell']) (by simp only [maxLen]; omega) (by omega) (by simp; omega) ?_; intro v' w1 hown' hgrow _; obtain ⟨g', cap', rfl⟩ := ownsRow_succ hown'; obtain ⟨hv1, hv2, hr2, hbel⟩ := appended2 hv (by omega) hsz hrow hown' hgrow; have hT := boxT (Wr := fun T => T = 48) (v' := .slice (some ⟨g', 0, none⟩) (pre.length + 1) cap') (D := w.heap.size + 4) hv (by decide) hrow hgrow rfl (by omega); have hc1 := hv1.cell; have hf1 := hv1.frozen)
      obtain ⟨ex, hB, hlt⟩ := HE.out
      have sd := HSD.out
      have hrr : (w1.setCell ⟨w.heap.size + 3, 0, none⟩ (.slice (some ⟨g', 0, none⟩) (pre.length + 1) cap')).ownsRow (w.heap.size + 4) 48 3 (.slice (some ⟨g', 0, none⟩) (pre.length + 1) cap') (pre ++ [encC (ck, cv, cg)]).length (flatV (pre ++ [encC (ck, cv, cg)])) := by rw [ex, List.length_append]; exact hr2
      have kp : ∀ {k : Nat} {T : TypeId} {u : Value}, k < w.heap.size + 3 → Boxed W k T u → Boxed (w1.setCell ⟨w.heap.size + 3, 0, none⟩ (.slice (some ⟨g', 0, none⟩) (pre.length + 1) cap')) k T u := fun {k T u} hk h =>
        ((h.alloc _).kept hgrow (fun e => by have := (hrow.lt _ e.symm).1; omega)).other (by omega) _
      exact ⟨hT.more (by omega), ⟨⟨_, hv2, hrr⟩, kp (by omega) hn, kp (by omega) hR, kp (by omega) hT2, hB.trans (hbel _ (by omega))⟩, by have := HG.out; simp; omega⟩
  case done =>
    rintro D W hD ⟨⟨⟨v, hv, hrow⟩, hn, hR, hT2, hB⟩, hlt⟩ hK
    obtain ⟨va, vc, rfl⟩ : ∃ a c, v = .slice a L.length c := by obtain ⟨a, c, h⟩ := rowN_form hrow; exact ⟨a, c, by rw [h, List.length_map]⟩
    have cvv := hv.cell
    have cR := hR.cell
    have fR := hR.frozen
    have cT := (hT2.other (show w.heap.size + 2 ≠ w.heap.size + 1 by omega) (.slice va L.length vc)).cell
    have fT := (hT2.other (show w.heap.size + 2 ≠ w.heap.size + 1 by omega) (.slice va L.length vc)).frozen
    have hD4 : w.heap.size + 4 ≤ D := by omega
    have HE := Lib.hid (And.intro hlt (And.intro hB hD4))
    clear hlt hB hD hwa hwb hwc hwd sa sb sc sd hB0 bN bA bR bB hs hOk hD4
    have hK2 : ((W.setCell ⟨w.heap.size + 1, 0, none⟩ (.slice va L.length vc)).setCell ⟨w.heap.size + 2, 0, none⟩ (.bool false)).heap[D]? = some (.deferred (some [])) := by
      have := HE.out.2.2
      rw [Below.heap_setCell _ _ _ _ (by show D ≠ w.heap.size + 2; omega), Below.heap_setCell _ _ _ _ (by show D ≠ w.heap.size + 1; omega)]; exact hK
    have HK2 := Lib.hid hK2
    clear hK2
    gi_wp2
    refine ⟨by simp, .inl ⟨_, _, rfl, run_takeDeferred HK2.out, ?_⟩⟩
    obtain ⟨hlt, hB, hD4⟩ := HE.out
    have b1 : Boxed (((W.setCell ⟨w.heap.size + 1, 0, none⟩ (.slice va L.length vc)).setCell ⟨w.heap.size + 2, 0, none⟩ (.bool false)).putObj D (.deferred none)) (w.heap.size + 1) 35 (.slice va L.length vc) := (World.putObj_heap_other (by omega)).trans ((hR.set _).other (by omega) _)
    have b2 : Boxed (((W.setCell ⟨w.heap.size + 1, 0, none⟩ (.slice va L.length vc)).setCell ⟨w.heap.size + 2, 0, none⟩ (.bool false)).putObj D (.deferred none)) (w.heap.size + 2) 4 (.bool false) := (World.putObj_heap_other (by omega)).trans ((hT2.other (by omega) _).set _)
    have c1 := b1.cell
    have c2 := b2.cell
    refine ⟨.tuple #[.slice va L.length vc, .bool false], ?_, ?_⟩
    · simp [results, Try.results15, go_sem, c1, c2]
    · have ne1 : (Value.slice va L.length vc).ownBlock = none ∨ (Value.slice va L.length vc).ownBlock ≠ some (w.heap.size + 1) := .inr fun e => by have := (hrow.lt _ e).1; omega
      have ne2 : (Value.slice va L.length vc).ownBlock = none ∨ (Value.slice va L.length vc).ownBlock ≠ some (w.heap.size + 2) := .inr fun e => by have := (hrow.lt _ e).1; omega
      rw [flatV_enc, List.length_map] at hrow
      rw [List.length_map] at hlt
      have et : L.take n.toNat = L := List.take_of_length_le (by omega)
      have ed : decide (max n 0 < (L.length : Int)) = false := by simp; omega
      refine ⟨.slice va L.length vc, by rw [ed], by rw [et]; exact row_mono (b := w.heap.size + 4) (b' := w.heap.size) (ownsRow_putObj ((hrow.kept (grownBy_setCell' _ _ _) ne1).kept (grownBy_setCell' _ _ _) ne2) _ HK2.out rfl) (by omega), ?_⟩
      have hB2 := (hB.setCell (p := ⟨w.heap.size + 1, 0, none⟩) (by show w.heap.size ≤ w.heap.size + 1; omega) (.slice va L.length vc)).setCell (p := ⟨w.heap.size + 2, 0, none⟩) (by show w.heap.size ≤ w.heap.size + 2; omega) (.bool false)
      exact hB2.trans (belowK_b (w := w) (Nat.le_refl _) _ D _ _ (by omega) HK2.out rfl rfl)
  case stop =>
    rintro D c q W hD ⟨t, ht⟩ ⟨rfl, pre, x, rfl, h1, h2, ⟨v, hv, hrow⟩, hT2, hB⟩ hK
    have hD4 : w.heap.size + 4 ≤ D := by have := HSD.out; omega
    have b1 : Boxed (W.putObj D (.deferred none)) (w.heap.size + 1) 35 v := (World.putObj_heap_other (by omega)).trans hv
    have b2 : Boxed (W.putObj D (.deferred none)) (w.heap.size + 2) 4 (.bool true) := (World.putObj_heap_other (by omega)).trans hT2
    have et : pre = (L.take pre.length).map encC := by
      have h := congrArg (List.take pre.length) ht
      rw [List.append_assoc, List.take_left, ← List.map_take] at h
      exact h.symm
    have hL : pre.length < L.length := by
      have := congrArg List.length ht
      simp at this; omega
    have hn0 : n.toNat = pre.length := by omega
    have HE := Lib.hid (And.intro et (And.intro hL (And.intro hn0 (And.intro h1 (And.intro h2 hB)))))
    clear et hL hn0 h1 h2 hB ht hwa hwb hwc hwd sa sb sc sd hB0 bN bA bR bB hs hOk
    obtain ⟨va, vc, rfl⟩ := rowN_form hrow
    gi_wp2
    refine ⟨by simp, .inl ⟨_, _, rfl, run_takeDeferred hK, ?_⟩⟩
    have c1 := b1.cell
    have c2 := b2.cell
    obtain ⟨et, hL, hn0, h1, h2, hB⟩ := HE.out
    refine ⟨.tuple #[.slice va pre.length vc, .bool true], ?_, ?_⟩
    · simp [results, Try.results15, go_sem, c1, c2]
    · have ed : decide (max n 0 < (L.length : Int)) = true := by simp; omega
      have hr2 : W.ownsRow (w.heap.size + 4) 48 3 (.slice va pre.length vc) (L.take n.toNat).length ((L.take n.toNat).map cellsC).flatten := by
        have h := hrow
        rw [et, flatV_enc, List.length_map] at h
        rw [hn0]
        have e2 : (L.take pre.length).length = pre.length := by rw [List.length_take]; omega
        rw [e2] at h ⊢
        simpa [e2] using h
      refine ⟨.slice va pre.length vc, by rw [ed], row_mono (b := w.heap.size + 4) (b' := w.heap.size) (ownsRow_putObj hr2 _ hK rfl) (by omega), ?_⟩
      exact hB.trans (belowK_b (w := w) (Nat.le_refl _) _ D _ _ (by omega) hK rfl rfl)
end Go.Proofs.Yteibiaplmmdppaa
