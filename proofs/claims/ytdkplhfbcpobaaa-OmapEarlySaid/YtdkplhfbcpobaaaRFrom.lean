/- hbllaw2's rows: from. -/
import Derived.Test.YtdkplhfbcpobaaaRPutMath
import Derived.Test.YtdkplhfbcpobaaaTakeIS
import Derived.LoopNIn
import Derived.LoopIn
namespace Go.Proofs.Ytdkplhfbcpobaaa
open Go.RowKit
attribute [local go_sem] Oper.semAt_some wide_fn wide_depth

theorem infoFS : (Try.prog.info? 9).map (fun i => (i.zero, i.size, i.bytes)) = some (some (str []), 1, 16) := by kernel_rfl
/-- The rows that are asked for. -/
def selR (lo hi : Int) (all : Bool) (p : Int × List UInt8) : Bool := all || (decide (lo ≤ p.1) && decide (p.1 < hi))
/-- What from tells. -/
def FromP (W : World) (l : List (Int × List UInt8)) (e : Ending) (W' : World) : Prop :=
  ∃ va vb, e = .returned (.tuple #[va, vb]) ∧ W'.ownsRow W.heap.size 3 1 va l.length (l.map (fun p => Value.int .i64 p.1)) ∧ W'.ownsRow W.heap.size 9 1 vb l.length (l.map (fun p => str p.2)) ∧ Below W.heap.size W W'
/-- Two rows that grow. -/
structure FSt (W₀ W : World) (va vb : Value) (la : List Int) (lb : List (List UInt8)) : Prop where
  ra : W.ownsRow W₀.heap.size 3 1 va la.length (la.map (Value.int .i64))
  rb : W.ownsRow W₀.heap.size 9 1 vb lb.length (lb.map str)
  bl : Below W₀.heap.size W₀ W
section
variable {W₀ W W' : World} {va vb va' vb' : Value} {la : List Int} {lb : List (List UInt8)}
theorem FSt.grown {row : Option Nat} (h : FSt W₀ W va vb la lb) (hg : W.grownBy W' row) (hr : ∀ k, row = some k → W₀.heap.size ≤ k) (ha : va.ownBlock = none ∨ va.ownBlock ≠ row) (hb : vb.ownBlock = none ∨ vb.ownBlock ≠ row) : FSt W₀ W' va vb la lb :=
  ⟨h.ra.kept hg ha, h.rb.kept hg hb, h.bl.grown hg h.bl.size hr⟩
theorem FSt.alloc (h : FSt W₀ W va vb la lb) (o : Obj) : FSt W₀ (W.alloc o) va vb la lb :=
  h.grown (World.grownBy_alloc W o none) (fun _ e => by cases e) (by cases hv : va.ownBlock <;> simp) (by cases hv : vb.ownBlock <;> simp)
theorem FSt.drewN (h : FSt W₀ W va vb la lb) (n : Nat) : FSt W₀ (W.drewN n) va vb la lb := ⟨h.ra, h.rb, Below.drewsN h.bl n⟩
theorem FSt.temp (h : FSt W₀ W va vb la lb) (T : TypeId) (u : Value) : FSt W₀ (W.alloc (.cells #[u] T)) va vb la lb ∧ Boxed (W.alloc (.cells #[u] T)) W.heap.size T u := ⟨h.alloc _, Boxed.new W T u⟩
theorem FSt.appA (h : FSt W₀ W va vb la lb) {x : Int} (hr : W'.ownsRow W₀.heap.size 3 1 va' (la.length + 1) (la.map (Value.int .i64) ++ [.int .i64 x])) (hg : W.grownBy W' va.ownBlock) : FSt W₀ W' va' vb (la ++ [x]) lb :=
  ⟨by simpa using hr, h.rb.kept hg (rows_apart h.rb h.ra (by decide)), h.bl.grown hg h.bl.size (fun k e => (h.ra.lt k e).1)⟩
theorem FSt.appB (h : FSt W₀ W va vb la lb) {x : List UInt8} (hr : W'.ownsRow W₀.heap.size 9 1 vb' (lb.length + 1) (lb.map str ++ [str x])) (hg : W.grownBy W' vb.ownBlock) : FSt W₀ W' va vb' la (lb ++ [x]) :=
  ⟨h.ra.kept hg (rows_apart h.ra h.rb (by decide)), by simpa using hr, h.bl.grown hg h.bl.size (fun k e => (h.rb.lt k e).1)⟩
end
theorem bndF (a : Nat) (ha : a ≤ 3000000) : (a + 1 ≤ maxLen ∧ (a + 1) * 8 ≤ 140737488355328) ∧ (a + 1 ≤ maxLen ∧ (a + 1) * 16 ≤ 140737488355328) := by
  refine ⟨⟨?_, by omega⟩, ?_, by omega⟩ <;> (unfold maxLen; omega)
def Mark (p : Prop) : Prop := p
theorem mark6 {F : Fence} {n : Nat} {P : Program} {ops : Array Oper} {d : Bool} {Q : Exit → Act → World → Prop} {a : Act} {w : World} (h : Mark (Code.wpIn F n P (.region 6 ops d) Q a w)) : Code.wpIn F n P (.region 6 ops d) Q a w := h
theorem from_next {α : Type} {rl : List α} {k : Nat} {p : α → Bool} (hlt : k < rl.length) : (rl.take (k + 1)).filter p = (rl.take k).filter p ++ (if p rl[k] = true then [rl[k]] else []) := by
  rw [List.take_succ_eq_append_getElem hlt, List.filter_append]
  by_cases h : p rl[k] = true <;> simp [h]
theorem sel_all (lo up : Int) (p : Int × List UInt8) : selR lo up true p = true := rfl
set_option maxRecDepth 100000 in
set_option maxHeartbeats 8000000 in
theorem from_any {W : World} {bx base : Nat} {vo : Value} {rl : List (Int × List UInt8)} (lo up : Int) (all : Bool) (h : RowsP W bx base vo rl) (hlen : rl.length ≤ 1000000) :
    Calls Try.prog 19 #[.pointer (some ⟨bx, 0, none⟩), .int .i64 lo, .int .i64 up, .bool all] W (FromP W (rl.filter (selR lo up all))) := by
  have hform : (∃ g cap, vo = Value.slice (some ⟨g, 0, none⟩) rl.length cap) ∨ (vo = Value.slice none 0 0 ∧ rl = []) := by
    rcases h.row.2 with ⟨h1, h0⟩ | ⟨g, cap, _, h1, _⟩
    · exact Or.inr ⟨h1, List.eq_nil_of_length_eq_zero h0⟩
    · exact Or.inl ⟨g, cap, h1⟩
  have hm : Try.prog.follows .mixedOrders = true := by kernel_rfl
  obtain ⟨i0, hi, hz0, hz1, hz2⟩ := info_parts infoKIS
  obtain ⟨i1, gi, gz0, gz1, gz2⟩ := info_parts infoFS
  have hcx : W.cell? ⟨bx, 0, none⟩ = some vo := by simp [World.cell?, h.box]
  have HCX : Hid (∀ W', Below W.heap.size W W' → W'.cell? ⟨bx, 0, none⟩ = some vo) := Lib.hid (fun W' hb => (hb.cell (p := ⟨bx, 0, none⟩) (World.block_lt_of_cell? W _ hcx)).trans hcx)
  clear hcx
  rcases hform with ⟨g, cap, rfl⟩ | ⟨rfl, hnil⟩
  · have HC := Lib.hid h.cells.2.2
    clear h
    refine (callsIn_wide (n := 9)).1 ?_
    refine callsIn_of_wp Try.func19 rfl trivial ?_ rfl
    simp only [Try.ntmps19, List.size_toArray, List.length_cons, List.length_nil, Nat.reduceAdd, Nat.reduceSub, Array.replicate_succ, Array.replicate_zero, List.push_toArray, List.append_toArray, List.nil_append, List.cons_append]
    gi_wp2
    gi_loopw [10, 11, 12] (fun va vb i wr => ∃ k : Nat, k ≤ rl.length ∧ i = .int .i64 (k : Int) ∧ Hid (FSt W wr va vb (((rl.take k).filter (selR lo up all)).map (·.1)) (((rl.take k).filter (selR lo up all)).map (·.2)))) (fun _ _ i _ => rl.length - (intOf i).toNat)
    case atStart => exact ⟨0, Nat.zero_le _, rfl, Lib.hid ⟨World.ownsRow_nil _ _ _ _, World.ownsRow_nil _ _ _ _, Below.refl _ _⟩⟩
    case round =>
      obtain ⟨k, hk, rfl, HF⟩ := hrel
      obtain ⟨va, hva⟩ : ∃ va, va = u10 := ⟨_, rfl⟩
      obtain ⟨vb, hvb⟩ : ∃ vb, vb = u11 := ⟨_, rfl⟩
      subst hva hvb
      have cx := HCX.out wr HF.out.bl
      by_cases hlt : k < rl.length
      · have g1 : (k : Int) < (rl.length : Int) := by omega
        have g2 : (0 : Int) ≤ (k : Int) := by omega
        obtain ⟨x, hx⟩ : ∃ x, x = rl[k].1 := ⟨_, rfl⟩
        obtain ⟨y, hy⟩ : ∃ y, y = rl[k].2 := ⟨_, rfl⟩
        obtain ⟨b, hb⟩ : ∃ b, b = selR lo up all (x, y) := ⟨_, rfl⟩
        have HCE : Hid (∀ W', Below W.heap.size W W' → W'.cell? ⟨g, k * 2, none⟩ = some (.int .i64 x) ∧ W'.cell? ⟨g, k * 2 + 1, none⟩ = some (str y)) := Lib.hid (fun W' hb => by
          obtain ⟨c0, c1⟩ := HC.out k hlt
          rw [← hx] at c0
          rw [← hy] at c1
          exact ⟨(hb.cell (p := ⟨g, k * 2, none⟩) (World.block_lt_of_cell? W _ c0)).trans c0, (hb.cell (p := ⟨g, k * 2 + 1, none⟩) (World.block_lt_of_cell? W _ c1)).trans c1⟩)
        have H := HF.out
        obtain ⟨la, hla⟩ : ∃ la, la = ((rl.take k).filter (selR lo up all)).map (·.1) := ⟨_, rfl⟩
        obtain ⟨lb, hlb⟩ : ∃ lb, lb = ((rl.take k).filter (selR lo up all)).map (·.2) := ⟨_, rfl⟩
        rw [← hla, ← hlb] at H
        have ea : la.length ≤ 1000000 := by
          have := List.length_filter_le (selR lo up all) (rl.take k)
          rw [hla]; simp only [List.length_map]; simp only [List.length_take] at this; omega
        have eb : lb.length ≤ 1000000 := by
          have := List.length_filter_le (selR lo up all) (rl.take k)
          rw [hlb]; simp only [List.length_map]; simp only [List.length_take] at this; omega
        have lna := (bndF la.length (by omega)).1
        have lnb := (bndF lb.length (by omega)).2
        have hxy : rl[k] = (x, y) := by rw [hx, hy]
        have HL := Lib.hid (And.intro hla (And.intro hlb (And.intro hxy hb)))
        have ck := (HCE.out wr H.bl).1
        clear hla hlb hx hy hxy HF HC ea eb
        iterate 40 (first | refine mark6 ?_ | go_values | gi_guarded | gi_step | gi_upon)
        unfold Mark
        refine cut_region (fun a W1 => (∃ q24 q25 q26 q27 q28 q29 q30 q31 q32 q33 q34 q35 q36 q37 q38 q39 q40 q41 q42 q43 q44 q45, a = { tmps := #[.pointer (some ⟨bx, 0, none⟩), .int .i64 lo, .int .i64 up, .bool all, undef, undef, undef, undef, .slice none 0 0, .slice none 0 0, va, vb, .int .i64 (k : Int), .int .i64 (k : Int), .pointer (some ⟨bx, 0, none⟩), .pointer (some ⟨bx, 0, none⟩), .pointer (some ⟨bx, 0, none⟩), .slice (some ⟨g, 0, none⟩) rl.length cap, .int .i64 (rl.length : Int), .bool true, u20, u21, .bool all, .bool all, q24, q25, q26, q27, q28, q29, q30, q31, q32, q33, q34, q35, q36, q37, q38, q39, q40, q41, q42, q43, q44, q45, .bool b, u47, u48, u49, u50, u51, u52, u53, u54, u55, u56, u57, u58, u59, u60, u61, u62, u63, u64, u65, u66, u67, u68, undef, undef], defers := [] }) ∧ W1 = wr) ?_ ?_
        · clear HL lna lnb H HCE HCX hm
          cases all with
          | true =>
            obtain rfl : b = true := hb
            clear ck
            gi_wp2
          | false =>
            by_cases hge : lo ≤ x
            · by_cases hup : x < up
              · obtain rfl : b = true := by rw [hb]; simp [selR, hge, hup]
                clear hb
                gi_wp2
              · obtain rfl : b = false := by rw [hb]; simp [selR, hge, hup]
                clear hb
                gi_wp2
            · obtain rfl : b = false := by rw [hb]; simp [selR, hge]
              clear hb
              gi_wp2
        · rintro a1 W1 ⟨⟨q24, q25, q26, q27, q28, q29, q30, q31, q32, q33, q34, q35, q36, q37, q38, q39, q40, q41, q42, q43, q44, q45, rfl⟩, rfl⟩
          clear cx ck hb
          gi_wp2
          · rename_i hbt
            subst hbt
            refine cut_region (fun a W1 => ∃ ua ub q48 q49 q50 q51 q52 q53 q54 q55 q56 q59 q60 q61 q62 q63 q64 q65 q66 q67, a = { tmps := #[.pointer (some ⟨bx, 0, none⟩), .int .i64 lo, .int .i64 up, .bool all, undef, undef, undef, undef, .slice none 0 0, .slice none 0 0, ua, ub, .int .i64 (k : Int), .int .i64 (k : Int), .pointer (some ⟨bx, 0, none⟩), .pointer (some ⟨bx, 0, none⟩), .pointer (some ⟨bx, 0, none⟩), .slice (some ⟨g, 0, none⟩) rl.length cap, .int .i64 (rl.length : Int), .bool true, u20, u21, .bool all, .bool all, q24, q25, q26, q27, q28, q29, q30, q31, q32, q33, q34, q35, q36, q37, q38, q39, q40, q41, q42, q43, q44, q45, .bool true, va, q48, q49, q50, q51, q52, q53, q54, q55, q56, ua, vb, q59, q60, q61, q62, q63, q64, q65, q66, q67, ub, undef, undef], defers := [] } ∧ FSt W W1 ua ub (la ++ [x]) (lb ++ [y])) ?_ ?_
            · refine wpIn_region_any hm ?_
              change wpAnyIn _ _ _ _ _ _ _ _ _ (World.drew _)
              have H := H.drewN 1
              generalize hWd : World.drew _ = W9
              have H : FSt W W9 va vb la lb := by rw [← hWd]; exact H
              clear hWd
              -- REG
              refine wpAnyIn_take (i := 0) (v := ?v1) rfl rfl (by kernel_rfl) (by kernel_rfl) (by kernel_rfl) (fun _ _ _ h => (nomatch h.1)) ⟨Or.inl ⟨by rfl, ?hy1⟩, fun _ => rfl⟩ ?_
              case hy1 => (intro w; go_simp; try with_reducible rfl)
              go_simp
              refine wpAnyIn_take (i := 1) (v := ?v2) rfl rfl (by kernel_rfl) (by kernel_rfl) (by kernel_rfl) (fun _ _ _ h => (nomatch h.1)) ⟨Or.inl ⟨by rfl, ?hy2⟩, fun _ => rfl⟩ ?_
              case hy2 => (intro w; go_simp; try with_reducible rfl)
              go_simp
              refine wpAnyIn_take (i := 2) (v := ?v3) rfl rfl (by kernel_rfl) (by kernel_rfl) (by kernel_rfl) (fun _ _ _ h => (nomatch h.1)) ⟨Or.inl ⟨by rfl, ?hy3⟩, fun _ => rfl⟩ ?_
              case hy3 => (intro w; go_simp; try with_reducible rfl)
              go_simp
              refine wpAnyIn_take (i := 3) (v := ?v4) rfl rfl (by kernel_rfl) (by kernel_rfl) (by kernel_rfl) (fun _ _ _ h => (nomatch h.1)) ⟨Or.inl ⟨by rfl, ?hy4⟩, fun _ => rfl⟩ ?_
              case hy4 => (intro w; go_simp; try with_reducible rfl)
              go_simp
              refine wpAnyIn_take (i := 5) (v := ?v5) rfl rfl (by kernel_rfl) (by kernel_rfl) (by kernel_rfl) (fun _ _ _ h => (nomatch h.1)) ⟨Or.inl ⟨by rfl, ?hy5⟩, fun _ => rfl⟩ ?_
              case hy5 => (intro w; go_simp; try with_reducible rfl)
              go_simp
              refine wpAnyIn_take (i := 11) (v := ?v6) rfl rfl (by kernel_rfl) (by kernel_rfl) (by kernel_rfl) (fun _ _ _ h => (nomatch h.1)) ⟨Or.inl ⟨by rfl, ?hy6⟩, fun _ => rfl⟩ ?_
              case hy6 => (intro w; go_simp; try with_reducible rfl)
              go_simp
              refine wpAnyIn_take (i := 12) (v := ?v7) rfl rfl (by kernel_rfl) (by kernel_rfl) (by kernel_rfl) (fun _ _ _ h => (nomatch h.1)) ⟨Or.inl ⟨by rfl, ?hy7⟩, fun _ => rfl⟩ ?_
              case hy7 => (intro w; go_simp; try with_reducible rfl)
              go_simp
              refine wpAnyIn_take (i := 13) (v := ?v8) rfl rfl (by kernel_rfl) (by kernel_rfl) (by kernel_rfl) (fun _ _ _ h => (nomatch h.1)) ⟨Or.inl ⟨by rfl, ?hy8⟩, fun _ => rfl⟩ ?_
              case hy8 => (intro w; go_simp; try with_reducible rfl)
              go_simp
              refine wpAnyIn_take (i := 14) (v := ?v9) rfl rfl (by kernel_rfl) (by kernel_rfl) (by kernel_rfl) (fun _ _ _ h => (nomatch h.1)) ⟨Or.inl ⟨by rfl, ?hy9⟩, fun _ => rfl⟩ ?_
              case hy9 => (intro w; go_simp; try with_reducible rfl)
              go_simp
              refine wpAnyIn_take (i := 16) (v := ?v10) rfl rfl (by kernel_rfl) (by kernel_rfl) (by kernel_rfl) (fun _ _ _ h => (nomatch h.1)) ⟨Or.inl ⟨by rfl, ?hy10⟩, fun _ => rfl⟩ ?_
              case hy10 => (intro w; go_simp; try with_reducible rfl)
              go_simp
              refine wpAnyIn_ready (rs := [4, 15]) (by kernel_rfl) (by simp) (AllReadyIn.cons rfl (fun K hK => ?_) (AllReadyIn.cons rfl (fun K hK => ?_) AllReadyIn.nil))
              · have cq := HCX.out _ H.bl
                go_simp
                refine hK _ _ ?_
                clear hK K cq
                refine wpAnyIn_take (i := 6) (v := ?v11) rfl rfl (by kernel_rfl) (by kernel_rfl) (by kernel_rfl) (fun _ _ _ h => (nomatch h.1)) ⟨Or.inl ⟨by rfl, ?hy11⟩, fun _ => rfl⟩ ?_
                case hy11 => (intro w; go_simp; try with_reducible rfl)
                go_simp
                refine wpAnyIn_take (i := 7) (v := ?v12) rfl rfl (by kernel_rfl) (by kernel_rfl) (by kernel_rfl) (fun _ _ _ h => (nomatch h.1)) ⟨Or.inl ⟨by rfl, ?hy12⟩, fun _ => rfl⟩ ?_
                case hy12 => (intro w; go_simp; try with_reducible rfl)
                go_simp
                refine wpAnyIn_ready (rs := [8, 15]) (by kernel_rfl) (by simp) (AllReadyIn.cons rfl (fun K hK => ?_) (AllReadyIn.cons rfl (fun K hK => ?_) AllReadyIn.nil))
                · have cq := (HCE.out _ H.bl).1
                  go_simp
                  refine hK _ _ ?_
                  clear hK K cq
                  refine wpAnyIn_ready (rs := [9, 15]) (by kernel_rfl) (by simp) (AllReadyIn.cons rfl (fun K hK => ?_) (AllReadyIn.cons rfl (fun K hK => ?_) AllReadyIn.nil))
                  · go_simp
                    refine hK _ _ ?_
                    clear hK K
                    obtain ⟨H, TA⟩ := H.temp 3 (.int .i64 x)
                    try simp only [World.size_alloc] at TA
                    refine wpAnyIn_ready (rs := [10, 15]) (by kernel_rfl) (by simp) (AllReadyIn.cons rfl (fun K hK => ?_) (AllReadyIn.cons rfl (fun K hK => ?_) AllReadyIn.nil))
                    · refine step_appendIn (by rfl) _ _ 42 (by rfl) Try.underlying42 hi hz0 hz1 hz2 rfl (by rfl) H.ra (by rfl) TA (by rfl) lna.1 lna.2 H.bl.size ?_
                      intro va' W' hr hg
                      refine hK _ _ ?_
                      clear hK K
                      have H := H.appA hr hg
                      clear hr hg TA
                      go_simp
                      refine wpAnyIn_ready (rs := [15]) (by kernel_rfl) (by simp) (AllReadyIn.cons rfl (fun K hK => ?_) AllReadyIn.nil)
                      have cq := HCX.out _ H.bl
                      go_simp
                      refine hK _ _ ?_
                      clear hK K cq
                      refine wpAnyIn_take (i := 17) (v := ?v13) rfl rfl (by kernel_rfl) (by kernel_rfl) (by kernel_rfl) (fun _ _ _ h => (nomatch h.1)) ⟨Or.inl ⟨by rfl, ?hy13⟩, fun _ => rfl⟩ ?_
                      case hy13 => (intro w; go_simp; try with_reducible rfl)
                      go_simp
                      refine wpAnyIn_take (i := 18) (v := ?v14) rfl rfl (by kernel_rfl) (by kernel_rfl) (by kernel_rfl) (fun _ _ _ h => (nomatch h.1)) ⟨Or.inl ⟨by rfl, ?hy14⟩, fun _ => rfl⟩ ?_
                      case hy14 => (intro w; go_simp; try with_reducible rfl)
                      go_simp
                      refine wpAnyIn_ready (rs := [19]) (by kernel_rfl) (by simp) (AllReadyIn.cons rfl (fun K hK => ?_) AllReadyIn.nil)
                      have cq := (HCE.out _ H.bl).2
                      go_simp
                      refine hK _ _ ?_
                      clear hK K cq
                      refine wpAnyIn_ready (rs := [20]) (by kernel_rfl) (by simp) (AllReadyIn.cons rfl (fun K hK => ?_) AllReadyIn.nil)
                      go_simp
                      refine hK _ _ ?_
                      clear hK K
                      obtain ⟨H, TB⟩ := H.temp 9 (str y)
                      try simp only [World.size_alloc] at TB
                      refine wpAnyIn_ready (rs := [21]) (by kernel_rfl) (by simp) (AllReadyIn.cons rfl (fun K hK => ?_) AllReadyIn.nil)
                      refine step_appendIn (by rfl) _ _ 43 (by rfl) Try.underlying43 gi gz0 gz1 gz2 rfl (by rfl) H.rb (by rfl) TB (by rfl) lnb.1 lnb.2 H.bl.size ?_
                      intro vb' W' hr hg
                      refine hK _ _ ?_
                      clear hK K
                      have H := H.appB hr hg
                      clear hr hg TB
                      go_simp
                      refine wpAnyIn_take (i := 22) (v := ?v15) rfl rfl (by kernel_rfl) (by kernel_rfl) (by kernel_rfl) (fun _ _ _ h => (nomatch h.1)) ⟨Or.inl ⟨by rfl, ?hy15⟩, fun _ => rfl⟩ ?_
                      case hy15 => (intro w; go_simp; try with_reducible rfl)
                      go_simp
                      refine wpAnyIn_take (i := 23) (v := ?v16) rfl rfl (by kernel_rfl) (by kernel_rfl) (by kernel_rfl) (fun _ _ _ h => (nomatch h.1)) ⟨Or.inl ⟨by rfl, ?hy16⟩, fun _ => rfl⟩ ?_
                      case hy16 => (intro w; go_simp; try with_reducible rfl)
                      go_simp
                      refine wpAnyIn_done (by kernel_rfl) ?_ _
                      exact ⟨rfl, _, _, ⟨_, _, _, _, _, _, _, _, _, _, _, _, _, _, _, _, _, _, rfl⟩, H⟩
                    · have cq := HCX.out _ H.bl
                      go_simp
                      refine hK _ _ ?_
                      clear hK K cq
                      refine wpAnyIn_take (i := 17) (v := ?v17) rfl rfl (by kernel_rfl) (by kernel_rfl) (by kernel_rfl) (fun _ _ _ h => (nomatch h.1)) ⟨Or.inl ⟨by rfl, ?hy17⟩, fun _ => rfl⟩ ?_
                      case hy17 => (intro w; go_simp; try with_reducible rfl)
                      go_simp
                      refine wpAnyIn_take (i := 18) (v := ?v18) rfl rfl (by kernel_rfl) (by kernel_rfl) (by kernel_rfl) (fun _ _ _ h => (nomatch h.1)) ⟨Or.inl ⟨by rfl, ?hy18⟩, fun _ => rfl⟩ ?_
                      case hy18 => (intro w; go_simp; try with_reducible rfl)
                      go_simp
                      refine wpAnyIn_ready (rs := [10, 19]) (by kernel_rfl) (by simp) (AllReadyIn.cons rfl (fun K hK => ?_) (AllReadyIn.cons rfl (fun K hK => ?_) AllReadyIn.nil))
                      · refine step_appendIn (by rfl) _ _ 42 (by rfl) Try.underlying42 hi hz0 hz1 hz2 rfl (by rfl) H.ra (by rfl) TA (by rfl) lna.1 lna.2 H.bl.size ?_
                        intro va' W' hr hg
                        refine hK _ _ ?_
                        clear hK K
                        have H := H.appA hr hg
                        clear hr hg TA
                        go_simp
                        refine wpAnyIn_ready (rs := [19]) (by kernel_rfl) (by simp) (AllReadyIn.cons rfl (fun K hK => ?_) AllReadyIn.nil)
                        have cq := (HCE.out _ H.bl).2
                        go_simp
                        refine hK _ _ ?_
                        clear hK K cq
                        refine wpAnyIn_ready (rs := [20]) (by kernel_rfl) (by simp) (AllReadyIn.cons rfl (fun K hK => ?_) AllReadyIn.nil)
                        go_simp
                        refine hK _ _ ?_
                        clear hK K
                        obtain ⟨H, TB⟩ := H.temp 9 (str y)
                        try simp only [World.size_alloc] at TB
                        refine wpAnyIn_ready (rs := [21]) (by kernel_rfl) (by simp) (AllReadyIn.cons rfl (fun K hK => ?_) AllReadyIn.nil)
                        refine step_appendIn (by rfl) _ _ 43 (by rfl) Try.underlying43 gi gz0 gz1 gz2 rfl (by rfl) H.rb (by rfl) TB (by rfl) lnb.1 lnb.2 H.bl.size ?_
                        intro vb' W' hr hg
                        refine hK _ _ ?_
                        clear hK K
                        have H := H.appB hr hg
                        clear hr hg TB
                        go_simp
                        refine wpAnyIn_take (i := 22) (v := ?v19) rfl rfl (by kernel_rfl) (by kernel_rfl) (by kernel_rfl) (fun _ _ _ h => (nomatch h.1)) ⟨Or.inl ⟨by rfl, ?hy19⟩, fun _ => rfl⟩ ?_
                        case hy19 => (intro w; go_simp; try with_reducible rfl)
                        go_simp
                        refine wpAnyIn_take (i := 23) (v := ?v20) rfl rfl (by kernel_rfl) (by kernel_rfl) (by kernel_rfl) (fun _ _ _ h => (nomatch h.1)) ⟨Or.inl ⟨by rfl, ?hy20⟩, fun _ => rfl⟩ ?_
                        case hy20 => (intro w; go_simp; try with_reducible rfl)
                        go_simp
                        refine wpAnyIn_done (by kernel_rfl) ?_ _
                        exact ⟨rfl, _, _, ⟨_, _, _, _, _, _, _, _, _, _, _, _, _, _, _, _, _, _, rfl⟩, H⟩
                      · have cq := (HCE.out _ H.bl).2
                        go_simp
                        refine hK _ _ ?_
                        clear hK K cq
                        refine wpAnyIn_ready (rs := [10, 20]) (by kernel_rfl) (by simp) (AllReadyIn.cons rfl (fun K hK => ?_) (AllReadyIn.cons rfl (fun K hK => ?_) AllReadyIn.nil))
                        · refine step_appendIn (by rfl) _ _ 42 (by rfl) Try.underlying42 hi hz0 hz1 hz2 rfl (by rfl) H.ra (by rfl) TA (by rfl) lna.1 lna.2 H.bl.size ?_
                          intro va' W' hr hg
                          refine hK _ _ ?_
                          clear hK K
                          have H := H.appA hr hg
                          clear hr hg TA
                          go_simp
                          refine wpAnyIn_ready (rs := [20]) (by kernel_rfl) (by simp) (AllReadyIn.cons rfl (fun K hK => ?_) AllReadyIn.nil)
                          go_simp
                          refine hK _ _ ?_
                          clear hK K
                          obtain ⟨H, TB⟩ := H.temp 9 (str y)
                          try simp only [World.size_alloc] at TB
                          refine wpAnyIn_ready (rs := [21]) (by kernel_rfl) (by simp) (AllReadyIn.cons rfl (fun K hK => ?_) AllReadyIn.nil)
                          refine step_appendIn (by rfl) _ _ 43 (by rfl) Try.underlying43 gi gz0 gz1 gz2 rfl (by rfl) H.rb (by rfl) TB (by rfl) lnb.1 lnb.2 H.bl.size ?_
                          intro vb' W' hr hg
                          refine hK _ _ ?_
                          clear hK K
                          have H := H.appB hr hg
                          clear hr hg TB
                          go_simp
                          refine wpAnyIn_take (i := 22) (v := ?v21) rfl rfl (by kernel_rfl) (by kernel_rfl) (by kernel_rfl) (fun _ _ _ h => (nomatch h.1)) ⟨Or.inl ⟨by rfl, ?hy21⟩, fun _ => rfl⟩ ?_
                          case hy21 => (intro w; go_simp; try with_reducible rfl)
                          go_simp
                          refine wpAnyIn_take (i := 23) (v := ?v22) rfl rfl (by kernel_rfl) (by kernel_rfl) (by kernel_rfl) (fun _ _ _ h => (nomatch h.1)) ⟨Or.inl ⟨by rfl, ?hy22⟩, fun _ => rfl⟩ ?_
                          case hy22 => (intro w; go_simp; try with_reducible rfl)
                          go_simp
                          refine wpAnyIn_done (by kernel_rfl) ?_ _
                          exact ⟨rfl, _, _, ⟨_, _, _, _, _, _, _, _, _, _, _, _, _, _, _, _, _, _, rfl⟩, H⟩
                        · go_simp
                          refine hK _ _ ?_
                          clear hK K
                          obtain ⟨H, TB⟩ := H.temp 9 (str y)
                          try simp only [World.size_alloc] at TB
                          have TA := TA.alloc (.cells #[(str y)] 9)
                          refine wpAnyIn_ready (rs := [10]) (by kernel_rfl) (by simp) (AllReadyIn.cons rfl (fun K hK => ?_) AllReadyIn.nil)
                          refine step_appendIn (by rfl) _ _ 42 (by rfl) Try.underlying42 hi hz0 hz1 hz2 rfl (by rfl) H.ra (by rfl) TA (by rfl) lna.1 lna.2 H.bl.size ?_
                          intro va' W' hr hg
                          refine hK _ _ ?_
                          clear hK K
                          have TB := temp_kept TB H.ra hg (by decide)
                          have H := H.appA hr hg
                          clear hr hg TA
                          go_simp
                          refine wpAnyIn_ready (rs := [21]) (by kernel_rfl) (by simp) (AllReadyIn.cons rfl (fun K hK => ?_) AllReadyIn.nil)
                          refine step_appendIn (by rfl) _ _ 43 (by rfl) Try.underlying43 gi gz0 gz1 gz2 rfl (by rfl) H.rb (by rfl) TB (by rfl) lnb.1 lnb.2 H.bl.size ?_
                          intro vb' W' hr hg
                          refine hK _ _ ?_
                          clear hK K
                          have H := H.appB hr hg
                          clear hr hg TB
                          go_simp
                          refine wpAnyIn_take (i := 22) (v := ?v23) rfl rfl (by kernel_rfl) (by kernel_rfl) (by kernel_rfl) (fun _ _ _ h => (nomatch h.1)) ⟨Or.inl ⟨by rfl, ?hy23⟩, fun _ => rfl⟩ ?_
                          case hy23 => (intro w; go_simp; try with_reducible rfl)
                          go_simp
                          refine wpAnyIn_take (i := 23) (v := ?v24) rfl rfl (by kernel_rfl) (by kernel_rfl) (by kernel_rfl) (fun _ _ _ h => (nomatch h.1)) ⟨Or.inl ⟨by rfl, ?hy24⟩, fun _ => rfl⟩ ?_
                          case hy24 => (intro w; go_simp; try with_reducible rfl)
                          go_simp
                          refine wpAnyIn_done (by kernel_rfl) ?_ _
                          exact ⟨rfl, _, _, ⟨_, _, _, _, _, _, _, _, _, _, _, _, _, _, _, _, _, _, rfl⟩, H⟩
                  · have cq := HCX.out _ H.bl
                    go_simp
                    refine hK _ _ ?_
                    clear hK K cq
                    refine wpAnyIn_take (i := 17) (v := ?v25) rfl rfl (by kernel_rfl) (by kernel_rfl) (by kernel_rfl) (fun _ _ _ h => (nomatch h.1)) ⟨Or.inl ⟨by rfl, ?hy25⟩, fun _ => rfl⟩ ?_
                    case hy25 => (intro w; go_simp; try with_reducible rfl)
                    go_simp
                    refine wpAnyIn_take (i := 18) (v := ?v26) rfl rfl (by kernel_rfl) (by kernel_rfl) (by kernel_rfl) (fun _ _ _ h => (nomatch h.1)) ⟨Or.inl ⟨by rfl, ?hy26⟩, fun _ => rfl⟩ ?_
                    case hy26 => (intro w; go_simp; try with_reducible rfl)
                    go_simp
                    refine wpAnyIn_ready (rs := [9, 19]) (by kernel_rfl) (by simp) (AllReadyIn.cons rfl (fun K hK => ?_) (AllReadyIn.cons rfl (fun K hK => ?_) AllReadyIn.nil))
                    · go_simp
                      refine hK _ _ ?_
                      clear hK K
                      obtain ⟨H, TA⟩ := H.temp 3 (.int .i64 x)
                      try simp only [World.size_alloc] at TA
                      refine wpAnyIn_ready (rs := [10, 19]) (by kernel_rfl) (by simp) (AllReadyIn.cons rfl (fun K hK => ?_) (AllReadyIn.cons rfl (fun K hK => ?_) AllReadyIn.nil))
                      · refine step_appendIn (by rfl) _ _ 42 (by rfl) Try.underlying42 hi hz0 hz1 hz2 rfl (by rfl) H.ra (by rfl) TA (by rfl) lna.1 lna.2 H.bl.size ?_
                        intro va' W' hr hg
                        refine hK _ _ ?_
                        clear hK K
                        have H := H.appA hr hg
                        clear hr hg TA
                        go_simp
                        refine wpAnyIn_ready (rs := [19]) (by kernel_rfl) (by simp) (AllReadyIn.cons rfl (fun K hK => ?_) AllReadyIn.nil)
                        have cq := (HCE.out _ H.bl).2
                        go_simp
                        refine hK _ _ ?_
                        clear hK K cq
                        refine wpAnyIn_ready (rs := [20]) (by kernel_rfl) (by simp) (AllReadyIn.cons rfl (fun K hK => ?_) AllReadyIn.nil)
                        go_simp
                        refine hK _ _ ?_
                        clear hK K
                        obtain ⟨H, TB⟩ := H.temp 9 (str y)
                        try simp only [World.size_alloc] at TB
                        refine wpAnyIn_ready (rs := [21]) (by kernel_rfl) (by simp) (AllReadyIn.cons rfl (fun K hK => ?_) AllReadyIn.nil)
                        refine step_appendIn (by rfl) _ _ 43 (by rfl) Try.underlying43 gi gz0 gz1 gz2 rfl (by rfl) H.rb (by rfl) TB (by rfl) lnb.1 lnb.2 H.bl.size ?_
                        intro vb' W' hr hg
                        refine hK _ _ ?_
                        clear hK K
                        have H := H.appB hr hg
                        clear hr hg TB
                        go_simp
                        refine wpAnyIn_take (i := 22) (v := ?v27) rfl rfl (by kernel_rfl) (by kernel_rfl) (by kernel_rfl) (fun _ _ _ h => (nomatch h.1)) ⟨Or.inl ⟨by rfl, ?hy27⟩, fun _ => rfl⟩ ?_
                        case hy27 => (intro w; go_simp; try with_reducible rfl)
                        go_simp
                        refine wpAnyIn_take (i := 23) (v := ?v28) rfl rfl (by kernel_rfl) (by kernel_rfl) (by kernel_rfl) (fun _ _ _ h => (nomatch h.1)) ⟨Or.inl ⟨by rfl, ?hy28⟩, fun _ => rfl⟩ ?_
                        case hy28 => (intro w; go_simp; try with_reducible rfl)
                        go_simp
                        refine wpAnyIn_done (by kernel_rfl) ?_ _
                        exact ⟨rfl, _, _, ⟨_, _, _, _, _, _, _, _, _, _, _, _, _, _, _, _, _, _, rfl⟩, H⟩
                      · have cq := (HCE.out _ H.bl).2
                        go_simp
                        refine hK _ _ ?_
                        clear hK K cq
                        refine wpAnyIn_ready (rs := [10, 20]) (by kernel_rfl) (by simp) (AllReadyIn.cons rfl (fun K hK => ?_) (AllReadyIn.cons rfl (fun K hK => ?_) AllReadyIn.nil))
                        · refine step_appendIn (by rfl) _ _ 42 (by rfl) Try.underlying42 hi hz0 hz1 hz2 rfl (by rfl) H.ra (by rfl) TA (by rfl) lna.1 lna.2 H.bl.size ?_
                          intro va' W' hr hg
                          refine hK _ _ ?_
                          clear hK K
                          have H := H.appA hr hg
                          clear hr hg TA
                          go_simp
                          refine wpAnyIn_ready (rs := [20]) (by kernel_rfl) (by simp) (AllReadyIn.cons rfl (fun K hK => ?_) AllReadyIn.nil)
                          go_simp
                          refine hK _ _ ?_
                          clear hK K
                          obtain ⟨H, TB⟩ := H.temp 9 (str y)
                          try simp only [World.size_alloc] at TB
                          refine wpAnyIn_ready (rs := [21]) (by kernel_rfl) (by simp) (AllReadyIn.cons rfl (fun K hK => ?_) AllReadyIn.nil)
                          refine step_appendIn (by rfl) _ _ 43 (by rfl) Try.underlying43 gi gz0 gz1 gz2 rfl (by rfl) H.rb (by rfl) TB (by rfl) lnb.1 lnb.2 H.bl.size ?_
                          intro vb' W' hr hg
                          refine hK _ _ ?_
                          clear hK K
                          have H := H.appB hr hg
                          clear hr hg TB
                          go_simp
                          refine wpAnyIn_take (i := 22) (v := ?v29) rfl rfl (by kernel_rfl) (by kernel_rfl) (by kernel_rfl) (fun _ _ _ h => (nomatch h.1)) ⟨Or.inl ⟨by rfl, ?hy29⟩, fun _ => rfl⟩ ?_
                          case hy29 => (intro w; go_simp; try with_reducible rfl)
                          go_simp
                          refine wpAnyIn_take (i := 23) (v := ?v30) rfl rfl (by kernel_rfl) (by kernel_rfl) (by kernel_rfl) (fun _ _ _ h => (nomatch h.1)) ⟨Or.inl ⟨by rfl, ?hy30⟩, fun _ => rfl⟩ ?_
                          case hy30 => (intro w; go_simp; try with_reducible rfl)
                          go_simp
                          refine wpAnyIn_done (by kernel_rfl) ?_ _
                          exact ⟨rfl, _, _, ⟨_, _, _, _, _, _, _, _, _, _, _, _, _, _, _, _, _, _, rfl⟩, H⟩
                        · go_simp
                          refine hK _ _ ?_
                          clear hK K
                          obtain ⟨H, TB⟩ := H.temp 9 (str y)
                          try simp only [World.size_alloc] at TB
                          have TA := TA.alloc (.cells #[(str y)] 9)
                          refine wpAnyIn_ready (rs := [10]) (by kernel_rfl) (by simp) (AllReadyIn.cons rfl (fun K hK => ?_) AllReadyIn.nil)
                          refine step_appendIn (by rfl) _ _ 42 (by rfl) Try.underlying42 hi hz0 hz1 hz2 rfl (by rfl) H.ra (by rfl) TA (by rfl) lna.1 lna.2 H.bl.size ?_
                          intro va' W' hr hg
                          refine hK _ _ ?_
                          clear hK K
                          have TB := temp_kept TB H.ra hg (by decide)
                          have H := H.appA hr hg
                          clear hr hg TA
                          go_simp
                          refine wpAnyIn_ready (rs := [21]) (by kernel_rfl) (by simp) (AllReadyIn.cons rfl (fun K hK => ?_) AllReadyIn.nil)
                          refine step_appendIn (by rfl) _ _ 43 (by rfl) Try.underlying43 gi gz0 gz1 gz2 rfl (by rfl) H.rb (by rfl) TB (by rfl) lnb.1 lnb.2 H.bl.size ?_
                          intro vb' W' hr hg
                          refine hK _ _ ?_
                          clear hK K
                          have H := H.appB hr hg
                          clear hr hg TB
                          go_simp
                          refine wpAnyIn_take (i := 22) (v := ?v31) rfl rfl (by kernel_rfl) (by kernel_rfl) (by kernel_rfl) (fun _ _ _ h => (nomatch h.1)) ⟨Or.inl ⟨by rfl, ?hy31⟩, fun _ => rfl⟩ ?_
                          case hy31 => (intro w; go_simp; try with_reducible rfl)
                          go_simp
                          refine wpAnyIn_take (i := 23) (v := ?v32) rfl rfl (by kernel_rfl) (by kernel_rfl) (by kernel_rfl) (fun _ _ _ h => (nomatch h.1)) ⟨Or.inl ⟨by rfl, ?hy32⟩, fun _ => rfl⟩ ?_
                          case hy32 => (intro w; go_simp; try with_reducible rfl)
                          go_simp
                          refine wpAnyIn_done (by kernel_rfl) ?_ _
                          exact ⟨rfl, _, _, ⟨_, _, _, _, _, _, _, _, _, _, _, _, _, _, _, _, _, _, rfl⟩, H⟩
                    · have cq := (HCE.out _ H.bl).2
                      go_simp
                      refine hK _ _ ?_
                      clear hK K cq
                      refine wpAnyIn_ready (rs := [9, 20]) (by kernel_rfl) (by simp) (AllReadyIn.cons rfl (fun K hK => ?_) (AllReadyIn.cons rfl (fun K hK => ?_) AllReadyIn.nil))
                      · go_simp
                        refine hK _ _ ?_
                        clear hK K
                        obtain ⟨H, TA⟩ := H.temp 3 (.int .i64 x)
                        try simp only [World.size_alloc] at TA
                        refine wpAnyIn_ready (rs := [10, 20]) (by kernel_rfl) (by simp) (AllReadyIn.cons rfl (fun K hK => ?_) (AllReadyIn.cons rfl (fun K hK => ?_) AllReadyIn.nil))
                        · refine step_appendIn (by rfl) _ _ 42 (by rfl) Try.underlying42 hi hz0 hz1 hz2 rfl (by rfl) H.ra (by rfl) TA (by rfl) lna.1 lna.2 H.bl.size ?_
                          intro va' W' hr hg
                          refine hK _ _ ?_
                          clear hK K
                          have H := H.appA hr hg
                          clear hr hg TA
                          go_simp
                          refine wpAnyIn_ready (rs := [20]) (by kernel_rfl) (by simp) (AllReadyIn.cons rfl (fun K hK => ?_) AllReadyIn.nil)
                          go_simp
                          refine hK _ _ ?_
                          clear hK K
                          obtain ⟨H, TB⟩ := H.temp 9 (str y)
                          try simp only [World.size_alloc] at TB
                          refine wpAnyIn_ready (rs := [21]) (by kernel_rfl) (by simp) (AllReadyIn.cons rfl (fun K hK => ?_) AllReadyIn.nil)
                          refine step_appendIn (by rfl) _ _ 43 (by rfl) Try.underlying43 gi gz0 gz1 gz2 rfl (by rfl) H.rb (by rfl) TB (by rfl) lnb.1 lnb.2 H.bl.size ?_
                          intro vb' W' hr hg
                          refine hK _ _ ?_
                          clear hK K
                          have H := H.appB hr hg
                          clear hr hg TB
                          go_simp
                          refine wpAnyIn_take (i := 22) (v := ?v33) rfl rfl (by kernel_rfl) (by kernel_rfl) (by kernel_rfl) (fun _ _ _ h => (nomatch h.1)) ⟨Or.inl ⟨by rfl, ?hy33⟩, fun _ => rfl⟩ ?_
                          case hy33 => (intro w; go_simp; try with_reducible rfl)
                          go_simp
                          refine wpAnyIn_take (i := 23) (v := ?v34) rfl rfl (by kernel_rfl) (by kernel_rfl) (by kernel_rfl) (fun _ _ _ h => (nomatch h.1)) ⟨Or.inl ⟨by rfl, ?hy34⟩, fun _ => rfl⟩ ?_
                          case hy34 => (intro w; go_simp; try with_reducible rfl)
                          go_simp
                          refine wpAnyIn_done (by kernel_rfl) ?_ _
                          exact ⟨rfl, _, _, ⟨_, _, _, _, _, _, _, _, _, _, _, _, _, _, _, _, _, _, rfl⟩, H⟩
                        · go_simp
                          refine hK _ _ ?_
                          clear hK K
                          obtain ⟨H, TB⟩ := H.temp 9 (str y)
                          try simp only [World.size_alloc] at TB
                          have TA := TA.alloc (.cells #[(str y)] 9)
                          refine wpAnyIn_ready (rs := [10]) (by kernel_rfl) (by simp) (AllReadyIn.cons rfl (fun K hK => ?_) AllReadyIn.nil)
                          refine step_appendIn (by rfl) _ _ 42 (by rfl) Try.underlying42 hi hz0 hz1 hz2 rfl (by rfl) H.ra (by rfl) TA (by rfl) lna.1 lna.2 H.bl.size ?_
                          intro va' W' hr hg
                          refine hK _ _ ?_
                          clear hK K
                          have TB := temp_kept TB H.ra hg (by decide)
                          have H := H.appA hr hg
                          clear hr hg TA
                          go_simp
                          refine wpAnyIn_ready (rs := [21]) (by kernel_rfl) (by simp) (AllReadyIn.cons rfl (fun K hK => ?_) AllReadyIn.nil)
                          refine step_appendIn (by rfl) _ _ 43 (by rfl) Try.underlying43 gi gz0 gz1 gz2 rfl (by rfl) H.rb (by rfl) TB (by rfl) lnb.1 lnb.2 H.bl.size ?_
                          intro vb' W' hr hg
                          refine hK _ _ ?_
                          clear hK K
                          have H := H.appB hr hg
                          clear hr hg TB
                          go_simp
                          refine wpAnyIn_take (i := 22) (v := ?v35) rfl rfl (by kernel_rfl) (by kernel_rfl) (by kernel_rfl) (fun _ _ _ h => (nomatch h.1)) ⟨Or.inl ⟨by rfl, ?hy35⟩, fun _ => rfl⟩ ?_
                          case hy35 => (intro w; go_simp; try with_reducible rfl)
                          go_simp
                          refine wpAnyIn_take (i := 23) (v := ?v36) rfl rfl (by kernel_rfl) (by kernel_rfl) (by kernel_rfl) (fun _ _ _ h => (nomatch h.1)) ⟨Or.inl ⟨by rfl, ?hy36⟩, fun _ => rfl⟩ ?_
                          case hy36 => (intro w; go_simp; try with_reducible rfl)
                          go_simp
                          refine wpAnyIn_done (by kernel_rfl) ?_ _
                          exact ⟨rfl, _, _, ⟨_, _, _, _, _, _, _, _, _, _, _, _, _, _, _, _, _, _, rfl⟩, H⟩
                      · go_simp
                        refine hK _ _ ?_
                        clear hK K
                        obtain ⟨H, TB⟩ := H.temp 9 (str y)
                        try simp only [World.size_alloc] at TB
                        refine wpAnyIn_ready (rs := [9]) (by kernel_rfl) (by simp) (AllReadyIn.cons rfl (fun K hK => ?_) AllReadyIn.nil)
                        go_simp
                        refine hK _ _ ?_
                        clear hK K
                        obtain ⟨H, TA⟩ := H.temp 3 (.int .i64 x)
                        try simp only [World.size_alloc] at TA
                        have TB := TB.alloc (.cells #[(.int .i64 x)] 3)
                        refine wpAnyIn_ready (rs := [10]) (by kernel_rfl) (by simp) (AllReadyIn.cons rfl (fun K hK => ?_) AllReadyIn.nil)
                        refine step_appendIn (by rfl) _ _ 42 (by rfl) Try.underlying42 hi hz0 hz1 hz2 rfl (by rfl) H.ra (by rfl) TA (by rfl) lna.1 lna.2 H.bl.size ?_
                        intro va' W' hr hg
                        refine hK _ _ ?_
                        clear hK K
                        have TB := temp_kept TB H.ra hg (by decide)
                        have H := H.appA hr hg
                        clear hr hg TA
                        go_simp
                        refine wpAnyIn_ready (rs := [21]) (by kernel_rfl) (by simp) (AllReadyIn.cons rfl (fun K hK => ?_) AllReadyIn.nil)
                        refine step_appendIn (by rfl) _ _ 43 (by rfl) Try.underlying43 gi gz0 gz1 gz2 rfl (by rfl) H.rb (by rfl) TB (by rfl) lnb.1 lnb.2 H.bl.size ?_
                        intro vb' W' hr hg
                        refine hK _ _ ?_
                        clear hK K
                        have H := H.appB hr hg
                        clear hr hg TB
                        go_simp
                        refine wpAnyIn_take (i := 22) (v := ?v37) rfl rfl (by kernel_rfl) (by kernel_rfl) (by kernel_rfl) (fun _ _ _ h => (nomatch h.1)) ⟨Or.inl ⟨by rfl, ?hy37⟩, fun _ => rfl⟩ ?_
                        case hy37 => (intro w; go_simp; try with_reducible rfl)
                        go_simp
                        refine wpAnyIn_take (i := 23) (v := ?v38) rfl rfl (by kernel_rfl) (by kernel_rfl) (by kernel_rfl) (fun _ _ _ h => (nomatch h.1)) ⟨Or.inl ⟨by rfl, ?hy38⟩, fun _ => rfl⟩ ?_
                        case hy38 => (intro w; go_simp; try with_reducible rfl)
                        go_simp
                        refine wpAnyIn_done (by kernel_rfl) ?_ _
                        exact ⟨rfl, _, _, ⟨_, _, _, _, _, _, _, _, _, _, _, _, _, _, _, _, _, _, rfl⟩, H⟩
                · have cq := HCX.out _ H.bl
                  go_simp
                  refine hK _ _ ?_
                  clear hK K cq
                  refine wpAnyIn_take (i := 17) (v := ?v39) rfl rfl (by kernel_rfl) (by kernel_rfl) (by kernel_rfl) (fun _ _ _ h => (nomatch h.1)) ⟨Or.inl ⟨by rfl, ?hy39⟩, fun _ => rfl⟩ ?_
                  case hy39 => (intro w; go_simp; try with_reducible rfl)
                  go_simp
                  refine wpAnyIn_take (i := 18) (v := ?v40) rfl rfl (by kernel_rfl) (by kernel_rfl) (by kernel_rfl) (fun _ _ _ h => (nomatch h.1)) ⟨Or.inl ⟨by rfl, ?hy40⟩, fun _ => rfl⟩ ?_
                  case hy40 => (intro w; go_simp; try with_reducible rfl)
                  go_simp
                  refine wpAnyIn_ready (rs := [8, 19]) (by kernel_rfl) (by simp) (AllReadyIn.cons rfl (fun K hK => ?_) (AllReadyIn.cons rfl (fun K hK => ?_) AllReadyIn.nil))
                  · have cq := (HCE.out _ H.bl).1
                    go_simp
                    refine hK _ _ ?_
                    clear hK K cq
                    refine wpAnyIn_ready (rs := [9, 19]) (by kernel_rfl) (by simp) (AllReadyIn.cons rfl (fun K hK => ?_) (AllReadyIn.cons rfl (fun K hK => ?_) AllReadyIn.nil))
                    · go_simp
                      refine hK _ _ ?_
                      clear hK K
                      obtain ⟨H, TA⟩ := H.temp 3 (.int .i64 x)
                      try simp only [World.size_alloc] at TA
                      refine wpAnyIn_ready (rs := [10, 19]) (by kernel_rfl) (by simp) (AllReadyIn.cons rfl (fun K hK => ?_) (AllReadyIn.cons rfl (fun K hK => ?_) AllReadyIn.nil))
                      · refine step_appendIn (by rfl) _ _ 42 (by rfl) Try.underlying42 hi hz0 hz1 hz2 rfl (by rfl) H.ra (by rfl) TA (by rfl) lna.1 lna.2 H.bl.size ?_
                        intro va' W' hr hg
                        refine hK _ _ ?_
                        clear hK K
                        have H := H.appA hr hg
                        clear hr hg TA
                        go_simp
                        refine wpAnyIn_ready (rs := [19]) (by kernel_rfl) (by simp) (AllReadyIn.cons rfl (fun K hK => ?_) AllReadyIn.nil)
                        have cq := (HCE.out _ H.bl).2
                        go_simp
                        refine hK _ _ ?_
                        clear hK K cq
                        refine wpAnyIn_ready (rs := [20]) (by kernel_rfl) (by simp) (AllReadyIn.cons rfl (fun K hK => ?_) AllReadyIn.nil)
                        go_simp
                        refine hK _ _ ?_
                        clear hK K
                        obtain ⟨H, TB⟩ := H.temp 9 (str y)
                        try simp only [World.size_alloc] at TB
                        refine wpAnyIn_ready (rs := [21]) (by kernel_rfl) (by simp) (AllReadyIn.cons rfl (fun K hK => ?_) AllReadyIn.nil)
                        refine step_appendIn (by rfl) _ _ 43 (by rfl) Try.underlying43 gi gz0 gz1 gz2 rfl (by rfl) H.rb (by rfl) TB (by rfl) lnb.1 lnb.2 H.bl.size ?_
                        intro vb' W' hr hg
                        refine hK _ _ ?_
                        clear hK K
                        have H := H.appB hr hg
                        clear hr hg TB
                        go_simp
                        refine wpAnyIn_take (i := 22) (v := ?v41) rfl rfl (by kernel_rfl) (by kernel_rfl) (by kernel_rfl) (fun _ _ _ h => (nomatch h.1)) ⟨Or.inl ⟨by rfl, ?hy41⟩, fun _ => rfl⟩ ?_
                        case hy41 => (intro w; go_simp; try with_reducible rfl)
                        go_simp
                        refine wpAnyIn_take (i := 23) (v := ?v42) rfl rfl (by kernel_rfl) (by kernel_rfl) (by kernel_rfl) (fun _ _ _ h => (nomatch h.1)) ⟨Or.inl ⟨by rfl, ?hy42⟩, fun _ => rfl⟩ ?_
                        case hy42 => (intro w; go_simp; try with_reducible rfl)
                        go_simp
                        refine wpAnyIn_done (by kernel_rfl) ?_ _
                        exact ⟨rfl, _, _, ⟨_, _, _, _, _, _, _, _, _, _, _, _, _, _, _, _, _, _, rfl⟩, H⟩
                      · have cq := (HCE.out _ H.bl).2
                        go_simp
                        refine hK _ _ ?_
                        clear hK K cq
                        refine wpAnyIn_ready (rs := [10, 20]) (by kernel_rfl) (by simp) (AllReadyIn.cons rfl (fun K hK => ?_) (AllReadyIn.cons rfl (fun K hK => ?_) AllReadyIn.nil))
                        · refine step_appendIn (by rfl) _ _ 42 (by rfl) Try.underlying42 hi hz0 hz1 hz2 rfl (by rfl) H.ra (by rfl) TA (by rfl) lna.1 lna.2 H.bl.size ?_
                          intro va' W' hr hg
                          refine hK _ _ ?_
                          clear hK K
                          have H := H.appA hr hg
                          clear hr hg TA
                          go_simp
                          refine wpAnyIn_ready (rs := [20]) (by kernel_rfl) (by simp) (AllReadyIn.cons rfl (fun K hK => ?_) AllReadyIn.nil)
                          go_simp
                          refine hK _ _ ?_
                          clear hK K
                          obtain ⟨H, TB⟩ := H.temp 9 (str y)
                          try simp only [World.size_alloc] at TB
                          refine wpAnyIn_ready (rs := [21]) (by kernel_rfl) (by simp) (AllReadyIn.cons rfl (fun K hK => ?_) AllReadyIn.nil)
                          refine step_appendIn (by rfl) _ _ 43 (by rfl) Try.underlying43 gi gz0 gz1 gz2 rfl (by rfl) H.rb (by rfl) TB (by rfl) lnb.1 lnb.2 H.bl.size ?_
                          intro vb' W' hr hg
                          refine hK _ _ ?_
                          clear hK K
                          have H := H.appB hr hg
                          clear hr hg TB
                          go_simp
                          refine wpAnyIn_take (i := 22) (v := ?v43) rfl rfl (by kernel_rfl) (by kernel_rfl) (by kernel_rfl) (fun _ _ _ h => (nomatch h.1)) ⟨Or.inl ⟨by rfl, ?hy43⟩, fun _ => rfl⟩ ?_
                          case hy43 => (intro w; go_simp; try with_reducible rfl)
                          go_simp
                          refine wpAnyIn_take (i := 23) (v := ?v44) rfl rfl (by kernel_rfl) (by kernel_rfl) (by kernel_rfl) (fun _ _ _ h => (nomatch h.1)) ⟨Or.inl ⟨by rfl, ?hy44⟩, fun _ => rfl⟩ ?_
                          case hy44 => (intro w; go_simp; try with_reducible rfl)
                          go_simp
                          refine wpAnyIn_done (by kernel_rfl) ?_ _
                          exact ⟨rfl, _, _, ⟨_, _, _, _, _, _, _, _, _, _, _, _, _, _, _, _, _, _, rfl⟩, H⟩
                        · go_simp
                          refine hK _ _ ?_
                          clear hK K
                          obtain ⟨H, TB⟩ := H.temp 9 (str y)
                          try simp only [World.size_alloc] at TB
                          have TA := TA.alloc (.cells #[(str y)] 9)
                          refine wpAnyIn_ready (rs := [10]) (by kernel_rfl) (by simp) (AllReadyIn.cons rfl (fun K hK => ?_) AllReadyIn.nil)
                          refine step_appendIn (by rfl) _ _ 42 (by rfl) Try.underlying42 hi hz0 hz1 hz2 rfl (by rfl) H.ra (by rfl) TA (by rfl) lna.1 lna.2 H.bl.size ?_
                          intro va' W' hr hg
                          refine hK _ _ ?_
                          clear hK K
                          have TB := temp_kept TB H.ra hg (by decide)
                          have H := H.appA hr hg
                          clear hr hg TA
                          go_simp
                          refine wpAnyIn_ready (rs := [21]) (by kernel_rfl) (by simp) (AllReadyIn.cons rfl (fun K hK => ?_) AllReadyIn.nil)
                          refine step_appendIn (by rfl) _ _ 43 (by rfl) Try.underlying43 gi gz0 gz1 gz2 rfl (by rfl) H.rb (by rfl) TB (by rfl) lnb.1 lnb.2 H.bl.size ?_
                          intro vb' W' hr hg
                          refine hK _ _ ?_
                          clear hK K
                          have H := H.appB hr hg
                          clear hr hg TB
                          go_simp
                          refine wpAnyIn_take (i := 22) (v := ?v45) rfl rfl (by kernel_rfl) (by kernel_rfl) (by kernel_rfl) (fun _ _ _ h => (nomatch h.1)) ⟨Or.inl ⟨by rfl, ?hy45⟩, fun _ => rfl⟩ ?_
                          case hy45 => (intro w; go_simp; try with_reducible rfl)
                          go_simp
                          refine wpAnyIn_take (i := 23) (v := ?v46) rfl rfl (by kernel_rfl) (by kernel_rfl) (by kernel_rfl) (fun _ _ _ h => (nomatch h.1)) ⟨Or.inl ⟨by rfl, ?hy46⟩, fun _ => rfl⟩ ?_
                          case hy46 => (intro w; go_simp; try with_reducible rfl)
                          go_simp
                          refine wpAnyIn_done (by kernel_rfl) ?_ _
                          exact ⟨rfl, _, _, ⟨_, _, _, _, _, _, _, _, _, _, _, _, _, _, _, _, _, _, rfl⟩, H⟩
                    · have cq := (HCE.out _ H.bl).2
                      go_simp
                      refine hK _ _ ?_
                      clear hK K cq
                      refine wpAnyIn_ready (rs := [9, 20]) (by kernel_rfl) (by simp) (AllReadyIn.cons rfl (fun K hK => ?_) (AllReadyIn.cons rfl (fun K hK => ?_) AllReadyIn.nil))
                      · go_simp
                        refine hK _ _ ?_
                        clear hK K
                        obtain ⟨H, TA⟩ := H.temp 3 (.int .i64 x)
                        try simp only [World.size_alloc] at TA
                        refine wpAnyIn_ready (rs := [10, 20]) (by kernel_rfl) (by simp) (AllReadyIn.cons rfl (fun K hK => ?_) (AllReadyIn.cons rfl (fun K hK => ?_) AllReadyIn.nil))
                        · refine step_appendIn (by rfl) _ _ 42 (by rfl) Try.underlying42 hi hz0 hz1 hz2 rfl (by rfl) H.ra (by rfl) TA (by rfl) lna.1 lna.2 H.bl.size ?_
                          intro va' W' hr hg
                          refine hK _ _ ?_
                          clear hK K
                          have H := H.appA hr hg
                          clear hr hg TA
                          go_simp
                          refine wpAnyIn_ready (rs := [20]) (by kernel_rfl) (by simp) (AllReadyIn.cons rfl (fun K hK => ?_) AllReadyIn.nil)
                          go_simp
                          refine hK _ _ ?_
                          clear hK K
                          obtain ⟨H, TB⟩ := H.temp 9 (str y)
                          try simp only [World.size_alloc] at TB
                          refine wpAnyIn_ready (rs := [21]) (by kernel_rfl) (by simp) (AllReadyIn.cons rfl (fun K hK => ?_) AllReadyIn.nil)
                          refine step_appendIn (by rfl) _ _ 43 (by rfl) Try.underlying43 gi gz0 gz1 gz2 rfl (by rfl) H.rb (by rfl) TB (by rfl) lnb.1 lnb.2 H.bl.size ?_
                          intro vb' W' hr hg
                          refine hK _ _ ?_
                          clear hK K
                          have H := H.appB hr hg
                          clear hr hg TB
                          go_simp
                          refine wpAnyIn_take (i := 22) (v := ?v47) rfl rfl (by kernel_rfl) (by kernel_rfl) (by kernel_rfl) (fun _ _ _ h => (nomatch h.1)) ⟨Or.inl ⟨by rfl, ?hy47⟩, fun _ => rfl⟩ ?_
                          case hy47 => (intro w; go_simp; try with_reducible rfl)
                          go_simp
                          refine wpAnyIn_take (i := 23) (v := ?v48) rfl rfl (by kernel_rfl) (by kernel_rfl) (by kernel_rfl) (fun _ _ _ h => (nomatch h.1)) ⟨Or.inl ⟨by rfl, ?hy48⟩, fun _ => rfl⟩ ?_
                          case hy48 => (intro w; go_simp; try with_reducible rfl)
                          go_simp
                          refine wpAnyIn_done (by kernel_rfl) ?_ _
                          exact ⟨rfl, _, _, ⟨_, _, _, _, _, _, _, _, _, _, _, _, _, _, _, _, _, _, rfl⟩, H⟩
                        · go_simp
                          refine hK _ _ ?_
                          clear hK K
                          obtain ⟨H, TB⟩ := H.temp 9 (str y)
                          try simp only [World.size_alloc] at TB
                          have TA := TA.alloc (.cells #[(str y)] 9)
                          refine wpAnyIn_ready (rs := [10]) (by kernel_rfl) (by simp) (AllReadyIn.cons rfl (fun K hK => ?_) AllReadyIn.nil)
                          refine step_appendIn (by rfl) _ _ 42 (by rfl) Try.underlying42 hi hz0 hz1 hz2 rfl (by rfl) H.ra (by rfl) TA (by rfl) lna.1 lna.2 H.bl.size ?_
                          intro va' W' hr hg
                          refine hK _ _ ?_
                          clear hK K
                          have TB := temp_kept TB H.ra hg (by decide)
                          have H := H.appA hr hg
                          clear hr hg TA
                          go_simp
                          refine wpAnyIn_ready (rs := [21]) (by kernel_rfl) (by simp) (AllReadyIn.cons rfl (fun K hK => ?_) AllReadyIn.nil)
                          refine step_appendIn (by rfl) _ _ 43 (by rfl) Try.underlying43 gi gz0 gz1 gz2 rfl (by rfl) H.rb (by rfl) TB (by rfl) lnb.1 lnb.2 H.bl.size ?_
                          intro vb' W' hr hg
                          refine hK _ _ ?_
                          clear hK K
                          have H := H.appB hr hg
                          clear hr hg TB
                          go_simp
                          refine wpAnyIn_take (i := 22) (v := ?v49) rfl rfl (by kernel_rfl) (by kernel_rfl) (by kernel_rfl) (fun _ _ _ h => (nomatch h.1)) ⟨Or.inl ⟨by rfl, ?hy49⟩, fun _ => rfl⟩ ?_
                          case hy49 => (intro w; go_simp; try with_reducible rfl)
                          go_simp
                          refine wpAnyIn_take (i := 23) (v := ?v50) rfl rfl (by kernel_rfl) (by kernel_rfl) (by kernel_rfl) (fun _ _ _ h => (nomatch h.1)) ⟨Or.inl ⟨by rfl, ?hy50⟩, fun _ => rfl⟩ ?_
                          case hy50 => (intro w; go_simp; try with_reducible rfl)
                          go_simp
                          refine wpAnyIn_done (by kernel_rfl) ?_ _
                          exact ⟨rfl, _, _, ⟨_, _, _, _, _, _, _, _, _, _, _, _, _, _, _, _, _, _, rfl⟩, H⟩
                      · go_simp
                        refine hK _ _ ?_
                        clear hK K
                        obtain ⟨H, TB⟩ := H.temp 9 (str y)
                        try simp only [World.size_alloc] at TB
                        refine wpAnyIn_ready (rs := [9]) (by kernel_rfl) (by simp) (AllReadyIn.cons rfl (fun K hK => ?_) AllReadyIn.nil)
                        go_simp
                        refine hK _ _ ?_
                        clear hK K
                        obtain ⟨H, TA⟩ := H.temp 3 (.int .i64 x)
                        try simp only [World.size_alloc] at TA
                        have TB := TB.alloc (.cells #[(.int .i64 x)] 3)
                        refine wpAnyIn_ready (rs := [10]) (by kernel_rfl) (by simp) (AllReadyIn.cons rfl (fun K hK => ?_) AllReadyIn.nil)
                        refine step_appendIn (by rfl) _ _ 42 (by rfl) Try.underlying42 hi hz0 hz1 hz2 rfl (by rfl) H.ra (by rfl) TA (by rfl) lna.1 lna.2 H.bl.size ?_
                        intro va' W' hr hg
                        refine hK _ _ ?_
                        clear hK K
                        have TB := temp_kept TB H.ra hg (by decide)
                        have H := H.appA hr hg
                        clear hr hg TA
                        go_simp
                        refine wpAnyIn_ready (rs := [21]) (by kernel_rfl) (by simp) (AllReadyIn.cons rfl (fun K hK => ?_) AllReadyIn.nil)
                        refine step_appendIn (by rfl) _ _ 43 (by rfl) Try.underlying43 gi gz0 gz1 gz2 rfl (by rfl) H.rb (by rfl) TB (by rfl) lnb.1 lnb.2 H.bl.size ?_
                        intro vb' W' hr hg
                        refine hK _ _ ?_
                        clear hK K
                        have H := H.appB hr hg
                        clear hr hg TB
                        go_simp
                        refine wpAnyIn_take (i := 22) (v := ?v51) rfl rfl (by kernel_rfl) (by kernel_rfl) (by kernel_rfl) (fun _ _ _ h => (nomatch h.1)) ⟨Or.inl ⟨by rfl, ?hy51⟩, fun _ => rfl⟩ ?_
                        case hy51 => (intro w; go_simp; try with_reducible rfl)
                        go_simp
                        refine wpAnyIn_take (i := 23) (v := ?v52) rfl rfl (by kernel_rfl) (by kernel_rfl) (by kernel_rfl) (fun _ _ _ h => (nomatch h.1)) ⟨Or.inl ⟨by rfl, ?hy52⟩, fun _ => rfl⟩ ?_
                        case hy52 => (intro w; go_simp; try with_reducible rfl)
                        go_simp
                        refine wpAnyIn_done (by kernel_rfl) ?_ _
                        exact ⟨rfl, _, _, ⟨_, _, _, _, _, _, _, _, _, _, _, _, _, _, _, _, _, _, rfl⟩, H⟩
                  · have cq := (HCE.out _ H.bl).2
                    go_simp
                    refine hK _ _ ?_
                    clear hK K cq
                    refine wpAnyIn_ready (rs := [8, 20]) (by kernel_rfl) (by simp) (AllReadyIn.cons rfl (fun K hK => ?_) (AllReadyIn.cons rfl (fun K hK => ?_) AllReadyIn.nil))
                    · have cq := (HCE.out _ H.bl).1
                      go_simp
                      refine hK _ _ ?_
                      clear hK K cq
                      refine wpAnyIn_ready (rs := [9, 20]) (by kernel_rfl) (by simp) (AllReadyIn.cons rfl (fun K hK => ?_) (AllReadyIn.cons rfl (fun K hK => ?_) AllReadyIn.nil))
                      · go_simp
                        refine hK _ _ ?_
                        clear hK K
                        obtain ⟨H, TA⟩ := H.temp 3 (.int .i64 x)
                        try simp only [World.size_alloc] at TA
                        refine wpAnyIn_ready (rs := [10, 20]) (by kernel_rfl) (by simp) (AllReadyIn.cons rfl (fun K hK => ?_) (AllReadyIn.cons rfl (fun K hK => ?_) AllReadyIn.nil))
                        · refine step_appendIn (by rfl) _ _ 42 (by rfl) Try.underlying42 hi hz0 hz1 hz2 rfl (by rfl) H.ra (by rfl) TA (by rfl) lna.1 lna.2 H.bl.size ?_
                          intro va' W' hr hg
                          refine hK _ _ ?_
                          clear hK K
                          have H := H.appA hr hg
                          clear hr hg TA
                          go_simp
                          refine wpAnyIn_ready (rs := [20]) (by kernel_rfl) (by simp) (AllReadyIn.cons rfl (fun K hK => ?_) AllReadyIn.nil)
                          go_simp
                          refine hK _ _ ?_
                          clear hK K
                          obtain ⟨H, TB⟩ := H.temp 9 (str y)
                          try simp only [World.size_alloc] at TB
                          refine wpAnyIn_ready (rs := [21]) (by kernel_rfl) (by simp) (AllReadyIn.cons rfl (fun K hK => ?_) AllReadyIn.nil)
                          refine step_appendIn (by rfl) _ _ 43 (by rfl) Try.underlying43 gi gz0 gz1 gz2 rfl (by rfl) H.rb (by rfl) TB (by rfl) lnb.1 lnb.2 H.bl.size ?_
                          intro vb' W' hr hg
                          refine hK _ _ ?_
                          clear hK K
                          have H := H.appB hr hg
                          clear hr hg TB
                          go_simp
                          refine wpAnyIn_take (i := 22) (v := ?v53) rfl rfl (by kernel_rfl) (by kernel_rfl) (by kernel_rfl) (fun _ _ _ h => (nomatch h.1)) ⟨Or.inl ⟨by rfl, ?hy53⟩, fun _ => rfl⟩ ?_
                          case hy53 => (intro w; go_simp; try with_reducible rfl)
                          go_simp
                          refine wpAnyIn_take (i := 23) (v := ?v54) rfl rfl (by kernel_rfl) (by kernel_rfl) (by kernel_rfl) (fun _ _ _ h => (nomatch h.1)) ⟨Or.inl ⟨by rfl, ?hy54⟩, fun _ => rfl⟩ ?_
                          case hy54 => (intro w; go_simp; try with_reducible rfl)
                          go_simp
                          refine wpAnyIn_done (by kernel_rfl) ?_ _
                          exact ⟨rfl, _, _, ⟨_, _, _, _, _, _, _, _, _, _, _, _, _, _, _, _, _, _, rfl⟩, H⟩
                        · go_simp
                          refine hK _ _ ?_
                          clear hK K
                          obtain ⟨H, TB⟩ := H.temp 9 (str y)
                          try simp only [World.size_alloc] at TB
                          have TA := TA.alloc (.cells #[(str y)] 9)
                          refine wpAnyIn_ready (rs := [10]) (by kernel_rfl) (by simp) (AllReadyIn.cons rfl (fun K hK => ?_) AllReadyIn.nil)
                          refine step_appendIn (by rfl) _ _ 42 (by rfl) Try.underlying42 hi hz0 hz1 hz2 rfl (by rfl) H.ra (by rfl) TA (by rfl) lna.1 lna.2 H.bl.size ?_
                          intro va' W' hr hg
                          refine hK _ _ ?_
                          clear hK K
                          have TB := temp_kept TB H.ra hg (by decide)
                          have H := H.appA hr hg
                          clear hr hg TA
                          go_simp
                          refine wpAnyIn_ready (rs := [21]) (by kernel_rfl) (by simp) (AllReadyIn.cons rfl (fun K hK => ?_) AllReadyIn.nil)
                          refine step_appendIn (by rfl) _ _ 43 (by rfl) Try.underlying43 gi gz0 gz1 gz2 rfl (by rfl) H.rb (by rfl) TB (by rfl) lnb.1 lnb.2 H.bl.size ?_
                          intro vb' W' hr hg
                          refine hK _ _ ?_
                          clear hK K
                          have H := H.appB hr hg
                          clear hr hg TB
                          go_simp
                          refine wpAnyIn_take (i := 22) (v := ?v55) rfl rfl (by kernel_rfl) (by kernel_rfl) (by kernel_rfl) (fun _ _ _ h => (nomatch h.1)) ⟨Or.inl ⟨by rfl, ?hy55⟩, fun _ => rfl⟩ ?_
                          case hy55 => (intro w; go_simp; try with_reducible rfl)
                          go_simp
                          refine wpAnyIn_take (i := 23) (v := ?v56) rfl rfl (by kernel_rfl) (by kernel_rfl) (by kernel_rfl) (fun _ _ _ h => (nomatch h.1)) ⟨Or.inl ⟨by rfl, ?hy56⟩, fun _ => rfl⟩ ?_
                          case hy56 => (intro w; go_simp; try with_reducible rfl)
                          go_simp
                          refine wpAnyIn_done (by kernel_rfl) ?_ _
                          exact ⟨rfl, _, _, ⟨_, _, _, _, _, _, _, _, _, _, _, _, _, _, _, _, _, _, rfl⟩, H⟩
                      · go_simp
                        refine hK _ _ ?_
                        clear hK K
                        obtain ⟨H, TB⟩ := H.temp 9 (str y)
                        try simp only [World.size_alloc] at TB
                        refine wpAnyIn_ready (rs := [9]) (by kernel_rfl) (by simp) (AllReadyIn.cons rfl (fun K hK => ?_) AllReadyIn.nil)
                        go_simp
                        refine hK _ _ ?_
                        clear hK K
                        obtain ⟨H, TA⟩ := H.temp 3 (.int .i64 x)
                        try simp only [World.size_alloc] at TA
                        have TB := TB.alloc (.cells #[(.int .i64 x)] 3)
                        refine wpAnyIn_ready (rs := [10]) (by kernel_rfl) (by simp) (AllReadyIn.cons rfl (fun K hK => ?_) AllReadyIn.nil)
                        refine step_appendIn (by rfl) _ _ 42 (by rfl) Try.underlying42 hi hz0 hz1 hz2 rfl (by rfl) H.ra (by rfl) TA (by rfl) lna.1 lna.2 H.bl.size ?_
                        intro va' W' hr hg
                        refine hK _ _ ?_
                        clear hK K
                        have TB := temp_kept TB H.ra hg (by decide)
                        have H := H.appA hr hg
                        clear hr hg TA
                        go_simp
                        refine wpAnyIn_ready (rs := [21]) (by kernel_rfl) (by simp) (AllReadyIn.cons rfl (fun K hK => ?_) AllReadyIn.nil)
                        refine step_appendIn (by rfl) _ _ 43 (by rfl) Try.underlying43 gi gz0 gz1 gz2 rfl (by rfl) H.rb (by rfl) TB (by rfl) lnb.1 lnb.2 H.bl.size ?_
                        intro vb' W' hr hg
                        refine hK _ _ ?_
                        clear hK K
                        have H := H.appB hr hg
                        clear hr hg TB
                        go_simp
                        refine wpAnyIn_take (i := 22) (v := ?v57) rfl rfl (by kernel_rfl) (by kernel_rfl) (by kernel_rfl) (fun _ _ _ h => (nomatch h.1)) ⟨Or.inl ⟨by rfl, ?hy57⟩, fun _ => rfl⟩ ?_
                        case hy57 => (intro w; go_simp; try with_reducible rfl)
                        go_simp
                        refine wpAnyIn_take (i := 23) (v := ?v58) rfl rfl (by kernel_rfl) (by kernel_rfl) (by kernel_rfl) (fun _ _ _ h => (nomatch h.1)) ⟨Or.inl ⟨by rfl, ?hy58⟩, fun _ => rfl⟩ ?_
                        case hy58 => (intro w; go_simp; try with_reducible rfl)
                        go_simp
                        refine wpAnyIn_done (by kernel_rfl) ?_ _
                        exact ⟨rfl, _, _, ⟨_, _, _, _, _, _, _, _, _, _, _, _, _, _, _, _, _, _, rfl⟩, H⟩
                    · go_simp
                      refine hK _ _ ?_
                      clear hK K
                      obtain ⟨H, TB⟩ := H.temp 9 (str y)
                      try simp only [World.size_alloc] at TB
                      refine wpAnyIn_ready (rs := [8]) (by kernel_rfl) (by simp) (AllReadyIn.cons rfl (fun K hK => ?_) AllReadyIn.nil)
                      have cq := (HCE.out _ H.bl).1
                      go_simp
                      refine hK _ _ ?_
                      clear hK K cq
                      refine wpAnyIn_ready (rs := [9]) (by kernel_rfl) (by simp) (AllReadyIn.cons rfl (fun K hK => ?_) AllReadyIn.nil)
                      go_simp
                      refine hK _ _ ?_
                      clear hK K
                      obtain ⟨H, TA⟩ := H.temp 3 (.int .i64 x)
                      try simp only [World.size_alloc] at TA
                      have TB := TB.alloc (.cells #[(.int .i64 x)] 3)
                      refine wpAnyIn_ready (rs := [10]) (by kernel_rfl) (by simp) (AllReadyIn.cons rfl (fun K hK => ?_) AllReadyIn.nil)
                      refine step_appendIn (by rfl) _ _ 42 (by rfl) Try.underlying42 hi hz0 hz1 hz2 rfl (by rfl) H.ra (by rfl) TA (by rfl) lna.1 lna.2 H.bl.size ?_
                      intro va' W' hr hg
                      refine hK _ _ ?_
                      clear hK K
                      have TB := temp_kept TB H.ra hg (by decide)
                      have H := H.appA hr hg
                      clear hr hg TA
                      go_simp
                      refine wpAnyIn_ready (rs := [21]) (by kernel_rfl) (by simp) (AllReadyIn.cons rfl (fun K hK => ?_) AllReadyIn.nil)
                      refine step_appendIn (by rfl) _ _ 43 (by rfl) Try.underlying43 gi gz0 gz1 gz2 rfl (by rfl) H.rb (by rfl) TB (by rfl) lnb.1 lnb.2 H.bl.size ?_
                      intro vb' W' hr hg
                      refine hK _ _ ?_
                      clear hK K
                      have H := H.appB hr hg
                      clear hr hg TB
                      go_simp
                      refine wpAnyIn_take (i := 22) (v := ?v59) rfl rfl (by kernel_rfl) (by kernel_rfl) (by kernel_rfl) (fun _ _ _ h => (nomatch h.1)) ⟨Or.inl ⟨by rfl, ?hy59⟩, fun _ => rfl⟩ ?_
                      case hy59 => (intro w; go_simp; try with_reducible rfl)
                      go_simp
                      refine wpAnyIn_take (i := 23) (v := ?v60) rfl rfl (by kernel_rfl) (by kernel_rfl) (by kernel_rfl) (fun _ _ _ h => (nomatch h.1)) ⟨Or.inl ⟨by rfl, ?hy60⟩, fun _ => rfl⟩ ?_
                      case hy60 => (intro w; go_simp; try with_reducible rfl)
                      go_simp
                      refine wpAnyIn_done (by kernel_rfl) ?_ _
                      exact ⟨rfl, _, _, ⟨_, _, _, _, _, _, _, _, _, _, _, _, _, _, _, _, _, _, rfl⟩, H⟩
              · have cq := HCX.out _ H.bl
                go_simp
                refine hK _ _ ?_
                clear hK K cq
                refine wpAnyIn_take (i := 17) (v := ?v61) rfl rfl (by kernel_rfl) (by kernel_rfl) (by kernel_rfl) (fun _ _ _ h => (nomatch h.1)) ⟨Or.inl ⟨by rfl, ?hy61⟩, fun _ => rfl⟩ ?_
                case hy61 => (intro w; go_simp; try with_reducible rfl)
                go_simp
                refine wpAnyIn_take (i := 18) (v := ?v62) rfl rfl (by kernel_rfl) (by kernel_rfl) (by kernel_rfl) (fun _ _ _ h => (nomatch h.1)) ⟨Or.inl ⟨by rfl, ?hy62⟩, fun _ => rfl⟩ ?_
                case hy62 => (intro w; go_simp; try with_reducible rfl)
                go_simp
                refine wpAnyIn_ready (rs := [4, 19]) (by kernel_rfl) (by simp) (AllReadyIn.cons rfl (fun K hK => ?_) (AllReadyIn.cons rfl (fun K hK => ?_) AllReadyIn.nil))
                · have cq := HCX.out _ H.bl
                  go_simp
                  refine hK _ _ ?_
                  clear hK K cq
                  refine wpAnyIn_take (i := 6) (v := ?v63) rfl rfl (by kernel_rfl) (by kernel_rfl) (by kernel_rfl) (fun _ _ _ h => (nomatch h.1)) ⟨Or.inl ⟨by rfl, ?hy63⟩, fun _ => rfl⟩ ?_
                  case hy63 => (intro w; go_simp; try with_reducible rfl)
                  go_simp
                  refine wpAnyIn_take (i := 7) (v := ?v64) rfl rfl (by kernel_rfl) (by kernel_rfl) (by kernel_rfl) (fun _ _ _ h => (nomatch h.1)) ⟨Or.inl ⟨by rfl, ?hy64⟩, fun _ => rfl⟩ ?_
                  case hy64 => (intro w; go_simp; try with_reducible rfl)
                  go_simp
                  refine wpAnyIn_ready (rs := [8, 19]) (by kernel_rfl) (by simp) (AllReadyIn.cons rfl (fun K hK => ?_) (AllReadyIn.cons rfl (fun K hK => ?_) AllReadyIn.nil))
                  · have cq := (HCE.out _ H.bl).1
                    go_simp
                    refine hK _ _ ?_
                    clear hK K cq
                    refine wpAnyIn_ready (rs := [9, 19]) (by kernel_rfl) (by simp) (AllReadyIn.cons rfl (fun K hK => ?_) (AllReadyIn.cons rfl (fun K hK => ?_) AllReadyIn.nil))
                    · go_simp
                      refine hK _ _ ?_
                      clear hK K
                      obtain ⟨H, TA⟩ := H.temp 3 (.int .i64 x)
                      try simp only [World.size_alloc] at TA
                      refine wpAnyIn_ready (rs := [10, 19]) (by kernel_rfl) (by simp) (AllReadyIn.cons rfl (fun K hK => ?_) (AllReadyIn.cons rfl (fun K hK => ?_) AllReadyIn.nil))
                      · refine step_appendIn (by rfl) _ _ 42 (by rfl) Try.underlying42 hi hz0 hz1 hz2 rfl (by rfl) H.ra (by rfl) TA (by rfl) lna.1 lna.2 H.bl.size ?_
                        intro va' W' hr hg
                        refine hK _ _ ?_
                        clear hK K
                        have H := H.appA hr hg
                        clear hr hg TA
                        go_simp
                        refine wpAnyIn_ready (rs := [19]) (by kernel_rfl) (by simp) (AllReadyIn.cons rfl (fun K hK => ?_) AllReadyIn.nil)
                        have cq := (HCE.out _ H.bl).2
                        go_simp
                        refine hK _ _ ?_
                        clear hK K cq
                        refine wpAnyIn_ready (rs := [20]) (by kernel_rfl) (by simp) (AllReadyIn.cons rfl (fun K hK => ?_) AllReadyIn.nil)
                        go_simp
                        refine hK _ _ ?_
                        clear hK K
                        obtain ⟨H, TB⟩ := H.temp 9 (str y)
                        try simp only [World.size_alloc] at TB
                        refine wpAnyIn_ready (rs := [21]) (by kernel_rfl) (by simp) (AllReadyIn.cons rfl (fun K hK => ?_) AllReadyIn.nil)
                        refine step_appendIn (by rfl) _ _ 43 (by rfl) Try.underlying43 gi gz0 gz1 gz2 rfl (by rfl) H.rb (by rfl) TB (by rfl) lnb.1 lnb.2 H.bl.size ?_
                        intro vb' W' hr hg
                        refine hK _ _ ?_
                        clear hK K
                        have H := H.appB hr hg
                        clear hr hg TB
                        go_simp
                        refine wpAnyIn_take (i := 22) (v := ?v65) rfl rfl (by kernel_rfl) (by kernel_rfl) (by kernel_rfl) (fun _ _ _ h => (nomatch h.1)) ⟨Or.inl ⟨by rfl, ?hy65⟩, fun _ => rfl⟩ ?_
                        case hy65 => (intro w; go_simp; try with_reducible rfl)
                        go_simp
                        refine wpAnyIn_take (i := 23) (v := ?v66) rfl rfl (by kernel_rfl) (by kernel_rfl) (by kernel_rfl) (fun _ _ _ h => (nomatch h.1)) ⟨Or.inl ⟨by rfl, ?hy66⟩, fun _ => rfl⟩ ?_
                        case hy66 => (intro w; go_simp; try with_reducible rfl)
                        go_simp
                        refine wpAnyIn_done (by kernel_rfl) ?_ _
                        exact ⟨rfl, _, _, ⟨_, _, _, _, _, _, _, _, _, _, _, _, _, _, _, _, _, _, rfl⟩, H⟩
                      · have cq := (HCE.out _ H.bl).2
                        go_simp
                        refine hK _ _ ?_
                        clear hK K cq
                        refine wpAnyIn_ready (rs := [10, 20]) (by kernel_rfl) (by simp) (AllReadyIn.cons rfl (fun K hK => ?_) (AllReadyIn.cons rfl (fun K hK => ?_) AllReadyIn.nil))
                        · refine step_appendIn (by rfl) _ _ 42 (by rfl) Try.underlying42 hi hz0 hz1 hz2 rfl (by rfl) H.ra (by rfl) TA (by rfl) lna.1 lna.2 H.bl.size ?_
                          intro va' W' hr hg
                          refine hK _ _ ?_
                          clear hK K
                          have H := H.appA hr hg
                          clear hr hg TA
                          go_simp
                          refine wpAnyIn_ready (rs := [20]) (by kernel_rfl) (by simp) (AllReadyIn.cons rfl (fun K hK => ?_) AllReadyIn.nil)
                          go_simp
                          refine hK _ _ ?_
                          clear hK K
                          obtain ⟨H, TB⟩ := H.temp 9 (str y)
                          try simp only [World.size_alloc] at TB
                          refine wpAnyIn_ready (rs := [21]) (by kernel_rfl) (by simp) (AllReadyIn.cons rfl (fun K hK => ?_) AllReadyIn.nil)
                          refine step_appendIn (by rfl) _ _ 43 (by rfl) Try.underlying43 gi gz0 gz1 gz2 rfl (by rfl) H.rb (by rfl) TB (by rfl) lnb.1 lnb.2 H.bl.size ?_
                          intro vb' W' hr hg
                          refine hK _ _ ?_
                          clear hK K
                          have H := H.appB hr hg
                          clear hr hg TB
                          go_simp
                          refine wpAnyIn_take (i := 22) (v := ?v67) rfl rfl (by kernel_rfl) (by kernel_rfl) (by kernel_rfl) (fun _ _ _ h => (nomatch h.1)) ⟨Or.inl ⟨by rfl, ?hy67⟩, fun _ => rfl⟩ ?_
                          case hy67 => (intro w; go_simp; try with_reducible rfl)
                          go_simp
                          refine wpAnyIn_take (i := 23) (v := ?v68) rfl rfl (by kernel_rfl) (by kernel_rfl) (by kernel_rfl) (fun _ _ _ h => (nomatch h.1)) ⟨Or.inl ⟨by rfl, ?hy68⟩, fun _ => rfl⟩ ?_
                          case hy68 => (intro w; go_simp; try with_reducible rfl)
                          go_simp
                          refine wpAnyIn_done (by kernel_rfl) ?_ _
                          exact ⟨rfl, _, _, ⟨_, _, _, _, _, _, _, _, _, _, _, _, _, _, _, _, _, _, rfl⟩, H⟩
                        · go_simp
                          refine hK _ _ ?_
                          clear hK K
                          obtain ⟨H, TB⟩ := H.temp 9 (str y)
                          try simp only [World.size_alloc] at TB
                          have TA := TA.alloc (.cells #[(str y)] 9)
                          refine wpAnyIn_ready (rs := [10]) (by kernel_rfl) (by simp) (AllReadyIn.cons rfl (fun K hK => ?_) AllReadyIn.nil)
                          refine step_appendIn (by rfl) _ _ 42 (by rfl) Try.underlying42 hi hz0 hz1 hz2 rfl (by rfl) H.ra (by rfl) TA (by rfl) lna.1 lna.2 H.bl.size ?_
                          intro va' W' hr hg
                          refine hK _ _ ?_
                          clear hK K
                          have TB := temp_kept TB H.ra hg (by decide)
                          have H := H.appA hr hg
                          clear hr hg TA
                          go_simp
                          refine wpAnyIn_ready (rs := [21]) (by kernel_rfl) (by simp) (AllReadyIn.cons rfl (fun K hK => ?_) AllReadyIn.nil)
                          refine step_appendIn (by rfl) _ _ 43 (by rfl) Try.underlying43 gi gz0 gz1 gz2 rfl (by rfl) H.rb (by rfl) TB (by rfl) lnb.1 lnb.2 H.bl.size ?_
                          intro vb' W' hr hg
                          refine hK _ _ ?_
                          clear hK K
                          have H := H.appB hr hg
                          clear hr hg TB
                          go_simp
                          refine wpAnyIn_take (i := 22) (v := ?v69) rfl rfl (by kernel_rfl) (by kernel_rfl) (by kernel_rfl) (fun _ _ _ h => (nomatch h.1)) ⟨Or.inl ⟨by rfl, ?hy69⟩, fun _ => rfl⟩ ?_
                          case hy69 => (intro w; go_simp; try with_reducible rfl)
                          go_simp
                          refine wpAnyIn_take (i := 23) (v := ?v70) rfl rfl (by kernel_rfl) (by kernel_rfl) (by kernel_rfl) (fun _ _ _ h => (nomatch h.1)) ⟨Or.inl ⟨by rfl, ?hy70⟩, fun _ => rfl⟩ ?_
                          case hy70 => (intro w; go_simp; try with_reducible rfl)
                          go_simp
                          refine wpAnyIn_done (by kernel_rfl) ?_ _
                          exact ⟨rfl, _, _, ⟨_, _, _, _, _, _, _, _, _, _, _, _, _, _, _, _, _, _, rfl⟩, H⟩
                    · have cq := (HCE.out _ H.bl).2
                      go_simp
                      refine hK _ _ ?_
                      clear hK K cq
                      refine wpAnyIn_ready (rs := [9, 20]) (by kernel_rfl) (by simp) (AllReadyIn.cons rfl (fun K hK => ?_) (AllReadyIn.cons rfl (fun K hK => ?_) AllReadyIn.nil))
                      · go_simp
                        refine hK _ _ ?_
                        clear hK K
                        obtain ⟨H, TA⟩ := H.temp 3 (.int .i64 x)
                        try simp only [World.size_alloc] at TA
                        refine wpAnyIn_ready (rs := [10, 20]) (by kernel_rfl) (by simp) (AllReadyIn.cons rfl (fun K hK => ?_) (AllReadyIn.cons rfl (fun K hK => ?_) AllReadyIn.nil))
                        · refine step_appendIn (by rfl) _ _ 42 (by rfl) Try.underlying42 hi hz0 hz1 hz2 rfl (by rfl) H.ra (by rfl) TA (by rfl) lna.1 lna.2 H.bl.size ?_
                          intro va' W' hr hg
                          refine hK _ _ ?_
                          clear hK K
                          have H := H.appA hr hg
                          clear hr hg TA
                          go_simp
                          refine wpAnyIn_ready (rs := [20]) (by kernel_rfl) (by simp) (AllReadyIn.cons rfl (fun K hK => ?_) AllReadyIn.nil)
                          go_simp
                          refine hK _ _ ?_
                          clear hK K
                          obtain ⟨H, TB⟩ := H.temp 9 (str y)
                          try simp only [World.size_alloc] at TB
                          refine wpAnyIn_ready (rs := [21]) (by kernel_rfl) (by simp) (AllReadyIn.cons rfl (fun K hK => ?_) AllReadyIn.nil)
                          refine step_appendIn (by rfl) _ _ 43 (by rfl) Try.underlying43 gi gz0 gz1 gz2 rfl (by rfl) H.rb (by rfl) TB (by rfl) lnb.1 lnb.2 H.bl.size ?_
                          intro vb' W' hr hg
                          refine hK _ _ ?_
                          clear hK K
                          have H := H.appB hr hg
                          clear hr hg TB
                          go_simp
                          refine wpAnyIn_take (i := 22) (v := ?v71) rfl rfl (by kernel_rfl) (by kernel_rfl) (by kernel_rfl) (fun _ _ _ h => (nomatch h.1)) ⟨Or.inl ⟨by rfl, ?hy71⟩, fun _ => rfl⟩ ?_
                          case hy71 => (intro w; go_simp; try with_reducible rfl)
                          go_simp
                          refine wpAnyIn_take (i := 23) (v := ?v72) rfl rfl (by kernel_rfl) (by kernel_rfl) (by kernel_rfl) (fun _ _ _ h => (nomatch h.1)) ⟨Or.inl ⟨by rfl, ?hy72⟩, fun _ => rfl⟩ ?_
                          case hy72 => (intro w; go_simp; try with_reducible rfl)
                          go_simp
                          refine wpAnyIn_done (by kernel_rfl) ?_ _
                          exact ⟨rfl, _, _, ⟨_, _, _, _, _, _, _, _, _, _, _, _, _, _, _, _, _, _, rfl⟩, H⟩
                        · go_simp
                          refine hK _ _ ?_
                          clear hK K
                          obtain ⟨H, TB⟩ := H.temp 9 (str y)
                          try simp only [World.size_alloc] at TB
                          have TA := TA.alloc (.cells #[(str y)] 9)
                          refine wpAnyIn_ready (rs := [10]) (by kernel_rfl) (by simp) (AllReadyIn.cons rfl (fun K hK => ?_) AllReadyIn.nil)
                          refine step_appendIn (by rfl) _ _ 42 (by rfl) Try.underlying42 hi hz0 hz1 hz2 rfl (by rfl) H.ra (by rfl) TA (by rfl) lna.1 lna.2 H.bl.size ?_
                          intro va' W' hr hg
                          refine hK _ _ ?_
                          clear hK K
                          have TB := temp_kept TB H.ra hg (by decide)
                          have H := H.appA hr hg
                          clear hr hg TA
                          go_simp
                          refine wpAnyIn_ready (rs := [21]) (by kernel_rfl) (by simp) (AllReadyIn.cons rfl (fun K hK => ?_) AllReadyIn.nil)
                          refine step_appendIn (by rfl) _ _ 43 (by rfl) Try.underlying43 gi gz0 gz1 gz2 rfl (by rfl) H.rb (by rfl) TB (by rfl) lnb.1 lnb.2 H.bl.size ?_
                          intro vb' W' hr hg
                          refine hK _ _ ?_
                          clear hK K
                          have H := H.appB hr hg
                          clear hr hg TB
                          go_simp
                          refine wpAnyIn_take (i := 22) (v := ?v73) rfl rfl (by kernel_rfl) (by kernel_rfl) (by kernel_rfl) (fun _ _ _ h => (nomatch h.1)) ⟨Or.inl ⟨by rfl, ?hy73⟩, fun _ => rfl⟩ ?_
                          case hy73 => (intro w; go_simp; try with_reducible rfl)
                          go_simp
                          refine wpAnyIn_take (i := 23) (v := ?v74) rfl rfl (by kernel_rfl) (by kernel_rfl) (by kernel_rfl) (fun _ _ _ h => (nomatch h.1)) ⟨Or.inl ⟨by rfl, ?hy74⟩, fun _ => rfl⟩ ?_
                          case hy74 => (intro w; go_simp; try with_reducible rfl)
                          go_simp
                          refine wpAnyIn_done (by kernel_rfl) ?_ _
                          exact ⟨rfl, _, _, ⟨_, _, _, _, _, _, _, _, _, _, _, _, _, _, _, _, _, _, rfl⟩, H⟩
                      · go_simp
                        refine hK _ _ ?_
                        clear hK K
                        obtain ⟨H, TB⟩ := H.temp 9 (str y)
                        try simp only [World.size_alloc] at TB
                        refine wpAnyIn_ready (rs := [9]) (by kernel_rfl) (by simp) (AllReadyIn.cons rfl (fun K hK => ?_) AllReadyIn.nil)
                        go_simp
                        refine hK _ _ ?_
                        clear hK K
                        obtain ⟨H, TA⟩ := H.temp 3 (.int .i64 x)
                        try simp only [World.size_alloc] at TA
                        have TB := TB.alloc (.cells #[(.int .i64 x)] 3)
                        refine wpAnyIn_ready (rs := [10]) (by kernel_rfl) (by simp) (AllReadyIn.cons rfl (fun K hK => ?_) AllReadyIn.nil)
                        refine step_appendIn (by rfl) _ _ 42 (by rfl) Try.underlying42 hi hz0 hz1 hz2 rfl (by rfl) H.ra (by rfl) TA (by rfl) lna.1 lna.2 H.bl.size ?_
                        intro va' W' hr hg
                        refine hK _ _ ?_
                        clear hK K
                        have TB := temp_kept TB H.ra hg (by decide)
                        have H := H.appA hr hg
                        clear hr hg TA
                        go_simp
                        refine wpAnyIn_ready (rs := [21]) (by kernel_rfl) (by simp) (AllReadyIn.cons rfl (fun K hK => ?_) AllReadyIn.nil)
                        refine step_appendIn (by rfl) _ _ 43 (by rfl) Try.underlying43 gi gz0 gz1 gz2 rfl (by rfl) H.rb (by rfl) TB (by rfl) lnb.1 lnb.2 H.bl.size ?_
                        intro vb' W' hr hg
                        refine hK _ _ ?_
                        clear hK K
                        have H := H.appB hr hg
                        clear hr hg TB
                        go_simp
                        refine wpAnyIn_take (i := 22) (v := ?v75) rfl rfl (by kernel_rfl) (by kernel_rfl) (by kernel_rfl) (fun _ _ _ h => (nomatch h.1)) ⟨Or.inl ⟨by rfl, ?hy75⟩, fun _ => rfl⟩ ?_
                        case hy75 => (intro w; go_simp; try with_reducible rfl)
                        go_simp
                        refine wpAnyIn_take (i := 23) (v := ?v76) rfl rfl (by kernel_rfl) (by kernel_rfl) (by kernel_rfl) (fun _ _ _ h => (nomatch h.1)) ⟨Or.inl ⟨by rfl, ?hy76⟩, fun _ => rfl⟩ ?_
                        case hy76 => (intro w; go_simp; try with_reducible rfl)
                        go_simp
                        refine wpAnyIn_done (by kernel_rfl) ?_ _
                        exact ⟨rfl, _, _, ⟨_, _, _, _, _, _, _, _, _, _, _, _, _, _, _, _, _, _, rfl⟩, H⟩
                  · have cq := (HCE.out _ H.bl).2
                    go_simp
                    refine hK _ _ ?_
                    clear hK K cq
                    refine wpAnyIn_ready (rs := [8, 20]) (by kernel_rfl) (by simp) (AllReadyIn.cons rfl (fun K hK => ?_) (AllReadyIn.cons rfl (fun K hK => ?_) AllReadyIn.nil))
                    · have cq := (HCE.out _ H.bl).1
                      go_simp
                      refine hK _ _ ?_
                      clear hK K cq
                      refine wpAnyIn_ready (rs := [9, 20]) (by kernel_rfl) (by simp) (AllReadyIn.cons rfl (fun K hK => ?_) (AllReadyIn.cons rfl (fun K hK => ?_) AllReadyIn.nil))
                      · go_simp
                        refine hK _ _ ?_
                        clear hK K
                        obtain ⟨H, TA⟩ := H.temp 3 (.int .i64 x)
                        try simp only [World.size_alloc] at TA
                        refine wpAnyIn_ready (rs := [10, 20]) (by kernel_rfl) (by simp) (AllReadyIn.cons rfl (fun K hK => ?_) (AllReadyIn.cons rfl (fun K hK => ?_) AllReadyIn.nil))
                        · refine step_appendIn (by rfl) _ _ 42 (by rfl) Try.underlying42 hi hz0 hz1 hz2 rfl (by rfl) H.ra (by rfl) TA (by rfl) lna.1 lna.2 H.bl.size ?_
                          intro va' W' hr hg
                          refine hK _ _ ?_
                          clear hK K
                          have H := H.appA hr hg
                          clear hr hg TA
                          go_simp
                          refine wpAnyIn_ready (rs := [20]) (by kernel_rfl) (by simp) (AllReadyIn.cons rfl (fun K hK => ?_) AllReadyIn.nil)
                          go_simp
                          refine hK _ _ ?_
                          clear hK K
                          obtain ⟨H, TB⟩ := H.temp 9 (str y)
                          try simp only [World.size_alloc] at TB
                          refine wpAnyIn_ready (rs := [21]) (by kernel_rfl) (by simp) (AllReadyIn.cons rfl (fun K hK => ?_) AllReadyIn.nil)
                          refine step_appendIn (by rfl) _ _ 43 (by rfl) Try.underlying43 gi gz0 gz1 gz2 rfl (by rfl) H.rb (by rfl) TB (by rfl) lnb.1 lnb.2 H.bl.size ?_
                          intro vb' W' hr hg
                          refine hK _ _ ?_
                          clear hK K
                          have H := H.appB hr hg
                          clear hr hg TB
                          go_simp
                          refine wpAnyIn_take (i := 22) (v := ?v77) rfl rfl (by kernel_rfl) (by kernel_rfl) (by kernel_rfl) (fun _ _ _ h => (nomatch h.1)) ⟨Or.inl ⟨by rfl, ?hy77⟩, fun _ => rfl⟩ ?_
                          case hy77 => (intro w; go_simp; try with_reducible rfl)
                          go_simp
                          refine wpAnyIn_take (i := 23) (v := ?v78) rfl rfl (by kernel_rfl) (by kernel_rfl) (by kernel_rfl) (fun _ _ _ h => (nomatch h.1)) ⟨Or.inl ⟨by rfl, ?hy78⟩, fun _ => rfl⟩ ?_
                          case hy78 => (intro w; go_simp; try with_reducible rfl)
                          go_simp
                          refine wpAnyIn_done (by kernel_rfl) ?_ _
                          exact ⟨rfl, _, _, ⟨_, _, _, _, _, _, _, _, _, _, _, _, _, _, _, _, _, _, rfl⟩, H⟩
                        · go_simp
                          refine hK _ _ ?_
                          clear hK K
                          obtain ⟨H, TB⟩ := H.temp 9 (str y)
                          try simp only [World.size_alloc] at TB
                          have TA := TA.alloc (.cells #[(str y)] 9)
                          refine wpAnyIn_ready (rs := [10]) (by kernel_rfl) (by simp) (AllReadyIn.cons rfl (fun K hK => ?_) AllReadyIn.nil)
                          refine step_appendIn (by rfl) _ _ 42 (by rfl) Try.underlying42 hi hz0 hz1 hz2 rfl (by rfl) H.ra (by rfl) TA (by rfl) lna.1 lna.2 H.bl.size ?_
                          intro va' W' hr hg
                          refine hK _ _ ?_
                          clear hK K
                          have TB := temp_kept TB H.ra hg (by decide)
                          have H := H.appA hr hg
                          clear hr hg TA
                          go_simp
                          refine wpAnyIn_ready (rs := [21]) (by kernel_rfl) (by simp) (AllReadyIn.cons rfl (fun K hK => ?_) AllReadyIn.nil)
                          refine step_appendIn (by rfl) _ _ 43 (by rfl) Try.underlying43 gi gz0 gz1 gz2 rfl (by rfl) H.rb (by rfl) TB (by rfl) lnb.1 lnb.2 H.bl.size ?_
                          intro vb' W' hr hg
                          refine hK _ _ ?_
                          clear hK K
                          have H := H.appB hr hg
                          clear hr hg TB
                          go_simp
                          refine wpAnyIn_take (i := 22) (v := ?v79) rfl rfl (by kernel_rfl) (by kernel_rfl) (by kernel_rfl) (fun _ _ _ h => (nomatch h.1)) ⟨Or.inl ⟨by rfl, ?hy79⟩, fun _ => rfl⟩ ?_
                          case hy79 => (intro w; go_simp; try with_reducible rfl)
                          go_simp
                          refine wpAnyIn_take (i := 23) (v := ?v80) rfl rfl (by kernel_rfl) (by kernel_rfl) (by kernel_rfl) (fun _ _ _ h => (nomatch h.1)) ⟨Or.inl ⟨by rfl, ?hy80⟩, fun _ => rfl⟩ ?_
                          case hy80 => (intro w; go_simp; try with_reducible rfl)
                          go_simp
                          refine wpAnyIn_done (by kernel_rfl) ?_ _
                          exact ⟨rfl, _, _, ⟨_, _, _, _, _, _, _, _, _, _, _, _, _, _, _, _, _, _, rfl⟩, H⟩
                      · go_simp
                        refine hK _ _ ?_
                        clear hK K
                        obtain ⟨H, TB⟩ := H.temp 9 (str y)
                        try simp only [World.size_alloc] at TB
                        refine wpAnyIn_ready (rs := [9]) (by kernel_rfl) (by simp) (AllReadyIn.cons rfl (fun K hK => ?_) AllReadyIn.nil)
                        go_simp
                        refine hK _ _ ?_
                        clear hK K
                        obtain ⟨H, TA⟩ := H.temp 3 (.int .i64 x)
                        try simp only [World.size_alloc] at TA
                        have TB := TB.alloc (.cells #[(.int .i64 x)] 3)
                        refine wpAnyIn_ready (rs := [10]) (by kernel_rfl) (by simp) (AllReadyIn.cons rfl (fun K hK => ?_) AllReadyIn.nil)
                        refine step_appendIn (by rfl) _ _ 42 (by rfl) Try.underlying42 hi hz0 hz1 hz2 rfl (by rfl) H.ra (by rfl) TA (by rfl) lna.1 lna.2 H.bl.size ?_
                        intro va' W' hr hg
                        refine hK _ _ ?_
                        clear hK K
                        have TB := temp_kept TB H.ra hg (by decide)
                        have H := H.appA hr hg
                        clear hr hg TA
                        go_simp
                        refine wpAnyIn_ready (rs := [21]) (by kernel_rfl) (by simp) (AllReadyIn.cons rfl (fun K hK => ?_) AllReadyIn.nil)
                        refine step_appendIn (by rfl) _ _ 43 (by rfl) Try.underlying43 gi gz0 gz1 gz2 rfl (by rfl) H.rb (by rfl) TB (by rfl) lnb.1 lnb.2 H.bl.size ?_
                        intro vb' W' hr hg
                        refine hK _ _ ?_
                        clear hK K
                        have H := H.appB hr hg
                        clear hr hg TB
                        go_simp
                        refine wpAnyIn_take (i := 22) (v := ?v81) rfl rfl (by kernel_rfl) (by kernel_rfl) (by kernel_rfl) (fun _ _ _ h => (nomatch h.1)) ⟨Or.inl ⟨by rfl, ?hy81⟩, fun _ => rfl⟩ ?_
                        case hy81 => (intro w; go_simp; try with_reducible rfl)
                        go_simp
                        refine wpAnyIn_take (i := 23) (v := ?v82) rfl rfl (by kernel_rfl) (by kernel_rfl) (by kernel_rfl) (fun _ _ _ h => (nomatch h.1)) ⟨Or.inl ⟨by rfl, ?hy82⟩, fun _ => rfl⟩ ?_
                        case hy82 => (intro w; go_simp; try with_reducible rfl)
                        go_simp
                        refine wpAnyIn_done (by kernel_rfl) ?_ _
                        exact ⟨rfl, _, _, ⟨_, _, _, _, _, _, _, _, _, _, _, _, _, _, _, _, _, _, rfl⟩, H⟩
                    · go_simp
                      refine hK _ _ ?_
                      clear hK K
                      obtain ⟨H, TB⟩ := H.temp 9 (str y)
                      try simp only [World.size_alloc] at TB
                      refine wpAnyIn_ready (rs := [8]) (by kernel_rfl) (by simp) (AllReadyIn.cons rfl (fun K hK => ?_) AllReadyIn.nil)
                      have cq := (HCE.out _ H.bl).1
                      go_simp
                      refine hK _ _ ?_
                      clear hK K cq
                      refine wpAnyIn_ready (rs := [9]) (by kernel_rfl) (by simp) (AllReadyIn.cons rfl (fun K hK => ?_) AllReadyIn.nil)
                      go_simp
                      refine hK _ _ ?_
                      clear hK K
                      obtain ⟨H, TA⟩ := H.temp 3 (.int .i64 x)
                      try simp only [World.size_alloc] at TA
                      have TB := TB.alloc (.cells #[(.int .i64 x)] 3)
                      refine wpAnyIn_ready (rs := [10]) (by kernel_rfl) (by simp) (AllReadyIn.cons rfl (fun K hK => ?_) AllReadyIn.nil)
                      refine step_appendIn (by rfl) _ _ 42 (by rfl) Try.underlying42 hi hz0 hz1 hz2 rfl (by rfl) H.ra (by rfl) TA (by rfl) lna.1 lna.2 H.bl.size ?_
                      intro va' W' hr hg
                      refine hK _ _ ?_
                      clear hK K
                      have TB := temp_kept TB H.ra hg (by decide)
                      have H := H.appA hr hg
                      clear hr hg TA
                      go_simp
                      refine wpAnyIn_ready (rs := [21]) (by kernel_rfl) (by simp) (AllReadyIn.cons rfl (fun K hK => ?_) AllReadyIn.nil)
                      refine step_appendIn (by rfl) _ _ 43 (by rfl) Try.underlying43 gi gz0 gz1 gz2 rfl (by rfl) H.rb (by rfl) TB (by rfl) lnb.1 lnb.2 H.bl.size ?_
                      intro vb' W' hr hg
                      refine hK _ _ ?_
                      clear hK K
                      have H := H.appB hr hg
                      clear hr hg TB
                      go_simp
                      refine wpAnyIn_take (i := 22) (v := ?v83) rfl rfl (by kernel_rfl) (by kernel_rfl) (by kernel_rfl) (fun _ _ _ h => (nomatch h.1)) ⟨Or.inl ⟨by rfl, ?hy83⟩, fun _ => rfl⟩ ?_
                      case hy83 => (intro w; go_simp; try with_reducible rfl)
                      go_simp
                      refine wpAnyIn_take (i := 23) (v := ?v84) rfl rfl (by kernel_rfl) (by kernel_rfl) (by kernel_rfl) (fun _ _ _ h => (nomatch h.1)) ⟨Or.inl ⟨by rfl, ?hy84⟩, fun _ => rfl⟩ ?_
                      case hy84 => (intro w; go_simp; try with_reducible rfl)
                      go_simp
                      refine wpAnyIn_done (by kernel_rfl) ?_ _
                      exact ⟨rfl, _, _, ⟨_, _, _, _, _, _, _, _, _, _, _, _, _, _, _, _, _, _, rfl⟩, H⟩
                · have cq := (HCE.out _ H.bl).2
                  go_simp
                  refine hK _ _ ?_
                  clear hK K cq
                  refine wpAnyIn_ready (rs := [4, 20]) (by kernel_rfl) (by simp) (AllReadyIn.cons rfl (fun K hK => ?_) (AllReadyIn.cons rfl (fun K hK => ?_) AllReadyIn.nil))
                  · have cq := HCX.out _ H.bl
                    go_simp
                    refine hK _ _ ?_
                    clear hK K cq
                    refine wpAnyIn_take (i := 6) (v := ?v85) rfl rfl (by kernel_rfl) (by kernel_rfl) (by kernel_rfl) (fun _ _ _ h => (nomatch h.1)) ⟨Or.inl ⟨by rfl, ?hy85⟩, fun _ => rfl⟩ ?_
                    case hy85 => (intro w; go_simp; try with_reducible rfl)
                    go_simp
                    refine wpAnyIn_take (i := 7) (v := ?v86) rfl rfl (by kernel_rfl) (by kernel_rfl) (by kernel_rfl) (fun _ _ _ h => (nomatch h.1)) ⟨Or.inl ⟨by rfl, ?hy86⟩, fun _ => rfl⟩ ?_
                    case hy86 => (intro w; go_simp; try with_reducible rfl)
                    go_simp
                    refine wpAnyIn_ready (rs := [8, 20]) (by kernel_rfl) (by simp) (AllReadyIn.cons rfl (fun K hK => ?_) (AllReadyIn.cons rfl (fun K hK => ?_) AllReadyIn.nil))
                    · have cq := (HCE.out _ H.bl).1
                      go_simp
                      refine hK _ _ ?_
                      clear hK K cq
                      refine wpAnyIn_ready (rs := [9, 20]) (by kernel_rfl) (by simp) (AllReadyIn.cons rfl (fun K hK => ?_) (AllReadyIn.cons rfl (fun K hK => ?_) AllReadyIn.nil))
                      · go_simp
                        refine hK _ _ ?_
                        clear hK K
                        obtain ⟨H, TA⟩ := H.temp 3 (.int .i64 x)
                        try simp only [World.size_alloc] at TA
                        refine wpAnyIn_ready (rs := [10, 20]) (by kernel_rfl) (by simp) (AllReadyIn.cons rfl (fun K hK => ?_) (AllReadyIn.cons rfl (fun K hK => ?_) AllReadyIn.nil))
                        · refine step_appendIn (by rfl) _ _ 42 (by rfl) Try.underlying42 hi hz0 hz1 hz2 rfl (by rfl) H.ra (by rfl) TA (by rfl) lna.1 lna.2 H.bl.size ?_
                          intro va' W' hr hg
                          refine hK _ _ ?_
                          clear hK K
                          have H := H.appA hr hg
                          clear hr hg TA
                          go_simp
                          refine wpAnyIn_ready (rs := [20]) (by kernel_rfl) (by simp) (AllReadyIn.cons rfl (fun K hK => ?_) AllReadyIn.nil)
                          go_simp
                          refine hK _ _ ?_
                          clear hK K
                          obtain ⟨H, TB⟩ := H.temp 9 (str y)
                          try simp only [World.size_alloc] at TB
                          refine wpAnyIn_ready (rs := [21]) (by kernel_rfl) (by simp) (AllReadyIn.cons rfl (fun K hK => ?_) AllReadyIn.nil)
                          refine step_appendIn (by rfl) _ _ 43 (by rfl) Try.underlying43 gi gz0 gz1 gz2 rfl (by rfl) H.rb (by rfl) TB (by rfl) lnb.1 lnb.2 H.bl.size ?_
                          intro vb' W' hr hg
                          refine hK _ _ ?_
                          clear hK K
                          have H := H.appB hr hg
                          clear hr hg TB
                          go_simp
                          refine wpAnyIn_take (i := 22) (v := ?v87) rfl rfl (by kernel_rfl) (by kernel_rfl) (by kernel_rfl) (fun _ _ _ h => (nomatch h.1)) ⟨Or.inl ⟨by rfl, ?hy87⟩, fun _ => rfl⟩ ?_
                          case hy87 => (intro w; go_simp; try with_reducible rfl)
                          go_simp
                          refine wpAnyIn_take (i := 23) (v := ?v88) rfl rfl (by kernel_rfl) (by kernel_rfl) (by kernel_rfl) (fun _ _ _ h => (nomatch h.1)) ⟨Or.inl ⟨by rfl, ?hy88⟩, fun _ => rfl⟩ ?_
                          case hy88 => (intro w; go_simp; try with_reducible rfl)
                          go_simp
                          refine wpAnyIn_done (by kernel_rfl) ?_ _
                          exact ⟨rfl, _, _, ⟨_, _, _, _, _, _, _, _, _, _, _, _, _, _, _, _, _, _, rfl⟩, H⟩
                        · go_simp
                          refine hK _ _ ?_
                          clear hK K
                          obtain ⟨H, TB⟩ := H.temp 9 (str y)
                          try simp only [World.size_alloc] at TB
                          have TA := TA.alloc (.cells #[(str y)] 9)
                          refine wpAnyIn_ready (rs := [10]) (by kernel_rfl) (by simp) (AllReadyIn.cons rfl (fun K hK => ?_) AllReadyIn.nil)
                          refine step_appendIn (by rfl) _ _ 42 (by rfl) Try.underlying42 hi hz0 hz1 hz2 rfl (by rfl) H.ra (by rfl) TA (by rfl) lna.1 lna.2 H.bl.size ?_
                          intro va' W' hr hg
                          refine hK _ _ ?_
                          clear hK K
                          have TB := temp_kept TB H.ra hg (by decide)
                          have H := H.appA hr hg
                          clear hr hg TA
                          go_simp
                          refine wpAnyIn_ready (rs := [21]) (by kernel_rfl) (by simp) (AllReadyIn.cons rfl (fun K hK => ?_) AllReadyIn.nil)
                          refine step_appendIn (by rfl) _ _ 43 (by rfl) Try.underlying43 gi gz0 gz1 gz2 rfl (by rfl) H.rb (by rfl) TB (by rfl) lnb.1 lnb.2 H.bl.size ?_
                          intro vb' W' hr hg
                          refine hK _ _ ?_
                          clear hK K
                          have H := H.appB hr hg
                          clear hr hg TB
                          go_simp
                          refine wpAnyIn_take (i := 22) (v := ?v89) rfl rfl (by kernel_rfl) (by kernel_rfl) (by kernel_rfl) (fun _ _ _ h => (nomatch h.1)) ⟨Or.inl ⟨by rfl, ?hy89⟩, fun _ => rfl⟩ ?_
                          case hy89 => (intro w; go_simp; try with_reducible rfl)
                          go_simp
                          refine wpAnyIn_take (i := 23) (v := ?v90) rfl rfl (by kernel_rfl) (by kernel_rfl) (by kernel_rfl) (fun _ _ _ h => (nomatch h.1)) ⟨Or.inl ⟨by rfl, ?hy90⟩, fun _ => rfl⟩ ?_
                          case hy90 => (intro w; go_simp; try with_reducible rfl)
                          go_simp
                          refine wpAnyIn_done (by kernel_rfl) ?_ _
                          exact ⟨rfl, _, _, ⟨_, _, _, _, _, _, _, _, _, _, _, _, _, _, _, _, _, _, rfl⟩, H⟩
                      · go_simp
                        refine hK _ _ ?_
                        clear hK K
                        obtain ⟨H, TB⟩ := H.temp 9 (str y)
                        try simp only [World.size_alloc] at TB
                        refine wpAnyIn_ready (rs := [9]) (by kernel_rfl) (by simp) (AllReadyIn.cons rfl (fun K hK => ?_) AllReadyIn.nil)
                        go_simp
                        refine hK _ _ ?_
                        clear hK K
                        obtain ⟨H, TA⟩ := H.temp 3 (.int .i64 x)
                        try simp only [World.size_alloc] at TA
                        have TB := TB.alloc (.cells #[(.int .i64 x)] 3)
                        refine wpAnyIn_ready (rs := [10]) (by kernel_rfl) (by simp) (AllReadyIn.cons rfl (fun K hK => ?_) AllReadyIn.nil)
                        refine step_appendIn (by rfl) _ _ 42 (by rfl) Try.underlying42 hi hz0 hz1 hz2 rfl (by rfl) H.ra (by rfl) TA (by rfl) lna.1 lna.2 H.bl.size ?_
                        intro va' W' hr hg
                        refine hK _ _ ?_
                        clear hK K
                        have TB := temp_kept TB H.ra hg (by decide)
                        have H := H.appA hr hg
                        clear hr hg TA
                        go_simp
                        refine wpAnyIn_ready (rs := [21]) (by kernel_rfl) (by simp) (AllReadyIn.cons rfl (fun K hK => ?_) AllReadyIn.nil)
                        refine step_appendIn (by rfl) _ _ 43 (by rfl) Try.underlying43 gi gz0 gz1 gz2 rfl (by rfl) H.rb (by rfl) TB (by rfl) lnb.1 lnb.2 H.bl.size ?_
                        intro vb' W' hr hg
                        refine hK _ _ ?_
                        clear hK K
                        have H := H.appB hr hg
                        clear hr hg TB
                        go_simp
                        refine wpAnyIn_take (i := 22) (v := ?v91) rfl rfl (by kernel_rfl) (by kernel_rfl) (by kernel_rfl) (fun _ _ _ h => (nomatch h.1)) ⟨Or.inl ⟨by rfl, ?hy91⟩, fun _ => rfl⟩ ?_
                        case hy91 => (intro w; go_simp; try with_reducible rfl)
                        go_simp
                        refine wpAnyIn_take (i := 23) (v := ?v92) rfl rfl (by kernel_rfl) (by kernel_rfl) (by kernel_rfl) (fun _ _ _ h => (nomatch h.1)) ⟨Or.inl ⟨by rfl, ?hy92⟩, fun _ => rfl⟩ ?_
                        case hy92 => (intro w; go_simp; try with_reducible rfl)
                        go_simp
                        refine wpAnyIn_done (by kernel_rfl) ?_ _
                        exact ⟨rfl, _, _, ⟨_, _, _, _, _, _, _, _, _, _, _, _, _, _, _, _, _, _, rfl⟩, H⟩
                    · go_simp
                      refine hK _ _ ?_
                      clear hK K
                      obtain ⟨H, TB⟩ := H.temp 9 (str y)
                      try simp only [World.size_alloc] at TB
                      refine wpAnyIn_ready (rs := [8]) (by kernel_rfl) (by simp) (AllReadyIn.cons rfl (fun K hK => ?_) AllReadyIn.nil)
                      have cq := (HCE.out _ H.bl).1
                      go_simp
                      refine hK _ _ ?_
                      clear hK K cq
                      refine wpAnyIn_ready (rs := [9]) (by kernel_rfl) (by simp) (AllReadyIn.cons rfl (fun K hK => ?_) AllReadyIn.nil)
                      go_simp
                      refine hK _ _ ?_
                      clear hK K
                      obtain ⟨H, TA⟩ := H.temp 3 (.int .i64 x)
                      try simp only [World.size_alloc] at TA
                      have TB := TB.alloc (.cells #[(.int .i64 x)] 3)
                      refine wpAnyIn_ready (rs := [10]) (by kernel_rfl) (by simp) (AllReadyIn.cons rfl (fun K hK => ?_) AllReadyIn.nil)
                      refine step_appendIn (by rfl) _ _ 42 (by rfl) Try.underlying42 hi hz0 hz1 hz2 rfl (by rfl) H.ra (by rfl) TA (by rfl) lna.1 lna.2 H.bl.size ?_
                      intro va' W' hr hg
                      refine hK _ _ ?_
                      clear hK K
                      have TB := temp_kept TB H.ra hg (by decide)
                      have H := H.appA hr hg
                      clear hr hg TA
                      go_simp
                      refine wpAnyIn_ready (rs := [21]) (by kernel_rfl) (by simp) (AllReadyIn.cons rfl (fun K hK => ?_) AllReadyIn.nil)
                      refine step_appendIn (by rfl) _ _ 43 (by rfl) Try.underlying43 gi gz0 gz1 gz2 rfl (by rfl) H.rb (by rfl) TB (by rfl) lnb.1 lnb.2 H.bl.size ?_
                      intro vb' W' hr hg
                      refine hK _ _ ?_
                      clear hK K
                      have H := H.appB hr hg
                      clear hr hg TB
                      go_simp
                      refine wpAnyIn_take (i := 22) (v := ?v93) rfl rfl (by kernel_rfl) (by kernel_rfl) (by kernel_rfl) (fun _ _ _ h => (nomatch h.1)) ⟨Or.inl ⟨by rfl, ?hy93⟩, fun _ => rfl⟩ ?_
                      case hy93 => (intro w; go_simp; try with_reducible rfl)
                      go_simp
                      refine wpAnyIn_take (i := 23) (v := ?v94) rfl rfl (by kernel_rfl) (by kernel_rfl) (by kernel_rfl) (fun _ _ _ h => (nomatch h.1)) ⟨Or.inl ⟨by rfl, ?hy94⟩, fun _ => rfl⟩ ?_
                      case hy94 => (intro w; go_simp; try with_reducible rfl)
                      go_simp
                      refine wpAnyIn_done (by kernel_rfl) ?_ _
                      exact ⟨rfl, _, _, ⟨_, _, _, _, _, _, _, _, _, _, _, _, _, _, _, _, _, _, rfl⟩, H⟩
                  · go_simp
                    refine hK _ _ ?_
                    clear hK K
                    obtain ⟨H, TB⟩ := H.temp 9 (str y)
                    try simp only [World.size_alloc] at TB
                    refine wpAnyIn_ready (rs := [4]) (by kernel_rfl) (by simp) (AllReadyIn.cons rfl (fun K hK => ?_) AllReadyIn.nil)
                    have cq := HCX.out _ H.bl
                    go_simp
                    refine hK _ _ ?_
                    clear hK K cq
                    refine wpAnyIn_take (i := 6) (v := ?v95) rfl rfl (by kernel_rfl) (by kernel_rfl) (by kernel_rfl) (fun _ _ _ h => (nomatch h.1)) ⟨Or.inl ⟨by rfl, ?hy95⟩, fun _ => rfl⟩ ?_
                    case hy95 => (intro w; go_simp; try with_reducible rfl)
                    go_simp
                    refine wpAnyIn_take (i := 7) (v := ?v96) rfl rfl (by kernel_rfl) (by kernel_rfl) (by kernel_rfl) (fun _ _ _ h => (nomatch h.1)) ⟨Or.inl ⟨by rfl, ?hy96⟩, fun _ => rfl⟩ ?_
                    case hy96 => (intro w; go_simp; try with_reducible rfl)
                    go_simp
                    refine wpAnyIn_ready (rs := [8]) (by kernel_rfl) (by simp) (AllReadyIn.cons rfl (fun K hK => ?_) AllReadyIn.nil)
                    have cq := (HCE.out _ H.bl).1
                    go_simp
                    refine hK _ _ ?_
                    clear hK K cq
                    refine wpAnyIn_ready (rs := [9]) (by kernel_rfl) (by simp) (AllReadyIn.cons rfl (fun K hK => ?_) AllReadyIn.nil)
                    go_simp
                    refine hK _ _ ?_
                    clear hK K
                    obtain ⟨H, TA⟩ := H.temp 3 (.int .i64 x)
                    try simp only [World.size_alloc] at TA
                    have TB := TB.alloc (.cells #[(.int .i64 x)] 3)
                    refine wpAnyIn_ready (rs := [10]) (by kernel_rfl) (by simp) (AllReadyIn.cons rfl (fun K hK => ?_) AllReadyIn.nil)
                    refine step_appendIn (by rfl) _ _ 42 (by rfl) Try.underlying42 hi hz0 hz1 hz2 rfl (by rfl) H.ra (by rfl) TA (by rfl) lna.1 lna.2 H.bl.size ?_
                    intro va' W' hr hg
                    refine hK _ _ ?_
                    clear hK K
                    have TB := temp_kept TB H.ra hg (by decide)
                    have H := H.appA hr hg
                    clear hr hg TA
                    go_simp
                    refine wpAnyIn_ready (rs := [21]) (by kernel_rfl) (by simp) (AllReadyIn.cons rfl (fun K hK => ?_) AllReadyIn.nil)
                    refine step_appendIn (by rfl) _ _ 43 (by rfl) Try.underlying43 gi gz0 gz1 gz2 rfl (by rfl) H.rb (by rfl) TB (by rfl) lnb.1 lnb.2 H.bl.size ?_
                    intro vb' W' hr hg
                    refine hK _ _ ?_
                    clear hK K
                    have H := H.appB hr hg
                    clear hr hg TB
                    go_simp
                    refine wpAnyIn_take (i := 22) (v := ?v97) rfl rfl (by kernel_rfl) (by kernel_rfl) (by kernel_rfl) (fun _ _ _ h => (nomatch h.1)) ⟨Or.inl ⟨by rfl, ?hy97⟩, fun _ => rfl⟩ ?_
                    case hy97 => (intro w; go_simp; try with_reducible rfl)
                    go_simp
                    refine wpAnyIn_take (i := 23) (v := ?v98) rfl rfl (by kernel_rfl) (by kernel_rfl) (by kernel_rfl) (fun _ _ _ h => (nomatch h.1)) ⟨Or.inl ⟨by rfl, ?hy98⟩, fun _ => rfl⟩ ?_
                    case hy98 => (intro w; go_simp; try with_reducible rfl)
                    go_simp
                    refine wpAnyIn_done (by kernel_rfl) ?_ _
                    exact ⟨rfl, _, _, ⟨_, _, _, _, _, _, _, _, _, _, _, _, _, _, _, _, _, _, rfl⟩, H⟩
              -- END REG
            · rintro a2 W2 ⟨ua, ub, q48, q49, q50, q51, q52, q53, q54, q55, q56, q59, q60, q61, q62, q63, q64, q65, q66, q67, rfl, H1⟩
              clear H HCE lna lnb
              gi_wp2
              obtain ⟨hla, hlb, hxy, hb⟩ := HL.out
              refine ⟨⟨k + 1, by omega, by go_num, Lib.hid ?_⟩, ?_⟩
              · rw [from_next hlt, hxy, ← hb, if_pos rfl, List.map_append, List.map_append, ← hla, ← hlb]
                exact H1
              · show rl.length - ((k : Int) + 1).toNat < rl.length - (k : Int).toNat
                omega
          · rename_i hbt
            subst hbt
            obtain ⟨hla, hlb, hxy, hb⟩ := HL.out
            refine ⟨⟨k + 1, by omega, by go_num, Lib.hid ?_⟩, ?_⟩
            · rw [from_next hlt, hxy, ← hb, if_neg (by simp), List.append_nil, ← hla, ← hlb]
              exact H
            · show rl.length - ((k : Int) + 1).toNat < rl.length - (k : Int).toNat
              omega
      · obtain rfl : k = rl.length := by omega
        rw [List.take_length] at HF
        gi_wp2
        have H := HF.out
        go_ret2
        refine ⟨va, vb, rfl, ?_, ?_, H.bl⟩
        · have := H.ra
          rw [List.length_map, List.map_map] at this
          exact this
        · have := H.rb
          rw [List.length_map, List.map_map] at this
          exact this
  · subst hnil
    clear h
    refine (callsIn_wide (n := 9)).1 ?_
    refine callsIn_of_wp Try.func19 rfl trivial ?_ rfl
    simp only [Try.ntmps19, List.size_toArray, List.length_cons, List.length_nil, Nat.reduceAdd, Nat.reduceSub, Array.replicate_succ, Array.replicate_zero, List.push_toArray, List.append_toArray, List.nil_append, List.cons_append]
    gi_wp2
    gi_loopw [10, 11, 12] (fun va vb i wr => va = .slice none 0 0 ∧ vb = .slice none 0 0 ∧ i = .int .i64 0 ∧ wr = W) (fun _ _ _ _ => 0)
    case atStart => exact ⟨rfl, rfl, rfl, rfl⟩
    case round =>
      obtain ⟨rfl, rfl, rfl, rfl⟩ := hrel
      have cx := HCX.out _ (Below.refl _ _)
      gi_wp2
      go_ret2
      exact ⟨_, _, rfl, World.ownsRow_nil _ _ _ _, World.ownsRow_nil _ _ _ _, Below.refl _ _⟩
end Go.Proofs.Ytdkplhfbcpobaaa
