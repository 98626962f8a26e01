/- hblref's Unique: rising, each once. -/
import Derived.Test.YteibiaplmmdppaaUniqMath
import Derived.Test.YteibiaplmmdppaaRows
import Derived.Test.YteibiaplmmdppaaTreeSI
import Derived.Deep.QuietTactic
import Derived.BigQuiet
import Derived.Deep.RegionHeld3
namespace Go.Proofs.Yteibiaplmmdppaa
open Go.RowKit

theorem infoU : (Try.prog.info? 9).map (fun i => (i.zero, i.size, i.bytes)) = some (some (str []), 1, 16) := by kernel_rfl
/-- All, one behind the other. -/
def uniqF (l : List (List UInt8)) : List (List UInt8) := l.foldl (fun o x => insU x o) []
theorem uniqF_snoc (l : List (List UInt8)) (x : List UInt8) : uniqF (l ++ [x]) = insU x (uniqF l) := by simp [uniqF]
/-- What Unique keeps: a row of its own that reads as what has come, in order. -/
structure UInv (w : World) (W : World) (vo : Value) (ol : List (List UInt8)) : Prop where
  row : W.ownsRow w.heap.size 9 1 vo ol.length (ol.map str)
  bel : Below w.heap.size w W
  ris : RisU ol
theorem UInv.drewN {w W : World} {vo : Value} {ol : List (List UInt8)} (h : UInv w W vo ol) (n : Nat) : UInv w (W.drewN n) vo ol := ⟨h.row, Below.drewsN h.bel n, h.ris⟩
/-- The new text in a row of its own. -/
theorem ins_row {w W0 : World} (hb : w.heap.size ≤ W0.heap.size) (x : List UInt8) : ((W0.alloc (.cells #[str x] 9)).drew).ownsRow w.heap.size 9 1 (.slice (some ⟨W0.heap.size, 0, none⟩) 1 1) 1 [str x] :=
  World.ownsRow_lit (e := 9) (size := 1) W0 #[str x] 1 hb (by decide) rfl
/-- What stands behind, as what is appended. -/
theorem ins_src {w W0 : World} {g cap p : Nat} {ol : List (List UInt8)} (h : UInv w W0 (.slice (some ⟨g, 0, none⟩) ol.length cap) ol) (x : List UInt8) (hp : p < ol.length) :
    SrcV ((W0.alloc (.cells #[str x] 9)).drew) (.slice (some ⟨g, p, none⟩) (ol.length - p) (cap - p)) ((ol.drop p).map str) := by
  have hr : W0.ownsRow w.heap.size 9 1 (.slice (some ⟨g, 0, none⟩) ol.length cap) ol.length (ol.map str) := h.row
  have hc := (row_cells hr).2
  refine ⟨_, cap - p, by simp, fun e => (by cases e), fun _ => ⟨g, p, rfl, fun i hi => ?_⟩⟩
  have hi' : p + i < ol.length := by simp at hi; omega
  have c := hc (p + i) (by simpa using hi')
  have := (below_alloc W0 (.cells #[str x] 9)).cell (p := ⟨g, p + i, none⟩) (World.block_lt_of_cell? W0 _ c)
  show (W0.alloc (.cells #[str x] 9)).cell? ⟨g, p + i, none⟩ = _
  rw [this, c]
  simp
theorem bnd (k : Nat) (xs : List Value) (hk : k ≤ 2000000) (hx : xs.length ≤ 3000000) : k + xs.length ≤ maxLen ∧ (k + xs.length) * 16 ≤ 140737488355328 := by
  refine ⟨?_, by omega⟩
  unfold maxLen
  omega
theorem src_eq {W : World} {v v' : Value} {l : List Value} (h : SrcV W v l) (e : v' = v) : SrcV W v' l := by rw [e]; exact h
theorem src_end {W : World} (a : Addr) (c : Nat) : SrcV W (.slice (some a) 0 c) [] := ⟨_, c, rfl, fun e => (by cases e), fun h => absurd rfl h⟩
theorem src_nil {W : World} : SrcV W (.slice none 0 0) [] := ⟨none, 0, rfl, fun _ => rfl, fun h => absurd rfl h⟩
/-- A row of the call's own as what is appended. -/
theorem src_row {W : World} {base k : Nat} {v : Value} {xs : List Value} (h : W.ownsRow base 9 1 v k xs) : SrcV W v xs := by
  have hk : xs.length = k := by simpa using h.1
  rcases h.2 with ⟨rfl, h0⟩ | ⟨g, cap, cur, rfl, _⟩
  · obtain rfl : xs = [] := List.eq_nil_of_length_eq_zero (by omega)
    exact src_nil
  · exact ⟨_, cap, by rw [hk], fun e => (by cases e), fun _ => ⟨g, 0, rfl, fun i hi => by rw [Nat.zero_add]; exact (row_cells h).2 i hi⟩⟩
/-- The row that stood, behind the first append. -/
theorem ins_keep {w W0 w3 : World} {vo : Value} {ol : List (List UInt8)} {x : List UInt8} (h : UInv w W0 vo ol) (hg : ((W0.alloc (.cells #[str x] 9)).drew).grownBy w3 (Value.slice (some ⟨W0.heap.size, 0, none⟩) 1 1).ownBlock) :
    UInv w w3 vo ol := by
  have hl := h.row.lt
  refine ⟨(show ((W0.alloc (.cells #[str x] 9)).drew).ownsRow w.heap.size 9 1 vo ol.length (ol.map str) from h.row.alloc _).kept hg ?_, ?_, h.ris⟩
  · cases hv : vo.ownBlock with
    | none => exact .inl rfl
    | some j =>
      refine .inr ?_
      have := (hl j hv).2
      simp [Value.ownBlock]
      omega
  · exact ((h.bel.alloc h.bel.size _).trans (Below.drewsN (Below.refl _ _) 1)).grown hg (by show w.heap.size ≤ (W0.alloc _).heap.size; have := h.bel.size; simp; omega) (fun k e => by
      have hk : k = W0.heap.size := by simpa [Value.ownBlock] using e.symm
      have := h.bel.size
      omega)
/-- A cell of an argument, behind either append. -/
theorem ins_cell1 {w W0 w3 : World} {vo : Value} {ol : List (List UInt8)} {x : List UInt8} {b j : Nat} {u : Value} (hb : b < w.heap.size) (h : UInv w W0 vo ol) (hc : W0.cell? ⟨b, j, none⟩ = some u)
    (hg : ((W0.alloc (.cells #[str x] 9)).drew).grownBy w3 (Value.slice (some ⟨W0.heap.size, 0, none⟩) 1 1).ownBlock) : w3.cell? ⟨b, j, none⟩ = some u := by
  have hs := h.bel.size
  have h1 : ((W0.alloc (.cells #[str x] 9)).drew).cell? ⟨b, j, none⟩ = some u := ((below_alloc W0 _).cell (p := ⟨b, j, none⟩) (by show b < W0.heap.size; omega)).trans hc
  have h2 : Below w.heap.size ((W0.alloc (.cells #[str x] 9)).drew) w3 := (Below.refl _ _).grown hg (by show w.heap.size ≤ (W0.alloc _).heap.size; simp; omega) (fun k e => by
    have hk : k = W0.heap.size := by simpa [Value.ownBlock] using e.symm
    omega)
  exact (h2.cell (p := ⟨b, j, none⟩) hb).trans h1
theorem ins_cell2 {w w3 w4 : World} {row : Option Nat} {b j : Nat} {u : Value} (hb : b < w.heap.size) (hc : w3.cell? ⟨b, j, none⟩ = some u) (hr : ∀ k, row = some k → w.heap.size ≤ k) (hg : w3.grownBy w4 row) : w4.cell? ⟨b, j, none⟩ = some u := by
  have hlt := World.block_lt_of_cell? w3 _ hc
  have e : w4.heap[b]? = w3.heap[b]? := hg.block b hlt (fun e => by have := hr b e.symm; omega)
  rw [← hc]
  simp [World.cell?, e]
/-- Behind the second. -/
theorem ins_done {w w3 w4 : World} {vo v2 dst : Value} {p : Nat} {ol : List (List UInt8)} {x : List UInt8} (h : UInv w w3 vo ol) (hd : dst.ownBlock = none ∨ dst.ownBlock = vo.ownBlock) (hp : p ≤ ol.length)
    (hr : w4.ownsRow w.heap.size 9 1 v2 (p + (str x :: (ol.drop p).map str).length) ((ol.take p).map str ++ (str x :: (ol.drop p).map str))) (hg : w3.grownBy w4 dst.ownBlock) (hR : RisU (ol.take p ++ x :: ol.drop p)) :
    UInv w w4 v2 (ol.take p ++ x :: ol.drop p) := by
  refine ⟨?_, h.bel.grown hg h.bel.size (fun k e => ?_), hR⟩
  · have e1 : (ol.take p ++ x :: ol.drop p).length = p + (str x :: (ol.drop p).map str).length := by simp; omega
    rw [e1]
    simpa using hr
  · rcases hd with hd | hd
    · rw [hd] at e; cases e
    · rw [hd] at e
      exact (h.row.lt k e).1
set_option maxRecDepth 100000 in
set_option maxHeartbeats 8000000 in
theorem unique_any (v : Value) (l : List (List UInt8)) (w : World) (hv : RdV w v (l.map str)) (hlen : l.length ≤ 1000000) :
    Calls Try.prog 26 #[v] w fun e w' => ∃ vo, e = .returned vo ∧ RdV w' vo ((uniqF l).map str) ∧ Below w.heap.size w w' := by
  obtain ⟨i0, hi, hz0, hz1, hz2⟩ := info_parts infoU
  obtain ⟨av, cv, rfl, hlen2, hcells⟩ := hv
  simp only [List.length_map] at hlen2 ⊢
  have HC := Lib.hid hcells
  clear hcells
  go_enter Try.func26, Try.ntmps26
  go_wp2_with fail
  go_loopw [3, 4] (fun vo i wr => ∃ (k : Nat) (ol : List (List UInt8)), k ≤ l.length ∧ i = .int .i64 (k : Int) ∧ Hid (UInv w wr vo ol ∧ ol = uniqF (l.take k) ∧ ol.length ≤ k)) (fun _ i _ => l.length - (intOf i).toNat)
  case atStart => exact ⟨0, [], Nat.zero_le _, rfl, Lib.hid ⟨⟨World.ownsRow_nil _ _ _ _, Below.refl _ _, trivial⟩, by simp [uniqF], Nat.le_refl _⟩⟩
  case round =>
    obtain ⟨vo, hvo⟩ : ∃ vo, vo = u3 := ⟨_, rfl⟩
    subst hvo
    obtain ⟨k, ol, hk, rfl, HR⟩ := hrel
    by_cases hlt : k < l.length
    · have g1 : (k : Int) < (l.length : Int) := by omega
      have g2 : (0 : Int) ≤ (k : Int) := by omega
      obtain ⟨bA, oA, rfl, hA⟩ := HC.out (by intro e; simp at e; rw [e] at hlt; simp at hlt)
      obtain ⟨x, hx⟩ : ∃ x, x = l[k] := ⟨_, rfl⟩
      have c0 := hA k (by simpa using hlt)
      simp only [List.getElem_map] at c0
      rw [← hx] at c0
      have hlA := World.block_lt_of_cell? w _ c0
      have c1 : wr.cell? ⟨bA, oA + k, none⟩ = some (str x) := (HR.out.1.bel.cell (p := ⟨bA, oA + k, none⟩) hlA).trans c0
      have hol : ol.length ≤ 1000000 := by have := HR.out.2.2; omega
      have hform : (∃ g cap, vo = Value.slice (some ⟨g, 0, none⟩) ol.length cap) ∨ (vo = Value.slice none 0 0 ∧ ol = []) := by
        rcases HR.out.1.row.2 with ⟨h1, h0⟩ | ⟨g, cap, _, h1, _⟩
        · exact Or.inr ⟨h1, List.eq_nil_of_length_eq_zero h0⟩
        · exact Or.inl ⟨g, cap, h1⟩
      have HX := Lib.hid hx
      have HLA := Lib.hid hlA
      clear hA c0 hx hlA HC
      rcases hform with ⟨g, cap, rfl⟩ | ⟨rfl, rfl⟩
      · obtain ⟨hcap, hcl⟩ := row_cells HR.out.1.row
        have HCL := Lib.hid hcl
        clear hcl
        go_wp2_with fail
        go_loopw [5] (fun kv wr2 => ∃ p q : Nat, p ≤ ol.length ∧ kv = .int .i64 (p : Int) ∧ Hid (∀ j (h : j < ol.length), p ≤ j → Op.bytesLess ol[j] x = false) ∧ wr2 = wr.drewN q) (fun kv _ => (intOf kv).toNat)
        case atStart => exact ⟨ol.length, 0, Nat.le_refl _, rfl, Lib.hid (fun j h h' => absurd h (by omega)), rfl⟩
        case round =>
          obtain ⟨p, q, hp, rfl, HP, rfl⟩ := hrel
          by_cases hp0 : 0 < p
          · have g3 : (0 : Int) < (p : Int) := by omega
            have g4 : (p : Int) - 1 < (ol.length : Int) := by omega
            have g5 : (0 : Int) ≤ (p : Int) - 1 := by omega
            have g8 : IntKind.i64.wrap ((p : Int) - 1) = (p : Int) - 1 := IntWalk.i64_in _ ⟨by omega, by omega⟩
            have g9 : ((p : Int) - 1).toNat = p - 1 := by omega
            obtain ⟨y, hy⟩ : ∃ y, y = ol[p - 1]'(by omega) := ⟨_, rfl⟩
            have c2 := HCL.out (p - 1) (by simp; omega)
            simp only [List.getElem_map] at c2
            rw [← hy] at c2
            have HY := Lib.hid hy
            clear hy
            cases hless : Op.bytesLess y x with
            | true =>
              have HP2 : Hid (∀ h : p - 1 < ol.length, 0 < p → Op.bytesLess ol[p - 1] x = true) := Lib.hid (fun h _ => by have := HY.out; rw [← this]; exact hless)
              go_wp2_with fail
              go_quiet (fail)
              go_wp2_with fail
              -- the tail: p is the place
              obtain ⟨W0, hW0⟩ : ∃ W0, W0 = (wr.drewN q).drewN nq := ⟨_, rfl⟩
              first | rw [← hW0] | skip
              have HU : Hid (UInv w W0 (.slice (some ⟨g, 0, none⟩) ol.length cap) ol) := Lib.hid (by rw [hW0]; exact (HR.out.1.drewN _).drewN _)
              have d1 : W0.cell? ⟨bA, oA + k, none⟩ = some (str x) := by rw [hW0]; exact c1
              have HCW : Hid (∀ i (hi : i < (ol.map str).length), W0.cell? ⟨g, i, none⟩ = some (ol.map str)[i]) := Lib.hid (by rw [hW0]; exact HCL.out)
              have HIN := Lib.hid (insU_at x HR.out.1.ris hp HP.out HP2.out)
              have HOL := Lib.hid HR.out.2
              clear hW0 HP HP2 HCL HR c1
              by_cases hpn : p < ol.length
              · have g6 : (p : Int) < (ol.length : Int) := by omega
                have g7 : (0 : Int) ≤ (p : Int) := by omega
                obtain ⟨y2, hy2⟩ : ∃ y, y = ol[p] := ⟨_, rfl⟩
                have d2 := HCW.out p (by simpa using hpn)
                simp only [List.getElem_map] at d2
                rw [← hy2] at d2
                have e0 : ol[p]? = some y2 := by rw [hy2]; simp [hpn]
                rw [e0] at HIN
                clear HCW hy2 e0
                by_cases hyx : y2 = x
                · subst hyx
                  have t1 : (y2 == y2) = true := by simp
                  go_wp2_with fail
                  go_quiet (fail)
                  go_wp2_with fail
                  go_roundw
                  case rel =>
                    obtain ⟨e1, e2⟩ := HOL.out
                    refine ⟨k + 1, ol, by omega, by go_num, Lib.hid ⟨HU.out.drewN _, ?_, by omega⟩⟩
                    have e3 := HIN.out
                    rw [if_pos trivial] at e3
                    rw [List.take_add_one, List.getElem?_eq_getElem hlt, ← HX.out]
                    show ol = uniqF (l.take k ++ [y2])
                    rw [uniqF_snoc, ← e1, e3]
                  case measure => simp [intOf]; omega
                · have t1 : (y2 == x) = false := by simpa using hyx
                  have hIN : insU x ol = ol.take p ++ x :: ol.drop p := by rw [HIN.out, if_neg (by simpa using hyx)]
                  have HIN2 := Lib.hid hIN
                  clear HIN hIN hyx
                  have hne : ¬ cap = p := by omega
                  have g10 : (p : Int) ≤ (cap : Int) := by omega
                  have RW1 := Lib.hid (ins_row HU.out.bel.size x)
                  have SRC1 := Lib.hid (ins_src HU.out x hpn)
                  go_wp2_with fail
                  go_quiet (fail)
                  go_wp2_with fail
                  obtain ⟨W5, hW5⟩ : ∃ W5, W5 = W0.drewN nq := ⟨_, rfl⟩
                  rw [← hW5]
                  have d5 : W5.cell? ⟨bA, oA + k, none⟩ = some (str x) := by rw [hW5]; exact d1
                  have HU := Lib.hid (show UInv w W5 _ _ by rw [hW5]; exact HU.out.drewN nq)
                  have RW1 := Lib.hid (ins_row HU.out.bel.size x)
                  have SRC1 := Lib.hid (ins_src HU.out x hpn)
                  clear d1 hW5
                  go_region_held3 (fun w' => w'.cell? ⟨bA, oA + k, none⟩ = some (str x))
                    (first
                      | (exact d5)
                      | (exact ins_cell2 HLA.out (ins_cell1 HLA.out HU.out d5 g1) (fun j e => ((ins_keep HU.out g1).row.lt j e).1) g2)
                      | (exact ins_cell1 HLA.out HU.out d5 g1)
                      | go_keep)
                    ((first
                      | (refine step_appendV (news := ((ol.drop p).map str)) (v := .slice (some ⟨W5.heap.size, 0, none⟩) 1 1) (k := 1) (xs := [str x]) (base := w.heap.size) (by rfl) _ _ 50 (by rfl) Try.underlying50 hi hz0 hz1 hz2 (by rfl) (by rfl) RW1.out (src_eq SRC1.out (by rfl)) ?_ ?_ ?_ ?_ ?_
                         · intro u hu; first | (simp at hu; done) | (obtain ⟨_, _, rfl⟩ := List.mem_map.1 hu; rfl)
                         · exact (bnd _ _ (by omega) (by first | (simp; done) | (simp; omega))).1
                         · exact (bnd _ _ (by omega) (by first | (simp; done) | (simp; omega))).2
                         · show w.heap.size ≤ (W5.alloc _).heap.size; have := HU.out.bel.size; simp; omega
                         intro v1 w3 r1 g1)
                      | (refine step_appendV (news := [str x] ++ ((ol.drop p).map str)) (v := .slice (some ⟨g, 0, none⟩) p cap) (k := p) (xs := ((ol.map str).take p)) (base := w.heap.size) (by rfl) _ _ 50 (by rfl) Try.underlying50 hi hz0 hz1 hz2 (by rfl) (by rfl) (row_take (ins_keep HU.out g1).row (by omega)) (src_row r1) ?_ ?_ ?_ ?_ ?_
                         · intro u hu
                           rcases List.mem_append.1 hu with h | h
                           · simp at h; subst h; rfl
                           · first | (simp at h; done) | (obtain ⟨_, _, rfl⟩ := List.mem_map.1 h; rfl)
                         · exact (bnd _ _ (by omega) (by first | (simp; done) | (simp; omega))).1
                         · exact (bnd _ _ (by omega) (by first | (simp; done) | (simp; omega))).2
                         · exact (ins_keep HU.out g1).bel.size
                         intro v2 w4 r2 g2)
                      | fail))
                  all_goals
                    have HF : Hid (UInv w w4 v2 (insU x ol) ∧ insU x ol = uniqF (l.take (k + 1)) ∧ (insU x ol).length ≤ k + 1) := by
                      obtain ⟨e1, e2⟩ := HOL.out
                      have hris : RisU (ol.take p ++ x :: ol.drop p) := by have q := insU_ris x HU.out.ris; rw [HIN2.out] at q; exact q
                      have hd := ins_done (p := p) (x := x) (ins_keep HU.out g1) (dst := .slice (some ⟨g, 0, none⟩) p cap) (.inr rfl) (by omega) (by rw [List.map_take]; exact r2) g2 hris
                      have hd2 : UInv w w4 v2 (insU x ol) := by rw [HIN2.out]; exact hd
                      refine Lib.hid ⟨hd2, ?_, by have := insU_len x ol; omega⟩
                      rw [List.take_add_one, List.getElem?_eq_getElem hlt, ← HX.out]
                      show insU x ol = uniqF (l.take k ++ [x])
                      rw [uniqF_snoc, ← e1]
                    clear r1 g1 r2 g2
                    go_wp2_with fail
                    go_roundw
                    case rel => exact ⟨k + 1, insU x ol, by omega, by go_num, HF⟩
                    case measure => simp [intOf]; omega
              · obtain rfl : p = ol.length := by omega
                have g6 : ¬ (ol.length : Int) < (ol.length : Int) := by omega
                have hIN : insU x ol = ol.take ol.length ++ x :: ol.drop ol.length := by rw [HIN.out, if_neg (by simp)]
                have HIN2 := Lib.hid hIN
                clear HIN hIN HCW
                by_cases hcn : cap = ol.length
                · subst hcn
                  have RW1 := Lib.hid (ins_row HU.out.bel.size x)
                  have SRC0 := Lib.hid trivial
                  go_wp2_with fail
                  go_quiet (fail)
                  go_wp2_with fail
                  obtain ⟨W5, hW5⟩ : ∃ W5, W5 = W0.drewN nq := ⟨_, rfl⟩
                  rw [← hW5]
                  have d5 : W5.cell? ⟨bA, oA + k, none⟩ = some (str x) := by rw [hW5]; exact d1
                  have HU := Lib.hid (show UInv w W5 _ _ by rw [hW5]; exact HU.out.drewN nq)
                  have RW1 := Lib.hid (ins_row HU.out.bel.size x)
                  have SRC0 := Lib.hid trivial
                  clear d1 hW5
                  go_region_held3 (fun w' => w'.cell? ⟨bA, oA + k, none⟩ = some (str x))
                    (first
                      | (exact d5)
                      | (exact ins_cell2 HLA.out (ins_cell1 HLA.out HU.out d5 g1) (fun j e => ((ins_keep HU.out g1).row.lt j e).1) g2)
                      | (exact ins_cell1 HLA.out HU.out d5 g1)
                      | go_keep)
                    ((first
                      | (refine step_appendV (news := []) (v := .slice (some ⟨W5.heap.size, 0, none⟩) 1 1) (k := 1) (xs := [str x]) (base := w.heap.size) (by rfl) _ _ 50 (by rfl) Try.underlying50 hi hz0 hz1 hz2 (by rfl) (by rfl) RW1.out (src_end _ _) ?_ ?_ ?_ ?_ ?_
                         · intro u hu; first | (simp at hu; done) | (obtain ⟨_, _, rfl⟩ := List.mem_map.1 hu; rfl)
                         · exact (bnd _ _ (by omega) (by first | (simp; done) | (simp; omega))).1
                         · exact (bnd _ _ (by omega) (by first | (simp; done) | (simp; omega))).2
                         · show w.heap.size ≤ (W5.alloc _).heap.size; have := HU.out.bel.size; simp; omega
                         intro v1 w3 r1 g1)
                      | (refine step_appendV (news := [str x] ++ []) (v := .slice (some ⟨g, 0, none⟩) ol.length ol.length) (k := ol.length) (xs := ((ol.map str).take ol.length)) (base := w.heap.size) (by rfl) _ _ 50 (by rfl) Try.underlying50 hi hz0 hz1 hz2 (by rfl) (by rfl) (row_take (ins_keep HU.out g1).row (by omega)) (src_row r1) ?_ ?_ ?_ ?_ ?_
                         · intro u hu
                           rcases List.mem_append.1 hu with h | h
                           · simp at h; subst h; rfl
                           · first | (simp at h; done) | (obtain ⟨_, _, rfl⟩ := List.mem_map.1 h; rfl)
                         · exact (bnd _ _ (by omega) (by first | (simp; done) | (simp; omega))).1
                         · exact (bnd _ _ (by omega) (by first | (simp; done) | (simp; omega))).2
                         · exact (ins_keep HU.out g1).bel.size
                         intro v2 w4 r2 g2)
                      | fail))
                  all_goals
                    have HF : Hid (UInv w w4 v2 (insU x ol) ∧ insU x ol = uniqF (l.take (k + 1)) ∧ (insU x ol).length ≤ k + 1) := by
                      obtain ⟨e1, e2⟩ := HOL.out
                      have hris : RisU (ol.take ol.length ++ x :: ol.drop ol.length) := by have q := insU_ris x HU.out.ris; rw [HIN2.out] at q; exact q
                      have hd := ins_done (p := ol.length) (x := x) (ins_keep HU.out g1) (dst := .slice (some ⟨g, 0, none⟩) ol.length ol.length) (.inr rfl) (by omega) (by have q := r2; rw [List.take_of_length_le (by simp)] at q; simpa using q) g2 hris
                      have hd2 : UInv w w4 v2 (insU x ol) := by rw [HIN2.out]; exact hd
                      refine Lib.hid ⟨hd2, ?_, by have := insU_len x ol; omega⟩
                      rw [List.take_add_one, List.getElem?_eq_getElem hlt, ← HX.out]
                      show insU x ol = uniqF (l.take k ++ [x])
                      rw [uniqF_snoc, ← e1]
                    clear r1 g1 r2 g2
                    go_wp2_with fail
                    go_roundw
                    case rel => exact ⟨k + 1, insU x ol, by omega, by go_num, HF⟩
                    case measure => simp [intOf]; omega
                · have hcn2 : (ol.length : Int) ≤ (cap : Int) := by omega
                  have RW1 := Lib.hid (ins_row HU.out.bel.size x)
                  have SRC0 := Lib.hid trivial
                  go_wp2_with fail
                  go_quiet (fail)
                  go_wp2_with fail
                  obtain ⟨W5, hW5⟩ : ∃ W5, W5 = W0.drewN nq := ⟨_, rfl⟩
                  rw [← hW5]
                  have d5 : W5.cell? ⟨bA, oA + k, none⟩ = some (str x) := by rw [hW5]; exact d1
                  have HU := Lib.hid (show UInv w W5 _ _ by rw [hW5]; exact HU.out.drewN nq)
                  have RW1 := Lib.hid (ins_row HU.out.bel.size x)
                  have SRC0 := Lib.hid trivial
                  clear d1 hW5
                  go_region_held3 (fun w' => w'.cell? ⟨bA, oA + k, none⟩ = some (str x))
                    (first
                      | (exact d5)
                      | (exact ins_cell2 HLA.out (ins_cell1 HLA.out HU.out d5 g1) (fun j e => ((ins_keep HU.out g1).row.lt j e).1) g2)
                      | (exact ins_cell1 HLA.out HU.out d5 g1)
                      | go_keep)
                    ((first
                      | (refine step_appendV (news := []) (v := .slice (some ⟨W5.heap.size, 0, none⟩) 1 1) (k := 1) (xs := [str x]) (base := w.heap.size) (by rfl) _ _ 50 (by rfl) Try.underlying50 hi hz0 hz1 hz2 (by rfl) (by rfl) RW1.out (src_end _ _) ?_ ?_ ?_ ?_ ?_
                         · intro u hu; first | (simp at hu; done) | (obtain ⟨_, _, rfl⟩ := List.mem_map.1 hu; rfl)
                         · exact (bnd _ _ (by omega) (by first | (simp; done) | (simp; omega))).1
                         · exact (bnd _ _ (by omega) (by first | (simp; done) | (simp; omega))).2
                         · show w.heap.size ≤ (W5.alloc _).heap.size; have := HU.out.bel.size; simp; omega
                         intro v1 w3 r1 g1)
                      | (refine step_appendV (news := [str x] ++ []) (v := .slice (some ⟨g, 0, none⟩) ol.length cap) (k := ol.length) (xs := ((ol.map str).take ol.length)) (base := w.heap.size) (by rfl) _ _ 50 (by rfl) Try.underlying50 hi hz0 hz1 hz2 (by rfl) (by rfl) (row_take (ins_keep HU.out g1).row (by omega)) (src_row r1) ?_ ?_ ?_ ?_ ?_
                         · intro u hu
                           rcases List.mem_append.1 hu with h | h
                           · simp at h; subst h; rfl
                           · first | (simp at h; done) | (obtain ⟨_, _, rfl⟩ := List.mem_map.1 h; rfl)
                         · exact (bnd _ _ (by omega) (by first | (simp; done) | (simp; omega))).1
                         · exact (bnd _ _ (by omega) (by first | (simp; done) | (simp; omega))).2
                         · exact (ins_keep HU.out g1).bel.size
                         intro v2 w4 r2 g2)
                      | fail))
                  all_goals
                    have HF : Hid (UInv w w4 v2 (insU x ol) ∧ insU x ol = uniqF (l.take (k + 1)) ∧ (insU x ol).length ≤ k + 1) := by
                      obtain ⟨e1, e2⟩ := HOL.out
                      have hris : RisU (ol.take ol.length ++ x :: ol.drop ol.length) := by have q := insU_ris x HU.out.ris; rw [HIN2.out] at q; exact q
                      have hd := ins_done (p := ol.length) (x := x) (ins_keep HU.out g1) (dst := .slice (some ⟨g, 0, none⟩) ol.length cap) (.inr rfl) (by omega) (by have q := r2; rw [List.take_of_length_le (by simp)] at q; simpa using q) g2 hris
                      have hd2 : UInv w w4 v2 (insU x ol) := by rw [HIN2.out]; exact hd
                      refine Lib.hid ⟨hd2, ?_, by have := insU_len x ol; omega⟩
                      rw [List.take_add_one, List.getElem?_eq_getElem hlt, ← HX.out]
                      show insU x ol = uniqF (l.take k ++ [x])
                      rw [uniqF_snoc, ← e1]
                    clear r1 g1 r2 g2
                    go_wp2_with fail
                    go_roundw
                    case rel => exact ⟨k + 1, insU x ol, by omega, by go_num, HF⟩
                    case measure => simp [intOf]; omega
            | false =>
              have HP3 : Hid (∀ j (h : j < ol.length), p - 1 ≤ j → Op.bytesLess ol[j] x = false) := Lib.hid (fun j h hj => by
                rcases Nat.lt_or_ge j p with h2 | h2
                · obtain rfl : j = p - 1 := by omega
                  rw [← HY.out]; exact hless
                · exact HP.out j h h2)
              go_wp2_with fail
              go_quiet (fail)
              go_wp2_with fail
              go_roundw
              case rel => exact ⟨p - 1, q + nq, by omega, by first | go_num | (congr 1; omega), HP3, rfl⟩
              case measure => simp [intOf]; omega
          · have g3 : ¬ (0 : Int) < (p : Int) := by omega
            have HP2 : Hid (∀ h : p - 1 < ol.length, 0 < p → Op.bytesLess ol[p - 1] x = true) := Lib.hid (fun _ h => absurd h hp0)
            have g4 : decide ((0 : Int) < (p : Int)) = false := by simpa using g3
            go_wp2_with fail
            go_quiet (fail)
            go_wp2_with fail
            -- the tail: p is the place
            obtain ⟨W0, hW0⟩ : ∃ W0, W0 = (wr.drewN q).drewN nq := ⟨_, rfl⟩
            first | rw [← hW0] | skip
            have HU : Hid (UInv w W0 (.slice (some ⟨g, 0, none⟩) ol.length cap) ol) := Lib.hid (by rw [hW0]; exact (HR.out.1.drewN _).drewN _)
            have d1 : W0.cell? ⟨bA, oA + k, none⟩ = some (str x) := by rw [hW0]; exact c1
            have HCW : Hid (∀ i (hi : i < (ol.map str).length), W0.cell? ⟨g, i, none⟩ = some (ol.map str)[i]) := Lib.hid (by rw [hW0]; exact HCL.out)
            have HIN := Lib.hid (insU_at x HR.out.1.ris hp HP.out HP2.out)
            have HOL := Lib.hid HR.out.2
            clear hW0 HP HP2 HCL HR c1
            by_cases hpn : p < ol.length
            · have g6 : (p : Int) < (ol.length : Int) := by omega
              have g7 : (0 : Int) ≤ (p : Int) := by omega
              obtain ⟨y2, hy2⟩ : ∃ y, y = ol[p] := ⟨_, rfl⟩
              have d2 := HCW.out p (by simpa using hpn)
              simp only [List.getElem_map] at d2
              rw [← hy2] at d2
              have e0 : ol[p]? = some y2 := by rw [hy2]; simp [hpn]
              rw [e0] at HIN
              clear HCW hy2 e0
              by_cases hyx : y2 = x
              · subst hyx
                have t1 : (y2 == y2) = true := by simp
                go_wp2_with fail
                go_quiet (fail)
                go_wp2_with fail
                go_roundw
                case rel =>
                  obtain ⟨e1, e2⟩ := HOL.out
                  refine ⟨k + 1, ol, by omega, by go_num, Lib.hid ⟨HU.out.drewN _, ?_, by omega⟩⟩
                  have e3 := HIN.out
                  rw [if_pos trivial] at e3
                  rw [List.take_add_one, List.getElem?_eq_getElem hlt, ← HX.out]
                  show ol = uniqF (l.take k ++ [y2])
                  rw [uniqF_snoc, ← e1, e3]
                case measure => simp [intOf]; omega
              · have t1 : (y2 == x) = false := by simpa using hyx
                have hIN : insU x ol = ol.take p ++ x :: ol.drop p := by rw [HIN.out, if_neg (by simpa using hyx)]
                have HIN2 := Lib.hid hIN
                clear HIN hIN hyx
                have hne : ¬ cap = p := by omega
                have g10 : (p : Int) ≤ (cap : Int) := by omega
                have RW1 := Lib.hid (ins_row HU.out.bel.size x)
                have SRC1 := Lib.hid (ins_src HU.out x hpn)
                go_wp2_with fail
                go_quiet (fail)
                go_wp2_with fail
                obtain ⟨W5, hW5⟩ : ∃ W5, W5 = W0.drewN nq := ⟨_, rfl⟩
                rw [← hW5]
                have d5 : W5.cell? ⟨bA, oA + k, none⟩ = some (str x) := by rw [hW5]; exact d1
                have HU := Lib.hid (show UInv w W5 _ _ by rw [hW5]; exact HU.out.drewN nq)
                have RW1 := Lib.hid (ins_row HU.out.bel.size x)
                have SRC1 := Lib.hid (ins_src HU.out x hpn)
                clear d1 hW5
                go_region_held3 (fun w' => w'.cell? ⟨bA, oA + k, none⟩ = some (str x))
                  (first
                    | (exact d5)
                    | (exact ins_cell2 HLA.out (ins_cell1 HLA.out HU.out d5 g1) (fun j e => ((ins_keep HU.out g1).row.lt j e).1) g2)
                    | (exact ins_cell1 HLA.out HU.out d5 g1)
                    | go_keep)
                  ((first
                    | (refine step_appendV (news := ((ol.drop p).map str)) (v := .slice (some ⟨W5.heap.size, 0, none⟩) 1 1) (k := 1) (xs := [str x]) (base := w.heap.size) (by rfl) _ _ 50 (by rfl) Try.underlying50 hi hz0 hz1 hz2 (by rfl) (by rfl) RW1.out (src_eq SRC1.out (by rfl)) ?_ ?_ ?_ ?_ ?_
                       · intro u hu; first | (simp at hu; done) | (obtain ⟨_, _, rfl⟩ := List.mem_map.1 hu; rfl)
                       · exact (bnd _ _ (by omega) (by first | (simp; done) | (simp; omega))).1
                       · exact (bnd _ _ (by omega) (by first | (simp; done) | (simp; omega))).2
                       · show w.heap.size ≤ (W5.alloc _).heap.size; have := HU.out.bel.size; simp; omega
                       intro v1 w3 r1 g1)
                    | (refine step_appendV (news := [str x] ++ ((ol.drop p).map str)) (v := .slice (some ⟨g, 0, none⟩) p cap) (k := p) (xs := ((ol.map str).take p)) (base := w.heap.size) (by rfl) _ _ 50 (by rfl) Try.underlying50 hi hz0 hz1 hz2 (by rfl) (by rfl) (row_take (ins_keep HU.out g1).row (by omega)) (src_row r1) ?_ ?_ ?_ ?_ ?_
                       · intro u hu
                         rcases List.mem_append.1 hu with h | h
                         · simp at h; subst h; rfl
                         · first | (simp at h; done) | (obtain ⟨_, _, rfl⟩ := List.mem_map.1 h; rfl)
                       · exact (bnd _ _ (by omega) (by first | (simp; done) | (simp; omega))).1
                       · exact (bnd _ _ (by omega) (by first | (simp; done) | (simp; omega))).2
                       · exact (ins_keep HU.out g1).bel.size
                       intro v2 w4 r2 g2)
                    | fail))
                all_goals
                  have HF : Hid (UInv w w4 v2 (insU x ol) ∧ insU x ol = uniqF (l.take (k + 1)) ∧ (insU x ol).length ≤ k + 1) := by
                    obtain ⟨e1, e2⟩ := HOL.out
                    have hris : RisU (ol.take p ++ x :: ol.drop p) := by have q := insU_ris x HU.out.ris; rw [HIN2.out] at q; exact q
                    have hd := ins_done (p := p) (x := x) (ins_keep HU.out g1) (dst := .slice (some ⟨g, 0, none⟩) p cap) (.inr rfl) (by omega) (by rw [List.map_take]; exact r2) g2 hris
                    have hd2 : UInv w w4 v2 (insU x ol) := by rw [HIN2.out]; exact hd
                    refine Lib.hid ⟨hd2, ?_, by have := insU_len x ol; omega⟩
                    rw [List.take_add_one, List.getElem?_eq_getElem hlt, ← HX.out]
                    show insU x ol = uniqF (l.take k ++ [x])
                    rw [uniqF_snoc, ← e1]
                  clear r1 g1 r2 g2
                  go_wp2_with fail
                  go_roundw
                  case rel => exact ⟨k + 1, insU x ol, by omega, by go_num, HF⟩
                  case measure => simp [intOf]; omega
            · obtain rfl : p = ol.length := by omega
              have g6 : ¬ (ol.length : Int) < (ol.length : Int) := by omega
              have hIN : insU x ol = ol.take ol.length ++ x :: ol.drop ol.length := by rw [HIN.out, if_neg (by simp)]
              have HIN2 := Lib.hid hIN
              clear HIN hIN HCW
              by_cases hcn : cap = ol.length
              · subst hcn
                have RW1 := Lib.hid (ins_row HU.out.bel.size x)
                have SRC0 := Lib.hid trivial
                go_wp2_with fail
                go_quiet (fail)
                go_wp2_with fail
                obtain ⟨W5, hW5⟩ : ∃ W5, W5 = W0.drewN nq := ⟨_, rfl⟩
                rw [← hW5]
                have d5 : W5.cell? ⟨bA, oA + k, none⟩ = some (str x) := by rw [hW5]; exact d1
                have HU := Lib.hid (show UInv w W5 _ _ by rw [hW5]; exact HU.out.drewN nq)
                have RW1 := Lib.hid (ins_row HU.out.bel.size x)
                have SRC0 := Lib.hid trivial
                clear d1 hW5
                go_region_held3 (fun w' => w'.cell? ⟨bA, oA + k, none⟩ = some (str x))
                  (first
                    | (exact d5)
                    | (exact ins_cell2 HLA.out (ins_cell1 HLA.out HU.out d5 g1) (fun j e => ((ins_keep HU.out g1).row.lt j e).1) g2)
                    | (exact ins_cell1 HLA.out HU.out d5 g1)
                    | go_keep)
                  ((first
                    | (refine step_appendV (news := []) (v := .slice (some ⟨W5.heap.size, 0, none⟩) 1 1) (k := 1) (xs := [str x]) (base := w.heap.size) (by rfl) _ _ 50 (by rfl) Try.underlying50 hi hz0 hz1 hz2 (by rfl) (by rfl) RW1.out (src_end _ _) ?_ ?_ ?_ ?_ ?_
                       · intro u hu; first | (simp at hu; done) | (obtain ⟨_, _, rfl⟩ := List.mem_map.1 hu; rfl)
                       · exact (bnd _ _ (by omega) (by first | (simp; done) | (simp; omega))).1
                       · exact (bnd _ _ (by omega) (by first | (simp; done) | (simp; omega))).2
                       · show w.heap.size ≤ (W5.alloc _).heap.size; have := HU.out.bel.size; simp; omega
                       intro v1 w3 r1 g1)
                    | (refine step_appendV (news := [str x] ++ []) (v := .slice (some ⟨g, 0, none⟩) ol.length ol.length) (k := ol.length) (xs := ((ol.map str).take ol.length)) (base := w.heap.size) (by rfl) _ _ 50 (by rfl) Try.underlying50 hi hz0 hz1 hz2 (by rfl) (by rfl) (row_take (ins_keep HU.out g1).row (by omega)) (src_row r1) ?_ ?_ ?_ ?_ ?_
                       · intro u hu
                         rcases List.mem_append.1 hu with h | h
                         · simp at h; subst h; rfl
                         · first | (simp at h; done) | (obtain ⟨_, _, rfl⟩ := List.mem_map.1 h; rfl)
                       · exact (bnd _ _ (by omega) (by first | (simp; done) | (simp; omega))).1
                       · exact (bnd _ _ (by omega) (by first | (simp; done) | (simp; omega))).2
                       · exact (ins_keep HU.out g1).bel.size
                       intro v2 w4 r2 g2)
                    | fail))
                all_goals
                  have HF : Hid (UInv w w4 v2 (insU x ol) ∧ insU x ol = uniqF (l.take (k + 1)) ∧ (insU x ol).length ≤ k + 1) := by
                    obtain ⟨e1, e2⟩ := HOL.out
                    have hris : RisU (ol.take ol.length ++ x :: ol.drop ol.length) := by have q := insU_ris x HU.out.ris; rw [HIN2.out] at q; exact q
                    have hd := ins_done (p := ol.length) (x := x) (ins_keep HU.out g1) (dst := .slice (some ⟨g, 0, none⟩) ol.length ol.length) (.inr rfl) (by omega) (by have q := r2; rw [List.take_of_length_le (by simp)] at q; simpa using q) g2 hris
                    have hd2 : UInv w w4 v2 (insU x ol) := by rw [HIN2.out]; exact hd
                    refine Lib.hid ⟨hd2, ?_, by have := insU_len x ol; omega⟩
                    rw [List.take_add_one, List.getElem?_eq_getElem hlt, ← HX.out]
                    show insU x ol = uniqF (l.take k ++ [x])
                    rw [uniqF_snoc, ← e1]
                  clear r1 g1 r2 g2
                  go_wp2_with fail
                  go_roundw
                  case rel => exact ⟨k + 1, insU x ol, by omega, by go_num, HF⟩
                  case measure => simp [intOf]; omega
              · have hcn2 : (ol.length : Int) ≤ (cap : Int) := by omega
                have RW1 := Lib.hid (ins_row HU.out.bel.size x)
                have SRC0 := Lib.hid trivial
                go_wp2_with fail
                go_quiet (fail)
                go_wp2_with fail
                obtain ⟨W5, hW5⟩ : ∃ W5, W5 = W0.drewN nq := ⟨_, rfl⟩
                rw [← hW5]
                have d5 : W5.cell? ⟨bA, oA + k, none⟩ = some (str x) := by rw [hW5]; exact d1
                have HU := Lib.hid (show UInv w W5 _ _ by rw [hW5]; exact HU.out.drewN nq)
                have RW1 := Lib.hid (ins_row HU.out.bel.size x)
                have SRC0 := Lib.hid trivial
                clear d1 hW5
                go_region_held3 (fun w' => w'.cell? ⟨bA, oA + k, none⟩ = some (str x))
                  (first
                    | (exact d5)
                    | (exact ins_cell2 HLA.out (ins_cell1 HLA.out HU.out d5 g1) (fun j e => ((ins_keep HU.out g1).row.lt j e).1) g2)
                    | (exact ins_cell1 HLA.out HU.out d5 g1)
                    | go_keep)
                  ((first
                    | (refine step_appendV (news := []) (v := .slice (some ⟨W5.heap.size, 0, none⟩) 1 1) (k := 1) (xs := [str x]) (base := w.heap.size) (by rfl) _ _ 50 (by rfl) Try.underlying50 hi hz0 hz1 hz2 (by rfl) (by rfl) RW1.out (src_end _ _) ?_ ?_ ?_ ?_ ?_
                       · intro u hu; first | (simp at hu; done) | (obtain ⟨_, _, rfl⟩ := List.mem_map.1 hu; rfl)
                       · exact (bnd _ _ (by omega) (by first | (simp; done) | (simp; omega))).1
                       · exact (bnd _ _ (by omega) (by first | (simp; done) | (simp; omega))).2
                       · show w.heap.size ≤ (W5.alloc _).heap.size; have := HU.out.bel.size; simp; omega
                       intro v1 w3 r1 g1)
                    | (refine step_appendV (news := [str x] ++ []) (v := .slice (some ⟨g, 0, none⟩) ol.length cap) (k := ol.length) (xs := ((ol.map str).take ol.length)) (base := w.heap.size) (by rfl) _ _ 50 (by rfl) Try.underlying50 hi hz0 hz1 hz2 (by rfl) (by rfl) (row_take (ins_keep HU.out g1).row (by omega)) (src_row r1) ?_ ?_ ?_ ?_ ?_
                       · intro u hu
                         rcases List.mem_append.1 hu with h | h
                         · simp at h; subst h; rfl
                         · first | (simp at h; done) | (obtain ⟨_, _, rfl⟩ := List.mem_map.1 h; rfl)
                       · exact (bnd _ _ (by omega) (by first | (simp; done) | (simp; omega))).1
                       · exact (bnd _ _ (by omega) (by first | (simp; done) | (simp; omega))).2
                       · exact (ins_keep HU.out g1).bel.size
                       intro v2 w4 r2 g2)
                    | fail))
                all_goals
                  have HF : Hid (UInv w w4 v2 (insU x ol) ∧ insU x ol = uniqF (l.take (k + 1)) ∧ (insU x ol).length ≤ k + 1) := by
                    obtain ⟨e1, e2⟩ := HOL.out
                    have hris : RisU (ol.take ol.length ++ x :: ol.drop ol.length) := by have q := insU_ris x HU.out.ris; rw [HIN2.out] at q; exact q
                    have hd := ins_done (p := ol.length) (x := x) (ins_keep HU.out g1) (dst := .slice (some ⟨g, 0, none⟩) ol.length cap) (.inr rfl) (by omega) (by have q := r2; rw [List.take_of_length_le (by simp)] at q; simpa using q) g2 hris
                    have hd2 : UInv w w4 v2 (insU x ol) := by rw [HIN2.out]; exact hd
                    refine Lib.hid ⟨hd2, ?_, by have := insU_len x ol; omega⟩
                    rw [List.take_add_one, List.getElem?_eq_getElem hlt, ← HX.out]
                    show insU x ol = uniqF (l.take k ++ [x])
                    rw [uniqF_snoc, ← e1]
                  clear r1 g1 r2 g2
                  go_wp2_with fail
                  go_roundw
                  case rel => exact ⟨k + 1, insU x ol, by omega, by go_num, HF⟩
                  case measure => simp [intOf]; omega
      · have HOL := Lib.hid HR.out.2
        have HUa := Lib.hid HR.out.1
        clear HR
        go_wp2_with fail
        go_loopw [5] (fun kv wr2 => ∃ q : Nat, kv = .int .i64 (0 : Int) ∧ wr2 = wr.drewN q) (fun _ _ => 0)
        case atStart => exact ⟨0, rfl, rfl⟩
        case round =>
          obtain ⟨q, rfl, rfl⟩ := hrel
          go_wp2_with fail
          go_quiet (fail)
          go_wp2_with fail
          obtain ⟨W0, hW0⟩ : ∃ W0, W0 = (wr.drewN q).drewN nq := ⟨_, rfl⟩
          first | rw [← hW0] | skip
          have HU : Hid (UInv w W0 (.slice none 0 0) []) := Lib.hid (by rw [hW0]; exact (HUa.out.drewN _).drewN _)
          have d1 : W0.cell? ⟨bA, oA + k, none⟩ = some (str x) := by rw [hW0]; exact c1
          have hIN : insU x [] = [x] := rfl
          have HIN2 := Lib.hid hIN
          clear hIN hW0 HUa c1
          have RW1 := Lib.hid (ins_row HU.out.bel.size x)
          have SRC0 := Lib.hid trivial
          go_wp2_with fail
          go_quiet (fail)
          go_wp2_with fail
          obtain ⟨W5, hW5⟩ : ∃ W5, W5 = W0.drewN nq := ⟨_, rfl⟩
          rw [← hW5]
          have d5 : W5.cell? ⟨bA, oA + k, none⟩ = some (str x) := by rw [hW5]; exact d1
          have HU := Lib.hid (show UInv w W5 _ _ by rw [hW5]; exact HU.out.drewN nq)
          have RW1 := Lib.hid (ins_row HU.out.bel.size x)
          have SRC0 := Lib.hid trivial
          clear d1 hW5
          go_region_held3 (fun w' => w'.cell? ⟨bA, oA + k, none⟩ = some (str x))
            (first
              | (exact d5)
              | (exact ins_cell2 HLA.out (ins_cell1 HLA.out HU.out d5 g1) (fun j e => by cases e) g2)
              | (exact ins_cell1 HLA.out HU.out d5 g1)
              | go_keep)
            ((first
              | (refine step_appendV (news := []) (v := .slice (some ⟨W5.heap.size, 0, none⟩) 1 1) (k := 1) (xs := [str x]) (base := w.heap.size) (by rfl) _ _ 50 (by rfl) Try.underlying50 hi hz0 hz1 hz2 (by rfl) (by rfl) RW1.out src_nil ?_ ?_ ?_ ?_ ?_
                 · intro u hu; first | (simp at hu; done) | (obtain ⟨_, _, rfl⟩ := List.mem_map.1 hu; rfl)
                 · exact (bnd _ _ (by omega) (by first | (simp; done) | (simp; omega))).1
                 · exact (bnd _ _ (by omega) (by first | (simp; done) | (simp; omega))).2
                 · show w.heap.size ≤ (W5.alloc _).heap.size; have := HU.out.bel.size; simp; omega
                 intro v1 w3 r1 g1)
              | (refine step_appendV (news := [str x] ++ []) (v := .slice none 0 0) (k := 0) (xs := []) (base := w.heap.size) (by rfl) _ _ 50 (by rfl) Try.underlying50 hi hz0 hz1 hz2 (by rfl) (by rfl) (World.ownsRow_nil _ w.heap.size _ _) (src_row r1) ?_ ?_ ?_ ?_ ?_
                 · intro u hu
                   rcases List.mem_append.1 hu with h | h
                   · simp at h; subst h; rfl
                   · first | (simp at h; done) | (obtain ⟨_, _, rfl⟩ := List.mem_map.1 h; rfl)
                 · exact (bnd _ _ (by omega) (by first | (simp; done) | (simp; omega))).1
                 · exact (bnd _ _ (by omega) (by first | (simp; done) | (simp; omega))).2
                 · exact (ins_keep HU.out g1).bel.size
                 intro v2 w4 r2 g2)
              | fail))
          all_goals
            have HF : Hid (UInv w w4 v2 (insU x []) ∧ insU x [] = uniqF (l.take (k + 1)) ∧ (insU x []).length ≤ k + 1) := by
              obtain ⟨e1, e2⟩ := HOL.out
              have hris : RisU ([].take 0 ++ x :: [].drop 0) := by have q := insU_ris x HU.out.ris; rw [HIN2.out] at q; exact q
              have hd := ins_done (p := 0) (x := x) (ins_keep HU.out g1) (dst := .slice none 0 0) (.inl rfl) (by omega) (by simpa using r2) g2 hris
              have hd2 : UInv w w4 v2 (insU x []) := by rw [HIN2.out]; exact hd
              refine Lib.hid ⟨hd2, ?_, by have := insU_len x []; omega⟩
              rw [List.take_add_one, List.getElem?_eq_getElem hlt, ← HX.out]
              show insU x [] = uniqF (l.take k ++ [x])
              rw [uniqF_snoc, ← e1]
            clear r1 g1 r2 g2
            go_wp2_with fail
            go_roundw
            case rel => exact ⟨k + 1, insU x [], by omega, by go_num, HF⟩
            case measure => simp [intOf]; omega
    · obtain rfl : k = l.length := by omega
      have g1 : ¬ (l.length : Int) < (l.length : Int) := by omega
      go_wp2_with fail
      go_ret
      refine ⟨_, rfl, ?_, HR.out.1.bel⟩
      have e := HR.out.2.1
      rw [List.take_length] at e
      rw [← e]
      exact RdV.of_row (by rw [List.length_map]; exact HR.out.1.row)
end Go.Proofs.Yteibiaplmmdppaa
