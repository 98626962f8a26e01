/- keys.parts, by its contract. -/
import Derived.Test.YtonkfekjhbfelaaDoorKParts
namespace Go.Proofs.YtonkfekjhbfelaaDoor
open Go.RowKit

theorem RdV.cells {w : World} {v : Value} {l : List Value} (h : RdV w v l) (hl : l ≠ []) : ∃ b off cap, v = .slice (some ⟨b, off, none⟩) l.length cap ∧ b < w.heap.size ∧ ∀ i (h : i < l.length), w.cell? ⟨b, off + i, none⟩ = some l[i] := by
  obtain ⟨a, cap, hv, h1, h4⟩ := h
  obtain ⟨b, off, rfl, hc⟩ := h4 hl
  have h0 : 0 < l.length := List.length_pos_iff.2 hl
  exact ⟨b, off, cap, hv, World.block_lt_of_cell? w _ (hc 0 h0), hc⟩
theorem kept3 {W w' : World} {p0 p1 p2 : Addr} {a b c : Value} (h : W.cell? p0 = some a ∧ W.cell? p1 = some b ∧ W.cell? p2 = some c) (hb : Below W.drew.heap.size W.drew w') : w'.cell? p0 = some a ∧ w'.cell? p1 = some b ∧ w'.cell? p2 = some c := by
  obtain ⟨h0, h1, h2⟩ := h
  refine ⟨?_, ?_, ?_⟩
  · rw [hb.cell (World.block_lt_of_cell? W _ h0)]; exact h0
  · rw [hb.cell (World.block_lt_of_cell? W _ h1)]; exact h1
  · rw [hb.cell (World.block_lt_of_cell? W _ h2)]; exact h2
theorem PK.frs {w : World} {b : Nat} {k i : Int} {u f n g : List UInt8} (h : PK w b k u f n g i) : w.frozen? ⟨b, 0, none⟩ = false ∧ w.frozen? ⟨b, 1, none⟩ = false ∧ w.frozen? ⟨b, 2, none⟩ = false ∧ w.frozen? ⟨b, 3, none⟩ = false ∧ w.frozen? ⟨b, 4, none⟩ = false ∧ w.frozen? ⟨b, 5, none⟩ = false :=
  ⟨h.fr 0, h.fr 1, h.fr 2, h.fr 3, h.fr 4, h.fr 5⟩
theorem pk_drew {W w' : World} {b : Nat} {k i : Int} {u f n g : List UInt8} (h : PK W b k u f n g i) (hb : Below W.drew.heap.size W.drew w') : PK w' b k u f n g i :=
  PK.below (w := W.drew) h hb h.lt
theorem below_drew {B : Nat} {w w' : World} (h : Below B w w') : Below B w w'.drew := ⟨h.os, h.tape, h.output, h.size, h.block⟩
theorem ne_beq {a b : List UInt8} (h : a ≠ b) : (a == b) = false := by rw [beq_eq_false_iff_ne]; exact h
/-- A slice of at least one text: where it lies, at a world with one block more. -/
theorem RdV.at {w : World} {v : Value} {l : List Value} (h : RdV w v l) (hl : l ≠ []) (o : Obj) : ∃ b off cap, v = .slice (some ⟨b, off, none⟩) l.length cap ∧ w.heap.size ≠ b ∧ ∀ i (h : i < l.length), (w.alloc o).cell? ⟨b, off + i, none⟩ = some l[i] := by
  obtain ⟨b, off, cap, hv, hb, hc⟩ := h.cells hl
  refine ⟨b, off, cap, hv, by omega, fun i hi => ?_⟩
  rw [(below_alloc w o).cell (p := ⟨b, off + i, none⟩) hb]
  exact hc i hi
set_option maxHeartbeats 2000000 in
theorem parts2_any (a b : List UInt8) (v : Value) (w : World) (hv : RdV w v [str a, str b]) :
    Calls Tryd.prog 23 #[v] w fun e w' => e = .returned (pa (partsF [a, b])) ∧ Below w.heap.size w w' := by
  obtain ⟨bl, off, cap, rfl, hne, hc⟩ := hv.at (by simp) (.cells #[.int .i64 0, str [], str [], str [], str [], .int .i64 0] 23)
  have x0 := hc 0 (by simp)
  have x1 := hc 1 (by simp)
  simp only [Nat.add_zero, List.getElem_cons_zero, List.getElem_cons_succ, List.length_cons, List.length_nil, Nat.zero_add] at x0 x1 ⊢
  clear hc hv
  by_cases h0 : a = [102]
  · have HE := Lib.hid (show partsF [a, b] = ⟨1, [], b, [], [], 0⟩ by rw [h0]; rfl)
    have t0 : (a == [102]) = true := by rw [h0]; rfl
    clear h0
    go_enter Tryd.func23, Tryd.ntmps23
    go_wp2_with fail
    refine bodyPost_ret (v := pak 1 [] b [] [] 0) (by simp [results, Tryd.results23, go_sem]) rfl ⟨by rw [HE.out], below_alloc w _⟩
  · have HE := Lib.hid (show partsF [a, b] = ⟨0, [], [], [], [], 0⟩ by show (if a = [102] then _ else pa0) = _; rw [if_neg h0]; rfl)
    have t0 := ne_beq h0
    clear h0
    go_enter Tryd.func23, Tryd.ntmps23
    go_wp2_with fail
    refine bodyPost_ret (v := pak 0 [] [] [] [] 0) (by simp [results, Tryd.results23, go_sem]) rfl ⟨by rw [HE.out], below_alloc w _⟩
set_option maxHeartbeats 2000000 in
theorem partsX_any (L : List (List UInt8)) (v : Value) (w : World) (hv : RdV w v (L.map str)) (h2 : L.length ≠ 2) (h3 : L.length ≠ 3) (h4 : L.length ≠ 4) :
    Calls Tryd.prog 23 #[v] w fun e w' => e = .returned (pa (partsF L)) ∧ Below w.heap.size w w' := by
  have HE := Lib.hid (show partsF L = ⟨0, [], [], [], [], 0⟩ by
    match L, h2, h3, h4 with
    | [], _, _, _ => rfl
    | [_], _, _, _ => rfl
    | [_, _], h, _, _ => exact absurd rfl h
    | [_, _, _], _, h, _ => exact absurd rfl h
    | [_, _, _, _], _, _, h => exact absurd rfl h
    | _ :: _ :: _ :: _ :: _ :: _, _, _, _ => rfl)
  obtain ⟨ad, cap, rfl, hlen, _⟩ := hv
  rw [List.length_map] at hlen ⊢
  have t2 : ((L.length : Int) == 2) = false := by rw [beq_eq_false_iff_ne]; omega
  have t3 : ((L.length : Int) == 3) = false := by rw [beq_eq_false_iff_ne]; omega
  have t4 : ((L.length : Int) == 4) = false := by rw [beq_eq_false_iff_ne]; omega
  clear h2 h3 h4
  go_enter Tryd.func23, Tryd.ntmps23
  go_wp2_with fail
  refine bodyPost_ret (v := pak 0 [] [] [] [] 0) (by simp [results, Tryd.results23, go_sem]) rfl ⟨by rw [HE.out], below_alloc w _⟩
set_option maxHeartbeats 2000000 in
theorem parts3_any (a b c : List UInt8) (v : Value) (w : World) (hv : RdV w v [str a, str b, str c]) (hc3 : c.length ≤ 100000) :
    Calls Tryd.prog 23 #[v] w fun e w' => e = .returned (pa (partsF [a, b, c])) ∧ Below w.heap.size w w' := by
  obtain ⟨W, hW⟩ : ∃ W, W = w.alloc (.cells #[.int .i64 0, str [], str [], str [], str [], .int .i64 0] 23) := ⟨_, rfl⟩
  have HB : Hid (Below w.heap.size w W) := Lib.hid (by rw [hW]; exact below_alloc w _)
  have P := PK.made w 0 [] [] [] [] 0 23
  rw [← hW] at P
  have HP := Lib.hid P
  clear P
  obtain ⟨bl, off, cap, rfl, hne, hc⟩ := hv.at (by simp) (.cells #[.int .i64 0, str [], str [], str [], str [], .int .i64 0] 23)
  have x0 := hc 0 (by simp)
  have x1 := hc 1 (by simp)
  have x2 := hc 2 (by simp)
  simp only [Nat.add_zero, List.getElem_cons_zero, List.getElem_cons_succ, List.length_cons, List.length_nil, Nat.zero_add] at x0 x1 x2 ⊢
  rw [← hW] at x0 x1 x2
  have HC := Lib.hid (And.intro x0 (And.intro x1 x2))
  clear hc hv
  have C3 := Lib.hid (fun W => three_any a b c W hc3)
  have HE := Lib.hid (show partsF [a, b, c] = threeF a b c from rfl)
  obtain ⟨p, hp⟩ : ∃ p, p = threeF a b c := ⟨_, rfl⟩
  rw [← hp] at C3 HE
  clear hp
  obtain ⟨pk, pu, pf, pn, pg, pi⟩ := p
  go_enter Tryd.func23, Tryd.ntmps23
  go_wp2_with fail
  simp only [← hW]
  clear hW
  go_region_held3 (fun w' => w'.cell? ⟨bl, off, none⟩ = some (str a) ∧ w'.cell? ⟨bl, off + 1, none⟩ = some (str b) ∧ w'.cell? ⟨bl, off + 2, none⟩ = some (str c))
    (first
      | (with_reducible exact kept3 HC.out hb6)
      | (with_reducible exact HC.out)
      | go_keep)
    ((first
      | (go_at_call 37
         (with_reducible refine (C3.out _).mono ?_)
         rintro e w6 ⟨rfl, hb6⟩
         obtain ⟨z0, z1, z2, z3, z4, z5⟩ := (pk_drew HP.out hb6).cs
         obtain ⟨q0, q1, q2⟩ := kept3 HC.out hb6
         obtain ⟨y0, y1, y2, y3, y4, y5⟩ := (pk_drew HP.out hb6).frs)
      | fail))
  obtain ⟨z0, z1, z2, z3, z4, z5⟩ := (pk_drew HP.out hb6).cs
  have hBN := below_set6 (HB.out.trans ((below_undrew hb6).mono HB.out.size)) (Nat.le_refl _) pk pu pf pn pg pi
  go_wp2_with fail
  refine bodyPost_ret (v := pak pk pu pf pn pg pi) (by simp [results, Tryd.results23, go_sem, z0, z1, z2, z3, z4, z5]) rfl ⟨by rw [HE.out], hBN⟩
set_option maxHeartbeats 2000000 in
theorem parts4_any (a b c d : List UInt8) (v : Value) (w : World) (hv : RdV w v [str a, str b, str c, str d]) :
    Calls Tryd.prog 23 #[v] w fun e w' => e = .returned (pa (partsF [a, b, c, d])) ∧ Below w.heap.size w w' := by
  obtain ⟨bl, off, cap, rfl, hne, hc⟩ := hv.at (by simp) (.cells #[.int .i64 0, str [], str [], str [], str [], .int .i64 0] 23)
  have x0 := hc 0 (by simp)
  have x1 := hc 1 (by simp)
  have x2 := hc 2 (by simp)
  have x3 := hc 3 (by simp)
  simp only [Nat.add_zero, List.getElem_cons_zero, List.getElem_cons_succ, List.length_cons, List.length_nil, Nat.zero_add] at x0 x1 x2 x3 ⊢
  clear hc hv
  by_cases h0 : a = [114]
  · have HE := Lib.hid (show partsF [a, b, c, d] = ⟨6, b, c, [], [], numF d⟩ by rw [h0]; rfl)
    have t0 : (a == [114]) = true := by rw [h0]; rfl
    obtain ⟨W, hW⟩ : ∃ W, W = w.alloc (.cells #[.int .i64 0, str [], str [], str [], str [], .int .i64 0] 23) := ⟨_, rfl⟩
    have HB : Hid (Below w.heap.size w W) := Lib.hid (by rw [hW]; exact below_alloc w _)
    have HP := PK.made w 0 [] [] [] [] 0 23
    rw [← hW] at HP x1 x2 x3
    have HP := Lib.hid HP
    have C3 := Lib.hid (fun W => number_any d W)
    have HC := Lib.hid (And.intro x1 (And.intro x2 x3))
    clear h0
    go_enter Tryd.func23, Tryd.ntmps23
    go_wp2_with fail
    simp only [← hW]
    clear hW
    obtain ⟨z0, z1, z2, z3, z4, z5⟩ := HP.out.cs
    obtain ⟨y0, y1, y2, y3, y4, y5⟩ := HP.out.frs
    go_region_held3 (fun w' => w'.cell? ⟨bl, off + 1, none⟩ = some (str b) ∧ w'.cell? ⟨bl, off + 2, none⟩ = some (str c) ∧ w'.cell? ⟨bl, off + 3, none⟩ = some (str d))
      (first
        | (with_reducible exact HC.out)
        | go_keep)
      ((first
        | (go_at_call 38
           (with_reducible refine (C3.out _).mono ?_)
           rintro e w6 ⟨rfl, rfl⟩)
        | fail))
    have hBN := below_drew (below_set6 HB.out (Nat.le_refl _) 6 b c [] [] (numF d))
    go_wp2_with fail
    refine bodyPost_ret (v := pak 6 b c [] [] (numF d)) (by simp [results, Tryd.results23, go_sem, z0, z1, z2, z3, z4, z5]) rfl ⟨by rw [HE.out], hBN⟩
  · have HE := Lib.hid (show partsF [a, b, c, d] = ⟨0, [], [], [], [], 0⟩ by show (if a = [114] then _ else pa0) = _; rw [if_neg h0]; rfl)
    have t0 := ne_beq h0
    clear h0
    go_enter Tryd.func23, Tryd.ntmps23
    go_wp2_with fail
    refine bodyPost_ret (v := pak 0 [] [] [] [] 0) (by simp [results, Tryd.results23, go_sem]) rfl ⟨by rw [HE.out], below_alloc w _⟩
theorem parts_any (L : List (List UInt8)) (v : Value) (w : World) (hv : RdV w v (L.map str)) (hl : ∀ x ∈ L, x.length ≤ 100000) :
    Calls Tryd.prog 23 #[v] w fun e w' => e = .returned (pa (partsF L)) ∧ Below w.heap.size w w' := by
  match L, hv, hl with
  | [], hv, _ => exact partsX_any [] v w hv (by simp) (by simp) (by simp)
  | [a], hv, _ => exact partsX_any [a] v w hv (by simp) (by simp) (by simp)
  | [a, b], hv, _ => exact parts2_any a b v w hv
  | [a, b, c], hv, hl => exact parts3_any a b c v w hv (hl c (by simp))
  | [a, b, c, d], hv, _ => exact parts4_any a b c d v w hv
  | a :: b :: c :: d :: e :: r, hv, _ => exact partsX_any (a :: b :: c :: d :: e :: r) v w hv (by simp) (by simp) (by simp)
end Go.Proofs.YtonkfekjhbfelaaDoor
