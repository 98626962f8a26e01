/- KeysReads: the walk. -/
import Derived.Test.YtonkfekjhbfelaaDoorRefParse
import Derived.Test.YtonkfekjhbfelaaDoorRefPref
import Derived.Test.YtonkfekjhbfelaaDoorKBk
namespace Go.Proofs.YtonkfekjhbfelaaDoor
open Go.RowKit

theorem parse_same (l : List UInt8) (hl : l.length ≤ 100000) : ∃ (X : Pa) (b : Bool),
    (∀ W, Calls Tryd.prog 7 #[str l] W fun e w' => e = .returned (.tuple #[pak X.k X.u X.f X.n X.g X.i, .bool b]) ∧ Below W.heap.size W w') ∧
    (∀ W, Calls Tryd.prog 8 #[str l] W fun e w' => e = .returned (.tuple #[pak X.k X.u X.f X.n X.g X.i, .bool b]) ∧ Below W.heap.size W w') := by
  by_cases h : okF l
  · refine ⟨partsF (splitL l), true, fun W => parse_ok l _ W hl h rfl, fun W => (rparse_any l W hl).mono ?_⟩
    rintro e w' ⟨⟨_, he⟩ | ⟨h2, _⟩, hb⟩
    · exact ⟨he, hb⟩
    · exact absurd h h2
  · refine ⟨pa0, false, fun W => parse_bad l W hl h, fun W => (rparse_any l W hl).mono ?_⟩
    rintro e w' ⟨⟨h2, _⟩ | ⟨_, he⟩, hb⟩
    · exact absurd h2 h
    · exact ⟨he, hb⟩
theorem rpa_eql (k : Int) (u f n g : List UInt8) (i : Int) (W : World) : (binOp .eql 27 (pak k u f n g i) (pak k u f n g i)).run Tryd.prog W = .ok (.bool true) W := by
  have hS : Tryd.prog.underlying 27 = some (.struct (Tryd.prog.fieldsOf 27)) := by kernel_rfl
  have hp : Tryd.prog.stoodInHeld 27 = false := by kernel_rfl
  rw [run_eql_struct, show (10000 : Nat) = 9999 + 1 from rfl, run_equalIn_agg W 9999 27 _ _ hS hp]
  simp only [Program.fieldsOf, Tryd.underlying27]
  go_simp
/-- Three boxes. -/
def K3 (w wr : World) (bx bY : Nat) (p X : Pa) : Prop := PK wr w.heap.size p.k p.u p.f p.n p.g p.i ∧ PK wr bx X.k X.u X.f X.n X.g X.i ∧ PK wr bY X.k X.u X.f X.n X.g X.i ∧ Below w.heap.size w wr
theorem K3.up {w W W' : World} {bx bY : Nat} {p X : Pa} (h : K3 w W bx bY p X) (hb : Below W.heap.size W W') : K3 w W' bx bY p X := ⟨pk_up h.1 hb, pk_up h.2.1 hb, pk_up h.2.2.1 hb, h.2.2.2.trans (hb.mono h.2.2.2.size)⟩
theorem K3.cells {w W : World} {bx bY : Nat} {p X : Pa} (h : K3 w W bx bY p X) : W.cell? ⟨w.heap.size, 0, none⟩ = some (.int .i64 p.k) ∧ W.cell? ⟨w.heap.size, 1, none⟩ = some (str p.u) ∧ W.cell? ⟨w.heap.size, 2, none⟩ = some (str p.f) ∧ W.cell? ⟨w.heap.size, 3, none⟩ = some (str p.n) ∧ W.cell? ⟨w.heap.size, 4, none⟩ = some (str p.g) ∧ W.cell? ⟨w.heap.size, 5, none⟩ = some (.int .i64 p.i) ∧ W.cell? ⟨bx, 0, none⟩ = some (.int .i64 X.k) ∧ W.cell? ⟨bx, 1, none⟩ = some (str X.u) ∧ W.cell? ⟨bx, 2, none⟩ = some (str X.f) ∧ W.cell? ⟨bx, 3, none⟩ = some (str X.n) ∧ W.cell? ⟨bx, 4, none⟩ = some (str X.g) ∧ W.cell? ⟨bx, 5, none⟩ = some (.int .i64 X.i) ∧ W.cell? ⟨bY, 0, none⟩ = some (.int .i64 X.k) ∧ W.cell? ⟨bY, 1, none⟩ = some (str X.u) ∧ W.cell? ⟨bY, 2, none⟩ = some (str X.f) ∧ W.cell? ⟨bY, 3, none⟩ = some (str X.n) ∧ W.cell? ⟨bY, 4, none⟩ = some (str X.g) ∧ W.cell? ⟨bY, 5, none⟩ = some (.int .i64 X.i) := by
  obtain ⟨x0, x1, x2, x3, x4, x5⟩ := h.1.cs
  obtain ⟨y0, y1, y2, y3, y4, y5⟩ := h.2.1.cs
  obtain ⟨z0, z1, z2, z3, z4, z5⟩ := h.2.2.1.cs
  exact ⟨x0, x1, x2, x3, x4, x5, y0, y1, y2, y3, y4, y5, z0, z1, z2, z3, z4, z5⟩
theorem kreads_no (pk : Int) (pu pf pn pg s : List UInt8) (pi : Int) (w : World)
    (hno : 3000 < (pu.length : Int) ∨ (¬ 3000 < (pu.length : Int) ∧ 3000 < (pf.length : Int)) ∨ (¬ 3000 < (pu.length : Int) ∧ ¬ 3000 < (pf.length : Int) ∧ 3000 < (pn.length : Int)) ∨
      (¬ 3000 < (pu.length : Int) ∧ ¬ 3000 < (pf.length : Int) ∧ ¬ 3000 < (pn.length : Int) ∧ 3000 < (pg.length : Int)) ∨ (¬ 3000 < (pu.length : Int) ∧ ¬ 3000 < (pf.length : Int) ∧ ¬ 3000 < (pn.length : Int) ∧ ¬ 3000 < (pg.length : Int) ∧ 3000 < (s.length : Int))) :
    Calls Tryd.prog 3 #[pak pk pu pf pn pg pi, str s] w fun e w' => e = .returned (.bool true) ∧ Below w.heap.size w w' := by
  have HK := Lib.hid (PK.made w pk pu pf pn pg pi 23)
  have HB := Lib.hid (below_alloc w (.cells #[.int .i64 pk, str pu, str pf, str pn, str pg, .int .i64 pi] 23))
  rcases hno with g1 | ⟨g1, g2⟩ | ⟨g1, g2, g3⟩ | ⟨g1, g2, g3, g4⟩ | ⟨g1, g2, g3, g4, g5⟩
  all_goals
    go_enter Tryd.func3, Tryd.ntmps3
    go_wp2_with fail
    refine (kfst_any _).mono ?_
    rintro e w1 ⟨rfl, hb1⟩
    obtain ⟨x0, x1, x2, x3, x4, x5⟩ := (pk_up HK.out hb1).cs
    have HB1 := Lib.hid (HB.out.trans (hb1.mono HB.out.size))
    clear hb1
    go_wp2_with fail
    refine (kfst_any _).mono ?_
    rintro e w2 ⟨rfl, hb2⟩
    have HB2 := Lib.hid (HB1.out.trans (hb2.mono HB1.out.size))
    clear hb2
    go_wp2_with fail
    go_ret
    exact ⟨rfl, HB2.out⟩
set_option maxRecDepth 100000 in
set_option maxHeartbeats 8000000 in
theorem kreads_yes (pk : Int) (pu pf pn pg s : List UInt8) (pi : Int) (w : World) (hp : LenOk ⟨pk, pu, pf, pn, pg, pi⟩)
    (g1 : ¬ 3000 < (pu.length : Int)) (g2 : ¬ 3000 < (pf.length : Int)) (g3 : ¬ 3000 < (pn.length : Int)) (g4 : ¬ 3000 < (pg.length : Int)) (g5 : ¬ 3000 < (s.length : Int)) :
    Calls Tryd.prog 3 #[pak pk pu pf pn pg pi, str s] w fun e w' => e = .returned (.bool true) ∧ Below w.heap.size w w' := by
  have HK := Lib.hid (PK.made w pk pu pf pn pg pi 23)
  have HB := Lib.hid (below_alloc w (.cells #[.int .i64 pk, str pu, str pf, str pn, str pg, .int .i64 pi] 23))
  obtain ⟨p1, p2, p3, p4, p5, p6⟩ := hp
  dsimp only at p1 p2 p3 p4 p5 p6
  have CP := Lib.hid (fun W => lkey_any pk pu pf pn pg pi W ⟨p5, p6⟩ p1 p2 p3 p4)
  have CR := Lib.hid (fun W => rkey_any pk pu pf pn pg pi W ⟨p5, p6⟩ p1 p2 p3 p4)
  obtain ⟨K, hK⟩ : ∃ K, K = keyL pk pu pf pn pg pi := ⟨_, rfl⟩
  rw [← hK] at CP CR
  obtain ⟨⟨xk, xu, xf, xn, xg, xi⟩, b, CX, CY⟩ := parse_same s (by omega)
  dsimp only at CX CY
  replace CX := Lib.hid CX
  replace CY := Lib.hid CY
  have N1 := Lib.hid (fun W => name_any s W (by omega))
  have N2 := Lib.hid (fun W => rname_any s W (by omega))
  obtain ⟨N, hN⟩ : ∃ N, N = nameB s := ⟨_, rfl⟩
  rw [← hN] at N1 N2
  have QS := Lib.hid (fun W => subs_any pu W p1)
  have RS := Lib.hid (fun W => pref_u 4 115 (.inl ⟨rfl, rfl⟩) pu [] W p1 (by simp))
  have QF := Lib.hid (fun W => folders_any pu W p1)
  have RF := Lib.hid (fun W => pref_u 5 100 (.inr ⟨rfl, rfl⟩) pu [] W p1 (by simp))
  have QE := Lib.hid (fun W => entries_any pf W p2)
  have RE := Lib.hid (fun W => pref_e [] pf W (by simp) p2)
  have QT := Lib.hid (fun W => states_any pu pf W p1 p2)
  have RT := Lib.hid (fun W => pref_s pu pf W p1 p2)
  obtain ⟨M2, hM2⟩ : ∃ K, K = withinL [115, 47] pu := ⟨_, rfl⟩
  obtain ⟨M4, hM4⟩ : ∃ K, K = withinL [100, 47] pu := ⟨_, rfl⟩
  obtain ⟨M1, hM1⟩ : ∃ K, K = withinL [101, 47] pf := ⟨_, rfl⟩
  obtain ⟨M3, hM3⟩ : ∃ K, K = withinL (withinL [114, 47] pu) pf := ⟨_, rfl⟩
  rw [← hM2] at QS RS
  rw [← hM4] at QF RF
  rw [← hM1] at QE RE
  rw [← hM3] at QT RT
  have heq := fun W => rpa_eql xk xu xf xn xg xi W
  clear hK hN hM1 hM2 hM3 hM4 p1 p2 p3 p4 p5 p6
  go_enter Tryd.func3, Tryd.ntmps3
  go_wp2_with fail
  refine (kfst_any _).mono ?_
  rintro e w1 ⟨rfl, hb1⟩
  have HK1 := Lib.hid (pk_up HK.out hb1)
  have HB1 := Lib.hid (HB.out.trans (hb1.mono HB.out.size))
  obtain ⟨x0, x1, x2, x3, x4, x5⟩ := HK1.out.cs
  clear hb1 HK HB
  go_wp2_with fail
  clear g1 g2 g3 g4 g5
  refine (CX.out _).mono ?_
  rintro e w2 ⟨rfl, hb2⟩
  have HK2 := Lib.hid (pk_up (pk_up HK1.out hb2) (below_alloc w2 (.cells #[.int .i64 xk, str xu, str xf, str xn, str xg, .int .i64 xi] 23)))
  have HX := Lib.hid (PK.made w2 xk xu xf xn xg xi 23)
  have HB2 := Lib.hid ((HB1.out.trans (hb2.mono HB1.out.size)).alloc (HB1.out.trans (hb2.mono HB1.out.size)).size (.cells #[.int .i64 xk, str xu, str xf, str xn, str xg, .int .i64 xi] 23))
  clear hb2 HK1 HB1 x0 x1 x2 x3 x4 x5 CX
  go_wp2_with fail
  refine (CY.out _).mono ?_
  rintro e w3 ⟨rfl, hb3⟩
  have H3 := Lib.hid (show K3 w (w3.alloc (.cells #[.int .i64 xk, str xu, str xf, str xn, str xg, .int .i64 xi] 27)) w2.heap.size w3.heap.size ⟨pk, pu, pf, pn, pg, pi⟩ ⟨xk, xu, xf, xn, xg, xi⟩ from
    ⟨pk_up (pk_up HK2.out hb3) (below_alloc w3 _), pk_up (pk_up HX.out hb3) (below_alloc w3 _), PK.made w3 xk xu xf xn xg xi 27, (HB2.out.trans (hb3.mono HB2.out.size)).alloc (HB2.out.trans (hb3.mono HB2.out.size)).size _⟩)
  clear hb3 HK2 HX HB2 CY
  obtain ⟨bx, hbx⟩ : ∃ b, b = w2.heap.size := ⟨_, rfl⟩
  obtain ⟨bY, hbY⟩ : ∃ b, b = w3.heap.size := ⟨_, rfl⟩
  obtain ⟨W9, hW9⟩ : ∃ W, W = w3.alloc (.cells #[.int .i64 xk, str xu, str xf, str xn, str xg, .int .i64 xi] 27) := ⟨_, rfl⟩
  rw [← hW9, ← hbx, ← hbY] at H3
  go_wp2_with fail
  simp only [← hW9, ← hbx, ← hbY, List.append_eq, List.cons_append, List.nil_append]
  clear hW9 hbx hbY
  have HD := Lib.hid (show K3 w W9.drew bx bY ⟨pk, pu, pf, pn, pg, pi⟩ ⟨xk, xu, xf, xn, xg, xi⟩ from ⟨H3.out.1, H3.out.2.1, H3.out.2.2.1, below_drew H3.out.2.2.2⟩)
  have LP := Lib.hid (fun W => lparts_any pk pu pf pn pg pi W)
  have LX := Lib.hid (fun W => lparts_any xk xu xf xn xg xi W)
  clear H3
  go_region_held3 (fun W => W.cell? ⟨w.heap.size, 0, none⟩ = some (.int .i64 pk) ∧ W.cell? ⟨w.heap.size, 1, none⟩ = some (str pu) ∧ W.cell? ⟨w.heap.size, 2, none⟩ = some (str pf) ∧ W.cell? ⟨w.heap.size, 3, none⟩ = some (str pn) ∧ W.cell? ⟨w.heap.size, 4, none⟩ = some (str pg) ∧ W.cell? ⟨w.heap.size, 5, none⟩ = some (.int .i64 pi) ∧ W.cell? ⟨bx, 0, none⟩ = some (.int .i64 xk) ∧ W.cell? ⟨bx, 1, none⟩ = some (str xu) ∧ W.cell? ⟨bx, 2, none⟩ = some (str xf) ∧ W.cell? ⟨bx, 3, none⟩ = some (str xn) ∧ W.cell? ⟨bx, 4, none⟩ = some (str xg) ∧ W.cell? ⟨bx, 5, none⟩ = some (.int .i64 xi) ∧ W.cell? ⟨bY, 0, none⟩ = some (.int .i64 xk) ∧ W.cell? ⟨bY, 1, none⟩ = some (str xu) ∧ W.cell? ⟨bY, 2, none⟩ = some (str xf) ∧ W.cell? ⟨bY, 3, none⟩ = some (str xn) ∧ W.cell? ⟨bY, 4, none⟩ = some (str xg) ∧ W.cell? ⟨bY, 5, none⟩ = some (.int .i64 xi))
    (first
      | (exact (((((HD.out.up hb4).up hb5).up hb6).up hb7).up hb8).cells)
      | (exact ((((HD.out.up hb4).up hb5).up hb6).up hb7).cells)
      | (exact (((HD.out.up hb4).up hb5).up hb6).cells)
      | (exact ((HD.out.up hb4).up hb5).cells)
      | (exact (HD.out.up hb4).cells)
      | (exact HD.out.cells)
      | go_keep)
    ((first
      | (go_at_call 6
         (with_reducible refine (kfst_any _).mono ?_)
         rintro e w4 ⟨rfl, hb4⟩)
      | (go_at_call 9
         (with_reducible refine (CP.out _).mono ?_)
         rintro e w5 ⟨rfl, hb5⟩)
      | (go_at_call 11
         (with_reducible refine (LP.out _).mono ?_)
         rintro e w6 ⟨rfl, hb6⟩)
      | (go_at_call 10
         (with_reducible refine (CR.out _).mono ?_)
         rintro e w7 ⟨rfl, hb7⟩)
      | (go_at_call 11
         (with_reducible refine (LX.out _).mono ?_)
         rintro e w8 ⟨rfl, hb8⟩)
      | (go_at_call 12
         (with_reducible refine (N1.out _).mono ?_)
         rintro e wq ⟨rfl, hwq⟩
         replace hwq := hwq.symm
         subst hwq)
      | (go_at_call 13
         (with_reducible refine (N2.out _).mono ?_)
         rintro e wq ⟨rfl, hwq⟩
         replace hwq := hwq.symm
         subst hwq)
      | (go_at_call 14
         (with_reducible refine (QS.out _).mono ?_)
         rintro e wq ⟨rfl, hwq⟩
         replace hwq := hwq.symm
         subst hwq)
      | (go_at_call 15
         (with_reducible refine (RS.out _).mono ?_)
         rintro e wq ⟨rfl, hwq⟩
         replace hwq := hwq.symm
         subst hwq)
      | (go_at_call 16
         (with_reducible refine (QF.out _).mono ?_)
         rintro e wq ⟨rfl, hwq⟩
         replace hwq := hwq.symm
         subst hwq)
      | (go_at_call 15
         (with_reducible refine (RF.out _).mono ?_)
         rintro e wq ⟨rfl, hwq⟩
         replace hwq := hwq.symm
         subst hwq)
      | (go_at_call 17
         (with_reducible refine (QE.out _).mono ?_)
         rintro e wq ⟨rfl, hwq⟩
         replace hwq := hwq.symm
         subst hwq)
      | (go_at_call 15
         (with_reducible refine (RE.out _).mono ?_)
         rintro e wq ⟨rfl, hwq⟩
         replace hwq := hwq.symm
         subst hwq)
      | (go_at_call 18
         (with_reducible refine (QT.out _).mono ?_)
         rintro e wq ⟨rfl, hwq⟩
         replace hwq := hwq.symm
         subst hwq)
      | (go_at_call 15
         (with_reducible refine (RT.out _).mono ?_)
         rintro e wq ⟨rfl, hwq⟩
         replace hwq := hwq.symm
         subst hwq)
      | fail))
  have H8 := Lib.hid (((((HD.out.up hb4).up hb5).up hb6).up hb7).up hb8)
  go_wp2_with fail
  go_ret
  exact ⟨rfl, H8.out.2.2.2⟩
theorem kreads_walk (q : Pa) (a : ByteArray) (w : World) (hq : LenOk q) (_ha : a.size ≤ maxLen) :
    Calls Tryd.prog 3 #[pa q, .string a] w fun e w' => e = .returned (.bool true) ∧ Below w.heap.size w w' := by
  obtain ⟨s, rfl⟩ := str_of a
  obtain ⟨pk, pu, pf, pn, pg, pi⟩ := q
  by_cases g1 : 3000 < (pu.length : Int)
  · exact kreads_no pk pu pf pn pg s pi w (.inl g1)
  by_cases g2 : 3000 < (pf.length : Int)
  · exact kreads_no pk pu pf pn pg s pi w (.inr (.inl ⟨g1, g2⟩))
  by_cases g3 : 3000 < (pn.length : Int)
  · exact kreads_no pk pu pf pn pg s pi w (.inr (.inr (.inl ⟨g1, g2, g3⟩)))
  by_cases g4 : 3000 < (pg.length : Int)
  · exact kreads_no pk pu pf pn pg s pi w (.inr (.inr (.inr (.inl ⟨g1, g2, g3, g4⟩))))
  by_cases g5 : 3000 < (s.length : Int)
  · exact kreads_no pk pu pf pn pg s pi w (.inr (.inr (.inr (.inr ⟨g1, g2, g3, g4, g5⟩))))
  exact kreads_yes pk pu pf pn pg s pi w hq g1 g2 g3 g4 g5
end Go.Proofs.YtonkfekjhbfelaaDoor
