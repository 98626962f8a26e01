/- KeysApart: the walk. -/
import Derived.Test.YtonkfekjhbfelaaDoorKMath
import Derived.Deep.RegionHeld3
import Derived.Deep.QuietTactic
import Derived.BigQuiet
namespace Go.Proofs.YtonkfekjhbfelaaDoor
open Go.RowKit

theorem parse_ok (l : List UInt8) (p : Pa) (w : World) (hl : l.length ≤ 100000) (hok : okF l) (hp : partsF (splitL l) = p) :
    Calls Tryd.prog 7 #[str l] w fun e w' => e = .returned (.tuple #[pa p, .bool true]) ∧ Below w.heap.size w w' := by
  refine (parse_any l w hl).mono ?_
  rintro e w' ⟨⟨_, he⟩ | ⟨h, _⟩, hb⟩
  · exact ⟨by rw [he, hp], hb⟩
  · exact absurd hok h
theorem parse_bad (l : List UInt8) (w : World) (hl : l.length ≤ 100000) (hok : ¬ okF l) :
    Calls Tryd.prog 7 #[str l] w fun e w' => e = .returned (.tuple #[pa pa0, .bool false]) ∧ Below w.heap.size w w' := by
  refine (parse_any l w hl).mono ?_
  rintro e w' ⟨⟨h, _⟩ | ⟨_, he⟩, hb⟩
  · exact absurd h hok
  · exact ⟨he, hb⟩
theorem first_key : keyL 4 [117] [120] [] [] 0 = [115, 47, 117, 47, 120] := by decide
theorem first_parts : partsF (splitL [115, 47, 117, 47, 120]) = ⟨4, [117], [120], [], [], 0⟩ := by
  rw [show splitL [115, 47, 117, 47, 120] = [[115], [117], [120]] by decide]
  rfl
theorem first_ok : okF [115, 47, 117, 47, 120] := by
  rw [← first_key]
  exact (okF_key _ _ _ _ _ _).2 (by decide)
theorem first_entry : numbL (withinL [101, 47] [120]) 7 = [101, 47, 120, 47, 48, 48, 48, 48, 48, 55] := by decide
set_option maxHeartbeats 2000000 in
theorem kfst_any (w : World) : Calls Tryd.prog 6 #[] w fun e w' => e = .returned (.bool true) ∧ Below w.heap.size w w' := by
  have CP := Lib.hid (fun W => parse_ok _ _ W (by simp) first_ok first_parts)
  have CE := Lib.hid (fun W => by have := entry_any [120] 7 W (by simp) (by omega); rw [first_entry] at this; exact this : ∀ W : World, Calls Tryd.prog 19 #[str [120], .int .i64 7] W fun e w' => e = .returned (str [101, 47, 120, 47, 48, 48, 48, 48, 48, 55]) ∧ Below W.heap.size W w')
  go_enter Tryd.func6, Tryd.ntmps6
  go_wp2_with fail
  refine (CP.out _).mono ?_
  rintro e w1 ⟨rfl, hb1⟩
  have HB1 := Lib.hid hb1
  have HK := Lib.hid (PK.made w1 4 [117] [120] [] [] 0 23)
  have HB2 := Lib.hid (hb1.alloc hb1.size (.cells #[.int .i64 4, str [117], str [120], str [], str [], .int .i64 0] 23))
  clear hb1
  go_wp2_with fail
  refine (CE.out _).mono ?_
  rintro e w2 ⟨rfl, hb2⟩
  obtain ⟨z0, z1, z2, z3, z4, z5⟩ := (pk_up HK.out hb2).cs
  have HB3 := Lib.hid (HB2.out.trans (hb2.mono HB2.out.size))
  clear hb2 HK HB1 HB2 CP CE
  go_wp2_with fail
  go_ret
  exact ⟨rfl, HB3.out⟩
/-- Two structs in two blocks. -/
def PK2 (w : World) (b c : Nat) (p q : Pa) : Prop := PK w b p.k p.u p.f p.n p.g p.i ∧ PK w c q.k q.u q.f q.n q.g q.i
theorem PK2.up {W w' : World} {b c : Nat} {p q : Pa} (h : PK2 W b c p q) (hb : Below W.heap.size W w') : PK2 w' b c p q := ⟨pk_up h.1 hb, pk_up h.2 hb⟩
def LenOk (p : Pa) : Prop := p.u.length ≤ 9223372036854775807 ∧ p.f.length ≤ 9223372036854775807 ∧ p.n.length ≤ 9223372036854775807 ∧ p.g.length ≤ 9223372036854775807 ∧ -9223372036854775808 ≤ p.i ∧ p.i ≤ 9223372036854775807
theorem PK2.cells {W : World} {b c : Nat} {p q : Pa} (h : PK2 W b c p q) : W.cell? ⟨b, 0, none⟩ = some (.int .i64 p.k) ∧ W.cell? ⟨b, 1, none⟩ = some (str p.u) ∧ W.cell? ⟨b, 2, none⟩ = some (str p.f) ∧ W.cell? ⟨b, 3, none⟩ = some (str p.n) ∧ W.cell? ⟨b, 4, none⟩ = some (str p.g) ∧ W.cell? ⟨b, 5, none⟩ = some (.int .i64 p.i) ∧
    W.cell? ⟨c, 0, none⟩ = some (.int .i64 q.k) ∧ W.cell? ⟨c, 1, none⟩ = some (str q.u) ∧ W.cell? ⟨c, 2, none⟩ = some (str q.f) ∧ W.cell? ⟨c, 3, none⟩ = some (str q.n) ∧ W.cell? ⟨c, 4, none⟩ = some (str q.g) ∧ W.cell? ⟨c, 5, none⟩ = some (.int .i64 q.i) := by
  obtain ⟨x0, x1, x2, x3, x4, x5⟩ := h.1.cs
  obtain ⟨y0, y1, y2, y3, y4, y5⟩ := h.2.cs
  exact ⟨x0, x1, x2, x3, x4, x5, y0, y1, y2, y3, y4, y5⟩
theorem pk2_boxes (p q : Pa) (w : World) : Hid (PK2 ((w.alloc (.cells #[.int .i64 p.k, str p.u, str p.f, str p.n, str p.g, .int .i64 p.i] 23)).alloc (.cells #[.int .i64 q.k, str q.u, str q.f, str q.n, str q.g, .int .i64 q.i] 23)) w.heap.size (w.heap.size + 1) p q) := Lib.hid (by
  refine ⟨pk_up (PK.made w p.k p.u p.f p.n p.g p.i 23) (below_alloc _ _), ?_⟩
  have := PK.made (w.alloc (.cells #[.int .i64 p.k, str p.u, str p.f, str p.n, str p.g, .int .i64 p.i] 23)) q.k q.u q.f q.n q.g q.i 23
  simpa using this)
theorem pa_eql (k k2 : Int) (u f n g u2 f2 n2 g2 : List UInt8) (i i2 : Int) (W : World) : (binOp .eql 23 (pak k u f n g i) (pak k2 u2 f2 n2 g2 i2)).run Tryd.prog W = .ok (.bool (decide (k = k2 ∧ u = u2 ∧ f = f2 ∧ n = n2 ∧ g = g2 ∧ i = i2))) W := by
  have hS : Tryd.prog.underlying 23 = some (.struct (Tryd.prog.fieldsOf 23)) := by kernel_rfl
  have hp : Tryd.prog.stoodInHeld 23 = false := by kernel_rfl
  rw [run_eql_struct, show (10000 : Nat) = 9999 + 1 from rfl, run_equalIn_agg W 9999 23 _ _ hS hp]
  simp only [Program.fieldsOf, Tryd.underlying23]
  go_simp
  by_cases h1 : k = k2 <;> by_cases h2 : u = u2 <;> by_cases h3 : f = f2 <;> by_cases h4 : n = n2 <;> by_cases h5 : g = g2 <;> by_cases h6 : i = i2 <;> simp [h1, h2, h3, h4, h5, h6]
/-- What Parse tells, whichever way. -/
theorem parse_some (l : List UInt8) (hl : l.length ≤ 100000) : ∃ (p : Pa) (b : Bool), (b = true → keyP p = l) ∧ (b = true ↔ okF l) ∧ (b = true → p = partsF (splitL l)) ∧ (b = false → p = pa0) ∧ ∀ W, Calls Tryd.prog 7 #[str l] W fun e w' => e = .returned (.tuple #[pa p, .bool b]) ∧ Below W.heap.size W w' := by
  by_cases h : okF l
  · exact ⟨partsF (splitL l), true, fun _ => h.2, by simp [h], fun _ => rfl, by simp, fun W => parse_ok l _ W hl h rfl⟩
  · exact ⟨pa0, false, by simp, by simp [h], by simp, fun _ => rfl, fun W => parse_bad l W hl h⟩
/-- What is asked of the names at the end. -/
theorem apart_ends (a b : List UInt8) (i : Int) :
    (withinL [101, 47] a == ([] : List UInt8)) = true ∨
    ((withinL [101, 47] a == ([] : List UInt8)) = false ∧ (a == b) = true ∧ a = b) ∨
    ((withinL [101, 47] a == ([] : List UInt8)) = false ∧ (a == b) = false ∧ (withinL [101, 47] b == ([] : List UInt8)) = true ∧ (numbL (withinL [101, 47] b) i == ([] : List UInt8)) = true) ∨
    ((withinL [101, 47] a == ([] : List UInt8)) = false ∧ (a == b) = false ∧ (withinL [101, 47] b == ([] : List UInt8)) = false ∧ (withinL [101, 47] a == withinL [101, 47] b) = false ∧ (numbL (withinL [101, 47] b) i == ([] : List UInt8)) = true) ∨
    ((withinL [101, 47] a == ([] : List UInt8)) = false ∧ (a == b) = false ∧ (withinL [101, 47] b == ([] : List UInt8)) = false ∧ (withinL [101, 47] a == withinL [101, 47] b) = false ∧ (numbL (withinL [101, 47] b) i == ([] : List UInt8)) = false ∧ ((numbL (withinL [101, 47] b) i).length : Int) < ((withinL [101, 47] a).length : Int)) ∨
    ((withinL [101, 47] a == ([] : List UInt8)) = false ∧ (a == b) = false ∧ (withinL [101, 47] b == ([] : List UInt8)) = false ∧ (withinL [101, 47] a == withinL [101, 47] b) = false ∧ (numbL (withinL [101, 47] b) i == ([] : List UInt8)) = false ∧ ¬ ((numbL (withinL [101, 47] b) i).length : Int) < ((withinL [101, 47] a).length : Int) ∧
      ((numbL (withinL [101, 47] b) i).take (withinL [101, 47] a).length == withinL [101, 47] a) = false) := by
  by_cases h1 : withinL [101, 47] a = []
  · exact .inl (by rw [h1]; rfl)
  have t1 := ne_beq h1
  by_cases h2 : a = b
  · exact .inr (.inl ⟨t1, by rw [h2]; simp, h2⟩)
  have t2 := ne_beq h2
  refine .inr (.inr ?_)
  by_cases h3 : withinL [101, 47] b = []
  · exact .inl ⟨t1, t2, by rw [h3]; rfl, by rw [h3]; rfl⟩
  have t3 := ne_beq h3
  refine .inr ?_
  obtain ⟨_, ha, ea⟩ := withinL_some h1
  obtain ⟨_, hb, eb⟩ := withinL_some h3
  have key : ∀ x y : List UInt8, a ++ 47 :: x = b ++ 47 :: y → False := by
    intro x y h
    have e1 := splitL_join a x (nameB_no47 ha)
    have e2 := splitL_join b y (nameB_no47 hb)
    rw [h, e2] at e1
    exact h2 (List.cons.inj e1).1.symm
  have t4 : (withinL [101, 47] a == withinL [101, 47] b) = false := ne_beq (by
    rw [ea, eb]
    intro h
    exact key [] [] (List.append_cancel_left h))
  by_cases h5 : numbL (withinL [101, 47] b) i = []
  · exact .inl ⟨t1, t2, t3, t4, by rw [h5]; rfl⟩
  have t5 := ne_beq h5
  refine .inr ?_
  by_cases h6 : (numbL (withinL [101, 47] b) i).length < (withinL [101, 47] a).length
  · exact .inl ⟨t1, t2, t3, t4, t5, by omega⟩
  refine .inr ⟨t1, t2, t3, t4, t5, by omega, ne_beq fun h => ?_⟩
  obtain ⟨_, _, _, en⟩ := numbL_some h5
  have h7 := List.take_append_drop (withinL [101, 47] a).length (numbL (withinL [101, 47] b) i)
  rw [h, en, ea, eb] at h7
  have h8 : a ++ 47 :: (numbL (withinL [101, 47] b) i).drop (withinL [101, 47] a).length = b ++ 47 :: digL i.toNat 6 := by
    rw [en, ea, eb]
    simp only [List.append_assoc, List.cons_append, List.nil_append] at h7 ⊢
    simpa using h7
  exact key _ _ h8
set_option maxRecDepth 100000 in
set_option maxHeartbeats 2000000 in
theorem kapart_no (pk : Int) (pu pf pn pg : List UInt8) (pi qk : Int) (qu qf qn qg : List UInt8) (qi : Int) (w : World)
    (s1 s2 s3 s4 s5 s6 : Int) (r1 : wrap64 ((pu.length : Int) + (pf.length : Int)) = s1) (r2 : wrap64 (s1 + (pn.length : Int)) = s2) (r3 : wrap64 (s2 + (pg.length : Int)) = s3)
    (r4 : wrap64 ((qu.length : Int) + (qf.length : Int)) = s4) (r5 : wrap64 (s4 + (qn.length : Int)) = s5) (r6 : wrap64 (s5 + (qg.length : Int)) = s6)
    (hno : 3000 < s3 ∨ (¬ 3000 < s3 ∧ 3000 < s6)) :
    Calls Tryd.prog 5 #[pak pk pu pf pn pg pi, pak qk qu qf qn qg qi] w fun e w' => e = .returned (.bool true) ∧ Below w.heap.size w w' := by
  have HK := pk2_boxes ⟨pk, pu, pf, pn, pg, pi⟩ ⟨qk, qu, qf, qn, qg, qi⟩ w
  have HB := Lib.hid ((below_alloc w (.cells #[.int .i64 pk, str pu, str pf, str pn, str pg, .int .i64 pi] 23)).alloc (by simp) (.cells #[.int .i64 qk, str qu, str qf, str qn, str qg, .int .i64 qi] 23))
  rcases hno with g1 | ⟨g1, g2⟩
  all_goals
    go_enter Tryd.func5, Tryd.ntmps5
    go_wp2_with fail
    refine (kfst_any _).mono ?_
    rintro e w1 ⟨rfl, hb1⟩
    obtain ⟨x0, x1, x2, x3, x4, x5, y0, y1, y2, y3, y4, y5⟩ := (HK.out.up hb1).cells
    have HB1 := Lib.hid (HB.out.trans (hb1.mono HB.out.size))
    clear hb1
    dsimp only at x0 x1 x2 x3 x4 x5 y0 y1 y2 y3 y4 y5
    go_wp2_with fail
    refine (kfst_any _).mono ?_
    rintro e w2 ⟨rfl, hb2⟩
    have HB2 := Lib.hid (HB1.out.trans (hb2.mono HB1.out.size))
    clear hb2
    go_wp2_with fail
    go_ret
    exact ⟨rfl, HB2.out⟩
set_option maxRecDepth 100000 in
set_option maxHeartbeats 4000000 in
theorem kapart_yes (pk : Int) (pu pf pn pg : List UInt8) (pi qk : Int) (qu qf qn qg : List UInt8) (qi : Int) (w : World) (hp : LenOk ⟨pk, pu, pf, pn, pg, pi⟩) (hq : LenOk ⟨qk, qu, qf, qn, qg, qi⟩)
    (s1 s2 s3 s4 s5 s6 : Int) (r1 : wrap64 ((pu.length : Int) + (pf.length : Int)) = s1) (r2 : wrap64 (s1 + (pn.length : Int)) = s2) (r3 : wrap64 (s2 + (pg.length : Int)) = s3)
    (r4 : wrap64 ((qu.length : Int) + (qf.length : Int)) = s4) (r5 : wrap64 (s4 + (qn.length : Int)) = s5) (r6 : wrap64 (s5 + (qg.length : Int)) = s6)
    (g1 : ¬ 3000 < s3) (g2 : ¬ 3000 < s6) :
    Calls Tryd.prog 5 #[pak pk pu pf pn pg pi, pak qk qu qf qn qg qi] w fun e w' => e = .returned (.bool true) ∧ Below w.heap.size w w' := by
  have HK := pk2_boxes ⟨pk, pu, pf, pn, pg, pi⟩ ⟨qk, qu, qf, qn, qg, qi⟩ w
  have HB := Lib.hid ((below_alloc w (.cells #[.int .i64 pk, str pu, str pf, str pn, str pg, .int .i64 pi] 23)).alloc (by simp) (.cells #[.int .i64 qk, str qu, str qf, str qn, str qg, .int .i64 qi] 23))
  obtain ⟨p1, p2, p3, p4, p5, p6⟩ := hp
  obtain ⟨q1, q2, q3, q4, q5, q6⟩ := hq
  dsimp only at p1 p2 p3 p4 p5 p6 q1 q2 q3 q4 q5 q6
  have CP := Lib.hid (fun W => lkey_any pk pu pf pn pg pi W ⟨p5, p6⟩ p1 p2 p3 p4)
  have CQ := Lib.hid (fun W => lkey_any qk qu qf qn qg qi W ⟨q5, q6⟩ q1 q2 q3 q4)
  have lK1 := keyL_len pk pu pf pn pg pi
  have lK2 := keyL_len qk qu qf qn qg qi
  obtain ⟨K1, hK1⟩ : ∃ K, K = keyL pk pu pf pn pg pi := ⟨_, rfl⟩
  obtain ⟨K2, hK2⟩ : ∃ K, K = keyL qk qu qf qn qg qi := ⟨_, rfl⟩
  rw [← hK1] at CP lK1
  rw [← hK2] at CQ lK2
  obtain ⟨⟨xk, xu, xf, xn, xg, xi⟩, b1, e1, -, f1, -, CX0⟩ := parse_some K1 (by omega)
  obtain ⟨⟨yk, yu, yf, yn, yg, yi⟩, b2, e2, -, f2, -, CY0⟩ := parse_some K2 (by omega)
  have CX := Lib.hid CX0
  have CY := Lib.hid CY0
  clear CX0 CY0
  have hbb : b1 = false ∨ (b1 = true ∧ b2 = false) ∨ (b1 = true ∧ b2 = true ∧ ∃ bb, (K1 == K2) = bb ∧ (decide (xk = yk ∧ xu = yu ∧ xf = yf ∧ xn = yn ∧ xg = yg ∧ xi = yi)) = bb) := by
    cases b1 with
    | false => exact .inl rfl
    | true =>
      cases b2 with
      | false => exact .inr (.inl ⟨rfl, rfl⟩)
      | true =>
        refine .inr (.inr ⟨rfl, rfl, ?_⟩)
        by_cases h : K1 = K2
        · refine ⟨true, by rw [h]; simp, ?_⟩
          have h2 : (⟨xk, xu, xf, xn, xg, xi⟩ : Pa) = ⟨yk, yu, yf, yn, yg, yi⟩ := by rw [f1 rfl, f2 rfl, h]
          simp only [Pa.mk.injEq] at h2
          exact decide_eq_true h2
        · refine ⟨false, ne_beq h, decide_eq_false ?_⟩
          rintro ⟨rfl, rfl, rfl, rfl, rfl, rfl⟩
          exact h ((e1 rfl).symm.trans (e2 rfl))
  have HE1 := Lib.hid (fun W => entries_any pf W p2)
  have HE2 := Lib.hid (fun W => entries_any qf W q2)
  have CE := Lib.hid (fun W => entry_any qf qi W q2 ⟨q5, q6⟩)
  have hends := apart_ends pf qf qi
  have l1 := withinL_len [101, 47] pf
  have l2 := withinL_len [101, 47] qf
  have l3 := numbL_len (withinL [101, 47] qf) qi
  obtain ⟨E1, hE1⟩ : ∃ E, E = withinL [101, 47] pf := ⟨_, rfl⟩
  obtain ⟨E2, hE2⟩ : ∃ E, E = withinL [101, 47] qf := ⟨_, rfl⟩
  rw [← hE2] at HE2 CE hends l2 l3
  rw [← hE1] at HE1 hends l1
  obtain ⟨K3, hK3⟩ : ∃ E, E = numbL E2 qi := ⟨_, rfl⟩
  rw [← hK3] at CE hends l3
  have hsame : pf = qf → E1 = E2 := fun h => by rw [hE1, hE2, h]
  have HENDS := Lib.hid hends
  have HSAME := Lib.hid hsame
  simp only [List.length_cons, List.length_nil] at l1 l2
  have L1 : E1.length ≤ 23 := by omega
  have L2 : E2.length ≤ 23 := by omega
  have L3 : K3.length ≤ 29 := by omega
  clear hends hsame l1 l2 l3 hE1 hE2 hK3 hK1 hK2 e1 e2 f1 f2 p5 p6 q5 q6 p1 p2 p3 p4 q1 q2 q3 q4
  go_enter Tryd.func5, Tryd.ntmps5
  go_wp2_with fail
  refine (kfst_any _).mono ?_
  rintro e w1 ⟨rfl, hb1⟩
  have HK1 := Lib.hid (HK.out.up hb1)
  obtain ⟨x0, x1, x2, x3, x4, x5, y0, y1, y2, y3, y4, y5⟩ := HK1.out.cells
  have HB1 := Lib.hid (HB.out.trans (hb1.mono HB.out.size))
  clear hb1 HK HB
  dsimp only at x0 x1 x2 x3 x4 x5 y0 y1 y2 y3 y4 y5
  go_wp2_with fail
  clear g1 g2 r1 r2 r3 r4 r5 r6
  have HKD := Lib.hid (show PK2 w1.drew w.heap.size (w.heap.size + 1) ⟨pk, pu, pf, pn, pg, pi⟩ ⟨qk, qu, qf, qn, qg, qi⟩ from HK1.out)
  have HBD := Lib.hid (below_drew HB1.out)
  clear x0 x1 x2 x3 x4 x5 y0 y1 y2 y3 y4 y5 HK1 HB1
  go_region_held3 (fun W => W.cell? ⟨w.heap.size, 0, none⟩ = some (.int .i64 pk) ∧ W.cell? ⟨w.heap.size, 1, none⟩ = some (str pu) ∧ W.cell? ⟨w.heap.size, 2, none⟩ = some (str pf) ∧ W.cell? ⟨w.heap.size, 3, none⟩ = some (str pn) ∧ W.cell? ⟨w.heap.size, 4, none⟩ = some (str pg) ∧ W.cell? ⟨w.heap.size, 5, none⟩ = some (.int .i64 pi) ∧
      W.cell? ⟨w.heap.size + 1, 0, none⟩ = some (.int .i64 qk) ∧ W.cell? ⟨w.heap.size + 1, 1, none⟩ = some (str qu) ∧ W.cell? ⟨w.heap.size + 1, 2, none⟩ = some (str qf) ∧ W.cell? ⟨w.heap.size + 1, 3, none⟩ = some (str qn) ∧ W.cell? ⟨w.heap.size + 1, 4, none⟩ = some (str qg) ∧ W.cell? ⟨w.heap.size + 1, 5, none⟩ = some (.int .i64 qi))
    (first
      | (exact ((HKD.out.up hb5).up hb6).cells)
      | (exact (HKD.out.up hb5).cells)
      | (exact HKD.out.cells)
      | go_keep)
    ((first
      | (go_at_call 9
         (with_reducible refine (CP.out _).mono ?_)
         rintro e w5 ⟨rfl, hb5⟩)
      | (go_at_call 9
         (with_reducible refine (CQ.out _).mono ?_)
         rintro e w6 ⟨rfl, hb6⟩)
      | fail))
  have HK2 := Lib.hid ((HKD.out.up hb5).up hb6)
  have HB2 := Lib.hid ((HBD.out.trans (hb5.mono HBD.out.size)).trans (hb6.mono (HBD.out.trans (hb5.mono HBD.out.size)).size))
  clear hb5 hb6 HKD HBD CP CQ
  go_wp2_with fail
  refine (CX.out _).mono ?_
  rintro e w7 ⟨rfl, hb7⟩
  have HK3 := Lib.hid ((HK2.out.up hb7).up (below_alloc w7 (.cells #[.int .i64 xk, str xu, str xf, str xn, str xg, .int .i64 xi] 23)))
  have HB3 := Lib.hid ((HB2.out.trans (hb7.mono HB2.out.size)).alloc (HB2.out.trans (hb7.mono HB2.out.size)).size (.cells #[.int .i64 xk, str xu, str xf, str xn, str xg, .int .i64 xi] 23))
  have HX := Lib.hid (PK.made w7 xk xu xf xn xg xi 23)
  clear hb7 HK2 HB2 CX
  go_wp2_with fail
  refine (CY.out _).mono ?_
  rintro e w8 ⟨rfl, hb8⟩
  have HK4 := Lib.hid ((HK3.out.up hb8).up (below_alloc w8 (.cells #[.int .i64 yk, str yu, str yf, str yn, str yg, .int .i64 yi] 23)))
  have HX4 := Lib.hid (pk_up (pk_up HX.out hb8) (below_alloc w8 (.cells #[.int .i64 yk, str yu, str yf, str yn, str yg, .int .i64 yi] 23)))
  have HB4 := Lib.hid ((HB3.out.trans (hb8.mono HB3.out.size)).alloc (HB3.out.trans (hb8.mono HB3.out.size)).size (.cells #[.int .i64 yk, str yu, str yf, str yn, str yg, .int .i64 yi] 23))
  clear hb8 HK3 HB3 HX CY
  obtain ⟨u0, u1, u2, u3, u4, u5⟩ := HX4.out.cs
  have x2 := HK4.out.cells.2.2.1
  have y2 := HK4.out.cells.2.2.2.2.2.2.2.2.1
  have y5 := HK4.out.cells.2.2.2.2.2.2.2.2.2.2.2
  dsimp only at x2 y2 y5
  obtain ⟨W9, hW9⟩ : ∃ W9, W9 = w8.alloc (.cells #[.int .i64 yk, str yu, str yf, str yn, str yg, .int .i64 yi] 23) := ⟨_, rfl⟩
  have HK9 : Hid (PK2 W9 w.heap.size (w.heap.size + 1) ⟨pk, pu, pf, pn, pg, pi⟩ ⟨qk, qu, qf, qn, qg, qi⟩) := Lib.hid (by rw [hW9]; exact HK4.out)
  have HB9 : Hid (Below w.heap.size w W9) := Lib.hid (by rw [hW9]; exact HB4.out)
  have HW9 := Lib.hid hW9
  clear hW9 HK4 HB4 HX4
  rcases hbb with rfl | ⟨rfl, rfl⟩ | ⟨rfl, rfl, bb, t1, t2⟩
  case' inr.inr =>
    have heq := fun W => pa_eql xk yk xu xf xn xg yu yf yn yg xi yi W
    rw [t2] at heq
    clear t2
    cases bb
  all_goals
    go_wp2_with fail
    try clear heq
    try clear t1
    go_quiet ((first
      | (go_at_call 17; with_reducible exact Calls.quiet_of_same (HE1.out _))
      | (go_at_call 17; with_reducible exact Calls.quiet_of_same (HE2.out _))
      | fail))
    clear u0 u1 u2 u3 u4 u5 HE1 HE2
    rw [← HW9.out] at x2 y2 y5
    rw [← HW9.out]
    have HKd := Lib.hid (show PK2 (W9.drewN nq) w.heap.size (w.heap.size + 1) ⟨pk, pu, pf, pn, pg, pi⟩ ⟨qk, qu, qf, qn, qg, qi⟩ from HK9.out)
    have HBd := Lib.hid (Below.drewsN HB9.out nq)
    clear HW9 HK9 HB9
    go_wp2_with fail
    refine (CE.out _).mono ?_
    rintro e w10 ⟨rfl, hb10⟩
    have HK10 := Lib.hid (HKd.out.up hb10)
    have HB10 := Lib.hid (HBd.out.trans (hb10.mono HBd.out.size))
    clear hb10 HKd HBd CE x2 y2 y5
    go_wp2_with fail
    refine (kfst_any _).mono ?_
    rintro e w11 ⟨rfl, hb11⟩
    have HK11 := Lib.hid (HK10.out.up hb11)
    have HB11 := Lib.hid (HB10.out.trans (hb11.mono HB10.out.size))
    clear hb11 HK10 HB10
    have x2 := HK11.out.cells.2.2.1
    have y2 := HK11.out.cells.2.2.2.2.2.2.2.2.1
    dsimp only at x2 y2
    have e1 := str_cut K3 0 E1.length
    simp only [List.drop_zero, Nat.sub_zero] at e1
    rcases HENDS.out with z1 | ⟨z1, z2, z3⟩ | ⟨z1, z2, z3, z4⟩ | ⟨z1, z2, z3, z4, z5⟩ | ⟨z1, z2, z3, z4, z5, z6⟩ | ⟨z1, z2, z3, z4, z5, z6, z7⟩
    case' inr.inl =>
      have e2 := HSAME.out z3
      subst z3
      subst e2
      obtain ⟨c3, hc3⟩ : ∃ c3, (K3 == ([] : List UInt8)) = c3 := ⟨_, rfl⟩
      cases c3
    all_goals
      go_wp2_with fail
      go_ret
      exact ⟨rfl, HB11.out⟩
theorem kapart_walk (p q : Pa) (w : World) (hp : LenOk p) (hq : LenOk q) :
    Calls Tryd.prog 5 #[pa p, pa q] w fun e w' => e = .returned (.bool true) ∧ Below w.heap.size w w' := by
  obtain ⟨pk, pu, pf, pn, pg, pi⟩ := p
  obtain ⟨qk, qu, qf, qn, qg, qi⟩ := q
  obtain ⟨s1, r1⟩ : ∃ s, wrap64 ((pu.length : Int) + (pf.length : Int)) = s := ⟨_, rfl⟩
  obtain ⟨s2, r2⟩ : ∃ s, wrap64 (s1 + (pn.length : Int)) = s := ⟨_, rfl⟩
  obtain ⟨s3, r3⟩ : ∃ s, wrap64 (s2 + (pg.length : Int)) = s := ⟨_, rfl⟩
  obtain ⟨s4, r4⟩ : ∃ s, wrap64 ((qu.length : Int) + (qf.length : Int)) = s := ⟨_, rfl⟩
  obtain ⟨s5, r5⟩ : ∃ s, wrap64 (s4 + (qn.length : Int)) = s := ⟨_, rfl⟩
  obtain ⟨s6, r6⟩ : ∃ s, wrap64 (s5 + (qg.length : Int)) = s := ⟨_, rfl⟩
  by_cases g1 : 3000 < s3
  · exact kapart_no pk pu pf pn pg pi qk qu qf qn qg qi w s1 s2 s3 s4 s5 s6 r1 r2 r3 r4 r5 r6 (.inl g1)
  by_cases g2 : 3000 < s6
  · exact kapart_no pk pu pf pn pg pi qk qu qf qn qg qi w s1 s2 s3 s4 s5 s6 r1 r2 r3 r4 r5 r6 (.inr ⟨g1, g2⟩)
  exact kapart_yes pk pu pf pn pg pi qk qu qf qn qg qi w hp hq s1 s2 s3 s4 s5 s6 r1 r2 r3 r4 r5 r6 g1 g2
end Go.Proofs.YtonkfekjhbfelaaDoor
