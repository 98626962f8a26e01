/- TokenReads: the walk. -/
import Derived.Test.YtfibplegbaanmaaDoorRTParse
import Derived.Test.YtfibplegbaanmaaDoorTokBack
import Derived.Test.YtfibplegbaanmaaDoorApart
namespace Go.Proofs.YtfibplegbaanmaaDoor
open Go.RowKit

theorem tparse_same (s : List UInt8) (hl : s.length ≤ 3000) : ∃ (u k : List UInt8) (f t ec : Int),
    (∀ W, Tab W → Calls Tryd.prog 10 #[str s] W fun e w' => e = .returned (.tuple #[tok u f t k, .int .i64 ec]) ∧ Below W.heap.size W w') ∧
    (∀ W, Calls Tryd.prog 11 #[str s] W fun e w' => e = .returned (.tuple #[tok u f t k, .int .i64 ec]) ∧ Below W.heap.size W w') := by
  by_cases h : ∃ (u k : List UInt8) (f t : Nat), mayB u (f : Int) (t : Int) k = true ∧ textT u f t k = s
  · obtain ⟨u, k, f, t, hm, hs⟩ := h
    refine ⟨u, k, (f : Int), (t : Int), 0, fun W hT => ?_, fun W => ?_⟩
    · have := parse_told u k (f : Int) (t : Int) W hm hT
      simp only [Int.toNat_natCast] at this
      rw [hs] at this
      exact this
    · refine (tparse_any s W hl).mono ?_
      rintro e w' ⟨⟨u2, k2, f2, t2, hm2, hs2, rfl⟩ | ⟨hno, _⟩, hb⟩
      · obtain ⟨b1, b2, b3, b4, b5, b6, b7⟩ := mayB_bounds hm
        obtain ⟨c1, c2, c3, c4, c5, c6, c7⟩ := mayB_bounds hm2
        obtain ⟨rfl, rfl, rfl, rfl⟩ := text_inj (by omega) (by omega) (by omega) (by omega) (by omega) (by omega) (by omega) (by omega) (hs2.trans hs.symm)
        exact ⟨rfl, hb⟩
      · exact absurd hs (hno u k f t hm)
  · refine ⟨[], [], 0, 0, 14, fun W hT => parse_none s W (by omega) hT (fun u k f t hm hs => h ⟨u, k, f, t, hm, hs⟩), fun W => ?_⟩
    refine (tparse_any s W hl).mono ?_
    rintro e w' ⟨⟨u2, k2, f2, t2, hm2, hs2, rfl⟩ | ⟨_, he⟩, hb⟩
    · exact absurd ⟨u2, k2, f2, t2, hm2, hs2⟩ h
    · exact ⟨he, hb⟩
/-- Three boxes. -/
def T3 (w wr : World) (bx bY : Nat) (u k xu xk : List UInt8) (f t xf xt : Int) : Prop := TK wr w.heap.size u f t k ∧ TK wr bx xu xf xt xk ∧ TK wr bY xu xf xt xk ∧ Below w.heap.size w wr
theorem T3.up {w W W' : World} {bx bY : Nat} {u k xu xk : List UInt8} {f t xf xt : Int} (h : T3 w W bx bY u k xu xk f t xf xt) (hb : Below W.heap.size W W') : T3 w W' bx bY u k xu xk f t xf xt :=
  ⟨h.1.below hb h.1.lt, h.2.1.below hb h.2.1.lt, h.2.2.1.below hb h.2.2.1.lt, h.2.2.2.trans (hb.mono h.2.2.2.size)⟩
theorem T3.cells {w W : World} {bx bY : Nat} {u k xu xk : List UInt8} {f t xf xt : Int} (h : T3 w W bx bY u k xu xk f t xf xt) :
    W.cell? ⟨w.heap.size, 0, none⟩ = some (str u) ∧ W.cell? ⟨w.heap.size, 1, none⟩ = some (.int .i64 f) ∧ W.cell? ⟨w.heap.size, 2, none⟩ = some (.int .i64 t) ∧ W.cell? ⟨w.heap.size, 3, none⟩ = some (str k) ∧
    W.cell? ⟨bx, 0, none⟩ = some (str xu) ∧ W.cell? ⟨bx, 1, none⟩ = some (.int .i64 xf) ∧ W.cell? ⟨bx, 2, none⟩ = some (.int .i64 xt) ∧ W.cell? ⟨bx, 3, none⟩ = some (str xk) ∧
    W.cell? ⟨bY, 0, none⟩ = some (str xu) ∧ W.cell? ⟨bY, 1, none⟩ = some (.int .i64 xf) ∧ W.cell? ⟨bY, 2, none⟩ = some (.int .i64 xt) ∧ W.cell? ⟨bY, 3, none⟩ = some (str xk) :=
  ⟨h.1.c0, h.1.c1, h.1.c2, h.1.c3, h.2.1.c0, h.2.1.c1, h.2.1.c2, h.2.1.c3, h.2.2.1.c0, h.2.2.1.c1, h.2.2.1.c2, h.2.2.1.c3⟩
theorem treads_no (u k s : List UInt8) (f t : Int) (w : World) (hT : Tab w)
    (hno : 3000 < (u.length : Int) ∨ (¬ 3000 < (u.length : Int) ∧ 3000 < (k.length : Int)) ∨ (¬ 3000 < (u.length : Int) ∧ ¬ 3000 < (k.length : Int) ∧ 3000 < (s.length : Int))) :
    Calls Tryd.prog 3 #[tok u f t k, str s] w fun e w' => e = .returned (.bool true) ∧ Below w.heap.size w w' := by
  have HTab := Lib.hid hT
  have HK := Lib.hid (TK.made w u k f t 23)
  have HB := Lib.hid (below_alloc w (.cells #[str u, .int .i64 f, .int .i64 t, str k] 23))
  clear hT
  rcases hno with g1 | ⟨g1, g2⟩ | ⟨g1, g2, g3⟩
  all_goals
    go_enter Tryd.func3, Tryd.ntmps3
    go_wp2_with fail
    refine (kfirst_any _ (HTab.out.below HB.out (Nat.le_refl _))).mono ?_
    rintro e w1 ⟨rfl, hb1⟩
    have x0 := (HK.out.below hb1 HK.out.lt).c0
    have x3 := (HK.out.below hb1 HK.out.lt).c3
    have HB1 := Lib.hid (HB.out.trans (hb1.mono HB.out.size))
    clear hb1
    go_wp2_with fail
    refine (kfirst_any _ (HTab.out.below HB1.out (Nat.le_refl _))).mono ?_
    rintro e w2 ⟨rfl, hb2⟩
    have HB2 := Lib.hid (HB1.out.trans (hb2.mono HB1.out.size))
    clear hb2
    go_wp2_with fail
    go_ret
    exact ⟨rfl, HB2.out⟩
set_option maxRecDepth 100000 in
set_option maxHeartbeats 8000000 in
theorem treads_yes (u k s : List UInt8) (f t : Int) (w : World) (hT : Tab w) (hf : -9223372036854775808 ≤ f ∧ f ≤ 9223372036854775807) (ht : -9223372036854775808 ≤ t ∧ t ≤ 9223372036854775807)
    (g1 : ¬ 3000 < (u.length : Int)) (g2 : ¬ 3000 < (k.length : Int)) (g3 : ¬ 3000 < (s.length : Int)) :
    Calls Tryd.prog 3 #[tok u f t k, str s] w fun e w' => e = .returned (.bool true) ∧ Below w.heap.size w w' := by
  have HTab := Lib.hid hT
  have HK := Lib.hid (TK.made w u k f t 23)
  have HB := Lib.hid (below_alloc w (.cells #[str u, .int .i64 f, .int .i64 t, str k] 23))
  have E1 := printE_eq u k f t
  have P1 := fun W h => print_any u k f t W (by omega) (by omega) hf ht h
  have P2 := fun W => tprint_any u k f t W (by omega) (by omega) hf ht
  have M1 := fun W => may_any u k f t W (by omega) (by omega) hf ht
  have M2 := fun W => tmay_any u k f t W (by omega) (by omega) hf ht
  obtain ⟨M, hM⟩ : ∃ M, M = mayB u f t k := ⟨_, rfl⟩
  rw [← hM] at M1 M2
  obtain ⟨S, hS⟩ : ∃ S, S = tokT u k f t := ⟨_, rfl⟩
  obtain ⟨N, hN⟩ : ∃ N, N = tokN u k f t := ⟨_, rfl⟩
  rw [← hS, ← hN] at E1
  rw [E1] at P1 P2
  replace P1 := Lib.hid P1
  replace P2 := Lib.hid P2
  replace M1 := Lib.hid M1
  replace M2 := Lib.hid M2
  have L1 := Lib.hid (fun W => plain_any u k f t W)
  obtain ⟨xu, xk, xf, xt, ec, CX, CY⟩ := tparse_same s (by omega)
  replace CX := Lib.hid CX
  replace CY := Lib.hid CY
  have LX := Lib.hid (fun W => plain_any xu xk xf xt W)
  have heq : ∀ W, (binOp .eql 28 (tok xu xf xt xk) (tok xu xf xt xk)).run Tryd.prog W = .ok (.bool true) W := fun W => by rw [tok_eql]; simp
  clear hT hM hS hN E1 hf ht
  go_enter Tryd.func3, Tryd.ntmps3
  go_wp2_with fail
  refine (kfirst_any _ (HTab.out.below HB.out (Nat.le_refl _))).mono ?_
  rintro e w1 ⟨rfl, hb1⟩
  have HK1 := Lib.hid (HK.out.below hb1 HK.out.lt)
  have HB1 := Lib.hid (HB.out.trans (hb1.mono HB.out.size))
  have x0 := HK1.out.c0
  have x1 := HK1.out.c1
  have x2 := HK1.out.c2
  have x3 := HK1.out.c3
  clear hb1 HK HB
  go_wp2_with fail
  clear g1 g2 g3
  refine (P1.out _ (HTab.out.below HB1.out (Nat.le_refl _))).mono ?_
  rintro e w2 ⟨rfl, hb2⟩
  have HK2 := Lib.hid (HK1.out.below hb2 HK1.out.lt)
  have HB2 := Lib.hid (HB1.out.trans (hb2.mono HB1.out.size))
  clear hb2 HK1 HB1 x0 x1 x2 x3
  have x0 := HK2.out.c0
  have x1 := HK2.out.c1
  have x2 := HK2.out.c2
  have x3 := HK2.out.c3
  go_wp2_with fail
  refine (L1.out _).mono ?_
  rintro e w3 ⟨rfl, hb3⟩
  have HK3 := Lib.hid (HK2.out.below hb3 HK2.out.lt)
  have HB3 := Lib.hid (HB2.out.trans (hb3.mono HB2.out.size))
  clear hb3 HK2 HB2 x0 x1 x2 x3
  go_wp2_with fail
  refine (P2.out _).mono ?_
  rintro e w4 ⟨rfl, hb4⟩
  have HK4 := Lib.hid (HK3.out.below hb4 HK3.out.lt)
  have HB4 := Lib.hid (HB3.out.trans (hb4.mono HB3.out.size))
  clear hb4 HK3 HB3
  go_wp2_with fail
  refine (CX.out _ (HTab.out.below HB4.out (Nat.le_refl _))).mono ?_
  rintro e w5 ⟨rfl, hb5⟩
  have HK5 := Lib.hid ((HK4.out.below hb5 HK4.out.lt).below (below_alloc w5 (.cells #[str xu, .int .i64 xf, .int .i64 xt, str xk] 23)) (HK4.out.below hb5 HK4.out.lt).lt)
  have HX := Lib.hid (TK.made w5 xu xk xf xt 23)
  have HB5 := Lib.hid ((HB4.out.trans (hb5.mono HB4.out.size)).alloc (HB4.out.trans (hb5.mono HB4.out.size)).size (.cells #[str xu, .int .i64 xf, .int .i64 xt, str xk] 23))
  clear hb5 HK4 HB4 CX
  go_wp2_with fail
  refine (CY.out _).mono ?_
  rintro e w6 ⟨rfl, hb6⟩
  have a5 := HK5.out.below hb6 HK5.out.lt
  have aX := HX.out.below hb6 HX.out.lt
  have aB := HB5.out.trans (hb6.mono HB5.out.size)
  have H3 := Lib.hid (show T3 w (w6.alloc (.cells #[str xu, .int .i64 xf, .int .i64 xt, str xk] 28)) w5.heap.size w6.heap.size u k xu xk f t xf xt from
    ⟨a5.below (below_alloc w6 _) a5.lt, aX.below (below_alloc w6 _) aX.lt, TK.made w6 xu xk xf xt 28, aB.alloc aB.size _⟩)
  clear a5 aX aB hb6 HK5 HX HB5 CY
  obtain ⟨bx, hbx⟩ : ∃ b, b = w5.heap.size := ⟨_, rfl⟩
  obtain ⟨bY, hbY⟩ : ∃ b, b = w6.heap.size := ⟨_, rfl⟩
  obtain ⟨W9, hW9⟩ : ∃ W, W = w6.alloc (.cells #[str xu, .int .i64 xf, .int .i64 xt, str xk] 28) := ⟨_, rfl⟩
  rw [← hW9, ← hbx, ← hbY] at H3
  go_wp2_with fail
  simp only [← hW9, ← hbx, ← hbY]
  clear hW9 hbx hbY
  have HD := Lib.hid (show T3 w W9.drew bx bY u k xu xk f t xf xt from ⟨H3.out.1, H3.out.2.1, H3.out.2.2.1, Below.drewsN H3.out.2.2.2 1⟩)
  have TD := Lib.hid (HTab.out.below HD.out.2.2.2 (Nat.le_refl _))
  clear H3
  go_region_held3 (fun W => W.cell? ⟨w.heap.size, 0, none⟩ = some (str u) ∧ W.cell? ⟨w.heap.size, 1, none⟩ = some (.int .i64 f) ∧ W.cell? ⟨w.heap.size, 2, none⟩ = some (.int .i64 t) ∧ W.cell? ⟨w.heap.size, 3, none⟩ = some (str k) ∧
    W.cell? ⟨bx, 0, none⟩ = some (str xu) ∧ W.cell? ⟨bx, 1, none⟩ = some (.int .i64 xf) ∧ W.cell? ⟨bx, 2, none⟩ = some (.int .i64 xt) ∧ W.cell? ⟨bx, 3, none⟩ = some (str xk) ∧
    W.cell? ⟨bY, 0, none⟩ = some (str xu) ∧ W.cell? ⟨bY, 1, none⟩ = some (.int .i64 xf) ∧ W.cell? ⟨bY, 2, none⟩ = some (.int .i64 xt) ∧ W.cell? ⟨bY, 3, none⟩ = some (str xk))
    (first
      | (exact (((((HD.out.up hb4).up hb5).up hb6).up hb7).up hb8).cells)
      | (exact ((((HD.out.up hb4).up hb5).up hb6).up hb7).cells)
      | (exact (((HD.out.up hb4).up hb5).up hb6).cells)
      | (exact ((HD.out.up hb4).up hb5).cells)
      | (exact (HD.out.up hb4).cells)
      | (exact HD.out.cells)
      | go_keep)
    ((first
      | (go_at_call 6
         (with_reducible refine (kfirst_any _ TD.out).mono ?_)
         rintro e w4 ⟨rfl, hb4⟩)
      | (go_at_call 12
         (with_reducible refine (M1.out _).mono ?_)
         rintro e w5 ⟨rfl, hb5⟩)
      | (go_at_call 8
         (with_reducible refine (L1.out _).mono ?_)
         rintro e w6 ⟨rfl, hb6⟩)
      | (go_at_call 13
         (with_reducible refine (M2.out _).mono ?_)
         rintro e w7 ⟨rfl, hb7⟩)
      | (go_at_call 8
         (with_reducible refine (LX.out _).mono ?_)
         rintro e w8 ⟨rfl, hb8⟩)
      | fail))
  have H8 := Lib.hid (((((HD.out.up hb4).up hb5).up hb6).up hb7).up hb8)
  go_wp2_with fail
  go_ret
  exact ⟨rfl, H8.out.2.2.2⟩
theorem treads_walk (u k : List UInt8) (f t : Int) (a : ByteArray) (w : World) (_hu : u.length ≤ 9223372036854775807) (_hk : k.length ≤ 9223372036854775807) (hf : -9223372036854775808 ≤ f ∧ f ≤ 9223372036854775807) (ht : -9223372036854775808 ≤ t ∧ t ≤ 9223372036854775807)
    (ha : a.size ≤ maxLen) (hT : Tab w) :
    Calls Tryd.prog 3 #[tok u f t k, .string a] w fun e w' => e = .returned (.bool true) ∧ Below w.heap.size w w' := by
  obtain ⟨s, rfl⟩ := str_of a
  by_cases g1 : 3000 < (u.length : Int)
  · exact treads_no u k s f t w hT (.inl g1)
  by_cases g2 : 3000 < (k.length : Int)
  · exact treads_no u k s f t w hT (.inr (.inl ⟨g1, g2⟩))
  by_cases g3 : 3000 < (s.length : Int)
  · exact treads_no u k s f t w hT (.inr (.inr ⟨g1, g2, g3⟩))
  exact treads_yes u k s f t w hT hf ht g1 g2 g3
end Go.Proofs.YtfibplegbaanmaaDoor
