/- TokenApart: the walk. -/
import Derived.Test.YtfibplegbaanmaaDoorPlain
import Derived.Deep.RegionHeld3
namespace Go.Proofs.YtfibplegbaanmaaDoor
open Go.RowKit

theorem keep8 {W W' : World} {a b : Nat} {v0 v1 v2 v3 u0 u1 u2 u3 : Value} (h : W.cell? ⟨a, 0, none⟩ = some v0 ∧ W.cell? ⟨a, 1, none⟩ = some v1 ∧ W.cell? ⟨a, 2, none⟩ = some v2 ∧ W.cell? ⟨a, 3, none⟩ = some v3 ∧
      W.cell? ⟨b, 0, none⟩ = some u0 ∧ W.cell? ⟨b, 1, none⟩ = some u1 ∧ W.cell? ⟨b, 2, none⟩ = some u2 ∧ W.cell? ⟨b, 3, none⟩ = some u3) (hb : Below W.heap.size W W') :
    W'.cell? ⟨a, 0, none⟩ = some v0 ∧ W'.cell? ⟨a, 1, none⟩ = some v1 ∧ W'.cell? ⟨a, 2, none⟩ = some v2 ∧ W'.cell? ⟨a, 3, none⟩ = some v3 ∧
      W'.cell? ⟨b, 0, none⟩ = some u0 ∧ W'.cell? ⟨b, 1, none⟩ = some u1 ∧ W'.cell? ⟨b, 2, none⟩ = some u2 ∧ W'.cell? ⟨b, 3, none⟩ = some u3 := by
  obtain ⟨h0, h1, h2, h3, g0, g1, g2, g3⟩ := h
  have la := World.block_lt_of_cell? W _ h0
  have lb := World.block_lt_of_cell? W _ g0
  exact ⟨by rw [hb.cell (p := ⟨a, 0, none⟩) la]; exact h0, by rw [hb.cell (p := ⟨a, 1, none⟩) la]; exact h1, by rw [hb.cell (p := ⟨a, 2, none⟩) la]; exact h2, by rw [hb.cell (p := ⟨a, 3, none⟩) la]; exact h3,
    by rw [hb.cell (p := ⟨b, 0, none⟩) lb]; exact g0, by rw [hb.cell (p := ⟨b, 1, none⟩) lb]; exact g1, by rw [hb.cell (p := ⟨b, 2, none⟩) lb]; exact g2, by rw [hb.cell (p := ⟨b, 3, none⟩) lb]; exact g3⟩
theorem cells8 {W : World} {a b : Nat} {u k u2 k2 : List UInt8} {f t f2 t2 : Int} (h : TK W a u f t k) (g : TK W b u2 f2 t2 k2) : W.cell? ⟨a, 0, none⟩ = some (str u) ∧ W.cell? ⟨a, 1, none⟩ = some (.int .i64 f) ∧ W.cell? ⟨a, 2, none⟩ = some (.int .i64 t) ∧ W.cell? ⟨a, 3, none⟩ = some (str k) ∧
    W.cell? ⟨b, 0, none⟩ = some (str u2) ∧ W.cell? ⟨b, 1, none⟩ = some (.int .i64 f2) ∧ W.cell? ⟨b, 2, none⟩ = some (.int .i64 t2) ∧ W.cell? ⟨b, 3, none⟩ = some (str k2) := ⟨h.c0, h.c1, h.c2, h.c3, g.c0, g.c1, g.c2, g.c3⟩
theorem two_below {W W' : World} {a b : Nat} {u k u2 k2 : List UInt8} {f t f2 t2 : Int} (h : TK W a u f t k ∧ TK W b u2 f2 t2 k2) (hb : Below W.heap.size W W') : TK W' a u f t k ∧ TK W' b u2 f2 t2 k2 := ⟨h.1.below hb h.1.lt, h.2.below hb h.2.lt⟩
theorem cells8' {W : World} {a b : Nat} {u k u2 k2 : List UInt8} {f t f2 t2 : Int} (h : TK W a u f t k ∧ TK W b u2 f2 t2 k2) : W.cell? ⟨a, 0, none⟩ = some (str u) ∧ W.cell? ⟨a, 1, none⟩ = some (.int .i64 f) ∧ W.cell? ⟨a, 2, none⟩ = some (.int .i64 t) ∧ W.cell? ⟨a, 3, none⟩ = some (str k) ∧
    W.cell? ⟨b, 0, none⟩ = some (str u2) ∧ W.cell? ⟨b, 1, none⟩ = some (.int .i64 f2) ∧ W.cell? ⟨b, 2, none⟩ = some (.int .i64 t2) ∧ W.cell? ⟨b, 3, none⟩ = some (str k2) := cells8 h.1 h.2
theorem tok_eql (u k u2 k2 : List UInt8) (f t f2 t2 : Int) (W : World) : (binOp .eql 28 (tok u f t k) (tok u2 f2 t2 k2)).run Tryd.prog W = .ok (.bool (decide (u = u2 ∧ f = f2 ∧ t = t2 ∧ k = k2))) W := by
  have hS : Tryd.prog.underlying 28 = some (.struct (Tryd.prog.fieldsOf 28)) := by kernel_rfl
  have hp : Tryd.prog.stoodInHeld 28 = false := by kernel_rfl
  rw [run_eql_struct, show (10000 : Nat) = 9999 + 1 from rfl, run_equalIn_agg W 9999 28 _ _ hS hp]
  simp only [Program.fieldsOf, Tryd.underlying28]
  go_simp
  by_cases h1 : u = u2 <;> by_cases h2 : f = f2 <;> by_cases h3 : t = t2 <;> by_cases h4 : k = k2 <;> simp [h1, h2, h3, h4]
def tokT (u k : List UInt8) (f t : Int) : List UInt8 := if mayB u f t k = true then textT u f.toNat t.toNat k else []
def tokN (u k : List UInt8) (f t : Int) : Int := if mayB u f t k = true then 0 else 4
theorem printE_eq (u k : List UInt8) (f t : Int) : printE u f t k = .returned (.tuple #[str (tokT u k f t), .int .i64 (tokN u k f t)]) := by
  unfold printE tokT tokN
  split <;> rfl

theorem two_boxes (u k : List UInt8) (f t : Int) (u2 k2 : List UInt8) (f2 t2 : Int) (w : World) :
    Below w.heap.size w ((w.alloc (.cells #[str u, .int .i64 f, .int .i64 t, str k] 23)).alloc (.cells #[str u2, .int .i64 f2, .int .i64 t2, str k2] 23)) ∧
    Hid (TK ((w.alloc (.cells #[str u, .int .i64 f, .int .i64 t, str k] 23)).alloc (.cells #[str u2, .int .i64 f2, .int .i64 t2, str k2] 23)) w.heap.size u f t k) ∧
    Hid (TK ((w.alloc (.cells #[str u, .int .i64 f, .int .i64 t, str k] 23)).alloc (.cells #[str u2, .int .i64 f2, .int .i64 t2, str k2] 23)) (w.heap.size + 1) u2 f2 t2 k2) := by
  have htk1 := TK.made w u k f t 23
  have hA1 := below_alloc w (.cells #[str u, .int .i64 f, .int .i64 t, str k] 23)
  obtain ⟨wa, hwa⟩ : ∃ wa, wa = w.alloc (.cells #[str u, .int .i64 f, .int .i64 t, str k] 23) := ⟨_, rfl⟩
  have hsa : wa.heap.size = w.heap.size + 1 := by rw [hwa]; simp
  have htk2 := TK.made wa u2 k2 f2 t2 23
  have hA2 := below_alloc wa (.cells #[str u2, .int .i64 f2, .int .i64 t2, str k2] 23)
  rw [← hwa] at htk1 hA1 ⊢
  rw [hsa] at htk2
  exact ⟨hA1.trans (hA2.mono hA1.size), Lib.hid (htk1.below hA2 (by omega)), Lib.hid htk2⟩

set_option maxRecDepth 100000 in
set_option maxHeartbeats 12800000 in
theorem apart_no (u k : List UInt8) (f t : Int) (u2 k2 : List UInt8) (f2 t2 : Int) (w : World) (hu : u.length ≤ 9223372036854775807) (hk : k.length ≤ 9223372036854775807) (hf : -9223372036854775808 ≤ f ∧ f ≤ 9223372036854775807) (ht : -9223372036854775808 ≤ t ∧ t ≤ 9223372036854775807)
    (hu2 : u2.length ≤ 9223372036854775807) (hk2 : k2.length ≤ 9223372036854775807) (hf2 : -9223372036854775808 ≤ f2 ∧ f2 ≤ 9223372036854775807) (ht2 : -9223372036854775808 ≤ t2 ∧ t2 ≤ 9223372036854775807) (hT : Tab w) (hno : 3000 < IntKind.i64.wrap ((u.length : Int) + (k.length : Int)) ∨ 3000 < IntKind.i64.wrap ((u2.length : Int) + (k2.length : Int)) ∨ mayB u f t k = false ∨ mayB u2 f2 t2 k2 = false) :
    Calls Tryd.prog 5 #[tok u f t k, tok u2 f2 t2 k2] w fun e w' => e = .returned (.bool true) ∧ Below w.heap.size w w' := by
  have HTab := Lib.hid hT
  have P1 := Lib.hid (fun W h => print_any u k f t W hu hk hf ht h)
  have P2 := Lib.hid (fun W h => print_any u2 k2 f2 t2 W hu2 hk2 hf2 ht2 h)
  have M1 := Lib.hid (fun W => may_any u k f t W hu hk hf ht)
  have M2 := Lib.hid (fun W => may_any u2 k2 f2 t2 W hu2 hk2 hf2 ht2)
  obtain ⟨hA, HK1, HK2⟩ := two_boxes u k f t u2 k2 f2 t2 w
  obtain ⟨s1, hs1⟩ : ∃ s1, IntKind.i64.wrap ((u.length : Int) + (k.length : Int)) = s1 := ⟨_, rfl⟩
  obtain ⟨s2, hs2⟩ : ∃ s2, IntKind.i64.wrap ((u2.length : Int) + (k2.length : Int)) = s2 := ⟨_, rfl⟩
  have E1 := Lib.hid (printE_eq u k f t)
  have E2 := Lib.hid (printE_eq u2 k2 f2 t2)
  clear hT
  rw [hs1, hs2] at hno
  have key : (3000 < s1) ∨ (¬ 3000 < s1 ∧ 3000 < s2) ∨ (¬ 3000 < s1 ∧ ¬ 3000 < s2 ∧ mayB u f t k = false) ∨ (¬ 3000 < s1 ∧ ¬ 3000 < s2 ∧ mayB u f t k = true ∧ mayB u2 f2 t2 k2 = false) := by
    by_cases h1 : 3000 < s1
    · exact .inl h1
    by_cases h2 : 3000 < s2
    · exact .inr (.inl ⟨h1, h2⟩)
    cases h3 : mayB u f t k
    · exact .inr (.inr (.inl ⟨h1, h2, rfl⟩))
    · rcases hno with h | h | h | h
      · exact absurd h h1
      · exact absurd h h2
      · rw [h3] at h; cases h
      · exact .inr (.inr (.inr ⟨h1, h2, rfl, h⟩))
  clear hno
  rcases key with k1 | ⟨k1, k3⟩ | ⟨k1, k3, hm⟩ | ⟨k1, k3, hm, hm2⟩
  · go_enter Tryd.func5, Tryd.ntmps5
    go_wp2_with fail
    refine (kfirst_any _ (HTab.out.below hA (Nat.le_refl _))).mono ?_
    rintro e w1 ⟨rfl, hb1⟩
    have K1 := HK1.out.below hb1 HK1.out.lt
    have K2 := HK2.out.below hb1 HK2.out.lt
    have hW1 := hA.trans (hb1.mono hA.size)
    clear hb1
    have x0 := K1.c0
    have x1 := K1.c1
    have x2 := K1.c2
    have x3 := K1.c3
    have y0 := K2.c0
    have y1 := K2.c1
    have y2 := K2.c2
    have y3 := K2.c3
    have HK1' := Lib.hid K1
    have HK2' := Lib.hid K2
    clear K1 K2
    go_wp2_with fail
    refine (kfirst_any _ (HTab.out.below hW1 (Nat.le_refl _))).mono ?_
    rintro e w9 ⟨rfl, hb9⟩
    go_wp2_with fail
    go_ret
    exact ⟨rfl, hW1.trans (hb9.mono hW1.size)⟩
  · go_enter Tryd.func5, Tryd.ntmps5
    go_wp2_with fail
    refine (kfirst_any _ (HTab.out.below hA (Nat.le_refl _))).mono ?_
    rintro e w1 ⟨rfl, hb1⟩
    have K1 := HK1.out.below hb1 HK1.out.lt
    have K2 := HK2.out.below hb1 HK2.out.lt
    have hW1 := hA.trans (hb1.mono hA.size)
    clear hb1
    have x0 := K1.c0
    have x1 := K1.c1
    have x2 := K1.c2
    have x3 := K1.c3
    have y0 := K2.c0
    have y1 := K2.c1
    have y2 := K2.c2
    have y3 := K2.c3
    have HK1' := Lib.hid K1
    have HK2' := Lib.hid K2
    clear K1 K2
    go_wp2_with fail
    refine (kfirst_any _ (HTab.out.below hW1 (Nat.le_refl _))).mono ?_
    rintro e w9 ⟨rfl, hb9⟩
    go_wp2_with fail
    go_ret
    exact ⟨rfl, hW1.trans (hb9.mono hW1.size)⟩
  · cases hm2 : mayB u2 f2 t2 k2
    · have n1 : tokN u k f t = 4 := by rw [tokN, hm]; rfl
      have n2 : tokN u2 k2 f2 t2 = 4 := by rw [tokN, hm2]; rfl
      have H1 := Lib.hid hm
      have H2 := Lib.hid hm2
      clear hm hm2
      go_enter Tryd.func5, Tryd.ntmps5
      go_wp2_with fail
      refine (kfirst_any _ (HTab.out.below hA (Nat.le_refl _))).mono ?_
      rintro e w1 ⟨rfl, hb1⟩
      have K1 := HK1.out.below hb1 HK1.out.lt
      have K2 := HK2.out.below hb1 HK2.out.lt
      have hW1 := hA.trans (hb1.mono hA.size)
      clear hb1
      have x0 := K1.c0
      have x1 := K1.c1
      have x2 := K1.c2
      have x3 := K1.c3
      have y0 := K2.c0
      have y1 := K2.c1
      have y2 := K2.c2
      have y3 := K2.c3
      have HK1' := Lib.hid K1
      have HK2' := Lib.hid K2
      clear K1 K2
      go_wp2_with fail
      refine (P1.out _ (HTab.out.below hW1 (Nat.le_refl _))).mono ?_
      rintro e w2 ⟨rfl, hb2⟩
      rw [E1.out]
      have K1 := HK1'.out.below hb2 HK1'.out.lt
      have K2 := HK2'.out.below hb2 HK2'.out.lt
      have hW2 := hW1.trans (hb2.mono hW1.size)
      clear hb2 x0 x1 x2 x3 y0 y1 y2 y3 HK1' HK2'
      have x0 := K1.c0
      have x1 := K1.c1
      have x2 := K1.c2
      have x3 := K1.c3
      have y0 := K2.c0
      have y1 := K2.c1
      have y2 := K2.c2
      have y3 := K2.c3
      have HK1' := Lib.hid K1
      have HK2' := Lib.hid K2
      clear K1 K2
      go_wp2_with fail
      refine (P2.out _ (HTab.out.below hW2 (Nat.le_refl _))).mono ?_
      rintro e w3 ⟨rfl, hb3⟩
      rw [E2.out]
      have K1 := HK1'.out.below hb3 HK1'.out.lt
      have K2 := HK2'.out.below hb3 HK2'.out.lt
      have hW3 := hW2.trans (hb3.mono hW2.size)
      clear hb3 x0 x1 x2 x3 y0 y1 y2 y3 HK1' HK2'
      have x0 := K1.c0
      have x1 := K1.c1
      have x2 := K1.c2
      have x3 := K1.c3
      have y0 := K2.c0
      have y1 := K2.c1
      have y2 := K2.c2
      have y3 := K2.c3
      have HK1' := Lib.hid K1
      have HK2' := Lib.hid K2
      clear K1 K2
      go_wp2_with fail
      refine (kfirst_any _ (HTab.out.below hW3 (Nat.le_refl _))).mono ?_
      rintro e w9 ⟨rfl, hb9⟩
      have K1 := HK1'.out.below hb9 HK1'.out.lt
      have K2 := HK2'.out.below hb9 HK2'.out.lt
      have hW4 := hW3.trans (hb9.mono hW3.size)
      clear hb9 x0 x1 x2 x3 y0 y1 y2 y3 HK1' HK2'
      have x0 := K1.c0
      have x1 := K1.c1
      have x2 := K1.c2
      have x3 := K1.c3
      have y0 := K2.c0
      have y1 := K2.c1
      have y2 := K2.c2
      have y3 := K2.c3
      have HK1' := Lib.hid K1
      have HK2' := Lib.hid K2
      clear K1 K2
      go_wp2_with fail
      refine (M1.out _).mono ?_
      rintro e w5 ⟨rfl, hb5⟩
      rw [H1.out]
      have K1 := HK1'.out.below hb5 HK1'.out.lt
      have K2 := HK2'.out.below hb5 HK2'.out.lt
      have hW5 := hW4.trans (hb5.mono hW4.size)
      clear hb5 x0 x1 x2 x3 y0 y1 y2 y3 HK1' HK2'
      have x0 := K1.c0
      have x1 := K1.c1
      have x2 := K1.c2
      have x3 := K1.c3
      have y0 := K2.c0
      have y1 := K2.c1
      have y2 := K2.c2
      have y3 := K2.c3
      have HK1' := Lib.hid K1
      have HK2' := Lib.hid K2
      clear K1 K2
      go_wp2_with fail
      refine (M2.out _).mono ?_
      rintro e w6 ⟨rfl, hb6⟩
      rw [H2.out]
      go_wp2_with fail
      go_ret
      exact ⟨rfl, hW5.trans (hb6.mono hW5.size)⟩
    · have n1 : tokN u k f t = 4 := by rw [tokN, hm]; rfl
      have n2 : tokN u2 k2 f2 t2 = 0 := by rw [tokN, hm2]; rfl
      have H1 := Lib.hid hm
      clear hm hm2
      go_enter Tryd.func5, Tryd.ntmps5
      go_wp2_with fail
      refine (kfirst_any _ (HTab.out.below hA (Nat.le_refl _))).mono ?_
      rintro e w1 ⟨rfl, hb1⟩
      have K1 := HK1.out.below hb1 HK1.out.lt
      have K2 := HK2.out.below hb1 HK2.out.lt
      have hW1 := hA.trans (hb1.mono hA.size)
      clear hb1
      have x0 := K1.c0
      have x1 := K1.c1
      have x2 := K1.c2
      have x3 := K1.c3
      have y0 := K2.c0
      have y1 := K2.c1
      have y2 := K2.c2
      have y3 := K2.c3
      have HK1' := Lib.hid K1
      have HK2' := Lib.hid K2
      clear K1 K2
      go_wp2_with fail
      refine (P1.out _ (HTab.out.below hW1 (Nat.le_refl _))).mono ?_
      rintro e w2 ⟨rfl, hb2⟩
      rw [E1.out]
      have K1 := HK1'.out.below hb2 HK1'.out.lt
      have K2 := HK2'.out.below hb2 HK2'.out.lt
      have hW2 := hW1.trans (hb2.mono hW1.size)
      clear hb2 x0 x1 x2 x3 y0 y1 y2 y3 HK1' HK2'
      have x0 := K1.c0
      have x1 := K1.c1
      have x2 := K1.c2
      have x3 := K1.c3
      have y0 := K2.c0
      have y1 := K2.c1
      have y2 := K2.c2
      have y3 := K2.c3
      have HK1' := Lib.hid K1
      have HK2' := Lib.hid K2
      clear K1 K2
      go_wp2_with fail
      refine (P2.out _ (HTab.out.below hW2 (Nat.le_refl _))).mono ?_
      rintro e w3 ⟨rfl, hb3⟩
      rw [E2.out]
      have K1 := HK1'.out.below hb3 HK1'.out.lt
      have K2 := HK2'.out.below hb3 HK2'.out.lt
      have hW3 := hW2.trans (hb3.mono hW2.size)
      clear hb3 x0 x1 x2 x3 y0 y1 y2 y3 HK1' HK2'
      have x0 := K1.c0
      have x1 := K1.c1
      have x2 := K1.c2
      have x3 := K1.c3
      have y0 := K2.c0
      have y1 := K2.c1
      have y2 := K2.c2
      have y3 := K2.c3
      have HK1' := Lib.hid K1
      have HK2' := Lib.hid K2
      clear K1 K2
      go_wp2_with fail
      refine (kfirst_any _ (HTab.out.below hW3 (Nat.le_refl _))).mono ?_
      rintro e w9 ⟨rfl, hb9⟩
      have K1 := HK1'.out.below hb9 HK1'.out.lt
      have K2 := HK2'.out.below hb9 HK2'.out.lt
      have hW4 := hW3.trans (hb9.mono hW3.size)
      clear hb9 x0 x1 x2 x3 y0 y1 y2 y3 HK1' HK2'
      have x0 := K1.c0
      have x1 := K1.c1
      have x2 := K1.c2
      have x3 := K1.c3
      have y0 := K2.c0
      have y1 := K2.c1
      have y2 := K2.c2
      have y3 := K2.c3
      have HK1' := Lib.hid K1
      have HK2' := Lib.hid K2
      clear K1 K2
      go_wp2_with fail
      refine (M1.out _).mono ?_
      rintro e w5 ⟨rfl, hb5⟩
      rw [H1.out]
      have K1 := HK1'.out.below hb5 HK1'.out.lt
      have K2 := HK2'.out.below hb5 HK2'.out.lt
      have hW5 := hW4.trans (hb5.mono hW4.size)
      clear hb5 x0 x1 x2 x3 y0 y1 y2 y3 HK1' HK2'
      have x0 := K1.c0
      have x1 := K1.c1
      have x2 := K1.c2
      have x3 := K1.c3
      have y0 := K2.c0
      have y1 := K2.c1
      have y2 := K2.c2
      have y3 := K2.c3
      have HK1' := Lib.hid K1
      have HK2' := Lib.hid K2
      clear K1 K2
      go_wp2_with fail
      go_ret
      exact ⟨rfl, hW5⟩
  · have n1 : tokN u k f t = 0 := by rw [tokN, hm]; rfl
    have n2 : tokN u2 k2 f2 t2 = 4 := by rw [tokN, hm2]; rfl
    have H2 := Lib.hid hm2
    clear hm hm2
    go_enter Tryd.func5, Tryd.ntmps5
    go_wp2_with fail
    refine (kfirst_any _ (HTab.out.below hA (Nat.le_refl _))).mono ?_
    rintro e w1 ⟨rfl, hb1⟩
    have K1 := HK1.out.below hb1 HK1.out.lt
    have K2 := HK2.out.below hb1 HK2.out.lt
    have hW1 := hA.trans (hb1.mono hA.size)
    clear hb1
    have x0 := K1.c0
    have x1 := K1.c1
    have x2 := K1.c2
    have x3 := K1.c3
    have y0 := K2.c0
    have y1 := K2.c1
    have y2 := K2.c2
    have y3 := K2.c3
    have HK1' := Lib.hid K1
    have HK2' := Lib.hid K2
    clear K1 K2
    go_wp2_with fail
    refine (P1.out _ (HTab.out.below hW1 (Nat.le_refl _))).mono ?_
    rintro e w2 ⟨rfl, hb2⟩
    rw [E1.out]
    have K1 := HK1'.out.below hb2 HK1'.out.lt
    have K2 := HK2'.out.below hb2 HK2'.out.lt
    have hW2 := hW1.trans (hb2.mono hW1.size)
    clear hb2 x0 x1 x2 x3 y0 y1 y2 y3 HK1' HK2'
    have x0 := K1.c0
    have x1 := K1.c1
    have x2 := K1.c2
    have x3 := K1.c3
    have y0 := K2.c0
    have y1 := K2.c1
    have y2 := K2.c2
    have y3 := K2.c3
    have HK1' := Lib.hid K1
    have HK2' := Lib.hid K2
    clear K1 K2
    go_wp2_with fail
    refine (P2.out _ (HTab.out.below hW2 (Nat.le_refl _))).mono ?_
    rintro e w3 ⟨rfl, hb3⟩
    rw [E2.out]
    have K1 := HK1'.out.below hb3 HK1'.out.lt
    have K2 := HK2'.out.below hb3 HK2'.out.lt
    have hW3 := hW2.trans (hb3.mono hW2.size)
    clear hb3 x0 x1 x2 x3 y0 y1 y2 y3 HK1' HK2'
    have x0 := K1.c0
    have x1 := K1.c1
    have x2 := K1.c2
    have x3 := K1.c3
    have y0 := K2.c0
    have y1 := K2.c1
    have y2 := K2.c2
    have y3 := K2.c3
    have HK1' := Lib.hid K1
    have HK2' := Lib.hid K2
    clear K1 K2
    go_wp2_with fail
    refine (kfirst_any _ (HTab.out.below hW3 (Nat.le_refl _))).mono ?_
    rintro e w9 ⟨rfl, hb9⟩
    have K1 := HK1'.out.below hb9 HK1'.out.lt
    have K2 := HK2'.out.below hb9 HK2'.out.lt
    have hW4 := hW3.trans (hb9.mono hW3.size)
    clear hb9 x0 x1 x2 x3 y0 y1 y2 y3 HK1' HK2'
    have x0 := K1.c0
    have x1 := K1.c1
    have x2 := K1.c2
    have x3 := K1.c3
    have y0 := K2.c0
    have y1 := K2.c1
    have y2 := K2.c2
    have y3 := K2.c3
    have HK1' := Lib.hid K1
    have HK2' := Lib.hid K2
    clear K1 K2
    go_wp2_with fail
    refine (M2.out _).mono ?_
    rintro e w6 ⟨rfl, hb6⟩
    rw [H2.out]
    go_wp2_with fail
    go_ret
    exact ⟨rfl, hW4.trans (hb6.mono hW4.size)⟩

set_option maxRecDepth 100000 in
set_option maxHeartbeats 12800000 in
theorem apart_yes (u k : List UInt8) (f t : Int) (u2 k2 : List UInt8) (f2 t2 : Int) (w : World) (hu : u.length ≤ 9223372036854775807) (hk : k.length ≤ 9223372036854775807) (hf : -9223372036854775808 ≤ f ∧ f ≤ 9223372036854775807) (ht : -9223372036854775808 ≤ t ∧ t ≤ 9223372036854775807)
    (hu2 : u2.length ≤ 9223372036854775807) (hk2 : k2.length ≤ 9223372036854775807) (hf2 : -9223372036854775808 ≤ f2 ∧ f2 ≤ 9223372036854775807) (ht2 : -9223372036854775808 ≤ t2 ∧ t2 ≤ 9223372036854775807) (hT : Tab w) (k1 : ¬ 3000 < IntKind.i64.wrap ((u.length : Int) + (k.length : Int))) (k3 : ¬ 3000 < IntKind.i64.wrap ((u2.length : Int) + (k2.length : Int))) (hm : mayB u f t k = true) (hm2 : mayB u2 f2 t2 k2 = true) :
    Calls Tryd.prog 5 #[tok u f t k, tok u2 f2 t2 k2] w fun e w' => e = .returned (.bool true) ∧ Below w.heap.size w w' := by
  have HTab := Lib.hid hT
  have P1 := Lib.hid (fun W h => print_any u k f t W hu hk hf ht h)
  have P2 := Lib.hid (fun W h => print_any u2 k2 f2 t2 W hu2 hk2 hf2 ht2 h)
  have M1 := Lib.hid (fun W => may_any u k f t W hu hk hf ht)
  have M2 := Lib.hid (fun W => may_any u2 k2 f2 t2 W hu2 hk2 hf2 ht2)
  obtain ⟨hA, HK1, HK2⟩ := two_boxes u k f t u2 k2 f2 t2 w
  obtain ⟨s1, hs1⟩ : ∃ s1, IntKind.i64.wrap ((u.length : Int) + (k.length : Int)) = s1 := ⟨_, rfl⟩
  obtain ⟨s2, hs2⟩ : ∃ s2, IntKind.i64.wrap ((u2.length : Int) + (k2.length : Int)) = s2 := ⟨_, rfl⟩
  have E1 := Lib.hid (printE_eq u k f t)
  have E2 := Lib.hid (printE_eq u2 k2 f2 t2)
  clear hT
  rw [hs1] at k1
  rw [hs2] at k3
  have n1 : tokN u k f t = 0 := by rw [tokN, hm]; rfl
  have n2 : tokN u2 k2 f2 t2 = 0 := by rw [tokN, hm2]; rfl
  have t1 : tokT u k f t = textT u f.toNat t.toNat k := by rw [tokT, hm]; rfl
  have t3 : tokT u2 k2 f2 t2 = textT u2 f2.toNat t2.toNat k2 := by rw [tokT, hm2]; rfl
  obtain ⟨p1, p2, p3, p4, p5, p6, p7⟩ := mayB_bounds hm
  obtain ⟨q1, q2, q3, q4, q5, q6, q7⟩ := mayB_bounds hm2
  obtain ⟨X, hX⟩ : ∃ X, X = tokT u k f t := ⟨_, rfl⟩
  obtain ⟨Y, hY⟩ : ∃ Y, Y = tokT u2 k2 f2 t2 := ⟨_, rfl⟩
  have hinj : X = Y → u = u2 ∧ f = f2 ∧ t = t2 ∧ k = k2 := fun h => by
    rw [hX, hY, t1, t3] at h
    obtain ⟨e1, e2, e3, e4⟩ := text_inj (by omega) (by omega) (by omega) (by omega) (by omega) (by omega) (by omega) (by omega) h
    exact ⟨e1, by omega, by omega, e4⟩
  have hback : u = u2 ∧ f = f2 ∧ t = t2 ∧ k = k2 → X = Y := fun ⟨h1, h2, h3, h4⟩ => by rw [hX, hY, h1, h2, h3, h4]
  have hdig : ∀ c ∈ X, (48 ≤ c.toNat ∧ c.toNat ≤ 57) ∨ (97 ≤ c.toNat ∧ c.toNat ≤ 102) := by rw [hX, t1]; exact hexL_dig _
  have hev : X.length % 2 = 0 := by rw [hX, t1, textT, hexL_length]; omega
  have hlenX : X.length ≤ 1000 := by
    rw [hX, t1, textT, hexL_length, List.length_append, putL_length]
    unfold bodyT
    have v1 : (varL f.toNat).length ≤ 8 := varL_len 7 _ (by omega)
    have v2 : (varL t.toNat).length ≤ 8 := varL_len 7 _ (by omega)
    have v3 : (varL u.length).length ≤ 8 := varL_len 7 u.length (by omega)
    have v4 : (varL k.length).length ≤ 8 := varL_len 7 k.length (by omega)
    simp only [List.length_append]; omega
  have hev2 : (X.length : Int) % 2 = 0 := by omega
  have hev3 : Int.tmod (X.length : Int) 2 = 0 := by rw [Int.tmod_eq_emod_of_nonneg (by omega)]; exact hev2
  have hev4 : (X.length : Int).tmod 2 == 0 := by rw [hev3]; rfl
  rw [← hX] at E1
  rw [← hY] at E2
  have HDIG := Lib.hid hdig
  have HINJ := Lib.hid hinj
  have HBACK := Lib.hid hback
  have PL1 := Lib.hid (fun W => plain_any u k f t W)
  have PL2 := Lib.hid (fun W => plain_any u2 k2 f2 t2 W)
  clear hdig hinj hback hX hY t1 t3 hm hm2 hev
  go_enter Tryd.func5, Tryd.ntmps5
  go_wp2_with fail
  refine (kfirst_any _ (HTab.out.below hA (Nat.le_refl _))).mono ?_
  rintro e w1 ⟨rfl, hb1⟩
  have K1 := HK1.out.below hb1 HK1.out.lt
  have K2 := HK2.out.below hb1 HK2.out.lt
  have hW1 := hA.trans (hb1.mono hA.size)
  clear hb1
  have x0 := K1.c0
  have x1 := K1.c1
  have x2 := K1.c2
  have x3 := K1.c3
  have y0 := K2.c0
  have y1 := K2.c1
  have y2 := K2.c2
  have y3 := K2.c3
  have HK1' := Lib.hid K1
  have HK2' := Lib.hid K2
  clear K1 K2
  go_wp2_with fail
  refine (P1.out _ (HTab.out.below hW1 (Nat.le_refl _))).mono ?_
  rintro e w2 ⟨rfl, hb2⟩
  rw [E1.out]
  have K1 := HK1'.out.below hb2 HK1'.out.lt
  have K2 := HK2'.out.below hb2 HK2'.out.lt
  have hW2 := hW1.trans (hb2.mono hW1.size)
  clear hb2 x0 x1 x2 x3 y0 y1 y2 y3 HK1' HK2'
  have x0 := K1.c0
  have x1 := K1.c1
  have x2 := K1.c2
  have x3 := K1.c3
  have y0 := K2.c0
  have y1 := K2.c1
  have y2 := K2.c2
  have y3 := K2.c3
  have HK1' := Lib.hid K1
  have HK2' := Lib.hid K2
  clear K1 K2
  go_wp2_with fail
  refine (P2.out _ (HTab.out.below hW2 (Nat.le_refl _))).mono ?_
  rintro e w3 ⟨rfl, hb3⟩
  rw [E2.out]
  have K1 := HK1'.out.below hb3 HK1'.out.lt
  have K2 := HK2'.out.below hb3 HK2'.out.lt
  have hW3 := hW2.trans (hb3.mono hW2.size)
  clear hb3 x0 x1 x2 x3 y0 y1 y2 y3 HK1' HK2'
  have x0 := K1.c0
  have x1 := K1.c1
  have x2 := K1.c2
  have x3 := K1.c3
  have y0 := K2.c0
  have y1 := K2.c1
  have y2 := K2.c2
  have y3 := K2.c3
  have HK1' := Lib.hid K1
  have HK2' := Lib.hid K2
  clear K1 K2
  go_wp2_with fail
  go_loop [9] (fun i => ∃ j : Nat, j ≤ X.length ∧ i = .int .i64 (j : Int)) (fun i => X.length - (intOf i).toNat)
  case atStart => exact ⟨0, Nat.zero_le _, rfl⟩
  case round =>
    obtain ⟨j, hj, rfl⟩ := hrel
    by_cases hlt : j < X.length
    · have m1 : (j : Int) < (X.length : Int) := by omega
      obtain ⟨d, hd⟩ : ∃ d, d = X[j] := ⟨_, rfl⟩
      have hgd : (ByteArray.mk X.toArray)[j]'(by simpa [ByteArray.size] using hlt) = d := hd.symm
      have hdd := HDIG.out d (by rw [hd]; exact List.getElem_mem hlt)
      have key : (¬ (d.toNat : Int) < 48 ∧ ¬ 57 < (d.toNat : Int)) ∨ (¬ (d.toNat : Int) < 48 ∧ 57 < (d.toNat : Int) ∧ ¬ (d.toNat : Int) < 97 ∧ ¬ 102 < (d.toNat : Int)) := by omega
      clear hd hdd
      rcases key with ⟨z1, z2⟩ | ⟨z1, z2, z3, z4⟩
      all_goals
        go_wp2_with fail
        go_round
        case rel => exact ⟨j + 1, by omega, by go_num⟩
        case measure => simp [intOf]; omega
    · obtain rfl : j = X.length := by omega
      have m1 : ¬ (X.length : Int) < (X.length : Int) := by omega
      have hfin : ∃ bb, (X == Y) = bb ∧ (decide (u = u2 ∧ f = f2 ∧ t = t2 ∧ k = k2)) = bb := by
        by_cases h : X = Y
        · exact ⟨true, by rw [beq_iff_eq]; exact h, decide_eq_true (HINJ.out h)⟩
        · exact ⟨false, by rw [beq_eq_false_iff_ne]; exact h, decide_eq_false (fun h2 => h (HBACK.out h2))⟩
      obtain ⟨bb, z1, z2⟩ := hfin
      have HT3 := Lib.hid (show Tab w3.drew from HTab.out.below (Below.drewsN hW3 1) (Nat.le_refl _))
      have HKD := Lib.hid (show TK w3.drew w.heap.size u f t k ∧ TK w3.drew (w.heap.size + 1) u2 f2 t2 k2 from ⟨HK1'.out, HK2'.out⟩)
      have heq2 := tok_eql u k u2 k2 f t f2 t2
      rw [z2] at heq2
      have hW4 : Below w.heap.size w w3.drew := Below.drewsN hW3 1
      have HW4 := Lib.hid hW4
      clear z2 hW4
      cases bb
      all_goals
        go_wp2_with fail
        go_region_held3 (fun w' => w'.cell? ⟨w.heap.size, 0, none⟩ = some (str u) ∧ w'.cell? ⟨w.heap.size, 1, none⟩ = some (.int .i64 f) ∧ w'.cell? ⟨w.heap.size, 2, none⟩ = some (.int .i64 t) ∧ w'.cell? ⟨w.heap.size, 3, none⟩ = some (str k) ∧
            w'.cell? ⟨w.heap.size + 1, 0, none⟩ = some (str u2) ∧ w'.cell? ⟨w.heap.size + 1, 1, none⟩ = some (.int .i64 f2) ∧ w'.cell? ⟨w.heap.size + 1, 2, none⟩ = some (.int .i64 t2) ∧ w'.cell? ⟨w.heap.size + 1, 3, none⟩ = some (str k2))
          (first
            | (exact cells8' (two_below (two_below (two_below HKD.out hb5) hb6) hb7))
            | (exact cells8' (two_below (two_below (two_below HKD.out hb5) hb7) hb6))
            | (exact cells8' (two_below (two_below HKD.out hb5) hb6))
            | (exact cells8' (two_below (two_below HKD.out hb5) hb7))
            | (exact cells8' (two_below HKD.out hb5))
            | (exact cells8' HKD.out)
            | go_keep)
          ((first
            | (go_at_call 6
               refine (kfirst_any _ HT3.out).mono ?_
               rintro e w5 ⟨rfl, hb5⟩)
            | (go_at_call 8
               (with_reducible refine (PL1.out _).mono ?_)
               rintro e w6 ⟨rfl, hb6⟩)
            | (go_at_call 8
               (with_reducible refine (PL2.out _).mono ?_)
               rintro e w7 ⟨rfl, hb7⟩)
            | fail))
        all_goals
          go_wp2_with fail
          go_ret
          have A5 := HW4.out.trans (hb5.mono HW4.out.size)
          first
            | (have A6 := A5.trans (hb6.mono A5.size)
               exact ⟨rfl, A6.trans (hb7.mono A6.size)⟩)
            | (have A6 := A5.trans (hb7.mono A5.size)
               exact ⟨rfl, A6.trans (hb6.mono A6.size)⟩)
theorem apart_walk (u k : List UInt8) (f t : Int) (u2 k2 : List UInt8) (f2 t2 : Int) (w : World) (hu : u.length ≤ 9223372036854775807) (hk : k.length ≤ 9223372036854775807) (hf : -9223372036854775808 ≤ f ∧ f ≤ 9223372036854775807) (ht : -9223372036854775808 ≤ t ∧ t ≤ 9223372036854775807)
    (hu2 : u2.length ≤ 9223372036854775807) (hk2 : k2.length ≤ 9223372036854775807) (hf2 : -9223372036854775808 ≤ f2 ∧ f2 ≤ 9223372036854775807) (ht2 : -9223372036854775808 ≤ t2 ∧ t2 ≤ 9223372036854775807) (hT : Tab w) :
    Calls Tryd.prog 5 #[tok u f t k, tok u2 f2 t2 k2] w fun e w' => e = .returned (.bool true) ∧ Below w.heap.size w w' := by
  by_cases h1 : 3000 < IntKind.i64.wrap ((u.length : Int) + (k.length : Int))
  · exact apart_no u k f t u2 k2 f2 t2 w hu hk hf ht hu2 hk2 hf2 ht2 hT (.inl h1)
  by_cases h2 : 3000 < IntKind.i64.wrap ((u2.length : Int) + (k2.length : Int))
  · exact apart_no u k f t u2 k2 f2 t2 w hu hk hf ht hu2 hk2 hf2 ht2 hT (.inr (.inl h2))
  cases h3 : mayB u f t k
  · exact apart_no u k f t u2 k2 f2 t2 w hu hk hf ht hu2 hk2 hf2 ht2 hT (.inr (.inr (.inl h3)))
  cases h4 : mayB u2 f2 t2 k2
  · exact apart_no u k f t u2 k2 f2 t2 w hu hk hf ht hu2 hk2 hf2 ht2 hT (.inr (.inr (.inr h4)))
  exact apart_yes u k f t u2 k2 f2 t2 w hu hk hf ht hu2 hk2 hf2 ht2 hT h1 h2 h3 h4
end Go.Proofs.YtfibplegbaanmaaDoor
