import Derived.Test.YtcgjiddiegepkaaTreeVW
import Derived.Test.YtcgjiddiegepkaaTqBase
/- Trees of omap[string,handbill/api.Write]: join. -/
namespace Go.Proofs.Ytcgjiddiegepkaa
open Go.RowKit

theorem keepcVW {W W' : World} {a j : Nat} {v : Value} (h : W.cell? ⟨a, j, none⟩ = some v) (hb : Below W.heap.size W W') : W'.cell? ⟨a, j, none⟩ = some v := by
  rw [hb.cell (p := ⟨a, j, none⟩) (World.block_lt_of_cell? W _ h)]; exact h
theorem keep2VW {W W' : World} {a b j i : Nat} {v u : Value} (h : W.cell? ⟨a, j, none⟩ = some v ∧ W.cell? ⟨b, i, none⟩ = some u) (hb : Below W.heap.size W W') : W'.cell? ⟨a, j, none⟩ = some v ∧ W'.cell? ⟨b, i, none⟩ = some u := ⟨keepcVW h.1 hb, keepcVW h.2 hb⟩
theorem keep3VW {W W' : World} {a b c j i g : Nat} {v u z : Value} (h : W.cell? ⟨a, j, none⟩ = some v ∧ W.cell? ⟨b, i, none⟩ = some u ∧ W.cell? ⟨c, g, none⟩ = some z) (hb : Below W.heap.size W W') :
    W'.cell? ⟨a, j, none⟩ = some v ∧ W'.cell? ⟨b, i, none⟩ = some u ∧ W'.cell? ⟨c, g, none⟩ = some z := ⟨keepcVW h.1 hb, keepcVW h.2.1 hb, keepcVW h.2.2 hb⟩
theorem cells34VW {W : World} {o : Option Addr} {l r : Tr} {k x : Value} {n : Nat} (h : TQ W o (.node l k x n r)) :
    ∃ b ol or, o = some ⟨b, 0, none⟩ ∧ W.cell? ⟨b, 5, none⟩ = some (.pointer ol) ∧ W.cell? ⟨b, 6, none⟩ = some (.pointer or) ∧ TQ W ol l ∧ TQ W or r := by
  obtain ⟨b, T, ol, or, rfl, hc, hl, hr⟩ := h
  exact ⟨b, ol, or, rfl, cell_of_row W b 5 _ T (0, 0) hc, cell_of_row W b 6 _ T (0, 0) hc, hl, hr⟩
/-- Trees close to each other. -/
theorem join0VW (p ol or : Option Addr) (k x : Value) (l r : Tr) (w : World) (hk : KQ w p k x) (hks : KSVW k) (hxs : VSVW x) (hl : TQ w ol l) (hr : TQ w or r) (hs : ht l < 2305843009213693952 ∧ ht r < 2305843009213693952)
    (h1 : ht l ≤ ht r + 1) (h2 : ht r ≤ ht l + 1) : Calls Try.prog 90 #[.pointer p, .pointer ol, .pointer or] w (TieQ (tieT k x l r) w) := by
  have CL := Lib.hid (heightVW_any ol l w hl)
  have CR := Lib.hid (heightVW_any or r w hr)
  have CT := Lib.hid (tieVW_any p ol or k x l r w hk hks hxs hl hr ⟨by omega, by omega⟩)
  obtain ⟨a, ha⟩ : ∃ a : Nat, a = ht l := ⟨_, rfl⟩
  obtain ⟨d, hd⟩ : ∃ d : Nat, d = ht r := ⟨_, rfl⟩
  rw [← ha] at CL hs h1 h2
  rw [← hd] at CR hs h1 h2
  have n1 : ¬ (1 : Int) < (a : Int) - (d : Int) := by omega
  have n2 : ¬ (a : Int) - (d : Int) < -1 := by omega
  have n3 : -9223372036854775808 ≤ (a : Int) - (d : Int) := by omega
  have n4 : (a : Int) - (d : Int) ≤ 9223372036854775807 := by omega
  clear hk hl hr ha hd h1 h2 hks hxs
  go_enter Try.func90, Try.ntmps90
  go_wp2_with (first
    | (go_at_call 92; with_reducible refine CL.out.mono ?_; rintro e w' ⟨rfl, rfl⟩)
    | (go_at_call 92; with_reducible refine CR.out.mono ?_; rintro e w' ⟨rfl, rfl⟩)
    | fail)
  refine CT.out.mono ?_
  rintro e w1 ⟨b1, rfl, ht1, hb1⟩
  have HP := Lib.hid (show TQ w1 (some ⟨b1, 0, none⟩) (tieT k x l r) ∧ Below _ _ w1 from ⟨ht1, hb1⟩)
  clear ht1 hb1
  go_wp2_with fail
  go_ret
  exact ⟨b1, rfl, HP.out.1, HP.out.2⟩
/-- The left one too high, its own left one the higher. -/
theorem join1VW (p ol or : Option Addr) (k x lk lx : Value) (ll lr r : Tr) (n : Nat) (w : World) (hk : KQ w p k x) (hks : KSVW k) (hxs : VSVW x) (hlks : KSVW lk) (hlxs : VSVW lx) (hl : TQ w ol (.node ll lk lx n lr)) (hr : TQ w or r)
    (hs : n < 2305843009213693952 ∧ ht r < 2305843009213693952 ∧ ht ll < n ∧ ht lr < n) (h1 : ht r + 1 < n) (h2 : ht lr ≤ ht ll) :
    Calls Try.prog 90 #[.pointer p, .pointer ol, .pointer or] w (TieQ (tieT lk lx ll (tieT k x lr r)) w) := by
  have CL := Lib.hid (heightVW_any ol _ w hl)
  have CR := Lib.hid (heightVW_any or r w hr)
  have hkl := hl.kv
  obtain ⟨bl, oll, olr, rfl, c3, c4, hll, hlr⟩ := cells34VW hl
  have CLL := Lib.hid (fun m => heightVW_any oll ll (w.drewN m) (hll.drewN m))
  have CLR := Lib.hid (fun m => heightVW_any olr lr (w.drewN m) (hlr.drewN m))
  obtain ⟨e1, e2⟩ : ht ll < 4611686018427387904 ∧ ht (tieT k x lr r) < 4611686018427387904 := ⟨by omega, by rw [ht_tie]; omega⟩
  have CT1 := Lib.hid (fun (W : World) (hb : Below w.heap.size w W) => tieVW_any p olr or k x lr r W (hk.below hb) hks hxs (TQ.below hb hlr) (TQ.below hb hr) ⟨by omega, by omega⟩)
  have CT2 := Lib.hid (fun (b' : Nat) (W : World) (hb : Below w.heap.size w W) (ht1 : TQ W (some ⟨b', 0, none⟩) (tieT k x lr r)) =>
    tieVW_any (some ⟨bl, 0, none⟩) oll (some ⟨b', 0, none⟩) lk lx ll (tieT k x lr r) W (KQ.below hkl hb) hlks hlxs (TQ.below hb hll) ht1 ⟨e1, e2⟩)
  obtain ⟨d, hd⟩ : ∃ d : Nat, d = ht r := ⟨_, rfl⟩
  obtain ⟨f, hf⟩ : ∃ f : Nat, f = ht ll := ⟨_, rfl⟩
  obtain ⟨g, hg⟩ : ∃ g : Nat, g = ht lr := ⟨_, rfl⟩
  rw [← hd] at CR hs h1
  rw [← hf] at CLL hs h2
  rw [← hg] at CLR hs h2
  simp only [ht] at CL
  have n1 : (1 : Int) < (n : Int) - (d : Int) := by omega
  have n3 : -9223372036854775808 ≤ (n : Int) - (d : Int) := by omega
  have n4 : (n : Int) - (d : Int) ≤ 9223372036854775807 := by omega
  have n5 : (g : Int) ≤ (f : Int) := by omega
  clear hk hl hr hd hf hg h1 h2 hs hks hxs hlks hlxs hll hlr hkl e1 e2
  go_enter Try.func90, Try.ntmps90
  go_wp2_with (first
    | (go_at_call 92; with_reducible refine CL.out.mono ?_; rintro e w' ⟨rfl, rfl⟩)
    | (go_at_call 92; with_reducible refine CR.out.mono ?_; rintro e w' ⟨rfl, rfl⟩)
    | fail)
  go_quiet ((first
    | (go_at_call 92; with_reducible exact Calls.quiet_of_same (CLL.out _))
    | (go_at_call 92; with_reducible exact Calls.quiet_of_same (CLR.out _))))
  go_wp2_with fail
  have HC := Lib.hid (show (w'.drewN nq).cell? ⟨bl, 5, none⟩ = some (.pointer oll) ∧ (w'.drewN nq).cell? ⟨bl, 6, none⟩ = some (.pointer olr) from ⟨c3, c4⟩)
  have HB0 := Lib.hid (show Below w'.heap.size w' (w'.drewN nq) from Below.drewsN (Below.refl _ _) nq)
  generalize w'.drewN nq = W0 at HC HB0 ⊢
  have HBD := Lib.hid (show Below w'.heap.size w' W0.drew from Below.drewsN HB0.out 1)
  clear c3 c4
  go_region_held3 (fun W => W.cell? ⟨bl, 5, none⟩ = some (.pointer oll) ∧ W.cell? ⟨bl, 6, none⟩ = some (.pointer olr))
    (first
      | (exact HC.out)
      | (refine keep2VW ?_ hb2; assumption)
      | (refine keep2VW ?_ hb1; assumption)
      | go_keep)
    ((first
      | (go_at_call 93
         (with_reducible refine (CT1.out _ HBD.out).mono ?_)
         rintro e w1 ⟨b1, rfl, ht1, hb1⟩)
      | (go_at_call 93
         (with_reducible refine (CT2.out _ _ (HBD.out.trans (hb1.mono HBD.out.size)) ht1).mono ?_)
         rintro e w2 ⟨b2, rfl, ht2, hb2⟩)
      | fail))
  all_goals
    have HP := Lib.hid (show TQ w2 (some ⟨b2, 0, none⟩) _ ∧ Below _ _ w2 from ⟨ht2, (HBD.out.trans (hb1.mono HBD.out.size)).trans (hb2.mono (HBD.out.trans (hb1.mono HBD.out.size)).size)⟩)
    clear ht1 hb1 ht2 hb2
    go_wp2_with fail
    go_ret
    exact ⟨b2, rfl, HP.out.1, HP.out.2⟩
/-- The left one too high, its own right one the higher. -/
theorem join2VW (p ol or : Option Addr) (k x lk lx mk mx : Value) (ll ml mr r : Tr) (n m : Nat) (w : World) (hk : KQ w p k x) (hks : KSVW k) (hxs : VSVW x) (hlks : KSVW lk) (hlxs : VSVW lx) (hmks : KSVW mk) (hmxs : VSVW mx) (hl : TQ w ol (.node ll lk lx n (.node ml mk mx m mr))) (hr : TQ w or r)
    (hs : n < 2305843009213693952 ∧ ht r < 2305843009213693952 ∧ ht ll < n ∧ m < n ∧ ht ml < m ∧ ht mr < m) (h1 : ht r + 1 < n) (h2 : ht ll < m) :
    Calls Try.prog 90 #[.pointer p, .pointer ol, .pointer or] w (TieQ (tieT mk mx (tieT lk lx ll ml) (tieT k x mr r)) w) := by
  have CL := Lib.hid (heightVW_any ol _ w hl)
  have CR := Lib.hid (heightVW_any or r w hr)
  have hkl := hl.kv
  obtain ⟨bl, oll, olr, rfl, c3, c4, hll, hlr⟩ := cells34VW hl
  have CLL := Lib.hid (fun m => heightVW_any oll ll (w.drewN m) (hll.drewN m))
  have CLR := Lib.hid (fun m => heightVW_any olr _ (w.drewN m) (hlr.drewN m))
  have hkm := hlr.kv
  obtain ⟨bm, oml, omr, rfl, c5, c6, hml, hmr⟩ := cells34VW hlr
  obtain ⟨e1, e2⟩ : ht (tieT lk lx ll ml) < 4611686018427387904 ∧ ht (tieT k x mr r) < 4611686018427387904 := ⟨by rw [ht_tie]; omega, by rw [ht_tie]; omega⟩
  have CT1 := Lib.hid (fun (W : World) (hb : Below w.heap.size w W) => tieVW_any (some ⟨bl, 0, none⟩) oll oml lk lx ll ml W (hkl.below hb) hlks hlxs (TQ.below hb hll) (TQ.below hb hml) ⟨by omega, by omega⟩)
  have CT2 := Lib.hid (fun (W : World) (hb : Below w.heap.size w W) => tieVW_any p omr or k x mr r W (hk.below hb) hks hxs (TQ.below hb hmr) (TQ.below hb hr) ⟨by omega, by omega⟩)
  have CT3 := Lib.hid (fun (b' b'' : Nat) (W : World) (hb : Below w.heap.size w W) (ht1 : TQ W (some ⟨b', 0, none⟩) (tieT lk lx ll ml)) (ht2 : TQ W (some ⟨b'', 0, none⟩) (tieT k x mr r)) =>
    tieVW_any (some ⟨bm, 0, none⟩) (some ⟨b', 0, none⟩) (some ⟨b'', 0, none⟩) mk mx _ _ W (KQ.below hkm hb) hmks hmxs ht1 ht2 ⟨e1, e2⟩)
  obtain ⟨d, hd⟩ : ∃ d : Nat, d = ht r := ⟨_, rfl⟩
  obtain ⟨f, hf⟩ : ∃ f : Nat, f = ht ll := ⟨_, rfl⟩
  rw [← hd] at CR hs h1
  rw [← hf] at CLL hs h2
  simp only [ht] at CL CLR
  have n1 : (1 : Int) < (n : Int) - (d : Int) := by omega
  have n3 : -9223372036854775808 ≤ (n : Int) - (d : Int) := by omega
  have n4 : (n : Int) - (d : Int) ≤ 9223372036854775807 := by omega
  have n5 : ¬ (m : Int) ≤ (f : Int) := by omega
  clear hk hl hr hd hf h1 h2 hs hks hxs hlks hlxs hll hlr hkl e1 e2 hml hmr hkm hmks hmxs
  go_enter Try.func90, Try.ntmps90
  go_wp2_with (first
    | (go_at_call 92; with_reducible refine CL.out.mono ?_; rintro e w' ⟨rfl, rfl⟩)
    | (go_at_call 92; with_reducible refine CR.out.mono ?_; rintro e w' ⟨rfl, rfl⟩)
    | fail)
  go_quiet ((first
    | (go_at_call 92; with_reducible exact Calls.quiet_of_same (CLL.out _))
    | (go_at_call 92; with_reducible exact Calls.quiet_of_same (CLR.out _))))
  go_wp2_with fail
  have HC := Lib.hid (show (w'.drewN nq).cell? ⟨bl, 5, none⟩ = some (.pointer oll) ∧ (w'.drewN nq).cell? ⟨bm, 5, none⟩ = some (.pointer oml) ∧ (w'.drewN nq).cell? ⟨bm, 6, none⟩ = some (.pointer omr) from ⟨c3, c5, c6⟩)
  have HB0 := Lib.hid (show Below w'.heap.size w' (w'.drewN nq) from Below.drewsN (Below.refl _ _) nq)
  generalize w'.drewN nq = W0 at HC HB0 ⊢
  have HBD := Lib.hid (show Below w'.heap.size w' W0.drew from Below.drewsN HB0.out 1)
  clear c3 c4 c5 c6
  go_region_held3 (fun W => W.cell? ⟨bl, 5, none⟩ = some (.pointer oll) ∧ W.cell? ⟨bm, 5, none⟩ = some (.pointer oml) ∧ W.cell? ⟨bm, 6, none⟩ = some (.pointer omr))
    (first
      | (exact HC.out)
      | (refine keep3VW ?_ hb3; assumption)
      | (refine keep3VW ?_ hb2; assumption)
      | (refine keep3VW ?_ hb1; assumption)
      | go_keep)
    ((first
      | (go_at_call 93
         (with_reducible refine (CT1.out _ HBD.out).mono ?_)
         rintro e w1 ⟨b1, rfl, ht1, hb1⟩)
      | (go_at_call 93
         (with_reducible refine (CT2.out _ (HBD.out.trans (hb1.mono HBD.out.size))).mono ?_)
         rintro e w2 ⟨b2, rfl, ht2, hb2⟩)
      | (go_at_call 93
         (with_reducible refine (CT3.out _ _ _ ((HBD.out.trans (hb1.mono HBD.out.size)).trans (hb2.mono (HBD.out.trans (hb1.mono HBD.out.size)).size)) (TQ.below hb2 ht1) ht2).mono ?_)
         rintro e w3 ⟨b3, rfl, ht3, hb3⟩)
      | fail))
  all_goals
    have HQ := (HBD.out.trans (hb1.mono HBD.out.size)).trans (hb2.mono (HBD.out.trans (hb1.mono HBD.out.size)).size)
    have HP := Lib.hid (show TQ w3 (some ⟨b3, 0, none⟩) _ ∧ Below _ _ w3 from ⟨ht3, HQ.trans (hb3.mono HQ.size)⟩)
    clear ht1 hb1 ht2 hb2 ht3 hb3 HQ
    go_wp2_with fail
    go_ret
    exact ⟨b3, rfl, HP.out.1, HP.out.2⟩
/-- The right one too high, its own right one the higher. -/
theorem join3VW (p ol or : Option Addr) (k x rk rx : Value) (l rl rr : Tr) (n : Nat) (w : World) (hk : KQ w p k x) (hks : KSVW k) (hxs : VSVW x) (hrks : KSVW rk) (hrxs : VSVW rx) (hl : TQ w ol l) (hr : TQ w or (.node rl rk rx n rr))
    (hs : n < 2305843009213693952 ∧ ht l < 2305843009213693952 ∧ ht rl < n ∧ ht rr < n) (h1 : ht l + 1 < n) (h2 : ht rl ≤ ht rr) :
    Calls Try.prog 90 #[.pointer p, .pointer ol, .pointer or] w (TieQ (tieT rk rx (tieT k x l rl) rr) w) := by
  have CL := Lib.hid (heightVW_any ol l w hl)
  have CR := Lib.hid (heightVW_any or _ w hr)
  have hkr := hr.kv
  obtain ⟨br, orl, orr, rfl, c3, c4, hrl, hrr⟩ := cells34VW hr
  have CLL := Lib.hid (fun m => heightVW_any orl rl (w.drewN m) (hrl.drewN m))
  have CLR := Lib.hid (fun m => heightVW_any orr rr (w.drewN m) (hrr.drewN m))
  obtain ⟨e1, e2⟩ : ht (tieT k x l rl) < 4611686018427387904 ∧ ht rr < 4611686018427387904 := ⟨by rw [ht_tie]; omega, by omega⟩
  have CT1 := Lib.hid (fun (W : World) (hb : Below w.heap.size w W) => tieVW_any p ol orl k x l rl W (hk.below hb) hks hxs (TQ.below hb hl) (TQ.below hb hrl) ⟨by omega, by omega⟩)
  have CT2 := Lib.hid (fun (b' : Nat) (W : World) (hb : Below w.heap.size w W) (ht1 : TQ W (some ⟨b', 0, none⟩) (tieT k x l rl)) =>
    tieVW_any (some ⟨br, 0, none⟩) (some ⟨b', 0, none⟩) orr rk rx _ rr W (KQ.below hkr hb) hrks hrxs ht1 (TQ.below hb hrr) ⟨e1, e2⟩)
  obtain ⟨d, hd⟩ : ∃ d : Nat, d = ht l := ⟨_, rfl⟩
  obtain ⟨f, hf⟩ : ∃ f : Nat, f = ht rl := ⟨_, rfl⟩
  obtain ⟨g, hg⟩ : ∃ g : Nat, g = ht rr := ⟨_, rfl⟩
  rw [← hd] at CL hs h1
  rw [← hf] at CLL hs h2
  rw [← hg] at CLR hs h2
  simp only [ht] at CR
  have n1 : ¬ (1 : Int) < (d : Int) - (n : Int) := by omega
  have n2 : (d : Int) - (n : Int) < -1 := by omega
  have n3 : -9223372036854775808 ≤ (d : Int) - (n : Int) := by omega
  have n4 : (d : Int) - (n : Int) ≤ 9223372036854775807 := by omega
  have n5 : (f : Int) ≤ (g : Int) := by omega
  clear hk hl hr hd hf hg h1 h2 hs hks hxs hrks hrxs hrl hrr hkr e1 e2
  go_enter Try.func90, Try.ntmps90
  go_wp2_with (first
    | (go_at_call 92; with_reducible refine CL.out.mono ?_; rintro e w' ⟨rfl, rfl⟩)
    | (go_at_call 92; with_reducible refine CR.out.mono ?_; rintro e w' ⟨rfl, rfl⟩)
    | fail)
  go_quiet ((first
    | (go_at_call 92; with_reducible exact Calls.quiet_of_same (CLL.out _))
    | (go_at_call 92; with_reducible exact Calls.quiet_of_same (CLR.out _))))
  go_wp2_with fail
  have HC := Lib.hid (show (w'.drewN nq).cell? ⟨br, 5, none⟩ = some (.pointer orl) ∧ (w'.drewN nq).cell? ⟨br, 6, none⟩ = some (.pointer orr) from ⟨c3, c4⟩)
  have HB0 := Lib.hid (show Below w'.heap.size w' (w'.drewN nq) from Below.drewsN (Below.refl _ _) nq)
  generalize w'.drewN nq = W0 at HC HB0 ⊢
  have HBD := Lib.hid (show Below w'.heap.size w' W0.drew from Below.drewsN HB0.out 1)
  clear c3 c4
  go_region_held3 (fun W => W.cell? ⟨br, 5, none⟩ = some (.pointer orl) ∧ W.cell? ⟨br, 6, none⟩ = some (.pointer orr))
    (first
      | (exact HC.out)
      | (refine keep2VW ?_ hb2; assumption)
      | (refine keep2VW ?_ hb1; assumption)
      | go_keep)
    ((first
      | (go_at_call 93
         (with_reducible refine (CT1.out _ HBD.out).mono ?_)
         rintro e w1 ⟨b1, rfl, ht1, hb1⟩)
      | (go_at_call 93
         (with_reducible refine (CT2.out _ _ (HBD.out.trans (hb1.mono HBD.out.size)) ht1).mono ?_)
         rintro e w2 ⟨b2, rfl, ht2, hb2⟩)
      | fail))
  all_goals
    have HP := Lib.hid (show TQ w2 (some ⟨b2, 0, none⟩) _ ∧ Below _ _ w2 from ⟨ht2, (HBD.out.trans (hb1.mono HBD.out.size)).trans (hb2.mono (HBD.out.trans (hb1.mono HBD.out.size)).size)⟩)
    clear ht1 hb1 ht2 hb2
    go_wp2_with fail
    go_ret
    exact ⟨b2, rfl, HP.out.1, HP.out.2⟩
/-- The right one too high, its own left one the higher. -/
theorem join4VW (p ol or : Option Addr) (k x rk rx mk mx : Value) (l ml mr rr : Tr) (n m : Nat) (w : World) (hk : KQ w p k x) (hks : KSVW k) (hxs : VSVW x) (hrks : KSVW rk) (hrxs : VSVW rx) (hmks : KSVW mk) (hmxs : VSVW mx) (hl : TQ w ol l) (hr : TQ w or (.node (.node ml mk mx m mr) rk rx n rr))
    (hs : n < 2305843009213693952 ∧ ht l < 2305843009213693952 ∧ ht rr < n ∧ m < n ∧ ht ml < m ∧ ht mr < m) (h1 : ht l + 1 < n) (h2 : ht rr < m) :
    Calls Try.prog 90 #[.pointer p, .pointer ol, .pointer or] w (TieQ (tieT mk mx (tieT k x l ml) (tieT rk rx mr rr)) w) := by
  have CL := Lib.hid (heightVW_any ol l w hl)
  have CR := Lib.hid (heightVW_any or _ w hr)
  have hkr := hr.kv
  obtain ⟨br, orl, orr, rfl, c3, c4, hrl, hrr⟩ := cells34VW hr
  have CLL := Lib.hid (fun m => heightVW_any orl _ (w.drewN m) (hrl.drewN m))
  have CLR := Lib.hid (fun m => heightVW_any orr rr (w.drewN m) (hrr.drewN m))
  have hkm := hrl.kv
  obtain ⟨bm, oml, omr, rfl, c5, c6, hml, hmr⟩ := cells34VW hrl
  obtain ⟨e1, e2⟩ : ht (tieT k x l ml) < 4611686018427387904 ∧ ht (tieT rk rx mr rr) < 4611686018427387904 := ⟨by rw [ht_tie]; omega, by rw [ht_tie]; omega⟩
  have CT1 := Lib.hid (fun (W : World) (hb : Below w.heap.size w W) => tieVW_any p ol oml k x l ml W (hk.below hb) hks hxs (TQ.below hb hl) (TQ.below hb hml) ⟨by omega, by omega⟩)
  have CT2 := Lib.hid (fun (W : World) (hb : Below w.heap.size w W) => tieVW_any (some ⟨br, 0, none⟩) omr orr rk rx mr rr W (hkr.below hb) hrks hrxs (TQ.below hb hmr) (TQ.below hb hrr) ⟨by omega, by omega⟩)
  have CT3 := Lib.hid (fun (b' b'' : Nat) (W : World) (hb : Below w.heap.size w W) (ht1 : TQ W (some ⟨b', 0, none⟩) (tieT k x l ml)) (ht2 : TQ W (some ⟨b'', 0, none⟩) (tieT rk rx mr rr)) =>
    tieVW_any (some ⟨bm, 0, none⟩) (some ⟨b', 0, none⟩) (some ⟨b'', 0, none⟩) mk mx _ _ W (KQ.below hkm hb) hmks hmxs ht1 ht2 ⟨e1, e2⟩)
  obtain ⟨d, hd⟩ : ∃ d : Nat, d = ht l := ⟨_, rfl⟩
  obtain ⟨g, hg⟩ : ∃ g : Nat, g = ht rr := ⟨_, rfl⟩
  rw [← hd] at CL hs h1
  rw [← hg] at CLR hs h2
  simp only [ht] at CR CLL
  have n1 : ¬ (1 : Int) < (d : Int) - (n : Int) := by omega
  have n2 : (d : Int) - (n : Int) < -1 := by omega
  have n3 : -9223372036854775808 ≤ (d : Int) - (n : Int) := by omega
  have n4 : (d : Int) - (n : Int) ≤ 9223372036854775807 := by omega
  have n5 : ¬ (m : Int) ≤ (g : Int) := by omega
  clear hk hl hr hd hg h1 h2 hs hks hxs hrks hrxs hrl hrr hkr e1 e2 hml hmr hkm hmks hmxs
  go_enter Try.func90, Try.ntmps90
  go_wp2_with (first
    | (go_at_call 92; with_reducible refine CL.out.mono ?_; rintro e w' ⟨rfl, rfl⟩)
    | (go_at_call 92; with_reducible refine CR.out.mono ?_; rintro e w' ⟨rfl, rfl⟩)
    | fail)
  go_quiet ((first
    | (go_at_call 92; with_reducible exact Calls.quiet_of_same (CLL.out _))
    | (go_at_call 92; with_reducible exact Calls.quiet_of_same (CLR.out _))))
  go_wp2_with fail
  have HC := Lib.hid (show (w'.drewN nq).cell? ⟨bm, 5, none⟩ = some (.pointer oml) ∧ (w'.drewN nq).cell? ⟨bm, 6, none⟩ = some (.pointer omr) ∧ (w'.drewN nq).cell? ⟨br, 6, none⟩ = some (.pointer orr) from ⟨c5, c6, c4⟩)
  have HB0 := Lib.hid (show Below w'.heap.size w' (w'.drewN nq) from Below.drewsN (Below.refl _ _) nq)
  generalize w'.drewN nq = W0 at HC HB0 ⊢
  have HBD := Lib.hid (show Below w'.heap.size w' W0.drew from Below.drewsN HB0.out 1)
  clear c3 c4 c5 c6
  go_region_held3 (fun W => W.cell? ⟨bm, 5, none⟩ = some (.pointer oml) ∧ W.cell? ⟨bm, 6, none⟩ = some (.pointer omr) ∧ W.cell? ⟨br, 6, none⟩ = some (.pointer orr))
    (first
      | (exact HC.out)
      | (refine keep3VW ?_ hb3; assumption)
      | (refine keep3VW ?_ hb2; assumption)
      | (refine keep3VW ?_ hb1; assumption)
      | go_keep)
    ((first
      | (go_at_call 93
         (with_reducible refine (CT1.out _ HBD.out).mono ?_)
         rintro e w1 ⟨b1, rfl, ht1, hb1⟩)
      | (go_at_call 93
         (with_reducible refine (CT2.out _ (HBD.out.trans (hb1.mono HBD.out.size))).mono ?_)
         rintro e w2 ⟨b2, rfl, ht2, hb2⟩)
      | (go_at_call 93
         (with_reducible refine (CT3.out _ _ _ ((HBD.out.trans (hb1.mono HBD.out.size)).trans (hb2.mono (HBD.out.trans (hb1.mono HBD.out.size)).size)) (TQ.below hb2 ht1) ht2).mono ?_)
         rintro e w3 ⟨b3, rfl, ht3, hb3⟩)
      | fail))
  all_goals
    have HQ := (HBD.out.trans (hb1.mono HBD.out.size)).trans (hb2.mono (HBD.out.trans (hb1.mono HBD.out.size)).size)
    have HP := Lib.hid (show TQ w3 (some ⟨b3, 0, none⟩) _ ∧ Below _ _ w3 from ⟨ht3, HQ.trans (hb3.mono HQ.size)⟩)
    clear ht1 hb1 ht2 hb2 ht3 hb3 HQ
    go_wp2_with fail
    go_ret
    exact ⟨b3, rfl, HP.out.1, HP.out.2⟩
end Go.Proofs.Ytcgjiddiegepkaa

/- Trees of omap[string,handbill/api.Write]: join whole, Compare, put. -/
namespace Go.Proofs.Ytcgjiddiegepkaa
open Go.RowKit

theorem joinVW_any (p ol or : Option Addr) (k x : Value) (l r : Tr) (w : World) (hk : KQ w p k x) (hks : KSVW k) (hxs : VSVW x) (hl : TQ w ol l) (hr : TQ w or r) (wl : WS KSVW VSVW l) (wr : WS KSVW VSVW r)
    (hs : ht l < 2305843009213693952 ∧ ht r < 2305843009213693952) : Calls Try.prog 90 #[.pointer p, .pointer ol, .pointer or] w (TieQ (joinT k x l r) w) := by
  unfold joinT
  by_cases h1 : ht r + 1 < ht l
  · rw [if_pos h1]
    cases l with
    | nil => simp [ht] at h1
    | node ll lk lx n lr =>
      obtain ⟨e, a1, a2, a3, a4⟩ := wl
      have e' : n = 1 + max (ht ll) (ht lr) := e
      have h1' : ht r + 1 < n := h1
      have hs' : n < 2305843009213693952 ∧ ht r < 2305843009213693952 := hs
      simp only
      by_cases h2 : ht lr ≤ ht ll
      · rw [if_pos h2]
        exact join1VW p ol or k x lk lx ll lr r n w hk hks hxs a1 a2 hl hr ⟨hs'.1, hs'.2, by omega, by omega⟩ h1' h2
      · rw [if_neg h2]
        cases lr with
        | nil => simp [ht] at h2
        | node ml mk mx m mr =>
          obtain ⟨e2, b1, b2, b3, b4⟩ := a4
          have e2' : m = 1 + max (ht ml) (ht mr) := e2
          have h2' : ¬ m ≤ ht ll := h2
          have e3 : n = 1 + max (ht ll) m := e'
          exact join2VW p ol or k x lk lx mk mx ll ml mr r n m w hk hks hxs a1 a2 b1 b2 hl hr ⟨hs'.1, hs'.2, by omega, by omega, by omega, by omega⟩ h1' (by omega)
  · rw [if_neg h1]
    by_cases h3 : ht l + 1 < ht r
    · rw [if_pos h3]
      cases r with
      | nil => simp [ht] at h3
      | node rl rk rx n rr =>
        obtain ⟨e, a1, a2, a3, a4⟩ := wr
        have e' : n = 1 + max (ht rl) (ht rr) := e
        have h3' : ht l + 1 < n := h3
        have hs' : ht l < 2305843009213693952 ∧ n < 2305843009213693952 := hs
        simp only
        by_cases h2 : ht rl ≤ ht rr
        · rw [if_pos h2]
          exact join3VW p ol or k x rk rx l rl rr n w hk hks hxs a1 a2 hl hr ⟨hs'.2, hs'.1, by omega, by omega⟩ h3' h2
        · rw [if_neg h2]
          cases rl with
          | nil => simp [ht] at h2
          | node ml mk mx m mr =>
            obtain ⟨e2, b1, b2, b3, b4⟩ := a3
            have e2' : m = 1 + max (ht ml) (ht mr) := e2
            have h2' : ¬ m ≤ ht rr := h2
            have e3 : n = 1 + max m (ht rr) := e'
            exact join4VW p ol or k x rk rx mk mx l ml mr rr n m w hk hks hxs a1 a2 b1 b2 hl hr ⟨hs'.2, hs'.1, by omega, by omega, by omega, by omega⟩ h3' (by omega)
    · rw [if_neg h3]
      exact join0VW p ol or k x l r w hk hks hxs hl hr hs (by omega) (by omega)
theorem cmpSVW (a b : List UInt8) (w : World) : Calls Try.prog 62 #[str a, str b] w fun e w' => e = .returned (.int .i64 (cmpV (str a) (str b))) ∧ w' = w := by
  have e1 : lessV (str a) (str b) = Op.bytesLess a b := rfl
  have e2 : lessV (str b) (str a) = Op.bytesLess b a := rfl
  unfold cmpV
  rw [e1, e2]
  have n1 : (a != a) = false := bne_self_eq_false _
  have n2 : (b != b) = false := bne_self_eq_false _
  clear e1 e2
  by_cases h1 : Op.bytesLess a b = true
  · rw [if_pos h1]
    go_enter Try.func62, Try.ntmps62
    go_wp2
    go_ret
    exact ⟨rfl, rfl⟩
  rw [if_neg h1]
  have h1' : Op.bytesLess a b = false := by simpa using h1
  clear h1
  by_cases h2 : Op.bytesLess b a = true
  · rw [if_pos h2]
    have n3 : (a == b) = false := by
      rw [beq_eq_false_iff_ne]
      rintro rfl
      rw [bl_irr] at h2
      cases h2
    go_enter Try.func62, Try.ntmps62
    go_wp2
    go_ret
    exact ⟨rfl, rfl⟩
  rw [if_neg h2]
  have h2' : Op.bytesLess b a = false := by simpa using h2
  clear h2
  obtain rfl := bl_tot a b h1' h2'
  have n3 : (a == a) = true := by simp
  clear n2 h2'
  go_enter Try.func62, Try.ntmps62
  go_wp2
  go_ret
  exact ⟨rfl, rfl⟩
theorem cmpVW_any (a b : Value) (w : World) (ha : KSVW a) (hb : KSVW b) : Calls Try.prog 62 #[a, b] w fun e w' => e = .returned (.int .i64 (cmpV a b)) ∧ w' = w := by
  obtain ⟨x, rfl⟩ := ha
  obtain ⟨y, rfl⟩ := hb
  exact cmpSVW x y w
theorem put0VW (k x : Value) (w : World) (hks : KSVW k) (hxs : VSVW x) : Calls Try.prog 79 #[.pointer none, k, x] w (PutQ (.node .nil k x 1 .nil) true w) := by
  obtain ⟨kn, rfl⟩ := hks
  obtain ⟨xa, xb, xc, rfl⟩ := hxs
  have hb := below_alloc w (.cells #[str xa, str xb, .bool xc] 58)
  have hs : (w.alloc (.cells #[str xa, str xb, .bool xc] 58)).heap.size = w.heap.size + 1 := by simp
  go_enter Try.func79, Try.ntmps79
  go_wp2_with fail
  go_ret2
  refine ⟨w.heap.size + 1, rfl, ⟨_, 112, none, none, rfl, ?_, rfl, rfl⟩, hb.alloc (by omega) _⟩
  simp only [wA_agg, wB_agg, wC_agg]
  have := heap_alloc_new (w.alloc (.cells #[str xa, str xb, .bool xc] 58)) (.cells #[str kn, str xa, str xb, .bool xc, .int .i64 1, .pointer none, .pointer none] 112)
  rw [hs] at this
  exact this
/-- A put on the left side. -/
theorem put1VW (k x k' x' : Value) (l r : Tr) (n : Nat) (z : Bool) (o : Option Addr) (w : World) (hks : KSVW k) (hxs : VSVW x) (h : TQ w o (.node l k' x' n r)) (hw : WS KSVW VSVW (.node l k' x' n r)) (hn : n < 1152921504606846976) (hless : lessV k k' = true)
    (T : Tr) (hT : WS KSVW VSVW T ∧ ht T ≤ 1 + n) (IH : ∀ (o : Option Addr) (w : World), TQ w o l → Calls Try.prog 79 #[.pointer o, k, x] w (PutQ T z w)) :
    Calls Try.prog 79 #[.pointer o, k, x] w (PutQ (joinT k' x' T r) z w) := by
  obtain ⟨e, a1, a2, a3, a4⟩ := hw
  obtain ⟨xa, xb, xc, rfl⟩ := hxs
  have CC := Lib.hid (fun W => cmpVW_any k k' W hks a1)
  have ec : cmpV k k' = -1 := by unfold cmpV; rw [if_pos hless]
  rw [ec] at CC
  have hkv := h.kv
  obtain ⟨b, ol, or, rfl, c3, c4, hl, hr⟩ := cells34VW h
  obtain ⟨b0, T0, hh, pl, pr, hb0, hc⟩ := hkv
  simp only [Option.some.injEq, Addr.mk.injEq, and_true] at hb0
  subst hb0
  have c0 := cell_of_row w b 0 _ T0 (0, 0) hc
  simp only [List.getElem?_toArray, List.getElem?_cons_zero] at c0
  have HKV := Lib.hid (show KQ w (some ⟨b, 0, none⟩) k' x' from ⟨b, T0, hh, pl, pr, rfl, hc⟩)
  have HI := Lib.hid (fun W hb => IH ol W (TQ.below (w := w) hb hl))
  have CJ := Lib.hid (fun (b' : Nat) (W : World) (hb : Below w.heap.size w W) (hT1 : TQ W (some ⟨b', 0, none⟩) T) =>
    joinVW_any (some ⟨b, 0, none⟩) (some ⟨b', 0, none⟩) or k' x' T r W (HKV.out.below hb) a1 a2 hT1 (TQ.below hb hr) hT.1 a4 ⟨by omega, by omega⟩)
  have hbx := below_alloc w (.cells #[str xa, str xb, .bool xc] 58)
  have HCO := Lib.hid (fun (W : World) (hb : Below w.heap.size w W) => keepcVW c4 hb)
  have c0a := keepcVW c0 hbx
  have c3a := keepcVW c3 hbx
  have c4a := keepcVW c4 hbx
  have hnw := heap_alloc_new w (.cells #[str xa, str xb, .bool xc] 58)
  have q0 : (w.alloc (.cells #[str xa, str xb, .bool xc] 58)).cell? ⟨w.heap.size, 0, none⟩ = some (str xa) := cell_of_row _ w.heap.size 0 _ _ (0, 0) hnw
  have q1 : (w.alloc (.cells #[str xa, str xb, .bool xc] 58)).cell? ⟨w.heap.size, 1, none⟩ = some (str xb) := cell_of_row _ w.heap.size 1 _ _ (0, 0) hnw
  have q2 : (w.alloc (.cells #[str xa, str xb, .bool xc] 58)).cell? ⟨w.heap.size, 2, none⟩ = some (.bool xc) := cell_of_row _ w.heap.size 2 _ _ (0, 0) hnw
  have HBX := Lib.hid (Below.drewsN hbx 1)
  have HS : Hid (∀ W, Below (w.alloc (.cells #[str xa, str xb, .bool xc] 58)).drew.heap.size (w.alloc (.cells #[str xa, str xb, .bool xc] 58)).drew W → W.cell? ⟨b, 5, none⟩ = some (.pointer ol) ∧ W.cell? ⟨w.heap.size, 0, none⟩ = some (str xa) ∧ W.cell? ⟨w.heap.size, 1, none⟩ = some (str xb) ∧ W.cell? ⟨w.heap.size, 2, none⟩ = some (.bool xc)) :=
    Lib.hid (fun W hb => ⟨keepcVW (W := (w.alloc (.cells #[str xa, str xb, .bool xc] 58)).drew) c3a hb, keepcVW (W := (w.alloc (.cells #[str xa, str xb, .bool xc] 58)).drew) q0 hb, keepcVW (W := (w.alloc (.cells #[str xa, str xb, .bool xc] 58)).drew) q1 hb, keepcVW (W := (w.alloc (.cells #[str xa, str xb, .bool xc] 58)).drew) q2 hb⟩)
  clear hc h hl hr hless ec e a1 a2 a3 a4 hn hT IH hbx hnw c0 c3 c4
  go_enter Try.func79, Try.ntmps79
  go_wp2_with (go_at_call 62; refine (CC.out _).mono ?_; rintro e w' ⟨rfl, rfl⟩)
  clear c0a
  go_region_held3 (fun W => W.cell? ⟨b, 5, none⟩ = some (.pointer ol) ∧ W.cell? ⟨w.heap.size, 0, none⟩ = some (str xa) ∧ W.cell? ⟨w.heap.size, 1, none⟩ = some (str xb) ∧ W.cell? ⟨w.heap.size, 2, none⟩ = some (.bool xc))
    (first
      | (exact HS.out _ hb1)
      | (exact HS.out _ (Below.refl _ _))
      | go_keep)
    ((go_at_call 79; refine (HI.out _ HBX.out).mono ?_; rintro e w1 ⟨b1, rfl, ht1, hb1⟩))
  all_goals
    have HB1 := Lib.hid (HBX.out.trans (hb1.mono HBX.out.size))
    have d4 := HCO.out w1 HB1.out
    have HT1 := Lib.hid ht1
    clear hb1 ht1 HS q0 q1 q2 c3a c4a
    go_wp2_with fail
    refine (CJ.out _ _ HB1.out HT1.out).mono ?_
    rintro e w2 ⟨b2, rfl, ht2, hb2⟩
    have HP := Lib.hid (show TQ w2 (some ⟨b2, 0, none⟩) _ ∧ Below _ _ w2 from ⟨ht2, HB1.out.trans (hb2.mono HB1.out.size)⟩)
    clear ht2 hb2 d4
    go_wp2_with fail
    go_ret2
    exact ⟨b2, rfl, HP.out.1, HP.out.2⟩
/-- A put on the right side. -/
theorem put2VW (k x k' x' : Value) (l r : Tr) (n : Nat) (z : Bool) (o : Option Addr) (w : World) (hks : KSVW k) (hxs : VSVW x) (h : TQ w o (.node l k' x' n r)) (hw : WS KSVW VSVW (.node l k' x' n r)) (hn : n < 1152921504606846976) (hno : lessV k k' = false) (hless : lessV k' k = true)
    (T : Tr) (hT : WS KSVW VSVW T ∧ ht T ≤ 1 + n) (IH : ∀ (o : Option Addr) (w : World), TQ w o r → Calls Try.prog 79 #[.pointer o, k, x] w (PutQ T z w)) :
    Calls Try.prog 79 #[.pointer o, k, x] w (PutQ (joinT k' x' l T) z w) := by
  obtain ⟨e, a1, a2, a3, a4⟩ := hw
  obtain ⟨xa, xb, xc, rfl⟩ := hxs
  have CC := Lib.hid (fun W => cmpVW_any k k' W hks a1)
  have ec : cmpV k k' = 1 := by unfold cmpV; rw [if_neg (by simp [hno]), if_pos hless]
  rw [ec] at CC
  have hkv := h.kv
  obtain ⟨b, ol, or, rfl, c3, c4, hl, hr⟩ := cells34VW h
  obtain ⟨b0, T0, hh, pl, pr, hb0, hc⟩ := hkv
  simp only [Option.some.injEq, Addr.mk.injEq, and_true] at hb0
  subst hb0
  have c0 := cell_of_row w b 0 _ T0 (0, 0) hc
  simp only [List.getElem?_toArray, List.getElem?_cons_zero] at c0
  have HKV := Lib.hid (show KQ w (some ⟨b, 0, none⟩) k' x' from ⟨b, T0, hh, pl, pr, rfl, hc⟩)
  have HI := Lib.hid (fun W hb => IH or W (TQ.below (w := w) hb hr))
  have CJ := Lib.hid (fun (b' : Nat) (W : World) (hb : Below w.heap.size w W) (hT1 : TQ W (some ⟨b', 0, none⟩) T) =>
    joinVW_any (some ⟨b, 0, none⟩) ol (some ⟨b', 0, none⟩) k' x' l T W (HKV.out.below hb) a1 a2 (TQ.below hb hl) hT1 a3 hT.1 ⟨by omega, by omega⟩)
  have hbx := below_alloc w (.cells #[str xa, str xb, .bool xc] 58)
  have HCO := Lib.hid (fun (W : World) (hb : Below w.heap.size w W) => keepcVW c3 hb)
  have c0a := keepcVW c0 hbx
  have c3a := keepcVW c3 hbx
  have c4a := keepcVW c4 hbx
  have hnw := heap_alloc_new w (.cells #[str xa, str xb, .bool xc] 58)
  have q0 : (w.alloc (.cells #[str xa, str xb, .bool xc] 58)).cell? ⟨w.heap.size, 0, none⟩ = some (str xa) := cell_of_row _ w.heap.size 0 _ _ (0, 0) hnw
  have q1 : (w.alloc (.cells #[str xa, str xb, .bool xc] 58)).cell? ⟨w.heap.size, 1, none⟩ = some (str xb) := cell_of_row _ w.heap.size 1 _ _ (0, 0) hnw
  have q2 : (w.alloc (.cells #[str xa, str xb, .bool xc] 58)).cell? ⟨w.heap.size, 2, none⟩ = some (.bool xc) := cell_of_row _ w.heap.size 2 _ _ (0, 0) hnw
  have HBX := Lib.hid (Below.drewsN hbx 1)
  have HS : Hid (∀ W, Below (w.alloc (.cells #[str xa, str xb, .bool xc] 58)).drew.heap.size (w.alloc (.cells #[str xa, str xb, .bool xc] 58)).drew W → W.cell? ⟨b, 6, none⟩ = some (.pointer or) ∧ W.cell? ⟨w.heap.size, 0, none⟩ = some (str xa) ∧ W.cell? ⟨w.heap.size, 1, none⟩ = some (str xb) ∧ W.cell? ⟨w.heap.size, 2, none⟩ = some (.bool xc)) :=
    Lib.hid (fun W hb => ⟨keepcVW (W := (w.alloc (.cells #[str xa, str xb, .bool xc] 58)).drew) c4a hb, keepcVW (W := (w.alloc (.cells #[str xa, str xb, .bool xc] 58)).drew) q0 hb, keepcVW (W := (w.alloc (.cells #[str xa, str xb, .bool xc] 58)).drew) q1 hb, keepcVW (W := (w.alloc (.cells #[str xa, str xb, .bool xc] 58)).drew) q2 hb⟩)
  clear hc h hl hr hless hno ec e a1 a2 a3 a4 hn hT IH hbx hnw c0 c3 c4
  go_enter Try.func79, Try.ntmps79
  go_wp2_with (go_at_call 62; refine (CC.out _).mono ?_; rintro e w' ⟨rfl, rfl⟩)
  clear c0a
  go_region_held3 (fun W => W.cell? ⟨b, 6, none⟩ = some (.pointer or) ∧ W.cell? ⟨w.heap.size, 0, none⟩ = some (str xa) ∧ W.cell? ⟨w.heap.size, 1, none⟩ = some (str xb) ∧ W.cell? ⟨w.heap.size, 2, none⟩ = some (.bool xc))
    (first
      | (exact HS.out _ hb1)
      | (exact HS.out _ (Below.refl _ _))
      | go_keep)
    ((go_at_call 79; refine (HI.out _ HBX.out).mono ?_; rintro e w1 ⟨b1, rfl, ht1, hb1⟩))
  all_goals
    have HB1 := Lib.hid (HBX.out.trans (hb1.mono HBX.out.size))
    have d4 := HCO.out w1 HB1.out
    have HT1 := Lib.hid ht1
    clear hb1 ht1 HS q0 q1 q2 c3a c4a
    go_wp2_with fail
    refine (CJ.out _ _ HB1.out HT1.out).mono ?_
    rintro e w2 ⟨b2, rfl, ht2, hb2⟩
    have HP := Lib.hid (show TQ w2 (some ⟨b2, 0, none⟩) _ ∧ Below _ _ w2 from ⟨ht2, HB1.out.trans (hb2.mono HB1.out.size)⟩)
    clear ht2 hb2 d4
    go_wp2_with fail
    go_ret2
    exact ⟨b2, rfl, HP.out.1, HP.out.2⟩
/-- The key stands: its value is another. -/
theorem put3VW (k x x' : Value) (l r : Tr) (n : Nat) (o : Option Addr) (w : World) (hks : KSVW k) (hxs : VSVW x) (h : TQ w o (.node l k x' n r)) (hirr : lessV k k = false) :
    Calls Try.prog 79 #[.pointer o, k, x] w (PutQ (.node l k x n r) false w) := by
  have CC := Lib.hid (fun W => cmpVW_any k k W hks hks)
  have ec : cmpV k k = 0 := by unfold cmpV; rw [if_neg (by simp [hirr]), if_neg (by simp [hirr])]
  rw [ec] at CC
  obtain ⟨xa, xb, xc, rfl⟩ := hxs
  obtain ⟨b, T0, ol, or, rfl, hc, hl, hr⟩ := h
  have hbx := below_alloc w (.cells #[str xa, str xb, .bool xc] 58)
  have hnw := heap_alloc_new w (.cells #[str xa, str xb, .bool xc] 58)
  have hs : (w.alloc (.cells #[str xa, str xb, .bool xc] 58)).heap.size = w.heap.size + 1 := by simp
  have c0 := keepcVW (cell_of_row w b 0 _ T0 (0, 0) hc) hbx
  have c2 := keepcVW (cell_of_row w b 4 _ T0 (0, 0) hc) hbx
  have c3 := keepcVW (cell_of_row w b 5 _ T0 (0, 0) hc) hbx
  have c4 := keepcVW (cell_of_row w b 6 _ T0 (0, 0) hc) hbx
  have q0 : (w.alloc (.cells #[str xa, str xb, .bool xc] 58)).cell? ⟨w.heap.size, 0, none⟩ = some (str xa) := cell_of_row _ w.heap.size 0 _ _ (0, 0) hnw
  have q1 : (w.alloc (.cells #[str xa, str xb, .bool xc] 58)).cell? ⟨w.heap.size, 1, none⟩ = some (str xb) := cell_of_row _ w.heap.size 1 _ _ (0, 0) hnw
  have q2 : (w.alloc (.cells #[str xa, str xb, .bool xc] 58)).cell? ⟨w.heap.size, 2, none⟩ = some (.bool xc) := cell_of_row _ w.heap.size 2 _ _ (0, 0) hnw
  have HL := Lib.hid (TQ.below hbx hl)
  have HR := Lib.hid (TQ.below hbx hr)
  have HBX := Lib.hid (And.intro hbx hs)
  obtain ⟨kn, rfl⟩ := hks
  clear hc hl hr hirr ec hbx hnw hs
  go_enter Try.func79, Try.ntmps79
  go_wp2_with (go_at_call 62; refine (CC.out _).mono ?_; rintro e w' ⟨rfl, rfl⟩)
  clear c0
  go_region_held3 (fun W => W.cell? ⟨b, 4, none⟩ = some (.int .i64 (n : Int)) ∧ W.cell? ⟨b, 5, none⟩ = some (.pointer ol) ∧ W.cell? ⟨b, 6, none⟩ = some (.pointer or) ∧ W.cell? ⟨w.heap.size, 0, none⟩ = some (str xa) ∧ W.cell? ⟨w.heap.size, 1, none⟩ = some (str xb) ∧ W.cell? ⟨w.heap.size, 2, none⟩ = some (.bool xc))
    (first
      | (exact ⟨c2, c3, c4, q0, q1, q2⟩)
      | go_keep)
    (fail)
  all_goals
    go_wp2_with fail
    go_ret2
    have hb : Below (w.alloc (.cells #[str xa, str xb, .bool xc] 58)).heap.size (w.alloc (.cells #[str xa, str xb, .bool xc] 58)) ((w.alloc (.cells #[str xa, str xb, .bool xc] 58)).alloc (.cells #[(str kn), (str xa), (str xb), (.bool xc), .int .i64 (n : Int), .pointer ol, .pointer or] 112)) := below_alloc _ _
    have hn2 := heap_alloc_new (w.alloc (.cells #[str xa, str xb, .bool xc] 58)) (.cells #[(str kn), (str xa), (str xb), (.bool xc), .int .i64 (n : Int), .pointer ol, .pointer or] 112)
    rw [HBX.out.2] at hn2
    exact ⟨w.heap.size + 1, rfl, TQ.drewN 1 ⟨_, _, ol, or, rfl, hn2, TQ.below hb HL.out, TQ.below hb HR.out⟩, Below.drewsN (HBX.out.1.trans (hb.mono HBX.out.1.size)) 1⟩
theorem ordVW : Ord KSVW where
  irr := by
    rintro a ⟨x, rfl⟩
    exact bl_irr x
  tr := by
    rintro a b c ⟨x, rfl⟩ ⟨y, rfl⟩ ⟨z, rfl⟩ h1 h2
    exact bl_tr x y z h1 h2
  tot := by
    rintro a b ⟨x, rfl⟩ ⟨y, rfl⟩ h1 h2
    rw [bl_tot x y h1 h2]
theorem putVW_any (k x : Value) (hks : KSVW k) (hxs : VSVW x) : ∀ (t : Tr) (o : Option Addr) (w : World), TQ w o t → WS KSVW VSVW t → ht t < 1152921504606846976 →
    Calls Try.prog 79 #[.pointer o, k, x] w (PutQ (putT k x t) (newT k t) w)
  | .nil, o, w, h, _, _ => by
    obtain rfl := h
    exact put0VW k x w hks hxs
  | .node l k' x' n r, o, w, h, hw, hn => by
    have hw' := hw
    obtain ⟨e, a1, a2, a3, a4⟩ := hw'
    have hn' : n < 1152921504606846976 := hn
    unfold putT newT
    by_cases g1 : lessV k k' = true
    · rw [if_pos g1, if_pos g1]
      obtain ⟨q1, q2⟩ := WS.put hks hxs a3
      exact put1VW k x k' x' l r n _ o w hks hxs h hw hn' g1 _ ⟨q1, by omega⟩ (fun o w h' => putVW_any k x hks hxs l o w h' a3 (by omega))
    · rw [if_neg g1, if_neg g1]
      by_cases g2 : lessV k' k = true
      · rw [if_pos g2, if_pos g2]
        obtain ⟨q1, q2⟩ := WS.put hks hxs a4
        exact put2VW k x k' x' l r n _ o w hks hxs h hw hn' (by simpa using g1) g2 _ ⟨q1, by omega⟩ (fun o w h' => putVW_any k x hks hxs r o w h' a4 (by omega))
      · rw [if_neg g2, if_neg g2]
        obtain rfl := ordVW.tot k k' hks a1 (by simpa using g1) (by simpa using g2)
        exact put3VW k x x' l r n o w hks hxs h (ordVW.irr k hks)
end Go.Proofs.Ytcgjiddiegepkaa
