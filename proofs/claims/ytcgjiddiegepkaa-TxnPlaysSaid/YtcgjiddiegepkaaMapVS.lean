import Derived.Test.YtcgjiddiegepkaaTreeVS
import Derived.Test.YtcgjiddiegepkaaTrMath
import Derived.Test.YtcgjiddiegepkaaTrMap
/- Trees of omap[string,[]handbill/vers.Version[string]]: join. -/
namespace Go.Proofs.Ytcgjiddiegepkaa
open Go.RowKit

theorem keepcVS {W W' : World} {a j : Nat} {v : Value} (h : W.cell? ⟨a, j, none⟩ = some v) (hb : Below W.heap.size W W') : W'.cell? ⟨a, j, none⟩ = some v := by
  rw [hb.cell (p := ⟨a, j, none⟩) (World.block_lt_of_cell? W _ h)]; exact h
theorem keep2VS {W W' : World} {a b j i : Nat} {v u : Value} (h : W.cell? ⟨a, j, none⟩ = some v ∧ W.cell? ⟨b, i, none⟩ = some u) (hb : Below W.heap.size W W') : W'.cell? ⟨a, j, none⟩ = some v ∧ W'.cell? ⟨b, i, none⟩ = some u := ⟨keepcVS h.1 hb, keepcVS h.2 hb⟩
theorem keep3VS {W W' : World} {a b c j i g : Nat} {v u z : Value} (h : W.cell? ⟨a, j, none⟩ = some v ∧ W.cell? ⟨b, i, none⟩ = some u ∧ W.cell? ⟨c, g, none⟩ = some z) (hb : Below W.heap.size W W') :
    W'.cell? ⟨a, j, none⟩ = some v ∧ W'.cell? ⟨b, i, none⟩ = some u ∧ W'.cell? ⟨c, g, none⟩ = some z := ⟨keepcVS h.1 hb, keepcVS h.2.1 hb, keepcVS h.2.2 hb⟩
theorem cells34VS {W : World} {o : Option Addr} {l r : Tr} {k x : Value} {n : Nat} (h : TP W o (.node l k x n r)) :
    ∃ b ol or, o = some ⟨b, 0, none⟩ ∧ W.cell? ⟨b, 3, none⟩ = some (.pointer ol) ∧ W.cell? ⟨b, 4, none⟩ = some (.pointer or) ∧ TP W ol l ∧ TP W or r := by
  obtain ⟨b, T, ol, or, rfl, hc, hl, hr⟩ := h
  exact ⟨b, ol, or, rfl, cell_of_row W b 3 _ T (0, 0) hc, cell_of_row W b 4 _ T (0, 0) hc, hl, hr⟩
/-- Trees close to each other. -/
theorem join0VS (p ol or : Option Addr) (k x : Value) (l r : Tr) (w : World) (hk : KV w p k x) (hks : KSVS k) (hxs : VSVS x) (hl : TP w ol l) (hr : TP w or r) (hs : ht l < 2305843009213693952 ∧ ht r < 2305843009213693952)
    (h1 : ht l ≤ ht r + 1) (h2 : ht r ≤ ht l + 1) : Calls Try.prog 91 #[.pointer p, .pointer ol, .pointer or] w (TiePost (tieT k x l r) w) := by
  have CL := Lib.hid (heightVS_any ol l w hl)
  have CR := Lib.hid (heightVS_any or r w hr)
  have CT := Lib.hid (tieVS_any p ol or k x l r w hk hks hxs hl hr ⟨by omega, by omega⟩)
  obtain ⟨a, ha⟩ : ∃ a : Nat, a = ht l := ⟨_, rfl⟩
  obtain ⟨d, hd⟩ : ∃ d : Nat, d = ht r := ⟨_, rfl⟩
  rw [← ha] at CL hs h1 h2
  rw [← hd] at CR hs h1 h2
  have n1 : ¬ (1 : Int) < (a : Int) - (d : Int) := by omega
  have n2 : ¬ (a : Int) - (d : Int) < -1 := by omega
  have n3 : -9223372036854775808 ≤ (a : Int) - (d : Int) := by omega
  have n4 : (a : Int) - (d : Int) ≤ 9223372036854775807 := by omega
  clear hk hl hr ha hd h1 h2 hks hxs
  go_enter Try.func91, Try.ntmps91
  go_wp2_with (first
    | (go_at_call 94; with_reducible refine CL.out.mono ?_; rintro e w' ⟨rfl, rfl⟩)
    | (go_at_call 94; with_reducible refine CR.out.mono ?_; rintro e w' ⟨rfl, rfl⟩)
    | fail)
  refine CT.out.mono ?_
  rintro e w1 ⟨b1, rfl, ht1, hb1⟩
  have HP := Lib.hid (show TP w1 (some ⟨b1, 0, none⟩) (tieT k x l r) ∧ Below _ _ w1 from ⟨ht1, hb1⟩)
  clear ht1 hb1
  go_wp2_with fail
  go_ret
  exact ⟨b1, rfl, HP.out.1, HP.out.2⟩
/-- The left one too high, its own left one the higher. -/
theorem join1VS (p ol or : Option Addr) (k x lk lx : Value) (ll lr r : Tr) (n : Nat) (w : World) (hk : KV w p k x) (hks : KSVS k) (hxs : VSVS x) (hlks : KSVS lk) (hlxs : VSVS lx) (hl : TP w ol (.node ll lk lx n lr)) (hr : TP w or r)
    (hs : n < 2305843009213693952 ∧ ht r < 2305843009213693952 ∧ ht ll < n ∧ ht lr < n) (h1 : ht r + 1 < n) (h2 : ht lr ≤ ht ll) :
    Calls Try.prog 91 #[.pointer p, .pointer ol, .pointer or] w (TiePost (tieT lk lx ll (tieT k x lr r)) w) := by
  have CL := Lib.hid (heightVS_any ol _ w hl)
  have CR := Lib.hid (heightVS_any or r w hr)
  have hkl := hl.kv
  obtain ⟨bl, oll, olr, rfl, c3, c4, hll, hlr⟩ := cells34VS hl
  have CLL := Lib.hid (fun m => heightVS_any oll ll (w.drewN m) (hll.drewN m))
  have CLR := Lib.hid (fun m => heightVS_any olr lr (w.drewN m) (hlr.drewN m))
  obtain ⟨e1, e2⟩ : ht ll < 4611686018427387904 ∧ ht (tieT k x lr r) < 4611686018427387904 := ⟨by omega, by rw [ht_tie]; omega⟩
  have CT1 := Lib.hid (fun (W : World) (hb : Below w.heap.size w W) => tieVS_any p olr or k x lr r W (hk.below hb) hks hxs (TP.below hb hlr) (TP.below hb hr) ⟨by omega, by omega⟩)
  have CT2 := Lib.hid (fun (b' : Nat) (W : World) (hb : Below w.heap.size w W) (ht1 : TP W (some ⟨b', 0, none⟩) (tieT k x lr r)) =>
    tieVS_any (some ⟨bl, 0, none⟩) oll (some ⟨b', 0, none⟩) lk lx ll (tieT k x lr r) W (KV.below hkl hb) hlks hlxs (TP.below hb hll) ht1 ⟨e1, e2⟩)
  obtain ⟨d, hd⟩ : ∃ d : Nat, d = ht r := ⟨_, rfl⟩
  obtain ⟨f, hf⟩ : ∃ f : Nat, f = ht ll := ⟨_, rfl⟩
  obtain ⟨g, hg⟩ : ∃ g : Nat, g = ht lr := ⟨_, rfl⟩
  rw [← hd] at CR hs h1
  rw [← hf] at CLL hs h2
  rw [← hg] at CLR hs h2
  simp only [ht] at CL
  have n1 : (1 : Int) < (n : Int) - (d : Int) := by omega
  have n3 : -9223372036854775808 ≤ (n : Int) - (d : Int) := by omega
  have n4 : (n : Int) - (d : Int) ≤ 9223372036854775807 := by omega
  have n5 : (g : Int) ≤ (f : Int) := by omega
  clear hk hl hr hd hf hg h1 h2 hs hks hxs hlks hlxs hll hlr hkl e1 e2
  go_enter Try.func91, Try.ntmps91
  go_wp2_with (first
    | (go_at_call 94; with_reducible refine CL.out.mono ?_; rintro e w' ⟨rfl, rfl⟩)
    | (go_at_call 94; with_reducible refine CR.out.mono ?_; rintro e w' ⟨rfl, rfl⟩)
    | fail)
  go_quiet ((first
    | (go_at_call 94; with_reducible exact Calls.quiet_of_same (CLL.out _))
    | (go_at_call 94; with_reducible exact Calls.quiet_of_same (CLR.out _))))
  go_wp2_with fail
  have HC := Lib.hid (show (w'.drewN nq).cell? ⟨bl, 3, none⟩ = some (.pointer oll) ∧ (w'.drewN nq).cell? ⟨bl, 4, none⟩ = some (.pointer olr) from ⟨c3, c4⟩)
  have HB0 := Lib.hid (show Below w'.heap.size w' (w'.drewN nq) from Below.drewsN (Below.refl _ _) nq)
  generalize w'.drewN nq = W0 at HC HB0 ⊢
  have HBD := Lib.hid (show Below w'.heap.size w' W0.drew from Below.drewsN HB0.out 1)
  clear c3 c4
  go_region_held3 (fun W => W.cell? ⟨bl, 3, none⟩ = some (.pointer oll) ∧ W.cell? ⟨bl, 4, none⟩ = some (.pointer olr))
    (first
      | (exact HC.out)
      | (refine keep2VS ?_ hb2; assumption)
      | (refine keep2VS ?_ hb1; assumption)
      | go_keep)
    ((first
      | (go_at_call 95
         (with_reducible refine (CT1.out _ HBD.out).mono ?_)
         rintro e w1 ⟨b1, rfl, ht1, hb1⟩)
      | (go_at_call 95
         (with_reducible refine (CT2.out _ _ (HBD.out.trans (hb1.mono HBD.out.size)) ht1).mono ?_)
         rintro e w2 ⟨b2, rfl, ht2, hb2⟩)
      | fail))
  all_goals
    have HP := Lib.hid (show TP w2 (some ⟨b2, 0, none⟩) _ ∧ Below _ _ w2 from ⟨ht2, (HBD.out.trans (hb1.mono HBD.out.size)).trans (hb2.mono (HBD.out.trans (hb1.mono HBD.out.size)).size)⟩)
    clear ht1 hb1 ht2 hb2
    go_wp2_with fail
    go_ret
    exact ⟨b2, rfl, HP.out.1, HP.out.2⟩
/-- The left one too high, its own right one the higher. -/
theorem join2VS (p ol or : Option Addr) (k x lk lx mk mx : Value) (ll ml mr r : Tr) (n m : Nat) (w : World) (hk : KV w p k x) (hks : KSVS k) (hxs : VSVS x) (hlks : KSVS lk) (hlxs : VSVS lx) (hmks : KSVS mk) (hmxs : VSVS mx) (hl : TP w ol (.node ll lk lx n (.node ml mk mx m mr))) (hr : TP w or r)
    (hs : n < 2305843009213693952 ∧ ht r < 2305843009213693952 ∧ ht ll < n ∧ m < n ∧ ht ml < m ∧ ht mr < m) (h1 : ht r + 1 < n) (h2 : ht ll < m) :
    Calls Try.prog 91 #[.pointer p, .pointer ol, .pointer or] w (TiePost (tieT mk mx (tieT lk lx ll ml) (tieT k x mr r)) w) := by
  have CL := Lib.hid (heightVS_any ol _ w hl)
  have CR := Lib.hid (heightVS_any or r w hr)
  have hkl := hl.kv
  obtain ⟨bl, oll, olr, rfl, c3, c4, hll, hlr⟩ := cells34VS hl
  have CLL := Lib.hid (fun m => heightVS_any oll ll (w.drewN m) (hll.drewN m))
  have CLR := Lib.hid (fun m => heightVS_any olr _ (w.drewN m) (hlr.drewN m))
  have hkm := hlr.kv
  obtain ⟨bm, oml, omr, rfl, c5, c6, hml, hmr⟩ := cells34VS hlr
  obtain ⟨e1, e2⟩ : ht (tieT lk lx ll ml) < 4611686018427387904 ∧ ht (tieT k x mr r) < 4611686018427387904 := ⟨by rw [ht_tie]; omega, by rw [ht_tie]; omega⟩
  have CT1 := Lib.hid (fun (W : World) (hb : Below w.heap.size w W) => tieVS_any (some ⟨bl, 0, none⟩) oll oml lk lx ll ml W (hkl.below hb) hlks hlxs (TP.below hb hll) (TP.below hb hml) ⟨by omega, by omega⟩)
  have CT2 := Lib.hid (fun (W : World) (hb : Below w.heap.size w W) => tieVS_any p omr or k x mr r W (hk.below hb) hks hxs (TP.below hb hmr) (TP.below hb hr) ⟨by omega, by omega⟩)
  have CT3 := Lib.hid (fun (b' b'' : Nat) (W : World) (hb : Below w.heap.size w W) (ht1 : TP W (some ⟨b', 0, none⟩) (tieT lk lx ll ml)) (ht2 : TP W (some ⟨b'', 0, none⟩) (tieT k x mr r)) =>
    tieVS_any (some ⟨bm, 0, none⟩) (some ⟨b', 0, none⟩) (some ⟨b'', 0, none⟩) mk mx _ _ W (KV.below hkm hb) hmks hmxs ht1 ht2 ⟨e1, e2⟩)
  obtain ⟨d, hd⟩ : ∃ d : Nat, d = ht r := ⟨_, rfl⟩
  obtain ⟨f, hf⟩ : ∃ f : Nat, f = ht ll := ⟨_, rfl⟩
  rw [← hd] at CR hs h1
  rw [← hf] at CLL hs h2
  simp only [ht] at CL CLR
  have n1 : (1 : Int) < (n : Int) - (d : Int) := by omega
  have n3 : -9223372036854775808 ≤ (n : Int) - (d : Int) := by omega
  have n4 : (n : Int) - (d : Int) ≤ 9223372036854775807 := by omega
  have n5 : ¬ (m : Int) ≤ (f : Int) := by omega
  clear hk hl hr hd hf h1 h2 hs hks hxs hlks hlxs hll hlr hkl e1 e2 hml hmr hkm hmks hmxs
  go_enter Try.func91, Try.ntmps91
  go_wp2_with (first
    | (go_at_call 94; with_reducible refine CL.out.mono ?_; rintro e w' ⟨rfl, rfl⟩)
    | (go_at_call 94; with_reducible refine CR.out.mono ?_; rintro e w' ⟨rfl, rfl⟩)
    | fail)
  go_quiet ((first
    | (go_at_call 94; with_reducible exact Calls.quiet_of_same (CLL.out _))
    | (go_at_call 94; with_reducible exact Calls.quiet_of_same (CLR.out _))))
  go_wp2_with fail
  have HC := Lib.hid (show (w'.drewN nq).cell? ⟨bl, 3, none⟩ = some (.pointer oll) ∧ (w'.drewN nq).cell? ⟨bm, 3, none⟩ = some (.pointer oml) ∧ (w'.drewN nq).cell? ⟨bm, 4, none⟩ = some (.pointer omr) from ⟨c3, c5, c6⟩)
  have HB0 := Lib.hid (show Below w'.heap.size w' (w'.drewN nq) from Below.drewsN (Below.refl _ _) nq)
  generalize w'.drewN nq = W0 at HC HB0 ⊢
  have HBD := Lib.hid (show Below w'.heap.size w' W0.drew from Below.drewsN HB0.out 1)
  clear c3 c4 c5 c6
  go_region_held3 (fun W => W.cell? ⟨bl, 3, none⟩ = some (.pointer oll) ∧ W.cell? ⟨bm, 3, none⟩ = some (.pointer oml) ∧ W.cell? ⟨bm, 4, none⟩ = some (.pointer omr))
    (first
      | (exact HC.out)
      | (refine keep3VS ?_ hb3; assumption)
      | (refine keep3VS ?_ hb2; assumption)
      | (refine keep3VS ?_ hb1; assumption)
      | go_keep)
    ((first
      | (go_at_call 95
         (with_reducible refine (CT1.out _ HBD.out).mono ?_)
         rintro e w1 ⟨b1, rfl, ht1, hb1⟩)
      | (go_at_call 95
         (with_reducible refine (CT2.out _ (HBD.out.trans (hb1.mono HBD.out.size))).mono ?_)
         rintro e w2 ⟨b2, rfl, ht2, hb2⟩)
      | (go_at_call 95
         (with_reducible refine (CT3.out _ _ _ ((HBD.out.trans (hb1.mono HBD.out.size)).trans (hb2.mono (HBD.out.trans (hb1.mono HBD.out.size)).size)) (TP.below hb2 ht1) ht2).mono ?_)
         rintro e w3 ⟨b3, rfl, ht3, hb3⟩)
      | fail))
  all_goals
    have HQ := (HBD.out.trans (hb1.mono HBD.out.size)).trans (hb2.mono (HBD.out.trans (hb1.mono HBD.out.size)).size)
    have HP := Lib.hid (show TP w3 (some ⟨b3, 0, none⟩) _ ∧ Below _ _ w3 from ⟨ht3, HQ.trans (hb3.mono HQ.size)⟩)
    clear ht1 hb1 ht2 hb2 ht3 hb3 HQ
    go_wp2_with fail
    go_ret
    exact ⟨b3, rfl, HP.out.1, HP.out.2⟩
/-- The right one too high, its own right one the higher. -/
theorem join3VS (p ol or : Option Addr) (k x rk rx : Value) (l rl rr : Tr) (n : Nat) (w : World) (hk : KV w p k x) (hks : KSVS k) (hxs : VSVS x) (hrks : KSVS rk) (hrxs : VSVS rx) (hl : TP w ol l) (hr : TP w or (.node rl rk rx n rr))
    (hs : n < 2305843009213693952 ∧ ht l < 2305843009213693952 ∧ ht rl < n ∧ ht rr < n) (h1 : ht l + 1 < n) (h2 : ht rl ≤ ht rr) :
    Calls Try.prog 91 #[.pointer p, .pointer ol, .pointer or] w (TiePost (tieT rk rx (tieT k x l rl) rr) w) := by
  have CL := Lib.hid (heightVS_any ol l w hl)
  have CR := Lib.hid (heightVS_any or _ w hr)
  have hkr := hr.kv
  obtain ⟨br, orl, orr, rfl, c3, c4, hrl, hrr⟩ := cells34VS hr
  have CLL := Lib.hid (fun m => heightVS_any orl rl (w.drewN m) (hrl.drewN m))
  have CLR := Lib.hid (fun m => heightVS_any orr rr (w.drewN m) (hrr.drewN m))
  obtain ⟨e1, e2⟩ : ht (tieT k x l rl) < 4611686018427387904 ∧ ht rr < 4611686018427387904 := ⟨by rw [ht_tie]; omega, by omega⟩
  have CT1 := Lib.hid (fun (W : World) (hb : Below w.heap.size w W) => tieVS_any p ol orl k x l rl W (hk.below hb) hks hxs (TP.below hb hl) (TP.below hb hrl) ⟨by omega, by omega⟩)
  have CT2 := Lib.hid (fun (b' : Nat) (W : World) (hb : Below w.heap.size w W) (ht1 : TP W (some ⟨b', 0, none⟩) (tieT k x l rl)) =>
    tieVS_any (some ⟨br, 0, none⟩) (some ⟨b', 0, none⟩) orr rk rx _ rr W (KV.below hkr hb) hrks hrxs ht1 (TP.below hb hrr) ⟨e1, e2⟩)
  obtain ⟨d, hd⟩ : ∃ d : Nat, d = ht l := ⟨_, rfl⟩
  obtain ⟨f, hf⟩ : ∃ f : Nat, f = ht rl := ⟨_, rfl⟩
  obtain ⟨g, hg⟩ : ∃ g : Nat, g = ht rr := ⟨_, rfl⟩
  rw [← hd] at CL hs h1
  rw [← hf] at CLL hs h2
  rw [← hg] at CLR hs h2
  simp only [ht] at CR
  have n1 : ¬ (1 : Int) < (d : Int) - (n : Int) := by omega
  have n2 : (d : Int) - (n : Int) < -1 := by omega
  have n3 : -9223372036854775808 ≤ (d : Int) - (n : Int) := by omega
  have n4 : (d : Int) - (n : Int) ≤ 9223372036854775807 := by omega
  have n5 : (f : Int) ≤ (g : Int) := by omega
  clear hk hl hr hd hf hg h1 h2 hs hks hxs hrks hrxs hrl hrr hkr e1 e2
  go_enter Try.func91, Try.ntmps91
  go_wp2_with (first
    | (go_at_call 94; with_reducible refine CL.out.mono ?_; rintro e w' ⟨rfl, rfl⟩)
    | (go_at_call 94; with_reducible refine CR.out.mono ?_; rintro e w' ⟨rfl, rfl⟩)
    | fail)
  go_quiet ((first
    | (go_at_call 94; with_reducible exact Calls.quiet_of_same (CLL.out _))
    | (go_at_call 94; with_reducible exact Calls.quiet_of_same (CLR.out _))))
  go_wp2_with fail
  have HC := Lib.hid (show (w'.drewN nq).cell? ⟨br, 3, none⟩ = some (.pointer orl) ∧ (w'.drewN nq).cell? ⟨br, 4, none⟩ = some (.pointer orr) from ⟨c3, c4⟩)
  have HB0 := Lib.hid (show Below w'.heap.size w' (w'.drewN nq) from Below.drewsN (Below.refl _ _) nq)
  generalize w'.drewN nq = W0 at HC HB0 ⊢
  have HBD := Lib.hid (show Below w'.heap.size w' W0.drew from Below.drewsN HB0.out 1)
  clear c3 c4
  go_region_held3 (fun W => W.cell? ⟨br, 3, none⟩ = some (.pointer orl) ∧ W.cell? ⟨br, 4, none⟩ = some (.pointer orr))
    (first
      | (exact HC.out)
      | (refine keep2VS ?_ hb2; assumption)
      | (refine keep2VS ?_ hb1; assumption)
      | go_keep)
    ((first
      | (go_at_call 95
         (with_reducible refine (CT1.out _ HBD.out).mono ?_)
         rintro e w1 ⟨b1, rfl, ht1, hb1⟩)
      | (go_at_call 95
         (with_reducible refine (CT2.out _ _ (HBD.out.trans (hb1.mono HBD.out.size)) ht1).mono ?_)
         rintro e w2 ⟨b2, rfl, ht2, hb2⟩)
      | fail))
  all_goals
    have HP := Lib.hid (show TP w2 (some ⟨b2, 0, none⟩) _ ∧ Below _ _ w2 from ⟨ht2, (HBD.out.trans (hb1.mono HBD.out.size)).trans (hb2.mono (HBD.out.trans (hb1.mono HBD.out.size)).size)⟩)
    clear ht1 hb1 ht2 hb2
    go_wp2_with fail
    go_ret
    exact ⟨b2, rfl, HP.out.1, HP.out.2⟩
/-- The right one too high, its own left one the higher. -/
theorem join4VS (p ol or : Option Addr) (k x rk rx mk mx : Value) (l ml mr rr : Tr) (n m : Nat) (w : World) (hk : KV w p k x) (hks : KSVS k) (hxs : VSVS x) (hrks : KSVS rk) (hrxs : VSVS rx) (hmks : KSVS mk) (hmxs : VSVS mx) (hl : TP w ol l) (hr : TP w or (.node (.node ml mk mx m mr) rk rx n rr))
    (hs : n < 2305843009213693952 ∧ ht l < 2305843009213693952 ∧ ht rr < n ∧ m < n ∧ ht ml < m ∧ ht mr < m) (h1 : ht l + 1 < n) (h2 : ht rr < m) :
    Calls Try.prog 91 #[.pointer p, .pointer ol, .pointer or] w (TiePost (tieT mk mx (tieT k x l ml) (tieT rk rx mr rr)) w) := by
  have CL := Lib.hid (heightVS_any ol l w hl)
  have CR := Lib.hid (heightVS_any or _ w hr)
  have hkr := hr.kv
  obtain ⟨br, orl, orr, rfl, c3, c4, hrl, hrr⟩ := cells34VS hr
  have CLL := Lib.hid (fun m => heightVS_any orl _ (w.drewN m) (hrl.drewN m))
  have CLR := Lib.hid (fun m => heightVS_any orr rr (w.drewN m) (hrr.drewN m))
  have hkm := hrl.kv
  obtain ⟨bm, oml, omr, rfl, c5, c6, hml, hmr⟩ := cells34VS hrl
  obtain ⟨e1, e2⟩ : ht (tieT k x l ml) < 4611686018427387904 ∧ ht (tieT rk rx mr rr) < 4611686018427387904 := ⟨by rw [ht_tie]; omega, by rw [ht_tie]; omega⟩
  have CT1 := Lib.hid (fun (W : World) (hb : Below w.heap.size w W) => tieVS_any p ol oml k x l ml W (hk.below hb) hks hxs (TP.below hb hl) (TP.below hb hml) ⟨by omega, by omega⟩)
  have CT2 := Lib.hid (fun (W : World) (hb : Below w.heap.size w W) => tieVS_any (some ⟨br, 0, none⟩) omr orr rk rx mr rr W (hkr.below hb) hrks hrxs (TP.below hb hmr) (TP.below hb hrr) ⟨by omega, by omega⟩)
  have CT3 := Lib.hid (fun (b' b'' : Nat) (W : World) (hb : Below w.heap.size w W) (ht1 : TP W (some ⟨b', 0, none⟩) (tieT k x l ml)) (ht2 : TP W (some ⟨b'', 0, none⟩) (tieT rk rx mr rr)) =>
    tieVS_any (some ⟨bm, 0, none⟩) (some ⟨b', 0, none⟩) (some ⟨b'', 0, none⟩) mk mx _ _ W (KV.below hkm hb) hmks hmxs ht1 ht2 ⟨e1, e2⟩)
  obtain ⟨d, hd⟩ : ∃ d : Nat, d = ht l := ⟨_, rfl⟩
  obtain ⟨g, hg⟩ : ∃ g : Nat, g = ht rr := ⟨_, rfl⟩
  rw [← hd] at CL hs h1
  rw [← hg] at CLR hs h2
  simp only [ht] at CR CLL
  have n1 : ¬ (1 : Int) < (d : Int) - (n : Int) := by omega
  have n2 : (d : Int) - (n : Int) < -1 := by omega
  have n3 : -9223372036854775808 ≤ (d : Int) - (n : Int) := by omega
  have n4 : (d : Int) - (n : Int) ≤ 9223372036854775807 := by omega
  have n5 : ¬ (m : Int) ≤ (g : Int) := by omega
  clear hk hl hr hd hg h1 h2 hs hks hxs hrks hrxs hrl hrr hkr e1 e2 hml hmr hkm hmks hmxs
  go_enter Try.func91, Try.ntmps91
  go_wp2_with (first
    | (go_at_call 94; with_reducible refine CL.out.mono ?_; rintro e w' ⟨rfl, rfl⟩)
    | (go_at_call 94; with_reducible refine CR.out.mono ?_; rintro e w' ⟨rfl, rfl⟩)
    | fail)
  go_quiet ((first
    | (go_at_call 94; with_reducible exact Calls.quiet_of_same (CLL.out _))
    | (go_at_call 94; with_reducible exact Calls.quiet_of_same (CLR.out _))))
  go_wp2_with fail
  have HC := Lib.hid (show (w'.drewN nq).cell? ⟨bm, 3, none⟩ = some (.pointer oml) ∧ (w'.drewN nq).cell? ⟨bm, 4, none⟩ = some (.pointer omr) ∧ (w'.drewN nq).cell? ⟨br, 4, none⟩ = some (.pointer orr) from ⟨c5, c6, c4⟩)
  have HB0 := Lib.hid (show Below w'.heap.size w' (w'.drewN nq) from Below.drewsN (Below.refl _ _) nq)
  generalize w'.drewN nq = W0 at HC HB0 ⊢
  have HBD := Lib.hid (show Below w'.heap.size w' W0.drew from Below.drewsN HB0.out 1)
  clear c3 c4 c5 c6
  go_region_held3 (fun W => W.cell? ⟨bm, 3, none⟩ = some (.pointer oml) ∧ W.cell? ⟨bm, 4, none⟩ = some (.pointer omr) ∧ W.cell? ⟨br, 4, none⟩ = some (.pointer orr))
    (first
      | (exact HC.out)
      | (refine keep3VS ?_ hb3; assumption)
      | (refine keep3VS ?_ hb2; assumption)
      | (refine keep3VS ?_ hb1; assumption)
      | go_keep)
    ((first
      | (go_at_call 95
         (with_reducible refine (CT1.out _ HBD.out).mono ?_)
         rintro e w1 ⟨b1, rfl, ht1, hb1⟩)
      | (go_at_call 95
         (with_reducible refine (CT2.out _ (HBD.out.trans (hb1.mono HBD.out.size))).mono ?_)
         rintro e w2 ⟨b2, rfl, ht2, hb2⟩)
      | (go_at_call 95
         (with_reducible refine (CT3.out _ _ _ ((HBD.out.trans (hb1.mono HBD.out.size)).trans (hb2.mono (HBD.out.trans (hb1.mono HBD.out.size)).size)) (TP.below hb2 ht1) ht2).mono ?_)
         rintro e w3 ⟨b3, rfl, ht3, hb3⟩)
      | fail))
  all_goals
    have HQ := (HBD.out.trans (hb1.mono HBD.out.size)).trans (hb2.mono (HBD.out.trans (hb1.mono HBD.out.size)).size)
    have HP := Lib.hid (show TP w3 (some ⟨b3, 0, none⟩) _ ∧ Below _ _ w3 from ⟨ht3, HQ.trans (hb3.mono HQ.size)⟩)
    clear ht1 hb1 ht2 hb2 ht3 hb3 HQ
    go_wp2_with fail
    go_ret
    exact ⟨b3, rfl, HP.out.1, HP.out.2⟩
end Go.Proofs.Ytcgjiddiegepkaa

/- Trees of omap[string,[]handbill/vers.Version[string]]: join whole, Compare, put. -/
namespace Go.Proofs.Ytcgjiddiegepkaa
open Go.RowKit

theorem joinVS_any (p ol or : Option Addr) (k x : Value) (l r : Tr) (w : World) (hk : KV w p k x) (hks : KSVS k) (hxs : VSVS x) (hl : TP w ol l) (hr : TP w or r) (wl : WS KSVS VSVS l) (wr : WS KSVS VSVS r)
    (hs : ht l < 2305843009213693952 ∧ ht r < 2305843009213693952) : Calls Try.prog 91 #[.pointer p, .pointer ol, .pointer or] w (TiePost (joinT k x l r) w) := by
  unfold joinT
  by_cases h1 : ht r + 1 < ht l
  · rw [if_pos h1]
    cases l with
    | nil => simp [ht] at h1
    | node ll lk lx n lr =>
      obtain ⟨e, a1, a2, a3, a4⟩ := wl
      have e' : n = 1 + max (ht ll) (ht lr) := e
      have h1' : ht r + 1 < n := h1
      have hs' : n < 2305843009213693952 ∧ ht r < 2305843009213693952 := hs
      simp only
      by_cases h2 : ht lr ≤ ht ll
      · rw [if_pos h2]
        exact join1VS p ol or k x lk lx ll lr r n w hk hks hxs a1 a2 hl hr ⟨hs'.1, hs'.2, by omega, by omega⟩ h1' h2
      · rw [if_neg h2]
        cases lr with
        | nil => simp [ht] at h2
        | node ml mk mx m mr =>
          obtain ⟨e2, b1, b2, b3, b4⟩ := a4
          have e2' : m = 1 + max (ht ml) (ht mr) := e2
          have h2' : ¬ m ≤ ht ll := h2
          have e3 : n = 1 + max (ht ll) m := e'
          exact join2VS p ol or k x lk lx mk mx ll ml mr r n m w hk hks hxs a1 a2 b1 b2 hl hr ⟨hs'.1, hs'.2, by omega, by omega, by omega, by omega⟩ h1' (by omega)
  · rw [if_neg h1]
    by_cases h3 : ht l + 1 < ht r
    · rw [if_pos h3]
      cases r with
      | nil => simp [ht] at h3
      | node rl rk rx n rr =>
        obtain ⟨e, a1, a2, a3, a4⟩ := wr
        have e' : n = 1 + max (ht rl) (ht rr) := e
        have h3' : ht l + 1 < n := h3
        have hs' : ht l < 2305843009213693952 ∧ n < 2305843009213693952 := hs
        simp only
        by_cases h2 : ht rl ≤ ht rr
        · rw [if_pos h2]
          exact join3VS p ol or k x rk rx l rl rr n w hk hks hxs a1 a2 hl hr ⟨hs'.2, hs'.1, by omega, by omega⟩ h3' h2
        · rw [if_neg h2]
          cases rl with
          | nil => simp [ht] at h2
          | node ml mk mx m mr =>
            obtain ⟨e2, b1, b2, b3, b4⟩ := a3
            have e2' : m = 1 + max (ht ml) (ht mr) := e2
            have h2' : ¬ m ≤ ht rr := h2
            have e3 : n = 1 + max m (ht rr) := e'
            exact join4VS p ol or k x rk rx mk mx l ml mr rr n m w hk hks hxs a1 a2 b1 b2 hl hr ⟨hs'.2, hs'.1, by omega, by omega, by omega, by omega⟩ h3' (by omega)
    · rw [if_neg h3]
      exact join0VS p ol or k x l r w hk hks hxs hl hr hs (by omega) (by omega)
theorem cmpSVS (a b : List UInt8) (w : World) : Calls Try.prog 62 #[str a, str b] w fun e w' => e = .returned (.int .i64 (cmpV (str a) (str b))) ∧ w' = w := by
  have e1 : lessV (str a) (str b) = Op.bytesLess a b := rfl
  have e2 : lessV (str b) (str a) = Op.bytesLess b a := rfl
  unfold cmpV
  rw [e1, e2]
  have n1 : (a != a) = false := bne_self_eq_false _
  have n2 : (b != b) = false := bne_self_eq_false _
  clear e1 e2
  by_cases h1 : Op.bytesLess a b = true
  · rw [if_pos h1]
    go_enter Try.func62, Try.ntmps62
    go_wp2
    go_ret
    exact ⟨rfl, rfl⟩
  rw [if_neg h1]
  have h1' : Op.bytesLess a b = false := by simpa using h1
  clear h1
  by_cases h2 : Op.bytesLess b a = true
  · rw [if_pos h2]
    have n3 : (a == b) = false := by
      rw [beq_eq_false_iff_ne]
      rintro rfl
      rw [bl_irr] at h2
      cases h2
    go_enter Try.func62, Try.ntmps62
    go_wp2
    go_ret
    exact ⟨rfl, rfl⟩
  rw [if_neg h2]
  have h2' : Op.bytesLess b a = false := by simpa using h2
  clear h2
  obtain rfl := bl_tot a b h1' h2'
  have n3 : (a == a) = true := by simp
  clear n2 h2'
  go_enter Try.func62, Try.ntmps62
  go_wp2
  go_ret
  exact ⟨rfl, rfl⟩
theorem cmpVS_any (a b : Value) (w : World) (ha : KSVS a) (hb : KSVS b) : Calls Try.prog 62 #[a, b] w fun e w' => e = .returned (.int .i64 (cmpV a b)) ∧ w' = w := by
  obtain ⟨x, rfl⟩ := ha
  obtain ⟨y, rfl⟩ := hb
  exact cmpSVS x y w
theorem put0VS (k x : Value) (w : World) (hks : KSVS k) (hxs : VSVS x) : Calls Try.prog 81 #[.pointer none, k, x] w (PutPost (.node .nil k x 1 .nil) true w) := by
  obtain ⟨kn, rfl⟩ := hks
  obtain ⟨xa, xn, xc, rfl⟩ := hxs
  go_enter Try.func81, Try.ntmps81
  go_wp2_with fail
  go_ret2
  exact ⟨w.heap.size, rfl, ⟨_, _, none, none, rfl, heap_alloc_new w _, rfl, rfl⟩, below_alloc _ _⟩
/-- The key is less: the left tree's turn. -/
theorem put1VS (k x k' x' : Value) (l r : Tr) (n : Nat) (z : Bool) (o : Option Addr) (w : World) (hks : KSVS k) (h : TP w o (.node l k' x' n r)) (hw : WS KSVS VSVS (.node l k' x' n r)) (hn : n < 1152921504606846976) (hless : lessV k k' = true)
    (T : Tr) (hT : WS KSVS VSVS T ∧ ht T ≤ 1 + n) (IH : ∀ (o : Option Addr) (w : World), TP w o l → Calls Try.prog 81 #[.pointer o, k, x] w (PutPost T z w)) :
    Calls Try.prog 81 #[.pointer o, k, x] w (PutPost (joinT k' x' T r) z w) := by
  obtain ⟨e, a1, a2, a3, a4⟩ := hw
  have CC := Lib.hid (fun W => cmpVS_any k k' W hks a1)
  have ec : cmpV k k' = -1 := by unfold cmpV; rw [if_pos hless]
  rw [ec] at CC
  have hkv := h.kv
  obtain ⟨b, ol, or, rfl, c3, c4, hl, hr⟩ := cells34VS h
  obtain ⟨b0, T0, hh, pl, pr, hb0, hc⟩ := hkv
  simp only [Option.some.injEq, Addr.mk.injEq, and_true] at hb0
  subst hb0
  have c0 := cell_of_row w b 0 _ T0 (0, 0) hc
  simp only [List.getElem?_toArray, List.getElem?_cons_zero] at c0
  have HKV := Lib.hid (show KV w (some ⟨b, 0, none⟩) k' x' from ⟨b, T0, hh, pl, pr, rfl, hc⟩)
  have HI := Lib.hid (fun W hb => IH ol W (TP.below (w := w) hb hl))
  have CJ := Lib.hid (fun (b' : Nat) (W : World) (hb : Below w.heap.size w W) (hT1 : TP W (some ⟨b', 0, none⟩) T) =>
    joinVS_any (some ⟨b, 0, none⟩) (some ⟨b', 0, none⟩) or k' x' T r W (HKV.out.below hb) a1 a2 hT1 (TP.below hb hr) hT.1 a4 ⟨by omega, by omega⟩)
  have hlt := World.block_lt_of_cell? w _ c4
  have C4 := Lib.hid (fun (W : World) (hb : Below w.heap.size w W) => (keepcVS c4 hb))
  clear hc h hl hr hless ec e a1 a2 a3 a4 hn hT IH
  go_enter Try.func81, Try.ntmps81
  go_wp2_with (go_at_call 62; refine (CC.out _).mono ?_; rintro e w' ⟨rfl, rfl⟩)
  refine (HI.out _ (Below.refl _ _)).mono ?_
  rintro e w1 ⟨b1, rfl, ht1, hb1⟩
  have d4 := C4.out w1 hb1
  have HB1 := Lib.hid hb1
  have HT1 := Lib.hid ht1
  clear hb1 ht1 c0 c3 c4
  go_wp2_with fail
  refine (CJ.out _ _ HB1.out HT1.out).mono ?_
  rintro e w2 ⟨b2, rfl, ht2, hb2⟩
  have HP := Lib.hid (show TP w2 (some ⟨b2, 0, none⟩) _ ∧ Below _ _ w2 from ⟨ht2, HB1.out.trans (hb2.mono HB1.out.size)⟩)
  clear ht2 hb2 d4
  go_wp2_with fail
  go_ret2
  exact ⟨b2, rfl, HP.out.1, HP.out.2⟩
/-- The key is greater: the right tree's turn. -/
theorem put2VS (k x k' x' : Value) (l r : Tr) (n : Nat) (z : Bool) (o : Option Addr) (w : World) (hks : KSVS k) (h : TP w o (.node l k' x' n r)) (hw : WS KSVS VSVS (.node l k' x' n r)) (hn : n < 1152921504606846976) (hno : lessV k k' = false) (hless : lessV k' k = true)
    (T : Tr) (hT : WS KSVS VSVS T ∧ ht T ≤ 1 + n) (IH : ∀ (o : Option Addr) (w : World), TP w o r → Calls Try.prog 81 #[.pointer o, k, x] w (PutPost T z w)) :
    Calls Try.prog 81 #[.pointer o, k, x] w (PutPost (joinT k' x' l T) z w) := by
  obtain ⟨e, a1, a2, a3, a4⟩ := hw
  have CC := Lib.hid (fun W => cmpVS_any k k' W hks a1)
  have ec : cmpV k k' = 1 := by unfold cmpV; rw [if_neg (by simp [hno]), if_pos hless]
  rw [ec] at CC
  have hkv := h.kv
  obtain ⟨b, ol, or, rfl, c3, c4, hl, hr⟩ := cells34VS h
  obtain ⟨b0, T0, hh, pl, pr, hb0, hc⟩ := hkv
  simp only [Option.some.injEq, Addr.mk.injEq, and_true] at hb0
  subst hb0
  have c0 := cell_of_row w b 0 _ T0 (0, 0) hc
  simp only [List.getElem?_toArray, List.getElem?_cons_zero] at c0
  have HKV := Lib.hid (show KV w (some ⟨b, 0, none⟩) k' x' from ⟨b, T0, hh, pl, pr, rfl, hc⟩)
  have HI := Lib.hid (fun W hb => IH or W (TP.below (w := w) hb hr))
  have CJ := Lib.hid (fun (b' : Nat) (W : World) (hb : Below w.heap.size w W) (hT1 : TP W (some ⟨b', 0, none⟩) T) =>
    joinVS_any (some ⟨b, 0, none⟩) ol (some ⟨b', 0, none⟩) k' x' l T W (HKV.out.below hb) a1 a2 (TP.below hb hl) hT1 a3 hT.1 ⟨by omega, by omega⟩)
  have hlt := World.block_lt_of_cell? w _ c3
  have C4 := Lib.hid (fun (W : World) (hb : Below w.heap.size w W) => (keepcVS c3 hb))
  clear hc h hl hr hless hno ec e a1 a2 a3 a4 hn hT IH
  go_enter Try.func81, Try.ntmps81
  go_wp2_with (go_at_call 62; refine (CC.out _).mono ?_; rintro e w' ⟨rfl, rfl⟩)
  refine (HI.out _ (Below.refl _ _)).mono ?_
  rintro e w1 ⟨b1, rfl, ht1, hb1⟩
  have d4 := C4.out w1 hb1
  have HB1 := Lib.hid hb1
  have HT1 := Lib.hid ht1
  clear hb1 ht1 c0 c3 c4
  go_wp2_with fail
  refine (CJ.out _ _ HB1.out HT1.out).mono ?_
  rintro e w2 ⟨b2, rfl, ht2, hb2⟩
  have HP := Lib.hid (show TP w2 (some ⟨b2, 0, none⟩) _ ∧ Below _ _ w2 from ⟨ht2, HB1.out.trans (hb2.mono HB1.out.size)⟩)
  clear ht2 hb2 d4
  go_wp2_with fail
  go_ret2
  exact ⟨b2, rfl, HP.out.1, HP.out.2⟩
/-- The key stands: its value is another. -/
theorem put3VS (k x x' : Value) (l r : Tr) (n : Nat) (o : Option Addr) (w : World) (hks : KSVS k) (hxs : VSVS x) (h : TP w o (.node l k x' n r)) (hirr : lessV k k = false) :
    Calls Try.prog 81 #[.pointer o, k, x] w (PutPost (.node l k x n r) false w) := by
  have CC := Lib.hid (fun W => cmpVS_any k k W hks hks)
  have ec : cmpV k k = 0 := by unfold cmpV; rw [if_neg (by simp [hirr]), if_neg (by simp [hirr])]
  rw [ec] at CC
  obtain ⟨b, T0, ol, or, rfl, hc, hl, hr⟩ := h
  have c0 := cell_of_row w b 0 _ T0 (0, 0) hc
  have c2 := cell_of_row w b 2 _ T0 (0, 0) hc
  have c3 := cell_of_row w b 3 _ T0 (0, 0) hc
  have c4 := cell_of_row w b 4 _ T0 (0, 0) hc
  simp only [List.getElem?_toArray, List.getElem?_cons_zero, List.getElem?_cons_succ] at c0 c2 c3 c4
  have HL := Lib.hid hl
  have HR := Lib.hid hr
  obtain ⟨kn, rfl⟩ := hks
  obtain ⟨xa, xn, xc, rfl⟩ := hxs
  clear hc hl hr hirr ec
  go_enter Try.func81, Try.ntmps81
  go_wp2_with (go_at_call 62; refine (CC.out _).mono ?_; rintro e w' ⟨rfl, rfl⟩)
  clear c0
  go_region_held3 (fun W => W.cell? ⟨b, 2, none⟩ = some (.int .i64 (n : Int)) ∧ W.cell? ⟨b, 3, none⟩ = some (.pointer ol) ∧ W.cell? ⟨b, 4, none⟩ = some (.pointer or))
    (first
      | (exact ⟨c2, c3, c4⟩)
      | go_keep)
    (fail)
  all_goals
    go_wp2_with fail
    go_ret2
    have hb : Below w'.heap.size w' (w'.alloc (.cells #[(str kn), (.slice xa xn xc), .int .i64 (n : Int), .pointer ol, .pointer or] 124)) := below_alloc _ _
    exact ⟨w'.heap.size, rfl, TP.drewN 1 ⟨_, _, ol, or, rfl, heap_alloc_new w' _, TP.below hb HL.out, TP.below hb HR.out⟩, Below.drewsN hb 1⟩
theorem ordVS : Ord KSVS where
  irr := by
    rintro a ⟨x, rfl⟩
    exact bl_irr x
  tr := by
    rintro a b c ⟨x, rfl⟩ ⟨y, rfl⟩ ⟨z, rfl⟩ h1 h2
    exact bl_tr x y z h1 h2
  tot := by
    rintro a b ⟨x, rfl⟩ ⟨y, rfl⟩ h1 h2
    rw [bl_tot x y h1 h2]
theorem putVS_any (k x : Value) (hks : KSVS k) (hxs : VSVS x) : ∀ (t : Tr) (o : Option Addr) (w : World), TP w o t → WS KSVS VSVS t → ht t < 1152921504606846976 →
    Calls Try.prog 81 #[.pointer o, k, x] w (PutPost (putT k x t) (newT k t) w)
  | .nil, o, w, h, _, _ => by
    obtain rfl := h
    exact put0VS k x w hks hxs
  | .node l k' x' n r, o, w, h, hw, hn => by
    have hw' := hw
    obtain ⟨e, a1, a2, a3, a4⟩ := hw'
    have hn' : n < 1152921504606846976 := hn
    unfold putT newT
    by_cases g1 : lessV k k' = true
    · rw [if_pos g1, if_pos g1]
      obtain ⟨q1, q2⟩ := WS.put hks hxs a3
      exact put1VS k x k' x' l r n _ o w hks h hw hn' g1 _ ⟨q1, by omega⟩ (fun o w h' => putVS_any k x hks hxs l o w h' a3 (by omega))
    · rw [if_neg g1, if_neg g1]
      by_cases g2 : lessV k' k = true
      · rw [if_pos g2, if_pos g2]
        obtain ⟨q1, q2⟩ := WS.put hks hxs a4
        exact put2VS k x k' x' l r n _ o w hks h hw hn' (by simpa using g1) g2 _ ⟨q1, by omega⟩ (fun o w h' => putVS_any k x hks hxs r o w h' a4 (by omega))
      · rw [if_neg g2, if_neg g2]
        obtain rfl := ordVS.tot k k' hks a1 (by simpa using g1) (by simpa using g2)
        exact put3VS k x x' l r n o w hks hxs h (ordVS.irr k hks)
end Go.Proofs.Ytcgjiddiegepkaa

/- Maps in order, omap[string,[]handbill/vers.Version[string]]: New, Put, Len, Copy. -/
namespace Go.Proofs.Ytcgjiddiegepkaa
open Go.RowKit

theorem newVS_any (w : World) : Calls Try.prog 59 #[] w fun e w' => ∃ b, e = .returned (.pointer (some ⟨b, 0, none⟩)) ∧ b = w.heap.size ∧ MP w' b .nil ∧ Below w.heap.size w w' := by
  go_enter Try.func59, Try.ntmps59
  go_wp2
  go_ret
  exact ⟨w.heap.size, rfl, rfl, ⟨_, none, heap_alloc_new w _, rfl⟩, below_alloc _ _⟩
set_option maxHeartbeats 400000 in
theorem mputVS_any (b : Nat) (k x : Value) (t : Tr) (w : World) (h : MP w b t) (hks : KSVS k) (hxs : VSVS x) (hw : WS KSVS VSVS t) (hh : ht t < 1152921504606846976) (hl : (prs t).length < 1152921504606846976) :
    Calls Try.prog 65 #[.pointer (some ⟨b, 0, none⟩), k, x] w (MapPost b (putT k x t) (newT k t) w) := by
  have hlt := h.lt
  obtain ⟨T, o, hc, htp⟩ := h
  have c0 : w.cell? ⟨b, 0, none⟩ = some (.pointer o) := by simp [World.cell?, hc]
  have CP := Lib.hid (putVS_any k x hks hxs t o w htp hw hh)
  have HL := Lib.hid (len_put k x t)
  have HC := Lib.hid hc
  obtain ⟨z, hz⟩ : ∃ z, z = newT k t := ⟨_, rfl⟩
  obtain ⟨n, hn⟩ : ∃ n, n = (prs t).length := ⟨_, rfl⟩
  rw [← hz] at CP
  rw [← hz]
  rw [← hn] at HC hl
  have HZ := Lib.hid (show (prs (putT k x t)).length = n + if z = true then 1 else 0 by rw [HL.out, hn, hz])
  clear hc htp hw hh hz hn HL
  cases z with
  | true =>
    go_enter Try.func65, Try.ntmps65
    go_wp2_with fail
    refine CP.out.mono ?_
    rintro e w1 ⟨b1, rfl, ht1, hb1⟩
    have hc1 : w1.heap[b]? = some (.cells #[.pointer o, .int .i64 (n : Int)] T (0, 0)) := by rw [hb1.block b hlt]; exact HC.out
    have f0 := frozen_of_row w1 b 0 _ T hc1
    have f1 := frozen_of_row w1 b 1 _ T hc1
    have d0 : w1.cell? ⟨b, 0, none⟩ = some (.pointer o) := by simp [World.cell?, hc1]
    have d1 : w1.cell? ⟨b, 1, none⟩ = some (.int .i64 (n : Int)) := by simp [World.cell?, hc1]
    have HC1 := Lib.hid hc1
    have HT1 := Lib.hid ht1
    have HB1 := Lib.hid hb1
    clear hc1 ht1 hb1 c0
    go_wp2_with fail
    go_ret
    have q1 := (two_setCell (u := .pointer (some ⟨b1, 0, none⟩)) HC1.out).1
    have q2 := (two_setCell (u := .int .i64 ((n : Int) + 1)) q1).2
    have ho : Only b w1 ((w1.setCell ⟨b, 0, none⟩ (.pointer (some ⟨b1, 0, none⟩))).setCell ⟨b, 1, none⟩ (.int .i64 ((n : Int) + 1))) := ((Only.refl b w1).setCell 0 _).setCell 1 _
    have e : (((prs (putT k x t)).length : Nat) : Int) = (n : Int) + 1 := by rw [HZ.out]; simp
    refine ⟨rfl, ⟨T, some ⟨b1, 0, none⟩, by rw [e]; exact q2, TP.only HC1.out ho HT1.out⟩, (Only.of_below HB1.out).trans ho, ((HB1.out.mono (Nat.le_of_lt hlt)).setCell (p := ⟨b, 0, none⟩) (Nat.le_refl b) _).setCell (p := ⟨b, 1, none⟩) (Nat.le_refl b) _⟩
  | false =>
    go_enter Try.func65, Try.ntmps65
    go_wp2_with fail
    refine CP.out.mono ?_
    rintro e w1 ⟨b1, rfl, ht1, hb1⟩
    have hc1 : w1.heap[b]? = some (.cells #[.pointer o, .int .i64 (n : Int)] T (0, 0)) := by rw [hb1.block b hlt]; exact HC.out
    have f0 := frozen_of_row w1 b 0 _ T hc1
    have d0 : w1.cell? ⟨b, 0, none⟩ = some (.pointer o) := by simp [World.cell?, hc1]
    have HC1 := Lib.hid hc1
    have HT1 := Lib.hid ht1
    have HB1 := Lib.hid hb1
    clear hc1 ht1 hb1 c0
    go_wp2_with fail
    go_ret
    have q1 := (two_setCell (u := .pointer (some ⟨b1, 0, none⟩)) HC1.out).1
    have ho : Only b w1 (w1.setCell ⟨b, 0, none⟩ (.pointer (some ⟨b1, 0, none⟩))) := (Only.refl b w1).setCell 0 _
    have e : (((prs (putT k x t)).length : Nat) : Int) = (n : Int) := by rw [HZ.out]; simp
    refine ⟨rfl, ⟨T, some ⟨b1, 0, none⟩, by rw [e]; exact q1, TP.only HC1.out ho HT1.out⟩, (Only.of_below HB1.out).trans ho, (HB1.out.mono (Nat.le_of_lt hlt)).setCell (p := ⟨b, 0, none⟩) (Nat.le_refl b) _⟩
end Go.Proofs.Ytcgjiddiegepkaa
