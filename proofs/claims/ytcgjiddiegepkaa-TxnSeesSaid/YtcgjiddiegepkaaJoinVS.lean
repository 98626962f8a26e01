/- Trees of omap[string,[]handbill/vers.Version[string]]: join. -/
import Derived.Test.YtcgjiddiegepkaaTreeVS
namespace Go.Proofs.Ytcgjiddiegepkaa
open Go.RowKit

theorem keepcVS {W W' : World} {a j : Nat} {v : Value} (h : W.cell? ⟨a, j, none⟩ = some v) (hb : Below W.heap.size W W') : W'.cell? ⟨a, j, none⟩ = some v := by
  rw [hb.cell (p := ⟨a, j, none⟩) (World.block_lt_of_cell? W _ h)]; exact h
theorem keep2VS {W W' : World} {a b j i : Nat} {v u : Value} (h : W.cell? ⟨a, j, none⟩ = some v ∧ W.cell? ⟨b, i, none⟩ = some u) (hb : Below W.heap.size W W') : W'.cell? ⟨a, j, none⟩ = some v ∧ W'.cell? ⟨b, i, none⟩ = some u := ⟨keepcVS h.1 hb, keepcVS h.2 hb⟩
theorem keep3VS {W W' : World} {a b c j i g : Nat} {v u z : Value} (h : W.cell? ⟨a, j, none⟩ = some v ∧ W.cell? ⟨b, i, none⟩ = some u ∧ W.cell? ⟨c, g, none⟩ = some z) (hb : Below W.heap.size W W') :
    W'.cell? ⟨a, j, none⟩ = some v ∧ W'.cell? ⟨b, i, none⟩ = some u ∧ W'.cell? ⟨c, g, none⟩ = some z := ⟨keepcVS h.1 hb, keepcVS h.2.1 hb, keepcVS h.2.2 hb⟩
theorem cells34VS {W : World} {o : Option Addr} {l r : Tr} {k x : Value} {n : Nat} (h : TP W o (.node l k x n r)) :
    ∃ b ol or, o = some ⟨b, 0, none⟩ ∧ W.cell? ⟨b, 3, none⟩ = some (.pointer ol) ∧ W.cell? ⟨b, 4, none⟩ = some (.pointer or) ∧ TP W ol l ∧ TP W or r := by
  obtain ⟨b, T, ol, or, rfl, hc, hl, hr⟩ := h
  exact ⟨b, ol, or, rfl, cell_of_row W b 3 _ T (0, 0) hc, cell_of_row W b 4 _ T (0, 0) hc, hl, hr⟩
/-- Trees close to each other. -/
theorem join0VS (p ol or : Option Addr) (k x : Value) (l r : Tr) (w : World) (hk : KV w p k x) (hks : KSVS k) (hxs : VSVS x) (hl : TP w ol l) (hr : TP w or r) (hs : ht l < 2305843009213693952 ∧ ht r < 2305843009213693952)
    (h1 : ht l ≤ ht r + 1) (h2 : ht r ≤ ht l + 1) : Calls Try.prog 91 #[.pointer p, .pointer ol, .pointer or] w (TiePost (tieT k x l r) w) := by
  have CL := Lib.hid (heightVS_any ol l w hl)
  have CR := Lib.hid (heightVS_any or r w hr)
  have CT := Lib.hid (tieVS_any p ol or k x l r w hk hks hxs hl hr ⟨by omega, by omega⟩)
  obtain ⟨a, ha⟩ : ∃ a : Nat, a = ht l := ⟨_, rfl⟩
  obtain ⟨d, hd⟩ : ∃ d : Nat, d = ht r := ⟨_, rfl⟩
  rw [← ha] at CL hs h1 h2
  rw [← hd] at CR hs h1 h2
  have n1 : ¬ (1 : Int) < (a : Int) - (d : Int) := by omega
  have n2 : ¬ (a : Int) - (d : Int) < -1 := by omega
  have n3 : -9223372036854775808 ≤ (a : Int) - (d : Int) := by omega
  have n4 : (a : Int) - (d : Int) ≤ 9223372036854775807 := by omega
  clear hk hl hr ha hd h1 h2 hks hxs
  go_enter Try.func91, Try.ntmps91
  go_wp2_with (first
    | (go_at_call 94; with_reducible refine CL.out.mono ?_; rintro e w' ⟨rfl, rfl⟩)
    | (go_at_call 94; with_reducible refine CR.out.mono ?_; rintro e w' ⟨rfl, rfl⟩)
    | fail)
  refine CT.out.mono ?_
  rintro e w1 ⟨b1, rfl, ht1, hb1⟩
  have HP := Lib.hid (show TP w1 (some ⟨b1, 0, none⟩) (tieT k x l r) ∧ Below _ _ w1 from ⟨ht1, hb1⟩)
  clear ht1 hb1
  go_wp2_with fail
  go_ret
  exact ⟨b1, rfl, HP.out.1, HP.out.2⟩
/-- The left one too high, its own left one the higher. -/
theorem join1VS (p ol or : Option Addr) (k x lk lx : Value) (ll lr r : Tr) (n : Nat) (w : World) (hk : KV w p k x) (hks : KSVS k) (hxs : VSVS x) (hlks : KSVS lk) (hlxs : VSVS lx) (hl : TP w ol (.node ll lk lx n lr)) (hr : TP w or r)
    (hs : n < 2305843009213693952 ∧ ht r < 2305843009213693952 ∧ ht ll < n ∧ ht lr < n) (h1 : ht r + 1 < n) (h2 : ht lr ≤ ht ll) :
    Calls Try.prog 91 #[.pointer p, .pointer ol, .pointer or] w (TiePost (tieT lk lx ll (tieT k x lr r)) w) := by
  have CL := Lib.hid (heightVS_any ol _ w hl)
  have CR := Lib.hid (heightVS_any or r w hr)
  have hkl := hl.kv
  obtain ⟨bl, oll, olr, rfl, c3, c4, hll, hlr⟩ := cells34VS hl
  have CLL := Lib.hid (fun m => heightVS_any oll ll (w.drewN m) (hll.drewN m))
  have CLR := Lib.hid (fun m => heightVS_any olr lr (w.drewN m) (hlr.drewN m))
  obtain ⟨e1, e2⟩ : ht ll < 4611686018427387904 ∧ ht (tieT k x lr r) < 4611686018427387904 := ⟨by omega, by rw [ht_tie]; omega⟩
  have CT1 := Lib.hid (fun (W : World) (hb : Below w.heap.size w W) => tieVS_any p olr or k x lr r W (hk.below hb) hks hxs (TP.below hb hlr) (TP.below hb hr) ⟨by omega, by omega⟩)
  have CT2 := Lib.hid (fun (b' : Nat) (W : World) (hb : Below w.heap.size w W) (ht1 : TP W (some ⟨b', 0, none⟩) (tieT k x lr r)) =>
    tieVS_any (some ⟨bl, 0, none⟩) oll (some ⟨b', 0, none⟩) lk lx ll (tieT k x lr r) W (KV.below hkl hb) hlks hlxs (TP.below hb hll) ht1 ⟨e1, e2⟩)
  obtain ⟨d, hd⟩ : ∃ d : Nat, d = ht r := ⟨_, rfl⟩
  obtain ⟨f, hf⟩ : ∃ f : Nat, f = ht ll := ⟨_, rfl⟩
  obtain ⟨g, hg⟩ : ∃ g : Nat, g = ht lr := ⟨_, rfl⟩
  rw [← hd] at CR hs h1
  rw [← hf] at CLL hs h2
  rw [← hg] at CLR hs h2
  simp only [ht] at CL
  have n1 : (1 : Int) < (n : Int) - (d : Int) := by omega
  have n3 : -9223372036854775808 ≤ (n : Int) - (d : Int) := by omega
  have n4 : (n : Int) - (d : Int) ≤ 9223372036854775807 := by omega
  have n5 : (g : Int) ≤ (f : Int) := by omega
  clear hk hl hr hd hf hg h1 h2 hs hks hxs hlks hlxs hll hlr hkl e1 e2
  go_enter Try.func91, Try.ntmps91
  go_wp2_with (first
    | (go_at_call 94; with_reducible refine CL.out.mono ?_; rintro e w' ⟨rfl, rfl⟩)
    | (go_at_call 94; with_reducible refine CR.out.mono ?_; rintro e w' ⟨rfl, rfl⟩)
    | fail)
  go_quiet ((first
    | (go_at_call 94; with_reducible exact Calls.quiet_of_same (CLL.out _))
    | (go_at_call 94; with_reducible exact Calls.quiet_of_same (CLR.out _))))
  go_wp2_with fail
  have HC := Lib.hid (show (w'.drewN nq).cell? ⟨bl, 3, none⟩ = some (.pointer oll) ∧ (w'.drewN nq).cell? ⟨bl, 4, none⟩ = some (.pointer olr) from ⟨c3, c4⟩)
  have HB0 := Lib.hid (show Below w'.heap.size w' (w'.drewN nq) from Below.drewsN (Below.refl _ _) nq)
  generalize w'.drewN nq = W0 at HC HB0 ⊢
  have HBD := Lib.hid (show Below w'.heap.size w' W0.drew from Below.drewsN HB0.out 1)
  clear c3 c4
  go_region_held3 (fun W => W.cell? ⟨bl, 3, none⟩ = some (.pointer oll) ∧ W.cell? ⟨bl, 4, none⟩ = some (.pointer olr))
    (first
      | (exact HC.out)
      | (refine keep2VS ?_ hb2; assumption)
      | (refine keep2VS ?_ hb1; assumption)
      | go_keep)
    ((first
      | (go_at_call 95
         (with_reducible refine (CT1.out _ HBD.out).mono ?_)
         rintro e w1 ⟨b1, rfl, ht1, hb1⟩)
      | (go_at_call 95
         (with_reducible refine (CT2.out _ _ (HBD.out.trans (hb1.mono HBD.out.size)) ht1).mono ?_)
         rintro e w2 ⟨b2, rfl, ht2, hb2⟩)
      | fail))
  all_goals
    have HP := Lib.hid (show TP w2 (some ⟨b2, 0, none⟩) _ ∧ Below _ _ w2 from ⟨ht2, (HBD.out.trans (hb1.mono HBD.out.size)).trans (hb2.mono (HBD.out.trans (hb1.mono HBD.out.size)).size)⟩)
    clear ht1 hb1 ht2 hb2
    go_wp2_with fail
    go_ret
    exact ⟨b2, rfl, HP.out.1, HP.out.2⟩
/-- The left one too high, its own right one the higher. -/
theorem join2VS (p ol or : Option Addr) (k x lk lx mk mx : Value) (ll ml mr r : Tr) (n m : Nat) (w : World) (hk : KV w p k x) (hks : KSVS k) (hxs : VSVS x) (hlks : KSVS lk) (hlxs : VSVS lx) (hmks : KSVS mk) (hmxs : VSVS mx) (hl : TP w ol (.node ll lk lx n (.node ml mk mx m mr))) (hr : TP w or r)
    (hs : n < 2305843009213693952 ∧ ht r < 2305843009213693952 ∧ ht ll < n ∧ m < n ∧ ht ml < m ∧ ht mr < m) (h1 : ht r + 1 < n) (h2 : ht ll < m) :
    Calls Try.prog 91 #[.pointer p, .pointer ol, .pointer or] w (TiePost (tieT mk mx (tieT lk lx ll ml) (tieT k x mr r)) w) := by
  have CL := Lib.hid (heightVS_any ol _ w hl)
  have CR := Lib.hid (heightVS_any or r w hr)
  have hkl := hl.kv
  obtain ⟨bl, oll, olr, rfl, c3, c4, hll, hlr⟩ := cells34VS hl
  have CLL := Lib.hid (fun m => heightVS_any oll ll (w.drewN m) (hll.drewN m))
  have CLR := Lib.hid (fun m => heightVS_any olr _ (w.drewN m) (hlr.drewN m))
  have hkm := hlr.kv
  obtain ⟨bm, oml, omr, rfl, c5, c6, hml, hmr⟩ := cells34VS hlr
  obtain ⟨e1, e2⟩ : ht (tieT lk lx ll ml) < 4611686018427387904 ∧ ht (tieT k x mr r) < 4611686018427387904 := ⟨by rw [ht_tie]; omega, by rw [ht_tie]; omega⟩
  have CT1 := Lib.hid (fun (W : World) (hb : Below w.heap.size w W) => tieVS_any (some ⟨bl, 0, none⟩) oll oml lk lx ll ml W (hkl.below hb) hlks hlxs (TP.below hb hll) (TP.below hb hml) ⟨by omega, by omega⟩)
  have CT2 := Lib.hid (fun (W : World) (hb : Below w.heap.size w W) => tieVS_any p omr or k x mr r W (hk.below hb) hks hxs (TP.below hb hmr) (TP.below hb hr) ⟨by omega, by omega⟩)
  have CT3 := Lib.hid (fun (b' b'' : Nat) (W : World) (hb : Below w.heap.size w W) (ht1 : TP W (some ⟨b', 0, none⟩) (tieT lk lx ll ml)) (ht2 : TP W (some ⟨b'', 0, none⟩) (tieT k x mr r)) =>
    tieVS_any (some ⟨bm, 0, none⟩) (some ⟨b', 0, none⟩) (some ⟨b'', 0, none⟩) mk mx _ _ W (KV.below hkm hb) hmks hmxs ht1 ht2 ⟨e1, e2⟩)
  obtain ⟨d, hd⟩ : ∃ d : Nat, d = ht r := ⟨_, rfl⟩
  obtain ⟨f, hf⟩ : ∃ f : Nat, f = ht ll := ⟨_, rfl⟩
  rw [← hd] at CR hs h1
  rw [← hf] at CLL hs h2
  simp only [ht] at CL CLR
  have n1 : (1 : Int) < (n : Int) - (d : Int) := by omega
  have n3 : -9223372036854775808 ≤ (n : Int) - (d : Int) := by omega
  have n4 : (n : Int) - (d : Int) ≤ 9223372036854775807 := by omega
  have n5 : ¬ (m : Int) ≤ (f : Int) := by omega
  clear hk hl hr hd hf h1 h2 hs hks hxs hlks hlxs hll hlr hkl e1 e2 hml hmr hkm hmks hmxs
  go_enter Try.func91, Try.ntmps91
  go_wp2_with (first
    | (go_at_call 94; with_reducible refine CL.out.mono ?_; rintro e w' ⟨rfl, rfl⟩)
    | (go_at_call 94; with_reducible refine CR.out.mono ?_; rintro e w' ⟨rfl, rfl⟩)
    | fail)
  go_quiet ((first
    | (go_at_call 94; with_reducible exact Calls.quiet_of_same (CLL.out _))
    | (go_at_call 94; with_reducible exact Calls.quiet_of_same (CLR.out _))))
  go_wp2_with fail
  have HC := Lib.hid (show (w'.drewN nq).cell? ⟨bl, 3, none⟩ = some (.pointer oll) ∧ (w'.drewN nq).cell? ⟨bm, 3, none⟩ = some (.pointer oml) ∧ (w'.drewN nq).cell? ⟨bm, 4, none⟩ = some (.pointer omr) from ⟨c3, c5, c6⟩)
  have HB0 := Lib.hid (show Below w'.heap.size w' (w'.drewN nq) from Below.drewsN (Below.refl _ _) nq)
  generalize w'.drewN nq = W0 at HC HB0 ⊢
  have HBD := Lib.hid (show Below w'.heap.size w' W0.drew from Below.drewsN HB0.out 1)
  clear c3 c4 c5 c6
  go_region_held3 (fun W => W.cell? ⟨bl, 3, none⟩ = some (.pointer oll) ∧ W.cell? ⟨bm, 3, none⟩ = some (.pointer oml) ∧ W.cell? ⟨bm, 4, none⟩ = some (.pointer omr))
    (first
      | (exact HC.out)
      | (refine keep3VS ?_ hb3; assumption)
      | (refine keep3VS ?_ hb2; assumption)
      | (refine keep3VS ?_ hb1; assumption)
      | go_keep)
    ((first
      | (go_at_call 95
         (with_reducible refine (CT1.out _ HBD.out).mono ?_)
         rintro e w1 ⟨b1, rfl, ht1, hb1⟩)
      | (go_at_call 95
         (with_reducible refine (CT2.out _ (HBD.out.trans (hb1.mono HBD.out.size))).mono ?_)
         rintro e w2 ⟨b2, rfl, ht2, hb2⟩)
      | (go_at_call 95
         (with_reducible refine (CT3.out _ _ _ ((HBD.out.trans (hb1.mono HBD.out.size)).trans (hb2.mono (HBD.out.trans (hb1.mono HBD.out.size)).size)) (TP.below hb2 ht1) ht2).mono ?_)
         rintro e w3 ⟨b3, rfl, ht3, hb3⟩)
      | fail))
  all_goals
    have HQ := (HBD.out.trans (hb1.mono HBD.out.size)).trans (hb2.mono (HBD.out.trans (hb1.mono HBD.out.size)).size)
    have HP := Lib.hid (show TP w3 (some ⟨b3, 0, none⟩) _ ∧ Below _ _ w3 from ⟨ht3, HQ.trans (hb3.mono HQ.size)⟩)
    clear ht1 hb1 ht2 hb2 ht3 hb3 HQ
    go_wp2_with fail
    go_ret
    exact ⟨b3, rfl, HP.out.1, HP.out.2⟩
/-- The right one too high, its own right one the higher. -/
theorem join3VS (p ol or : Option Addr) (k x rk rx : Value) (l rl rr : Tr) (n : Nat) (w : World) (hk : KV w p k x) (hks : KSVS k) (hxs : VSVS x) (hrks : KSVS rk) (hrxs : VSVS rx) (hl : TP w ol l) (hr : TP w or (.node rl rk rx n rr))
    (hs : n < 2305843009213693952 ∧ ht l < 2305843009213693952 ∧ ht rl < n ∧ ht rr < n) (h1 : ht l + 1 < n) (h2 : ht rl ≤ ht rr) :
    Calls Try.prog 91 #[.pointer p, .pointer ol, .pointer or] w (TiePost (tieT rk rx (tieT k x l rl) rr) w) := by
  have CL := Lib.hid (heightVS_any ol l w hl)
  have CR := Lib.hid (heightVS_any or _ w hr)
  have hkr := hr.kv
  obtain ⟨br, orl, orr, rfl, c3, c4, hrl, hrr⟩ := cells34VS hr
  have CLL := Lib.hid (fun m => heightVS_any orl rl (w.drewN m) (hrl.drewN m))
  have CLR := Lib.hid (fun m => heightVS_any orr rr (w.drewN m) (hrr.drewN m))
  obtain ⟨e1, e2⟩ : ht (tieT k x l rl) < 4611686018427387904 ∧ ht rr < 4611686018427387904 := ⟨by rw [ht_tie]; omega, by omega⟩
  have CT1 := Lib.hid (fun (W : World) (hb : Below w.heap.size w W) => tieVS_any p ol orl k x l rl W (hk.below hb) hks hxs (TP.below hb hl) (TP.below hb hrl) ⟨by omega, by omega⟩)
  have CT2 := Lib.hid (fun (b' : Nat) (W : World) (hb : Below w.heap.size w W) (ht1 : TP W (some ⟨b', 0, none⟩) (tieT k x l rl)) =>
    tieVS_any (some ⟨br, 0, none⟩) (some ⟨b', 0, none⟩) orr rk rx _ rr W (KV.below hkr hb) hrks hrxs ht1 (TP.below hb hrr) ⟨e1, e2⟩)
  obtain ⟨d, hd⟩ : ∃ d : Nat, d = ht l := ⟨_, rfl⟩
  obtain ⟨f, hf⟩ : ∃ f : Nat, f = ht rl := ⟨_, rfl⟩
  obtain ⟨g, hg⟩ : ∃ g : Nat, g = ht rr := ⟨_, rfl⟩
  rw [← hd] at CL hs h1
  rw [← hf] at CLL hs h2
  rw [← hg] at CLR hs h2
  simp only [ht] at CR
  have n1 : ¬ (1 : Int) < (d : Int) - (n : Int) := by omega
  have n2 : (d : Int) - (n : Int) < -1 := by omega
  have n3 : -9223372036854775808 ≤ (d : Int) - (n : Int) := by omega
  have n4 : (d : Int) - (n : Int) ≤ 9223372036854775807 := by omega
  have n5 : (f : Int) ≤ (g : Int) := by omega
  clear hk hl hr hd hf hg h1 h2 hs hks hxs hrks hrxs hrl hrr hkr e1 e2
  go_enter Try.func91, Try.ntmps91
  go_wp2_with (first
    | (go_at_call 94; with_reducible refine CL.out.mono ?_; rintro e w' ⟨rfl, rfl⟩)
    | (go_at_call 94; with_reducible refine CR.out.mono ?_; rintro e w' ⟨rfl, rfl⟩)
    | fail)
  go_quiet ((first
    | (go_at_call 94; with_reducible exact Calls.quiet_of_same (CLL.out _))
    | (go_at_call 94; with_reducible exact Calls.quiet_of_same (CLR.out _))))
  go_wp2_with fail
  have HC := Lib.hid (show (w'.drewN nq).cell? ⟨br, 3, none⟩ = some (.pointer orl) ∧ (w'.drewN nq).cell? ⟨br, 4, none⟩ = some (.pointer orr) from ⟨c3, c4⟩)
  have HB0 := Lib.hid (show Below w'.heap.size w' (w'.drewN nq) from Below.drewsN (Below.refl _ _) nq)
  generalize w'.drewN nq = W0 at HC HB0 ⊢
  have HBD := Lib.hid (show Below w'.heap.size w' W0.drew from Below.drewsN HB0.out 1)
  clear c3 c4
  go_region_held3 (fun W => W.cell? ⟨br, 3, none⟩ = some (.pointer orl) ∧ W.cell? ⟨br, 4, none⟩ = some (.pointer orr))
    (first
      | (exact HC.out)
      | (refine keep2VS ?_ hb2; assumption)
      | (refine keep2VS ?_ hb1; assumption)
      | go_keep)
    ((first
      | (go_at_call 95
         (with_reducible refine (CT1.out _ HBD.out).mono ?_)
         rintro e w1 ⟨b1, rfl, ht1, hb1⟩)
      | (go_at_call 95
         (with_reducible refine (CT2.out _ _ (HBD.out.trans (hb1.mono HBD.out.size)) ht1).mono ?_)
         rintro e w2 ⟨b2, rfl, ht2, hb2⟩)
      | fail))
  all_goals
    have HP := Lib.hid (show TP w2 (some ⟨b2, 0, none⟩) _ ∧ Below _ _ w2 from ⟨ht2, (HBD.out.trans (hb1.mono HBD.out.size)).trans (hb2.mono (HBD.out.trans (hb1.mono HBD.out.size)).size)⟩)
    clear ht1 hb1 ht2 hb2
    go_wp2_with fail
    go_ret
    exact ⟨b2, rfl, HP.out.1, HP.out.2⟩
/-- The right one too high, its own left one the higher. -/
theorem join4VS (p ol or : Option Addr) (k x rk rx mk mx : Value) (l ml mr rr : Tr) (n m : Nat) (w : World) (hk : KV w p k x) (hks : KSVS k) (hxs : VSVS x) (hrks : KSVS rk) (hrxs : VSVS rx) (hmks : KSVS mk) (hmxs : VSVS mx) (hl : TP w ol l) (hr : TP w or (.node (.node ml mk mx m mr) rk rx n rr))
    (hs : n < 2305843009213693952 ∧ ht l < 2305843009213693952 ∧ ht rr < n ∧ m < n ∧ ht ml < m ∧ ht mr < m) (h1 : ht l + 1 < n) (h2 : ht rr < m) :
    Calls Try.prog 91 #[.pointer p, .pointer ol, .pointer or] w (TiePost (tieT mk mx (tieT k x l ml) (tieT rk rx mr rr)) w) := by
  have CL := Lib.hid (heightVS_any ol l w hl)
  have CR := Lib.hid (heightVS_any or _ w hr)
  have hkr := hr.kv
  obtain ⟨br, orl, orr, rfl, c3, c4, hrl, hrr⟩ := cells34VS hr
  have CLL := Lib.hid (fun m => heightVS_any orl _ (w.drewN m) (hrl.drewN m))
  have CLR := Lib.hid (fun m => heightVS_any orr rr (w.drewN m) (hrr.drewN m))
  have hkm := hrl.kv
  obtain ⟨bm, oml, omr, rfl, c5, c6, hml, hmr⟩ := cells34VS hrl
  obtain ⟨e1, e2⟩ : ht (tieT k x l ml) < 4611686018427387904 ∧ ht (tieT rk rx mr rr) < 4611686018427387904 := ⟨by rw [ht_tie]; omega, by rw [ht_tie]; omega⟩
  have CT1 := Lib.hid (fun (W : World) (hb : Below w.heap.size w W) => tieVS_any p ol oml k x l ml W (hk.below hb) hks hxs (TP.below hb hl) (TP.below hb hml) ⟨by omega, by omega⟩)
  have CT2 := Lib.hid (fun (W : World) (hb : Below w.heap.size w W) => tieVS_any (some ⟨br, 0, none⟩) omr orr rk rx mr rr W (hkr.below hb) hrks hrxs (TP.below hb hmr) (TP.below hb hrr) ⟨by omega, by omega⟩)
  have CT3 := Lib.hid (fun (b' b'' : Nat) (W : World) (hb : Below w.heap.size w W) (ht1 : TP W (some ⟨b', 0, none⟩) (tieT k x l ml)) (ht2 : TP W (some ⟨b'', 0, none⟩) (tieT rk rx mr rr)) =>
    tieVS_any (some ⟨bm, 0, none⟩) (some ⟨b', 0, none⟩) (some ⟨b'', 0, none⟩) mk mx _ _ W (KV.below hkm hb) hmks hmxs ht1 ht2 ⟨e1, e2⟩)
  obtain ⟨d, hd⟩ : ∃ d : Nat, d = ht l := ⟨_, rfl⟩
  obtain ⟨g, hg⟩ : ∃ g : Nat, g = ht rr := ⟨_, rfl⟩
  rw [← hd] at CL hs h1
  rw [← hg] at CLR hs h2
  simp only [ht] at CR CLL
  have n1 : ¬ (1 : Int) < (d : Int) - (n : Int) := by omega
  have n2 : (d : Int) - (n : Int) < -1 := by omega
  have n3 : -9223372036854775808 ≤ (d : Int) - (n : Int) := by omega
  have n4 : (d : Int) - (n : Int) ≤ 9223372036854775807 := by omega
  have n5 : ¬ (m : Int) ≤ (g : Int) := by omega
  clear hk hl hr hd hg h1 h2 hs hks hxs hrks hrxs hrl hrr hkr e1 e2 hml hmr hkm hmks hmxs
  go_enter Try.func91, Try.ntmps91
  go_wp2_with (first
    | (go_at_call 94; with_reducible refine CL.out.mono ?_; rintro e w' ⟨rfl, rfl⟩)
    | (go_at_call 94; with_reducible refine CR.out.mono ?_; rintro e w' ⟨rfl, rfl⟩)
    | fail)
  go_quiet ((first
    | (go_at_call 94; with_reducible exact Calls.quiet_of_same (CLL.out _))
    | (go_at_call 94; with_reducible exact Calls.quiet_of_same (CLR.out _))))
  go_wp2_with fail
  have HC := Lib.hid (show (w'.drewN nq).cell? ⟨bm, 3, none⟩ = some (.pointer oml) ∧ (w'.drewN nq).cell? ⟨bm, 4, none⟩ = some (.pointer omr) ∧ (w'.drewN nq).cell? ⟨br, 4, none⟩ = some (.pointer orr) from ⟨c5, c6, c4⟩)
  have HB0 := Lib.hid (show Below w'.heap.size w' (w'.drewN nq) from Below.drewsN (Below.refl _ _) nq)
  generalize w'.drewN nq = W0 at HC HB0 ⊢
  have HBD := Lib.hid (show Below w'.heap.size w' W0.drew from Below.drewsN HB0.out 1)
  clear c3 c4 c5 c6
  go_region_held3 (fun W => W.cell? ⟨bm, 3, none⟩ = some (.pointer oml) ∧ W.cell? ⟨bm, 4, none⟩ = some (.pointer omr) ∧ W.cell? ⟨br, 4, none⟩ = some (.pointer orr))
    (first
      | (exact HC.out)
      | (refine keep3VS ?_ hb3; assumption)
      | (refine keep3VS ?_ hb2; assumption)
      | (refine keep3VS ?_ hb1; assumption)
      | go_keep)
    ((first
      | (go_at_call 95
         (with_reducible refine (CT1.out _ HBD.out).mono ?_)
         rintro e w1 ⟨b1, rfl, ht1, hb1⟩)
      | (go_at_call 95
         (with_reducible refine (CT2.out _ (HBD.out.trans (hb1.mono HBD.out.size))).mono ?_)
         rintro e w2 ⟨b2, rfl, ht2, hb2⟩)
      | (go_at_call 95
         (with_reducible refine (CT3.out _ _ _ ((HBD.out.trans (hb1.mono HBD.out.size)).trans (hb2.mono (HBD.out.trans (hb1.mono HBD.out.size)).size)) (TP.below hb2 ht1) ht2).mono ?_)
         rintro e w3 ⟨b3, rfl, ht3, hb3⟩)
      | fail))
  all_goals
    have HQ := (HBD.out.trans (hb1.mono HBD.out.size)).trans (hb2.mono (HBD.out.trans (hb1.mono HBD.out.size)).size)
    have HP := Lib.hid (show TP w3 (some ⟨b3, 0, none⟩) _ ∧ Below _ _ w3 from ⟨ht3, HQ.trans (hb3.mono HQ.size)⟩)
    clear ht1 hb1 ht2 hb2 ht3 hb3 HQ
    go_wp2_with fail
    go_ret
    exact ⟨b3, rfl, HP.out.1, HP.out.2⟩
end Go.Proofs.Ytcgjiddiegepkaa
