import Derived.Test.YtcgjiddiegepkaaJoinVS
import Derived.Test.YtcgjiddiegepkaaTrMath
import Derived.Test.YtcgjiddiegepkaaTrMap
/- Trees of omap[string,[]handbill/vers.Version[string]]: join whole, Compare, put. -/
namespace Go.Proofs.Ytcgjiddiegepkaa
open Go.RowKit

theorem joinVS_any (p ol or : Option Addr) (k x : Value) (l r : Tr) (w : World) (hk : KV w p k x) (hks : KSVS k) (hxs : VSVS x) (hl : TP w ol l) (hr : TP w or r) (wl : WS KSVS VSVS l) (wr : WS KSVS VSVS r)
    (hs : ht l < 2305843009213693952 ∧ ht r < 2305843009213693952) : Calls Try.prog 91 #[.pointer p, .pointer ol, .pointer or] w (TiePost (joinT k x l r) w) := by
  unfold joinT
  by_cases h1 : ht r + 1 < ht l
  · rw [if_pos h1]
    cases l with
    | nil => simp [ht] at h1
    | node ll lk lx n lr =>
      obtain ⟨e, a1, a2, a3, a4⟩ := wl
      have e' : n = 1 + max (ht ll) (ht lr) := e
      have h1' : ht r + 1 < n := h1
      have hs' : n < 2305843009213693952 ∧ ht r < 2305843009213693952 := hs
      simp only
      by_cases h2 : ht lr ≤ ht ll
      · rw [if_pos h2]
        exact join1VS p ol or k x lk lx ll lr r n w hk hks hxs a1 a2 hl hr ⟨hs'.1, hs'.2, by omega, by omega⟩ h1' h2
      · rw [if_neg h2]
        cases lr with
        | nil => simp [ht] at h2
        | node ml mk mx m mr =>
          obtain ⟨e2, b1, b2, b3, b4⟩ := a4
          have e2' : m = 1 + max (ht ml) (ht mr) := e2
          have h2' : ¬ m ≤ ht ll := h2
          have e3 : n = 1 + max (ht ll) m := e'
          exact join2VS p ol or k x lk lx mk mx ll ml mr r n m w hk hks hxs a1 a2 b1 b2 hl hr ⟨hs'.1, hs'.2, by omega, by omega, by omega, by omega⟩ h1' (by omega)
  · rw [if_neg h1]
    by_cases h3 : ht l + 1 < ht r
    · rw [if_pos h3]
      cases r with
      | nil => simp [ht] at h3
      | node rl rk rx n rr =>
        obtain ⟨e, a1, a2, a3, a4⟩ := wr
        have e' : n = 1 + max (ht rl) (ht rr) := e
        have h3' : ht l + 1 < n := h3
        have hs' : ht l < 2305843009213693952 ∧ n < 2305843009213693952 := hs
        simp only
        by_cases h2 : ht rl ≤ ht rr
        · rw [if_pos h2]
          exact join3VS p ol or k x rk rx l rl rr n w hk hks hxs a1 a2 hl hr ⟨hs'.2, hs'.1, by omega, by omega⟩ h3' h2
        · rw [if_neg h2]
          cases rl with
          | nil => simp [ht] at h2
          | node ml mk mx m mr =>
            obtain ⟨e2, b1, b2, b3, b4⟩ := a3
            have e2' : m = 1 + max (ht ml) (ht mr) := e2
            have h2' : ¬ m ≤ ht rr := h2
            have e3 : n = 1 + max m (ht rr) := e'
            exact join4VS p ol or k x rk rx mk mx l ml mr rr n m w hk hks hxs a1 a2 b1 b2 hl hr ⟨hs'.2, hs'.1, by omega, by omega, by omega, by omega⟩ h3' (by omega)
    · rw [if_neg h3]
      exact join0VS p ol or k x l r w hk hks hxs hl hr hs (by omega) (by omega)
theorem cmpSVS (a b : List UInt8) (w : World) : Calls Try.prog 62 #[str a, str b] w fun e w' => e = .returned (.int .i64 (cmpV (str a) (str b))) ∧ w' = w := by
  have e1 : lessV (str a) (str b) = Op.bytesLess a b := rfl
  have e2 : lessV (str b) (str a) = Op.bytesLess b a := rfl
  unfold cmpV
  rw [e1, e2]
  have n1 : (a != a) = false := bne_self_eq_false _
  have n2 : (b != b) = false := bne_self_eq_false _
  clear e1 e2
  by_cases h1 : Op.bytesLess a b = true
  · rw [if_pos h1]
    go_enter Try.func62, Try.ntmps62
    go_wp2
    go_ret
    exact ⟨rfl, rfl⟩
  rw [if_neg h1]
  have h1' : Op.bytesLess a b = false := by simpa using h1
  clear h1
  by_cases h2 : Op.bytesLess b a = true
  · rw [if_pos h2]
    have n3 : (a == b) = false := by
      rw [beq_eq_false_iff_ne]
      rintro rfl
      rw [bl_irr] at h2
      cases h2
    go_enter Try.func62, Try.ntmps62
    go_wp2
    go_ret
    exact ⟨rfl, rfl⟩
  rw [if_neg h2]
  have h2' : Op.bytesLess b a = false := by simpa using h2
  clear h2
  obtain rfl := bl_tot a b h1' h2'
  have n3 : (a == a) = true := by simp
  clear n2 h2'
  go_enter Try.func62, Try.ntmps62
  go_wp2
  go_ret
  exact ⟨rfl, rfl⟩
theorem cmpVS_any (a b : Value) (w : World) (ha : KSVS a) (hb : KSVS b) : Calls Try.prog 62 #[a, b] w fun e w' => e = .returned (.int .i64 (cmpV a b)) ∧ w' = w := by
  obtain ⟨x, rfl⟩ := ha
  obtain ⟨y, rfl⟩ := hb
  exact cmpSVS x y w
theorem put0VS (k x : Value) (w : World) (hks : KSVS k) (hxs : VSVS x) : Calls Try.prog 81 #[.pointer none, k, x] w (PutPost (.node .nil k x 1 .nil) true w) := by
  obtain ⟨kn, rfl⟩ := hks
  obtain ⟨xa, xn, xc, rfl⟩ := hxs
  go_enter Try.func81, Try.ntmps81
  go_wp2_with fail
  go_ret2
  exact ⟨w.heap.size, rfl, ⟨_, _, none, none, rfl, heap_alloc_new w _, rfl, rfl⟩, below_alloc _ _⟩
/-- The key is less: the left tree's turn. -/
theorem put1VS (k x k' x' : Value) (l r : Tr) (n : Nat) (z : Bool) (o : Option Addr) (w : World) (hks : KSVS k) (h : TP w o (.node l k' x' n r)) (hw : WS KSVS VSVS (.node l k' x' n r)) (hn : n < 1152921504606846976) (hless : lessV k k' = true)
    (T : Tr) (hT : WS KSVS VSVS T ∧ ht T ≤ 1 + n) (IH : ∀ (o : Option Addr) (w : World), TP w o l → Calls Try.prog 81 #[.pointer o, k, x] w (PutPost T z w)) :
    Calls Try.prog 81 #[.pointer o, k, x] w (PutPost (joinT k' x' T r) z w) := by
  obtain ⟨e, a1, a2, a3, a4⟩ := hw
  have CC := Lib.hid (fun W => cmpVS_any k k' W hks a1)
  have ec : cmpV k k' = -1 := by unfold cmpV; rw [if_pos hless]
  rw [ec] at CC
  have hkv := h.kv
  obtain ⟨b, ol, or, rfl, c3, c4, hl, hr⟩ := cells34VS h
  obtain ⟨b0, T0, hh, pl, pr, hb0, hc⟩ := hkv
  simp only [Option.some.injEq, Addr.mk.injEq, and_true] at hb0
  subst hb0
  have c0 := cell_of_row w b 0 _ T0 (0, 0) hc
  simp only [List.getElem?_toArray, List.getElem?_cons_zero] at c0
  have HKV := Lib.hid (show KV w (some ⟨b, 0, none⟩) k' x' from ⟨b, T0, hh, pl, pr, rfl, hc⟩)
  have HI := Lib.hid (fun W hb => IH ol W (TP.below (w := w) hb hl))
  have CJ := Lib.hid (fun (b' : Nat) (W : World) (hb : Below w.heap.size w W) (hT1 : TP W (some ⟨b', 0, none⟩) T) =>
    joinVS_any (some ⟨b, 0, none⟩) (some ⟨b', 0, none⟩) or k' x' T r W (HKV.out.below hb) a1 a2 hT1 (TP.below hb hr) hT.1 a4 ⟨by omega, by omega⟩)
  have hlt := World.block_lt_of_cell? w _ c4
  have C4 := Lib.hid (fun (W : World) (hb : Below w.heap.size w W) => (keepcVS c4 hb))
  clear hc h hl hr hless ec e a1 a2 a3 a4 hn hT IH
  go_enter Try.func81, Try.ntmps81
  go_wp2_with (go_at_call 62; refine (CC.out _).mono ?_; rintro e w' ⟨rfl, rfl⟩)
  refine (HI.out _ (Below.refl _ _)).mono ?_
  rintro e w1 ⟨b1, rfl, ht1, hb1⟩
  have d4 := C4.out w1 hb1
  have HB1 := Lib.hid hb1
  have HT1 := Lib.hid ht1
  clear hb1 ht1 c0 c3 c4
  go_wp2_with fail
  refine (CJ.out _ _ HB1.out HT1.out).mono ?_
  rintro e w2 ⟨b2, rfl, ht2, hb2⟩
  have HP := Lib.hid (show TP w2 (some ⟨b2, 0, none⟩) _ ∧ Below _ _ w2 from ⟨ht2, HB1.out.trans (hb2.mono HB1.out.size)⟩)
  clear ht2 hb2 d4
  go_wp2_with fail
  go_ret2
  exact ⟨b2, rfl, HP.out.1, HP.out.2⟩
/-- The key is greater: the right tree's turn. -/
theorem put2VS (k x k' x' : Value) (l r : Tr) (n : Nat) (z : Bool) (o : Option Addr) (w : World) (hks : KSVS k) (h : TP w o (.node l k' x' n r)) (hw : WS KSVS VSVS (.node l k' x' n r)) (hn : n < 1152921504606846976) (hno : lessV k k' = false) (hless : lessV k' k = true)
    (T : Tr) (hT : WS KSVS VSVS T ∧ ht T ≤ 1 + n) (IH : ∀ (o : Option Addr) (w : World), TP w o r → Calls Try.prog 81 #[.pointer o, k, x] w (PutPost T z w)) :
    Calls Try.prog 81 #[.pointer o, k, x] w (PutPost (joinT k' x' l T) z w) := by
  obtain ⟨e, a1, a2, a3, a4⟩ := hw
  have CC := Lib.hid (fun W => cmpVS_any k k' W hks a1)
  have ec : cmpV k k' = 1 := by unfold cmpV; rw [if_neg (by simp [hno]), if_pos hless]
  rw [ec] at CC
  have hkv := h.kv
  obtain ⟨b, ol, or, rfl, c3, c4, hl, hr⟩ := cells34VS h
  obtain ⟨b0, T0, hh, pl, pr, hb0, hc⟩ := hkv
  simp only [Option.some.injEq, Addr.mk.injEq, and_true] at hb0
  subst hb0
  have c0 := cell_of_row w b 0 _ T0 (0, 0) hc
  simp only [List.getElem?_toArray, List.getElem?_cons_zero] at c0
  have HKV := Lib.hid (show KV w (some ⟨b, 0, none⟩) k' x' from ⟨b, T0, hh, pl, pr, rfl, hc⟩)
  have HI := Lib.hid (fun W hb => IH or W (TP.below (w := w) hb hr))
  have CJ := Lib.hid (fun (b' : Nat) (W : World) (hb : Below w.heap.size w W) (hT1 : TP W (some ⟨b', 0, none⟩) T) =>
    joinVS_any (some ⟨b, 0, none⟩) ol (some ⟨b', 0, none⟩) k' x' l T W (HKV.out.below hb) a1 a2 (TP.below hb hl) hT1 a3 hT.1 ⟨by omega, by omega⟩)
  have hlt := World.block_lt_of_cell? w _ c3
  have C4 := Lib.hid (fun (W : World) (hb : Below w.heap.size w W) => (keepcVS c3 hb))
  clear hc h hl hr hless hno ec e a1 a2 a3 a4 hn hT IH
  go_enter Try.func81, Try.ntmps81
  go_wp2_with (go_at_call 62; refine (CC.out _).mono ?_; rintro e w' ⟨rfl, rfl⟩)
  refine (HI.out _ (Below.refl _ _)).mono ?_
  rintro e w1 ⟨b1, rfl, ht1, hb1⟩
  have d4 := C4.out w1 hb1
  have HB1 := Lib.hid hb1
  have HT1 := Lib.hid ht1
  clear hb1 ht1 c0 c3 c4
  go_wp2_with fail
  refine (CJ.out _ _ HB1.out HT1.out).mono ?_
  rintro e w2 ⟨b2, rfl, ht2, hb2⟩
  have HP := Lib.hid (show TP w2 (some ⟨b2, 0, none⟩) _ ∧ Below _ _ w2 from ⟨ht2, HB1.out.trans (hb2.mono HB1.out.size)⟩)
  clear ht2 hb2 d4
  go_wp2_with fail
  go_ret2
  exact ⟨b2, rfl, HP.out.1, HP.out.2⟩
/-- The key stands: its value is another. -/
theorem put3VS (k x x' : Value) (l r : Tr) (n : Nat) (o : Option Addr) (w : World) (hks : KSVS k) (hxs : VSVS x) (h : TP w o (.node l k x' n r)) (hirr : lessV k k = false) :
    Calls Try.prog 81 #[.pointer o, k, x] w (PutPost (.node l k x n r) false w) := by
  have CC := Lib.hid (fun W => cmpVS_any k k W hks hks)
  have ec : cmpV k k = 0 := by unfold cmpV; rw [if_neg (by simp [hirr]), if_neg (by simp [hirr])]
  rw [ec] at CC
  obtain ⟨b, T0, ol, or, rfl, hc, hl, hr⟩ := h
  have c0 := cell_of_row w b 0 _ T0 (0, 0) hc
  have c2 := cell_of_row w b 2 _ T0 (0, 0) hc
  have c3 := cell_of_row w b 3 _ T0 (0, 0) hc
  have c4 := cell_of_row w b 4 _ T0 (0, 0) hc
  simp only [List.getElem?_toArray, List.getElem?_cons_zero, List.getElem?_cons_succ] at c0 c2 c3 c4
  have HL := Lib.hid hl
  have HR := Lib.hid hr
  obtain ⟨kn, rfl⟩ := hks
  obtain ⟨xa, xn, xc, rfl⟩ := hxs
  clear hc hl hr hirr ec
  go_enter Try.func81, Try.ntmps81
  go_wp2_with (go_at_call 62; refine (CC.out _).mono ?_; rintro e w' ⟨rfl, rfl⟩)
  clear c0
  go_region_held3 (fun W => W.cell? ⟨b, 2, none⟩ = some (.int .i64 (n : Int)) ∧ W.cell? ⟨b, 3, none⟩ = some (.pointer ol) ∧ W.cell? ⟨b, 4, none⟩ = some (.pointer or))
    (first
      | (exact ⟨c2, c3, c4⟩)
      | go_keep)
    (fail)
  all_goals
    go_wp2_with fail
    go_ret2
    have hb : Below w'.heap.size w' (w'.alloc (.cells #[(str kn), (.slice xa xn xc), .int .i64 (n : Int), .pointer ol, .pointer or] 124)) := below_alloc _ _
    exact ⟨w'.heap.size, rfl, TP.drewN 1 ⟨_, _, ol, or, rfl, heap_alloc_new w' _, TP.below hb HL.out, TP.below hb HR.out⟩, Below.drewsN hb 1⟩
theorem ordVS : Ord KSVS where
  irr := by
    rintro a ⟨x, rfl⟩
    exact bl_irr x
  tr := by
    rintro a b c ⟨x, rfl⟩ ⟨y, rfl⟩ ⟨z, rfl⟩ h1 h2
    exact bl_tr x y z h1 h2
  tot := by
    rintro a b ⟨x, rfl⟩ ⟨y, rfl⟩ h1 h2
    rw [bl_tot x y h1 h2]
theorem putVS_any (k x : Value) (hks : KSVS k) (hxs : VSVS x) : ∀ (t : Tr) (o : Option Addr) (w : World), TP w o t → WS KSVS VSVS t → ht t < 1152921504606846976 →
    Calls Try.prog 81 #[.pointer o, k, x] w (PutPost (putT k x t) (newT k t) w)
  | .nil, o, w, h, _, _ => by
    obtain rfl := h
    exact put0VS k x w hks hxs
  | .node l k' x' n r, o, w, h, hw, hn => by
    have hw' := hw
    obtain ⟨e, a1, a2, a3, a4⟩ := hw'
    have hn' : n < 1152921504606846976 := hn
    unfold putT newT
    by_cases g1 : lessV k k' = true
    · rw [if_pos g1, if_pos g1]
      obtain ⟨q1, q2⟩ := WS.put hks hxs a3
      exact put1VS k x k' x' l r n _ o w hks h hw hn' g1 _ ⟨q1, by omega⟩ (fun o w h' => putVS_any k x hks hxs l o w h' a3 (by omega))
    · rw [if_neg g1, if_neg g1]
      by_cases g2 : lessV k' k = true
      · rw [if_pos g2, if_pos g2]
        obtain ⟨q1, q2⟩ := WS.put hks hxs a4
        exact put2VS k x k' x' l r n _ o w hks h hw hn' (by simpa using g1) g2 _ ⟨q1, by omega⟩ (fun o w h' => putVS_any k x hks hxs r o w h' a4 (by omega))
      · rw [if_neg g2, if_neg g2]
        obtain rfl := ordVS.tot k k' hks a1 (by simpa using g1) (by simpa using g2)
        exact put3VS k x x' l r n o w hks hxs h (ordVS.irr k hks)
end Go.Proofs.Ytcgjiddiegepkaa

/- Maps in order, omap[string,[]handbill/vers.Version[string]]: New, Put, Len, Copy. -/
namespace Go.Proofs.Ytcgjiddiegepkaa
open Go.RowKit

theorem newVS_any (w : World) : Calls Try.prog 59 #[] w fun e w' => ∃ b, e = .returned (.pointer (some ⟨b, 0, none⟩)) ∧ b = w.heap.size ∧ MP w' b .nil ∧ Below w.heap.size w w' := by
  go_enter Try.func59, Try.ntmps59
  go_wp2
  go_ret
  exact ⟨w.heap.size, rfl, rfl, ⟨_, none, heap_alloc_new w _, rfl⟩, below_alloc _ _⟩
set_option maxHeartbeats 400000 in
theorem mputVS_any (b : Nat) (k x : Value) (t : Tr) (w : World) (h : MP w b t) (hks : KSVS k) (hxs : VSVS x) (hw : WS KSVS VSVS t) (hh : ht t < 1152921504606846976) (hl : (prs t).length < 1152921504606846976) :
    Calls Try.prog 65 #[.pointer (some ⟨b, 0, none⟩), k, x] w (MapPost b (putT k x t) (newT k t) w) := by
  have hlt := h.lt
  obtain ⟨T, o, hc, htp⟩ := h
  have c0 : w.cell? ⟨b, 0, none⟩ = some (.pointer o) := by simp [World.cell?, hc]
  have CP := Lib.hid (putVS_any k x hks hxs t o w htp hw hh)
  have HL := Lib.hid (len_put k x t)
  have HC := Lib.hid hc
  obtain ⟨z, hz⟩ : ∃ z, z = newT k t := ⟨_, rfl⟩
  obtain ⟨n, hn⟩ : ∃ n, n = (prs t).length := ⟨_, rfl⟩
  rw [← hz] at CP
  rw [← hz]
  rw [← hn] at HC hl
  have HZ := Lib.hid (show (prs (putT k x t)).length = n + if z = true then 1 else 0 by rw [HL.out, hn, hz])
  clear hc htp hw hh hz hn HL
  cases z with
  | true =>
    go_enter Try.func65, Try.ntmps65
    go_wp2_with fail
    refine CP.out.mono ?_
    rintro e w1 ⟨b1, rfl, ht1, hb1⟩
    have hc1 : w1.heap[b]? = some (.cells #[.pointer o, .int .i64 (n : Int)] T (0, 0)) := by rw [hb1.block b hlt]; exact HC.out
    have f0 := frozen_of_row w1 b 0 _ T hc1
    have f1 := frozen_of_row w1 b 1 _ T hc1
    have d0 : w1.cell? ⟨b, 0, none⟩ = some (.pointer o) := by simp [World.cell?, hc1]
    have d1 : w1.cell? ⟨b, 1, none⟩ = some (.int .i64 (n : Int)) := by simp [World.cell?, hc1]
    have HC1 := Lib.hid hc1
    have HT1 := Lib.hid ht1
    have HB1 := Lib.hid hb1
    clear hc1 ht1 hb1 c0
    go_wp2_with fail
    go_ret
    have q1 := (two_setCell (u := .pointer (some ⟨b1, 0, none⟩)) HC1.out).1
    have q2 := (two_setCell (u := .int .i64 ((n : Int) + 1)) q1).2
    have ho : Only b w1 ((w1.setCell ⟨b, 0, none⟩ (.pointer (some ⟨b1, 0, none⟩))).setCell ⟨b, 1, none⟩ (.int .i64 ((n : Int) + 1))) := ((Only.refl b w1).setCell 0 _).setCell 1 _
    have e : (((prs (putT k x t)).length : Nat) : Int) = (n : Int) + 1 := by rw [HZ.out]; simp
    refine ⟨rfl, ⟨T, some ⟨b1, 0, none⟩, by rw [e]; exact q2, TP.only HC1.out ho HT1.out⟩, (Only.of_below HB1.out).trans ho, ((HB1.out.mono (Nat.le_of_lt hlt)).setCell (p := ⟨b, 0, none⟩) (Nat.le_refl b) _).setCell (p := ⟨b, 1, none⟩) (Nat.le_refl b) _⟩
  | false =>
    go_enter Try.func65, Try.ntmps65
    go_wp2_with fail
    refine CP.out.mono ?_
    rintro e w1 ⟨b1, rfl, ht1, hb1⟩
    have hc1 : w1.heap[b]? = some (.cells #[.pointer o, .int .i64 (n : Int)] T (0, 0)) := by rw [hb1.block b hlt]; exact HC.out
    have f0 := frozen_of_row w1 b 0 _ T hc1
    have d0 : w1.cell? ⟨b, 0, none⟩ = some (.pointer o) := by simp [World.cell?, hc1]
    have HC1 := Lib.hid hc1
    have HT1 := Lib.hid ht1
    have HB1 := Lib.hid hb1
    clear hc1 ht1 hb1 c0
    go_wp2_with fail
    go_ret
    have q1 := (two_setCell (u := .pointer (some ⟨b1, 0, none⟩)) HC1.out).1
    have ho : Only b w1 (w1.setCell ⟨b, 0, none⟩ (.pointer (some ⟨b1, 0, none⟩))) := (Only.refl b w1).setCell 0 _
    have e : (((prs (putT k x t)).length : Nat) : Int) = (n : Int) := by rw [HZ.out]; simp
    refine ⟨rfl, ⟨T, some ⟨b1, 0, none⟩, by rw [e]; exact q1, TP.only HC1.out ho HT1.out⟩, (Only.of_below HB1.out).trans ho, (HB1.out.mono (Nat.le_of_lt hlt)).setCell (p := ⟨b, 0, none⟩) (Nat.le_refl b) _⟩
end Go.Proofs.Ytcgjiddiegepkaa
