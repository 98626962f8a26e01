/- Trees of omap[string,handbill/api.Write]: join whole, Compare, put. -/
import Derived.Test.YtcgjiddiegepkaaJoinVW
import Derived.Test.YtcgjiddiegepkaaTqBase
namespace Go.Proofs.Ytcgjiddiegepkaa
open Go.RowKit

theorem joinVW_any (p ol or : Option Addr) (k x : Value) (l r : Tr) (w : World) (hk : KQ w p k x) (hks : KSVW k) (hxs : VSVW x) (hl : TQ w ol l) (hr : TQ w or r) (wl : WS KSVW VSVW l) (wr : WS KSVW VSVW r)
    (hs : ht l < 2305843009213693952 ∧ ht r < 2305843009213693952) : Calls Try.prog 90 #[.pointer p, .pointer ol, .pointer or] w (TieQ (joinT k x l r) w) := by
  unfold joinT
  by_cases h1 : ht r + 1 < ht l
  · rw [if_pos h1]
    cases l with
    | nil => simp [ht] at h1
    | node ll lk lx n lr =>
      obtain ⟨e, a1, a2, a3, a4⟩ := wl
      have e' : n = 1 + max (ht ll) (ht lr) := e
      have h1' : ht r + 1 < n := h1
      have hs' : n < 2305843009213693952 ∧ ht r < 2305843009213693952 := hs
      simp only
      by_cases h2 : ht lr ≤ ht ll
      · rw [if_pos h2]
        exact join1VW p ol or k x lk lx ll lr r n w hk hks hxs a1 a2 hl hr ⟨hs'.1, hs'.2, by omega, by omega⟩ h1' h2
      · rw [if_neg h2]
        cases lr with
        | nil => simp [ht] at h2
        | node ml mk mx m mr =>
          obtain ⟨e2, b1, b2, b3, b4⟩ := a4
          have e2' : m = 1 + max (ht ml) (ht mr) := e2
          have h2' : ¬ m ≤ ht ll := h2
          have e3 : n = 1 + max (ht ll) m := e'
          exact join2VW p ol or k x lk lx mk mx ll ml mr r n m w hk hks hxs a1 a2 b1 b2 hl hr ⟨hs'.1, hs'.2, by omega, by omega, by omega, by omega⟩ h1' (by omega)
  · rw [if_neg h1]
    by_cases h3 : ht l + 1 < ht r
    · rw [if_pos h3]
      cases r with
      | nil => simp [ht] at h3
      | node rl rk rx n rr =>
        obtain ⟨e, a1, a2, a3, a4⟩ := wr
        have e' : n = 1 + max (ht rl) (ht rr) := e
        have h3' : ht l + 1 < n := h3
        have hs' : ht l < 2305843009213693952 ∧ n < 2305843009213693952 := hs
        simp only
        by_cases h2 : ht rl ≤ ht rr
        · rw [if_pos h2]
          exact join3VW p ol or k x rk rx l rl rr n w hk hks hxs a1 a2 hl hr ⟨hs'.2, hs'.1, by omega, by omega⟩ h3' h2
        · rw [if_neg h2]
          cases rl with
          | nil => simp [ht] at h2
          | node ml mk mx m mr =>
            obtain ⟨e2, b1, b2, b3, b4⟩ := a3
            have e2' : m = 1 + max (ht ml) (ht mr) := e2
            have h2' : ¬ m ≤ ht rr := h2
            have e3 : n = 1 + max m (ht rr) := e'
            exact join4VW p ol or k x rk rx mk mx l ml mr rr n m w hk hks hxs a1 a2 b1 b2 hl hr ⟨hs'.2, hs'.1, by omega, by omega, by omega, by omega⟩ h3' (by omega)
    · rw [if_neg h3]
      exact join0VW p ol or k x l r w hk hks hxs hl hr hs (by omega) (by omega)
theorem cmpSVW (a b : List UInt8) (w : World) : Calls Try.prog 62 #[str a, str b] w fun e w' => e = .returned (.int .i64 (cmpV (str a) (str b))) ∧ w' = w := by
  have e1 : lessV (str a) (str b) = Op.bytesLess a b := rfl
  have e2 : lessV (str b) (str a) = Op.bytesLess b a := rfl
  unfold cmpV
  rw [e1, e2]
  have n1 : (a != a) = false := bne_self_eq_false _
  have n2 : (b != b) = false := bne_self_eq_false _
  clear e1 e2
  by_cases h1 : Op.bytesLess a b = true
  · rw [if_pos h1]
    go_enter Try.func62, Try.ntmps62
    go_wp2
    go_ret
    exact ⟨rfl, rfl⟩
  rw [if_neg h1]
  have h1' : Op.bytesLess a b = false := by simpa using h1
  clear h1
  by_cases h2 : Op.bytesLess b a = true
  · rw [if_pos h2]
    have n3 : (a == b) = false := by
      rw [beq_eq_false_iff_ne]
      rintro rfl
      rw [bl_irr] at h2
      cases h2
    go_enter Try.func62, Try.ntmps62
    go_wp2
    go_ret
    exact ⟨rfl, rfl⟩
  rw [if_neg h2]
  have h2' : Op.bytesLess b a = false := by simpa using h2
  clear h2
  obtain rfl := bl_tot a b h1' h2'
  have n3 : (a == a) = true := by simp
  clear n2 h2'
  go_enter Try.func62, Try.ntmps62
  go_wp2
  go_ret
  exact ⟨rfl, rfl⟩
theorem cmpVW_any (a b : Value) (w : World) (ha : KSVW a) (hb : KSVW b) : Calls Try.prog 62 #[a, b] w fun e w' => e = .returned (.int .i64 (cmpV a b)) ∧ w' = w := by
  obtain ⟨x, rfl⟩ := ha
  obtain ⟨y, rfl⟩ := hb
  exact cmpSVW x y w
theorem put0VW (k x : Value) (w : World) (hks : KSVW k) (hxs : VSVW x) : Calls Try.prog 79 #[.pointer none, k, x] w (PutQ (.node .nil k x 1 .nil) true w) := by
  obtain ⟨kn, rfl⟩ := hks
  obtain ⟨xa, xb, xc, rfl⟩ := hxs
  have hb := below_alloc w (.cells #[str xa, str xb, .bool xc] 58)
  have hs : (w.alloc (.cells #[str xa, str xb, .bool xc] 58)).heap.size = w.heap.size + 1 := by simp
  go_enter Try.func79, Try.ntmps79
  go_wp2_with fail
  go_ret2
  refine ⟨w.heap.size + 1, rfl, ⟨_, 112, none, none, rfl, ?_, rfl, rfl⟩, hb.alloc (by omega) _⟩
  simp only [wA_agg, wB_agg, wC_agg]
  have := heap_alloc_new (w.alloc (.cells #[str xa, str xb, .bool xc] 58)) (.cells #[str kn, str xa, str xb, .bool xc, .int .i64 1, .pointer none, .pointer none] 112)
  rw [hs] at this
  exact this
/-- A put on the left side. -/
theorem put1VW (k x k' x' : Value) (l r : Tr) (n : Nat) (z : Bool) (o : Option Addr) (w : World) (hks : KSVW k) (hxs : VSVW x) (h : TQ w o (.node l k' x' n r)) (hw : WS KSVW VSVW (.node l k' x' n r)) (hn : n < 1152921504606846976) (hless : lessV k k' = true)
    (T : Tr) (hT : WS KSVW VSVW T ∧ ht T ≤ 1 + n) (IH : ∀ (o : Option Addr) (w : World), TQ w o l → Calls Try.prog 79 #[.pointer o, k, x] w (PutQ T z w)) :
    Calls Try.prog 79 #[.pointer o, k, x] w (PutQ (joinT k' x' T r) z w) := by
  obtain ⟨e, a1, a2, a3, a4⟩ := hw
  obtain ⟨xa, xb, xc, rfl⟩ := hxs
  have CC := Lib.hid (fun W => cmpVW_any k k' W hks a1)
  have ec : cmpV k k' = -1 := by unfold cmpV; rw [if_pos hless]
  rw [ec] at CC
  have hkv := h.kv
  obtain ⟨b, ol, or, rfl, c3, c4, hl, hr⟩ := cells34VW h
  obtain ⟨b0, T0, hh, pl, pr, hb0, hc⟩ := hkv
  simp only [Option.some.injEq, Addr.mk.injEq, and_true] at hb0
  subst hb0
  have c0 := cell_of_row w b 0 _ T0 (0, 0) hc
  simp only [List.getElem?_toArray, List.getElem?_cons_zero] at c0
  have HKV := Lib.hid (show KQ w (some ⟨b, 0, none⟩) k' x' from ⟨b, T0, hh, pl, pr, rfl, hc⟩)
  have HI := Lib.hid (fun W hb => IH ol W (TQ.below (w := w) hb hl))
  have CJ := Lib.hid (fun (b' : Nat) (W : World) (hb : Below w.heap.size w W) (hT1 : TQ W (some ⟨b', 0, none⟩) T) =>
    joinVW_any (some ⟨b, 0, none⟩) (some ⟨b', 0, none⟩) or k' x' T r W (HKV.out.below hb) a1 a2 hT1 (TQ.below hb hr) hT.1 a4 ⟨by omega, by omega⟩)
  have hbx := below_alloc w (.cells #[str xa, str xb, .bool xc] 58)
  have HCO := Lib.hid (fun (W : World) (hb : Below w.heap.size w W) => keepcVW c4 hb)
  have c0a := keepcVW c0 hbx
  have c3a := keepcVW c3 hbx
  have c4a := keepcVW c4 hbx
  have hnw := heap_alloc_new w (.cells #[str xa, str xb, .bool xc] 58)
  have q0 : (w.alloc (.cells #[str xa, str xb, .bool xc] 58)).cell? ⟨w.heap.size, 0, none⟩ = some (str xa) := cell_of_row _ w.heap.size 0 _ _ (0, 0) hnw
  have q1 : (w.alloc (.cells #[str xa, str xb, .bool xc] 58)).cell? ⟨w.heap.size, 1, none⟩ = some (str xb) := cell_of_row _ w.heap.size 1 _ _ (0, 0) hnw
  have q2 : (w.alloc (.cells #[str xa, str xb, .bool xc] 58)).cell? ⟨w.heap.size, 2, none⟩ = some (.bool xc) := cell_of_row _ w.heap.size 2 _ _ (0, 0) hnw
  have HBX := Lib.hid (Below.drewsN hbx 1)
  have HS : Hid (∀ W, Below (w.alloc (.cells #[str xa, str xb, .bool xc] 58)).drew.heap.size (w.alloc (.cells #[str xa, str xb, .bool xc] 58)).drew W → W.cell? ⟨b, 5, none⟩ = some (.pointer ol) ∧ W.cell? ⟨w.heap.size, 0, none⟩ = some (str xa) ∧ W.cell? ⟨w.heap.size, 1, none⟩ = some (str xb) ∧ W.cell? ⟨w.heap.size, 2, none⟩ = some (.bool xc)) :=
    Lib.hid (fun W hb => ⟨keepcVW (W := (w.alloc (.cells #[str xa, str xb, .bool xc] 58)).drew) c3a hb, keepcVW (W := (w.alloc (.cells #[str xa, str xb, .bool xc] 58)).drew) q0 hb, keepcVW (W := (w.alloc (.cells #[str xa, str xb, .bool xc] 58)).drew) q1 hb, keepcVW (W := (w.alloc (.cells #[str xa, str xb, .bool xc] 58)).drew) q2 hb⟩)
  clear hc h hl hr hless ec e a1 a2 a3 a4 hn hT IH hbx hnw c0 c3 c4
  go_enter Try.func79, Try.ntmps79
  go_wp2_with (go_at_call 62; refine (CC.out _).mono ?_; rintro e w' ⟨rfl, rfl⟩)
  clear c0a
  go_region_held3 (fun W => W.cell? ⟨b, 5, none⟩ = some (.pointer ol) ∧ W.cell? ⟨w.heap.size, 0, none⟩ = some (str xa) ∧ W.cell? ⟨w.heap.size, 1, none⟩ = some (str xb) ∧ W.cell? ⟨w.heap.size, 2, none⟩ = some (.bool xc))
    (first
      | (exact HS.out _ hb1)
      | (exact HS.out _ (Below.refl _ _))
      | go_keep)
    ((go_at_call 79; refine (HI.out _ HBX.out).mono ?_; rintro e w1 ⟨b1, rfl, ht1, hb1⟩))
  all_goals
    have HB1 := Lib.hid (HBX.out.trans (hb1.mono HBX.out.size))
    have d4 := HCO.out w1 HB1.out
    have HT1 := Lib.hid ht1
    clear hb1 ht1 HS q0 q1 q2 c3a c4a
    go_wp2_with fail
    refine (CJ.out _ _ HB1.out HT1.out).mono ?_
    rintro e w2 ⟨b2, rfl, ht2, hb2⟩
    have HP := Lib.hid (show TQ w2 (some ⟨b2, 0, none⟩) _ ∧ Below _ _ w2 from ⟨ht2, HB1.out.trans (hb2.mono HB1.out.size)⟩)
    clear ht2 hb2 d4
    go_wp2_with fail
    go_ret2
    exact ⟨b2, rfl, HP.out.1, HP.out.2⟩
/-- A put on the right side. -/
theorem put2VW (k x k' x' : Value) (l r : Tr) (n : Nat) (z : Bool) (o : Option Addr) (w : World) (hks : KSVW k) (hxs : VSVW x) (h : TQ w o (.node l k' x' n r)) (hw : WS KSVW VSVW (.node l k' x' n r)) (hn : n < 1152921504606846976) (hno : lessV k k' = false) (hless : lessV k' k = true)
    (T : Tr) (hT : WS KSVW VSVW T ∧ ht T ≤ 1 + n) (IH : ∀ (o : Option Addr) (w : World), TQ w o r → Calls Try.prog 79 #[.pointer o, k, x] w (PutQ T z w)) :
    Calls Try.prog 79 #[.pointer o, k, x] w (PutQ (joinT k' x' l T) z w) := by
  obtain ⟨e, a1, a2, a3, a4⟩ := hw
  obtain ⟨xa, xb, xc, rfl⟩ := hxs
  have CC := Lib.hid (fun W => cmpVW_any k k' W hks a1)
  have ec : cmpV k k' = 1 := by unfold cmpV; rw [if_neg (by simp [hno]), if_pos hless]
  rw [ec] at CC
  have hkv := h.kv
  obtain ⟨b, ol, or, rfl, c3, c4, hl, hr⟩ := cells34VW h
  obtain ⟨b0, T0, hh, pl, pr, hb0, hc⟩ := hkv
  simp only [Option.some.injEq, Addr.mk.injEq, and_true] at hb0
  subst hb0
  have c0 := cell_of_row w b 0 _ T0 (0, 0) hc
  simp only [List.getElem?_toArray, List.getElem?_cons_zero] at c0
  have HKV := Lib.hid (show KQ w (some ⟨b, 0, none⟩) k' x' from ⟨b, T0, hh, pl, pr, rfl, hc⟩)
  have HI := Lib.hid (fun W hb => IH or W (TQ.below (w := w) hb hr))
  have CJ := Lib.hid (fun (b' : Nat) (W : World) (hb : Below w.heap.size w W) (hT1 : TQ W (some ⟨b', 0, none⟩) T) =>
    joinVW_any (some ⟨b, 0, none⟩) ol (some ⟨b', 0, none⟩) k' x' l T W (HKV.out.below hb) a1 a2 (TQ.below hb hl) hT1 a3 hT.1 ⟨by omega, by omega⟩)
  have hbx := below_alloc w (.cells #[str xa, str xb, .bool xc] 58)
  have HCO := Lib.hid (fun (W : World) (hb : Below w.heap.size w W) => keepcVW c3 hb)
  have c0a := keepcVW c0 hbx
  have c3a := keepcVW c3 hbx
  have c4a := keepcVW c4 hbx
  have hnw := heap_alloc_new w (.cells #[str xa, str xb, .bool xc] 58)
  have q0 : (w.alloc (.cells #[str xa, str xb, .bool xc] 58)).cell? ⟨w.heap.size, 0, none⟩ = some (str xa) := cell_of_row _ w.heap.size 0 _ _ (0, 0) hnw
  have q1 : (w.alloc (.cells #[str xa, str xb, .bool xc] 58)).cell? ⟨w.heap.size, 1, none⟩ = some (str xb) := cell_of_row _ w.heap.size 1 _ _ (0, 0) hnw
  have q2 : (w.alloc (.cells #[str xa, str xb, .bool xc] 58)).cell? ⟨w.heap.size, 2, none⟩ = some (.bool xc) := cell_of_row _ w.heap.size 2 _ _ (0, 0) hnw
  have HBX := Lib.hid (Below.drewsN hbx 1)
  have HS : Hid (∀ W, Below (w.alloc (.cells #[str xa, str xb, .bool xc] 58)).drew.heap.size (w.alloc (.cells #[str xa, str xb, .bool xc] 58)).drew W → W.cell? ⟨b, 6, none⟩ = some (.pointer or) ∧ W.cell? ⟨w.heap.size, 0, none⟩ = some (str xa) ∧ W.cell? ⟨w.heap.size, 1, none⟩ = some (str xb) ∧ W.cell? ⟨w.heap.size, 2, none⟩ = some (.bool xc)) :=
    Lib.hid (fun W hb => ⟨keepcVW (W := (w.alloc (.cells #[str xa, str xb, .bool xc] 58)).drew) c4a hb, keepcVW (W := (w.alloc (.cells #[str xa, str xb, .bool xc] 58)).drew) q0 hb, keepcVW (W := (w.alloc (.cells #[str xa, str xb, .bool xc] 58)).drew) q1 hb, keepcVW (W := (w.alloc (.cells #[str xa, str xb, .bool xc] 58)).drew) q2 hb⟩)
  clear hc h hl hr hless hno ec e a1 a2 a3 a4 hn hT IH hbx hnw c0 c3 c4
  go_enter Try.func79, Try.ntmps79
  go_wp2_with (go_at_call 62; refine (CC.out _).mono ?_; rintro e w' ⟨rfl, rfl⟩)
  clear c0a
  go_region_held3 (fun W => W.cell? ⟨b, 6, none⟩ = some (.pointer or) ∧ W.cell? ⟨w.heap.size, 0, none⟩ = some (str xa) ∧ W.cell? ⟨w.heap.size, 1, none⟩ = some (str xb) ∧ W.cell? ⟨w.heap.size, 2, none⟩ = some (.bool xc))
    (first
      | (exact HS.out _ hb1)
      | (exact HS.out _ (Below.refl _ _))
      | go_keep)
    ((go_at_call 79; refine (HI.out _ HBX.out).mono ?_; rintro e w1 ⟨b1, rfl, ht1, hb1⟩))
  all_goals
    have HB1 := Lib.hid (HBX.out.trans (hb1.mono HBX.out.size))
    have d4 := HCO.out w1 HB1.out
    have HT1 := Lib.hid ht1
    clear hb1 ht1 HS q0 q1 q2 c3a c4a
    go_wp2_with fail
    refine (CJ.out _ _ HB1.out HT1.out).mono ?_
    rintro e w2 ⟨b2, rfl, ht2, hb2⟩
    have HP := Lib.hid (show TQ w2 (some ⟨b2, 0, none⟩) _ ∧ Below _ _ w2 from ⟨ht2, HB1.out.trans (hb2.mono HB1.out.size)⟩)
    clear ht2 hb2 d4
    go_wp2_with fail
    go_ret2
    exact ⟨b2, rfl, HP.out.1, HP.out.2⟩
/-- The key stands: its value is another. -/
theorem put3VW (k x x' : Value) (l r : Tr) (n : Nat) (o : Option Addr) (w : World) (hks : KSVW k) (hxs : VSVW x) (h : TQ w o (.node l k x' n r)) (hirr : lessV k k = false) :
    Calls Try.prog 79 #[.pointer o, k, x] w (PutQ (.node l k x n r) false w) := by
  have CC := Lib.hid (fun W => cmpVW_any k k W hks hks)
  have ec : cmpV k k = 0 := by unfold cmpV; rw [if_neg (by simp [hirr]), if_neg (by simp [hirr])]
  rw [ec] at CC
  obtain ⟨xa, xb, xc, rfl⟩ := hxs
  obtain ⟨b, T0, ol, or, rfl, hc, hl, hr⟩ := h
  have hbx := below_alloc w (.cells #[str xa, str xb, .bool xc] 58)
  have hnw := heap_alloc_new w (.cells #[str xa, str xb, .bool xc] 58)
  have hs : (w.alloc (.cells #[str xa, str xb, .bool xc] 58)).heap.size = w.heap.size + 1 := by simp
  have c0 := keepcVW (cell_of_row w b 0 _ T0 (0, 0) hc) hbx
  have c2 := keepcVW (cell_of_row w b 4 _ T0 (0, 0) hc) hbx
  have c3 := keepcVW (cell_of_row w b 5 _ T0 (0, 0) hc) hbx
  have c4 := keepcVW (cell_of_row w b 6 _ T0 (0, 0) hc) hbx
  have q0 : (w.alloc (.cells #[str xa, str xb, .bool xc] 58)).cell? ⟨w.heap.size, 0, none⟩ = some (str xa) := cell_of_row _ w.heap.size 0 _ _ (0, 0) hnw
  have q1 : (w.alloc (.cells #[str xa, str xb, .bool xc] 58)).cell? ⟨w.heap.size, 1, none⟩ = some (str xb) := cell_of_row _ w.heap.size 1 _ _ (0, 0) hnw
  have q2 : (w.alloc (.cells #[str xa, str xb, .bool xc] 58)).cell? ⟨w.heap.size, 2, none⟩ = some (.bool xc) := cell_of_row _ w.heap.size 2 _ _ (0, 0) hnw
  have HL := Lib.hid (TQ.below hbx hl)
  have HR := Lib.hid (TQ.below hbx hr)
  have HBX := Lib.hid (And.intro hbx hs)
  obtain ⟨kn, rfl⟩ := hks
  clear hc hl hr hirr ec hbx hnw hs
  go_enter Try.func79, Try.ntmps79
  go_wp2_with (go_at_call 62; refine (CC.out _).mono ?_; rintro e w' ⟨rfl, rfl⟩)
  clear c0
  go_region_held3 (fun W => W.cell? ⟨b, 4, none⟩ = some (.int .i64 (n : Int)) ∧ W.cell? ⟨b, 5, none⟩ = some (.pointer ol) ∧ W.cell? ⟨b, 6, none⟩ = some (.pointer or) ∧ W.cell? ⟨w.heap.size, 0, none⟩ = some (str xa) ∧ W.cell? ⟨w.heap.size, 1, none⟩ = some (str xb) ∧ W.cell? ⟨w.heap.size, 2, none⟩ = some (.bool xc))
    (first
      | (exact ⟨c2, c3, c4, q0, q1, q2⟩)
      | go_keep)
    (fail)
  all_goals
    go_wp2_with fail
    go_ret2
    have hb : Below (w.alloc (.cells #[str xa, str xb, .bool xc] 58)).heap.size (w.alloc (.cells #[str xa, str xb, .bool xc] 58)) ((w.alloc (.cells #[str xa, str xb, .bool xc] 58)).alloc (.cells #[(str kn), (str xa), (str xb), (.bool xc), .int .i64 (n : Int), .pointer ol, .pointer or] 112)) := below_alloc _ _
    have hn2 := heap_alloc_new (w.alloc (.cells #[str xa, str xb, .bool xc] 58)) (.cells #[(str kn), (str xa), (str xb), (.bool xc), .int .i64 (n : Int), .pointer ol, .pointer or] 112)
    rw [HBX.out.2] at hn2
    exact ⟨w.heap.size + 1, rfl, TQ.drewN 1 ⟨_, _, ol, or, rfl, hn2, TQ.below hb HL.out, TQ.below hb HR.out⟩, Below.drewsN (HBX.out.1.trans (hb.mono HBX.out.1.size)) 1⟩
theorem ordVW : Ord KSVW where
  irr := by
    rintro a ⟨x, rfl⟩
    exact bl_irr x
  tr := by
    rintro a b c ⟨x, rfl⟩ ⟨y, rfl⟩ ⟨z, rfl⟩ h1 h2
    exact bl_tr x y z h1 h2
  tot := by
    rintro a b ⟨x, rfl⟩ ⟨y, rfl⟩ h1 h2
    rw [bl_tot x y h1 h2]
theorem putVW_any (k x : Value) (hks : KSVW k) (hxs : VSVW x) : ∀ (t : Tr) (o : Option Addr) (w : World), TQ w o t → WS KSVW VSVW t → ht t < 1152921504606846976 →
    Calls Try.prog 79 #[.pointer o, k, x] w (PutQ (putT k x t) (newT k t) w)
  | .nil, o, w, h, _, _ => by
    obtain rfl := h
    exact put0VW k x w hks hxs
  | .node l k' x' n r, o, w, h, hw, hn => by
    have hw' := hw
    obtain ⟨e, a1, a2, a3, a4⟩ := hw'
    have hn' : n < 1152921504606846976 := hn
    unfold putT newT
    by_cases g1 : lessV k k' = true
    · rw [if_pos g1, if_pos g1]
      obtain ⟨q1, q2⟩ := WS.put hks hxs a3
      exact put1VW k x k' x' l r n _ o w hks hxs h hw hn' g1 _ ⟨q1, by omega⟩ (fun o w h' => putVW_any k x hks hxs l o w h' a3 (by omega))
    · rw [if_neg g1, if_neg g1]
      by_cases g2 : lessV k' k = true
      · rw [if_pos g2, if_pos g2]
        obtain ⟨q1, q2⟩ := WS.put hks hxs a4
        exact put2VW k x k' x' l r n _ o w hks hxs h hw hn' (by simpa using g1) g2 _ ⟨q1, by omega⟩ (fun o w h' => putVW_any k x hks hxs r o w h' a4 (by omega))
      · rw [if_neg g2, if_neg g2]
        obtain rfl := ordVW.tot k k' hks a1 (by simpa using g1) (by simpa using g2)
        exact put3VW k x x' l r n o w hks hxs h (ordVW.irr k hks)
end Go.Proofs.Ytcgjiddiegepkaa
