/- Maps in order, omap[string,[]handbill/vers.Version[string]]: Delete. -/
import Derived.Test.YtdlacjdddjebgaaGetVS
import Derived.Test.YtdlacjdddjebgaaTrDel
namespace Go.Proofs.Ytdlacjdddjebgaa
open Go.RowKit

theorem tl0VS (k x : Value) (r : Tr) (n : Nat) (o : Option Addr) (w : World) (h : TP w o (.node .nil k x n r)) : Calls Try.prog 78 #[.pointer o] w (TlPost (k, x) r w) := by
  have HK := Lib.hid h.kv
  obtain ⟨b, ol, or, rfl, c3, c4, hl, hr⟩ := cells34VS h
  obtain rfl : ol = none := hl
  have HR := Lib.hid hr
  clear h hr
  go_enter Try.func78, Try.ntmps78
  go_wp2_with fail
  go_quiet (fail)
  go_wp2_with fail
  go_ret2
  exact ⟨_, or, rfl, (show KV (w.drewN nq) _ _ _ from HK.out.below (Below.drewsN (Below.refl _ _) nq)), HR.out.drewN nq, Below.drewsN (Below.refl _ _) nq⟩
theorem tl1VS (k x : Value) (l r T : Tr) (n : Nat) (P : Value × Value) (o : Option Addr) (w : World) (h : TP w o (.node l k x n r)) (hw : WS KSVS VSVS (.node l k x n r)) (hn : n < 1152921504606846976) (hne : l ≠ .nil) (hT : WS KSVS VSVS T ∧ ht T ≤ n)
    (IH : ∀ (o : Option Addr) (w : World), TP w o l → Calls Try.prog 78 #[.pointer o] w (TlPost P T w)) : Calls Try.prog 78 #[.pointer o] w (TlPost P (joinT k x T r) w) := by
  obtain ⟨e, a1, a2, a3, a4⟩ := hw
  have HK := Lib.hid h.kv
  obtain ⟨b, ol, or, rfl, c3, c4, hl, hr⟩ := cells34VS h
  obtain ⟨bl, rfl⟩ : ∃ bl, ol = some ⟨bl, 0, none⟩ := by
    cases l with
    | nil => exact absurd rfl hne
    | node l1 k1 x1 n1 r1 =>
      obtain ⟨b1, _, _, _, rfl, _⟩ := hl
      exact ⟨b1, rfl⟩
  have HI := Lib.hid (IH (some ⟨bl, 0, none⟩) w hl)
  have CJ := Lib.hid (fun (o' : Option Addr) (W : World) (hb : Below w.heap.size w W) (hT1 : TP W o' T) =>
    joinVS_any (some ⟨b, 0, none⟩) o' or k x T r W (HK.out.below hb) a1 a2 hT1 (TP.below hb hr) hT.1 a4 ⟨by omega, by omega⟩)
  have C4 := Lib.hid (fun (W : World) (hb : Below w.heap.size w W) => (keepcVS c4 hb))
  clear h hl hr e a1 a2 a3 a4 hn hT IH hne c4
  go_enter Try.func78, Try.ntmps78
  go_wp2_with fail
  refine HI.out.mono ?_
  rintro e w1 ⟨p1, o1, rfl, hk1, ht1, hb1⟩
  have d4 := C4.out w1 hb1
  have HB1 := Lib.hid hb1
  have HT1 := Lib.hid ht1
  have HK1 := Lib.hid hk1
  clear hb1 ht1 hk1 c3
  go_wp2_with fail
  refine (CJ.out _ _ HB1.out HT1.out).mono ?_
  rintro e w2 ⟨b2, rfl, ht2, hb2⟩
  have HP := Lib.hid (show TP w2 (some ⟨b2, 0, none⟩) _ ∧ Below _ _ w2 ∧ KV w2 p1 P.1 P.2 from ⟨ht2, HB1.out.trans (hb2.mono HB1.out.size), HK1.out.below hb2⟩)
  clear ht2 hb2 d4
  go_wp2_with fail
  go_ret2
  exact ⟨p1, some ⟨b2, 0, none⟩, rfl, HP.out.2.2, HP.out.1, HP.out.2.1⟩
theorem tlVS_any : ∀ (l : Tr) (k x : Value) (n : Nat) (r : Tr) (o : Option Addr) (w : World), TP w o (.node l k x n r) → WS KSVS VSVS (.node l k x n r) → n < 1152921504606846976 →
    Calls Try.prog 78 #[.pointer o] w (TlPost (tlP l k x) (tlR l k x r) w)
  | .nil, k, x, n, r, o, w, h, _, _ => tl0VS k x r n o w h
  | .node l' k' x' n' r', k, x, n, r, o, w, h, hw, hn => by
    have hw' := hw
    obtain ⟨e, a1, a2, a3, a4⟩ := hw'
    have a3' := a3
    obtain ⟨e', b1, b2, b3, b4⟩ := a3'
    have e2 : n = 1 + max n' (ht r) := e
    obtain ⟨c1, c2, c3, c4⟩ := WS.tl b3 b1 b2 b4
    exact tl1VS k x _ r _ n (tlP l' k' x') o w h hw hn (by simp) ⟨c3, by omega⟩ (fun o w h' => tlVS_any l' k' x' n' r' o w h' a3 (by omega))
theorem rem0VS (k : Value) (w : World) : Calls Try.prog 66 #[.pointer none, k] w (RemPost .nil false w) := by
  go_enter Try.func66, Try.ntmps66
  go_wp2_with fail
  go_ret2
  exact ⟨none, rfl, rfl, Below.refl _ _⟩
theorem rem1VS (k k' x' : Value) (l r : Tr) (n : Nat) (z : Bool) (o : Option Addr) (w : World) (hks : KSVS k) (h : TP w o (.node l k' x' n r)) (hw : WS KSVS VSVS (.node l k' x' n r)) (hn : n < 1152921504606846976) (hless : lessV k k' = true)
    (T : Tr) (hT : WS KSVS VSVS T ∧ ht T ≤ n) (IH : ∀ (o : Option Addr) (w : World), TP w o l → Calls Try.prog 66 #[.pointer o, k] w (RemPost T z w)) :
    Calls Try.prog 66 #[.pointer o, k] w (RemPost (if z = true then joinT k' x' T r else .node l k' x' n r) z w) := by
  obtain ⟨e, a1, a2, a3, a4⟩ := hw
  have CC := Lib.hid (fun W => cmpVS_any k k' W hks a1)
  have ec : cmpV k k' = -1 := by unfold cmpV; rw [if_pos hless]
  rw [ec] at CC
  have hkv := h.kv
  have H0 := Lib.hid h
  obtain ⟨b, ol, or, rfl, c3, c4, hl, hr⟩ := cells34VS h
  obtain ⟨b0, T0, hh, pl, pr, hb0, hc⟩ := hkv
  simp only [Option.some.injEq, Addr.mk.injEq, and_true] at hb0
  subst hb0
  have c0 := cell_of_row w b 0 _ T0 (0, 0) hc
  simp only [List.getElem?_toArray, List.getElem?_cons_zero] at c0
  have HKV := Lib.hid (show KV w (some ⟨b, 0, none⟩) k' x' from ⟨b, T0, hh, pl, pr, rfl, hc⟩)
  have HI := Lib.hid (IH ol w hl)
  have CJ := Lib.hid (fun (o' : Option Addr) (W : World) (hb : Below w.heap.size w W) (hT1 : TP W o' T) =>
    joinVS_any (some ⟨b, 0, none⟩) o' or k' x' T r W (HKV.out.below hb) a1 a2 hT1 (TP.below hb hr) hT.1 a4 ⟨by omega, by omega⟩)
  have C4 := Lib.hid (fun (W : World) (hb : Below w.heap.size w W) => (keepcVS c4 hb))
  clear hc h hl hr hless ec e a1 a2 a3 a4 hn hT IH
  cases z with
  | true =>
    go_enter Try.func66, Try.ntmps66
    go_wp2_with (go_at_call 68; refine (CC.out _).mono ?_; rintro e w' ⟨rfl, rfl⟩)
    refine HI.out.mono ?_
    rintro e w1 ⟨o1, rfl, ht1, hb1⟩
    have d4 := C4.out w1 hb1
    have HB1 := Lib.hid hb1
    have HT1 := Lib.hid ht1
    clear hb1 ht1 c0 c3 c4
    go_wp2_with fail
    refine (CJ.out _ _ HB1.out HT1.out).mono ?_
    rintro e w2 ⟨b2, rfl, ht2, hb2⟩
    have HP := Lib.hid (show TP w2 (some ⟨b2, 0, none⟩) _ ∧ Below _ _ w2 from ⟨ht2, HB1.out.trans (hb2.mono HB1.out.size)⟩)
    clear ht2 hb2 d4
    go_wp2_with fail
    go_ret2
    exact ⟨some ⟨b2, 0, none⟩, rfl, HP.out.1, HP.out.2⟩
  | false =>
    go_enter Try.func66, Try.ntmps66
    go_wp2_with (go_at_call 68; refine (CC.out _).mono ?_; rintro e w' ⟨rfl, rfl⟩)
    refine HI.out.mono ?_
    rintro e w1 ⟨o1, rfl, ht1, hb1⟩
    have HB1 := Lib.hid hb1
    clear hb1 ht1 c0 c3 c4
    go_wp2_with fail
    go_ret2
    exact ⟨some ⟨b, 0, none⟩, rfl, TP.below HB1.out H0.out, HB1.out⟩
theorem rem2VS (k k' x' : Value) (l r : Tr) (n : Nat) (z : Bool) (o : Option Addr) (w : World) (hks : KSVS k) (h : TP w o (.node l k' x' n r)) (hw : WS KSVS VSVS (.node l k' x' n r)) (hn : n < 1152921504606846976) (hno : lessV k k' = false) (hless : lessV k' k = true)
    (T : Tr) (hT : WS KSVS VSVS T ∧ ht T ≤ n) (IH : ∀ (o : Option Addr) (w : World), TP w o r → Calls Try.prog 66 #[.pointer o, k] w (RemPost T z w)) :
    Calls Try.prog 66 #[.pointer o, k] w (RemPost (if z = true then joinT k' x' l T else .node l k' x' n r) z w) := by
  obtain ⟨e, a1, a2, a3, a4⟩ := hw
  have CC := Lib.hid (fun W => cmpVS_any k k' W hks a1)
  have ec : cmpV k k' = 1 := by unfold cmpV; rw [if_neg (by simp [hno]), if_pos hless]
  rw [ec] at CC
  have hkv := h.kv
  have H0 := Lib.hid h
  obtain ⟨b, ol, or, rfl, c3, c4, hl, hr⟩ := cells34VS h
  obtain ⟨b0, T0, hh, pl, pr, hb0, hc⟩ := hkv
  simp only [Option.some.injEq, Addr.mk.injEq, and_true] at hb0
  subst hb0
  have c0 := cell_of_row w b 0 _ T0 (0, 0) hc
  simp only [List.getElem?_toArray, List.getElem?_cons_zero] at c0
  have HKV := Lib.hid (show KV w (some ⟨b, 0, none⟩) k' x' from ⟨b, T0, hh, pl, pr, rfl, hc⟩)
  have HI := Lib.hid (IH or w hr)
  have CJ := Lib.hid (fun (o' : Option Addr) (W : World) (hb : Below w.heap.size w W) (hT1 : TP W o' T) =>
    joinVS_any (some ⟨b, 0, none⟩) ol o' k' x' l T W (HKV.out.below hb) a1 a2 (TP.below hb hl) hT1 a3 hT.1 ⟨by omega, by omega⟩)
  have C4 := Lib.hid (fun (W : World) (hb : Below w.heap.size w W) => (keepcVS c3 hb))
  clear hc h hl hr hless hno ec e a1 a2 a3 a4 hn hT IH
  cases z with
  | true =>
    go_enter Try.func66, Try.ntmps66
    go_wp2_with (go_at_call 68; refine (CC.out _).mono ?_; rintro e w' ⟨rfl, rfl⟩)
    refine HI.out.mono ?_
    rintro e w1 ⟨o1, rfl, ht1, hb1⟩
    have d4 := C4.out w1 hb1
    have HB1 := Lib.hid hb1
    have HT1 := Lib.hid ht1
    clear hb1 ht1 c0 c3 c4
    go_wp2_with fail
    refine (CJ.out _ _ HB1.out HT1.out).mono ?_
    rintro e w2 ⟨b2, rfl, ht2, hb2⟩
    have HP := Lib.hid (show TP w2 (some ⟨b2, 0, none⟩) _ ∧ Below _ _ w2 from ⟨ht2, HB1.out.trans (hb2.mono HB1.out.size)⟩)
    clear ht2 hb2 d4
    go_wp2_with fail
    go_ret2
    exact ⟨some ⟨b2, 0, none⟩, rfl, HP.out.1, HP.out.2⟩
  | false =>
    go_enter Try.func66, Try.ntmps66
    go_wp2_with (go_at_call 68; refine (CC.out _).mono ?_; rintro e w' ⟨rfl, rfl⟩)
    refine HI.out.mono ?_
    rintro e w1 ⟨o1, rfl, ht1, hb1⟩
    have HB1 := Lib.hid hb1
    clear hb1 ht1 c0 c3 c4
    go_wp2_with fail
    go_ret2
    exact ⟨some ⟨b, 0, none⟩, rfl, TP.below HB1.out H0.out, HB1.out⟩
/-- The key stands: one tree is left. -/
theorem rem3VS (k x' : Value) (l r : Tr) (n : Nat) (o : Option Addr) (w : World) (hks : KSVS k) (h : TP w o (.node l k x' n r)) (hirr : lessV k k = false) (hnil : l = .nil ∨ r = .nil) :
    Calls Try.prog 66 #[.pointer o, k] w (RemPost (oneT l r) true w) := by
  have CC := Lib.hid (fun W => cmpVS_any k k W hks hks)
  have ec : cmpV k k = 0 := by unfold cmpV; rw [if_neg (by simp [hirr]), if_neg (by simp [hirr])]
  rw [ec] at CC
  have hkv := h.kv
  obtain ⟨b, ol, or, rfl, c3, c4, hl, hr⟩ := cells34VS h
  obtain ⟨b0, T0, hh, pl, pr, hb0, hc⟩ := hkv
  simp only [Option.some.injEq, Addr.mk.injEq, and_true] at hb0
  subst hb0
  have c0 := cell_of_row w b 0 _ T0 (0, 0) hc
  simp only [List.getElem?_toArray, List.getElem?_cons_zero] at c0
  clear hc h hirr ec
  cases l with
  | nil =>
    obtain rfl : ol = none := hl
    have HR := Lib.hid hr
    clear hr hnil
    go_enter Try.func66, Try.ntmps66
    go_wp2_with (go_at_call 68; refine (CC.out _).mono ?_; rintro e w' ⟨rfl, rfl⟩)
    go_ret2
    exact ⟨or, rfl, HR.out, Below.refl _ _⟩
  | node l1 k1 x1 n1 r1 =>
    rcases hnil with h0 | rfl
    · cases h0
    obtain rfl : or = none := hr
    have HL := Lib.hid hl
    obtain ⟨bl, rfl⟩ : ∃ bl, ol = some ⟨bl, 0, none⟩ := by
      obtain ⟨b1, _, _, _, rfl, _⟩ := hl
      exact ⟨b1, rfl⟩
    clear hl
    go_enter Try.func66, Try.ntmps66
    go_wp2_with (go_at_call 68; refine (CC.out _).mono ?_; rintro e w' ⟨rfl, rfl⟩)
    go_ret2
    exact ⟨some ⟨bl, 0, none⟩, rfl, HL.out, Below.refl _ _⟩
/-- The key stands between two trees. -/
theorem rem4VS (k x' rk rx : Value) (l rl rr : Tr) (n m : Nat) (o : Option Addr) (w : World) (hks : KSVS k) (h : TP w o (.node l k x' n (.node rl rk rx m rr))) (hw : WS KSVS VSVS (.node l k x' n (.node rl rk rx m rr))) (hn : n < 1152921504606846976) (hirr : lessV k k = false) (hne : l ≠ .nil) :
    Calls Try.prog 66 #[.pointer o, k] w (RemPost (joinT (tlP rl rk rx).1 (tlP rl rk rx).2 l (tlR rl rk rx rr)) true w) := by
  obtain ⟨e, a1, a2, a3, a4⟩ := hw
  have a4' := a4
  obtain ⟨e', b1, b2, b3, b4⟩ := a4'
  have e2 : n = 1 + max (ht l) m := e
  obtain ⟨q1, q2, q3, q4⟩ := WS.tl b3 b1 b2 b4
  have CC := Lib.hid (fun W => cmpVS_any k k W hks hks)
  have ec : cmpV k k = 0 := by unfold cmpV; rw [if_neg (by simp [hirr]), if_neg (by simp [hirr])]
  rw [ec] at CC
  have hkv := h.kv
  obtain ⟨b, ol, or, rfl, c3, c4, hl, hr⟩ := cells34VS h
  obtain ⟨b0, T0, hh, pl, pr, hb0, hc⟩ := hkv
  simp only [Option.some.injEq, Addr.mk.injEq, and_true] at hb0
  subst hb0
  have c0 := cell_of_row w b 0 _ T0 (0, 0) hc
  simp only [List.getElem?_toArray, List.getElem?_cons_zero] at c0
  obtain ⟨bl, rfl⟩ : ∃ bl, ol = some ⟨bl, 0, none⟩ := by
    cases l with
    | nil => exact absurd rfl hne
    | node l1 k1 x1 n1 r1 =>
      obtain ⟨b1, _, _, _, rfl, _⟩ := hl
      exact ⟨b1, rfl⟩
  obtain ⟨br, rfl⟩ : ∃ br, or = some ⟨br, 0, none⟩ := by
    obtain ⟨b1, _, _, _, rfl, _⟩ := hr
    exact ⟨b1, rfl⟩
  have CT := Lib.hid (tlVS_any rl rk rx m rr (some ⟨br, 0, none⟩) w hr a4 (by omega))
  have CJ := Lib.hid (fun (p o' : Option Addr) (W : World) (hb : Below w.heap.size w W) (hk1 : KV W p (tlP rl rk rx).1 (tlP rl rk rx).2) (hT1 : TP W o' (tlR rl rk rx rr)) =>
    joinVS_any p (some ⟨bl, 0, none⟩) o' _ _ l _ W hk1 q1 q2 (TP.below hb hl) hT1 a3 q3 ⟨by omega, by omega⟩)
  have C3 := Lib.hid (fun (W : World) (hb : Below w.heap.size w W) => (keepcVS c3 hb))
  clear hc h hirr ec hl hr e e' e2 a1 a2 a3 a4 b1 b2 b3 b4 q1 q2 q3 q4 hn hne
  go_enter Try.func66, Try.ntmps66
  go_wp2_with (go_at_call 68; refine (CC.out _).mono ?_; rintro e w' ⟨rfl, rfl⟩)
  refine CT.out.mono ?_
  rintro e w1 ⟨p1, o1, rfl, hk1, ht1, hb1⟩
  have d3 := C3.out w1 hb1
  have HB1 := Lib.hid hb1
  have HT1 := Lib.hid ht1
  have HK1 := Lib.hid hk1
  clear hb1 ht1 hk1 c0 c3 c4
  go_wp2_with fail
  refine (CJ.out _ _ _ HB1.out HK1.out HT1.out).mono ?_
  rintro e w2 ⟨b2, rfl, ht2, hb2⟩
  have HP := Lib.hid (show TP w2 (some ⟨b2, 0, none⟩) _ ∧ Below _ _ w2 from ⟨ht2, HB1.out.trans (hb2.mono HB1.out.size)⟩)
  clear ht2 hb2 d3
  go_wp2_with fail
  go_ret2
  exact ⟨some ⟨b2, 0, none⟩, rfl, HP.out.1, HP.out.2⟩
theorem remVS_any (k : Value) (hks : KSVS k) : ∀ (t : Tr) (o : Option Addr) (w : World), TP w o t → WS KSVS VSVS t → ht t < 1152921504606846976 →
    Calls Try.prog 66 #[.pointer o, k] w (RemPost (remT k t) (hasT k t) w)
  | .nil, o, w, h, _, _ => by
    obtain rfl := h
    exact rem0VS k w
  | .node l k' x' n r, o, w, h, hw, hn => by
    have hw' := hw
    obtain ⟨e, a1, a2, a3, a4⟩ := hw'
    have hn' : n < 1152921504606846976 := hn
    unfold remT
    simp only [hasT, remT.hasT]
    by_cases g1 : lessV k k' = true
    · simp only [g1, if_true]
      obtain ⟨q1, q2⟩ := WS.rem (k := k) a3
      exact rem1VS k k' x' l r n _ o w hks h hw hn' g1 _ ⟨q1, by omega⟩ (fun o w h' => remVS_any k hks l o w h' a3 (by omega))
    · have g1' : lessV k k' = false := by simpa using g1
      simp only [g1', Bool.false_eq_true, if_false]
      by_cases g2 : lessV k' k = true
      · simp only [g2, if_true]
        obtain ⟨q1, q2⟩ := WS.rem (k := k) a4
        exact rem2VS k k' x' l r n _ o w hks h hw hn' g1' g2 _ ⟨q1, by omega⟩ (fun o w h' => remVS_any k hks r o w h' a4 (by omega))
      · have g2' : lessV k' k = false := by simpa using g2
        simp only [g2', Bool.false_eq_true, if_false]
        obtain rfl := ordVS.tot k k' hks a1 g1' g2'
        cases l with
        | nil => exact rem3VS k x' .nil r n o w hks h g1' (.inl rfl)
        | node l1 k1 x1 n1 r1 =>
          cases r with
          | nil => exact rem3VS k x' _ .nil n o w hks h g1' (.inr rfl)
          | node rl rk rx m rr => exact rem4VS k x' rk rx _ rl rr n m o w hks h hw hn' g1' (by simp)
set_option maxHeartbeats 400000 in
theorem mdelVS_any (b : Nat) (k : Value) (t : Tr) (w : World) (h : MP w b t) (hks : KSVS k) (hw : WS KSVS VSVS t) (hh : ht t < 1152921504606846976) (hl : (prs t).length < 1152921504606846976) :
    Calls Try.prog 45 #[.pointer (some ⟨b, 0, none⟩), k] w (MapPost b (remT k t) (hasT k t) w) := by
  have hlt := h.lt
  obtain ⟨T, o, hc, htp⟩ := h
  have c0 : w.cell? ⟨b, 0, none⟩ = some (.pointer o) := by simp [World.cell?, hc]
  have CP := Lib.hid (remVS_any k hks t o w htp hw hh)
  have HL := Lib.hid (len_rem k t)
  have HC := Lib.hid hc
  obtain ⟨z, hz⟩ : ∃ z, z = hasT k t := ⟨_, rfl⟩
  obtain ⟨n, hn⟩ : ∃ n, n = (prs t).length := ⟨_, rfl⟩
  rw [← hz] at CP
  rw [← hz]
  rw [← hn] at HC hl
  have HZ := Lib.hid (show n = (prs (remT k t)).length + if z = true then 1 else 0 by rw [hn, hz]; exact HL.out)
  clear hc htp hw hh hz hn HL
  cases z with
  | true =>
    have hn1 : (1 : Int) ≤ (n : Int) := by
      have := HZ.out
      simp only [if_true] at this
      omega
    go_enter Try.func45, Try.ntmps45
    go_wp2_with fail
    refine CP.out.mono ?_
    rintro e w1 ⟨o1, rfl, ht1, hb1⟩
    have hc1 : w1.heap[b]? = some (.cells #[.pointer o, .int .i64 (n : Int)] T (0, 0)) := by rw [hb1.block b hlt]; exact HC.out
    have f0 := frozen_of_row w1 b 0 _ T hc1
    have f1 := frozen_of_row w1 b 1 _ T hc1
    have d0 : w1.cell? ⟨b, 0, none⟩ = some (.pointer o) := by simp [World.cell?, hc1]
    have d1 : w1.cell? ⟨b, 1, none⟩ = some (.int .i64 (n : Int)) := by simp [World.cell?, hc1]
    have HC1 := Lib.hid hc1
    have HT1 := Lib.hid ht1
    have HB1 := Lib.hid hb1
    clear hc1 ht1 hb1 c0
    go_wp2_with fail
    go_ret
    have q1 := (two_setCell (u := .pointer o1) HC1.out).1
    have q2 := (two_setCell (u := .int .i64 ((n : Int) - 1)) q1).2
    have ho : Only b w1 ((w1.setCell ⟨b, 0, none⟩ (.pointer o1)).setCell ⟨b, 1, none⟩ (.int .i64 ((n : Int) - 1))) := ((Only.refl b w1).setCell 0 _).setCell 1 _
    have e : (((prs (remT k t)).length : Nat) : Int) = (n : Int) - 1 := by
      have := HZ.out
      simp only [if_true] at this
      omega
    refine ⟨rfl, ⟨T, o1, by rw [e]; exact q2, TP.only HC1.out ho HT1.out⟩, (Only.of_below HB1.out).trans ho, ((HB1.out.mono (Nat.le_of_lt hlt)).setCell (p := ⟨b, 0, none⟩) (Nat.le_refl b) _).setCell (p := ⟨b, 1, none⟩) (Nat.le_refl b) _⟩
  | false =>
    go_enter Try.func45, Try.ntmps45
    go_wp2_with fail
    refine CP.out.mono ?_
    rintro e w1 ⟨o1, rfl, ht1, hb1⟩
    have hc1 : w1.heap[b]? = some (.cells #[.pointer o, .int .i64 (n : Int)] T (0, 0)) := by rw [hb1.block b hlt]; exact HC.out
    have f0 := frozen_of_row w1 b 0 _ T hc1
    have d0 : w1.cell? ⟨b, 0, none⟩ = some (.pointer o) := by simp [World.cell?, hc1]
    have HC1 := Lib.hid hc1
    have HT1 := Lib.hid ht1
    have HB1 := Lib.hid hb1
    clear hc1 ht1 hb1 c0
    go_wp2_with fail
    go_ret
    have q1 := (two_setCell (u := .pointer o1) HC1.out).1
    have ho : Only b w1 (w1.setCell ⟨b, 0, none⟩ (.pointer o1)) := (Only.refl b w1).setCell 0 _
    have e : (((prs (remT k t)).length : Nat) : Int) = (n : Int) := by
      have := HZ.out
      simp only [Bool.false_eq_true, if_false] at this
      omega
    refine ⟨rfl, ⟨T, o1, by rw [e]; exact q1, TP.only HC1.out ho HT1.out⟩, (Only.of_below HB1.out).trans ho, (HB1.out.mono (Nat.le_of_lt hlt)).setCell (p := ⟨b, 0, none⟩) (Nat.le_refl b) _⟩
end Go.Proofs.Ytdlacjdddjebgaa
