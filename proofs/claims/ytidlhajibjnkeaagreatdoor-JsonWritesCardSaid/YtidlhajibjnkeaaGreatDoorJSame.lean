/- JSON: Same. -/
import Derived.Test.YtidlhajibjnkeaaGreatDoorJMay
namespace Go.Proofs.YtidlhajibjnkeaaGreatDoor
open Go.RowKit

mutual
def samV : JV → JV → Bool
  | .mk k n s l m, .mk k' n' s' l' m' => (k == k') && (n == n') && (s == s') && samL l l' && samM m m'
def samL : List JV → List JV → Bool
  | [], [] => true
  | v :: t, v' :: t' => samV v v' && samL t t'
  | [], _ :: _ => false
  | _ :: _, [] => false
def samM : List (List UInt8 × JV) → List (List UInt8 × JV) → Bool
  | [], [] => true
  | (a, v) :: t, (a', v') :: t' => ((a == a') && samV v v') && samM t t'
  | [], _ :: _ => false
  | _ :: _, [] => false
end
mutual
theorem samV_eq : ∀ (v v' : JV), samV v v' = true ↔ v = v'
  | .mk k n s l m, .mk k' n' s' l' m' => by
    rw [samV]
    simp only [Bool.and_eq_true, beq_iff_eq, JV.mk.injEq, samL_eq l l', samM_eq m m']
    constructor
    · rintro ⟨⟨⟨⟨h1, h2⟩, h3⟩, h4⟩, h5⟩; exact ⟨h1, h2, h3, h4, h5⟩
    · rintro ⟨h1, h2, h3, h4, h5⟩; exact ⟨⟨⟨⟨h1, h2⟩, h3⟩, h4⟩, h5⟩
theorem samL_eq : ∀ (l l' : List JV), samL l l' = true ↔ l = l'
  | [], [] => by simp [samL]
  | v :: t, v' :: t' => by
    rw [samL]
    simp only [Bool.and_eq_true, List.cons.injEq, samV_eq v v', samL_eq t t']
  | [], _ :: _ => by simp [samL]
  | _ :: _, [] => by simp [samL]
theorem samM_eq : ∀ (l l' : List MemT), samM l l' = true ↔ l = l'
  | [], [] => by simp [samM]
  | (a, v) :: t, (a', v') :: t' => by
    rw [samM]
    simp only [Bool.and_eq_true, beq_iff_eq, List.cons.injEq, Prod.mk.injEq, samV_eq v v', samM_eq t t']
  | [], _ :: _ => by simp [samM]
  | _ :: _, [] => by simp [samM]
end
theorem samV_self (v : JV) : samV v v = true := (samV_eq v v).2 rfl
theorem samL_len {l l' : List JV} (h : l.length ≠ l'.length) : samL l l' = false := by
  cases h2 : samL l l' with
  | false => rfl
  | true => exact absurd (by rw [(samL_eq l l').1 h2]) h
theorem samM_len {l l' : List MemT} (h : l.length ≠ l'.length) : samM l l' = false := by
  cases h2 : samM l l' with
  | false => rfl
  | true => exact absurd (by rw [(samM_eq l l').1 h2]) h
theorem samL_at {l l' : List JV} {k : Nat} (h : k < l.length) (h' : k < l'.length) : samL (l.drop k) (l'.drop k) = (samV l[k] l'[k] && samL (l.drop (k + 1)) (l'.drop (k + 1))) := by
  rw [List.drop_eq_getElem_cons h, List.drop_eq_getElem_cons h', samL]
theorem samM_at {l l' : List MemT} {k : Nat} (h : k < l.length) (h' : k < l'.length) : samM (l.drop k) (l'.drop k) = (((l[k].1 == l'[k].1) && samV l[k].2 l'[k].2) && samM (l.drop (k + 1)) (l'.drop (k + 1))) := by
  rw [List.drop_eq_getElem_cons h, List.drop_eq_getElem_cons h']
  obtain ⟨a, b⟩ := l[k]
  obtain ⟨c, d⟩ := l'[k]
  rfl
/-- What Same tells of two values, wherever they lie. -/
def SamC (v : JV) : Prop := ∀ (v' : JV) (F F' : Nat → Prop) (w : World) (cs cs' : List Value), RdJ w F v cs → RdJ w F' v' cs' →
  Calls Tryz.prog 18 #[.agg cs.toArray, .agg cs'.toArray] w fun e w' => e = .returned (.bool (samV v v')) ∧ Below w.heap.size w w'
set_option maxRecDepth 100000 in
set_option maxHeartbeats 4000000 in
theorem eqL_any (l l' : List JV) (IH : ∀ x ∈ l, SamC x) (F F' : Nat → Prop) (w : World) (al al' : Option Addr) (cl cl' : Nat) (rows rows' : List (List Value)) (h1 : RdFB F 5 w (.slice al l.length cl) rows) (h2 : RdL w F l rows) (h1' : RdFB F' 5 w (.slice al' l'.length cl') rows') (h2' : RdL w F' l' rows') :
    Calls Tryz.prog 32 #[.slice al l.length cl, .slice al' l'.length cl', .func (.func 18) #[] #[]] w fun e w' => e = .returned (.bool (samL l l')) ∧ Below w.heap.size w w' := by
  have g0 : l.length ≤ 9223372036854775807 := h1.lens.2.1
  have g0' : l'.length ≤ 9223372036854775807 := h1'.lens.2.1
  by_cases hlen : l.length = l'.length
  · have n1 : ((l.length : Int) != (l'.length : Int)) = false := by rw [hlen]; exact bne_self_eq_false _
    obtain ⟨R, hR⟩ : ∃ R, R = samL l l' := ⟨_, rfl⟩
    rw [← hR]
    have HR := Lib.hid hR
    have HL := Lib.hid (And.intro h1 (And.intro h2 (And.intro h1' (And.intro h2' IH))))
    have HLE := Lib.hid hlen
    clear h1 h2 h1' h2' IH hR hlen
    go_enter Tryz.func32, Tryz.ntmps32
    go_wp2_with fail
    go_loopw [17] (fun v17 wr => ∃ k : Nat, k ≤ l.length ∧ v17 = .int .i64 (k : Int) ∧ Hid (R = samL (l.drop k) (l'.drop k)) ∧ Hid (Below w.heap.size w wr)) (fun v17 _ => l.length - (intOf v17).toNat)
    case atStart => exact ⟨0, Nat.zero_le _, rfl, Lib.hid (by rw [List.drop_zero, List.drop_zero]; exact HR.out), Lib.hid (Below.refl _ _)⟩
    case round =>
      obtain ⟨k, hk, rfl, HK, HW⟩ := hrel
      by_cases hlt : k < l.length
      · have hlt' : k < l'.length := by have := HLE.out; omega
        have t1 : (k : Int) < (l.length : Int) := by omega
        have t1' : (k : Int) < (l'.length : Int) := by omega
        have t3 : (0 : Int) ≤ (k : Int) := by omega
        obtain ⟨b, off, a, n, c, a', n', c', rfl, _, hbw, hx, c0, c1, c2, c3, c4⟩ := RdJ.part HL.out.1 HL.out.2.1 hlt
        obtain ⟨b2, off2, p, q, r, p', q', r', rfl, _, hbw2, hy, d0, d1, d2, d3, d4⟩ := RdJ.part HL.out.2.2.1 HL.out.2.2.2.1 hlt'
        have HM : Hid (SamC l[k]) := Lib.hid (HL.out.2.2.2.2 _ (List.getElem_mem hlt))
        have HK2 := HK.out
        rw [samL_at hlt hlt'] at HK2
        obtain ⟨x, hxx⟩ : ∃ x, x = l[k] := ⟨_, rfl⟩
        obtain ⟨y, hyy⟩ : ∃ y, y = l'[k] := ⟨_, rfl⟩
        rw [← hxx] at hx c0 c1 c2 HM HK2
        rw [← hyy] at hy d0 d1 d2 HK2
        clear hxx hyy HK
        have e0 : wr.cell? ⟨b, off + k * 5, none⟩ = some (.int .i64 x.kind) := (HW.out.cell (p := ⟨b, off + k * 5, none⟩) hbw).trans c0
        have e1 : wr.cell? ⟨b, off + k * 5 + 1, none⟩ = some (.int .i64 x.n) := (HW.out.cell (p := ⟨b, off + k * 5 + 1, none⟩) hbw).trans c1
        have e2 : wr.cell? ⟨b, off + k * 5 + 2, none⟩ = some (str x.s) := (HW.out.cell (p := ⟨b, off + k * 5 + 2, none⟩) hbw).trans c2
        have e3 : wr.cell? ⟨b, off + k * 5 + 3, none⟩ = some (.slice a n c) := (HW.out.cell (p := ⟨b, off + k * 5 + 3, none⟩) hbw).trans c3
        have e4 : wr.cell? ⟨b, off + k * 5 + 4, none⟩ = some (.slice a' n' c') := (HW.out.cell (p := ⟨b, off + k * 5 + 4, none⟩) hbw).trans c4
        have f0 : wr.cell? ⟨b2, off2 + k * 5, none⟩ = some (.int .i64 y.kind) := (HW.out.cell (p := ⟨b2, off2 + k * 5, none⟩) hbw2).trans d0
        have f1 : wr.cell? ⟨b2, off2 + k * 5 + 1, none⟩ = some (.int .i64 y.n) := (HW.out.cell (p := ⟨b2, off2 + k * 5 + 1, none⟩) hbw2).trans d1
        have f2 : wr.cell? ⟨b2, off2 + k * 5 + 2, none⟩ = some (str y.s) := (HW.out.cell (p := ⟨b2, off2 + k * 5 + 2, none⟩) hbw2).trans d2
        have f3 : wr.cell? ⟨b2, off2 + k * 5 + 3, none⟩ = some (.slice p q r) := (HW.out.cell (p := ⟨b2, off2 + k * 5 + 3, none⟩) hbw2).trans d3
        have f4 : wr.cell? ⟨b2, off2 + k * 5 + 4, none⟩ = some (.slice p' q' r') := (HW.out.cell (p := ⟨b2, off2 + k * 5 + 4, none⟩) hbw2).trans d4
        have hbw3 : b2 < wr.heap.size := Nat.lt_of_lt_of_le hbw2 HW.out.size
        have g0 : (wr.alloc (.cells #[.int .i64 x.kind, .int .i64 x.n, str x.s, .slice a n c, .slice a' n' c'] 28)).cell? ⟨b2, off2 + k * 5, none⟩ = some (.int .i64 y.kind) := (((Below.refl wr.heap.size wr).alloc (Nat.le_refl _) (.cells #[.int .i64 x.kind, .int .i64 x.n, str x.s, .slice a n c, .slice a' n' c'] 28)).cell (p := ⟨b2, off2 + k * 5, none⟩) hbw3).trans f0
        have g1 : (wr.alloc (.cells #[.int .i64 x.kind, .int .i64 x.n, str x.s, .slice a n c, .slice a' n' c'] 28)).cell? ⟨b2, off2 + k * 5 + 1, none⟩ = some (.int .i64 y.n) := (((Below.refl wr.heap.size wr).alloc (Nat.le_refl _) (.cells #[.int .i64 x.kind, .int .i64 x.n, str x.s, .slice a n c, .slice a' n' c'] 28)).cell (p := ⟨b2, off2 + k * 5 + 1, none⟩) hbw3).trans f1
        have g2 : (wr.alloc (.cells #[.int .i64 x.kind, .int .i64 x.n, str x.s, .slice a n c, .slice a' n' c'] 28)).cell? ⟨b2, off2 + k * 5 + 2, none⟩ = some (str y.s) := (((Below.refl wr.heap.size wr).alloc (Nat.le_refl _) (.cells #[.int .i64 x.kind, .int .i64 x.n, str x.s, .slice a n c, .slice a' n' c'] 28)).cell (p := ⟨b2, off2 + k * 5 + 2, none⟩) hbw3).trans f2
        have g3 : (wr.alloc (.cells #[.int .i64 x.kind, .int .i64 x.n, str x.s, .slice a n c, .slice a' n' c'] 28)).cell? ⟨b2, off2 + k * 5 + 3, none⟩ = some (.slice p q r) := (((Below.refl wr.heap.size wr).alloc (Nat.le_refl _) (.cells #[.int .i64 x.kind, .int .i64 x.n, str x.s, .slice a n c, .slice a' n' c'] 28)).cell (p := ⟨b2, off2 + k * 5 + 3, none⟩) hbw3).trans f3
        have g4 : (wr.alloc (.cells #[.int .i64 x.kind, .int .i64 x.n, str x.s, .slice a n c, .slice a' n' c'] 28)).cell? ⟨b2, off2 + k * 5 + 4, none⟩ = some (.slice p' q' r') := (((Below.refl wr.heap.size wr).alloc (Nat.le_refl _) (.cells #[.int .i64 x.kind, .int .i64 x.n, str x.s, .slice a n c, .slice a' n' c'] 28)).cell (p := ⟨b2, off2 + k * 5 + 4, none⟩) hbw3).trans f4
        obtain ⟨W2, hW2⟩ : ∃ W2, W2 = (wr.alloc (.cells #[.int .i64 x.kind, .int .i64 x.n, str x.s, .slice a n c, .slice a' n' c'] 28)).alloc (.cells #[.int .i64 y.kind, .int .i64 y.n, str y.s, .slice p q r, .slice p' q' r'] 28) := ⟨_, rfl⟩
        have hb2 : Below wr.heap.size wr W2 := by rw [hW2]; exact ((Below.refl _ _).alloc (Nat.le_refl _) _).alloc (by simp) _
        have HW2 := Lib.hid (And.intro (HW.out.trans (hb2.mono HW.out.size)) (Nat.le_trans HW.out.size hb2.size))
        have CM : Hid (Calls Tryz.prog 18 #[.agg #[.int .i64 x.kind, .int .i64 x.n, str x.s, .slice a n c, .slice a' n' c'], .agg #[.int .i64 y.kind, .int .i64 y.n, str y.s, .slice p q r, .slice p' q' r']] W2 fun e w' => e = .returned (.bool (samV x y)) ∧ Below W2.heap.size W2 w') := Lib.hid (HM.out y _ _ W2 _ _ ((hx.up HW.out).up hb2) ((hy.up HW.out).up hb2))
        clear hx hy c0 c1 c2 c3 c4 d0 d1 d2 d3 d4 hbw hbw2 hb2
        cases hB : samV x y with
        | false =>
          have HE : Hid (R = false) := Lib.hid (by rw [HK2, hB]; rfl)
          rw [hB] at CM
          clear hB HK2
          go_wp2_with fail
          rw [← hW2]
          clear hW2
          refine CM.out.mono ?_
          rintro e w3 ⟨rfl, hb3⟩
          have HX := Lib.hid (HW2.out.1.trans (hb3.mono HW2.out.2))
          clear hb3 CM
          go_wp2_with fail
          go_ret
          exact ⟨by rw [HE.out]; rfl, HX.out⟩
        | true =>
          have HE : Hid (R = samL (l.drop (k + 1)) (l'.drop (k + 1))) := Lib.hid (by rw [HK2, hB, Bool.true_and])
          rw [hB] at CM
          clear hB HK2
          go_wp2_with fail
          rw [← hW2]
          clear hW2
          refine CM.out.mono ?_
          rintro e w3 ⟨rfl, hb3⟩
          have HX := Lib.hid (HW2.out.1.trans (hb3.mono HW2.out.2))
          clear hb3 CM
          go_wp2_with fail
          go_roundw
          case rel => exact ⟨k + 1, by omega, by go_num, HE, HX⟩
          case measure => simp [intOf]; omega
      · obtain rfl : k = l.length := by omega
        have t2 : ¬ (l.length : Int) < (l.length : Int) := by omega
        have HE : Hid (R = true) := Lib.hid (by rw [HK.out, List.drop_length, HLE.out, List.drop_length]; rfl)
        go_wp2_with fail
        go_ret
        exact ⟨by rw [HE.out]; rfl, HW.out⟩
  · have n1 : ((l.length : Int) != (l'.length : Int)) = true := by rw [bne_iff_ne]; omega
    rw [samL_len hlen]
    clear h1 h2 h1' h2' IH hlen
    go_enter Tryz.func32, Tryz.ntmps32
    go_wp2_with fail
    go_ret
    exact ⟨rfl, Below.refl _ _⟩
set_option maxHeartbeats 2000000 in
theorem sameMem_any (nm nm2 : List UInt8) (x y : JV) (IH : SamC x) (F F' : Nat → Prop) (w : World) (a : Option Addr) (n c : Nat) (a' : Option Addr) (n' c' : Nat) (p : Option Addr) (q r : Nat) (p' : Option Addr) (q' r' : Nat)
    (hx : RdJ w F x [.int .i64 x.kind, .int .i64 x.n, str x.s, .slice a n c, .slice a' n' c']) (hy : RdJ w F' y [.int .i64 y.kind, .int .i64 y.n, str y.s, .slice p q r, .slice p' q' r']) :
    Calls Tryz.prog 34 #[.agg #[str nm, .int .i64 x.kind, .int .i64 x.n, str x.s, .slice a n c, .slice a' n' c'], .agg #[str nm2, .int .i64 y.kind, .int .i64 y.n, str y.s, .slice p q r, .slice p' q' r']] w fun e w' => e = .returned (.bool ((nm == nm2) && samV x y)) ∧ Below w.heap.size w w' := by
  obtain ⟨W2, hW2⟩ : ∃ W2, W2 = (w.alloc (.cells #[str nm, .int .i64 x.kind, .int .i64 x.n, str x.s, .slice a n c, .slice a' n' c'] 53)).alloc (.cells #[str nm2, .int .i64 y.kind, .int .i64 y.n, str y.s, .slice p q r, .slice p' q' r'] 53) := ⟨_, rfl⟩
  have hb2 : Below w.heap.size w W2 := by rw [hW2]; exact ((Below.refl _ _).alloc (Nat.le_refl _) _).alloc (by simp) _
  have CM := Lib.hid (IH y _ _ W2 _ _ (hx.up hb2) (hy.up hb2))
  have HB := Lib.hid hb2
  clear hx hy IH hb2
  cases hq : (nm == nm2) with
  | false =>
    go_enter Tryz.func34, Tryz.ntmps34
    go_wp2_with fail
    rw [← hW2]
    go_ret
    exact ⟨rfl, HB.out⟩
  | true =>
    rw [Bool.true_and]
    go_enter Tryz.func34, Tryz.ntmps34
    go_wp2_with fail
    rw [← hW2]
    refine CM.out.mono ?_
    rintro e w3 ⟨rfl, hb3⟩
    have HX := Lib.hid (HB.out.trans (hb3.mono HB.out.size))
    clear hb3 CM
    go_wp2_with fail
    go_ret
    exact ⟨rfl, HX.out⟩
set_option maxRecDepth 100000 in
set_option maxHeartbeats 4000000 in
theorem eqM_any (l l' : List MemT) (IH : ∀ x ∈ l, SamC x.2) (F F' : Nat → Prop) (w : World) (al al' : Option Addr) (cl cl' : Nat) (rows rows' : List (List Value)) (h1 : RdFB F 6 w (.slice al l.length cl) rows) (h2 : RdM w F l rows) (h1' : RdFB F' 6 w (.slice al' l'.length cl') rows') (h2' : RdM w F' l' rows') :
    Calls Tryz.prog 33 #[.slice al l.length cl, .slice al' l'.length cl', .func (.func 34) #[] #[]] w fun e w' => e = .returned (.bool (samM l l')) ∧ Below w.heap.size w w' := by
  have g0 : l.length ≤ 9223372036854775807 := h1.lens.2.1
  have g0' : l'.length ≤ 9223372036854775807 := h1'.lens.2.1
  by_cases hlen : l.length = l'.length
  · have n1 : ((l.length : Int) != (l'.length : Int)) = false := by rw [hlen]; exact bne_self_eq_false _
    obtain ⟨R, hR⟩ : ∃ R, R = samM l l' := ⟨_, rfl⟩
    rw [← hR]
    have HR := Lib.hid hR
    have HL := Lib.hid (And.intro h1 (And.intro h2 (And.intro h1' (And.intro h2' IH))))
    have HLE := Lib.hid hlen
    clear h1 h2 h1' h2' IH hR hlen
    go_enter Tryz.func33, Tryz.ntmps33
    go_wp2_with fail
    go_loopw [17] (fun v17 wr => ∃ k : Nat, k ≤ l.length ∧ v17 = .int .i64 (k : Int) ∧ Hid (R = samM (l.drop k) (l'.drop k)) ∧ Hid (Below w.heap.size w wr)) (fun v17 _ => l.length - (intOf v17).toNat)
    case atStart => exact ⟨0, Nat.zero_le _, rfl, Lib.hid (by rw [List.drop_zero, List.drop_zero]; exact HR.out), Lib.hid (Below.refl _ _)⟩
    case round =>
      obtain ⟨k, hk, rfl, HK, HW⟩ := hrel
      by_cases hlt : k < l.length
      · have hlt' : k < l'.length := by have := HLE.out; omega
        have t1 : (k : Int) < (l.length : Int) := by omega
        have t1' : (k : Int) < (l'.length : Int) := by omega
        have t3 : (0 : Int) ≤ (k : Int) := by omega
        obtain ⟨b, off, a, n, c, a', n', c', rfl, _, hbw, hx, c0, c1, c2, c3, c4, c5⟩ := RdJ.memb HL.out.1 HL.out.2.1 hlt
        obtain ⟨b2, off2, p, q, r, p', q', r', rfl, _, hbw2, hy, d0, d1, d2, d3, d4, d5⟩ := RdJ.memb HL.out.2.2.1 HL.out.2.2.2.1 hlt'
        have HM : Hid (SamC l[k].2) := Lib.hid (HL.out.2.2.2.2 _ (List.getElem_mem hlt))
        have HK2 := HK.out
        rw [samM_at hlt hlt'] at HK2
        obtain ⟨x, hxx⟩ : ∃ x, x = l[k] := ⟨_, rfl⟩
        obtain ⟨y, hyy⟩ : ∃ y, y = l'[k] := ⟨_, rfl⟩
        rw [← hxx] at hx c0 c1 c2 c3 HM HK2
        rw [← hyy] at hy d0 d1 d2 d3 HK2
        clear hxx hyy HK
        obtain ⟨nm, x⟩ := x
        obtain ⟨nm2, y⟩ := y
        dsimp only at hx hy HM HK2 c0 c1 c2 c3 d0 d1 d2 d3
        have e0 : wr.cell? ⟨b, off + k * 6, none⟩ = some (str nm) := (HW.out.cell (p := ⟨b, off + k * 6, none⟩) hbw).trans c0
        have e1 : wr.cell? ⟨b, off + k * 6 + 1, none⟩ = some (.int .i64 x.kind) := (HW.out.cell (p := ⟨b, off + k * 6 + 1, none⟩) hbw).trans c1
        have e2 : wr.cell? ⟨b, off + k * 6 + 2, none⟩ = some (.int .i64 x.n) := (HW.out.cell (p := ⟨b, off + k * 6 + 2, none⟩) hbw).trans c2
        have e3 : wr.cell? ⟨b, off + k * 6 + 3, none⟩ = some (str x.s) := (HW.out.cell (p := ⟨b, off + k * 6 + 3, none⟩) hbw).trans c3
        have e4 : wr.cell? ⟨b, off + k * 6 + 4, none⟩ = some (.slice a n c) := (HW.out.cell (p := ⟨b, off + k * 6 + 4, none⟩) hbw).trans c4
        have e5 : wr.cell? ⟨b, off + k * 6 + 5, none⟩ = some (.slice a' n' c') := (HW.out.cell (p := ⟨b, off + k * 6 + 5, none⟩) hbw).trans c5
        have f0 : wr.cell? ⟨b2, off2 + k * 6, none⟩ = some (str nm2) := (HW.out.cell (p := ⟨b2, off2 + k * 6, none⟩) hbw2).trans d0
        have f1 : wr.cell? ⟨b2, off2 + k * 6 + 1, none⟩ = some (.int .i64 y.kind) := (HW.out.cell (p := ⟨b2, off2 + k * 6 + 1, none⟩) hbw2).trans d1
        have f2 : wr.cell? ⟨b2, off2 + k * 6 + 2, none⟩ = some (.int .i64 y.n) := (HW.out.cell (p := ⟨b2, off2 + k * 6 + 2, none⟩) hbw2).trans d2
        have f3 : wr.cell? ⟨b2, off2 + k * 6 + 3, none⟩ = some (str y.s) := (HW.out.cell (p := ⟨b2, off2 + k * 6 + 3, none⟩) hbw2).trans d3
        have f4 : wr.cell? ⟨b2, off2 + k * 6 + 4, none⟩ = some (.slice p q r) := (HW.out.cell (p := ⟨b2, off2 + k * 6 + 4, none⟩) hbw2).trans d4
        have f5 : wr.cell? ⟨b2, off2 + k * 6 + 5, none⟩ = some (.slice p' q' r') := (HW.out.cell (p := ⟨b2, off2 + k * 6 + 5, none⟩) hbw2).trans d5
        have hbw3 : b2 < wr.heap.size := Nat.lt_of_lt_of_le hbw2 HW.out.size
        have g0 : (wr.alloc (.cells #[str nm, .int .i64 x.kind, .int .i64 x.n, str x.s, .slice a n c, .slice a' n' c'] 53)).cell? ⟨b2, off2 + k * 6, none⟩ = some (str nm2) := (((Below.refl wr.heap.size wr).alloc (Nat.le_refl _) (.cells #[str nm, .int .i64 x.kind, .int .i64 x.n, str x.s, .slice a n c, .slice a' n' c'] 53)).cell (p := ⟨b2, off2 + k * 6, none⟩) hbw3).trans f0
        have g1 : (wr.alloc (.cells #[str nm, .int .i64 x.kind, .int .i64 x.n, str x.s, .slice a n c, .slice a' n' c'] 53)).cell? ⟨b2, off2 + k * 6 + 1, none⟩ = some (.int .i64 y.kind) := (((Below.refl wr.heap.size wr).alloc (Nat.le_refl _) (.cells #[str nm, .int .i64 x.kind, .int .i64 x.n, str x.s, .slice a n c, .slice a' n' c'] 53)).cell (p := ⟨b2, off2 + k * 6 + 1, none⟩) hbw3).trans f1
        have g2 : (wr.alloc (.cells #[str nm, .int .i64 x.kind, .int .i64 x.n, str x.s, .slice a n c, .slice a' n' c'] 53)).cell? ⟨b2, off2 + k * 6 + 2, none⟩ = some (.int .i64 y.n) := (((Below.refl wr.heap.size wr).alloc (Nat.le_refl _) (.cells #[str nm, .int .i64 x.kind, .int .i64 x.n, str x.s, .slice a n c, .slice a' n' c'] 53)).cell (p := ⟨b2, off2 + k * 6 + 2, none⟩) hbw3).trans f2
        have g3 : (wr.alloc (.cells #[str nm, .int .i64 x.kind, .int .i64 x.n, str x.s, .slice a n c, .slice a' n' c'] 53)).cell? ⟨b2, off2 + k * 6 + 3, none⟩ = some (str y.s) := (((Below.refl wr.heap.size wr).alloc (Nat.le_refl _) (.cells #[str nm, .int .i64 x.kind, .int .i64 x.n, str x.s, .slice a n c, .slice a' n' c'] 53)).cell (p := ⟨b2, off2 + k * 6 + 3, none⟩) hbw3).trans f3
        have g4 : (wr.alloc (.cells #[str nm, .int .i64 x.kind, .int .i64 x.n, str x.s, .slice a n c, .slice a' n' c'] 53)).cell? ⟨b2, off2 + k * 6 + 4, none⟩ = some (.slice p q r) := (((Below.refl wr.heap.size wr).alloc (Nat.le_refl _) (.cells #[str nm, .int .i64 x.kind, .int .i64 x.n, str x.s, .slice a n c, .slice a' n' c'] 53)).cell (p := ⟨b2, off2 + k * 6 + 4, none⟩) hbw3).trans f4
        have g5 : (wr.alloc (.cells #[str nm, .int .i64 x.kind, .int .i64 x.n, str x.s, .slice a n c, .slice a' n' c'] 53)).cell? ⟨b2, off2 + k * 6 + 5, none⟩ = some (.slice p' q' r') := (((Below.refl wr.heap.size wr).alloc (Nat.le_refl _) (.cells #[str nm, .int .i64 x.kind, .int .i64 x.n, str x.s, .slice a n c, .slice a' n' c'] 53)).cell (p := ⟨b2, off2 + k * 6 + 5, none⟩) hbw3).trans f5
        obtain ⟨W2, hW2⟩ : ∃ W2, W2 = (wr.alloc (.cells #[str nm, .int .i64 x.kind, .int .i64 x.n, str x.s, .slice a n c, .slice a' n' c'] 53)).alloc (.cells #[str nm2, .int .i64 y.kind, .int .i64 y.n, str y.s, .slice p q r, .slice p' q' r'] 53) := ⟨_, rfl⟩
        have hb2 : Below wr.heap.size wr W2 := by rw [hW2]; exact ((Below.refl _ _).alloc (Nat.le_refl _) _).alloc (by simp) _
        have HW2 := Lib.hid (And.intro (HW.out.trans (hb2.mono HW.out.size)) (Nat.le_trans HW.out.size hb2.size))
        have CM : Hid (Calls Tryz.prog 34 #[.agg #[str nm, .int .i64 x.kind, .int .i64 x.n, str x.s, .slice a n c, .slice a' n' c'], .agg #[str nm2, .int .i64 y.kind, .int .i64 y.n, str y.s, .slice p q r, .slice p' q' r']] W2 fun e w' => e = .returned (.bool (((nm == nm2) && samV x y))) ∧ Below W2.heap.size W2 w') := Lib.hid (sameMem_any nm nm2 x y HM.out _ _ W2 a n c a' n' c' p q r p' q' r' ((hx.up HW.out).up hb2) ((hy.up HW.out).up hb2))
        clear hx hy c0 c1 c2 c3 c4 c5 d0 d1 d2 d3 d4 d5 hbw hbw2 hb2
        cases hB : ((nm == nm2) && samV x y) with
        | false =>
          have HE : Hid (R = false) := Lib.hid (by rw [HK2, hB]; rfl)
          rw [hB] at CM
          clear hB HK2
          go_wp2_with fail
          rw [← hW2]
          clear hW2
          refine CM.out.mono ?_
          rintro e w3 ⟨rfl, hb3⟩
          have HX := Lib.hid (HW2.out.1.trans (hb3.mono HW2.out.2))
          clear hb3 CM
          go_wp2_with fail
          go_ret
          exact ⟨by rw [HE.out]; rfl, HX.out⟩
        | true =>
          have HE : Hid (R = samM (l.drop (k + 1)) (l'.drop (k + 1))) := Lib.hid (by rw [HK2, hB, Bool.true_and])
          rw [hB] at CM
          clear hB HK2
          go_wp2_with fail
          rw [← hW2]
          clear hW2
          refine CM.out.mono ?_
          rintro e w3 ⟨rfl, hb3⟩
          have HX := Lib.hid (HW2.out.1.trans (hb3.mono HW2.out.2))
          clear hb3 CM
          go_wp2_with fail
          go_roundw
          case rel => exact ⟨k + 1, by omega, by go_num, HE, HX⟩
          case measure => simp [intOf]; omega
      · obtain rfl : k = l.length := by omega
        have t2 : ¬ (l.length : Int) < (l.length : Int) := by omega
        have HE : Hid (R = true) := Lib.hid (by rw [HK.out, List.drop_length, HLE.out, List.drop_length]; rfl)
        go_wp2_with fail
        go_ret
        exact ⟨by rw [HE.out]; rfl, HW.out⟩
  · have n1 : ((l.length : Int) != (l'.length : Int)) = true := by rw [bne_iff_ne]; omega
    rw [samM_len hlen]
    clear h1 h2 h1' h2' IH hlen
    go_enter Tryz.func33, Tryz.ntmps33
    go_wp2_with fail
    go_ret
    exact ⟨rfl, Below.refl _ _⟩
theorem samV_mk (v z : JV) : samV v z = ((v.kind == z.kind) && (v.n == z.n) && (v.s == z.s) && samL v.l z.l && samM v.m z.m) := by
  obtain ⟨k, n, s, l, m⟩ := v
  obtain ⟨k', n', s', l', m'⟩ := z
  rw [samV]
  rfl
set_option maxRecDepth 100000 in
set_option maxHeartbeats 4000000 in
theorem sam_step (v : JV) (IHL : ∀ x ∈ v.l, SamC x) (IHM : ∀ x ∈ v.m, SamC x.2) : SamC v := by
  intro z F F' w cs cs' h h'
  obtain ⟨al, ll, cl, am, lm, cm, rfl, ⟨rl, hrl, hll, rfl⟩, rm, hrm, hmm, rfl⟩ := h.open
  obtain ⟨al2, ll2, cl2, am2, lm2, cm2, rfl, ⟨rl2, hrl2, hll2, rfl⟩, rm2, hrm2, hmm2, rfl⟩ := h'.open
  obtain ⟨W2, hW2⟩ : ∃ W2, W2 = (w.alloc (.cells #[.int .i64 v.kind, .int .i64 v.n, str v.s, .slice al v.l.length cl, .slice am v.m.length cm] 28)).alloc (.cells #[.int .i64 z.kind, .int .i64 z.n, str z.s, .slice al2 z.l.length cl2, .slice am2 z.m.length cm2] 28) := ⟨_, rfl⟩
  have hb2 : Below w.heap.size w W2 := by rw [hW2]; exact ((Below.refl _ _).alloc (Nat.le_refl _) _).alloc (by simp) _
  have HB : Hid (Below w.heap.size w W2 ∧ W2.heap[w.heap.size]? = some (.cells #[.int .i64 v.kind, .int .i64 v.n, str v.s, .slice al v.l.length cl, .slice am v.m.length cm] 28 (0, 0)) ∧ W2.heap[w.heap.size + 1]? = some (.cells #[.int .i64 z.kind, .int .i64 z.n, str z.s, .slice al2 z.l.length cl2, .slice am2 z.m.length cm2] 28 (0, 0))) := Lib.hid ⟨hb2, by rw [hW2]; exact box_up (heap_alloc_new w _) (below_alloc _ _), by
    rw [hW2]
    have := heap_alloc_new (w.alloc (.cells #[.int .i64 v.kind, .int .i64 v.n, str v.s, .slice al v.l.length cl, .slice am v.m.length cm] 28)) (.cells #[.int .i64 z.kind, .int .i64 z.n, str z.s, .slice al2 z.l.length cl2, .slice am2 z.m.length cm2] 28)
    simpa using this⟩
  have fr : Frm (fun _ => False) w W2 := Frm.of_below hb2
  have CL := Lib.hid (eqL_any v.l z.l IHL F F' W2 al al2 cl cl2 _ _ (hrl.frm fr (fun _ _ e => e)) (hll.frm fr (fun _ _ e => e)) (hrl2.frm fr (fun _ _ e => e)) (hll2.frm fr (fun _ _ e => e)))
  have CM := Lib.hid (fun (W : World) (hb : Below W2.heap.size W2 W) => eqM_any v.m z.m IHM F F' W am am2 cm cm2 _ _ ((hrm.frm fr (fun _ _ e => e)).frm (Frm.of_below (F := fun _ => False) hb) (fun _ _ e => e)) ((hmm.frm fr (fun _ _ e => e)).up hb) ((hrm2.frm fr (fun _ _ e => e)).frm (Frm.of_below (F := fun _ => False) hb) (fun _ _ e => e)) ((hmm2.frm fr (fun _ _ e => e)).up hb))
  rw [samV_mk]
  clear h h' hrl hll hrm hmm hrl2 hll2 hrm2 hmm2 hb2 fr IHL IHM
  cases q1 : (v.kind == z.kind) with
  | false =>
    go_enter Tryz.func18, Tryz.ntmps18
    go_wp2_with fail
    rw [← hW2]
    go_ret
    exact ⟨rfl, HB.out.1⟩
  | true =>
    cases q2 : (v.n == z.n) with
    | false =>
      go_enter Tryz.func18, Tryz.ntmps18
      go_wp2_with fail
      rw [← hW2]
      go_ret
      exact ⟨rfl, HB.out.1⟩
    | true =>
      cases q3 : (v.s == z.s) with
      | false =>
        go_enter Tryz.func18, Tryz.ntmps18
        go_wp2_with fail
        rw [← hW2]
        go_ret
        exact ⟨rfl, HB.out.1⟩
      | true =>
        simp only [Bool.true_and]
        cases q4 : samL v.l z.l with
        | false =>
          rw [q4] at CL
          clear q4 CM
          go_enter Tryz.func18, Tryz.ntmps18
          go_wp2_with fail
          rw [← hW2]
          refine CL.out.mono ?_
          rintro e w3 ⟨rfl, hb3⟩
          have HX := Lib.hid (HB.out.1.trans (hb3.mono HB.out.1.size))
          clear hb3 CL
          go_wp2_with fail
          go_ret
          exact ⟨rfl, HX.out⟩
        | true =>
          rw [q4] at CL
          rw [Bool.true_and]
          obtain ⟨R, hR⟩ : ∃ R, R = samM v.m z.m := ⟨_, rfl⟩
          rw [← hR] at CM ⊢
          clear q4 hR
          go_enter Tryz.func18, Tryz.ntmps18
          go_wp2_with fail
          rw [← hW2]
          refine CL.out.mono ?_
          rintro e w3 ⟨rfl, hb3⟩
          have HX := Lib.hid (HB.out.1.trans (hb3.mono HB.out.1.size))
          have x4 := box_cell (box_up HB.out.2.1 hb3) 4
          have y4 := box_cell (box_up HB.out.2.2 hb3) 4
          have CM2 := Lib.hid (CM.out w3 hb3)
          clear hb3 CL CM
          go_wp2_with fail
          refine CM2.out.mono ?_
          rintro e w4 ⟨rfl, hb4⟩
          have HY := Lib.hid (HX.out.trans (hb4.mono HX.out.size))
          clear hb4 CM2
          go_wp2_with fail
          go_ret
          exact ⟨rfl, HY.out⟩
theorem same_any (v : JV) : SamC v := JV.ind sam_step v
end Go.Proofs.YtidlhajibjnkeaaGreatDoor
