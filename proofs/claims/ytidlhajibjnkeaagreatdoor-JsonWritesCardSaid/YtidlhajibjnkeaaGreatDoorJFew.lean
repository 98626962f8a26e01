/- hbllaw4.count, Few. -/
import Derived.Test.YtidlhajibjnkeaaGreatDoorJPrn
import Derived.Test.YtidlhajibjnkeaaGreatDoorJParM
import Derived.Deep.CutRange
import Derived.Deep.CutBlock
namespace Go.Proofs.YtidlhajibjnkeaaGreatDoor
open Go.RowKit

mutual
/-- What is left of n behind a value. -/
def cntV : JV → Int → Nat → Int
  | .mk _ _ s l o, n, d => if d = 0 then 0 else cntM o (cntL l (n - 1 - min (s.length : Int) 1048576) d) d
def cntL : List JV → Int → Nat → Int
  | [], n, _ => n
  | v :: t, n, d => if 0 < n then cntL t (cntV v n (d - 1)) d else n
def cntM : List (List UInt8 × JV) → Int → Nat → Int
  | [], n, _ => n
  | (nm, v) :: t, n, d => if 0 < n then cntM t (cntV v (n - min (nm.length : Int) 1048576) (d - 1)) d else n
end
mutual
/-- How many parts and bytes. -/
def szV : JV → Nat
  | .mk _ _ s l o => 1 + s.length + szL l + szM o
def szL : List JV → Nat
  | [] => 0
  | v :: t => szV v + szL t
def szM : List (List UInt8 × JV) → Nat
  | [] => 0
  | (nm, v) :: t => nm.length + szV v + szM t
end
mutual
theorem cntV_pos : ∀ (v : JV) (n : Int) (d : Nat), n ≤ 1000000 → 0 < cntV v n d → 0 < n ∧ cntV v n d = n - szV v
  | .mk k m s l o, n, d, hn, h => by
    rw [cntV] at h ⊢
    by_cases hd : d = 0
    · rw [if_pos hd] at h; omega
    · rw [if_neg hd] at h ⊢
      have h1 := cntM_pos o _ d ?_ h
      · have h2 := cntL_pos l _ d (by omega) h1.1
        rw [h1.2, h2.2, szV]
        have := h2.1
        omega
      · by_cases hc : 0 < cntL l (n - 1 - min (s.length : Int) 1048576) d
        · have h2 := cntL_pos l _ d (by omega) hc
          omega
        · omega
theorem cntL_pos : ∀ (l : List JV) (n : Int) (d : Nat), n ≤ 1000000 → 0 < cntL l n d → 0 < n ∧ cntL l n d = n - szL l
  | [], n, d, _, h => by rw [cntL] at h ⊢; rw [szL]; omega
  | v :: t, n, d, hn, h => by
    rw [cntL] at h ⊢
    by_cases h0 : 0 < n
    · rw [if_pos h0] at h ⊢
      have h1 := cntL_pos t _ d ?_ h
      · have h2 := cntV_pos v n (d - 1) hn h1.1
        rw [h1.2, h2.2, szL]
        omega
      · by_cases hc : 0 < cntV v n (d - 1)
        · have := cntV_pos v n (d - 1) hn hc
          omega
        · omega
    · rw [if_neg h0] at h; omega
theorem cntM_pos : ∀ (l : List MemT) (n : Int) (d : Nat), n ≤ 1000000 → 0 < cntM l n d → 0 < n ∧ cntM l n d = n - szM l
  | [], n, d, _, h => by rw [cntM] at h ⊢; rw [szM]; omega
  | (nm, v) :: t, n, d, hn, h => by
    rw [cntM] at h ⊢
    by_cases h0 : 0 < n
    · rw [if_pos h0] at h ⊢
      have h1 := cntM_pos t _ d ?_ h
      · have h2 := cntV_pos v (n - min (nm.length : Int) 1048576) (d - 1) (by omega) h1.1
        rw [h1.2, h2.2, szM]
        have := h2.1
        omega
      · by_cases hc : 0 < cntV v (n - min (nm.length : Int) 1048576) (d - 1)
        · have := cntV_pos v (n - min (nm.length : Int) 1048576) (d - 1) (by omega) hc
          omega
        · omega
    · rw [if_neg h0] at h; omega
end
mutual
theorem cntV_lo : ∀ (v : JV) (n : Int) (d : Nat), -1048576 ≤ n → n ≤ 1000000 → -4194304 ≤ cntV v n d ∧ cntV v n d ≤ 1000000
  | .mk k m s l o, n, d, h1, h2 => by
    rw [cntV]
    split
    · omega
    · have h3 := cntL_lo l (n - 1 - min (s.length : Int) 1048576) d (by omega) (by omega)
      exact cntM_lo o _ d h3.1 h3.2
theorem cntL_lo : ∀ (l : List JV) (n : Int) (d : Nat), -4194304 ≤ n → n ≤ 1000000 → -4194304 ≤ cntL l n d ∧ cntL l n d ≤ 1000000
  | [], n, d, h1, h2 => by rw [cntL]; omega
  | v :: t, n, d, h1, h2 => by
    rw [cntL]
    split
    · have h3 := cntV_lo v n (d - 1) (by omega) (by omega)
      exact cntL_lo t _ d h3.1 h3.2
    · omega
theorem cntM_lo : ∀ (l : List MemT) (n : Int) (d : Nat), -4194304 ≤ n → n ≤ 1000000 → -4194304 ≤ cntM l n d ∧ cntM l n d ≤ 1000000
  | [], n, d, h1, h2 => by rw [cntM]; omega
  | (nm, v) :: t, n, d, h1, h2 => by
    rw [cntM]
    split
    · have h3 := cntV_lo v (n - min (nm.length : Int) 1048576) (d - 1) (by omega) (by omega)
      exact cntM_lo t _ d h3.1 h3.2
    · omega
end
theorem cntL_at {l : List JV} {k d : Nat} {n : Int} (h : k < l.length) (hn : 0 < n) : cntL (l.drop k) n d = cntL (l.drop (k + 1)) (cntV l[k] n (d - 1)) d := by
  rw [List.drop_eq_getElem_cons h, cntL, if_pos hn]
theorem cntL_stop {l : List JV} {d : Nat} {n : Int} (hn : ¬ 0 < n) : cntL l n d = n := by
  cases l with
  | nil => rw [cntL]
  | cons v t => rw [cntL, if_neg hn]
theorem cntM_at {l : List MemT} {k d : Nat} {n : Int} (h : k < l.length) (hn : 0 < n) : cntM (l.drop k) n d = cntM (l.drop (k + 1)) (cntV l[k].2 (n - min (l[k].1.length : Int) 1048576) (d - 1)) d := by
  rw [List.drop_eq_getElem_cons h]
  obtain ⟨a, b⟩ := l[k]
  rw [cntM, if_pos hn]
theorem cntM_stop {l : List MemT} {d : Nat} {n : Int} (hn : ¬ 0 < n) : cntM l n d = n := by
  cases l with
  | nil => rw [cntM]
  | cons v t => obtain ⟨a, b⟩ := v; rw [cntM, if_neg hn]
/-- Is a value small? -/
def fewB (v : JV) : Bool := decide (0 < cntV v 12000 100)
theorem few_sz {v : JV} (h : fewB v = true) : szV v < 12000 := by
  have h0 := of_decide_eq_true h
  have := cntV_pos v 12000 100 (by omega) h0
  omega
mutual
theorem prV_len : ∀ (v : JV) (d : Nat), mayV v d = true → (prV v).length + 5 ≤ 30 * szV v
  | .mk k n s l m, d, h => by
    simp only [mayV, fitV, Bool.and_eq_true, decide_eq_true_eq] at h
    obtain ⟨⟨⟨⟨⟨hd, hk1⟩, hk7⟩, ⟨⟨⟨⟨⟨⟨hn, hn1⟩, hn2⟩, hS⟩, ht⟩, hl⟩, hm⟩⟩, hL⟩, hM⟩ := h
    have hk : k = 1 ∨ k = 2 ∨ k = 3 ∨ k = 4 ∨ k = 5 ∨ k = 6 ∨ k = 7 := by omega
    rw [szV]
    rcases hk with rfl | rfl | rfl | rfl | rfl | rfl | rfl
    · show 4 + 5 ≤ _; omega
    · show 5 + 5 ≤ _; omega
    · show 4 + 5 ≤ _; omega
    · show (Lib.itoa n).length + 5 ≤ _
      have := itoa_len (n := n) (by omega)
      omega
    · show (quo s).length + 5 ≤ _
      have := qbL_len s
      simp only [quo, List.length_cons, List.length_append, List.length_nil]
      omega
    · show (91 :: ((prT l).drop 1 ++ [93])).length + 5 ≤ _
      have := prT_len l (d - 1) hL
      simp only [List.length_cons, List.length_append, List.length_nil, List.length_drop]
      omega
    · show (123 :: ((prU m).drop 1 ++ [125])).length + 5 ≤ _
      have := prU_len m none (d - 1) hM
      simp only [List.length_cons, List.length_append, List.length_nil, List.length_drop]
      omega
theorem prT_len : ∀ (l : List JV) (d : Nat), mayL l d = true → (prT l).length ≤ 30 * szL l
  | [], _, _ => by simp [prT]
  | v :: t, d, h => by
    rw [mayL, Bool.and_eq_true] at h
    have h1 := prV_len v d h.1
    have h2 := prT_len t d h.2
    rw [prT, szL]
    simp only [List.length_cons, List.length_append]
    omega
theorem prU_len : ∀ (l : List MemT) (p : Option (List UInt8)) (d : Nat), mayM l p d = true → (prU l).length ≤ 30 * szM l
  | [], _, _, _ => by simp [prU]
  | (nm, v) :: t, p, d, h => by
    simp only [mayM, Bool.and_eq_true] at h
    have h1 := prV_len v d h.1.2
    have h2 := prU_len t (some nm) d h.2
    have h3 := qbL_len nm
    rw [prU, szM]
    simp only [quo, List.length_cons, List.length_append, List.length_nil]
    omega
end
/-- What count tells of a value, wherever it lies. -/
def CntC (v : JV) : Prop := ∀ (F : Nat → Prop) (w : World) (cs : List Value) (n : Int) (d : Nat), RdJ w F v cs → -1048576 ≤ n → n ≤ 1000000 → d ≤ 1000 →
  Calls Tryz.prog 29 #[.agg cs.toArray, .int .i64 n, .int .i64 (d : Int)] w fun e w' => e = .returned (.int .i64 (cntV v n d)) ∧ Below w.heap.size w w'
theorem cntV_mk (v : JV) (n : Int) (d : Nat) : cntV v n d = if d = 0 then 0 else cntM v.m (cntL v.l (n - 1 - min (v.s.length : Int) 1048576) d) d := by
  obtain ⟨k, m, s, l, o⟩ := v
  rw [cntV]
  rfl
set_option maxRecDepth 100000 in
set_option maxHeartbeats 16000000 in
theorem jcnt_step (v : JV) (IHL : ∀ x ∈ v.l, CntC x) (IHM : ∀ x ∈ v.m, CntC x.2) : CntC v := by
  intro F w cs n d h hn1 hn2 hd
  obtain ⟨al, ll, cl, am, lm, cm, rfl, ⟨rl, hrl, hll, rfl⟩, rm, hrm, hmm, rfl⟩ := h.open
  have g0 : v.l.length ≤ 9223372036854775807 := (hrl.lens).2.1
  have g1 : v.m.length ≤ 9223372036854775807 := (hrm.lens).2.1
  have HB : Hid (Below w.heap.size w (w.alloc (.cells #[.int .i64 v.kind, .int .i64 v.n, str v.s, .slice al v.l.length cl, .slice am v.m.length cm] 28)) ∧ (w.alloc (.cells #[.int .i64 v.kind, .int .i64 v.n, str v.s, .slice al v.l.length cl, .slice am v.m.length cm] 28)).heap[w.heap.size]? = some (.cells #[.int .i64 v.kind, .int .i64 v.n, str v.s, .slice al v.l.length cl, .slice am v.m.length cm] 28 (0, 0)) ∧ (w.alloc (.cells #[.int .i64 v.kind, .int .i64 v.n, str v.s, .slice al v.l.length cl, .slice am v.m.length cm] 28)).heap.size = w.heap.size + 1) := Lib.hid ⟨below_alloc _ _, heap_alloc_new _ _, by simp⟩
  obtain ⟨n1, hn⟩ : ∃ n1 : Int, n1 = n - 1 - min (v.s.length : Int) 1048576 := ⟨_, rfl⟩
  have hb1 : -4194304 ≤ n1 ∧ n1 ≤ 1000000 := by omega
  rw [cntV_mk, ← hn]
  obtain ⟨R, hR⟩ : ∃ R : Int, R = if d = 0 then 0 else cntM v.m (cntL v.l n1 d) d := ⟨_, rfl⟩
  rw [← hR]
  have hmn : n - 1 - min (v.s.length : Int) 1048576 = n1 := hn.symm
  have HR : Hid (d ≠ 0 → cntM v.m (cntL v.l n1 d) d = R) := Lib.hid (fun h => by rw [hR, if_neg h])
  have HR0 : Hid (d = 0 → R = 0) := Lib.hid (fun h => by rw [hR, if_pos h])
  have HL := Lib.hid (And.intro hrl (And.intro hll (And.intro hrm hmm)))
  have IL := Lib.hid IHL
  have IM := Lib.hid IHM
  have HN1 := Lib.hid hb1
  obtain ⟨W1, hW1⟩ : ∃ W1, W1 = w.alloc (.cells #[.int .i64 v.kind, .int .i64 v.n, str v.s, .slice al v.l.length cl, .slice am v.m.length cm] 28) := ⟨_, rfl⟩
  rw [← hW1] at HB
  clear hn hR IHL IHM hrl hll hrm hmm h hb1
  go_enter Tryz.func29, Tryz.ntmps29
  go_upto_block 0 with fail
  rw [← hW1]
  clear hW1
  go_cut [1, 7] from 16 to 39 (fun v1 v7 wc => ∃ m : Int, v1 = .int .i64 m ∧ Hid ((d ≠ 0 → m = cntL v.l n1 d) ∧ -4194304 ≤ m ∧ m ≤ 1000000) ∧ Hid (Below W1.heap.size W1 wc))
  case first =>
    as_aux_lemma =>
      go_wp2_with fail
      go_loopw [1, 7] (fun v1 v7 wr => ∃ (k : Nat) (m : Int), k ≤ v.l.length ∧ v7 = .int .i64 (k : Int) ∧ v1 = .int .i64 m ∧ Hid ((d ≠ 0 → cntL (v.l.drop k) m d = cntL v.l n1 d) ∧ -4194304 ≤ m ∧ m ≤ 1000000) ∧ Hid (Below W1.heap.size W1 wr)) (fun _ v7 _ => v.l.length - (intOf v7).toNat)
      case atStart => exact ⟨0, n1, Nat.zero_le _, rfl, rfl, Lib.hid ⟨fun _ => by rw [List.drop_zero], HN1.out⟩, Lib.hid (Below.refl _ _)⟩
      case round =>
        obtain ⟨k, m, hk, rfl, rfl, HK, HW⟩ := hrel
        have b3 := box_cell (box_up HB.out.2.1 HW.out) 3
        have hm1 : -4194304 ≤ m := HK.out.2.1
        have hm2 : m ≤ 1000000 := HK.out.2.2
        by_cases hlt : k < v.l.length
        · have t1 : (k : Int) < (v.l.length : Int) := by omega
          have t1b : decide (k < v.l.length) = true := decide_eq_true hlt
          have t3 : (0 : Int) ≤ (k : Int) := by omega
          by_cases hm : 0 < m
          · have t2 : decide (0 < m) = true := decide_eq_true hm
            by_cases hd0 : d = 0
            · have t4 : decide (0 < (d : Int)) = false := decide_eq_false (by omega)
              have t4b : decide (0 < d) = false := decide_eq_false (by omega)
              have HX : Hid ((d ≠ 0 → m = cntL v.l n1 d) ∧ -4194304 ≤ m ∧ m ≤ 1000000) := Lib.hid ⟨fun h => absurd hd0 h, HK.out.2⟩
              clear hd0
              go_wp2_with fail
              go_meet
              case rel => exact ⟨m, rfl, HX, HW⟩
            · have t4 : decide (0 < (d : Int)) = true := decide_eq_true (by omega)
              have t4b : decide (0 < d) = true := decide_eq_true (by omega)
              obtain ⟨e, he⟩ : ∃ e, e = d - 1 := ⟨_, rfl⟩
              have y0 : (d : Int) - 1 = (e : Int) := by omega
              have HWW := Lib.hid (HB.out.1.trans (HW.out.mono HB.out.1.size))
              obtain ⟨b, off, a, nn, c, a', n', c', rfl, _, hbw, hx, c0, c1, c2, c3, c4⟩ := RdJ.part HL.out.1 HL.out.2.1 hlt
              have HM : Hid (v.l[k] ∈ v.l) := Lib.hid (List.getElem_mem hlt)
              have HA : Hid (cntL (v.l.drop (k + 1)) (cntV v.l[k] m e) d = cntL v.l n1 d) := Lib.hid (by rw [← HK.out.1 hd0, cntL_at hlt hm, he])
              obtain ⟨x, hxx⟩ : ∃ x, x = v.l[k] := ⟨_, rfl⟩
              rw [← hxx] at hx c0 c1 c2 HM HA
              clear hxx
              have e0 : wr.cell? ⟨b, off + k * 5, none⟩ = some (.int .i64 x.kind) := (HWW.out.cell (p := ⟨b, off + k * 5, none⟩) hbw).trans c0
              have e1 : wr.cell? ⟨b, off + k * 5 + 1, none⟩ = some (.int .i64 x.n) := (HWW.out.cell (p := ⟨b, off + k * 5 + 1, none⟩) hbw).trans c1
              have e2 : wr.cell? ⟨b, off + k * 5 + 2, none⟩ = some (str x.s) := (HWW.out.cell (p := ⟨b, off + k * 5 + 2, none⟩) hbw).trans c2
              have e3 : wr.cell? ⟨b, off + k * 5 + 3, none⟩ = some (.slice a nn c) := (HWW.out.cell (p := ⟨b, off + k * 5 + 3, none⟩) hbw).trans c3
              have e4 : wr.cell? ⟨b, off + k * 5 + 4, none⟩ = some (.slice a' n' c') := (HWW.out.cell (p := ⟨b, off + k * 5 + 4, none⟩) hbw).trans c4
              have hlo := cntV_lo x m e (by omega) hm2
              have CM := Lib.hid (IL.out x HM.out F wr [.int .i64 x.kind, .int .i64 x.n, str x.s, .slice a nn c, .slice a' n' c'] m e (hx.up HWW.out) (by omega) hm2 (by omega))
              have HLO := Lib.hid hlo
              clear hx c0 c1 c2 c3 c4 hbw hlo HK he hd0
              go_wp2_with fail
              refine CM.out.mono ?_
              rintro ee w2 ⟨rfl, hb2⟩
              have HX := Lib.hid (HW.out.trans (hb2.mono HW.out.size))
              have HY : Hid ((d ≠ 0 → cntL (v.l.drop (k + 1)) (cntV x m e) d = cntL v.l n1 d) ∧ -4194304 ≤ cntV x m e ∧ cntV x m e ≤ 1000000) := Lib.hid ⟨fun _ => HA.out, HLO.out⟩
              clear hb2 CM e0 e1 e2 e3 e4
              go_wp2_with fail
              go_roundw
              case rel => exact ⟨k + 1, _, by omega, by go_num, rfl, HY, HX⟩
              case measure => simp [intOf]; omega
          · have t2 : decide (0 < m) = false := decide_eq_false hm
            have HX : Hid ((d ≠ 0 → m = cntL v.l n1 d) ∧ -4194304 ≤ m ∧ m ≤ 1000000) := Lib.hid ⟨fun h => by rw [← HK.out.1 h, cntL_stop hm], HK.out.2⟩
            clear hm
            go_wp2_with fail
            go_meet
            case rel => exact ⟨m, rfl, HX, HW⟩
        · obtain rfl : k = v.l.length := by omega
          have t1 : ¬ (v.l.length : Int) < (v.l.length : Int) := by omega
          have t1b : decide (v.l.length < v.l.length) = false := decide_eq_false (by omega)
          have HX : Hid ((d ≠ 0 → m = cntL v.l n1 d) ∧ -4194304 ≤ m ∧ m ≤ 1000000) := Lib.hid ⟨fun h => by rw [← HK.out.1 h, List.drop_length, cntL], HK.out.2⟩
          go_wp2_with fail
          go_meet
          case rel => exact ⟨m, rfl, HX, HW⟩
  case rest =>
  obtain ⟨n2, rfl, HN2, HW2⟩ := hcut
  obtain ⟨W2, hWW2⟩ : ∃ W2, W2 = wc := ⟨_, rfl⟩
  rw [← hWW2] at HW2 ⊢
  clear hWW2
  have HB2 : Hid (Below w.heap.size w W2 ∧ W2.heap[w.heap.size]? = some (.cells #[.int .i64 v.kind, .int .i64 v.n, str v.s, .slice al v.l.length cl, .slice am v.m.length cm] 28 (0, 0))) := Lib.hid ⟨HB.out.1.trans (HW2.out.mono HB.out.1.size), box_up HB.out.2.1 HW2.out⟩
  have HR2 : Hid (d ≠ 0 → cntM v.m n2 d = R) := Lib.hid (fun h => by rw [HN2.out.1 h]; exact HR.out h)
  clear HR HB HW2 HN1
  go_upto_block 2 with fail
  go_cut [1, 8] from 40 to 73 (fun v1 v8 wc => ∃ m : Int, v1 = .int .i64 m ∧ Hid (d ≠ 0 → m = R) ∧ Hid (Below W2.heap.size W2 wc))
  case first =>
    as_aux_lemma =>
      go_wp2_with fail
      go_loopw [1, 8] (fun v1 v8 wr => ∃ (k : Nat) (m : Int), k ≤ v.m.length ∧ v8 = .int .i64 (k : Int) ∧ v1 = .int .i64 m ∧ Hid ((d ≠ 0 → cntM (v.m.drop k) m d = R) ∧ -4194304 ≤ m ∧ m ≤ 1000000) ∧ Hid (Below W2.heap.size W2 wr)) (fun _ v8 _ => v.m.length - (intOf v8).toNat)
      case atStart => exact ⟨0, n2, Nat.zero_le _, rfl, rfl, Lib.hid ⟨fun h => by rw [List.drop_zero]; exact HR2.out h, HN2.out.2⟩, Lib.hid (Below.refl _ _)⟩
      case round =>
        obtain ⟨k, m, hk, rfl, rfl, HK, HW⟩ := hrel
        have b4 := box_cell (box_up HB2.out.2 HW.out) 4
        have hm1 : -4194304 ≤ m := HK.out.2.1
        have hm2 : m ≤ 1000000 := HK.out.2.2
        by_cases hlt : k < v.m.length
        · have t1 : (k : Int) < (v.m.length : Int) := by omega
          have t1b : decide (k < v.m.length) = true := decide_eq_true hlt
          have t3 : (0 : Int) ≤ (k : Int) := by omega
          by_cases hm : 0 < m
          · have t2 : decide (0 < m) = true := decide_eq_true hm
            by_cases hd0 : d = 0
            · have t4 : decide (0 < (d : Int)) = false := decide_eq_false (by omega)
              have t4b : decide (0 < d) = false := decide_eq_false (by omega)
              have HX : Hid (d ≠ 0 → m = R) := Lib.hid (fun h => absurd hd0 h)
              clear hd0
              go_wp2_with fail
              go_meet
              case rel => exact ⟨m, rfl, HX, HW⟩
            · have t4 : decide (0 < (d : Int)) = true := decide_eq_true (by omega)
              have t4b : decide (0 < d) = true := decide_eq_true (by omega)
              obtain ⟨e, he⟩ : ∃ e, e = d - 1 := ⟨_, rfl⟩
              have y0 : (d : Int) - 1 = (e : Int) := by omega
              have HWW := Lib.hid (HB2.out.1.trans (HW.out.mono HB2.out.1.size))
              obtain ⟨b, off, a, nn, c, a', n', c', rfl, _, hbw, hx, c0, c1, c2, c3, c4, c5⟩ := RdJ.memb HL.out.2.2.1 HL.out.2.2.2 hlt
              have HM : Hid (v.m[k] ∈ v.m) := Lib.hid (List.getElem_mem hlt)
              have HA : Hid (cntM (v.m.drop (k + 1)) (cntV v.m[k].2 (m - min (v.m[k].1.length : Int) 1048576) e) d = R) := Lib.hid (by rw [← HK.out.1 hd0, cntM_at hlt hm, he])
              obtain ⟨x, hxx⟩ : ∃ x, x = v.m[k] := ⟨_, rfl⟩
              rw [← hxx] at hx c0 c1 c2 c3 HM HA
              clear hxx
              obtain ⟨nm, x⟩ := x
              dsimp only at hx c0 c1 c2 c3
              obtain ⟨q, hq⟩ : ∃ q : Int, q = m - min (nm.length : Int) 1048576 := ⟨_, rfl⟩
              have hqb : -1048576 ≤ q ∧ q ≤ 1000000 := by omega
              have hlo := cntV_lo x q e hqb.1 hqb.2
              have CM : Hid (∀ p : BelowBy wr, Calls Tryz.prog 29 #[.agg #[.int .i64 x.kind, .int .i64 x.n, str x.s, .slice a nn c, .slice a' n' c'], .int .i64 q, .int .i64 (e : Int)] p.W fun ee w' => ee = .returned (.int .i64 (cntV x q e)) ∧ Below p.W.heap.size p.W w') := Lib.hid (fun p => IM.out (nm, x) HM.out F p.W [.int .i64 x.kind, .int .i64 x.n, str x.s, .slice a nn c, .slice a' n' c'] q e ((hx.up HWW.out).up p.h) hqb.1 hqb.2 (by omega))
              have HLO := Lib.hid hlo
              have z0 : Hid (∀ p : BelowBy wr, p.W.cell? ⟨b, off + k * 6, none⟩ = some (str nm)) := Lib.hid (fun p : BelowBy wr => BelowBy.cell ((HWW.out.cell (p := ⟨b, off + k * 6, none⟩) hbw).trans c0) p)
              have z1 : Hid (∀ p : BelowBy wr, p.W.cell? ⟨b, off + k * 6 + 1, none⟩ = some (.int .i64 x.kind)) := Lib.hid (fun p : BelowBy wr => BelowBy.cell ((HWW.out.cell (p := ⟨b, off + k * 6 + 1, none⟩) hbw).trans c1) p)
              have z2 : Hid (∀ p : BelowBy wr, p.W.cell? ⟨b, off + k * 6 + 2, none⟩ = some (.int .i64 x.n)) := Lib.hid (fun p : BelowBy wr => BelowBy.cell ((HWW.out.cell (p := ⟨b, off + k * 6 + 2, none⟩) hbw).trans c2) p)
              have z3 : Hid (∀ p : BelowBy wr, p.W.cell? ⟨b, off + k * 6 + 3, none⟩ = some (str x.s)) := Lib.hid (fun p : BelowBy wr => BelowBy.cell ((HWW.out.cell (p := ⟨b, off + k * 6 + 3, none⟩) hbw).trans c3) p)
              have z4 : Hid (∀ p : BelowBy wr, p.W.cell? ⟨b, off + k * 6 + 4, none⟩ = some (.slice a nn c)) := Lib.hid (fun p : BelowBy wr => BelowBy.cell ((HWW.out.cell (p := ⟨b, off + k * 6 + 4, none⟩) hbw).trans c4) p)
              have z5 : Hid (∀ p : BelowBy wr, p.W.cell? ⟨b, off + k * 6 + 5, none⟩ = some (.slice a' n' c')) := Lib.hid (fun p : BelowBy wr => BelowBy.cell ((HWW.out.cell (p := ⟨b, off + k * 6 + 5, none⟩) hbw).trans c5) p)
              have zb : Hid (∀ p : BelowBy wr, p.W.cell? ⟨w.heap.size, 4, none⟩ = some (.slice (some ⟨b, off, none⟩) v.m.length cm)) := Lib.hid (fun p : BelowBy wr => BelowBy.cell b4 p)
              have y1 : m - min (nm.length : Int) 1048576 = q := hq.symm
              have y2 : IntKind.i64.wrap q = q := IntWalk.i64_in _ (by omega)
              have y4 : IntKind.i64.wrap (e : Int) = (e : Int) := IntWalk.i64_in _ (by omega)
              clear hx c0 c1 c2 c3 c4 c5 hbw hlo HK hq he hd0
              go_upto_region 9 with fail
              refine wp_region_quiet_below (by kernel_rfl) (by kernel_rfl) ?_
              repeat (first | go_big_quiet_skip | (go_big_quiet_want; go_big_quiet_op; first | go_big_quiet_on | (simp only [z0.out, z1.out, z2.out, z3.out, z4.out, z5.out, zb.out, Result.andThen, true_and, forall_const, exists_eq_left']; go_big_quiet_on) | go_big_quiet_call ((go_at_call 29; exact Calls.below_of (CM.out _)))) | fail)
              refine wpQuiet_nil ?_
              rintro w3 ⟨⟨_, hb3⟩, rfl⟩
              have HX := Lib.hid (HW.out.trans (hb3.mono HW.out.size))
              have HY : Hid ((d ≠ 0 → cntM (v.m.drop (k + 1)) (cntV x q e) d = R) ∧ -4194304 ≤ cntV x q e ∧ cntV x q e ≤ 1000000) := Lib.hid ⟨fun _ => by rw [← y1]; exact HA.out, HLO.out⟩
              clear hb3 CM y1 y2 y4
              go_wp2_with fail
              go_roundw
              case rel => exact ⟨k + 1, _, by omega, by go_num, rfl, HY, HX⟩
              case measure => simp [intOf]; omega
          · have t2 : decide (0 < m) = false := decide_eq_false hm
            have HX : Hid (d ≠ 0 → m = R) := Lib.hid (fun h => by rw [← HK.out.1 h, cntM_stop hm])
            clear hm
            go_wp2_with fail
            go_meet
            case rel => exact ⟨m, rfl, HX, HW⟩
        · obtain rfl : k = v.m.length := by omega
          have t1 : ¬ (v.m.length : Int) < (v.m.length : Int) := by omega
          have t1b : decide (v.m.length < v.m.length) = false := decide_eq_false (by omega)
          have HX : Hid (d ≠ 0 → m = R) := Lib.hid (fun h => by rw [← HK.out.1 h, List.drop_length, cntM])
          go_wp2_with fail
          go_meet
          case rel => exact ⟨m, rfl, HX, HW⟩
  case rest =>
  obtain ⟨n3, rfl, HN3, HW3⟩ := hcut
  have HZ := Lib.hid (HB2.out.1.trans (HW3.out.mono HB2.out.1.size))
  by_cases hd0 : d = 0
  · have t5 : ((d : Int) == 0) = true := by rw [beq_iff_eq]; omega
    have HE := Lib.hid (HR0.out hd0)
    clear hd0
    go_wp2_with fail
    go_ret
    exact ⟨by rw [HE.out]; rfl, HZ.out⟩
  · have t5 : ((d : Int) == 0) = false := by rw [beq_eq_false_iff_ne]; omega
    have HE := Lib.hid (HN3.out hd0)
    clear hd0
    go_wp2_with fail
    go_ret
    exact ⟨by rw [← HE.out]; rfl, HZ.out⟩
theorem jcount_any (v : JV) : CntC v := JV.ind jcnt_step v
theorem few_any {F : Nat → Prop} {w : World} {v : JV} {cs : List Value} (h : RdJ w F v cs) : Calls Tryz.prog 12 #[.agg cs.toArray] w fun e w' => e = .returned (.bool (fewB v)) ∧ Below w.heap.size w w' := by
  obtain ⟨al, ll, cl, am, lm, cm, rfl, _, _⟩ := h.open
  have CM := Lib.hid (jcount_any v F _ _ 12000 100 (h.up (below_alloc w (.cells #[.int .i64 v.kind, .int .i64 v.n, str v.s, .slice al ll cl, .slice am lm cm] 28))) (by omega) (by omega) (by omega))
  unfold fewB
  generalize cntV v 12000 100 = R at *
  clear h
  go_enter Tryz.func12, Tryz.ntmps12
  go_wp2_with fail
  refine CM.out.mono ?_
  rintro e w1 ⟨rfl, hb⟩
  have HX := Lib.hid ((below_alloc w _).trans (hb.mono (by simp)))
  clear hb CM
  go_wp2_with fail
  go_ret
  exact ⟨rfl, HX.out⟩
end Go.Proofs.YtidlhajibjnkeaaGreatDoor
