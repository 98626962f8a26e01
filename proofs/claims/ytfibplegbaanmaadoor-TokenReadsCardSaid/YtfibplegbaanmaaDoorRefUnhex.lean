/- hblref1.Unhex by its contract: the answer of ours. -/
import Derived.Test.YtfibplegbaanmaaDoorRef1
namespace Go.Proofs.YtfibplegbaanmaaDoor
open Go.RowKit

/-! plain facts on digits -/
theorem hexD_S' : ∀ m : Fin 16, hexD (hexS m.val) = (m.val : Int) := by decide
theorem hexB_S' (c : UInt8) : hexB (hexS (c.toNat / 16)) (hexS (c.toNat % 16)) = c := by
  have hc := c.toNat_lt
  have h1 := hexD_S' ⟨c.toNat / 16, by omega⟩
  have h2 := hexD_S' ⟨c.toNat % 16, by omega⟩
  simp only at h1 h2
  unfold hexB
  rw [h1, h2, ← UInt8.toNat_inj, UInt8.toNat_ofNat']
  omega
theorem unhexK_cons' (a b : UInt8) (t : List UInt8) (k : Nat) : unhexK (a :: b :: t) (k + 1) = hexB a b :: unhexK t k := by
  unfold unhexK
  rw [List.range_succ_eq_map, List.map_cons, List.map_map]
  rfl
theorem hexL_cons' (c : UInt8) (t : List UInt8) : hexL (c :: t) = hexS (c.toNat / 16) :: hexS (c.toNat % 16) :: hexL t := rfl
theorem unhex_hex' : ∀ l : List UInt8, unhexK (hexL l) l.length = l ∧ hexOkK (hexL l) l.length
  | [] => ⟨rfl, fun j hj => by simp at hj⟩
  | c :: t => by
    obtain ⟨h1, h2⟩ := unhex_hex' t
    have hc := c.toNat_lt
    refine ⟨by rw [hexL_cons', List.length_cons, unhexK_cons', h1, hexB_S'], fun j hj => ?_⟩
    rw [hexL_cons']
    cases j with
    | zero =>
      have h3 := hexD_S' ⟨c.toNat / 16, by omega⟩
      have h4 := hexD_S' ⟨c.toNat % 16, by omega⟩
      simp only at h3 h4
      simp only [List.getD_cons_zero, Nat.mul_zero, Nat.zero_add, List.getD_cons_succ]
      omega
    | succ j =>
      have := h2 j (by simpa using hj)
      rw [show 2 * (j + 1) = 2 * j + 1 + 1 by omega, List.getD_cons_succ, List.getD_cons_succ, List.getD_cons_succ, List.getD_cons_succ]
      exact this
theorem hexS_all : ∀ i : Fin 256, 0 ≤ hexD (UInt8.ofNat i.val) → hexS (hexD (UInt8.ofNat i.val)).toNat = UInt8.ofNat i.val := by decide +kernel
theorem hexS_D (c : UInt8) (h : 0 ≤ hexD c) : hexS (hexD c).toNat = c := by
  have := hexS_all ⟨c.toNat, c.toNat_lt⟩
  simp only [UInt8.ofNat_toNat] at this
  exact this h
theorem hexB_parts (a b : UInt8) (ha : 0 ≤ hexD a) (hb : 0 ≤ hexD b) : hexS ((hexB a b).toNat / 16) = a ∧ hexS ((hexB a b).toNat % 16) = b := by
  have ra := hexD_range a
  have rb := hexD_range b
  have e : (hexB a b).toNat = (hexD a).toNat * 16 + (hexD b).toNat := by unfold hexB; rw [UInt8.toNat_ofNat']; omega
  rw [e, show ((hexD a).toNat * 16 + (hexD b).toNat) / 16 = (hexD a).toNat by omega, show ((hexD a).toNat * 16 + (hexD b).toNat) % 16 = (hexD b).toNat by omega]
  exact ⟨hexS_D a ha, hexS_D b hb⟩
theorem hex_unhex : ∀ (n : Nat) (t : List UInt8), t.length = 2 * n → hexOkK t n → hexL (unhexK t n) = t
  | 0, t, h, _ => by obtain rfl := List.eq_nil_of_length_eq_zero (show t.length = 0 by omega); rfl
  | n + 1, [], h, _ => by simp at h
  | n + 1, [a], h, _ => by simp at h; omega
  | n + 1, a :: b :: t, h, hok => by
    have h0 := hok 0 (by omega)
    simp only [Nat.mul_zero, List.getD_cons_zero, Nat.zero_add, List.getD_cons_succ] at h0
    have hp := hexB_parts a b h0.1 h0.2
    rw [unhexK_cons', hexL_cons', hp.1, hp.2, hex_unhex n t (by simp at h; omega) fun j hj => by
      have := hok (j + 1) (by omega)
      rw [show 2 * (j + 1) = 2 * j + 1 + 1 by omega, List.getD_cons_succ, List.getD_cons_succ, List.getD_cons_succ, List.getD_cons_succ] at this
      exact this]

theorem refD_hexD (c : UInt8) (h : 0 ≤ hexD c) : refD c = hexD c := by
  unfold refD hexD at *
  split
  · rfl
  · split
    · rfl
    · simp_all
theorem refD_neg (c : UInt8) (h : refD c < 0) : hexD c < 0 := by
  rcases Int.lt_or_le (hexD c) 0 with h1 | h1
  · exact h1
  · rw [refD_hexD c h1] at h; omega
theorem refD_range (c : UInt8) : -1 ≤ refD c ∧ refD c ≤ 15 := by
  unfold refD
  split
  · omega
  · split
    · omega
    · split <;> omega
def refB (c d : UInt8) : UInt8 := UInt8.ofNat ((refD c).toNat * 16 + (refD d).toNat)
def refU (t : List UInt8) (k : Nat) : List UInt8 := (List.range k).map fun j => refB (t.getD (2 * j) 0) (t.getD (2 * j + 1) 0)
theorem refU_succ (t : List UInt8) (k : Nat) : refU t (k + 1) = refU t k ++ [refB (t.getD (2 * k) 0) (t.getD (2 * k + 1) 0)] := by
  unfold refU; rw [List.range_succ, List.map_append]; rfl
theorem refU_length (t : List UInt8) (k : Nat) : (refU t k).length = k := by simp [refU]
theorem refB_byte (c d : UInt8) (h1 : 0 ≤ refD c) (h2 : 0 ≤ refD d) : refD c * 16 + refD d = ((refB c d).toNat : Int) := by
  have r1 := refD_range c
  have r2 := refD_range d
  unfold refB
  rw [UInt8.toNat_ofNat']
  omega
theorem refU_ok (t : List UInt8) (k : Nat) (h : hexOkK t k) : refU t k = unhexK t k := by
  apply List.map_congr_left
  intro j hj
  have := h j (List.mem_range.1 hj)
  unfold refB hexB
  rw [refD_hexD _ this.1, refD_hexD _ this.2]
theorem refU_back (t : List UInt8) (n : Nat) (hn : n = t.length / 2) : (hexL (refU t n) = t) ↔ (t.length % 2 = 0 ∧ hexOkK t n) := by
  constructor
  · intro h
    have hl := congrArg List.length h
    rw [hexL_length, refU_length] at hl
    refine ⟨by omega, ?_⟩
    have := (unhex_hex' (refU t n)).2
    rw [h, refU_length] at this
    exact this
  · rintro ⟨h1, h2⟩
    rw [refU_ok t n h2]
    exact hex_unhex n t (by omega) h2

set_option maxHeartbeats 1600000 in
theorem refUnhex_any (t : List UInt8) (w : World) (hl : t.length ≤ 70368744177664) : Calls Tryd.prog 27 #[str t] w (UnhexPost t w) := by
  go_enter Tryd.func27, Tryd.ntmps27
  go_wp2_with fail
  go_loopw [4, 5] (fun v i wr => ∃ k : Nat, 2 * k ≤ t.length ∧ i = .int .i64 ((2 * k : Nat) : Int) ∧ Own 5 wr w.heap.size v (refU t k) ∧ Below w.heap.size w wr)
    (fun _ i _ => t.length + 1 - (intOf i).toNat)
  case atStart => exact ⟨0, Nat.zero_le _, rfl, Own.nil _ _ _, Below.refl _ _⟩
  case round =>
    obtain ⟨k, hk, rfl, hown, hb⟩ := hrel
    have hsz := hb.size
    obtain ⟨j, hj⟩ : ∃ j, j = 2 * k := ⟨_, rfl⟩
    rw [← hj]
    by_cases hlt : j + 1 < t.length
    · have b3 : (j : Int) + 1 < (t.length : Int) := by omega
      have HJ := Lib.hid hj
      clear hj
      go_wp2_with fail
      have w1' : IntKind.i64.wrap ((j : Int) + 1) = (j : Int) + 1 := IntWalk.i64_in _ ⟨by omega, by omega⟩
      have w2' : (0 : Int) ≤ (j : Int) + 1 := by omega
      have w3' : ((j : Int) + 1).toNat = j + 1 := by omega
      have b1 : (0 : Int) ≤ (j : Int) := by omega
      have b2 : (j : Int) < (t.length : Int) := by omega
      have b4 : j < t.length := by omega
      go_quiet ((go_at_call 35; exact Calls.quiet_of_same (refDigit_ret _ _)))
      obtain ⟨c, hc⟩ : ∃ c, c = (ByteArray.mk t.toArray)[j]'(by simpa [ByteArray.size] using b4) := ⟨_, rfl⟩
      obtain ⟨d, hd⟩ : ∃ d, d = (ByteArray.mk t.toArray)[j + 1]'(by simpa [ByteArray.size] using hlt) := ⟨_, rfl⟩
      rw [← hc, ← hd]
      rw [getD_mk, HJ.out] at hc hd
      have HC := Lib.hid hc
      have HD := Lib.hid hd
      clear hc hd w1' w3'
      have rc := refD_range c
      have rd := refD_range d
      have hkn : k < t.length / 2 := by have := HJ.out; omega
      by_cases hcn : refD c < 0
      · go_wp2_with fail
        go_ret2
        refine ⟨Below.drewsN hb _, .inr ⟨rfl, .inr fun h => ?_⟩⟩
        have h1 := (h k hkn).1
        rw [← HC.out] at h1
        have := refD_neg c hcn
        omega
      · have hcn' : 0 ≤ refD c := by omega
        by_cases hdn : refD d < 0
        · go_wp2_with fail
          go_ret2
          refine ⟨Below.drewsN hb _, .inr ⟨rfl, .inr fun h => ?_⟩⟩
          have h1 := (h k hkn).2
          rw [← HD.out] at h1
          have := refD_neg d hdn
          omega
        · have hdn' : 0 ≤ refD d := by omega
          have ho := or_nib (refD c) (refD d) hcn' (by omega) hdn' (by omega)
          have hbb := refB_byte c d hcn' hdn'
          generalize hxc : refD c = xc at *
          generalize hxd : refD d = xd at *
          have HBB := Lib.hid hbb
          clear hxc hxd hbb
          go_wp2_with (at_builtin; refine hold ?_)
          intro _
          refine btc.append1 rfl _ _ rfl w.heap.size _ (refU t k) (refB c d) _ ?_ (show Own 5 (wr.drewN nq) w.heap.size u4 (refU t k) from hown) rfl rfl ?_ ?_ ?_
          · have := HBB.out
            omega
          · rw [refU_length]; omega
          · exact hsz
          intro v' w2 hown2 hg2
          have hb2 : Below w.heap.size (wr.drewN nq) w2 := (Below.refl _ _).grown hg2 hsz (fun b e => (hown.base b e).1)
          go_wp2_with fail
          go_roundw
          case rel =>
            refine ⟨k + 1, by omega, by have := HJ.out; go_num, ?_, (Below.drewsN hb nq).trans hb2⟩
            rw [refU_succ, ← HC.out, ← HD.out]; exact hown2
          case measure => have := HJ.out; simp [intOf]; omega
    · have b3 : ¬ (j : Int) + 1 < (t.length : Int) := by omega
      have hkn : k = t.length / 2 := by omega
      have hjl : (j : Int) ≤ 70368744177664 := by omega
      have hback := refU_back t k hkn
      have HKN := Lib.hid hkn
      clear hkn
      have HJ := Lib.hid hj
      clear hj
      have HB := Lib.hid hback
      clear hback
      go_wp2_with fail
      refine (refHex_any _ _ _ hown.rd (by rw [refU_length]; omega)).mono ?_
      rintro e w2 ⟨rfl, hb2⟩
      have hbX : Below w.heap.size w w2 := hb.trans (hb2.mono hsz)
      have hoX := hown.below hb2 (Nat.le_refl _)
      by_cases heq : hexL (refU t k) = t
      · have hh := HB.out.1 heq
        have hq : (hexL (refU t k) != t) = false := by rw [bne_eq_false_iff_eq]; exact heq
        have hq2 : (hexL (refU t k) == t) = true := by rw [beq_iff_eq]; exact heq
        have hu := refU_ok t k hh.2
        rw [hu] at hoX
        clear hu
        have HQ := Lib.hid heq
        clear heq
        rw [HKN.out] at hh
        have HOX := Lib.hid hoX
        clear hoX
        have HH := Lib.hid hh
        clear hh
        go_wp2_with fail
        go_ret2
        exact ⟨hbX, .inl ⟨_, rfl, HH.out.1, HH.out.2, by rw [← HKN.out]; exact HOX.out⟩⟩
      · have hq : (hexL (refU t k) != t) = true := by rw [bne_iff_ne]; exact heq
        have hq2 : (hexL (refU t k) == t) = false := by rw [beq_eq_false_iff_ne]; exact heq
        have hno : t.length % 2 = 1 ∨ ¬ hexOkK t (t.length / 2) := by
          by_cases h1 : t.length % 2 = 0
          · right; intro h2; rw [← HKN.out] at h2; exact heq (HB.out.2 ⟨h1, h2⟩)
          · left; omega
        have HN := Lib.hid hno
        have HQ := Lib.hid heq
        clear heq hno
        go_wp2_with fail
        go_ret2
        exact ⟨hbX, .inr ⟨rfl, HN.out⟩⟩
end Go.Proofs.YtfibplegbaanmaaDoor
