/- hblref1.Parse: the document's reader: numbers. -/
import Derived.Test.YtidlhajibjnkeaaGreatDoorRpWd
import Derived.Deep.CutRange
namespace Go.Proofs.YtidlhajibjnkeaaGreatDoor
open Go.RowKit

theorem dgAt_in {t : List UInt8} {p k : Nat} (h : k < (dgs (t.drop p)).length) : ∃ hk : p + k < t.length, t[p + k] = (dgs (t.drop p))[k] ∧ dgAt t (p + k) = true ∧ dgJ (dgs (t.drop p))[k] = true := by
  obtain ⟨h1, h2⟩ := dgs_at (t.drop p) k h
  rw [List.getElem?_drop] at h1
  obtain ⟨hk, e⟩ := List.getElem?_eq_some_iff.1 h1
  refine ⟨hk, e, ?_, h2⟩
  unfold dgAt
  rw [h1]
  exact h2
theorem dgAt_out (t : List UInt8) (p : Nat) : dgAt t (p + (dgs (t.drop p)).length) = false := by
  unfold dgAt
  cases h : t[p + (dgs (t.drop p)).length]? with
  | none => rfl
  | some c => exact dgs_end (t.drop p) c (by rw [List.getElem?_drop]; exact h)
theorem numV_err {e : Nat} : numV (.err e) = .err e := rfl
set_option maxRecDepth 100000 in
set_option maxHeartbeats 16000000 in
theorem rnumber_any (t : List UInt8) (b p : Nat) (w : World) (h : JRb w b t p 0) (hp : p < t.length) (hl : t.length ≤ 1000000) :
    Calls Tryz.prog 51 #[.pointer (some ⟨b, 0, none⟩)] w (RV t w b (numV (numP t p))) := by
  obtain ⟨Wa, hWa, hba, hbx, hsz⟩ := zero_box w
  have hb := h.lt
  have HD : Hid (JSt w b t p 0 Wa ∧ Wa.heap[w.heap.size]? = some (.cells #[.int .i64 0, .int .i64 0, str [], .slice none 0 0, .slice none 0 0] 35 (0, 0))) := Lib.hid ⟨(JSt.refl h).below hba, hbx⟩
  have HZ := Lib.hid (And.intro hbx hb)
  obtain ⟨c, hc⟩ : ∃ c, c = t[p] := ⟨_, rfl⟩
  have hgc : (ByteArray.mk t.toArray)[p]'(by simpa [ByteArray.size] using hp) = c := hc.symm
  obtain ⟨NB, hNB⟩ : ∃ NB, NB = (c == 45) := ⟨_, rfl⟩
  have t45 : ((c.toNat : Int) == 45) = NB := by rw [hNB]; exact tst c 45 rfl
  obtain ⟨P, hP⟩ : ∃ P, P = if NB = true then p + 1 else p := ⟨_, rfl⟩
  obtain ⟨sg, hsg⟩ : ∃ sg : Int, sg = if NB = true then -1 else 1 := ⟨_, rfl⟩
  have hnp : numP t p = digP t sg P := by
    unfold numP
    rw [List.getElem?_eq_getElem hp, ← hc, hP, hsg, hNB]
    by_cases g : c = 45
    · rw [g]; rfl
    · have : (c == 45) = false := ne_of g
      rw [this, if_neg (by simpa using g)]
      rfl
  have hPl : P ≤ t.length := by rw [hP]; split <;> omega
  obtain ⟨r, hr⟩ : ∃ r, r = numV (digP t sg P) := ⟨_, rfl⟩
  rw [hnp, ← hr]
  have HRR := Lib.hid hr
  have HP1 : Hid (NB = true → P = p + 1) := Lib.hid (fun g => by rw [hP, if_pos g])
  have HP2 : Hid (NB = false → P = p) := Lib.hid (fun g => by rw [hP, if_neg (by rw [g]; decide)])
  have HG1 : Hid (NB = true → sg = -1) := Lib.hid (fun g => by rw [hsg, if_pos g])
  have HG2 : Hid (NB = false → sg = 1) := Lib.hid (fun g => by rw [hsg, if_neg (by rw [g]; decide)])
  have c0 := HD.out.1.1.c0
  have c1 := HD.out.1.1.c1
  have f1 := HD.out.1.1.fr 1
  have p0 : (0 : Int) ≤ (p : Int) := by omega
  have p1 : (p : Int) ≤ 1000000 := by omega
  have p2 : (p : Int) < (t.length : Int) := by omega
  have hPlI : (P : Int) ≤ (t.length : Int) := by omega
  have hlI : (t.length : Int) ≤ 1000000 := by omega
  clear hr hP hsg hnp hc hNB hba hbx hsz hb h
  go_enter Tryz.func51, Tryz.ntmps51
  go_upto_region 1 with fail
  rw [← hWa]
  clear hWa
  go_wp2_with fail
  go_quiet (fail)
  go_upto_if 17 with fail
  go_cut [] from 18 to 24 (fun wc => Hid (JSt w b t P 0 wc ∧ wc.heap[w.heap.size]? = some (.cells #[.int .i64 0, .int .i64 0, str [], .slice none 0 0, .slice none 0 0] 35 (0, 0))))
  case first =>
    cases NB with
    | true =>
      go_wp2_with fail
      go_meet
      case rel => exact Lib.hid ⟨by rw [show P = p + 1 by simpa using HP1.out]; exact JSt.setAt (HD.out.1.drewN _) (p + 1) ((p : Int) + 1) (by omega), box_far _ (box_up HD.out.2 (Below.drewsN (Below.refl _ _) _)) (by have := HZ.out.2; omega)⟩
    | false =>
      go_wp2_with fail
      go_meet
      case rel => exact Lib.hid ⟨by rw [show P = p by simpa using HP2.out]; exact HD.out.1.drewN _, box_up HD.out.2 (Below.drewsN (Below.refl _ _) _)⟩
  case rest =>
  have HS := hcut
  clear hcut HD c0 c1 f1 p0 p1 p2 hgc HP1 HP2 t45
  have c0 := HS.out.1.1.c0
  have c1 := HS.out.1.1.c1
  have f1 := HS.out.1.1.fr 1
  have p0 : (0 : Int) ≤ (P : Int) := by omega
  have p1 : (P : Int) ≤ 1000000 := by omega
  by_cases hpe : P = t.length
  · have m1 : ((P : Int) == (t.length : Int)) = true := by rw [hpe]; exact beq_self_eq_true _
    have HE : Hid (r = .err 2) := Lib.hid (by rw [HRR.out, digP_short hpe]; rfl)
    clear HRR
    have HRR := HE
    clear hpe
    go_wp2_with fail
    go_quiet (fail)
    go_wp2_with fail
    refine (rfail_first 2 (HS.out.1.drewN _).1).mono ?_
    rintro e w2 ⟨rfl, hs2⟩
    have hz := box_frm (box_up HS.out.2 (Below.drewsN (Below.refl _ _) _)) hs2.2 (by have := HZ.out.2; omega)
    have HX := Lib.hid (And.intro hz ((HS.out.1.drewN _).trans hs2))
    have b0 := box_cell hz 0
    have b1 := box_cell hz 1
    have b2 := box_cell hz 2
    have b3 := box_cell hz 3
    have b4 := box_cell hz 4
    have hfz := box_fr hz
    clear hz hs2
    go_wp2_with fail
    refine bodyPost_any_world (fun W => W.heap[w.heap.size]? = some (.cells #[.int .i64 0, .int .i64 0, str [], .slice none 0 0, .slice none 0 0] 35 (0, 0)) ∧ Frm (fun i => i = w.heap.size) w2 W) (five_set HX.out.1 _ _ _ _ _) ?_
    clear b0 b1 b2 b3 b4 hfz
    rintro w9 ⟨h9, hf9⟩
    have k0 := box_cell h9 0
    have k1 := box_cell h9 1
    have k2 := box_cell h9 2
    have k3 := box_cell h9 3
    have k4 := box_cell h9 4
    refine bodyPost_ret (v := .agg #[.int .i64 0, .int .i64 0, str [], .slice none 0 0, .slice none 0 0]) (by simp [results, Tryz.results51, go_sem, k0, k1, k2, k3, k4]) rfl ?_
    exact rv_flat (JSt.grow HX.out.2 hf9 (fun i e => by have := HZ.out.2; omega)) hPl (by rw [HRR.out]; exact ⟨rfl, by decide⟩)
  have m1 : ((P : Int) == (t.length : Int)) = false := by rw [beq_eq_false_iff_ne]; omega
  have m2 : (P : Int) < (t.length : Int) := by omega
  have hPlt : P < t.length := by omega
  obtain ⟨D, hD⟩ : ∃ D, D = dgs (t.drop P) := ⟨_, rfl⟩
  have hDin : ∀ k, k < D.length → ∃ hk : P + k < t.length, t[P + k] = D.getD k 0 ∧ dgAt t (P + k) = true ∧ dgJ (D.getD k 0) = true := by
    intro k hk
    rw [hD] at hk ⊢
    rw [List.getD_eq_getElem?_getD, List.getElem?_eq_getElem hk]
    exact dgAt_in hk
  have HIN := Lib.hid hDin
  have HOUT : Hid (dgAt t (P + D.length) = false) := Lib.hid (by rw [hD]; exact dgAt_out t P)
  have HCAP : Hid (CapRel (rcapF D 0) (capF D 0)) := Lib.hid (by rw [hD]; exact cap_dgs _)
  have HDL : Hid (P + D.length ≤ t.length) := Lib.hid (by
    rw [hD]
    have := dgs_le (t.drop P)
    rw [List.length_drop] at this
    omega)
  have HDG := Lib.hid hD
  obtain ⟨n, hn⟩ : ∃ n, n = D.length := ⟨_, rfl⟩
  have HNN := Lib.hid hn
  obtain ⟨dg0, hdg0⟩ : ∃ x, x = dgAt t P := ⟨_, rfl⟩
  have CD0 := Lib.hid (fun W (hj : JRb W b t P 0) => rdigit_any t b P 0 W hj hPl)
  rw [← hdg0] at CD0
  by_cases hn0 : n = 0
  · have e : dg0 = false := by
      rw [hdg0]
      have := HOUT.out
      rw [← hn, hn0] at this
      exact this
    subst e
    have HE : Hid (r = .err 4) := Lib.hid (by rw [HRR.out, digP_form hpe (.inl (by rw [← hD, ← hn]; exact hn0))]; rfl)
    clear HRR
    have HRR := HE
    clear hD hDin hn hn0 hdg0 HIN HOUT HCAP HDL HDG HNN
    go_wp2_with fail
    go_quiet (fail)
    go_wp2_with fail
    refine (CD0.out _ (HS.out.1.drewN _).1).mono ?_
    rintro e wd ⟨rfl, nd, rfl⟩
    have HS2 : Hid (JSt w b t P 0 ((wc.drewN nq).drewN nd) ∧ ((wc.drewN nq).drewN nd).heap[w.heap.size]? = some (.cells #[.int .i64 0, .int .i64 0, str [], .slice none 0 0, .slice none 0 0] 35 (0, 0))) := Lib.hid ⟨(HS.out.1.drewN _).drewN _, box_up (box_up HS.out.2 (Below.drewsN (Below.refl _ _) _)) (Below.drewsN (Below.refl _ _) _)⟩
    generalize (wc.drewN nq).drewN nd = w5 at *
    go_wp2_with fail
    refine (rfail_first 4 HS2.out.1.1).mono ?_
    rintro e w2 ⟨rfl, hs2⟩
    have hz := box_frm HS2.out.2 hs2.2 (by have := HZ.out.2; omega)
    have HX := Lib.hid (And.intro hz (HS2.out.1.trans hs2))
    have b0 := box_cell hz 0
    have b1 := box_cell hz 1
    have b2 := box_cell hz 2
    have b3 := box_cell hz 3
    have b4 := box_cell hz 4
    have hfz := box_fr hz
    clear hz hs2
    go_wp2_with fail
    refine bodyPost_any_world (fun W => W.heap[w.heap.size]? = some (.cells #[.int .i64 0, .int .i64 0, str [], .slice none 0 0, .slice none 0 0] 35 (0, 0)) ∧ Frm (fun i => i = w.heap.size) w2 W) (five_set HX.out.1 _ _ _ _ _) ?_
    clear b0 b1 b2 b3 b4 hfz
    rintro w9 ⟨h9, hf9⟩
    have k0 := box_cell h9 0
    have k1 := box_cell h9 1
    have k2 := box_cell h9 2
    have k3 := box_cell h9 3
    have k4 := box_cell h9 4
    refine bodyPost_ret (v := .agg #[.int .i64 0, .int .i64 0, str [], .slice none 0 0, .slice none 0 0]) (by simp [results, Tryz.results51, go_sem, k0, k1, k2, k3, k4]) rfl ?_
    exact rv_flat (JSt.grow HX.out.2 hf9 (fun i e => by have := HZ.out.2; omega)) hPl (by rw [HRR.out]; exact ⟨rfl, by decide⟩)
  have e : dg0 = true := by
    rw [hdg0]
    exact (hDin 0 (by omega)).2.2.1
  subst e
  obtain ⟨x0, hx0⟩ : ∃ x, x = t[P] := ⟨_, rfl⟩
  have hgx0 : (ByteArray.mk t.toArray)[P]'(by simpa [ByteArray.size] using hPlt) = x0 := hx0.symm
  obtain ⟨ZB, hZB⟩ : ∃ ZB, ZB = (x0 == 48) := ⟨_, rfl⟩
  have t48 : ((x0.toNat : Int) == 48) = ZB := by rw [hZB]; exact tst x0 48 rfl
  have HZB : Hid (ZB = true ↔ t[P]? = some 48) := Lib.hid (by
    rw [hZB, List.getElem?_eq_getElem hPlt, ← hx0]
    simp)
  have hnI : (n : Int) ≤ 1000000 := by have := HDL.out; omega
  clear hD hDin hn hdg0 hZB hx0
  go_wp2_with fail
  go_quiet (fail)
  go_wp2_with fail
  refine (CD0.out _ (HS.out.1.drewN _).1).mono ?_
  rintro e wd ⟨rfl, nd, rfl⟩
  have HS2 : Hid (JSt w b t P 0 ((wc.drewN nq).drewN nd) ∧ ((wc.drewN nq).drewN nd).heap[w.heap.size]? = some (.cells #[.int .i64 0, .int .i64 0, str [], .slice none 0 0, .slice none 0 0] 35 (0, 0))) := Lib.hid ⟨(HS.out.1.drewN _).drewN _, box_up (box_up HS.out.2 (Below.drewsN (Below.refl _ _) _)) (Below.drewsN (Below.refl _ _) _)⟩
  generalize (wc.drewN nq).drewN nd = w5 at *
  clear HS c0 c1 f1
  have c0 := HS2.out.1.1.c0
  have c1 := HS2.out.1.1.c1
  go_wp2_with fail
  go_quiet (fail)
  go_wp2_with fail
  go_loopw [5, 6] (fun v5 v6 wr => ∃ (k : Nat) (X : Int), k ≤ n ∧ v6 = .int .i64 (k : Int) ∧ v5 = .int .i64 X ∧ Hid (X = (rcapF (D.take k) 0 : Nat) ∧ 0 ≤ X ∧ X ≤ 288230376151711744) ∧ Hid (ZB = true → k ≤ 1) ∧ Hid (JSt w b t (P + k) 0 wr ∧ wr.heap[w.heap.size]? = some (.cells #[.int .i64 0, .int .i64 0, str [], .slice none 0 0, .slice none 0 0] 35 (0, 0)))) (fun _ v6 _ => n - (intOf v6).toNat)
  case atStart => exact ⟨0, 0, Nat.zero_le _, rfl, rfl, Lib.hid ⟨rfl, by decide, by decide⟩, Lib.hid (fun _ => Nat.zero_le _), Lib.hid ⟨HS2.out.1.drewN _, box_up HS2.out.2 (Below.drewsN (Below.refl _ _) _)⟩⟩
  case round =>
    obtain ⟨k, X, hk, rfl, rfl, HX0, HZ1, HS⟩ := hrel
    clear HS2 c0 c1 CD0 hgx0 t48
    obtain ⟨q, hq⟩ : ∃ q, q = P + k := ⟨_, rfl⟩
    rw [← hq] at HS
    have HQ := Lib.hid hq
    have hql : q ≤ t.length := by have := HDL.out; have := HNN.out; omega
    have q0 : (0 : Int) ≤ (q : Int) := by omega
    have q1 : (q : Int) ≤ 1000000 := by omega
    have kI : (k : Int) ≤ 1000000 := by omega
    have k0 : (0 : Int) ≤ (k : Int) := by omega
    have c0 := HS.out.1.1.c0
    have c1 := HS.out.1.1.c1
    have f1 := HS.out.1.1.fr 1
    have CD := Lib.hid (rdigit_any t b q 0 wr HS.out.1.1 hql)
    by_cases hlt : k < n
    · obtain ⟨hkl, hx, hdt, hdj⟩ := HIN.out k (by have := HNN.out; omega)
      obtain ⟨x, hxx⟩ : ∃ x, x = D.getD k 0 := ⟨_, rfl⟩
      have hqlt : q < t.length := by omega
      have hgx : (ByteArray.mk t.toArray)[q]'(by simpa [ByteArray.size] using hqlt) = x := by
        rw [hxx, ← hx]
        show t[q] = _
        congr 1
      rw [← hq] at hdt
      rw [hdt] at CD
      rw [← hxx, dgJ_iff] at hdj
      have x3 : (48 : Int) ≤ (x.toNat : Int) := by omega
      have x4 : (x.toNat : Int) ≤ 57 := by omega
      have q2 : (q : Int) < (t.length : Int) := by omega
      have w1 : IntKind.i64.wrap (10 * X) = 10 * X := IntWalk.i64_in _ ⟨by have := HX0.out; omega, by have := HX0.out; omega⟩
      have w2 : IntKind.i64.wrap (10 * X + ((x.toNat : Int) - 48)) = 10 * X + ((x.toNat : Int) - 48) := IntWalk.i64_in _ ⟨by have := HX0.out; omega, by have := HX0.out; omega⟩
      have HT : Hid (min (10 * X + ((x.toNat : Int) - 48)) 288230376151711744 = ((rcapF (D.take (k + 1)) 0 : Nat) : Int) ∧ 0 ≤ min (10 * X + ((x.toNat : Int) - 48)) 288230376151711744 ∧ min (10 * X + ((x.toNat : Int) - 48)) 288230376151711744 ≤ 288230376151711744) := Lib.hid (by
        have hkD : k < D.length := by have := HNN.out; omega
        have e : D.take (k + 1) = D.take k ++ [x] := by
          rw [List.take_add_one, List.getElem?_eq_getElem hkD, hxx, List.getD_eq_getElem?_getD, List.getElem?_eq_getElem hkD]
          rfl
        rw [e, rcapF_snoc]
        have := HX0.out
        omega)
      have HLT := Lib.hid hlt
      clear hx hdt hdj hxx hlt hkl hq
      by_cases hz : ZB = true ∧ 0 < k
      · obtain ⟨hz1, hz2⟩ := hz
        subst hz1
        have k1 : (0 : Int) < (k : Int) := by omega
        have HE : Hid (r = .err 4) := Lib.hid (by rw [HRR.out, digP_form hpe (.inr ⟨HZB.out.1 rfl, by rw [← HDG.out, ← HNN.out]; have := HLT.out; omega⟩)]; rfl)
        clear HRR
        have HRR := HE
        clear HT w1 w2
        go_wp2_with fail
        refine CD.out.mono ?_
        rintro e wd ⟨rfl, nd, rfl⟩
        go_wp2_with fail
        refine (rfail_first 4 (HS.out.1.drewN _).1).mono ?_
        rintro e w2 ⟨rfl, hs2⟩
        have hz := box_frm (box_up HS.out.2 (Below.drewsN (Below.refl _ _) _)) hs2.2 (by have := HZ.out.2; omega)
        have HX := Lib.hid (And.intro hz ((HS.out.1.drewN _).trans hs2))
        have b0 := box_cell hz 0
        have b1 := box_cell hz 1
        have b2 := box_cell hz 2
        have b3 := box_cell hz 3
        have b4 := box_cell hz 4
        have hfz := box_fr hz
        clear hz hs2
        go_wp2_with fail
        refine bodyPost_any_world (fun W => W.heap[w.heap.size]? = some (.cells #[.int .i64 0, .int .i64 0, str [], .slice none 0 0, .slice none 0 0] 35 (0, 0)) ∧ Frm (fun i => i = w.heap.size) w2 W) (five_set HX.out.1 _ _ _ _ _) ?_
        clear b0 b1 b2 b3 b4 hfz
        rintro w9 ⟨h9, hf9⟩
        have k0 := box_cell h9 0
        have k1 := box_cell h9 1
        have k2 := box_cell h9 2
        have k3 := box_cell h9 3
        have k4 := box_cell h9 4
        refine bodyPost_ret (v := .agg #[.int .i64 0, .int .i64 0, str [], .slice none 0 0, .slice none 0 0]) (by simp [results, Tryz.results51, go_sem, k0, k1, k2, k3, k4]) rfl ?_
        exact rv_flat (JSt.grow HX.out.2 hf9 (fun i e => by have := HZ.out.2; omega)) hql (by rw [HRR.out]; exact ⟨rfl, by decide⟩)
      · have HZ2 : Hid (ZB = true → k + 1 ≤ 1) := Lib.hid (fun g => by have : ¬ 0 < k := fun y => hz ⟨g, y⟩; omega)
        have kz : ZB = true → ¬ (0 : Int) < (k : Int) := fun g => by have : ¬ 0 < k := fun y => hz ⟨g, y⟩; omega
        clear hz
        cases ZB with
        | true =>
          have k1 := kz rfl
          clear kz
          go_wp2_with fail
          refine CD.out.mono ?_
          rintro e wd ⟨rfl, nd, rfl⟩
          go_wp2_with fail
          go_quiet (fail)
          go_wp2_with fail
          go_roundw
          case rel => exact ⟨k + 1, _, by have := HLT.out; omega, by go_num, rfl, HT, HZ2, Lib.hid ⟨by rw [show P + (k + 1) = q + 1 by have := HQ.out; omega]; exact JSt.setAt (HS.out.1.drewN _) (q + 1) ((q : Int) + 1) (by omega), box_far _ (box_up HS.out.2 (Below.drewsN (Below.refl _ _) _)) (by have := HZ.out.2; omega)⟩⟩
          case measure => have := HLT.out; simp [intOf]; omega
        | false =>
          clear kz
          go_wp2_with fail
          refine CD.out.mono ?_
          rintro e wd ⟨rfl, nd, rfl⟩
          go_wp2_with fail
          go_quiet (fail)
          go_wp2_with fail
          go_roundw
          case rel => exact ⟨k + 1, _, by have := HLT.out; omega, by go_num, rfl, HT, HZ2, Lib.hid ⟨by rw [show P + (k + 1) = q + 1 by have := HQ.out; omega]; exact JSt.setAt (HS.out.1.drewN _) (q + 1) ((q : Int) + 1) (by omega), box_far _ (box_up HS.out.2 (Below.drewsN (Below.refl _ _) _)) (by have := HZ.out.2; omega)⟩⟩
          case measure => have := HLT.out; simp [intOf]; omega
    · obtain rfl : k = n := by omega
      have hdt : dgAt t q = false := by rw [hq, HNN.out]; exact HOUT.out
      rw [hdt] at CD
      have HXN : Hid (X = ((rcapF D 0 : Nat) : Int)) := Lib.hid (by rw [HX0.out.1, HNN.out, List.take_length])
      have hform : ¬ ((dgs (t.drop P)).length = 0 ∨ (t[P]? = some 48 ∧ 1 < (dgs (t.drop P)).length)) := by
        rw [← HDG.out, ← HNN.out]
        rintro (g | ⟨g1, g2⟩)
        · exact hn0 g
        · have := HZ1.out (HZB.out.2 g1)
          omega
      have HFORM := Lib.hid hform
      obtain ⟨PT, hPT⟩ : ∃ PT, PT = decide (∃ c, t[q]? = some c ∧ (c = 46 ∨ c = 101 ∨ c = 69)) := ⟨_, rfl⟩
      have HPT : Hid (PT = true ↔ ∃ c, t[P + (dgs (t.drop P)).length]? = some c ∧ (c = 46 ∨ c = 101 ∨ c = 69)) := Lib.hid (by
        rw [hPT, decide_eq_true_eq, ← HDG.out, ← HNN.out, ← hq])
      clear hdt hform hlt
      go_wp2_with fail
      refine CD.out.mono ?_
      rintro e wd ⟨rfl, nd, rfl⟩
      have HS3 : Hid (JSt w b t q 0 (wr.drewN nd) ∧ (wr.drewN nd).heap[w.heap.size]? = some (.cells #[.int .i64 0, .int .i64 0, str [], .slice none 0 0, .slice none 0 0] 35 (0, 0))) := Lib.hid ⟨HS.out.1.drewN _, box_up HS.out.2 (Below.drewsN (Below.refl _ _) _)⟩
      generalize wr.drewN nd = w6 at *
      clear c0 c1 f1 CD
      have c0 := HS3.out.1.1.c0
      have c1 := HS3.out.1.1.c1
      go_upto_region 17 with fail
      go_cut [130] from 85 to 129 (fun v wc2 => v = .bool PT ∧ Hid (JSt w b t q 0 wc2 ∧ wc2.heap[w.heap.size]? = some (.cells #[.int .i64 0, .int .i64 0, str [], .slice none 0 0, .slice none 0 0] 35 (0, 0))))
      case first =>
        by_cases hqlt : q < t.length
        · have q2 : (q : Int) < (t.length : Int) := by omega
          obtain ⟨x, hx⟩ : ∃ x, x = t[q] := ⟨_, rfl⟩
          have hgx : (ByteArray.mk t.toArray)[q]'(by simpa [ByteArray.size] using hqlt) = x := hx.symm
          have hpt : PT = (x == 46 || x == 101 || x == 69) := by
            rw [hPT, List.getElem?_eq_getElem hqlt, ← hx]
            by_cases g1 : x = 46
            · rw [decide_eq_true ⟨x, rfl, .inl g1⟩, eq_of g1]; rfl
            · by_cases g2 : x = 101
              · rw [decide_eq_true ⟨x, rfl, .inr (.inl g2)⟩, ne_of g1, eq_of g2]; rfl
              · by_cases g3 : x = 69
                · rw [decide_eq_true ⟨x, rfl, .inr (.inr g3)⟩, ne_of g1, ne_of g2, eq_of g3]; rfl
                · rw [ne_of g1, ne_of g2, ne_of g3]
                  exact decide_eq_false (by rintro ⟨y, e, g⟩; cases e; rcases g with g | g | g <;> contradiction)
          have u1 := tst x 46 (z := 46) rfl
          have u2 := tst x 101 (z := 101) rfl
          have u3 := tst x 69 (z := 69) rfl
          clear hPT hx hq
          have ways : ((x == 46) = true ∧ PT = true) ∨ ((x == 46) = false ∧ (x == 101) = true ∧ PT = true) ∨ ((x == 46) = false ∧ (x == 101) = false ∧ (x == 69) = true ∧ PT = true) ∨ ((x == 46) = false ∧ (x == 101) = false ∧ (x == 69) = false ∧ PT = false) := by
            rw [hpt]
            cases (x == 46) <;> cases (x == 101) <;> cases (x == 69) <;> simp
          clear hpt
          rcases ways with ⟨y1, rfl⟩ | ⟨y1, y2, rfl⟩ | ⟨y1, y2, y3, rfl⟩ | ⟨y1, y2, y3, rfl⟩
          · rw [y1] at u1
            clear u2 u3 y1
            go_wp2_with fail
            go_quiet (fail)
            go_wp2_with fail
            go_meet
            case rel => exact ⟨rfl, Lib.hid ⟨HS3.out.1.drewN _, box_up HS3.out.2 (Below.drewsN (Below.refl _ _) _)⟩⟩
          · rw [y1] at u1
            rw [y2] at u2
            clear u3 y1 y2
            go_wp2_with fail
            go_quiet (fail)
            go_wp2_with fail
            go_meet
            case rel => exact ⟨rfl, Lib.hid ⟨HS3.out.1.drewN _, box_up HS3.out.2 (Below.drewsN (Below.refl _ _) _)⟩⟩
          · rw [y1] at u1
            rw [y2] at u2
            rw [y3] at u3
            clear y1 y2 y3
            go_wp2_with fail
            go_quiet (fail)
            go_wp2_with fail
            go_meet
            case rel => exact ⟨rfl, Lib.hid ⟨HS3.out.1.drewN _, box_up HS3.out.2 (Below.drewsN (Below.refl _ _) _)⟩⟩
          · rw [y1] at u1
            rw [y2] at u2
            rw [y3] at u3
            clear y1 y2 y3
            go_wp2_with fail
            go_quiet (fail)
            go_wp2_with fail
            go_meet
            case rel => exact ⟨rfl, Lib.hid ⟨HS3.out.1.drewN _, box_up HS3.out.2 (Below.drewsN (Below.refl _ _) _)⟩⟩
        · obtain rfl : PT = false := by
            rw [hPT, List.getElem?_eq_none (by omega)]
            exact decide_eq_false (by rintro ⟨y, e, _⟩; cases e)
          have hqe : q = t.length := by omega
          have HQE := Lib.hid hqe
          clear hPT hq HNN HDG HIN HOUT HCAP HDL HXN HFORM HPT HX0 HZ1 HZB
          subst hqe
          have q3 : decide ((t.length : Int) < (t.length : Int)) = false := decide_eq_false (by omega)
          have q2 : ¬ (t.length : Int) < (t.length : Int) := by omega
          clear hqlt hql hlI q1 q0
          go_wp2_with fail
          go_quiet (fail)
          go_wp2_with fail
          go_meet
          case rel => exact ⟨rfl, Lib.hid ⟨HS3.out.1.drewN _, box_up HS3.out.2 (Below.drewsN (Below.refl _ _) _)⟩⟩
      case rest =>
      clear c0 c1 hPT
      obtain ⟨rfl, HS4⟩ := hcut
      clear HS3 HS
      cases PT with
      | true =>
        have HE : Hid (r = .err 4) := Lib.hid (by rw [HRR.out, digP_point hpe HFORM.out (HPT.out.1 rfl)]; rfl)
        clear HRR
        have HRR := HE
        go_wp2_with fail
        refine (rfail_first 4 HS4.out.1.1).mono ?_
        rintro e w2 ⟨rfl, hs2⟩
        have hz := box_frm HS4.out.2 hs2.2 (by have := HZ.out.2; omega)
        have HX := Lib.hid (And.intro hz (HS4.out.1.trans hs2))
        have b0 := box_cell hz 0
        have b1 := box_cell hz 1
        have b2 := box_cell hz 2
        have b3 := box_cell hz 3
        have b4 := box_cell hz 4
        have hfz := box_fr hz
        clear hz hs2
        go_wp2_with fail
        refine bodyPost_any_world (fun W => W.heap[w.heap.size]? = some (.cells #[.int .i64 0, .int .i64 0, str [], .slice none 0 0, .slice none 0 0] 35 (0, 0)) ∧ Frm (fun i => i = w.heap.size) w2 W) (five_set HX.out.1 _ _ _ _ _) ?_
        clear b0 b1 b2 b3 b4 hfz
        rintro w9 ⟨h9, hf9⟩
        have k0 := box_cell h9 0
        have k1 := box_cell h9 1
        have k2 := box_cell h9 2
        have k3 := box_cell h9 3
        have k4 := box_cell h9 4
        refine bodyPost_ret (v := .agg #[.int .i64 0, .int .i64 0, str [], .slice none 0 0, .slice none 0 0]) (by simp [results, Tryz.results51, go_sem, k0, k1, k2, k3, k4]) rfl ?_
        exact rv_flat (JSt.grow HX.out.2 hf9 (fun i e => by have := HZ.out.2; omega)) hql (by rw [HRR.out]; exact ⟨rfl, by decide⟩)
      | false =>
        have HNP : Hid (¬ ∃ c, t[P + (dgs (t.drop P)).length]? = some c ∧ (c = 46 ∨ c = 101 ∨ c = 69)) := Lib.hid (fun g => by have := HPT.out.2 g; cases this)
        by_cases hbig : 9007199254740991 < X
        · have HE : Hid (r = .err 1) := Lib.hid (by
            rw [HRR.out, digP_range hpe HFORM.out HNP.out (by rw [← HDG.out]; have := HCAP.out; have := HXN.out; unfold CapRel at *; omega)]; rfl)
          clear HRR
          have HRR := HE
          go_wp2_with fail
          refine (rfail_first 1 HS4.out.1.1).mono ?_
          rintro e w2 ⟨rfl, hs2⟩
          have hz := box_frm HS4.out.2 hs2.2 (by have := HZ.out.2; omega)
          have HX := Lib.hid (And.intro hz (HS4.out.1.trans hs2))
          have b0 := box_cell hz 0
          have b1 := box_cell hz 1
          have b2 := box_cell hz 2
          have b3 := box_cell hz 3
          have b4 := box_cell hz 4
          have hfz := box_fr hz
          clear hz hs2
          go_wp2_with fail
          refine bodyPost_any_world (fun W => W.heap[w.heap.size]? = some (.cells #[.int .i64 0, .int .i64 0, str [], .slice none 0 0, .slice none 0 0] 35 (0, 0)) ∧ Frm (fun i => i = w.heap.size) w2 W) (five_set HX.out.1 _ _ _ _ _) ?_
          clear b0 b1 b2 b3 b4 hfz
          rintro w9 ⟨h9, hf9⟩
          have k0 := box_cell h9 0
          have k1 := box_cell h9 1
          have k2 := box_cell h9 2
          have k3 := box_cell h9 3
          have k4 := box_cell h9 4
          refine bodyPost_ret (v := .agg #[.int .i64 0, .int .i64 0, str [], .slice none 0 0, .slice none 0 0]) (by simp [results, Tryz.results51, go_sem, k0, k1, k2, k3, k4]) rfl ?_
          exact rv_flat (JSt.grow HX.out.2 hf9 (fun i e => by have := HZ.out.2; omega)) hql (by rw [HRR.out]; exact ⟨rfl, by decide⟩)
        · have HE : Hid (r = .ok (.mk 4 (sg * X) [] [] []) q) := Lib.hid (by
            rw [HRR.out, digP_ok hpe HFORM.out HNP.out (by rw [← HDG.out]; have := HCAP.out; have := HXN.out; unfold CapRel at *; omega)]
            have e1 : ((capF (dgs (t.drop P)) 0 : Nat) : Int) = X := by rw [← HDG.out]; have := HCAP.out; have := HXN.out; unfold CapRel at *; omega
            rw [e1, ← HDG.out, ← HNN.out, ← HQ.out]
            rfl)
          clear HRR
          have HRR := HE
          have hz := HS4.out.2
          have HX := Lib.hid (And.intro hz HS4.out.1)
          cases NB with
          | true =>
            have e : sg * X = -X := by rw [show sg = -1 by simpa using HG1.out]; omega
            have w1 : IntKind.i64.wrap (-X) = -X := IntWalk.i64_in _ ⟨by have := HX0.out; omega, by have := HX0.out; omega⟩
            rw [e] at HRR
            clear e
            have b0 := box_cell hz 0
            have b1 := box_cell hz 1
            have b2 := box_cell hz 2
            have b3 := box_cell hz 3
            have b4 := box_cell hz 4
            have hfz := box_fr hz
            clear hz
            go_wp2_with fail
            refine bodyPost_any_world (fun W => W.heap[w.heap.size]? = some (.cells #[.int .i64 4, .int .i64 (-X), str [], .slice none 0 0, .slice none 0 0] 35 (0, 0)) ∧ Frm (fun i => i = w.heap.size) wc W) (five_set HX.out.1 _ _ _ _ _) ?_
            clear b0 b1 b2 b3 b4 hfz
            rintro w9 ⟨h9, hf9⟩
            have k0 := box_cell h9 0
            have k1 := box_cell h9 1
            have k2 := box_cell h9 2
            have k3 := box_cell h9 3
            have k4 := box_cell h9 4
            refine bodyPost_ret (v := .agg #[.int .i64 4, .int .i64 (-X), str [], .slice none 0 0, .slice none 0 0]) (by simp [results, Tryz.results51, go_sem, k0, k1, k2, k3, k4]) rfl ?_
            exact rv_flat (JSt.grow HX.out.2 hf9 (fun i e => by have := HZ.out.2; omega)) hql (by rw [HRR.out]; exact ⟨rfl, rfl, rfl⟩)
          | false =>
            have e : sg * X = X := by rw [show sg = 1 by simpa using HG2.out]; omega
            rw [e] at HRR
            clear e
            have b0 := box_cell hz 0
            have b1 := box_cell hz 1
            have b2 := box_cell hz 2
            have b3 := box_cell hz 3
            have b4 := box_cell hz 4
            have hfz := box_fr hz
            clear hz
            go_wp2_with fail
            refine bodyPost_any_world (fun W => W.heap[w.heap.size]? = some (.cells #[.int .i64 4, .int .i64 X, str [], .slice none 0 0, .slice none 0 0] 35 (0, 0)) ∧ Frm (fun i => i = w.heap.size) wc W) (five_set HX.out.1 _ _ _ _ _) ?_
            clear b0 b1 b2 b3 b4 hfz
            rintro w9 ⟨h9, hf9⟩
            have k0 := box_cell h9 0
            have k1 := box_cell h9 1
            have k2 := box_cell h9 2
            have k3 := box_cell h9 3
            have k4 := box_cell h9 4
            refine bodyPost_ret (v := .agg #[.int .i64 4, .int .i64 X, str [], .slice none 0 0, .slice none 0 0]) (by simp [results, Tryz.results51, go_sem, k0, k1, k2, k3, k4]) rfl ?_
            exact rv_flat (JSt.grow HX.out.2 hf9 (fun i e => by have := HZ.out.2; omega)) hql (by rw [HRR.out]; exact ⟨rfl, rfl, rfl⟩)
end Go.Proofs.YtidlhajibjnkeaaGreatDoor
