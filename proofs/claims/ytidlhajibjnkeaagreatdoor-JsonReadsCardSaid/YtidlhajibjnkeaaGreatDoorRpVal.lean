/- hblref1.Parse: the document's reader: any value. -/
import Derived.Test.YtidlhajibjnkeaaGreatDoorRpObj
import Derived.Test.YtidlhajibjnkeaaGreatDoorJValP
namespace Go.Proofs.YtidlhajibjnkeaaGreatDoor
open Go.RowKit

theorem stB_cases {c : UInt8} (h : stB c = true) : c = 110 ∨ (c ≠ 110 ∧ c = 102) ∨ (c ≠ 110 ∧ c ≠ 102 ∧ c = 116) ∨ (c ≠ 110 ∧ c ≠ 102 ∧ c ≠ 116 ∧ c = 34) ∨ (c ≠ 110 ∧ c ≠ 102 ∧ c ≠ 116 ∧ c ≠ 34 ∧ c = 91) ∨ (c ≠ 110 ∧ c ≠ 102 ∧ c ≠ 116 ∧ c ≠ 34 ∧ c ≠ 91 ∧ c = 123) ∨ (c ≠ 110 ∧ c ≠ 102 ∧ c ≠ 116 ∧ c ≠ 34 ∧ c ≠ 91 ∧ c ≠ 123 ∧ (c = 45 ∨ dgJ c = true)) := by
  by_cases h1 : c = 110
  · exact .inl h1
  refine .inr ?_
  by_cases h2 : c = 102
  · exact .inl ⟨h1, h2⟩
  refine .inr ?_
  by_cases h3 : c = 116
  · exact .inl ⟨h1, h2, h3⟩
  refine .inr ?_
  by_cases h4 : c = 34
  · exact .inl ⟨h1, h2, h3, h4⟩
  refine .inr ?_
  by_cases h5 : c = 91
  · exact .inl ⟨h1, h2, h3, h4, h5⟩
  refine .inr ?_
  by_cases h6 : c = 123
  · exact .inl ⟨h1, h2, h3, h4, h5, h6⟩
  refine .inr ⟨h1, h2, h3, h4, h5, h6, ?_⟩
  rw [stB_iff, ne_of h1, ne_of h2, ne_of h3, ne_of h4, ne_of h5, ne_of h6] at h
  by_cases h7 : c = 45
  · exact .inl h7
  · rw [ne_of h7] at h
    right
    simpa [dgJ] using h
theorem casP_none {lst : Nat → JR (List JV)} {obj : Nat → JR (List MemT)} {t : List UInt8} {c : UInt8} {p : Nat} (h : stB c = false) : casP lst obj t c p = .err 4 := by
  rw [stB_iff] at h
  simp only [Bool.or_eq_false_iff, beq_eq_false_iff_ne] at h
  obtain ⟨⟨⟨⟨⟨⟨⟨h34, h91⟩, h123⟩, h45⟩, hd⟩, h116⟩, h102⟩, h110⟩ := h
  unfold casP
  rw [if_neg h91, if_neg h123, if_neg h34, if_neg (by rintro (e | e); exact h45 e; unfold dgJ at e; rw [e] at hd; cases hd), if_neg h116, if_neg h102, if_neg h110]
/-- What a value at p is, where o are open. -/
def valO (t : List UInt8) (o : Nat) (lst : Nat → JR (List JV)) (obj : Nat → JR (List MemT)) (p : Nat) : JR JV :=
  match t[skp t p]? with
  | none => .err 2
  | some c => if stB c = true then (if o = 64 then .err 10 else casP lst obj t c (skp t p)) else .err 4
set_option maxRecDepth 100000 in
set_option maxHeartbeats 16000000 in
theorem rvalue_step (t : List UInt8) (b p o : Nat) (lst : Nat → JR (List JV)) (obj : Nat → JR (List MemT)) (w : World) (h : JRb w b t p 0) (hp : p ≤ t.length) (hl : t.length ≤ 20000) (ho : o ≤ 64)
    (CL : o < 64 → ∀ W, JRb W b t (skp t p) 0 → skp t p < t.length → Calls Tryz.prog 49 #[.pointer (some ⟨b, 0, none⟩), .int .i64 ((o : Int) + 1)] W (RV t W b (lstV (lst (skp t p)))))
    (CO : o < 64 → ∀ W, JRb W b t (skp t p) 0 → skp t p < t.length → Calls Tryz.prog 50 #[.pointer (some ⟨b, 0, none⟩), .int .i64 ((o : Int) + 1)] W (RV t W b (objV (obj (skp t p))))) :
    Calls Tryz.prog 26 #[.pointer (some ⟨b, 0, none⟩), .int .i64 (o : Int)] w (RV t w b (valO t o lst obj p)) := by
  obtain ⟨Wa, hWa, hba, hbx, hsz⟩ := zero_box w
  have hb := h.lt
  have HA : Hid (JSt w b t p 0 Wa ∧ Wa.heap[w.heap.size]? = some (.cells #[.int .i64 0, .int .i64 0, str [], .slice none 0 0, .slice none 0 0] 35 (0, 0))) := Lib.hid ⟨(JSt.refl h).below hba, hbx⟩
  have HZ : Hid (b < w.heap.size ∧ w.heap.size < Wa.heap.size) := Lib.hid ⟨hb, by omega⟩
  have CS := Lib.hid (rskip_any t b p 0 Wa HA.out.1.1 hp (by omega))
  obtain ⟨r, hr⟩ : ∃ r, r = valO t o lst obj p := ⟨_, rfl⟩
  rw [← hr]
  unfold valO at hr
  have hq := skp_le t hp
  obtain ⟨q, hqe⟩ : ∃ q, q = skp t p := ⟨_, rfl⟩
  rw [← hqe] at hr hq CS CL CO
  have CL := Lib.hid CL
  have CO := Lib.hid CO
  have o0 : (0 : Int) ≤ (o : Int) := by omega
  have o1 : (o : Int) ≤ 64 := by omega
  have q0 : (0 : Int) ≤ (q : Int) := by omega
  clear hqe hba hbx hsz hb h hp
  by_cases hlt : q < t.length
  case neg =>
    have hqe : q = t.length := by omega
    have m1 : ((q : Int) == (t.length : Int)) = true := by rw [hqe]; exact beq_self_eq_true _
    rw [List.getElem?_eq_none (by omega)] at hr
    have HE := Lib.hid hr
    clear hr hlt hqe
    go_enter Tryz.func26, Tryz.ntmps26
    go_upto_region 1 with fail
    rw [← hWa]
    clear hWa
    go_wp2_with fail
    refine CS.out.mono ?_
    rintro e w1 ⟨rfl, hs1⟩
    have HJ : Hid (JSt w b t q 0 w1 ∧ w1.heap[w.heap.size]? = some (.cells #[.int .i64 0, .int .i64 0, str [], .slice none 0 0, .slice none 0 0] 35 (0, 0))) := Lib.hid ⟨HA.out.1.trans hs1, box_frm HA.out.2 hs1.2 (by have := HZ.out.1; omega)⟩
    have HS1 := Lib.hid hs1.2.size
    have c0 := hs1.1.c0
    have c1 := hs1.1.c1
    clear hs1 CS
    go_wp2_with fail
    go_quiet (fail)
    go_wp2_with fail
    refine (rfail_first 2 (HJ.out.1.drewN _).1).mono ?_
    rintro e w3 ⟨rfl, hs3⟩
    have hz := box_frm (box_up HJ.out.2 (Below.drewsN (Below.refl _ _) _)) hs3.2 (by have := HZ.out.1; omega)
    have HX := Lib.hid (And.intro hz ((HJ.out.1.drewN _).trans hs3))
    have b0 := box_cell hz 0
    have b1 := box_cell hz 1
    have b2 := box_cell hz 2
    have b3 := box_cell hz 3
    have b4 := box_cell hz 4
    have hfz := box_fr hz
    clear hz hs3
    go_wp2_with fail
    refine bodyPost_any_world (fun W => W.heap[w.heap.size]? = some (.cells #[.int .i64 0, .int .i64 0, str [], .slice none 0 0, .slice none 0 0] 35 (0, 0)) ∧ Frm (fun i => i = w.heap.size) w3 W) (five_set HX.out.1 _ _ _ _ _) ?_
    clear b0 b1 b2 b3 b4 hfz
    rintro w9 ⟨h9, hf9⟩
    have k0 := box_cell h9 0
    have k1 := box_cell h9 1
    have k2 := box_cell h9 2
    have k3 := box_cell h9 3
    have k4 := box_cell h9 4
    refine bodyPost_ret (v := .agg #[.int .i64 0, .int .i64 0, str [], .slice none 0 0, .slice none 0 0]) (by simp [results, Tryz.results26, go_sem, k0, k1, k2, k3, k4]) rfl ?_
    exact rv_flat (JSt.grow HX.out.2 hf9 (fun i e => by have := HZ.out.1; omega)) (by omega) (by rw [HE.out]; exact ⟨rfl, by decide⟩)
  obtain ⟨c, hc⟩ : ∃ c, c = t[q] := ⟨_, rfl⟩
  have hgc : (ByteArray.mk t.toArray)[q]'(by simpa [ByteArray.size] using hlt) = c := hc.symm
  have hg? : t[q]? = some c := by rw [hc]; exact List.getElem?_eq_getElem hlt
  rw [hg?] at hr
  dsimp only at hr
  have m1 : ((q : Int) == (t.length : Int)) = false := by rw [beq_eq_false_iff_ne]; omega
  have m2 : (q : Int) < (t.length : Int) := by omega
  have HG := Lib.hid hg?
  have CB := Lib.hid (rbegins_any c)
  clear hc hg?
  cases hst : stB c with
  | false =>
    rw [hst] at CB hr
    rw [if_neg (by decide)] at hr
    have HE := Lib.hid hr
    clear hr hst
    go_enter Tryz.func26, Tryz.ntmps26
    go_upto_region 1 with fail
    rw [← hWa]
    clear hWa
    go_wp2_with fail
    refine CS.out.mono ?_
    rintro e w1 ⟨rfl, hs1⟩
    have HJ : Hid (JSt w b t q 0 w1 ∧ w1.heap[w.heap.size]? = some (.cells #[.int .i64 0, .int .i64 0, str [], .slice none 0 0, .slice none 0 0] 35 (0, 0))) := Lib.hid ⟨HA.out.1.trans hs1, box_frm HA.out.2 hs1.2 (by have := HZ.out.1; omega)⟩
    have HS1 := Lib.hid hs1.2.size
    have c0 := hs1.1.c0
    have c1 := hs1.1.c1
    clear hs1 CS
    go_wp2_with fail
    go_quiet (fail)
    go_wp2_with fail
    go_quiet (fail)
    go_wp2_with fail
    refine (CB.out _).mono ?_
    rintro e w2 ⟨rfl, rfl⟩
    go_wp2_with fail
    refine (rfail_first 4 (HJ.out.1.drewN _).1).mono ?_
    rintro e w3 ⟨rfl, hs3⟩
    have hz := box_frm (box_up HJ.out.2 (Below.drewsN (Below.refl _ _) _)) hs3.2 (by have := HZ.out.1; omega)
    have HX := Lib.hid (And.intro hz ((HJ.out.1.drewN _).trans hs3))
    have b0 := box_cell hz 0
    have b1 := box_cell hz 1
    have b2 := box_cell hz 2
    have b3 := box_cell hz 3
    have b4 := box_cell hz 4
    have hfz := box_fr hz
    clear hz hs3
    go_wp2_with fail
    refine bodyPost_any_world (fun W => W.heap[w.heap.size]? = some (.cells #[.int .i64 0, .int .i64 0, str [], .slice none 0 0, .slice none 0 0] 35 (0, 0)) ∧ Frm (fun i => i = w.heap.size) w3 W) (five_set HX.out.1 _ _ _ _ _) ?_
    clear b0 b1 b2 b3 b4 hfz
    rintro w9 ⟨h9, hf9⟩
    have k0 := box_cell h9 0
    have k1 := box_cell h9 1
    have k2 := box_cell h9 2
    have k3 := box_cell h9 3
    have k4 := box_cell h9 4
    refine bodyPost_ret (v := .agg #[.int .i64 0, .int .i64 0, str [], .slice none 0 0, .slice none 0 0]) (by simp [results, Tryz.results26, go_sem, k0, k1, k2, k3, k4]) rfl ?_
    exact rv_flat (JSt.grow HX.out.2 hf9 (fun i e => by have := HZ.out.1; omega)) (by omega) (by rw [HE.out]; exact ⟨rfl, by decide⟩)
  | true =>
    rw [hst] at CB hr
    rw [if_pos rfl] at hr
    have HST := Lib.hid hst
    clear hst
    by_cases h64 : o = 64
    · rw [if_pos h64] at hr
      have e64 : ((o : Int) == 64) = true := by rw [h64]; rfl
      have HE := Lib.hid hr
      clear hr h64
      go_enter Tryz.func26, Tryz.ntmps26
      go_upto_region 1 with fail
      rw [← hWa]
      clear hWa
      go_wp2_with fail
      refine CS.out.mono ?_
      rintro e w1 ⟨rfl, hs1⟩
      have HJ : Hid (JSt w b t q 0 w1 ∧ w1.heap[w.heap.size]? = some (.cells #[.int .i64 0, .int .i64 0, str [], .slice none 0 0, .slice none 0 0] 35 (0, 0))) := Lib.hid ⟨HA.out.1.trans hs1, box_frm HA.out.2 hs1.2 (by have := HZ.out.1; omega)⟩
      have HS1 := Lib.hid hs1.2.size
      have c0 := hs1.1.c0
      have c1 := hs1.1.c1
      clear hs1 CS
      go_wp2_with fail
      go_quiet (fail)
      go_wp2_with fail
      go_quiet (fail)
      go_wp2_with fail
      refine (CB.out _).mono ?_
      rintro e w2 ⟨rfl, rfl⟩
      go_wp2_with fail
      refine (rfail_first 10 (HJ.out.1.drewN _).1).mono ?_
      rintro e w3 ⟨rfl, hs3⟩
      have hz := box_frm (box_up HJ.out.2 (Below.drewsN (Below.refl _ _) _)) hs3.2 (by have := HZ.out.1; omega)
      have HX := Lib.hid (And.intro hz ((HJ.out.1.drewN _).trans hs3))
      have b0 := box_cell hz 0
      have b1 := box_cell hz 1
      have b2 := box_cell hz 2
      have b3 := box_cell hz 3
      have b4 := box_cell hz 4
      have hfz := box_fr hz
      clear hz hs3
      go_wp2_with fail
      refine bodyPost_any_world (fun W => W.heap[w.heap.size]? = some (.cells #[.int .i64 0, .int .i64 0, str [], .slice none 0 0, .slice none 0 0] 35 (0, 0)) ∧ Frm (fun i => i = w.heap.size) w3 W) (five_set HX.out.1 _ _ _ _ _) ?_
      clear b0 b1 b2 b3 b4 hfz
      rintro w9 ⟨h9, hf9⟩
      have k0 := box_cell h9 0
      have k1 := box_cell h9 1
      have k2 := box_cell h9 2
      have k3 := box_cell h9 3
      have k4 := box_cell h9 4
      refine bodyPost_ret (v := .agg #[.int .i64 0, .int .i64 0, str [], .slice none 0 0, .slice none 0 0]) (by simp [results, Tryz.results26, go_sem, k0, k1, k2, k3, k4]) rfl ?_
      exact rv_flat (JSt.grow HX.out.2 hf9 (fun i e => by have := HZ.out.1; omega)) (by omega) (by rw [HE.out]; exact ⟨rfl, by decide⟩)
    rw [if_neg h64] at hr
    have e64 : ((o : Int) == 64) = false := by rw [beq_eq_false_iff_ne]; omega
    have HOL : Hid (o < 64) := Lib.hid (by omega)
    clear h64
    have u110 := tst c 110 (z := 110) rfl
    have u102 := tst c 102 (z := 102) rfl
    have u116 := tst c 116 (z := 116) rfl
    have u34 := tst c 34 (z := 34) rfl
    have u91 := tst c 91 (z := 91) rfl
    have u123 := tst c 123 (z := 123) rfl
    unfold casP at hr
    rcases stB_cases HST.out with h1 | ⟨h1, h2⟩ | ⟨h1, h2, h3⟩ | ⟨h1, h2, h3, h4⟩ | ⟨h1, h2, h3, h4, h5⟩ | ⟨h1, h2, h3, h4, h5, h6⟩ | ⟨h1, h2, h3, h4, h5, h6, h7⟩
    · have hle : q ≤ t.length := by omega
      rw [eq_of h1] at u110
      rw [h1] at hr
      rw [if_neg (by decide), if_neg (by decide), if_neg (by decide), if_neg (by decide), if_neg (by decide), if_neg (by decide), if_pos rfl] at hr
      have HE := Lib.hid hr
      clear hr h1
      go_enter Tryz.func26, Tryz.ntmps26
      go_upto_region 1 with fail
      rw [← hWa]
      clear hWa
      go_wp2_with fail
      refine CS.out.mono ?_
      rintro e w1 ⟨rfl, hs1⟩
      have HJ : Hid (JSt w b t q 0 w1 ∧ w1.heap[w.heap.size]? = some (.cells #[.int .i64 0, .int .i64 0, str [], .slice none 0 0, .slice none 0 0] 35 (0, 0))) := Lib.hid ⟨HA.out.1.trans hs1, box_frm HA.out.2 hs1.2 (by have := HZ.out.1; omega)⟩
      have HS1 := Lib.hid hs1.2.size
      have c0 := hs1.1.c0
      have c1 := hs1.1.c1
      clear hs1 CS
      go_wp2_with fail
      go_quiet (fail)
      go_wp2_with fail
      go_quiet (fail)
      go_wp2_with fail
      refine (CB.out _).mono ?_
      rintro e w2 ⟨rfl, rfl⟩
      go_wp2_with fail
      refine (rword_any t [110, 117, 108, 108] 1 b q _ (HJ.out.1.drewN _).1 hle (by omega) (by decide)).mono ?_
      rintro e w3 ⟨v, cs, q5, x5, rfl, hv, hs3, hq5, hres⟩
      obtain ⟨al, ll, cl, am, lm, cm, rfl, _, _⟩ := hv.open
      have hz := box_frm (box_up HJ.out.2 (Below.drewsN (Below.refl _ _) _)) hs3.2 (by have := HZ.out.1; omega)
      have HX := Lib.hid (And.intro hz ((HJ.out.1.drewN _).trans hs3))
      have HV := Lib.hid (And.intro hv (And.intro hq5 hres))
      have b0 := box_cell hz 0
      have b1 := box_cell hz 1
      have b2 := box_cell hz 2
      have b3 := box_cell hz 3
      have b4 := box_cell hz 4
      have hfz := box_fr hz
      clear hz hs3 hv hq5 hres
      go_wp2_with fail
      refine bodyPost_any_world (fun W => W.heap[w.heap.size]? = some (.cells #[.int .i64 v.kind, .int .i64 v.n, str v.s, .slice al ll cl, .slice am lm cm] 35 (0, 0)) ∧ Frm (fun i => i = w.heap.size) w3 W) (five_set HX.out.1 _ _ _ _ _) ?_
      clear b0 b1 b2 b3 b4 hfz
      rintro w9 ⟨h9, hf9⟩
      have k0 := box_cell h9 0
      have k1 := box_cell h9 1
      have k2 := box_cell h9 2
      have k3 := box_cell h9 3
      have k4 := box_cell h9 4
      refine bodyPost_ret (v := .agg #[.int .i64 v.kind, .int .i64 v.n, str v.s, .slice al ll cl, .slice am lm cm]) (by simp [results, Tryz.results26, go_sem, k0, k1, k2, k3, k4]) rfl ?_
      exact ⟨v, _, q5, x5, rfl, (HV.out.1.frm hf9 (fun i hi e => by have h1 := HS1.out; have h2 := HZ.out.2; have h3 : w1.heap.size ≤ i := hi; omega)).mono (fun i _ hi => by have h1 := HS1.out; have h2 := HZ.out.2; have h3 : w1.heap.size ≤ i := hi; omega), JSt.grow HX.out.2 hf9 (fun i e => by have := HZ.out.1; omega), HV.out.2.1, by rw [HE.out]; exact HV.out.2.2⟩
    · have hle : q ≤ t.length := by omega
      rw [ne_of h1] at u110
      rw [eq_of h2] at u102
      rw [h2] at hr
      rw [if_neg (by decide), if_neg (by decide), if_neg (by decide), if_neg (by decide), if_neg (by decide), if_pos rfl] at hr
      have HE := Lib.hid hr
      clear hr h1 h2
      go_enter Tryz.func26, Tryz.ntmps26
      go_upto_region 1 with fail
      rw [← hWa]
      clear hWa
      go_wp2_with fail
      refine CS.out.mono ?_
      rintro e w1 ⟨rfl, hs1⟩
      have HJ : Hid (JSt w b t q 0 w1 ∧ w1.heap[w.heap.size]? = some (.cells #[.int .i64 0, .int .i64 0, str [], .slice none 0 0, .slice none 0 0] 35 (0, 0))) := Lib.hid ⟨HA.out.1.trans hs1, box_frm HA.out.2 hs1.2 (by have := HZ.out.1; omega)⟩
      have HS1 := Lib.hid hs1.2.size
      have c0 := hs1.1.c0
      have c1 := hs1.1.c1
      clear hs1 CS
      go_wp2_with fail
      go_quiet (fail)
      go_wp2_with fail
      go_quiet (fail)
      go_wp2_with fail
      refine (CB.out _).mono ?_
      rintro e w2 ⟨rfl, rfl⟩
      go_wp2_with fail
      refine (rword_any t [102, 97, 108, 115, 101] 2 b q _ (HJ.out.1.drewN _).1 hle (by omega) (by decide)).mono ?_
      rintro e w3 ⟨v, cs, q5, x5, rfl, hv, hs3, hq5, hres⟩
      obtain ⟨al, ll, cl, am, lm, cm, rfl, _, _⟩ := hv.open
      have hz := box_frm (box_up HJ.out.2 (Below.drewsN (Below.refl _ _) _)) hs3.2 (by have := HZ.out.1; omega)
      have HX := Lib.hid (And.intro hz ((HJ.out.1.drewN _).trans hs3))
      have HV := Lib.hid (And.intro hv (And.intro hq5 hres))
      have b0 := box_cell hz 0
      have b1 := box_cell hz 1
      have b2 := box_cell hz 2
      have b3 := box_cell hz 3
      have b4 := box_cell hz 4
      have hfz := box_fr hz
      clear hz hs3 hv hq5 hres
      go_wp2_with fail
      refine bodyPost_any_world (fun W => W.heap[w.heap.size]? = some (.cells #[.int .i64 v.kind, .int .i64 v.n, str v.s, .slice al ll cl, .slice am lm cm] 35 (0, 0)) ∧ Frm (fun i => i = w.heap.size) w3 W) (five_set HX.out.1 _ _ _ _ _) ?_
      clear b0 b1 b2 b3 b4 hfz
      rintro w9 ⟨h9, hf9⟩
      have k0 := box_cell h9 0
      have k1 := box_cell h9 1
      have k2 := box_cell h9 2
      have k3 := box_cell h9 3
      have k4 := box_cell h9 4
      refine bodyPost_ret (v := .agg #[.int .i64 v.kind, .int .i64 v.n, str v.s, .slice al ll cl, .slice am lm cm]) (by simp [results, Tryz.results26, go_sem, k0, k1, k2, k3, k4]) rfl ?_
      exact ⟨v, _, q5, x5, rfl, (HV.out.1.frm hf9 (fun i hi e => by have h1 := HS1.out; have h2 := HZ.out.2; have h3 : w1.heap.size ≤ i := hi; omega)).mono (fun i _ hi => by have h1 := HS1.out; have h2 := HZ.out.2; have h3 : w1.heap.size ≤ i := hi; omega), JSt.grow HX.out.2 hf9 (fun i e => by have := HZ.out.1; omega), HV.out.2.1, by rw [HE.out]; exact HV.out.2.2⟩
    · have hle : q ≤ t.length := by omega
      rw [ne_of h1] at u110
      rw [ne_of h2] at u102
      rw [eq_of h3] at u116
      rw [h3] at hr
      rw [if_neg (by decide), if_neg (by decide), if_neg (by decide), if_neg (by decide), if_pos rfl] at hr
      have HE := Lib.hid hr
      clear hr h1 h2 h3
      go_enter Tryz.func26, Tryz.ntmps26
      go_upto_region 1 with fail
      rw [← hWa]
      clear hWa
      go_wp2_with fail
      refine CS.out.mono ?_
      rintro e w1 ⟨rfl, hs1⟩
      have HJ : Hid (JSt w b t q 0 w1 ∧ w1.heap[w.heap.size]? = some (.cells #[.int .i64 0, .int .i64 0, str [], .slice none 0 0, .slice none 0 0] 35 (0, 0))) := Lib.hid ⟨HA.out.1.trans hs1, box_frm HA.out.2 hs1.2 (by have := HZ.out.1; omega)⟩
      have HS1 := Lib.hid hs1.2.size
      have c0 := hs1.1.c0
      have c1 := hs1.1.c1
      clear hs1 CS
      go_wp2_with fail
      go_quiet (fail)
      go_wp2_with fail
      go_quiet (fail)
      go_wp2_with fail
      refine (CB.out _).mono ?_
      rintro e w2 ⟨rfl, rfl⟩
      go_wp2_with fail
      refine (rword_any t [116, 114, 117, 101] 3 b q _ (HJ.out.1.drewN _).1 hle (by omega) (by decide)).mono ?_
      rintro e w3 ⟨v, cs, q5, x5, rfl, hv, hs3, hq5, hres⟩
      obtain ⟨al, ll, cl, am, lm, cm, rfl, _, _⟩ := hv.open
      have hz := box_frm (box_up HJ.out.2 (Below.drewsN (Below.refl _ _) _)) hs3.2 (by have := HZ.out.1; omega)
      have HX := Lib.hid (And.intro hz ((HJ.out.1.drewN _).trans hs3))
      have HV := Lib.hid (And.intro hv (And.intro hq5 hres))
      have b0 := box_cell hz 0
      have b1 := box_cell hz 1
      have b2 := box_cell hz 2
      have b3 := box_cell hz 3
      have b4 := box_cell hz 4
      have hfz := box_fr hz
      clear hz hs3 hv hq5 hres
      go_wp2_with fail
      refine bodyPost_any_world (fun W => W.heap[w.heap.size]? = some (.cells #[.int .i64 v.kind, .int .i64 v.n, str v.s, .slice al ll cl, .slice am lm cm] 35 (0, 0)) ∧ Frm (fun i => i = w.heap.size) w3 W) (five_set HX.out.1 _ _ _ _ _) ?_
      clear b0 b1 b2 b3 b4 hfz
      rintro w9 ⟨h9, hf9⟩
      have k0 := box_cell h9 0
      have k1 := box_cell h9 1
      have k2 := box_cell h9 2
      have k3 := box_cell h9 3
      have k4 := box_cell h9 4
      refine bodyPost_ret (v := .agg #[.int .i64 v.kind, .int .i64 v.n, str v.s, .slice al ll cl, .slice am lm cm]) (by simp [results, Tryz.results26, go_sem, k0, k1, k2, k3, k4]) rfl ?_
      exact ⟨v, _, q5, x5, rfl, (HV.out.1.frm hf9 (fun i hi e => by have h1 := HS1.out; have h2 := HZ.out.2; have h3 : w1.heap.size ≤ i := hi; omega)).mono (fun i _ hi => by have h1 := HS1.out; have h2 := HZ.out.2; have h3 : w1.heap.size ≤ i := hi; omega), JSt.grow HX.out.2 hf9 (fun i e => by have := HZ.out.1; omega), HV.out.2.1, by rw [HE.out]; exact HV.out.2.2⟩
    · have hle : q ≤ t.length := by omega
      rw [ne_of h1] at u110
      rw [ne_of h2] at u102
      rw [ne_of h3] at u116
      rw [eq_of h4] at u34
      rw [h4] at hr
      rw [if_neg (by decide), if_neg (by decide), if_pos rfl] at hr
      have HE := Lib.hid hr
      clear hr h1 h2 h3 h4
      go_enter Tryz.func26, Tryz.ntmps26
      go_upto_region 1 with fail
      rw [← hWa]
      clear hWa
      go_wp2_with fail
      refine CS.out.mono ?_
      rintro e w1 ⟨rfl, hs1⟩
      have HJ : Hid (JSt w b t q 0 w1 ∧ w1.heap[w.heap.size]? = some (.cells #[.int .i64 0, .int .i64 0, str [], .slice none 0 0, .slice none 0 0] 35 (0, 0))) := Lib.hid ⟨HA.out.1.trans hs1, box_frm HA.out.2 hs1.2 (by have := HZ.out.1; omega)⟩
      have HS1 := Lib.hid hs1.2.size
      have c0 := hs1.1.c0
      have c1 := hs1.1.c1
      clear hs1 CS
      go_wp2_with fail
      go_quiet (fail)
      go_wp2_with fail
      go_quiet (fail)
      go_wp2_with fail
      refine (CB.out _).mono ?_
      rintro e w2 ⟨rfl, rfl⟩
      go_wp2_with fail
      refine (rtext_any t b q _ (HJ.out.1.drewN _).1 hle (by omega)).mono ?_
      rintro e w3 ⟨s, q5, x5, rfl, hsl, hq5, hs3, htx⟩
      have hz := box_frm (box_up HJ.out.2 (Below.drewsN (Below.refl _ _) _)) hs3.2 (by have := HZ.out.1; omega)
      have HX := Lib.hid (And.intro hz ((HJ.out.1.drewN _).trans hs3))
      have HV : Hid (q5 ≤ t.length ∧ Res r (.mk 5 0 s [] []) q5 x5) := Lib.hid ⟨hq5, by
        rw [HE.out]
        unfold TxR at htx
        cases hx : txtP t q with
        | ok s0 q0 =>
          rw [hx] at htx
          obtain ⟨rfl, rfl, rfl⟩ := htx
          exact ⟨rfl, rfl, rfl⟩
        | err c =>
          rw [hx] at htx
          exact htx⟩
      have b0 := box_cell hz 0
      have b1 := box_cell hz 1
      have b2 := box_cell hz 2
      have b3 := box_cell hz 3
      have b4 := box_cell hz 4
      have hfz := box_fr hz
      clear hz hs3 hq5 htx
      go_wp2_with fail
      refine bodyPost_any_world (fun W => W.heap[w.heap.size]? = some (.cells #[.int .i64 5, .int .i64 0, str s, .slice none 0 0, .slice none 0 0] 35 (0, 0)) ∧ Frm (fun i => i = w.heap.size) w3 W) (five_set HX.out.1 _ _ _ _ _) ?_
      clear b0 b1 b2 b3 b4 hfz
      rintro w9 ⟨h9, hf9⟩
      have k0 := box_cell h9 0
      have k1 := box_cell h9 1
      have k2 := box_cell h9 2
      have k3 := box_cell h9 3
      have k4 := box_cell h9 4
      refine bodyPost_ret (v := .agg #[.int .i64 5, .int .i64 0, str s, .slice none 0 0, .slice none 0 0]) (by simp [results, Tryz.results26, go_sem, k0, k1, k2, k3, k4]) rfl ?_
      exact rv_flat (JSt.grow HX.out.2 hf9 (fun i e => by have := HZ.out.1; omega)) HV.out.1 HV.out.2
    · have hle : q ≤ t.length := by omega
      rw [ne_of h1] at u110
      rw [ne_of h2] at u102
      rw [ne_of h3] at u116
      rw [ne_of h4] at u34
      rw [eq_of h5] at u91
      rw [h5] at hr
      rw [if_pos rfl] at hr
      have HE := Lib.hid hr
      clear hr h1 h2 h3 h4 h5
      go_enter Tryz.func26, Tryz.ntmps26
      go_upto_region 1 with fail
      rw [← hWa]
      clear hWa
      go_wp2_with fail
      refine CS.out.mono ?_
      rintro e w1 ⟨rfl, hs1⟩
      have HJ : Hid (JSt w b t q 0 w1 ∧ w1.heap[w.heap.size]? = some (.cells #[.int .i64 0, .int .i64 0, str [], .slice none 0 0, .slice none 0 0] 35 (0, 0))) := Lib.hid ⟨HA.out.1.trans hs1, box_frm HA.out.2 hs1.2 (by have := HZ.out.1; omega)⟩
      have HS1 := Lib.hid hs1.2.size
      have c0 := hs1.1.c0
      have c1 := hs1.1.c1
      clear hs1 CS
      go_wp2_with fail
      go_quiet (fail)
      go_wp2_with fail
      go_quiet (fail)
      go_wp2_with fail
      refine (CB.out _).mono ?_
      rintro e w2 ⟨rfl, rfl⟩
      go_wp2_with fail
      refine (CL.out HOL.out _ (HJ.out.1.drewN _).1 hlt).mono ?_
      rintro e w3 ⟨v, cs, q5, x5, rfl, hv, hs3, hq5, hres⟩
      obtain ⟨al, ll, cl, am, lm, cm, rfl, _, _⟩ := hv.open
      have hz := box_frm (box_up HJ.out.2 (Below.drewsN (Below.refl _ _) _)) hs3.2 (by have := HZ.out.1; omega)
      have HX := Lib.hid (And.intro hz ((HJ.out.1.drewN _).trans hs3))
      have HV := Lib.hid (And.intro hv (And.intro hq5 hres))
      have b0 := box_cell hz 0
      have b1 := box_cell hz 1
      have b2 := box_cell hz 2
      have b3 := box_cell hz 3
      have b4 := box_cell hz 4
      have hfz := box_fr hz
      clear hz hs3 hv hq5 hres
      go_wp2_with fail
      refine bodyPost_any_world (fun W => W.heap[w.heap.size]? = some (.cells #[.int .i64 v.kind, .int .i64 v.n, str v.s, .slice al ll cl, .slice am lm cm] 35 (0, 0)) ∧ Frm (fun i => i = w.heap.size) w3 W) (five_set HX.out.1 _ _ _ _ _) ?_
      clear b0 b1 b2 b3 b4 hfz
      rintro w9 ⟨h9, hf9⟩
      have k0 := box_cell h9 0
      have k1 := box_cell h9 1
      have k2 := box_cell h9 2
      have k3 := box_cell h9 3
      have k4 := box_cell h9 4
      refine bodyPost_ret (v := .agg #[.int .i64 v.kind, .int .i64 v.n, str v.s, .slice al ll cl, .slice am lm cm]) (by simp [results, Tryz.results26, go_sem, k0, k1, k2, k3, k4]) rfl ?_
      exact ⟨v, _, q5, x5, rfl, (HV.out.1.frm hf9 (fun i hi e => by have h1 := HS1.out; have h2 := HZ.out.2; have h3 : w1.heap.size ≤ i := hi; omega)).mono (fun i _ hi => by have h1 := HS1.out; have h2 := HZ.out.2; have h3 : w1.heap.size ≤ i := hi; omega), JSt.grow HX.out.2 hf9 (fun i e => by have := HZ.out.1; omega), HV.out.2.1, by rw [HE.out]; exact HV.out.2.2⟩
    · have hle : q ≤ t.length := by omega
      rw [ne_of h1] at u110
      rw [ne_of h2] at u102
      rw [ne_of h3] at u116
      rw [ne_of h4] at u34
      rw [ne_of h5] at u91
      rw [eq_of h6] at u123
      rw [h6] at hr
      rw [if_neg (by decide), if_pos rfl] at hr
      have HE := Lib.hid hr
      clear hr h1 h2 h3 h4 h5 h6
      go_enter Tryz.func26, Tryz.ntmps26
      go_upto_region 1 with fail
      rw [← hWa]
      clear hWa
      go_wp2_with fail
      refine CS.out.mono ?_
      rintro e w1 ⟨rfl, hs1⟩
      have HJ : Hid (JSt w b t q 0 w1 ∧ w1.heap[w.heap.size]? = some (.cells #[.int .i64 0, .int .i64 0, str [], .slice none 0 0, .slice none 0 0] 35 (0, 0))) := Lib.hid ⟨HA.out.1.trans hs1, box_frm HA.out.2 hs1.2 (by have := HZ.out.1; omega)⟩
      have HS1 := Lib.hid hs1.2.size
      have c0 := hs1.1.c0
      have c1 := hs1.1.c1
      clear hs1 CS
      go_wp2_with fail
      go_quiet (fail)
      go_wp2_with fail
      go_quiet (fail)
      go_wp2_with fail
      refine (CB.out _).mono ?_
      rintro e w2 ⟨rfl, rfl⟩
      go_wp2_with fail
      refine (CO.out HOL.out _ (HJ.out.1.drewN _).1 hlt).mono ?_
      rintro e w3 ⟨v, cs, q5, x5, rfl, hv, hs3, hq5, hres⟩
      obtain ⟨al, ll, cl, am, lm, cm, rfl, _, _⟩ := hv.open
      have hz := box_frm (box_up HJ.out.2 (Below.drewsN (Below.refl _ _) _)) hs3.2 (by have := HZ.out.1; omega)
      have HX := Lib.hid (And.intro hz ((HJ.out.1.drewN _).trans hs3))
      have HV := Lib.hid (And.intro hv (And.intro hq5 hres))
      have b0 := box_cell hz 0
      have b1 := box_cell hz 1
      have b2 := box_cell hz 2
      have b3 := box_cell hz 3
      have b4 := box_cell hz 4
      have hfz := box_fr hz
      clear hz hs3 hv hq5 hres
      go_wp2_with fail
      refine bodyPost_any_world (fun W => W.heap[w.heap.size]? = some (.cells #[.int .i64 v.kind, .int .i64 v.n, str v.s, .slice al ll cl, .slice am lm cm] 35 (0, 0)) ∧ Frm (fun i => i = w.heap.size) w3 W) (five_set HX.out.1 _ _ _ _ _) ?_
      clear b0 b1 b2 b3 b4 hfz
      rintro w9 ⟨h9, hf9⟩
      have k0 := box_cell h9 0
      have k1 := box_cell h9 1
      have k2 := box_cell h9 2
      have k3 := box_cell h9 3
      have k4 := box_cell h9 4
      refine bodyPost_ret (v := .agg #[.int .i64 v.kind, .int .i64 v.n, str v.s, .slice al ll cl, .slice am lm cm]) (by simp [results, Tryz.results26, go_sem, k0, k1, k2, k3, k4]) rfl ?_
      exact ⟨v, _, q5, x5, rfl, (HV.out.1.frm hf9 (fun i hi e => by have h1 := HS1.out; have h2 := HZ.out.2; have h3 : w1.heap.size ≤ i := hi; omega)).mono (fun i _ hi => by have h1 := HS1.out; have h2 := HZ.out.2; have h3 : w1.heap.size ≤ i := hi; omega), JSt.grow HX.out.2 hf9 (fun i e => by have := HZ.out.1; omega), HV.out.2.1, by rw [HE.out]; exact HV.out.2.2⟩
    · have hle : q ≤ t.length := by omega
      rw [ne_of h1] at u110
      rw [ne_of h2] at u102
      rw [ne_of h3] at u116
      rw [ne_of h4] at u34
      rw [ne_of h5] at u91
      rw [ne_of h6] at u123
      rw [if_neg h5, if_neg h6, if_neg h4, if_pos h7] at hr
      have HE := Lib.hid hr
      clear hr h1 h2 h3 h4 h5 h6 h7
      go_enter Tryz.func26, Tryz.ntmps26
      go_upto_region 1 with fail
      rw [← hWa]
      clear hWa
      go_wp2_with fail
      refine CS.out.mono ?_
      rintro e w1 ⟨rfl, hs1⟩
      have HJ : Hid (JSt w b t q 0 w1 ∧ w1.heap[w.heap.size]? = some (.cells #[.int .i64 0, .int .i64 0, str [], .slice none 0 0, .slice none 0 0] 35 (0, 0))) := Lib.hid ⟨HA.out.1.trans hs1, box_frm HA.out.2 hs1.2 (by have := HZ.out.1; omega)⟩
      have HS1 := Lib.hid hs1.2.size
      have c0 := hs1.1.c0
      have c1 := hs1.1.c1
      clear hs1 CS
      go_wp2_with fail
      go_quiet (fail)
      go_wp2_with fail
      go_quiet (fail)
      go_wp2_with fail
      refine (CB.out _).mono ?_
      rintro e w2 ⟨rfl, rfl⟩
      go_wp2_with fail
      refine (rnumber_any t b q _ (HJ.out.1.drewN _).1 hlt (by omega)).mono ?_
      rintro e w3 ⟨v, cs, q5, x5, rfl, hv, hs3, hq5, hres⟩
      obtain ⟨al, ll, cl, am, lm, cm, rfl, _, _⟩ := hv.open
      have hz := box_frm (box_up HJ.out.2 (Below.drewsN (Below.refl _ _) _)) hs3.2 (by have := HZ.out.1; omega)
      have HX := Lib.hid (And.intro hz ((HJ.out.1.drewN _).trans hs3))
      have HV := Lib.hid (And.intro hv (And.intro hq5 hres))
      have b0 := box_cell hz 0
      have b1 := box_cell hz 1
      have b2 := box_cell hz 2
      have b3 := box_cell hz 3
      have b4 := box_cell hz 4
      have hfz := box_fr hz
      clear hz hs3 hv hq5 hres
      go_wp2_with fail
      refine bodyPost_any_world (fun W => W.heap[w.heap.size]? = some (.cells #[.int .i64 v.kind, .int .i64 v.n, str v.s, .slice al ll cl, .slice am lm cm] 35 (0, 0)) ∧ Frm (fun i => i = w.heap.size) w3 W) (five_set HX.out.1 _ _ _ _ _) ?_
      clear b0 b1 b2 b3 b4 hfz
      rintro w9 ⟨h9, hf9⟩
      have k0 := box_cell h9 0
      have k1 := box_cell h9 1
      have k2 := box_cell h9 2
      have k3 := box_cell h9 3
      have k4 := box_cell h9 4
      refine bodyPost_ret (v := .agg #[.int .i64 v.kind, .int .i64 v.n, str v.s, .slice al ll cl, .slice am lm cm]) (by simp [results, Tryz.results26, go_sem, k0, k1, k2, k3, k4]) rfl ?_
      exact ⟨v, _, q5, x5, rfl, (HV.out.1.frm hf9 (fun i hi e => by have h1 := HS1.out; have h2 := HZ.out.2; have h3 : w1.heap.size ≤ i := hi; omega)).mono (fun i _ hi => by have h1 := HS1.out; have h2 := HZ.out.2; have h3 : w1.heap.size ≤ i := hi; omega), JSt.grow HX.out.2 hf9 (fun i e => by have := HZ.out.1; omega), HV.out.2.1, by rw [HE.out]; exact HV.out.2.2⟩
theorem valP_eq (t : List UInt8) (d p : Nat) (hd : d ≤ 64) : valP t d p = valO t (64 - d) (match d with | 0 => fun _ => .err 0 | k + 1 => lstP (valP t k) t) (match d with | 0 => fun _ => .err 0 | k + 1 => objP (valP t k) t) p := by
  cases d with
  | zero =>
    unfold valP valO
    rfl
  | succ k =>
    unfold valO
    rw [valP]
    cases t[skp t p]? with
    | none => rfl
    | some c =>
      dsimp only
      cases hst : stB c with
      | false => rw [casP_none hst, if_neg (by decide)]
      | true => rw [if_pos rfl, if_neg (by omega)]
theorem rvalue_any (t : List UInt8) (b : Nat) (hl : t.length ≤ 20000) : ∀ (d p o : Nat) (w : World), JRb w b t p 0 → p ≤ t.length → o + d = 64 → Calls Tryz.prog 26 #[.pointer (some ⟨b, 0, none⟩), .int .i64 (o : Int)] w (RV t w b (valP t d p))
  | 0, p, o, w, h, hp, ho => by
    rw [valP_eq t 0 p (by omega), show 64 - 0 = o by omega]
    exact rvalue_step t b p o _ _ w h hp hl (by omega) (fun g => by omega) (fun g => by omega)
  | d + 1, p, o, w, h, hp, ho => by
    rw [valP_eq t (d + 1) p (by omega), show 64 - (d + 1) = o by omega]
    refine rvalue_step t b p o _ _ w h hp hl (by omega) (fun g W hW hlt => ?_) (fun g W hW hlt => ?_)
    · exact rlist_any t b _ ((o : Int) + 1) W (valP t d) (fun W q hr hq => by
        have := rvalue_any t b hl d q (o + 1) W hr hq (by omega)
        push_cast at this
        exact this) (fun q v q1 e => valP_ge t d q v q1 e) (val_end t d) hW hlt (by omega)
    · exact robject_any t b _ ((o : Int) + 1) W (valP t d) (fun W q hr hq => by
        have := rvalue_any t b hl d q (o + 1) W hr hq (by omega)
        push_cast at this
        exact this) (fun q v q1 e => valP_ge t d q v q1 e) hW hlt (by omega)
end Go.Proofs.YtidlhajibjnkeaaGreatDoor
