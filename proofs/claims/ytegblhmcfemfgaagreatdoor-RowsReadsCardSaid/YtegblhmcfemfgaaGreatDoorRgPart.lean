import Derived.Test.YtegblhmcfemfgaaGreatDoorWTake
import Derived.Test.YtegblhmcfemfgaaGreatDoorRpObj
import Derived.Test.YtegblhmcfemfgaaGreatDoorJValP
import Derived.Test.YtegblhmcfemfgaaGreatDoorJParse
import Derived.Test.YtegblhmcfemfgaaGreatDoorJGet
import Derived.Test.YtegblhmcfemfgaaGreatDoorRwMks
namespace Go.Proofs.YtegblhmcfemfgaaGreatDoor
open Go.RowKit
theorem stB_cases {c : UInt8} (h : stB c = true) : c = 110 ∨ (c ≠ 110 ∧ c = 102) ∨ (c ≠ 110 ∧ c ≠ 102 ∧ c = 116) ∨ (c ≠ 110 ∧ c ≠ 102 ∧ c ≠ 116 ∧ c = 34) ∨ (c ≠ 110 ∧ c ≠ 102 ∧ c ≠ 116 ∧ c ≠ 34 ∧ c = 91) ∨ (c ≠ 110 ∧ c ≠ 102 ∧ c ≠ 116 ∧ c ≠ 34 ∧ c ≠ 91 ∧ c = 123) ∨ (c ≠ 110 ∧ c ≠ 102 ∧ c ≠ 116 ∧ c ≠ 34 ∧ c ≠ 91 ∧ c ≠ 123 ∧ (c = 45 ∨ dgJ c = true)) := by
 by_cases h1 : c = 110
 · exact .inl h1
 refine .inr ?_
 by_cases h2 : c = 102
 · exact .inl ⟨h1, h2⟩
 refine .inr ?_
 by_cases h3 : c = 116
 · exact .inl ⟨h1, h2, h3⟩
 refine .inr ?_
 by_cases h4 : c = 34
 · exact .inl ⟨h1, h2, h3, h4⟩
 refine .inr ?_
 by_cases h5 : c = 91
 · exact .inl ⟨h1, h2, h3, h4, h5⟩
 refine .inr ?_
 by_cases h6 : c = 123
 · exact .inl ⟨h1, h2, h3, h4, h5, h6⟩
 refine .inr ⟨h1, h2, h3, h4, h5, h6, ?_⟩
 rw [stB_iff, ne_of h1, ne_of h2, ne_of h3, ne_of h4, ne_of h5, ne_of h6] at h
 by_cases h7 : c = 45
 · exact .inl h7
 rw [ne_of h7] at h
 right
 simpa [dgJ] using h
theorem casP_none {lst : Nat → JR (List JV)} {obj : Nat → JR (List MemT)} {t : List UInt8} {c : UInt8} {p : Nat} (h : stB c = false) : casP lst obj t c p = .err 4 := by
 rw [stB_iff] at h
 simp only [Bool.or_eq_false_iff, beq_eq_false_iff_ne] at h
 obtain ⟨⟨⟨⟨⟨⟨⟨h34, h91⟩, h123⟩, h45⟩, hd⟩, h116⟩, h102⟩, h110⟩ := h
 unfold casP
 rw [if_neg h91, if_neg h123, if_neg h34, if_neg (by rintro (e | e); exact h45 e; unfold dgJ at e; rw [e] at hd; cases hd), if_neg h116, if_neg h102, if_neg h110]
def valO (t : List UInt8) (o : Nat) (lst : Nat → JR (List JV)) (obj : Nat → JR (List MemT)) (p : Nat) : JR JV :=
 match t[skp t p]? with
 | none => .err 2
 | some c => if stB c = true then (if o = 64 then .err 10 else casP lst obj t c (skp t p)) else .err 4
set_option maxRecDepth 100000 in
set_option maxHeartbeats 16000000 in
theorem rvalue_step (t : List UInt8) (b p o : Nat) (lst : Nat → JR (List JV)) (obj : Nat → JR (List MemT)) (w : World) (h : JRb w b t p 0) (hp : p ≤ t.length) (hl : t.length ≤ 20000) (ho : o ≤ 64)
 (CL : o < 64 → ∀ W, JRb W b t (skp t p) 0 → skp t p < t.length → Calls Tryz.prog 106 #[.pointer (some ⟨b, 0, none⟩), .int .i64 ((o : Int) + 1)] W (RV t W b (lstV (lst (skp t p)))))
 (CO : o < 64 → ∀ W, JRb W b t (skp t p) 0 → skp t p < t.length → Calls Tryz.prog 107 #[.pointer (some ⟨b, 0, none⟩), .int .i64 ((o : Int) + 1)] W (RV t W b (objV (obj (skp t p))))) :
 Calls Tryz.prog 75 #[.pointer (some ⟨b, 0, none⟩), .int .i64 (o : Int)] w (RV t w b (valO t o lst obj p)) := by
 obtain ⟨Wa, hWa, hba, hbx, hsz⟩ := zero_box w
 have hb := h.lt
 have HA : Hid (JSt w b t p 0 Wa ∧ Wa.heap[w.heap.size]? = some (.cells #[.int .i64 0, .int .i64 0, str [], .slice none 0 0, .slice none 0 0] 95 (0, 0))) := Lib.hid ⟨(JSt.refl h).below hba, hbx⟩
 have HZ : Hid (b < w.heap.size ∧ w.heap.size < Wa.heap.size) := Lib.hid ⟨hb, by omega⟩
 have CS := Lib.hid (rskip_any t b p 0 Wa HA.out.1.1 hp (by omega))
 obtain ⟨r, hr⟩ : ∃ r, r = valO t o lst obj p := ⟨_, rfl⟩
 rw [← hr]
 unfold valO at hr
 have hq := skp_le t hp
 obtain ⟨q, hqe⟩ : ∃ q, q = skp t p := ⟨_, rfl⟩
 rw [← hqe] at hr hq CS CL CO
 have CL := Lib.hid CL
 have CO := Lib.hid CO
 have o0 : (0 : Int) ≤ (o : Int) := by omega
 have o1 : (o : Int) ≤ 64 := by omega
 have q0 : (0 : Int) ≤ (q : Int) := by omega
 clear hqe hba hbx hsz hb h hp
 by_cases hlt : q < t.length
 case neg =>
  have hqe : q = t.length := by omega
  have m1 : ((q : Int) == (t.length : Int)) = true := by rw [hqe]; exact beq_self_eq_true _
  rw [List.getElem?_eq_none (by omega)] at hr
  have HE := Lib.hid hr
  clear hr hlt hqe
  go_enter Tryz.func75, Tryz.ntmps75
  go_upto_region 1 with fail
  rw [← hWa]
  clear hWa
  go_wp2_with fail
  refine CS.out.mono ?_
  rintro e w1 ⟨rfl, hs1⟩
  have HJ : Hid (JSt w b t q 0 w1 ∧ w1.heap[w.heap.size]? = some (.cells #[.int .i64 0, .int .i64 0, str [], .slice none 0 0, .slice none 0 0] 95 (0, 0))) := Lib.hid ⟨HA.out.1.trans hs1, box_frm HA.out.2 hs1.2 (by have := HZ.out.1; omega)⟩
  have HS1 := Lib.hid hs1.2.size
  have c0 := hs1.1.c0
  have c1 := hs1.1.c1
  clear hs1 CS
  go_wp2_with fail
  go_quiet (fail)
  go_wp2_with fail
  refine (rfail_first 2 (HJ.out.1.drewN _).1).mono ?_
  rintro e w3 ⟨rfl, hs3⟩
  have hz := box_frm (box_up HJ.out.2 (Below.drewsN (Below.refl _ _) _)) hs3.2 (by have := HZ.out.1; omega)
  have HX := Lib.hid (And.intro hz ((HJ.out.1.drewN _).trans hs3))
  obtain ⟨b0, b1, b2, b3, b4⟩ := box5 hz
  have hfz := box_fr hz
  clear hz hs3
  go_wp2_with fail
  refine bodyPost_any_world (fun W => W.heap[w.heap.size]? = some (.cells #[.int .i64 0, .int .i64 0, str [], .slice none 0 0, .slice none 0 0] 95 (0, 0)) ∧ Frm (fun i => i = w.heap.size) w3 W) (five_set HX.out.1 _ _ _ _ _) ?_
  clear b0 b1 b2 b3 b4 hfz
  rintro w9 ⟨h9, hf9⟩
  obtain ⟨k0, k1, k2, k3, k4⟩ := box5 h9
  refine bodyPost_ret (v := .agg #[.int .i64 0, .int .i64 0, str [], .slice none 0 0, .slice none 0 0]) (by simp [results, Tryz.results75, go_sem, k0, k1, k2, k3, k4]) rfl ?_
  exact rv_flat (JSt.grow HX.out.2 hf9 (fun i e => by have := HZ.out.1; omega)) (by omega) (by rw [HE.out]; exact ⟨rfl, by decide⟩)
 obtain ⟨c, hc⟩ : ∃ c, c = t[q] := ⟨_, rfl⟩
 have hgc : (ByteArray.mk t.toArray)[q]'(by simpa [ByteArray.size] using hlt) = c := hc.symm
 have hg? : t[q]? = some c := by rw [hc]; exact List.getElem?_eq_getElem hlt
 rw [hg?] at hr
 dsimp only at hr
 have m1 : ((q : Int) == (t.length : Int)) = false := by rw [beq_eq_false_iff_ne]; omega
 have m2 : (q : Int) < (t.length : Int) := by omega
 have HG := Lib.hid hg?
 have CB := Lib.hid (rbegins_any c)
 clear hc hg?
 cases hst : stB c with
 | false =>
  rw [hst] at CB hr
  rw [if_neg (by decide)] at hr
  have HE := Lib.hid hr
  clear hr hst
  go_enter Tryz.func75, Tryz.ntmps75
  go_upto_region 1 with fail
  rw [← hWa]
  clear hWa
  go_wp2_with fail
  refine CS.out.mono ?_
  rintro e w1 ⟨rfl, hs1⟩
  have HJ : Hid (JSt w b t q 0 w1 ∧ w1.heap[w.heap.size]? = some (.cells #[.int .i64 0, .int .i64 0, str [], .slice none 0 0, .slice none 0 0] 95 (0, 0))) := Lib.hid ⟨HA.out.1.trans hs1, box_frm HA.out.2 hs1.2 (by have := HZ.out.1; omega)⟩
  have HS1 := Lib.hid hs1.2.size
  have c0 := hs1.1.c0
  have c1 := hs1.1.c1
  clear hs1 CS
  go_wp2_with fail
  go_quiet (fail)
  go_wp2_with fail
  go_quiet (fail)
  go_wp2_with fail
  refine (CB.out _).mono ?_
  rintro e w2 ⟨rfl, rfl⟩
  go_wp2_with fail
  refine (rfail_first 4 (HJ.out.1.drewN _).1).mono ?_
  rintro e w3 ⟨rfl, hs3⟩
  have hz := box_frm (box_up HJ.out.2 (Below.drewsN (Below.refl _ _) _)) hs3.2 (by have := HZ.out.1; omega)
  have HX := Lib.hid (And.intro hz ((HJ.out.1.drewN _).trans hs3))
  obtain ⟨b0, b1, b2, b3, b4⟩ := box5 hz
  have hfz := box_fr hz
  clear hz hs3
  go_wp2_with fail
  refine bodyPost_any_world (fun W => W.heap[w.heap.size]? = some (.cells #[.int .i64 0, .int .i64 0, str [], .slice none 0 0, .slice none 0 0] 95 (0, 0)) ∧ Frm (fun i => i = w.heap.size) w3 W) (five_set HX.out.1 _ _ _ _ _) ?_
  clear b0 b1 b2 b3 b4 hfz
  rintro w9 ⟨h9, hf9⟩
  obtain ⟨k0, k1, k2, k3, k4⟩ := box5 h9
  refine bodyPost_ret (v := .agg #[.int .i64 0, .int .i64 0, str [], .slice none 0 0, .slice none 0 0]) (by simp [results, Tryz.results75, go_sem, k0, k1, k2, k3, k4]) rfl ?_
  exact rv_flat (JSt.grow HX.out.2 hf9 (fun i e => by have := HZ.out.1; omega)) (by omega) (by rw [HE.out]; exact ⟨rfl, by decide⟩)
 | true =>
  rw [hst] at CB hr
  rw [if_pos rfl] at hr
  have HST := Lib.hid hst
  clear hst
  by_cases h64 : o = 64
  · rw [if_pos h64] at hr
    have e64 : ((o : Int) == 64) = true := by rw [h64]; rfl
    have HE := Lib.hid hr
    clear hr h64
    go_enter Tryz.func75, Tryz.ntmps75
    go_upto_region 1 with fail
    rw [← hWa]
    clear hWa
    go_wp2_with fail
    refine CS.out.mono ?_
    rintro e w1 ⟨rfl, hs1⟩
    have HJ : Hid (JSt w b t q 0 w1 ∧ w1.heap[w.heap.size]? = some (.cells #[.int .i64 0, .int .i64 0, str [], .slice none 0 0, .slice none 0 0] 95 (0, 0))) := Lib.hid ⟨HA.out.1.trans hs1, box_frm HA.out.2 hs1.2 (by have := HZ.out.1; omega)⟩
    have HS1 := Lib.hid hs1.2.size
    have c0 := hs1.1.c0
    have c1 := hs1.1.c1
    clear hs1 CS
    go_wp2_with fail
    go_quiet (fail)
    go_wp2_with fail
    go_quiet (fail)
    go_wp2_with fail
    refine (CB.out _).mono ?_
    rintro e w2 ⟨rfl, rfl⟩
    go_wp2_with fail
    refine (rfail_first 10 (HJ.out.1.drewN _).1).mono ?_
    rintro e w3 ⟨rfl, hs3⟩
    have hz := box_frm (box_up HJ.out.2 (Below.drewsN (Below.refl _ _) _)) hs3.2 (by have := HZ.out.1; omega)
    have HX := Lib.hid (And.intro hz ((HJ.out.1.drewN _).trans hs3))
    obtain ⟨b0, b1, b2, b3, b4⟩ := box5 hz
    have hfz := box_fr hz
    clear hz hs3
    go_wp2_with fail
    refine bodyPost_any_world (fun W => W.heap[w.heap.size]? = some (.cells #[.int .i64 0, .int .i64 0, str [], .slice none 0 0, .slice none 0 0] 95 (0, 0)) ∧ Frm (fun i => i = w.heap.size) w3 W) (five_set HX.out.1 _ _ _ _ _) ?_
    clear b0 b1 b2 b3 b4 hfz
    rintro w9 ⟨h9, hf9⟩
    obtain ⟨k0, k1, k2, k3, k4⟩ := box5 h9
    refine bodyPost_ret (v := .agg #[.int .i64 0, .int .i64 0, str [], .slice none 0 0, .slice none 0 0]) (by simp [results, Tryz.results75, go_sem, k0, k1, k2, k3, k4]) rfl ?_
    exact rv_flat (JSt.grow HX.out.2 hf9 (fun i e => by have := HZ.out.1; omega)) (by omega) (by rw [HE.out]; exact ⟨rfl, by decide⟩)
  rw [if_neg h64] at hr
  have e64 : ((o : Int) == 64) = false := by rw [beq_eq_false_iff_ne]; omega
  have HOL : Hid (o < 64) := Lib.hid (by omega)
  clear h64
  have u110 := tst c 110 (z := 110) rfl
  have u102 := tst c 102 (z := 102) rfl
  have u116 := tst c 116 (z := 116) rfl
  have u34 := tst c 34 (z := 34) rfl
  have u91 := tst c 91 (z := 91) rfl
  have u123 := tst c 123 (z := 123) rfl
  unfold casP at hr
  rcases stB_cases HST.out with h1 | ⟨h1, h2⟩ | ⟨h1, h2, h3⟩ | ⟨h1, h2, h3, h4⟩ | ⟨h1, h2, h3, h4, h5⟩ | ⟨h1, h2, h3, h4, h5, h6⟩ | ⟨h1, h2, h3, h4, h5, h6, h7⟩
  · have hle : q ≤ t.length := by omega
    rw [eq_of h1] at u110
    rw [h1] at hr
    rw [if_neg (by decide), if_neg (by decide), if_neg (by decide), if_neg (by decide), if_neg (by decide), if_neg (by decide), if_pos rfl] at hr
    have HE := Lib.hid hr
    clear hr h1
    go_enter Tryz.func75, Tryz.ntmps75
    go_upto_region 1 with fail
    rw [← hWa]
    clear hWa
    go_wp2_with fail
    refine CS.out.mono ?_
    rintro e w1 ⟨rfl, hs1⟩
    have HJ : Hid (JSt w b t q 0 w1 ∧ w1.heap[w.heap.size]? = some (.cells #[.int .i64 0, .int .i64 0, str [], .slice none 0 0, .slice none 0 0] 95 (0, 0))) := Lib.hid ⟨HA.out.1.trans hs1, box_frm HA.out.2 hs1.2 (by have := HZ.out.1; omega)⟩
    have HS1 := Lib.hid hs1.2.size
    have c0 := hs1.1.c0
    have c1 := hs1.1.c1
    clear hs1 CS
    go_wp2_with fail
    go_quiet (fail)
    go_wp2_with fail
    go_quiet (fail)
    go_wp2_with fail
    refine (CB.out _).mono ?_
    rintro e w2 ⟨rfl, rfl⟩
    go_wp2_with fail
    refine (rword_any t [110, 117, 108, 108] 1 b q _ (HJ.out.1.drewN _).1 hle (by omega) (by decide)).mono ?_
    rintro e w3 ⟨v, cs, q5, x5, rfl, hv, hs3, hq5, hres⟩
    obtain ⟨al, ll, cl, am, lm, cm, rfl, _, _⟩ := hv.open
    have hz := box_frm (box_up HJ.out.2 (Below.drewsN (Below.refl _ _) _)) hs3.2 (by have := HZ.out.1; omega)
    have HX := Lib.hid (And.intro hz ((HJ.out.1.drewN _).trans hs3))
    have HV := Lib.hid (And.intro hv (And.intro hq5 hres))
    obtain ⟨b0, b1, b2, b3, b4⟩ := box5 hz
    have hfz := box_fr hz
    clear hz hs3 hv hq5 hres
    go_wp2_with fail
    refine bodyPost_any_world (fun W => W.heap[w.heap.size]? = some (.cells #[.int .i64 v.kind, .int .i64 v.n, str v.s, .slice al ll cl, .slice am lm cm] 95 (0, 0)) ∧ Frm (fun i => i = w.heap.size) w3 W) (five_set HX.out.1 _ _ _ _ _) ?_
    clear b0 b1 b2 b3 b4 hfz
    rintro w9 ⟨h9, hf9⟩
    obtain ⟨k0, k1, k2, k3, k4⟩ := box5 h9
    refine bodyPost_ret (v := .agg #[.int .i64 v.kind, .int .i64 v.n, str v.s, .slice al ll cl, .slice am lm cm]) (by simp [results, Tryz.results75, go_sem, k0, k1, k2, k3, k4]) rfl ?_
    exact ⟨v, _, q5, x5, rfl, (HV.out.1.frm hf9 (fun i hi e => by have h1 := HS1.out; have h2 := HZ.out.2; have h3 : w1.heap.size ≤ i := hi; omega)).mono (fun i _ hi => by have h1 := HS1.out; have h2 := HZ.out.2; have h3 : w1.heap.size ≤ i := hi; omega), JSt.grow HX.out.2 hf9 (fun i e => by have := HZ.out.1; omega), HV.out.2.1, by rw [HE.out]; exact HV.out.2.2⟩
  · have hle : q ≤ t.length := by omega
    rw [ne_of h1] at u110
    rw [eq_of h2] at u102
    rw [h2] at hr
    rw [if_neg (by decide), if_neg (by decide), if_neg (by decide), if_neg (by decide), if_neg (by decide), if_pos rfl] at hr
    have HE := Lib.hid hr
    clear hr h1 h2
    go_enter Tryz.func75, Tryz.ntmps75
    go_upto_region 1 with fail
    rw [← hWa]
    clear hWa
    go_wp2_with fail
    refine CS.out.mono ?_
    rintro e w1 ⟨rfl, hs1⟩
    have HJ : Hid (JSt w b t q 0 w1 ∧ w1.heap[w.heap.size]? = some (.cells #[.int .i64 0, .int .i64 0, str [], .slice none 0 0, .slice none 0 0] 95 (0, 0))) := Lib.hid ⟨HA.out.1.trans hs1, box_frm HA.out.2 hs1.2 (by have := HZ.out.1; omega)⟩
    have HS1 := Lib.hid hs1.2.size
    have c0 := hs1.1.c0
    have c1 := hs1.1.c1
    clear hs1 CS
    go_wp2_with fail
    go_quiet (fail)
    go_wp2_with fail
    go_quiet (fail)
    go_wp2_with fail
    refine (CB.out _).mono ?_
    rintro e w2 ⟨rfl, rfl⟩
    go_wp2_with fail
    refine (rword_any t [102, 97, 108, 115, 101] 2 b q _ (HJ.out.1.drewN _).1 hle (by omega) (by decide)).mono ?_
    rintro e w3 ⟨v, cs, q5, x5, rfl, hv, hs3, hq5, hres⟩
    obtain ⟨al, ll, cl, am, lm, cm, rfl, _, _⟩ := hv.open
    have hz := box_frm (box_up HJ.out.2 (Below.drewsN (Below.refl _ _) _)) hs3.2 (by have := HZ.out.1; omega)
    have HX := Lib.hid (And.intro hz ((HJ.out.1.drewN _).trans hs3))
    have HV := Lib.hid (And.intro hv (And.intro hq5 hres))
    obtain ⟨b0, b1, b2, b3, b4⟩ := box5 hz
    have hfz := box_fr hz
    clear hz hs3 hv hq5 hres
    go_wp2_with fail
    refine bodyPost_any_world (fun W => W.heap[w.heap.size]? = some (.cells #[.int .i64 v.kind, .int .i64 v.n, str v.s, .slice al ll cl, .slice am lm cm] 95 (0, 0)) ∧ Frm (fun i => i = w.heap.size) w3 W) (five_set HX.out.1 _ _ _ _ _) ?_
    clear b0 b1 b2 b3 b4 hfz
    rintro w9 ⟨h9, hf9⟩
    obtain ⟨k0, k1, k2, k3, k4⟩ := box5 h9
    refine bodyPost_ret (v := .agg #[.int .i64 v.kind, .int .i64 v.n, str v.s, .slice al ll cl, .slice am lm cm]) (by simp [results, Tryz.results75, go_sem, k0, k1, k2, k3, k4]) rfl ?_
    exact ⟨v, _, q5, x5, rfl, (HV.out.1.frm hf9 (fun i hi e => by have h1 := HS1.out; have h2 := HZ.out.2; have h3 : w1.heap.size ≤ i := hi; omega)).mono (fun i _ hi => by have h1 := HS1.out; have h2 := HZ.out.2; have h3 : w1.heap.size ≤ i := hi; omega), JSt.grow HX.out.2 hf9 (fun i e => by have := HZ.out.1; omega), HV.out.2.1, by rw [HE.out]; exact HV.out.2.2⟩
  · have hle : q ≤ t.length := by omega
    rw [ne_of h1] at u110
    rw [ne_of h2] at u102
    rw [eq_of h3] at u116
    rw [h3] at hr
    rw [if_neg (by decide), if_neg (by decide), if_neg (by decide), if_neg (by decide), if_pos rfl] at hr
    have HE := Lib.hid hr
    clear hr h1 h2 h3
    go_enter Tryz.func75, Tryz.ntmps75
    go_upto_region 1 with fail
    rw [← hWa]
    clear hWa
    go_wp2_with fail
    refine CS.out.mono ?_
    rintro e w1 ⟨rfl, hs1⟩
    have HJ : Hid (JSt w b t q 0 w1 ∧ w1.heap[w.heap.size]? = some (.cells #[.int .i64 0, .int .i64 0, str [], .slice none 0 0, .slice none 0 0] 95 (0, 0))) := Lib.hid ⟨HA.out.1.trans hs1, box_frm HA.out.2 hs1.2 (by have := HZ.out.1; omega)⟩
    have HS1 := Lib.hid hs1.2.size
    have c0 := hs1.1.c0
    have c1 := hs1.1.c1
    clear hs1 CS
    go_wp2_with fail
    go_quiet (fail)
    go_wp2_with fail
    go_quiet (fail)
    go_wp2_with fail
    refine (CB.out _).mono ?_
    rintro e w2 ⟨rfl, rfl⟩
    go_wp2_with fail
    refine (rword_any t [116, 114, 117, 101] 3 b q _ (HJ.out.1.drewN _).1 hle (by omega) (by decide)).mono ?_
    rintro e w3 ⟨v, cs, q5, x5, rfl, hv, hs3, hq5, hres⟩
    obtain ⟨al, ll, cl, am, lm, cm, rfl, _, _⟩ := hv.open
    have hz := box_frm (box_up HJ.out.2 (Below.drewsN (Below.refl _ _) _)) hs3.2 (by have := HZ.out.1; omega)
    have HX := Lib.hid (And.intro hz ((HJ.out.1.drewN _).trans hs3))
    have HV := Lib.hid (And.intro hv (And.intro hq5 hres))
    obtain ⟨b0, b1, b2, b3, b4⟩ := box5 hz
    have hfz := box_fr hz
    clear hz hs3 hv hq5 hres
    go_wp2_with fail
    refine bodyPost_any_world (fun W => W.heap[w.heap.size]? = some (.cells #[.int .i64 v.kind, .int .i64 v.n, str v.s, .slice al ll cl, .slice am lm cm] 95 (0, 0)) ∧ Frm (fun i => i = w.heap.size) w3 W) (five_set HX.out.1 _ _ _ _ _) ?_
    clear b0 b1 b2 b3 b4 hfz
    rintro w9 ⟨h9, hf9⟩
    obtain ⟨k0, k1, k2, k3, k4⟩ := box5 h9
    refine bodyPost_ret (v := .agg #[.int .i64 v.kind, .int .i64 v.n, str v.s, .slice al ll cl, .slice am lm cm]) (by simp [results, Tryz.results75, go_sem, k0, k1, k2, k3, k4]) rfl ?_
    exact ⟨v, _, q5, x5, rfl, (HV.out.1.frm hf9 (fun i hi e => by have h1 := HS1.out; have h2 := HZ.out.2; have h3 : w1.heap.size ≤ i := hi; omega)).mono (fun i _ hi => by have h1 := HS1.out; have h2 := HZ.out.2; have h3 : w1.heap.size ≤ i := hi; omega), JSt.grow HX.out.2 hf9 (fun i e => by have := HZ.out.1; omega), HV.out.2.1, by rw [HE.out]; exact HV.out.2.2⟩
  · have hle : q ≤ t.length := by omega
    rw [ne_of h1] at u110
    rw [ne_of h2] at u102
    rw [ne_of h3] at u116
    rw [eq_of h4] at u34
    rw [h4] at hr
    rw [if_neg (by decide), if_neg (by decide), if_pos rfl] at hr
    have HE := Lib.hid hr
    clear hr h1 h2 h3 h4
    go_enter Tryz.func75, Tryz.ntmps75
    go_upto_region 1 with fail
    rw [← hWa]
    clear hWa
    go_wp2_with fail
    refine CS.out.mono ?_
    rintro e w1 ⟨rfl, hs1⟩
    have HJ : Hid (JSt w b t q 0 w1 ∧ w1.heap[w.heap.size]? = some (.cells #[.int .i64 0, .int .i64 0, str [], .slice none 0 0, .slice none 0 0] 95 (0, 0))) := Lib.hid ⟨HA.out.1.trans hs1, box_frm HA.out.2 hs1.2 (by have := HZ.out.1; omega)⟩
    have HS1 := Lib.hid hs1.2.size
    have c0 := hs1.1.c0
    have c1 := hs1.1.c1
    clear hs1 CS
    go_wp2_with fail
    go_quiet (fail)
    go_wp2_with fail
    go_quiet (fail)
    go_wp2_with fail
    refine (CB.out _).mono ?_
    rintro e w2 ⟨rfl, rfl⟩
    go_wp2_with fail
    refine (rtext_any t b q _ (HJ.out.1.drewN _).1 hle (by omega)).mono ?_
    rintro e w3 ⟨s, q5, x5, rfl, hsl, hq5, hs3, htx⟩
    have hz := box_frm (box_up HJ.out.2 (Below.drewsN (Below.refl _ _) _)) hs3.2 (by have := HZ.out.1; omega)
    have HX := Lib.hid (And.intro hz ((HJ.out.1.drewN _).trans hs3))
    have HV : Hid (q5 ≤ t.length ∧ Res r (.mk 5 0 s [] []) q5 x5) := Lib.hid ⟨hq5, by
     rw [HE.out]
     unfold TxR at htx
     cases hx : txtP t q with
     | ok s0 q0 =>
      rw [hx] at htx
      obtain ⟨rfl, rfl, rfl⟩ := htx
      exact ⟨rfl, rfl, rfl⟩
     | err c =>
      rw [hx] at htx
      exact htx⟩
    obtain ⟨b0, b1, b2, b3, b4⟩ := box5 hz
    have hfz := box_fr hz
    clear hz hs3 hq5 htx
    go_wp2_with fail
    refine bodyPost_any_world (fun W => W.heap[w.heap.size]? = some (.cells #[.int .i64 5, .int .i64 0, str s, .slice none 0 0, .slice none 0 0] 95 (0, 0)) ∧ Frm (fun i => i = w.heap.size) w3 W) (five_set HX.out.1 _ _ _ _ _) ?_
    clear b0 b1 b2 b3 b4 hfz
    rintro w9 ⟨h9, hf9⟩
    obtain ⟨k0, k1, k2, k3, k4⟩ := box5 h9
    refine bodyPost_ret (v := .agg #[.int .i64 5, .int .i64 0, str s, .slice none 0 0, .slice none 0 0]) (by simp [results, Tryz.results75, go_sem, k0, k1, k2, k3, k4]) rfl ?_
    exact rv_flat (JSt.grow HX.out.2 hf9 (fun i e => by have := HZ.out.1; omega)) HV.out.1 HV.out.2
  · have hle : q ≤ t.length := by omega
    rw [ne_of h1] at u110
    rw [ne_of h2] at u102
    rw [ne_of h3] at u116
    rw [ne_of h4] at u34
    rw [eq_of h5] at u91
    rw [h5] at hr
    rw [if_pos rfl] at hr
    have HE := Lib.hid hr
    clear hr h1 h2 h3 h4 h5
    go_enter Tryz.func75, Tryz.ntmps75
    go_upto_region 1 with fail
    rw [← hWa]
    clear hWa
    go_wp2_with fail
    refine CS.out.mono ?_
    rintro e w1 ⟨rfl, hs1⟩
    have HJ : Hid (JSt w b t q 0 w1 ∧ w1.heap[w.heap.size]? = some (.cells #[.int .i64 0, .int .i64 0, str [], .slice none 0 0, .slice none 0 0] 95 (0, 0))) := Lib.hid ⟨HA.out.1.trans hs1, box_frm HA.out.2 hs1.2 (by have := HZ.out.1; omega)⟩
    have HS1 := Lib.hid hs1.2.size
    have c0 := hs1.1.c0
    have c1 := hs1.1.c1
    clear hs1 CS
    go_wp2_with fail
    go_quiet (fail)
    go_wp2_with fail
    go_quiet (fail)
    go_wp2_with fail
    refine (CB.out _).mono ?_
    rintro e w2 ⟨rfl, rfl⟩
    go_wp2_with fail
    refine (CL.out HOL.out _ (HJ.out.1.drewN _).1 hlt).mono ?_
    rintro e w3 ⟨v, cs, q5, x5, rfl, hv, hs3, hq5, hres⟩
    obtain ⟨al, ll, cl, am, lm, cm, rfl, _, _⟩ := hv.open
    have hz := box_frm (box_up HJ.out.2 (Below.drewsN (Below.refl _ _) _)) hs3.2 (by have := HZ.out.1; omega)
    have HX := Lib.hid (And.intro hz ((HJ.out.1.drewN _).trans hs3))
    have HV := Lib.hid (And.intro hv (And.intro hq5 hres))
    obtain ⟨b0, b1, b2, b3, b4⟩ := box5 hz
    have hfz := box_fr hz
    clear hz hs3 hv hq5 hres
    go_wp2_with fail
    refine bodyPost_any_world (fun W => W.heap[w.heap.size]? = some (.cells #[.int .i64 v.kind, .int .i64 v.n, str v.s, .slice al ll cl, .slice am lm cm] 95 (0, 0)) ∧ Frm (fun i => i = w.heap.size) w3 W) (five_set HX.out.1 _ _ _ _ _) ?_
    clear b0 b1 b2 b3 b4 hfz
    rintro w9 ⟨h9, hf9⟩
    obtain ⟨k0, k1, k2, k3, k4⟩ := box5 h9
    refine bodyPost_ret (v := .agg #[.int .i64 v.kind, .int .i64 v.n, str v.s, .slice al ll cl, .slice am lm cm]) (by simp [results, Tryz.results75, go_sem, k0, k1, k2, k3, k4]) rfl ?_
    exact ⟨v, _, q5, x5, rfl, (HV.out.1.frm hf9 (fun i hi e => by have h1 := HS1.out; have h2 := HZ.out.2; have h3 : w1.heap.size ≤ i := hi; omega)).mono (fun i _ hi => by have h1 := HS1.out; have h2 := HZ.out.2; have h3 : w1.heap.size ≤ i := hi; omega), JSt.grow HX.out.2 hf9 (fun i e => by have := HZ.out.1; omega), HV.out.2.1, by rw [HE.out]; exact HV.out.2.2⟩
  · have hle : q ≤ t.length := by omega
    rw [ne_of h1] at u110
    rw [ne_of h2] at u102
    rw [ne_of h3] at u116
    rw [ne_of h4] at u34
    rw [ne_of h5] at u91
    rw [eq_of h6] at u123
    rw [h6] at hr
    rw [if_neg (by decide), if_pos rfl] at hr
    have HE := Lib.hid hr
    clear hr h1 h2 h3 h4 h5 h6
    go_enter Tryz.func75, Tryz.ntmps75
    go_upto_region 1 with fail
    rw [← hWa]
    clear hWa
    go_wp2_with fail
    refine CS.out.mono ?_
    rintro e w1 ⟨rfl, hs1⟩
    have HJ : Hid (JSt w b t q 0 w1 ∧ w1.heap[w.heap.size]? = some (.cells #[.int .i64 0, .int .i64 0, str [], .slice none 0 0, .slice none 0 0] 95 (0, 0))) := Lib.hid ⟨HA.out.1.trans hs1, box_frm HA.out.2 hs1.2 (by have := HZ.out.1; omega)⟩
    have HS1 := Lib.hid hs1.2.size
    have c0 := hs1.1.c0
    have c1 := hs1.1.c1
    clear hs1 CS
    go_wp2_with fail
    go_quiet (fail)
    go_wp2_with fail
    go_quiet (fail)
    go_wp2_with fail
    refine (CB.out _).mono ?_
    rintro e w2 ⟨rfl, rfl⟩
    go_wp2_with fail
    refine (CO.out HOL.out _ (HJ.out.1.drewN _).1 hlt).mono ?_
    rintro e w3 ⟨v, cs, q5, x5, rfl, hv, hs3, hq5, hres⟩
    obtain ⟨al, ll, cl, am, lm, cm, rfl, _, _⟩ := hv.open
    have hz := box_frm (box_up HJ.out.2 (Below.drewsN (Below.refl _ _) _)) hs3.2 (by have := HZ.out.1; omega)
    have HX := Lib.hid (And.intro hz ((HJ.out.1.drewN _).trans hs3))
    have HV := Lib.hid (And.intro hv (And.intro hq5 hres))
    obtain ⟨b0, b1, b2, b3, b4⟩ := box5 hz
    have hfz := box_fr hz
    clear hz hs3 hv hq5 hres
    go_wp2_with fail
    refine bodyPost_any_world (fun W => W.heap[w.heap.size]? = some (.cells #[.int .i64 v.kind, .int .i64 v.n, str v.s, .slice al ll cl, .slice am lm cm] 95 (0, 0)) ∧ Frm (fun i => i = w.heap.size) w3 W) (five_set HX.out.1 _ _ _ _ _) ?_
    clear b0 b1 b2 b3 b4 hfz
    rintro w9 ⟨h9, hf9⟩
    obtain ⟨k0, k1, k2, k3, k4⟩ := box5 h9
    refine bodyPost_ret (v := .agg #[.int .i64 v.kind, .int .i64 v.n, str v.s, .slice al ll cl, .slice am lm cm]) (by simp [results, Tryz.results75, go_sem, k0, k1, k2, k3, k4]) rfl ?_
    exact ⟨v, _, q5, x5, rfl, (HV.out.1.frm hf9 (fun i hi e => by have h1 := HS1.out; have h2 := HZ.out.2; have h3 : w1.heap.size ≤ i := hi; omega)).mono (fun i _ hi => by have h1 := HS1.out; have h2 := HZ.out.2; have h3 : w1.heap.size ≤ i := hi; omega), JSt.grow HX.out.2 hf9 (fun i e => by have := HZ.out.1; omega), HV.out.2.1, by rw [HE.out]; exact HV.out.2.2⟩
  have hle : q ≤ t.length := by omega
  rw [ne_of h1] at u110
  rw [ne_of h2] at u102
  rw [ne_of h3] at u116
  rw [ne_of h4] at u34
  rw [ne_of h5] at u91
  rw [ne_of h6] at u123
  rw [if_neg h5, if_neg h6, if_neg h4, if_pos h7] at hr
  have HE := Lib.hid hr
  clear hr h1 h2 h3 h4 h5 h6 h7
  go_enter Tryz.func75, Tryz.ntmps75
  go_upto_region 1 with fail
  rw [← hWa]
  clear hWa
  go_wp2_with fail
  refine CS.out.mono ?_
  rintro e w1 ⟨rfl, hs1⟩
  have HJ : Hid (JSt w b t q 0 w1 ∧ w1.heap[w.heap.size]? = some (.cells #[.int .i64 0, .int .i64 0, str [], .slice none 0 0, .slice none 0 0] 95 (0, 0))) := Lib.hid ⟨HA.out.1.trans hs1, box_frm HA.out.2 hs1.2 (by have := HZ.out.1; omega)⟩
  have HS1 := Lib.hid hs1.2.size
  have c0 := hs1.1.c0
  have c1 := hs1.1.c1
  clear hs1 CS
  go_wp2_with fail
  go_quiet (fail)
  go_wp2_with fail
  go_quiet (fail)
  go_wp2_with fail
  refine (CB.out _).mono ?_
  rintro e w2 ⟨rfl, rfl⟩
  go_wp2_with fail
  refine (rnumber_any t b q _ (HJ.out.1.drewN _).1 hlt (by omega)).mono ?_
  rintro e w3 ⟨v, cs, q5, x5, rfl, hv, hs3, hq5, hres⟩
  obtain ⟨al, ll, cl, am, lm, cm, rfl, _, _⟩ := hv.open
  have hz := box_frm (box_up HJ.out.2 (Below.drewsN (Below.refl _ _) _)) hs3.2 (by have := HZ.out.1; omega)
  have HX := Lib.hid (And.intro hz ((HJ.out.1.drewN _).trans hs3))
  have HV := Lib.hid (And.intro hv (And.intro hq5 hres))
  obtain ⟨b0, b1, b2, b3, b4⟩ := box5 hz
  have hfz := box_fr hz
  clear hz hs3 hv hq5 hres
  go_wp2_with fail
  refine bodyPost_any_world (fun W => W.heap[w.heap.size]? = some (.cells #[.int .i64 v.kind, .int .i64 v.n, str v.s, .slice al ll cl, .slice am lm cm] 95 (0, 0)) ∧ Frm (fun i => i = w.heap.size) w3 W) (five_set HX.out.1 _ _ _ _ _) ?_
  clear b0 b1 b2 b3 b4 hfz
  rintro w9 ⟨h9, hf9⟩
  obtain ⟨k0, k1, k2, k3, k4⟩ := box5 h9
  refine bodyPost_ret (v := .agg #[.int .i64 v.kind, .int .i64 v.n, str v.s, .slice al ll cl, .slice am lm cm]) (by simp [results, Tryz.results75, go_sem, k0, k1, k2, k3, k4]) rfl ?_
  exact ⟨v, _, q5, x5, rfl, (HV.out.1.frm hf9 (fun i hi e => by have h1 := HS1.out; have h2 := HZ.out.2; have h3 : w1.heap.size ≤ i := hi; omega)).mono (fun i _ hi => by have h1 := HS1.out; have h2 := HZ.out.2; have h3 : w1.heap.size ≤ i := hi; omega), JSt.grow HX.out.2 hf9 (fun i e => by have := HZ.out.1; omega), HV.out.2.1, by rw [HE.out]; exact HV.out.2.2⟩
theorem valP_eq (t : List UInt8) (d p : Nat) (hd : d ≤ 64) : valP t d p = valO t (64 - d) (match d with | 0 => fun _ => .err 0 | k + 1 => lstP (valP t k) t) (match d with | 0 => fun _ => .err 0 | k + 1 => objP (valP t k) t) p := by
 cases d with
 | zero =>
  unfold valP valO
  rfl
 | succ k =>
  unfold valO
  rw [valP]
  cases t[skp t p]? with
  | none => rfl
  | some c =>
   dsimp only
   cases hst : stB c with
   | false => rw [casP_none hst, if_neg (by decide)]
   | true => rw [if_pos rfl, if_neg (by omega)]
theorem rvalue_any (t : List UInt8) (b : Nat) (hl : t.length ≤ 20000) : ∀ (d p o : Nat) (w : World), JRb w b t p 0 → p ≤ t.length → o + d = 64 → Calls Tryz.prog 75 #[.pointer (some ⟨b, 0, none⟩), .int .i64 (o : Int)] w (RV t w b (valP t d p))
 | 0, p, o, w, h, hp, ho => by
   rw [valP_eq t 0 p (by omega), show 64 - 0 = o by omega]
   exact rvalue_step t b p o _ _ w h hp hl (by omega) (fun g => by omega) (fun g => by omega)
 | d + 1, p, o, w, h, hp, ho => by
   rw [valP_eq t (d + 1) p (by omega), show 64 - (d + 1) = o by omega]
   refine rvalue_step t b p o _ _ w h hp hl (by omega) (fun g W hW hlt => ?_) (fun g W hW hlt => ?_)
   · exact rlist_any t b _ ((o : Int) + 1) W (valP t d) (fun W q hr hq => by
      have := rvalue_any t b hl d q (o + 1) W hr hq (by omega)
      push_cast at this
      exact this) (fun q v q1 e => valP_ge t d q v q1 e) (val_end t d) hW hlt (by omega)
   exact docobject_any t b _ ((o : Int) + 1) W (valP t d) (fun W q hr hq => by
    have := rvalue_any t b hl d q (o + 1) W hr hq (by omega)
    push_cast at this
    exact this) (fun q v q1 e => valP_ge t d q v q1 e) hW hlt (by omega)
set_option maxRecDepth 100000 in
set_option maxHeartbeats 8000000 in
theorem docparse_any {t : List UInt8} {vb : Value} {w : World} (hv : Rd w vb t) (hl : t.length ≤ 140737488351232) : Calls Tryz.prog 59 #[vb] w (ParJ w (parP t)) := by
 obtain ⟨a, cap, rfl, _⟩ := id hv
 obtain ⟨Wa, hWa, hba, hbx, hsz⟩ := zero_box w
 obtain ⟨R, hR⟩ : ∃ R, R = parP t := ⟨_, rfl⟩
 rw [← hR]
 by_cases hlen : 20000 < t.length
 · have hE : R = .err 3 := by rw [hR]; unfold parP; rw [if_pos hlen]
   subst hE
   have g1 : (20000 : Int) < (t.length : Int) := by omega
   have HA := Lib.hid (And.intro hba hbx)
   clear hR hba hbx hsz hlen hv
   go_enter Tryz.func59, Tryz.ntmps59
   go_upto_region 1 with fail
   rw [← hWa]
   clear hWa
   have hz := HA.out.2
   obtain ⟨b0, b1, b2, b3, b4⟩ := box5 hz
   have hfz := box_fr hz
   clear hz
   go_wp2_with fail
   refine bodyPost_any_world (fun W => W.heap[w.heap.size]? = some (.cells #[.int .i64 0, .int .i64 0, str [], .slice none 0 0, .slice none 0 0] 95 (0, 0)) ∧ Frm (fun i => i = w.heap.size) Wa W) (five_set HA.out.2 _ _ _ _ _) ?_
   clear b0 b1 b2 b3 b4 hfz
   rintro w9 ⟨h9, hf9⟩
   obtain ⟨k0, k1, k2, k3, k4⟩ := box5 h9
   refine bodyPost_ret (v := .tuple #[.agg #[.int .i64 0, .int .i64 0, str [], .slice none 0 0, .slice none 0 0], .int .i64 3]) (by simp [results, Tryz.results59, go_sem, k0, k1, k2, k3, k4]) rfl ?_
   exact ⟨rfl, by decide, ((Frm.of_below (F := fun i => i = w.heap.size) HA.out.1).trans hf9 (fun i hi e => e)).below (Nat.le_refl _) (fun i h => by omega)⟩
 have g1 : ¬ (20000 : Int) < (t.length : Int) := by omega
 have hconv := bt.toString (w := Wa) Tryz.underlying9 (hv.below hba (Nat.le_refl _))
 have HL : Hid (t.length ≤ 20000) := Lib.hid (by omega)
 have HR : Hid (R = match valP t 64 0 with
  | .err e => .err e
  | .ok v q => if skp t q < t.length then .err 4 else .ok v t.length) := Lib.hid (by rw [hR]; unfold parP; rw [if_neg hlen]; rfl)
 obtain ⟨V, hV⟩ : ∃ V, V = valP t 64 0 := ⟨_, rfl⟩
 rw [← hV] at HR
 have HV := Lib.hid hV
 have HA := Lib.hid (And.intro hba (And.intro hbx hsz))
 clear hR hV hba hbx hsz hlen hv
 go_enter Tryz.func59, Tryz.ntmps59
 go_upto_region 1 with fail
 rw [← hWa]
 clear hWa
 go_upto_region 4 with fail
 refine wp_any_world (fun W => JRb W Wa.heap.size t 0 0 ∧ Below Wa.heap.size Wa W) ⟨JRb.made Wa t 0 0 rfl rfl 135, below_alloc _ _⟩ ?_
 clear hconv
 rintro Wb ⟨hj, hbb⟩
 have HB : Hid (Below w.heap.size w Wb ∧ Wb.heap[w.heap.size]? = some (.cells #[.int .i64 0, .int .i64 0, str [], .slice none 0 0, .slice none 0 0] 95 (0, 0)) ∧ w.heap.size < Wa.heap.size ∧ Wa.heap.size < Wb.heap.size) := Lib.hid ⟨HA.out.1.trans (hbb.mono HA.out.1.size), box_up HA.out.2.1 hbb, by have := HA.out.2.2; omega, hj.lt⟩
 have CV := Lib.hid (rvalue_any t Wa.heap.size HL.out 64 0 0 Wb hj (Nat.zero_le _) rfl)
 obtain ⟨b, hb⟩ : ∃ b, b = Wa.heap.size := ⟨_, rfl⟩
 rw [← hb] at CV HB ⊢
 clear hj hbb hb HA
 go_wp2_with fail
 refine CV.out.mono ?_
 rintro e w1 ⟨v, cs, q, x, rfl, hv1, hs1, hq, hres⟩
 rw [← HV.out] at hres
 obtain ⟨al, ll, cl, am, lm, cm, rfl, _, _⟩ := hv1.open
 have hz1 := box_frm HB.out.2.1 hs1.2 (by have := HB.out; omega)
 have H1 := Lib.hid (And.intro hs1 (And.intro hz1 (And.intro hv1 (And.intro hq hres))))
 clear hs1 hz1 hv1 hq hres CV HV
 go_upto_region 5 with fail
 refine wp_any_world (fun W => Below w1.heap.size w1 W ∧ W.heap[w1.heap.size]? = some (.cells #[.int .i64 v.kind, .int .i64 v.n, str v.s, .slice al ll cl, .slice am lm cm] 95 (0, 0))) ⟨below_alloc _ _, heap_alloc_new _ _⟩ ?_
 rintro w2 ⟨hb2, hx2⟩
 have CB := Lib.hid (rskip_any t b q x w2 (H1.out.1.1.below hb2) H1.out.2.2.2.1 (by have := HL.out; omega))
 have H2 : Hid (JSt Wb b t q x w2 ∧ w2.heap[w.heap.size]? = some (.cells #[.int .i64 0, .int .i64 0, str [], .slice none 0 0, .slice none 0 0] 95 (0, 0)) ∧ w2.heap[w1.heap.size]? = some (.cells #[.int .i64 v.kind, .int .i64 v.n, str v.s, .slice al ll cl, .slice am lm cm] 95 (0, 0)) ∧ RdJ w2 (fun i => b < i ∧ i < w1.heap.size) v [.int .i64 v.kind, .int .i64 v.n, str v.s, .slice al ll cl, .slice am lm cm] ∧ b < w1.heap.size) := Lib.hid ⟨H1.out.1.below hb2, box_up H1.out.2.1 hb2, hx2, by
  have hbs := HB.out.2.2.2
  exact ((H1.out.2.2.1.mono (G := fun i => b < i ∧ i < w1.heap.size) (fun i hi hF => ⟨by have : Wb.heap.size ≤ i := hF; omega, hi⟩)).up hb2), by have := HB.out.2.2.2; have := H1.out.1.2.size; omega⟩
 have HQ := Lib.hid (And.intro H1.out.2.2.2.1 H1.out.2.2.2.2)
 clear hb2 hx2 H1
 go_wp2_with fail
 refine CB.out.mono ?_
 rintro e w3 ⟨rfl, hs3⟩
 have H3 : Hid (JSt Wb b t (skp t q) x w3 ∧ w3.heap[w.heap.size]? = some (.cells #[.int .i64 0, .int .i64 0, str [], .slice none 0 0, .slice none 0 0] 95 (0, 0)) ∧ w3.heap[w1.heap.size]? = some (.cells #[.int .i64 v.kind, .int .i64 v.n, str v.s, .slice al ll cl, .slice am lm cm] 95 (0, 0)) ∧ RdJ w3 (fun i => b < i ∧ i < w1.heap.size) v [.int .i64 v.kind, .int .i64 v.n, str v.s, .slice al ll cl, .slice am lm cm] ∧ b < w1.heap.size) :=
  Lib.hid ⟨H2.out.1.trans hs3, box_frm H2.out.2.1 hs3.2 (by have := HB.out; omega), box_frm H2.out.2.2.1 hs3.2 (by have := H2.out.2.2.2.2; omega), H2.out.2.2.2.1.frm hs3.2 (fun i hi e => by omega), H2.out.2.2.2.2⟩
 clear hs3 CB H2
 obtain ⟨z, hz⟩ : ∃ z, z = skp t q := ⟨_, rfl⟩
 rw [← hz] at H3
 have HZ := Lib.hid hz
 have hzl : z ≤ t.length := by rw [hz]; exact skp_le t HQ.out.1
 clear hz
 have c0 := H3.out.1.1.c0
 have c1 := H3.out.1.1.c1
 have c2 := H3.out.1.1.c2
 have z0 : (0 : Int) ≤ (z : Int) := by omega
 by_cases hx : x = 0
 · subst hx
   have e0 : (((0 : Nat) : Int) == 0) = true := rfl
   by_cases hzt : z < t.length
   · have g2 : (z : Int) < (t.length : Int) := by omega
     have HE : Hid (R = .err 4) := Lib.hid (by
      rw [HR.out]
      have h := HQ.out.2
      cases V with
      | err c => exact absurd h.1.symm h.2
      | ok v0 q0 =>
       obtain ⟨rfl, rfl, _⟩ := h
       dsimp only
       rw [← HZ.out, if_pos hzt])
     clear hzt
     go_wp2_with fail
     go_quiet (fail)
     go_wp2_with fail
     refine (rfail_first 4 (H3.out.1.drewN _).1).mono ?_
     rintro e w4 ⟨rfl, hs4⟩
     have H4 : Hid (JSt Wb b t z 4 w4 ∧ w4.heap[w.heap.size]? = some (.cells #[.int .i64 0, .int .i64 0, str [], .slice none 0 0, .slice none 0 0] 95 (0, 0))) := Lib.hid ⟨(H3.out.1.drewN _).trans hs4, box_frm (box_up H3.out.2.1 (Below.drewsN (Below.refl _ _) _)) hs4.2 (by have := HB.out; omega)⟩
     have HY : Hid (4 ≠ 0 ∧ R = .err 4) := Lib.hid ⟨by decide, HE.out⟩
     clear c0 c1 c2 hs4 H3
     have c2 := H4.out.1.1.c2
     have e1 : (((4 : Nat) : Int) != 0) = true := rfl
     go_upto_region 9 with fail
     obtain ⟨wc, hwc⟩ : ∃ x, x = w4.drew := ⟨_, rfl⟩
     have H5 : Hid (JSt Wb b t z 4 wc ∧ wc.heap[w.heap.size]? = some (.cells #[.int .i64 0, .int .i64 0, str [], .slice none 0 0, .slice none 0 0] 95 (0, 0))) := Lib.hid (by rw [hwc]; exact ⟨H4.out.1.drewN 1, box_up H4.out.2 (Below.drewsN (Below.refl _ _) 1)⟩)
     refine wp_region_held_drew (S := (fun W => W.cell? ⟨b, 2, none⟩ = some (.int .i64 ((4 : Nat) : Int)))) (by kernel_rfl) (by rw [← hwc]; exact H5.out.1.1.c2) (fun hHeld => ?_)
     rw [← hwc] at hHeld ⊢
     clear hwc c2
     have hz := H5.out.2
     obtain ⟨b0, b1, b2, b3, b4⟩ := box5 hz
     have hfz := box_fr hz
     clear hz
     refine wtk 0 rfl ?_; go_simp
     refine wtk 1 rfl ?_; go_simp
     refine wtk 2 rfl ?_; go_simp
     refine wtk 3 rfl ?_; go_simp
     refine wtl 4 rfl (by intro w hSw; have hs0 := hSw; go_simp; try with_reducible rfl) ?_; go_simp
     refine wrd 5 rfl fun K hK => ?_
     go_simp
     have HF5 := five_set H5.out.2 (.int .i64 0) (.int .i64 0) (str []) (.slice none 0 0) (.slice none 0 0)
     generalize (((((wc.setCell ⟨w.heap.size, 0, none⟩ (.int .i64 0)).setCell ⟨w.heap.size, 1, none⟩ (.int .i64 0)).setCell ⟨w.heap.size, 2, none⟩ (str [])).setCell ⟨w.heap.size, 3, none⟩ (.slice none 0 0)).setCell ⟨w.heap.size, 4, none⟩ (.slice none 0 0)) = wg at HF5 ⊢
     obtain ⟨h9, hf9⟩ := HF5
     have H9 := Lib.hid (And.intro h9 hf9)
     clear h9 hf9 b0 b1 b2 b3 b4 hfz
     refine hK.out _ _ (by have h := cell_frm H9.out.2 (b := b) (off := 2) (by have := HB.out; omega) H5.out.1.1.c2; exact h) (fun hHeld => ?_)
     clear hK K
     refine wtk 6 rfl ?_; go_simp
     refine wpAnyH_done (by kernel_rfl) ?_ _
     obtain ⟨h9, hf9⟩ := H9.out
     obtain ⟨k0, k1, k2, k3, k4⟩ := box5 h9
     have HX9 := Lib.hid hf9
     clear h9 hf9
     go_wp2_with fail
     refine bodyPost_ret (v := .tuple #[.agg #[.int .i64 0, .int .i64 0, str [], .slice none 0 0, .slice none 0 0], .int .i64 ((4 : Nat) : Int)]) (by simp [results, Tryz.results59, go_sem, k0, k1, k2, k3, k4]) rfl ?_
     rw [HY.out.2]
     exact ⟨rfl, HY.out.1, ((Frm.of_below (F := fun i => i = b ∨ i = w.heap.size) HB.out.1).trans ((H5.out.1.2.mono (G := fun i => i = b ∨ i = w.heap.size) (fun _ _ h => .inl h)).trans HX9.out (fun _ _ e => .inr e)) (fun _ _ e => e)).below (Nat.le_refl _) (fun i h => by have := HB.out; omega)⟩
   obtain rfl : z = t.length := by omega
   have g2 : ¬ (t.length : Int) < (t.length : Int) := by omega
   have g3 : decide ((t.length : Int) < (t.length : Int)) = false := decide_eq_false (by omega)
   have e1 : (((0 : Nat) : Int) != 0) = false := rfl
   have HE : Hid (R = .ok v t.length) := Lib.hid (by
    rw [HR.out]
    have h := HQ.out.2
    cases V with
    | err c => exact absurd h.1.symm h.2
    | ok v0 q0 =>
     obtain ⟨rfl, rfl, _⟩ := h
     dsimp only
     rw [← HZ.out, if_neg hzt])
   clear hzt hzl
   go_wp2_with fail
   go_quiet (fail)
   have H4 : Hid (JSt Wb b t t.length 0 (w3.drewN nq) ∧ (w3.drewN nq).heap[w.heap.size]? = some (.cells #[.int .i64 0, .int .i64 0, str [], .slice none 0 0, .slice none 0 0] 95 (0, 0)) ∧ (w3.drewN nq).heap[w1.heap.size]? = some (.cells #[.int .i64 v.kind, .int .i64 v.n, str v.s, .slice al ll cl, .slice am lm cm] 95 (0, 0)) ∧ RdJ (w3.drewN nq) (fun i => b < i ∧ i < w1.heap.size) v [.int .i64 v.kind, .int .i64 v.n, str v.s, .slice al ll cl, .slice am lm cm]) :=
    Lib.hid ⟨H3.out.1.drewN _, box_up H3.out.2.1 (Below.drewsN (Below.refl _ _) _), box_up H3.out.2.2.1 (Below.drewsN (Below.refl _ _) _), H3.out.2.2.2.1.up (Below.drewsN (Below.refl _ _) _)⟩
   generalize w3.drewN nq = w4 at *
   clear c0 c1 c2
   have c2 := H4.out.1.1.c2
   have hx4 := H4.out.2.2.1
   obtain ⟨x0, x1, x2, x3, x4⟩ := box5 hx4
   have hz := H4.out.2.1
   obtain ⟨b0, b1, b2, b3, b4⟩ := box5 hz
   have hfz := box_fr hz
   clear hz hx4
   go_wp2_with fail
   refine bodyPost_any_world (fun W => W.heap[w.heap.size]? = some (.cells #[.int .i64 v.kind, .int .i64 v.n, str v.s, .slice al ll cl, .slice am lm cm] 95 (0, 0)) ∧ Frm (fun i => i = w.heap.size) w4 W) (five_set H4.out.2.1 _ _ _ _ _) ?_
   clear b0 b1 b2 b3 b4 hfz
   rintro w9 ⟨h9, hf9⟩
   obtain ⟨k0, k1, k2, k3, k4⟩ := box5 h9
   refine bodyPost_ret (v := .tuple #[.agg #[.int .i64 v.kind, .int .i64 v.n, str v.s, .slice al ll cl, .slice am lm cm], .int .i64 0]) (by simp [results, Tryz.results59, go_sem, k0, k1, k2, k3, k4]) rfl ?_
   rw [HE.out]
   exact ⟨_, rfl, (H4.out.2.2.2.frm hf9 (fun i hi e => by have := HB.out; omega)).mono (fun i _ hi => by have := HB.out; omega), ((Frm.of_below (F := fun i => i = b ∨ i = w.heap.size) HB.out.1).trans ((H4.out.1.2.mono (G := fun i => i = b ∨ i = w.heap.size) (fun _ _ h => .inl h)).trans hf9 (fun _ _ e => .inr e)) (fun _ _ e => e)).below (Nat.le_refl _) (fun i h => by have := HB.out; omega)⟩
 have e0 : ((x : Int) == 0) = false := by rw [beq_eq_false_iff_ne]; omega
 have e1 : ((x : Int) != 0) = true := by rw [bne_iff_ne]; omega
 have HY : Hid (x ≠ 0 ∧ R = .err x) := Lib.hid ⟨hx, by
  rw [HR.out]
  have h := HQ.out.2
  cases V with
  | err c => rw [h.1]
  | ok v0 q0 => exact absurd h.2.2 hx⟩
 clear hx
 go_wp2_with fail
 go_quiet (fail)
 have H4 : Hid (JSt Wb b t z x (w3.drewN nq) ∧ (w3.drewN nq).heap[w.heap.size]? = some (.cells #[.int .i64 0, .int .i64 0, str [], .slice none 0 0, .slice none 0 0] 95 (0, 0))) := Lib.hid ⟨H3.out.1.drewN _, box_up H3.out.2.1 (Below.drewsN (Below.refl _ _) _)⟩
 generalize w3.drewN nq = w4 at *
 clear c0 c1 c2 H3
 have c2 := H4.out.1.1.c2
 go_upto_region 9 with fail
 obtain ⟨wc, hwc⟩ : ∃ x, x = w4.drew := ⟨_, rfl⟩
 have H5 : Hid (JSt Wb b t z x wc ∧ wc.heap[w.heap.size]? = some (.cells #[.int .i64 0, .int .i64 0, str [], .slice none 0 0, .slice none 0 0] 95 (0, 0))) := Lib.hid (by rw [hwc]; exact ⟨H4.out.1.drewN 1, box_up H4.out.2 (Below.drewsN (Below.refl _ _) 1)⟩)
 refine wp_region_held_drew (S := (fun W => W.cell? ⟨b, 2, none⟩ = some (.int .i64 ((x : Nat) : Int)))) (by kernel_rfl) (by rw [← hwc]; exact H5.out.1.1.c2) (fun hHeld => ?_)
 rw [← hwc] at hHeld ⊢
 clear hwc c2
 have hz := H5.out.2
 obtain ⟨b0, b1, b2, b3, b4⟩ := box5 hz
 have hfz := box_fr hz
 clear hz
 refine wtk 0 rfl ?_; go_simp
 refine wtk 1 rfl ?_; go_simp
 refine wtk 2 rfl ?_; go_simp
 refine wtk 3 rfl ?_; go_simp
 refine wtl 4 rfl (by intro w hSw; have hs0 := hSw; go_simp; try with_reducible rfl) ?_; go_simp
 refine wrd 5 rfl fun K hK => ?_
 go_simp
 have HF5 := five_set H5.out.2 (.int .i64 0) (.int .i64 0) (str []) (.slice none 0 0) (.slice none 0 0)
 generalize (((((wc.setCell ⟨w.heap.size, 0, none⟩ (.int .i64 0)).setCell ⟨w.heap.size, 1, none⟩ (.int .i64 0)).setCell ⟨w.heap.size, 2, none⟩ (str [])).setCell ⟨w.heap.size, 3, none⟩ (.slice none 0 0)).setCell ⟨w.heap.size, 4, none⟩ (.slice none 0 0)) = wg at HF5 ⊢
 obtain ⟨h9, hf9⟩ := HF5
 have H9 := Lib.hid (And.intro h9 hf9)
 clear h9 hf9 b0 b1 b2 b3 b4 hfz
 refine hK.out _ _ (by have h := cell_frm H9.out.2 (b := b) (off := 2) (by have := HB.out; omega) H5.out.1.1.c2; exact h) (fun hHeld => ?_)
 clear hK K
 refine wtk 6 rfl ?_; go_simp
 refine wpAnyH_done (by kernel_rfl) ?_ _
 obtain ⟨h9, hf9⟩ := H9.out
 obtain ⟨k0, k1, k2, k3, k4⟩ := box5 h9
 have HX9 := Lib.hid hf9
 clear h9 hf9
 go_wp2_with fail
 refine bodyPost_ret (v := .tuple #[.agg #[.int .i64 0, .int .i64 0, str [], .slice none 0 0, .slice none 0 0], .int .i64 ((x : Nat) : Int)]) (by simp [results, Tryz.results59, go_sem, k0, k1, k2, k3, k4]) rfl ?_
 rw [HY.out.2]
 exact ⟨rfl, HY.out.1, ((Frm.of_below (F := fun i => i = b ∨ i = w.heap.size) HB.out.1).trans ((H5.out.1.2.mono (G := fun i => i = b ∨ i = w.heap.size) (fun _ _ h => .inl h)).trans HX9.out (fun _ _ e => .inr e)) (fun _ _ e => e)).below (Nat.le_refl _) (fun i h => by have := HB.out; omega)⟩
set_option maxRecDepth 100000 in
set_option maxHeartbeats 8000000 in
theorem rmember_any (v : JV) (nm : List UInt8) (F : Nat → Prop) (w : World) (cs : List Value) (h : RdJ w F v cs) :
 Calls Tryz.prog 60 #[.agg cs.toArray, str nm] w fun e w' => ∃ cs', e = .returned (.tuple #[.agg cs'.toArray, .bool (getJ v nm).isSome]) ∧ RdJ w' F ((getJ v nm).getD (.mk 0 0 [] [] [])) cs' ∧ Below w.heap.size w w' := by
 obtain ⟨al, ll, cl, am, lm, cm, rfl, _, ⟨rm, hrm, hmm, rfl⟩⟩ := h.open
 have HL := Lib.hid (And.intro hrm hmm)
 have g1 : v.m.length ≤ 9223372036854775807 := (hrm.lens).2.1
 obtain ⟨W0, hW0⟩ : ∃ W0, W0 = (w.alloc (.cells #[.int .i64 v.kind, .int .i64 v.n, str v.s, .slice al ll cl, .slice am v.m.length cm] 95)).alloc (.cells #[.int .i64 0, .int .i64 0, .string ⟨#[]⟩, .slice none 0 0, .slice none 0 0] 95) := ⟨_, rfl⟩
 have H0 : Hid (Below w.heap.size w W0 ∧ W0.heap[w.heap.size]? = some (.cells #[.int .i64 v.kind, .int .i64 v.n, str v.s, .slice al ll cl, .slice am v.m.length cm] 95 (0, 0)) ∧ W0.heap[w.heap.size + 1]? = some (.cells #[.int .i64 0, .int .i64 0, str [], .slice none 0 0, .slice none 0 0] 95 (0, 0)) ∧ w.heap.size + 2 ≤ W0.heap.size) := Lib.hid (by
  have hb : Below w.heap.size w W0 := by rw [hW0]; exact ((Below.refl _ _).alloc (Nat.le_refl _) _).alloc (by simp) _
  refine ⟨hb, ?_, ?_, by rw [hW0]; simp⟩
  · rw [hW0]; exact box_up (heap_alloc_new w _) (below_alloc _ _)
  rw [hW0]
  have := heap_alloc_new (w.alloc (.cells #[.int .i64 v.kind, .int .i64 v.n, str v.s, .slice al ll cl, .slice am v.m.length cm] 95)) (.cells #[.int .i64 0, .int .i64 0, .string ⟨#[]⟩, .slice none 0 0, .slice none 0 0] 95)
  simpa using this)
 obtain ⟨R, hR⟩ : ∃ R, R = getJ v nm := ⟨_, rfl⟩
 rw [← hR]
 have p0 := box_cell H0.out.2.1 0
 have p4 := box_cell H0.out.2.1 4
 obtain ⟨d0, d1, d2, d3, d4⟩ := box5 H0.out.2.2.1
 have df := box_fr H0.out.2.2.1
 clear h hrm hmm
 by_cases h7 : v.kind = 7
 · have t1 : (v.kind == 7) = true := by rw [h7]; rfl
   have HR : Hid (R = fndM v.m nm) := Lib.hid (by rw [hR]; unfold getJ; rw [if_pos h7])
   clear hR h7
   go_enter Tryz.func60, Tryz.ntmps60
   go_upto_region 1 with fail
   rw [← hW0]
   clear hW0
   go_wp2_with fail
   go_loopw [6] (fun v6 wr => ∃ k : Nat, k ≤ v.m.length ∧ v6 = .int .i64 (k : Int) ∧ Hid (R = fndM (v.m.drop k) nm) ∧ wr = W0) (fun v6 _ => v.m.length - (intOf v6).toNat)
   case atStart => exact ⟨0, Nat.zero_le _, rfl, Lib.hid (by rw [List.drop_zero]; exact HR.out), rfl⟩
   case round =>
    obtain ⟨k, hk, rfl, HK, rfl⟩ := hrel
    by_cases hlt : k < v.m.length
    · have n1 : (k : Int) < (v.m.length : Int) := by omega
      have n3 : (0 : Int) ≤ (k : Int) := by omega
      have n4 : decide ((k : Int) < (v.m.length : Int)) = true := decide_eq_true n1
      have n5 : decide (k < v.m.length) = true := decide_eq_true hlt
      obtain ⟨b, off, a, n, c, a', n', c', rfl, _, hbw, hx, c0, c1, c2, c3, c4, c5⟩ := RdJ.memb HL.out.1 HL.out.2 hlt
      have hst := HK.out
      rw [fndM_at hlt] at hst
      obtain ⟨x, hxx⟩ : ∃ x, x = v.m[k].2 := ⟨_, rfl⟩
      obtain ⟨nk, hnm⟩ : ∃ nk, nk = v.m[k].1 := ⟨_, rfl⟩
      rw [← hxx] at hx c1 c2 c3 hst
      rw [← hnm] at c0 hst
      clear hxx hnm
      have e0 := (H0.out.1.cell (p := ⟨b, off + k * 6, none⟩) hbw).trans c0
      have e1 := (H0.out.1.cell (p := ⟨b, off + k * 6 + 1, none⟩) hbw).trans c1
      have e2 := (H0.out.1.cell (p := ⟨b, off + k * 6 + 2, none⟩) hbw).trans c2
      have e3 := (H0.out.1.cell (p := ⟨b, off + k * 6 + 3, none⟩) hbw).trans c3
      have e4 := (H0.out.1.cell (p := ⟨b, off + k * 6 + 4, none⟩) hbw).trans c4
      have e5 := (H0.out.1.cell (p := ⟨b, off + k * 6 + 5, none⟩) hbw).trans c5
      have HX := Lib.hid ((hx.mono (G := fun i => F i ∧ i < w.heap.size) (fun i hi hF => ⟨hF, hi⟩)).up H0.out.1)
      clear hx c0 c1 c2 c3 c4 c5 hbw HK
      cases hB : (nk == nm) with
      | true =>
       rw [hB, if_pos rfl] at hst
       have HE := Lib.hid hst
       clear hst
       go_wp2_with fail
       refine bodyPost_any_world (fun X => X.heap[w.heap.size + 1]? = some (.cells #[.int .i64 x.kind, .int .i64 x.n, str x.s, .slice a n c, .slice a' n' c'] 95 (0, 0)) ∧ Frm (fun i => i = w.heap.size + 1) wr X) (five_set H0.out.2.2.1 _ _ _ _ _) ?_
       clear d0 d1 d2 d3 d4 df p0 p4 e0 e1 e2 e3 e4 e5
       rintro w9 ⟨h9, hf9⟩
       obtain ⟨k0, k1, k2, k3, k4⟩ := box5 h9
       refine bodyPost_ret (v := .tuple #[.agg #[.int .i64 x.kind, .int .i64 x.n, str x.s, .slice a n c, .slice a' n' c'], .bool true]) (by simp [results, Tryz.results60, go_sem, k0, k1, k2, k3, k4]) rfl ?_
       rw [HE.out]
       exact ⟨_, rfl, (HX.out.frm hf9 (fun i hi e => by omega)).mono (fun i _ hi => hi.1), H0.out.1.trans (hf9.below H0.out.1.size (fun k hk => by omega))⟩
      | false =>
       rw [hB, if_neg (by simp)] at hst
       have HE := Lib.hid hst
       clear hst
       go_wp2_with fail
       go_roundw
       case rel => exact ⟨k + 1, by omega, by go_num, HE, by first | rfl | trivial⟩
       case measure => simp [intOf]; omega
    obtain rfl : k = v.m.length := by omega
    have n2 : ¬ (v.m.length : Int) < (v.m.length : Int) := by omega
    have n4 : decide ((v.m.length : Int) < (v.m.length : Int)) = false := decide_eq_false n2
    have n5 : decide (v.m.length < v.m.length) = false := decide_eq_false (by omega)
    have HE : Hid (R = none) := Lib.hid (by rw [HK.out, List.drop_length]; rfl)
    go_wp2_with fail
    refine bodyPost_any_world (fun X => X.heap[w.heap.size + 1]? = some (.cells #[.int .i64 0, .int .i64 0, str [], .slice none 0 0, .slice none 0 0] 95 (0, 0)) ∧ Frm (fun i => i = w.heap.size + 1) wr X) (five_set H0.out.2.2.1 _ _ _ _ _) ?_
    clear d0 d1 d2 d3 d4 df p0 p4
    rintro w9 ⟨h9, hf9⟩
    obtain ⟨k0, k1, k2, k3, k4⟩ := box5 h9
    refine bodyPost_ret (v := .tuple #[.agg #[.int .i64 0, .int .i64 0, str [], .slice none 0 0, .slice none 0 0], .bool false]) (by simp [results, Tryz.results60, go_sem, k0, k1, k2, k3, k4]) rfl ?_
    rw [HE.out]
    exact ⟨[.int .i64 0, .int .i64 0, str [], .slice none 0 0, .slice none 0 0], rfl, RdJ.mk' (v := .mk 0 0 [] [] []) (RdFB.nil _ _ _) (by unfold RdL; trivial) (RdFB.nil _ _ _) (by unfold RdM; trivial), H0.out.1.trans (hf9.below H0.out.1.size (fun k hk => by omega))⟩
 have t1 : (v.kind == 7) = false := by rw [beq_eq_false_iff_ne]; exact h7
 have HE : Hid (R = none) := Lib.hid (by rw [hR]; unfold getJ; rw [if_neg h7])
 clear hR h7
 go_enter Tryz.func60, Tryz.ntmps60
 go_upto_region 1 with fail
 rw [← hW0]
 clear hW0
 go_wp2_with fail
 go_loopw [6] (fun v6 wr => v6 = .int .i64 0 ∧ wr = W0) (fun v6 _ => 0)
 case atStart => exact ⟨rfl, rfl⟩
 case round =>
  obtain ⟨rfl, rfl⟩ := hrel
  by_cases hlt : 0 < v.m.length
  · have n1 : (0 : Int) < (v.m.length : Int) := by omega
    have n4 : decide ((0 : Int) < (v.m.length : Int)) = true := decide_eq_true n1
    have n5 : decide (0 < v.m.length) = true := decide_eq_true hlt
    go_wp2_with fail
    refine bodyPost_any_world (fun X => X.heap[w.heap.size + 1]? = some (.cells #[.int .i64 0, .int .i64 0, str [], .slice none 0 0, .slice none 0 0] 95 (0, 0)) ∧ Frm (fun i => i = w.heap.size + 1) wr X) (five_set H0.out.2.2.1 _ _ _ _ _) ?_
    clear d0 d1 d2 d3 d4 df p0 p4
    rintro w9 ⟨h9, hf9⟩
    obtain ⟨k0, k1, k2, k3, k4⟩ := box5 h9
    refine bodyPost_ret (v := .tuple #[.agg #[.int .i64 0, .int .i64 0, str [], .slice none 0 0, .slice none 0 0], .bool false]) (by simp [results, Tryz.results60, go_sem, k0, k1, k2, k3, k4]) rfl ?_
    rw [HE.out]
    exact ⟨[.int .i64 0, .int .i64 0, str [], .slice none 0 0, .slice none 0 0], rfl, RdJ.mk' (v := .mk 0 0 [] [] []) (RdFB.nil _ _ _) (by unfold RdL; trivial) (RdFB.nil _ _ _) (by unfold RdM; trivial), H0.out.1.trans (hf9.below H0.out.1.size (fun k hk => by omega))⟩
  have n1 : ¬ (0 : Int) < (v.m.length : Int) := by omega
  have n4 : decide ((0 : Int) < (v.m.length : Int)) = false := decide_eq_false n1
  have n5 : decide (0 < v.m.length) = false := decide_eq_false hlt
  go_wp2_with fail
  refine bodyPost_any_world (fun X => X.heap[w.heap.size + 1]? = some (.cells #[.int .i64 0, .int .i64 0, str [], .slice none 0 0, .slice none 0 0] 95 (0, 0)) ∧ Frm (fun i => i = w.heap.size + 1) wr X) (five_set H0.out.2.2.1 _ _ _ _ _) ?_
  clear d0 d1 d2 d3 d4 df p0 p4
  rintro w9 ⟨h9, hf9⟩
  obtain ⟨k0, k1, k2, k3, k4⟩ := box5 h9
  refine bodyPost_ret (v := .tuple #[.agg #[.int .i64 0, .int .i64 0, str [], .slice none 0 0, .slice none 0 0], .bool false]) (by simp [results, Tryz.results60, go_sem, k0, k1, k2, k3, k4]) rfl ?_
  rw [HE.out]
  exact ⟨[.int .i64 0, .int .i64 0, str [], .slice none 0 0, .slice none 0 0], rfl, RdJ.mk' (v := .mk 0 0 [] [] []) (RdFB.nil _ _ _) (by unfold RdL; trivial) (RdFB.nil _ _ _) (by unfold RdM; trivial), H0.out.1.trans (hf9.below H0.out.1.size (fun k hk => by omega))⟩
theorem memD_getD (v : JV) (nm : List UInt8) : (getJ v nm).getD (.mk 0 0 [] [] []) = memD v nm := by
 unfold memD
 cases getJ v nm <;> rfl
theorem memD_s (v : JV) (nm : List UInt8) : (memD v nm).s = wrdO v nm := by
 unfold memD wrdO
 cases getJ v nm <;> rfl
theorem memD_n (v : JV) (nm : List UInt8) : (memD v nm).n = nbrO v nm := by
 unfold memD nbrO
 cases getJ v nm <;> rfl
set_option maxRecDepth 100000 in
set_option maxHeartbeats 8000000 in
theorem part_any (s nm : List UInt8) (w : World) (hl : s.length ≤ 1000000) :
 Calls Tryz.prog 42 #[str s, str nm] w fun e w' => ∃ cs, e = .returned (.agg cs.toArray) ∧ RdJ w' (fun _ => True) (memD (valOf s) nm) cs ∧ Below w.heap.size w w' := by
 obtain ⟨W1, hW1⟩ : ∃ W1, W1 = w.alloc (.cells #[.int .i64 0, .int .i64 0, .string ⟨#[]⟩, .slice none 0 0, .slice none 0 0] 95) := ⟨_, rfl⟩
 have hb1 : Below w.heap.size w W1 := by rw [hW1]; exact below_alloc _ _
 have hbx : W1.heap[w.heap.size]? = some (.cells #[.int .i64 0, .int .i64 0, str [], .slice none 0 0, .slice none 0 0] 95 (0, 0)) := by rw [hW1]; exact heap_alloc_new _ _
 obtain ⟨cap, w2, hconv, hrd, hb2⟩ := bytes_run s W1 hl
 have CP := Lib.hid (docparse_any hrd (by omega))
 have H2 := Lib.hid (And.intro (hb1.trans (hb2.mono hb1.size)) (And.intro (box_up hbx hb2) hb1.size))
 have HS2 : Hid (w.heap.size < w2.heap.size) := Lib.hid (Array.getElem?_eq_some_iff.1 H2.out.2.1).1
 clear hb1 hbx hrd hb2
 go_enter Tryz.func42, Tryz.ntmps42
 go_upto_region 1 with fail
 rw [← hW1]
 clear hW1
 go_wp2_with fail
 cases hp : parP s with
 | err c =>
  have HV : Hid (memD (valOf s) nm = .mk 0 0 [] [] []) := Lib.hid (by unfold valOf; rw [hp]; rfl)
  rw [hp] at CP
  clear hp
  refine CP.out.mono ?_
  rintro e w3 ⟨rfl, hc0, hb3⟩
  have t1 : (((c : Nat) : Int) == 0) = false := by rw [beq_eq_false_iff_ne]; omega
  have hz := box_up H2.out.2.1 hb3
  have H3 := Lib.hid (And.intro (H2.out.1.trans (hb3.mono H2.out.1.size)) hz)
  clear hb3 hz hc0 CP H2 hconv
  go_upto_region 2 with fail
  refine wp_any_world (fun W => Below w3.heap.size w3 W) (below_alloc _ _) ?_
  intro w4 hb4
  have H4 := Lib.hid (And.intro (H3.out.1.trans (hb4.mono H3.out.1.size)) (box_up H3.out.2 hb4))
  clear hb4 H3
  have hz := H4.out.2
  obtain ⟨d0, d1, d2, d3, d4⟩ := box5 hz
  have df := box_fr hz
  clear hz
  go_wp2_with fail
  refine bodyPost_any_world (fun X => X.heap[w.heap.size]? = some (.cells #[.int .i64 0, .int .i64 0, str [], .slice none 0 0, .slice none 0 0] 95 (0, 0)) ∧ Frm (fun i => i = w.heap.size) (w4) X) (five_set H4.out.2 _ _ _ _ _) ?_
  clear d0 d1 d2 d3 d4 df
  rintro w9 ⟨h9, hf9⟩
  obtain ⟨k0, k1, k2, k3, k4⟩ := box5 h9
  refine bodyPost_ret (v := .agg #[.int .i64 0, .int .i64 0, str [], .slice none 0 0, .slice none 0 0]) (by simp [results, Tryz.results42, go_sem, k0, k1, k2, k3, k4]) rfl ?_
  exact ⟨[.int .i64 0, .int .i64 0, str [], .slice none 0 0, .slice none 0 0], rfl, by rw [HV.out]; exact plainJ _ _ 0 0 [], H4.out.1.trans (hf9.below H4.out.1.size (fun k hk => by omega))⟩
 | ok v q =>
  have HV : Hid (valOf s = v) := Lib.hid (by unfold valOf; rw [hp])
  have HZ := Lib.hid (valOf_sz s)
  rw [hp] at CP
  clear hp
  refine CP.out.mono ?_
  rintro e w3 ⟨cs, rfl, hv, hb3⟩
  obtain ⟨a1, n1, c1, a2, n2, c2, rfl, _, _⟩ := hv.open
  have H3 := Lib.hid (And.intro (H2.out.1.trans (hb3.mono H2.out.1.size)) (And.intro (box_up H2.out.2.1 hb3) hv))
  clear hv hb3 CP H2 hconv
  go_upto_region 2 with fail
  refine wp_any_world (fun W => Below w3.heap.size w3 W ∧ W.heap[w3.heap.size]? = some (.cells #[.int .i64 v.kind, .int .i64 v.n, str v.s, .slice a1 n1 c1, .slice a2 n2 c2] 95 (0, 0))) ⟨below_alloc _ _, heap_alloc_new _ _⟩ ?_
  rintro w4 ⟨hb4, hx4⟩
  obtain ⟨x, hx⟩ : ∃ x, x = memD (valOf s) nm := ⟨_, rfl⟩
  have CM := rmember_any v nm _ w4 _ (H3.out.2.2.up hb4)
  rw [memD_getD, ← HV.out, ← hx] at CM
  rw [HV.out] at CM
  have HX := Lib.hid hx
  have CM := Lib.hid CM
  have H4 := Lib.hid (And.intro (H3.out.1.trans (hb4.mono H3.out.1.size)) (box_up H3.out.2.1 hb4))
  obtain ⟨p0_, p1_, p2_, p3_, p4_⟩ := box5 hx4
  clear hb4 hx4 hx H3
  go_wp2_with fail
  refine CM.out.mono ?_
  rintro e w5 ⟨cs, rfl, hm, hb5⟩
  obtain ⟨e1, p1, z1_, e2, p2, z2_, rfl, _, _⟩ := hm.open
  have H5 := Lib.hid (And.intro (H4.out.1.trans (hb5.mono H4.out.1.size)) (And.intro (box_up H4.out.2 hb5) hm))
  clear hb5 hm CM H4 p0_ p1_ p2_ p3_ p4_
  go_upto_region 5 with fail
  refine wp_any_world (fun W => Below w5.heap.size w5 W ∧ W.heap[w5.heap.size]? = some (.cells #[.int .i64 x.kind, .int .i64 x.n, str x.s, .slice e1 p1 z1_, .slice e2 p2 z2_] 95 (0, 0))) ⟨below_alloc _ _, heap_alloc_new _ _⟩ ?_
  rintro w6 ⟨hb6, hx6⟩
  have H6 := Lib.hid (And.intro (H5.out.1.trans (hb6.mono H5.out.1.size)) (And.intro (box_up H5.out.2.1 hb6) (H5.out.2.2.up hb6)))
  obtain ⟨q0_, q1_, q2_, q3_, q4_⟩ := box5 hx6
  clear hb6 hx6 H5
  have hz := H6.out.2.1
  obtain ⟨d0, d1, d2, d3, d4⟩ := box5 hz
  have df := box_fr hz
  clear hz
  go_wp2_with fail
  refine bodyPost_any_world (fun X => X.heap[w.heap.size]? = some (.cells #[.int .i64 x.kind, .int .i64 x.n, str x.s, .slice e1 p1 z1_, .slice e2 p2 z2_] 95 (0, 0)) ∧ Frm (fun i => i = w.heap.size) (w6) X) (five_set H6.out.2.1 _ _ _ _ _) ?_
  clear d0 d1 d2 d3 d4 df
  rintro w9 ⟨h9, hf9⟩
  obtain ⟨k0, k1, k2, k3, k4⟩ := box5 h9
  refine bodyPost_ret (v := .agg #[.int .i64 x.kind, .int .i64 x.n, str x.s, .slice e1 p1 z1_, .slice e2 p2 z2_]) (by simp [results, Tryz.results42, go_sem, k0, k1, k2, k3, k4]) rfl ?_
  exact ⟨[.int .i64 x.kind, .int .i64 x.n, str x.s, .slice e1 p1 z1_, .slice e2 p2 z2_], rfl, by rw [← HX.out]; exact (H6.out.2.2.frm hf9 (fun i hi e => by have := HS2.out; omega)).mono (fun _ _ _ => trivial), H6.out.1.trans (hf9.below H6.out.1.size (fun k hk => by omega))⟩
end Go.Proofs.YtegblhmcfemfgaaGreatDoor
