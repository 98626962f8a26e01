import Derived.Test.YtegblhmcfemfgaaGreatDoorWTake
import Derived.Test.YtegblhmcfemfgaaGreatDoorJValP
set_option maxRecDepth 100000
set_option maxHeartbeats 2000000
namespace Go.Proofs.YtegblhmcfemfgaaGreatDoor
open Go.RowKit
theorem plainJ (W : World) (F : Nat → Prop) (k n : Int) (s : List UInt8) : RdJ W F (.mk k n s [] []) [.int .i64 k, .int .i64 n, str s, .slice none 0 0, .slice none 0 0] := by
 unfold RdJ
 exact ⟨_, _, rfl, ⟨[], RdFB.nil _ _ _, by unfold RdL; trivial⟩, [], RdFB.nil _ _ _, by unfold RdM; trivial⟩
def wrdV (t w : List UInt8) (k : Int) (n p : Nat) : JR JV := if wrdP t w p = 0 then .ok (.mk k 0 [] [] []) (p + n) else .err (wrdP t w p)
theorem ofNat_self' (c : UInt8) : UInt8.ofNat c.toNat = c := by rw [← UInt8.toNat_inj, UInt8.toNat_ofNat']; have := c.toNat_lt; omega
theorem stB_dg {c : UInt8} (h : dgJ c = true) : stB c = true := by
 have h2 : ∀ k : Fin 256, dgJ (UInt8.ofNat k.val) = true → stB (UInt8.ofNat k.val) = true := by decide +kernel
 have := h2 ⟨c.toNat, c.toNat_lt⟩
 simp only [ofNat_self'] at this
 exact this h
theorem valJ_pass {t : List UInt8} {w w1 w2 : World} {b o q0 : Nat} {r : JR JV} {e : Ending} (h : ValJ t w1 b o r e w2) (h1 : JSt w b t q0 o w1) (hz : w.heap.size < w1.heap.size) (hb : b < w.heap.size) :
 ∃ (k n : Int) (s : List UInt8) (al : Option Addr) (ll cl : Nat) (am : Option Addr) (lm cm : Nat) (c : Int), e = .returned (.tuple #[.agg #[.int .i64 k, .int .i64 n, str s, .slice al ll cl, .slice am lm cm], .int .i64 c]) ∧ Frm (fun i => i = b) w1 w2 ∧
   ∀ w9, Frm (fun i => i = w.heap.size) w2 w9 → ValJ t w b o r (.returned (.tuple #[.agg #[.int .i64 k, .int .i64 n, str s, .slice al ll cl, .slice am lm cm], .int .i64 c])) w9 := by
 cases r with
 | err c =>
  obtain ⟨v, cs, rfl, hc, hv, q, o', hs⟩ := h
  obtain ⟨al, ll, cl, am, lm, cm, rfl, _, _⟩ := hv.open
  refine ⟨_, _, _, _, _, _, _, _, _, _, rfl, hs.2, fun w9 hf => ⟨v, _, rfl, hc, ?_, q, o', ?_⟩⟩
  · exact (hv.frm hf (fun i hi e => by omega)).mono (fun i _ hi => by omega)
  exact JSt.grow (h1.trans hs) hf (fun i e => by omega)
 | ok v q =>
  obtain ⟨cs, rfl, hv, hs, hq⟩ := h
  obtain ⟨al, ll, cl, am, lm, cm, rfl, _, _⟩ := hv.open
  refine ⟨_, _, _, _, _, _, _, _, _, _, rfl, hs.2, fun w9 hf => ⟨_, rfl, ?_, ?_, hq⟩⟩
  · exact (hv.frm hf (fun i hi e => by omega)).mono (fun i _ hi => by omega)
  exact JSt.grow (h1.trans hs) hf (fun i e => by omega)
theorem value_none (t : List UInt8) (b p o : Nat) (w : World) (h : JRb w b t p o) (hp : p ≤ t.length) (hl : t.length ≤ 20000) (hx : t[skp t p]? = none) :
 Calls Tryz.prog 73 #[.pointer (some ⟨b, 0, none⟩)] w (ValJ t w b o (.err 2)) := by
 have hb := h.lt
 obtain ⟨Wa, hWa⟩ : ∃ Wa, Wa = w.alloc (.cells #[.int .i64 0, .int .i64 0, .string ⟨#[]⟩, .slice none 0 0, .slice none 0 0] 72) := ⟨_, rfl⟩
 have hba : Below w.heap.size w Wa := by rw [hWa]; exact below_alloc _ _
 have hbx : Wa.heap[w.heap.size]? = some (.cells #[.int .i64 0, .int .i64 0, str [], .slice none 0 0, .slice none 0 0] 72 (0, 0)) := by rw [hWa]; exact heap_alloc_new w _
 have hmz : Wa.heap.size = w.heap.size + 1 := by rw [hWa]; simp
 have CN := Lib.hid (next_any t b p o Wa (h.below hba) hp (by omega))
 have HA := Lib.hid (And.intro (JSt.below (JSt.refl h) hba) (And.intro hbx hmz))
 obtain ⟨e1, e2⟩ := nx_none hx
 rw [e1, e2] at CN
 obtain ⟨q, hq⟩ : ∃ q, q = skp t p := ⟨_, rfl⟩
 rw [← hq] at CN
 clear hbx hmz h e1 e2 hx hq hba
 go_enter Tryz.func73, Tryz.ntmps73
 go_wp2_with fail
 rw [← hWa]
 refine CN.out.mono ?_
 rintro e w1 ⟨rfl, h1⟩
 have H1 : Hid (JSt w b t q o w1 ∧ w1.heap[w.heap.size]? = some (.cells #[.int .i64 0, .int .i64 0, str [], .slice none 0 0, .slice none 0 0] 72 (0, 0)) ∧ w.heap.size < w1.heap.size) := Lib.hid ⟨HA.out.1.trans h1, box_frm HA.out.2.1 h1.2 (by omega), by have := HA.out.2.2; have := h1.2.size; omega⟩
 clear h1 CN HA hWa
 have hbx1 := H1.out.2.1
 obtain ⟨d0, d1, d2, d3, d4⟩ := box5 hbx1
 have df := box_fr hbx1
 clear hbx1
 go_wp2_with fail
 refine bodyPost_any_world (fun X => X.heap[w.heap.size]? = some (.cells #[.int .i64 0, .int .i64 0, str [], .slice none 0 0, .slice none 0 0] 72 (0, 0)) ∧ Frm (fun i => i = w.heap.size) _ X) (five_set H1.out.2.1 _ _ _ _ _) ?_
 clear d0 d1 d2 d3 d4 df
 rintro w9 ⟨h9, hf9⟩
 obtain ⟨k0, k1, k2, k3, k4⟩ := box5 h9
 refine bodyPost_ret (v := .tuple #[.agg #[.int .i64 0, .int .i64 0, str [], .slice none 0 0, .slice none 0 0], .int .i64 2]) (by simp [results, Tryz.results73, go_sem, k0, k1, k2, k3, k4]) rfl ?_
 exact ⟨.mk 0 0 [] [] [], _, rfl, by decide, plainJ _ _ _ _ _, _, _, JSt.grow H1.out.1 hf9 (fun i e => by omega)⟩
theorem value_deep (t : List UInt8) (b p o : Nat) (c : UInt8) (w : World) (h : JRb w b t p o) (hp : p ≤ t.length) (hl : t.length ≤ 20000) (hx : t[skp t p]? = some c) (ho : o = 64) :
 Calls Tryz.prog 73 #[.pointer (some ⟨b, 0, none⟩)] w (ValJ t w b o (if stB c = true then .err 10 else .err 4)) := by
 obtain ⟨i, CI, hi⟩ := inJ [91, 123, 34, 45, 48, 49, 50, 51, 52, 53, 54, 55, 56, 57, 116, 102, 110] c
 have CI := Lib.hid CI
 have hb := h.lt
 obtain ⟨Wa, hWa⟩ : ∃ Wa, Wa = w.alloc (.cells #[.int .i64 0, .int .i64 0, .string ⟨#[]⟩, .slice none 0 0, .slice none 0 0] 72) := ⟨_, rfl⟩
 have hba : Below w.heap.size w Wa := by rw [hWa]; exact below_alloc _ _
 have hbx : Wa.heap[w.heap.size]? = some (.cells #[.int .i64 0, .int .i64 0, str [], .slice none 0 0, .slice none 0 0] 72 (0, 0)) := by rw [hWa]; exact heap_alloc_new w _
 have hmz : Wa.heap.size = w.heap.size + 1 := by rw [hWa]; simp
 have CN := Lib.hid (next_any t b p o Wa (h.below hba) hp (by omega))
 have HA := Lib.hid (And.intro (JSt.below (JSt.refl h) hba) (And.intro hbx hmz))
 obtain ⟨e1, e2, hlt⟩ := nx_some hx
 rw [e1, e2] at CN
 obtain ⟨q, hq⟩ : ∃ q, q = skp t p := ⟨_, rfl⟩
 rw [← hq] at CN hlt
 have n1 : ((o : Int) == 64) = true := by rw [beq_iff_eq]; omega
 by_cases hs : stB c = true
 · have n2 : decide ((0 : Int) ≤ i) = true := decide_eq_true (hi.2 (by unfold stB at hs; simpa using hs))
   rw [if_pos hs]
   clear hi hs
   clear hbx hmz h e1 e2 hx hq hba
   go_enter Tryz.func73, Tryz.ntmps73
   go_wp2_with fail
   rw [← hWa]
   refine CN.out.mono ?_
   rintro e w1 ⟨rfl, h1⟩
   have H1 : Hid (JSt w b t q o w1 ∧ w1.heap[w.heap.size]? = some (.cells #[.int .i64 0, .int .i64 0, str [], .slice none 0 0, .slice none 0 0] 72 (0, 0)) ∧ w.heap.size < w1.heap.size) := Lib.hid ⟨HA.out.1.trans h1, box_frm HA.out.2.1 h1.2 (by omega), by have := HA.out.2.2; have := h1.2.size; omega⟩
   have c2 := h1.1.c2
   clear h1 CN HA hWa
   have hbx1 := H1.out.2.1
   obtain ⟨d0, d1, d2, d3, d4⟩ := box5 hbx1
   have df := box_fr hbx1
   clear hbx1
   go_wp2_with (go_at_call 96; refine (CI.out _).mono ?_; rintro e w' ⟨rfl, rfl⟩)
   refine bodyPost_any_world (fun X => X.heap[w.heap.size]? = some (.cells #[.int .i64 0, .int .i64 0, str [], .slice none 0 0, .slice none 0 0] 72 (0, 0)) ∧ Frm (fun i => i = w.heap.size) _ X) (five_set H1.out.2.1 _ _ _ _ _) ?_
   clear d0 d1 d2 d3 d4 df
   rintro w9 ⟨h9, hf9⟩
   obtain ⟨k0, k1, k2, k3, k4⟩ := box5 h9
   refine bodyPost_ret (v := .tuple #[.agg #[.int .i64 0, .int .i64 0, str [], .slice none 0 0, .slice none 0 0], .int .i64 10]) (by simp [results, Tryz.results73, go_sem, k0, k1, k2, k3, k4]) rfl ?_
   exact ⟨.mk 0 0 [] [] [], _, rfl, by decide, plainJ _ _ _ _ _, _, _, JSt.grow H1.out.1 hf9 (fun i e => by omega)⟩
 have n2 : decide ((0 : Int) ≤ i) = false := decide_eq_false (fun h => hs (by have := hi.1 h; unfold stB; simpa using this))
 have hn91 : c ≠ 91 := fun e => hs (by rw [e]; rfl)
 have hn123 : c ≠ 123 := fun e => hs (by rw [e]; rfl)
 have hn34 : c ≠ 34 := fun e => hs (by rw [e]; rfl)
 have hn45 : c ≠ 45 := fun e => hs (by rw [e]; rfl)
 have hn116 : c ≠ 116 := fun e => hs (by rw [e]; rfl)
 have hn102 : c ≠ 102 := fun e => hs (by rw [e]; rfl)
 have hn110 : c ≠ 110 := fun e => hs (by rw [e]; rfl)
 have hdg : dgJ c = false := by
  cases hd : dgJ c with
  | false => rfl
  | true => exact absurd (stB_dg hd) hs
 have n91 : ((c.toNat : Int) == 91) = false := by rw [beq_eq_false_iff_ne]; intro h; exact hn91 (UInt8.toNat_inj.1 (by have : (91 : UInt8).toNat = 91 := rfl; omega))
 have n123 : ((c.toNat : Int) == 123) = false := by rw [beq_eq_false_iff_ne]; intro h; exact hn123 (UInt8.toNat_inj.1 (by have : (123 : UInt8).toNat = 123 := rfl; omega))
 have n34 : ((c.toNat : Int) == 34) = false := by rw [beq_eq_false_iff_ne]; intro h; exact hn34 (UInt8.toNat_inj.1 (by have : (34 : UInt8).toNat = 34 := rfl; omega))
 have n45 : ((c.toNat : Int) == 45) = false := by rw [beq_eq_false_iff_ne]; intro h; exact hn45 (UInt8.toNat_inj.1 (by have : (45 : UInt8).toNat = 45 := rfl; omega))
 have n116 : ((c.toNat : Int) == 116) = false := by rw [beq_eq_false_iff_ne]; intro h; exact hn116 (UInt8.toNat_inj.1 (by have : (116 : UInt8).toNat = 116 := rfl; omega))
 have n102 : ((c.toNat : Int) == 102) = false := by rw [beq_eq_false_iff_ne]; intro h; exact hn102 (UInt8.toNat_inj.1 (by have : (102 : UInt8).toNat = 102 := rfl; omega))
 have n110 : ((c.toNat : Int) == 110) = false := by rw [beq_eq_false_iff_ne]; intro h; exact hn110 (UInt8.toNat_inj.1 (by have : (110 : UInt8).toNat = 110 := rfl; omega))
 have CD := Lib.hid (jdigit_any c)
 rw [if_neg hs]
 rw [hdg] at CD
 clear hn91
 clear hn123
 clear hn34
 clear hn45
 clear hn116
 clear hn102
 clear hn110
 clear hi hs hdg
 clear hbx hmz h e1 e2 hx hq hba
 go_enter Tryz.func73, Tryz.ntmps73
 go_wp2_with fail
 rw [← hWa]
 refine CN.out.mono ?_
 rintro e w1 ⟨rfl, h1⟩
 have H1 : Hid (JSt w b t q o w1 ∧ w1.heap[w.heap.size]? = some (.cells #[.int .i64 0, .int .i64 0, str [], .slice none 0 0, .slice none 0 0] 72 (0, 0)) ∧ w.heap.size < w1.heap.size) := Lib.hid ⟨HA.out.1.trans h1, box_frm HA.out.2.1 h1.2 (by omega), by have := HA.out.2.2; have := h1.2.size; omega⟩
 have c2 := h1.1.c2
 clear h1 CN HA hWa
 have hbx1 := H1.out.2.1
 obtain ⟨d0, d1, d2, d3, d4⟩ := box5 hbx1
 have df := box_fr hbx1
 clear hbx1
 go_wp2_with (first | (go_at_call 96; refine (CI.out _).mono ?_; rintro e w' ⟨rfl, rfl⟩) | (go_at_call 100; refine (CD.out _).mono ?_; rintro e w' ⟨rfl, rfl⟩) | fail)
 refine bodyPost_any_world (fun X => X.heap[w.heap.size]? = some (.cells #[.int .i64 0, .int .i64 0, str [], .slice none 0 0, .slice none 0 0] 72 (0, 0)) ∧ Frm (fun i => i = w.heap.size) _ X) (five_set H1.out.2.1 _ _ _ _ _) ?_
 clear d0 d1 d2 d3 d4 df
 rintro w9 ⟨h9, hf9⟩
 obtain ⟨k0, k1, k2, k3, k4⟩ := box5 h9
 refine bodyPost_ret (v := .tuple #[.agg #[.int .i64 0, .int .i64 0, str [], .slice none 0 0, .slice none 0 0], .int .i64 4]) (by simp [results, Tryz.results73, go_sem, k0, k1, k2, k3, k4]) rfl ?_
 exact ⟨.mk 0 0 [] [] [], _, rfl, by decide, plainJ _ _ _ _ _, _, _, JSt.grow H1.out.1 hf9 (fun i e => by omega)⟩
theorem value_list (t : List UInt8) (b p o : Nat) (c : UInt8) (r : JR JV) (w : World) (h : JRb w b t p o) (hp : p ≤ t.length) (hl : t.length ≤ 20000) (hx : t[skp t p]? = some c) (ho : o < 64) (hc : c = 91) (CL : ∀ W, JRb W b t (skp t p) o → Calls Tryz.prog 97 #[.pointer (some ⟨b, 0, none⟩)] W (ValJ t W b o r)) :
 Calls Tryz.prog 73 #[.pointer (some ⟨b, 0, none⟩)] w (ValJ t w b o (r)) := by
 have CL := Lib.hid CL
 have hb := h.lt
 obtain ⟨Wa, hWa⟩ : ∃ Wa, Wa = w.alloc (.cells #[.int .i64 0, .int .i64 0, .string ⟨#[]⟩, .slice none 0 0, .slice none 0 0] 72) := ⟨_, rfl⟩
 have hba : Below w.heap.size w Wa := by rw [hWa]; exact below_alloc _ _
 have hbx : Wa.heap[w.heap.size]? = some (.cells #[.int .i64 0, .int .i64 0, str [], .slice none 0 0, .slice none 0 0] 72 (0, 0)) := by rw [hWa]; exact heap_alloc_new w _
 have hmz : Wa.heap.size = w.heap.size + 1 := by rw [hWa]; simp
 have CN := Lib.hid (next_any t b p o Wa (h.below hba) hp (by omega))
 have HA := Lib.hid (And.intro (JSt.below (JSt.refl h) hba) (And.intro hbx hmz))
 obtain ⟨e1, e2, hlt⟩ := nx_some hx
 rw [e1, e2] at CN
 obtain ⟨q, hq⟩ : ∃ q, q = skp t p := ⟨_, rfl⟩
 rw [← hq] at CN hlt CL
 have n1 : ((o : Int) == 64) = false := by rw [beq_eq_false_iff_ne]; omega
 have n91 : ((c.toNat : Int) == 91) = true := by rw [hc]; rfl
 clear hc
 clear hbx hmz h e1 e2 hx hq hba
 go_enter Tryz.func73, Tryz.ntmps73
 go_wp2_with fail
 rw [← hWa]
 refine CN.out.mono ?_
 rintro e w1 ⟨rfl, h1⟩
 have H1 : Hid (JSt w b t q o w1 ∧ w1.heap[w.heap.size]? = some (.cells #[.int .i64 0, .int .i64 0, str [], .slice none 0 0, .slice none 0 0] 72 (0, 0)) ∧ w.heap.size < w1.heap.size) := Lib.hid ⟨HA.out.1.trans h1, box_frm HA.out.2.1 h1.2 (by omega), by have := HA.out.2.2; have := h1.2.size; omega⟩
 have c2 := h1.1.c2
 clear h1 CN HA hWa
 go_wp2_with fail
 refine (CL.out _ H1.out.1.1).mono ?_
 intro e w2 h2
 obtain ⟨k, n, s, al, ll, cl, am, lm, cm, c9, rfl, hf2, hfin⟩ := valJ_pass h2 H1.out.1 H1.out.2.2 hb
 have H2 : Hid (w2.heap[w.heap.size]? = some (.cells #[.int .i64 0, .int .i64 0, str [], .slice none 0 0, .slice none 0 0] 72 (0, 0)) ∧ ∀ w9, Frm (fun i => i = w.heap.size) w2 w9 → ValJ t w b o r (.returned (.tuple #[.agg #[.int .i64 k, .int .i64 n, str s, .slice al ll cl, .slice am lm cm], .int .i64 c9])) w9) := Lib.hid ⟨box_frm H1.out.2.1 hf2 (by omega), hfin⟩
 clear h2 hf2 hfin CL c2 H1
 have hbx1 := H2.out.1
 obtain ⟨d0, d1, d2, d3, d4⟩ := box5 hbx1
 have df := box_fr hbx1
 clear hbx1
 go_wp2_with fail
 refine bodyPost_any_world (fun X => X.heap[w.heap.size]? = some (.cells #[.int .i64 k, .int .i64 n, str s, .slice al ll cl, .slice am lm cm] 72 (0, 0)) ∧ Frm (fun i => i = w.heap.size) _ X) (five_set H2.out.1 _ _ _ _ _) ?_
 clear d0 d1 d2 d3 d4 df
 rintro w9 ⟨h9, hf9⟩
 obtain ⟨k0, k1, k2, k3, k4⟩ := box5 h9
 refine bodyPost_ret (v := .tuple #[.agg #[.int .i64 k, .int .i64 n, str s, .slice al ll cl, .slice am lm cm], .int .i64 c9]) (by simp [results, Tryz.results73, go_sem, k0, k1, k2, k3, k4]) rfl ?_
 exact H2.out.2 w9 hf9
theorem value_object (t : List UInt8) (b p o : Nat) (c : UInt8) (r : JR JV) (w : World) (h : JRb w b t p o) (hp : p ≤ t.length) (hl : t.length ≤ 20000) (hx : t[skp t p]? = some c) (ho : o < 64) (hn91 : c ≠ 91) (hc : c = 123) (CL : ∀ W, JRb W b t (skp t p) o → Calls Tryz.prog 98 #[.pointer (some ⟨b, 0, none⟩)] W (ValJ t W b o r)) :
 Calls Tryz.prog 73 #[.pointer (some ⟨b, 0, none⟩)] w (ValJ t w b o (r)) := by
 have CL := Lib.hid CL
 have hb := h.lt
 obtain ⟨Wa, hWa⟩ : ∃ Wa, Wa = w.alloc (.cells #[.int .i64 0, .int .i64 0, .string ⟨#[]⟩, .slice none 0 0, .slice none 0 0] 72) := ⟨_, rfl⟩
 have hba : Below w.heap.size w Wa := by rw [hWa]; exact below_alloc _ _
 have hbx : Wa.heap[w.heap.size]? = some (.cells #[.int .i64 0, .int .i64 0, str [], .slice none 0 0, .slice none 0 0] 72 (0, 0)) := by rw [hWa]; exact heap_alloc_new w _
 have hmz : Wa.heap.size = w.heap.size + 1 := by rw [hWa]; simp
 have CN := Lib.hid (next_any t b p o Wa (h.below hba) hp (by omega))
 have HA := Lib.hid (And.intro (JSt.below (JSt.refl h) hba) (And.intro hbx hmz))
 obtain ⟨e1, e2, hlt⟩ := nx_some hx
 rw [e1, e2] at CN
 obtain ⟨q, hq⟩ : ∃ q, q = skp t p := ⟨_, rfl⟩
 rw [← hq] at CN hlt CL
 have n1 : ((o : Int) == 64) = false := by rw [beq_eq_false_iff_ne]; omega
 have n91 : ((c.toNat : Int) == 91) = false := by rw [beq_eq_false_iff_ne]; intro h; exact hn91 (UInt8.toNat_inj.1 (by have : (91 : UInt8).toNat = 91 := rfl; omega))
 have n123 : ((c.toNat : Int) == 123) = true := by rw [hc]; rfl
 clear hn91
 clear hc
 clear hbx hmz h e1 e2 hx hq hba
 go_enter Tryz.func73, Tryz.ntmps73
 go_wp2_with fail
 rw [← hWa]
 refine CN.out.mono ?_
 rintro e w1 ⟨rfl, h1⟩
 have H1 : Hid (JSt w b t q o w1 ∧ w1.heap[w.heap.size]? = some (.cells #[.int .i64 0, .int .i64 0, str [], .slice none 0 0, .slice none 0 0] 72 (0, 0)) ∧ w.heap.size < w1.heap.size) := Lib.hid ⟨HA.out.1.trans h1, box_frm HA.out.2.1 h1.2 (by omega), by have := HA.out.2.2; have := h1.2.size; omega⟩
 have c2 := h1.1.c2
 clear h1 CN HA hWa
 go_wp2_with fail
 refine (CL.out _ H1.out.1.1).mono ?_
 intro e w2 h2
 obtain ⟨k, n, s, al, ll, cl, am, lm, cm, c9, rfl, hf2, hfin⟩ := valJ_pass h2 H1.out.1 H1.out.2.2 hb
 have H2 : Hid (w2.heap[w.heap.size]? = some (.cells #[.int .i64 0, .int .i64 0, str [], .slice none 0 0, .slice none 0 0] 72 (0, 0)) ∧ ∀ w9, Frm (fun i => i = w.heap.size) w2 w9 → ValJ t w b o r (.returned (.tuple #[.agg #[.int .i64 k, .int .i64 n, str s, .slice al ll cl, .slice am lm cm], .int .i64 c9])) w9) := Lib.hid ⟨box_frm H1.out.2.1 hf2 (by omega), hfin⟩
 clear h2 hf2 hfin CL c2 H1
 have hbx1 := H2.out.1
 obtain ⟨d0, d1, d2, d3, d4⟩ := box5 hbx1
 have df := box_fr hbx1
 clear hbx1
 go_wp2_with fail
 refine bodyPost_any_world (fun X => X.heap[w.heap.size]? = some (.cells #[.int .i64 k, .int .i64 n, str s, .slice al ll cl, .slice am lm cm] 72 (0, 0)) ∧ Frm (fun i => i = w.heap.size) _ X) (five_set H2.out.1 _ _ _ _ _) ?_
 clear d0 d1 d2 d3 d4 df
 rintro w9 ⟨h9, hf9⟩
 obtain ⟨k0, k1, k2, k3, k4⟩ := box5 h9
 refine bodyPost_ret (v := .tuple #[.agg #[.int .i64 k, .int .i64 n, str s, .slice al ll cl, .slice am lm cm], .int .i64 c9]) (by simp [results, Tryz.results73, go_sem, k0, k1, k2, k3, k4]) rfl ?_
 exact H2.out.2 w9 hf9
theorem value_text (t : List UInt8) (b p o : Nat) (c : UInt8) (w : World) (h : JRb w b t p o) (hp : p ≤ t.length) (hl : t.length ≤ 20000) (hx : t[skp t p]? = some c) (ho : o < 64) (hn91 : c ≠ 91) (hn123 : c ≠ 123) (hc : c = 34) :
 Calls Tryz.prog 73 #[.pointer (some ⟨b, 0, none⟩)] w (ValJ t w b o (txtV (txtP t (skp t p)))) := by
 have hb := h.lt
 obtain ⟨Wa, hWa⟩ : ∃ Wa, Wa = w.alloc (.cells #[.int .i64 0, .int .i64 0, .string ⟨#[]⟩, .slice none 0 0, .slice none 0 0] 72) := ⟨_, rfl⟩
 have hba : Below w.heap.size w Wa := by rw [hWa]; exact below_alloc _ _
 have hbx : Wa.heap[w.heap.size]? = some (.cells #[.int .i64 0, .int .i64 0, str [], .slice none 0 0, .slice none 0 0] 72 (0, 0)) := by rw [hWa]; exact heap_alloc_new w _
 have hmz : Wa.heap.size = w.heap.size + 1 := by rw [hWa]; simp
 have CN := Lib.hid (next_any t b p o Wa (h.below hba) hp (by omega))
 have HA := Lib.hid (And.intro (JSt.below (JSt.refl h) hba) (And.intro hbx hmz))
 obtain ⟨e1, e2, hlt⟩ := nx_some hx
 rw [e1, e2] at CN
 obtain ⟨q, hq⟩ : ∃ q, q = skp t p := ⟨_, rfl⟩
 rw [← hq] at CN hlt
 rw [← hq]
 have n1 : ((o : Int) == 64) = false := by rw [beq_eq_false_iff_ne]; omega
 have n91 : ((c.toNat : Int) == 91) = false := by rw [beq_eq_false_iff_ne]; intro h; exact hn91 (UInt8.toNat_inj.1 (by have : (91 : UInt8).toNat = 91 := rfl; omega))
 have n123 : ((c.toNat : Int) == 123) = false := by rw [beq_eq_false_iff_ne]; intro h; exact hn123 (UInt8.toNat_inj.1 (by have : (123 : UInt8).toNat = 123 := rfl; omega))
 have n34 : ((c.toNat : Int) == 34) = true := by rw [hc]; rfl
 clear hn91 hn123 hc
 clear hbx hmz h e1 e2 hx hq hba
 go_enter Tryz.func73, Tryz.ntmps73
 go_wp2_with fail
 rw [← hWa]
 refine CN.out.mono ?_
 rintro e w1 ⟨rfl, h1⟩
 have H1 : Hid (JSt w b t q o w1 ∧ w1.heap[w.heap.size]? = some (.cells #[.int .i64 0, .int .i64 0, str [], .slice none 0 0, .slice none 0 0] 72 (0, 0)) ∧ w.heap.size < w1.heap.size) := Lib.hid ⟨HA.out.1.trans h1, box_frm HA.out.2.1 h1.2 (by omega), by have := HA.out.2.2; have := h1.2.size; omega⟩
 have c2 := h1.1.c2
 clear h1 CN HA hWa
 have CT := Lib.hid (jtext_any t b q o w1 H1.out.1.1 (by omega))
 cases hr : txtP t q with
 | err z =>
  rw [hr] at CT
  have HR := Lib.hid hr
  clear hr
  go_wp2_with fail
  refine CT.out.mono ?_
  rintro e w2 ⟨rfl, hz0, q', o', hs2⟩
  have H2 : Hid (w2.heap[w.heap.size]? = some (.cells #[.int .i64 0, .int .i64 0, str [], .slice none 0 0, .slice none 0 0] 72 (0, 0)) ∧ JSt w b t q' o' w2) := Lib.hid ⟨box_frm H1.out.2.1 hs2.2 (by omega), H1.out.1.trans hs2⟩
  clear hs2 CT c2 H1
  have hbx1 := H2.out.1
  obtain ⟨d0, d1, d2, d3, d4⟩ := box5 hbx1
  have df := box_fr hbx1
  clear hbx1
  go_wp2_with fail
  refine bodyPost_any_world (fun X => X.heap[w.heap.size]? = some (.cells #[.int .i64 5, .int .i64 0, str [], .slice none 0 0, .slice none 0 0] 72 (0, 0)) ∧ Frm (fun i => i = w.heap.size) _ X) (five_set H2.out.1 _ _ _ _ _) ?_
  clear d0 d1 d2 d3 d4 df
  rintro w9 ⟨h9, hf9⟩
  obtain ⟨k0, k1, k2, k3, k4⟩ := box5 h9
  refine bodyPost_ret (v := .tuple #[.agg #[.int .i64 5, .int .i64 0, str [], .slice none 0 0, .slice none 0 0], .int .i64 (z : Int)]) (by simp [results, Tryz.results73, go_sem, k0, k1, k2, k3, k4]) rfl ?_
  rw [HR.out]
  exact ⟨.mk 5 0 [] [] [], _, rfl, hz0, plainJ _ _ _ _ _, _, _, JSt.grow H2.out.2 hf9 (fun i e => by omega)⟩
 | ok sv z =>
  rw [hr] at CT
  have HR := Lib.hid hr
  clear hr
  go_wp2_with fail
  refine CT.out.mono ?_
  rintro e w2 ⟨rfl, hs2, hq2, hs8⟩
  have H2 : Hid (w2.heap[w.heap.size]? = some (.cells #[.int .i64 0, .int .i64 0, str [], .slice none 0 0, .slice none 0 0] 72 (0, 0)) ∧ JSt w b t z o w2) := Lib.hid ⟨box_frm H1.out.2.1 hs2.2 (by omega), H1.out.1.trans hs2⟩
  clear hs2 CT c2 H1
  have hbx1 := H2.out.1
  obtain ⟨d0, d1, d2, d3, d4⟩ := box5 hbx1
  have df := box_fr hbx1
  clear hbx1
  go_wp2_with fail
  refine bodyPost_any_world (fun X => X.heap[w.heap.size]? = some (.cells #[.int .i64 5, .int .i64 0, str sv, .slice none 0 0, .slice none 0 0] 72 (0, 0)) ∧ Frm (fun i => i = w.heap.size) _ X) (five_set H2.out.1 _ _ _ _ _) ?_
  clear d0 d1 d2 d3 d4 df
  rintro w9 ⟨h9, hf9⟩
  obtain ⟨k0, k1, k2, k3, k4⟩ := box5 h9
  refine bodyPost_ret (v := .tuple #[.agg #[.int .i64 5, .int .i64 0, str sv, .slice none 0 0, .slice none 0 0], .int .i64 0]) (by simp [results, Tryz.results73, go_sem, k0, k1, k2, k3, k4]) rfl ?_
  rw [HR.out]
  exact ⟨_, rfl, plainJ _ _ _ _ _, JSt.grow H2.out.2 hf9 (fun i e => by omega), hq2⟩
theorem value_number (t : List UInt8) (b p o : Nat) (c : UInt8) (w : World) (h : JRb w b t p o) (hp : p ≤ t.length) (hl : t.length ≤ 20000) (hx : t[skp t p]? = some c) (ho : o < 64) (hn91 : c ≠ 91) (hn123 : c ≠ 123) (hn34 : c ≠ 34) (hc : c = 45 ∨ dgJ c = true) :
 Calls Tryz.prog 73 #[.pointer (some ⟨b, 0, none⟩)] w (ValJ t w b o (numV (numP t (skp t p)))) := by
 have hb := h.lt
 obtain ⟨Wa, hWa⟩ : ∃ Wa, Wa = w.alloc (.cells #[.int .i64 0, .int .i64 0, .string ⟨#[]⟩, .slice none 0 0, .slice none 0 0] 72) := ⟨_, rfl⟩
 have hba : Below w.heap.size w Wa := by rw [hWa]; exact below_alloc _ _
 have hbx : Wa.heap[w.heap.size]? = some (.cells #[.int .i64 0, .int .i64 0, str [], .slice none 0 0, .slice none 0 0] 72 (0, 0)) := by rw [hWa]; exact heap_alloc_new w _
 have hmz : Wa.heap.size = w.heap.size + 1 := by rw [hWa]; simp
 have CN := Lib.hid (next_any t b p o Wa (h.below hba) hp (by omega))
 have HA := Lib.hid (And.intro (JSt.below (JSt.refl h) hba) (And.intro hbx hmz))
 obtain ⟨e1, e2, hlt⟩ := nx_some hx
 rw [e1, e2] at CN
 obtain ⟨q, hq⟩ : ∃ q, q = skp t p := ⟨_, rfl⟩
 rw [← hq] at CN hlt
 rw [← hq]
 have n1 : ((o : Int) == 64) = false := by rw [beq_eq_false_iff_ne]; omega
 have n91 : ((c.toNat : Int) == 91) = false := by rw [beq_eq_false_iff_ne]; intro h; exact hn91 (UInt8.toNat_inj.1 (by have : (91 : UInt8).toNat = 91 := rfl; omega))
 have n123 : ((c.toNat : Int) == 123) = false := by rw [beq_eq_false_iff_ne]; intro h; exact hn123 (UInt8.toNat_inj.1 (by have : (123 : UInt8).toNat = 123 := rfl; omega))
 have n34 : ((c.toNat : Int) == 34) = false := by rw [beq_eq_false_iff_ne]; intro h; exact hn34 (UInt8.toNat_inj.1 (by have : (34 : UInt8).toNat = 34 := rfl; omega))
 clear hn91 hn123 hn34
 by_cases h45 : c = 45
 · have n45 : ((c.toNat : Int) == 45) = true := by rw [h45]; rfl
   clear hc h45
   clear hbx hmz h e1 e2 hx hq hba
   go_enter Tryz.func73, Tryz.ntmps73
   go_wp2_with fail
   rw [← hWa]
   refine CN.out.mono ?_
   rintro e w1 ⟨rfl, h1⟩
   have H1 : Hid (JSt w b t q o w1 ∧ w1.heap[w.heap.size]? = some (.cells #[.int .i64 0, .int .i64 0, str [], .slice none 0 0, .slice none 0 0] 72 (0, 0)) ∧ w.heap.size < w1.heap.size) := Lib.hid ⟨HA.out.1.trans h1, box_frm HA.out.2.1 h1.2 (by omega), by have := HA.out.2.2; have := h1.2.size; omega⟩
   have c2 := h1.1.c2
   clear h1 CN HA hWa
   have CT := Lib.hid (number_any t b q o w1 H1.out.1.1 (by omega) (by omega))
   cases hr : numP t q with
   | err z =>
    rw [hr] at CT
    have HR := Lib.hid hr
    clear hr
    go_wp2_with fail
    refine CT.out.mono ?_
    rintro e w2 ⟨rfl, hz0, q', o', hs2⟩
    have H2 : Hid (w2.heap[w.heap.size]? = some (.cells #[.int .i64 0, .int .i64 0, str [], .slice none 0 0, .slice none 0 0] 72 (0, 0)) ∧ JSt w b t q' o' w2) := Lib.hid ⟨box_frm H1.out.2.1 hs2.2 (by omega), H1.out.1.trans hs2⟩
    clear hs2 CT c2 H1
    have hbx1 := H2.out.1
    obtain ⟨d0, d1, d2, d3, d4⟩ := box5 hbx1
    have df := box_fr hbx1
    clear hbx1
    go_wp2_with fail
    refine bodyPost_any_world (fun X => X.heap[w.heap.size]? = some (.cells #[.int .i64 4, .int .i64 0, str [], .slice none 0 0, .slice none 0 0] 72 (0, 0)) ∧ Frm (fun i => i = w.heap.size) _ X) (five_set H2.out.1 _ _ _ _ _) ?_
    clear d0 d1 d2 d3 d4 df
    rintro w9 ⟨h9, hf9⟩
    obtain ⟨k0, k1, k2, k3, k4⟩ := box5 h9
    refine bodyPost_ret (v := .tuple #[.agg #[.int .i64 4, .int .i64 0, str [], .slice none 0 0, .slice none 0 0], .int .i64 (z : Int)]) (by simp [results, Tryz.results73, go_sem, k0, k1, k2, k3, k4]) rfl ?_
    rw [HR.out]
    exact ⟨.mk 4 0 [] [] [], _, rfl, hz0, plainJ _ _ _ _ _, _, _, JSt.grow H2.out.2 hf9 (fun i e => by omega)⟩
   | ok n z =>
    rw [hr] at CT
    have HR := Lib.hid hr
    clear hr
    go_wp2_with fail
    refine CT.out.mono ?_
    rintro e w2 ⟨rfl, hs2, hq2, hb2⟩
    have H2 : Hid (w2.heap[w.heap.size]? = some (.cells #[.int .i64 0, .int .i64 0, str [], .slice none 0 0, .slice none 0 0] 72 (0, 0)) ∧ JSt w b t z o w2) := Lib.hid ⟨box_frm H1.out.2.1 hs2.2 (by omega), H1.out.1.trans hs2⟩
    clear hs2 CT c2 H1
    have hbx1 := H2.out.1
    obtain ⟨d0, d1, d2, d3, d4⟩ := box5 hbx1
    have df := box_fr hbx1
    clear hbx1
    go_wp2_with fail
    refine bodyPost_any_world (fun X => X.heap[w.heap.size]? = some (.cells #[.int .i64 4, .int .i64 n, str [], .slice none 0 0, .slice none 0 0] 72 (0, 0)) ∧ Frm (fun i => i = w.heap.size) _ X) (five_set H2.out.1 _ _ _ _ _) ?_
    clear d0 d1 d2 d3 d4 df
    rintro w9 ⟨h9, hf9⟩
    obtain ⟨k0, k1, k2, k3, k4⟩ := box5 h9
    refine bodyPost_ret (v := .tuple #[.agg #[.int .i64 4, .int .i64 n, str [], .slice none 0 0, .slice none 0 0], .int .i64 0]) (by simp [results, Tryz.results73, go_sem, k0, k1, k2, k3, k4]) rfl ?_
    rw [HR.out]
    exact ⟨_, rfl, plainJ _ _ _ _ _, JSt.grow H2.out.2 hf9 (fun i e => by omega), hq2⟩
 have n45 : ((c.toNat : Int) == 45) = false := by rw [beq_eq_false_iff_ne]; intro h; exact h45 (UInt8.toNat_inj.1 (by have : (45 : UInt8).toNat = 45 := rfl; omega))
 have CD := Lib.hid (jdigit_any c)
 rw [hc.resolve_left h45] at CD
 clear hc h45
 clear hbx hmz h e1 e2 hx hq hba
 go_enter Tryz.func73, Tryz.ntmps73
 go_wp2_with fail
 rw [← hWa]
 refine CN.out.mono ?_
 rintro e w1 ⟨rfl, h1⟩
 have H1 : Hid (JSt w b t q o w1 ∧ w1.heap[w.heap.size]? = some (.cells #[.int .i64 0, .int .i64 0, str [], .slice none 0 0, .slice none 0 0] 72 (0, 0)) ∧ w.heap.size < w1.heap.size) := Lib.hid ⟨HA.out.1.trans h1, box_frm HA.out.2.1 h1.2 (by omega), by have := HA.out.2.2; have := h1.2.size; omega⟩
 have c2 := h1.1.c2
 clear h1 CN HA hWa
 have CT := Lib.hid (number_any t b q o w1 H1.out.1.1 (by omega) (by omega))
 cases hr : numP t q with
 | err z =>
  rw [hr] at CT
  have HR := Lib.hid hr
  clear hr
  go_wp2_with (go_at_call 100; refine (CD.out _).mono ?_; rintro e w' ⟨rfl, rfl⟩)
  refine CT.out.mono ?_
  rintro e w2 ⟨rfl, hz0, q', o', hs2⟩
  have H2 : Hid (w2.heap[w.heap.size]? = some (.cells #[.int .i64 0, .int .i64 0, str [], .slice none 0 0, .slice none 0 0] 72 (0, 0)) ∧ JSt w b t q' o' w2) := Lib.hid ⟨box_frm H1.out.2.1 hs2.2 (by omega), H1.out.1.trans hs2⟩
  clear hs2 CT c2 H1
  have hbx1 := H2.out.1
  obtain ⟨d0, d1, d2, d3, d4⟩ := box5 hbx1
  have df := box_fr hbx1
  clear hbx1
  go_wp2_with fail
  refine bodyPost_any_world (fun X => X.heap[w.heap.size]? = some (.cells #[.int .i64 4, .int .i64 0, str [], .slice none 0 0, .slice none 0 0] 72 (0, 0)) ∧ Frm (fun i => i = w.heap.size) _ X) (five_set H2.out.1 _ _ _ _ _) ?_
  clear d0 d1 d2 d3 d4 df
  rintro w9 ⟨h9, hf9⟩
  obtain ⟨k0, k1, k2, k3, k4⟩ := box5 h9
  refine bodyPost_ret (v := .tuple #[.agg #[.int .i64 4, .int .i64 0, str [], .slice none 0 0, .slice none 0 0], .int .i64 (z : Int)]) (by simp [results, Tryz.results73, go_sem, k0, k1, k2, k3, k4]) rfl ?_
  rw [HR.out]
  exact ⟨.mk 4 0 [] [] [], _, rfl, hz0, plainJ _ _ _ _ _, _, _, JSt.grow H2.out.2 hf9 (fun i e => by omega)⟩
 | ok n z =>
  rw [hr] at CT
  have HR := Lib.hid hr
  clear hr
  go_wp2_with (go_at_call 100; refine (CD.out _).mono ?_; rintro e w' ⟨rfl, rfl⟩)
  refine CT.out.mono ?_
  rintro e w2 ⟨rfl, hs2, hq2, hb2⟩
  have H2 : Hid (w2.heap[w.heap.size]? = some (.cells #[.int .i64 0, .int .i64 0, str [], .slice none 0 0, .slice none 0 0] 72 (0, 0)) ∧ JSt w b t z o w2) := Lib.hid ⟨box_frm H1.out.2.1 hs2.2 (by omega), H1.out.1.trans hs2⟩
  clear hs2 CT c2 H1
  have hbx1 := H2.out.1
  obtain ⟨d0, d1, d2, d3, d4⟩ := box5 hbx1
  have df := box_fr hbx1
  clear hbx1
  go_wp2_with fail
  refine bodyPost_any_world (fun X => X.heap[w.heap.size]? = some (.cells #[.int .i64 4, .int .i64 n, str [], .slice none 0 0, .slice none 0 0] 72 (0, 0)) ∧ Frm (fun i => i = w.heap.size) _ X) (five_set H2.out.1 _ _ _ _ _) ?_
  clear d0 d1 d2 d3 d4 df
  rintro w9 ⟨h9, hf9⟩
  obtain ⟨k0, k1, k2, k3, k4⟩ := box5 h9
  refine bodyPost_ret (v := .tuple #[.agg #[.int .i64 4, .int .i64 n, str [], .slice none 0 0, .slice none 0 0], .int .i64 0]) (by simp [results, Tryz.results73, go_sem, k0, k1, k2, k3, k4]) rfl ?_
  rw [HR.out]
  exact ⟨_, rfl, plainJ _ _ _ _ _, JSt.grow H2.out.2 hf9 (fun i e => by omega), hq2⟩
theorem value_true (t : List UInt8) (b p o : Nat) (c : UInt8) (w : World) (h : JRb w b t p o) (hp : p ≤ t.length) (hl : t.length ≤ 20000) (hx : t[skp t p]? = some c) (ho : o < 64) (hn91 : c ≠ 91) (hn123 : c ≠ 123) (hn34 : c ≠ 34) (hn45 : c ≠ 45) (hc : c = 116) (hdg : dgJ c = false) :
 Calls Tryz.prog 73 #[.pointer (some ⟨b, 0, none⟩)] w (ValJ t w b o (wrdV t [116, 114, 117, 101] 3 4 (skp t p))) := by
 have hb := h.lt
 obtain ⟨Wa, hWa⟩ : ∃ Wa, Wa = w.alloc (.cells #[.int .i64 0, .int .i64 0, .string ⟨#[]⟩, .slice none 0 0, .slice none 0 0] 72) := ⟨_, rfl⟩
 have hba : Below w.heap.size w Wa := by rw [hWa]; exact below_alloc _ _
 have hbx : Wa.heap[w.heap.size]? = some (.cells #[.int .i64 0, .int .i64 0, str [], .slice none 0 0, .slice none 0 0] 72 (0, 0)) := by rw [hWa]; exact heap_alloc_new w _
 have hmz : Wa.heap.size = w.heap.size + 1 := by rw [hWa]; simp
 have CN := Lib.hid (next_any t b p o Wa (h.below hba) hp (by omega))
 have HA := Lib.hid (And.intro (JSt.below (JSt.refl h) hba) (And.intro hbx hmz))
 obtain ⟨e1, e2, hlt⟩ := nx_some hx
 rw [e1, e2] at CN
 obtain ⟨q, hq⟩ : ∃ q, q = skp t p := ⟨_, rfl⟩
 rw [← hq] at CN hlt
 rw [← hq]
 have CD := Lib.hid (jdigit_any c)
 rw [hdg] at CD
 have n1 : ((o : Int) == 64) = false := by rw [beq_eq_false_iff_ne]; omega
 have n91 : ((c.toNat : Int) == 91) = false := by rw [beq_eq_false_iff_ne]; intro h; exact hn91 (UInt8.toNat_inj.1 (by have : (91 : UInt8).toNat = 91 := rfl; omega))
 have n123 : ((c.toNat : Int) == 123) = false := by rw [beq_eq_false_iff_ne]; intro h; exact hn123 (UInt8.toNat_inj.1 (by have : (123 : UInt8).toNat = 123 := rfl; omega))
 have n34 : ((c.toNat : Int) == 34) = false := by rw [beq_eq_false_iff_ne]; intro h; exact hn34 (UInt8.toNat_inj.1 (by have : (34 : UInt8).toNat = 34 := rfl; omega))
 have n45 : ((c.toNat : Int) == 45) = false := by rw [beq_eq_false_iff_ne]; intro h; exact hn45 (UInt8.toNat_inj.1 (by have : (45 : UInt8).toNat = 45 := rfl; omega))
 have n116 : ((c.toNat : Int) == 116) = true := by rw [hc]; rfl
 clear hn91
 clear hn123
 clear hn34
 clear hn45
 clear hc hdg
 clear hbx hmz h e1 e2 hx hq hba
 go_enter Tryz.func73, Tryz.ntmps73
 go_wp2_with fail
 rw [← hWa]
 refine CN.out.mono ?_
 rintro e w1 ⟨rfl, h1⟩
 have H1 : Hid (JSt w b t q o w1 ∧ w1.heap[w.heap.size]? = some (.cells #[.int .i64 0, .int .i64 0, str [], .slice none 0 0, .slice none 0 0] 72 (0, 0)) ∧ w.heap.size < w1.heap.size) := Lib.hid ⟨HA.out.1.trans h1, box_frm HA.out.2.1 h1.2 (by omega), by have := HA.out.2.2; have := h1.2.size; omega⟩
 have c2 := h1.1.c2
 clear h1 CN HA hWa
 have CT := Lib.hid (word_any t [116, 114, 117, 101] b q o w1 H1.out.1.1 (by omega) (by omega) (by decide))
 obtain ⟨z, hz⟩ : ∃ z, z = wrdP t [116, 114, 117, 101] q := ⟨_, rfl⟩
 unfold WrdJ at CT
 rw [← hz] at CT
 have HZ := Lib.hid hz
 clear hz
 go_wp2_with (first | (go_at_call 100; refine (CD.out _).mono ?_; rintro e w' ⟨rfl, rfl⟩) | fail)
 refine CT.out.mono ?_
 intro e w2 h2
 obtain ⟨rfl, hz0, q', o', hs2⟩ := h2
 have H2 : Hid (w2.heap[w.heap.size]? = some (.cells #[.int .i64 0, .int .i64 0, str [], .slice none 0 0, .slice none 0 0] 72 (0, 0)) ∧ (z = 0 → JSt w b t (q + 4) o w2 ∧ q + 4 ≤ t.length) ∧ JSt w b t q' o' w2) := Lib.hid ⟨box_frm H1.out.2.1 hs2.2 (by omega), fun h => ⟨H1.out.1.trans (hz0 h).1, (hz0 h).2⟩, H1.out.1.trans hs2⟩
 clear hs2 hz0 CT c2 H1
 have hbx1 := H2.out.1
 obtain ⟨d0, d1, d2, d3, d4⟩ := box5 hbx1
 have df := box_fr hbx1
 clear hbx1
 go_wp2_with fail
 refine bodyPost_any_world (fun X => X.heap[w.heap.size]? = some (.cells #[.int .i64 3, .int .i64 0, str [], .slice none 0 0, .slice none 0 0] 72 (0, 0)) ∧ Frm (fun i => i = w.heap.size) _ X) (five_set H2.out.1 _ _ _ _ _) ?_
 clear d0 d1 d2 d3 d4 df
 rintro w9 ⟨h9, hf9⟩
 obtain ⟨k0, k1, k2, k3, k4⟩ := box5 h9
 refine bodyPost_ret (v := .tuple #[.agg #[.int .i64 3, .int .i64 0, str [], .slice none 0 0, .slice none 0 0], .int .i64 (z : Int)]) (by simp [results, Tryz.results73, go_sem, k0, k1, k2, k3, k4]) rfl ?_
 unfold wrdV
 rw [← HZ.out]
 by_cases hz : z = 0
 · obtain ⟨hj, hq2⟩ := H2.out.2.1 hz
   rw [if_pos hz, hz]
   exact ⟨_, rfl, plainJ _ _ _ _ _, JSt.grow hj hf9 (fun i e => by omega), hq2⟩
 rw [if_neg hz]
 exact ⟨.mk 3 0 [] [] [], _, rfl, hz, plainJ _ _ _ _ _, _, _, JSt.grow H2.out.2.2 hf9 (fun i e => by omega)⟩
theorem value_false (t : List UInt8) (b p o : Nat) (c : UInt8) (w : World) (h : JRb w b t p o) (hp : p ≤ t.length) (hl : t.length ≤ 20000) (hx : t[skp t p]? = some c) (ho : o < 64) (hn91 : c ≠ 91) (hn123 : c ≠ 123) (hn34 : c ≠ 34) (hn45 : c ≠ 45) (hn116 : c ≠ 116) (hc : c = 102) (hdg : dgJ c = false) :
 Calls Tryz.prog 73 #[.pointer (some ⟨b, 0, none⟩)] w (ValJ t w b o (wrdV t [102, 97, 108, 115, 101] 2 5 (skp t p))) := by
 have hb := h.lt
 obtain ⟨Wa, hWa⟩ : ∃ Wa, Wa = w.alloc (.cells #[.int .i64 0, .int .i64 0, .string ⟨#[]⟩, .slice none 0 0, .slice none 0 0] 72) := ⟨_, rfl⟩
 have hba : Below w.heap.size w Wa := by rw [hWa]; exact below_alloc _ _
 have hbx : Wa.heap[w.heap.size]? = some (.cells #[.int .i64 0, .int .i64 0, str [], .slice none 0 0, .slice none 0 0] 72 (0, 0)) := by rw [hWa]; exact heap_alloc_new w _
 have hmz : Wa.heap.size = w.heap.size + 1 := by rw [hWa]; simp
 have CN := Lib.hid (next_any t b p o Wa (h.below hba) hp (by omega))
 have HA := Lib.hid (And.intro (JSt.below (JSt.refl h) hba) (And.intro hbx hmz))
 obtain ⟨e1, e2, hlt⟩ := nx_some hx
 rw [e1, e2] at CN
 obtain ⟨q, hq⟩ : ∃ q, q = skp t p := ⟨_, rfl⟩
 rw [← hq] at CN hlt
 rw [← hq]
 have CD := Lib.hid (jdigit_any c)
 rw [hdg] at CD
 have n1 : ((o : Int) == 64) = false := by rw [beq_eq_false_iff_ne]; omega
 have n91 : ((c.toNat : Int) == 91) = false := by rw [beq_eq_false_iff_ne]; intro h; exact hn91 (UInt8.toNat_inj.1 (by have : (91 : UInt8).toNat = 91 := rfl; omega))
 have n123 : ((c.toNat : Int) == 123) = false := by rw [beq_eq_false_iff_ne]; intro h; exact hn123 (UInt8.toNat_inj.1 (by have : (123 : UInt8).toNat = 123 := rfl; omega))
 have n34 : ((c.toNat : Int) == 34) = false := by rw [beq_eq_false_iff_ne]; intro h; exact hn34 (UInt8.toNat_inj.1 (by have : (34 : UInt8).toNat = 34 := rfl; omega))
 have n45 : ((c.toNat : Int) == 45) = false := by rw [beq_eq_false_iff_ne]; intro h; exact hn45 (UInt8.toNat_inj.1 (by have : (45 : UInt8).toNat = 45 := rfl; omega))
 have n116 : ((c.toNat : Int) == 116) = false := by rw [beq_eq_false_iff_ne]; intro h; exact hn116 (UInt8.toNat_inj.1 (by have : (116 : UInt8).toNat = 116 := rfl; omega))
 have n102 : ((c.toNat : Int) == 102) = true := by rw [hc]; rfl
 clear hn91
 clear hn123
 clear hn34
 clear hn45
 clear hn116
 clear hc hdg
 clear hbx hmz h e1 e2 hx hq hba
 go_enter Tryz.func73, Tryz.ntmps73
 go_wp2_with fail
 rw [← hWa]
 refine CN.out.mono ?_
 rintro e w1 ⟨rfl, h1⟩
 have H1 : Hid (JSt w b t q o w1 ∧ w1.heap[w.heap.size]? = some (.cells #[.int .i64 0, .int .i64 0, str [], .slice none 0 0, .slice none 0 0] 72 (0, 0)) ∧ w.heap.size < w1.heap.size) := Lib.hid ⟨HA.out.1.trans h1, box_frm HA.out.2.1 h1.2 (by omega), by have := HA.out.2.2; have := h1.2.size; omega⟩
 have c2 := h1.1.c2
 clear h1 CN HA hWa
 have CT := Lib.hid (word_any t [102, 97, 108, 115, 101] b q o w1 H1.out.1.1 (by omega) (by omega) (by decide))
 obtain ⟨z, hz⟩ : ∃ z, z = wrdP t [102, 97, 108, 115, 101] q := ⟨_, rfl⟩
 unfold WrdJ at CT
 rw [← hz] at CT
 have HZ := Lib.hid hz
 clear hz
 go_wp2_with (first | (go_at_call 100; refine (CD.out _).mono ?_; rintro e w' ⟨rfl, rfl⟩) | fail)
 refine CT.out.mono ?_
 intro e w2 h2
 obtain ⟨rfl, hz0, q', o', hs2⟩ := h2
 have H2 : Hid (w2.heap[w.heap.size]? = some (.cells #[.int .i64 0, .int .i64 0, str [], .slice none 0 0, .slice none 0 0] 72 (0, 0)) ∧ (z = 0 → JSt w b t (q + 5) o w2 ∧ q + 5 ≤ t.length) ∧ JSt w b t q' o' w2) := Lib.hid ⟨box_frm H1.out.2.1 hs2.2 (by omega), fun h => ⟨H1.out.1.trans (hz0 h).1, (hz0 h).2⟩, H1.out.1.trans hs2⟩
 clear hs2 hz0 CT c2 H1
 have hbx1 := H2.out.1
 obtain ⟨d0, d1, d2, d3, d4⟩ := box5 hbx1
 have df := box_fr hbx1
 clear hbx1
 go_wp2_with fail
 refine bodyPost_any_world (fun X => X.heap[w.heap.size]? = some (.cells #[.int .i64 2, .int .i64 0, str [], .slice none 0 0, .slice none 0 0] 72 (0, 0)) ∧ Frm (fun i => i = w.heap.size) _ X) (five_set H2.out.1 _ _ _ _ _) ?_
 clear d0 d1 d2 d3 d4 df
 rintro w9 ⟨h9, hf9⟩
 obtain ⟨k0, k1, k2, k3, k4⟩ := box5 h9
 refine bodyPost_ret (v := .tuple #[.agg #[.int .i64 2, .int .i64 0, str [], .slice none 0 0, .slice none 0 0], .int .i64 (z : Int)]) (by simp [results, Tryz.results73, go_sem, k0, k1, k2, k3, k4]) rfl ?_
 unfold wrdV
 rw [← HZ.out]
 by_cases hz : z = 0
 · obtain ⟨hj, hq2⟩ := H2.out.2.1 hz
   rw [if_pos hz, hz]
   exact ⟨_, rfl, plainJ _ _ _ _ _, JSt.grow hj hf9 (fun i e => by omega), hq2⟩
 rw [if_neg hz]
 exact ⟨.mk 2 0 [] [] [], _, rfl, hz, plainJ _ _ _ _ _, _, _, JSt.grow H2.out.2.2 hf9 (fun i e => by omega)⟩
theorem value_null (t : List UInt8) (b p o : Nat) (c : UInt8) (w : World) (h : JRb w b t p o) (hp : p ≤ t.length) (hl : t.length ≤ 20000) (hx : t[skp t p]? = some c) (ho : o < 64) (hn91 : c ≠ 91) (hn123 : c ≠ 123) (hn34 : c ≠ 34) (hn45 : c ≠ 45) (hn116 : c ≠ 116) (hn102 : c ≠ 102) (hc : c = 110) (hdg : dgJ c = false) :
 Calls Tryz.prog 73 #[.pointer (some ⟨b, 0, none⟩)] w (ValJ t w b o (wrdV t [110, 117, 108, 108] 1 4 (skp t p))) := by
 have hb := h.lt
 obtain ⟨Wa, hWa⟩ : ∃ Wa, Wa = w.alloc (.cells #[.int .i64 0, .int .i64 0, .string ⟨#[]⟩, .slice none 0 0, .slice none 0 0] 72) := ⟨_, rfl⟩
 have hba : Below w.heap.size w Wa := by rw [hWa]; exact below_alloc _ _
 have hbx : Wa.heap[w.heap.size]? = some (.cells #[.int .i64 0, .int .i64 0, str [], .slice none 0 0, .slice none 0 0] 72 (0, 0)) := by rw [hWa]; exact heap_alloc_new w _
 have hmz : Wa.heap.size = w.heap.size + 1 := by rw [hWa]; simp
 have CN := Lib.hid (next_any t b p o Wa (h.below hba) hp (by omega))
 have HA := Lib.hid (And.intro (JSt.below (JSt.refl h) hba) (And.intro hbx hmz))
 obtain ⟨e1, e2, hlt⟩ := nx_some hx
 rw [e1, e2] at CN
 obtain ⟨q, hq⟩ : ∃ q, q = skp t p := ⟨_, rfl⟩
 rw [← hq] at CN hlt
 rw [← hq]
 have CD := Lib.hid (jdigit_any c)
 rw [hdg] at CD
 have n1 : ((o : Int) == 64) = false := by rw [beq_eq_false_iff_ne]; omega
 have n91 : ((c.toNat : Int) == 91) = false := by rw [beq_eq_false_iff_ne]; intro h; exact hn91 (UInt8.toNat_inj.1 (by have : (91 : UInt8).toNat = 91 := rfl; omega))
 have n123 : ((c.toNat : Int) == 123) = false := by rw [beq_eq_false_iff_ne]; intro h; exact hn123 (UInt8.toNat_inj.1 (by have : (123 : UInt8).toNat = 123 := rfl; omega))
 have n34 : ((c.toNat : Int) == 34) = false := by rw [beq_eq_false_iff_ne]; intro h; exact hn34 (UInt8.toNat_inj.1 (by have : (34 : UInt8).toNat = 34 := rfl; omega))
 have n45 : ((c.toNat : Int) == 45) = false := by rw [beq_eq_false_iff_ne]; intro h; exact hn45 (UInt8.toNat_inj.1 (by have : (45 : UInt8).toNat = 45 := rfl; omega))
 have n116 : ((c.toNat : Int) == 116) = false := by rw [beq_eq_false_iff_ne]; intro h; exact hn116 (UInt8.toNat_inj.1 (by have : (116 : UInt8).toNat = 116 := rfl; omega))
 have n102 : ((c.toNat : Int) == 102) = false := by rw [beq_eq_false_iff_ne]; intro h; exact hn102 (UInt8.toNat_inj.1 (by have : (102 : UInt8).toNat = 102 := rfl; omega))
 have n110 : ((c.toNat : Int) == 110) = true := by rw [hc]; rfl
 clear hn91
 clear hn123
 clear hn34
 clear hn45
 clear hn116
 clear hn102
 clear hc hdg
 clear hbx hmz h e1 e2 hx hq hba
 go_enter Tryz.func73, Tryz.ntmps73
 go_wp2_with fail
 rw [← hWa]
 refine CN.out.mono ?_
 rintro e w1 ⟨rfl, h1⟩
 have H1 : Hid (JSt w b t q o w1 ∧ w1.heap[w.heap.size]? = some (.cells #[.int .i64 0, .int .i64 0, str [], .slice none 0 0, .slice none 0 0] 72 (0, 0)) ∧ w.heap.size < w1.heap.size) := Lib.hid ⟨HA.out.1.trans h1, box_frm HA.out.2.1 h1.2 (by omega), by have := HA.out.2.2; have := h1.2.size; omega⟩
 have c2 := h1.1.c2
 clear h1 CN HA hWa
 have CT := Lib.hid (word_any t [110, 117, 108, 108] b q o w1 H1.out.1.1 (by omega) (by omega) (by decide))
 obtain ⟨z, hz⟩ : ∃ z, z = wrdP t [110, 117, 108, 108] q := ⟨_, rfl⟩
 unfold WrdJ at CT
 rw [← hz] at CT
 have HZ := Lib.hid hz
 clear hz
 go_wp2_with (first | (go_at_call 100; refine (CD.out _).mono ?_; rintro e w' ⟨rfl, rfl⟩) | fail)
 refine CT.out.mono ?_
 intro e w2 h2
 obtain ⟨rfl, hz0, q', o', hs2⟩ := h2
 have H2 : Hid (w2.heap[w.heap.size]? = some (.cells #[.int .i64 0, .int .i64 0, str [], .slice none 0 0, .slice none 0 0] 72 (0, 0)) ∧ (z = 0 → JSt w b t (q + 4) o w2 ∧ q + 4 ≤ t.length) ∧ JSt w b t q' o' w2) := Lib.hid ⟨box_frm H1.out.2.1 hs2.2 (by omega), fun h => ⟨H1.out.1.trans (hz0 h).1, (hz0 h).2⟩, H1.out.1.trans hs2⟩
 clear hs2 hz0 CT c2 H1
 have hbx1 := H2.out.1
 obtain ⟨d0, d1, d2, d3, d4⟩ := box5 hbx1
 have df := box_fr hbx1
 clear hbx1
 go_wp2_with fail
 refine bodyPost_any_world (fun X => X.heap[w.heap.size]? = some (.cells #[.int .i64 1, .int .i64 0, str [], .slice none 0 0, .slice none 0 0] 72 (0, 0)) ∧ Frm (fun i => i = w.heap.size) _ X) (five_set H2.out.1 _ _ _ _ _) ?_
 clear d0 d1 d2 d3 d4 df
 rintro w9 ⟨h9, hf9⟩
 obtain ⟨k0, k1, k2, k3, k4⟩ := box5 h9
 refine bodyPost_ret (v := .tuple #[.agg #[.int .i64 1, .int .i64 0, str [], .slice none 0 0, .slice none 0 0], .int .i64 (z : Int)]) (by simp [results, Tryz.results73, go_sem, k0, k1, k2, k3, k4]) rfl ?_
 unfold wrdV
 rw [← HZ.out]
 by_cases hz : z = 0
 · obtain ⟨hj, hq2⟩ := H2.out.2.1 hz
   rw [if_pos hz, hz]
   exact ⟨_, rfl, plainJ _ _ _ _ _, JSt.grow hj hf9 (fun i e => by omega), hq2⟩
 rw [if_neg hz]
 exact ⟨.mk 1 0 [] [] [], _, rfl, hz, plainJ _ _ _ _ _, _, _, JSt.grow H2.out.2.2 hf9 (fun i e => by omega)⟩
theorem value_other (t : List UInt8) (b p o : Nat) (c : UInt8) (w : World) (h : JRb w b t p o) (hp : p ≤ t.length) (hl : t.length ≤ 20000) (hx : t[skp t p]? = some c) (ho : o < 64) (hn91 : c ≠ 91) (hn123 : c ≠ 123) (hn34 : c ≠ 34) (hn45 : c ≠ 45) (hn116 : c ≠ 116) (hn102 : c ≠ 102) (hn110 : c ≠ 110) (hdg : dgJ c = false) :
 Calls Tryz.prog 73 #[.pointer (some ⟨b, 0, none⟩)] w (ValJ t w b o (.err 4)) := by
 have hb := h.lt
 obtain ⟨Wa, hWa⟩ : ∃ Wa, Wa = w.alloc (.cells #[.int .i64 0, .int .i64 0, .string ⟨#[]⟩, .slice none 0 0, .slice none 0 0] 72) := ⟨_, rfl⟩
 have hba : Below w.heap.size w Wa := by rw [hWa]; exact below_alloc _ _
 have hbx : Wa.heap[w.heap.size]? = some (.cells #[.int .i64 0, .int .i64 0, str [], .slice none 0 0, .slice none 0 0] 72 (0, 0)) := by rw [hWa]; exact heap_alloc_new w _
 have hmz : Wa.heap.size = w.heap.size + 1 := by rw [hWa]; simp
 have CN := Lib.hid (next_any t b p o Wa (h.below hba) hp (by omega))
 have HA := Lib.hid (And.intro (JSt.below (JSt.refl h) hba) (And.intro hbx hmz))
 obtain ⟨e1, e2, hlt⟩ := nx_some hx
 rw [e1, e2] at CN
 obtain ⟨q, hq⟩ : ∃ q, q = skp t p := ⟨_, rfl⟩
 rw [← hq] at CN hlt
 have CD := Lib.hid (jdigit_any c)
 rw [hdg] at CD
 have n1 : ((o : Int) == 64) = false := by rw [beq_eq_false_iff_ne]; omega
 have n91 : ((c.toNat : Int) == 91) = false := by rw [beq_eq_false_iff_ne]; intro h; exact hn91 (UInt8.toNat_inj.1 (by have : (91 : UInt8).toNat = 91 := rfl; omega))
 have n123 : ((c.toNat : Int) == 123) = false := by rw [beq_eq_false_iff_ne]; intro h; exact hn123 (UInt8.toNat_inj.1 (by have : (123 : UInt8).toNat = 123 := rfl; omega))
 have n34 : ((c.toNat : Int) == 34) = false := by rw [beq_eq_false_iff_ne]; intro h; exact hn34 (UInt8.toNat_inj.1 (by have : (34 : UInt8).toNat = 34 := rfl; omega))
 have n45 : ((c.toNat : Int) == 45) = false := by rw [beq_eq_false_iff_ne]; intro h; exact hn45 (UInt8.toNat_inj.1 (by have : (45 : UInt8).toNat = 45 := rfl; omega))
 have n116 : ((c.toNat : Int) == 116) = false := by rw [beq_eq_false_iff_ne]; intro h; exact hn116 (UInt8.toNat_inj.1 (by have : (116 : UInt8).toNat = 116 := rfl; omega))
 have n102 : ((c.toNat : Int) == 102) = false := by rw [beq_eq_false_iff_ne]; intro h; exact hn102 (UInt8.toNat_inj.1 (by have : (102 : UInt8).toNat = 102 := rfl; omega))
 have n110 : ((c.toNat : Int) == 110) = false := by rw [beq_eq_false_iff_ne]; intro h; exact hn110 (UInt8.toNat_inj.1 (by have : (110 : UInt8).toNat = 110 := rfl; omega))
 clear hn91
 clear hn123
 clear hn34
 clear hn45
 clear hn116
 clear hn102
 clear hn110
 clear hdg
 clear hbx hmz h e1 e2 hx hq hba
 go_enter Tryz.func73, Tryz.ntmps73
 go_wp2_with fail
 rw [← hWa]
 refine CN.out.mono ?_
 rintro e w1 ⟨rfl, h1⟩
 have H1 : Hid (JSt w b t q o w1 ∧ w1.heap[w.heap.size]? = some (.cells #[.int .i64 0, .int .i64 0, str [], .slice none 0 0, .slice none 0 0] 72 (0, 0)) ∧ w.heap.size < w1.heap.size) := Lib.hid ⟨HA.out.1.trans h1, box_frm HA.out.2.1 h1.2 (by omega), by have := HA.out.2.2; have := h1.2.size; omega⟩
 have c2 := h1.1.c2
 clear h1 CN HA hWa
 have hbx1 := H1.out.2.1
 obtain ⟨d0, d1, d2, d3, d4⟩ := box5 hbx1
 have df := box_fr hbx1
 clear hbx1
 go_wp2_with (go_at_call 100; refine (CD.out _).mono ?_; rintro e w' ⟨rfl, rfl⟩)
 refine bodyPost_any_world (fun X => X.heap[w.heap.size]? = some (.cells #[.int .i64 0, .int .i64 0, str [], .slice none 0 0, .slice none 0 0] 72 (0, 0)) ∧ Frm (fun i => i = w.heap.size) _ X) (five_set H1.out.2.1 _ _ _ _ _) ?_
 clear d0 d1 d2 d3 d4 df
 rintro w9 ⟨h9, hf9⟩
 obtain ⟨k0, k1, k2, k3, k4⟩ := box5 h9
 refine bodyPost_ret (v := .tuple #[.agg #[.int .i64 0, .int .i64 0, str [], .slice none 0 0, .slice none 0 0], .int .i64 4]) (by simp [results, Tryz.results73, go_sem, k0, k1, k2, k3, k4]) rfl ?_
 exact ⟨.mk 0 0 [] [] [], _, rfl, by decide, plainJ _ _ _ _ _, _, _, JSt.grow H1.out.1 hf9 (fun i e => by omega)⟩
theorem value_step (t : List UInt8) (b p o : Nat) (c : UInt8) (lst : Nat → JR (List JV)) (obj : Nat → JR (List MemT)) (w : World) (h : JRb w b t p o) (hp : p ≤ t.length) (hl : t.length ≤ 20000) (hx : t[skp t p]? = some c) (ho : o < 64)
 (CL : ∀ W, JRb W b t (skp t p) o → Calls Tryz.prog 97 #[.pointer (some ⟨b, 0, none⟩)] W (ValJ t W b o (lstV (lst (skp t p)))))
 (CO : ∀ W, JRb W b t (skp t p) o → Calls Tryz.prog 98 #[.pointer (some ⟨b, 0, none⟩)] W (ValJ t W b o (objV (obj (skp t p))))) :
 Calls Tryz.prog 73 #[.pointer (some ⟨b, 0, none⟩)] w (ValJ t w b o (casP lst obj t c (skp t p))) := by
 unfold casP
 by_cases h91 : c = 91
 · rw [if_pos h91]
   exact value_list t b p o c _ w h hp hl hx ho h91 CL
 rw [if_neg h91]
 by_cases h123 : c = 123
 · rw [if_pos h123]
   exact value_object t b p o c _ w h hp hl hx ho h91 h123 CO
 rw [if_neg h123]
 by_cases h34 : c = 34
 · rw [if_pos h34]
   exact value_text t b p o c w h hp hl hx ho h91 h123 h34
 rw [if_neg h34]
 by_cases hn : c = 45 ∨ dgJ c = true
 · rw [if_pos hn]
   exact value_number t b p o c w h hp hl hx ho h91 h123 h34 hn
 rw [if_neg hn]
 have h45 : c ≠ 45 := fun e => hn (.inl e)
 have hd : dgJ c = false := by
  cases hd : dgJ c with
  | false => rfl
  | true => exact absurd (.inr hd) hn
 by_cases h116 : c = 116
 · rw [if_pos h116]
   exact value_true t b p o c w h hp hl hx ho h91 h123 h34 h45 h116 hd
 rw [if_neg h116]
 by_cases h102 : c = 102
 · rw [if_pos h102]
   exact value_false t b p o c w h hp hl hx ho h91 h123 h34 h45 h116 h102 hd
 rw [if_neg h102]
 by_cases h110 : c = 110
 · rw [if_pos h110]
   exact value_null t b p o c w h hp hl hx ho h91 h123 h34 h45 h116 h102 h110 hd
 rw [if_neg h110]
 exact value_other t b p o c w h hp hl hx ho h91 h123 h34 h45 h116 h102 h110 hd
theorem value_any (t : List UInt8) (b : Nat) (hl : t.length ≤ 20000) : ∀ (d p o : Nat) (w : World), JRb w b t p o → p ≤ t.length → o + d = 64 → Calls Tryz.prog 73 #[.pointer (some ⟨b, 0, none⟩)] w (ValJ t w b o (valP t d p))
 | 0, p, o, w, h, hp, ho => by
   rw [valP]
   cases hx : t[skp t p]? with
   | none => exact value_none t b p o w h hp hl hx
   | some c => exact value_deep t b p o c w h hp hl hx (by omega)
 | d + 1, p, o, w, h, hp, ho => by
   rw [valP]
   cases hx : t[skp t p]? with
   | none => exact value_none t b p o w h hp hl hx
   | some c =>
    have hlt := (List.getElem?_eq_some_iff.1 hx).1
    refine value_step t b p o c (lstP (valP t d) t) (objP (valP t d) t) w h hp hl hx (by omega) (fun W hW => ?_) (fun W hW => ?_)
    · exact list_any t b _ o W (valP t d) (fun W q hr hq => value_any t b hl d q (o + 1) W hr hq (by omega)) (fun q v q1 e => valP_ge t d q v q1 e) hW hlt (by omega) (by omega)
    exact object_any t b _ o W (valP t d) (fun W q hr hq => value_any t b hl d q (o + 1) W hr hq (by omega)) (fun q v q1 e => valP_ge t d q v q1 e) hW hlt (by omega) (by omega)
end Go.Proofs.YtegblhmcfemfgaaGreatDoor
